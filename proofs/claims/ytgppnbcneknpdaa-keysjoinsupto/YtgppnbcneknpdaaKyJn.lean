/- The document's Hits; how the document's Union puts ranges in order. -/
import Derived.Test.YtgppnbcneknpdaaKyOne
import Derived.Test.YtgppnbcneknpdaaKyCr
namespace Go.Proofs.Ytgppnbcneknpdaa
open Go.RowKit Go.Sort
set_option linter.unusedVariables false
set_option maxRecDepth 100000

/-- How many at the front begin not behind a range. -/
def Ky.lead (x : Rg) (l : List Rg) : Nat := l.findIdx fun y => Ky.lt x.lo y.lo

/-- A range among others, behind those that begin not behind it. -/
def Ky.ins (l : List Rg) (x : Rg) : List Rg := l.take (Ky.lead x l) ++ x :: l.drop (Ky.lead x l)

/-- Those that are not empty, put in one after another. -/
def Ky.puts (l : List Rg) : List Rg := (Ky.full l).foldl Ky.ins []

theorem Ky.ins_perm (l : List Rg) (x : Rg) : (Ky.ins l x).Perm (l ++ [x]) := by
  unfold Ky.ins
  have h : (l.take (Ky.lead x l) ++ x :: l.drop (Ky.lead x l)).Perm (x :: (l.take (Ky.lead x l) ++ l.drop (Ky.lead x l))) := List.perm_middle
  rw [List.take_append_drop] at h
  exact h.trans (List.perm_append_comm (l₁ := [x]) (l₂ := l))

theorem Ky.ins_pair {l : List Rg} (h : l.Pairwise fun x y => Ky.lt y.lo x.lo = false) (x : Rg) : (Ky.ins l x).Pairwise fun x y => Ky.lt y.lo x.lo = false := by
  unfold Ky.ins
  have hd : ∀ y ∈ l.take (Ky.lead x l), Ky.lt x.lo y.lo = false := fun y hy => by
    obtain ⟨i, hi, rfl⟩ := List.getElem_of_mem hy
    rw [List.getElem_take]
    have hi' : i < Ky.lead x l := by rw [List.length_take] at hi; omega
    have := List.not_of_lt_findIdx (p := fun y : Rg => Ky.lt x.lo y.lo) (xs := l) hi'
    simpa using this
  have hr : ∀ y ∈ l.drop (Ky.lead x l), Ky.lt y.lo x.lo = false := fun y hy => by
    obtain ⟨i, hi, rfl⟩ := List.getElem_of_mem hy
    rw [List.length_drop] at hi
    rw [List.getElem_drop]
    have hl : Ky.lead x l < l.length := by omega
    have h1 : Ky.lt x.lo (l[Ky.lead x l]).lo = true := List.findIdx_getElem (p := fun y : Rg => Ky.lt x.lo y.lo) (xs := l) (w := hl)
    have h2 : Ky.lt (l[Ky.lead x l + i]).lo (l[Ky.lead x l]).lo = false := by
      rcases Nat.eq_zero_or_pos i with rfl | hp
      · exact Ky.lt_irrefl _
      · exact (List.pairwise_iff_getElem.1 h) _ _ hl (by omega) (by omega)
    cases e : Ky.lt (l[Ky.lead x l + i]).lo x.lo with
    | false => rfl
    | true =>
      rw [Ky.lt_trans e h1] at h2
      cases h2
  rw [List.pairwise_append]
  have hb : (l.take (Ky.lead x l) ++ l.drop (Ky.lead x l)).Pairwise fun x y => Ky.lt y.lo x.lo = false := by rw [List.take_append_drop]; exact h
  rw [List.pairwise_append] at hb
  refine ⟨hb.1, List.pairwise_cons.2 ⟨hr, hb.2.1⟩, fun a ha b hb' => ?_⟩
  rcases List.mem_cons.1 hb' with rfl | hb'
  · exact hd a ha
  · exact hb.2.2 a ha b hb'

theorem Ky.fold_ins : ∀ (r l : List Rg), l.Pairwise (fun x y => Ky.lt y.lo x.lo = false) → (r.foldl Ky.ins l).Pairwise (fun x y => Ky.lt y.lo x.lo = false) ∧ (r.foldl Ky.ins l).Perm (l ++ r)
  | [], l, h => ⟨h, by simp⟩
  | x :: r, l, h => by
    obtain ⟨h1, h2⟩ := Ky.fold_ins r (Ky.ins l x) (Ky.ins_pair h x)
    refine ⟨h1, h2.trans ?_⟩
    have := (Ky.ins_perm l x).append_right r
    rw [List.append_assoc] at this
    exact this

theorem Ky.puts_perm (l : List Rg) : (Ky.puts l).Perm (Ky.full l) := by
  have := (Ky.fold_ins (Ky.full l) [] List.Pairwise.nil).2
  simpa [Ky.puts] using this

theorem Ky.puts_sorted (l : List Rg) : Ky.Sorted (Ky.puts l) := by
  have h := (Ky.fold_ins (Ky.full l) [] List.Pairwise.nil).1
  intro i j x y hij hx hy
  obtain ⟨hi, rfl⟩ := List.getElem?_eq_some_iff.1 hx
  obtain ⟨hj, rfl⟩ := List.getElem?_eq_some_iff.1 hy
  exact (List.pairwise_iff_getElem.1 h) i j hi hj hij

/-- However the ranges are put in order, the union is the same. -/
theorem Ky.uni_one {l l' l'' : List Rg} (h1 : l'.Perm (Ky.full l)) (s1 : Ky.Sorted l') (h2 : l''.Perm (Ky.full l)) (s2 : Ky.Sorted l'') : Ky.uni l' = Ky.uni l'' := by
  obtain ⟨u1, g1⟩ := Ky.uni_facts h1 s1
  obtain ⟨u2, g2⟩ := Ky.uni_facts h2 s2
  exact Ky.UnP.one _ _ u1.pair u2.pair fun k => (g1 k).trans (g2 k).symm

set_option maxHeartbeats 1000000 in
theorem rhits_any (p : Option Addr) (len cap : Nat) (l : List Rg) (key : ByteArray) (w : World) (hlen : l.length = len) (hx : Rgs w p l) (hl : len ≤ 4611686018427387904) :
    Calls Try.prog 19 #[.slice p len cap, .string key] w fun e w' => e = .returned (.bool (Ky.hits l key)) ∧ Below w.heap.size w w' := by
  have HX : Hid (Rgs w p l) := hx
  have HL : Hid (l.length = len) := hlen
  clear hx hlen
  obtain ⟨v, HV⟩ : ∃ v, Hid (Ky.hits l key = v) := ⟨_, rfl⟩
  rw [HV.out]
  go_enter Try.func19, Try.ntmps19
  go_wp2_with fail
  go_loopw [5] (fun i wr => ∃ k : Nat, k ≤ len ∧ i = .int .i64 k ∧ Hid (Below w.heap.size w wr) ∧ Hid (∀ j x, j < k → l[j]? = some x → Ky.inn x key = false)) (fun i _ => len - (intOf i).toNat)
  case atStart => exact ⟨0, Nat.zero_le _, rfl, Below.refl _ _, fun j x hj => absurd hj (Nat.not_lt_zero _)⟩
  case round =>
    obtain ⟨k, hk, rfl, HW, HA⟩ := hrel
    by_cases hlt : k < len
    · have hli : (k : Int) < (len : Int) := by omega
      have hk0 : (0 : Int) ≤ (k : Int) := by omega
      obtain ⟨b, o, x, rfl, hg, hblt, c0, c1⟩ := (HX.out.below HW.out (Nat.le_refl _)).at (j := k) (by have := HL.out; omega)
      have HG : Hid (l[k]? = some x) := hg
      clear hg
      cases hq : Ky.inn x key with
      | true =>
        have HF : Hid (v = true) := by rw [Hid, ← HV.out]; exact Ky.hits_of (List.mem_of_getElem? HG.out) hq
        go_wp2_with fail
        refine (rin_any x key _).mono ?_
        rw [hq]
        rintro e w1 ⟨rfl, hb1⟩
        have HB : Hid (Below w.heap.size w w1) := HW.out.trans (hb1.mono HW.out.size)
        clear hb1
        go_wp2
        go_ret
        exact ⟨by rw [HF.out]; rfl, HB.out⟩
      | false =>
        have HQ : Hid (Ky.inn x key = false) := hq
        go_wp2_with fail
        refine (rin_any x key _).mono ?_
        rw [hq]
        rintro e w1 ⟨rfl, hb1⟩
        have HB : Hid (Below w.heap.size w w1) := HW.out.trans (hb1.mono HW.out.size)
        clear hb1 hq
        go_wp2
        go_roundw
        case rel =>
          refine ⟨k + 1, by omega, by go_num, HB, fun j y hj hy => ?_⟩
          by_cases e : j = k
          · subst e
            rw [HG.out] at hy
            cases hy
            exact HQ.out
          · exact HA.out j y (by omega) hy
        case measure => simp [intOf]; omega
    · have hkk : k = len := by omega
      have hli : ¬ ((k : Int) < (len : Int)) := by omega
      have HF : Hid (v = false) := by
        rw [Hid, ← HV.out]
        refine Ky.hits_not fun x hx => ?_
        obtain ⟨j, hj, rfl⟩ := List.getElem_of_mem hx
        exact HA.out j _ (by have := HL.out; omega) (List.getElem?_eq_getElem hj)
      go_wp2
      go_ret
      exact ⟨by rw [HF.out]; rfl, HW.out⟩

end Go.Proofs.Ytgppnbcneknpdaa
