/- slices.Backward over entries; the last entry that is not above a key, in whatever order. -/
import Derived.Test.YthpilennljpamaaGreatPgTl
import Derived.Test.YthpilennljpamaaGreatPgFd
namespace Go.Proofs.YthpilennljpamaaGreat
open Go.RowKit Go.Shelf Go.Sort
attribute [local go_sem] Oper.semAt_some
set_option linter.unusedVariables false
set_option maxRecDepth 100000

/-- Entries with their places, from the last to the first. -/
def Pg.bw (l : List En) : List (Nat × En) := (List.range l.length).map fun i => (l.length - 1 - i, (l[l.length - 1 - i]?).getD En.zero)

theorem Pg.bw_len (l : List En) : (Pg.bw l).length = l.length := by simp [Pg.bw]

theorem Pg.bw_at {l : List En} {k : Nat} {x : En} (hk : k < l.length) (hx : l[k]? = some x) : (Pg.bw l)[l.length - 1 - k]? = some (k, x) := by
  have h1 : l.length - 1 - k < l.length := by omega
  simp only [Pg.bw, List.getElem?_map, List.getElem?_range h1, Option.map_some]
  rw [show l.length - 1 - (l.length - 1 - k) = k by omega, hx]
  rfl

theorem Pg.bw_pre {l : List En} {pre : List (Nat × En)} {i : Nat} {x : En} (h : pre ++ [(i, x)] <+: Pg.bw l) : l[i]? = some x ∧ ∀ j y, i < j → l[j]? = some y → (j, y) ∈ pre := by
  obtain ⟨t, ht⟩ := h
  have hn : pre.length < l.length := by rw [← Pg.bw_len, ← ht]; simp
  have h0 : (Pg.bw l)[pre.length]? = some (i, x) := by rw [← ht]; simp
  have hx0 : l[l.length - 1 - pre.length]? = some l[l.length - 1 - pre.length] := List.getElem?_eq_getElem (by omega)
  have h1 := Pg.bw_at (k := l.length - 1 - pre.length) (by omega) hx0
  rw [show l.length - 1 - (l.length - 1 - pre.length) = pre.length by omega, h0] at h1
  simp only [Option.some.injEq, Prod.mk.injEq] at h1
  obtain ⟨rfl, rfl⟩ := h1
  refine ⟨hx0, fun j y hj hy => ?_⟩
  have hjl := (List.getElem?_eq_some_iff.1 hy).1
  have h2 := Pg.bw_at hjl hy
  have h3 : l.length - 1 - j < pre.length := by omega
  rw [← ht, List.append_assoc, List.getElem?_append_left h3] at h2
  exact List.mem_of_getElem? h2

theorem Pg.bw_all {l : List En} {j : Nat} {y : En} (hy : l[j]? = some y) : (j, y) ∈ Pg.bw l :=
  List.mem_of_getElem? (Pg.bw_at (List.getElem?_eq_some_iff.1 hy).1 hy)

abbrev encB (x : Nat × En) : Array Value := #[.int .i64 (x.1 : Int), x.2.val]

set_option maxHeartbeats 2000000 in
theorem back1_in (n : Nat) (hn : 1 ≤ n) (l b : Nat) (S : List Nat) (L : List En) (J Jx : List (Nat × En) → World → Prop)
    (hY : ∀ pre x W, J pre W → pre.length < (Pg.bw L).length → YieldAt Fence.wide (n - 1) Tryz.prog l (encB x) W fun r W' =>
      (r = .returned (.bool true) ∧ J (pre ++ [x]) W' ∧ KpP S W W') ∨ (r = .returned (.bool false) ∧ Jx (pre ++ [x]) W'))
    (W : World) (hL : Fm W b S L) (h0 : J [] W) :
    CallsIn Fence.wide n Tryz.prog 142 #[.func (.yield l) #[] #[], .pointer (some ⟨b, 0, none⟩)] W fun r W' => (∃ v, r = .returned v) ∧
      ((∃ ys, ys = Pg.bw L ∧ J ys W') ∨ (∃ pre, pre <+: Pg.bw L ∧ Jx pre W')) := by
  refine callsIn_of_wp Tryz.func142 rfl trivial ?_ rfl
  simp only [Tryz.ntmps142, List.size_toArray, List.length_cons, List.length_nil, Nat.reduceAdd, Nat.reduceSub, Array.replicate_succ, Array.replicate_zero, List.push_toArray, List.append_toArray, List.nil_append, List.cons_append]
  obtain ⟨p, c, k1, r1, s1⟩ := hL.ex
  obtain ⟨len, hlen⟩ : ∃ len, L.length = len := ⟨_, rfl⟩
  have hreach := hL.reach
  have HR : Hid (∀ W', KpP S W W' → ∀ j x, L[j]? = some x → ∃ g o, p = some ⟨g, o, none⟩ ∧ W'.cell? ⟨g, o + j * 4, none⟩ = some (.string x.key) ∧ W'.cell? ⟨g, o + j * 4 + 1, none⟩ = some (.int .i64 x.s) ∧ W'.cell? ⟨g, o + j * 4 + 2, none⟩ = some (.int .i64 x.g) ∧ W'.cell? ⟨g, o + j * 4 + 3, none⟩ = some (.int .i64 x.c)) := fun W' hk j x hx => by
    have hj : j < L.length := (List.getElem?_eq_some_iff.1 hx).1
    obtain ⟨g, o, e, rfl, he, -, h⟩ := (r1.kp hk (s1 (by omega))).at hj
    rw [hx] at he
    cases he
    exact ⟨g, o, rfl, h⟩
  rw [Pg.bw_len, hlen] at hY
  rw [hlen] at hreach k1
  have HL : Hid (L.length = len) := hlen
  have HY : Hid _ := hY
  have HBX : Hid (∀ W', KpP S W W' → W'.cell? ⟨b, 0, none⟩ = some (.slice p len c)) := fun W' hk => (hk.bk k1 hL.h1).cell 0
  have hbx := HBX.out W (KpP.refl _ _)
  clear hlen hY hL k1 r1 s1
  gi_wp2
  gi_loopw [3] (fun i wr => ∃ k : Nat, k ≤ len ∧ i = .int .i64 ((k : Int) - 1) ∧ J ((Pg.bw L).take (len - k)) wr ∧ KpP S W wr) (fun i _ => (intOf i + 1).toNat)
  case atStart => exact ⟨len, Nat.le_refl _, by go_num, by simpa using h0, KpP.refl _ _⟩
  case round =>
    obtain ⟨k', hk, rfl, hJs, hK⟩ := hrel
    cases k' with
    | succ k =>
      rw [show ((k + 1 : Nat) : Int) - 1 = (k : Int) by omega]
      have hkL : k < L.length := by rw [HL.out]; omega
      obtain ⟨x, hx⟩ : ∃ x, L[k]? = some x := ⟨_, List.getElem?_eq_getElem hkL⟩
      have hli : (k : Int) < (len : Int) := by omega
      have hk0 : (0 : Int) ≤ (k : Int) := by omega
      have hb0 := HBX.out wr hK
      obtain ⟨g, o, rfl, z0, z1, z2, z3⟩ := HR.out wr hK k x hx
      have hbw := Pg.bw_at hkL hx
      rw [HL.out, show len - 1 - k = len - (k + 1) by omega] at hbw
      have HT : Hid ((Pg.bw L).take (len - k) = (Pg.bw L).take (len - (k + 1)) ++ [(k, x)]) := by
        rw [Hid, show len - k = len - (k + 1) + 1 by omega]
        exact take_snoc hbw
      obtain ⟨fn, tmps, assign, body, hy, hR⟩ := HY.out ((Pg.bw L).take (len - (k + 1))) (k, x) wr hJs (by rw [List.length_take]; omega)
      simp only [encB, En.val] at hy
      clear hx hbw
      gi_wp2
      refine hR.mono ?_
      rintro e W4 (⟨rfl, hJ4, hk4⟩ | ⟨rfl, hJx4⟩)
      · gi_wp2
        go_roundw
        case rel => exact ⟨k, by omega, by go_num, by rw [HT.out]; exact hJ4, hK.t hk4⟩
        case measure => simp [intOf]
      · gi_wp2
        refine bodyPost_ret (results_none rfl _ _ _) rfl ?_
        exact ⟨⟨_, rfl⟩, .inr ⟨_, by rw [← HT.out]; exact List.take_prefix _ _, hJx4⟩⟩
    | zero =>
      rw [show ((0 : Nat) : Int) - 1 = -1 by omega]
      gi_wp2
      go_end0
      refine ⟨⟨_, rfl⟩, .inl ⟨_, rfl, ?_⟩⟩
      rw [List.take_of_length_le (by rw [Pg.bw_len, HL.out]; exact Nat.le_refl _)] at hJs
      exact hJs

theorem back1_stops (n : Nat) (hn : 1 ≤ n) {w : World} {b : Nat} {S : List Nat} {L : List En} (hL : Fm w b S L) :
    SeqStopsK Fence.wide n Tryz.prog 142 #[.pointer (some ⟨b, 0, none⟩)] encB (KpP S) (fun ys => ys = Pg.bw L) (fun pre => pre <+: Pg.bw L) (Pg.bw L).length w := fun l J Jx W hW hJ _ hY h0 =>
  back1_in n hn l b S L J Jx hY W (hL.kp (KpP.of_below hW hL.lt)) h0

theorem back_any (p : Option Addr) (len cap : Nat) (w : World) :
    Calls Tryz.prog 122 #[.slice p len cap] w fun e w' => e = .returned (.func (.func 142) #[] #[.pointer (some ⟨w.heap.size, 0, none⟩)]) ∧ w' = w.alloc (.cells #[.slice p len cap] 22) := by
  go_enter Tryz.func122, Tryz.ntmps122
  go_wp2
  go_ret
  exact ⟨rfl, rfl⟩

end Go.Proofs.YthpilennljpamaaGreat
