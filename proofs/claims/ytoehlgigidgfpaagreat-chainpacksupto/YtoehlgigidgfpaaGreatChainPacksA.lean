/- Chains: find, over a chain that has a base. -/
import Derived.Test.YtoehlgigidgfpaaGreatAgPure
import Derived.Test.YtoehlgigidgfpaaGreatChTy
import Derived.Test.YtoehlgigidgfpaaGreatRgM
import Derived.Test.YtoehlgigidgfpaaGreatPgR
import Derived.Deep.MidRow
import Derived.Test.YtoehlgigidgfpaaGreatAgCnt
import Derived.Test.YtoehlgigidgfpaaGreatAgMem
import Derived.Test.YtoehlgigidgfpaaGreatGnM
import Derived.Test.YtoehlgigidgfpaaGreatApA
import Derived.Test.YtoehlgigidgfpaaGreatPgCr
import Derived.Test.YtoehlgigidgfpaaGreatDlC
import Derived.Deep.WholeRow
import Derived.Test.YtoehlgigidgfpaaGreatRgP
namespace Go.Proofs.YtoehlgigidgfpaaGreat
open Go.RowKit
set_option linter.unusedVariables false
set_option maxRecDepth 100000

section
variable {α : Type} [Inhabited α]

theorem Ar.put_len (v : Ar α) (x : α) : v.us.length ≤ (v.put x).us.length := by
  rw [put_length]
  split <;> omega

/-- A put leaves what is given. -/
theorem put_keeps (v : Ar α) (x : α) {i : Nat} (hi : i < v.us.length) (hg : (slAt v.us i).given = true) : slAt (v.put x).us i = slAt v.us i := by
  unfold Ar.put
  by_cases hl : low v.us < v.us.length
  · rw [if_pos hl]
    show slAt (v.us.set _ _) i = _
    rw [slAt_set _ _ _ _ hl, if_neg]
    intro e
    have := (low_free hl).1
    rw [← e, hg] at this
    cases this
  · rw [if_neg hl]
    exact slAt_left _ _ _ hi

theorem put_new (v : Ar α) (x : α) : slAt (v.put x).us (low v.us) = ⟨v.gen, true, x⟩ ∧ low v.us < (v.put x).us.length := by
  rw [put_length]
  unfold Ar.put Ar.gen
  by_cases hl : low v.us < v.us.length
  · rw [if_pos hl, if_pos hl, if_pos hl]
    refine ⟨?_, hl⟩
    show slAt (v.us.set _ _) _ = _
    rw [slAt_set _ _ _ _ hl, if_pos rfl]
  · rw [if_neg hl, if_neg hl, if_neg hl]
    have e : low v.us = v.us.length := by have := low_le v.us; omega
    refine ⟨?_, by omega⟩
    rw [e]
    exact slAt_last _ _

theorem Ar.Good.put {v : Ar α} {s g : Int} (h : v.Good s g) (x : α) : (v.put x).Good s g := by
  have hi : s.toNat < v.us.length := by have := h.1; have := h.2.1; omega
  have hl := Ar.put_len v x
  refine ⟨h.1, by have := h.2.1; omega, ?_, ?_⟩
  · rw [put_keeps v x hi h.2.2.1]; exact h.2.2.1
  · rw [put_keeps v x hi h.2.2.1]; exact h.2.2.2

theorem put_good (v : Ar α) (x : α) : (v.put x).Good (low v.us : Int) v.gen := by
  obtain ⟨h1, h2⟩ := put_new v x
  refine ⟨by omega, by omega, ?_, ?_⟩
  · rw [Int.toNat_natCast, h1]
  · rw [Int.toNat_natCast, h1]

theorem Ar.Good.set {v : Ar α} {s g : Int} (h : v.Good s g) {i : Nat} (hi : i < v.us.length) (x : α) : (v.set i x).Good s g := by
  refine ⟨h.1, by show s < ((v.us.set i _).length : Int); rw [List.length_set]; exact h.2.1, ?_, ?_⟩
  · show (slAt (v.us.set i _) s.toNat).given = true
    rw [slAt_set _ _ _ _ hi]
    split
    · rename_i e; rw [← e]; exact h.2.2.1
    · exact h.2.2.1
  · show (slAt (v.us.set i _) s.toNat).gen = g
    rw [slAt_set _ _ _ _ hi]
    split
    · rename_i e; rw [← e]; exact h.2.2.2
    · exact h.2.2.2

theorem set_val {v : Ar α} {i j : Nat} (hi : i < v.us.length) (x : α) : (slAt (v.set i x).us j).val = if j = i then x else (slAt v.us j).val := by
  show (slAt (v.us.set i _) j).val = _
  rw [slAt_set _ _ _ _ hi]
  split <;> rfl

theorem set_live {v : Ar α} {i : Nat} (hi : i < v.us.length) (x : α) : live (v.set i x).us = live v.us := live_set_same hi rfl
theorem set_length {v : Ar α} {i : Nat} (x : α) : (v.set i x).us.length = v.us.length := List.length_set

theorem free_other {v : Ar α} {i : Nat} (hi : i < v.us.length) (z : α) {s g : Int} (h : v.Good s g) (hn : s.toNat ≠ i) : (v.free i z).Good s g := by
  refine ⟨h.1, by show s < ((v.us.set i _).length : Int); rw [List.length_set]; exact h.2.1, ?_, ?_⟩
  · show (slAt (v.us.set i _) s.toNat).given = true
    rw [slAt_set _ _ _ _ hi, if_neg hn]; exact h.2.2.1
  · show (slAt (v.us.set i _) s.toNat).gen = g
    rw [slAt_set _ _ _ _ hi, if_neg hn]; exact h.2.2.2
theorem free_live {v : Ar α} {i : Nat} (hi : i < v.us.length) (z : α) (hg : (slAt v.us i).given = true) : live (v.free i z).us + 1 = live v.us := live_set_free hi rfl hg
theorem good_one {v : Ar α} {s s' g g' : Int} (h : v.Good s g) (h' : v.Good s' g') (e : s.toNat = s'.toNat) : s = s' ∧ g = g' := by
  have h1 := h.1
  have h2 := h'.1
  refine ⟨by omega, ?_⟩
  rw [← h.2.2.2, ← h'.2.2.2, e]
end
end Go.Proofs.YtoehlgigidgfpaaGreat

namespace Go.Proofs.YtoehlgigidgfpaaGreat
open Go.RowKit
set_option linter.unusedVariables false
set_option maxRecDepth 100000
set_option linter.unusedSectionVars false
variable [Inhabited Nod]

/-- The nodes of a chain from a handle on: the last one is a base, and no other. -/
def ChnN (v : Ar Nod) : Int → Int → List Nod → Prop
  | _, _, [] => False
  | s, g, [x] => v.Good s g ∧ (slAt v.us s.toNat).val = x ∧ x.b = true
  | s, g, x :: y :: r => v.Good s g ∧ (slAt v.us s.toNat).val = x ∧ x.b = false ∧ ChnN v x.s x.g (y :: r)

/-- The handles of its nodes. -/
def hdn : Int → Int → List Nod → List (Int × Int)
  | _, _, [] => []
  | s, g, x :: r => (s, g) :: hdn x.s x.g r

theorem hdn_len : ∀ (l : List Nod) (s g : Int), (hdn s g l).length = l.length
  | [], _, _ => rfl
  | x :: r, s, g => by simp [hdn, hdn_len r]

theorem ChnN.head {v : Ar Nod} {s g : Int} {x : Nod} {r : List Nod} (h : ChnN v s g (x :: r)) : v.Good s g ∧ (slAt v.us s.toNat).val = x := by
  cases r with
  | nil => exact ⟨h.1, h.2.1⟩
  | cons y r => exact ⟨h.1, h.2.1⟩

theorem ChnN.next {v : Ar Nod} {s g : Int} {x y : Nod} {r : List Nod} (h : ChnN v s g (x :: y :: r)) : ChnN v x.s x.g (y :: r) := h.2.2.2

theorem ChnN.pos {v : Ar Nod} {s g : Int} {l : List Nod} (h : ChnN v s g l) : 0 < l.length := by
  cases l with
  | nil => exact h.elim
  | cons x r => simp

/-- Which of its nodes are bases. -/
theorem ChnN.base {v : Ar Nod} : ∀ {l : List Nod} {s g : Int}, ChnN v s g l → ∀ i x, l[i]? = some x → x.b = decide (i + 1 = l.length)
  | [], _, _, h, _, _, _ => h.elim
  | [x], s, g, h, i, y, hy => by
    cases i with
    | zero => simp at hy; subst hy; simpa using h.2.2
    | succ i => simp at hy
  | x :: z :: r, s, g, h, i, y, hy => by
    cases i with
    | zero => simp at hy; subst hy; simpa using h.2.2.1
    | succ i =>
      have := ChnN.base h.2.2.2 i y (by simpa using hy)
      rw [this]
      simp

theorem ChnN.one {v : Ar Nod} : ∀ {l l' : List Nod} {s g : Int}, ChnN v s g l → ChnN v s g l' → l = l'
  | [], _, _, _, h, _ => h.elim
  | _, [], _, _, _, h => h.elim
  | [x], [y], _, _, h, h' => by rw [← h.2.1, ← h'.2.1]
  | [x], y :: z :: r, _, _, h, h' => by
    have e : x = y := h.2.1.symm.trans h'.2.1
    have h1 := h.2.2
    have h2 := h'.2.2.1
    rw [e, h2] at h1
    cases h1
  | x :: z :: r, [y], _, _, h, h' => by
    have e : x = y := h.2.1.symm.trans h'.2.1
    have h1 := h.2.2.1
    have h2 := h'.2.2
    rw [e, h2] at h1
    cases h1
  | x :: z :: r, y :: u :: q, _, _, h, h' => by
    have e : x = y := h.2.1.symm.trans h'.2.1
    subst e
    rw [ChnN.one h.2.2.2 h'.2.2.2]

/-- The handle of the node at a place. -/
def hdAt (s g : Int) (l : List Nod) (i : Nat) : Int × Int := (hdn s g l).getD i (0, 0)

theorem hdAt_zero (s g : Int) (x : Nod) (r : List Nod) : hdAt s g (x :: r) 0 = (s, g) := rfl
theorem hdAt_succ (s g : Int) (x : Nod) (r : List Nod) (i : Nat) : hdAt s g (x :: r) (i + 1) = hdAt x.s x.g r i := by simp [hdAt, hdn]

/-- The rest of a chain, from a place on. -/
theorem ChnN.drop {v : Ar Nod} : ∀ {l : List Nod} {s g : Int}, ChnN v s g l → ∀ i, i < l.length → ChnN v (hdAt s g l i).1 (hdAt s g l i).2 (l.drop i)
  | [], _, _, h, _, _ => h.elim
  | x :: r, s, g, h, 0, _ => h
  | [x], s, g, h, i + 1, hi => by simp at hi
  | x :: y :: r, s, g, h, i + 1, hi => by
    rw [hdAt_succ]
    exact ChnN.drop h.2.2.2 i (by simpa using hi)

/-- What a place's node is, where it stands, and where it leads. -/
theorem ChnN.at {v : Ar Nod} {l : List Nod} {s g : Int} (h : ChnN v s g l) {i : Nat} {x : Nod} (hx : l[i]? = some x) :
    v.Good (hdAt s g l i).1 (hdAt s g l i).2 ∧ (slAt v.us (hdAt s g l i).1.toNat).val = x := by
  have hi := (List.getElem?_eq_some_iff.1 hx).1
  have hd := h.drop i hi
  have e : l.drop i = x :: l.drop (i + 1) := by
    rw [List.drop_eq_getElem_cons hi]
    congr 1
    exact (List.getElem?_eq_some_iff.1 hx).2
  rw [e] at hd
  exact hd.head

theorem hdAt_next : ∀ (l : List Nod) (s g : Int) (i : Nat) (x : Nod), l[i]? = some x → i + 1 < l.length → hdAt s g l (i + 1) = (x.s, x.g)
  | [], _, _, _, _, h, _ => by simp at h
  | [y], s, g, 0, x, h, hl => by simp at hl
  | y :: z :: r, s, g, 0, x, h, hl => by
    simp at h
    subst h
    rfl
  | y :: r, s, g, i + 1, x, h, hl => by
    rw [hdAt_succ]
    exact hdAt_next r y.s y.g i x (by simpa using h) (by simpa using hl)
  
theorem hdn_at (l : List Nod) (s g : Int) (i : Nat) (hi : i < l.length) : (hdn s g l)[i]? = some (hdAt s g l i) := by
  have h : i < (hdn s g l).length := by rw [hdn_len]; exact hi
  rw [hdAt, List.getD_eq_getElem?_getD, List.getElem?_eq_getElem h]
  rfl

theorem ChnN.good {v : Ar Nod} {l : List Nod} {s g : Int} (h : ChnN v s g l) : ∀ y ∈ hdn s g l, v.Good y.1 y.2 := by
  intro y hy
  obtain ⟨i, hi⟩ := List.mem_iff_getElem?.1 hy
  have hl : i < l.length := by rw [← hdn_len l s g]; exact (List.getElem?_eq_some_iff.1 hi).1
  rw [hdn_at l s g i hl] at hi
  cases hi
  exact (h.at (List.getElem?_eq_getElem hl)).1

/-- No slot is met twice: a ring has no base. -/
theorem ChnN.slots {v : Ar Nod} : ∀ {l : List Nod} {s g : Int}, ChnN v s g l → ((hdn s g l).map (·.1)).Nodup
  | [], _, _, h => h.elim
  | [x], s, g, h => by simp [hdn]
  | x :: y :: r, s, g, h => by
    show ((s, g) :: hdn x.s x.g (y :: r) |>.map (·.1)).Nodup
    rw [List.map_cons, List.nodup_cons]
    refine ⟨fun hm => ?_, ChnN.slots h.2.2.2⟩
    obtain ⟨z, hz, he⟩ := List.mem_map.1 hm
    obtain ⟨j, hj⟩ := List.mem_iff_getElem?.1 hz
    have hl : j < (y :: r).length := by rw [← hdn_len (y :: r) x.s x.g]; exact (List.getElem?_eq_some_iff.1 hj).1
    rw [hdn_at _ _ _ j hl] at hj
    cases hj
    have hd := ChnN.drop h.2.2.2 j hl
    have hg := (ChnN.at h.2.2.2 (List.getElem?_eq_getElem hl)).1
    have h1 : (hdAt x.s x.g (y :: r) j).1 = s := he
    have h2 : (hdAt x.s x.g (y :: r) j).2 = g := by
      have a := hg.2.2.2
      have b := h.1.2.2.2
      rw [h1] at a
      exact a.symm.trans b
    rw [h1, h2] at hd
    have := congrArg List.length (ChnN.one hd h)
    simp at this
    omega

theorem ChnN.put {v : Ar Nod} (n : Nod) : ∀ {l : List Nod} {s g : Int}, ChnN v s g l → ChnN (v.put n) s g l
  | [], _, _, h => h.elim
  | [x], s, g, h => by
    have hi : s.toNat < v.us.length := by have := h.1.1; have := h.1.2.1; omega
    exact ⟨h.1.put n, by rw [put_keeps v n hi h.1.2.2.1]; exact h.2.1, h.2.2⟩
  | x :: y :: r, s, g, h => by
    have hi : s.toNat < v.us.length := by have := h.1.1; have := h.1.2.1; omega
    exact ⟨h.1.put n, by rw [put_keeps v n hi h.1.2.2.1]; exact h.2.1, h.2.2.1, ChnN.put n h.2.2.2⟩

/-- A new base is a chain. -/
theorem ChnN.begun (v : Ar Nod) (n : Nod) (hb : n.b = true) : ChnN (v.put n) (low v.us : Int) v.gen [n] := by
  refine ⟨put_good v n, ?_, hb⟩
  rw [Int.toNat_natCast, (put_new v n).1]

/-- A delta ahead of a chain. -/
theorem ChnN.grown {v : Ar Nod} {l : List Nod} {s g : Int} (h : ChnN v s g l) (n : Nod) (hb : n.b = false) (hs : n.s = s) (hg : n.g = g) : ChnN (v.put n) (low v.us : Int) v.gen (n :: l) := by
  have hp := ChnN.put n h
  cases l with
  | nil => exact h.elim
  | cons x r =>
    refine ⟨put_good v n, ?_, hb, ?_⟩
    · rw [Int.toNat_natCast, (put_new v n).1]
    · rw [hs, hg]
      exact hp

theorem ChnN.free {v : Ar Nod} {i : Nat} (hi : i < v.us.length) (z : Nod) : ∀ {l : List Nod} {s g : Int}, ChnN v s g l → (∀ y ∈ hdn s g l, y.1.toNat ≠ i) → ChnN (v.free i z) s g l
  | [], _, _, h, _ => h.elim
  | [x], s, g, h, hn => by
    have h1 : s.toNat ≠ i := hn (s, g) (by simp [hdn])
    refine ⟨free_other hi z h.1 h1, ?_, h.2.2⟩
    show (slAt (v.us.set i _) s.toNat).val = x
    rw [slAt_set _ _ _ _ hi, if_neg h1]; exact h.2.1
  | x :: y :: r, s, g, h, hn => by
    have h1 : s.toNat ≠ i := hn (s, g) (by simp [hdn])
    refine ⟨free_other hi z h.1 h1, ?_, h.2.2.1, ChnN.free hi z h.2.2.2 fun u hu => hn u (by rw [hdn]; exact List.mem_cons_of_mem _ hu)⟩
    show (slAt (v.us.set i _) s.toNat).val = x
    rw [slAt_set _ _ _ _ hi, if_neg h1]; exact h.2.1

end Go.Proofs.YtoehlgigidgfpaaGreat

namespace Go.Proofs.YtoehlgigidgfpaaGreat
open Go.RowKit
set_option linter.unusedVariables false
set_option maxRecDepth 100000
set_option linter.unusedSectionVars false
variable [Inhabited Nod]

abbrev tAN : TypeId := 101
abbrev tSN : TypeId := 151

theorem madeN {w : World} {B n : Nat} (h0 : w.cell? ⟨B, 0, none⟩ = some (.int .i64 n)) (hn : 0 < n) : Calls Tryz.prog 43 #[.pointer (some ⟨B, 0, none⟩)] w fun e w' => e = .returned (.bool true) ∧ w' = w := by
  have hp : (0 : Int) < (n : Int) := by omega
  go_enter Tryz.func43, Tryz.ntmps43
  go_wp2
  go_ret
  exact ⟨by simp, rfl⟩

theorem madeNilN (w : World) : Calls Tryz.prog 43 #[.pointer none] w fun e w' => e = .returned (.bool false) ∧ w' = w := by
  go_enter Tryz.func43, Tryz.ntmps43
  go_wp2
  go_ret
  exact ⟨rfl, rfl⟩

theorem madeZeroN {w : World} {B : Nat} (h0 : w.cell? ⟨B, 0, none⟩ = some (.int .i64 0)) : Calls Tryz.prog 43 #[.pointer (some ⟨B, 0, none⟩)] w fun e w' => e = .returned (.bool false) ∧ w' = w := by
  go_enter Tryz.func43, Tryz.ntmps43
  go_wp2
  go_ret
  exact ⟨rfl, rfl⟩

set_option maxHeartbeats 1000000 in
theorem liveN {w : World} {B : Nat} {bs : List Nat} {a : Ar Nod} (h : Arn Nod.cells 21 tAN tSN w B bs a) : Calls Tryz.prog 13 #[.pointer (some ⟨B, 0, none⟩)] w fun e w' => e = .returned (.int .i64 (live a.us)) ∧ Tn [] w w' := by
  obtain ⟨uv, fv, fr, -, h⟩ := h
  obtain ⟨c0, c1, c2, c3⟩ := h.four
  obtain ⟨p, c, rfl⟩ := h.uform
  obtain ⟨q, d, rfl⟩ := h.fform
  have hs1 := h.s1
  have hl := h.frlen
  have hle := h.le
  have hs := h.s2
  have he : (a.us.length : Int) - (fr.length : Int) = (live a.us : Int) := by omega
  generalize live a.us = lv at *
  generalize a.us.length = n at *
  generalize fr.length = m at *
  clear h
  go_enter Tryz.func13, Tryz.ntmps13
  go_wp2_with fail
  refine (madeN c0 hs1).mono ?_
  rintro e w1 ⟨rfl, rfl⟩
  go_wp2_with fail
  go_quiet (fail)
  go_wp2
  go_ret
  exact ⟨by simp, Tn.of_below (below_drewN (Below.refl _ _) _) _⟩

theorem newN (w : World) (n : Nat) (h1 : 1 ≤ n) (h2 : n ≤ 65536) : Calls Tryz.prog 9 #[.int .i64 n] w fun e w' => e = .returned (.tuple #[.pointer (some ⟨w.heap.size, 0, none⟩), .int .i64 0]) ∧ Arn Nod.cells 21 tAN tSN w' w.heap.size [w.heap.size] (Ar.fresh n) ∧ Below w.heap.size w w' ∧ w'.heap.size = w.heap.size + 1 := by
  have g1 : ¬ (n : Int) < 1 := by omega
  have g2 : ¬ (65536 : Int) < (n : Int) := by omega
  have HE : Hid (Arn Nod.cells 21 tAN tSN (w.alloc (.cells #[.int .i64 n, .slice none 0 0, .slice none 0 0, .int .i64 0] 101)) w.heap.size [w.heap.size] (Ar.fresh n)) := by
    refine ⟨.slice none 0 0, .slice none 0 0, [], rfl, ?_⟩
    exact {
      wt := ⟨Bk.new w _ _, World.ownsRow_nil _ _ _ _, (fun k hk => by cases hk), Nat.zero_le _⟩
      row := World.ownsRow_nil _ _ _ _
      ne1 := fun k hk => by cases hk
      ne2 := fun k hk => by cases hk
      hp := fun i h0 hi => by simp at hi
      perm := List.Perm.refl _
      le := Nat.zero_le _
      s1 := h1
      s2 := h2 }
  go_enter Tryz.func9, Tryz.ntmps9
  go_wp2
  go_ret2
  exact ⟨rfl, HE.out, (Below.refl _ _).alloc (Nat.le_refl _) _, by simp⟩

theorem slotsN {w : World} {B : Nat} {bs : List Nat} {a : Ar Nod} (h : Arn Nod.cells 21 tAN tSN w B bs a) : Calls Tryz.prog 82 #[.pointer (some ⟨B, 0, none⟩)] w fun e w' => e = .returned (.int .i64 a.size) ∧ w' = w := by
  obtain ⟨uv, fv, fr, -, h⟩ := h
  obtain ⟨c0, c1, c2, c3⟩ := h.four
  have hs1 := h.s1
  clear h
  go_enter Tryz.func82, Tryz.ntmps82
  go_wp2_with fail
  refine (madeN c0 hs1).mono ?_
  rintro e w1 ⟨rfl, rfl⟩
  go_wp2
  go_ret
  exact ⟨rfl, rfl⟩
end Go.Proofs.YtoehlgigidgfpaaGreat

namespace Go.Proofs.YtoehlgigidgfpaaGreat
open Go.RowKit
set_option linter.unusedVariables false
set_option maxRecDepth 100000
set_option linter.unusedSectionVars false
variable [Inhabited Nod]

set_option maxHeartbeats 1000000 in
theorem checkGoodN {w : World} {B : Nat} {bs : List Nat} {a : Ar Nod} (h : Arn Nod.cells 21 tAN tSN w B bs a) (s g : Int) (hg : a.Good s g) :
    Calls Tryz.prog 92 #[.pointer (some ⟨B, 0, none⟩), .agg #[.int .i64 s, .int .i64 g]] w fun e w' => e = .returned (.int .i64 0) ∧ Below w.heap.size w w' := by
  obtain ⟨uv, fv, fr, -, h⟩ := h
  obtain ⟨h0, h1, hgv, rfl⟩ := hg
  obtain ⟨i, rfl⟩ : ∃ i : Nat, s = (i : Int) := ⟨s.toNat, by omega⟩
  have hi : i < a.us.length := by omega
  rw [Int.toNat_natCast] at hgv ⊢
  obtain ⟨gb, c, rfl⟩ := row_some h.row (by omega)
  obtain ⟨w1, hw1, -, hb1, h', hk, k0, k1⟩ := h.boxed (i : Int) (slAt a.us i).gen
  have HB : Hid (Below w.heap.size w w1) := hb1
  obtain ⟨r0, r1, r2, r3, r4, r5, r6, r7, r8, r9, r10, r11, r12, r13, r14, r15, r16, r17, r18, r19, r20, r21, r22⟩ := sl23 rfl h'.row i hi
  obtain ⟨c0, c1, c2, c3⟩ := h'.four
  have hs1 := h.s1
  have hlen : a.us.length ≤ 65536 := Nat.le_trans h.le h.s2
  rw [hgv] at r1
  clear h h' hk hb1
  generalize (slAt a.us i).gen = g at *
  generalize a.us.length = n at *
  have g1 : ¬ (i : Int) < 0 := by omega
  have g2 : ¬ (n : Int) ≤ (i : Int) := by omega
  go_enter Tryz.func92, Tryz.ntmps92
  go_wp2_with fail
  refine (madeN c0 hs1).mono ?_
  rintro e w2 ⟨rfl, rfl⟩
  go_wp2_with fail
  go_quiet (fail)
  go_wp2
  go_ret
  exact ⟨rfl, below_drewN HB.out _⟩

theorem bad_endN {w w1 w3 : World} {B : Nat} {uv fv : Value} {fr : List Nat} {a : Ar Nod} (hb : Below w.heap.size w w1) (h : IsAr Nod.cells 21 tAN tSN w1 B uv fv fr a) (nq : Nat) (hw : w3 = (w1.drewN nq).setCell ⟨B, 3, none⟩ (.int .i64 (a.stale + 1))) : ArT Nod.cells 21 tAN tSN w w3 B (bsOf B uv fv) a.bad := by
  have hd : Tn [] w1 (w1.drewN nq) := Tn.of_below (below_drewN (Below.refl _ _) _) _
  exact ArT.pre ((Tn.of_below hb []).trans hd (by simp)) ((h.tn hd (by simp)).badT hw)

set_option maxHeartbeats 1000000 in
theorem checkLowN {w w1 : World} {B n c : Nat} {p : Option Addr} {sz : Nat} {st s g : Int} {R : World → Prop} (hw1 : w.alloc (.cells #[.int .i64 s, .int .i64 g] 31) = w1) (k0 : w1.cell? ⟨w.heap.size, 0, none⟩ = some (.int .i64 s)) (k1 : w1.cell? ⟨w.heap.size, 1, none⟩ = some (.int .i64 g))
    (c0 : w1.cell? ⟨B, 0, none⟩ = some (.int .i64 sz)) (c1 : w1.cell? ⟨B, 1, none⟩ = some (.slice p n c)) (c3 : w1.cell? ⟨B, 3, none⟩ = some (.int .i64 st)) (f3 : w1.frozen? ⟨B, 3, none⟩ = false) (hs1 : 1 ≤ sz) (hn : n ≤ 65536) (hs0 : 0 ≤ st) (hs9 : st < 9223372036854775807)
    (hR : ∀ nq w3, w3 = (w1.drewN nq).setCell ⟨B, 3, none⟩ (.int .i64 (st + 1)) → R w3)
    (g1 : s < 0) :
    Calls Tryz.prog 92 #[.pointer (some ⟨B, 0, none⟩), .agg #[.int .i64 s, .int .i64 g]] w fun e w' => e = .returned (.int .i64 7) ∧ R w' := by
  have HE : Hid (∀ nq w3, w3 = (w1.drewN nq).setCell ⟨B, 3, none⟩ (.int .i64 (st + 1)) → R w3) := hR
  have HF : Hid (∀ nq, (w1.drewN nq).cell? ⟨B, 3, none⟩ = some (.int .i64 st) ∧ (w1.drewN nq).frozen? ⟨B, 3, none⟩ = false) := fun nq => ⟨c3, f3⟩
  clear hR f3
  go_enter Tryz.func92, Tryz.ntmps92
  go_wp2_with fail
  refine (madeN c0 hs1).mono ?_
  rintro e w2 ⟨rfl, rfl⟩
  go_wp2_with fail
  go_quiet (fail)
  go_wp2_with fail
  refine (count_any (HF.out nq).1 (HF.out nq).2 hs0 hs9).mono ?_
  rintro e w3 ⟨rfl, hw3⟩
  have HT : Hid _ := HE.out nq w3 hw3
  clear hw3 HE HF
  go_wp2
  go_ret
  exact ⟨rfl, HT.out⟩

set_option maxHeartbeats 1000000 in
theorem checkHighN {w w1 : World} {B n c : Nat} {p : Option Addr} {sz : Nat} {st s g : Int} {R : World → Prop} (hw1 : w.alloc (.cells #[.int .i64 s, .int .i64 g] 31) = w1) (k0 : w1.cell? ⟨w.heap.size, 0, none⟩ = some (.int .i64 s)) (k1 : w1.cell? ⟨w.heap.size, 1, none⟩ = some (.int .i64 g))
    (c0 : w1.cell? ⟨B, 0, none⟩ = some (.int .i64 sz)) (c1 : w1.cell? ⟨B, 1, none⟩ = some (.slice p n c)) (c3 : w1.cell? ⟨B, 3, none⟩ = some (.int .i64 st)) (f3 : w1.frozen? ⟨B, 3, none⟩ = false) (hs1 : 1 ≤ sz) (hn : n ≤ 65536) (hs0 : 0 ≤ st) (hs9 : st < 9223372036854775807)
    (hR : ∀ nq w3, w3 = (w1.drewN nq).setCell ⟨B, 3, none⟩ (.int .i64 (st + 1)) → R w3)
    (g1 : ¬ s < 0) (g2 : (n : Int) ≤ s) :
    Calls Tryz.prog 92 #[.pointer (some ⟨B, 0, none⟩), .agg #[.int .i64 s, .int .i64 g]] w fun e w' => e = .returned (.int .i64 7) ∧ R w' := by
  have HE : Hid (∀ nq w3, w3 = (w1.drewN nq).setCell ⟨B, 3, none⟩ (.int .i64 (st + 1)) → R w3) := hR
  have HF : Hid (∀ nq, (w1.drewN nq).cell? ⟨B, 3, none⟩ = some (.int .i64 st) ∧ (w1.drewN nq).frozen? ⟨B, 3, none⟩ = false) := fun nq => ⟨c3, f3⟩
  clear hR f3
  have d1 : decide (s < 0) = false := by simp; omega
  have d2 : decide ((n : Int) ≤ s) = true := by simp; omega
  go_enter Tryz.func92, Tryz.ntmps92
  go_wp2_with fail
  refine (madeN c0 hs1).mono ?_
  rintro e w2 ⟨rfl, rfl⟩
  go_wp2_with fail
  go_quiet (fail)
  go_wp2_with fail
  refine (count_any (HF.out nq).1 (HF.out nq).2 hs0 hs9).mono ?_
  rintro e w3 ⟨rfl, hw3⟩
  have HT : Hid _ := HE.out nq w3 hw3
  clear hw3 HE HF
  go_wp2
  go_ret
  exact ⟨rfl, HT.out⟩

set_option maxHeartbeats 1000000 in
theorem checkTakenN {w w1 : World} {B n c : Nat} {gb : Nat} {g0 : Int} {i : Nat} {sz : Nat} {st g : Int} {R : World → Prop} (hw1 : w.alloc (.cells #[.int .i64 (i : Int), .int .i64 g] 31) = w1) (k0 : w1.cell? ⟨w.heap.size, 0, none⟩ = some (.int .i64 (i : Int))) (k1 : w1.cell? ⟨w.heap.size, 1, none⟩ = some (.int .i64 g))
    (c0 : w1.cell? ⟨B, 0, none⟩ = some (.int .i64 sz)) (c1 : w1.cell? ⟨B, 1, none⟩ = some (.slice (some ⟨gb, 0, none⟩) n c)) (c3 : w1.cell? ⟨B, 3, none⟩ = some (.int .i64 st)) (f3 : w1.frozen? ⟨B, 3, none⟩ = false) (hs1 : 1 ≤ sz) (hn : n ≤ 65536) (hs0 : 0 ≤ st) (hs9 : st < 9223372036854775807)
    (hR : ∀ nq w3, w3 = (w1.drewN nq).setCell ⟨B, 3, none⟩ (.int .i64 (st + 1)) → R w3)
    (hi : i < n) (r1 : w1.cell? ⟨gb, i * 23 + 1, none⟩ = some (.bool false)) :
    Calls Tryz.prog 92 #[.pointer (some ⟨B, 0, none⟩), .agg #[.int .i64 (i : Int), .int .i64 g]] w fun e w' => e = .returned (.int .i64 7) ∧ R w' := by
  have HE : Hid (∀ nq w3, w3 = (w1.drewN nq).setCell ⟨B, 3, none⟩ (.int .i64 (st + 1)) → R w3) := hR
  have HF : Hid (∀ nq, (w1.drewN nq).cell? ⟨B, 3, none⟩ = some (.int .i64 st) ∧ (w1.drewN nq).frozen? ⟨B, 3, none⟩ = false) := fun nq => ⟨c3, f3⟩
  clear hR f3
  have d1 : decide ((i : Int) < 0) = false := by simp
  have d2 : decide (n ≤ i) = false := by simp; omega
  go_enter Tryz.func92, Tryz.ntmps92
  go_wp2_with fail
  refine (madeN c0 hs1).mono ?_
  rintro e w2 ⟨rfl, rfl⟩
  go_wp2_with fail
  go_quiet (fail)
  go_wp2_with fail
  refine (count_any (HF.out nq).1 (HF.out nq).2 hs0 hs9).mono ?_
  rintro e w3 ⟨rfl, hw3⟩
  have HT : Hid _ := HE.out nq w3 hw3
  clear hw3 HE HF
  go_wp2
  go_ret
  exact ⟨rfl, HT.out⟩

set_option maxHeartbeats 1000000 in
theorem checkOtherN {w w1 : World} {B n c : Nat} {gb : Nat} {g0 : Int} {i : Nat} {sz : Nat} {st g : Int} {R : World → Prop} (hw1 : w.alloc (.cells #[.int .i64 (i : Int), .int .i64 g] 31) = w1) (k0 : w1.cell? ⟨w.heap.size, 0, none⟩ = some (.int .i64 (i : Int))) (k1 : w1.cell? ⟨w.heap.size, 1, none⟩ = some (.int .i64 g))
    (c0 : w1.cell? ⟨B, 0, none⟩ = some (.int .i64 sz)) (c1 : w1.cell? ⟨B, 1, none⟩ = some (.slice (some ⟨gb, 0, none⟩) n c)) (c3 : w1.cell? ⟨B, 3, none⟩ = some (.int .i64 st)) (f3 : w1.frozen? ⟨B, 3, none⟩ = false) (hs1 : 1 ≤ sz) (hn : n ≤ 65536) (hs0 : 0 ≤ st) (hs9 : st < 9223372036854775807)
    (hR : ∀ nq w3, w3 = (w1.drewN nq).setCell ⟨B, 3, none⟩ (.int .i64 (st + 1)) → R w3)
    (hi : i < n) (r1 : w1.cell? ⟨gb, i * 23 + 1, none⟩ = some (.bool true)) (r0 : w1.cell? ⟨gb, i * 23, none⟩ = some (.int .i64 g0)) (hne : (g0 != g) = true) :
    Calls Tryz.prog 92 #[.pointer (some ⟨B, 0, none⟩), .agg #[.int .i64 (i : Int), .int .i64 g]] w fun e w' => e = .returned (.int .i64 7) ∧ R w' := by
  have HE : Hid (∀ nq w3, w3 = (w1.drewN nq).setCell ⟨B, 3, none⟩ (.int .i64 (st + 1)) → R w3) := hR
  have HF : Hid (∀ nq, (w1.drewN nq).cell? ⟨B, 3, none⟩ = some (.int .i64 st) ∧ (w1.drewN nq).frozen? ⟨B, 3, none⟩ = false) := fun nq => ⟨c3, f3⟩
  clear hR f3
  have d1 : decide ((i : Int) < 0) = false := by simp
  have d2 : decide (n ≤ i) = false := by simp; omega
  go_enter Tryz.func92, Tryz.ntmps92
  go_wp2_with fail
  refine (madeN c0 hs1).mono ?_
  rintro e w2 ⟨rfl, rfl⟩
  go_wp2_with fail
  go_quiet (fail)
  go_wp2_with fail
  refine (count_any (HF.out nq).1 (HF.out nq).2 hs0 hs9).mono ?_
  rintro e w3 ⟨rfl, hw3⟩
  have HT : Hid _ := HE.out nq w3 hw3
  clear hw3 HE HF
  go_wp2
  go_ret
  exact ⟨rfl, HT.out⟩

theorem checkBadN {w : World} {B : Nat} {bs : List Nat} {a : Ar Nod} (h : Arn Nod.cells 21 tAN tSN w B bs a) (s g : Int) (hg : ¬ a.Good s g) (hs0 : 0 ≤ a.stale) (hs9 : a.stale < 9223372036854775807) :
    Calls Tryz.prog 92 #[.pointer (some ⟨B, 0, none⟩), .agg #[.int .i64 s, .int .i64 g]] w fun e w' => e = .returned (.int .i64 7) ∧ ArT Nod.cells 21 tAN tSN w w' B bs a.bad := by
  obtain ⟨uv, fv, fr, rfl, h⟩ := h
  obtain ⟨w1, hw1, -, hb1, h', hk, k0, k1⟩ := h.boxed s g
  have hR : ∀ nq w3, w3 = (w1.drewN nq).setCell ⟨B, 3, none⟩ (.int .i64 (a.stale + 1)) → ArT Nod.cells 21 tAN tSN w w3 B (bsOf B uv fv) a.bad := fun nq w3 hw => bad_endN hb1 h' nq hw
  obtain ⟨c0, c1, c2, c3⟩ := h'.four
  have f3 := h'.wt.blk.frozen 3
  have hlen : a.us.length ≤ 65536 := Nat.le_trans h.le h.s2
  by_cases g1 : s < 0
  · obtain ⟨p, c, rfl⟩ := h.uform
    exact checkLowN hw1 k0 k1 c0 c1 c3 f3 h.s1 hlen hs0 hs9 hR g1
  · by_cases g2 : (a.us.length : Int) ≤ s
    · obtain ⟨p, c, rfl⟩ := h.uform
      exact checkHighN hw1 k0 k1 c0 c1 c3 f3 h.s1 hlen hs0 hs9 hR g1 g2
    · obtain ⟨i, rfl⟩ : ∃ i : Nat, s = (i : Int) := ⟨s.toNat, by omega⟩
      have hi : i < a.us.length := by omega
      obtain ⟨gb, c, rfl⟩ := row_some h.row (by omega)
      obtain ⟨r0, r1, r2, r3, r4, r5, r6, r7, r8, r9, r10, r11, r12, r13, r14, r15, r16, r17, r18, r19, r20, r21, r22⟩ := sl23 rfl h'.row i hi
      cases hgv : (slAt a.us i).given with
      | false =>
        rw [hgv] at r1
        exact checkTakenN (g0 := 0) hw1 k0 k1 c0 c1 c3 f3 h.s1 hlen hs0 hs9 hR hi r1
      | true =>
        have hne : ((slAt a.us i).gen != g) = true := by
          simp only [bne_iff_ne, ne_eq]
          intro e
          exact hg ⟨by omega, by omega, by rw [Int.toNat_natCast]; exact hgv, by rw [Int.toNat_natCast]; exact e⟩
        rw [hgv] at r1
        exact checkOtherN hw1 k0 k1 c0 c1 c3 f3 h.s1 hlen hs0 hs9 hR hi r1 r0 hne
end Go.Proofs.YtoehlgigidgfpaaGreat

namespace Go.Proofs.YtoehlgigidgfpaaGreat
open Go.RowKit
set_option linter.unusedVariables false
set_option maxRecDepth 100000
set_option linter.unusedSectionVars false
set_option linter.unusedSimpArgs false

theorem nd_agg (w : World) : (isAgg 37).run Tryz.prog w = .ok true w := by kernel_rfl
theorem nd_size (w : World) : (sizeOf 37).run Tryz.prog w = .ok 21 w := by kernel_rfl
theorem nd_info : (Tryz.prog.info? 37).map (·.size) = some 21 := by kernel_rfl
theorem Nod.len (x : Nod) : x.cells.length = 21 := rfl
theorem Nod.one (x : Nod) : ∀ v ∈ x.cells, v.oneCell' = true := ndK.one x

/-- A node's value, whole. -/
def Nod.w (x : Nod) : Value := .agg x.cells.toArray
theorem Nod.w_eq (x : Nod) : x.w = x.v := rfl

/-- A node is loaded whole. -/
theorem ld_bk {w : World} {b : Nat} {T' : TypeId} {x : Nod} (h : Bk w b T' x.cells.toArray) : (Instr.loadAt 37 (.pointer (some ⟨b, 0, none⟩))).run Tryz.prog w = .ok x.w w := by
  simp only [Instr.loadAt, Instr.sureAddr, Sem.run_bind, Sem.run_pure, Result.andThen_ok, run_loadVar_cells nd_agg nd_size x.len h]
  rfl

theorem ld_mid {w : World} {b o : Nat} {x : Nod} (h : w.rangeAt b o x.cells) : (Instr.loadAt 37 (.pointer (some ⟨b, o, none⟩))).run Tryz.prog w = .ok x.w w :=
  run_loadAt_mid w b o _ x.cells _ h Tryz.underlying37 rfl nd_info

/-- A node is stored whole. -/
theorem st_bk {w : World} {b : Nat} {T' : TypeId} {old : Array Value} {x : Nod} (h : Bk w b T' old) (ho : old.size = 21) : (Instr.storeAt 37 (.pointer (some ⟨b, 0, none⟩)) x.w).run Tryz.prog w = .ok () (w.setRow b x.cells.toArray) := by
  have := run_storeVar_row (P := Tryz.prog) w b T' 37 old x.cells.toArray h (by simpa [x.len] using nd_info) (by simpa [x.len] using ho) (all_oneCell_toArray x.one)
  unfold Nod.w
  simp only [Instr.storeAt, Instr.sureAddr, Sem.run_bind, Sem.run_pure, Result.andThen_ok, this]

theorem st_mid {w : World} {b o : Nat} {x : Nod} (h : w.there b o 21) : (Instr.storeAt 37 (.pointer (some ⟨b, o, none⟩)) x.w).run Tryz.prog w = .ok () (w.setCells b o x.cells) :=
  run_storeAt_mid w b o 37 x.cells.toArray h (by simpa [x.len] using nd_info) (all_oneCell_toArray x.one)

theorem setCells_eq (b : Nat) : ∀ (l : List Value) (w : World) (o : Nat), w.setCells b o l = setCells w b o l
  | [], _, _ => rfl
  | v :: r, w, o => by
    show (w.setCell ⟨b, o, none⟩ v).setCells b (o + 1) r = _
    rw [setCells_eq b r]
    rfl

/-- What a block has is answered, and an error. -/
theorem results_elN {fn : Func} {t u : Tmp} (h : fn.results = #[.cell t 37, .tmp u]) {tmps : Array Value} {w : World} {b : Nat} (ht : tmps.getD t undef = .pointer (some ⟨b, 0, none⟩)) {x : Nod} (hk : Bk w b 37 x.cells.toArray) :
    (results fn tmps).run Tryz.prog w = .ok (.tuple #[x.w, tmps.getD u undef]) w := results_two h ht nd_agg nd_size x.len hk

variable [Inhabited Nod]

/-- A slot's node in the row. -/
theorem slot_range {w : World} {tS : TypeId} {us : List (Sl Nod)} {g n c : Nat} (hn : us.length = n) (h : w.ownsRow 0 tS 23 (.slice (some ⟨g, 0, none⟩) n c) us.length (flat (slc Nod.cells) us)) (i : Nat) (hi : i < n) : w.rangeAt g (i * 23 + 2) (slAt us i).val.cells := fun j v hv => by
  have := row_cells ndK hn h i hi (2 + j) v (by rw [show 2 + j = j + 1 + 1 by omega]; exact hv)
  rwa [← Nat.add_assoc] at this

set_option maxHeartbeats 1000000 in
theorem getGoodN {w : World} {B : Nat} {bs : List Nat} {a : Ar Nod} (h : Arn Nod.cells 21 tAN tSN w B bs a) (s g : Int) (hg : a.Good s g) :
    Calls Tryz.prog 59 #[.pointer (some ⟨B, 0, none⟩), .agg #[.int .i64 s, .int .i64 g]] w fun e w' => e = .returned (.tuple #[(slAt a.us s.toNat).val.w, .int .i64 0]) ∧ Below w.heap.size w w' := by
  obtain ⟨uv, fv, fr, -, h⟩ := h
  have HG : Hid (a.Good s g) := hg
  obtain ⟨h0, h1, hgv, -⟩ := hg
  obtain ⟨i, rfl⟩ : ∃ i : Nat, s = (i : Int) := ⟨s.toNat, by omega⟩
  have hi : i < a.us.length := by omega
  rw [Int.toNat_natCast]
  obtain ⟨gb, c, rfl⟩ := row_some h.row (by omega)
  obtain ⟨w1, hw1, hz1, hb1, h', hk, -, -⟩ := h.boxed (i : Int) g
  obtain ⟨w2, hw2, hz2, hb2, hkx⟩ : ∃ w2, w1.alloc (.cells #[.bool false, .bool false, .string ⟨#[]⟩, .string ⟨#[]⟩, .int .i64 0, .slice none 0 0, .int .i64 0, .string ⟨#[]⟩, .int .i64 0, .int .i64 0, .int .i64 0, .string ⟨#[]⟩, .int .i64 0, .bool false, .string ⟨#[]⟩, .string ⟨#[]⟩, .int .i64 0, .slice none 0 0, .int .i64 0, .int .i64 0, .int .i64 0] 37) = w2 ∧ w2.heap.size = w.heap.size + 2 ∧ Below w1.heap.size w1 w2 ∧ Bk w2 (w.heap.size + 1) 37 #[.bool false, .bool false, .string ⟨#[]⟩, .string ⟨#[]⟩, .int .i64 0, .slice none 0 0, .int .i64 0, .string ⟨#[]⟩, .int .i64 0, .int .i64 0, .int .i64 0, .string ⟨#[]⟩, .int .i64 0, .bool false, .string ⟨#[]⟩, .string ⟨#[]⟩, .int .i64 0, .slice none 0 0, .int .i64 0, .int .i64 0, .int .i64 0] := ⟨_, rfl, by simp [hz1], (Below.refl _ w1).alloc (Nat.le_refl _) _, by rw [← hz1]; exact Bk.new _ _ _⟩
  have ht12 : Tn [] w1 w2 := Tn.of_below hb2 []
  have HI : Hid (IsAr Nod.cells 21 tAN tSN w2 B (.slice (some ⟨gb, 0, none⟩) a.us.length c) fv fr a) := h'.tn ht12 (by simp)
  have HK : Hid (Bk w2 w.heap.size 31 #[.int .i64 (i : Int), .int .i64 g]) := hk.tn ht12 (by simp)
  have HX : Hid (Bk w2 (w.heap.size + 1) 37 #[.bool false, .bool false, .string ⟨#[]⟩, .string ⟨#[]⟩, .int .i64 0, .slice none 0 0, .int .i64 0, .string ⟨#[]⟩, .int .i64 0, .int .i64 0, .int .i64 0, .string ⟨#[]⟩, .int .i64 0, .bool false, .string ⟨#[]⟩, .string ⟨#[]⟩, .int .i64 0, .slice none 0 0, .int .i64 0, .int .i64 0, .int .i64 0]) := hkx
  have HB : Hid (Below w.heap.size w w2) := hb1.trans (hb2.mono hb1.size)
  have HGB : Hid (gb < w.heap.size) := row_block h.row gb rfl
  have k0 := HK.out.cell 0
  have k1 := HK.out.cell 1
  simp only [List.getElem?_toArray, List.getElem?_cons_zero, List.getElem?_cons_succ] at k0 k1
  have hlen : a.us.length ≤ 65536 := Nat.le_trans h.le h.s2
  clear h h' hk hb1 hgv hkx hb2 ht12
  go_enter Tryz.func59, Tryz.ntmps59
  go_wp2_with fail
  refine (checkGoodN ⟨_, _, _, rfl, HI.out⟩ (i : Int) g HG.out).mono ?_
  rintro e w3 ⟨rfl, hb3⟩
  have ht3 : Tn [] w2 w3 := Tn.of_below hb3 []
  have HI2 : Hid _ := HI.out.tn ht3 (by simp)
  have HRG : Hid (w3.drew.rangeAt gb (i * 23 + 2) (slAt a.us i).val.cells) := slot_range rfl (HI2.out.tn (Tn.refl [] _).drew (by simp)).row i hi
  obtain ⟨c0, c1, c2, c3⟩ := HI2.out.four
  have HK2 := HK.out.tn ht3 (by simp)
  have k2 : w3.cell? ⟨w.heap.size, 0, none⟩ = some (.int .i64 (i : Int)) := HK2.cell 0
  have HX3 : Hid (Bk w3 (w.heap.size + 1) 37 #[.bool false, .bool false, .string ⟨#[]⟩, .string ⟨#[]⟩, .int .i64 0, .slice none 0 0, .int .i64 0, .string ⟨#[]⟩, .int .i64 0, .int .i64 0, .int .i64 0, .string ⟨#[]⟩, .int .i64 0, .bool false, .string ⟨#[]⟩, .string ⟨#[]⟩, .int .i64 0, .slice none 0 0, .int .i64 0, .int .i64 0, .int .i64 0]) := HX.out.tn ht3 (by simp)
  have HB2 : Hid (Below w.heap.size w w3) := HB.out.trans (hb3.mono HB.out.size)
  clear ht3 HI2 HK2 hb3 HI HK HB HG HX
  generalize hvv : (slAt a.us i).val = vv at *
  generalize hV : vv.w = V at *
  generalize a.us.length = n at *
  go_wp2_with fail
  refine wp_region_mid (S := fun w' => w' = w3.drew) 9 (by kernel_rfl) ?_
  refine wpAnyM_take (i := 0) [] (oi := { dst := some 13, op := Op.move (Operand.tmp 0), type := 23, pos := _, after := #[], guard := none }) (v := ?_) rfl (by kernel_rfl) (by kernel_rfl) (by kernel_rfl) (by kernel_rfl) (fun _ _ _ h => h) (Or.inl ⟨by rfl, ?_⟩) rfl ?_
  rotate_left
  · (intro w' hSw; subst hSw; go_simp; try with_reducible rfl)
  try simp only [Act.put, List.setIfInBounds_toArray, List.set_cons_zero, List.set_cons_succ]
  refine wpAnyM_take (i := 1) [] (oi := { dst := some 14, op := Op.nilCheck (Operand.tmp 13), type := 0, pos := _, after := #[{ on := 0, ground := Ground.data }], guard := none }) (v := ?_) rfl (by kernel_rfl) (by kernel_rfl) (by kernel_rfl) (by kernel_rfl) (fun _ _ _ h => h) (Or.inl ⟨by rfl, ?_⟩) rfl ?_
  rotate_left
  · (intro w' hSw; subst hSw; go_simp; try with_reducible rfl)
  try simp only [Act.put, List.setIfInBounds_toArray, List.set_cons_zero, List.set_cons_succ]
  refine wpAnyM_take (i := 2) [] (oi := { dst := some 15, op := Op.fieldAddr 101 (Operand.tmp 14) 1, type := 0, pos := _, after := #[{ on := 1, ground := Ground.data }], guard := none }) (v := ?_) rfl (by kernel_rfl) (by kernel_rfl) (by kernel_rfl) (by kernel_rfl) (fun _ _ _ h => h) (Or.inl ⟨by rfl, ?_⟩) rfl ?_
  rotate_left
  · (intro w' hSw; subst hSw; go_simp; try with_reducible rfl)
  try simp only [Act.put, List.setIfInBounds_toArray, List.set_cons_zero, List.set_cons_succ]
  refine wpAnyM_take (i := 3) [] (oi := { dst := some 16, op := Op.load 92 (Operand.tmp 15), type := 92, pos := _, after := #[{ on := 2, ground := Ground.data }], guard := none }) (v := ?_) rfl (by kernel_rfl) (by kernel_rfl) (by kernel_rfl) (by kernel_rfl) (fun _ _ _ h => h) (Or.inl ⟨by rfl, ?_⟩) rfl ?_
  rotate_left
  · (intro w' hSw; subst hSw; go_simp; try with_reducible rfl)
  try simp only [Act.put, List.setIfInBounds_toArray, List.set_cons_zero, List.set_cons_succ]
  refine wpAnyM_take (i := 4) [] (oi := { dst := some 17, op := Op.fieldAddr 31 (Operand.tmp 3) 0, type := 0, pos := _, after := #[], guard := none }) (v := ?_) rfl (by kernel_rfl) (by kernel_rfl) (by kernel_rfl) (by kernel_rfl) (fun _ _ _ h => h) (Or.inl ⟨by rfl, ?_⟩) rfl ?_
  rotate_left
  · (intro w' hSw; subst hSw; go_simp; try with_reducible rfl)
  try simp only [Act.put, List.setIfInBounds_toArray, List.set_cons_zero, List.set_cons_succ]
  refine wpAnyM_take (i := 5) [] (oi := { dst := some 18, op := Op.load 3 (Operand.tmp 17), type := 3, pos := _, after := #[{ on := 4, ground := Ground.data }], guard := none }) (v := ?_) rfl (by kernel_rfl) (by kernel_rfl) (by kernel_rfl) (by kernel_rfl) (fun _ _ _ h => h) (Or.inl ⟨by rfl, ?_⟩) rfl ?_
  rotate_left
  · (intro w' hSw; subst hSw; go_simp; try with_reducible rfl)
  try simp only [Act.put, List.setIfInBounds_toArray, List.set_cons_zero, List.set_cons_succ]
  refine wpAnyM_take (i := 6) [] (oi := { dst := some 19, op := Op.indexAddr 92 (Operand.tmp 16) (Operand.tmp 18), type := 0, pos := _, after := #[{ on := 3, ground := Ground.data }, { on := 5, ground := Ground.data }], guard := none }) (v := ?_) rfl (by kernel_rfl) (by kernel_rfl) (by kernel_rfl) (by kernel_rfl) (fun _ _ _ h => h) (Or.inl ⟨by rfl, ?_⟩) rfl ?_
  rotate_left
  · (intro w' hSw; subst hSw; go_simp; try with_reducible rfl)
  try simp only [Act.put, List.setIfInBounds_toArray, List.set_cons_zero, List.set_cons_succ]
  refine wpAnyM_take (i := 7) [] (oi := { dst := some 20, op := Op.fieldAddr 151 (Operand.tmp 19) 2, type := 0, pos := _, after := #[{ on := 6, ground := Ground.data }], guard := none }) (v := ?_) rfl (by kernel_rfl) (by kernel_rfl) (by kernel_rfl) (by kernel_rfl) (fun _ _ _ h => h) (Or.inl ⟨by rfl, ?_⟩) rfl ?_
  rotate_left
  · (intro w' hSw; subst hSw; go_simp; try with_reducible rfl)
  try simp only [Act.put, List.setIfInBounds_toArray, List.set_cons_zero, List.set_cons_succ]
  refine wpAnyM_take (i := 8) [] (oi := { dst := some 21, op := Op.load 37 (Operand.tmp 20), type := 37, pos := _, after := #[{ on := 7, ground := Ground.data }], guard := none }) (v := V) rfl (by kernel_rfl) (by kernel_rfl) (by kernel_rfl) (by kernel_rfl) (fun _ _ _ h => h) (by rw [← hV]; exact yieldsIf_load_mid (by rfl) _ _ rfl gb (i * 23 + 2) (by rfl) vv.cells _ (fun w' hw' => by subst hw'; exact HRG.out) Tryz.underlying37 rfl nd_info) rfl ?_
  try simp only [Act.put, List.setIfInBounds_toArray, List.set_cons_zero, List.set_cons_succ]
  refine wpAnyM_ready (rs := [9]) (by kernel_rfl) (by simp) ?_
  refine AllReadyM.cons (o := { dst := none, op := Op.store 37 (Operand.tmp 4) (Operand.tmp 21), type := 0, pos := _, after := #[{ on := 8, ground := Ground.data }, { on := 0, ground := Ground.phase }, { on := 1, ground := Ground.phase }, { on := 2, ground := Ground.phase }, { on := 3, ground := Ground.phase }, { on := 4, ground := Ground.phase }, { on := 5, ground := Ground.phase }, { on := 6, ground := Ground.phase }, { on := 7, ground := Ground.phase }, { on := 8, ground := Ground.phase }], guard := none }) rfl (fun K hK => ?_) AllReadyM.nil
  rw [if_pos (by rfl)]
  refine wp_store_row (w := w3.drew) _ _ _ rfl (w.heap.size + 1) vv.cells.toArray (by rfl) (by rw [← hV]; rfl) _ _ HX3.out.drew (by simpa [vv.len] using nd_info) (by simp [vv.len]) (all_oneCell_toArray vv.one) (hK _ _ ⟨fun h => absurd h (by omega), ?_⟩)
  clear hK K
  try simp only [Act.put, List.setIfInBounds_toArray, List.set_cons_zero, List.set_cons_succ]
  refine wpAnyM_ready (rs := [10]) (by kernel_rfl) (by simp) ?_
  refine AllReadyM.cons (o := { dst := some 5, op := Op.assign (Operand.const (Value.int IntKind.i64 0)), type := 24, pos := _, after := #[{ on := 9, ground := Ground.chain }, { on := 0, ground := Ground.phase }, { on := 1, ground := Ground.phase }, { on := 2, ground := Ground.phase }, { on := 3, ground := Ground.phase }, { on := 4, ground := Ground.phase }, { on := 5, ground := Ground.phase }, { on := 6, ground := Ground.phase }, { on := 7, ground := Ground.phase }, { on := 8, ground := Ground.phase }, { on := 9, ground := Ground.phase }], guard := none }) rfl (fun K hK => ?_) AllReadyM.nil
  go_simp
  refine hK _ _ ⟨fun h => absurd h (by omega), ?_⟩
  clear hK K
  try simp only [Act.put, List.setIfInBounds_toArray, List.set_cons_zero, List.set_cons_succ]
  refine wpAnyM_done (by kernel_rfl) ?_ _
  go_wp2
  rw [← hV]
  refine bodyPost_ret (results_elN (x := vv) rfl rfl (by exact HX3.out.drew.setRow _)) rfl ?_
  exact ⟨by rw [hvv]; rfl, ((Tn.refl _ w3).drew.setRow (S := [w.heap.size + 1]) (.inl (by simp)) _).below (B := w.heap.size) HB2.out.size (by simp) |> fun k => HB2.out.trans k⟩

set_option maxHeartbeats 1000000 in
theorem getBadN {w : World} {B : Nat} {bs : List Nat} {a : Ar Nod} (h : Arn Nod.cells 21 tAN tSN w B bs a) (s g : Int) (hg : ¬ a.Good s g) (hs0 : 0 ≤ a.stale) (hs9 : a.stale < 9223372036854775807) :
    Calls Tryz.prog 59 #[.pointer (some ⟨B, 0, none⟩), .agg #[.int .i64 s, .int .i64 g]] w fun e w' => e = .returned (.tuple #[Nod.zero.w, .int .i64 7]) ∧ ArT Nod.cells 21 tAN tSN w w' B bs a.bad := by
  have HG : Hid (¬ a.Good s g) := hg
  obtain ⟨uv, fv, fr, rfl, h⟩ := h
  obtain ⟨w1, hw1, hz1, hb1, h', hk, -, -⟩ := h.boxed s g
  obtain ⟨w2, hw2, hz2, hb2, hkx⟩ : ∃ w2, w1.alloc (.cells #[.bool false, .bool false, .string ⟨#[]⟩, .string ⟨#[]⟩, .int .i64 0, .slice none 0 0, .int .i64 0, .string ⟨#[]⟩, .int .i64 0, .int .i64 0, .int .i64 0, .string ⟨#[]⟩, .int .i64 0, .bool false, .string ⟨#[]⟩, .string ⟨#[]⟩, .int .i64 0, .slice none 0 0, .int .i64 0, .int .i64 0, .int .i64 0] 37) = w2 ∧ w2.heap.size = w.heap.size + 2 ∧ Below w1.heap.size w1 w2 ∧ Bk w2 (w.heap.size + 1) 37 #[.bool false, .bool false, .string ⟨#[]⟩, .string ⟨#[]⟩, .int .i64 0, .slice none 0 0, .int .i64 0, .string ⟨#[]⟩, .int .i64 0, .int .i64 0, .int .i64 0, .string ⟨#[]⟩, .int .i64 0, .bool false, .string ⟨#[]⟩, .string ⟨#[]⟩, .int .i64 0, .slice none 0 0, .int .i64 0, .int .i64 0, .int .i64 0] := ⟨_, rfl, by simp [hz1], (Below.refl _ w1).alloc (Nat.le_refl _) _, by rw [← hz1]; exact Bk.new _ _ _⟩
  have ht12 : Tn [] w1 w2 := Tn.of_below hb2 []
  have HI : Hid (Arn Nod.cells 21 tAN tSN w2 B (bsOf B uv fv) a) := ⟨_, _, _, rfl, h'.tn ht12 (by simp)⟩
  have HLT : Hid (∀ b ∈ bsOf B uv fv, b < w.heap.size) := h.lt
  have HB : Hid (Tn [] w w2) := (Tn.of_below hb1 []).trans ht12 (by simp)
  have HX : Hid (Bk w2 (w.heap.size + 1) 37 #[.bool false, .bool false, .string ⟨#[]⟩, .string ⟨#[]⟩, .int .i64 0, .slice none 0 0, .int .i64 0, .string ⟨#[]⟩, .int .i64 0, .int .i64 0, .int .i64 0, .string ⟨#[]⟩, .int .i64 0, .bool false, .string ⟨#[]⟩, .string ⟨#[]⟩, .int .i64 0, .slice none 0 0, .int .i64 0, .int .i64 0, .int .i64 0]) := hkx
  have hk' := hk.tn ht12 (by simp)
  have k0 := hk'.cell 0
  have k1 := hk'.cell 1
  simp only [List.getElem?_toArray, List.getElem?_cons_zero, List.getElem?_cons_succ] at k0 k1
  clear h h' hk hb1 hg hkx hb2 ht12 hk'
  go_enter Tryz.func59, Tryz.ntmps59
  go_wp2_with fail
  refine (checkBadN HI.out s g HG.out hs0 hs9).mono ?_
  rintro e w3 ⟨rfl, bs', ha3, ht3, hn3⟩
  have HX3 : Hid (Bk w3 (w.heap.size + 1) 37 Nod.zero.cells.toArray) := HX.out.tn ht3 (fun hm => by have := HLT.out _ hm; omega)
  have HE : Hid (∀ w4, Tn [w.heap.size + 1] w3 w4 → ArT Nod.cells 21 tAN tSN w w4 B (bsOf B uv fv) a.bad) := fun w4 h4 => ⟨bs', ha3.tn h4 (fun b hb hm => by
      simp only [List.mem_cons, List.not_mem_nil, or_false] at hm
      rcases hn3 b hb with h1 | h1
      · have := HLT.out b h1
        omega
      · omega), ((HB.out.mono (by simp)).trans ht3 (fun x hx => .inl hx)).trans h4 (fun x hx => .inr (by simp only [List.mem_cons, List.not_mem_nil, or_false] at hx; omega)), fun b hb => by
      rcases hn3 b hb with h1 | h1
      · exact .inl h1
      · exact .inr (by omega)⟩
  clear ha3 ht3 hn3
  have HZR : Hid (w3.rangeAt (w.heap.size + 1) 0 Nod.zero.cells) := fun j v hv => by
    rw [Nat.zero_add, HX3.out.cell j]
    simpa using hv
  go_wp2_with (first
    | (refine wpList_load_mid rfl 37 _ rfl (w.heap.size + 1) 0 rfl Nod.zero.cells _ HZR.out Tryz.underlying37 rfl nd_info ?_)
    | (refine wpList_store_row rfl 37 _ _ rfl (w.heap.size + 1) Nod.zero.cells.toArray rfl rfl _ _ HX3.out (by simpa [Nod.zero.len] using nd_info) rfl (all_oneCell_toArray Nod.zero.one) ?_))
  have t4 : Tn [w.heap.size + 1] w3 (w3.setRow (w.heap.size + 1) Nod.zero.cells.toArray) := (Tn.refl _ w3).setRow (.inl (by simp)) _
  refine bodyPost_ret (results_elN (x := Nod.zero) rfl rfl (by exact HX3.out.setRow _)) rfl ?_
  exact ⟨rfl, HE.out _ t4⟩

end Go.Proofs.YtoehlgigidgfpaaGreat

namespace Go.Proofs.YtoehlgigidgfpaaGreat
open Go.RowKit
set_option linter.unusedVariables false
set_option maxRecDepth 100000
set_option linter.unusedSectionVars false
variable [Inhabited Nod]

theorem slinfoN : (Tryz.prog.info? 151).map (fun i => (i.zero, i.size, i.bytes)) = some (some (.agg #[.int .i64 0, .bool false, .bool false, .bool false, .string ⟨#[]⟩, .string ⟨#[]⟩, .int .i64 0, .slice none 0 0, .int .i64 0, .string ⟨#[]⟩, .int .i64 0, .int .i64 0, .int .i64 0, .string ⟨#[]⟩, .int .i64 0, .bool false, .string ⟨#[]⟩, .string ⟨#[]⟩, .int .i64 0, .slice none 0 0, .int .i64 0, .int .i64 0, .int .i64 0]), 23, 264) := by kernel_rfl

set_option maxHeartbeats 1000000 in
theorem lowTakeN {w : World} {B : Nat} {uv fv : Value} {fr : List Nat} {a : Ar Nod} (h : IsAr Nod.cells 21 tAN tSN w B uv fv fr a) (h0 : 0 < fr.length) :
    Calls Tryz.prog 86 #[.pointer (some ⟨B, 0, none⟩)] w fun e w' => e = .returned (.int .i64 (low a.us)) ∧ ∃ fv' fr', Mid Nod.cells 21 tAN tSN w' B uv fv' fr' a.size a.stale a.us (low a.us) ∧ Tn (B :: fv.ownBlock.toList) w w' ∧ Nw w fv fv' := by
  obtain ⟨c0, c1, c2, c3⟩ := h.four
  obtain ⟨p, c, rfl⟩ := h.fform
  have hl := low_heap h.hp h.perm h0
  obtain ⟨m, hm⟩ : ∃ m, fr.length = m + 1 := ⟨fr.length - 1, by omega⟩
  have HI : Hid (IsAr Nod.cells 21 tAN tSN w B uv (.slice p fr.length c) fr a) := h
  clear h
  have HT : Hid (Calls Tryz.prog 113 #[.pointer (some ⟨B, 2, none⟩)] w fun e w' => e = .returned (.int .i64 (low a.us)) ∧ Waits w w' B tAN (.int .i64 a.size) uv (.int .i64 a.stale) (.slice p fr.length c) (fun l' => (l' ++ [low a.us]).Perm fr)) := by
    have := take_any m HI.out.wt HI.out.hp hm
    rw [hl.1] at this
    exact this
  have hle : fr.length ≤ 65536 := HI.out.wt.len
  have hpos : (0 : Int) < (fr.length : Int) := by omega
  go_enter Tryz.func86, Tryz.ntmps86
  go_wp2_with fail
  refine HT.out.mono ?_
  rintro e w1 ⟨rfl, fv', fr', hwt, hp, hperm, ht, hnw⟩
  have HE : Hid (Mid Nod.cells 21 tAN tSN w1 B uv fv' fr' a.size a.stale a.us (low a.us) ∧ Tn (B :: (Value.slice p fr.length c).ownBlock.toList) w w1 ∧ Nw w (Value.slice p fr.length c) fv') := by
    refine ⟨?_, ht, hnw⟩
    exact {
      wt := hwt
      row := owns_tn HI.out.row ht (fun k hk hmem => by
        simp only [List.mem_cons, opt_toList] at hmem
        rcases hmem with hmem | hmem
        · exact HI.out.ne1 k hk hmem
        · exact HI.out.ne2 k hk hmem)
      ne1 := HI.out.ne1
      ne2 := fun k hk e => by
        rcases hnw k e with h1 | h1
        · exact HI.out.ne2 k hk h1
        · have := row_block HI.out.row k hk
          omega
      hp := hp
      perm := fun s hs => freeOf_take hl.2 hs (low_free hl.2).1 HI.out.perm hperm
      hi := hl.2 }
  clear HT HI hwt hp hperm ht hnw c0 c1 c2 c3
  go_wp2
  go_ret
  exact ⟨rfl, fv', fr', HE.out⟩

set_option maxHeartbeats 1000000 in
theorem lowNewN {w : World} {B : Nat} {uv fv : Value} {a : Ar Nod} (h : IsAr Nod.cells 21 tAN tSN w B uv fv [] a) (hlt : a.us.length < a.size) :
    Calls Tryz.prog 86 #[.pointer (some ⟨B, 0, none⟩)] w fun e w' => e = .returned (.int .i64 a.us.length) ∧ ∃ uv', Mid Nod.cells 21 tAN tSN w' B uv' fv [] a.size a.stale (a.us ++ [⟨0, false, Nod.zero⟩]) a.us.length ∧ Tn (B :: uv.ownBlock.toList) w w' ∧ Nw w uv uv' := by
  obtain ⟨c0, c1, c2, c3⟩ := h.four
  obtain ⟨p, c, rfl⟩ := h.fform
  have HI : Hid (IsAr Nod.cells 21 tAN tSN w B uv (.slice p 0 c) [] a) := h
  have hs2 := h.s2
  have HR : Hid ((w.alloc (.cells #[.int .i64 0, .bool false, .bool false, .bool false, .string ⟨#[]⟩, .string ⟨#[]⟩, .int .i64 0, .slice none 0 0, .int .i64 0, .string ⟨#[]⟩, .int .i64 0, .int .i64 0, .int .i64 0, .string ⟨#[]⟩, .int .i64 0, .bool false, .string ⟨#[]⟩, .string ⟨#[]⟩, .int .i64 0, .slice none 0 0, .int .i64 0, .int .i64 0, .int .i64 0] 151)).ownsRow 0 151 23 uv a.us.length (flat (slc Nod.cells) a.us)) := World.ownsRow.alloc h.row _
  clear h
  simp only [List.length_nil] at c2
  go_enter Tryz.func86, Tryz.ntmps86
  go_wp2_with (at_builtin; refine appX _ rfl _ _ _ rfl 151 (.agg #[.int .i64 0, .bool false, .bool false, .bool false, .string ⟨#[]⟩, .string ⟨#[]⟩, .int .i64 0, .slice none 0 0, .int .i64 0, .string ⟨#[]⟩, .int .i64 0, .int .i64 0, .int .i64 0, .string ⟨#[]⟩, .int .i64 0, .bool false, .string ⟨#[]⟩, .string ⟨#[]⟩, .int .i64 0, .slice none 0 0, .int .i64 0, .int .i64 0, .int .i64 0]) 23 264 Tryz.underlying92 slinfoN rfl (by decide) uv a.us.length (flat (slc Nod.cells) a.us) rfl HR.out (some ⟨w.heap.size, 0, none⟩) 1 1 [.int .i64 0, .bool false, .bool false, .bool false, .string ⟨#[]⟩, .string ⟨#[]⟩, .int .i64 0, .slice none 0 0, .int .i64 0, .string ⟨#[]⟩, .int .i64 0, .int .i64 0, .int .i64 0, .string ⟨#[]⟩, .int .i64 0, .bool false, .string ⟨#[]⟩, .string ⟨#[]⟩, .int .i64 0, .slice none 0 0, .int .i64 0, .int .i64 0, .int .i64 0] rfl rfl ?_ ?_ ?_ (by unfold maxLen; omega) (by omega) ?_)
  · exact news_alloc w [.int .i64 0, .bool false, .bool false, .bool false, .string ⟨#[]⟩, .string ⟨#[]⟩, .int .i64 0, .slice none 0 0, .int .i64 0, .string ⟨#[]⟩, .int .i64 0, .int .i64 0, .int .i64 0, .string ⟨#[]⟩, .int .i64 0, .bool false, .string ⟨#[]⟩, .string ⟨#[]⟩, .int .i64 0, .slice none 0 0, .int .i64 0, .int .i64 0, .int .i64 0] 151
  · intro u hu
    simp only [List.mem_cons, List.not_mem_nil, or_false] at hu
    rcases hu with rfl | rfl | rfl | rfl | rfl | rfl | rfl | rfl | rfl | rfl | rfl | rfl | rfl | rfl | rfl | rfl | rfl | rfl | rfl | rfl | rfl | rfl | rfl <;> rfl
  · intro h
    cases h
  · intro v' w1 hrow hg hblk
    obtain ⟨g', k', rfl⟩ := row_some hrow (by omega)
    have ht1 : Tn uv.ownBlock.toList w w1 := ((Tn.refl _ w).alloc _).grown hg (fun k hk => .inl (opt_toList.2 hk))
    have hB1 : Bk w1 B tAN #[.int .i64 a.size, uv, .slice p 0 c, .int .i64 a.stale] := HI.out.wt.blk.tn ht1 (fun hm => HI.out.ne1 B (opt_toList.1 hm) rfl)
    have d1 : w1.cell? ⟨B, 1, none⟩ = some uv := hB1.cell 1
    have f1 : w1.frozen? ⟨B, 1, none⟩ = false := hB1.frozen 1
    have hnw : Nw w uv (.slice (some ⟨g', 0, none⟩) (a.us.length + 1) k') := by
      intro k hk
      rcases hblk with hb | hb
      · exact .inl (by rw [← hb]; exact hk)
      · rw [hb] at hk
        simp at hk
        exact .inr (by omega)
    have hne : g' ≠ B := by
      rcases hnw g' rfl with h | h
      · exact HI.out.ne1 g' h
      · have := HI.out.wt.blk.lt
        omega
    have ht2 : Tn [B] w1 (w1.setCell ⟨B, 1, none⟩ (.slice (some ⟨g', 0, none⟩) (a.us.length + 1) k')) := (Tn.refl _ _).setCell (.inl (by simp)) _
    have hB2 : Bk (w1.setCell ⟨B, 1, none⟩ (.slice (some ⟨g', 0, none⟩) (a.us.length + 1) k')) B tAN #[.int .i64 a.size, .slice (some ⟨g', 0, none⟩) (a.us.length + 1) k', .slice p 0 c, .int .i64 a.stale] := hB1.set 1 _
    have e1 : (w1.setCell ⟨B, 1, none⟩ (.slice (some ⟨g', 0, none⟩) (a.us.length + 1) k')).cell? ⟨B, 1, none⟩ = some (.slice (some ⟨g', 0, none⟩) (a.us.length + 1) k') := hB2.cell 1
    have HE : Hid (Mid Nod.cells 21 tAN tSN (w1.setCell ⟨B, 1, none⟩ (.slice (some ⟨g', 0, none⟩) (a.us.length + 1) k')) B (.slice (some ⟨g', 0, none⟩) (a.us.length + 1) k') (.slice p 0 c) [] a.size a.stale (a.us ++ [⟨0, false, Nod.zero⟩]) a.us.length ∧ Tn (B :: uv.ownBlock.toList) w (w1.setCell ⟨B, 1, none⟩ (.slice (some ⟨g', 0, none⟩) (a.us.length + 1) k')) ∧ Nw w uv (.slice (some ⟨g', 0, none⟩) (a.us.length + 1) k')) := by
      refine ⟨?_, (ht1.mono (by intro x hx; exact List.mem_cons_of_mem _ hx)).trans ht2 (by intro x hx; exact .inl (by simp at hx; simp [hx])), hnw⟩
      exact {
        wt := ⟨hB2, (HI.out.wt.row.tn ht1 (fun k hk hm => HI.out.ne2 k (opt_toList.1 hm) hk)).tn ht2 (fun k hk hm => HI.out.wt.ne k hk (by simpa using hm)), HI.out.wt.ne, HI.out.wt.len⟩
        row := by
          rw [flat_append, flat_single, List.length_append]
          exact owns_tn hrow ht2 (fun k hk hm => by cases hk; simp at hm; exact hne hm)
        ne1 := fun k hk => by cases hk; exact hne
        ne2 := fun k hk e => by
          cases hk
          rcases hnw g' rfl with h | h
          · exact HI.out.ne2 g' h e
          · have := row_block HI.out.wt.row g' e
            omega
        hp := HI.out.hp
        perm := fun s hs => by
          have : (a.us ++ [(⟨0, false, Nod.zero⟩ : Sl Nod)]).set a.us.length s = a.us ++ [s] := by simp
          rw [this, freeOf_new hs]
          exact HI.out.perm
        hi := by simp }
    clear hB1 hB2 hnw hne hrow hg hblk ht1 ht2 HI HR c0 c1 c2 c3
    go_wp2
    go_ret
    exact ⟨by simp, _, HE.out⟩

/-- A slot is chosen. -/
theorem lowestN {w : World} {B : Nat} {uv fv : Value} {fr : List Nat} {a : Ar Nod} (h : IsAr Nod.cells 21 tAN tSN w B uv fv fr a) (hlt : live a.us < a.size) :
    Calls Tryz.prog 86 #[.pointer (some ⟨B, 0, none⟩)] w fun e w' => e = .returned (.int .i64 (low a.us)) ∧ ∃ uv' fv' fr', Mid Nod.cells 21 tAN tSN w' B uv' fv' fr' a.size a.stale (opened a.us Nod.zero) (low a.us) ∧ Tn (bsOf B uv fv) w w' ∧ Nw w uv uv' ∧ Nw w fv fv' := by
  by_cases h0 : 0 < fr.length
  · refine (lowTakeN h h0).mono ?_
    rintro e w1 ⟨rfl, fv', fr', hm, ht, hn⟩
    have hl := low_heap h.hp h.perm h0
    refine ⟨rfl, uv, fv', fr', ?_, ht.mono ?_, Nw.refl _ _, hn⟩
    · unfold opened
      rw [if_pos hl.2]
      exact hm
    · intro x hx
      simp only [List.mem_cons, opt_toList] at hx
      rcases hx with rfl | hx
      · exact mem_bsOf.2 (.inl rfl)
      · exact mem_bsOf.2 (.inr (.inr hx))
  · obtain rfl : fr = [] := List.eq_nil_of_length_eq_zero (by omega)
    have hfree : freeOf a.us = [] := by
      have := h.perm.length_eq
      exact List.eq_nil_of_length_eq_zero (by simpa using this.symm)
    have hlow := low_none hfree
    have hlive : live a.us = a.us.length := by
      have := live_free a.us
      rw [hfree] at this
      simpa using this
    refine (lowNewN h (by omega)).mono ?_
    rintro e w1 ⟨rfl, uv', hm, ht, hn⟩
    refine ⟨by rw [hlow], uv', fv, [], ?_, ht.mono ?_, hn, Nw.refl _ _⟩
    · unfold opened
      rw [if_neg (by omega), hlow]
      exact hm
    · intro x hx
      simp only [List.mem_cons, opt_toList] at hx
      rcases hx with rfl | hx
      · exact mem_bsOf.2 (.inl rfl)
      · exact mem_bsOf.2 (.inr (.inl hx))
end Go.Proofs.YtoehlgigidgfpaaGreat

namespace Go.Proofs.YtoehlgigidgfpaaGreat
open Go.RowKit
set_option linter.unusedVariables false
set_option linter.unusedSectionVars false
set_option maxRecDepth 100000

variable {α : Type} [Inhabited α] {cells : α → List Value} {k : Nat} {tA tS : TypeId}

/-- Another value, in memory. -/
theorem IsAr.setv (K : Knd cells k) {w : World} {B gb c n : Nat} {fv : Value} {fr : List Nat} {a : Ar α} (hn : a.us.length = n) (h : IsAr cells k tA tS w B (.slice (some ⟨gb, 0, none⟩) n c) fv fr a) (i : Nat) (hi : i < n) (x : α) :
    ArT cells k tA tS w (setCells w gb (i * (k + 2) + 2) (cells x)) B (bsOf B (.slice (some ⟨gb, 0, none⟩) n c) fv) (a.set i x) := by
  have hgB : gb ≠ B := h.ne1 gb rfl
  have ht : Tn [gb] w (setCells w gb (i * (k + 2) + 2) (cells x)) := setCells_tn _ _
  refine ⟨_, ⟨_, fv, fr, rfl, ?_⟩, ht.mono (by intro y hy; simp at hy; subst hy; exact mem_bsOf.2 (.inr (.inl rfl))), fun b hb => .inl hb⟩
  exact {
    wt := ⟨h.wt.blk.tn ht (by simp; omega), h.wt.row.tn ht (fun k hk hm => by simp at hm; subst hm; exact h.ne2 k rfl hk), h.wt.ne, h.wt.len⟩
    row := row_value K hn h.row i hi x
    ne1 := h.ne1
    ne2 := h.ne2
    hp := h.hp
    perm := by
      show fr.Perm (freeOf (a.us.set i ⟨(slAt a.us i).gen, (slAt a.us i).given, x⟩))
      rw [freeOf_same (s := ⟨(slAt a.us i).gen, (slAt a.us i).given, x⟩) (by omega) rfl]
      exact h.perm
    le := by
      show (a.us.set i _).length ≤ a.size
      rw [List.length_set]
      exact h.le
    s1 := h.s1
    s2 := h.s2 }

/-- A slot is taken back, in memory: ahead of its waiting. -/
theorem IsAr.clear (K : Knd cells k) {w w' : World} {B gb c n : Nat} {fv : Value} {fr : List Nat} {a : Ar α} (hn : a.us.length = n) (h : IsAr cells k tA tS w B (.slice (some ⟨gb, 0, none⟩) n c) fv fr a) (i : Nat) (hi : i < n) (g : Int) (z : α)
    (hw : w' = setCells w gb (i * (k + 2)) (slc cells ⟨g, false, z⟩)) :
    w'.ownsRow 0 tS (k + 2) (.slice (some ⟨gb, 0, none⟩) n c) (a.us.set i ⟨g, false, z⟩).length (flat (slc cells) (a.us.set i ⟨g, false, z⟩)) ∧ Wt w' B tA (.int .i64 a.size) (.slice (some ⟨gb, 0, none⟩) n c) (.int .i64 a.stale) fv fr ∧ Tn [gb] w w' := by
  have hgB : gb ≠ B := h.ne1 gb rfl
  have ht : Tn [gb] w w' := by
    rw [hw]
    exact setCells_tn _ _
  refine ⟨by rw [hw]; exact row_write K hn h.row i hi ⟨g, false, z⟩, ?_, ht⟩
  exact ⟨h.wt.blk.tn ht (by simp; omega), h.wt.row.tn ht (fun k hk hm => by simp at hm; subst hm; exact h.ne2 k rfl hk), h.wt.ne, h.wt.len⟩

/-- .. and behind. -/
theorem free_end {w w2 w3 w4 : World} {B gb c n : Nat} {fv : Value} {fr : List Nat} {a : Ar α} {i : Nat} {z : α} (hn : a.us.length = n) (h : IsAr cells k tA tS w2 B (.slice (some ⟨gb, 0, none⟩) n c) fv fr a) (hi : i < n) (hgv : (slAt a.us i).given = true)
    (h0 : Tn [] w w2) (hrow : w3.ownsRow 0 tS (k + 2) (.slice (some ⟨gb, 0, none⟩) n c) (a.us.set i ⟨(slAt a.us i).gen, false, z⟩).length (flat (slc cells) (a.us.set i ⟨(slAt a.us i).gen, false, z⟩))) (ht3 : Tn [gb] w2 w3)
    (hw4 : Waits w3 w4 B tA (.int .i64 a.size) (.slice (some ⟨gb, 0, none⟩) n c) (.int .i64 a.stale) fv (fun l' => l'.Perm (fr ++ [i]))) :
    ArT cells k tA tS w w4 B (bsOf B (.slice (some ⟨gb, 0, none⟩) n c) fv) (a.free i z) := by
  obtain ⟨fv', fr', hwt, hp, hperm, ht4, hnw⟩ := hw4
  have hgB : gb ≠ B := h.ne1 gb rfl
  have hgf : fv.ownBlock ≠ some gb := h.ne2 gb rfl
  have hlt : gb < w2.heap.size := row_block h.row gb rfl
  have hne' : fv'.ownBlock ≠ some gb := by
    intro e
    rcases hnw gb e with h1 | h1
    · exact hgf h1
    · have := ht3.size
      omega
  refine ⟨bsOf B (.slice (some ⟨gb, 0, none⟩) n c) fv', ⟨_, fv', fr', rfl, ?_⟩, ?_, ?_⟩
  · exact {
      wt := hwt
      row := owns_tn hrow ht4 (fun k hk hm => by
        cases hk
        simp only [List.mem_cons, opt_toList] at hm
        rcases hm with hm | hm
        · exact hgB hm
        · exact hgf hm)
      ne1 := h.ne1
      ne2 := fun k hk => by cases hk; exact hne'
      hp := hp
      perm := hperm.trans ((List.Perm.append_right _ h.perm).trans (freeOf_free (by omega) rfl hgv))
      le := by
        show (a.us.set i _).length ≤ a.size
        rw [List.length_set]
        exact h.le
      s1 := h.s1
      s2 := h.s2 }
  · refine ((h0.mono (by simp)).trans ht3 ?_).trans ht4 ?_
    · intro x hx
      simp at hx
      subst hx
      exact .inl (mem_bsOf.2 (.inr (.inl rfl)))
    · intro x hx
      simp only [List.mem_cons, opt_toList] at hx
      rcases hx with rfl | hx
      · exact .inl (mem_bsOf.2 (.inl rfl))
      · exact .inl (mem_bsOf.2 (.inr (.inr hx)))
  · intro b hb
    rcases mem_bsOf.1 hb with rfl | hb | hb
    · exact .inl (mem_bsOf.2 (.inl rfl))
    · exact .inl (mem_bsOf.2 (.inr (.inl hb)))
    · rcases hnw b hb with h1 | h1
      · exact .inl (mem_bsOf.2 (.inr (.inr h1)))
      · exact .inr (Nat.le_trans h0.size (Nat.le_trans ht3.size h1))

theorem wait_box {w w' : World} {B b : Nat} {t u : TypeId} {c0 c1 c3 v : Value} {P : List Nat → Prop} {cs : Array Value} (hw : Waits w w' B t c0 c1 c3 v P) (hk : Bk w b u cs) (hb : b ≠ B) (hv : v.ownBlock ≠ some b) : Bk w' b u cs := by
  obtain ⟨_, _, _, _, _, ht, _⟩ := hw
  refine hk.tn ht ?_
  simp only [List.mem_cons, opt_toList, not_or]
  exact ⟨hb, hv⟩

theorem put_end (K : Knd cells k) {w w1 w3 w4 w5 : World} {B R : Nat} {uv fv : Value} {fr' : List Nat} {a : Ar α} {g' n' c' : Nat} {fv' : Value} {z x : α} (hR : w.heap.size ≤ R) (hn : (opened a.us z).length = n') (h1 : 1 ≤ a.size) (h2 : a.size ≤ 65536) (hl : n' ≤ a.size)
    (ht1 : Tn [] w w1) (hm : Mid cells k tA tS w3 B (.slice (some ⟨g', 0, none⟩) n' c') fv' fr' a.size a.stale (opened a.us z) (low a.us)) (ht3 : Tn (bsOf B uv fv) w1 w3) (hn1 : Nw w1 uv (.slice (some ⟨g', 0, none⟩) n' c')) (hn2 : Nw w1 fv fv')
    (hw4 : w4 = setCells w3 g' (low a.us * (k + 2)) (slc cells ⟨a.gen, true, x⟩)) (ht5 : Tn [R] w4 w5) (hRb : R ∉ bsOf B (.slice (some ⟨g', 0, none⟩) n' c') fv') :
    ArT cells k tA tS w w5 B (bsOf B uv fv) (a.put x) := by
  obtain ⟨h4, ht4⟩ := hm.give hn K ⟨a.gen, true, x⟩ rfl h1 h2 hl hw4
  have e : (⟨a.size, (opened a.us z).set (low a.us) ⟨a.gen, true, x⟩, a.stale⟩ : Ar α) = a.put x := by
    rw [opened_set]
    rfl
  rw [e] at h4
  refine ⟨_, ⟨_, _, _, rfl, h4.tn ht5 (fun b hb hm => by simp at hm; subst hm; exact hRb hb)⟩, ?_, ?_⟩
  · refine (((ht1.mono (by simp)).trans ht3 (fun x hx => .inl hx)).trans ht4 ?_).trans ht5 ?_
    · intro y hy
      simp at hy
      subst hy
      rcases hn1 y rfl with h | h
      · exact .inl (mem_bsOf.2 (.inr (.inl h)))
      · exact .inr (Nat.le_trans ht1.size h)
    · intro y hy
      simp at hy
      subst hy
      exact .inr hR
  · intro b hb
    rcases mem_bsOf.1 hb with rfl | hb | hb
    · exact .inl (mem_bsOf.2 (.inl rfl))
    · rcases hn1 b hb with h | h
      · exact .inl (mem_bsOf.2 (.inr (.inl h)))
      · exact .inr (Nat.le_trans ht1.size h)
    · rcases hn2 b hb with h | h
      · exact .inl (mem_bsOf.2 (.inr (.inr h)))
      · exact .inr (Nat.le_trans ht1.size h)

theorem opened_len {us : List (Sl α)} {n : Nat} (z : α) (hl : us.length ≤ n) (hlt : live us < n) : (opened us z).length ≤ n := by
  unfold opened
  split
  · exact hl
  · rename_i h
    have h1 : low us = us.length := by have := low_le us; omega
    have : live us = us.length := by
      unfold live
      rw [List.countP_eq_length]
      intro s hs
      unfold low at h1
      have := List.findIdx_eq_length.1 h1 s hs
      simpa using this
    simp
    omega


end Go.Proofs.YtoehlgigidgfpaaGreat

namespace Go.Proofs.YtoehlgigidgfpaaGreat
open Go.RowKit
set_option linter.unusedVariables false
set_option maxRecDepth 100000
set_option linter.unusedSectionVars false
set_option linter.unusedSimpArgs false
variable [Inhabited Nod]

theorem sl_size : (Tryz.prog.info? 151).map (·.size) = some 23 := by kernel_rfl

/-- A slot of the row may be written. -/
theorem slot_there {w : World} {tS : TypeId} {us : List (Sl Nod)} {g n c : Nat} (hn : us.length = n) (h : w.ownsRow 0 tS 23 (.slice (some ⟨g, 0, none⟩) n c) us.length (flat (slc Nod.cells) us)) (i : Nat) (hi : i < n) : w.there g (i * 23) 23 := fun j hj => by
  have hl : (slc Nod.cells (slAt us i)).length = 23 := (slK ndK).len _
  obtain ⟨v, hv⟩ : ∃ v, (slc Nod.cells (slAt us i))[j]? = some v := ⟨_, List.getElem?_eq_getElem (by omega)⟩
  have := row_cells ndK hn h i hi j v hv
  exact ⟨by rw [this]; rfl, row_frozen hn h _⟩

theorem staleN {w : World} {B : Nat} {bs : List Nat} {a : Ar Nod} (h : Arn Nod.cells 21 tAN tSN w B bs a) : Calls Tryz.prog 15 #[.pointer (some ⟨B, 0, none⟩)] w fun e w' => e = .returned (.int .i64 a.stale) ∧ w' = w := by
  obtain ⟨uv, fv, fr, -, h⟩ := h
  obtain ⟨c0, c1, c2, c3⟩ := h.four
  have hs1 := h.s1
  clear h
  go_enter Tryz.func15, Tryz.ntmps15
  go_wp2_with fail
  refine (madeN c0 hs1).mono ?_
  rintro e w1 ⟨rfl, rfl⟩
  go_wp2_with fail
  refine (load_any c3).mono ?_
  rintro e w1 ⟨rfl, rfl⟩
  go_wp2
  go_ret
  exact ⟨rfl, rfl⟩

set_option maxHeartbeats 1000000 in
theorem freeBadN {w : World} {B : Nat} {bs : List Nat} {a : Ar Nod} (h : Arn Nod.cells 21 tAN tSN w B bs a) (s g : Int) (hg : ¬ a.Good s g) (hs0 : 0 ≤ a.stale) (hs9 : a.stale < 9223372036854775807) :
    Calls Tryz.prog 69 #[.pointer (some ⟨B, 0, none⟩), .agg #[.int .i64 s, .int .i64 g]] w fun e w' => e = .returned (.int .i64 7) ∧ ArT Nod.cells 21 tAN tSN w w' B bs a.bad := by
  have HG : Hid (¬ a.Good s g) := hg
  obtain ⟨uv, fv, fr, rfl, h⟩ := h
  obtain ⟨w1, hw1, hz1, hb1, h', hk, -, -⟩ := h.boxed s g
  have HI : Hid (Arn Nod.cells 21 tAN tSN w1 B (bsOf B uv fv) a) := ⟨_, _, _, rfl, h'⟩
  have HB : Hid (Tn [] w w1) := Tn.of_below hb1 []
  have k0 := hk.cell 0
  have k1 := hk.cell 1
  simp only [List.getElem?_toArray, List.getElem?_cons_zero, List.getElem?_cons_succ] at k0 k1
  clear h h' hk hb1 hg
  go_enter Tryz.func69, Tryz.ntmps69
  go_wp2_with fail
  refine (checkBadN HI.out s g HG.out hs0 hs9).mono ?_
  rintro e w3 ⟨rfl, ht⟩
  have HT : Hid (ArT Nod.cells 21 tAN tSN w w3 B (bsOf B uv fv) a.bad) := ArT.pre HB.out ht
  clear ht HI HB HG
  go_wp2
  go_ret
  exact ⟨rfl, HT.out⟩

set_option maxHeartbeats 2000000 in
theorem freeGoodN {w : World} {B : Nat} {bs : List Nat} {a : Ar Nod} (h : Arn Nod.cells 21 tAN tSN w B bs a) (s g : Int) (hg : a.Good s g) :
    Calls Tryz.prog 69 #[.pointer (some ⟨B, 0, none⟩), .agg #[.int .i64 s, .int .i64 g]] w fun e w' => e = .returned (.int .i64 0) ∧ ArT Nod.cells 21 tAN tSN w w' B bs (a.free s.toNat Nod.zero) := by
  obtain ⟨uv, fv, fr, rfl, h⟩ := h
  have HG : Hid (a.Good s g) := hg
  obtain ⟨h0, h1, hgv, hge⟩ := hg
  obtain ⟨i, rfl⟩ : ∃ i : Nat, s = (i : Int) := ⟨s.toNat, by omega⟩
  have hi : i < a.us.length := by omega
  rw [Int.toNat_natCast] at hgv hge ⊢
  obtain ⟨gb, c, rfl⟩ := row_some h.row (by omega)
  obtain ⟨w1, hw1, hz1, hb1, h', hk, -, -⟩ := h.boxed (i : Int) g
  have HI : Hid (IsAr Nod.cells 21 tAN tSN w1 B (.slice (some ⟨gb, 0, none⟩) a.us.length c) fv fr a) := h'
  have HK : Hid (Bk w1 w.heap.size 31 #[.int .i64 (i : Int), .int .i64 g]) := hk
  have HB : Hid (Below w.heap.size w w1) := hb1
  have k0 := hk.cell 0
  have k1 := hk.cell 1
  simp only [List.getElem?_toArray, List.getElem?_cons_zero, List.getElem?_cons_succ] at k0 k1
  have hlen : a.us.length ≤ 65536 := Nat.le_trans h.le h.s2
  have HGB : Hid (gb < w.heap.size) := row_block h.row gb rfl
  have HLT : Hid (w.heap.size ≠ B ∧ fv.ownBlock ≠ some w.heap.size) := ⟨fun e => by have := h.wt.blk.lt; omega, fun e => by have := row_block h.wt.row _ e; omega⟩
  have HFL : Hid (fr.length < 65536) := by
    have h1 := h.frlen
    have h2 : 0 < live a.us := by
      unfold live
      rw [List.countP_pos_iff]
      refine ⟨slAt a.us i, ?_, hgv⟩
      simp [slAt, List.getD, hi]
    unfold Hid
    omega
  clear h h' hk hb1
  have HGV : Hid ((slAt a.us i).given = true) := hgv
  have HGE : Hid ((slAt a.us i).gen = g) := hge
  clear hgv hge
  go_enter Tryz.func69, Tryz.ntmps69
  go_wp2_with fail
  refine (checkGoodN ⟨_, _, _, rfl, HI.out⟩ (i : Int) g HG.out).mono ?_
  rintro e w2 ⟨rfl, hb2⟩
  have ht2 : Tn [] w1 w2 := Tn.of_below hb2 []
  have HI2 : Hid (IsAr Nod.cells 21 tAN tSN w2 B (.slice (some ⟨gb, 0, none⟩) a.us.length c) fv fr a) := HI.out.tn ht2 (by simp)
  have HT2 : Hid (Tn [] w w2) := (Tn.of_below HB.out []).trans ht2 (by simp)
  have HTH : Hid (w2.drew.there gb (i * 23) 23) := slot_there rfl (HI2.out.tn (Tn.refl [] _).drew (by simp)).row i hi
  obtain ⟨c0, c1, c2, c3⟩ := HI2.out.four
  have HK2 : Hid (Bk w2 w.heap.size 31 #[.int .i64 (i : Int), .int .i64 g]) := HK.out.tn ht2 (by simp)
  have k2 : w2.cell? ⟨w.heap.size, 0, none⟩ = some (.int .i64 (i : Int)) := HK2.out.cell 0
  have k3 : w2.cell? ⟨w.heap.size, 1, none⟩ = some (.int .i64 g) := HK2.out.cell 1
  clear ht2 hb2 HI HK HB HG
  generalize hnn : a.us.length = n at *
  go_wp2_with fail
  refine wp_region_mid (S := fun w' => w' = w2.drew) 10 (by kernel_rfl) ?_
  refine wpAnyM_take (i := 0) [] (oi := { dst := some 12, op := Op.move (Operand.tmp 0), type := 23, pos := _, after := #[], guard := none }) (v := ?_) rfl (by kernel_rfl) (by kernel_rfl) (by kernel_rfl) (by kernel_rfl) (fun _ _ _ h => h) (Or.inl ⟨by rfl, ?_⟩) rfl ?_
  rotate_left
  · (intro w' hSw; subst hSw; go_simp; try with_reducible rfl)
  try simp only [Act.put, List.setIfInBounds_toArray, List.set_cons_zero, List.set_cons_succ]
  refine wpAnyM_take (i := 1) [] (oi := { dst := some 13, op := Op.nilCheck (Operand.tmp 12), type := 0, pos := _, after := #[{ on := 0, ground := Ground.data }], guard := none }) (v := ?_) rfl (by kernel_rfl) (by kernel_rfl) (by kernel_rfl) (by kernel_rfl) (fun _ _ _ h => h) (Or.inl ⟨by rfl, ?_⟩) rfl ?_
  rotate_left
  · (intro w' hSw; subst hSw; go_simp; try with_reducible rfl)
  try simp only [Act.put, List.setIfInBounds_toArray, List.set_cons_zero, List.set_cons_succ]
  refine wpAnyM_take (i := 2) [] (oi := { dst := some 14, op := Op.fieldAddr 101 (Operand.tmp 13) 1, type := 0, pos := _, after := #[{ on := 1, ground := Ground.data }], guard := none }) (v := ?_) rfl (by kernel_rfl) (by kernel_rfl) (by kernel_rfl) (by kernel_rfl) (fun _ _ _ h => h) (Or.inl ⟨by rfl, ?_⟩) rfl ?_
  rotate_left
  · (intro w' hSw; subst hSw; go_simp; try with_reducible rfl)
  try simp only [Act.put, List.setIfInBounds_toArray, List.set_cons_zero, List.set_cons_succ]
  refine wpAnyM_take (i := 3) [] (oi := { dst := some 15, op := Op.load 92 (Operand.tmp 14), type := 92, pos := _, after := #[{ on := 2, ground := Ground.data }], guard := none }) (v := ?_) rfl (by kernel_rfl) (by kernel_rfl) (by kernel_rfl) (by kernel_rfl) (fun _ _ _ h => h) (Or.inl ⟨by rfl, ?_⟩) rfl ?_
  rotate_left
  · (intro w' hSw; subst hSw; go_simp; try with_reducible rfl)
  try simp only [Act.put, List.setIfInBounds_toArray, List.set_cons_zero, List.set_cons_succ]
  refine wpAnyM_take (i := 4) [] (oi := { dst := some 16, op := Op.fieldAddr 31 (Operand.tmp 3) 0, type := 0, pos := _, after := #[], guard := none }) (v := ?_) rfl (by kernel_rfl) (by kernel_rfl) (by kernel_rfl) (by kernel_rfl) (fun _ _ _ h => h) (Or.inl ⟨by rfl, ?_⟩) rfl ?_
  rotate_left
  · (intro w' hSw; subst hSw; go_simp; try with_reducible rfl)
  try simp only [Act.put, List.setIfInBounds_toArray, List.set_cons_zero, List.set_cons_succ]
  refine wpAnyM_take (i := 5) [] (oi := { dst := some 17, op := Op.load 3 (Operand.tmp 16), type := 3, pos := _, after := #[{ on := 4, ground := Ground.data }], guard := none }) (v := ?_) rfl (by kernel_rfl) (by kernel_rfl) (by kernel_rfl) (by kernel_rfl) (fun _ _ _ h => h) (Or.inl ⟨by rfl, ?_⟩) rfl ?_
  rotate_left
  · (intro w' hSw; subst hSw; go_simp; try with_reducible rfl)
  try simp only [Act.put, List.setIfInBounds_toArray, List.set_cons_zero, List.set_cons_succ]
  refine wpAnyM_take (i := 6) [] (oi := { dst := some 18, op := Op.fieldAddr 31 (Operand.tmp 3) 1, type := 0, pos := _, after := #[], guard := none }) (v := ?_) rfl (by kernel_rfl) (by kernel_rfl) (by kernel_rfl) (by kernel_rfl) (fun _ _ _ h => h) (Or.inl ⟨by rfl, ?_⟩) rfl ?_
  rotate_left
  · (intro w' hSw; subst hSw; go_simp; try with_reducible rfl)
  try simp only [Act.put, List.setIfInBounds_toArray, List.set_cons_zero, List.set_cons_succ]
  refine wpAnyM_take (i := 7) [] (oi := { dst := some 19, op := Op.load 2 (Operand.tmp 18), type := 2, pos := _, after := #[{ on := 6, ground := Ground.data }], guard := none }) (v := ?_) rfl (by kernel_rfl) (by kernel_rfl) (by kernel_rfl) (by kernel_rfl) (fun _ _ _ h => h) (Or.inl ⟨by rfl, ?_⟩) rfl ?_
  rotate_left
  · (intro w' hSw; subst hSw; go_simp; try with_reducible rfl)
  try simp only [Act.put, List.setIfInBounds_toArray, List.set_cons_zero, List.set_cons_succ]
  refine wpAnyM_take (i := 8) [] (oi := { dst := some 20, op := Op.build 151 #[(0, Operand.tmp 19)], type := 151, pos := _, after := #[{ on := 7, ground := Ground.data }], guard := none }) (v := ?_) rfl (by kernel_rfl) (by kernel_rfl) (by kernel_rfl) (by kernel_rfl) (fun _ _ _ h => h) (Or.inl ⟨by rfl, ?_⟩) rfl ?_
  rotate_left
  · (intro w' hSw; subst hSw; go_simp; try with_reducible rfl)
  try simp only [Act.put, List.setIfInBounds_toArray, List.set_cons_zero, List.set_cons_succ]
  refine wpAnyM_take (i := 9) [] (oi := { dst := some 21, op := Op.indexAddr 92 (Operand.tmp 15) (Operand.tmp 17), type := 0, pos := _, after := #[{ on := 3, ground := Ground.data }, { on := 5, ground := Ground.data }, { on := 0, ground := Ground.phase }, { on := 1, ground := Ground.phase }, { on := 2, ground := Ground.phase }, { on := 3, ground := Ground.phase }, { on := 4, ground := Ground.phase }, { on := 5, ground := Ground.phase }, { on := 6, ground := Ground.phase }, { on := 7, ground := Ground.phase }, { on := 8, ground := Ground.phase }], guard := none }) (v := ?_) rfl (by kernel_rfl) (by kernel_rfl) (by kernel_rfl) (by kernel_rfl) (fun _ _ _ h => h) (Or.inl ⟨by rfl, ?_⟩) rfl ?_
  rotate_left
  · (intro w' hSw; subst hSw; go_simp; try with_reducible rfl)
  try simp only [Act.put, List.setIfInBounds_toArray, List.set_cons_zero, List.set_cons_succ]
  refine wpAnyM_ready (rs := [10]) (by kernel_rfl) (by simp) ?_
  refine AllReadyM.cons (o := { dst := none, op := Op.store 151 (Operand.tmp 21) (Operand.tmp 20), type := 0, pos := _, after := #[{ on := 9, ground := Ground.data }, { on := 8, ground := Ground.data }, { on := 0, ground := Ground.phase }, { on := 1, ground := Ground.phase }, { on := 2, ground := Ground.phase }, { on := 3, ground := Ground.phase }, { on := 4, ground := Ground.phase }, { on := 5, ground := Ground.phase }, { on := 6, ground := Ground.phase }, { on := 7, ground := Ground.phase }, { on := 8, ground := Ground.phase }], guard := none }) rfl (fun K hK => ?_) AllReadyM.nil
  rw [if_pos (by rfl)]
  refine wp_store_mid (w := w2.drew) _ _ _ rfl gb (i * 23) #[.int .i64 g, .bool false, .bool false, .bool false, .string ⟨#[]⟩, .string ⟨#[]⟩, .int .i64 0, .slice none 0 0, .int .i64 0, .string ⟨#[]⟩, .int .i64 0, .int .i64 0, .int .i64 0, .string ⟨#[]⟩, .int .i64 0, .bool false, .string ⟨#[]⟩, .string ⟨#[]⟩, .int .i64 0, .slice none 0 0, .int .i64 0, .int .i64 0, .int .i64 0] (by rfl) (by rfl) HTH.out sl_size (all_oneCell_toArray (cs := slc Nod.cells ⟨g, false, Nod.zero⟩) ((slK ndK).one _)) (hK _ _ ⟨fun h => absurd h (by omega), ?_⟩)
  clear hK K
  try simp only [Act.put, List.setIfInBounds_toArray, List.set_cons_zero, List.set_cons_succ]
  refine wpAnyM_done (by kernel_rfl) ?_ _
  obtain ⟨w3, hw3⟩ : ∃ w3, w3 = w2.drew.setCells gb (i * 23) [.int .i64 g, .bool false, .bool false, .bool false, .string ⟨#[]⟩, .string ⟨#[]⟩, .int .i64 0, .slice none 0 0, .int .i64 0, .string ⟨#[]⟩, .int .i64 0, .int .i64 0, .int .i64 0, .string ⟨#[]⟩, .int .i64 0, .bool false, .string ⟨#[]⟩, .string ⟨#[]⟩, .int .i64 0, .slice none 0 0, .int .i64 0, .int .i64 0, .int .i64 0] := ⟨_, rfl⟩
  rw [← hw3]
  obtain ⟨hr3, hwt3, ht3⟩ := (HI2.out.tn (Tn.refl [] w2).drew (by simp)).clear ndK hnn i hi g Nod.zero (hw3.trans (setCells_eq gb _ _ _))
  have HW3 : Hid (Wt w3.drew B tAN (.int .i64 a.size) (.slice (some ⟨gb, 0, none⟩) n c) (.int .i64 a.stale) fv fr) := ⟨hwt3.blk, hwt3.row, hwt3.ne, hwt3.len⟩
  have HR3 : Hid (w3.drew.ownsRow 0 tSN 23 (.slice (some ⟨gb, 0, none⟩) n c) (a.us.set i ⟨(slAt a.us i).gen, false, Nod.zero⟩).length (flat (slc Nod.cells) (a.us.set i ⟨(slAt a.us i).gen, false, Nod.zero⟩))) := by rw [HGE.out]; exact hr3
  have HT3 : Hid (Tn [gb] w2 w3.drew) := (((Tn.refl [gb] w2).drew).trans ht3 (fun x hx => .inl hx)).drew
  have HK3 : Hid (Bk w3.drew w.heap.size 31 #[.int .i64 (i : Int), .int .i64 g]) := HK2.out.tn HT3.out (by have := HGB.out; simp; omega)
  have k4 : w3.cell? ⟨w.heap.size, 0, none⟩ = some (.int .i64 (i : Int)) := HK3.out.cell 0
  clear hr3 hwt3 ht3 hw3 c0 c1 c2 c3 k0 k1 k2 k3 hw1 HTH
  go_wp2_with fail
  go_region_held3 (fun w' => w'.cell? ⟨w.heap.size, 0, none⟩ = some (.int .i64 (i : Int))) (go_keep) (first | (go_at_call 105; refine (add_any HW3.out HI2.out.hp i HFL.out).mono ?_; rintro e w4 ⟨rfl, hw4⟩; have k5 : w4.cell? ⟨w.heap.size, 0, none⟩ = some (.int .i64 (i : Int)) := (wait_box hw4 HK3.out HLT.out.1 HLT.out.2).cell 0))
  have HE : Hid (ArT Nod.cells 21 tAN tSN w w4 B (bsOf B (.slice (some ⟨gb, 0, none⟩) n c) fv) (a.free i Nod.zero)) := free_end hnn HI2.out hi HGV.out HT2.out HR3.out HT3.out hw4
  rw [← hnn] at HE
  clear HI2 HW3 HR3 HT3 HK2 HK3 hw4 k4 k5
  go_wp2
  go_ret
  exact ⟨rfl, HE.out⟩
end Go.Proofs.YtoehlgigidgfpaaGreat

namespace Go.Proofs.YtoehlgigidgfpaaGreat
open Go.RowKit
set_option linter.unusedVariables false
set_option maxRecDepth 100000
set_option linter.unusedSectionVars false
set_option linter.unusedSimpArgs false
variable [Inhabited Nod]

theorem setCells_two (w : World) (b o : Nat) (u v : Value) (l : List Value) : setCells w b o (u :: v :: l) = setCells ((w.setCell ⟨b, o, none⟩ u).setCell ⟨b, o + 1, none⟩ v) b (o + 2) l := rfl
theorem drew_two (w : World) (p q : Addr) (u v : Value) : ((w.setCell p u).setCell q v).drew = (w.drew.setCell p u).setCell q v := rfl

theorem mid_drew {w : World} {B : Nat} {uv fv : Value} {fr : List Nat} {size : Nat} {stale : Int} {us : List (Sl Nod)} {i : Nat} (h : Mid Nod.cells 21 tAN tSN w B uv fv fr size stale us i) : Mid Nod.cells 21 tAN tSN w.drew B uv fv fr size stale us i :=
  ⟨⟨h.wt.blk, h.wt.row.tn (Tn.refl [] w).drew (by simp), h.wt.ne, h.wt.len⟩, owns_tn h.row (Tn.refl [] w).drew (by simp), h.ne1, h.ne2, h.hp, h.perm, h.hi⟩

/-- A handle and an error are answered. -/
theorem results_hndN {fn : Func} {t u : Tmp} (h : fn.results = #[.cell t 31, .tmp u]) {tmps : Array Value} {w : World} {b : Nat} (ht : tmps.getD t undef = .pointer (some ⟨b, 0, none⟩)) {s g : Int} (hk : Bk w b 31 #[.int .i64 s, .int .i64 g]) :
    (results fn tmps).run Tryz.prog w = .ok (.tuple #[.agg #[.int .i64 s, .int .i64 g], tmps.getD u undef]) w := by
  have c0 : w.cell? ⟨b, 0, none⟩ = some (.int .i64 s) := hk.cell 0
  have c1 : w.cell? ⟨b, 1, none⟩ = some (.int .i64 g) := hk.cell 1
  have hz : ∀ w : World, (loadVar 31 ⟨b, 0, none⟩).run Tryz.prog w = (do let x ← load ⟨b, 0, none⟩; let y ← load ⟨b, 1, none⟩; pure (.agg #[x, y]) : Sem Value).run Tryz.prog w := fun w => by kernel_rfl
  have hl : (loadVar 31 ⟨b, 0, none⟩).run Tryz.prog w = .ok (.agg #[.int .i64 s, .int .i64 g]) w := by
    rw [hz]
    simp [c0, c1]
  have ht' : tmps[t]?.getD undef = .pointer (some ⟨b, 0, none⟩) := by simpa using ht
  simp [results, h, ht', asAddr, hl]

set_option maxHeartbeats 1000000 in
theorem putFullN {w : World} {B : Nat} {bs : List Nat} {a : Ar Nod} (h : Arn Nod.cells 21 tAN tSN w B bs a) (x : Nod) (hf : live a.us = a.size) :
    Calls Tryz.prog 50 #[.pointer (some ⟨B, 0, none⟩), x.v] w fun e w' => e = .returned (.tuple #[.agg #[.int .i64 0, .int .i64 0], .int .i64 5]) ∧ Below w.heap.size w w' := by
  obtain ⟨uv, fv, fr, rfl, h⟩ := h
  obtain ⟨wx, hwx, hzx, hbx, hkx⟩ : ∃ wx, w.alloc (.cells #[.bool x.b, .bool x.P.g.leaf, .string x.P.g.lo, .string x.P.g.hi, .int .i64 x.P.g.r, .slice x.P.p x.P.n x.P.c, .int .i64 x.D.d.k, .string x.D.d.e.key, .int .i64 x.D.d.e.s, .int .i64 x.D.d.e.g, .int .i64 x.D.d.e.c, .string x.D.d.key, .int .i64 x.D.d.pg, .bool x.D.d.rt.leaf, .string x.D.d.rt.lo, .string x.D.d.rt.hi, .int .i64 x.D.d.rt.r, .slice x.D.p x.D.n x.D.c, .int .i64 x.s, .int .i64 x.g, .int .i64 x.long] 37) = wx ∧ wx.heap.size = w.heap.size + 1 ∧ Below w.heap.size w wx ∧ Bk wx w.heap.size 37 #[.bool x.b, .bool x.P.g.leaf, .string x.P.g.lo, .string x.P.g.hi, .int .i64 x.P.g.r, .slice x.P.p x.P.n x.P.c, .int .i64 x.D.d.k, .string x.D.d.e.key, .int .i64 x.D.d.e.s, .int .i64 x.D.d.e.g, .int .i64 x.D.d.e.c, .string x.D.d.key, .int .i64 x.D.d.pg, .bool x.D.d.rt.leaf, .string x.D.d.rt.lo, .string x.D.d.rt.hi, .int .i64 x.D.d.rt.r, .slice x.D.p x.D.n x.D.c, .int .i64 x.s, .int .i64 x.g, .int .i64 x.long] := ⟨_, rfl, by simp, (Below.refl _ w).alloc (Nat.le_refl _) _, Bk.new _ _ _⟩
  have hbo := (h.tn (Tn.of_below hbx []) (by simp)).boxed 0 0
  rw [hzx] at hbo
  obtain ⟨w1, hw1, hz1, hb1, h', hk, -, -⟩ := hbo
  have tx1 : Tn [] wx w1 := by rw [← hw1]; exact (Tn.refl _ _).alloc _
  obtain ⟨c0, c1, c2, c3⟩ := h'.four
  have hs1 := h.s1
  have hs2 := h.s2
  have HA : Hid (Arn Nod.cells 21 tAN tSN w1.drew B (bsOf B uv fv) a) := ⟨_, _, _, rfl, h'.tn (Tn.refl [] w1).drew (by simp)⟩
  have HK : Hid (Bk w1.drew (w.heap.size + 1) 31 #[.int .i64 0, .int .i64 0]) := hk
  have HB : Hid (Below w.heap.size w w1.drew) := (hbx.trans (hb1.mono (Nat.le_succ _))).drew
  clear h h' hk hb1 hbx hkx tx1
  go_enter Tryz.func50, Tryz.ntmps50
  go_wp2_with fail
  refine (madeN c0 hs1).mono ?_
  rintro e w2 ⟨rfl, rfl⟩
  go_wp2_with fail
  go_region_held3 (fun w' => w'.cell? ⟨B, 0, none⟩ = some (.int .i64 a.size)) (go_keep) (first | (go_at_call 13; refine (liveN HA.out).mono ?_; rintro e w3 ⟨rfl, ht3⟩; have k5 : w3.cell? ⟨B, 0, none⟩ = some (.int .i64 a.size) := by (obtain ⟨_, _, _, _, hi⟩ := HA.out.tn ht3 (by simp); exact hi.four.1)))
  have HK3 := HK.out.tn ht3 (by simp)
  have d0 : w3.cell? ⟨w.heap.size + 1, 0, none⟩ = some (.int .i64 0) := HK3.cell 0
  have d1 : w3.cell? ⟨w.heap.size + 1, 1, none⟩ = some (.int .i64 0) := HK3.cell 1
  have e0 : w3.frozen? ⟨w.heap.size + 1, 0, none⟩ = false := HK3.frozen 0
  have e1 : w3.frozen? ⟨w.heap.size + 1, 1, none⟩ = false := HK3.frozen 1
  have HB3 : Hid (Below w.heap.size w w3) := HB.out.trans (ht3.below (Nat.le_refl _) (by simp) |>.mono HB.out.size)
  clear HK HA HB ht3 c0 c1 c2 c3 k5
  go_wp2
  refine bodyPost_ret (results_hndN rfl rfl ((HK3.set 0 _).set 1 _)) rfl ?_
  exact ⟨rfl, (HB3.out.setCell (Nat.le_succ _) _).setCell (Nat.le_succ _) _⟩

set_option maxHeartbeats 2000000 in
theorem putOkN {w : World} {B : Nat} {bs : List Nat} {a : Ar Nod} (h : Arn Nod.cells 21 tAN tSN w B bs a) (x : Nod) (hf : live a.us < a.size) (hg1 : 1 ≤ a.gen) (hg2 : a.gen ≤ 9223372036854775807) :
    Calls Tryz.prog 50 #[.pointer (some ⟨B, 0, none⟩), x.v] w fun e w' => e = .returned (.tuple #[.agg #[.int .i64 (low a.us), .int .i64 a.gen], .int .i64 0]) ∧ ArT Nod.cells 21 tAN tSN w w' B bs (a.put x) := by
  obtain ⟨uv, fv, fr, rfl, h⟩ := h
  obtain ⟨wx, hwx, hzx, hbx, hkx⟩ : ∃ wx, w.alloc (.cells #[.bool x.b, .bool x.P.g.leaf, .string x.P.g.lo, .string x.P.g.hi, .int .i64 x.P.g.r, .slice x.P.p x.P.n x.P.c, .int .i64 x.D.d.k, .string x.D.d.e.key, .int .i64 x.D.d.e.s, .int .i64 x.D.d.e.g, .int .i64 x.D.d.e.c, .string x.D.d.key, .int .i64 x.D.d.pg, .bool x.D.d.rt.leaf, .string x.D.d.rt.lo, .string x.D.d.rt.hi, .int .i64 x.D.d.rt.r, .slice x.D.p x.D.n x.D.c, .int .i64 x.s, .int .i64 x.g, .int .i64 x.long] 37) = wx ∧ wx.heap.size = w.heap.size + 1 ∧ Below w.heap.size w wx ∧ Bk wx w.heap.size 37 #[.bool x.b, .bool x.P.g.leaf, .string x.P.g.lo, .string x.P.g.hi, .int .i64 x.P.g.r, .slice x.P.p x.P.n x.P.c, .int .i64 x.D.d.k, .string x.D.d.e.key, .int .i64 x.D.d.e.s, .int .i64 x.D.d.e.g, .int .i64 x.D.d.e.c, .string x.D.d.key, .int .i64 x.D.d.pg, .bool x.D.d.rt.leaf, .string x.D.d.rt.lo, .string x.D.d.rt.hi, .int .i64 x.D.d.rt.r, .slice x.D.p x.D.n x.D.c, .int .i64 x.s, .int .i64 x.g, .int .i64 x.long] := ⟨_, rfl, by simp, (Below.refl _ w).alloc (Nat.le_refl _) _, Bk.new _ _ _⟩
  have hbo := (h.tn (Tn.of_below hbx []) (by simp)).boxed 0 0
  rw [hzx] at hbo
  obtain ⟨w1, hw1, hz1, hb1, h', hk, -, -⟩ := hbo
  have tx1 : Tn [] wx w1 := by rw [← hw1]; exact (Tn.refl _ _).alloc _
  obtain ⟨c0, c1, c2, c3⟩ := h'.four
  have hs1 := h.s1
  have hs2 := h.s2
  have hle := h.le
  have HLT : Hid (∀ b ∈ bsOf B uv fv, b < w.heap.size) := h.lt
  have HI : Hid (IsAr Nod.cells 21 tAN tSN w1.drew B uv fv fr a) := h'.tn (Tn.refl [] w1).drew (by simp)
  have HK : Hid (Bk w1.drew (w.heap.size + 1) 31 #[.int .i64 0, .int .i64 0]) := hk
  have HX : Hid (Bk w1.drew w.heap.size 37 #[.bool x.b, .bool x.P.g.leaf, .string x.P.g.lo, .string x.P.g.hi, .int .i64 x.P.g.r, .slice x.P.p x.P.n x.P.c, .int .i64 x.D.d.k, .string x.D.d.e.key, .int .i64 x.D.d.e.s, .int .i64 x.D.d.e.g, .int .i64 x.D.d.e.c, .string x.D.d.key, .int .i64 x.D.d.pg, .bool x.D.d.rt.leaf, .string x.D.d.rt.lo, .string x.D.d.rt.hi, .int .i64 x.D.d.rt.r, .slice x.D.p x.D.n x.D.c, .int .i64 x.s, .int .i64 x.g, .int .i64 x.long]) := hkx.tn tx1.drew (by simp)
  have HB : Hid (Below w.heap.size w w1.drew) := (hbx.trans (hb1.mono (Nat.le_succ _))).drew
  clear h h' hk hb1 hbx hkx tx1
  go_enter Tryz.func50, Tryz.ntmps50
  go_wp2_with fail
  refine (madeN c0 hs1).mono ?_
  rintro e w2 ⟨rfl, rfl⟩
  go_wp2_with fail
  go_region_held3 (fun w' => w'.cell? ⟨B, 0, none⟩ = some (.int .i64 a.size)) (go_keep) (first | (go_at_call 13; refine (liveN ⟨_, _, _, rfl, HI.out⟩).mono ?_; rintro e w3 ⟨rfl, ht3⟩; have k5 : w3.cell? ⟨B, 0, none⟩ = some (.int .i64 a.size) := by (exact (HI.out.tn ht3 (by simp)).four.1)))
  have HK3 : Hid (Bk w3 (w.heap.size + 1) 31 #[.int .i64 0, .int .i64 0]) := HK.out.tn ht3 (by simp)
  have HX3 : Hid (Bk w3 w.heap.size 37 #[.bool x.b, .bool x.P.g.leaf, .string x.P.g.lo, .string x.P.g.hi, .int .i64 x.P.g.r, .slice x.P.p x.P.n x.P.c, .int .i64 x.D.d.k, .string x.D.d.e.key, .int .i64 x.D.d.e.s, .int .i64 x.D.d.e.g, .int .i64 x.D.d.e.c, .string x.D.d.key, .int .i64 x.D.d.pg, .bool x.D.d.rt.leaf, .string x.D.d.rt.lo, .string x.D.d.rt.hi, .int .i64 x.D.d.rt.r, .slice x.D.p x.D.n x.D.c, .int .i64 x.s, .int .i64 x.g, .int .i64 x.long]) := HX.out.tn ht3 (by simp)
  have HI3 : Hid (IsAr Nod.cells 21 tAN tSN w3 B uv fv fr a) := HI.out.tn ht3 (by simp)
  have HT3 : Hid (Tn [] w w3) := (Tn.of_below HB.out []).trans ht3 (by simp)
  have hq : ((live a.us : Int) == (a.size : Int)) = false := by simp; omega
  rw [hq]
  clear HK HX HI HB ht3 c0 c1 c2 c3 k5 hq
  go_wp2_with fail
  refine (lowestN HI3.out hf).mono ?_
  rintro e w4 ⟨rfl, uv', fv', fr', hm, ht4, hn1, hn2⟩
  obtain ⟨g', c', rfl⟩ := row_some hm.row (by have := hm.hi; omega)
  have HM : Hid (Mid Nod.cells 21 tAN tSN w4 B (.slice (some ⟨g', 0, none⟩) (opened a.us Nod.zero).length c') fv' fr' a.size a.stale (opened a.us Nod.zero) (low a.us)) := hm
  have hlow : low a.us < (opened a.us Nod.zero).length := hm.hi
  have r0 : w4.cell? ⟨g', low a.us * 23, none⟩ = some (.int .i64 (slAt (opened a.us Nod.zero) (low a.us)).gen) := row_cells ndK rfl hm.row (low a.us) hlow 0 _ rfl
  have r1 : w4.cell? ⟨g', low a.us * 23 + 1, none⟩ = some (.bool (slAt (opened a.us Nod.zero) (low a.us)).given) := row_cells ndK rfl hm.row (low a.us) hlow 1 _ rfl
  have f0 := row_frozen rfl hm.row (low a.us * 23)
  have f1 := row_frozen rfl hm.row (low a.us * 23 + 1)
  have c1 : w4.cell? ⟨B, 1, none⟩ = some (.slice (some ⟨g', 0, none⟩) (opened a.us Nod.zero).length c') := hm.wt.blk.cell 1
  have HK4 : Hid (Bk w4 (w.heap.size + 1) 31 #[.int .i64 0, .int .i64 0]) := HK3.out.tn ht4 (fun hb => by have := HLT.out _ hb; omega)
  have HX4 : Hid (Bk w4 w.heap.size 37 #[.bool x.b, .bool x.P.g.leaf, .string x.P.g.lo, .string x.P.g.hi, .int .i64 x.P.g.r, .slice x.P.p x.P.n x.P.c, .int .i64 x.D.d.k, .string x.D.d.e.key, .int .i64 x.D.d.e.s, .int .i64 x.D.d.e.g, .int .i64 x.D.d.e.c, .string x.D.d.key, .int .i64 x.D.d.pg, .bool x.D.d.rt.leaf, .string x.D.d.rt.lo, .string x.D.d.rt.hi, .int .i64 x.D.d.rt.r, .slice x.D.p x.D.n x.D.c, .int .i64 x.s, .int .i64 x.g, .int .i64 x.long]) := HX3.out.tn ht4 (fun hb => by have := HLT.out _ hb; omega)
  have hnx : g' ≠ w.heap.size := by
    rcases hn1 g' rfl with h | h
    · have := HLT.out g' (mem_bsOf.2 (.inr (.inl h)))
      omega
    · have := HX3.out.lt
      omega
  have hne : g' ≠ w.heap.size + 1 := by
    rcases hn1 g' rfl with h | h
    · have := HLT.out g' (mem_bsOf.2 (.inr (.inl h)))
      omega
    · have := HK3.out.lt
      omega
  have HRB : Hid (w.heap.size + 1 ∉ bsOf B (.slice (some ⟨g', 0, none⟩) (opened a.us Nod.zero).length c') fv') := by
    intro hb
    rcases mem_bsOf.1 hb with h | h | h
    · have := HLT.out B (mem_bsOf.2 (.inl rfl))
      omega
    · cases h
      exact hne rfl
    · rcases hn2 _ h with h1 | h1
      · have := HLT.out _ (mem_bsOf.2 (.inr (.inr h1)))
        omega
      · have := HK3.out.lt
        omega
  have HOL : Hid ((opened a.us Nod.zero).length ≤ a.size) := opened_len _ hle hf
  have hol : (opened a.us Nod.zero).length ≤ 65536 := Nat.le_trans HOL.out hs2
  have hge := opened_gen a Nod.zero
  have HTT : Hid (Tn (bsOf B uv fv) w3 w4 ∧ Nw w3 uv (.slice (some ⟨g', 0, none⟩) (opened a.us Nod.zero).length c') ∧ Nw w3 fv fv') := ⟨ht4, hn1, hn2⟩
  clear hm ht4 hn1 hn2 hw1 hz1 hwx hzx HI3 HK3 HX3
  generalize hG : a.gen = G at *
  generalize (slAt (opened a.us Nod.zero) (low a.us)).gen = g0 at *
  generalize (slAt (opened a.us Nod.zero) (low a.us)).given = b0 at *
  generalize hN : (opened a.us Nod.zero).length = n' at *
  generalize hL : low a.us = L at *
  subst hge
  have hX4 : w4.drew.rangeAt w.heap.size 0 x.cells := fun j v hv => by
    rw [Nat.zero_add, HX4.out.drew.cell j]
    show x.cells.toArray[j]? = some v
    simpa using hv
  have HX : Hid _ := hX4
  have hth : ((w4.setCell ⟨g', L * 23, none⟩ (.int .i64 (g0 + 1))).drew.setCell ⟨g', L * 23 + 1, none⟩ (.bool true)).there g' (L * 23 + 2) x.cells.toArray.size := fun j hj => by
    have hj' : j < 21 := by simpa [x.len] using hj
    obtain ⟨h1, h2⟩ := slot_there hN (mid_drew HM.out).row L hlow (2 + j) (by omega)
    rw [← Nat.add_assoc] at h1 h2
    have e : ((w4.setCell ⟨g', L * 23, none⟩ (.int .i64 (g0 + 1))).drew.setCell ⟨g', L * 23 + 1, none⟩ (.bool true)) = (w4.drew.setCell ⟨g', L * 23, none⟩ (.int .i64 (g0 + 1))).setCell ⟨g', L * 23 + 1, none⟩ (.bool true) := rfl
    rw [e]
    refine ⟨?_, by rw [World.frozen?_setCell, World.frozen?_setCell]; exact h2⟩
    rw [World.cell?_setCell_other _ _ _ _ (by intro e; have := congrArg Addr.off e; simp only at this; omega), World.cell?_setCell_other _ _ _ _ (by intro e; have := congrArg Addr.off e; simp only at this; omega)]
    exact h1
  have HTH : Hid _ := hth
  clear hX4 hth HX4
  go_wp2_with fail
  have hsL : ((w4.setCell ⟨g', L * 23, none⟩ (.int .i64 (g0 + 1))).drew).rangeAt w.heap.size 0 x.cells := fun j v hv => by
    have := HX.out j v hv
    rw [show ((w4.setCell ⟨g', L * 23, none⟩ (.int .i64 (g0 + 1))).drew) = w4.drew.setCell ⟨g', L * 23, none⟩ (.int .i64 (g0 + 1)) from rfl, World.cell?_setCell_other _ _ _ _ (by intro e; exact hnx (congrArg Addr.block e))]
    exact this
  have HSL : Hid _ := hsL
  clear hsL
  refine wp_region_mid (S := fun w' => w'.rangeAt w.heap.size 0 x.cells) 6 (by kernel_rfl) ?_
  refine wpAnyM_take (i := 0) [] (oi := { dst := some 35, op := Op.move (Operand.tmp 7), type := 153, pos := _, after := #[], guard := none }) (v := ?_) rfl (by kernel_rfl) (by kernel_rfl) (by kernel_rfl) (by kernel_rfl) (fun _ _ _ h => h) (Or.inl ⟨by rfl, ?_⟩) HSL.out ?_
  rotate_left
  · (intro w' hSw; go_simp; try with_reducible rfl)
  try simp only [Act.put, List.setIfInBounds_toArray, List.set_cons_zero, List.set_cons_succ]
  refine wpAnyM_take (i := 1) [] (oi := { dst := some 36, op := Op.move (Operand.tmp 7), type := 153, pos := _, after := #[{ on := 5, ground := Ground.gcOnly Departure.lateStores }], guard := none }) (v := ?_) rfl (by kernel_rfl) (by kernel_rfl) (by kernel_rfl) (by kernel_rfl) (fun _ _ _ h => h) (Or.inl ⟨by rfl, ?_⟩) HSL.out ?_
  rotate_left
  · (intro w' hSw; go_simp; try with_reducible rfl)
  try simp only [Act.put, List.setIfInBounds_toArray, List.set_cons_zero, List.set_cons_succ]
  refine wpAnyM_take (i := 2) [] (oi := { dst := some 37, op := Op.load 37 (Operand.tmp 3), type := 37, pos := _, after := #[{ on := 5, ground := Ground.gcOnly Departure.lateStores }], guard := none }) (v := .agg x.cells.toArray) rfl (by kernel_rfl) (by kernel_rfl) (by kernel_rfl) (by kernel_rfl) (fun _ _ _ h => h) (yieldsIf_load_mid (by rfl) _ _ rfl w.heap.size 0 (by rfl) x.cells _ (fun w' hw' => hw') Tryz.underlying37 rfl nd_info) HSL.out ?_
  try simp only [Act.put, List.setIfInBounds_toArray, List.set_cons_zero, List.set_cons_succ]
  refine wpAnyM_take (i := 3) [] (oi := { dst := some 38, op := Op.nilCheck (Operand.tmp 35), type := 0, pos := _, after := #[{ on := 0, ground := Ground.data }, { on := 0, ground := Ground.phase }, { on := 1, ground := Ground.textOnly Departure.lateStores }, { on := 2, ground := Ground.textOnly Departure.lateStores }], guard := none }) (v := ?_) rfl (by kernel_rfl) (by kernel_rfl) (by kernel_rfl) (by kernel_rfl) (fun _ _ _ h => h) (Or.inl ⟨by rfl, ?_⟩) HSL.out ?_
  rotate_left
  · (intro w' hSw; go_simp; try with_reducible rfl)
  try simp only [Act.put, List.setIfInBounds_toArray, List.set_cons_zero, List.set_cons_succ]
  refine wpAnyM_take (i := 4) [] (oi := { dst := some 39, op := Op.fieldAddr 151 (Operand.tmp 38) 1, type := 0, pos := _, after := #[{ on := 3, ground := Ground.data }, { on := 0, ground := Ground.phase }, { on := 1, ground := Ground.textOnly Departure.lateStores }, { on := 2, ground := Ground.textOnly Departure.lateStores }], guard := none }) (v := ?_) rfl (by kernel_rfl) (by kernel_rfl) (by kernel_rfl) (by kernel_rfl) (fun _ _ _ h => h) (Or.inl ⟨by rfl, ?_⟩) HSL.out ?_
  rotate_left
  · (intro w' hSw; go_simp; try with_reducible rfl)
  try simp only [Act.put, List.setIfInBounds_toArray, List.set_cons_zero, List.set_cons_succ]
  refine wpAnyM_ready (rs := [5]) (by kernel_rfl) (by simp) ?_
  refine AllReadyM.cons (o := { dst := none, op := Op.store 4 (Operand.tmp 39) (Operand.const (Value.bool true)), type := 0, pos := _, after := #[{ on := 4, ground := Ground.data }, { on := 0, ground := Ground.phase }, { on := 1, ground := Ground.textOnly Departure.lateStores }, { on := 2, ground := Ground.textOnly Departure.lateStores }], guard := none }) rfl (fun K hK => ?_) AllReadyM.nil
  go_simp
  have hs5 : (((w4.setCell ⟨g', L * 23, none⟩ (.int .i64 (g0 + 1))).drew).setCell ⟨g', L * 23 + 1, none⟩ (.bool true)).rangeAt w.heap.size 0 x.cells := fun j v hv => by
    rw [World.cell?_setCell_other _ _ _ _ (by intro e; exact hnx (congrArg Addr.block e))]
    exact HSL.out j v hv
  refine hK _ _ ⟨fun _ => hs5, ?_⟩
  clear hK K
  try simp only [Act.put, List.setIfInBounds_toArray, List.set_cons_zero, List.set_cons_succ]
  refine wpAnyM_take (i := 6) [7] (oi := { dst := some 40, op := Op.nilCheck (Operand.tmp 36), type := 0, pos := _, after := #[{ on := 1, ground := Ground.data }, { on := 0, ground := Ground.phase }, { on := 1, ground := Ground.phase }, { on := 2, ground := Ground.phase }, { on := 3, ground := Ground.phase }, { on := 4, ground := Ground.phase }, { on := 5, ground := Ground.phase }], guard := none }) (v := ?_) rfl (by kernel_rfl) (by kernel_rfl) (by kernel_rfl) (by kernel_rfl) (fun _ _ _ h => h) (Or.inl ⟨by rfl, ?_⟩) hs5 ?_
  rotate_left
  · (intro w' hSw; go_simp; try with_reducible rfl)
  try simp only [Act.put, List.setIfInBounds_toArray, List.set_cons_zero, List.set_cons_succ]
  refine wpAnyM_take (i := 7) [] (oi := { dst := some 41, op := Op.fieldAddr 151 (Operand.tmp 40) 2, type := 0, pos := _, after := #[{ on := 6, ground := Ground.data }, { on := 0, ground := Ground.phase }, { on := 1, ground := Ground.phase }, { on := 2, ground := Ground.phase }, { on := 3, ground := Ground.phase }, { on := 4, ground := Ground.phase }, { on := 5, ground := Ground.phase }], guard := none }) (v := ?_) rfl (by kernel_rfl) (by kernel_rfl) (by kernel_rfl) (by kernel_rfl) (fun _ _ _ h => h) (Or.inl ⟨by rfl, ?_⟩) hs5 ?_
  rotate_left
  · (intro w' hSw; go_simp; try with_reducible rfl)
  try simp only [Act.put, List.setIfInBounds_toArray, List.set_cons_zero, List.set_cons_succ]
  refine wpAnyM_ready (rs := [8]) (by kernel_rfl) (by simp) ?_
  refine AllReadyM.cons (o := { dst := none, op := Op.store 37 (Operand.tmp 41) (Operand.tmp 37), type := 0, pos := _, after := #[{ on := 7, ground := Ground.data }, { on := 2, ground := Ground.data }, { on := 5, ground := Ground.chain }, { on := 0, ground := Ground.phase }, { on := 1, ground := Ground.phase }, { on := 2, ground := Ground.phase }, { on := 3, ground := Ground.phase }, { on := 4, ground := Ground.phase }, { on := 5, ground := Ground.phase }], guard := none }) rfl (fun K hK => ?_) AllReadyM.nil
  rw [if_pos (by rfl)]
  refine wp_store_mid _ _ _ rfl g' (L * 23 + 2) x.cells.toArray (by rfl) (by rfl) HTH.out (by simpa [x.len] using nd_info) (all_oneCell_toArray x.one) (hK _ _ ⟨fun h => absurd h (by omega), ?_⟩)
  clear hK K
  try simp only [Act.put, List.setIfInBounds_toArray, List.set_cons_zero, List.set_cons_succ]
  refine wpAnyM_done (by kernel_rfl) ?_ _
  obtain ⟨wc, hwc⟩ : ∃ wc, wc = ((w4.setCell ⟨g', L * 23, none⟩ (.int .i64 (g0 + 1))).setCell ⟨g', L * 23 + 1, none⟩ (.bool true)).drew.setCells g' (L * 23 + 2) x.cells := ⟨_, rfl⟩
  rw [← hwc]
  have hwd : wc = setCells w4.drew g' (L * (21 + 2)) (slc Nod.cells ⟨g0 + 1, true, x⟩) := by
    rw [hwc, setCells_eq, drew_two]
    exact (setCells_two w4.drew g' (L * 23) (.int .i64 (g0 + 1)) (.bool true) x.cells).symm
  have htc : Tn [g'] w4 wc := by rw [hwd]; exact ((Tn.refl [g'] w4).drew).trans (setCells_tn _ _) (fun x hx => .inl hx)
  have HKW : Hid (Bk wc (w.heap.size + 1) 31 #[.int .i64 0, .int .i64 0]) := HK4.out.tn htc (by simp; omega)
  have d0 : wc.cell? ⟨w.heap.size + 1, 0, none⟩ = some (.int .i64 0) := HKW.out.cell 0
  have d1 : wc.cell? ⟨w.heap.size + 1, 1, none⟩ = some (.int .i64 0) := HKW.out.cell 1
  have e0 : wc.frozen? ⟨w.heap.size + 1, 0, none⟩ = false := HKW.out.frozen 0
  have e1 : wc.frozen? ⟨w.heap.size + 1, 1, none⟩ = false := HKW.out.frozen 1
  have HE : Hid (ArT Nod.cells 21 tAN tSN w ((wc.setCell ⟨w.heap.size + 1, 0, none⟩ (.int .i64 (L : Int))).setCell ⟨w.heap.size + 1, 1, none⟩ (.int .i64 (g0 + 1))) B (bsOf B uv fv) (a.put x)) := by
    refine put_end ndK (z := Nod.zero) (R := w.heap.size + 1) (Nat.le_succ _) hN hs1 hs2 HOL.out HT3.out (w3 := w4.drew) (by rw [hL]; exact mid_drew HM.out) HTT.out.1.drew HTT.out.2.1 HTT.out.2.2 (w4 := wc) ?_ (((Tn.refl _ wc).setCell (.inl (by simp)) _).setCell (.inl (by simp)) _) HRB.out
    rw [hL, hG]
    exact hwd
  have r9 : wc.cell? ⟨g', L * 23, none⟩ = some (.int .i64 (g0 + 1)) := by
    have hrow := row_write ndK hN (mid_drew HM.out).row L hlow ⟨g0 + 1, true, x⟩
    have := row_cells ndK (by rw [List.length_set]; exact hN) hrow L hlow 0 (.int .i64 (g0 + 1)) (by rw [slAt_set _ _ _ _ (by rw [hN]; exact hlow), if_pos rfl]; rfl)
    rw [← hwd] at this
    exact this
  clear r0 r1 f0 f1 HM HTT HRB HOL HK4 hwc hwd htc
  go_wp2
  refine bodyPost_ret (results_hndN rfl rfl ((HKW.out.set 0 _).set 1 _)) rfl ?_
  refine ⟨?_, HE.out⟩
  rw [hL, hG]
  rfl
end Go.Proofs.YtoehlgigidgfpaaGreat

namespace Go.Proofs.YtoehlgigidgfpaaGreat
open Go.RowKit
set_option linter.unusedVariables false
set_option linter.unusedSectionVars false

variable {α : Type} [Inhabited α] {cells : α → List Value} {k : Nat} {tA tS : TypeId}

/-- An arena whose blocks lie from m on, and are none of some others. -/
def ArS (cells : α → List Value) (k : Nat) (tA tS : TypeId) (m : Nat) (w : World) (B : Nat) (a : Ar α) (av : List Nat) : Prop := ∃ bs, Arn cells k tA tS w B bs a ∧ (∀ b ∈ bs, m ≤ b) ∧ ∀ g ∈ av, g ∉ bs ∧ g < w.heap.size

theorem ArS.step {m : Nat} {w w' : World} {B : Nat} {a : Ar α} {bs av : List Nat} (h : ArT cells k tA tS w w' B bs a) (hm : ∀ b ∈ bs, m ≤ b) (hw : m ≤ w.heap.size) (hav : ∀ g ∈ av, g ∉ bs ∧ g < w.heap.size) :
    ArS cells k tA tS m w' B a av ∧ Below m w w' ∧ ∀ g ∈ av, w'.heap[g]? = w.heap[g]? := by
  obtain ⟨bs', h1, h2, h3⟩ := h
  refine ⟨⟨bs', h1, fun b hb => ?_, fun g hg => ⟨fun hb => ?_, ?_⟩⟩, h2.below hw hm, fun g hg => h2.block g (hav g hg).2 (hav g hg).1⟩
  · rcases h3 b hb with h | h
    · exact hm b h
    · omega
  · rcases h3 g hb with h | h
    · exact (hav g hg).1 h
    · have := (hav g hg).2
      omega
  · have := (hav g hg).2
    have := h2.size
    omega

/-- Nothing old has turned. -/
theorem ArS.quiet {m : Nat} {w w' : World} {B : Nat} {a : Ar α} {av : List Nat} (h : ArS cells k tA tS m w B a av) (kt : Tn [] w w') : ArS cells k tA tS m w' B a av := by
  obtain ⟨bs, h1, h2, h3⟩ := h
  exact ⟨bs, h1.tn kt (by simp), h2, fun g hg => ⟨(h3 g hg).1, Nat.lt_of_lt_of_le (h3 g hg).2 kt.size⟩⟩

theorem ArS.below {m : Nat} {w w' : World} {B : Nat} {a : Ar α} {av : List Nat} (h : ArS cells k tA tS m w B a av) (kt : Below w.heap.size w w') : ArS cells k tA tS m w' B a av := h.quiet (Tn.of_below kt [])

/-- Blocks that are none of its have turned. -/
theorem ArS.other {m : Nat} {w w' : World} {B : Nat} {a : Ar α} {av S : List Nat} (h : ArS cells k tA tS m w B a av) (kt : Tn S w w') (hS : ∀ x ∈ S, x ∈ av) : ArS cells k tA tS m w' B a av := by
  obtain ⟨bs, h1, h2, h3⟩ := h
  exact ⟨bs, h1.tn kt (fun b hb hm => (h3 b (hS b hm)).1 hb), h2, fun g hg => ⟨(h3 g hg).1, Nat.lt_of_lt_of_le (h3 g hg).2 kt.size⟩⟩

/-- A new block is none of its. -/
theorem ArS.add {m : Nat} {w w' : World} {B : Nat} {a : Ar α} {av : List Nat} (h : ArS cells k tA tS m w B a av) (kt : Tn [] w w') {g : Nat} (hg : w.heap.size ≤ g) (hg' : g < w'.heap.size) : ArS cells k tA tS m w' B a (g :: av) := by
  obtain ⟨bs, h1, h2, h3⟩ := h
  refine ⟨bs, h1.tn kt (by simp), h2, fun x hx => ?_⟩
  rcases List.mem_cons.1 hx with rfl | hx
  · exact ⟨fun hb => by have := h1.lt x hb; omega, hg'⟩
  · exact ⟨(h3 x hx).1, Nat.lt_of_lt_of_le (h3 x hx).2 kt.size⟩

theorem ArS.sub {m : Nat} {w : World} {B : Nat} {a : Ar α} {av av' : List Nat} (h : ArS cells k tA tS m w B a av) (hs : ∀ x ∈ av', x ∈ av) : ArS cells k tA tS m w B a av' := by
  obtain ⟨bs, h1, h2, h3⟩ := h
  exact ⟨bs, h1, h2, fun g hg => h3 g (hs g hg)⟩

theorem ArS.of {m : Nat} {w : World} {B : Nat} {a : Ar α} {bs : List Nat} (h : Arn cells k tA tS w B bs a) (hm : ∀ b ∈ bs, m ≤ b) : ArS cells k tA tS m w B a [] := ⟨bs, h, hm, fun g hg => by cases hg⟩

theorem ArS.ge {m : Nat} {w : World} {B : Nat} {a : Ar α} {av : List Nat} (h : ArS cells k tA tS m w B a av) : m ≤ w.heap.size := by
  obtain ⟨bs, h1, h2, h3⟩ := h
  have := h2 B h1.hB
  have := h1.lt B h1.hB
  omega

/-- Elder blocks are none of its. -/
theorem ArS.old {m : Nat} {w : World} {B : Nat} {a : Ar α} {av : List Nat} (h : ArS cells k tA tS m w B a av) {g : Nat} (hg : g < m) : ArS cells k tA tS m w B a (g :: av) := by
  have hge := h.ge
  obtain ⟨bs, h1, h2, h3⟩ := h
  refine ⟨bs, h1, h2, fun x hx => ?_⟩
  rcases List.mem_cons.1 hx with rfl | hx
  · exact ⟨fun hb => by have := h2 x hb; omega, by omega⟩
  · exact h3 x hx

/-- Others have turned, and grown. -/
theorem ArS.grow {m : Nat} {w w' : World} {B : Nat} {a : Ar α} {av av' S : List Nat} (h : ArS cells k tA tS m w B a av) (kt : Tn S w w') (hS : ∀ x ∈ S, x ∈ av ∨ w.heap.size ≤ x) (hav : ∀ x ∈ av', x ∈ av ∨ w.heap.size ≤ x) (hlt : ∀ x ∈ av', x < w'.heap.size) : ArS cells k tA tS m w' B a av' := by
  obtain ⟨bs, h1, h2, h3⟩ := h
  refine ⟨bs, h1.tn kt (fun b hb hm => ?_), h2, fun g hg => ⟨fun hb => ?_, hlt g hg⟩⟩
  · rcases hS b hm with h | h
    · exact (h3 b h).1 hb
    · have := h1.lt b hb
      omega
  · rcases hav g hg with h | h
    · exact (h3 g h).1 hb
    · have := h1.lt g hb
      omega

end Go.Proofs.YtoehlgigidgfpaaGreat

namespace Go.Proofs.YtoehlgigidgfpaaGreat
open Go.RowKit
set_option linter.unusedVariables false
set_option linter.unusedSectionVars false
variable [Inhabited Nod]

abbrev AsN (m : Nat) (w : World) (B : Nat) (a : Ar Nod) (av : List Nat) : Prop := ArS Nod.cells 21 tAN tSN m w B a av

/-- Behind a call. -/
def AftN (m : Nat) (w w' : World) (B : Nat) (a : Ar Nod) (av : List Nat) : Prop := AsN m w' B a av ∧ Below m w w' ∧ ∀ g ∈ av, w'.heap[g]? = w.heap[g]?

theorem AftN.quiet {m : Nat} {w w' : World} {B : Nat} {a : Ar Nod} {av : List Nat} (h : AsN m w B a av) (kt : Tn [] w w') : AftN m w w' B a av := by
  refine ⟨h.quiet kt, ?_, fun g hg => ?_⟩
  · exact kt.below h.ge (by simp)
  · obtain ⟨bs, _, _, h3⟩ := h
    exact kt.block g (h3 g hg).2 (by simp)

theorem putSN {m : Nat} {w : World} {B : Nat} {a : Ar Nod} {av : List Nat} (h : AsN m w B a av) (x : Nod) (hf : live a.us < a.size) (hg1 : 1 ≤ a.gen) (hg2 : a.gen ≤ 9223372036854775807) :
    Calls Tryz.prog 50 #[.pointer (some ⟨B, 0, none⟩), x.v] w fun e w' => e = .returned (.tuple #[.agg #[.int .i64 (low a.us), .int .i64 a.gen], .int .i64 0]) ∧ AftN m w w' B (a.put x) av := by
  have hge := h.ge
  obtain ⟨bs, h1, h2, h3⟩ := h
  exact (putOkN h1 x hf hg1 hg2).mono fun e w' ⟨he, ht⟩ => ⟨he, ArS.step ht h2 hge h3⟩

theorem fullSN {m : Nat} {w : World} {B : Nat} {a : Ar Nod} {av : List Nat} (h : AsN m w B a av) (x : Nod) (hf : live a.us = a.size) :
    Calls Tryz.prog 50 #[.pointer (some ⟨B, 0, none⟩), x.v] w fun e w' => e = .returned (.tuple #[.agg #[.int .i64 0, .int .i64 0], .int .i64 5]) ∧ AftN m w w' B a av := by
  have h' := h
  obtain ⟨bs, h1, h2, h3⟩ := h
  exact (putFullN h1 x hf).mono fun e w' ⟨he, hb⟩ => ⟨he, AftN.quiet h' (Tn.of_below hb [])⟩

theorem freeSN {m : Nat} {w : World} {B : Nat} {a : Ar Nod} {av : List Nat} (h : AsN m w B a av) (s g : Int) (hg : a.Good s g) :
    Calls Tryz.prog 69 #[.pointer (some ⟨B, 0, none⟩), .agg #[.int .i64 s, .int .i64 g]] w fun e w' => e = .returned (.int .i64 0) ∧ AftN m w w' B (a.free s.toNat Nod.zero) av := by
  have hge := h.ge
  obtain ⟨bs, h1, h2, h3⟩ := h
  exact (freeGoodN h1 s g hg).mono fun e w' ⟨he, ht⟩ => ⟨he, ArS.step ht h2 hge h3⟩

theorem freeBadSN {m : Nat} {w : World} {B : Nat} {a : Ar Nod} {av : List Nat} (h : AsN m w B a av) (s g : Int) (hg : ¬ a.Good s g) (hs0 : 0 ≤ a.stale) (hs9 : a.stale < 9223372036854775807) :
    Calls Tryz.prog 69 #[.pointer (some ⟨B, 0, none⟩), .agg #[.int .i64 s, .int .i64 g]] w fun e w' => e = .returned (.int .i64 7) ∧ AftN m w w' B a.bad av := by
  have hge := h.ge
  obtain ⟨bs, h1, h2, h3⟩ := h
  exact (freeBadN h1 s g hg hs0 hs9).mono fun e w' ⟨he, ht⟩ => ⟨he, ArS.step ht h2 hge h3⟩

theorem liveSN {m : Nat} {w : World} {B : Nat} {a : Ar Nod} {av : List Nat} (h : AsN m w B a av) :
    Calls Tryz.prog 13 #[.pointer (some ⟨B, 0, none⟩)] w fun e w' => e = .returned (.int .i64 (live a.us)) ∧ Tn [] w w' := by
  obtain ⟨bs, h1, h2, h3⟩ := h
  exact liveN h1

theorem slotsSN {m : Nat} {w : World} {B : Nat} {a : Ar Nod} {av : List Nat} (h : AsN m w B a av) :
    Calls Tryz.prog 82 #[.pointer (some ⟨B, 0, none⟩)] w fun e w' => e = .returned (.int .i64 a.size) ∧ w' = w := by
  obtain ⟨bs, h1, h2, h3⟩ := h
  exact slotsN h1

theorem newSN (w : World) (n : Nat) (h1 : 1 ≤ n) (h2 : n ≤ 65536) : Calls Tryz.prog 9 #[.int .i64 n] w fun e w' => e = .returned (.tuple #[.pointer (some ⟨w.heap.size, 0, none⟩), .int .i64 0]) ∧ AsN w.heap.size w' w.heap.size (Ar.fresh n) [] ∧ Below w.heap.size w w' ∧ w'.heap.size = w.heap.size + 1 :=
  (newN w n h1 h2).mono fun e w' ⟨he, ha, hb, hs⟩ => ⟨he, ArS.of ha (by simp), hb, hs⟩

theorem getSN {m : Nat} {w : World} {B : Nat} {a : Ar Nod} {av : List Nat} (h : AsN m w B a av) (s g : Int) (hg : a.Good s g) :
    Calls Tryz.prog 59 #[.pointer (some ⟨B, 0, none⟩), .agg #[.int .i64 s, .int .i64 g]] w fun e w' => e = .returned (.tuple #[(slAt a.us s.toNat).val.v, .int .i64 0]) ∧ Tn [] w w' := by
  obtain ⟨bs, h1, h2, h3⟩ := h
  exact (getGoodN h1 s g hg).mono fun e w' ⟨he, hb⟩ => ⟨he, Tn.of_below hb []⟩

theorem getBadSN {m : Nat} {w : World} {B : Nat} {a : Ar Nod} {av : List Nat} (h : AsN m w B a av) (s g : Int) (hg : ¬ a.Good s g) (hs0 : 0 ≤ a.stale) (hs9 : a.stale < 9223372036854775807) :
    Calls Tryz.prog 59 #[.pointer (some ⟨B, 0, none⟩), .agg #[.int .i64 s, .int .i64 g]] w fun e w' => e = .returned (.tuple #[Nod.zero.v, .int .i64 7]) ∧ AftN m w w' B a.bad av := by
  have hge := h.ge
  obtain ⟨bs, h1, h2, h3⟩ := h
  exact (getBadN h1 s g hg hs0 hs9).mono fun e w' ⟨he, ht⟩ => ⟨he, ArS.step ht h2 hge h3⟩

theorem staleSN {m : Nat} {w : World} {B : Nat} {a : Ar Nod} {av : List Nat} (h : AsN m w B a av) :
    Calls Tryz.prog 15 #[.pointer (some ⟨B, 0, none⟩)] w fun e w' => e = .returned (.int .i64 a.stale) ∧ w' = w := by
  obtain ⟨bs, h1, h2, h3⟩ := h
  exact staleN h1

end Go.Proofs.YtoehlgigidgfpaaGreat

namespace Go.Proofs.YtoehlgigidgfpaaGreat
open Go.RowKit
set_option linter.unusedVariables false
set_option maxRecDepth 100000

section
variable {α : Type} {cells : α → List Value} {k : Nat}

theorem app1L (K : Knd cells k) {e t : TypeId} {z : Value} {bytes : Nat} (ht : Tryz.prog.underlying t = some (.slice e)) (hinfo : (Tryz.prog.info? e).map (fun i => (i.zero, i.size, i.bytes)) = some (some z, k, bytes)) (hzs : z.cells.size = k)
    {ops : Array Oper} {rest : List Oper} {o : Oper} {a : Act} {Q : Exit → Act → World → Prop} (w : World) (hw : Region.wanted o (yielded ops a.tmps) = true) (s x : Operand)
    (ho : o.op = .call { callee := .builtin .append, args := #[s, x], argTypes := #[t, t] })
    (base : Nat) (v : Value) (l : List α) (hs : a.eval s = v) (y : α) (B : Nat) (hx : a.eval x = .slice (some ⟨B, 0, none⟩) 1 1) (hB : B = w.heap.size) (cs : Array Value) (hcs : cs = (cells y).toArray) (hown : Own cells k e w base v l)
    (h63 : l.length + 1 ≤ maxLen) (hb : (l.length + 1) * bytes ≤ 140737488355328) (hbase : base ≤ w.heap.size)
    (h : ∀ v' w', Own cells k e w' base v' (l ++ [y]) → (w.alloc (.cells cs e)).grownBy w' v.ownBlock → (v'.ownBlock = v.ownBlock ∨ v'.ownBlock = some (w.heap.size + 1)) → wpList Tryz.prog ops Q rest (a.put o.dst v') w') : wpList Tryz.prog ops Q (o :: rest) a (w.alloc (.cells cs e)) := by
  subst hB
  subst hcs
  refine appL K ht hinfo hzs _ hw s x ho base v l [y] hs (some ⟨w.heap.size, 0, none⟩) 1 1 hx rfl (els_one K w e y) (fun h => by cases h) (hown.below ((Below.refl _ _).alloc (Nat.le_refl _) _) (Nat.le_refl _)) h63 hb (by simp; omega) ?_
  intro v' w' h1 h2 h3
  exact h v' w' h1 h2 (by simpa using h3)

/-- Two rows of the call's own. -/
structure TwoR (cells : α → List Value) (k : Nat) (t : TypeId) (w W : World) (v1 v2 : Value) (a b : List α) : Prop where
  o1 : Own cells k t W w.heap.size v1 a
  o2 : Own cells k t W w.heap.size v2 b
  ne : ∀ g, v1.ownBlock = some g → v2.ownBlock ≠ some g
  below : Below w.heap.size w W

theorem TwoR.swap {t : TypeId} {w W : World} {v1 v2 : Value} {a b : List α} (h : TwoR cells k t w W v1 v2 a b) : TwoR cells k t w W v2 v1 b a := ⟨h.o2, h.o1, fun g h2 h1 => h.ne g h1 h2, h.below⟩

theorem TwoR.nil (t : TypeId) {w W : World} (h : Below w.heap.size w W) : TwoR cells k t w W (.slice none 0 0) (.slice none 0 0) [] [] := ⟨Own.nil _ _ _, Own.nil _ _ _, fun g h => (by cases h), h⟩

theorem TwoR.up {t : TypeId} {w W W' : World} {v1 v2 : Value} {a b : List α} (h : TwoR cells k t w W v1 v2 a b) (hb : Below W.heap.size W W') : TwoR cells k t w W' v1 v2 a b := ⟨h.o1.below hb (Nat.le_refl _), h.o2.below hb (Nat.le_refl _), h.ne, h.below.trans (hb.mono h.below.size)⟩

theorem TwoR.app {t : TypeId} {w W w' : World} {v1 v2 v' : Value} {a b a' : List α} {cs : Array Value} {e : TypeId} (h : TwoR cells k t w W v1 v2 a b) (h1 : Own cells k t w' w.heap.size v' a') (h2 : (W.alloc (.cells cs e)).grownBy w' v1.ownBlock) (h3 : v'.ownBlock = v1.ownBlock ∨ v'.ownBlock = some (W.heap.size + 1)) : TwoR cells k t w w' v' v2 a' b := by
  have hal : Below W.heap.size W (W.alloc (.cells cs e)) := (Below.refl _ _).alloc (Nat.le_refl _) _
  refine ⟨h1, ?_, fun g hg => ?_, ?_⟩
  · exact (h.o2.below hal (Nat.le_refl _)).tn (grown_tn h2) (fun g hg hm => h.ne g (opt_toList.1 hm) hg)
  · rcases h3 with h3 | h3
    · exact h.ne g (h3.symm.trans hg)
    · rw [hg] at h3
      cases h3
      intro hh
      have := (h.o2.blk hh).2
      omega
  · exact (h.below.trans (hal.mono h.below.size)).grown h2 (by have := h.below.size; simp; omega) (fun g hg => (h.o1.blk hg).1)
end
end Go.Proofs.YtoehlgigidgfpaaGreat

namespace Go.Proofs.YtoehlgigidgfpaaGreat
open Go.RowKit
set_option linter.unusedVariables false
set_option maxRecDepth 100000

section
variable {α : Type} {cells : α → List Value} {k : Nat}
/-- One more of an element that lies in memory, whatever is done to the row's own block. -/
theorem app_entryB (K : Knd cells k) {e t : TypeId} {z : Value} {bytes : Nat} (ht : Tryz.prog.underlying t = some (.slice e)) (hinfo : (Tryz.prog.info? e).map (fun i => (i.zero, i.size, i.bytes)) = some (some z, k, bytes)) (hzs : z.cells.size = k)
    {W : World} {base : Nat} {v : Value} {l : List α} {y : α} {E : Nat} (hv : Own cells k e W base v l) (hE : Els cells k W (some ⟨E, 0, none⟩) [y]) (hbase : base ≤ W.heap.size) (h63 : l.length + 1 ≤ maxLen) (hb : (l.length + 1) * bytes ≤ 140737488355328) :
    ∃ v' W', (Builtin.append_ #[t, t] t #[v, .slice (some ⟨E, 0, none⟩) 1 1]).run Tryz.prog W = .ok v' W' ∧ Own cells k e W' base v' (l ++ [y]) ∧ Tn v.ownBlock.toList W W' ∧ (∀ j, v'.ownBlock = some j → v.ownBlock = some j ∨ W.heap.size ≤ j) := by
  obtain ⟨v', W', hr, ho, hg, hk⟩ := run_appL K ht hinfo hzs W base t v l [y] (some ⟨E, 0, none⟩) 1 1 rfl hE (fun h => by cases h) hv h63 hb hbase
  refine ⟨v', W', hr, ho, (Tn.refl _ W).grown hg (fun j hj => .inl (by rw [hj]; simp)), fun j hj => ?_⟩
  rcases hk with hk | hk
  · exact .inl (by rw [← hk]; exact hj)
  · rw [hk] at hj
    exact .inr (Nat.le_of_eq (Option.some.inj hj))
end

/-- An append in a drawn region. -/
theorem step_appH {ops : Array Oper} {o : Oper} {a : Act} {w : World} {K : Act → World → Prop} {Q : Exit → Act → World → Prop} {E : Prop}
    (hg : o.guard = none) (s x : Operand) (t : TypeId) (hop : o.op = Op.call { callee := Callee.builtin Builtin.append, args := #[s, x], argTypes := #[t, t] })
    (v u : Value) (hs : a.eval s = v) (hx : a.eval x = u) {v' : Value} {w' : World} (hr : (Builtin.append_ #[t, t] o.type #[v, u]).run Tryz.prog w = .ok v' w') (hK : K (a.put o.dst v') w') :
    if Region.wanted o (yielded ops a.tmps) = true then Oper.wp Tryz.prog o a w K Q else E := by
  have hw : Region.wanted o (yielded ops a.tmps) = true := by simp [Region.wanted, hg]
  rw [if_pos hw]
  unfold Oper.wp
  simp [execOp, hop, resolve, invoke, builtin, hs, hx, hr, Result.andThen]
  exact hK

/-- An append in a drawn region. -/
theorem step_appK {ops : Array Oper} {o : Oper} {a : Act} {w : World} {K : Act → World → Prop} {Q : Exit → Act → World → Prop} {E : Prop}
    (hg : o.guard = none) (s x : Operand) (t : TypeId) (hop : o.op = Op.call { callee := Callee.builtin Builtin.append, args := #[s, x], argTypes := #[t, t] })
    (v u : Value) (hs : a.eval s = v) (hx : a.eval x = u) {P : Value → World → Prop} (hr : ∃ v' w', (Builtin.append_ #[t, t] o.type #[v, u]).run Tryz.prog w = .ok v' w' ∧ P v' w') (hK : ∀ v' w', P v' w' → K (a.put o.dst v') w') :
    if Region.wanted o (yielded ops a.tmps) = true then Oper.wp Tryz.prog o a w K Q else E := by
  obtain ⟨v', w', hr, hp⟩ := hr
  exact step_appH hg s x t hop v u hs hx hr (hK v' w' hp)

/-- An append outside of a drawn region. -/
theorem app_listK {ops : Array Oper} {rest : List Oper} {o : Oper} {a : Act} {Q : Exit → Act → World → Prop} (w : World) (hw : Region.wanted o (yielded ops a.tmps) = true) (s x : Operand) (t : TypeId)
    (ho : o.op = .call { callee := .builtin .append, args := #[s, x], argTypes := #[t, t] }) (v u : Value) (hs : a.eval s = v) (hx : a.eval x = u) {P : Value → World → Prop} (hr : ∃ v' w', (Builtin.append_ #[t, t] o.type #[v, u]).run Tryz.prog w = .ok v' w' ∧ P v' w')
    (h : ∀ v' w', P v' w' → wpList Tryz.prog ops Q rest (a.put o.dst v') w') : wpList Tryz.prog ops Q (o :: rest) a w := by
  obtain ⟨v', w', hr, hp⟩ := hr
  refine BigFrame.wpList_want hw fun _ hK => ?_
  unfold Oper.wp execOp
  simp only [ho, resolve, invoke, builtin, Sem.run_bind, Sem.run_pure, Result.andThen_ok, List.map_toArray, List.map_cons, List.map_nil, hs, hx, hr]
  exact hK _ _ (h v' w' hp)

/-- Its own blocks. -/
def own2 (v1 v2 : Value) : List Nat := v1.ownBlock.toList ++ v2.ownBlock.toList
theorem mem_own2 {v1 v2 : Value} {k : Nat} : k ∈ own2 v1 v2 ↔ v1.ownBlock = some k ∨ v2.ownBlock = some k := by simp [own2]


section
variable {α β : Type} {ca : α → List Value} {ka : Nat} {ta : TypeId} {cb : β → List Value} {kb : Nat} {tb : TypeId}
/-- Two rows of one call's own. -/
structure Twr (ca : α → List Value) (ka : Nat) (ta : TypeId) (cb : β → List Value) (kb : Nat) (tb : TypeId) (base : Nat) (W : World) (v1 v2 : Value) (a : List α) (b : List β) : Prop where
  o1 : Own ca ka ta W base v1 a
  o2 : Own cb kb tb W base v2 b
  ne : ∀ k, v1.ownBlock = some k → v2.ownBlock ≠ some k

theorem Twr.tn {base : Nat} {W W' : World} {v1 v2 : Value} {a : List α} {b : List β} {S : List Nat} (h : Twr ca ka ta cb kb tb base W v1 v2 a b) (t : Tn S W W') (hS : ∀ x ∈ S, v1.ownBlock ≠ some x ∧ v2.ownBlock ≠ some x) : Twr ca ka ta cb kb tb base W' v1 v2 a b :=
  ⟨h.o1.tn t (fun b hb hm => (hS b hm).1 hb), h.o2.tn t (fun b hb hm => (hS b hm).2 hb), h.ne⟩

theorem Twr.nil (base : Nat) (W : World) : Twr ca ka ta cb kb tb base W (.slice none 0 0) (.slice none 0 0) [] [] := ⟨Own.nil _ _ _, Own.nil _ _ _, fun k h => by cases h⟩

theorem Twr.lt {base : Nat} {W : World} {v1 v2 : Value} {a : List α} {b : List β} (h : Twr ca ka ta cb kb tb base W v1 v2 a b) : ∀ k ∈ own2 v1 v2, base ≤ k ∧ k < W.heap.size := by
  intro k hk
  rcases mem_own2.1 hk with hk | hk
  · exact h.o1.blk hk
  · exact h.o2.blk hk

/-- What two appends have made of it: the rows have one element more each; no other old block has turned. -/
structure Grw (ca : α → List Value) (ka : Nat) (ta : TypeId) (cb : β → List Value) (kb : Nat) (tb : TypeId) (base : Nat) (W W' : World) (v1 v2 v1' v2' : Value) (a : List α) (b : List β) : Prop where
  two : Twr ca ka ta cb kb tb base W' v1' v2' a b
  tn : Tn (own2 v1 v2) W W'
  b1 : ∀ j, v1'.ownBlock = some j → v1.ownBlock = some j ∨ W.heap.size ≤ j
  b2 : ∀ j, v2'.ownBlock = some j → v2.ownBlock = some j ∨ W.heap.size ≤ j

theorem grw_end {base : Nat} {W W1 W2 W3 W4 : World} {v1 v2 v1' v2' : Value} {a a' : List α} {b b' : List β} (h : Twr ca ka ta cb kb tb base W v1 v2 a b) (t1 : Tn [] W W1)
    (o1 : Own ca ka ta W2 base v1' a') (t2 : Tn v1.ownBlock.toList W1 W2) (k1 : ∀ j, v1'.ownBlock = some j → v1.ownBlock = some j ∨ W1.heap.size ≤ j) (t3 : Tn [] W2 W3)
    (o2 : Own cb kb tb W4 base v2' b') (t4 : Tn v2.ownBlock.toList W3 W4) (k2 : ∀ j, v2'.ownBlock = some j → v2.ownBlock = some j ∨ W3.heap.size ≤ j) : Grw ca ka ta cb kb tb base W W4 v1 v2 v1' v2' a' b' := by
  have z1 := t1.size
  have z2 := t2.size
  have z3 := t3.size
  refine ⟨⟨(o1.tn t3 (by simp)).tn t4 (fun j hj hm => ?_), o2, fun j hj hj2 => ?_⟩, ?_, fun j hj => ?_, fun j hj => ?_⟩
  · have hm' : v2.ownBlock = some j := by simpa [opt_toList] using hm
    rcases k1 j hj with h1 | h1
    · exact h.ne j h1 hm'
    · have := (h.o2.blk hm').2; omega
  · have hlt := (o1.blk hj).2
    rcases k2 j hj2 with h1 | h1
    · rcases k1 j hj with h2 | h2
      · exact h.ne j h2 h1
      · have := (h.o2.blk h1).2; omega
    · omega
  · refine (((t1.mono (by simp)).trans (t2.mono (T := own2 v1 v2) ?_) ?_).trans (t3.mono (T := own2 v1 v2) (by simp)) ?_).trans (t4.mono (T := own2 v1 v2) ?_) ?_
    · intro x hx; exact List.mem_append.2 (.inl hx)
    · intro x hx; exact .inl hx
    · intro x hx; exact .inl hx
    · intro x hx; exact List.mem_append.2 (.inr hx)
    · intro x hx; exact .inl hx
  · rcases k1 j hj with h1 | h1
    · exact .inl h1
    · exact .inr (by omega)
  · rcases k2 j hj with h1 | h1
    · exact .inl h1
    · exact .inr (by omega)

end

end Go.Proofs.YtoehlgigidgfpaaGreat

namespace Go.Proofs.YtoehlgigidgfpaaGreat
open Go.RowKit
set_option linter.unusedVariables false
set_option maxRecDepth 100000
set_option linter.unusedSectionVars false

/-- A handle. -/
abbrev Hd := Int × Int
def Hd.cells (x : Hd) : List Value := [.int .i64 x.1, .int .i64 x.2]
theorem hdK : Knd Hd.cells 2 := ⟨fun _ => rfl, fun x u hu => by simp [Hd.cells] at hu; rcases hu with rfl | rfl <;> rfl, by decide⟩
theorem hdinfo : (Tryz.prog.info? 31).map (fun i => (i.zero, i.size, i.bytes)) = some (some (.agg #[.int .i64 0, .int .i64 0]), 2, 16) := by kernel_rfl
theorem ndinfo : (Tryz.prog.info? 37).map (fun i => (i.zero, i.size, i.bytes)) = some (some Nod.zero.v, 21, 248) := by kernel_rfl
theorem dmK : Knd Dm.cells 12 := ⟨fun _ => rfl, fun x u hu => by simp [Dm.cells] at hu; rcases hu with rfl | rfl | rfl | rfl | rfl | rfl | rfl | rfl | rfl | rfl | rfl | rfl <;> rfl, by decide⟩
theorem dminfo : (Tryz.prog.info? 35).map (fun i => (i.zero, i.size, i.bytes)) = some (some Dm.zero.val, 12, 144) := by kernel_rfl

/-- A node's lists lie in memory, in some of these blocks. -/
structure NdIn (w : World) (av : List Nat) (x : Nod) : Prop where
  len : x.P.g.l.length = x.P.n
  ens : Ens w x.P.p x.P.g.l
  nil : x.P.p = none → x.P.n = 0 ∧ x.P.c = 0
  le : x.P.n ≤ x.P.c
  room : x.P.n ≤ 3518437208780
  dl : x.D.Ok w
  pin : ∀ b o, x.P.p = some ⟨b, o, none⟩ → b ∈ av
  din : ∀ b o, x.D.p = some ⟨b, o, none⟩ → b ∈ av

theorem Ens.blk {w w' : World} {p : Option Addr} {l : List En} (h : Ens w p l) (hb : ∀ b o, p = some ⟨b, o, none⟩ → w'.heap[b]? = w.heap[b]?) : Ens w' p l := by
  intro hl
  obtain ⟨b, o, rfl, hc⟩ := h hl
  have e := hb b o rfl
  refine ⟨b, o, rfl, fun i g hi => ?_⟩
  obtain ⟨h0, h1, h2, h3⟩ := hc i g hi
  simp only [World.cell?, e] at *
  exact ⟨h0, h1, h2, h3⟩

theorem NdIn.keep {w w' : World} {av av' : List Nat} {x : Nod} (h : NdIn w av x) (hk : ∀ b ∈ av, w'.heap[b]? = w.heap[b]?) (hs : ∀ b ∈ av, b ∈ av') : NdIn w' av' x where
  len := h.len
  ens := h.ens.blk fun b o hp => hk b (h.pin b o hp)
  nil := h.nil
  le := h.le
  room := h.room
  dl := { h.dl with ens := h.dl.ens.blk fun b o hp => hk b (h.din b o hp) }
  pin := fun b o hp => hs b (h.pin b o hp)
  din := fun b o hp => hs b (h.din b o hp)

theorem NdIn.zero (w : World) (av : List Nat) : NdIn w av Nod.zero where
  len := rfl
  ens := Ens.nil _ _
  nil := fun _ => ⟨rfl, rfl⟩
  le := Nat.le_refl _
  room := by show 0 ≤ _; omega
  dl := ⟨rfl, Ens.nil _ _, fun _ => ⟨rfl, rfl⟩, Nat.le_refl _, by show 0 ≤ _; omega⟩
  pin := fun b o hp => by cases hp
  din := fun b o hp => by cases hp

variable [Inhabited Nod]

/-- An arena of nodes beside other blocks, av, and those of its nodes' lists, lv. -/
structure Chs (m : Nat) (w : World) (B : Nat) (a : Ar Nod) (lv av : List Nat) : Prop where
  ar : AsN m w B a (lv ++ av)
  sits : ∀ s ∈ a.us, NdIn w lv s.val
  apart : ∀ x ∈ lv, x ∉ av

theorem Chs.lt {m : Nat} {w : World} {B : Nat} {a : Ar Nod} {lv av : List Nat} (h : Chs m w B a lv av) : ∀ b ∈ lv ++ av, b < w.heap.size := by
  obtain ⟨bs, h1, h2, h3⟩ := h.ar
  exact fun b hb => (h3 b hb).2

theorem Chs.ge {m : Nat} {w : World} {B : Nat} {a : Ar Nod} {lv av : List Nat} (h : Chs m w B a lv av) : m ≤ w.heap.size := h.ar.ge

/-- Nothing old has turned. -/
theorem Chs.quiet {m : Nat} {w w' : World} {B : Nat} {a : Ar Nod} {lv av : List Nat} (h : Chs m w B a lv av) (kt : Tn [] w w') : Chs m w' B a lv av :=
  ⟨h.ar.quiet kt, fun s hs => (h.sits s hs).keep (fun b hb => kt.block b (h.lt b (List.mem_append.2 (.inl hb))) (by simp)) (fun _ hb => hb), h.apart⟩

theorem Chs.below {m : Nat} {w w' : World} {B : Nat} {a : Ar Nod} {lv av : List Nat} (h : Chs m w B a lv av) (kt : Below w.heap.size w w') : Chs m w' B a lv av := h.quiet (Tn.of_below kt [])

/-- New blocks, of lists and others. -/
theorem Chs.more {m : Nat} {w w' : World} {B : Nat} {a : Ar Nod} {lv av : List Nat} (h : Chs m w B a lv av) (kt : Tn [] w w') (bl bo : List Nat) (hl : ∀ g ∈ bl, w.heap.size ≤ g ∧ g < w'.heap.size) (ho : ∀ g ∈ bo, w.heap.size ≤ g ∧ g < w'.heap.size) (hn : ∀ g ∈ bl, g ∉ bo) : Chs m w' B a (bl ++ lv) (bo ++ av) := by
  have hlt := h.lt
  refine ⟨?_, fun s hs => (h.sits s hs).keep (fun b hb => kt.block b (hlt b (List.mem_append.2 (.inl hb))) (by simp)) (fun _ hb => List.mem_append.2 (.inr hb)), fun x hx hx' => ?_⟩
  · obtain ⟨cs, c1, c2, c3⟩ := h.ar
    refine ⟨cs, c1.tn kt (by simp), c2, fun x hx => ?_⟩
    have hz : (w.heap.size ≤ x ∧ x < w'.heap.size) ∨ x ∈ lv ++ av := by
      simp only [List.mem_append] at hx ⊢
      rcases hx with (hx | hx) | (hx | hx)
      · exact .inl (hl x hx)
      · exact .inr (.inl hx)
      · exact .inl (ho x hx)
      · exact .inr (.inr hx)
    rcases hz with ⟨z1, z2⟩ | hz
    · exact ⟨fun hb => by have := c1.lt x hb; omega, z2⟩
    · exact ⟨(c3 x hz).1, Nat.lt_of_lt_of_le (c3 x hz).2 kt.size⟩
  · rcases List.mem_append.1 hx with hx | hx <;> rcases List.mem_append.1 hx' with hx' | hx'
    · exact hn x hx hx'
    · have := hlt x (List.mem_append.2 (.inr hx')); have := (hl x hx).1; omega
    · have := hlt x (List.mem_append.2 (.inl hx)); have := (ho x hx').1; omega
    · exact h.apart x hx hx'

/-- Fewer others are spoken of. -/
theorem Chs.sub {m : Nat} {w : World} {B : Nat} {a : Ar Nod} {lv av av' : List Nat} (h : Chs m w B a lv av) (hs : ∀ x ∈ av', x ∈ av) : Chs m w B a lv av' :=
  ⟨h.ar.sub (fun x hx => by
    rcases List.mem_append.1 hx with hx | hx
    · exact List.mem_append.2 (.inl hx)
    · exact List.mem_append.2 (.inr (hs x hx))), h.sits, fun x hx hx' => h.apart x hx (hs x hx')⟩

/-- Others have turned. -/
theorem Chs.other {m : Nat} {w w' : World} {B : Nat} {a : Ar Nod} {lv av S : List Nat} (h : Chs m w B a lv av) (kt : Tn S w w') (hS : ∀ x ∈ S, x ∈ av) : Chs m w' B a lv av :=
  ⟨h.ar.other kt (fun x hx => List.mem_append.2 (.inr (hS x hx))), fun s hs => (h.sits s hs).keep (fun b hb => kt.block b (h.lt b (List.mem_append.2 (.inl hb))) (fun hm => h.apart b hb (hS b hm))) (fun _ hb => hb), h.apart⟩

/-- Behind a call. -/
structure Afc (m : Nat) (w w' : World) (B : Nat) (a : Ar Nod) (lv av : List Nat) : Prop where
  chs : Chs m w' B a lv av
  below : Below m w w'
  same : ∀ g ∈ av, w'.heap[g]? = w.heap[g]?
  size : w.heap.size ≤ w'.heap.size

/-- Behind a put. -/
theorem Chs.put {m : Nat} {w w' : World} {B : Nat} {a : Ar Nod} {lv av : List Nat} {x : Nod} (h : Chs m w B a lv av) (hx : NdIn w lv x) (k : AftN m w w' B (a.put x) (lv ++ av)) : Afc m w w' B (a.put x) lv av := by
  refine ⟨⟨k.1, fun s hs => ?_, h.apart⟩, k.2.1, fun g hg => k.2.2 g (List.mem_append.2 (.inr hg)), k.2.1.size⟩
  have hold : ∀ s ∈ a.us, NdIn w' lv s.val := fun s hs => (h.sits s hs).keep (fun b hb => k.2.2 b (List.mem_append.2 (.inl hb))) (fun _ hb => hb)
  have hnew : NdIn w' lv x := hx.keep (fun b hb => k.2.2 b (List.mem_append.2 (.inl hb))) (fun _ hb => hb)
  unfold Ar.put at hs
  by_cases hl : low a.us < a.us.length
  · rw [if_pos hl] at hs
    rcases List.mem_or_eq_of_mem_set hs with hs | rfl
    · exact hold s hs
    · exact hnew
  · rw [if_neg hl] at hs
    rcases List.mem_append.1 hs with hs | hs
    · exact hold s hs
    · simp only [List.mem_cons, List.not_mem_nil, or_false] at hs
      subst hs
      exact hnew

/-- Behind a call that leaves what is given. -/
theorem Chs.same {m : Nat} {w w' : World} {B : Nat} {a a' : Ar Nod} {lv av : List Nat} (h : Chs m w B a lv av) (k : AftN m w w' B a' (lv ++ av)) (he : a'.us = a.us) : Afc m w w' B a' lv av :=
  ⟨⟨k.1, fun s hs => (h.sits s (by rw [← he]; exact hs)).keep (fun b hb => k.2.2 b (List.mem_append.2 (.inl hb))) (fun _ hb => hb), h.apart⟩, k.2.1, fun g hg => k.2.2 g (List.mem_append.2 (.inr hg)), k.2.1.size⟩

theorem Chs.free {m : Nat} {w w' : World} {B : Nat} {a : Ar Nod} {lv av : List Nat} {i : Nat} (h : Chs m w B a lv av) (k : AftN m w w' B (a.free i Nod.zero) (lv ++ av)) : Afc m w w' B (a.free i Nod.zero) lv av := by
  refine ⟨⟨k.1, fun s hs => ?_, h.apart⟩, k.2.1, fun g hg => k.2.2 g (List.mem_append.2 (.inr hg)), k.2.1.size⟩
  rcases List.mem_or_eq_of_mem_set hs with hs | rfl
  · exact (h.sits s hs).keep (fun b hb => k.2.2 b (List.mem_append.2 (.inl hb))) (fun _ hb => hb)
  · exact NdIn.zero _ _

theorem Afc.trans {m : Nat} {w w1 w' : World} {B : Nat} {a a' : Ar Nod} {lv lv' av : List Nat} (h : Afc m w w1 B a lv av) (k : Afc m w1 w' B a' lv' av) : Afc m w w' B a' lv' av :=
  ⟨k.chs, h.below.trans k.below, fun g hg => (k.same g hg).trans (h.same g hg), Nat.le_trans h.size k.size⟩

theorem Afc.sub {m : Nat} {w w' : World} {B : Nat} {a : Ar Nod} {lv av av' : List Nat} (h : Afc m w w' B a lv av) (hs : ∀ x ∈ av', x ∈ av) : Afc m w w' B a lv av' :=
  ⟨h.chs.sub hs, h.below, fun g hg => h.same g (hs g hg), h.size⟩

theorem Afc.quiet {m : Nat} {w w' : World} {B : Nat} {a : Ar Nod} {lv av : List Nat} (h : Chs m w B a lv av) (kt : Tn [] w w') : Afc m w w' B a lv av :=
  ⟨h.quiet kt, kt.below h.ge (by simp), fun g hg => kt.block g (h.lt g (List.mem_append.2 (.inr hg))) (by simp), kt.size⟩

end Go.Proofs.YtoehlgigidgfpaaGreat

namespace Go.Proofs.YtoehlgigidgfpaaGreat
open Go.RowKit
set_option linter.unusedVariables false
set_option maxRecDepth 100000
set_option linter.unusedSectionVars false
variable [Inhabited Nod]

theorem chmade_ok {m : Nat} {w : World} {B : Nat} {a : Ar Nod} {lv av : List Nat} (h : Chs m w B a lv av) :
    Calls Tryz.prog 48 #[.pointer (some ⟨B, 0, none⟩)] w fun e w' => e = .returned (.bool true) ∧ w' = w := by
  have hs : (1 : Nat) ≤ a.size := by
    obtain ⟨bs, h1, h2, h3⟩ := h.ar
    obtain ⟨uv, fv, fr, -, h1⟩ := h1
    exact h1.s1
  have hS := slotsSN h.ar
  have HS : Hid _ := hS
  have hp : (0 : Int) < (a.size : Int) := by omega
  clear hS h
  go_enter Tryz.func48, Tryz.ntmps48
  go_wp2_with fail
  refine Calls.mono HS.out ?_
  rintro e w1 ⟨rfl, rfl⟩
  go_wp2
  go_ret
  exact ⟨by simp; omega, rfl⟩

theorem longest_any {m : Nat} {w : World} {B : Nat} {a : Ar Nod} {lv av : List Nat} (h : Chs m w B a lv av) :
    Calls Tryz.prog 93 #[.pointer (some ⟨B, 0, none⟩)] w fun e w' => e = .returned (.int .i64 (min (live a.us + 1) 65536 : Nat)) ∧ Tn [] w w' := by
  have hl : live a.us ≤ 65536 := by
    obtain ⟨bs, h1, h2, h3⟩ := h.ar
    obtain ⟨uv, fv, fr, -, h1⟩ := h1
    have := live_le a.us
    have := h1.le
    have := h1.s2
    omega
  have hS := liveSN h.ar
  have HS : Hid _ := hS
  clear hS h
  generalize live a.us = lv at *
  go_enter Tryz.func93, Tryz.ntmps93
  go_wp2_with fail
  refine Calls.mono HS.out ?_
  rintro e w1 ⟨rfl, ht⟩
  have HT : Hid _ := ht
  clear ht HS
  go_wp2
  go_ret
  refine ⟨?_, HT.out⟩
  show Ending.returned (.int .i64 (min ((lv : Int) + 1) 65536)) = _
  exact ret_int (by omega)


theorem isBase_any (x : Nod) (w : World) : Calls Tryz.prog 96 #[x.v] w fun e w' => e = .returned (.bool x.b) ∧ Below w.heap.size w w' := by
  go_enter Tryz.func96, Tryz.ntmps96
  go_wp2
  go_ret
  exact ⟨rfl, (Below.refl _ _).alloc (Nat.le_refl _) _⟩

end Go.Proofs.YtoehlgigidgfpaaGreat

namespace Go.Proofs.YtoehlgigidgfpaaGreat
open Go.RowKit
set_option linter.unusedVariables false
set_option maxRecDepth 100000
set_option linter.unusedSectionVars false
variable [Inhabited Nod]

/-- The block that a slice leads to. -/
def sblk (p : Option Addr) (n c : Nat) : List Nat := (Value.slice p n c).ownBlock.toList

/-- An own row of entries leads to its own block. -/
theorem sblk_own {w : World} {base : Nat} {p : Option Addr} {n c : Nat} {l : List En} (h : OwnE w base (.slice p n c) l) :
    (∀ g ∈ sblk p n c, base ≤ g ∧ g < w.heap.size) ∧ (∀ b o, p = some ⟨b, o, none⟩ → b ∈ sblk p n c) ∧ n = l.length ∧ Ens w p l ∧ (p = none → n = 0 ∧ c = 0) ∧ n ≤ c := by
  have hn : n = l.length ∧ Ens w p l := by
    obtain ⟨p', c', hv, he, -⟩ := h.ens
    cases hv
    exact ⟨rfl, he⟩
  refine ⟨fun g hg => World.ownsRow.lt h g (opt_toList.1 hg), fun b o hp => ?_, hn.1, hn.2, ?_⟩
  · subst hp
    exact opt_toList.2 rfl
  · rcases h.2 with ⟨hv, h0⟩ | ⟨g, cap, cur, hv, hb, hg, hle, hcm, hcur, htake⟩
    · cases hv
      exact ⟨fun _ => ⟨rfl, rfl⟩, Nat.le_refl _⟩
    · cases hv
      exact ⟨fun e => (by cases e), by omega⟩

set_option maxHeartbeats 2000000 in
theorem begin_ok {m : Nat} {w : World} {B : Nat} {a : Ar Nod} {lv av : List Nat} (h : Chs m w B a lv av) (leaf : Bool) (lo hi : ByteArray) (r : Int) (p : Option Addr) (len cap : Nat) (l : List En) (hlen : l.length = len) (hx : Ens w p l) (hl : len ≤ 3518437208780) (hp : p = none → len = 0)
    (hm : Pg.may leaf ⟨lo, hi⟩ r l = true) (hf : live a.us < a.size) (hg1 : 1 ≤ a.gen) (hg2 : a.gen ≤ 9223372036854775807) :
    Calls Tryz.prog 20 #[.pointer (some ⟨B, 0, none⟩), pgv leaf lo hi r p len cap] w fun e w' => e = .returned (.tuple #[.agg #[.int .i64 (low a.us), .int .i64 a.gen], .int .i64 0]) ∧
      ∃ q qc bs, Afc m w w' B (a.put ⟨true, ⟨⟨leaf, lo, hi, r, l⟩, q, len, qc⟩, Dm.zero, 0, 0, 0⟩) (bs ++ lv) av ∧ (∀ g ∈ bs, w.heap.size ≤ g) := by
  obtain ⟨w0, hw0⟩ : ∃ w0, (w.alloc (.cells (pgc leaf lo hi r p len cap) 29)).alloc (.cells #[.int .i64 0, .int .i64 0] 31) = w0 := ⟨_, rfl⟩
  have HB0 : Hid (Below w.heap.size w w0) := by rw [← hw0]; exact ((Below.refl _ _).alloc (Nat.le_refl _) _).alloc (by simp) _
  have HK0 : Hid (Bk w0 w.heap.size 29 (pgc leaf lo hi r p len cap)) := by rw [← hw0]; exact (Bk.new _ _ _).alloc _
  have HR0 : Hid (Bk w0 (w.heap.size + 1) 31 #[.int .i64 0, .int .i64 0]) := by rw [← hw0]; exact Bk.new1 _ _ _ _
  have HC0 : Hid (Chs m w0 B a lv av) := h.below HB0.out
  have HH : Hid (Chs m w B a lv av) := h
  have a0 : w0.cell? ⟨w.heap.size, 0, none⟩ = some (.bool leaf) := HK0.out.cell 0
  have a1 : w0.cell? ⟨w.heap.size, 1, none⟩ = some (.string lo) := HK0.out.cell 1
  have a2 : w0.cell? ⟨w.heap.size, 2, none⟩ = some (.string hi) := HK0.out.cell 2
  have a3 : w0.cell? ⟨w.heap.size, 3, none⟩ = some (.int .i64 r) := HK0.out.cell 3
  have a4 : w0.cell? ⟨w.heap.size, 4, none⟩ = some (.slice p len cap) := HK0.out.cell 4
  have hc : ∀ W, Below w.heap.size w W → Calls Tryz.prog 49 #[pgv leaf lo hi r p len cap] W fun e w' => e = .returned (.int .i64 0) ∧ Below W.heap.size W w' := fun W hW => by
    have := check_any leaf lo hi r p len cap l W hlen (hx.below hW (Nat.le_refl _)) (by omega)
    rwa [if_pos hm] at this
  have HCK : Hid _ := hc
  have HCL : Hid (∀ W, Below w.heap.size w W → _) := fun W hW => pclone_any leaf lo hi r p len cap l W hlen (hx.below hW (Nat.le_refl _)) (by omega) hp
  have HF : Hid (live a.us < a.size ∧ 1 ≤ a.gen ∧ a.gen ≤ 9223372036854775807) := ⟨hf, hg1, hg2⟩
  clear h hx hm hc hf hg1 hg2 hp
  go_enter Tryz.func20, Tryz.ntmps20
  go_wp2_with fail
  refine (chmade_ok HC0.out).mono ?_
  rintro e w1 ⟨rfl, rfl⟩
  clear hw0
  go_wp2_with fail
  refine (HCK.out _ HB0.out).mono ?_
  rintro e w1 ⟨rfl, hb1⟩
  have HB1 : Hid (Below w.heap.size w w1) := HB0.out.trans (hb1.mono HB0.out.size)
  have HK1 : Hid (Bk w1 w.heap.size 29 (pgc leaf lo hi r p len cap)) := HK0.out.below hb1 HK0.out.lt
  have HR1 : Hid (Bk w1 (w.heap.size + 1) 31 #[.int .i64 0, .int .i64 0]) := HR0.out.below hb1 HR0.out.lt
  clear a0 a1 a2 a3 a4 hb1
  have a0 : w1.cell? ⟨w.heap.size, 0, none⟩ = some (.bool leaf) := HK1.out.cell 0
  have a1 : w1.cell? ⟨w.heap.size, 1, none⟩ = some (.string lo) := HK1.out.cell 1
  have a2 : w1.cell? ⟨w.heap.size, 2, none⟩ = some (.string hi) := HK1.out.cell 2
  have a3 : w1.cell? ⟨w.heap.size, 3, none⟩ = some (.int .i64 r) := HK1.out.cell 3
  have a4 : w1.cell? ⟨w.heap.size, 4, none⟩ = some (.slice p len cap) := HK1.out.cell 4
  go_wp2_with fail
  refine (HCL.out _ HB1.out).mono ?_
  rintro e w2 ⟨q, qc, rfl, ho, hb2⟩
  clear a0 a1 a2 a3 a4
  have HB2 : Hid (Below w.heap.size w w2) := HB1.out.trans (hb2.mono HB1.out.size)
  have HR2 : Hid (Bk w2 (w.heap.size + 1) 31 #[.int .i64 0, .int .i64 0]) := HR1.out.below hb2 HR1.out.lt
  have hz1 : w.heap.size + 1 < w1.heap.size := HR1.out.lt
  obtain ⟨s1, s2, s3, s4, s5, s6⟩ := sblk_own ho
  have hs1 : ∀ g ∈ sblk q len qc, w.heap.size + 1 < g ∧ g < w2.heap.size := fun g hg => ⟨by have := (s1 g hg).1; omega, (s1 g hg).2⟩
  have HC2 : Hid (Chs m w2 B a (sblk q len qc ++ lv) ([w.heap.size + 1] ++ av)) := HH.out.more (Tn.of_below HB2.out []) _ _ (fun g hg => ⟨by have := (hs1 g hg).1; omega, (hs1 g hg).2⟩) (fun g hg => by
    simp only [List.mem_cons, List.not_mem_nil, or_false] at hg
    subst hg
    exact ⟨Nat.le_succ _, HR2.out.lt⟩) (fun g hg hg' => by
    simp only [List.mem_cons, List.not_mem_nil, or_false] at hg'
    have := (hs1 g hg).1
    omega)
  have HN2 : Hid (NdIn w2 (sblk q len qc ++ lv) ⟨true, ⟨⟨leaf, lo, hi, r, l⟩, q, len, qc⟩, Dm.zero, 0, 0, 0⟩) := {
    len := hlen, ens := s4, nil := s5, le := s6, room := hl
    dl := (NdIn.zero w2 []).dl
    pin := fun b o hp => List.mem_append.2 (.inl (s2 b o hp))
    din := fun b o hp => by cases hp }
  have HS2 : Hid (∀ g ∈ sblk q len qc, w.heap.size ≤ g) := fun g hg => by have := (hs1 g hg).1; omega
  clear ho hb2 hs1 s1 s2 s3 s4 s5 s6
  go_wp2_with fail
  refine (putSN HC2.out.ar ⟨true, ⟨⟨leaf, lo, hi, r, l⟩, q, len, qc⟩, Dm.zero, 0, 0, 0⟩ HF.out.1 HF.out.2.1 HF.out.2.2).mono ?_
  rintro e w3 ⟨rfl, hk3⟩
  have HA3 : Hid _ := HC2.out.put HN2.out hk3
  clear hk3
  have hR3 : Bk w3 (w.heap.size + 1) 31 #[.int .i64 0, .int .i64 0] := (HA3.out.same _ (by simp)).trans HR2.out
  have HR3 : Hid (Bk w3 (w.heap.size + 1) 31 #[.int .i64 0, .int .i64 0]) := hR3
  have e0 : w3.cell? ⟨w.heap.size + 1, 0, none⟩ = some (.int .i64 0) := hR3.cell 0
  have e1 : w3.cell? ⟨w.heap.size + 1, 1, none⟩ = some (.int .i64 0) := hR3.cell 1
  have f0 : w3.frozen? ⟨w.heap.size + 1, 0, none⟩ = false := hR3.frozen 0
  have f1 : w3.frozen? ⟨w.heap.size + 1, 1, none⟩ = false := hR3.frozen 1
  clear hR3
  go_wp2
  refine bodyPost_ret (results_hndN rfl rfl (by exact ((HR3.out.set 0 _).set 1 _))) rfl ?_
  have t4 : Tn [w.heap.size + 1] w3 ((w3.setCell ⟨w.heap.size + 1, 0, none⟩ (.int .i64 (low a.us : Nat))).setCell ⟨w.heap.size + 1, 1, none⟩ (.int .i64 a.gen)) := ((Tn.refl _ _).setCell (.inl (by simp)) _).setCell (.inl (by simp)) _
  refine ⟨rfl, q, qc, sblk q len qc, ⟨((HA3.out.chs.other t4 (by simp)).sub (fun x hx => List.mem_append.2 (.inr hx))), ?_, fun g hg => ?_, ?_⟩, HS2.out⟩
  · have hge := HH.out.ge
    exact (HB2.out.mono hge |>.trans HA3.out.below).trans (t4.below (by have := HA3.out.below.size; have := HB2.out.size; omega) (by simp; omega))
  · have hlt := HH.out.lt g (List.mem_append.2 (.inr hg))
    rw [t4.block g (by have := HA3.out.size; have := HB2.out.size; omega) (by simp; omega), HA3.out.same g (List.mem_append.2 (.inr hg)), HB2.out.block g hlt]
  · have := t4.size; have := HA3.out.size; have := HB2.out.size; omega

end Go.Proofs.YtoehlgigidgfpaaGreat

namespace Go.Proofs.YtoehlgigidgfpaaGreat
open Go.RowKit
set_option linter.unusedVariables false
set_option maxRecDepth 100000
set_option linter.unusedSectionVars false
variable [Inhabited Nod]

theorem getWN {m : Nat} {w : World} {B : Nat} {a : Ar Nod} {av : List Nat} (h : AsN m w B a av) (s g : Int) (hg : a.Good s g) :
    Calls Tryz.prog 59 #[.pointer (some ⟨B, 0, none⟩), .agg #[.int .i64 s, .int .i64 g]] w fun e w' => e = .returned (.tuple #[(slAt a.us s.toNat).val.w, .int .i64 0]) ∧ Tn [] w w' := by
  obtain ⟨bs, h1, h2, h3⟩ := h
  exact (getGoodN h1 s g hg).mono fun e w' ⟨he, hb⟩ => ⟨he, Tn.of_below hb []⟩

/-- A block that was laid empty and then given a node. -/
theorem nd_laid {w w3 w4 : World} {x : Nod} (h3 : w.alloc (.cells #[.bool false, .bool false, .string ⟨#[]⟩, .string ⟨#[]⟩, .int .i64 0, .slice none 0 0, .int .i64 0, .string ⟨#[]⟩, .int .i64 0, .int .i64 0, .int .i64 0, .string ⟨#[]⟩, .int .i64 0, .bool false, .string ⟨#[]⟩, .string ⟨#[]⟩, .int .i64 0, .slice none 0 0, .int .i64 0, .int .i64 0, .int .i64 0] 37) = w3) (h4 : w3.setRow w.heap.size x.cells.toArray = w4) : w4 = w.alloc (.cells x.cells.toArray 37) := by
  rw [← h4, ← h3, World.setRow_alloc_new]

set_option maxHeartbeats 4000000 in
theorem grow_ok {m : Nat} {w : World} {B : Nat} {a : Ar Nod} {lv av : List Nat} (h : Chs m w B a lv av) (s g : Int) (hgd : a.Good s g) (d : De) (p : Option Addr) (n c : Nat) (hlen : d.rt.l.length = n) (hx : Ens w p d.rt.l) (hl : n ≤ 3518437208780) (hp : p = none → n = 0)
    (hm : Dl.may d = true) (hlg : 0 ≤ (slAt a.us s.toNat).val.long ∧ (slAt a.us s.toNat).val.long < 9223372036854775807) (hf : live a.us < a.size) (hg1 : 1 ≤ a.gen) (hg2 : a.gen ≤ 9223372036854775807) :
    Calls Tryz.prog 23 #[.pointer (some ⟨B, 0, none⟩), .agg #[.int .i64 s, .int .i64 g], dlv d.k d.e d.key d.pg d.rt.leaf d.rt.lo d.rt.hi d.rt.r p n c] w fun e w' => e = .returned (.tuple #[.agg #[.int .i64 (low a.us), .int .i64 a.gen], .int .i64 0]) ∧
      ∃ q qc bs, Afc m w w' B (a.put ⟨false, Pm.zero, ⟨d, q, n, qc⟩, s, g, (slAt a.us s.toNat).val.long + 1⟩) (bs ++ lv) av ∧ (∀ g ∈ bs, w.heap.size ≤ g) := by
  obtain ⟨w0, hw0⟩ : ∃ w0, ((w.alloc (.cells #[.int .i64 s, .int .i64 g] 31)).alloc (.cells #[.int .i64 d.k, .string d.e.key, .int .i64 d.e.s, .int .i64 d.e.g, .int .i64 d.e.c, .string d.key, .int .i64 d.pg, .bool d.rt.leaf, .string d.rt.lo, .string d.rt.hi, .int .i64 d.rt.r, .slice p n c] 35)).alloc (.cells #[.int .i64 0, .int .i64 0] 31) = w0 := ⟨_, rfl⟩
  have HB0 : Hid (Below w.heap.size w w0) := by rw [← hw0]; exact (((Below.refl _ _).alloc (Nat.le_refl _) _).alloc (by simp) _).alloc (by simp; omega) _
  have HA0 : Hid (Bk w0 w.heap.size 31 #[.int .i64 s, .int .i64 g]) := by rw [← hw0]; exact ((Bk.new _ _ _).alloc _).alloc _
  have HK0 : Hid (Bk w0 (w.heap.size + 1) 35 #[.int .i64 d.k, .string d.e.key, .int .i64 d.e.s, .int .i64 d.e.g, .int .i64 d.e.c, .string d.key, .int .i64 d.pg, .bool d.rt.leaf, .string d.rt.lo, .string d.rt.hi, .int .i64 d.rt.r, .slice p n c]) := by rw [← hw0]; exact (Bk.new1 _ _ _ _).alloc _
  have HR0 : Hid (Bk w0 (w.heap.size + 1 + 1) 31 #[.int .i64 0, .int .i64 0]) := by rw [← hw0]; exact Bk.new2 _ _ _ _ _
  have HC0 : Hid (Chs m w0 B a lv av) := h.below HB0.out
  have HH : Hid (Chs m w B a lv av) := h
  have hc : ∀ W, Below w.heap.size w W → Calls Tryz.prog 58 #[dlv d.k d.e d.key d.pg d.rt.leaf d.rt.lo d.rt.hi d.rt.r p n c] W fun e w' => e = .returned (.int .i64 0) ∧ Below W.heap.size W w' := fun W hW => by
    have := dcheck_any d p n c W hlen (hx.below hW (Nat.le_refl _)) (by omega)
    rwa [if_pos hm] at this
  have HCK : Hid _ := hc
  have HCL : Hid (∀ W, Below w.heap.size w W → _) := fun W hW => dclone_any d p n c W hlen (hx.below hW (Nat.le_refl _)) (by omega) hp
  have HF : Hid (live a.us < a.size ∧ 1 ≤ a.gen ∧ a.gen ≤ 9223372036854775807) := ⟨hf, hg1, hg2⟩
  have HGD : Hid (a.Good s g) := hgd
  have HDL : Hid (d.rt.l.length = n ∧ n ≤ 3518437208780) := ⟨hlen, hl⟩
  have a0 : w0.cell? ⟨w.heap.size + 1, 0, none⟩ = some (.int .i64 d.k) := HK0.out.cell 0; have a1 : w0.cell? ⟨w.heap.size + 1, 1, none⟩ = some (.string d.e.key) := HK0.out.cell 1; have a2 : w0.cell? ⟨w.heap.size + 1, 2, none⟩ = some (.int .i64 d.e.s) := HK0.out.cell 2; have a3 : w0.cell? ⟨w.heap.size + 1, 3, none⟩ = some (.int .i64 d.e.g) := HK0.out.cell 3; have a4 : w0.cell? ⟨w.heap.size + 1, 4, none⟩ = some (.int .i64 d.e.c) := HK0.out.cell 4; have a5 : w0.cell? ⟨w.heap.size + 1, 5, none⟩ = some (.string d.key) := HK0.out.cell 5; have a6 : w0.cell? ⟨w.heap.size + 1, 6, none⟩ = some (.int .i64 d.pg) := HK0.out.cell 6; have a7 : w0.cell? ⟨w.heap.size + 1, 7, none⟩ = some (.bool d.rt.leaf) := HK0.out.cell 7; have a8 : w0.cell? ⟨w.heap.size + 1, 8, none⟩ = some (.string d.rt.lo) := HK0.out.cell 8; have a9 : w0.cell? ⟨w.heap.size + 1, 9, none⟩ = some (.string d.rt.hi) := HK0.out.cell 9; have a10 : w0.cell? ⟨w.heap.size + 1, 10, none⟩ = some (.int .i64 d.rt.r) := HK0.out.cell 10; have a11 : w0.cell? ⟨w.heap.size + 1, 11, none⟩ = some (.slice p n c) := HK0.out.cell 11
  have b0 : w0.cell? ⟨w.heap.size, 0, none⟩ = some (.int .i64 s) := HA0.out.cell 0
  have b1 : w0.cell? ⟨w.heap.size, 1, none⟩ = some (.int .i64 g) := HA0.out.cell 1
  generalize hX : (slAt a.us s.toNat).val = x at *
  have HX : Hid ((slAt a.us s.toNat).val = x) := hX
  have hwr : IntKind.i64.wrap (x.long + 1) = x.long + 1 := wrap_id9 (by omega)
  clear h hx hm hc hf hg1 hg2 hp hgd hX hlen hl hlg
  go_enter Tryz.func23, Tryz.ntmps23
  go_wp2_with fail
  refine (chmade_ok HC0.out).mono ?_
  rintro e w1 ⟨rfl, rfl⟩
  clear hw0
  go_wp2_with fail
  refine (HCK.out _ HB0.out).mono ?_
  rintro e w1 ⟨rfl, hb1⟩
  have HB1 : Hid (Below w.heap.size w w1) := HB0.out.trans (hb1.mono HB0.out.size)
  have HA1 : Hid (Bk w1 w.heap.size 31 #[.int .i64 s, .int .i64 g]) := HA0.out.below hb1 HA0.out.lt
  have HK1 : Hid (Bk w1 (w.heap.size + 1) 35 #[.int .i64 d.k, .string d.e.key, .int .i64 d.e.s, .int .i64 d.e.g, .int .i64 d.e.c, .string d.key, .int .i64 d.pg, .bool d.rt.leaf, .string d.rt.lo, .string d.rt.hi, .int .i64 d.rt.r, .slice p n c]) := HK0.out.below hb1 HK0.out.lt
  have HR1 : Hid (Bk w1 (w.heap.size + 1 + 1) 31 #[.int .i64 0, .int .i64 0]) := HR0.out.below hb1 HR0.out.lt
  have HC1 : Hid (Chs m w1 B a lv av) := HC0.out.below hb1
  clear a0 a1 a2 a3 a4 a5 a6 a7 a8 a9 a10 a11 b0 b1 hb1
  have b0 : w1.cell? ⟨w.heap.size, 0, none⟩ = some (.int .i64 s) := HA1.out.cell 0
  have b1 : w1.cell? ⟨w.heap.size, 1, none⟩ = some (.int .i64 g) := HA1.out.cell 1
  go_wp2_with fail
  refine (getWN HC1.out.ar s g HGD.out).mono ?_
  rintro e w2 ⟨rfl, ht2⟩
  rw [HX.out]
  have HB2 : Hid (Below w.heap.size w w2) := HB1.out.trans (ht2.below (by have := HB1.out.size; omega) (by simp))
  have HA2 : Hid (Bk w2 w.heap.size 31 #[.int .i64 s, .int .i64 g]) := HA1.out.tn ht2 (by simp)
  have HK2 : Hid (Bk w2 (w.heap.size + 1) 35 #[.int .i64 d.k, .string d.e.key, .int .i64 d.e.s, .int .i64 d.e.g, .int .i64 d.e.c, .string d.key, .int .i64 d.pg, .bool d.rt.leaf, .string d.rt.lo, .string d.rt.hi, .int .i64 d.rt.r, .slice p n c]) := HK1.out.tn ht2 (by simp)
  have HR2 : Hid (Bk w2 (w.heap.size + 1 + 1) 31 #[.int .i64 0, .int .i64 0]) := HR1.out.tn ht2 (by simp)
  clear b0 b1 ht2
  obtain ⟨wz, hwz⟩ : ∃ wz, w2.alloc (.cells #[.bool false, .bool false, .string ⟨#[]⟩, .string ⟨#[]⟩, .int .i64 0, .slice none 0 0, .int .i64 0, .string ⟨#[]⟩, .int .i64 0, .int .i64 0, .int .i64 0, .string ⟨#[]⟩, .int .i64 0, .bool false, .string ⟨#[]⟩, .string ⟨#[]⟩, .int .i64 0, .slice none 0 0, .int .i64 0, .int .i64 0, .int .i64 0] 37) = wz := ⟨_, rfl⟩
  have HZ : Hid (Bk wz w2.heap.size 37 #[.bool false, .bool false, .string ⟨#[]⟩, .string ⟨#[]⟩, .int .i64 0, .slice none 0 0, .int .i64 0, .string ⟨#[]⟩, .int .i64 0, .int .i64 0, .int .i64 0, .string ⟨#[]⟩, .int .i64 0, .bool false, .string ⟨#[]⟩, .string ⟨#[]⟩, .int .i64 0, .slice none 0 0, .int .i64 0, .int .i64 0, .int .i64 0]) := by rw [← hwz]; exact Bk.new _ _ _
  obtain ⟨w3, hw3⟩ : ∃ w3, wz.setRow w2.heap.size x.cells.toArray = w3 := ⟨_, rfl⟩
  have hw4 := nd_laid hwz hw3
  have HB3 : Hid (Below w.heap.size w w3) := by rw [hw4]; exact HB2.out.alloc HB2.out.size _
  have HA3 : Hid (Bk w3 w.heap.size 31 #[.int .i64 s, .int .i64 g]) := by rw [hw4]; exact HA2.out.alloc _
  have HK3 : Hid (Bk w3 (w.heap.size + 1) 35 #[.int .i64 d.k, .string d.e.key, .int .i64 d.e.s, .int .i64 d.e.g, .int .i64 d.e.c, .string d.key, .int .i64 d.pg, .bool d.rt.leaf, .string d.rt.lo, .string d.rt.hi, .int .i64 d.rt.r, .slice p n c]) := by rw [hw4]; exact HK2.out.alloc _
  have HR3 : Hid (Bk w3 (w.heap.size + 1 + 1) 31 #[.int .i64 0, .int .i64 0]) := by rw [hw4]; exact HR2.out.alloc _
  have HN3 : Hid (Bk w3 w2.heap.size 37 x.cells.toArray) := by rw [hw4]; exact Bk.new _ _ _
  have HLT : Hid (w.heap.size + 1 + 1 < w2.heap.size) := HR2.out.lt
  clear hw4
  have a0 : w3.cell? ⟨w.heap.size + 1, 0, none⟩ = some (.int .i64 d.k) := HK3.out.cell 0; have a1 : w3.cell? ⟨w.heap.size + 1, 1, none⟩ = some (.string d.e.key) := HK3.out.cell 1; have a2 : w3.cell? ⟨w.heap.size + 1, 2, none⟩ = some (.int .i64 d.e.s) := HK3.out.cell 2; have a3 : w3.cell? ⟨w.heap.size + 1, 3, none⟩ = some (.int .i64 d.e.g) := HK3.out.cell 3; have a4 : w3.cell? ⟨w.heap.size + 1, 4, none⟩ = some (.int .i64 d.e.c) := HK3.out.cell 4; have a5 : w3.cell? ⟨w.heap.size + 1, 5, none⟩ = some (.string d.key) := HK3.out.cell 5; have a6 : w3.cell? ⟨w.heap.size + 1, 6, none⟩ = some (.int .i64 d.pg) := HK3.out.cell 6; have a7 : w3.cell? ⟨w.heap.size + 1, 7, none⟩ = some (.bool d.rt.leaf) := HK3.out.cell 7; have a8 : w3.cell? ⟨w.heap.size + 1, 8, none⟩ = some (.string d.rt.lo) := HK3.out.cell 8; have a9 : w3.cell? ⟨w.heap.size + 1, 9, none⟩ = some (.string d.rt.hi) := HK3.out.cell 9; have a10 : w3.cell? ⟨w.heap.size + 1, 10, none⟩ = some (.int .i64 d.rt.r) := HK3.out.cell 10; have a11 : w3.cell? ⟨w.heap.size + 1, 11, none⟩ = some (.slice p n c) := HK3.out.cell 11
  have b0 : w3.cell? ⟨w.heap.size, 0, none⟩ = some (.int .i64 s) := HA3.out.cell 0
  have b1 : w3.cell? ⟨w.heap.size, 1, none⟩ = some (.int .i64 g) := HA3.out.cell 1
  have x20 : w3.cell? ⟨w2.heap.size, 20, none⟩ = some (.int .i64 x.long) := HN3.out.cell 20
  generalize hxw : x.w = xw at *
  go_wp2_with (refine wpList_store_row rfl 37 _ _ rfl w2.heap.size x.cells.toArray rfl (by rw [← hxw]; rfl) _ _ HZ.out (by simpa [x.len] using nd_info) rfl (all_oneCell_toArray x.one) ?_; rw [hw3])
  clear hw3 hwz
  go_region_held3 (fun w' => (w'.cell? ⟨w.heap.size + 1, 0, none⟩ = some (.int .i64 d.k) ∧ w'.cell? ⟨w.heap.size + 1, 1, none⟩ = some (.string d.e.key) ∧ w'.cell? ⟨w.heap.size + 1, 2, none⟩ = some (.int .i64 d.e.s) ∧ w'.cell? ⟨w.heap.size + 1, 3, none⟩ = some (.int .i64 d.e.g) ∧ w'.cell? ⟨w.heap.size + 1, 4, none⟩ = some (.int .i64 d.e.c) ∧ w'.cell? ⟨w.heap.size + 1, 5, none⟩ = some (.string d.key) ∧ w'.cell? ⟨w.heap.size + 1, 6, none⟩ = some (.int .i64 d.pg) ∧ w'.cell? ⟨w.heap.size + 1, 7, none⟩ = some (.bool d.rt.leaf) ∧ w'.cell? ⟨w.heap.size + 1, 8, none⟩ = some (.string d.rt.lo) ∧ w'.cell? ⟨w.heap.size + 1, 9, none⟩ = some (.string d.rt.hi) ∧ w'.cell? ⟨w.heap.size + 1, 10, none⟩ = some (.int .i64 d.rt.r) ∧ w'.cell? ⟨w.heap.size + 1, 11, none⟩ = some (.slice p n c)) ∧ w'.cell? ⟨w.heap.size, 0, none⟩ = some (.int .i64 s) ∧ w'.cell? ⟨w.heap.size, 1, none⟩ = some (.int .i64 g) ∧ w'.cell? ⟨w2.heap.size, 20, none⟩ = some (.int .i64 x.long)) (go_keep) (first
    | (go_at_call 60
       refine (HCL.out _ HB3.out.drew).mono ?_
       rintro e w4 ⟨q, qc, rfl, ho, hb4⟩
       have HB4 : Hid (Below w.heap.size w w4) := HB3.out.drew.trans (hb4.mono HB3.out.size)
       have HA4 : Hid (Bk w4 w.heap.size 31 #[.int .i64 s, .int .i64 g]) := HA3.out.drew.below hb4 HA3.out.lt
       have HK4 : Hid (Bk w4 (w.heap.size + 1) 35 #[.int .i64 d.k, .string d.e.key, .int .i64 d.e.s, .int .i64 d.e.g, .int .i64 d.e.c, .string d.key, .int .i64 d.pg, .bool d.rt.leaf, .string d.rt.lo, .string d.rt.hi, .int .i64 d.rt.r, .slice p n c]) := HK3.out.drew.below hb4 HK3.out.lt
       have HR4 : Hid (Bk w4 (w.heap.size + 1 + 1) 31 #[.int .i64 0, .int .i64 0]) := HR3.out.drew.below hb4 HR3.out.lt
       have HN4 : Hid (Bk w4 w2.heap.size 37 x.cells.toArray) := HN3.out.drew.below hb4 HN3.out.lt
       have HO4 : Hid (OwnE w4 w3.heap.size (.slice q n qc) d.rt.l) := ho
       have hz4 : w3.heap.size ≤ w4.heap.size := hb4.size
       have c0 : w4.cell? ⟨w.heap.size + 1, 0, none⟩ = some (.int .i64 d.k) := HK4.out.cell 0; have c1 : w4.cell? ⟨w.heap.size + 1, 1, none⟩ = some (.string d.e.key) := HK4.out.cell 1; have c2 : w4.cell? ⟨w.heap.size + 1, 2, none⟩ = some (.int .i64 d.e.s) := HK4.out.cell 2; have c3 : w4.cell? ⟨w.heap.size + 1, 3, none⟩ = some (.int .i64 d.e.g) := HK4.out.cell 3; have c4 : w4.cell? ⟨w.heap.size + 1, 4, none⟩ = some (.int .i64 d.e.c) := HK4.out.cell 4; have c5 : w4.cell? ⟨w.heap.size + 1, 5, none⟩ = some (.string d.key) := HK4.out.cell 5; have c6 : w4.cell? ⟨w.heap.size + 1, 6, none⟩ = some (.int .i64 d.pg) := HK4.out.cell 6; have c7 : w4.cell? ⟨w.heap.size + 1, 7, none⟩ = some (.bool d.rt.leaf) := HK4.out.cell 7; have c8 : w4.cell? ⟨w.heap.size + 1, 8, none⟩ = some (.string d.rt.lo) := HK4.out.cell 8; have c9 : w4.cell? ⟨w.heap.size + 1, 9, none⟩ = some (.string d.rt.hi) := HK4.out.cell 9; have c10 : w4.cell? ⟨w.heap.size + 1, 10, none⟩ = some (.int .i64 d.rt.r) := HK4.out.cell 10; have c11 : w4.cell? ⟨w.heap.size + 1, 11, none⟩ = some (.slice p n c) := HK4.out.cell 11
       have d0 : w4.cell? ⟨w.heap.size, 0, none⟩ = some (.int .i64 s) := HA4.out.cell 0
       have d1 : w4.cell? ⟨w.heap.size, 1, none⟩ = some (.int .i64 g) := HA4.out.cell 1
       have y20 : w4.cell? ⟨w2.heap.size, 20, none⟩ = some (.int .i64 x.long) := HN4.out.cell 20
       clear ho hb4)
    | (go_at_call 50
       obtain ⟨s1, s2, s3, s4, s5, s6⟩ := sblk_own HO4.out
       have hz3 : w2.heap.size < w3.heap.size := HN3.out.lt
       have hz2 : w.heap.size + 1 + 1 < w2.heap.size := HLT.out
       have HC4 : Hid (Chs m w4 B a (sblk q n qc ++ lv) ([w.heap.size + 1 + 1, w.heap.size, w.heap.size + 1, w2.heap.size] ++ av)) := HH.out.more (Tn.of_below HB4.out []) _ _ (fun g hg => ⟨by have := (s1 g hg).1; omega, (s1 g hg).2⟩) (fun g hg => by
         simp only [List.mem_cons, List.not_mem_nil, or_false] at hg
         rcases hg with rfl | rfl | rfl | rfl <;> omega) (fun g hg hg' => by
         simp only [List.mem_cons, List.not_mem_nil, or_false] at hg'
         have := (s1 g hg).1
         omega)
       have HX4 : Hid (NdIn w4 (sblk q n qc ++ lv) ⟨false, Pm.zero, ⟨d, q, n, qc⟩, s, g, x.long + 1⟩) := {
         len := rfl, ens := Ens.nil _ _, nil := fun _ => ⟨rfl, rfl⟩, le := Nat.le_refl _, room := (NdIn.zero w4 []).room
         dl := ⟨HDL.out.1, s4, s5, s6, HDL.out.2⟩
         pin := fun b o hp => by cases hp
         din := fun b o hp => List.mem_append.2 (.inl (s2 b o hp)) }
       have HS4 : Hid (∀ g ∈ sblk q n qc, w.heap.size ≤ g) := fun g hg => by have := (s1 g hg).1; omega
       refine (putSN HC4.out.ar ⟨false, Pm.zero, ⟨d, q, n, qc⟩, s, g, x.long + 1⟩ HF.out.1 HF.out.2.1 HF.out.2.2).mono ?_
       rintro e w5 ⟨rfl, hk5⟩
       have HA5 : Hid (Afc m w4 w5 B (a.put ⟨false, Pm.zero, ⟨d, q, n, qc⟩, s, g, x.long + 1⟩) (sblk q n qc ++ lv) ([w.heap.size + 1 + 1, w.heap.size, w.heap.size + 1, w2.heap.size] ++ av)) := HC4.out.put HX4.out hk5
       have HR5 : Hid (Bk w5 (w.heap.size + 1 + 1) 31 #[.int .i64 0, .int .i64 0]) := (HA5.out.same _ (by simp)).trans HR4.out
       have HK5 : Hid (Bk w5 (w.heap.size + 1) 35 #[.int .i64 d.k, .string d.e.key, .int .i64 d.e.s, .int .i64 d.e.g, .int .i64 d.e.c, .string d.key, .int .i64 d.pg, .bool d.rt.leaf, .string d.rt.lo, .string d.rt.hi, .int .i64 d.rt.r, .slice p n c]) := (HA5.out.same _ (by simp)).trans HK4.out
       have HH5 : Hid (Bk w5 w.heap.size 31 #[.int .i64 s, .int .i64 g]) := (HA5.out.same _ (by simp)).trans HA4.out
       have HN5 : Hid (Bk w5 w2.heap.size 37 x.cells.toArray) := (HA5.out.same _ (by simp)).trans HN4.out
       clear c0 c1 c2 c3 c4 c5 c6 c7 c8 c9 c10 c11 d0 d1 y20 s1 s2 s3 s4 s5 s6
       have c0 : w5.cell? ⟨w.heap.size + 1, 0, none⟩ = some (.int .i64 d.k) := HK5.out.cell 0; have c1 : w5.cell? ⟨w.heap.size + 1, 1, none⟩ = some (.string d.e.key) := HK5.out.cell 1; have c2 : w5.cell? ⟨w.heap.size + 1, 2, none⟩ = some (.int .i64 d.e.s) := HK5.out.cell 2; have c3 : w5.cell? ⟨w.heap.size + 1, 3, none⟩ = some (.int .i64 d.e.g) := HK5.out.cell 3; have c4 : w5.cell? ⟨w.heap.size + 1, 4, none⟩ = some (.int .i64 d.e.c) := HK5.out.cell 4; have c5 : w5.cell? ⟨w.heap.size + 1, 5, none⟩ = some (.string d.key) := HK5.out.cell 5; have c6 : w5.cell? ⟨w.heap.size + 1, 6, none⟩ = some (.int .i64 d.pg) := HK5.out.cell 6; have c7 : w5.cell? ⟨w.heap.size + 1, 7, none⟩ = some (.bool d.rt.leaf) := HK5.out.cell 7; have c8 : w5.cell? ⟨w.heap.size + 1, 8, none⟩ = some (.string d.rt.lo) := HK5.out.cell 8; have c9 : w5.cell? ⟨w.heap.size + 1, 9, none⟩ = some (.string d.rt.hi) := HK5.out.cell 9; have c10 : w5.cell? ⟨w.heap.size + 1, 10, none⟩ = some (.int .i64 d.rt.r) := HK5.out.cell 10; have c11 : w5.cell? ⟨w.heap.size + 1, 11, none⟩ = some (.slice p n c) := HK5.out.cell 11
       have d0 : w5.cell? ⟨w.heap.size, 0, none⟩ = some (.int .i64 s) := HH5.out.cell 0
       have d1 : w5.cell? ⟨w.heap.size, 1, none⟩ = some (.int .i64 g) := HH5.out.cell 1
       have y20 : w5.cell? ⟨w2.heap.size, 20, none⟩ = some (.int .i64 x.long) := HN5.out.cell 20
       have e0 : w5.cell? ⟨w.heap.size + 1 + 1, 0, none⟩ = some (.int .i64 0) := HR5.out.cell 0
       have e1 : w5.cell? ⟨w.heap.size + 1 + 1, 1, none⟩ = some (.int .i64 0) := HR5.out.cell 1
       have f0 : w5.frozen? ⟨w.heap.size + 1 + 1, 0, none⟩ = false := HR5.out.frozen 0
       have f1 : w5.frozen? ⟨w.heap.size + 1 + 1, 1, none⟩ = false := HR5.out.frozen 1
       have n1 : ¬ (w.heap.size + 1 + 1 = w.heap.size) := by omega
       have n2 : ¬ (w.heap.size + 1 + 1 = w2.heap.size) := by omega
       have n3 : ¬ (w2.heap.size = w.heap.size + 1 + 1) := by omega
       have n4 : ¬ (w.heap.size = w.heap.size + 1 + 1) := by omega
       clear hk5))
  clear c0 c1 c2 c3 c4 c5 c6 c7 c8 c9 c10 c11 d0 d1 y20 e0 e1 f0 f1
  go_wp2
  refine bodyPost_ret (results_hndN rfl rfl (by exact ((HR5.out.set 0 _).set 1 _))) rfl ?_
  have t6 : Tn [w.heap.size + 1 + 1] w5 ((w5.setCell ⟨w.heap.size + 1 + 1, 0, none⟩ (.int .i64 (low a.us : Nat))).setCell ⟨w.heap.size + 1 + 1, 1, none⟩ (.int .i64 a.gen)) := ((Tn.refl _ _).setCell (.inl (by simp)) _).setCell (.inl (by simp)) _
  refine ⟨rfl, q, qc, sblk q n qc, ⟨((HA5.out.chs.other t6 (by simp)).sub (fun x hx => List.mem_append.2 (.inr hx))), ?_, fun g hg => ?_, ?_⟩, HS4.out⟩
  · have hge := HH.out.ge
    exact (HB4.out.mono hge |>.trans HA5.out.below).trans (t6.below (by have := HA5.out.below.size; have := HB4.out.size; omega) (by simp; omega))
  · have hlt := HH.out.lt g (List.mem_append.2 (.inr hg))
    rw [t6.block g (by have := HA5.out.size; have := HB4.out.size; omega) (by simp; omega), HA5.out.same g (List.mem_append.2 (.inr hg)), HB4.out.block g hlt]
  · have := t6.size; have := HA5.out.size; have := HB4.out.size; omega

set_option maxHeartbeats 2000000 in
theorem long_ok {m : Nat} {w : World} {B : Nat} {a : Ar Nod} {lv av : List Nat} (h : Chs m w B a lv av) (s g : Int) (hgd : a.Good s g) :
    Calls Tryz.prog 30 #[.pointer (some ⟨B, 0, none⟩), .agg #[.int .i64 s, .int .i64 g]] w fun e w' => e = .returned (.tuple #[.int .i64 (slAt a.us s.toNat).val.long, .int .i64 0]) ∧ Tn [] w w' := by
  obtain ⟨w0, hw0⟩ : ∃ w0, w.alloc (.cells #[.int .i64 s, .int .i64 g] 31) = w0 := ⟨_, rfl⟩
  have HT0 : Hid (Tn [] w w0) := by rw [← hw0]; exact (Tn.refl _ _).alloc _
  have HA0 : Hid (Bk w0 w.heap.size 31 #[.int .i64 s, .int .i64 g]) := by rw [← hw0]; exact Bk.new _ _ _
  have HC0 : Hid (Chs m w0 B a lv av) := h.quiet HT0.out
  have HGD : Hid (a.Good s g) := hgd
  have b0 : w0.cell? ⟨w.heap.size, 0, none⟩ = some (.int .i64 s) := HA0.out.cell 0
  have b1 : w0.cell? ⟨w.heap.size, 1, none⟩ = some (.int .i64 g) := HA0.out.cell 1
  generalize hX : (slAt a.us s.toNat).val = x at *
  clear h hgd
  go_enter Tryz.func30, Tryz.ntmps30
  go_wp2_with fail
  refine (getWN HC0.out.ar s g HGD.out).mono ?_
  rintro e w2 ⟨rfl, ht2⟩
  rw [hX]
  have HT2 : Hid (Tn [] w w2) := HT0.out.trans ht2 (by simp)
  clear hw0 b0 b1 ht2
  obtain ⟨wz, hwz⟩ : ∃ wz, w2.alloc (.cells #[.bool false, .bool false, .string ⟨#[]⟩, .string ⟨#[]⟩, .int .i64 0, .slice none 0 0, .int .i64 0, .string ⟨#[]⟩, .int .i64 0, .int .i64 0, .int .i64 0, .string ⟨#[]⟩, .int .i64 0, .bool false, .string ⟨#[]⟩, .string ⟨#[]⟩, .int .i64 0, .slice none 0 0, .int .i64 0, .int .i64 0, .int .i64 0] 37) = wz := ⟨_, rfl⟩
  have HZ : Hid (Bk wz w2.heap.size 37 #[.bool false, .bool false, .string ⟨#[]⟩, .string ⟨#[]⟩, .int .i64 0, .slice none 0 0, .int .i64 0, .string ⟨#[]⟩, .int .i64 0, .int .i64 0, .int .i64 0, .string ⟨#[]⟩, .int .i64 0, .bool false, .string ⟨#[]⟩, .string ⟨#[]⟩, .int .i64 0, .slice none 0 0, .int .i64 0, .int .i64 0, .int .i64 0]) := by rw [← hwz]; exact Bk.new _ _ _
  obtain ⟨w3, hw3⟩ : ∃ w3, wz.setRow w2.heap.size x.cells.toArray = w3 := ⟨_, rfl⟩
  have hw4 := nd_laid hwz hw3
  have HN3 : Hid (Bk w3 w2.heap.size 37 x.cells.toArray ∧ Tn [] w w3) := by rw [hw4]; exact ⟨Bk.new _ _ _, HT2.out.alloc _⟩
  have x20 : w3.cell? ⟨w2.heap.size, 20, none⟩ = some (.int .i64 x.long) := HN3.out.1.cell 20
  clear hw4
  generalize hxw : x.w = xw at *
  go_wp2_with (refine wpList_store_row rfl 37 _ _ rfl w2.heap.size x.cells.toArray rfl (by rw [← hxw]; rfl) _ _ HZ.out (by simpa [x.len] using nd_info) rfl (all_oneCell_toArray x.one) ?_; rw [hw3])
  go_ret2
  exact ⟨rfl, HN3.out.2⟩

end Go.Proofs.YtoehlgigidgfpaaGreat

namespace Go.Proofs.YtoehlgigidgfpaaGreat
open Go.RowKit Go.Shelf
set_option linter.unusedVariables false
set_option maxRecDepth 100000

section
variable {P : Program} {n : Nat} {f : FuncId} {Q : Exit → Act → World → Prop} {a : Act} {w : World}

/-- An iterator that makes memory of its own between the rounds; they may leave early, or panic. -/
def SeqStopsQ {α : Type} (n : Nat) (P : Program) (g : Nat) (lb : Array Value) (encs : α → Array Value) (Kp : World → World → Prop) (S Sp : List α → Prop) (w : World) : Prop :=
  ∀ (l : Nat) (J Jx : List α → World → Prop) (Jp : List PanicEntry → List α → World → Prop) (W : World), Below w.heap.size w W → (∀ pre A A', J pre A → A.grownBy A' none → J pre A') →
    (∀ pre x W1, J pre W1 → Sp (pre ++ [x]) → YieldAt Fence.wide (n - 1) P l (encs x) W1 fun e W' =>
      (e = .returned (.bool true) ∧ J (pre ++ [x]) W' ∧ Kp W1 W') ∨ (e = .returned (.bool false) ∧ Jx (pre ++ [x]) W') ∨ (∃ chain, e = .panicked chain ∧ Jp chain (pre ++ [x]) W')) →
    J [] W →
    CallsIn Fence.wide n P g (#[.func (.yield l) #[] #[]] ++ lb) W fun e W' => ((∃ v, e = .returned v) ∧ ((∃ xs, S xs ∧ J xs W') ∨ (∃ pre, Sp pre ∧ Jx pre W'))) ∨ ∃ chain pre, e = .panicked chain ∧ Sp pre ∧ Jp chain pre W'

theorem wpAt_rangeQ {α : Type} {g : Operand} {ps : Array Tmp} {assign body : Code} {fnn : Func} (hff : P.funcs[f]? = some fnn)
    {gf : Nat} {lb : Array Value} (hg : a.eval g = .func (.func gf) #[] lb) (eg : ∀ args w, (callFunc gf args).run P w = .ok (.enter gf args) w)
    {encs : α → Array Value} {Kp : World → World → Prop} {S Sp : List α → Prop} {w0 : World} (hseq : SeqStopsQ 8 P gf lb encs Kp S Sp w0)
    (hKt : ∀ {A B C : World}, Kp A B → Kp B C → Kp A C) (hKb : ∀ (W : World) (l : Nat) (o o' : Obj), w.heap.size ≤ l → W.heap[l]? = some o → o.isCells = false → o.isWalk = false → Kp W (W.putObj l o')) (hb0 : Below w0.heap.size w0 w) (hps : ∀ x, (encs x).size = ps.size)
    (I : List α → World → Prop) (Ix : Code → List α → World → Prop) (Ip : List PanicEntry → List α → World → Prop) (hI : OwnFrom w.heap.size I) (hIx : ∀ c, OwnFrom w.heap.size (Ix c)) (h0 : I [] w) (Ax : α → Act → World → Prop) (hAx : ∀ x a', OwnFrom w.heap.size (fun (_ : Unit) W => Ax x a' W))
    (hassign : ∀ (l : Nat) (pre : List α) (x : α) (W : World) (K : Act → World → Prop), I pre W → (∀ a' W', KeepsFrom w.heap.size W W' → Kp W W' → I pre W' → Ax x a' W' → K a' W') →
      assign.wpIn (Fence.wide.inRound l) 7 P (Exit.then K (fun _ _ _ => False)) { tmps := (ps.zip (encs x)).foldl (fun t (p, v) => t.setIfInBounds p v) a.tmps, defers := [] } W)
    (hbody : ∀ (l : Nat) (pre : List α) (x : α) (a' : Act) (W : World), w.heap.size ≤ l → I pre W → Ax x a' W → Sp (pre ++ [x]) → body.wpIn (Fence.wide.inRound l) 7 P (ownPostP w.heap.size Kp I Ix Ip (pre ++ [x]) W) a' W)
    (hdone : ∀ (D : Nat) (xs : List α) (W : World), w.heap.size ≤ D → S xs → I xs W → W.heap[D]? = some (.deferred (some [])) → Q .normal { a with defers := { target := .collected D, args := #[] } :: a.defers } W)
    (hstop : ∀ (D : Nat) (c : Code) (pre : List α) (W : World), w.heap.size ≤ D → Sp pre → Ix c pre W → W.heap[D]? = some (.deferred (some [])) → c.wpIn Fence.wide 9 P Q { a with defers := { target := .collected D, args := #[] } :: a.defers } W)
    (hpan : ∀ (D : Nat) (chain : List PanicEntry) (pre : List α) (W : World), w.heap.size ≤ D → Sp pre → Ip chain pre W → W.heap[D]? = some (.deferred (some [])) → Q (.panic chain) { a with defers := { target := .collected D, args := #[] } :: a.defers } W) :
    wpAt f P (Code.rangeFunc g ps assign body) Q a w := by
  refine wpAt_rangeFunc ?_
  obtain ⟨rec, hrec⟩ : ∃ rec : LoopState → Option Code → Loop, rec = fun st pe => { state := st, pending := pe, fn := f, tmps := a.tmps, params := ps, assign, body, defers := w.heap.size } := ⟨_, rfl⟩
  obtain ⟨W1, hW1⟩ : ∃ W1, (w.alloc (.deferred (some []))).alloc (.loop (rec .ready none)) = W1 := ⟨_, rfl⟩
  have hL1 : W1.heap[w.heap.size + 1]? = some (.loop (rec .ready none)) := by
    rw [← hW1]; have := World.alloc_heap_new (w.alloc (.deferred (some []))) (.loop (rec .ready none)); rwa [World.size_alloc] at this
  have hK1 : W1.heap[w.heap.size]? = some (.deferred (some [])) := by
    rw [← hW1]; exact (Below.heap_alloc _ _ _ (by simp)).trans (World.alloc_heap_new w _)
  have hI1 : I [] W1 := by rw [← hW1]; exact hI.alloc _ (hI.alloc _ h0)
  have hb1 : Below w0.heap.size w0 W1 := by
    rw [← hW1]; exact hb0.trans ((((Below.refl _ w).alloc (Nat.le_refl _) _).alloc (by simp) _).mono hb0.size)
  refine ⟨w.heap.size + 1, [{ target := .collected w.heap.size, args := #[] }], W1, { target := .fn (.func gf) lb, args := #[.func (.yield (w.heap.size + 1)) #[] #[]] }, W1, gf,
    #[.func (.yield (w.heap.size + 1)) #[] #[]] ++ lb, W1, ?_, ?_, ?_, ?_⟩
  · rw [← hW1, hrec]; exact run_enterLoop_outer _ _ _ _ _
  · simp only [resolve, hg]
    simp [go_sem]
  · simp [invoke, go_sem, eg]
  · refine (hseq (w.heap.size + 1)
      (fun pre W => I pre W ∧ W.heap[w.heap.size + 1]? = some (.loop (rec .ready none)) ∧ W.heap[w.heap.size]? = some (.deferred (some [])))
      (fun pre W => ∃ c, Ix c pre W ∧ W.heap[w.heap.size + 1]? = some (.loop (rec .done (some c))) ∧ W.heap[w.heap.size]? = some (.deferred (some [])))
      (fun chain pre W => Ip chain pre W ∧ W.heap[w.heap.size]? = some (.deferred (some [])))
      W1 hb1 ?_ ?_ ⟨hI1, hL1, hK1⟩).mono ?_
    · rintro pre A A' ⟨h1, h2, h3⟩ hg
      exact ⟨hI pre A A' none h1 hg (fun r e => by cases e), (hg.block _ (Array.getElem?_eq_some_iff.1 h2).1 (by simp)).trans h2, (hg.block _ (Array.getElem?_eq_some_iff.1 h3).1 (by simp)).trans h3⟩
    · rintro pre x W ⟨hi, hl, hk⟩ hlen
      have hlt : w.heap.size + 1 < W.heap.size := (Array.getElem?_eq_some_iff.1 hl).1
      have hy := run_yield (P := P) (args := encs x) hl (by rw [hrec]; exact hps x)
      rw [hrec] at hy
      refine ⟨f, _, assign, body, hy, roundIn_panics hff (hassign _ pre x W _ hi ?_)⟩
      clear hy
      intro a' Wa hkfa hkpa hia hax
      replace hl := hkfa.same _ _ (by omega) hl rfl
      replace hk := hkfa.same _ _ (Nat.le_refl _) hk rfl
      replace hlt : w.heap.size + 1 < Wa.heap.size := (Array.getElem?_eq_some_iff.1 hl).1
      replace hi := hia
      clear hia
      revert hkpa hkfa
      generalize W = Wb
      intro hkfa hkpa
      obtain ⟨W, rfl⟩ : ∃ W, W = Wa := ⟨_, rfl⟩
      refine ⟨_, run_beginRound hl (by rw [hrec]), ?_⟩
      have hl2 : (W.putObj (w.heap.size + 1) (.loop { rec .ready none with state := .busy })).heap[w.heap.size + 1]? = some (.loop { rec .ready none with state := .busy }) := World.putObj_heap_same hlt
      have hk2 : (W.putObj (w.heap.size + 1) (.loop { rec .ready none with state := .busy })).heap[w.heap.size]? = some (.deferred (some [])) := (World.putObj_heap_other (by omega)).trans hk
      have hw2 : Kp W (W.putObj (w.heap.size + 1) (.loop { rec .ready none with state := .busy })) := hKb _ _ _ _ (by omega) hl rfl rfl
      refine wpIn_mono (hbody _ pre x a' _ (by omega) (hI.putObj _ hi (by omega) hl rfl) ((hAx x a').putObj (s := ()) _ hax (by omega) hl rfl) hlen) ?_
      have fin : ∀ (jump : Option Code) (W3 : World), KeepsFrom w.heap.size (W.putObj (w.heap.size + 1) (.loop { rec .ready none with state := .busy })) W3 →
          (Instr.endRound (w.heap.size + 1) jump).run P W3 = .ok (.bool jump.isNone) (W3.putObj (w.heap.size + 1) (.loop (rec (if jump.isNone then .ready else .done) jump))) ∧
          W3.heap[w.heap.size + 1]? = some (.loop { rec .ready none with state := .busy }) ∧
          (W3.putObj (w.heap.size + 1) (.loop (rec (if jump.isNone then .ready else .done) jump))).heap[w.heap.size + 1]? = some (.loop (rec (if jump.isNone then .ready else .done) jump)) ∧
          (W3.putObj (w.heap.size + 1) (.loop (rec (if jump.isNone then .ready else .done) jump))).heap[w.heap.size]? = some (.deferred (some [])) := fun jump W3 hk3 => by
        have hl3 := hk3.same _ _ (by omega) hl2 rfl
        have := run_endRound (P := P) jump hl3
        rw [hrec] at this ⊢
        exact ⟨this, by rw [hrec] at hl3; exact hl3, World.putObj_heap_same (Array.getElem?_eq_some_iff.1 hl3).1, (World.putObj_heap_other (by omega)).trans (hk3.same _ _ (Nat.le_refl _) hk2 rfl)⟩
      rintro e a3 W3 hp
      cases e with
      | normal =>
        obtain ⟨hk3, hkp3, hi3⟩ := hp
        obtain ⟨hr, hl3, hl4, hk4⟩ := fin none W3 hk3
        exact ⟨_, _, hr, .inl ⟨rfl, ⟨hI.putObj _ hi3 (by omega) hl3 rfl, hl4, hk4⟩, hKt hkpa (hKt (hKt hw2 hkp3) (hKb _ _ _ _ (by omega) hl3 rfl rfl))⟩⟩
      | ret =>
        obtain ⟨hk3, hi3⟩ := hp
        obtain ⟨hr, hl3, hl4, hk4⟩ := fin (some .ret) W3 hk3
        exact ⟨_, _, hr, .inr (.inl ⟨rfl, .ret, (hIx _).putObj _ hi3 (by omega) hl3 rfl, hl4, hk4⟩)⟩
      | exit id =>
        obtain ⟨hk3, hi3⟩ := hp
        obtain ⟨hr, hl3, hl4, hk4⟩ := fin (some (.exit id)) W3 hk3
        exact ⟨_, _, hr, .inr (.inl ⟨rfl, .exit id, (hIx _).putObj _ hi3 (by omega) hl3 rfl, hl4, hk4⟩)⟩
      | goto t =>
        obtain ⟨hk3, hi3⟩ := hp
        obtain ⟨hr, hl3, hl4, hk4⟩ := fin (some (.goto t)) W3 hk3
        exact ⟨_, _, hr, .inr (.inl ⟨rfl, .goto t, (hIx _).putObj _ hi3 (by omega) hl3 rfl, hl4, hk4⟩)⟩
      | panic ch =>
        obtain ⟨hd, hk3, hp3⟩ := hp
        exact ⟨hd, .inr (.inr ⟨ch, rfl, hp3, hk3.same _ _ (Nat.le_refl _) hk2 rfl⟩)⟩
      | outgrown => exact hp.elim
    · rintro e W2 (⟨⟨v, rfl⟩, (⟨xs, hS, hi, hl, hk⟩ | ⟨pre, hSp, c, hi, hl, hk⟩)⟩ | ⟨chain, pre, rfl, hSp, hp, hk⟩)
      · exact ⟨none, _, by have := run_endLoop (P := P) hl (by rw [hrec]; simp); rw [hrec] at this; exact this, hdone _ xs _ (Nat.le_refl _) hS (hI.putObj _ hi (by omega) hl rfl) ((World.putObj_heap_other (by omega)).trans hk)⟩
      · exact ⟨some c, _, by have := run_endLoop (P := P) hl (by rw [hrec]; simp); rw [hrec] at this; exact this, hstop _ c pre _ (Nat.le_refl _) hSp ((hIx c).putObj _ hi (by omega) hl rfl) ((World.putObj_heap_other (by omega)).trans hk)⟩
      · exact hpan _ chain pre _ (Nat.le_refl _) hSp hp hk

/-- The same, where the round's variable is boxed in each round: A is the activation, told by the box. -/
theorem wpAt_boxedQ {α : Type} {g : Operand} {ps : Array Tmp} {assign body : Code} {fnn : Func} (A : Nat → α → Act) (hff : P.funcs[f]? = some fnn)
    {gf : Nat} {lb : Array Value} (hg : a.eval g = .func (.func gf) #[] lb) (eg : ∀ args w, (callFunc gf args).run P w = .ok (.enter gf args) w)
    {encs : α → Array Value} {Kp : World → World → Prop} {S Sp : List α → Prop} {w0 : World} (hseq : SeqStopsQ 8 P gf lb encs Kp S Sp w0)
    (hKt : ∀ {A B C : World}, Kp A B → Kp B C → Kp A C) (hKb : ∀ (W : World) (l : Nat) (o o' : Obj), w.heap.size ≤ l → W.heap[l]? = some o → o.isCells = false → o.isWalk = false → Kp W (W.putObj l o')) (hb0 : Below w0.heap.size w0 w) (hps : ∀ x, (encs x).size = ps.size)
    (I : List α → World → Prop) (Ix : Code → List α → World → Prop) (Ip : List PanicEntry → List α → World → Prop) (hI : OwnFrom w.heap.size I) (hIx : ∀ c, OwnFrom w.heap.size (Ix c)) (h0 : I [] w) (Bx : α → Nat → World → Prop) (hBx : ∀ x bx, OwnFrom w.heap.size (fun (_ : Unit) W => Bx x bx W))
    (hassign : ∀ (l : Nat) (pre : List α) (x : α) (W : World) (K : Act → World → Prop), I pre W → (∀ bx W', KeepsFrom w.heap.size W W' → Kp W W' → I pre W' → Bx x bx W' → K (A bx x) W') →
      assign.wpIn (Fence.wide.inRound l) 7 P (Exit.then K (fun _ _ _ => False)) { tmps := (ps.zip (encs x)).foldl (fun t (p, v) => t.setIfInBounds p v) a.tmps, defers := [] } W)
    (hbody : ∀ (l : Nat) (pre : List α) (x : α) (bx : Nat) (W : World), w.heap.size ≤ l → I pre W → Bx x bx W → Sp (pre ++ [x]) → body.wpIn (Fence.wide.inRound l) 7 P (ownPostP w.heap.size Kp I Ix Ip (pre ++ [x]) W) (A bx x) W)
    (hdone : ∀ (D : Nat) (xs : List α) (W : World), w.heap.size ≤ D → S xs → I xs W → W.heap[D]? = some (.deferred (some [])) → Q .normal { a with defers := { target := .collected D, args := #[] } :: a.defers } W)
    (hstop : ∀ (D : Nat) (c : Code) (pre : List α) (W : World), w.heap.size ≤ D → Sp pre → Ix c pre W → W.heap[D]? = some (.deferred (some [])) → c.wpIn Fence.wide 9 P Q { a with defers := { target := .collected D, args := #[] } :: a.defers } W)
    (hpan : ∀ (D : Nat) (chain : List PanicEntry) (pre : List α) (W : World), w.heap.size ≤ D → Sp pre → Ip chain pre W → W.heap[D]? = some (.deferred (some [])) → Q (.panic chain) { a with defers := { target := .collected D, args := #[] } :: a.defers } W) :
    wpAt f P (Code.rangeFunc g ps assign body) Q a w :=
  wpAt_rangeQ hff hg eg hseq (fun h k => hKt h k) hKb hb0 hps I Ix Ip hI hIx h0 (fun x a' W => ∃ bx, Bx x bx W ∧ a' = A bx x)
    (fun x a' s W W' row hs hg hr => by
      obtain ⟨bx, h, e⟩ := hs
      exact ⟨bx, hBx x bx s W W' row h hg hr, e⟩)
    (fun l pre x W K hi hK => hassign l pre x W K hi (fun bx W' k1 k2 k3 k4 => hK _ W' k1 k2 k3 ⟨bx, k4, rfl⟩))
    (fun l pre x a' W hl hi hx hp => by
      obtain ⟨bx, h, rfl⟩ := hx
      exact hbody l pre x bx W hl hi h hp)
    hdone hstop hpan
end
end Go.Proofs.YtoehlgigidgfpaaGreat

namespace Go.Proofs.YtoehlgigidgfpaaGreat
open Go.RowKit Go.Shelf
set_option linter.unusedVariables false
set_option maxRecDepth 100000

section
variable {P : Program} {n : Nat} {f : FuncId} {Q : Exit → Act → World → Prop} {a : Act} {w : World}

/-- An iterator that makes memory of its own between the rounds, knows that Go holds there, and does St; they may leave early, or panic. -/
def SeqStopsL {α : Type} (n : Nat) (P : Program) (g : Nat) (lb : Array Value) (encs : α → Array Value) (Kp : World → World → Prop) (S Sp : List α → Prop) (Go : List α → World → Prop) (St : World → World → Prop) (w : World) : Prop :=
  ∀ (l : Nat) (J Jx : List α → World → Prop) (Jp : List PanicEntry → List α → World → Prop) (W : World), Below w.heap.size w W → (∀ pre A A', J pre A → A.grownBy A' none → J pre A') → (∀ pre A, J pre A → Go pre A) → (∀ pre A A', J pre A → St A A' → J pre A') →
    (∀ pre x W1, J pre W1 → Sp (pre ++ [x]) → YieldAt Fence.wide (n - 1) P l (encs x) W1 fun e W' =>
      (e = .returned (.bool true) ∧ J (pre ++ [x]) W' ∧ Kp W1 W') ∨ (e = .returned (.bool false) ∧ Jx (pre ++ [x]) W') ∨ (∃ chain, e = .panicked chain ∧ Jp chain (pre ++ [x]) W')) →
    J [] W →
    CallsIn Fence.wide n P g (#[.func (.yield l) #[] #[]] ++ lb) W fun e W' => ((∃ v, e = .returned v) ∧ ((∃ xs, S xs ∧ J xs W') ∨ (∃ pre, Sp pre ∧ Jx pre W'))) ∨ ∃ chain pre, e = .panicked chain ∧ Sp pre ∧ Jp chain pre W'

theorem wpAt_rangeL {α : Type} {g : Operand} {ps : Array Tmp} {assign body : Code} {fnn : Func} (hff : P.funcs[f]? = some fnn)
    {gf : Nat} {lb : Array Value} (hg : a.eval g = .func (.func gf) #[] lb) (eg : ∀ args w, (callFunc gf args).run P w = .ok (.enter gf args) w)
    {encs : α → Array Value} {Kp : World → World → Prop} {S Sp : List α → Prop} {Go : List α → World → Prop} {St : World → World → Prop} {w0 : World} (hseq : SeqStopsL 8 P gf lb encs Kp S Sp Go St w0)
    (hSt : ∀ A A', St A A' → ∀ (j : Nat) (o : Obj), A.heap[j]? = some o → o.isCells = false → A'.heap[j]? = some o)
    (hKt : ∀ {A B C : World}, Kp A B → Kp B C → Kp A C) (hKb : ∀ (W : World) (l : Nat) (o o' : Obj), w.heap.size ≤ l → W.heap[l]? = some o → o.isCells = false → o.isWalk = false → Kp W (W.putObj l o')) (hb0 : Below w0.heap.size w0 w) (hps : ∀ x, (encs x).size = ps.size)
    (I : List α → World → Prop) (Ix : Code → List α → World → Prop) (Ip : List PanicEntry → List α → World → Prop) (hGo : ∀ pre W, I pre W → Go pre W) (hISt : ∀ pre A A', I pre A → St A A' → I pre A') (hI : OwnFrom w.heap.size I) (hIx : ∀ c, OwnFrom w.heap.size (Ix c)) (h0 : I [] w) (Ax : α → Act → World → Prop) (hAx : ∀ x a', OwnFrom w.heap.size (fun (_ : Unit) W => Ax x a' W))
    (hassign : ∀ (l : Nat) (pre : List α) (x : α) (W : World) (K : Act → World → Prop), I pre W → (∀ a' W', KeepsFrom w.heap.size W W' → Kp W W' → I pre W' → Ax x a' W' → K a' W') →
      assign.wpIn (Fence.wide.inRound l) 7 P (Exit.then K (fun _ _ _ => False)) { tmps := (ps.zip (encs x)).foldl (fun t (p, v) => t.setIfInBounds p v) a.tmps, defers := [] } W)
    (hbody : ∀ (l : Nat) (pre : List α) (x : α) (a' : Act) (W : World), w.heap.size ≤ l → I pre W → Ax x a' W → Sp (pre ++ [x]) → body.wpIn (Fence.wide.inRound l) 7 P (ownPostP w.heap.size Kp I Ix Ip (pre ++ [x]) W) a' W)
    (hdone : ∀ (D : Nat) (xs : List α) (W : World), w.heap.size ≤ D → S xs → I xs W → W.heap[D]? = some (.deferred (some [])) → Q .normal { a with defers := { target := .collected D, args := #[] } :: a.defers } W)
    (hstop : ∀ (D : Nat) (c : Code) (pre : List α) (W : World), w.heap.size ≤ D → Sp pre → Ix c pre W → W.heap[D]? = some (.deferred (some [])) → c.wpIn Fence.wide 9 P Q { a with defers := { target := .collected D, args := #[] } :: a.defers } W)
    (hpan : ∀ (D : Nat) (chain : List PanicEntry) (pre : List α) (W : World), w.heap.size ≤ D → Sp pre → Ip chain pre W → W.heap[D]? = some (.deferred (some [])) → Q (.panic chain) { a with defers := { target := .collected D, args := #[] } :: a.defers } W) :
    wpAt f P (Code.rangeFunc g ps assign body) Q a w := by
  refine wpAt_rangeFunc ?_
  obtain ⟨rec, hrec⟩ : ∃ rec : LoopState → Option Code → Loop, rec = fun st pe => { state := st, pending := pe, fn := f, tmps := a.tmps, params := ps, assign, body, defers := w.heap.size } := ⟨_, rfl⟩
  obtain ⟨W1, hW1⟩ : ∃ W1, (w.alloc (.deferred (some []))).alloc (.loop (rec .ready none)) = W1 := ⟨_, rfl⟩
  have hL1 : W1.heap[w.heap.size + 1]? = some (.loop (rec .ready none)) := by
    rw [← hW1]; have := World.alloc_heap_new (w.alloc (.deferred (some []))) (.loop (rec .ready none)); rwa [World.size_alloc] at this
  have hK1 : W1.heap[w.heap.size]? = some (.deferred (some [])) := by
    rw [← hW1]; exact (Below.heap_alloc _ _ _ (by simp)).trans (World.alloc_heap_new w _)
  have hI1 : I [] W1 := by rw [← hW1]; exact hI.alloc _ (hI.alloc _ h0)
  have hb1 : Below w0.heap.size w0 W1 := by
    rw [← hW1]; exact hb0.trans ((((Below.refl _ w).alloc (Nat.le_refl _) _).alloc (by simp) _).mono hb0.size)
  refine ⟨w.heap.size + 1, [{ target := .collected w.heap.size, args := #[] }], W1, { target := .fn (.func gf) lb, args := #[.func (.yield (w.heap.size + 1)) #[] #[]] }, W1, gf,
    #[.func (.yield (w.heap.size + 1)) #[] #[]] ++ lb, W1, ?_, ?_, ?_, ?_⟩
  · rw [← hW1, hrec]; exact run_enterLoop_outer _ _ _ _ _
  · simp only [resolve, hg]
    simp [go_sem]
  · simp [invoke, go_sem, eg]
  · refine (hseq (w.heap.size + 1)
      (fun pre W => I pre W ∧ W.heap[w.heap.size + 1]? = some (.loop (rec .ready none)) ∧ W.heap[w.heap.size]? = some (.deferred (some [])))
      (fun pre W => ∃ c, Ix c pre W ∧ W.heap[w.heap.size + 1]? = some (.loop (rec .done (some c))) ∧ W.heap[w.heap.size]? = some (.deferred (some [])))
      (fun chain pre W => Ip chain pre W ∧ W.heap[w.heap.size]? = some (.deferred (some [])))
      W1 hb1 ?_ (fun pre W h => hGo pre W h.1) (fun pre A A' h k => ⟨hISt pre A A' h.1 k, hSt A A' k _ _ h.2.1 rfl, hSt A A' k _ _ h.2.2 rfl⟩) ?_ ⟨hI1, hL1, hK1⟩).mono ?_
    · rintro pre A A' ⟨h1, h2, h3⟩ hg
      exact ⟨hI pre A A' none h1 hg (fun r e => by cases e), (hg.block _ (Array.getElem?_eq_some_iff.1 h2).1 (by simp)).trans h2, (hg.block _ (Array.getElem?_eq_some_iff.1 h3).1 (by simp)).trans h3⟩
    · rintro pre x W ⟨hi, hl, hk⟩ hlen
      have hlt : w.heap.size + 1 < W.heap.size := (Array.getElem?_eq_some_iff.1 hl).1
      have hy := run_yield (P := P) (args := encs x) hl (by rw [hrec]; exact hps x)
      rw [hrec] at hy
      refine ⟨f, _, assign, body, hy, roundIn_panics hff (hassign _ pre x W _ hi ?_)⟩
      clear hy
      intro a' Wa hkfa hkpa hia hax
      replace hl := hkfa.same _ _ (by omega) hl rfl
      replace hk := hkfa.same _ _ (Nat.le_refl _) hk rfl
      replace hlt : w.heap.size + 1 < Wa.heap.size := (Array.getElem?_eq_some_iff.1 hl).1
      replace hi := hia
      clear hia
      revert hkpa hkfa
      generalize W = Wb
      intro hkfa hkpa
      obtain ⟨W, rfl⟩ : ∃ W, W = Wa := ⟨_, rfl⟩
      refine ⟨_, run_beginRound hl (by rw [hrec]), ?_⟩
      have hl2 : (W.putObj (w.heap.size + 1) (.loop { rec .ready none with state := .busy })).heap[w.heap.size + 1]? = some (.loop { rec .ready none with state := .busy }) := World.putObj_heap_same hlt
      have hk2 : (W.putObj (w.heap.size + 1) (.loop { rec .ready none with state := .busy })).heap[w.heap.size]? = some (.deferred (some [])) := (World.putObj_heap_other (by omega)).trans hk
      have hw2 : Kp W (W.putObj (w.heap.size + 1) (.loop { rec .ready none with state := .busy })) := hKb _ _ _ _ (by omega) hl rfl rfl
      refine wpIn_mono (hbody _ pre x a' _ (by omega) (hI.putObj _ hi (by omega) hl rfl) ((hAx x a').putObj (s := ()) _ hax (by omega) hl rfl) hlen) ?_
      have fin : ∀ (jump : Option Code) (W3 : World), KeepsFrom w.heap.size (W.putObj (w.heap.size + 1) (.loop { rec .ready none with state := .busy })) W3 →
          (Instr.endRound (w.heap.size + 1) jump).run P W3 = .ok (.bool jump.isNone) (W3.putObj (w.heap.size + 1) (.loop (rec (if jump.isNone then .ready else .done) jump))) ∧
          W3.heap[w.heap.size + 1]? = some (.loop { rec .ready none with state := .busy }) ∧
          (W3.putObj (w.heap.size + 1) (.loop (rec (if jump.isNone then .ready else .done) jump))).heap[w.heap.size + 1]? = some (.loop (rec (if jump.isNone then .ready else .done) jump)) ∧
          (W3.putObj (w.heap.size + 1) (.loop (rec (if jump.isNone then .ready else .done) jump))).heap[w.heap.size]? = some (.deferred (some [])) := fun jump W3 hk3 => by
        have hl3 := hk3.same _ _ (by omega) hl2 rfl
        have := run_endRound (P := P) jump hl3
        rw [hrec] at this ⊢
        exact ⟨this, by rw [hrec] at hl3; exact hl3, World.putObj_heap_same (Array.getElem?_eq_some_iff.1 hl3).1, (World.putObj_heap_other (by omega)).trans (hk3.same _ _ (Nat.le_refl _) hk2 rfl)⟩
      rintro e a3 W3 hp
      cases e with
      | normal =>
        obtain ⟨hk3, hkp3, hi3⟩ := hp
        obtain ⟨hr, hl3, hl4, hk4⟩ := fin none W3 hk3
        exact ⟨_, _, hr, .inl ⟨rfl, ⟨hI.putObj _ hi3 (by omega) hl3 rfl, hl4, hk4⟩, hKt hkpa (hKt (hKt hw2 hkp3) (hKb _ _ _ _ (by omega) hl3 rfl rfl))⟩⟩
      | ret =>
        obtain ⟨hk3, hi3⟩ := hp
        obtain ⟨hr, hl3, hl4, hk4⟩ := fin (some .ret) W3 hk3
        exact ⟨_, _, hr, .inr (.inl ⟨rfl, .ret, (hIx _).putObj _ hi3 (by omega) hl3 rfl, hl4, hk4⟩)⟩
      | exit id =>
        obtain ⟨hk3, hi3⟩ := hp
        obtain ⟨hr, hl3, hl4, hk4⟩ := fin (some (.exit id)) W3 hk3
        exact ⟨_, _, hr, .inr (.inl ⟨rfl, .exit id, (hIx _).putObj _ hi3 (by omega) hl3 rfl, hl4, hk4⟩)⟩
      | goto t =>
        obtain ⟨hk3, hi3⟩ := hp
        obtain ⟨hr, hl3, hl4, hk4⟩ := fin (some (.goto t)) W3 hk3
        exact ⟨_, _, hr, .inr (.inl ⟨rfl, .goto t, (hIx _).putObj _ hi3 (by omega) hl3 rfl, hl4, hk4⟩)⟩
      | panic ch =>
        obtain ⟨hd, hk3, hp3⟩ := hp
        exact ⟨hd, .inr (.inr ⟨ch, rfl, hp3, hk3.same _ _ (Nat.le_refl _) hk2 rfl⟩)⟩
      | outgrown => exact hp.elim
    · rintro e W2 (⟨⟨v, rfl⟩, (⟨xs, hS, hi, hl, hk⟩ | ⟨pre, hSp, c, hi, hl, hk⟩)⟩ | ⟨chain, pre, rfl, hSp, hp, hk⟩)
      · exact ⟨none, _, by have := run_endLoop (P := P) hl (by rw [hrec]; simp); rw [hrec] at this; exact this, hdone _ xs _ (Nat.le_refl _) hS (hI.putObj _ hi (by omega) hl rfl) ((World.putObj_heap_other (by omega)).trans hk)⟩
      · exact ⟨some c, _, by have := run_endLoop (P := P) hl (by rw [hrec]; simp); rw [hrec] at this; exact this, hstop _ c pre _ (Nat.le_refl _) hSp ((hIx c).putObj _ hi (by omega) hl rfl) ((World.putObj_heap_other (by omega)).trans hk)⟩
      · exact hpan _ chain pre _ (Nat.le_refl _) hSp hp hk

/-- The same, where the round's variable is boxed in each round: A is the activation, told by the box. -/
theorem wpAt_boxedL {α : Type} {g : Operand} {ps : Array Tmp} {assign body : Code} {fnn : Func} (A : Nat → α → Act) (hff : P.funcs[f]? = some fnn)
    {gf : Nat} {lb : Array Value} (hg : a.eval g = .func (.func gf) #[] lb) (eg : ∀ args w, (callFunc gf args).run P w = .ok (.enter gf args) w)
    {encs : α → Array Value} {Kp : World → World → Prop} {S Sp : List α → Prop} {Go : List α → World → Prop} {St : World → World → Prop} {w0 : World} (hseq : SeqStopsL 8 P gf lb encs Kp S Sp Go St w0)
    (hSt : ∀ A A', St A A' → ∀ (j : Nat) (o : Obj), A.heap[j]? = some o → o.isCells = false → A'.heap[j]? = some o)
    (hKt : ∀ {A B C : World}, Kp A B → Kp B C → Kp A C) (hKb : ∀ (W : World) (l : Nat) (o o' : Obj), w.heap.size ≤ l → W.heap[l]? = some o → o.isCells = false → o.isWalk = false → Kp W (W.putObj l o')) (hb0 : Below w0.heap.size w0 w) (hps : ∀ x, (encs x).size = ps.size)
    (I : List α → World → Prop) (Ix : Code → List α → World → Prop) (Ip : List PanicEntry → List α → World → Prop) (hGo : ∀ pre W, I pre W → Go pre W) (hISt : ∀ pre A A', I pre A → St A A' → I pre A') (hI : OwnFrom w.heap.size I) (hIx : ∀ c, OwnFrom w.heap.size (Ix c)) (h0 : I [] w) (Bx : α → Nat → World → Prop) (hBx : ∀ x bx, OwnFrom w.heap.size (fun (_ : Unit) W => Bx x bx W))
    (hassign : ∀ (l : Nat) (pre : List α) (x : α) (W : World) (K : Act → World → Prop), I pre W → (∀ bx W', KeepsFrom w.heap.size W W' → Kp W W' → I pre W' → Bx x bx W' → K (A bx x) W') →
      assign.wpIn (Fence.wide.inRound l) 7 P (Exit.then K (fun _ _ _ => False)) { tmps := (ps.zip (encs x)).foldl (fun t (p, v) => t.setIfInBounds p v) a.tmps, defers := [] } W)
    (hbody : ∀ (l : Nat) (pre : List α) (x : α) (bx : Nat) (W : World), w.heap.size ≤ l → I pre W → Bx x bx W → Sp (pre ++ [x]) → body.wpIn (Fence.wide.inRound l) 7 P (ownPostP w.heap.size Kp I Ix Ip (pre ++ [x]) W) (A bx x) W)
    (hdone : ∀ (D : Nat) (xs : List α) (W : World), w.heap.size ≤ D → S xs → I xs W → W.heap[D]? = some (.deferred (some [])) → Q .normal { a with defers := { target := .collected D, args := #[] } :: a.defers } W)
    (hstop : ∀ (D : Nat) (c : Code) (pre : List α) (W : World), w.heap.size ≤ D → Sp pre → Ix c pre W → W.heap[D]? = some (.deferred (some [])) → c.wpIn Fence.wide 9 P Q { a with defers := { target := .collected D, args := #[] } :: a.defers } W)
    (hpan : ∀ (D : Nat) (chain : List PanicEntry) (pre : List α) (W : World), w.heap.size ≤ D → Sp pre → Ip chain pre W → W.heap[D]? = some (.deferred (some [])) → Q (.panic chain) { a with defers := { target := .collected D, args := #[] } :: a.defers } W) :
    wpAt f P (Code.rangeFunc g ps assign body) Q a w :=
  wpAt_rangeL hff hg eg hseq hSt (fun h k => hKt h k) hKb hb0 hps I Ix Ip hGo hISt hI hIx h0 (fun x a' W => ∃ bx, Bx x bx W ∧ a' = A bx x)
    (fun x a' s W W' row hs hg hr => by
      obtain ⟨bx, h, e⟩ := hs
      exact ⟨bx, hBx x bx s W W' row h hg hr, e⟩)
    (fun l pre x W K hi hK => hassign l pre x W K hi (fun bx W' k1 k2 k3 k4 => hK _ W' k1 k2 k3 ⟨bx, k4, rfl⟩))
    (fun l pre x a' W hl hi hx hp => by
      obtain ⟨bx, h, rfl⟩ := hx
      exact hbody l pre x bx W hl hi h hp)
    hdone hstop hpan
end
end Go.Proofs.YtoehlgigidgfpaaGreat

namespace Go.Proofs.YtoehlgigidgfpaaGreat
open Go.RowKit Go.Shelf
attribute [local go_sem] Oper.semAt_some
set_option linter.unusedVariables false
set_option maxRecDepth 100000
set_option linter.unusedSectionVars false

section
variable {F : Fence} {n : Nat} {ops : Array Oper} {rest : List Oper} {o : Oper} {a : Act} {w : World} {Q : Exit → Act → World → Prop}
/-- A node is stored whole into a block of its own. -/
theorem wpListIn_store_nd (hg : o.guard = none) (x y : Operand) (ho : o.op = .store 37 x y) (b : Nat) (t : TypeId) (old : Array Value) (nd : Nod)
    (hx : a.eval x = .pointer (some ⟨b, 0, none⟩)) (hy : a.eval y = nd.w) (hb : Bk w b t old) (hs : old.size = 21)
    (h : wpListIn F n Tryz.prog ops Q rest (a.put o.dst undef) (w.setRow b nd.cells.toArray)) : wpListIn F n Tryz.prog ops Q (o :: rest) a w := by
  refine wpListIn_plain hg fun K hK' => ?_
  have hr := st_bk (x := nd) hb hs
  unfold Oper.wpIn
  refine ⟨?_, ?_⟩
  · simp [Oper.about, ho]
  · rw [Oper.semAt_plain F _ _ (by rw [ho]; intro c hc'; cases hc')]
    simp only [execOp, ho, hx, hy, Sem.run_bind, hr, Result.andThen_ok, Sem.run_pure]
    exact hK' _ _ h

/-- A node is loaded whole. -/
theorem wpListIn_load_nd (hg : Region.wanted o (yielded ops a.tmps) = true) (x : Operand) (ho : o.op = .load 37 x) (b : Nat) (t : TypeId) (nd : Nod)
    (hx : a.eval x = .pointer (some ⟨b, 0, none⟩)) (hb : Bk w b t nd.cells.toArray)
    (h : wpListIn F n Tryz.prog ops Q rest (a.put o.dst nd.w) w) : wpListIn F n Tryz.prog ops Q (o :: rest) a w := by
  refine BigFrame.wpListIn_want hg fun K hK' => ?_
  have hr := ld_bk (x := nd) hb
  unfold Oper.wpIn
  refine ⟨?_, ?_⟩
  · simp [Oper.about, ho]
  · rw [Oper.semAt_plain F _ _ (by rw [ho]; intro c hc'; cases hc')]
    simp only [execOp, ho, hx, Sem.run_bind, hr, Result.andThen_ok, Sem.run_pure]
    exact hK' _ _ h
end

end Go.Proofs.YtoehlgigidgfpaaGreat

namespace Go.Proofs.YtoehlgigidgfpaaGreat
open Go.RowKit Go.Shelf
attribute [local go_sem] Oper.semAt_some
set_option linter.unusedVariables false
set_option maxRecDepth 100000
set_option linter.unusedSectionVars false
variable [Inhabited Nod]

/-- What a slice in a box leads to. -/
def Leads (W : World) (c j : Nat) : Prop := ∃ v, W.cell? ⟨c, 0, none⟩ = some v ∧ v.ownBlock = some j
/-- What one of two slices in boxes leads to. -/
def Ldk (kb vb : Nat) (W : World) (j : Nat) : Prop := Leads W kb j ∨ Leads W vb j

theorem Leads.same {W W' : World} {c j : Nat} (h : Leads W' c j) (e : W'.heap[c]? = W.heap[c]?) : Leads W c j := by
  obtain ⟨v, h1, h2⟩ := h
  refine ⟨v, ?_, h2⟩
  simpa [World.cell?, e] using h1

theorem Ldk.same {kb vb : Nat} {W W' : World} {j : Nat} (h : Ldk kb vb W' j) (e1 : W'.heap[kb]? = W.heap[kb]?) (e2 : W'.heap[vb]? = W.heap[vb]?) : Ldk kb vb W j :=
  h.imp (fun h => h.same e1) (fun h => h.same e2)

/-- What a round leaves: every block of cells but its two boxes and what they lead to. -/
structure KpF (kb vb : Nat) (W W' : World) : Prop where
  size : W.heap.size ≤ W'.heap.size
  same : ∀ j o, W.heap[j]? = some o → o.isCells = true → j ≠ kb → j ≠ vb → ¬ Ldk kb vb W j → W'.heap[j]? = some o
  own : ∀ j, Ldk kb vb W' j → Ldk kb vb W j ∨ W.heap.size ≤ j

theorem KpF.refl (kb vb : Nat) (W : World) : KpF kb vb W W := ⟨Nat.le_refl _, fun j o h _ _ _ _ => h, fun j h => .inl h⟩

theorem KpF.t {kb vb : Nat} {A B C : World} (h : KpF kb vb A B) (k : KpF kb vb B C) : KpF kb vb A C where
  size := Nat.le_trans h.size k.size
  same := fun j o hj hc h1 h2 h3 => by
    have hb := h.same j o hj hc h1 h2 h3
    refine k.same j o hb hc h1 h2 (fun hl => ?_)
    rcases h.own j hl with h4 | h4
    · exact h3 h4
    · have := (Array.getElem?_eq_some_iff.1 hj).1
      omega
  own := fun j hl => by
    rcases k.own j hl with h4 | h4
    · exact h.own j h4
    · exact .inr (Nat.le_trans h.size h4)

theorem KpF.bk {kb vb : Nat} {W W' : World} {b : Nat} {t : TypeId} {cs : Array Value} (h : KpF kb vb W W') (hk : Bk W b t cs) (h1 : b ≠ kb) (h2 : b ≠ vb) (h3 : ¬ Ldk kb vb W b) : Bk W' b t cs := h.same b _ hk rfl h1 h2 h3

/-- What walk's iterator does besides making memory: it writes into blocks of its own. -/
def Stw (kb vb n0 : Nat) (A A' : World) : Prop := ∃ b i v, n0 ≤ b ∧ ¬ Ldk kb vb A b ∧ (∃ o : Obj, A.heap[b]? = some o ∧ o.isCells = true) ∧ A' = A.setCell ⟨b, i, none⟩ v

theorem Stw.others {kb vb n0 : Nat} {A A' : World} (h : Stw kb vb n0 A A') : ∀ (j : Nat) (o : Obj), A.heap[j]? = some o → o.isCells = false → A'.heap[j]? = some o := by
  obtain ⟨b, i, v, _, _, ⟨o', h1, h2⟩, rfl⟩ := h
  intro j o hj hc
  rw [Below.heap_setCell A ⟨b, i, none⟩ v j (fun e => by
    have e' : j = b := e
    subst e'
    rw [hj] at h1
    cases h1
    rw [hc] at h2
    cases h2)]
  exact hj

/-- The chain's handles and nodes. -/
def wl (s g : Int) (L : List Nod) : List (Hd × Nod) := (hdn s g L).zip L
theorem wl_len (s g : Int) (L : List Nod) : (wl s g L).length = L.length := by simp [wl, hdn_len]
theorem wl_at {s g : Int} {L : List Nod} {i : Nat} {x : Nod} (h : L[i]? = some x) : (wl s g L)[i]? = some (hdAt s g L i, x) := by
  have hi := (List.getElem?_eq_some_iff.1 h).1
  unfold wl
  rw [List.getElem?_zip_eq_some]
  exact ⟨hdn_at L s g i hi, h⟩
theorem wl_fst (s g : Int) (L : List Nod) : (wl s g L).map Prod.fst = hdn s g L := List.map_fst_zip (by rw [hdn_len]; exact Nat.le_refl _)
theorem wl_snd (s g : Int) (L : List Nod) : (wl s g L).map Prod.snd = L := List.map_snd_zip (by rw [hdn_len]; exact Nat.le_refl _)

abbrev encW (x : Hd × Nod) : Array Value := #[.agg #[.int .i64 x.1.1, .int .i64 x.1.2], x.2.w]

theorem below_grown {A A' : World} (h : Below A.heap.size A A') : A.grownBy A' none := ⟨h.os, h.tape, h.output, h.size, fun k hk _ => h.block k hk⟩

theorem owns_cells {W : World} {base size n : Nat} {e : TypeId} {v : Value} {xs : List Value} (h : W.ownsRow base e size v n xs) {b : Nat} (hb : v.ownBlock = some b) : ∃ o : Obj, W.heap[b]? = some o ∧ o.isCells = true := by
  rcases h.2 with ⟨hv, _⟩ | ⟨g, cap, cur, rfl, _, hgg, rest⟩
  · rw [hv] at hb
    cases hb
  · cases hb
    exact ⟨_, hgg, rfl⟩


theorem IsAr.cellsN {w : World} {B : Nat} {uv fv : Value} {fr : List Nat} {a : Ar Nod} (h : IsAr Nod.cells 21 tAN tSN w B uv fv fr a) : ∀ b ∈ bsOf B uv fv, ∃ o : Obj, w.heap[b]? = some o ∧ o.isCells = true := by
  intro b hb
  rcases mem_bsOf.1 hb with rfl | hb | hb
  · exact ⟨_, h.wt.blk, rfl⟩
  · exact owns_cells h.row hb
  · exact owns_cells h.wt.row hb

theorem owns_keepN {W W' : World} {base size n : Nat} {e : TypeId} {v : Value} {xs : List Value} (h : W.ownsRow base e size v n xs) (hk : ∀ b, v.ownBlock = some b → W'.heap[b]? = W.heap[b]?) : W'.ownsRow base e size v n xs := by
  refine ⟨h.1, ?_⟩
  rcases h.2 with hv | ⟨g, cap, cur, rfl, hb, hgg, rest⟩
  · exact .inl hv
  · exact .inr ⟨g, cap, cur, rfl, hb, (hk g rfl).trans hgg, rest⟩

theorem IsAr.kpN {w w' : World} {B : Nat} {uv fv : Value} {fr : List Nat} {a : Ar Nod} (h : IsAr Nod.cells 21 tAN tSN w B uv fv fr a) (hk : ∀ b ∈ bsOf B uv fv, w'.heap[b]? = w.heap[b]?) : IsAr Nod.cells 21 tAN tSN w' B uv fv fr a :=
  ⟨⟨(hk B (mem_bsOf.2 (.inl rfl))).trans h.wt.blk, owns_keepN h.wt.row (fun k hh => hk k (mem_bsOf.2 (.inr (.inr hh)))), h.wt.ne, h.wt.len⟩, owns_keepN h.row (fun k hh => hk k (mem_bsOf.2 (.inr (.inl hh)))), h.ne1, h.ne2, h.hp, h.perm, h.le, h.s1, h.s2⟩

/-- What walk's iterator needs of the memory below base, between its rounds. -/
structure Wk (w : World) (B gB mB : Nat) (uv fv : Value) (fr : List Nat) (a : Ar Nod) (most : Nat) : Prop where
  ar : IsAr Nod.cells 21 tAN tSN w B uv fv fr a
  kg : Bk w gB 61 #[.func (.func 59) #[.pointer (some ⟨B, 0, none⟩)] #[]]
  km : Bk w mB 3 #[.int .i64 (most : Int)]

theorem Wk.keep {w w' : World} {B gB mB : Nat} {uv fv : Value} {fr : List Nat} {a : Ar Nod} {most : Nat} (h : Wk w B gB mB uv fv fr a most) (hk : ∀ j o, w.heap[j]? = some o → o.isCells = true → (j ∈ bsOf B uv fv ∨ j = gB ∨ j = mB) → w'.heap[j]? = some o) : Wk w' B gB mB uv fv fr a most :=
  ⟨h.ar.kpN fun b hb => by
    obtain ⟨o, ho, hc⟩ := h.ar.cellsN b hb
    rw [hk b o ho hc (.inl hb), ho], hk gB _ h.kg rfl (.inr (.inl rfl)), hk mB _ h.km rfl (.inr (.inr rfl))⟩

set_option maxHeartbeats 8000000 in
theorem walk1_in (l hB mB gB B kb vb base n0 : Nat) (uv fv : Value) (fr : List Nat) (a : Ar Nod) (s g : Int) (L : List Nod) (most : Nat) (hL : ChnN a s g L) (hmost : L.length ≤ most) (hm2 : most ≤ 65536)
    (J Jx : List (Hd × Nod) → World → Prop) (Jp : List PanicEntry → List (Hd × Nod) → World → Prop)
    (hJ : ∀ pre A A', J pre A → A.grownBy A' none → J pre A') (hGo : ∀ pre A, J pre A → pre.length < L.length ∧ ∀ j, Ldk kb vb A j → base ≤ j ∧ j < A.heap.size)
    (hJS : ∀ pre A A', J pre A → Stw kb vb n0 A A' → J pre A')
    (hY : ∀ pre x W, J pre W → pre ++ [x] <+: wl s g L → YieldAt Fence.wide (8 - 1) Tryz.prog l (encW x) W fun r W' =>
      (r = .returned (.bool true) ∧ J (pre ++ [x]) W' ∧ KpF kb vb W W') ∨ (r = .returned (.bool false) ∧ Jx (pre ++ [x]) W') ∨ (∃ chain, r = .panicked chain ∧ Jp chain (pre ++ [x]) W'))
    (W : World) (hn0 : n0 ≤ W.heap.size) (hbase : base ≤ W.heap.size) (hkv : kb < W.heap.size ∧ vb < W.heap.size) (hin : ∀ j, (j ∈ bsOf B uv fv ∨ j = gB ∨ j = mB) → j < base ∧ j ≠ kb ∧ j ≠ vb)
    (hbh : Bk W hB 31 #[.int .i64 s, .int .i64 g]) (hE : Wk W B gB mB uv fv fr a most) (h0 : J [] W) :
    CallsIn Fence.wide 8 Tryz.prog 116 #[.func (.yield l) #[] #[], .pointer (some ⟨hB, 0, none⟩), .pointer (some ⟨mB, 0, none⟩), .pointer (some ⟨gB, 0, none⟩)] W fun r W' => ((∃ v, r = .returned v) ∧
      ((∃ ys, False ∧ J ys W') ∨ (∃ pre, pre <+: wl s g L ∧ Jx pre W'))) ∨ ∃ chain pre, r = .panicked chain ∧ pre <+: wl s g L ∧ Jp chain pre W' := by
  refine callsIn_of_wp Tryz.func116 rfl trivial ?_ rfl
  simp only [Tryz.ntmps116, List.size_toArray, List.length_cons, List.length_nil, Nat.reduceAdd, Nat.reduceSub, Array.replicate_succ, Array.replicate_zero, List.push_toArray, List.append_toArray, List.nil_append, List.cons_append]
  have eg : ∀ args w, (callFunc 59 args).run Tryz.prog w = .ok (.enter 59 args) w := enters_of Tryz.func59 (by kernel_rfl) rfl
  have hz : base ≤ W.heap.size := hbase
  have hb0 : W.cell? ⟨hB, 0, none⟩ = some (.int .i64 s) := hbh.cell 0
  have hb1 : W.cell? ⟨hB, 1, none⟩ = some (.int .i64 g) := hbh.cell 1
  obtain ⟨W1, hW1⟩ : ∃ W1, W.alloc (.cells #[.int .i64 s, .int .i64 g] 31) = W1 := ⟨_, rfl⟩
  have hB1 : Below W.heap.size W W1 := by rw [← hW1]; exact (Below.refl _ _).alloc (Nat.le_refl _) _
  have hk1 : Bk W1 W.heap.size 31 #[.int .i64 s, .int .i64 g] := by rw [← hW1]; exact Bk.new _ _ _
  have hw1 : Wk W1 B gB mB uv fv fr a most := hE.keep fun j o hj _ _ => (hB1.block j (Array.getElem?_eq_some_iff.1 hj).1).trans hj
  have hj1 : J [] W1 := hJ _ _ _ h0 (below_grown hB1)
  have hpos := hL.pos
  have hnl : ¬ Ldk kb vb W1 W.heap.size := fun hl => by
    have h1 := (hGo _ _ h0).2 W.heap.size (hl.same (hB1.block kb hkv.1) (hB1.block vb hkv.2))
    omega
  have HY : Hid _ := hY
  have HJ : Hid (∀ pre A A', J pre A → A.grownBy A' none → J pre A') := hJ
  have HGO : Hid (∀ pre A, J pre A → pre.length < L.length ∧ ∀ j, Ldk kb vb A j → base ≤ j ∧ j < A.heap.size) := hGo
  have HIN : Hid (∀ j, (j ∈ bsOf B uv fv ∨ j = gB ∨ j = mB) → j < base ∧ j ≠ kb ∧ j ≠ vb) := hin
  have HL : Hid (ChnN a s g L ∧ L.length ≤ most) := ⟨hL, hmost⟩
  have HJS : Hid (n0 ≤ W.heap.size ∧ ∀ pre A A', J pre A → Stw kb vb n0 A A' → J pre A') := ⟨hn0, hJS⟩
  have HB : Hid (base ≤ W.heap.size ∧ kb < W.heap.size ∧ vb < W.heap.size ∧ W.heap.size < W1.heap.size) := ⟨hbase, hkv.1, hkv.2, hk1.lt⟩
  have H1 : Hid (J [] W1 ∧ Wk W1 B gB mB uv fv fr a most ∧ Bk W1 W.heap.size 31 #[.int .i64 s, .int .i64 g] ∧ ¬ Ldk kb vb W1 W.heap.size ∧ 0 < L.length) := ⟨hj1, hw1, hk1, hnl, hpos⟩
  have m0 : W1.cell? ⟨mB, 0, none⟩ = some (.int .i64 (most : Int)) := hw1.km.cell 0
  clear hY hJ hJS hn0 hGo hin hL hmost hE h0 hbh hB1 hk1 hw1 hj1 hnl hkv hbase hpos
  gi_wp2_with fail
  clear m0 hb0 hb1 hW1
  gi_loopw [10] (fun i wr => ∃ k : Nat, k < L.length ∧ i = .int .i64 (k : Int) ∧ J ((wl s g L).take k) wr ∧ Wk wr B gB mB uv fv fr a most ∧ Bk wr W.heap.size 31 #[.int .i64 (hdAt s g L k).1, .int .i64 (hdAt s g L k).2] ∧ ¬ Ldk kb vb wr W.heap.size ∧ W1.heap.size ≤ wr.heap.size) (fun i _ => most - (intOf i).toNat)
  case atStart =>
    obtain ⟨q1, q2, q3, q4, q5⟩ := H1.out
    refine ⟨0, q5, rfl, q1, q2, ?_, q4, Nat.le_refl _⟩
    cases L with
    | nil => cases q5
    | cons x r => exact q3
  case round =>
    obtain ⟨k, hk, rfl, hJs, hw, hkh, hnl, hsz⟩ := hrel
    have hli : (k : Int) < (most : Int) := by have := HL.out.2; omega
    obtain ⟨x, hx⟩ : ∃ x, L[k]? = some x := ⟨_, List.getElem?_eq_getElem hk⟩
    have hat := HL.out.1.at hx
    obtain ⟨hs, hhs⟩ : ∃ hs, (hdAt s g L k).1 = hs := ⟨_, rfl⟩
    obtain ⟨hg, hhg⟩ : ∃ hg, (hdAt s g L k).2 = hg := ⟨_, rfl⟩
    rw [hhs, hhg] at hat hkh
    have g0 : wr.cell? ⟨gB, 0, none⟩ = some (.func (.func 59) #[.pointer (some ⟨B, 0, none⟩)] #[]) := hw.kg.cell 0
    have d0 : wr.cell? ⟨W.heap.size, 0, none⟩ = some (.int .i64 hs) := hkh.cell 0
    have d1 : wr.cell? ⟨W.heap.size, 1, none⟩ = some (.int .i64 hg) := hkh.cell 1
    have HST : Hid (J ((wl s g L).take k) wr ∧ Wk wr B gB mB uv fv fr a most ∧ Bk wr W.heap.size 31 #[.int .i64 hs, .int .i64 hg] ∧ ¬ Ldk kb vb wr W.heap.size ∧ W1.heap.size ≤ wr.heap.size) := ⟨hJs, hw, hkh, hnl, hsz⟩
    clear hJs hw hkh hnl hsz
    gi_wp2_with fail
    refine ⟨trivial, ?_⟩
    refine (callsIn_wide.2 (getGoodN ⟨_, _, _, rfl, HST.out.2.1.ar⟩ hs hg hat.1)).mono ?_
    rintro r w5 ⟨rfl, hb5⟩
    rw [hat.2]
    have HHS : Hid ((hdAt s g L k).1 = hs ∧ (hdAt s g L k).2 = hg) := ⟨hhs, hhg⟩
    have HLX : Hid (L[k]? = some x) := hx
    obtain ⟨wz, hwz⟩ : ∃ wz, w5.alloc (.cells #[.bool false, .bool false, .string ⟨#[]⟩, .string ⟨#[]⟩, .int .i64 0, .slice none 0 0, .int .i64 0, .string ⟨#[]⟩, .int .i64 0, .int .i64 0, .int .i64 0, .string ⟨#[]⟩, .int .i64 0, .bool false, .string ⟨#[]⟩, .string ⟨#[]⟩, .int .i64 0, .slice none 0 0, .int .i64 0, .int .i64 0, .int .i64 0] 37) = wz := ⟨_, rfl⟩
    have HZ : Hid (Bk wz w5.heap.size 37 #[.bool false, .bool false, .string ⟨#[]⟩, .string ⟨#[]⟩, .int .i64 0, .slice none 0 0, .int .i64 0, .string ⟨#[]⟩, .int .i64 0, .int .i64 0, .int .i64 0, .string ⟨#[]⟩, .int .i64 0, .bool false, .string ⟨#[]⟩, .string ⟨#[]⟩, .int .i64 0, .slice none 0 0, .int .i64 0, .int .i64 0, .int .i64 0]) := by rw [← hwz]; exact Bk.new _ _ _
    obtain ⟨wn, hwn⟩ : ∃ wn, wz.setRow w5.heap.size x.cells.toArray = wn := ⟨_, rfl⟩
    have hw6 := nd_laid hwz hwn
    have hb6 : Below wr.heap.size wr wn := by rw [hw6]; exact hb5.alloc hb5.size _
    have HN : Hid (Bk wn w5.heap.size 37 x.cells.toArray) := by rw [hw6]; exact Bk.new _ _ _
    have hlt := HB.out
    have hsz := HST.out.2.2.2.2
    have hkb : wn.heap[kb]? = wr.heap[kb]? := hb6.block kb (by omega)
    have hvb : wn.heap[vb]? = wr.heap[vb]? := hb6.block vb (by omega)
    have hj6 : J ((wl s g L).take k) wn := HJ.out _ _ _ HST.out.1 (below_grown hb6)
    have hw6' : Wk wn B gB mB uv fv fr a most := HST.out.2.1.keep fun j o hj _ _ => (hb6.block j (Array.getElem?_eq_some_iff.1 hj).1).trans hj
    have hk6 : Bk wn W.heap.size 31 #[.int .i64 hs, .int .i64 hg] := HST.out.2.2.1.below hb6 HST.out.2.2.1.lt
    have hn6 : ¬ Ldk kb vb wn W.heap.size := fun h => HST.out.2.2.2.1 (h.same hkb hvb)
    have hn7 : ¬ Ldk kb vb wn w5.heap.size := fun h => by
      have h1 := (HGO.out _ _ HST.out.1).2 _ (h.same hkb hvb)
      have := hb5.size
      omega
    have HS6 : Hid (J ((wl s g L).take k) wn ∧ Wk wn B gB mB uv fv fr a most ∧ Bk wn W.heap.size 31 #[.int .i64 hs, .int .i64 hg] ∧ ¬ Ldk kb vb wn W.heap.size ∧ W1.heap.size ≤ wn.heap.size ∧ ¬ Ldk kb vb wn w5.heap.size ∧ W1.heap.size ≤ w5.heap.size) := ⟨hj6, hw6', hk6, hn6, Nat.le_trans hsz hb6.size, hn7, Nat.le_trans hsz hb5.size⟩
    clear hw6 hb6 hkb hvb hj6 hw6' hk6 hn6 hn7 hlt hsz g0 d0 d1 hb5 hat hhs hhg hx HST
    have hsu : (wl s g L).take (k + 1) = (wl s g L).take k ++ [((hs, hg), x)] := by
      have h1 := wl_at (s := s) (g := g) HLX.out
      rw [show hdAt s g L k = (hs, hg) from by rw [← HHS.out.1, ← HHS.out.2]] at h1
      exact take_snoc h1
    have hpx : (wl s g L).take k ++ [((hs, hg), x)] <+: wl s g L := by rw [← hsu]; exact List.take_prefix _ _
    obtain ⟨fn, tmps, assign, body, hy, hR⟩ := HY.out ((wl s g L).take k) ((hs, hg), x) wn HS6.out.1 hpx
    try simp only [encW] at hy
    have HSU : Hid ((wl s g L).take (k + 1) = (wl s g L).take k ++ [((hs, hg), x)]) := hsu
    have HPX : Hid ((wl s g L).take k ++ [((hs, hg), x)] <+: wl s g L) := hpx
    clear hsu hpx
    have d0 : wn.cell? ⟨W.heap.size, 0, none⟩ = some (.int .i64 hs) := HS6.out.2.2.1.cell 0
    have d1 : wn.cell? ⟨W.heap.size, 1, none⟩ = some (.int .i64 hg) := HS6.out.2.2.1.cell 1
    obtain ⟨xw, hxw⟩ : ∃ xw, x.w = xw := ⟨_, rfl⟩
    rw [hxw] at hy ⊢
    gi_wp2_with (first
      | (refine wpListIn_store_nd rfl _ _ rfl w5.heap.size _ _ x rfl hxw.symm HZ.out rfl ?_; rw [hwn])
      | (refine wpListIn_load_nd (by rfl) _ rfl w5.heap.size _ x rfl HN.out ?_; rw [hxw]))
    clear d0 d1
    refine hR.mono ?_
    rintro e W4 (⟨rfl, hj4, hk4⟩ | ⟨rfl, hjx⟩ | ⟨chain, rfl, hjp⟩)
    · have hlt := HB.out
      have hs6 := HS6.out
      have hB4 : Bk W4 W.heap.size 31 #[.int .i64 hs, .int .i64 hg] := hk4.bk hs6.2.2.1 (by omega) (by omega) hs6.2.2.2.1
      have hN4 : Bk W4 w5.heap.size 37 x.cells.toArray := hk4.bk HN.out (by omega) (by omega) hs6.2.2.2.2.2.1
      have hW4 : Wk W4 B gB mB uv fv fr a most := hs6.2.1.keep fun j o hj hc hm => by
        obtain ⟨i1, i2, i3⟩ := HIN.out j hm
        exact hk4.same j o hj hc i2 i3 (fun hl => by have := ((HGO.out _ _ hs6.1).2 j hl).1; omega)
      have hL4 : ¬ Ldk kb vb W4 W.heap.size := fun hl => by
        rcases hk4.own _ hl with h1 | h1
        · exact hs6.2.2.2.1 h1
        · omega
      have hz4 : W1.heap.size ≤ W4.heap.size := by have := hk4.size; omega
      rw [← HSU.out] at hj4
      have hk1 : k + 1 < L.length := by
        have := (HGO.out _ _ hj4).1
        rw [List.length_take, wl_len] at this
        have := HL.out
        have h3 : k < L.length := (List.getElem?_eq_some_iff.1 HLX.out).1
        omega
      have hnx := hdAt_next L s g k x HLX.out hk1
      obtain ⟨W5, hW5⟩ : ∃ W5, W4.setCell ⟨W.heap.size, 0, none⟩ (.int .i64 x.s) = W5 := ⟨_, rfl⟩
      obtain ⟨W6, hW6⟩ : ∃ W6, W5.setCell ⟨W.heap.size, 1, none⟩ (.int .i64 x.g) = W6 := ⟨_, rfl⟩
      have e5 : ∀ j, j ≠ W.heap.size → W5.heap[j]? = W4.heap[j]? := fun j hj => by rw [← hW5]; exact Below.heap_setCell _ _ _ _ hj
      have e6 : ∀ j, j ≠ W.heap.size → W6.heap[j]? = W5.heap[j]? := fun j hj => by rw [← hW6]; exact Below.heap_setCell _ _ _ _ hj
      have hL5 : ¬ Ldk kb vb W5 W.heap.size := fun hl => hL4 (hl.same (e5 kb (by omega)) (e5 vb (by omega)))
      have hL6 : ¬ Ldk kb vb W6 W.heap.size := fun hl => hL5 (hl.same (e6 kb (by omega)) (e6 vb (by omega)))
      have hB5 : Bk W5 W.heap.size 31 #[.int .i64 x.s, .int .i64 hg] := by rw [← hW5]; exact hB4.set 0 _
      have hB6 : Bk W6 W.heap.size 31 #[.int .i64 x.s, .int .i64 x.g] := by rw [← hW6]; exact hB5.set 1 _
      have hj5 : J ((wl s g L).take (k + 1)) W5 := HJS.out.2 _ _ _ hj4 ⟨W.heap.size, 0, _, HJS.out.1, hL4, ⟨_, hB4, rfl⟩, hW5.symm⟩
      have hj6 : J ((wl s g L).take (k + 1)) W6 := HJS.out.2 _ _ _ hj5 ⟨W.heap.size, 1, _, HJS.out.1, hL5, ⟨_, hB5, rfl⟩, hW6.symm⟩
      have hin6 : ∀ j, (j ∈ bsOf B uv fv ∨ j = gB ∨ j = mB) → j ≠ W.heap.size := fun j hm => by have := (HIN.out j hm).1; omega
      have hW6' : Wk W6 B gB mB uv fv fr a most := hW4.keep fun j o hj _ hm => ((e6 j (hin6 j hm)).trans (e5 j (hin6 j hm))).trans hj
      have hz6 : W1.heap.size ≤ W6.heap.size := by rw [← hW6, ← hW5]; simpa using hz4
      have HF : Hid (J ((wl s g L).take (k + 1)) W6 ∧ Wk W6 B gB mB uv fv fr a most ∧ Bk W6 W.heap.size 31 #[.int .i64 (hdAt s g L (k + 1)).1, .int .i64 (hdAt s g L (k + 1)).2] ∧ ¬ Ldk kb vb W6 W.heap.size ∧ W1.heap.size ≤ W6.heap.size) := by rw [hnx]; exact ⟨hj6, hW6', hB6, hL6, hz6⟩
      have y18 : W4.cell? ⟨w5.heap.size, 18, none⟩ = some (.int .i64 x.s) := hN4.cell 18
      have y19 : W4.cell? ⟨w5.heap.size, 19, none⟩ = some (.int .i64 x.g) := hN4.cell 19
      have d0 : W4.cell? ⟨W.heap.size, 0, none⟩ = some (.int .i64 hs) := hB4.cell 0
      have d1 : W4.cell? ⟨W.heap.size, 1, none⟩ = some (.int .i64 hg) := hB4.cell 1
      have f0 : W4.frozen? ⟨W.heap.size, 0, none⟩ = false := hB4.frozen 0
      have f1 : W4.frozen? ⟨W.heap.size, 1, none⟩ = false := hB4.frozen 1
      have HK1 : Hid (k + 1 < L.length) := hk1
      have HW5 : Hid (W4.setCell ⟨W.heap.size, 0, none⟩ (.int .i64 x.s) = W5) := hW5
      have HW6 : Hid (W5.setCell ⟨W.heap.size, 1, none⟩ (.int .i64 x.g) = W6) := hW6
      clear hW5 hW6
      clear hlt hs6 hB4 hN4 hW4 hL4 hz4 hnx e5 e6 hL5 hL6 hB5 hB6 hj4 hj5 hj6 hin6 hW6' hz6 hk1 hk4
      gi_wp2
      rw [HW5.out, HW6.out]
      go_roundw
      case rel => exact ⟨k + 1, HK1.out, by go_num, HF.out⟩
      case measure => simp [intOf]; omega
    · gi_wp2
      refine bodyPost_ret (results_none rfl _ _ _) rfl ?_
      exact .inl ⟨⟨_, rfl⟩, .inr ⟨_, HPX.out, hjx⟩⟩
    · refine ⟨rfl, ?_⟩
      first
        | exact .inr ⟨chain, _, rfl, HPX.out, hjp⟩
        | exact .inr ⟨chain, rfl, _, HPX.out, hjp⟩

theorem walk1_stops {w : World} {hB mB gB B kb vb base : Nat} {uv fv : Value} {fr : List Nat} {a : Ar Nod} {s g : Int} {L : List Nod} {most : Nat} (hL : ChnN a s g L) (hmost : L.length ≤ most) (hm2 : most ≤ 65536)
    (hbase : base ≤ w.heap.size) (hkv : kb < w.heap.size ∧ vb < w.heap.size) (hin : ∀ j, (j ∈ bsOf B uv fv ∨ j = gB ∨ j = mB) → j < base ∧ j ≠ kb ∧ j ≠ vb)
    (hbh : Bk w hB 31 #[.int .i64 s, .int .i64 g]) (hE : Wk w B gB mB uv fv fr a most) :
    SeqStopsL 8 Tryz.prog 116 #[.pointer (some ⟨hB, 0, none⟩), .pointer (some ⟨mB, 0, none⟩), .pointer (some ⟨gB, 0, none⟩)] encW (KpF kb vb) (fun _ => False) (fun pre => pre <+: wl s g L)
      (fun pre A => pre.length < L.length ∧ ∀ j, Ldk kb vb A j → base ≤ j ∧ j < A.heap.size) (Stw kb vb w.heap.size) w := fun l J Jx Jp W hW hJ hGo hJS hY h0 =>
  walk1_in l hB mB gB B kb vb base w.heap.size uv fv fr a s g L most hL hmost hm2 J Jx Jp hJ hGo hJS hY W hW.size (Nat.le_trans hbase hW.size) ⟨Nat.lt_of_lt_of_le hkv.1 hW.size, Nat.lt_of_lt_of_le hkv.2 hW.size⟩ hin (hbh.below hW hbh.lt) (hE.keep fun j o hj _ _ => (hW.block j (Array.getElem?_eq_some_iff.1 hj).1).trans hj) h0
end Go.Proofs.YtoehlgigidgfpaaGreat

namespace Go.Proofs.YtoehlgigidgfpaaGreat
open Go.RowKit Go.Shelf
set_option linter.unusedVariables false
set_option maxRecDepth 100000
set_option linter.unusedSectionVars false

/-- A row of one node is laid. -/
theorem run_rowN (w : World) (x : Nod) : (Instr.buildSlice 51 1 #[(0, x.w)]).run Tryz.prog w = .ok (.slice (some ⟨w.heap.size, 0, none⟩) 1 1) (w.alloc (.cells x.cells.toArray 37)) := by
  kernel_rfl

theorem wp_rowN {o : Oper} {a : Act} {w : World} {K : Act → World → Prop} {Q : Exit → Act → World → Prop} (y : Operand) (ho : o.op = .buildSlice 51 1 #[(0, y)]) (x : Nod) (hy : a.eval y = x.w)
    (h : K (a.put o.dst (.slice (some ⟨w.heap.size, 0, none⟩) 1 1)) (w.alloc (.cells x.cells.toArray 37))) : o.wp Tryz.prog a w K Q := by
  have hr := run_rowN w x
  unfold Oper.wp execOp
  simp only [ho, List.map_toArray, List.map_cons, List.map_nil, hy, Sem.run_bind, hr, Result.andThen_ok, Sem.run_pure]
  exact h

/-- A row of one delta is laid. -/
theorem run_rowD (w : World) (x : Dm) : (Instr.buildSlice 64 1 #[(0, x.val)]).run Tryz.prog w = .ok (.slice (some ⟨w.heap.size, 0, none⟩) 1 1) (w.alloc (.cells x.cells.toArray 35)) := by
  kernel_rfl
end Go.Proofs.YtoehlgigidgfpaaGreat

namespace Go.Proofs.YtoehlgigidgfpaaGreat
open Go.RowKit Go.Shelf
attribute [local go_sem] Oper.semAt_some
set_option linter.unusedVariables false
set_option linter.unusedSimpArgs false
set_option maxRecDepth 100000
set_option linter.unusedSectionVars false
variable [Inhabited Nod]

section
variable {P : Program} {Q : Exit → Act → World → Prop} {S : World → Prop} {l n : Nat}
theorem wpIn_region_mid {id : Nat} {os : List Oper} {a : Act} {w : World} (m : Nat) (hm : P.follows .mixedOrders = true) (hd : noDefer os = true) (hq : ¬ LetsOut Q)
    (h : wpAnyM P .any os.toArray Q S m os.toArray.size (Array.replicate os.toArray.size false) a w.drew) : (Code.region id os.toArray true).wpIn (Fence.wide.inRound l) n P Q a w :=
  wpIn_region_any hm (wpAnyIn_of_any (noDefer_out hd) hq _ _ _ _ (wpAny_of_mid _ _ _ _ h))
end

theorem owns_fromN {W W' : World} {row : Option Nat} {m base size n : Nat} {e : TypeId} {v : Value} {xs : List Value} (h : W.ownsRow base e size v n xs) (hg : W.grownBy W' row) (hr : ∀ r, row = some r → m ≤ r ∧ ∃ o : Obj, W.heap[r]? = some o ∧ o.isCells = false) : W'.ownsRow base e size v n xs := by
  refine ⟨h.1, ?_⟩
  rcases h.2 with hv | ⟨g, cap, cur, rfl, hb, hgg, rest⟩
  · exact .inl hv
  · refine .inr ⟨g, cap, cur, rfl, hb, (hg.block g (Array.getElem?_eq_some_iff.1 hgg).1 (fun e => ?_)).trans hgg, rest⟩
    obtain ⟨_, o, ho, hc⟩ := hr g e.symm
    rw [hgg] at ho
    cases ho
    cases hc

abbrev TwN (base : Nat) (W : World) (v1 v2 : Value) (a : List Hd) (b : List Nod) : Prop := Twr Hd.cells 2 31 Nod.cells 21 37 base W v1 v2 a b

/-- Between the rounds: the boxes and the two rows. -/
structure Fi (w W : World) (pre : List (Hd × Nod)) (v1 v2 : Value) (fb : Bool) : Prop where
  bi : Bk W w.heap.size 161 #[.func (.func 96) #[] #[]]
  b1 : Bk W (w.heap.size + 1) 43 #[v1]
  b2 : Bk W (w.heap.size + 1 + 1) 51 #[v2]
  b3 : Bk W (w.heap.size + 1 + 1 + 1) 4 #[.bool fb]
  two : TwN (w.heap.size + 4) W v1 v2 (pre.map Prod.fst) (pre.map Prod.snd)
  below : Below w.heap.size w W
  size : w.heap.size + 4 ≤ W.heap.size

section
variable {w W W' : World} {pre : List (Hd × Nod)} {v1 v2 : Value} {fb : Bool}

theorem Fi.from (h : Fi w W pre v1 v2 fb) {row : Option Nat} {m : Nat} (hm : w.heap.size ≤ m) (hg : W.grownBy W' row) (hr : ∀ r, row = some r → m ≤ r ∧ ∃ o : Obj, W.heap[r]? = some o ∧ o.isCells = false) : Fi w W' pre v1 v2 fb where
  bi := bk_from h.bi hg hr
  b1 := bk_from h.b1 hg hr
  b2 := bk_from h.b2 hg hr
  b3 := bk_from h.b3 hg hr
  two := ⟨owns_fromN h.two.o1 hg hr, owns_fromN h.two.o2 hg hr, h.two.ne⟩
  below := h.below.grown hg h.below.size (fun k hk => by have := (hr k hk).1; omega)
  size := Nat.le_trans h.size hg.size

theorem Fi.led (h : Fi w W pre v1 v2 fb) {j : Nat} : Ldk (w.heap.size + 1) (w.heap.size + 1 + 1) W j ↔ v1.ownBlock = some j ∨ v2.ownBlock = some j := by
  have c1 : W.cell? ⟨w.heap.size + 1, 0, none⟩ = some v1 := h.b1.cell 0
  have c2 : W.cell? ⟨w.heap.size + 1 + 1, 0, none⟩ = some v2 := h.b2.cell 0
  constructor
  · rintro (⟨v, e, hv⟩ | ⟨v, e, hv⟩)
    · rw [c1] at e; cases e; exact .inl hv
    · rw [c2] at e; cases e; exact .inr hv
  · rintro (hv | hv)
    · exact .inl ⟨_, c1, hv⟩
    · exact .inr ⟨_, c2, hv⟩

theorem Fi.ledlt (h : Fi w W pre v1 v2 fb) {j : Nat} (hj : Ldk (w.heap.size + 1) (w.heap.size + 1 + 1) W j) : w.heap.size + 4 ≤ j ∧ j < W.heap.size := by
  rcases h.led.1 hj with hv | hv
  · exact h.two.o1.blk hv
  · exact h.two.o2.blk hv

theorem Fi.tn (h : Fi w W pre v1 v2 fb) {S : List Nat} (ht : Tn S W W') (hS : ∀ x ∈ S, w.heap.size + 4 ≤ x ∧ v1.ownBlock ≠ some x ∧ v2.ownBlock ≠ some x) : Fi w W' pre v1 v2 fb where
  bi := h.bi.tn ht (fun hm => by have := (hS _ hm).1; omega)
  b1 := h.b1.tn ht (fun hm => by have := (hS _ hm).1; omega)
  b2 := h.b2.tn ht (fun hm => by have := (hS _ hm).1; omega)
  b3 := h.b3.tn ht (fun hm => by have := (hS _ hm).1; omega)
  two := h.two.tn ht (fun x hx => (hS x hx).2)
  below := h.below.trans (ht.below h.below.size (fun x hx => by have := (hS x hx).1; omega))
  size := Nat.le_trans h.size ht.size

theorem Fi.st (h : Fi w W pre v1 v2 fb) {n0 : Nat} (hn : w.heap.size + 4 ≤ n0) (hs : Stw (w.heap.size + 1) (w.heap.size + 1 + 1) n0 W W') : Fi w W' pre v1 v2 fb := by
  obtain ⟨b, i, v, h1, h2, h3, rfl⟩ := hs
  refine h.tn (S := [b]) ((Tn.refl _ _).setCell (.inl (by simp)) _) (fun x hx => ?_)
  simp only [List.mem_cons, List.not_mem_nil, or_false] at hx
  subst hx
  exact ⟨by omega, fun e => h2 (h.led.2 (.inl e)), fun e => h2 (h.led.2 (.inr e))⟩
end

/-- What two appends and two stores have made of it. -/
theorem Fi.grew {w W w7 w9 : World} {pre : List (Hd × Nod)} {v1 v2 v3 v7 : Value} {fb : Bool} {x : Hd × Nod} (h : Fi w W pre v1 v2 fb) (hg : Grw Hd.cells 2 31 Nod.cells 21 37 (w.heap.size + 4) W w7 v1 v2 v3 v7 (pre.map Prod.fst ++ [x.1]) (pre.map Prod.snd ++ [x.2]))
    (hw : w9 = (w7.setCell ⟨w.heap.size + 1, 0, none⟩ v3).setCell ⟨w.heap.size + 1 + 1, 0, none⟩ v7) :
    Fi w w9 (pre ++ [x]) v3 v7 fb ∧ KeepsOthers W w9 ∧ KpF (w.heap.size + 1) (w.heap.size + 1 + 1) W w9 ∧ Tn (own2 v1 v2 ++ [w.heap.size + 1, w.heap.size + 1 + 1]) W w9 := by
  have hlt := h.two.lt
  have t9 : Tn [w.heap.size + 1, w.heap.size + 1 + 1] w7 w9 := by rw [hw]; exact ((Tn.refl _ _).setCell (.inl (by simp)) _).setCell (.inl (by simp)) _
  have k1 : Bk w7 (w.heap.size + 1) 43 #[v1] := h.b1.tn hg.tn (fun hm => by have := (hlt _ hm).1; omega)
  have k2 : Bk w7 (w.heap.size + 1 + 1) 51 #[v2] := h.b2.tn hg.tn (fun hm => by have := (hlt _ hm).1; omega)
  have tw : Tn (own2 v1 v2 ++ [w.heap.size + 1, w.heap.size + 1 + 1]) W w9 := (hg.tn.mono (fun x hx => List.mem_append.2 (.inl hx))).trans t9 (fun x hx => .inl (List.mem_append.2 (.inr hx)))
  have hnot : ∀ x ∈ [w.heap.size + 1, w.heap.size + 1 + 1], v3.ownBlock ≠ some x ∧ v7.ownBlock ≠ some x := by
    intro x hx
    simp only [List.mem_cons, List.not_mem_nil, or_false] at hx
    constructor
    · intro e
      have := (hg.two.o1.blk e).1
      omega
    · intro e
      have := (hg.two.o2.blk e).1
      omega
  have hF : Fi w w9 (pre ++ [x]) v3 v7 fb := {
    bi := h.bi.tn tw (fun hm => by
      rcases List.mem_append.1 hm with hm | hm
      · have := (hlt _ hm).1; omega
      · simp only [List.mem_cons, List.not_mem_nil, or_false] at hm; omega)
    b1 := by rw [hw]; exact (k1.set 0 v3).other (show w.heap.size + 1 ≠ w.heap.size + 1 + 1 by omega) _
    b2 := by rw [hw]; exact (k2.other (show w.heap.size + 1 + 1 ≠ w.heap.size + 1 by omega) _).set 0 v7
    b3 := h.b3.tn tw (fun hm => by
      rcases List.mem_append.1 hm with hm | hm
      · have := (hlt _ hm).1; omega
      · simp only [List.mem_cons, List.not_mem_nil, or_false] at hm; omega)
    two := by
      rw [List.map_append, List.map_append, List.map_singleton, List.map_singleton]
      exact hg.two.tn t9 hnot
    below := h.below.trans (tw.below h.below.size (fun x hx => by
      rcases List.mem_append.1 hx with hx | hx
      · have := (hlt _ hx).1; omega
      · simp only [List.mem_cons, List.not_mem_nil, or_false] at hx; omega))
    size := Nat.le_trans h.size tw.size }
  refine ⟨hF, keeps_tn tw (fun b hb => ?_), ⟨tw.size, fun j o hj hc n1 n2 n3 => ?_, fun j hj => ?_⟩, tw⟩
  · rcases List.mem_append.1 hb with hb | hb
    · rcases mem_own2.1 hb with hb | hb
      · exact owns_cells h.two.o1 hb
      · exact owns_cells h.two.o2 hb
    · simp only [List.mem_cons, List.not_mem_nil, or_false] at hb
      rcases hb with rfl | rfl
      · exact ⟨_, h.b1, rfl⟩
      · exact ⟨_, h.b2, rfl⟩
  · rw [tw.block j (Array.getElem?_eq_some_iff.1 hj).1 (fun hm => ?_)]
    · exact hj
    · rcases List.mem_append.1 hm with hm | hm
      · exact n3 (h.led.2 (mem_own2.1 hm))
      · simp only [List.mem_cons, List.not_mem_nil, or_false] at hm
        rcases hm with hm | hm
        · exact n1 hm
        · exact n2 hm
  · rcases hF.led.1 hj with hv | hv
    · rcases hg.b1 j hv with h1 | h1
      · exact .inl (h.led.2 (.inl h1))
      · exact .inr h1
    · rcases hg.b2 j hv with h1 | h1
      · exact .inl (h.led.2 (.inr h1))
      · exact .inr h1

/-- What lies ahead of find's loop. -/
theorem fi_start (w : World) : ∃ w3, (((w.alloc (.cells #[.func (.func 96) #[] #[]] 161)).alloc (.cells #[.slice none 0 0] 43)).alloc (.cells #[.slice none 0 0] 51)).alloc (.cells #[.bool false] 4) = w3 ∧ w3.heap.size = w.heap.size + 4 ∧ Below w.heap.size w w3 ∧ Fi w w3 [] (.slice none 0 0) (.slice none 0 0) false := by
  refine ⟨_, rfl, by simp, ((((Below.refl _ w).alloc (Nat.le_refl _) _).alloc (by simp) _).alloc (by simp; omega) _).alloc (by simp; omega) _, ?_⟩
  have k0 := Bk.new w 161 #[.func (.func 96) #[] #[]]
  have k1 := Bk.new (w.alloc (.cells #[.func (.func 96) #[] #[]] 161)) 43 #[.slice none 0 0]
  have k2 := Bk.new ((w.alloc (.cells #[.func (.func 96) #[] #[]] 161)).alloc (.cells #[.slice none 0 0] 43)) 51 #[.slice none 0 0]
  have k3 := Bk.new (((w.alloc (.cells #[.func (.func 96) #[] #[]] 161)).alloc (.cells #[.slice none 0 0] 43)).alloc (.cells #[.slice none 0 0] 51)) 4 #[.bool false]
  simp only [World.size_alloc] at k1 k2 k3
  exact {
    bi := ((k0.alloc _).alloc _).alloc _
    b1 := (k1.alloc _).alloc _
    b2 := k2.alloc _
    b3 := k3
    two := Twr.nil _ _
    below := ((((Below.refl _ w).alloc (Nat.le_refl _) _).alloc (by simp) _).alloc (by simp; omega) _).alloc (by simp; omega) _
    size := by simp }
end Go.Proofs.YtoehlgigidgfpaaGreat
