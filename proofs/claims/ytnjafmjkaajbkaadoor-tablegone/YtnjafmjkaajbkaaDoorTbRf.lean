/- The document's table: how it lies in memory, and its calls. -/
import Derived.Test.YtnjafmjkaajbkaaDoorTbR
import Derived.Test.YtnjafmjkaajbkaaDoorTbEq
import Derived.Laws.OwnMore
namespace Go.Proofs.YtnjafmjkaajbkaaDoor
open Go.RowKit
set_option linter.unusedVariables false
set_option maxRecDepth 100000

/-- The document's table: of each page its state and its head. -/
structure Rt where
  st : List Int
  hd : List (Int × Int)
  missed : Int

namespace Rt
def s (r : Rt) (p : Int) : Int := if p < 0 then 0 else r.st.getD p.toNat 0
def h (r : Rt) (p : Int) : Int × Int := r.hd.getD p.toNat (0, 0)
theorem s_nat (r : Rt) (i : Nat) : r.s (i : Int) = r.st.getD i 0 := by simp [s]; omega
theorem h_nat (r : Rt) (i : Nat) : r.h (i : Int) = r.hd.getD i (0, 0) := by simp [h]
theorem s_out (r : Rt) {p : Int} (hp : p < 0 ∨ (r.st.length : Int) ≤ p) : r.s p = 0 := by
  unfold s
  split
  · rfl
  · rw [List.getD_eq_getElem?_getD, List.getElem?_eq_none (by omega)]
    rfl
theorem s_in (r : Rt) {p : Int} (hp : r.s p ≠ 0) : ∃ i : Nat, p = (i : Int) ∧ i < r.st.length := by
  by_cases h : p < 0 ∨ (r.st.length : Int) ≤ p
  · exact absurd (r.s_out h) hp
  · exact ⟨p.toNat, by omega, by omega⟩
end Rt

def hCells (hd : List (Int × Int)) : List Value := (hd.map fun x => [Value.int .i64 x.1, Value.int .i64 x.2]).flatten
theorem hCells_at (hd : List (Int × Int)) (i : Nat) (hi : i < hd.length) : (hCells hd)[i * 2]? = some (.int .i64 (hd.getD i (0, 0)).1) ∧ (hCells hd)[i * 2 + 1]? = some (.int .i64 (hd.getD i (0, 0)).2) := by
  induction hd generalizing i with
  | nil => simp at hi
  | cons x hd ih =>
    cases i with
    | zero => simp [hCells]
    | succ i =>
      have := ih i (by simpa using hi)
      have e : (i + 1) * 2 = i * 2 + 1 + 1 := by omega
      rw [e]
      simpa [hCells] using this
theorem hCells_set (hd : List (Int × Int)) (i : Nat) (x : Int × Int) (hi : i < hd.length) : hCells (hd.set i x) = ((hCells hd).set (i * 2) (.int .i64 x.1)).set (i * 2 + 1) (.int .i64 x.2) := by
  induction hd generalizing i with
  | nil => simp at hi
  | cons y hd ih =>
    cases i with
    | zero => simp [hCells]
    | succ i =>
      have := ih i (by simpa using hi)
      have e : (i + 1) * 2 = i * 2 + 1 + 1 := by omega
      rw [e]
      simpa [hCells] using this

/-- It in memory: its block, the rows' blocks. -/
structure IsR (w : World) (R g1 g2 n : Nat) (r : Rt) : Prop where
  blk : Bk w R 72 #[.slice (some ⟨g1, 0, none⟩) n n, .slice (some ⟨g2, 0, none⟩) n n, .int .i64 r.missed]
  st : Bk w g1 3 (r.st.map (Value.int .i64)).toArray
  hd : Bk w g2 32 (hCells r.hd).toArray
  ls : r.st.length = n
  lh : r.hd.length = n
  n1 : 1 ≤ n
  n2 : n ≤ 65536

section
variable {w w' : World} {R g1 g2 n : Nat} {r : Rt}

theorem IsR.tn {S : List Nat} (h : IsR w R g1 g2 n r) (ht : Tn S w w') (hS : ∀ b ∈ [R, g1, g2], b ∉ S) : IsR w' R g1 g2 n r :=
  { h with blk := h.blk.tn ht (hS R (by simp)), st := h.st.tn ht (hS g1 (by simp)), hd := h.hd.tn ht (hS g2 (by simp)) }
theorem IsR.below (h : IsR w R g1 g2 n r) (hb : Below w.heap.size w w') : IsR w' R g1 g2 n r := h.tn (Tn.of_below hb []) (by simp)
theorem IsR.ne (h : IsR w R g1 g2 n r) : R ≠ g1 ∧ R ≠ g2 ∧ g1 ≠ g2 := ⟨ne_type h.blk h.st (by decide), ne_type h.blk h.hd (by decide), ne_type h.st h.hd (by decide)⟩
theorem IsR.cs (h : IsR w R g1 g2 n r) (i : Nat) (hi : i < n) : w.cell? ⟨g1, i, none⟩ = some (.int .i64 (r.st.getD i 0)) := by
  have hil : i < r.st.length := by rw [h.ls]; exact hi
  rw [h.st.cell i]
  simp [List.getD, hil]
theorem IsR.ch (h : IsR w R g1 g2 n r) (i : Nat) (hi : i < n) : w.cell? ⟨g2, i * 2, none⟩ = some (.int .i64 (r.hd.getD i (0, 0)).1) ∧ w.cell? ⟨g2, i * 2 + 1, none⟩ = some (.int .i64 (r.hd.getD i (0, 0)).2) := by
  have hil : i < r.hd.length := by rw [h.lh]; exact hi
  obtain ⟨h1, h2⟩ := hCells_at r.hd i hil
  refine ⟨?_, ?_⟩
  · rw [h.hd.cell]; simpa using h1
  · rw [h.hd.cell]; simpa using h2
theorem IsR.setS (h : IsR w R g1 g2 n r) (i : Nat) (x : Int) : IsR (w.setCell ⟨g1, i, none⟩ (.int .i64 x)) R g1 g2 n { r with st := r.st.set i x } ∧ Tn [g1] w (w.setCell ⟨g1, i, none⟩ (.int .i64 x)) := by
  have ht : Tn [g1] w (w.setCell ⟨g1, i, none⟩ (.int .i64 x)) := (Tn.refl _ _).setCell (.inl (by simp)) _
  refine ⟨⟨h.blk.tn ht (by simpa using h.ne.1), ?_, h.hd.tn ht (by simpa using h.ne.2.2.symm), by simpa using h.ls, h.lh, h.n1, h.n2⟩, ht⟩
  have := h.st.set i (.int .i64 x)
  have e : (r.st.map (Value.int .i64)).toArray.setIfInBounds i (.int .i64 x) = ((r.st.set i x).map (Value.int .i64)).toArray := by simp [List.map_set]
  rw [e] at this
  exact this
theorem IsR.setH (h : IsR w R g1 g2 n r) (i : Nat) (hi : i < n) (x : Int × Int) : IsR ((w.setCell ⟨g2, i * 2, none⟩ (.int .i64 x.1)).setCell ⟨g2, i * 2 + 1, none⟩ (.int .i64 x.2)) R g1 g2 n { r with hd := r.hd.set i x } ∧ Tn [g2] w ((w.setCell ⟨g2, i * 2, none⟩ (.int .i64 x.1)).setCell ⟨g2, i * 2 + 1, none⟩ (.int .i64 x.2)) := by
  have ht : Tn [g2] w ((w.setCell ⟨g2, i * 2, none⟩ (.int .i64 x.1)).setCell ⟨g2, i * 2 + 1, none⟩ (.int .i64 x.2)) := ((Tn.refl [g2] w).setCell (.inl (by simp)) _).setCell (.inl (by simp)) _
  refine ⟨⟨h.blk.tn ht (by simpa using h.ne.2.1), h.st.tn ht (by simpa using h.ne.2.2), ?_, h.ls, by simpa using h.lh, h.n1, h.n2⟩, ht⟩
  have := (h.hd.set (i * 2) (.int .i64 x.1)).set (i * 2 + 1) (.int .i64 x.2)
  have e : ((hCells r.hd).toArray.setIfInBounds (i * 2) (.int .i64 x.1)).setIfInBounds (i * 2 + 1) (.int .i64 x.2) = (hCells (r.hd.set i x)).toArray := by
    rw [hCells_set _ _ _ (by rw [h.lh]; exact hi)]
    simp
  rw [e] at this
  exact this
theorem IsR.setM (h : IsR w R g1 g2 n r) (x : Int) : IsR (w.setCell ⟨R, 2, none⟩ (.int .i64 x)) R g1 g2 n { r with missed := x } ∧ Tn [R] w (w.setCell ⟨R, 2, none⟩ (.int .i64 x)) := by
  have ht : Tn [R] w (w.setCell ⟨R, 2, none⟩ (.int .i64 x)) := (Tn.refl _ _).setCell (.inl (by simp)) _
  exact ⟨⟨h.blk.set 2 _, h.st.tn ht (by simpa using h.ne.1.symm), h.hd.tn ht (by simpa using h.ne.2.1.symm), h.ls, h.lh, h.n1, h.n2⟩, ht⟩

theorem rPages (h : IsR w R g1 g2 n r) : Calls Tryd.prog 34 #[.pointer (some ⟨R, 0, none⟩)] w fun e w' => e = .returned (.int .i64 (n : Int)) ∧ w' = w := by
  have c0 : w.cell? ⟨R, 0, none⟩ = some (.slice (some ⟨g1, 0, none⟩) n n) := h.blk.cell 0
  clear h
  go_enter Tryd.func34, Tryd.ntmps34
  go_wp2
  go_ret
  exact ⟨rfl, rfl⟩

theorem rMissed (h : IsR w R g1 g2 n r) : Calls Tryd.prog 12 #[.pointer (some ⟨R, 0, none⟩)] w fun e w' => e = .returned (.int .i64 r.missed) ∧ w' = w := by
  have c2 : w.cell? ⟨R, 2, none⟩ = some (.int .i64 r.missed) := h.blk.cell 2
  clear h
  go_enter Tryd.func12, Tryd.ntmps12
  go_wp2
  go_ret
  exact ⟨rfl, rfl⟩

theorem rState (h : IsR w R g1 g2 n r) (p : Int) : Calls Tryd.prog 35 #[.pointer (some ⟨R, 0, none⟩), .int .i64 p] w fun e w' => e = .returned (.int .i64 (r.s p)) ∧ w' = w := by
  have c0 : w.cell? ⟨R, 0, none⟩ = some (.slice (some ⟨g1, 0, none⟩) n n) := h.blk.cell 0
  by_cases h0 : p < 0
  · rw [r.s_out (.inl h0)]
    clear h
    go_enter Tryd.func35, Tryd.ntmps35
    go_wp2
    go_ret
    exact ⟨rfl, rfl⟩
  by_cases h1 : (n : Int) ≤ p
  · rw [r.s_out (.inr (by rw [h.ls]; exact h1))]
    clear h
    go_enter Tryd.func35, Tryd.ntmps35
    go_wp2
    go_ret
    exact ⟨rfl, rfl⟩
  · obtain ⟨i, rfl⟩ : ∃ i : Nat, p = (i : Int) := ⟨p.toNat, by omega⟩
    rw [r.s_nat]
    have ci := h.cs i (by omega)
    have h2 : (i : Int) < (n : Int) := by omega
    have h3 : (0 : Int) ≤ (i : Int) := by omega
    clear h h1
    generalize r.st.getD i 0 = x at *
    go_enter Tryd.func35, Tryd.ntmps35
    go_wp2
    go_ret
    exact ⟨rfl, rfl⟩

theorem rLoad_none (h : IsR w R g1 g2 n r) (p : Int) (hp : r.s p ≠ 1) : Calls Tryd.prog 29 #[.pointer (some ⟨R, 0, none⟩), .int .i64 p] w fun e w' => e = .returned (.tuple #[hv (0, 0), .int .i64 4]) ∧ Below w.heap.size w w' := by
  have H : Hid (IsR (w.alloc (.cells #[.int .i64 0, .int .i64 0] 32)) R g1 g2 n r) := h.below ((Below.refl _ w).alloc (Nat.le_refl _) _)
  clear h
  go_enter Tryd.func29, Tryd.ntmps29
  go_wp2_with fail
  refine (rState H.out p).mono ?_
  rintro e w1 ⟨rfl, rfl⟩
  generalize r.s p = x at *
  have hb : ¬ x = 1 := hp
  go_wp2
  try simp only [Exit.inBlock, Exit.then]
  refine bodyPost_ret (results_hnd rfl rfl (by exact Bk.new w _ _)) rfl ?_
  exact ⟨rfl, (Below.refl _ w).alloc (Nat.le_refl _) _⟩

theorem rLoad_live (h : IsR w R g1 g2 n r) (i : Nat) (hi : i < n) (hp : r.s (i : Int) = 1) : Calls Tryd.prog 29 #[.pointer (some ⟨R, 0, none⟩), .int .i64 (i : Int)] w fun e w' => e = .returned (.tuple #[hv (r.h (i : Int)), .int .i64 0]) ∧ Below w.heap.size w w' := by
  have h' := h.below ((Below.refl _ w).alloc (Nat.le_refl _) (.cells #[.int .i64 0, .int .i64 0] 32))
  have H : Hid (IsR (w.alloc (.cells #[.int .i64 0, .int .i64 0] 32)) R g1 g2 n r) := h'
  have HP : Hid (r.s (i : Int) = 1) := hp
  have c1 : (w.alloc (.cells #[.int .i64 0, .int .i64 0] 32)).cell? ⟨R, 1, none⟩ = some (.slice (some ⟨g2, 0, none⟩) n n) := h'.blk.cell 1
  obtain ⟨d0, d1⟩ := h'.ch i hi
  rw [r.h_nat]
  generalize r.hd.getD i (0, 0) = x at *
  have h2 : (i : Int) < (n : Int) := by omega
  have h3 : (0 : Int) ≤ (i : Int) := by omega
  clear h h' hp
  go_enter Tryd.func29, Tryd.ntmps29
  go_wp2_with fail
  refine (rState H.out _).mono ?_
  rintro e w1 ⟨rfl, rfl⟩
  rw [HP.out]
  go_wp2
  try simp only [Exit.inBlock, Exit.then]
  refine bodyPost_ret (results_hnd rfl rfl (by exact Bk.new w _ _)) rfl ?_
  exact ⟨rfl, (Below.refl _ w).alloc (Nat.le_refl _) _⟩

theorem rRetire_none (h : IsR w R g1 g2 n r) (p : Int) (hp : r.s p ≠ 1) : Calls Tryd.prog 27 #[.pointer (some ⟨R, 0, none⟩), .int .i64 p] w fun e w' => e = .returned (.int .i64 4) ∧ w' = w := by
  have H : Hid _ := h
  clear h
  go_enter Tryd.func27, Tryd.ntmps27
  go_wp2_with fail
  refine (rState H.out p).mono ?_
  rintro e w1 ⟨rfl, rfl⟩
  generalize r.s p = x at *
  have hb : ¬ x = 1 := hp
  go_wp2
  go_ret
  exact ⟨rfl, rfl⟩

theorem rRelease_none (h : IsR w R g1 g2 n r) (p : Int) (hp : r.s p ≠ 2) : Calls Tryd.prog 28 #[.pointer (some ⟨R, 0, none⟩), .int .i64 p] w fun e w' => e = .returned (.int .i64 4) ∧ w' = w := by
  have H : Hid _ := h
  clear h
  go_enter Tryd.func28, Tryd.ntmps28
  go_wp2_with fail
  refine (rState H.out p).mono ?_
  rintro e w1 ⟨rfl, rfl⟩
  generalize r.s p = x at *
  have hb : ¬ x = 2 := hp
  go_wp2
  go_ret
  exact ⟨rfl, rfl⟩

theorem rRetire_live (h : IsR w R g1 g2 n r) (i : Nat) (hi : i < n) (hp : r.s (i : Int) = 1) : Calls Tryd.prog 27 #[.pointer (some ⟨R, 0, none⟩), .int .i64 (i : Int)] w fun e w' => e = .returned (.int .i64 0) ∧ IsR w' R g1 g2 n { r with st := r.st.set i 2 } ∧ Tn [R, g1, g2] w w' := by
  have H : Hid _ := h
  have HP : Hid (r.s (i : Int) = 1) := hp
  have c0 : w.cell? ⟨R, 0, none⟩ = some (.slice (some ⟨g1, 0, none⟩) n n) := h.blk.cell 0
  have ci := h.cs i hi
  have fi := h.st.frozen i
  obtain ⟨h1, t1⟩ := h.setS i 2
  have HE : Hid (IsR (w.setCell ⟨g1, i, none⟩ (.int .i64 2)) R g1 g2 n { r with st := r.st.set i 2 } ∧ Tn [R, g1, g2] w (w.setCell ⟨g1, i, none⟩ (.int .i64 2))) := ⟨h1, t1.mono (by simp)⟩
  have h2 : (i : Int) < (n : Int) := by omega
  have h3 : (0 : Int) ≤ (i : Int) := by omega
  clear h hp h1 t1
  generalize r.st.getD i 0 = x at *
  go_enter Tryd.func27, Tryd.ntmps27
  go_wp2_with fail
  refine (rState H.out _).mono ?_
  rintro e w1 ⟨rfl, rfl⟩
  rw [HP.out]
  go_wp2
  go_ret
  exact ⟨rfl, HE.out⟩

theorem rRelease_gone (h : IsR w R g1 g2 n r) (i : Nat) (hi : i < n) (hp : r.s (i : Int) = 2) : Calls Tryd.prog 28 #[.pointer (some ⟨R, 0, none⟩), .int .i64 (i : Int)] w fun e w' => e = .returned (.int .i64 0) ∧ IsR w' R g1 g2 n { r with st := r.st.set i 0 } ∧ Tn [R, g1, g2] w w' := by
  have H : Hid _ := h
  have HP : Hid (r.s (i : Int) = 2) := hp
  have c0 : w.cell? ⟨R, 0, none⟩ = some (.slice (some ⟨g1, 0, none⟩) n n) := h.blk.cell 0
  have ci := h.cs i hi
  have fi := h.st.frozen i
  obtain ⟨h1, t1⟩ := h.setS i 0
  have HE : Hid (IsR (w.setCell ⟨g1, i, none⟩ (.int .i64 0)) R g1 g2 n { r with st := r.st.set i 0 } ∧ Tn [R, g1, g2] w (w.setCell ⟨g1, i, none⟩ (.int .i64 0))) := ⟨h1, t1.mono (by simp)⟩
  have h2 : (i : Int) < (n : Int) := by omega
  have h3 : (0 : Int) ≤ (i : Int) := by omega
  clear h hp h1 t1
  generalize r.st.getD i 0 = x at *
  go_enter Tryd.func28, Tryd.ntmps28
  go_wp2_with fail
  refine (rState H.out _).mono ?_
  rintro e w1 ⟨rfl, rfl⟩
  rw [HP.out]
  go_wp2
  go_ret
  exact ⟨rfl, HE.out⟩
end
end Go.Proofs.YtnjafmjkaajbkaaDoor
