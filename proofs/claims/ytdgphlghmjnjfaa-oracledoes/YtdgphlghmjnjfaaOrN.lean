/- An oracle: New. -/
import Derived.Test.YtdgphlghmjnjfaaOrC
namespace Go.Proofs.Ytdgphlghmjnjfaa
open Go.RowKit Go.Maps
set_option linter.unusedVariables false
set_option maxRecDepth 100000

/-- A new one. -/
def Or.begin (l p : Nat) : Or := ⟨l, p, fun _ => none, List.replicate 17 0⟩

theorem Or.begin_ok (l : Nat) (hl : l ≤ 1099511627776) : (Or.begin l l).Ok where
  le := Nat.le_refl _
  max := hl
  ah := fun i hi => by cases hi
  v17 := rfl
  vle := fun v hv => by rw [List.eq_of_mem_replicate hv]; exact Nat.zero_le _
  gap := rfl

abbrev zer : List Value := [.int .i64 0, .int .i64 0, .int .i64 0, .int .i64 0, .int .i64 0, .int .i64 0, .int .i64 0, .int .i64 0, .int .i64 0, .int .i64 0, .int .i64 0, .int .i64 0, .int .i64 0, .int .i64 0, .int .i64 0, .int .i64 0, .int .i64 0]

set_option maxHeartbeats 2000000 in
theorem begin_any (w : World) (l p : Nat) : Calls Try.prog 27 #[.int .i64 (l : Int), .int .i64 (p : Int)] w fun e w' => e = .returned (.pointer (some ⟨w.heap.size + 1, 0, none⟩)) ∧ IsOr w' (w.heap.size + 1) w.heap.size (Or.begin l p) ∧ Below w.heap.size w w' := by
  obtain ⟨w1, hw1⟩ : ∃ w1, w.alloc (.map #[] 0) = w1 := ⟨_, rfl⟩
  have hs1 : w1.heap.size = w.heap.size + 1 := by rw [← hw1]; simp
  have hb1 : Below w.heap.size w w1 := hw1 ▸ (Below.refl _ w).alloc (Nat.le_refl _) _
  have hm1 : Mp uElem w1 w.heap.size NN (fun _ => none) := hw1 ▸ Mp.new uElem w NN
  obtain ⟨w2, hw2⟩ : ∃ w2, w1.alloc (.cells #[.int .i64 0, .int .i64 0, .map (some w.heap.size), .int .i64 0, .int .i64 0, .int .i64 0, .int .i64 0, .int .i64 0, .int .i64 0, .int .i64 0, .int .i64 0, .int .i64 0, .int .i64 0, .int .i64 0, .int .i64 0, .int .i64 0, .int .i64 0, .int .i64 0, .int .i64 0, .int .i64 0] 61) = w2 := ⟨_, rfl⟩
  have hs2 : w2.heap.size = w.heap.size + 1 + 1 := by rw [← hw2]; simp [hs1]
  have hb12 : Below w1.heap.size w1 w2 := hw2 ▸ (Below.refl _ w1).alloc (Nat.le_refl _) _
  have h2 : IsOr w2 (w.heap.size + 1) w.heap.size (Or.begin 0 0) := by
    refine ⟨?_, hm1.below hb12⟩
    have := Bk.new w1 61 #[.int .i64 0, .int .i64 0, .map (some w.heap.size), .int .i64 0, .int .i64 0, .int .i64 0, .int .i64 0, .int .i64 0, .int .i64 0, .int .i64 0, .int .i64 0, .int .i64 0, .int .i64 0, .int .i64 0, .int .i64 0, .int .i64 0, .int .i64 0, .int .i64 0, .int .i64 0, .int .i64 0]
    rw [hw2, hs1] at this
    exact this
  have h3 := h2.setLast l
  have h4 := h3.setPub p
  have f0 : w2.frozen? ⟨w.heap.size + 1, 0, none⟩ = false := h2.blk.frozen 0
  have c0 := h2.c0
  have f1 := h3.blk.frozen 1
  have c1 := h3.c1
  have hb4 : Below w.heap.size w ((w2.setCell ⟨w.heap.size + 1, 0, none⟩ (.int .i64 (l : Int))).setCell ⟨w.heap.size + 1, 1, none⟩ (.int .i64 (p : Int))) := ((hb1.trans (hb12.mono (by omega))).setCell (by simp) _).setCell (by simp) _
  have HE : Hid (IsOr ((w2.setCell ⟨w.heap.size + 1, 0, none⟩ (.int .i64 (l : Int))).setCell ⟨w.heap.size + 1, 1, none⟩ (.int .i64 (p : Int))) (w.heap.size + 1) w.heap.size (Or.begin l p) ∧ Below w.heap.size w ((w2.setCell ⟨w.heap.size + 1, 0, none⟩ (.int .i64 (l : Int))).setCell ⟨w.heap.size + 1, 1, none⟩ (.int .i64 (p : Int)))) := ⟨h4, hb4⟩
  have c0' : w2.cell? ⟨w.heap.size + 1, 0, none⟩ = some (.int .i64 0) := c0
  have c1' : (w2.setCell ⟨w.heap.size + 1, 0, none⟩ (.int .i64 (l : Int))).cell? ⟨w.heap.size + 1, 1, none⟩ = some (.int .i64 0) := c1
  have hmk : (Instr.makeMap 58 none).run Try.prog w = .ok (.map (some w.heap.size)) w1 := by rw [← hw1]; kernel_rfl
  clear hw1 c0 c1
  clear h2 h3 h4 hb4 hb1 hb12 hm1 hs2
  go_enter Try.func27, Try.ntmps27
  go_wp2_with fail
  refine (astore_any c0' f0).mono ?_
  rintro r w3 ⟨rfl, rfl⟩
  go_wp2_with fail
  refine (astore_any c1' f1).mono ?_
  rintro r w4 ⟨rfl, rfl⟩
  go_wp2
  go_ret
  exact ⟨rfl, HE.out⟩

theorem new_any (w : World) (l : Nat) (hl : l ≤ 1099511627776) : Calls Try.prog 7 #[.int .i64 (l : Int)] w fun e w' => e = .returned (.tuple #[.pointer (some ⟨w.heap.size + 1, 0, none⟩), .int .i64 0]) ∧ IsOr w' (w.heap.size + 1) w.heap.size (Or.begin l l) ∧ Below w.heap.size w w' := by
  have h1 : ¬ (l : Int) < 0 := by omega
  have h2 : ¬ (1099511627776 : Int) < (l : Int) := by omega
  go_enter Try.func7, Try.ntmps7
  go_wp2_with fail
  refine (begin_any w l l).mono ?_
  rintro r w4 ⟨rfl, h⟩
  have H : Hid _ := h
  clear h
  go_wp2
  go_ret2
  exact ⟨rfl, H.out⟩

theorem new_bad (w : World) (l : Int) (hl : l < 0 ∨ (1099511627776 : Int) < l) : Calls Try.prog 7 #[.int .i64 l] w fun e w' => e = .returned (.tuple #[.pointer none, .int .i64 1]) ∧ w' = w := by
  by_cases h1 : l < 0
  · clear hl
    go_enter Try.func7, Try.ntmps7
    go_wp2
    go_ret2
    exact ⟨rfl, rfl⟩
  · have h2 := hl.resolve_left h1
    clear hl
    go_enter Try.func7, Try.ntmps7
    go_wp2
    go_ret2
    exact ⟨rfl, rfl⟩
end Go.Proofs.Ytdgphlghmjnjfaa
