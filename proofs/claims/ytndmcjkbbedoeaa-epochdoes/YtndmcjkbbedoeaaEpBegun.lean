/- Does what was retired wait for two epochs? -/
import Derived.Test.YtndmcjkbbedoeaaEpD
namespace Go.Proofs.Ytndmcjkbbedoeaa
open Go.RowKit
set_option linter.unusedVariables false
set_option maxRecDepth 100000

theorem begun_mem {w w1 : World} (h : Epn w1 w.heap.size [w.heap.size] Ep.fresh) (hb : Below w.heap.size w w1) (hs : w1.heap.size = w.heap.size + 1) :
    ∃ w2, w1.alloc (.cells #[.int .i64 1, .int .i64 2, .int .i64 3] 31) = w2 ∧ Below w.heap.size w w2 ∧ Epn w2 w.heap.size [w.heap.size] Ep.fresh ∧ Bk w2 (w.heap.size + 1) 31 #[.int .i64 1, .int .i64 2, .int .i64 3] ∧ w2.heap.size = w.heap.size + 2 := by
  refine ⟨_, rfl, hb.alloc hb.size _, h.below ((Below.refl _ _).alloc (Nat.le_refl _) _), ?_, by simp [hs]⟩
  have := Bk.new w1 31 #[.int .i64 1, .int .i64 2, .int .i64 3]
  rwa [hs] at this

theorem Epn.cNow {w : World} {B : Nat} {bs : List Nat} {e : Ep} (h : Epn w B bs e) : w.cell? ⟨B, 0, none⟩ = some (.int .i64 (e.now : Int)) := by
  obtain ⟨vs, rfl, h⟩ := h
  exact h.cNow

/-- The two epochs. -/
theorem begun_end {w w2 w3 w4 w5 : World} {bs4 : List Nat} {v2 : Value} (hb2 : Below w.heap.size w w2) (k2 : Bk w2 (w.heap.size + 1) 31 #[.int .i64 1, .int .i64 2, .int .i64 3]) (t3 : Tn [w.heap.size] w2 w3) (t4 : Tn [w.heap.size] w3 w4) (a5 : Adv w4 w5 w.heap.size bs4 (Ep.fresh.retire ⟨1, 2, 3⟩).next v2) :
    Below w.heap.size w w5 ∧ (∃ g c, v2 = .slice (some ⟨g, 0, none⟩) 1 c ∧ w5.cell? ⟨g, 0, none⟩ = some (.int .i64 1) ∧ w5.cell? ⟨g, 1, none⟩ = some (.int .i64 2) ∧ w5.cell? ⟨g, 2, none⟩ = some (.int .i64 3)) ∧ w5.cell? ⟨w.heap.size, 0, none⟩ = some (.int .i64 ((3 : Nat) : Int)) ∧ w5.cell? ⟨w.heap.size + 1, 0, none⟩ = some (.int .i64 1) ∧ w5.cell? ⟨w.heap.size + 1, 1, none⟩ = some (.int .i64 2) ∧ w5.cell? ⟨w.heap.size + 1, 2, none⟩ = some (.int .i64 3) := by
  obtain ⟨bs5, hE5, t5, -, -⟩ := a5.ep
  have k5 := ((k2.tn t3 (by simp)).tn t4 (by simp)).tn t5 (by simp)
  have hx : ∀ {a b : World}, Tn [w.heap.size] a b → w.heap.size ≤ a.heap.size → Below w.heap.size a b := fun t hs => t.below hs (by simp)
  have s2 := hb2.size
  have s3 := t3.size
  have s4 := t4.size
  refine ⟨((hb2.trans (hx t3 s2)).trans (hx t4 (by omega))).trans (hx t5 (by omega)), ?_, hE5.cNow, k5.cell 0, k5.cell 1, k5.cell 2⟩
  have r : Rr w5 v2 [⟨1, 2, 3⟩] := a5.row
  obtain ⟨g, c, rfl⟩ := r.has (by simp)
  have := r.cell rfl 0 (by simp)
  exact ⟨g, c, rfl, this⟩

theorem Ep.fresh_held : Ep.fresh.held = false := rfl

set_option maxHeartbeats 4000000 in
theorem begun_any (w : World) : Calls Try.prog 10 #[] w fun e w' => e = .returned (.bool true) ∧ Below w.heap.size w w' := by
  go_enter Try.func10, Try.ntmps10
  go_wp2_with fail
  refine (new_any w).mono ?_
  rintro r w1 ⟨rfl, hE1, hb1, hs1⟩
  obtain ⟨w2, hw2, hb2, hE2, k2, hs2⟩ := begun_mem hE1 hb1 hs1
  have HE2 : Hid (Epn w2 w.heap.size [w.heap.size] Ep.fresh) := hE2
  have HB2 : Hid (Below w.heap.size w w2) := hb2
  have HK2 : Hid (Bk w2 (w.heap.size + 1) 31 #[.int .i64 1, .int .i64 2, .int .i64 3]) := k2
  have HS2 : Hid (w2.heap.size = w.heap.size + 2) := hs2
  have HW2 : Hid (w1.alloc (.cells #[.int .i64 1, .int .i64 2, .int .i64 3] 31) = w2 ∧ w1.heap.size = w.heap.size + 1) := ⟨hw2, hs1⟩
  clear hE1 hb1 hs1 hw2 hb2 hE2 k2 hs2
  go_wp2_with fail
  rw [HW2.out.1, HW2.out.2]
  have c0 : w2.cell? ⟨w.heap.size, 0, none⟩ = some (.int .i64 ((1 : Nat) : Int)) := HE2.out.cNow
  refine (now_any c0 (by decide)).mono ?_
  rintro r w3 ⟨rfl, rfl⟩
  have d0 := HK2.out.cell 0
  have d1 := HK2.out.cell 1
  have d2 := HK2.out.cell 2
  simp at d0 d1 d2
  go_wp2_with fail
  refine (retire_any HE2.out ⟨1, 2, 3⟩ (by simp [Ep.fresh])).mono ?_
  rintro r w4 ⟨rfl, bs4, hE4, ht4, hn4⟩
  have HE4 : Hid (Epn w4 w.heap.size bs4 (Ep.fresh.retire ⟨1, 2, 3⟩)) := hE4
  have HT4 : Hid (Tn [w.heap.size] w3 w4) := ht4
  clear hE4 ht4 hn4
  go_wp2_with fail
  refine (advance_any HE4.out (by decide) rfl).mono ?_
  rintro r w5 ⟨v5, rfl, hA5⟩
  obtain ⟨bs5, hE5, ht5, -, -⟩ := hA5.ep
  have HE5 : Hid (Epn w5 w.heap.size bs5 (Ep.fresh.retire ⟨1, 2, 3⟩).next) := hE5
  have HT5 : Hid (Tn [w.heap.size] w4 w5) := ht5
  obtain ⟨p5, c5, rfl, -⟩ : ∃ p c, v5 = .slice p 0 c ∧ 0 ≤ c := hA5.row.form
  clear hE5 ht5 hA5
  go_wp2_with fail
  refine (advance_any HE5.out (by decide) rfl).mono ?_
  rintro r w6 ⟨v6, rfl, hA6⟩
  obtain ⟨hB6, ⟨g6, c6, rfl, x0, x1, x2⟩, y0, y1, y2, y3⟩ := begun_end HB2.out HK2.out HT4.out HT5.out hA6
  have HB6 : Hid (Below w.heap.size w w6) := hB6
  clear hA6 hB6 c0 d0 d1 d2
  go_wp2_with fail
  go_quiet (first | (go_at_call 12; refine Calls.quiet_of_same (now_any (by first | exact y0 | (rw [cell_drewN]; exact y0)) (by decide))))
  go_wp2
  go_ret
  exact ⟨rfl, below_drewN HB6.out _⟩
end Go.Proofs.Ytndmcjkbbedoeaa
