/- The document's bytes of masters. -/
import Derived.Test.YtlfgclmgpbaenaaRcRef3
namespace Go.Proofs.Ytlfgclmgpbaenaa
open Go.RowKit
set_option linter.unusedVariables false
set_option maxRecDepth 100000

set_option maxHeartbeats 4000000 in
theorem rmaster_any (m : Ms) (w : World) :
    Calls Try.prog 27 #[.agg m.cells.toArray] w fun e w' => ∃ v, e = .returned (.tuple #[v, .int .i64 (Rc.msE m)]) ∧ Came w w' v (Rc.msE m) (Rc.msB m) := by
  unfold Ms.cells
  have HK0 : Hid (Bk (w.alloc (.cells #[.int .i64 m.seq, .int .i64 m.area, .int .i64 m.chunks, .int .i64 m.ts, .int .i64 m.sector, .int .i64 m.offset, .int .i64 m.number, .int .i64 m.run] 31)) w.heap.size 31 #[.int .i64 m.seq, .int .i64 m.area, .int .i64 m.chunks, .int .i64 m.ts, .int .i64 m.sector, .int .i64 m.offset, .int .i64 m.number, .int .i64 m.run]) := Bk.new _ _ _
  have HB0 : Hid (Below w.heap.size w (w.alloc (.cells #[.int .i64 m.seq, .int .i64 m.area, .int .i64 m.chunks, .int .i64 m.ts, .int .i64 m.sector, .int .i64 m.offset, .int .i64 m.number, .int .i64 m.run] 31))) := (Below.refl _ _).alloc (Nat.le_refl _) _
  go_enter Try.func27, Try.ntmps27
  go_wp2_with fail
  refine (rcheckMaster_any m _).mono ?_
  rintro e w1 ⟨rfl, hb1⟩
  have HK1 : Hid (Bk w1 w.heap.size 31 #[.int .i64 m.seq, .int .i64 m.area, .int .i64 m.chunks, .int .i64 m.ts, .int .i64 m.sector, .int .i64 m.offset, .int .i64 m.number, .int .i64 m.run]) := HK0.out.below hb1 HK0.out.lt
  have HB1 : Hid (Below w.heap.size w w1) := HB0.out.trans (hb1.mono HB0.out.size)
  have HCC : Hid (∀ w', Below w1.heap.size w1 w' → w'.cell? ⟨w.heap.size, 0, none⟩ = some (.int .i64 m.seq) ∧ w'.cell? ⟨w.heap.size, 1, none⟩ = some (.int .i64 m.area) ∧ w'.cell? ⟨w.heap.size, 2, none⟩ = some (.int .i64 m.chunks) ∧ w'.cell? ⟨w.heap.size, 3, none⟩ = some (.int .i64 m.ts) ∧ w'.cell? ⟨w.heap.size, 4, none⟩ = some (.int .i64 m.sector) ∧ w'.cell? ⟨w.heap.size, 5, none⟩ = some (.int .i64 m.offset) ∧ w'.cell? ⟨w.heap.size, 6, none⟩ = some (.int .i64 m.number) ∧ w'.cell? ⟨w.heap.size, 7, none⟩ = some (.int .i64 m.run)) := by
    intro w' hb
    have b := HK1.out.below hb HK1.out.lt
    exact ⟨b.cell 0, b.cell 1, b.cell 2, b.cell 3, b.cell 4, b.cell 5, b.cell 6, b.cell 7⟩
  clear hb1 HK0 HB0
  by_cases he : Rc.msE m = 0
  · have heb : (Rc.msE m != 0) = false := by simpa using he
    obtain ⟨⟨a0, b0⟩, ⟨a1, b1⟩, ⟨a2, b2⟩, ⟨a3, b3⟩, ⟨a4, b4⟩, ⟨a5, b5⟩, ⟨a6, b6⟩, ⟨a7, b7⟩⟩ := Rc.msE_fits he
    have HE : Hid (Rc.msE m = 0) := he
    obtain ⟨k0, k1, k2, k3, k4, k5, k6, k7⟩ := HCC.out w1 (Below.refl _ _)
    have e0 := Rc.enc_le m.seq
    have e1 := Rc.enc_le m.area
    have e2 := Rc.enc_le m.chunks
    have e3 := Rc.enc_le m.ts
    have e4 := Rc.enc_le m.sector
    have e5 := Rc.enc_le m.offset
    have e6 := Rc.enc_le m.number
    have e7 := Rc.enc_le m.run
    clear he
    go_wp2_with fail
    have HG0 : Hid (Gt w1 w1.drew (.slice none 0 0) []) := (Gt.nil w1).up ((Below.refl _ _).drew)
    go_region_held3 (fun w' => w'.cell? ⟨w.heap.size, 0, none⟩ = some (.int .i64 m.seq) ∧ w'.cell? ⟨w.heap.size, 1, none⟩ = some (.int .i64 m.area) ∧ w'.cell? ⟨w.heap.size, 2, none⟩ = some (.int .i64 m.chunks) ∧ w'.cell? ⟨w.heap.size, 3, none⟩ = some (.int .i64 m.ts) ∧ w'.cell? ⟨w.heap.size, 4, none⟩ = some (.int .i64 m.sector) ∧ w'.cell? ⟨w.heap.size, 5, none⟩ = some (.int .i64 m.offset) ∧ w'.cell? ⟨w.heap.size, 6, none⟩ = some (.int .i64 m.number) ∧ w'.cell? ⟨w.heap.size, 7, none⟩ = some (.int .i64 m.run)) (go_keep) (first
      | (go_at_call_of 50 (Value.int IntKind.i64 m.seq); refine (rnum_any HG0.out m.seq a0 b0 (by simp; try omega)).mono ?_; rintro e w2 ⟨v2, rfl, hG2⟩; have hk2 := HCC.out w2 hG2.2)
      | (go_at_call_of 50 (Value.int IntKind.i64 m.area); refine (rnum_any hG2 m.area a1 b1 (by simp; try omega)).mono ?_; rintro e w3 ⟨v3, rfl, hG3⟩; have hk3 := HCC.out w3 hG3.2)
      | (go_at_call_of 50 (Value.int IntKind.i64 m.chunks); refine (rnum_any hG3 m.chunks a2 b2 (by simp; try omega)).mono ?_; rintro e w4 ⟨v4, rfl, hG4⟩; have hk4 := HCC.out w4 hG4.2)
      | (go_at_call_of 50 (Value.int IntKind.i64 m.ts); refine (rnum_any hG4 m.ts a3 b3 (by simp; try omega)).mono ?_; rintro e w5 ⟨v5, rfl, hG5⟩; have hk5 := HCC.out w5 hG5.2))
    have HG5 : Hid (Gt w1 w5 v5 ([] ++ Cd.enc m.seq ++ Cd.enc m.area ++ Cd.enc m.chunks ++ Cd.enc m.ts)) := hG5
    clear hG2 hG3 hG4 hG5 hk2 hk3 hk4 hk5 k0 k1 k2 k3 k4 k5 k6 k7 HG0
    obtain ⟨k0, k1, k2, k3, k4, k5, k6, k7⟩ := HCC.out w5 HG5.out.2
    have HG5d : Hid (Gt w1 w5.drew v5 ([] ++ Cd.enc m.seq ++ Cd.enc m.area ++ Cd.enc m.chunks ++ Cd.enc m.ts)) := HG5.out.up ((Below.refl _ _).drew)
    go_wp2_with fail
    go_region_held3 (fun w' => w'.cell? ⟨w.heap.size, 0, none⟩ = some (.int .i64 m.seq) ∧ w'.cell? ⟨w.heap.size, 1, none⟩ = some (.int .i64 m.area) ∧ w'.cell? ⟨w.heap.size, 2, none⟩ = some (.int .i64 m.chunks) ∧ w'.cell? ⟨w.heap.size, 3, none⟩ = some (.int .i64 m.ts) ∧ w'.cell? ⟨w.heap.size, 4, none⟩ = some (.int .i64 m.sector) ∧ w'.cell? ⟨w.heap.size, 5, none⟩ = some (.int .i64 m.offset) ∧ w'.cell? ⟨w.heap.size, 6, none⟩ = some (.int .i64 m.number) ∧ w'.cell? ⟨w.heap.size, 7, none⟩ = some (.int .i64 m.run)) (go_keep) (first
      | (go_at_call_of 50 (Value.int IntKind.i64 m.sector); refine (rnum_any HG5d.out m.sector a4 b4 (by simp; try omega)).mono ?_; rintro e w6 ⟨v6, rfl, hG6⟩; have hk6 := HCC.out w6 hG6.2)
      | (go_at_call_of 50 (Value.int IntKind.i64 m.offset); refine (rnum_any hG6 m.offset a5 b5 (by simp; try omega)).mono ?_; rintro e w7 ⟨v7, rfl, hG7⟩; have hk7 := HCC.out w7 hG7.2)
      | (go_at_call_of 50 (Value.int IntKind.i64 m.number); refine (rnum_any hG7 m.number a6 b6 (by simp; try omega)).mono ?_; rintro e w8 ⟨v8, rfl, hG8⟩; have hk8 := HCC.out w8 hG8.2)
      | (go_at_call_of 50 (Value.int IntKind.i64 m.run); refine (rnum_any hG8 m.run a7 b7 (by simp; try omega)).mono ?_; rintro e w9 ⟨v9, rfl, hG9⟩; have hk9 := HCC.out w9 hG9.2))
    have HC : Hid (Came w w9 v9 (Rc.msE m) (Rc.msB m)) := by
      have hG := hG9
      rw [show [] ++ Cd.enc m.seq ++ Cd.enc m.area ++ Cd.enc m.chunks ++ Cd.enc m.ts ++ Cd.enc m.sector ++ Cd.enc m.offset ++ Cd.enc m.number ++ Cd.enc m.run = Rc.msB m from rfl] at hG
      exact ⟨HB1.out.trans (hG.2.mono HB1.out.size), fun _ => hG.1.mono HB1.out.size, fun h => absurd HE.out h⟩
    clear hG6 hG7 hG8 hG9 hk6 hk7 hk8 hk9 k0 k1 k2 k3 k4 k5 k6 k7 HG5 HG5d
    go_wp2
    go_ret2
    exact ⟨_, by rw [HE.out]; rfl, HC.out⟩
  · have heb : (Rc.msE m != 0) = true := by simpa using he
    have HC : Hid (Came w w1 (.slice none 0 0) (Rc.msE m) (Rc.msB m)) := ⟨HB1.out, fun h => absurd h he, fun _ => rfl⟩
    clear he
    go_wp2
    go_ret2
    exact ⟨_, rfl, HC.out⟩

end Go.Proofs.Ytlfgclmgpbaenaa
