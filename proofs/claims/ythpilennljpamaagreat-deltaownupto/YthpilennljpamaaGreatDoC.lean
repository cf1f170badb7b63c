/- The document's clone of a delta. -/
import Derived.Test.YthpilennljpamaaGreatDlS
import Derived.Test.YthpilennljpamaaGreatPgRf
namespace Go.Proofs.YthpilennljpamaaGreat
open Go.RowKit
set_option linter.unusedVariables false
set_option maxRecDepth 100000

set_option maxHeartbeats 4000000 in
theorem rdclone_any (a : De) (ap : Option Addr) (an ac : Nat) (w : World) (hna : a.rt.l.length = an) (ha : Ens w ap a.rt.l) (hl : an ≤ 3518437208782) (hp : ap = none → an = 0 ∧ ac = 0) :
    Calls Tryz.prog 10 #[dlv a.k a.e a.key a.pg a.rt.leaf a.rt.lo a.rt.hi a.rt.r ap an ac] w fun r w' => ∃ q qc, r = .returned (dlv a.k a.e a.key a.pg a.rt.leaf a.rt.lo a.rt.hi a.rt.r q an qc) ∧ OwnE w' w.heap.size (.slice q an qc) a.rt.l ∧ Below w.heap.size w w' := by
  have hq := fun (W : World) (h : Below w.heap.size w W) => rclone_any a.rt.leaf a.rt.lo a.rt.hi a.rt.r ap an ac a.rt.l W hna (ha.below h (Nat.le_refl _)) hl hp
  have HQ : Hid _ := hq
  clear hq ha hna hp
  obtain ⟨ak, ⟨aek, aes, aeg, aec⟩, akey, apg, ⟨aleaf, alo, ahi, ar, al⟩⟩ := a
  simp only at *
  obtain ⟨w0, hw0⟩ : ∃ w0, (w.alloc (.cells #[.int .i64 ak, .string aek, .int .i64 aes, .int .i64 aeg, .int .i64 aec, .string akey, .int .i64 apg, .bool aleaf, .string alo, .string ahi, .int .i64 ar, .slice ap an ac] 32)).alloc (.cells #[.int .i64 0, .string ⟨#[]⟩, .int .i64 0, .int .i64 0, .int .i64 0, .string ⟨#[]⟩, .int .i64 0, .bool false, .string ⟨#[]⟩, .string ⟨#[]⟩, .int .i64 0, .slice none 0 0] 32) = w0 := ⟨_, rfl⟩
  have HB0 : Hid (Below w.heap.size w w0) := by rw [← hw0]; exact ((Below.refl _ _).alloc (Nat.le_refl _) _).alloc (by simp) _
  have HK0 : Hid (Bk w0 w.heap.size 32 #[.int .i64 ak, .string aek, .int .i64 aes, .int .i64 aeg, .int .i64 aec, .string akey, .int .i64 apg, .bool aleaf, .string alo, .string ahi, .int .i64 ar, .slice ap an ac]) := by rw [← hw0]; exact (Bk.new _ _ _).alloc _
  have HR0 : Hid (Bk w0 (w.heap.size + 1) 32 #[.int .i64 0, .string ⟨#[]⟩, .int .i64 0, .int .i64 0, .int .i64 0, .string ⟨#[]⟩, .int .i64 0, .bool false, .string ⟨#[]⟩, .string ⟨#[]⟩, .int .i64 0, .slice none 0 0]) := by rw [← hw0]; exact Bk.new1 _ _ _ _
  have x0 : w0.cell? ⟨w.heap.size, 0, none⟩ = some (.int .i64 ak) := HK0.out.cell 0
  have x1 : w0.cell? ⟨w.heap.size, 1, none⟩ = some (.string aek) := HK0.out.cell 1
  have x2 : w0.cell? ⟨w.heap.size, 2, none⟩ = some (.int .i64 aes) := HK0.out.cell 2
  have x3 : w0.cell? ⟨w.heap.size, 3, none⟩ = some (.int .i64 aeg) := HK0.out.cell 3
  have x4 : w0.cell? ⟨w.heap.size, 4, none⟩ = some (.int .i64 aec) := HK0.out.cell 4
  have x5 : w0.cell? ⟨w.heap.size, 5, none⟩ = some (.string akey) := HK0.out.cell 5
  have x6 : w0.cell? ⟨w.heap.size, 6, none⟩ = some (.int .i64 apg) := HK0.out.cell 6
  have x7 : w0.cell? ⟨w.heap.size, 7, none⟩ = some (.bool aleaf) := HK0.out.cell 7
  have x8 : w0.cell? ⟨w.heap.size, 8, none⟩ = some (.string alo) := HK0.out.cell 8
  have x9 : w0.cell? ⟨w.heap.size, 9, none⟩ = some (.string ahi) := HK0.out.cell 9
  have x10 : w0.cell? ⟨w.heap.size, 10, none⟩ = some (.int .i64 ar) := HK0.out.cell 10
  have x11 : w0.cell? ⟨w.heap.size, 11, none⟩ = some (.slice ap an ac) := HK0.out.cell 11
  go_enter Tryz.func10, Tryz.ntmps10
  go_wp2_with fail
  clear hw0
  refine (HQ.out _ HB0.out).mono ?_
  rintro e w1 ⟨q, qc, rfl, ho, hb1⟩
  have HO1 : Hid (OwnE w1 w0.heap.size (.slice q an qc) al) := ho
  have HB1 : Hid (Below w.heap.size w w1) := HB0.out.trans (hb1.mono HB0.out.size)
  have HK1 : Hid (Bk w1 w.heap.size 32 #[.int .i64 ak, .string aek, .int .i64 aes, .int .i64 aeg, .int .i64 aec, .string akey, .int .i64 apg, .bool aleaf, .string alo, .string ahi, .int .i64 ar, .slice ap an ac]) := HK0.out.below hb1 HK0.out.lt
  have HR1 : Hid (Bk w1 (w.heap.size + 1) 32 #[.int .i64 0, .string ⟨#[]⟩, .int .i64 0, .int .i64 0, .int .i64 0, .string ⟨#[]⟩, .int .i64 0, .bool false, .string ⟨#[]⟩, .string ⟨#[]⟩, .int .i64 0, .slice none 0 0]) := HR0.out.below hb1 HR0.out.lt
  have HS0 : Hid (w.heap.size + 1 < w0.heap.size) := HR0.out.lt
  clear hb1 ho x0 x1 x2 x3 x4 x5 x6 x7 x8 x9 x10 x11
  have x0 : w1.cell? ⟨w.heap.size, 0, none⟩ = some (.int .i64 ak) := HK1.out.cell 0
  have xf0 : w1.frozen? ⟨w.heap.size, 0, none⟩ = false := HK1.out.frozen 0
  have x1 : w1.cell? ⟨w.heap.size, 1, none⟩ = some (.string aek) := HK1.out.cell 1
  have xf1 : w1.frozen? ⟨w.heap.size, 1, none⟩ = false := HK1.out.frozen 1
  have x2 : w1.cell? ⟨w.heap.size, 2, none⟩ = some (.int .i64 aes) := HK1.out.cell 2
  have xf2 : w1.frozen? ⟨w.heap.size, 2, none⟩ = false := HK1.out.frozen 2
  have x3 : w1.cell? ⟨w.heap.size, 3, none⟩ = some (.int .i64 aeg) := HK1.out.cell 3
  have xf3 : w1.frozen? ⟨w.heap.size, 3, none⟩ = false := HK1.out.frozen 3
  have x4 : w1.cell? ⟨w.heap.size, 4, none⟩ = some (.int .i64 aec) := HK1.out.cell 4
  have xf4 : w1.frozen? ⟨w.heap.size, 4, none⟩ = false := HK1.out.frozen 4
  have x5 : w1.cell? ⟨w.heap.size, 5, none⟩ = some (.string akey) := HK1.out.cell 5
  have xf5 : w1.frozen? ⟨w.heap.size, 5, none⟩ = false := HK1.out.frozen 5
  have x6 : w1.cell? ⟨w.heap.size, 6, none⟩ = some (.int .i64 apg) := HK1.out.cell 6
  have xf6 : w1.frozen? ⟨w.heap.size, 6, none⟩ = false := HK1.out.frozen 6
  have x7 : w1.cell? ⟨w.heap.size, 7, none⟩ = some (.bool aleaf) := HK1.out.cell 7
  have xf7 : w1.frozen? ⟨w.heap.size, 7, none⟩ = false := HK1.out.frozen 7
  have x8 : w1.cell? ⟨w.heap.size, 8, none⟩ = some (.string alo) := HK1.out.cell 8
  have xf8 : w1.frozen? ⟨w.heap.size, 8, none⟩ = false := HK1.out.frozen 8
  have x9 : w1.cell? ⟨w.heap.size, 9, none⟩ = some (.string ahi) := HK1.out.cell 9
  have xf9 : w1.frozen? ⟨w.heap.size, 9, none⟩ = false := HK1.out.frozen 9
  have x10 : w1.cell? ⟨w.heap.size, 10, none⟩ = some (.int .i64 ar) := HK1.out.cell 10
  have xf10 : w1.frozen? ⟨w.heap.size, 10, none⟩ = false := HK1.out.frozen 10
  have x11 : w1.cell? ⟨w.heap.size, 11, none⟩ = some (.slice ap an ac) := HK1.out.cell 11
  have xf11 : w1.frozen? ⟨w.heap.size, 11, none⟩ = false := HK1.out.frozen 11
  have y0 : w1.cell? ⟨w.heap.size + 1, 0, none⟩ = some (.int .i64 0) := HR1.out.cell 0
  have yf0 : w1.frozen? ⟨w.heap.size + 1, 0, none⟩ = false := HR1.out.frozen 0
  have y1 : w1.cell? ⟨w.heap.size + 1, 1, none⟩ = some (.string ⟨#[]⟩) := HR1.out.cell 1
  have yf1 : w1.frozen? ⟨w.heap.size + 1, 1, none⟩ = false := HR1.out.frozen 1
  have y2 : w1.cell? ⟨w.heap.size + 1, 2, none⟩ = some (.int .i64 0) := HR1.out.cell 2
  have yf2 : w1.frozen? ⟨w.heap.size + 1, 2, none⟩ = false := HR1.out.frozen 2
  have y3 : w1.cell? ⟨w.heap.size + 1, 3, none⟩ = some (.int .i64 0) := HR1.out.cell 3
  have yf3 : w1.frozen? ⟨w.heap.size + 1, 3, none⟩ = false := HR1.out.frozen 3
  have y4 : w1.cell? ⟨w.heap.size + 1, 4, none⟩ = some (.int .i64 0) := HR1.out.cell 4
  have yf4 : w1.frozen? ⟨w.heap.size + 1, 4, none⟩ = false := HR1.out.frozen 4
  have y5 : w1.cell? ⟨w.heap.size + 1, 5, none⟩ = some (.string ⟨#[]⟩) := HR1.out.cell 5
  have yf5 : w1.frozen? ⟨w.heap.size + 1, 5, none⟩ = false := HR1.out.frozen 5
  have y6 : w1.cell? ⟨w.heap.size + 1, 6, none⟩ = some (.int .i64 0) := HR1.out.cell 6
  have yf6 : w1.frozen? ⟨w.heap.size + 1, 6, none⟩ = false := HR1.out.frozen 6
  have y7 : w1.cell? ⟨w.heap.size + 1, 7, none⟩ = some (.bool false) := HR1.out.cell 7
  have yf7 : w1.frozen? ⟨w.heap.size + 1, 7, none⟩ = false := HR1.out.frozen 7
  have y8 : w1.cell? ⟨w.heap.size + 1, 8, none⟩ = some (.string ⟨#[]⟩) := HR1.out.cell 8
  have yf8 : w1.frozen? ⟨w.heap.size + 1, 8, none⟩ = false := HR1.out.frozen 8
  have y9 : w1.cell? ⟨w.heap.size + 1, 9, none⟩ = some (.string ⟨#[]⟩) := HR1.out.cell 9
  have yf9 : w1.frozen? ⟨w.heap.size + 1, 9, none⟩ = false := HR1.out.frozen 9
  have y10 : w1.cell? ⟨w.heap.size + 1, 10, none⟩ = some (.int .i64 0) := HR1.out.cell 10
  have yf10 : w1.frozen? ⟨w.heap.size + 1, 10, none⟩ = false := HR1.out.frozen 10
  have y11 : w1.cell? ⟨w.heap.size + 1, 11, none⟩ = some (.slice none 0 0) := HR1.out.cell 11
  have yf11 : w1.frozen? ⟨w.heap.size + 1, 11, none⟩ = false := HR1.out.frozen 11
  go_wp2_with fail
  have k1 := HR1.out.fiveO2 (show w.heap.size + 1 ≠ w.heap.size by omega) (.bool aleaf) (.string alo) (.string ahi) (.int .i64 ar) (.slice q an qc)
  have hA := Bk.twelve k1 (.int .i64 ak) (.string aek) (.int .i64 aes) (.int .i64 aeg) (.int .i64 aec) (.string akey) (.int .i64 apg) (.bool aleaf) (.string alo) (.string ahi) (.int .i64 ar) (.slice q an qc)
  have ht : Tn [w.heap.size, w.heap.size + 1] w1 _ := ((Tn.refl _ _).five2 (R := w.heap.size) (.inl (by simp)) (.bool aleaf) (.string alo) (.string ahi) (.int .i64 ar) (.slice q an qc)).twelve (R := w.heap.size + 1) (.inl (by simp)) (.int .i64 ak) (.string aek) (.int .i64 aes) (.int .i64 aeg) (.int .i64 aec) (.string akey) (.int .i64 apg) (.bool aleaf) (.string alo) (.string ahi) (.int .i64 ar) (.slice q an qc)
  refine bodyPost_ret (results_one (cs := [.int .i64 ak, .string aek, .int .i64 aes, .int .i64 aeg, .int .i64 aec, .string akey, .int .i64 apg, .bool aleaf, .string alo, .string ahi, .int .i64 ar, .slice q an qc]) rfl rfl dl_agg dl_size rfl hA) rfl ?_
  refine ⟨q, qc, rfl, ?_, HB1.out.trans (ht.below HB1.out.size (by simp))⟩
  exact (HO1.out.tn ht (by have := HS0.out; simp; omega)).mono HB0.out.size


end Go.Proofs.YthpilennljpamaaGreat
