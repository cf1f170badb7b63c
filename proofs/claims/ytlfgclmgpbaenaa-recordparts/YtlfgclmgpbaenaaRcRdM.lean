/- Masters are read. -/
import Derived.Test.YtlfgclmgpbaenaaRcRd
namespace Go.Proofs.Ytlfgclmgpbaenaa
open Go.RowKit
set_option linter.unusedVariables false
set_option maxRecDepth 100000

set_option maxHeartbeats 4000000 in
theorem master_rd {w : World} {R lo : Nat} {s : Rs} (h : Rd w R lo s) :
    Calls Try.prog 63 #[.pointer (some ⟨R, 0, none⟩)] w fun x w' => x = .returned (.agg s.master.1.cells.toArray) ∧ Rd w' R lo s.master.2 ∧ Tn [R] w w' := by
  have H0 : Hid (RdB w ((w.alloc (.cells #[.int .i64 0, .int .i64 0, .int .i64 0, .int .i64 0, .int .i64 0, .int .i64 0, .int .i64 0, .int .i64 0] 31)).alloc (.cells #[.int .i64 0, .int .i64 0, .int .i64 0, .int .i64 0, .int .i64 0, .int .i64 0, .int .i64 0, .int .i64 0] 31)) R lo s w.heap.size 31 #[.int .i64 0, .int .i64 0, .int .i64 0, .int .i64 0, .int .i64 0, .int .i64 0, .int .i64 0, .int .i64 0] #[.int .i64 0, .int .i64 0, .int .i64 0, .int .i64 0, .int .i64 0, .int .i64 0, .int .i64 0, .int .i64 0]) := RdB.begin h _ _ _
  obtain ⟨m, hm⟩ : ∃ m, s.master = m := ⟨_, rfl⟩
  have HM : Hid (s.master = m) := hm
  clear h hm
  obtain ⟨n0, s1, hn0⟩ : ∃ n t, s.num = (n, t) := ⟨_, _, rfl⟩
  obtain ⟨n1, s2, hn1⟩ : ∃ n t, s1.num = (n, t) := ⟨_, _, rfl⟩
  obtain ⟨n2, s3, hn2⟩ : ∃ n t, s2.num = (n, t) := ⟨_, _, rfl⟩
  obtain ⟨n3, s4, hn3⟩ : ∃ n t, s3.num = (n, t) := ⟨_, _, rfl⟩
  obtain ⟨n4, s5, hn4⟩ : ∃ n t, s4.num = (n, t) := ⟨_, _, rfl⟩
  obtain ⟨n5, s6, hn5⟩ : ∃ n t, s5.num = (n, t) := ⟨_, _, rfl⟩
  obtain ⟨n6, s7, hn6⟩ : ∃ n t, s6.num = (n, t) := ⟨_, _, rfl⟩
  obtain ⟨n7, s8, hn7⟩ : ∃ n t, s7.num = (n, t) := ⟨_, _, rfl⟩
  have HMM : Hid (m = (⟨n0, n1, n2, n3, n4, n5, n6, n7⟩, s8)) := by
    unfold Hid
    rw [← HM.out]
    unfold Rs.master
    simp only [hn0, hn1, hn2, hn3, hn4, hn5, hn6, hn7]
  have HN0 : Hid _ := hn0
  have HN1 : Hid _ := hn1
  have HN2 : Hid _ := hn2
  have HN3 : Hid _ := hn3
  have HN4 : Hid _ := hn4
  have HN5 : Hid _ := hn5
  have HN6 : Hid _ := hn6
  have HN7 : Hid _ := hn7
  clear hn0 hn1 hn2 hn3 hn4 hn5 hn6 hn7
  go_enter Try.func63, Try.ntmps63
  go_wp2_with fail
  refine (numB H0.out).mono ?_
  rintro e w1 ⟨rfl, h1⟩
  rw [HN0.out] at h1 ⊢
  simp only at h1 ⊢
  have H1 : Hid (RdB w w1 R lo s1 w.heap.size 31 #[.int .i64 0, .int .i64 0, .int .i64 0, .int .i64 0, .int .i64 0, .int .i64 0, .int .i64 0, .int .i64 0] #[.int .i64 0, .int .i64 0, .int .i64 0, .int .i64 0, .int .i64 0, .int .i64 0, .int .i64 0, .int .i64 0]) := h1
  have c1 : w1.cell? ⟨w.heap.size + 1, 0, none⟩ = some (.int .i64 0) := h1.b.cell 0
  have f1 : w1.frozen? ⟨w.heap.size + 1, 0, none⟩ = false := h1.b.frozen 0
  clear h1 H0
  go_wp2_with fail
  refine (numB (H1.out.set 0 _)).mono ?_
  rintro e w2 ⟨rfl, h2⟩
  rw [HN1.out] at h2 ⊢
  simp only at h2 ⊢
  have H2 : Hid (RdB w w2 R lo s2 w.heap.size 31 #[.int .i64 0, .int .i64 0, .int .i64 0, .int .i64 0, .int .i64 0, .int .i64 0, .int .i64 0, .int .i64 0] #[.int .i64 n0, .int .i64 0, .int .i64 0, .int .i64 0, .int .i64 0, .int .i64 0, .int .i64 0, .int .i64 0]) := h2
  have c2 : w2.cell? ⟨w.heap.size + 1, 1, none⟩ = some (.int .i64 0) := h2.b.cell 1
  have f2 : w2.frozen? ⟨w.heap.size + 1, 1, none⟩ = false := h2.b.frozen 1
  clear h2 H1 c1 f1
  go_wp2_with fail
  refine (numB (H2.out.set 1 _)).mono ?_
  rintro e w3 ⟨rfl, h3⟩
  rw [HN2.out] at h3 ⊢
  simp only at h3 ⊢
  have H3 : Hid (RdB w w3 R lo s3 w.heap.size 31 #[.int .i64 0, .int .i64 0, .int .i64 0, .int .i64 0, .int .i64 0, .int .i64 0, .int .i64 0, .int .i64 0] #[.int .i64 n0, .int .i64 n1, .int .i64 0, .int .i64 0, .int .i64 0, .int .i64 0, .int .i64 0, .int .i64 0]) := h3
  have c3 : w3.cell? ⟨w.heap.size + 1, 2, none⟩ = some (.int .i64 0) := h3.b.cell 2
  have f3 : w3.frozen? ⟨w.heap.size + 1, 2, none⟩ = false := h3.b.frozen 2
  clear h3 H2 c2 f2
  go_wp2_with fail
  refine (numB (H3.out.set 2 _)).mono ?_
  rintro e w4 ⟨rfl, h4⟩
  rw [HN3.out] at h4 ⊢
  simp only at h4 ⊢
  have H4 : Hid (RdB w w4 R lo s4 w.heap.size 31 #[.int .i64 0, .int .i64 0, .int .i64 0, .int .i64 0, .int .i64 0, .int .i64 0, .int .i64 0, .int .i64 0] #[.int .i64 n0, .int .i64 n1, .int .i64 n2, .int .i64 0, .int .i64 0, .int .i64 0, .int .i64 0, .int .i64 0]) := h4
  have c4 : w4.cell? ⟨w.heap.size + 1, 3, none⟩ = some (.int .i64 0) := h4.b.cell 3
  have f4 : w4.frozen? ⟨w.heap.size + 1, 3, none⟩ = false := h4.b.frozen 3
  clear h4 H3 c3 f3
  go_wp2_with fail
  refine (numB (H4.out.set 3 _)).mono ?_
  rintro e w5 ⟨rfl, h5⟩
  rw [HN4.out] at h5 ⊢
  simp only at h5 ⊢
  have H5 : Hid (RdB w w5 R lo s5 w.heap.size 31 #[.int .i64 0, .int .i64 0, .int .i64 0, .int .i64 0, .int .i64 0, .int .i64 0, .int .i64 0, .int .i64 0] #[.int .i64 n0, .int .i64 n1, .int .i64 n2, .int .i64 n3, .int .i64 0, .int .i64 0, .int .i64 0, .int .i64 0]) := h5
  have c5 : w5.cell? ⟨w.heap.size + 1, 4, none⟩ = some (.int .i64 0) := h5.b.cell 4
  have f5 : w5.frozen? ⟨w.heap.size + 1, 4, none⟩ = false := h5.b.frozen 4
  clear h5 H4 c4 f4
  go_wp2_with fail
  refine (numB (H5.out.set 4 _)).mono ?_
  rintro e w6 ⟨rfl, h6⟩
  rw [HN5.out] at h6 ⊢
  simp only at h6 ⊢
  have H6 : Hid (RdB w w6 R lo s6 w.heap.size 31 #[.int .i64 0, .int .i64 0, .int .i64 0, .int .i64 0, .int .i64 0, .int .i64 0, .int .i64 0, .int .i64 0] #[.int .i64 n0, .int .i64 n1, .int .i64 n2, .int .i64 n3, .int .i64 n4, .int .i64 0, .int .i64 0, .int .i64 0]) := h6
  have c6 : w6.cell? ⟨w.heap.size + 1, 5, none⟩ = some (.int .i64 0) := h6.b.cell 5
  have f6 : w6.frozen? ⟨w.heap.size + 1, 5, none⟩ = false := h6.b.frozen 5
  clear h6 H5 c5 f5
  go_wp2_with fail
  refine (numB (H6.out.set 5 _)).mono ?_
  rintro e w7 ⟨rfl, h7⟩
  rw [HN6.out] at h7 ⊢
  simp only at h7 ⊢
  have H7 : Hid (RdB w w7 R lo s7 w.heap.size 31 #[.int .i64 0, .int .i64 0, .int .i64 0, .int .i64 0, .int .i64 0, .int .i64 0, .int .i64 0, .int .i64 0] #[.int .i64 n0, .int .i64 n1, .int .i64 n2, .int .i64 n3, .int .i64 n4, .int .i64 n5, .int .i64 0, .int .i64 0]) := h7
  have c7 : w7.cell? ⟨w.heap.size + 1, 6, none⟩ = some (.int .i64 0) := h7.b.cell 6
  have f7 : w7.frozen? ⟨w.heap.size + 1, 6, none⟩ = false := h7.b.frozen 6
  clear h7 H6 c6 f6
  go_wp2_with fail
  refine (numB (H7.out.set 6 _)).mono ?_
  rintro e w8 ⟨rfl, h8⟩
  rw [HN7.out] at h8 ⊢
  simp only at h8 ⊢
  have H8 : Hid (RdB w w8 R lo s8 w.heap.size 31 #[.int .i64 0, .int .i64 0, .int .i64 0, .int .i64 0, .int .i64 0, .int .i64 0, .int .i64 0, .int .i64 0] #[.int .i64 n0, .int .i64 n1, .int .i64 n2, .int .i64 n3, .int .i64 n4, .int .i64 n5, .int .i64 n6, .int .i64 0]) := h8
  have c8 : w8.cell? ⟨w.heap.size + 1, 7, none⟩ = some (.int .i64 0) := h8.b.cell 7
  have f8 : w8.frozen? ⟨w.heap.size + 1, 7, none⟩ = false := h8.b.frozen 7
  have d0 : w8.cell? ⟨w.heap.size + 1, 0, none⟩ = some (.int .i64 n0) := h8.b.cell 0
  have d1 : w8.cell? ⟨w.heap.size + 1, 1, none⟩ = some (.int .i64 n1) := h8.b.cell 1
  have d2 : w8.cell? ⟨w.heap.size + 1, 2, none⟩ = some (.int .i64 n2) := h8.b.cell 2
  have d3 : w8.cell? ⟨w.heap.size + 1, 3, none⟩ = some (.int .i64 n3) := h8.b.cell 3
  have d4 : w8.cell? ⟨w.heap.size + 1, 4, none⟩ = some (.int .i64 n4) := h8.b.cell 4
  have d5 : w8.cell? ⟨w.heap.size + 1, 5, none⟩ = some (.int .i64 n5) := h8.b.cell 5
  have d6 : w8.cell? ⟨w.heap.size + 1, 6, none⟩ = some (.int .i64 n6) := h8.b.cell 6
  have a0 : w8.cell? ⟨w.heap.size, 0, none⟩ = some (.int .i64 0) := h8.a.cell 0
  have g0 : w8.frozen? ⟨w.heap.size, 0, none⟩ = false := h8.a.frozen 0
  have a1 : w8.cell? ⟨w.heap.size, 1, none⟩ = some (.int .i64 0) := h8.a.cell 1
  have g1 : w8.frozen? ⟨w.heap.size, 1, none⟩ = false := h8.a.frozen 1
  have a2 : w8.cell? ⟨w.heap.size, 2, none⟩ = some (.int .i64 0) := h8.a.cell 2
  have g2 : w8.frozen? ⟨w.heap.size, 2, none⟩ = false := h8.a.frozen 2
  have a3 : w8.cell? ⟨w.heap.size, 3, none⟩ = some (.int .i64 0) := h8.a.cell 3
  have g3 : w8.frozen? ⟨w.heap.size, 3, none⟩ = false := h8.a.frozen 3
  have a4 : w8.cell? ⟨w.heap.size, 4, none⟩ = some (.int .i64 0) := h8.a.cell 4
  have g4 : w8.frozen? ⟨w.heap.size, 4, none⟩ = false := h8.a.frozen 4
  have a5 : w8.cell? ⟨w.heap.size, 5, none⟩ = some (.int .i64 0) := h8.a.cell 5
  have g5 : w8.frozen? ⟨w.heap.size, 5, none⟩ = false := h8.a.frozen 5
  have a6 : w8.cell? ⟨w.heap.size, 6, none⟩ = some (.int .i64 0) := h8.a.cell 6
  have g6 : w8.frozen? ⟨w.heap.size, 6, none⟩ = false := h8.a.frozen 6
  have a7 : w8.cell? ⟨w.heap.size, 7, none⟩ = some (.int .i64 0) := h8.a.cell 7
  have g7 : w8.frozen? ⟨w.heap.size, 7, none⟩ = false := h8.a.frozen 7
  clear h8 H7 c7 f7
  go_wp2
  have h := (((((((((H8.out.set 7 (.int .i64 n7)).setA 0 (.int .i64 n0)).setA 1 (.int .i64 n1)).setA 2 (.int .i64 n2)).setA 3 (.int .i64 n3)).setA 4 (.int .i64 n4)).setA 5 (.int .i64 n5)).setA 6 (.int .i64 n6)).setA 7 (.int .i64 n7))
  try simp only [Exit.inBlock, Exit.then]
  refine bodyPost_ret (results_one (cs := [.int .i64 n0, .int .i64 n1, .int .i64 n2, .int .i64 n3, .int .i64 n4, .int .i64 n5, .int .i64 n6, .int .i64 n7]) rfl rfl ms_agg ms_size rfl h.a) rfl ?_
  rw [HM.out, HMM.out]
  exact ⟨rfl, h.rd, h.tn⟩

end Go.Proofs.Ytlfgclmgpbaenaa
