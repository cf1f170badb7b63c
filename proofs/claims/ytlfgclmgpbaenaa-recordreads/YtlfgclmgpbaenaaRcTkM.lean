/- The document's masters are read. -/
import Derived.Test.YtlfgclmgpbaenaaRcTkH
import Derived.Test.YtlfgclmgpbaenaaRcMs
namespace Go.Proofs.Ytlfgclmgpbaenaa
open Go.RowKit
set_option linter.unusedVariables false
set_option maxRecDepth 100000

set_option maxHeartbeats 8000000 in
theorem rtakeMaster_any (p : Option Addr) (len cap : Nat) (xs : List Int) (w : World) (hin : InB 9223372036854775807 w p len cap xs) (hl47 : xs.length ≤ 140737488355328) :
    Calls Try.prog 34 #[.slice p len cap] w fun x w' => x = .returned (.tuple #[.agg (Rc.takeMs xs).1.cells.toArray, .int .i64 (Rc.takeMs xs).2]) ∧ Below w.heap.size w w' := by
  obtain ⟨tk0, ba0, tn0⟩ := tk_new w 31 #[.int .i64 0, .int .i64 0, .int .i64 0, .int .i64 0, .int .i64 0, .int .i64 0, .int .i64 0, .int .i64 0] p len cap xs hin hl47
  have H0 : Hid _ := tk0
  have HA0 : Hid _ := ba0
  have HT0 : Hid _ := tn0
  have HT : Hid (Rc.takeMs xs = if ((Rs.mk xs 0).master.2.more.note (Rc.msE (Rs.mk xs 0).master.1)).e = 0 then ((Rs.mk xs 0).master.1, 0) else (⟨0, 0, 0, 0, 0, 0, 0, 0⟩, ((Rs.mk xs 0).master.2.more.note (Rc.msE (Rs.mk xs 0).master.1)).e)) := rfl
  obtain ⟨CC, hCC⟩ : ∃ C, (Rs.mk xs 0).master = C := ⟨_, rfl⟩
  rw [hCC] at HT
  obtain ⟨s, hs⟩ : ∃ s, Rs.mk xs 0 = s := ⟨_, rfl⟩
  rw [hs] at hCC H0
  obtain ⟨n0, s1, hn0⟩ : ∃ n t, s.num = (n, t) := ⟨_, _, rfl⟩
  obtain ⟨n1, s2, hn1⟩ : ∃ n t, s1.num = (n, t) := ⟨_, _, rfl⟩
  obtain ⟨n2, s3, hn2⟩ : ∃ n t, s2.num = (n, t) := ⟨_, _, rfl⟩
  obtain ⟨n3, s4, hn3⟩ : ∃ n t, s3.num = (n, t) := ⟨_, _, rfl⟩
  obtain ⟨n4, s5, hn4⟩ : ∃ n t, s4.num = (n, t) := ⟨_, _, rfl⟩
  obtain ⟨n5, s6, hn5⟩ : ∃ n t, s5.num = (n, t) := ⟨_, _, rfl⟩
  obtain ⟨n6, s7, hn6⟩ : ∃ n t, s6.num = (n, t) := ⟨_, _, rfl⟩
  obtain ⟨n7, s8, hn7⟩ : ∃ n t, s7.num = (n, t) := ⟨_, _, rfl⟩
  have HMM : Hid (CC = (⟨n0, n1, n2, n3, n4, n5, n6, n7⟩, s8)) := by
    unfold Hid
    rw [← hCC]
    unfold Rs.master
    simp only [hn0, hn1, hn2, hn3, hn4, hn5, hn6, hn7]
  have HN0 : Hid _ := hn0
  have HN1 : Hid _ := hn1
  have HN2 : Hid _ := hn2
  have HN3 : Hid _ := hn3
  have HN4 : Hid _ := hn4
  have HN5 : Hid _ := hn5
  have HN6 : Hid _ := hn6
  have HN7 : Hid _ := hn7
  rw [HMM.out] at HT
  simp only at HT
  clear hn0 hn1 hn2 hn3 hn4 hn5 hn6 hn7 hCC HMM hs tk0 ba0 tn0 hin
  go_enter Try.func34, Try.ntmps34
  go_wp2_with fail
  refine (num_tk H0.out).mono ?_
  rintro e w1 ⟨rfl, h1, t1⟩
  rw [HN0.out] at h1 ⊢
  simp only at h1 ⊢
  have hs1 : w.heap.size + 3 ≤ w1.heap.size := by have := t1.size; simp at this; omega
  have H1 : Hid (TkB [] w (w1.alloc (.cells #[.int .i64 n0, .int .i64 0, .int .i64 0, .int .i64 0, .int .i64 0, .int .i64 0, .int .i64 0, .int .i64 0] 31)) (w.heap.size + 2) (w.heap.size + 1) w.heap.size s1 w.heap.size w1.heap.size 31 #[.int .i64 0, .int .i64 0, .int .i64 0, .int .i64 0, .int .i64 0, .int .i64 0, .int .i64 0, .int .i64 0] #[.int .i64 n0, .int .i64 0, .int .i64 0, .int .i64 0, .int .i64 0, .int .i64 0, .int .i64 0, .int .i64 0]) :=
    ⟨h1.below ((Below.refl _ _).alloc (Nat.le_refl _) _), (Bk.tn HA0.out t1 (by simp)).alloc _, Bk.new _ _ _, (HT0.out.trans t1 (by simp)).alloc _, .inr (by omega), .inr (by omega), .inr (Nat.le_refl _), .inr (by omega), ⟨by omega, by omega, by omega, by omega, by omega⟩, ⟨Nat.le_refl _, by omega⟩⟩
  clear h1 t1 H0 HA0 HT0
  generalize hC : w1.heap.size = C at *
  go_wp2_with fail
  refine (numT H1.out).mono ?_
  rintro e w2 ⟨rfl, h2⟩
  rw [HN1.out] at h2 ⊢
  simp only at h2 ⊢
  go_wp2_with fail
  refine (whole_any n1 _).mono ?_
  rintro e w2b ⟨rfl, hwb⟩
  subst hwb
  have H2 : Hid (TkB [] w w2b (w.heap.size + 2) (w.heap.size + 1) w.heap.size s2 w.heap.size C 31 #[.int .i64 0, .int .i64 0, .int .i64 0, .int .i64 0, .int .i64 0, .int .i64 0, .int .i64 0, .int .i64 0] #[.int .i64 n0, .int .i64 0, .int .i64 0, .int .i64 0, .int .i64 0, .int .i64 0, .int .i64 0, .int .i64 0]) := h2
  have c2 : w2b.cell? ⟨C, 1, none⟩ = some (.int .i64 0) := h2.b.cell 1
  have f2 : w2b.frozen? ⟨C, 1, none⟩ = false := h2.b.frozen 1
  clear h2 H1
  go_wp2_with fail
  refine (numT (H2.out.set 1 _)).mono ?_
  rintro e w3 ⟨rfl, h3⟩
  rw [HN2.out] at h3 ⊢
  simp only at h3 ⊢
  go_wp2_with fail
  refine (whole_any n2 _).mono ?_
  rintro e w3b ⟨rfl, hwb⟩
  subst hwb
  have H3 : Hid (TkB [] w w3b (w.heap.size + 2) (w.heap.size + 1) w.heap.size s3 w.heap.size C 31 #[.int .i64 0, .int .i64 0, .int .i64 0, .int .i64 0, .int .i64 0, .int .i64 0, .int .i64 0, .int .i64 0] #[.int .i64 n0, .int .i64 n1, .int .i64 0, .int .i64 0, .int .i64 0, .int .i64 0, .int .i64 0, .int .i64 0]) := h3
  have c3 : w3b.cell? ⟨C, 2, none⟩ = some (.int .i64 0) := h3.b.cell 2
  have f3 : w3b.frozen? ⟨C, 2, none⟩ = false := h3.b.frozen 2
  clear h3 H2 c2 f2
  go_wp2_with fail
  refine (numT (H3.out.set 2 _)).mono ?_
  rintro e w4 ⟨rfl, h4⟩
  rw [HN3.out] at h4 ⊢
  simp only at h4 ⊢
  have H4 : Hid (TkB [] w w4 (w.heap.size + 2) (w.heap.size + 1) w.heap.size s4 w.heap.size C 31 #[.int .i64 0, .int .i64 0, .int .i64 0, .int .i64 0, .int .i64 0, .int .i64 0, .int .i64 0, .int .i64 0] #[.int .i64 n0, .int .i64 n1, .int .i64 n2, .int .i64 0, .int .i64 0, .int .i64 0, .int .i64 0, .int .i64 0]) := h4
  have c4 : w4.cell? ⟨C, 3, none⟩ = some (.int .i64 0) := h4.b.cell 3
  have f4 : w4.frozen? ⟨C, 3, none⟩ = false := h4.b.frozen 3
  clear h4 H3 c3 f3
  go_wp2_with fail
  refine (numT (H4.out.set 3 _)).mono ?_
  rintro e w5 ⟨rfl, h5⟩
  rw [HN4.out] at h5 ⊢
  simp only at h5 ⊢
  have H5 : Hid (TkB [] w w5 (w.heap.size + 2) (w.heap.size + 1) w.heap.size s5 w.heap.size C 31 #[.int .i64 0, .int .i64 0, .int .i64 0, .int .i64 0, .int .i64 0, .int .i64 0, .int .i64 0, .int .i64 0] #[.int .i64 n0, .int .i64 n1, .int .i64 n2, .int .i64 n3, .int .i64 0, .int .i64 0, .int .i64 0, .int .i64 0]) := h5
  have c5 : w5.cell? ⟨C, 4, none⟩ = some (.int .i64 0) := h5.b.cell 4
  have f5 : w5.frozen? ⟨C, 4, none⟩ = false := h5.b.frozen 4
  clear h5 H4 c4 f4
  go_wp2_with fail
  refine (numT (H5.out.set 4 _)).mono ?_
  rintro e w6 ⟨rfl, h6⟩
  rw [HN5.out] at h6 ⊢
  simp only at h6 ⊢
  go_wp2_with fail
  refine (whole_any n5 _).mono ?_
  rintro e w6b ⟨rfl, hwb⟩
  subst hwb
  have H6 : Hid (TkB [] w w6b (w.heap.size + 2) (w.heap.size + 1) w.heap.size s6 w.heap.size C 31 #[.int .i64 0, .int .i64 0, .int .i64 0, .int .i64 0, .int .i64 0, .int .i64 0, .int .i64 0, .int .i64 0] #[.int .i64 n0, .int .i64 n1, .int .i64 n2, .int .i64 n3, .int .i64 n4, .int .i64 0, .int .i64 0, .int .i64 0]) := h6
  have c6 : w6b.cell? ⟨C, 5, none⟩ = some (.int .i64 0) := h6.b.cell 5
  have f6 : w6b.frozen? ⟨C, 5, none⟩ = false := h6.b.frozen 5
  clear h6 H5 c5 f5
  go_wp2_with fail
  refine (numT (H6.out.set 5 _)).mono ?_
  rintro e w7 ⟨rfl, h7⟩
  rw [HN6.out] at h7 ⊢
  simp only at h7 ⊢
  have H7 : Hid (TkB [] w w7 (w.heap.size + 2) (w.heap.size + 1) w.heap.size s7 w.heap.size C 31 #[.int .i64 0, .int .i64 0, .int .i64 0, .int .i64 0, .int .i64 0, .int .i64 0, .int .i64 0, .int .i64 0] #[.int .i64 n0, .int .i64 n1, .int .i64 n2, .int .i64 n3, .int .i64 n4, .int .i64 n5, .int .i64 0, .int .i64 0]) := h7
  have c7 : w7.cell? ⟨C, 6, none⟩ = some (.int .i64 0) := h7.b.cell 6
  have f7 : w7.frozen? ⟨C, 6, none⟩ = false := h7.b.frozen 6
  clear h7 H6 c6 f6
  go_wp2_with fail
  refine (numT (H7.out.set 6 _)).mono ?_
  rintro e w8 ⟨rfl, h8⟩
  rw [HN7.out] at h8 ⊢
  simp only at h8 ⊢
  have H8 : Hid (TkB [] w w8 (w.heap.size + 2) (w.heap.size + 1) w.heap.size s8 w.heap.size C 31 #[.int .i64 0, .int .i64 0, .int .i64 0, .int .i64 0, .int .i64 0, .int .i64 0, .int .i64 0, .int .i64 0] #[.int .i64 n0, .int .i64 n1, .int .i64 n2, .int .i64 n3, .int .i64 n4, .int .i64 n5, .int .i64 n6, .int .i64 0]) := h8
  have c8 : w8.cell? ⟨C, 7, none⟩ = some (.int .i64 0) := h8.b.cell 7
  have f8 : w8.frozen? ⟨C, 7, none⟩ = false := h8.b.frozen 7
  clear h8 H7 c7 f7
  have H9 : Hid (TkB [] w (w8.setCell ⟨C, 7, none⟩ (.int .i64 n7)) (w.heap.size + 2) (w.heap.size + 1) w.heap.size s8 w.heap.size C 31 #[.int .i64 0, .int .i64 0, .int .i64 0, .int .i64 0, .int .i64 0, .int .i64 0, .int .i64 0, .int .i64 0] #[.int .i64 n0, .int .i64 n1, .int .i64 n2, .int .i64 n3, .int .i64 n4, .int .i64 n5, .int .i64 n6, .int .i64 n7]) := H8.out.set 7 _
  go_wp2_with fail
  refine (ends_tk H9.out.tk).mono ?_
  rintro e wa ⟨rfl, h7, t7⟩
  obtain ⟨z, hz⟩ : ∃ z, s8.more = z := ⟨_, rfl⟩
  rw [hz] at h7 HT ⊢
  have ba := H9.out.step h7 t7
  have HBA : Hid (TkB [] w wa (w.heap.size + 2) (w.heap.size + 1) w.heap.size z w.heap.size C 31 #[.int .i64 0, .int .i64 0, .int .i64 0, .int .i64 0, .int .i64 0, .int .i64 0, .int .i64 0, .int .i64 0] #[.int .i64 n0, .int .i64 n1, .int .i64 n2, .int .i64 n3, .int .i64 n4, .int .i64 n5, .int .i64 n6, .int .i64 n7]) := ba
  have m0 : wa.cell? ⟨C, 0, none⟩ = some (.int .i64 n0) := ba.b.cell 0
  have m1 : wa.cell? ⟨C, 1, none⟩ = some (.int .i64 n1) := ba.b.cell 1
  have m2 : wa.cell? ⟨C, 2, none⟩ = some (.int .i64 n2) := ba.b.cell 2
  have m3 : wa.cell? ⟨C, 3, none⟩ = some (.int .i64 n3) := ba.b.cell 3
  have m4 : wa.cell? ⟨C, 4, none⟩ = some (.int .i64 n4) := ba.b.cell 4
  have m5 : wa.cell? ⟨C, 5, none⟩ = some (.int .i64 n5) := ba.b.cell 5
  have m6 : wa.cell? ⟨C, 6, none⟩ = some (.int .i64 n6) := ba.b.cell 6
  have m7 : wa.cell? ⟨C, 7, none⟩ = some (.int .i64 n7) := ba.b.cell 7
  have hCA : w.heap.size + 3 ≤ C := hs1
  clear h7 t7 ba hz H9 H8 c8 f8
  by_cases hze : z.e = 0
  · have hzb : (z.e == 0) = true := by simpa using hze
    have HE : Hid ((z.note (Rc.msE ⟨n0, n1, n2, n3, n4, n5, n6, n7⟩)).e = Rc.msE ⟨n0, n1, n2, n3, n4, n5, n6, n7⟩) := by unfold Hid Rs.note; rw [if_pos hze]
    rw [HE.out] at HT
    go_wp2_with fail
    refine (rcheckMaster_any ⟨n0, n1, n2, n3, n4, n5, n6, n7⟩ _).mono ?_
    rintro e wb ⟨rfl, hb8⟩
    have b8 := HBA.out.below hb8
    have HB8 : Hid (TkB [] w wb (w.heap.size + 2) (w.heap.size + 1) w.heap.size z w.heap.size C 31 #[.int .i64 0, .int .i64 0, .int .i64 0, .int .i64 0, .int .i64 0, .int .i64 0, .int .i64 0, .int .i64 0] #[.int .i64 n0, .int .i64 n1, .int .i64 n2, .int .i64 n3, .int .i64 n4, .int .i64 n5, .int .i64 n6, .int .i64 n7]) := b8
    clear m0 m1 m2 m3 m4 m5 m6 m7
    have m0 : wb.cell? ⟨C, 0, none⟩ = some (.int .i64 n0) := b8.b.cell 0
    have m1 : wb.cell? ⟨C, 1, none⟩ = some (.int .i64 n1) := b8.b.cell 1
    have m2 : wb.cell? ⟨C, 2, none⟩ = some (.int .i64 n2) := b8.b.cell 2
    have m3 : wb.cell? ⟨C, 3, none⟩ = some (.int .i64 n3) := b8.b.cell 3
    have m4 : wb.cell? ⟨C, 4, none⟩ = some (.int .i64 n4) := b8.b.cell 4
    have m5 : wb.cell? ⟨C, 5, none⟩ = some (.int .i64 n5) := b8.b.cell 5
    have m6 : wb.cell? ⟨C, 6, none⟩ = some (.int .i64 n6) := b8.b.cell 6
    have m7 : wb.cell? ⟨C, 7, none⟩ = some (.int .i64 n7) := b8.b.cell 7
    have k0 : wb.cell? ⟨w.heap.size, 0, none⟩ = some (.int .i64 0) := b8.a.cell 0
    have f0 : wb.frozen? ⟨w.heap.size, 0, none⟩ = false := b8.a.frozen 0
    have k1 : wb.cell? ⟨w.heap.size, 1, none⟩ = some (.int .i64 0) := b8.a.cell 1
    have f1 : wb.frozen? ⟨w.heap.size, 1, none⟩ = false := b8.a.frozen 1
    have k2 : wb.cell? ⟨w.heap.size, 2, none⟩ = some (.int .i64 0) := b8.a.cell 2
    have f2 : wb.frozen? ⟨w.heap.size, 2, none⟩ = false := b8.a.frozen 2
    have k3 : wb.cell? ⟨w.heap.size, 3, none⟩ = some (.int .i64 0) := b8.a.cell 3
    have f3 : wb.frozen? ⟨w.heap.size, 3, none⟩ = false := b8.a.frozen 3
    have k4 : wb.cell? ⟨w.heap.size, 4, none⟩ = some (.int .i64 0) := b8.a.cell 4
    have f4 : wb.frozen? ⟨w.heap.size, 4, none⟩ = false := b8.a.frozen 4
    have k5 : wb.cell? ⟨w.heap.size, 5, none⟩ = some (.int .i64 0) := b8.a.cell 5
    have f5 : wb.frozen? ⟨w.heap.size, 5, none⟩ = false := b8.a.frozen 5
    have k6 : wb.cell? ⟨w.heap.size, 6, none⟩ = some (.int .i64 0) := b8.a.cell 6
    have f6 : wb.frozen? ⟨w.heap.size, 6, none⟩ = false := b8.a.frozen 6
    have k7 : wb.cell? ⟨w.heap.size, 7, none⟩ = some (.int .i64 0) := b8.a.cell 7
    have f7 : wb.frozen? ⟨w.heap.size, 7, none⟩ = false := b8.a.frozen 7
    clear hb8 b8 HBA hze
    by_cases hc : Rc.msE ⟨n0, n1, n2, n3, n4, n5, n6, n7⟩ = 0
    · have hcb : (Rc.msE ⟨n0, n1, n2, n3, n4, n5, n6, n7⟩ != 0) = false := by simpa using hc
      rw [if_pos hc] at HT
      clear hc
      go_wp2
      try simp only [Exit.inBlock, Exit.then]
      have hk := ((((((((HB8.out.setA 0 (.int .i64 n0)).setA 1 (.int .i64 n1)).setA 2 (.int .i64 n2)).setA 3 (.int .i64 n3)).setA 4 (.int .i64 n4)).setA 5 (.int .i64 n5)).setA 6 (.int .i64 n6)).setA 7 (.int .i64 n7))
      refine bodyPost_ret (results_two (cs := [.int .i64 n0, .int .i64 n1, .int .i64 n2, .int .i64 n3, .int .i64 n4, .int .i64 n5, .int .i64 n6, .int .i64 n7]) rfl rfl ms_agg ms_size rfl hk.a) rfl ?_
      rw [HT.out]
      exact ⟨rfl, hk.tn.below (Nat.le_refl _) (by simp)⟩
    · have hcb : (Rc.msE ⟨n0, n1, n2, n3, n4, n5, n6, n7⟩ != 0) = true := by simpa using hc
      rw [if_neg hc] at HT
      clear hc
      go_wp2
      try simp only [Exit.inBlock, Exit.then]
      have hk := ((((((((HB8.out.setA 0 (.int .i64 0)).setA 1 (.int .i64 0)).setA 2 (.int .i64 0)).setA 3 (.int .i64 0)).setA 4 (.int .i64 0)).setA 5 (.int .i64 0)).setA 6 (.int .i64 0)).setA 7 (.int .i64 0))
      refine bodyPost_ret (results_two (cs := [.int .i64 0, .int .i64 0, .int .i64 0, .int .i64 0, .int .i64 0, .int .i64 0, .int .i64 0, .int .i64 0]) rfl rfl ms_agg ms_size rfl hk.a) rfl ?_
      rw [HT.out]
      exact ⟨rfl, hk.tn.below (Nat.le_refl _) (by simp)⟩
  · have hzb : (z.e == 0) = false := by simpa using hze
    have hzb2 : (z.e != 0) = true := by simpa using hze
    have HE : Hid ((z.note (Rc.msE ⟨n0, n1, n2, n3, n4, n5, n6, n7⟩)).e = z.e) := by unfold Hid Rs.note; rw [if_neg hze]
    rw [HE.out, if_neg hze] at HT
    have k0 : wa.cell? ⟨w.heap.size, 0, none⟩ = some (.int .i64 0) := HBA.out.a.cell 0
    have f0 : wa.frozen? ⟨w.heap.size, 0, none⟩ = false := HBA.out.a.frozen 0
    have k1 : wa.cell? ⟨w.heap.size, 1, none⟩ = some (.int .i64 0) := HBA.out.a.cell 1
    have f1 : wa.frozen? ⟨w.heap.size, 1, none⟩ = false := HBA.out.a.frozen 1
    have k2 : wa.cell? ⟨w.heap.size, 2, none⟩ = some (.int .i64 0) := HBA.out.a.cell 2
    have f2 : wa.frozen? ⟨w.heap.size, 2, none⟩ = false := HBA.out.a.frozen 2
    have k3 : wa.cell? ⟨w.heap.size, 3, none⟩ = some (.int .i64 0) := HBA.out.a.cell 3
    have f3 : wa.frozen? ⟨w.heap.size, 3, none⟩ = false := HBA.out.a.frozen 3
    have k4 : wa.cell? ⟨w.heap.size, 4, none⟩ = some (.int .i64 0) := HBA.out.a.cell 4
    have f4 : wa.frozen? ⟨w.heap.size, 4, none⟩ = false := HBA.out.a.frozen 4
    have k5 : wa.cell? ⟨w.heap.size, 5, none⟩ = some (.int .i64 0) := HBA.out.a.cell 5
    have f5 : wa.frozen? ⟨w.heap.size, 5, none⟩ = false := HBA.out.a.frozen 5
    have k6 : wa.cell? ⟨w.heap.size, 6, none⟩ = some (.int .i64 0) := HBA.out.a.cell 6
    have f6 : wa.frozen? ⟨w.heap.size, 6, none⟩ = false := HBA.out.a.frozen 6
    have k7 : wa.cell? ⟨w.heap.size, 7, none⟩ = some (.int .i64 0) := HBA.out.a.cell 7
    have f7 : wa.frozen? ⟨w.heap.size, 7, none⟩ = false := HBA.out.a.frozen 7
    clear hze
    go_wp2
    try simp only [Exit.inBlock, Exit.then]
    have hk := ((((((((HBA.out.setA 0 (.int .i64 0)).setA 1 (.int .i64 0)).setA 2 (.int .i64 0)).setA 3 (.int .i64 0)).setA 4 (.int .i64 0)).setA 5 (.int .i64 0)).setA 6 (.int .i64 0)).setA 7 (.int .i64 0))
    refine bodyPost_ret (results_two (cs := [.int .i64 0, .int .i64 0, .int .i64 0, .int .i64 0, .int .i64 0, .int .i64 0, .int .i64 0, .int .i64 0]) rfl rfl ms_agg ms_size rfl hk.a) rfl ?_
    rw [HT.out]
    exact ⟨rfl, hk.tn.below (Nat.le_refl _) (by simp)⟩

end Go.Proofs.Ytlfgclmgpbaenaa
