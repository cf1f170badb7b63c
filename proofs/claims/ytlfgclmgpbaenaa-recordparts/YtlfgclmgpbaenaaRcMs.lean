/- What is wrong with a master: the code's and the document's. -/
import Derived.Test.YtlfgclmgpbaenaaRcCh
namespace Go.Proofs.Ytlfgclmgpbaenaa
open Go.RowKit
set_option linter.unusedVariables false
set_option maxRecDepth 100000

set_option maxHeartbeats 400000 in
theorem markFits_any (a b c d : Int) (w : World) : Calls Try.prog 47 #[.agg #[.int .i64 a, .int .i64 b, .int .i64 c, .int .i64 d]] w fun e w' => e = .returned (.bool (Rc.inn 0 a 1099511627776 && Rc.inn 0 b 511 && Rc.inn 0 c 1099511627776 && Rc.inn 0 d 1099511627776)) ∧ Below w.heap.size w w' := by
  have HB : Hid (Below w.heap.size w (w.alloc (.cells #[.int .i64 a, .int .i64 b, .int .i64 c, .int .i64 d] 29))) := (Below.refl _ _).alloc (Nat.le_refl _) _
  go_enter Try.func47, Try.ntmps47
  go_wp2_with fail
  refine (within_any a 0 1099511627776 _).mono ?_
  rintro e w1 ⟨rfl, rfl⟩
  cases h1 : Rc.inn 0 a 1099511627776
  · go_wp2
    go_ret
    exact ⟨by simp_all, HB.out⟩
  go_wp2_with fail
  refine (within_any b 0 511 _).mono ?_
  rintro e w1 ⟨rfl, rfl⟩
  cases h2 : Rc.inn 0 b 511
  · go_wp2
    go_ret
    exact ⟨by simp_all, HB.out⟩
  go_wp2_with fail
  refine (within_any c 0 1099511627776 _).mono ?_
  rintro e w1 ⟨rfl, rfl⟩
  cases h3 : Rc.inn 0 c 1099511627776
  · go_wp2
    go_ret
    exact ⟨by simp_all, HB.out⟩
  go_wp2_with fail
  refine (within_any d 0 1099511627776 _).mono ?_
  rintro e w1 ⟨rfl, rfl⟩
  cases h4 : Rc.inn 0 d 1099511627776
  · go_wp2
    go_ret
    exact ⟨by simp_all, HB.out⟩
  go_wp2
  go_ret
  exact ⟨by simp_all, HB.out⟩

theorem box_master (w : World) (m : Ms) : Below w.heap.size w (w.alloc (.cells m.cells.toArray 31)) := (Below.refl _ _).alloc (Nat.le_refl _) _

set_option maxHeartbeats 1000000 in
theorem checkMaster_any (m : Ms) (w : World) : Calls Try.prog 20 #[.agg m.cells.toArray] w fun e w' => e = .returned (.int .i64 (Rc.msE m)) ∧ Below w.heap.size w w' := by
  have HB : Hid (Below w.heap.size w (w.alloc (.cells m.cells.toArray 31))) := box_master w m
  have HM : Hid (Rc.msE m = if Rc.inn 1 m.seq 1099511627776 && Rc.inn 0 m.area 1 && Rc.inn 1 m.chunks 4096 && Rc.inn 0 m.ts 1099511627776 && (Rc.inn 0 m.sector 1099511627776 && Rc.inn 0 m.offset 511 && Rc.inn 0 m.number 1099511627776 && Rc.inn 0 m.run 1099511627776) then 0 else 32) := by
    unfold Hid Rc.msE
    simp only [Bool.and_assoc]
  obtain ⟨sq, ar, ch, ts, sc, of, nu, ru⟩ := m
  unfold Ms.cells at *
  simp only at HM HB
  go_enter Try.func20, Try.ntmps20
  go_wp2_with fail
  refine (within_any sq 1 1099511627776 _).mono ?_
  rintro e w1 ⟨rfl, rfl⟩
  cases h1 : Rc.inn 1 sq 1099511627776
  · rw [h1] at HM
    go_wp2
    go_ret
    exact ⟨by rw [HM.out]; rfl, HB.out⟩
  go_wp2_with fail
  refine (within_any ar 0 1 _).mono ?_
  rintro e w1 ⟨rfl, rfl⟩
  cases h2 : Rc.inn 0 ar 1
  · rw [h1, h2] at HM
    go_wp2
    go_ret
    exact ⟨by rw [HM.out]; rfl, HB.out⟩
  go_wp2_with fail
  refine (within_any ch 1 4096 _).mono ?_
  rintro e w1 ⟨rfl, rfl⟩
  cases h3 : Rc.inn 1 ch 4096
  · rw [h1, h2, h3] at HM
    go_wp2
    go_ret
    exact ⟨by rw [HM.out]; rfl, HB.out⟩
  go_wp2_with fail
  refine (within_any ts 0 1099511627776 _).mono ?_
  rintro e w1 ⟨rfl, rfl⟩
  cases h4 : Rc.inn 0 ts 1099511627776
  · rw [h1, h2, h3, h4] at HM
    go_wp2
    go_ret
    exact ⟨by rw [HM.out]; rfl, HB.out⟩
  go_wp2_with fail
  refine (markFits_any sc of nu ru _).mono ?_
  rintro e w1 ⟨rfl, hb1⟩
  have HB1 : Hid (Below w.heap.size w w1) := HB.out.trans (hb1.mono HB.out.size)
  clear hb1
  cases h5 : (Rc.inn 0 sc 1099511627776 && Rc.inn 0 of 511 && Rc.inn 0 nu 1099511627776 && Rc.inn 0 ru 1099511627776)
  · rw [h1, h2, h3, h4, h5] at HM
    go_wp2
    go_ret
    exact ⟨by rw [HM.out]; rfl, HB1.out⟩
  · rw [h1, h2, h3, h4, h5] at HM
    go_wp2
    go_ret
    exact ⟨by rw [HM.out]; rfl, HB1.out⟩

set_option maxHeartbeats 2000000 in
theorem rcheckMaster_any (m : Ms) (w : World) : Calls Try.prog 21 #[.agg m.cells.toArray] w fun e w' => e = .returned (.int .i64 (Rc.msE m)) ∧ Below w.heap.size w w' := by
  have HB : Hid (Below w.heap.size w (w.alloc (.cells m.cells.toArray 31))) := box_master w m
  have HM : Hid (Rc.msE m = if (Rc.inn 1 m.seq 1099511627776 && (Rc.inn 0 m.area 1 && (Rc.inn 1 m.chunks 4096 && (Rc.inn 0 m.ts 1099511627776 && (Rc.inn 0 m.sector 1099511627776 && (Rc.inn 0 m.offset 511 && (Rc.inn 0 m.number 1099511627776 && Rc.inn 0 m.run 1099511627776))))))) = true then 0 else 32) := by
    unfold Hid Rc.msE
    simp only [Bool.and_assoc]
  obtain ⟨sq, ar, ch, ts, sc, of, nu, ru⟩ := m
  unfold Ms.cells at *
  simp only at HM HB
  by_cases ha1 : ar < 0 ∨ 1 < ar
  · have HZ : Hid (Rc.msE ⟨sq, ar, ch, ts, sc, of, nu, ru⟩ = 32) := by
      have : Rc.inn 0 ar 1 = false := by unfold Rc.inn; simp; omega
      unfold Hid
      rw [HM.out, this]
      simp
    go_enter Try.func21, Try.ntmps21
    go_wp2_with fail
    refine (rts_any sq _).mono ?_
    rintro e w1 ⟨rfl, rfl⟩
    cases h1 : Rc.inn 1 sq 1099511627776
    · go_wp2
      go_ret
      exact ⟨by rw [HZ.out]; rfl, HB.out⟩
    · by_cases ha : ar < 0
      · clear ha1
        go_wp2
        go_ret
        exact ⟨by rw [HZ.out]; rfl, HB.out⟩
      · have ha2 : 1 < ar := by omega
        have ha3 : decide (ar < 0) = false := by simpa using ha
        clear ha1 ha
        go_wp2
        go_ret
        exact ⟨by rw [HZ.out]; rfl, HB.out⟩
  have ha3 : decide (ar < 0) = false := by simp; omega
  have ha4 : decide (1 < ar) = false := by simp; omega
  have HA : Hid (Rc.inn 0 ar 1 = true) := by unfold Hid Rc.inn; simp; omega
  clear ha1
  by_cases hc1 : ch < 1 ∨ 4096 < ch
  · have HZ : Hid (Rc.msE ⟨sq, ar, ch, ts, sc, of, nu, ru⟩ = 32) := by
      have : Rc.inn 1 ch 4096 = false := by unfold Rc.inn; simp; omega
      unfold Hid
      rw [HM.out, this]
      simp
    go_enter Try.func21, Try.ntmps21
    go_wp2_with fail
    refine (rts_any sq _).mono ?_
    rintro e w1 ⟨rfl, rfl⟩
    cases h1 : Rc.inn 1 sq 1099511627776
    · go_wp2
      go_ret
      exact ⟨by rw [HZ.out]; rfl, HB.out⟩
    · by_cases hc : ch < 1
      · clear hc1
        go_wp2
        go_ret
        exact ⟨by rw [HZ.out]; rfl, HB.out⟩
      · have hc2 : 4096 < ch := by omega
        have hc3 : decide (ch < 1) = false := by simpa using hc
        clear hc1 hc
        go_wp2
        go_ret
        exact ⟨by rw [HZ.out]; rfl, HB.out⟩
  have hc3 : decide (ch < 1) = false := by simp; omega
  have hc4 : decide (4096 < ch) = false := by simp; omega
  have HC : Hid (Rc.inn 1 ch 4096 = true) := by unfold Hid Rc.inn; simp; omega
  clear hc1
  rw [HA.out, HC.out] at HM
  go_enter Try.func21, Try.ntmps21
  go_wp2_with fail
  refine (rts_any sq _).mono ?_
  rintro e w1 ⟨rfl, rfl⟩
  cases h1 : Rc.inn 1 sq 1099511627776
  · rw [h1] at HM
    go_wp2
    go_ret
    exact ⟨by rw [HM.out]; rfl, HB.out⟩
  go_wp2_with fail
  refine (rnought_any ts _).mono ?_
  rintro e w1 ⟨rfl, rfl⟩
  cases h2 : Rc.inn 0 ts 1099511627776
  · rw [h1, h2] at HM
    go_wp2
    go_ret
    exact ⟨by rw [HM.out]; rfl, HB.out⟩
  go_wp2_with fail
  refine (rnought_any sc _).mono ?_
  rintro e w1 ⟨rfl, rfl⟩
  cases h3 : Rc.inn 0 sc 1099511627776
  · rw [h1, h2, h3] at HM
    go_wp2
    go_ret
    exact ⟨by rw [HM.out]; rfl, HB.out⟩
  go_wp2_with fail
  refine (rnought_any nu _).mono ?_
  rintro e w1 ⟨rfl, rfl⟩
  cases h4 : Rc.inn 0 nu 1099511627776
  · rw [h1, h2, h3, h4] at HM
    go_wp2
    go_ret
    exact ⟨by rw [HM.out]; simp, HB.out⟩
  go_wp2_with fail
  refine (rnought_any ru _).mono ?_
  rintro e w1 ⟨rfl, rfl⟩
  cases h5 : Rc.inn 0 ru 1099511627776
  · rw [h1, h2, h3, h4, h5] at HM
    go_wp2
    go_ret
    exact ⟨by rw [HM.out]; simp, HB.out⟩
  rw [h1, h2, h3, h4, h5] at HM
  by_cases ho : of < 0
  · have : Rc.inn 0 of 511 = false := by unfold Rc.inn; simp; omega
    rw [this] at HM
    go_wp2
    go_ret
    exact ⟨by rw [HM.out]; rfl, HB.out⟩
  have ho3 : decide (of < 0) = false := by simpa using ho
  by_cases ho4 : 512 ≤ of
  · have : Rc.inn 0 of 511 = false := by unfold Rc.inn; simp; omega
    rw [this] at HM
    clear ho
    go_wp2
    go_ret
    exact ⟨by rw [HM.out]; rfl, HB.out⟩
  · have : Rc.inn 0 of 511 = true := by unfold Rc.inn; simp; omega
    rw [this] at HM
    have ho5 : decide (512 ≤ of) = false := by simpa using ho4
    clear ho ho4
    go_wp2
    go_ret
    exact ⟨by rw [HM.out]; rfl, HB.out⟩

end Go.Proofs.Ytlfgclmgpbaenaa
