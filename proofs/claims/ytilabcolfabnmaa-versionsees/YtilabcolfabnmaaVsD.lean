/- Which versions may be: the document's Check. -/
import Derived.Test.YtilabcolfabnmaaVsC
namespace Go.Proofs.Ytilabcolfabnmaa
open Go.RowKit Go.Sort
set_option linter.unusedVariables false
set_option maxRecDepth 100000

theorem Vr.fits_le {x : Vs} (h : Vr.fits x = true) : x.ts < 1099511627777 := by
  unfold Vr.fits at h
  simp only [Bool.and_eq_true, decide_eq_true_eq] at h
  omega

set_option maxHeartbeats 4000000 in
theorem dcheck_any (p : Option Addr) (n c : Nat) (l : List Vs) (w : World) (hn : l.length = n) (hx : Vrs w p l) (ho : Vr.Okl l) (hl : n ≤ 4611686018427387904) :
    Calls Try.prog 18 #[.slice p n c] w fun e w' => e = .returned (.int .i64 (Vr.check l)) ∧ Below w.heap.size w w' := by
  by_cases hbig : 1024 < n
  · have HC : Hid (Vr.check l = 3) := by unfold Hid Vr.check; rw [hn, if_pos hbig]
    have hbi : (1024 : Int) < (n : Int) := by omega
    clear hx hn ho
    go_enter Try.func18, Try.ntmps18
    go_wp2
    go_ret
    exact ⟨by rw [HC.out]; rfl, Below.refl _ _⟩
  · have HC : Hid (Vr.check l = Vr.chk (Vr.ahead l 0) (l.drop 0)) := Vr.check_of (by omega)
    have hbi : ¬ (1024 : Int) < (n : Int) := by omega
    have HX : Hid (Vrs w p l) := hx
    have HN : Hid (l.length = n) := hn
    have HO : Hid (Vr.Okl l) := ho
    clear hx hn ho
    go_enter Try.func18, Try.ntmps18
    go_wp2_with fail
    go_loopw [3] (fun i wr => ∃ k : Nat, k ≤ n ∧ i = .int .i64 k ∧ Hid (Below w.heap.size w wr) ∧ Hid (Vr.check l = Vr.chk (Vr.ahead l k) (l.drop k))) (fun i _ => n - (intOf i).toNat)
    case atStart => exact ⟨0, Nat.zero_le _, rfl, Below.refl _ _, HC⟩
    case round =>
      obtain ⟨k, hk, rfl, HW, HE⟩ := hrel
      by_cases hlt : k < n
      · have hli : (k : Int) < (n : Int) := by omega
        obtain ⟨b, o, x, rfl, hg, c0, c1, c2⟩ := Vrs.cells (Els.below HX.out HW.out (Nat.le_refl _)) (j := k) (by have := HN.out; omega)
        have hsz := HO.out k x hg
        have HS : Hid (Vr.chk (Vr.ahead l k) (l.drop k) = if (Vr.fits x && decide (x.ts < Vr.ahead l k)) = true then Vr.chk (Vr.ahead l (k + 1)) (l.drop (k + 1)) else 151) := Vr.chk_drop hg
        have HBX : Hid (∀ w', Below wr.heap.size wr w' → Below w.heap.size w w') := fun w' hb => HW.out.trans (hb.mono HW.out.size)
        have e0 := cell_regrown c0
        have e1 := cell_regrown c1
        have e2 := cell_regrown c2
        have cE : ∀ d os, Calls Try.prog 35 #[.agg #[.int .i64 x.ts, .string x.val, .bool x.del]] (grow (redrawn wr d) os) fun e w'' => e = .returned (.bool (Vr.fits x)) ∧ ∃ p : Regrown, w'' = grow (redrawn wr p.d) p.os := fun d os => Calls.regrown_of (may_any x (grow (redrawn wr d) os) hsz)
        cases hf : Vr.fits x with
        | false =>
          rw [hf] at cE
          clear hg
          go_wp2_with fail
          refine wp_region_quiet_below (by kernel_rfl) (by kernel_rfl) ?_
          repeat (go_big_quiet_step (first | exact cE _ _))
          refine wpQuiet_nil ?_
          intro _ hw'
          obtain ⟨⟨dq, osq⟩, hw''⟩ := hw'
          subst hw''
          have HBF := HBX.out _ (below_regrown wr dq osq)
          have HB2 : Hid (Below w.heap.size w (grow (redrawn wr dq) osq)) := HBF
          go_wp2
          go_ret
          refine ⟨?_, HB2.out⟩
          rw [HE.out, HS.out, hf]
          rfl
        | true =>
          rw [hf] at cE
          cases k with
          | zero =>
            simp only [Nat.zero_mul, Nat.add_zero] at c0 c1 c2 e0 e1 e2
            have HS2 : Hid (Vr.check l = Vr.chk (Vr.ahead l (0 + 1)) (l.drop (0 + 1))) := by
              unfold Hid
              rw [HE.out, HS.out, hf, decide_eq_true (show x.ts < Vr.ahead l 0 from Vr.fits_le hf)]
              rfl
            clear hg
            go_wp2_with fail
            refine wp_region_quiet_below (by kernel_rfl) (by kernel_rfl) ?_
            repeat (go_big_quiet_step (first | exact cE _ _))
            refine wpQuiet_nil ?_
            intro _ hw'
            obtain ⟨⟨dq, osq⟩, hw''⟩ := hw'
            subst hw''
            have HBF := HBX.out _ (below_regrown wr dq osq)
            have HB2 : Hid (Below w.heap.size w (grow (redrawn wr dq) osq)) := HBF
            go_wp2
            go_roundw
            case rel => exact ⟨1, by omega, by go_num, HB2, HS2⟩
            case measure => simp [intOf]; omega
          | succ j =>
            obtain ⟨b', o', y, hb', hy, d0, d1, d2⟩ := Vrs.cells (Els.below HX.out HW.out (Nat.le_refl _)) (j := j) (by have := HN.out; omega)
            simp only [Option.some.injEq, Addr.mk.injEq, and_true] at hb'
            obtain ⟨rfl, rfl⟩ := hb'
            have hah : Vr.ahead l (j + 1) = y.ts := Vr.ahead_succ hy
            have g0 := cell_regrown d0
            have hj0 : (0 : Int) ≤ (j : Int) := by omega
            have hjn : (j : Int) < (n : Int) := by omega
            have hjd : decide ((0 : Int) < (j : Int) + 1) = true := decide_eq_true (by omega)
            have hjb : j + 1 ≤ 4611686018427387904 := by omega
            by_cases hta : x.ts < y.ts
            · have hta' : decide (y.ts ≤ x.ts) = false := decide_eq_false (by omega)
              have HS2 : Hid (Vr.check l = Vr.chk (Vr.ahead l (j + 1 + 1)) (l.drop (j + 1 + 1))) := by unfold Hid; rw [HE.out, HS.out, hf, hah, decide_eq_true hta]; rfl
              clear hg hy hah d0 d1 d2
              go_wp2_with fail
              refine wp_region_quiet_below (by kernel_rfl) (by kernel_rfl) ?_
              repeat (go_big_quiet_step (first | exact cE _ _))
              refine wpQuiet_nil ?_
              intro _ hw'
              obtain ⟨⟨dq, osq⟩, hw''⟩ := hw'
              subst hw''
              have HBF := HBX.out _ (below_regrown wr dq osq)
              have HB2 : Hid (Below w.heap.size w (grow (redrawn wr dq) osq)) := HBF
              go_wp2
              go_roundw
              case rel => exact ⟨j + 2, by omega, by go_num, HB2, HS2⟩
              case measure => simp [intOf]; omega
            · have hta' : decide (y.ts ≤ x.ts) = true := decide_eq_true (by omega)
              have HS2 : Hid (Vr.check l = 151) := by unfold Hid; rw [HE.out, HS.out, hf, hah, decide_eq_false hta]; rfl
              clear hg hy hah d0 d1 d2
              go_wp2_with fail
              refine wp_region_quiet_below (by kernel_rfl) (by kernel_rfl) ?_
              repeat (go_big_quiet_step (first | exact cE _ _))
              refine wpQuiet_nil ?_
              intro _ hw'
              obtain ⟨⟨dq, osq⟩, hw''⟩ := hw'
              subst hw''
              have HBF := HBX.out _ (below_regrown wr dq osq)
              have HB2 : Hid (Below w.heap.size w (grow (redrawn wr dq) osq)) := HBF
              go_wp2
              go_ret
              exact ⟨by rw [HS2.out]; rfl, HB2.out⟩
      · have hli : ¬ ((k : Int) < (n : Int)) := by omega
        have HS2 : Hid (Vr.check l = 0) := by
          unfold Hid
          rw [HE.out, List.drop_eq_nil_of_le (by have := HN.out; omega)]
          rfl
        go_wp2
        go_ret
        exact ⟨by rw [HS2.out]; rfl, HW.out⟩
end Go.Proofs.Ytilabcolfabnmaa
