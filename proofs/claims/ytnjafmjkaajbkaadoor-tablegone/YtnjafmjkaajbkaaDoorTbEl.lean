/- Is a table the document's? -/
import Derived.Test.YtnjafmjkaajbkaaDoorTbTd
namespace Go.Proofs.YtnjafmjkaajbkaaDoor
open Go.RowKit
set_option linter.unusedVariables false
set_option maxRecDepth 100000

theorem many_live (us : List Pa) : us.length = us.countP Pa.isFree + us.countP Pa.isGone + (lv us us.length).length := by
  have key : ∀ j, j ≤ us.length → j = (us.take j).countP Pa.isFree + (us.take j).countP Pa.isGone + (lv us j).length := by
    intro j
    induction j with
    | zero => intro _; simp [lv]
    | succ j ih =>
      intro hj
      have hjl : j < us.length := by omega
      have e := ih (by omega)
      rw [List.take_add_one, List.countP_append, List.countP_append, lv_succ, List.length_append, List.getElem?_eq_getElem hjl, show us.getD j Pa.free = us[j] by simp [List.getD, hjl]]
      generalize us[j] = p
      rcases p with ⟨_ | _ | ⟨a, b, d⟩⟩
      · simp [Pa.isFree, Pa.isGone, Pa.hd]; omega
      · simp [Pa.isFree, Pa.isGone, Pa.hd]; omega
      · simp [Pa.isFree, Pa.isGone, Pa.hd]; omega
  have := key us.length (Nat.le_refl _)
  rwa [List.take_length] at this

section
variable {t : Tb} {r : Rt} {n : Nat}
theorem Rel.gone_upto (h : Rel t r n) (j : Nat) (hj : j ≤ r.st.length) : (r.st.take j).countP (fun x => decide (x = 2)) = (t.us.take j).countP Pa.isGone := by
  induction j with
  | zero => simp
  | succ j ih =>
    have hjl : j < r.st.length := by omega
    rw [List.take_add_one, List.countP_append, ih (by omega), List.take_add_one, List.countP_append, List.getElem?_eq_getElem hjl]
    have e := h.at j
    rw [show r.st.getD j 0 = r.st[j] by simp [List.getD, hjl]] at e
    rw [e]
    by_cases hu : j < t.us.length
    · rw [List.getElem?_eq_getElem hu, show t.us.getD j Pa.free = t.us[j] by simp [List.getD, hu]]
      clear e
      generalize t.us[j] = p
      rcases p with ⟨_ | _ | ⟨a, b, d⟩⟩ <;> simp [Pa.isGone, Pa.st]
    · rw [List.getElem?_eq_none (by omega), show t.us.getD j Pa.free = Pa.free by simp [List.getD, List.getElem?_eq_none (show t.us.length ≤ j by omega)]]
      simp [Pa.st]

theorem Rel.gone_many (h : Rel t r n) (ho : t.Ok) (hl : r.st.length = n) : r.st.countP (fun x => decide (x = 2)) = t.gone := by
  have := h.gone_upto r.st.length (Nat.le_refl _)
  rw [List.take_length, List.take_of_length_le (by rw [hl, ← h.size]; exact ho.le)] at this
  exact this
end

set_option maxHeartbeats 4000000 in
theorem equal_any {w : World} {B : Nat} {bs : List Nat} {t : Tb} {R g1 g2 n : Nat} {r : Rt} (h : Pr w B bs t R g1 g2 n r) (stop : Int) :
    Calls Tryd.prog 13 #[.pointer (some ⟨B, 0, none⟩), .pointer (some ⟨R, 0, none⟩), .int .i64 stop] w fun e w' => e = .returned (.bool true) ∧ Below w.heap.size w w' := by
  have HT : Hid (∀ W, Below w.heap.size w W → Tbn W B bs t) := fun W hb => (h.below hb).tb
  have HR : Hid (∀ W, Below w.heap.size w W → IsR W R g1 g2 n r) := fun W hb => (h.below hb).rf
  have HN : Hid _ := h.rel.next h.tb.ok
  have HM : Hid _ := h.rel.live_many h.tb.ok h.rf.ls
  have HG : Hid _ := h.rel.gone_many h.tb.ok h.rf.ls
  have HMI : Hid _ := h.rel.miss
  have HS : Hid _ := h.rel.size
  have HST : Hid _ := h.rel.st
  have HL : Hid ((lv t.us t.us.length).length ≤ 3600000000000) := by
    have h1 := lv_le t.us t.us.length
    have h2 := h.tb.ok.le
    have h3 := h.tb.ok.s2
    show _ ≤ _
    omega
  have HC : Hid (((t.us.length : Nat) : Int) - (t.many : Int) - (t.gone : Int) = ((lv t.us t.us.length).length : Int)) := by
    have := many_live t.us
    show _ = _
    unfold Tb.many Tb.gone
    omega
  have hn1 := h.rf.n1
  have hn2 := h.rf.n2
  clear h
  go_enter Tryd.func13, Tryd.ntmps13
  go_wp2_with fail
  refine (all_any (HT.out w (Below.refl _ _))).mono ?_
  rintro e w1 ⟨rfl, v1, v2, hL⟩
  have HB1 : Hid (Below w.heap.size w w1) := hL.below
  have HLIM : Hid (Lim w1 w.heap.size (w.heap.size + 1) (Lm.bs w v1 v2) (lv t.us t.us.length)) := hL.lim HL.out
  clear hL
  go_wp2_with fail
  refine (told_any (HR.out w1 HB1.out) HLIM.out HN.out HM.out stop).mono ?_
  rintro e w2 ⟨rfl, b2⟩
  have HB2 : Hid (Below w.heap.size w w2) := HB1.out.trans (b2.mono HB1.out.size)
  have HLIM2 : Hid (Lim w2 w.heap.size (w.heap.size + 1) (Lm.bs w v1 v2) (lv t.us t.us.length)) := HLIM.out.kp (KpP.of_below b2 HLIM.out.lt)
  clear b2
  go_wp2_with fail
  refine (told_any (HR.out w2 HB2.out) HLIM2.out HN.out HM.out 0).mono ?_
  rintro e w3 ⟨rfl, b3⟩
  have HB3 : Hid (Below w.heap.size w w3) := HB2.out.trans (b3.mono HB2.out.size)
  clear b3 HLIM HLIM2
  have HT3 : Hid (Tbn w3 B bs t) := HT.out w3 HB3.out
  have HR3 : Hid (IsR w3 R g1 g2 n r) := HR.out w3 HB3.out
  obtain ⟨mn, hmn⟩ : ∃ mn : Nat, (if (100 : Int) < (n : Int) then (100 : Int) else (n : Int)) = (mn : Int) := by
    by_cases hc : (100 : Int) < (n : Int)
    · exact ⟨100, by rw [if_pos hc]; rfl⟩
    · exact ⟨n, by rw [if_neg hc]⟩
  have hmn3 : mn ≤ 100 := by split at hmn <;> omega
  have hmin : ∀ (ts : Array TypeId) (t : TypeId) (W : World), (Builtin.min_ ts t #[.int .i64 (n : Int), .int .i64 100]).run Tryd.prog W = .ok (.int .i64 (mn : Int)) W := fun ts t W => by rw [run_min_int2, hmn]
  clear hmn
  go_wp2_with fail
  go_loopw [8] (fun iv wv => ∃ k : Nat, k ≤ mn + 3 ∧ iv = .int .i64 ((k : Int) - 1) ∧ w3 = wv) (fun iv _ => mn + 4 - (intOf iv + 1).toNat)
  case atStart => exact ⟨0, by omega, rfl, rfl⟩
  case round =>
    obtain ⟨k, hk, rfl, rfl⟩ := hrel
    go_wp2_with fail
    refine (rPages HR3.out).mono ?_
    rintro e w4 ⟨rfl, rfl⟩
    by_cases hlt : k < mn + 3
    · have hli : (k : Int) - 1 ≤ (mn : Int) + 1 := by omega
      go_wp2_with fail
      refine (tState HT3.out _).mono ?_
      rintro e w4 ⟨rfl, rfl⟩
      go_wp2_with fail
      refine (rState HR3.out _).mono ?_
      rintro e w5 ⟨rfl, rfl⟩
      rw [HST.out]
      generalize (t.pg ((k : Int) - 1)).st = y at *
      have hy : (y != y) = false := by simp
      go_wp2
      go_roundw
      case rel => exact ⟨k + 1, by omega, by go_num, by simp⟩
      case measure => simp [intOf]; omega
    · have hli : ¬ (k : Int) - 1 ≤ (mn : Int) + 1 := by omega
      go_wp2_with fail
      refine (tPages HT3.out).mono ?_
      rintro e w4 ⟨rfl, rfl⟩
      rw [HS.out]
      go_wp2_with fail
      refine (rPages HR3.out).mono ?_
      rintro e w4 ⟨rfl, rfl⟩
      have hnn : ((n : Int) == (n : Int)) = true := by simp
      go_wp2_with fail
      refine (tLive HT3.out).mono ?_
      rintro e w5 ⟨rfl, kd, hw5⟩
      rw [HC.out]
      have hb5 : Below w4.heap.size w4 w5 := by rw [hw5]; exact below_drewN (Below.refl _ _) _
      have HT5 : Hid (Tbn w5 B bs t) := HT.out w5 (HB3.out.trans (hb5.mono HB3.out.size))
      have HR5 : Hid (IsR w5 R g1 g2 n r) := HR.out w5 (HB3.out.trans (hb5.mono HB3.out.size))
      have HB5 : Hid (Below w.heap.size w w5) := HB3.out.trans (hb5.mono HB3.out.size)
      clear hb5 hw5
      go_wp2_with fail
      refine (rMany HR5.out 1).mono ?_
      rintro e w6 ⟨rfl, rfl⟩
      rw [HM.out]
      generalize (lv t.us t.us.length).length = nl at *
      have hll : ((nl : Int) == (nl : Int)) = true := by simp
      go_wp2_with fail
      refine (tGone HT5.out).mono ?_
      rintro e w7 ⟨rfl, rfl⟩
      go_wp2_with fail
      refine (rMany HR5.out 2).mono ?_
      rintro e w8 ⟨rfl, rfl⟩
      rw [HG.out]
      generalize t.gone = ng at *
      have hgg : ((ng : Int) == (ng : Int)) = true := by simp
      go_wp2_with fail
      refine (tMissed HT5.out).mono ?_
      rintro e w9 ⟨rfl, rfl⟩
      go_wp2_with fail
      refine (rMissed HR5.out).mono ?_
      rintro e w9 ⟨rfl, rfl⟩
      rw [HMI.out]
      generalize t.missed = ms at *
      have hmm : (ms == ms) = true := by simp
      go_wp2
      go_ret
      exact ⟨rfl, HB5.out⟩
end Go.Proofs.YtnjafmjkaajbkaaDoor
