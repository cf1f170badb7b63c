/- Each answer of an epoch is the document's, whatever a script does. -/
import Derived.Test.YtndmcjkbbedoeaaEpEq
namespace Go.Proofs.Ytndmcjkbbedoeaa
open Go.ChangeShapes Go.WideShapes Go.ChangeAt Go.RowKit
set_option linter.unusedVariables false
set_option maxRecDepth 100000

set_option maxHeartbeats 8000000 in
theorem walk_epochDoes (p : Option Addr) (len cap : Nat) (l : List Eop) (stop : Int) (w : World) (hin : InE w p len cap l) (hst : (Lit.int IntKind.i64 stop).wf = true) :
    Calls Try.prog 3 #[.slice p len cap, .int .i64 stop] w fun e w' => e = .returned (.bool true) ∧ Below w.heap.size w w' := by
  have HI : Hid (InE w p len cap l) := hin
  have hlen : len ≤ 3518437208780 := Nat.le_trans hin.le hin.room
  clear hin hst
  go_enter Try.func3, Try.ntmps3
  go_wp2_with fail
  refine (new_any w).mono ?_
  rintro r w1 ⟨rfl, hE1, hb1, hs1⟩
  have HE1 : Hid (Epn w1 w.heap.size [w.heap.size] Ep.fresh) := hE1
  have HB1 : Hid (Below w.heap.size w w1 ∧ w1.heap.size = w.heap.size + 1) := ⟨hb1, hs1⟩
  clear hE1 hb1 hs1
  go_wp2_with fail
  refine (rnew_any w1).mono ?_
  rintro r w2 ⟨rfl, hR2, hb2, hs2⟩
  have HR2 : Hid (Ren w2 w1.heap.size [w1.heap.size] Ep.fresh ∧ Below w1.heap.size w1 w2) := ⟨hR2, hb2⟩
  clear hR2 hb2 hs2
  go_wp2_with fail
  refine (begun_any _).mono ?_
  rintro r w3 ⟨rfl, hb3⟩
  have HP0 : Hid (Pe w w3 w.heap.size w1.heap.size [w.heap.size] [w1.heap.size] Ep.fresh 0) := by
    have h1 := HB1.out.2
    have h2 := HR2.out.2.size
    exact {
      ep := HE1.out.below (HR2.out.2.trans (hb3.mono h2))
      re := HR2.out.1.tn (Tn.of_below hb3 []) (by simp)
      dj := by simp; omega
      lb := by simp
      lr := by simp; omega
      below := HB1.out.1.trans ((HR2.out.2.trans (hb3.mono h2)).mono (by omega))
      le := ⟨Nat.le_refl _, Nat.le_refl _⟩ }
  clear hb3 HE1 HB1 HR2
  obtain ⟨R, hR⟩ : ∃ R, w1.heap.size = R := ⟨_, rfl⟩
  rw [hR] at HP0 ⊢
  clear hR
  go_wp2_with fail
  go_loopw [5, 20] (fun ev iv wr => ∃ (j B : Nat) (bs rs : List Nat) (e : Ep), j ≤ len ∧ iv = .int .i64 j ∧ ev = .pointer (some ⟨B, 0, none⟩) ∧ Hid (Pe w wr B R bs rs e j)) (fun _ iv _ => len - (intOf iv).toNat)
  case atStart => exact ⟨0, _, _, _, _, Nat.zero_le _, rfl, rfl, HP0⟩
  case round =>
    obtain ⟨j, B, bs, rs, e, hj, rfl, rfl, HP⟩ := hrel
    by_cases hlt : j < len
    · have hli : (j : Int) < (len : Int) := by omega
      obtain ⟨b, o, g, rfl, hg, hok, hb, c0, c1, c2, c3, c4⟩ := (HI.out.up HP.out.below).at hlt
      obtain ⟨wo, hwo, hto, hso, d0, d1, d2, d3, d4⟩ := op_box wr g
      have HPO : Hid (Pe w wo B R bs rs e j) := HP.out.still hto (Nat.le_refl _)
      clear hg hok hb hto hso
      go_wp2_with fail
      refine (step_any HPO.out g (by omega)).mono ?_
      rintro r w4 ⟨B4, bs4, rs4, e4, rfl, hP4⟩
      have HP4 : Hid (Pe w w4 B4 R bs4 rs4 e4 (j + 1)) := hP4
      obtain ⟨vs4, -, hI4⟩ := hP4.ep
      obtain ⟨v4, at4, -, hR4⟩ := hP4.re
      have HB : Hid (e4.now ≤ 4611686018427387904 ∧ e4.old.length + e4.cur.length ≤ 3600000000000) := by
        have h1 := hP4.le.now
        have h2 := hP4.le.len
        exact ⟨by omega, by omega⟩
      have HI4 : Hid (∀ k, IsEp (w4.drewN k) B4 vs4 e4) := fun k => hI4.tn (tn_drewN _ _) (by simp)
      have hn1 := hI4.n1
      have r0 := hR4.cNow
      have r1 := hR4.cLim
      obtain ⟨q, cq, hv, -⟩ := row_form hR4.row
      subst hv
      rw [Ep.limbo_length] at r1
      clear hI4 hR4 hP4
      go_wp2_with fail
      go_region_held3 (fun w' => w'.cell? ⟨R, 0, none⟩ = some (.int .i64 (e4.now : Int)) ∧ w'.cell? ⟨R, 35, none⟩ = some (.slice q (e4.old.length + e4.cur.length) cq)) (go_keep) (first
        | (go_at_call 12; refine (now_any (HI4.out 1).cNow hn1).mono ?_; rintro r w2 ⟨rfl, rfl⟩)
        | (go_at_call 13; refine (waiting_any (HI4.out 1) HB.out.1 HB.out.2).mono ?_; rintro r w2 ⟨rfl, k2, rfl⟩))
      have HP5 : Hid (Pe w (w4.drewN (1 + k2)) B4 R bs4 rs4 e4 (j + 1)) := HP4.out.still (tn_drewN _ _) (Nat.le_refl _)
      go_wp2
      go_roundw
      case rel => exact ⟨j + 1, B4, bs4, rs4, e4, by omega, by go_num, rfl, HP5⟩
      case measure => simp [intOf]; omega
    · have hli : ¬ (j : Int) < (len : Int) := by omega
      have HB : Hid (e.now ≤ 4611686018427387904 ∧ e.old.length + e.cur.length ≤ 3600000000000) := by
        have h1 := HP.out.le.now
        have h2 := HP.out.le.len
        exact ⟨by omega, by omega⟩
      go_wp2_with fail
      refine (equal_any HP.out.ep HP.out.re HB.out stop).mono ?_
      rintro r w5 ⟨rfl, hb5⟩
      have HF : Hid (Below w.heap.size w w5) := HP.out.below.trans (hb5.mono HP.out.below.size)
      clear hb5
      go_wp2
      go_ret
      exact ⟨rfl, HF.out⟩


set_option maxRecDepth 100000 in
set_option maxHeartbeats 2000000 in
theorem lifted_epochDoes (os : Os) (started : os.Started) (H : Type) (enc : TypeId × Value → H) :
    ReturnsInHanded {} Try.checked os 3 .any (Rows.epochDoesSpec.pre6 enc Try.prog Try.f3 Rows.epochDoesRow.domain false) (Rows.epochDoesSpec.post enc Try.prog Try.f3 false true false false) := by
  refine returnsInHanded_of_change_sized (C := Try.checked) own started (by kernel_rfl) Try.func3
    (ChangeSpec.witness6 (enc := enc) (C := Try.checked) false ⟨#[], #[.slice none 0 0, .int .i64 0], []⟩ 8 (by kernel_rfl) (by kernel_rfl) (by kernel_rfl) (by kernel_rfl)) ?_
  intro W base args ds gs before hval0 hW _ hsz0 _
  have hsz : (DataW.weightsEach Try.prog (Try.f3.params.toList ++ Rows.epochDoesSpec.plain.varTypes Try.prog) (ds ++ gs)).all (· ≤ reachBytes) = true := hsz0
  clear hsz0
  have hval : ∀ (j : Nat) t v, Try.f3.params[j]? = some t → args[j]? = some v → Value.okWide Try.prog W .any base t v := hval0
  have hW' := hW
  obtain ⟨p, q, hA0, hV, rfl, hfz, hnd⟩ := hW
  have hA : DataW.TrodAll enc Try.prog W 0 (fun _ => true) true Try.f3.params.toList args.toList ds p := hA0
  rw [Try.params3] at hA hval hsz
  obtain ⟨v0, vs0, d0, ds0, p0, q0, hargs, rfl, rfl, h0, r0⟩ := trodAll_cons hA
  obtain ⟨v1, vs1, d1, ds1, p1, q1, rfl, rfl, rfl, h1, r1⟩ := trodAll_cons r0
  obtain ⟨rfl, rfl, rfl⟩ := trodAll_nil r1
  obtain rfl : args = #[v0, v1] := by cases args; simp_all
  obtain ⟨rfl, rfl⟩ := trodVars_none hV
  obtain ⟨a0, len0, cap0, rfl⟩ := okWide_slice Try.underlying22 (hval 0 22 v0 rfl rfl)
  have k0 := h0
  have lt0 : ∀ x ∈ p0, x.block < W.heap.size := by obtain ⟨m, hm⟩ := k0; exact DataW.trod_lt m _ _ _ hm
  obtain ⟨z0, w0⟩ : ∃ l, InE W a0 len0 cap0 l := by
    refine in_eops h0 fun n hn => ?_
    have := of_decide_eq_true (List.all_eq_true.1 hsz _ (DataW.weights_mem_each (j := 0) (t := 22) rfl rfl n hn))
    simp only [reachBytes] at this
    omega
  obtain ⟨a1, rfl, rfl, rfl, w1⟩ := open_int Try.underlying3 (hval 1 3 v1 rfl rfl) h1
  clear hA0 hval0
  refine (walk_epochDoes a0 len0 cap0 z0 a1 W w0 w1).mono fun e W' ⟨he, bel⟩ => ?_
  subst he
  exact ⟨_, rfl, _, _, _, [], _, [], hW', trodAll_mk1 (shut_bool Try.underlying4 _), (trodAll_cons_mk (Below.trod laidOut (by kernel_rfl) (of_decide_eq_true (by kernel_rfl)) k0 bel lt0) (trodAll_cons_mk (shut_int Try.underlying3 w1) trodAll_mk0)), rfl, bel.frame _, fun h => by cases h⟩

/-- The statement. -/
theorem epochDoes_holds : Rows.EpochDoesSaid :=
  OpenClaim.holds_of_wide 3 Try.f3 rfl rfl rfl rfl rfl rfl rfl ⟨rfl, rfl, rfl, rfl, rfl⟩ rfl rfl rfl rfl rfl (by kernel_rfl) Try.func3 (by kernel_rfl)
    (of_decide_eq_true (by kernel_rfl)) (by unfold Func.isWrapper; first | (rw [if_pos (by decide +kernel)]; kernel_rfl) | (rw [if_neg (by decide +kernel)]; exact ⟨rfl, rfl⟩))
    (fun os started H enc _ => lifted_epochDoes os started H enc)
#print axioms epochDoes_holds
end Go.Proofs.Ytndmcjkbbedoeaa
