/- What waits was retired in this epoch or the one ahead of it, whatever a script does. -/
import Derived.Test.YtndmcjkbbedoeaaEpSc
namespace Go.Proofs.Ytndmcjkbbedoeaa
open Go.ChangeShapes Go.WideShapes Go.ChangeAt Go.RowKit
set_option linter.unusedVariables false
set_option maxRecDepth 100000

set_option maxHeartbeats 8000000 in
theorem walk_epochAges (p : Option Addr) (len cap : Nat) (l : List Eop) (w : World) (hin : InE w p len cap l) :
    Calls Try.prog 5 #[.slice p len cap] w fun e w' => e = .returned (.bool true) ∧ Below w.heap.size w w' := by
  have HI : Hid (InE w p len cap l) := hin
  have hlen : len ≤ 3518437208780 := Nat.le_trans hin.le hin.room
  clear hin
  go_enter Try.func5, Try.ntmps5
  go_wp2_with fail
  refine (new_any w).mono ?_
  rintro r w1 ⟨rfl, hE1, hb1, hs1⟩
  have HE1 : Hid (Epn w1 w.heap.size [w.heap.size] Ep.fresh) := hE1
  have HB1 : Hid (Below w.heap.size w w1) := hb1
  clear hE1 hb1 hs1
  go_wp2_with fail
  refine (begun_any _).mono ?_
  rintro r w2 ⟨rfl, hb2⟩
  have HS2 : Hid (Sc w w2 w.heap.size 0 [w.heap.size] Ep.fresh) := ⟨HE1.out.below hb2, by simp, HB1.out.trans (hb2.mono HB1.out.size), ⟨Nat.le_refl _, Nat.le_refl _⟩⟩
  clear hb2 HE1 HB1
  go_wp2_with fail
  go_loopw [15] (fun iv wr => ∃ (j : Nat) (bs : List Nat) (e : Ep), j ≤ len ∧ iv = .int .i64 j ∧ Hid (Sc w wr w.heap.size j bs e)) (fun iv _ => len - (intOf iv).toNat)
  case atStart => exact ⟨0, _, _, Nat.zero_le _, rfl, HS2.out⟩
  case round =>
    obtain ⟨j, bs, e, hj, rfl, HS⟩ := hrel
    by_cases hlt : j < len
    · have hli : (j : Int) < (len : Int) := by omega
      obtain ⟨b, o, g, rfl, hg, hok, hb, c0, c1, c2, c3, c4⟩ := (HI.out.up HS.out.below).at hlt
      obtain ⟨wo, hwo, hto, hso, d0, d1, d2, d3, d4⟩ := op_box wr g
      have HTO : Hid (Tn [] wr wo) := hto
      have HEO : Hid (Epn wo w.heap.size bs e) := HS.out.ep.tn hto (by simp)
      have HN : Hid (e.now ≤ 4611686018427387904 ∧ e.cur.length ≤ 3600000000000) := by
        have h1 := HS.out.le.now
        have h2 := HS.out.le.len
        exact ⟨by omega, by omega⟩
      have HY : Hid (∀ w' (e' : Ep), EpT wo w' w.heap.size bs e' → e'.Le (j + 1) (j + 1) → Calls Try.prog 19 #[.pointer (some ⟨w.heap.size, 0, none⟩)] w' fun r w'' => r = .returned (.bool true) ∧ ∃ bs', Hid (Sc w w'' w.heap.size (j + 1) bs' e')) := fun w' e' hT hl => by
        obtain ⟨bs', hS⟩ := HS.out.step HTO.out hT hl
        refine (young_any hS.ep (by have := hl.now; omega) (by have := hl.len; omega)).mono ?_
        rintro r w'' ⟨rfl, hb⟩
        exact ⟨rfl, bs', hS.still (Tn.of_below hb []) (Nat.le_refl _)⟩
      clear hg hok hb hto hso
      by_cases h0 : g.dd = 0
      · rw [h0] at hwo d0 c0
        clear h0
        go_wp2_with fail
        refine (pin_int HEO.out g.s).mono ?_
        rintro r w3 ⟨rfl, hT⟩
        have HT : Hid (EpT wo w3 w.heap.size bs _) := hT
        clear hT
        go_wp2_with fail
        refine (HY.out w3 _ HT.out ((HS.out.le.pinI g.s).up (by omega) (by omega))).mono ?_
        rintro r w4 ⟨rfl, bs', HS4⟩
        go_wp2
        go_roundw
        case rel => exact ⟨j + 1, bs', _, by omega, by go_num, HS4⟩
        case measure => simp [intOf]; omega
      · by_cases h1 : g.dd = 1
        · rw [h1] at hwo d0 c0
          clear h1 h0
          go_wp2_with fail
          refine (unpin_int HEO.out g.s).mono ?_
          rintro r w3 ⟨rfl, hT⟩
          have HT : Hid (EpT wo w3 w.heap.size bs _) := hT
          clear hT
          go_wp2_with fail
          refine (HY.out w3 _ HT.out ((HS.out.le.unpinI g.s).up (by omega) (by omega))).mono ?_
          rintro r w4 ⟨rfl, bs', HS4⟩
          go_wp2
          go_roundw
          case rel => exact ⟨j + 1, bs', _, by omega, by go_num, HS4⟩
          case measure => simp [intOf]; omega
        · by_cases h2 : g.dd = 2
          · rw [h2] at hwo d0 c0
            clear h2 h0 h1
            go_wp2_with fail
            refine (retire_any HEO.out g.x HN.out.2).mono ?_
            rintro r w3 ⟨rfl, hT⟩
            have HT : Hid (EpT wo w3 w.heap.size bs _) := hT
            clear hT
            go_wp2_with fail
            refine (HY.out w3 _ HT.out ((HS.out.le.retire g.x).up (by omega) (by omega))).mono ?_
            rintro r w4 ⟨rfl, bs', HS4⟩
            go_wp2
            go_roundw
            case rel => exact ⟨j + 1, bs', _, by omega, by go_num, HS4⟩
            case measure => simp [intOf]; omega
          · by_cases h3 : g.dd = 3
            · rw [h3] at hwo d0 c0
              clear h3 h0 h1 h2
              go_wp2_with fail
              refine (adv_int HEO.out HN.out.1).mono ?_
              rintro r w3 ⟨v, er, rfl, hT⟩
              have HT : Hid (EpT wo w3 w.heap.size bs _) := hT
              clear hT
              go_wp2_with fail
              refine (HY.out w3 _ HT.out ((HS.out.le.adv).up (by omega) (by omega))).mono ?_
              rintro r w4 ⟨rfl, bs', HS4⟩
              go_wp2
              go_roundw
              case rel => exact ⟨j + 1, bs', _, by omega, by go_num, HS4⟩
              case measure => simp [intOf]; omega
            · have q0 : (g.dd == 0) = false := by simp [h0]
              have q1 : (g.dd == 1) = false := by simp [h1]
              have q2 : (g.dd == 2) = false := by simp [h2]
              have q3 : (g.dd == 3) = false := by simp [h3]
              generalize g.dd = dd at *
              go_wp2_with fail
              refine (HY.out wo _ (EpT.refl HEO.out) ((HS.out.le).up (by omega) (by omega))).mono ?_
              rintro r w4 ⟨rfl, bs', HS4⟩
              go_wp2
              go_roundw
              case rel => exact ⟨j + 1, bs', _, by omega, by go_num, HS4⟩
              case measure => simp [intOf]; omega
    · have hli : ¬ (j : Int) < (len : Int) := by omega
      have HB : Hid (Below w.heap.size w wr) := HS.out.below
      go_wp2
      go_ret
      exact ⟨rfl, HB.out⟩


set_option maxRecDepth 100000 in
set_option maxHeartbeats 2000000 in
theorem lifted_epochAges (os : Os) (started : os.Started) (H : Type) (enc : TypeId × Value → H) :
    ReturnsInHanded {} Try.checked os 5 .any (Rows.epochAgesSpec.pre6 enc Try.prog Try.f5 Rows.epochAgesRow.domain false) (Rows.epochAgesSpec.post enc Try.prog Try.f5 false true false false) := by
  refine returnsInHanded_of_change_sized (C := Try.checked) own started (by kernel_rfl) Try.func5
    (ChangeSpec.witness6 (enc := enc) (C := Try.checked) false ⟨#[], #[.slice none 0 0], []⟩ 8 (by kernel_rfl) (by kernel_rfl) (by kernel_rfl) (by kernel_rfl)) ?_
  intro W base args ds gs before hval0 hW _ hsz0 _
  have hsz : (DataW.weightsEach Try.prog (Try.f5.params.toList ++ Rows.epochAgesSpec.plain.varTypes Try.prog) (ds ++ gs)).all (· ≤ reachBytes) = true := hsz0
  clear hsz0
  have hval : ∀ (j : Nat) t v, Try.f5.params[j]? = some t → args[j]? = some v → Value.okWide Try.prog W .any base t v := hval0
  have hW' := hW
  obtain ⟨p, q, hA0, hV, rfl, hfz, hnd⟩ := hW
  have hA : DataW.TrodAll enc Try.prog W 0 (fun _ => true) true Try.f5.params.toList args.toList ds p := hA0
  rw [Try.params5] at hA hval hsz
  obtain ⟨v0, vs0, d0, ds0, p0, q0, hargs, rfl, rfl, h0, r0⟩ := trodAll_cons hA
  obtain ⟨rfl, rfl, rfl⟩ := trodAll_nil r0
  obtain rfl : args = #[v0] := by cases args; simp_all
  obtain ⟨rfl, rfl⟩ := trodVars_none hV
  obtain ⟨a0, len0, cap0, rfl⟩ := okWide_slice Try.underlying22 (hval 0 22 v0 rfl rfl)
  have k0 := h0
  have lt0 : ∀ x ∈ p0, x.block < W.heap.size := by obtain ⟨m, hm⟩ := k0; exact DataW.trod_lt m _ _ _ hm
  obtain ⟨z0, w0⟩ : ∃ l, InE W a0 len0 cap0 l := by
    refine in_eops h0 fun n hn => ?_
    have := of_decide_eq_true (List.all_eq_true.1 hsz _ (DataW.weights_mem_each (j := 0) (t := 22) rfl rfl n hn))
    simp only [reachBytes] at this
    omega
  clear hA0 hval0
  refine (walk_epochAges a0 len0 cap0 z0 W w0).mono fun e W' ⟨he, bel⟩ => ?_
  subst he
  exact ⟨_, rfl, _, _, _, [], _, [], hW', trodAll_mk1 (shut_bool Try.underlying4 _), (trodAll_cons_mk (Below.trod laidOut (by kernel_rfl) (of_decide_eq_true (by kernel_rfl)) k0 bel lt0) trodAll_mk0), rfl, bel.frame _, fun h => by cases h⟩

/-- The statement. -/
theorem epochAges_holds : Rows.EpochAgesSaid :=
  OpenClaim.holds_of_wide 5 Try.f5 rfl rfl rfl rfl rfl rfl rfl ⟨rfl, rfl, rfl, rfl, rfl⟩ rfl rfl rfl rfl rfl (by kernel_rfl) Try.func5 (by kernel_rfl)
    (of_decide_eq_true (by kernel_rfl)) (by unfold Func.isWrapper; first | (rw [if_pos (by decide +kernel)]; kernel_rfl) | (rw [if_neg (by decide +kernel)]; exact ⟨rfl, rfl⟩))
    (fun os started H enc _ => lifted_epochAges os started H enc)
#print axioms epochAges_holds
end Go.Proofs.Ytndmcjkbbedoeaa
