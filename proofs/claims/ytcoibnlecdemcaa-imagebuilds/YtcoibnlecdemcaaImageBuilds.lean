/- What chunks are together: the code's and the document's answers are the same, for any chunks. -/
import Derived.Test.YtcoibnlecdemcaaImBd
import Derived.Test.YtcoibnlecdemcaaImBg
import Derived.Test.YtcoibnlecdemcaaImEq
import Derived.Test.YtcoibnlecdemcaaImIn
namespace Go.Proofs.Ytcoibnlecdemcaa
open Go.ChangeShapes Go.WideShapes Go.ChangeAt Go.RowKit
open Go.ChangeMaps (open_string shut_string)
set_option linter.unusedVariables false
set_option maxRecDepth 100000

set_option maxHeartbeats 4000000 in
theorem walk_imageBuilds (p : Option Addr) (n c : Nat) (l : List Ck) (w : World) (hin : InL Ck.cells (Ck.ok w) 3 3518437208781 w p n c l) :
    Calls Try.prog 4 #[.slice p n c] w fun e w' => e = .returned (.bool true) ∧ Below w.heap.size w w' := by
  obtain ⟨f, hf⟩ := stOf_ex hin.ok
  have hcw : CkW f w p l := CkW.of (fun hl => hin.cel (by rw [← hin.lenq]; exact hl)) hf
  have hn : l.length = n := hin.lenq
  have hnn : n ≤ 3518437208781 := Nat.le_trans hin.le hin.room
  have HP : Hid (CkW f w p l) := hcw
  have h1 := build_any p n c l f w hn hcw (by omega)
  clear hcw hin hf
  go_enter Try.func4, Try.ntmps4
  go_wp2_with fail
  refine h1.mono ?_
  rintro e w1 ⟨v1, rfl, o1, b1⟩
  have HO1 : Hid (OwnS w1 w.heap.size v1 (Bl.res f l).2) := o1
  have HB1 : Hid (Below w.heap.size w w1) := b1
  have h2 := rbuild_any p n c l f w1 hn (HP.out.up b1) (by omega)
  clear h1 o1 b1
  go_wp2_with fail
  refine h2.mono ?_
  rintro e w2 ⟨v2, rfl, o2, b2⟩
  have HO2 : Hid (OwnS w2 w1.heap.size v2 (Bl.res f l).2) := o2
  have HO1b : Hid (OwnS w2 w.heap.size v1 (Bl.res f l).2) := HO1.out.below b2 (Nat.le_refl _)
  have HB2 : Hid (Below w.heap.size w w2) := HB1.out.trans (b2.mono HB1.out.size)
  clear h2 o2 b2 HO1
  go_wp2_with fail
  refine (begun_any _).mono ?_
  rintro e w3 ⟨rfl, b3⟩
  have HB3 : Hid (Below w.heap.size w w3) := HB2.out.trans (b3.mono HB2.out.size)
  obtain ⟨p1, c1, rfl, e1⟩ := OwnS.ins (HO1b.out.below b3 (Nat.le_refl _))
  obtain ⟨p2, c2, rfl, e2⟩ := OwnS.ins (HO2.out.below b3 (Nat.le_refl _))
  have h3 := equalS_any p1 p2 _ _ c1 c2 _ _ w3 e1 e2
  clear b3 e1 e2 HO1b HO2
  generalize (Bl.res f l).1 = er
  go_wp2_with fail
  refine h3.mono ?_
  rintro e w4 ⟨b, rfl, hb, b4⟩
  have hbt : b = true := by simpa using hb
  subst hbt
  have HB4 : Hid (Below w.heap.size w w4) := HB3.out.trans (b4.mono HB3.out.size)
  clear h3 b4 hb
  go_wp2
  go_ret
  exact ⟨by simp, HB4.out⟩

set_option maxRecDepth 100000 in
set_option maxHeartbeats 2000000 in
theorem lifted_imageBuilds (os : Os) (started : os.Started) (H : Type) (enc : TypeId × Value → H) :
    ReturnsInHanded {} Try.checked os 4 .any (Rows.imageBuildsSpec.pre6 enc Try.prog Try.f4 Rows.imageBuildsRow.domain false) (Rows.imageBuildsSpec.post enc Try.prog Try.f4 false true false false) := by
  refine returnsInHanded_of_change_sized (C := Try.checked) own started (by kernel_rfl) Try.func4
    (ChangeSpec.witness6 (enc := enc) (C := Try.checked) false ⟨#[], #[.slice none 0 0], []⟩ 8 (by kernel_rfl) (by kernel_rfl) (by kernel_rfl) (by kernel_rfl)) ?_
  intro W base args ds gs before hval0 hW _ hsz0 _
  have hsz : (DataW.weightsEach Try.prog (Try.f4.params.toList ++ Rows.imageBuildsSpec.plain.varTypes Try.prog) (ds ++ gs)).all (· ≤ reachBytes) = true := hsz0
  clear hsz0
  have hval : ∀ (j : Nat) t v, Try.f4.params[j]? = some t → args[j]? = some v → Value.okWide Try.prog W .any base t v := hval0
  have hW' := hW
  obtain ⟨p, q, hA0, hV, rfl, hfz, hnd⟩ := hW
  have hA : DataW.TrodAll enc Try.prog W 0 (fun _ => true) true Try.f4.params.toList args.toList ds p := hA0
  rw [Try.params4] at hA hval hsz
  obtain ⟨v0, vs0, d0, ds0, p0, q0, hargs, rfl, rfl, h0, r0⟩ := trodAll_cons hA
  obtain ⟨rfl, rfl, rfl⟩ := trodAll_nil r0
  obtain rfl : args = #[v0] := by cases args; simp_all
  obtain ⟨rfl, rfl⟩ := trodVars_none hV
  obtain ⟨a0, len0, cap0, rfl⟩ := okWide_slice Try.underlying43 (hval 0 43 v0 rfl rfl)
  have k0 := h0
  have lt0 : ∀ x ∈ p0, x.block < W.heap.size := by obtain ⟨m, hm⟩ := k0; exact DataW.trod_lt m _ _ _ hm
  obtain ⟨z0, w0⟩ : ∃ l, InL Ck.cells (Ck.ok W) 3 3518437208781 W a0 len0 cap0 l := by
    refine in_cks h0 fun n hn => ?_
    have := of_decide_eq_true (List.all_eq_true.1 hsz _ (DataW.weights_mem_each (j := 0) (t := 43) rfl rfl n hn))
    simp only [reachBytes] at this
    omega
  clear hA0 hval0
  refine (walk_imageBuilds a0 len0 cap0 z0 W w0).mono fun e W' ⟨he, bel⟩ => ?_
  subst he
  exact ⟨_, rfl, _, _, _, [], _, [], hW', trodAll_mk1 (shut_bool Try.underlying4 _), (trodAll_cons_mk (Below.trod laidOut (by kernel_rfl) (of_decide_eq_true (by kernel_rfl)) k0 bel lt0) trodAll_mk0), rfl, bel.frame _, fun h => by cases h⟩

/-- The statement. -/
theorem imageBuilds_holds : Rows.ImageBuildsSaid :=
  OpenClaim.holds_of_wide 4 Try.f4 rfl rfl rfl rfl rfl rfl rfl ⟨rfl, rfl, rfl, rfl, rfl⟩ rfl rfl rfl rfl rfl (by kernel_rfl) Try.func4 (by kernel_rfl)
    (of_decide_eq_true (by kernel_rfl)) (by unfold Func.isWrapper; first | (rw [if_pos (by decide +kernel)]; kernel_rfl) | (rw [if_neg (by decide +kernel)]; exact ⟨rfl, rfl⟩))
    (fun os started H enc _ => lifted_imageBuilds os started H enc)
#print axioms imageBuilds_holds
end Go.Proofs.Ytcoibnlecdemcaa
