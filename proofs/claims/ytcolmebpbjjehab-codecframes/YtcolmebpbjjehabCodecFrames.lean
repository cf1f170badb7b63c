/- Any bytes' frame, and what any bytes say as a frame, are the document's. -/
import Derived.Test.YtcolmebpbjjehabOpen
import Derived.Test.YtcolmebpbjjehabUnfRef
namespace Go.Proofs.Ytcolmebpbjjehab
open Go.ChangeShapes Go.WideShapes Go.ChangeAt Go.RowKit
open Go.ChangeMaps (open_string shut_string)
set_option linter.unusedVariables false

theorem decU_byte (xs : List Int) (hb : ∀ x ∈ xs, 0 ≤ x ∧ x < 256) : ∀ y ∈ (Cd.decU xs).1, 0 ≤ y ∧ y < 256 := by
  unfold Cd.decU
  repeat' split
  all_goals first
    | (intro y hy; simp at hy; done)
    | exact fun y hy => hb y (List.mem_of_mem_drop (List.mem_of_mem_take hy))

theorem frm_byte (xs : List Int) (hb : ∀ x ∈ xs, 0 ≤ x ∧ x < 256) (hl : xs.length ≤ 9223372036854775807) : ∀ y ∈ Cd.frm xs, 0 ≤ y ∧ y < 256 := by
  unfold Cd.frm
  exact app_byte (app_byte (enc_byte _ (by omega) (by omega)) hb) (Cd.be_byte _ _)

theorem frm_length (xs : List Int) (n : Nat) (hn : xs.length = n) : (Cd.frm xs).length = Cd.width n + n + 4 := by
  unfold Cd.frm
  rw [List.length_append, List.length_append, Cd.enc_length, Cd.be_length, hn]

set_option maxHeartbeats 2000000 in
theorem walk_codecFrames (p : Option Addr) (len cap : Nat) (xs : List Int) (w : World) (hin : InB 140737488351232 w p len cap xs) :
    Calls Try.prog 5 #[.slice p len cap] w fun e w' => e = .returned (.bool true) ∧ Below w.heap.size w w' := by
  have HI : Hid (InB 140737488351232 w p len cap xs) := hin
  have hle := hin.le
  have hcap := hin.room
  clear hin
  obtain ⟨D, hD⟩ : ∃ D, Cd.decU xs = D := ⟨_, rfl⟩
  have HD : Hid (Cd.decU xs = D) := hD
  have HDB : Hid (∀ y ∈ D.1, 0 ≤ y ∧ y < 256) := by rw [← hD]; exact decU_byte xs HI.out.byte
  clear hD
  obtain ⟨d1, d2, d3⟩ := D
  simp only at HDB
  by_cases hlong : 1048576 < len
  · go_enter Try.func5, Try.ntmps5
    go_wp2_with fail
    refine (frame_long p cap len _ hlong (by omega)).mono ?_
    rintro e w1 ⟨rfl, hw1⟩
    subst hw1
    go_wp2_with fail
    refine (refFrame_long p cap len _ hlong (by omega)).mono ?_
    rintro e w2 ⟨rfl, hw2⟩
    subst hw2
    have HI2 := HI
    have HX2 : Hid (Bys w2 none []) := Bys.nil _ _
    have HXL : Hid (([] : List Int).length = 0) := rfl
    have HXB : Hid (∀ y ∈ ([] : List Int), 0 ≤ y ∧ y < 256) := by simp [Hid]
    have HY2 := HX2
    have hbA : Below w2.heap.size w2 w2 := Below.refl _ _
    clear HI
    go_wp2_with fail
    refine (unframe_any p cap len xs _ HI2.out.lenq HI2.out.bys hle (by omega) HI2.out.byte).mono ?_
    rintro e w3 ⟨v3, rfl, HO3, hb3⟩
    rw [HD.out] at HO3 ⊢
    simp only at HO3 ⊢
    obtain ⟨p3, c3, hv3, hc3, hp3, hby3⟩ := HO3.bys
    subst hv3
    have HP3 : Hid (Bys w3 p3 d1) := hby3
    have HX3 : Hid (Bys w3 none []) := HX2.out.below hb3 (Nat.le_refl _)
    have HY3 : Hid (Bys w3 none []) := HY2.out.below hb3 (Nat.le_refl _)
    have HI3 : Hid (InB 140737488351232 w3 p len cap xs) := HI2.out.below hb3
    have hbB := hbA.trans (hb3.mono hbA.size)
    clear HO3 hp3 hby3 HX2 HY2 HI2 hb3 hbA
    go_wp2_with fail
    refine (refUnframe_any p cap len xs _ HI3.out.lenq HI3.out.bys hle (by omega) HI3.out.byte).mono ?_
    rintro e w4 ⟨v4, rfl, HO4, hb4⟩
    rw [HD.out] at HO4 ⊢
    simp only at HO4 ⊢
    obtain ⟨p4, c4, hv4, hc4, hp4, hby4⟩ := HO4.bys
    subst hv4
    have HP4 : Hid (Bys w4 p4 d1) := hby4
    have HQ4 : Hid (Bys w4 p3 d1) := HP3.out.below hb4 (Nat.le_refl _)
    have HX4 : Hid (Bys w4 none []) := HX3.out.below hb4 (Nat.le_refl _)
    have HY4 : Hid (Bys w4 none []) := HY3.out.below hb4 (Nat.le_refl _)
    have hbC := hbB.trans (hb4.mono hbB.size)
    clear HO4 hp4 hby4 HP3 HX3 HY3 HI3 hb4 hbB
    go_wp2_with fail
    refine (live_any _).mono ?_
    rintro e w5 ⟨rfl, hb5⟩
    have HP5 : Hid (Bys w5 p4 d1) := HP4.out.below hb5 (Nat.le_refl _)
    have HQ5 : Hid (Bys w5 p3 d1) := HQ4.out.below hb5 (Nat.le_refl _)
    have HX5 : Hid (Bys w5 none []) := HX4.out.below hb5 (Nat.le_refl _)
    have HY5 : Hid (Bys w5 none []) := HY4.out.below hb5 (Nat.le_refl _)
    have hbD := hbC.trans (hb5.mono hbC.size)
    clear HP4 HQ4 HX4 HY4 hb5 hbC
    go_wp2_with fail
    refine (equal_any none none 0 0 0 0 [] [] _ HXL.out HXL.out HX5.out HY5.out HXB.out HXB.out).mono ?_
    rintro e w6 ⟨rfl, hw6⟩
    subst hw6
    simp only [decide_true]
    go_wp2_with fail
    refine (equal_any p3 p4 c3 c4 _ _ d1 d1 _ rfl rfl HQ5.out HP5.out HDB.out HDB.out).mono ?_
    rintro e w7 ⟨rfl, hw7⟩
    subst hw7
    simp only [decide_true]
    go_wp2
    go_ret
    exact ⟨by simp, hbD⟩
  · have hshort : len ≤ 1048576 := by omega
    clear hlong
    obtain ⟨X, hX⟩ : ∃ X, Cd.frm xs = X := ⟨_, rfl⟩
    have HX : Hid (Cd.frm xs = X) := hX
    have HXB : Hid (∀ y ∈ X, 0 ≤ y ∧ y < 256) := by rw [← hX]; exact frm_byte xs HI.out.byte (by have := HI.out.lenq; omega)
    have HXL : Hid (X.length = Cd.width len + len + 4) := by rw [← hX]; exact frm_length xs len HI.out.lenq
    clear hX
    go_enter Try.func5, Try.ntmps5
    go_wp2_with fail
    refine (frame_any p cap len xs _ HI.out.lenq HI.out.bys HI.out.nil hshort HI.out.byte).mono ?_
    rintro e w1 ⟨v1, rfl, HO1, hb1⟩
    rw [HX.out] at HO1
    obtain ⟨p1, c1, hv1, hc1, hp1, hby1⟩ := HO1.bys
    subst hv1
    have HX1 : Hid (Bys w1 p1 X) := hby1
    have HI1 : Hid (InB 140737488351232 w1 p len cap xs) := HI.out.below hb1
    clear HO1 hp1 hby1 HI
    go_wp2_with fail
    refine (refFrame_any p cap len xs _ HI1.out.lenq HI1.out.bys HI1.out.nil hshort HI1.out.byte).mono ?_
    rintro e w2 ⟨v2, rfl, HO2, hb2⟩
    rw [HX.out] at HO2
    obtain ⟨p2, c2, hv2, hc2, hp2, hby2⟩ := HO2.bys
    subst hv2
    have HY2 : Hid (Bys w2 p2 X) := hby2
    have HX2 : Hid (Bys w2 p1 X) := HX1.out.below hb2 (Nat.le_refl _)
    have HI2 : Hid (InB 140737488351232 w2 p len cap xs) := HI1.out.below hb2
    have hbA := hb1.trans (hb2.mono hb1.size)
    clear HO2 hp2 hby2 HI1 HX1 hb1 hb2
    go_wp2_with fail
    refine (unframe_any p cap len xs _ HI2.out.lenq HI2.out.bys hle (by omega) HI2.out.byte).mono ?_
    rintro e w3 ⟨v3, rfl, HO3, hb3⟩
    rw [HD.out] at HO3 ⊢
    simp only at HO3 ⊢
    obtain ⟨p3, c3, hv3, hc3, hp3, hby3⟩ := HO3.bys
    subst hv3
    have HP3 : Hid (Bys w3 p3 d1) := hby3
    have HX3 : Hid (Bys w3 p1 X) := HX2.out.below hb3 (Nat.le_refl _)
    have HY3 : Hid (Bys w3 p2 X) := HY2.out.below hb3 (Nat.le_refl _)
    have HI3 : Hid (InB 140737488351232 w3 p len cap xs) := HI2.out.below hb3
    have hbB := hbA.trans (hb3.mono hbA.size)
    clear HO3 hp3 hby3 HX2 HY2 HI2 hb3 hbA
    go_wp2_with fail
    refine (refUnframe_any p cap len xs _ HI3.out.lenq HI3.out.bys hle (by omega) HI3.out.byte).mono ?_
    rintro e w4 ⟨v4, rfl, HO4, hb4⟩
    rw [HD.out] at HO4 ⊢
    simp only at HO4 ⊢
    obtain ⟨p4, c4, hv4, hc4, hp4, hby4⟩ := HO4.bys
    subst hv4
    have HP4 : Hid (Bys w4 p4 d1) := hby4
    have HQ4 : Hid (Bys w4 p3 d1) := HP3.out.below hb4 (Nat.le_refl _)
    have HX4 : Hid (Bys w4 p1 X) := HX3.out.below hb4 (Nat.le_refl _)
    have HY4 : Hid (Bys w4 p2 X) := HY3.out.below hb4 (Nat.le_refl _)
    have hbC := hbB.trans (hb4.mono hbB.size)
    clear HO4 hp4 hby4 HP3 HX3 HY3 HI3 hb4 hbB
    go_wp2_with fail
    refine (live_any _).mono ?_
    rintro e w5 ⟨rfl, hb5⟩
    have HP5 : Hid (Bys w5 p4 d1) := HP4.out.below hb5 (Nat.le_refl _)
    have HQ5 : Hid (Bys w5 p3 d1) := HQ4.out.below hb5 (Nat.le_refl _)
    have HX5 : Hid (Bys w5 p1 X) := HX4.out.below hb5 (Nat.le_refl _)
    have HY5 : Hid (Bys w5 p2 X) := HY4.out.below hb5 (Nat.le_refl _)
    have hbD := hbC.trans (hb5.mono hbC.size)
    clear HP4 HQ4 HX4 HY4 hb5 hbC
    go_wp2_with fail
    refine (equal_any p1 p2 c1 c2 _ _ X X _ HXL.out HXL.out HX5.out HY5.out HXB.out HXB.out).mono ?_
    rintro e w6 ⟨rfl, hw6⟩
    subst hw6
    simp only [decide_true]
    go_wp2_with fail
    refine (equal_any p3 p4 c3 c4 _ _ d1 d1 _ rfl rfl HQ5.out HP5.out HDB.out HDB.out).mono ?_
    rintro e w7 ⟨rfl, hw7⟩
    subst hw7
    simp only [decide_true]
    go_wp2
    go_ret
    exact ⟨by simp, hbD⟩

set_option maxRecDepth 100000 in
theorem lifted_codecFrames (os : Os) (started : os.Started) (H : Type) (enc : TypeId × Value → H) :
    ReturnsInHanded {} Try.checked os 5 .any (Rows.codecFramesSpec.pre6 enc Try.prog Try.f5 Rows.codecFramesRow.domain false) (Rows.codecFramesSpec.post enc Try.prog Try.f5 false true false false) := by
  refine returnsInHanded_of_change_sized (C := Try.checked) own started (by kernel_rfl) Try.func5
    (ChangeSpec.witness6 (enc := enc) (C := Try.checked) false ⟨#[], #[.slice none 0 0], []⟩ 8 (by kernel_rfl) (by kernel_rfl) (by kernel_rfl) (by kernel_rfl)) ?_
  intro W base args ds gs before hval0 hW _ hsz0 _
  have hsz : (DataW.weightsEach Try.prog (Try.f5.params.toList ++ Rows.codecFramesSpec.plain.varTypes Try.prog) (ds ++ gs)).all (· ≤ reachBytes) = true := hsz0
  clear hsz0
  have hval : ∀ (j : Nat) t v, Try.f5.params[j]? = some t → args[j]? = some v → Value.okWide Try.prog W .any base t v := hval0
  have hW' := hW
  obtain ⟨p, q, hA0, hV, rfl, hfz, hnd⟩ := hW
  have hA : DataW.TrodAll enc Try.prog W 0 (fun _ => true) true Try.f5.params.toList args.toList ds p := hA0
  rw [Try.params5] at hA hval hsz
  obtain ⟨v0, vs0, d0, ds0, p0, q0, hargs, rfl, rfl, h0, r0⟩ := trodAll_cons hA
  obtain ⟨rfl, rfl, rfl⟩ := trodAll_nil r0
  obtain rfl : args = #[v0] := by cases args; simp_all
  obtain ⟨rfl, rfl⟩ := trodVars_none hV
  obtain ⟨a0, len0, cap0, rfl⟩ := okWide_slice Try.underlying22 (hval 0 22 v0 rfl rfl)
  have k0 := h0
  have lt0 : ∀ x ∈ p0, x.block < W.heap.size := by obtain ⟨m, hm⟩ := k0; exact DataW.trod_lt m _ _ _ hm
  obtain ⟨z0, w0⟩ : ∃ zs, InB 140737488351232 W a0 len0 cap0 zs := by
    refine in_bytes h0 ?_
    intro elems spare hd
    have := sized_slice hsz (j := 0) (t := 22) (e := 5) rfl (by rw [hd]; rfl) Try.underlying22
    rw [bytes_u8] at this
    simp only [reachBytes] at this
    omega
  clear hA0 hval0
  refine (walk_codecFrames a0 len0 cap0 z0 W w0).mono fun e W' ⟨he, bel⟩ => ?_
  subst he
  exact ⟨_, rfl, _, _, _, [], _, [], hW', trodAll_mk1 (shut_bool Try.underlying4 _), (trodAll_cons_mk (Below.trod laidOut (by kernel_rfl) (of_decide_eq_true (by kernel_rfl)) k0 bel lt0) trodAll_mk0), rfl, bel.frame _, fun h => by cases h⟩

/-- The statement. -/
theorem codecFrames_holds : Rows.CodecFramesSaid :=
  OpenClaim.holds_of_wide 5 Try.f5 rfl rfl rfl rfl rfl rfl rfl ⟨rfl, rfl, rfl, rfl, rfl⟩ rfl rfl rfl rfl rfl (by kernel_rfl) Try.func5 (by kernel_rfl)
    (of_decide_eq_true (by kernel_rfl)) (by unfold Func.isWrapper; first | (rw [if_pos (by decide +kernel)]; kernel_rfl) | (rw [if_neg (by decide +kernel)]; exact ⟨rfl, rfl⟩))
    (fun os started H enc _ => lifted_codecFrames os started H enc)
#print axioms codecFrames_holds
end Go.Proofs.Ytcolmebpbjjehab
