/- A frame is read whatever stands behind it; a beginning of it is too short; one bit turned is found. -/
import Derived.Test.YtcolmebpbjjehabOpen
import Derived.Test.YtcolmebpbjjehabTornM
import Derived.Test.YtcolmebpbjjehabStor
import Derived.Test.YtcolmebpbjjehabAppW
namespace Go.Proofs.Ytcolmebpbjjehab
open Go.ChangeShapes Go.WideShapes Go.ChangeAt Go.RowKit
open Go.ChangeMaps (open_string shut_string)
set_option linter.unusedVariables false

theorem bys_begin {w : World} {p : Option Addr} {xs : List Int} (h : Bys w p xs) (s : Nat) (hs : s ≤ xs.length) : Bys w p (xs.take s) := by
  intro hl
  simp at hl
  obtain ⟨b, o, rfl, hc⟩ := h (by omega)
  refine ⟨b, o, rfl, fun i hi => ?_⟩
  simp at hi
  rw [hc i (by omega)]
  simp [List.getD, show i < s by omega]

theorem frm_byt (xs : List Int) (hb : ∀ x ∈ xs, 0 ≤ x ∧ x < 256) (hl : xs.length ≤ 9223372036854775807) : ∀ y ∈ Cd.frm xs, 0 ≤ y ∧ y < 256 := by
  unfold Cd.frm
  exact app_byte (app_byte (enc_byte _ (by omega) (by omega)) hb) (Cd.be_byte _ _)

theorem set_byte {xs : List Int} {j : Nat} {x : Int} (hb : ∀ x ∈ xs, 0 ≤ x ∧ x < 256) (hx : 0 ≤ x ∧ x < 256) : ∀ y ∈ xs.set j x, 0 ≤ y ∧ y < 256 := by
  intro y hy
  rcases List.mem_or_eq_of_mem_set hy with h | h
  · exact hb y h
  · rw [h]; exact hx

/-- One bit turned: another byte. -/
theorem bit_turned (y : Int) (b : Nat) (hy : 0 ≤ y ∧ y < 256) (hb : b < 8) : (0 ≤ bits .xor .u8 y (2 ^ b % 256) ∧ bits .xor .u8 y (2 ^ b % 256) < 256) ∧ bits .xor .u8 y (2 ^ b % 256) ≠ y := by
  have e : ((2 : Int) ^ b % 256) = ((2 ^ b : Nat) : Int) := by
    have h2 : 2 ^ b < 2 ^ 8 := Nat.pow_lt_pow_right (by omega) hb
    have h3 : ((2 ^ b : Nat) : Int) = (2 : Int) ^ b := by simp
    rw [← h3]
    clear h3
    generalize 2 ^ b = P at h2 ⊢
    omega
  have h2 : 2 ^ b < 2 ^ 8 := Nat.pow_lt_pow_right (by omega) hb
  have hf := Cd.flip_ne y.toNat b (by omega) hb
  generalize 2 ^ b = P at h2 hf e
  rw [e, u8_xor y _ hy.1 hy.2 (by omega) (by omega), Int.toNat_natCast]
  omega

set_option maxHeartbeats 2000000 in
theorem walk_codecTorn (p : Option Addr) (len cap : Nat) (xs : List Int) (q : Option Addr) (m d : Nat) (ys : List Int) (c : Int) (w : World) (hin : InB 140737488351232 w p len cap xs) (hin2 : InB 140737488351232 w q m d ys) (hc : (Lit.int .u16 c).wf = true) :
    Calls Try.prog 7 #[.slice p len cap, .slice q m d, .int .u16 c] w fun e w' => e = .returned (.bool true) ∧ Below w.heap.size w w' := by
  obtain ⟨c0, c1⟩ := bounds_u16 hc
  clear hc
  have HI : Hid (InB 140737488351232 w p len cap xs) := hin
  have HJ : Hid (InB 140737488351232 w q m d ys) := hin2
  have hle := hin.le
  have hcap := hin.room
  have hle2 := hin2.le
  have hcap2 := hin2.room
  clear hin hin2
  by_cases hlong : 1048576 < len
  · go_enter Try.func7, Try.ntmps7
    go_wp2_with fail
    refine (frame_long p cap len _ hlong (by omega)).mono ?_
    rintro e w1 ⟨rfl, hw1⟩
    subst hw1
    go_wp2_with fail
    refine (live_any _).mono ?_
    rintro e w2 ⟨rfl, hb2⟩
    go_wp2
    go_ret
    exact ⟨rfl, hb2⟩
  · have hw := Cd.width_pos len
    obtain ⟨A, hA⟩ : ∃ A, Cd.width len + len + 4 = A := ⟨_, rfl⟩
    have hA1 : len + 5 ≤ A ∧ A ≤ 1048589 := by omega
    have HA : Hid (Cd.width len + len + 4 = A) := hA
    obtain ⟨F, hF⟩ : ∃ F, Cd.frm xs = F := ⟨_, rfl⟩
    have HF : Hid (Cd.frm xs = F) := hF
    have HFL : Hid (F.length = A) := by rw [← hF, ← hA]; exact Cd.frm_len xs len HI.out.lenq
    have HFB : Hid (∀ y ∈ F, 0 ≤ y ∧ y < 256) := by rw [← hF]; exact frm_byt xs HI.out.byte (by rw [HI.out.lenq]; omega)
    have HYB : Hid (∀ y ∈ F ++ ys, 0 ≤ y ∧ y < 256) := app_byte HFB.out HJ.out.byte
    obtain ⟨k, hk⟩ : ∃ k : Nat, c % (A : Int) = k := ⟨(c % (A : Int)).toNat, (Int.toNat_of_nonneg (Int.emod_nonneg _ (by omega))).symm⟩
    have hkA : k < A := by have := Int.emod_lt_of_pos c (show (0 : Int) < A by omega); omega
    obtain ⟨j, hj⟩ : ∃ j : Nat, c % ((len : Int) + 4) = j := ⟨(c % ((len : Int) + 4)).toNat, (Int.toNat_of_nonneg (Int.emod_nonneg _ (by omega))).symm⟩
    have hjl : j < len + 4 := by have := Int.emod_lt_of_pos c (show (0 : Int) < (len : Int) + 4 by omega); omega
    obtain ⟨b, hb⟩ : ∃ b : Nat, c % 8 = b := ⟨(c % 8).toNat, by omega⟩
    have hb8 : b < 8 := by omega
    have hAb : ((A : Int) == 0) = false := by simp; omega
    have hBb : (((len : Int) + 4) == 0) = false := by simp; omega
    have HE1 : Hid (Cd.decU (F ++ ys) = (xs, (A : Int), 0)) := by rw [← hF, Hid, Cd.decU_whole xs ys len HI.out.lenq (by omega)]; simp only [Prod.mk.injEq, true_and, and_true]; omega
    have HE2 : Hid (Cd.decU (F.take k) = ([], 0, 10)) := by rw [← hF, Hid, Cd.decU_short xs len k HI.out.lenq (by omega) (by omega)]
    obtain ⟨at', hat⟩ : ∃ at', A - len - 4 + j = at' := ⟨_, rfl⟩
    have hat1 : at' < A := by omega
    obtain ⟨y, hy⟩ : ∃ y, F.getD at' 0 = y := ⟨_, rfl⟩
    have hyb : 0 ≤ y ∧ y < 256 := by
      have h1 : at' < F.length := by rw [HFL.out]; exact hat1
      have := HFB.out F[at'] (List.getElem_mem h1)
      rw [← hy]
      simpa [List.getD, h1] using this
    have HE3 : Hid (∀ x, 0 ≤ x ∧ x < 256 → x ≠ y → Cd.decU (F.set at' x) = ([], 0, 12)) := by
      intro x hx hne
      have e1 : at' = Cd.width len + j := by omega
      rw [← hF, e1]
      refine Cd.decU_turned xs len j x HI.out.lenq (by omega) HI.out.byte hjl hx ?_
      rw [hF, ← e1, hy]
      exact hne
    clear hF hA hw
    go_enter Try.func7, Try.ntmps7
    go_wp2_with fail
    refine (frame_any p cap len xs _ HI.out.lenq HI.out.bys HI.out.nil (by omega) HI.out.byte).mono ?_
    rintro e w1 ⟨v1, rfl, HO1, hb1⟩
    rw [HA.out, HF.out] at HO1
    have hv1 := HO1.form
    obtain ⟨g, c1', rfl, hg0, hg1, hgc⟩ : ∃ g c, v1 = .slice (some ⟨g, 0, none⟩) A c ∧ w.heap.size ≤ g ∧ g < w1.heap.size ∧ A ≤ c := by
      rcases hv1 with ⟨_, h, _⟩ | ⟨g, c, h⟩
      · omega
      · exact ⟨g, c, h⟩
    have hc1m := HO1.cap_le
    clear hv1
    go_wp2_with fail
    refine (live_any _).mono ?_
    rintro e w2 ⟨rfl, hb2⟩
    have HO2 := HO1.below hb2 (Nat.le_refl _)
    have hB2 := hb1.trans (hb2.mono hb1.size)
    clear HO1 hb1 hb2
    go_wp2_with fail
    refine (clone_any _ c1' A F _ HFL.out HO2.at (by omega) (fun h => by cases h)).mono ?_
    rintro e w3 ⟨v3, rfl, HO3, hb3⟩
    have HF3 := HO2.below hb3 (Nat.le_refl _)
    have HJ3 : Hid (InB 140737488351232 w3 q m d ys) := (HJ.out.below hB2).below hb3
    have z23 : w2.heap.size ≤ w3.heap.size := hb3.size
    go_wp2_with (at_builtin; refine app8w _ rfl _ _ rfl w2.heap.size v3 A F rfl HO3 q m d ys rfl HJ3.out.bys HJ3.out.lenq HJ3.out.nil (by omega) z23 ?_)
    intro v4 w4 HO4 hb4
    have hb24 := hb3.trans hb4
    have HF4 := HO2.below hb24 (Nat.le_refl _)
    have hB4 := hB2.trans (hb24.mono hB2.size)
    have HI4 : Hid (InB 140737488351232 w4 p len cap xs) := HI.out.below hB4
    obtain ⟨p4, c4, hv4, hc4, hp4, hby4⟩ := HO4.bys
    subst hv4
    have hc4m := HO4.cap_le
    have HP4 : Hid (Bys w4 p4 (F ++ ys)) := hby4
    have HL4 : Hid _ := HO4.len
    clear HO4 HO3 HF3 hb3 hb4 hb24 HO2 hB2 hby4 hp4 HJ3
    go_wp2_with fail
    refine (unframe_any p4 c4 _ (F ++ ys) _ HL4.out HP4.out hc4 (by omega) HYB.out).mono ?_
    rintro e w5 ⟨v5, rfl, HO5, hb5⟩
    rw [HE1.out] at HO5 ⊢
    simp only at HO5 ⊢
    have HF5 := HF4.below hb5 (Nat.le_refl _)
    have hB5 := hB4.trans (hb5.mono hB4.size)
    have HI5 : Hid (InB 140737488351232 w5 p len cap xs) := HI4.out.below hb5
    obtain ⟨p5, c5, hv5, hc5, hp5, hby5⟩ := HO5.bys
    subst hv5
    have HP5 : Hid (Bys w5 p5 xs) := hby5
    have HL5 : Hid (xs.length = len) := HI.out.lenq
    rw [HL5.out]
    clear HO5 hp5 hby5 HF4 hb5 hB4 HI4 HP4
    go_wp2_with fail
    refine (equal_any p5 p c5 cap _ _ xs xs _ HL5.out HL5.out HP5.out HI5.out.bys HI5.out.byte HI5.out.byte).mono ?_
    rintro e w6 ⟨rfl, hw6⟩
    subst hw6
    simp only [decide_true]
    go_wp2_with fail
    refine (unframe_any _ c1' k (F.take k) _ (by rw [List.length_take, HFL.out]; omega) (bys_begin HF5.at k (by rw [HFL.out]; omega)) (by omega) (by omega) (fun y hy => HFB.out y (List.mem_of_mem_take hy))).mono ?_
    rintro e w7 ⟨v7, rfl, HO7, hb7⟩
    rw [HE2.out] at HO7 ⊢
    simp only at HO7 ⊢
    have HF7 := HF5.below hb7 (Nat.le_refl _)
    have hB7 := hB5.trans (hb7.mono hB5.size)
    clear HO7 HF5 hb7 hB5
    have hcz := HF7.cell at' hat1
    rw [hy] at hcz
    have hfz := HF7.frozen at'
    have h8 := HF7.set at' (bits .xor .u8 y (2 ^ b % 256))
    have hB8 := below_grown_own hB7 (v := .slice (some ⟨g, 0, none⟩) A c1') h8.2 HF7 (Nat.le_refl _) hB7.size
    have HX8L : Hid _ := h8.1.len
    have HX8B : Hid _ := h8.1.at
    obtain ⟨hxb, hxn⟩ := bit_turned y b hyb hb8
    have HXB : Hid (0 ≤ bits .xor .u8 y (2 ^ b % 256) ∧ bits .xor .u8 y (2 ^ b % 256) < 256) := hxb
    have HXN : Hid _ := hxn
    have HB9 : Hid _ := hB8
    clear hxb hxn h8 hB8
    go_wp2_with fail
    refine (unframe_any _ c1' A _ _ HX8L.out HX8B.out hgc (by omega) (set_byte HFB.out HXB.out)).mono ?_
    rintro e w8 ⟨v8, rfl, HO8, hb8'⟩
    rw [HE3.out _ HXB.out HXN.out]
    simp only
    have hB9 := HB9.out.trans (hb8'.mono HB9.out.size)
    clear HO8 hb8' HF7
    go_wp2
    go_ret
    exact ⟨rfl, hB9⟩

set_option maxRecDepth 100000 in
theorem lifted_codecTorn (os : Os) (started : os.Started) (H : Type) (enc : TypeId × Value → H) :
    ReturnsInHanded {} Try.checked os 7 .any (Rows.codecTornSpec.pre6 enc Try.prog Try.f7 Rows.codecTornRow.domain false) (Rows.codecTornSpec.post enc Try.prog Try.f7 false true false false) := by
  refine returnsInHanded_of_change_sized (C := Try.checked) own started (by kernel_rfl) Try.func7
    (ChangeSpec.witness6 (enc := enc) (C := Try.checked) false ⟨#[], #[.slice none 0 0, .slice none 0 0, .int .u16 0], []⟩ 8 (by kernel_rfl) (by kernel_rfl) (by kernel_rfl) (by kernel_rfl)) ?_
  intro W base args ds gs before hval0 hW _ hsz0 _
  have hsz : (DataW.weightsEach Try.prog (Try.f7.params.toList ++ Rows.codecTornSpec.plain.varTypes Try.prog) (ds ++ gs)).all (· ≤ reachBytes) = true := hsz0
  clear hsz0
  have hval : ∀ (j : Nat) t v, Try.f7.params[j]? = some t → args[j]? = some v → Value.okWide Try.prog W .any base t v := hval0
  have hW' := hW
  obtain ⟨p, q, hA0, hV, rfl, hfz, hnd⟩ := hW
  have hA : DataW.TrodAll enc Try.prog W 0 (fun _ => true) true Try.f7.params.toList args.toList ds p := hA0
  rw [Try.params7] at hA hval hsz
  obtain ⟨v0, vs0, d0, ds0, p0, q0, hargs, rfl, rfl, h0, r0⟩ := trodAll_cons hA
  obtain ⟨v1, vs1, d1, ds1, p1, q1, rfl, rfl, rfl, h1, r1⟩ := trodAll_cons r0
  obtain ⟨v2, vs2, d2, ds2, p2, q2, rfl, rfl, rfl, h2, r2⟩ := trodAll_cons r1
  obtain ⟨rfl, rfl, rfl⟩ := trodAll_nil r2
  obtain rfl : args = #[v0, v1, v2] := by cases args; simp_all
  obtain ⟨rfl, rfl⟩ := trodVars_none hV
  obtain ⟨a0, len0, cap0, rfl⟩ := okWide_slice Try.underlying22 (hval 0 22 v0 rfl rfl)
  have k0 := h0
  have lt0 : ∀ x ∈ p0, x.block < W.heap.size := by obtain ⟨m, hm⟩ := k0; exact DataW.trod_lt m _ _ _ hm
  obtain ⟨z0, w0⟩ : ∃ zs, InB 140737488351232 W a0 len0 cap0 zs := by
    refine in_bytes h0 ?_
    intro elems spare hd
    have := sized_slice hsz (j := 0) (t := 22) (e := 5) rfl (by rw [hd]; rfl) Try.underlying22
    rw [bytes_u8] at this
    simp only [reachBytes] at this
    omega
  obtain ⟨a1, len1, cap1, rfl⟩ := okWide_slice Try.underlying22 (hval 1 22 v1 rfl rfl)
  have k1 := h1
  have lt1 : ∀ x ∈ p1, x.block < W.heap.size := by obtain ⟨m, hm⟩ := k1; exact DataW.trod_lt m _ _ _ hm
  obtain ⟨z1, w1⟩ : ∃ zs, InB 140737488351232 W a1 len1 cap1 zs := by
    refine in_bytes h1 ?_
    intro elems spare hd
    have := sized_slice hsz (j := 1) (t := 22) (e := 5) rfl (by rw [hd]; rfl) Try.underlying22
    rw [bytes_u8] at this
    simp only [reachBytes] at this
    omega
  obtain ⟨a2, rfl, rfl, rfl, w2⟩ := open_int Try.underlying25 (hval 2 25 v2 rfl rfl) h2
  clear hA0 hval0
  refine (walk_codecTorn a0 len0 cap0 z0 a1 len1 cap1 z1 a2 W w0 w1 w2).mono fun e W' ⟨he, bel⟩ => ?_
  subst he
  exact ⟨_, rfl, _, _, _, [], _, [], hW', trodAll_mk1 (shut_bool Try.underlying4 _), (trodAll_cons_mk (Below.trod laidOut (by kernel_rfl) (of_decide_eq_true (by kernel_rfl)) k0 bel lt0) (trodAll_cons_mk (Below.trod laidOut (by kernel_rfl) (of_decide_eq_true (by kernel_rfl)) k1 bel lt1) (trodAll_cons_mk (shut_int Try.underlying25 w2) trodAll_mk0))), rfl, bel.frame _, fun h => by cases h⟩

/-- The statement. -/
theorem codecTorn_holds : Rows.CodecTornSaid :=
  OpenClaim.holds_of_wide 7 Try.f7 rfl rfl rfl rfl rfl rfl rfl ⟨rfl, rfl, rfl, rfl, rfl⟩ rfl rfl rfl rfl rfl (by kernel_rfl) Try.func7 (by kernel_rfl)
    (of_decide_eq_true (by kernel_rfl)) (by unfold Func.isWrapper; first | (rw [if_pos (by decide +kernel)]; kernel_rfl) | (rw [if_neg (by decide +kernel)]; exact ⟨rfl, rfl⟩))
    (fun os started H enc _ => lifted_codecTorn os started H enc)
#print axioms codecTorn_holds
end Go.Proofs.Ytcolmebpbjjehab
