/- What any bytes begin with as an int, or as a text, is, put again, just the bytes that it had. -/
import Derived.Test.YtcolmebpbjjehaaOpen
import Derived.Test.YtcolmebpbjjehaaText
import Derived.Test.YtcolmebpbjjehaaPutText
import Derived.Test.YtcolmebpbjjehaaBack
import Derived.Deep.RegionHeld3
import Derived.Deep.QuietTactic
import Derived.BigQuiet
namespace Go.Proofs.Ytcolmebpbjjehaa
open Go.ChangeShapes Go.WideShapes Go.ChangeAt Go.RowKit
open Go.ChangeMaps (open_string shut_string)
set_option linter.unusedVariables false

theorem bys_head {w : World} {p : Option Addr} {xs : List Int} (h : Bys w p xs) (s : Nat) (hs : s ≤ xs.length) : Bys w p (xs.take s) := by
  intro hl
  simp at hl
  obtain ⟨b, o, rfl, hc⟩ := h (by omega)
  refine ⟨b, o, rfl, fun i hi => ?_⟩
  simp at hi
  rw [hc i (by omega)]
  simp [List.getD, show i < s by omega]

theorem take_byte {xs : List Int} (h : ∀ y ∈ xs, 0 ≤ y ∧ y < 256) (s : Nat) : ∀ y ∈ xs.take s, 0 ≤ y ∧ y < 256 := fun y hy => h y (List.mem_of_mem_take hy)

set_option maxHeartbeats 2000000 in
theorem walk_codecOne (p : Option Addr) (len cap : Nat) (xs : List Int) (w : World) (hin : InB 140737488351232 w p len cap xs) :
    Calls Try.prog 8 #[.slice p len cap] w fun e w' => e = .returned (.bool true) ∧ Below w.heap.size w w' := by
  have HI : Hid (InB 140737488351232 w p len cap xs) := hin
  have hle := hin.le
  have hcap := hin.room
  have hf := Cd.dec_facts xs hin.byte
  have HEN : Hid _ := Cd.enc_dec xs hin.byte
  have HTF : Hid _ := Cd.decT_facts xs hin.byte
  obtain ⟨D, hD⟩ : ∃ D, Cd.dec xs = D := ⟨_, rfl⟩
  rw [hD] at hf HEN
  have HD : Hid (Cd.dec xs = D) := hD
  clear hD
  obtain ⟨d1, d2, d3⟩ := D
  simp only at hf HEN
  rw [hin.lenq] at hf
  clear hin
  by_cases h3 : d3 = 0
  · subst h3
    have hf1 : 1 ≤ d2 ∧ d2 ≤ 9 ∧ d2 ≤ (len : Int) ∧ -9223372036854775808 ≤ d1 ∧ d1 ≤ 9223372036854775807 := by omega
    have HWD : Hid ((Cd.width d1 : Int) = d2) := by have := hf; unfold Hid; omega
    clear hf
    obtain ⟨s, rfl⟩ := Int.eq_ofNat_of_zero_le (show 0 ≤ d2 by omega)
    have HW : Hid (Cd.width d1 = s) := by have := HWD.out; unfold Hid; omega
    have HE : Hid (Cd.enc d1 = xs.take s) := by simpa [Hid] using HEN.out rfl
    obtain ⟨b, o, rfl, _⟩ := HI.out.bys (by rw [HI.out.lenq]; omega)
    go_enter Try.func8, Try.ntmps8
    go_wp2_with fail
    refine (int_any (some ⟨b, o, none⟩) cap len xs _ HI.out.lenq HI.out.bys hle (by omega) HI.out.byte).mono ?_
    rintro e w1 ⟨rfl, hw1⟩
    subst hw1
    rw [HD.out]
    unfold three
    go_wp2_with fail
    have HID : Hid (InB 140737488351232 w1.drew (some ⟨b, o, none⟩) len cap xs) := HI.out.below ((Below.refl _ _).drew)
    have hbd : Below w1.heap.size w1 w1.drew := (Below.refl _ _).drew
    have HB0 : Hid (∀ y ∈ Cd.enc d1, 0 ≤ y ∧ y < 256) := enc_byte d1 hf1.2.2.2.1 hf1.2.2.2.2
    have HB1 : Hid (∀ y ∈ xs.take s, 0 ≤ y ∧ y < 256) := take_byte HI.out.byte s
    have HL1 : Hid ((xs.take s).length = s) := by have := HI.out.lenq; simp [Hid]; omega
    have hd1 : decide ((s : Int) < 1) = false := by simp; omega
    have hd2 : decide ((len : Int) < (s : Int)) = false := by simp; omega
    have hd3 : decide (len < s) = false := by simp; omega
    have hd4 : (s : Int) ≤ (cap : Int) := by omega
    go_region_held3 (fun _ => True) (trivial) (first
      | (go_at_call 14; refine (putInt_own none 0 0 [] d1 _ rfl (Bys.nil _ _) (by omega) (fun _ => ⟨rfl, rfl⟩) (by omega) (by omega)).mono ?_; rintro e w2 ⟨v2, rfl, HO2, hb2⟩; obtain ⟨p2, c2, hv2, hc2, hp2, hby2⟩ := HO2.bys; rw [hv2]; have HP2 : Hid (Bys w2 p2 (Cd.enc d1)) := (by simpa [Hid] using hby2); clear hby2 hv2 HO2 hp2)
      | (go_at_call 13; refine (equal_any _ _ _ _ _ _ (Cd.enc d1) (xs.take s) _ (Cd.enc_length d1) HL1.out HP2.out (bys_head (HID.out.below hb2).bys s (by have := HI.out.lenq; omega)) HB0.out HB1.out).mono ?_; rintro e w3 ⟨rfl, hw3⟩; rw [HE.out]; simp only [decide_true]; subst hw3))
    have HI2 : Hid (InB 140737488351232 w3 (some ⟨b, o, none⟩) len cap xs) := HID.out.below hb2
    have HBW : Hid (Below w1.heap.size w1 w3) := hbd.trans (hb2.mono (by simp))
    clear HID hbd hb2 HP2 HB0 HB1 HL1 hd1 hd2 hd3 hd4 HI hc2
    go_wp2_with fail
    refine (text_any (some ⟨b, o, none⟩) cap len xs _ HI2.out.lenq HI2.out.bys hle (by omega) HI2.out.byte).mono ?_
    rintro e w4 ⟨rfl, hw4⟩
    subst hw4
    rcases HTF.out with ⟨s2, n2, hd2, hT2, hs2, hsn2, he2, hl2⟩ | ⟨ht1, ht2, ht3⟩
    · rw [hT2]
      rw [HI2.out.lenq] at hsn2
      have HB3 : Hid (∀ y ∈ xs.take (s2 + n2), 0 ≤ y ∧ y < 256) := take_byte HI2.out.byte _
      have HEQ : Hid (xs.take s2 ++ (xs.drop s2).take n2 = xs.take (s2 + n2)) := (List.take_add (l := xs) (i := s2) (j := n2)).symm
      obtain ⟨tx, htx⟩ : ∃ tx, strOfNums ((xs.drop s2).take n2) = tx := ⟨_, rfl⟩
      have hts : tx.size = n2 := by rw [← htx, strOfNums_size]; exact hl2
      have HTB : Hid (strB tx = (xs.drop s2).take n2) := by rw [← htx]; exact strB_of _ (fun y hy => HI2.out.byte y (List.mem_of_mem_drop (List.mem_of_mem_take hy)))
      have HTS : Hid (tx.size = n2) := hts
      have HE2 : Hid (Cd.enc (tx.size : Int) ++ strB tx = xs.take (s2 + n2)) := by rw [Hid, hts, he2, HTB.out, HEQ.out]
      have HL3 : Hid ((xs.take (s2 + n2)).length = s2 + n2) := by have := HI2.out.lenq; simp [Hid]; omega
      have HL4 : Hid (Cd.width (tx.size : Int) + tx.size = s2 + n2) := by
        have h := congrArg List.length HE2.out
        rw [List.length_append, Cd.enc_length, strB_length, HL3.out] at h
        exact h
      rw [htx, show (s2 : Int) + (n2 : Int) = ((s2 + n2 : Nat) : Int) by omega]
      obtain ⟨z, hz⟩ : ∃ z, s2 + n2 = z := ⟨_, rfl⟩
      have hz1 : 1 ≤ z ∧ z ≤ len := by omega
      rw [hz] at HB3 HE2 HL3 HL4 ⊢
      have htn : tx.size ≤ 140737488351232 := by omega
      clear hd2 hT2 he2 hl2 htx hts hz HEQ hsn2 HTB HTS
      have HID2 : Hid (InB 140737488351232 w4.drew (some ⟨b, o, none⟩) len cap xs) := HI2.out.below ((Below.refl _ _).drew)
      have hb5 : Below w4.heap.size w4 w4.drew := (Below.refl _ _).drew
      have hd5 : decide ((z : Int) < 1) = false := by simp; omega
      have hd6 : decide ((len : Int) < (z : Int)) = false := by simp; omega
      have hd7 : decide (len < z) = false := by simp; omega
      have hd8 : (z : Int) ≤ (cap : Int) := by omega
      go_wp2_with fail
      go_region_held3 (fun _ => True) (trivial) (first
        | (go_at_call 21; refine (putText_any none 0 0 [] tx _ rfl (Bys.nil _ _) (by omega) (fun _ => ⟨rfl, rfl⟩)).mono ?_; rintro e w5 ⟨v5, rfl, HO5, hb6⟩; obtain ⟨p5, c5, hv5, hc5, hp5, hby5⟩ := HO5.bys; rw [hv5]; have HP5 : Hid (Bys w5 p5 (Cd.enc (tx.size : Int) ++ strB tx)) := (by simpa [Hid] using hby5); rw [HE2.out] at HP5; clear hby5 hv5 HO5 hp5)
        | (go_at_call 13; refine (equal_any _ _ _ _ _ _ (xs.take z) (xs.take z) _ (by have := HL3.out; have := HL4.out; omega) HL3.out HP5.out (bys_head (HID2.out.below hb6).bys z (by have := HI2.out.lenq; omega)) HB3.out HB3.out).mono ?_; rintro e w6 ⟨rfl, hw6⟩; simp only [decide_true]; subst hw6))
      have HBW6 : Hid (Below w1.heap.size w1 w6) := (HBW.out.trans (hb5.mono HBW.out.size)).trans (hb6.mono (by simpa using HBW.out.size))
      clear hb5 hb6 HP5 HID2 hc5
      go_wp2_with fail
      refine (live_any _).mono ?_
      rintro e w9 ⟨rfl, hb9w⟩
      go_wp2
      go_ret
      exact ⟨rfl, HBW6.out.trans (hb9w.mono HBW6.out.size)⟩
    · rw [ht1, ht2]
      obtain ⟨t3, ht3e⟩ : ∃ t3, (Cd.decT xs).2.2 = t3 := ⟨_, rfl⟩
      rw [ht3e] at ht3 ⊢
      have hb9 : (t3 == 0) = false := by simp; omega
      have HT3 : Hid _ := ht3
      clear ht3e ht3 ht1 ht2
      go_wp2_with fail
      go_quiet (fail)
      go_wp2_with fail
      refine (live_any _).mono ?_
      rintro e w9 ⟨rfl, hb9w⟩
      go_wp2
      go_ret
      exact ⟨rfl, (HBW.out.trans ((below_drewN (Below.refl _ _) nq).mono HBW.out.size)).trans (hb9w.mono (HBW.out.trans ((below_drewN (Below.refl _ _) nq).mono HBW.out.size)).size)⟩
  · have hb : (d3 == 0) = false := by simpa using h3
    have H3 : Hid (¬ d3 = 0) := h3
    clear h3 hf
    go_enter Try.func8, Try.ntmps8
    go_wp2_with fail
    refine (int_any p cap len xs _ HI.out.lenq HI.out.bys hle (by omega) HI.out.byte).mono ?_
    rintro e w1 ⟨rfl, hw1⟩
    subst hw1
    rw [HD.out]
    unfold three
    go_wp2_with fail
    go_quiet (fail)
    have HI2 : Hid (InB 140737488351232 (w1.drewN nq) p len cap xs) := HI.out.below (below_drewN (Below.refl _ _) nq)
    have HBW : Hid (Below w1.heap.size w1 (w1.drewN nq)) := below_drewN (Below.refl _ _) nq
    generalize w1.drewN nq = wq at HI2 HBW ⊢
    go_wp2_with fail
    refine (text_any p cap len xs _ HI2.out.lenq HI2.out.bys hle (by omega) HI2.out.byte).mono ?_
    rintro e w4 ⟨rfl, hw4⟩
    subst hw4
    rcases HTF.out with ⟨s2, n2, hd2, hT2, hs2, hsn2, he2, hl2⟩ | ⟨ht1, ht2, ht3⟩
    · exfalso
      rw [HD.out] at hd2
      simp only [Prod.mk.injEq] at hd2
      exact H3.out hd2.2.2
    · rw [ht1, ht2]
      obtain ⟨t3, ht3e⟩ : ∃ t3, (Cd.decT xs).2.2 = t3 := ⟨_, rfl⟩
      rw [ht3e] at ht3 ⊢
      have hb9 : (t3 == 0) = false := by simp; omega
      have HT3 : Hid _ := ht3
      clear ht3e ht3 ht1 ht2
      go_wp2_with fail
      go_quiet (fail)
      go_wp2_with fail
      refine (live_any _).mono ?_
      rintro e w9 ⟨rfl, hb9w⟩
      go_wp2
      go_ret
      exact ⟨rfl, (HBW.out.trans ((below_drewN (Below.refl _ _) nq).mono HBW.out.size)).trans (hb9w.mono (HBW.out.trans ((below_drewN (Below.refl _ _) nq).mono HBW.out.size)).size)⟩

set_option maxRecDepth 100000 in
theorem lifted_codecOne (os : Os) (started : os.Started) (H : Type) (enc : TypeId × Value → H) :
    ReturnsInHanded {} Try.checked os 8 .any (Rows.codecOneSpec.pre6 enc Try.prog Try.f8 Rows.codecOneRow.domain false) (Rows.codecOneSpec.post enc Try.prog Try.f8 false true false false) := by
  refine returnsInHanded_of_change_sized (C := Try.checked) own started (by kernel_rfl) Try.func8
    (ChangeSpec.witness6 (enc := enc) (C := Try.checked) false ⟨#[], #[.slice none 0 0], []⟩ 8 (by kernel_rfl) (by kernel_rfl) (by kernel_rfl) (by kernel_rfl)) ?_
  intro W base args ds gs before hval0 hW _ hsz0 _
  have hsz : (DataW.weightsEach Try.prog (Try.f8.params.toList ++ Rows.codecOneSpec.plain.varTypes Try.prog) (ds ++ gs)).all (· ≤ reachBytes) = true := hsz0
  clear hsz0
  have hval : ∀ (j : Nat) t v, Try.f8.params[j]? = some t → args[j]? = some v → Value.okWide Try.prog W .any base t v := hval0
  have hW' := hW
  obtain ⟨p, q, hA0, hV, rfl, hfz, hnd⟩ := hW
  have hA : DataW.TrodAll enc Try.prog W 0 (fun _ => true) true Try.f8.params.toList args.toList ds p := hA0
  rw [Try.params8] at hA hval hsz
  obtain ⟨v0, vs0, d0, ds0, p0, q0, hargs, rfl, rfl, h0, r0⟩ := trodAll_cons hA
  obtain ⟨rfl, rfl, rfl⟩ := trodAll_nil r0
  obtain rfl : args = #[v0] := by cases args; simp_all
  obtain ⟨rfl, rfl⟩ := trodVars_none hV
  obtain ⟨a0, len0, cap0, rfl⟩ := okWide_slice Try.underlying22 (hval 0 22 v0 rfl rfl)
  have k0 := h0
  have lt0 : ∀ x ∈ p0, x.block < W.heap.size := by obtain ⟨m, hm⟩ := k0; exact DataW.trod_lt m _ _ _ hm
  obtain ⟨z0, w0⟩ : ∃ zs, InB 140737488351232 W a0 len0 cap0 zs := by
    refine in_bytes h0 ?_
    intro elems spare hd
    have := sized_slice hsz (j := 0) (t := 22) (e := 5) rfl (by rw [hd]; rfl) Try.underlying22
    rw [bytes_u8] at this
    simp only [reachBytes] at this
    omega
  clear hA0 hval0
  refine (walk_codecOne a0 len0 cap0 z0 W w0).mono fun e W' ⟨he, bel⟩ => ?_
  subst he
  exact ⟨_, rfl, _, _, _, [], _, [], hW', trodAll_mk1 (shut_bool Try.underlying4 _), (trodAll_cons_mk (Below.trod laidOut (by kernel_rfl) (of_decide_eq_true (by kernel_rfl)) k0 bel lt0) trodAll_mk0), rfl, bel.frame _, fun h => by cases h⟩

/-- The statement. -/
theorem codecOne_holds : Rows.CodecOneSaid :=
  OpenClaim.holds_of_wide 8 Try.f8 rfl rfl rfl rfl rfl rfl rfl ⟨rfl, rfl, rfl, rfl, rfl⟩ rfl rfl rfl rfl rfl (by kernel_rfl) Try.func8 (by kernel_rfl)
    (of_decide_eq_true (by kernel_rfl)) (by unfold Func.isWrapper; first | (rw [if_pos (by decide +kernel)]; kernel_rfl) | (rw [if_neg (by decide +kernel)]; exact ⟨rfl, rfl⟩))
    (fun os started H enc _ => lifted_codecOne os started H enc)
#print axioms codecOne_holds
end Go.Proofs.Ytcolmebpbjjehaa
