/- A beginning of an int's, or a text's, bytes ends too early. -/
import Derived.Test.YtcolmebpbjjehabOpen
import Derived.Test.YtcolmebpbjjehabApp
import Derived.Test.YtcolmebpbjjehabText
import Derived.Test.YtcolmebpbjjehabPutText
import Derived.Test.YtcolmebpbjjehabBack
namespace Go.Proofs.Ytcolmebpbjjehab
open Go.ChangeShapes Go.WideShapes Go.ChangeAt Go.RowKit
open Go.ChangeMaps (open_string shut_string)
set_option linter.unusedVariables false

theorem bys_front {w : World} {p : Option Addr} {xs : List Int} (h : Bys w p xs) (s : Nat) (hs : s ≤ xs.length) : Bys w p (xs.take s) := by
  intro hl
  simp at hl
  obtain ⟨b, o, rfl, hc⟩ := h (by omega)
  refine ⟨b, o, rfl, fun i hi => ?_⟩
  simp at hi
  rw [hc i (by omega)]
  simp [List.getD, show i < s by omega]

theorem dec_take (n : Int) (k : Nat) (hk : k < Cd.width n) : Cd.dec ((Cd.enc n).take k) = (0, 0, 10) := by
  cases k with
  | zero => rfl
  | succ k =>
    rcases (show (-100 ≤ n ∧ n ≤ 100) ∨ n < -100 ∨ 100 < n by omega) with ⟨a, b⟩ | a | a
    · rw [show Cd.width n = 1 by simp [Cd.width, a, b]] at hk
      omega
    · obtain ⟨u, hu⟩ : ∃ u : Nat, u = (-1 - n).toNat := ⟨_, rfl⟩
      have hq := Cd.nb_pos u
      have e : Cd.enc n = (8 - (Cd.nb u : Int)) :: (Cd.be (Cd.nb u) u).map (255 - ·) := by unfold Cd.enc; rw [if_neg (by omega), if_neg (by omega), ← hu]
      have ew : Cd.width n = 1 + Cd.nb u := by unfold Cd.width; rw [if_neg (by omega), if_neg (by omega), ← hu]
      rw [e, List.take_succ_cons, Cd.dec_cons, if_neg (by omega), if_neg (by omega), if_pos (by omega), show (8 - (8 - (Cd.nb u : Int))).toNat = Cd.nb u by omega]
      unfold Cd.long
      rw [if_pos (by simp [Cd.be_length]; omega)]
    · obtain ⟨u, hu⟩ : ∃ u : Nat, u = n.toNat := ⟨_, rfl⟩
      have hq := Cd.nb_pos u
      have e : Cd.enc n = (208 + (Cd.nb u : Int)) :: Cd.be (Cd.nb u) u := by unfold Cd.enc; rw [if_neg (by omega), if_pos (by omega), ← hu]
      have ew : Cd.width n = 1 + Cd.nb u := by unfold Cd.width; rw [if_neg (by omega), if_pos (by omega), ← hu]
      rw [e, List.take_succ_cons, Cd.dec_cons, if_neg (by omega), if_pos (by omega), show (208 + (Cd.nb u : Int) - 208).toNat = Cd.nb u by omega]
      unfold Cd.long
      rw [if_pos (by simp [Cd.be_length]; omega)]

theorem decT_take (s : ByteArray) (k : Nat) (hs : s.size ≤ 9223372036854775807) (hk : k < Cd.width s.size + s.size) : Cd.decT ((Cd.enc s.size ++ strB s).take k) = ([], 0, 10) := by
  by_cases h : k < Cd.width s.size
  · have e : (Cd.enc (s.size : Int) ++ strB s).take k = (Cd.enc (s.size : Int)).take k := List.take_append_of_le_length (by rw [Cd.enc_length]; omega)
    unfold Cd.decT
    rw [e, dec_take _ _ h]
    simp
  · have e : (Cd.enc (s.size : Int) ++ strB s).take k = Cd.enc (s.size : Int) ++ (strB s).take (k - Cd.width s.size) := by
      rw [List.take_append, Cd.enc_length, List.take_of_length_le (by rw [Cd.enc_length]; omega)]
    unfold Cd.decT
    rw [e, Cd.dec_enc _ _ (by omega) (by omega)]
    simp only
    have hl : (Cd.enc (s.size : Int) ++ (strB s).take (k - Cd.width s.size)).length = k := by
      rw [List.length_append, Cd.enc_length, List.length_take, strB_length]
      omega
    rw [if_neg (by omega), if_neg (by omega), if_pos (by rw [hl]; omega)]

set_option maxHeartbeats 2000000 in
theorem walk_codecHeads (n : Int) (s : ByteArray) (c : Int) (w : World) (hn : (Lit.int .i64 n).wf = true) (hs : s.size ≤ 140737488351232) (hc : (Lit.int .u16 c).wf = true) :
    Calls Try.prog 4 #[.int .i64 n, .string s, .int .u16 c] w fun e w' => e = .returned (.bool true) ∧ Below w.heap.size w w' := by
  obtain ⟨h0, h1⟩ := bounds_i64 hn
  obtain ⟨c0, c1⟩ := bounds_u16 hc
  clear hn hc
  obtain ⟨A, hA⟩ : ∃ A, Cd.width n = A := ⟨_, rfl⟩
  obtain ⟨B, hB⟩ : ∃ B, Cd.width s.size + s.size = B := ⟨_, rfl⟩
  have hA1 := Cd.width_pos n
  have hB1 := Cd.width_pos s.size
  rw [hA] at hA1
  have hB2 : 1 ≤ B ∧ B ≤ 140737488351241 := by omega
  have HA : Hid (Cd.width n = A) := hA
  have HB : Hid (Cd.width s.size + s.size = B) := hB
  clear hA hB hB1
  obtain ⟨k, hk⟩ : ∃ k : Nat, c % (A : Int) = k := ⟨(c % (A : Int)).toNat, (Int.toNat_of_nonneg (Int.emod_nonneg _ (by omega))).symm⟩
  obtain ⟨m, hm⟩ : ∃ m : Nat, c % (B : Int) = m := ⟨(c % (B : Int)).toNat, (Int.toNat_of_nonneg (Int.emod_nonneg _ (by omega))).symm⟩
  have hkA : k < A := by have := Int.emod_lt_of_pos c (show (0 : Int) < A by omega); omega
  have hmB : m < B := by have := Int.emod_lt_of_pos c (show (0 : Int) < B by omega); omega
  have hAb : ((A : Int) == 0) = false := by simp; omega
  have hBb : ((B : Int) == 0) = false := by simp; omega
  go_enter Try.func4, Try.ntmps4
  go_wp2_with fail
  refine (live_any _).mono ?_
  rintro e w1 ⟨rfl, hb1⟩
  go_wp2_with fail
  refine (putInt_own none 0 0 [] n _ rfl (Bys.nil _ _) (by omega) (fun _ => ⟨rfl, rfl⟩) h0 h1).mono ?_
  rintro e w2 ⟨v2, rfl, HO2, hb2⟩
  have hb12 := hb1.trans (hb2.mono hb1.size)
  rw [HA.out, Nat.zero_add, List.nil_append] at HO2
  obtain ⟨p2, c2, hv2, hc2, hp2, hby2⟩ := HO2.bys
  have hc2m := (hv2 ▸ HO2 : Own w2 _ (.slice p2 A c2) A (Cd.enc n)).cap_le
  subst hv2
  have HP2 : Hid (Bys w2 p2 (Cd.enc n)) := hby2
  clear hb1 hb2 HO2 hp2 hby2
  go_wp2_with fail
  refine (putText_any none 0 0 [] s _ rfl (Bys.nil _ _) (by omega) (fun _ => ⟨rfl, rfl⟩)).mono ?_
  rintro e w3 ⟨v3, rfl, HO3, hb3⟩
  have HBW := hb12.trans (hb3.mono hb12.size)
  rw [Nat.zero_add, HB.out, List.nil_append] at HO3
  obtain ⟨p3, c3, hv3, hc3, hp3, hby3⟩ := HO3.bys
  have hc3m := (hv3 ▸ HO3 : Own w3 _ (.slice p3 B c3) B (Cd.enc s.size ++ strB s)).cap_le
  subst hv3
  have HP3 : Hid (Bys w3 p3 (Cd.enc s.size ++ strB s)) := hby3
  have HL3 : Hid _ := HO3.len
  have HQ2 : Hid (Bys w3 p2 (Cd.enc n)) := HP2.out.below hb3 (Nat.le_refl _)
  obtain ⟨g3, o3, rfl, _⟩ := hby3 (by rw [HO3.len]; omega)
  obtain ⟨g2, o2, rfl, _⟩ := HP2.out (by rw [Cd.enc_length, HA.out]; omega)
  clear hb12 hb3 HO3 hp3 hby3 HP2
  go_wp2_with fail
  refine (int_any _ c2 k ((Cd.enc n).take k) _ (by simp [Cd.enc_length, HA.out]; omega) (bys_front HQ2.out k (by rw [Cd.enc_length, HA.out]; omega)) (by omega) (by omega) (fun y hy => enc_byte n h0 h1 y (List.mem_of_mem_take hy))).mono ?_
  rintro e w4 ⟨rfl, hw4⟩
  subst hw4
  rw [dec_take n k (by rw [HA.out]; exact hkA)]
  unfold three
  go_wp2_with fail
  refine (text_any _ c3 m ((Cd.enc s.size ++ strB s).take m) _ (by rw [List.length_take, HL3.out]; omega) (bys_front HP3.out m (by rw [HL3.out]; omega)) (by omega) (by omega) (fun y hy => app_byte (enc_byte _ (by omega) (by omega)) (strB_byte s) y (List.mem_of_mem_take hy))).mono ?_
  rintro e w5 ⟨rfl, hw5⟩
  subst hw5
  rw [decT_take s m (by omega) (by rw [HB.out]; exact hmB)]
  simp only
  go_wp2
  go_ret
  exact ⟨rfl, HBW⟩

set_option maxRecDepth 100000 in
theorem lifted_codecHeads (os : Os) (started : os.Started) (H : Type) (enc : TypeId × Value → H) :
    ReturnsInHanded {} Try.checked os 4 .any (Rows.codecHeadsSpec.pre6 enc Try.prog Try.f4 Rows.codecHeadsRow.domain false) (Rows.codecHeadsSpec.post enc Try.prog Try.f4 false true false false) := by
  refine returnsInHanded_of_change_sized (C := Try.checked) own started (by kernel_rfl) Try.func4
    (ChangeSpec.witness6 (enc := enc) (C := Try.checked) false ⟨#[], #[.int .i64 0, .string .empty, .int .u16 0], []⟩ 8 (by kernel_rfl) (by kernel_rfl) (by kernel_rfl) (by kernel_rfl)) ?_
  intro W base args ds gs before hval0 hW _ hsz0 _
  have hsz : (DataW.weightsEach Try.prog (Try.f4.params.toList ++ Rows.codecHeadsSpec.plain.varTypes Try.prog) (ds ++ gs)).all (· ≤ reachBytes) = true := hsz0
  clear hsz0
  have hval : ∀ (j : Nat) t v, Try.f4.params[j]? = some t → args[j]? = some v → Value.okWide Try.prog W .any base t v := hval0
  have hW' := hW
  obtain ⟨p, q, hA0, hV, rfl, hfz, hnd⟩ := hW
  have hA : DataW.TrodAll enc Try.prog W 0 (fun _ => true) true Try.f4.params.toList args.toList ds p := hA0
  rw [Try.params4] at hA hval hsz
  obtain ⟨v0, vs0, d0, ds0, p0, q0, hargs, rfl, rfl, h0, r0⟩ := trodAll_cons hA
  obtain ⟨v1, vs1, d1, ds1, p1, q1, rfl, rfl, rfl, h1, r1⟩ := trodAll_cons r0
  obtain ⟨v2, vs2, d2, ds2, p2, q2, rfl, rfl, rfl, h2, r2⟩ := trodAll_cons r1
  obtain ⟨rfl, rfl, rfl⟩ := trodAll_nil r2
  obtain rfl : args = #[v0, v1, v2] := by cases args; simp_all
  obtain ⟨rfl, rfl⟩ := trodVars_none hV
  obtain ⟨a0, rfl, rfl, rfl, w0⟩ := open_int Try.underlying2 (hval 0 2 v0 rfl rfl) h0
  obtain ⟨a1, rfl, rfl, rfl, w1⟩ := open_string Try.underlying9 (hval 1 9 v1 rfl rfl) h1
  have s1 : a1.size ≤ 140737488351232 := by
    have := sized_string hsz (j := 1) (t := 9) rfl rfl
    have e : a1.data.toList.length = a1.size := by rw [Array.length_toList]; rfl
    simp only [reachBytes] at this
    omega
  obtain ⟨a2, rfl, rfl, rfl, w2⟩ := open_int Try.underlying25 (hval 2 25 v2 rfl rfl) h2
  clear hA0 hval0
  refine (walk_codecHeads a0 a1 a2 W w0 s1 w2).mono fun e W' ⟨he, bel⟩ => ?_
  subst he
  exact ⟨_, rfl, _, _, _, [], _, [], hW', trodAll_mk1 (shut_bool Try.underlying4 _), (trodAll_cons_mk (shut_int Try.underlying2 w0) (trodAll_cons_mk (shut_string Try.underlying9 w1) (trodAll_cons_mk (shut_int Try.underlying25 w2) trodAll_mk0))), rfl, bel.frame _, fun h => by cases h⟩

/-- The statement. -/
theorem codecHeads_holds : Rows.CodecHeadsSaid :=
  OpenClaim.holds_of_wide 4 Try.f4 rfl rfl rfl rfl rfl rfl rfl ⟨rfl, rfl, rfl, rfl, rfl⟩ rfl rfl rfl rfl rfl (by kernel_rfl) Try.func4 (by kernel_rfl)
    (of_decide_eq_true (by kernel_rfl)) (by unfold Func.isWrapper; first | (rw [if_pos (by decide +kernel)]; kernel_rfl) | (rw [if_neg (by decide +kernel)]; exact ⟨rfl, rfl⟩))
    (fun os started H enc _ => lifted_codecHeads os started H enc)
#print axioms codecHeads_holds
end Go.Proofs.Ytcolmebpbjjehab
