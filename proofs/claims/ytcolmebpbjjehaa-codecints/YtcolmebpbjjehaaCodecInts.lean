/- codec.PutInt, Width and Int answer as the document's own words do, for every int and every bytes. -/
import Derived.Test.YtcolmebpbjjehaaOpen
import Derived.Test.YtcolmebpbjjehaaApp
namespace Go.Proofs.Ytcolmebpbjjehaa
open Go.ChangeShapes Go.WideShapes Go.ChangeAt Go.RowKit
open Go.ChangeMaps (open_string shut_string)
set_option linter.unusedVariables false

set_option maxHeartbeats 1000000 in
theorem walk_codecInts (n : Int) (p : Option Addr) (len cap : Nat) (xs : List Int) (w : World) (hn : (Lit.int .i64 n).wf = true) (hin : InB 140737488351232 w p len cap xs) :
    Calls Try.prog 3 #[.int .i64 n, .slice p len cap] w fun e w' => e = .returned (.bool true) ∧ Below w.heap.size w w' := by
  obtain ⟨h0, h1⟩ := bounds_i64 hn
  clear hn
  have HI : Hid (InB 140737488351232 w p len cap xs) := hin
  have hle := hin.le
  have hcap := hin.room
  have hw := Cd.width_pos n
  clear hin
  go_enter Try.func3, Try.ntmps3
  go_wp2_with fail
  refine (refInt_any n _ h0 h1).mono ?_
  rintro e w1 ⟨v1, rfl, HO1, hb1⟩
  obtain ⟨p1, c1, hv1, hc1, hp1, hby1⟩ := HO1.bys
  subst hv1
  obtain ⟨g, o, rfl, _⟩ := hby1 (by rw [HO1.len]; omega)
  have HW1 : Hid (Bys w1 (some ⟨g, o, none⟩) (Cd.enc n)) := hby1
  have HI1 : Hid (InB 140737488351232 w1 p len cap xs) := HI.out.below hb1
  clear HO1 hp1 hby1 HI
  go_wp2_with fail
  refine (int_any p cap len xs _ HI1.out.lenq HI1.out.bys hle (by omega) HI1.out.byte).mono ?_
  rintro e w1' ⟨rfl, hw1'⟩
  subst hw1'
  obtain ⟨D, hD⟩ : ∃ D, Cd.dec xs = D := ⟨_, rfl⟩
  have HD : Hid (Cd.dec xs = D) := hD
  rw [hD]
  clear hD
  obtain ⟨d1, d2, d3⟩ := D
  unfold three
  go_wp2_with fail
  refine (parse_any p cap len xs _ HI1.out.lenq HI1.out.bys hle (by omega) HI1.out.byte).mono ?_
  rintro e w1'' ⟨rfl, hw1''⟩
  subst hw1''
  rw [HD.out]
  unfold three
  go_wp2_with fail
  refine (live_any _).mono ?_
  rintro e w2 ⟨rfl, hb2⟩
  have hb12 := hb1.trans (hb2.mono hb1.size)
  have HI2 : Hid (InB 140737488351232 w2 p len cap xs) := HI1.out.below hb2
  have HW2 : Hid (Bys w2 (some ⟨g, o, none⟩) (Cd.enc n)) := HW1.out.below hb2 (Nat.le_refl _)
  clear HI1 HW1 hb1 hb2
  go_wp2_with fail
  refine (putInt_own p cap len xs n _ HI2.out.lenq HI2.out.bys (by omega) HI2.out.nil h0 h1).mono ?_
  rintro e w3 ⟨v3, rfl, HO3, hb3⟩
  have hb13 := hb12.trans (hb3.mono hb12.size)
  have HI3 : Hid (InB 140737488351232 w3 p len cap xs) := HI2.out.below hb3
  have HW3 : Hid (Bys w3 (some ⟨g, o, none⟩) (Cd.enc n)) := HW2.out.below hb3 (Nat.le_refl _)
  obtain ⟨p3, c3, hv3, hc3, hp3, hby3⟩ := HO3.bys
  subst hv3
  have HP3 : Hid (Bys w3 p3 (xs ++ Cd.enc n)) := hby3
  clear HI2 HW2 hb12 hb3 HO3 hby3 hp3
  go_wp2_with fail
  refine (clone_any p cap len xs _ HI3.out.lenq HI3.out.bys (by omega) HI3.out.nil).mono ?_
  rintro e w4 ⟨v4, rfl, HO4, hb4⟩
  have hb14 := hb13.trans (hb4.mono hb13.size)
  have HW4 : Hid (Bys w4 (some ⟨g, o, none⟩) (Cd.enc n)) := HW3.out.below hb4 (Nat.le_refl _)
  have hb13s := hb13.size
  have HIL : Hid _ := HI3.out.lenq
  have HIB : Hid _ := HI3.out.byte
  have hsz := hb4.size
  clear HI3 HW3 hb13
  go_wp2_with (at_builtin; refine app8 _ rfl _ _ rfl w3.heap.size v4 len xs rfl HO4 (some ⟨g, o, none⟩) (Cd.width n) c1 (Cd.enc n) rfl HW4.out (Cd.enc_length n) (fun h => by cases h) (by omega) hsz ?_)
  intro v5 w5 HO5 hb5
  have hsz3 : w.heap.size ≤ w3.heap.size := hb13s
  have hb15 := hb14.trans (hb5.mono hsz3)
  obtain ⟨p5, c5, hv5, hc5, hp5, hby5⟩ := HO5.bys
  subst hv5
  have HP5 : Hid (Bys w5 p3 (xs ++ Cd.enc n)) := HP3.out.below (hb4.trans (hb5.mono (Nat.le_refl _))) (Nat.le_refl _)
  have HQ5 : Hid (Bys w5 p5 (xs ++ Cd.enc n)) := hby5
  have HL5 : Hid ((xs ++ Cd.enc n).length = len + Cd.width n) := by rw [Hid, List.length_append, HIL.out, Cd.enc_length]
  have HB5 : Hid (∀ y ∈ xs ++ Cd.enc n, 0 ≤ y ∧ y < 256) := app_byte HIB.out (enc_byte n h0 h1)
  clear HO5 hb5 hp5 hby5 HO4 HW4 hb14 hb4 HP3 HIL HIB
  go_wp2_with fail
  refine (equal_any p3 p5 c3 c5 _ _ (xs ++ Cd.enc n) (xs ++ Cd.enc n) _ HL5.out HL5.out HP5.out HQ5.out HB5.out HB5.out).mono ?_
  rintro e w6 ⟨rfl, hw6⟩
  subst hw6
  simp only [decide_true]
  go_wp2_with fail
  refine (width_any n _ h0 h1).mono ?_
  rintro e w7 ⟨rfl, hw7⟩
  subst hw7
  go_wp2
  go_ret
  exact ⟨by simp, hb15⟩

set_option maxRecDepth 100000 in
theorem lifted_codecInts (os : Os) (started : os.Started) (H : Type) (enc : TypeId × Value → H) :
    ReturnsInHanded {} Try.checked os 3 .any (Rows.codecIntsSpec.pre6 enc Try.prog Try.f3 Rows.codecIntsRow.domain false) (Rows.codecIntsSpec.post enc Try.prog Try.f3 false true false false) := by
  refine returnsInHanded_of_change_sized (C := Try.checked) own started (by kernel_rfl) Try.func3
    (ChangeSpec.witness6 (enc := enc) (C := Try.checked) false ⟨#[], #[.int .i64 0, .slice none 0 0], []⟩ 8 (by kernel_rfl) (by kernel_rfl) (by kernel_rfl) (by kernel_rfl)) ?_
  intro W base args ds gs before hval0 hW _ hsz0 _
  have hsz : (DataW.weightsEach Try.prog (Try.f3.params.toList ++ Rows.codecIntsSpec.plain.varTypes Try.prog) (ds ++ gs)).all (· ≤ reachBytes) = true := hsz0
  clear hsz0
  have hval : ∀ (j : Nat) t v, Try.f3.params[j]? = some t → args[j]? = some v → Value.okWide Try.prog W .any base t v := hval0
  have hW' := hW
  obtain ⟨p, q, hA0, hV, rfl, hfz, hnd⟩ := hW
  have hA : DataW.TrodAll enc Try.prog W 0 (fun _ => true) true Try.f3.params.toList args.toList ds p := hA0
  rw [Try.params3] at hA hval hsz
  obtain ⟨v0, vs0, d0, ds0, p0, q0, hargs, rfl, rfl, h0, r0⟩ := trodAll_cons hA
  obtain ⟨v1, vs1, d1, ds1, p1, q1, rfl, rfl, rfl, h1, r1⟩ := trodAll_cons r0
  obtain ⟨rfl, rfl, rfl⟩ := trodAll_nil r1
  obtain rfl : args = #[v0, v1] := by cases args; simp_all
  obtain ⟨rfl, rfl⟩ := trodVars_none hV
  obtain ⟨a0, rfl, rfl, rfl, w0⟩ := open_int Try.underlying2 (hval 0 2 v0 rfl rfl) h0
  obtain ⟨a1, len1, cap1, rfl⟩ := okWide_slice Try.underlying22 (hval 1 22 v1 rfl rfl)
  have k1 := h1
  have lt1 : ∀ x ∈ p1, x.block < W.heap.size := by obtain ⟨m, hm⟩ := k1; exact DataW.trod_lt m _ _ _ hm
  obtain ⟨z1, w1⟩ : ∃ zs, InB 140737488351232 W a1 len1 cap1 zs := by
    refine in_bytes h1 ?_
    intro elems spare hd
    have := sized_slice hsz (j := 1) (t := 22) (e := 5) rfl (by rw [hd]; rfl) Try.underlying22
    rw [bytes_u8] at this
    simp only [reachBytes] at this
    omega
  clear hA0 hval0
  refine (walk_codecInts a0 a1 len1 cap1 z1 W w0 w1).mono fun e W' ⟨he, bel⟩ => ?_
  subst he
  exact ⟨_, rfl, _, _, _, [], _, [], hW', trodAll_mk1 (shut_bool Try.underlying4 _), (trodAll_cons_mk (shut_int Try.underlying2 w0) (trodAll_cons_mk (Below.trod laidOut (by kernel_rfl) (of_decide_eq_true (by kernel_rfl)) k1 bel lt1) trodAll_mk0)), rfl, bel.frame _, fun h => by cases h⟩

/-- The statement. -/
theorem codecInts_holds : Rows.CodecIntsSaid :=
  OpenClaim.holds_of_wide 3 Try.f3 rfl rfl rfl rfl rfl rfl rfl ⟨rfl, rfl, rfl, rfl, rfl⟩ rfl rfl rfl rfl rfl (by kernel_rfl) Try.func3 (by kernel_rfl)
    (of_decide_eq_true (by kernel_rfl)) (by unfold Func.isWrapper; first | (rw [if_pos (by decide +kernel)]; kernel_rfl) | (rw [if_neg (by decide +kernel)]; exact ⟨rfl, rfl⟩))
    (fun os started H enc _ => lifted_codecInts os started H enc)
#print axioms codecInts_holds
end Go.Proofs.Ytcolmebpbjjehaa
