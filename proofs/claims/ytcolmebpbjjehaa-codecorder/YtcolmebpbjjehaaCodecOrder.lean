/- The bytes of two ints have the order of the ints, whatever stands behind them. -/
import Derived.Test.YtcolmebpbjjehaaOpen
import Derived.Test.YtcolmebpbjjehaaAppG
import Derived.Test.YtcolmebpbjjehaaCmp
import Derived.Lib.SmallJoins
import Derived.Deep.QuietTactic
import Derived.BigQuiet
namespace Go.Proofs.Ytcolmebpbjjehaa
open Go.ChangeShapes Go.WideShapes Go.ChangeAt Go.RowKit
open Go.ChangeMaps (open_string shut_string)
open Go.Joins
set_option linter.unusedVariables false

theorem cellsPair : Try.prog.cellsOf 43 = 2 := by kernel_rfl

theorem in_pair {H : Type} {enc : TypeId × Value → H} {W : World} {b0 : Nat} {v : Value} {d : DataW H} {p : List MemPlace} (hv : Value.okWide Try.prog W .any b0 43 v)
    (h : DataW.Trod enc Try.prog W 0 (fun _ => true) true 43 v d p) :
    ∃ a b, v = .agg #[.int .i64 a, .int .i64 b] ∧ d = .agg [.lit (.int .i64 a), .lit (.int .i64 b)] ∧ p = [] ∧ (Lit.int .i64 a).wf = true ∧ (Lit.int .i64 b).wf = true := by
  obtain ⟨c0, c1, y0, y1, m, rfl, rfl, rfl, hy0, hy1⟩ := open_agg2 Try.underlying43 (by kernel_rfl) cellsPair hv h
  obtain ⟨a, e0, rfl, wa⟩ := DataW.trod_int Try.underlying2 hy0
  obtain ⟨b, e1, rfl, wb⟩ := DataW.trod_int Try.underlying2 hy1
  simp at e0 e1
  subst e0 e1
  exact ⟨a, b, rfl, rfl, rfl, wa, wb⟩

theorem shut_pair {H : Type} {enc : TypeId × Value → H} {W' : World} {sp : Nat → Bool} {a b : Int} (wa : (Lit.int .i64 a).wf = true) (wb : (Lit.int .i64 b).wf = true) :
    DataW.Trod enc Try.prog W' 0 sp true 43 (.agg #[.int .i64 a, .int .i64 b]) (.agg [.lit (.int .i64 a), .lit (.int .i64 b)]) [] :=
  shut_agg2 (y0 := (.lit (.int .i64 a), [])) (y1 := (.lit (.int .i64 b), [])) Try.underlying43 (by kernel_rfl) cellsPair ⟨1, by simp [DataW.trod, Try.underlying2, wa]⟩ ⟨1, by simp [DataW.trod, Try.underlying2, wb]⟩

theorem lex_enc_self (a b : Int) (ha : -9223372036854775808 ≤ a ∧ a ≤ 9223372036854775807) (hb : -9223372036854775808 ≤ b ∧ b ≤ 9223372036854775807) : Cd.lex (Cd.enc a) (Cd.enc b) = Cd.cmp a b := by
  by_cases h : a = b
  · subst h
    rw [Cd.lex_self]
    simp [Cd.cmp]
  · have := Cd.lex_enc a b [] [] ha hb h
    rwa [List.append_nil, List.append_nil] at this

set_option maxHeartbeats 2000000 in
theorem walk_codecOrder (a b : Int) (p : Option Addr) (len cap : Nat) (xs : List Int) (q : Option Addr) (len2 cap2 : Nat) (ys : List Int) (w : World) (ha : (Lit.int .i64 a).wf = true) (hb : (Lit.int .i64 b).wf = true)
    (hin : InB 140737488351232 w p len cap xs) (hin2 : InB 140737488351232 w q len2 cap2 ys) :
    Calls Try.prog 5 #[.agg #[.int .i64 a, .int .i64 b], .slice p len cap, .slice q len2 cap2] w fun e w' => e = .returned (.bool true) ∧ Below w.heap.size w w' := by
  obtain ⟨a0, a1⟩ := bounds_i64 ha
  obtain ⟨b0, b1⟩ := bounds_i64 hb
  clear ha hb
  have HI : Hid (InB 140737488351232 w p len cap xs) := hin
  have HJ : Hid (InB 140737488351232 w q len2 cap2 ys) := hin2
  have hle := hin.le
  have hcap := hin.room
  have hle2 := hin2.le
  have hcap2 := hin2.room
  clear hin hin2
  have hA := Cd.width_pos a
  have hB := Cd.width_pos b
  go_enter Try.func5, Try.ntmps5
  go_wp2_with fail
  go_quiet (fail)
  obtain ⟨w1, hw1⟩ : ∃ w1, w1 = (w.alloc (.cells #[.int .i64 a, .int .i64 b] 43)).drewN nq := ⟨_, rfl⟩
  have hb1 : Below w.heap.size w w1 := by rw [hw1]; exact below_drewN ((Below.refl _ _).alloc (Nat.le_refl _) _) nq
  rw [← hw1]
  clear hw1
  have HI1 : Hid (InB 140737488351232 w1 p len cap xs) := HI.out.below hb1
  have HJ1 : Hid (InB 140737488351232 w1 q len2 cap2 ys) := HJ.out.below hb1
  have HJ0 := HJ
  clear HI HJ
  go_wp2_with fail
  refine (putInt_any none 0 0 [] a _ rfl (Bys.nil _ _) (by omega) (fun _ => ⟨rfl, rfl⟩) a0 a1).mono ?_
  rintro e w2 ⟨rfl, HO2, hb2⟩
  rw [Nat.zero_add, List.nil_append] at HO2
  rw [Nat.zero_add]
  have hb12 := hb1.trans (hb2.mono hb1.size)
  have HI2 : Hid (InB 140737488351232 w2 p len cap xs) := HI1.out.below hb2
  have HJ2 : Hid (InB 140737488351232 w2 q len2 cap2 ys) := HJ1.out.below hb2
  have hlt2 : w1.heap.size < w2.heap.size := (World.ownsRow.lt HO2 w1.heap.size rfl).2
  have hsz1 : w.heap.size ≤ w1.heap.size := hb1.size
  clear HI1 HJ1 hb1 hb2
  go_wp2_with fail
  refine (putInt_any none 0 0 [] b _ rfl (Bys.nil _ _) (by omega) (fun _ => ⟨rfl, rfl⟩) b0 b1).mono ?_
  rintro e w3 ⟨rfl, HO3, hb3⟩
  rw [Nat.zero_add, List.nil_append] at HO3
  rw [Nat.zero_add]
  have hb13 := hb12.trans (hb3.mono hb12.size)
  have HI3 : Hid (InB 140737488351232 w3 p len cap xs) := HI2.out.below hb3
  have HJ3 : Hid (InB 140737488351232 w3 q len2 cap2 ys) := HJ2.out.below hb3
  have HX3 : Own w3 w1.heap.size (.slice (some ⟨w1.heap.size, 0, none⟩) (Cd.width a) (Cd.width a)) (Cd.width a) (Cd.enc a) := HO2.below hb3 (Nat.le_refl _)
  clear HI2 HJ2 hb12 hb3 HO2
  go_wp2_with fail
  refine (live_any _).mono ?_
  rintro e w4 ⟨rfl, hb4⟩
  have HBW := hb13.trans (hb4.mono hb13.size)
  have HI4 : Hid (InB 140737488351232 w4 p len cap xs) := HI3.out.below hb4
  have HJ4 : Hid (InB 140737488351232 w4 q len2 cap2 ys) := HJ3.out.below hb4
  have HX4 : Own w4 w1.heap.size (.slice (some ⟨w1.heap.size, 0, none⟩) (Cd.width a) (Cd.width a)) (Cd.width a) (Cd.enc a) := HX3.below hb4 (Nat.le_refl _)
  have HY4 : Own w4 w2.heap.size (.slice (some ⟨w2.heap.size, 0, none⟩) (Cd.width b) (Cd.width b)) (Cd.width b) (Cd.enc b) := HO3.below hb4 (Nat.le_refl _)
  clear HI3 HJ3 hb13 hb4 HO3 HX3
  go_wp2_with fail
  refine (compare_any _ _ _ _ _ _ (Cd.enc a) (Cd.enc b) _ (Cd.enc_length a) (Cd.enc_length b) HX4.at HY4.at (fun h => by cases h) (fun h => by cases h) (enc_byte a a0 a1) (enc_byte b b0 b1)).mono ?_
  rintro e w5 ⟨rfl, hw5⟩
  subst hw5
  rw [lex_enc_self a b ⟨a0, a1⟩ ⟨b0, b1⟩]
  go_wp2_with fail
  refine (cmp_any a b _).mono ?_
  rintro e w6 ⟨rfl, hw6⟩
  subst hw6
  obtain ⟨C, hC⟩ : ∃ C, Cd.cmp a b = C := ⟨_, rfl⟩
  have HC : Hid (Cd.cmp a b = C) := hC
  rw [hC]
  clear hC
  have hCC : (C != C) = false := by simp
  by_cases hab : a = b
  · have habb : (a == b) = true := by simpa using hab
    have HAB : Hid _ := hab
    clear hab
    go_wp2
    go_ret
    exact ⟨rfl, HBW⟩
  · have habb : (a == b) = false := by simpa using hab
    have HAB : Hid (¬ a = b) := hab
    have hsz6 : w1.heap.size ≤ w6.heap.size := by have := (World.ownsRow.lt HX4 w1.heap.size rfl).2; omega
    have hsz6b : w2.heap.size ≤ w6.heap.size := by have := (World.ownsRow.lt HY4 w2.heap.size rfl).2; omega
    have HIB : Hid (∀ y ∈ xs, 0 ≤ y ∧ y < 256) := HI4.out.byte
    clear hab
    go_wp2_with (at_builtin; refine app8g _ rfl _ _ rfl w1.heap.size _ (Cd.width a) (Cd.enc a) rfl HX4 p len cap xs rfl HI4.out.bys HI4.out.lenq HI4.out.nil (by omega) hsz6 ?_)
    intro v7 w7 HX7 hg7 hat7
    have HY7 : Own w7 w2.heap.size (.slice (some ⟨w2.heap.size, 0, none⟩) (Cd.width b) (Cd.width b)) (Cd.width b) (Cd.enc b) := HY4.kept hg7 (Or.inr (by simp [Value.ownBlock]; omega))
    have hb7 : Below w.heap.size w w7 := HBW.grown hg7 (Nat.le_trans hsz1 hsz6) (fun k hk => by simp [Value.ownBlock] at hk; omega)
    have hsz7 : w6.heap.size ≤ w7.heap.size := hg7.size
    have HJ7 : Hid (InB 140737488351232 w7 q len2 cap2 ys) := HJ0.out.below hb7
    have hne7 : v7.ownBlock ≠ some w2.heap.size := by
      rcases hat7 with e | e
      · rw [e]
        simp [Value.ownBlock]
        omega
      · rw [e]
        have := (World.ownsRow.lt HY4 w2.heap.size rfl).2
        simp
        omega
    clear hg7 hat7 HI4 HX4 HY4
    go_wp2_with (at_builtin; refine app8g _ rfl _ _ rfl w2.heap.size _ (Cd.width b) (Cd.enc b) rfl HY7 q len2 cap2 ys rfl HJ7.out.bys HJ7.out.lenq HJ7.out.nil (by omega) (by omega) ?_)
    intro v8 w8 HY8 hg8 _
    have HX8 : Own w8 w1.heap.size v7 (Cd.width a + len) (Cd.enc a ++ xs) := HX7.kept hg8 (Or.inr (by simpa [Value.ownBlock] using hne7))
    have hb8 : Below w.heap.size w w8 := hb7.grown hg8 (by omega) (fun k hk => by simp [Value.ownBlock] at hk; omega)
    obtain ⟨p7, c7, hv7, hc7, hp7, hby7⟩ := HX8.bys
    subst hv7
    obtain ⟨p8, c8, hv8, hc8, hp8, hby8⟩ := HY8.bys
    subst hv8
    have HP7 : Hid (Bys w8 p7 (Cd.enc a ++ xs)) := hby7
    have HP8 : Hid (Bys w8 p8 (Cd.enc b ++ ys)) := hby8
    have HN7 : Hid (p7 = none → Cd.width a + len = 0 ∧ c7 = 0) := hp7
    have HN8 : Hid (p8 = none → Cd.width b + len2 = 0 ∧ c8 = 0) := hp8
    have HL7 : Hid _ := HX8.len
    have HL8 : Hid _ := HY8.len
    have HB7 : Hid (∀ y ∈ Cd.enc a ++ xs, 0 ≤ y ∧ y < 256) := app_byte (enc_byte a a0 a1) HIB.out
    have HB8 : Hid (∀ y ∈ Cd.enc b ++ ys, 0 ≤ y ∧ y < 256) := app_byte (enc_byte b b0 b1) HJ7.out.byte
    clear HX7 HY7 hg8 HX8 HY8 hby7 hby8 hp7 hp8 HJ7 HJ4 hb7
    go_wp2_with fail
    refine (compare_any p7 p8 c7 c8 _ _ _ _ _ HL7.out HL8.out HP7.out HP8.out HN7.out HN8.out HB7.out HB8.out).mono ?_
    rintro e w9 ⟨rfl, hw9⟩
    subst hw9
    rw [Cd.lex_enc a b xs ys ⟨a0, a1⟩ ⟨b0, b1⟩ HAB.out, HC.out]
    go_wp2_with fail
    refine (cmp_any a b _).mono ?_
    rintro e w10 ⟨rfl, hw10⟩
    subst hw10
    rw [HC.out]
    have hCe : (C == C) = true := by simp
    go_wp2
    go_ret
    exact ⟨rfl, hb8⟩

set_option maxRecDepth 100000 in
theorem lifted_codecOrder (os : Os) (started : os.Started) (H : Type) (enc : TypeId × Value → H) :
    ReturnsInHanded {} Try.checked os 5 .any (Rows.codecOrderSpec.pre6 enc Try.prog Try.f5 Rows.codecOrderRow.domain false) (Rows.codecOrderSpec.post enc Try.prog Try.f5 false true false false) := by
  refine returnsInHanded_of_change_sized (C := Try.checked) own started (by kernel_rfl) Try.func5
    (ChangeSpec.witness6 (enc := enc) (C := Try.checked) false ⟨#[], #[.agg #[.int .i64 0, .int .i64 0], .slice none 0 0, .slice none 0 0], []⟩ 8 (by kernel_rfl) (by kernel_rfl) (by kernel_rfl) (by kernel_rfl)) ?_
  intro W base args ds gs before hval0 hW _ hsz0 _
  have hsz : (DataW.weightsEach Try.prog (Try.f5.params.toList ++ Rows.codecOrderSpec.plain.varTypes Try.prog) (ds ++ gs)).all (· ≤ reachBytes) = true := hsz0
  clear hsz0
  have hval : ∀ (j : Nat) t v, Try.f5.params[j]? = some t → args[j]? = some v → Value.okWide Try.prog W .any base t v := hval0
  have hW' := hW
  obtain ⟨p, q, hA0, hV, rfl, hfz, hnd⟩ := hW
  have hA : DataW.TrodAll enc Try.prog W 0 (fun _ => true) true Try.f5.params.toList args.toList ds p := hA0
  rw [Try.params5] at hA hval hsz
  obtain ⟨v0, vs0, d0, ds0, p0, q0, hargs, rfl, rfl, h0, r0⟩ := trodAll_cons hA
  obtain ⟨v1, vs1, d1, ds1, p1, q1, rfl, rfl, rfl, h1, r1⟩ := trodAll_cons r0
  obtain ⟨v2, vs2, d2, ds2, p2, q2, rfl, rfl, rfl, h2, r2⟩ := trodAll_cons r1
  obtain ⟨rfl, rfl, rfl⟩ := trodAll_nil r2
  obtain rfl : args = #[v0, v1, v2] := by cases args; simp_all
  obtain ⟨rfl, rfl⟩ := trodVars_none hV
  obtain ⟨a0, b0, rfl, rfl, rfl, w0, x0⟩ := in_pair (hval 0 43 v0 rfl rfl) h0
  obtain ⟨a1, len1, cap1, rfl⟩ := okWide_slice Try.underlying22 (hval 1 22 v1 rfl rfl)
  have k1 := h1
  have lt1 : ∀ x ∈ p1, x.block < W.heap.size := by obtain ⟨m, hm⟩ := k1; exact DataW.trod_lt m _ _ _ hm
  obtain ⟨z1, w1⟩ : ∃ zs, InB 140737488351232 W a1 len1 cap1 zs := by
    refine in_bytes h1 ?_
    intro elems spare hd
    have := sized_slice hsz (j := 1) (t := 22) (e := 5) rfl (by rw [hd]; rfl) Try.underlying22
    rw [bytes_u8] at this
    simp only [reachBytes] at this
    omega
  obtain ⟨a2, len2, cap2, rfl⟩ := okWide_slice Try.underlying22 (hval 2 22 v2 rfl rfl)
  have k2 := h2
  have lt2 : ∀ x ∈ p2, x.block < W.heap.size := by obtain ⟨m, hm⟩ := k2; exact DataW.trod_lt m _ _ _ hm
  obtain ⟨z2, w2⟩ : ∃ zs, InB 140737488351232 W a2 len2 cap2 zs := by
    refine in_bytes h2 ?_
    intro elems spare hd
    have := sized_slice hsz (j := 2) (t := 22) (e := 5) rfl (by rw [hd]; rfl) Try.underlying22
    rw [bytes_u8] at this
    simp only [reachBytes] at this
    omega
  clear hA0 hval0
  refine (walk_codecOrder a0 b0 a1 len1 cap1 z1 a2 len2 cap2 z2 W w0 x0 w1 w2).mono fun e W' ⟨he, bel⟩ => ?_
  subst he
  exact ⟨_, rfl, _, _, _, [], _, [], hW', trodAll_mk1 (shut_bool Try.underlying4 _), (trodAll_cons_mk (shut_pair w0 x0) (trodAll_cons_mk (Below.trod laidOut (by kernel_rfl) (of_decide_eq_true (by kernel_rfl)) k1 bel lt1) (trodAll_cons_mk (Below.trod laidOut (by kernel_rfl) (of_decide_eq_true (by kernel_rfl)) k2 bel lt2) trodAll_mk0))), rfl, bel.frame _, fun h => by cases h⟩

/-- The statement. -/
theorem codecOrder_holds : Rows.CodecOrderSaid :=
  OpenClaim.holds_of_wide 5 Try.f5 rfl rfl rfl rfl rfl rfl rfl ⟨rfl, rfl, rfl, rfl, rfl⟩ rfl rfl rfl rfl rfl (by kernel_rfl) Try.func5 (by kernel_rfl)
    (of_decide_eq_true (by kernel_rfl)) (by unfold Func.isWrapper; first | (rw [if_pos (by decide +kernel)]; kernel_rfl) | (rw [if_neg (by decide +kernel)]; exact ⟨rfl, rfl⟩))
    (fun os started H enc _ => lifted_codecOrder os started H enc)
#print axioms codecOrder_holds
end Go.Proofs.Ytcolmebpbjjehaa
