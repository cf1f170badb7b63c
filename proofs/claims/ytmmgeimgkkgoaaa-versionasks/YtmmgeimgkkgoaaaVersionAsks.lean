/- Which versions may be, what each timestamp sees of any, and which lists are the same, are as the document says, of whatever versions. -/
import Derived.Test.YtmmgeimgkkgoaaaVsD
import Derived.Test.YtmmgeimgkkgoaaaVsL
import Derived.Test.YtmmgeimgkkgoaaaVsOpen
namespace Go.Proofs.Ytmmgeimgkkgoaaa
open Go.ChangeShapes Go.WideShapes Go.ChangeAt Go.RowKit
open Go.ChangeMaps (open_string shut_string)
set_option linter.unusedVariables false
set_option maxRecDepth 100000

set_option maxHeartbeats 8000000 in
theorem walk_versionAsks (p : Option Addr) (n c : Nat) (l : List Vs) (ts : Int) (q : Option Addr) (m d : Nat) (r : List Vs) (w : World) (hin : InV w p n c l) (hts : (Lit.int .i64 ts).wf = true) (hin2 : InV w q m d r) :
    Calls Try.prog 3 #[.slice p n c, .int .i64 ts, .slice q m d] w fun e w' => e = .returned (.bool true) ∧ Below w.heap.size w w' := by
  obtain ⟨hv, hn, ho, hp, hl⟩ := InV.vrs hin
  obtain ⟨hv2, hn2, -, -, hl2⟩ := InV.vrs hin2
  have HX : Hid (∀ W, Below w.heap.size w W → Vrs W p l ∧ Vrs W q r) := fun W hW => ⟨Els.below hv hW (Nat.le_refl _), Els.below hv2 hW (Nat.le_refl _)⟩
  have HN : Hid (l.length = n ∧ r.length = m) := ⟨hn, hn2⟩
  have HO : Hid (Vr.Okl l) := ho
  have hl' : n ≤ 4611686018427387904 := by omega
  have hl2' : m ≤ 4611686018427387904 := by omega
  obtain ⟨z, hz⟩ : ∃ z, (Vr.at? l ts).getD Vs.zero = z := ⟨_, rfl⟩
  obtain ⟨iz, hiz⟩ : ∃ iz, (Vr.at? l ts).isSome = iz := ⟨_, rfl⟩
  have HZ : Hid (Vr.atV (Vr.at? l ts) = .tuple #[z.v, .bool iz]) := by unfold Hid Vr.atV; rw [hz, hiz]
  obtain ⟨s, hs⟩ : ∃ s, (Vr.val? (Vr.at? l ts)).getD ⟨#[]⟩ = s := ⟨_, rfl⟩
  obtain ⟨js, hjs⟩ : ∃ js, (Vr.val? (Vr.at? l ts)).isSome = js := ⟨_, rfl⟩
  have HS : Hid (Vr.valV (Vr.val? (Vr.at? l ts)) = .tuple #[.string s, .bool js]) := by unfold Hid Vr.valV; rw [hs, hjs]
  obtain ⟨z1, z2, z3⟩ := z
  have heq : ∀ w, (Op.equalIn 10000 24 (.agg #[.int .i64 z1, .string z2, .bool z3]) (.agg #[.int .i64 z1, .string z2, .bool z3])).run Try.prog w = .ok true w := fun w => by rw [eqIn_v]; rw [Vr.eqb_refl]
  have heq2 : ∀ w, (binOp .eql 24 (.agg #[.int .i64 z1, .string z2, .bool z3]) (.agg #[.int .i64 z1, .string z2, .bool z3])).run Try.prog w = .ok (.bool true) w := fun w => by rw [run_eql_v]; rw [Vr.eqb_refl]
  clear hin hin2 hv hn ho hp hts hv2 hn2 hz hiz hs hjs
  go_enter Try.func3, Try.ntmps3
  go_wp2_with fail
  refine (at_any p n c l ts _ HN.out.1 (HX.out _ (Below.refl _ _)).1 hl').mono ?_
  rintro e w2 ⟨rfl, b2⟩
  rw [HZ.out]
  obtain ⟨w3, hw3⟩ : ∃ w3, w2.alloc (.cells #[.int .i64 z1, .string z2, .bool z3] 24) = w3 := ⟨_, rfl⟩
  have HK3 : Hid (Bk w3 w2.heap.size 24 #[.int .i64 z1, .string z2, .bool z3]) := by rw [← hw3]; exact Bk.new _ _ _
  have HB3 : Hid (Below w.heap.size w w3) := by rw [← hw3]; exact b2.alloc b2.size _
  clear b2
  go_wp2_with fail
  refine (dat_any p n c l ts _ HN.out.1 (HX.out _ HB3.out).1 hl').mono ?_
  rintro e w4 ⟨rfl, b4⟩
  rw [HZ.out]
  obtain ⟨w5, hw5⟩ : ∃ w5, w4.alloc (.cells #[.int .i64 z1, .string z2, .bool z3] 24) = w5 := ⟨_, rfl⟩
  have hb5 : Below w4.heap.size w4 w5 := by rw [← hw5]; exact (Below.refl _ _).alloc (Nat.le_refl _) _
  have hk5 : Bk w5 w4.heap.size 24 #[.int .i64 z1, .string z2, .bool z3] := by rw [← hw5]; exact Bk.new _ _ _
  have hk4 := HK3.out.below b4 HK3.out.lt
  have HK5 : Hid (Bk w5 w4.heap.size 24 #[.int .i64 z1, .string z2, .bool z3] ∧ Bk w5 w2.heap.size 24 #[.int .i64 z1, .string z2, .bool z3]) := ⟨hk5, hk4.below hb5 hk4.lt⟩
  have HB5 : Hid (Below w.heap.size w w5) := by
    have := HB3.out.trans (b4.mono HB3.out.size)
    exact this.trans (hb5.mono this.size)
  clear b4 hb5 hk5 hk4 HK3 HB3 hw3
  go_wp2_with fail
  refine (value_any p n c l ts _ HN.out.1 (HX.out _ HB5.out).1 hl').mono ?_
  rintro e w6 ⟨rfl, b6⟩
  rw [HS.out]
  have HK6 : Hid (Bk w6 w4.heap.size 24 #[.int .i64 z1, .string z2, .bool z3] ∧ Bk w6 w2.heap.size 24 #[.int .i64 z1, .string z2, .bool z3]) := ⟨HK5.out.1.below b6 HK5.out.1.lt, HK5.out.2.below b6 HK5.out.2.lt⟩
  have HB6 : Hid (Below w.heap.size w w6) := HB5.out.trans (b6.mono HB5.out.size)
  clear b6 HK5 HB5 hw5
  go_wp2_with fail
  refine (dval_any p n c l ts _ HN.out.1 (HX.out _ HB6.out).1 hl').mono ?_
  rintro e w7 ⟨rfl, b7⟩
  rw [HS.out]
  have HK7 : Hid (Bk w7 w4.heap.size 24 #[.int .i64 z1, .string z2, .bool z3] ∧ Bk w7 w2.heap.size 24 #[.int .i64 z1, .string z2, .bool z3]) := ⟨HK6.out.1.below b7 HK6.out.1.lt, HK6.out.2.below b7 HK6.out.2.lt⟩
  have HB7 : Hid (Below w.heap.size w w7) := HB6.out.trans (b7.mono HB6.out.size)
  clear b7 HK6 HB6
  go_wp2_with fail
  refine (live_any _).mono ?_
  rintro e w8 ⟨rfl, b8⟩
  have HK8 : Hid (Bk w8 w4.heap.size 24 #[.int .i64 z1, .string z2, .bool z3] ∧ Bk w8 w2.heap.size 24 #[.int .i64 z1, .string z2, .bool z3]) := ⟨HK7.out.1.below b8 HK7.out.1.lt, HK7.out.2.below b8 HK7.out.2.lt⟩
  have HB8 : Hid (Below w.heap.size w w8) := HB7.out.trans (b8.mono HB7.out.size)
  clear b8 HK7 HB7
  go_wp2_with fail
  refine (check_any p n c l _ HN.out.1 (HX.out _ HB8.out).1 HO.out hl').mono ?_
  rintro e w9 ⟨rfl, b9⟩
  have HK9 : Hid (Bk w9 w4.heap.size 24 #[.int .i64 z1, .string z2, .bool z3] ∧ Bk w9 w2.heap.size 24 #[.int .i64 z1, .string z2, .bool z3]) := ⟨HK8.out.1.below b9 HK8.out.1.lt, HK8.out.2.below b9 HK8.out.2.lt⟩
  have HB9 : Hid (Below w.heap.size w w9) := HB8.out.trans (b9.mono HB8.out.size)
  clear b9 HK8 HB8
  go_wp2_with fail
  refine (dcheck_any p n c l _ HN.out.1 (HX.out _ HB9.out).1 HO.out hl').mono ?_
  rintro e wa ⟨rfl, ba⟩
  have HKa : Hid (Bk wa w4.heap.size 24 #[.int .i64 z1, .string z2, .bool z3] ∧ Bk wa w2.heap.size 24 #[.int .i64 z1, .string z2, .bool z3]) := ⟨HK9.out.1.below ba HK9.out.1.lt, HK9.out.2.below ba HK9.out.2.lt⟩
  have HBa : Hid (Below w.heap.size w wa) := HB9.out.trans (ba.mono HB9.out.size)
  obtain ⟨ck, hck⟩ : ∃ ck, Vr.check l = ck := ⟨_, rfl⟩
  rw [hck]
  have a0 : wa.cell? ⟨w4.heap.size, 0, none⟩ = some (.int .i64 z1) := HKa.out.1.cell 0
  have a1 : wa.cell? ⟨w4.heap.size, 1, none⟩ = some (.string z2) := HKa.out.1.cell 1
  have a2 : wa.cell? ⟨w4.heap.size, 2, none⟩ = some (.bool z3) := HKa.out.1.cell 2
  have c0 : wa.cell? ⟨w2.heap.size, 0, none⟩ = some (.int .i64 z1) := HKa.out.2.cell 0
  have c1 : wa.cell? ⟨w2.heap.size, 1, none⟩ = some (.string z2) := HKa.out.2.cell 1
  have c2 : wa.cell? ⟨w2.heap.size, 2, none⟩ = some (.bool z3) := HKa.out.2.cell 2
  clear ba HK9 HB9 HKa hck
  go_wp2_with fail
  refine (same_any p q n m c d l r _ HN.out.1 HN.out.2 (HX.out _ HBa.out).1 (HX.out _ HBa.out).2 hl' hl2').mono ?_
  rintro e wb ⟨rfl, bb⟩
  have HBb : Hid (Below w.heap.size w wb) := HBa.out.trans (bb.mono HBa.out.size)
  clear bb HBa a0 a1 a2 c0 c1 c2
  go_wp2_with fail
  refine (dsame_any p q n m c d l r _ HN.out.1 HN.out.2 (HX.out _ HBb.out).1 (HX.out _ HBb.out).2 hl' hl2').mono ?_
  rintro e wc ⟨rfl, bc⟩
  have HBc : Hid (Below w.heap.size w wc) := HBb.out.trans (bc.mono HBb.out.size)
  clear bc HBb
  obtain ⟨sm, hsm⟩ : ∃ sm, Vr.same l r = sm := ⟨_, rfl⟩
  rw [hsm]
  have hb1 : (sm == sm) = true := by cases sm <;> rfl
  clear hsm
  go_wp2_with fail
  refine (same_any p p n n c c l l _ HN.out.1 HN.out.1 (HX.out _ HBc.out).1 (HX.out _ HBc.out).1 hl' hl').mono ?_
  rintro e wd ⟨rfl, bd⟩
  rw [Vr.same_refl]
  have HBd : Hid (Below w.heap.size w wd) := HBc.out.trans (bd.mono HBc.out.size)
  clear bd HBc
  go_wp2
  go_ret
  exact ⟨rfl, HBd.out⟩

set_option maxRecDepth 100000 in
set_option maxHeartbeats 2000000 in
theorem lifted_versionAsks (os : Os) (started : os.Started) (H : Type) (enc : TypeId × Value → H) :
    ReturnsInHanded {} Try.checked os 3 .any (Rows.versionAsksSpec.pre6 enc Try.prog Try.f3 Rows.versionAsksRow.domain false) (Rows.versionAsksSpec.post enc Try.prog Try.f3 false true false false) := by
  refine returnsInHanded_of_change_sized (C := Try.checked) own started (by kernel_rfl) Try.func3
    (ChangeSpec.witness6 (enc := enc) (C := Try.checked) false ⟨#[], #[.slice none 0 0, .int .i64 0, .slice none 0 0], []⟩ 8 (by kernel_rfl) (by kernel_rfl) (by kernel_rfl) (by kernel_rfl)) ?_
  intro W base args ds gs before hval0 hW _ hsz0 _
  have hsz : (DataW.weightsEach Try.prog (Try.f3.params.toList ++ Rows.versionAsksSpec.plain.varTypes Try.prog) (ds ++ gs)).all (· ≤ reachBytes) = true := hsz0
  clear hsz0
  have hval : ∀ (j : Nat) t v, Try.f3.params[j]? = some t → args[j]? = some v → Value.okWide Try.prog W .any base t v := hval0
  have hW' := hW
  obtain ⟨p, q, hA0, hV, rfl, hfz, hnd⟩ := hW
  have hA : DataW.TrodAll enc Try.prog W 0 (fun _ => true) true Try.f3.params.toList args.toList ds p := hA0
  rw [Try.params3] at hA hval hsz
  obtain ⟨v0, vs0, d0, ds0, p0, q0, hargs, rfl, rfl, h0, r0⟩ := trodAll_cons hA
  obtain ⟨v1, vs1, d1, ds1, p1, q1, rfl, rfl, rfl, h1, r1⟩ := trodAll_cons r0
  obtain ⟨v2, vs2, d2, ds2, p2, q2, rfl, rfl, rfl, h2, r2⟩ := trodAll_cons r1
  obtain ⟨rfl, rfl, rfl⟩ := trodAll_nil r2
  obtain rfl : args = #[v0, v1, v2] := by cases args; simp_all
  obtain ⟨rfl, rfl⟩ := trodVars_none hV
  obtain ⟨a0, len0, cap0, rfl⟩ := okWide_slice Try.underlying22 (hval 0 22 v0 rfl rfl)
  have k0 := h0
  have lt0 : ∀ x ∈ p0, x.block < W.heap.size := by obtain ⟨m, hm⟩ := k0; exact DataW.trod_lt m _ _ _ hm
  obtain ⟨z0, w0⟩ : ∃ l, InV W a0 len0 cap0 l := by
    refine in_vers h0 fun n hn => ?_
    have := of_decide_eq_true (List.all_eq_true.1 hsz _ (DataW.weights_mem_each (j := 0) (t := 22) rfl rfl n hn))
    simp only [reachBytes] at this
    omega
  obtain ⟨a1, rfl, rfl, rfl, w1⟩ := open_int Try.underlying2 (hval 1 2 v1 rfl rfl) h1
  obtain ⟨a2, len2, cap2, rfl⟩ := okWide_slice Try.underlying22 (hval 2 22 v2 rfl rfl)
  have k2 := h2
  have lt2 : ∀ x ∈ p2, x.block < W.heap.size := by obtain ⟨m, hm⟩ := k2; exact DataW.trod_lt m _ _ _ hm
  obtain ⟨z2, w2⟩ : ∃ l, InV W a2 len2 cap2 l := by
    refine in_vers h2 fun n hn => ?_
    have := of_decide_eq_true (List.all_eq_true.1 hsz _ (DataW.weights_mem_each (j := 2) (t := 22) rfl rfl n hn))
    simp only [reachBytes] at this
    omega
  clear hA0 hval0
  refine (walk_versionAsks a0 len0 cap0 z0 a1 a2 len2 cap2 z2 W w0 w1 w2).mono fun e W' ⟨he, bel⟩ => ?_
  subst he
  exact ⟨_, rfl, _, _, _, [], _, [], hW', trodAll_mk1 (shut_bool Try.underlying4 _), (trodAll_cons_mk (Below.trod laidOut (by kernel_rfl) (of_decide_eq_true (by kernel_rfl)) k0 bel lt0) (trodAll_cons_mk (shut_int Try.underlying2 w1) (trodAll_cons_mk (Below.trod laidOut (by kernel_rfl) (of_decide_eq_true (by kernel_rfl)) k2 bel lt2) trodAll_mk0))), rfl, bel.frame _, fun h => by cases h⟩

/-- The statement. -/
theorem versionAsks_holds : Rows.VersionAsksSaid :=
  OpenClaim.holds_of_wide 3 Try.f3 rfl rfl rfl rfl rfl rfl rfl ⟨rfl, rfl, rfl, rfl, rfl⟩ rfl rfl rfl rfl rfl (by kernel_rfl) Try.func3 (by kernel_rfl)
    (of_decide_eq_true (by kernel_rfl)) (by unfold Func.isWrapper; first | (rw [if_pos (by decide +kernel)]; kernel_rfl) | (rw [if_neg (by decide +kernel)]; exact ⟨rfl, rfl⟩))
    (fun os started H enc _ => lifted_versionAsks os started H enc)
#print axioms versionAsks_holds
end Go.Proofs.Ytmmgeimgkkgoaaa
