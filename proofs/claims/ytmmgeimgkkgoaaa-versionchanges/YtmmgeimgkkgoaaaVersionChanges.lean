/- Of whatever versions, Put answers what the document's does, and so does Prune, at any mark. -/
import Derived.Test.YtmmgeimgkkgoaaaVsS
import Derived.Test.YtmmgeimgkkgoaaaVsQ
import Derived.Test.YtmmgeimgkkgoaaaVsL
import Derived.Test.YtmmgeimgkkgoaaaVsOpen
namespace Go.Proofs.Ytmmgeimgkkgoaaa
open Go.ChangeShapes Go.WideShapes Go.ChangeAt Go.RowKit
open Go.ChangeMaps (open_string shut_string)
set_option linter.unusedVariables false
set_option maxRecDepth 100000

theorem putL_len {l : List Vs} {x : Vs} {n : Nat} (h : l.length = n) (hn : n ≤ 4398046510976) : (Vr.putL l x).length ≤ 4611686018427387904 := by
  unfold Vr.putL
  split
  · simp
    omega
  · simp

theorem prune_lens {mark : Int} {l : List Vs} {n : Nat} (h : l.length = n) (hn : n ≤ 4398046510976) : (Vr.prune mark l).kept.length ≤ 4398046510976 ∧ (Vr.prune mark l).rest.length ≤ 4398046510976 := by
  have := Vr.prune_len mark l
  omega

set_option maxHeartbeats 8000000 in
theorem walk_versionChanges (p : Option Addr) (n c : Nat) (l : List Vs) (x : Vs) (mark : Int) (w : World) (hin : InV w p n c l) (hx : x.ok) (hm : (Lit.int .i64 mark).wf = true) :
    Calls Try.prog 4 #[.slice p n c, x.v, .int .i64 mark] w fun e w' => e = .returned (.bool true) ∧ Below w.heap.size w w' := by
  obtain ⟨hv, hn, ho, hp, hl⟩ := InV.vrs hin
  have HX : Hid (∀ W, Below w.heap.size w W → Vrs W p l) := fun W hW => Els.below hv hW (Nat.le_refl _)
  have HN : Hid (l.length = n) := hn
  have HP : Hid (p = none → n = 0 ∧ c = 0) := hp
  have HS : Hid (x.val.size ≤ 9223372036854775807) := hx
  have HPL : Hid ((Vr.putL l x).length ≤ 4611686018427387904) := putL_len hn hl
  have HRL : Hid ((Vr.prune mark l).kept.length ≤ 4398046510976 ∧ (Vr.prune mark l).rest.length ≤ 4398046510976) := prune_lens hn hl
  obtain ⟨x1, x2, x3⟩ := x
  obtain ⟨w1, hw1⟩ : ∃ w1, w.alloc (.cells #[.int .i64 x1, .string x2, .bool x3] 24) = w1 := ⟨_, rfl⟩
  have k1 : Bk w1 w.heap.size 24 #[.int .i64 x1, .string x2, .bool x3] := by rw [← hw1]; exact Bk.new _ _ _
  have HK1 : Hid (Bk w1 w.heap.size 24 #[.int .i64 x1, .string x2, .bool x3]) := k1
  have HB1 : Hid (Below w.heap.size w w1) := by rw [← hw1]; exact (Below.refl _ _).alloc (Nat.le_refl _) _
  have d0 : w1.cell? ⟨w.heap.size, 0, none⟩ = some (.int .i64 x1) := k1.cell 0
  have d1 : w1.cell? ⟨w.heap.size, 1, none⟩ = some (.string x2) := k1.cell 1
  have d2 : w1.cell? ⟨w.heap.size, 2, none⟩ = some (.bool x3) := k1.cell 2
  clear hin hv hn ho hp hx hm k1
  go_enter Try.func4, Try.ntmps4
  go_wp2_with fail
  refine (put_any p n c l ⟨x1, x2, x3⟩ _ HN.out (HX.out _ HB1.out) HP.out HS.out hl).mono ?_
  rintro e w2 ⟨u2, rfl, o2, b2⟩
  obtain ⟨p2, c2, rfl, v2, -, -⟩ := o2.els vknd
  have HB2 : Hid (Below w.heap.size w w2) := HB1.out.trans (b2.mono HB1.out.size)
  have HV2 : Hid (∀ W, Below w2.heap.size w2 W → Vrs W p2 (Vr.putL l ⟨x1, x2, x3⟩)) := fun W hW => Els.below v2 hW (Nat.le_refl _)
  have k2 := HK1.out.below b2 HK1.out.lt
  have HK2 : Hid (Bk w2 w.heap.size 24 #[.int .i64 x1, .string x2, .bool x3]) := k2
  have e0 : w2.cell? ⟨w.heap.size, 0, none⟩ = some (.int .i64 x1) := k2.cell 0
  have e1 : w2.cell? ⟨w.heap.size, 1, none⟩ = some (.string x2) := k2.cell 1
  have e2 : w2.cell? ⟨w.heap.size, 2, none⟩ = some (.bool x3) := k2.cell 2
  obtain ⟨pl, hpl⟩ : ∃ pl, Vr.putL l ⟨x1, x2, x3⟩ = pl := ⟨_, rfl⟩
  obtain ⟨pe, hpe⟩ : ∃ pe, Vr.putE l ⟨x1, x2, x3⟩ = pe := ⟨_, rfl⟩
  have HPE : Hid (Vr.putE l ⟨x1, x2, x3⟩ = pe) := hpe
  have HPLQ : Hid (Vr.putL l ⟨x1, x2, x3⟩ = pl) := hpl
  rw [hpl] at HV2 HPL ⊢
  rw [hpe]
  obtain ⟨m2, hm2⟩ : ∃ m2, pl.length = m2 := ⟨_, rfl⟩
  have HM2 : Hid (pl.length = m2) := hm2
  rw [hm2] at HPL ⊢
  clear o2 b2 v2 k2 hpl hpe hm2 HK1 HB1 d0 d1 d2 hw1
  go_wp2_with fail
  refine (dput_any p n c l ⟨x1, x2, x3⟩ _ HN.out (HX.out _ HB2.out) HP.out HS.out hl).mono ?_
  rintro e w3 ⟨u3, rfl, o3, b3⟩
  obtain ⟨p3, c3, rfl, v3, -, -⟩ := o3.els vknd
  have HB3 : Hid (Below w.heap.size w w3) := HB2.out.trans (b3.mono HB2.out.size)
  rw [HPLQ.out, HM2.out, HPE.out]
  rw [HPLQ.out] at v3
  have HV3 : Hid (∀ W, Below w3.heap.size w3 W → Vrs W p2 pl ∧ Vrs W p3 pl) := fun W hW => ⟨HV2.out W (b3.trans (hW.mono b3.size)), Els.below v3 hW (Nat.le_refl _)⟩
  clear o3 b3 v3 e0 e1 e2 HK2 HV2 HB2
  go_wp2_with fail
  refine (prune_any p n c l mark _ HN.out (HX.out _ HB3.out) hl).mono ?_
  rintro e w4 ⟨u4, t4, rfl, h4⟩
  obtain ⟨p4, c4, rfl, v4, -, -⟩ := h4.o1.els vknd
  obtain ⟨q4, d4, rfl, y4, -, -⟩ := h4.o2.els vknd
  obtain ⟨kl, hkl⟩ : ∃ kl, (Vr.prune mark l).kept = kl := ⟨_, rfl⟩
  obtain ⟨rl, hrl⟩ : ∃ rl, (Vr.prune mark l).rest = rl := ⟨_, rfl⟩
  have HKL : Hid ((Vr.prune mark l).kept = kl ∧ (Vr.prune mark l).rest = rl) := ⟨hkl, hrl⟩
  rw [hkl] at v4 HRL ⊢
  rw [hrl] at y4 HRL ⊢
  obtain ⟨nk, hnk⟩ : ∃ nk, kl.length = nk := ⟨_, rfl⟩
  obtain ⟨nr, hnr⟩ : ∃ nr, rl.length = nr := ⟨_, rfl⟩
  have HNK : Hid (kl.length = nk ∧ rl.length = nr) := ⟨hnk, hnr⟩
  rw [hnk, hnr] at HRL ⊢
  have b4 := h4.below
  have HB4 : Hid (Below w.heap.size w w4) := HB3.out.trans (b4.mono HB3.out.size)
  have HV4 : Hid (∀ W, Below w4.heap.size w4 W → (Vrs W p2 pl ∧ Vrs W p3 pl) ∧ Vrs W p4 kl ∧ Vrs W q4 rl) := fun W hW => ⟨HV3.out W (b4.trans (hW.mono b4.size)), Els.below v4 hW (Nat.le_refl _), Els.below y4 hW (Nat.le_refl _)⟩
  clear h4 v4 y4 b4 hkl hrl hnk hnr HV3 HB3
  go_wp2_with fail
  refine (dprune_any p n c l mark _ HN.out (HX.out _ HB4.out) hl).mono ?_
  rintro e w5 ⟨u5, t5, rfl, h5⟩
  obtain ⟨p5, c5, rfl, v5, -, -⟩ := h5.o1.els vknd
  obtain ⟨q5, d5, rfl, y5, -, -⟩ := h5.o2.els vknd
  rw [HKL.out.1] at v5 ⊢
  rw [HKL.out.2] at y5 ⊢
  rw [HNK.out.1, HNK.out.2]
  have b5 := h5.below
  have HB5 : Hid (Below w.heap.size w w5) := HB4.out.trans (b5.mono HB4.out.size)
  have HV5 : Hid (∀ W, Below w5.heap.size w5 W → (Vrs W p2 pl ∧ Vrs W p3 pl) ∧ (Vrs W p4 kl ∧ Vrs W q4 rl) ∧ Vrs W p5 kl ∧ Vrs W q5 rl) := fun W hW => by
    obtain ⟨z1, z2⟩ := HV4.out W (b5.trans (hW.mono b5.size))
    exact ⟨z1, z2, Els.below v5 hW (Nat.le_refl _), Els.below y5 hW (Nat.le_refl _)⟩
  clear h5 v5 y5 b5 HV4 HB4 HKL
  go_wp2_with fail
  refine (live_any _).mono ?_
  rintro e w6 ⟨rfl, b6⟩
  have HB6 : Hid (Below w.heap.size w w6) := HB5.out.trans (b6.mono HB5.out.size)
  have HV6 : Hid (∀ W, Below w6.heap.size w6 W → (Vrs W p2 pl ∧ Vrs W p3 pl) ∧ (Vrs W p4 kl ∧ Vrs W q4 rl) ∧ Vrs W p5 kl ∧ Vrs W q5 rl) := fun W hW => HV5.out W (b6.trans (hW.mono b6.size))
  clear b6 HV5 HB5
  go_wp2_with fail
  refine (dsame_any p2 p3 m2 m2 c2 c3 pl pl _ HM2.out HM2.out (HV6.out _ (Below.refl _ _)).1.1 (HV6.out _ (Below.refl _ _)).1.2 HPL.out HPL.out).mono ?_
  rintro e w7 ⟨rfl, b7⟩
  rw [Vr.same_refl]
  have HB7 : Hid (Below w.heap.size w w7) := HB6.out.trans (b7.mono HB6.out.size)
  have HV7 : Hid (∀ W, Below w7.heap.size w7 W → (Vrs W p4 kl ∧ Vrs W q4 rl) ∧ Vrs W p5 kl ∧ Vrs W q5 rl) := fun W hW => (HV6.out W (b7.trans (hW.mono b7.size))).2
  clear b7 HV6 HB6
  go_wp2_with fail
  refine (dsame_any p4 p5 nk nk c4 c5 kl kl _ HNK.out.1 HNK.out.1 (HV7.out _ (Below.refl _ _)).1.1 (HV7.out _ (Below.refl _ _)).2.1 (by have := HRL.out.1; omega) (by have := HRL.out.1; omega)).mono ?_
  rintro e w8 ⟨rfl, b8⟩
  rw [Vr.same_refl]
  have HB8 : Hid (Below w.heap.size w w8) := HB7.out.trans (b8.mono HB7.out.size)
  have HV8 : Hid (Vrs w8 q4 rl ∧ Vrs w8 q5 rl) := by
    have := HV7.out w8 b8
    exact ⟨this.1.2, this.2.2⟩
  clear b8 HV7 HB7
  go_wp2_with fail
  refine (dsame_any q4 q5 nr nr d4 d5 rl rl _ HNK.out.2 HNK.out.2 HV8.out.1 HV8.out.2 (by have := HRL.out.2; omega) (by have := HRL.out.2; omega)).mono ?_
  rintro e w9 ⟨rfl, b9⟩
  rw [Vr.same_refl]
  have HB9 : Hid (Below w.heap.size w w9) := HB8.out.trans (b9.mono HB8.out.size)
  clear b9 HV8 HB8
  go_wp2
  go_ret
  exact ⟨rfl, HB9.out⟩

set_option maxRecDepth 100000 in
set_option maxHeartbeats 2000000 in
theorem lifted_versionChanges (os : Os) (started : os.Started) (H : Type) (enc : TypeId × Value → H) :
    ReturnsInHanded {} Try.checked os 4 .any (Rows.versionChangesSpec.pre6 enc Try.prog Try.f4 Rows.versionChangesRow.domain false) (Rows.versionChangesSpec.post enc Try.prog Try.f4 false true false false) := by
  refine returnsInHanded_of_change_sized (C := Try.checked) own started (by kernel_rfl) Try.func4
    (ChangeSpec.witness6 (enc := enc) (C := Try.checked) false ⟨#[], #[.slice none 0 0, .agg #[.int .i64 0, .string .empty, .bool false], .int .i64 0], []⟩ 8 (by kernel_rfl) (by kernel_rfl) (by kernel_rfl) (by kernel_rfl)) ?_
  intro W base args ds gs before hval0 hW _ hsz0 _
  have hsz : (DataW.weightsEach Try.prog (Try.f4.params.toList ++ Rows.versionChangesSpec.plain.varTypes Try.prog) (ds ++ gs)).all (· ≤ reachBytes) = true := hsz0
  clear hsz0
  have hval : ∀ (j : Nat) t v, Try.f4.params[j]? = some t → args[j]? = some v → Value.okWide Try.prog W .any base t v := hval0
  have hW' := hW
  obtain ⟨p, q, hA0, hV, rfl, hfz, hnd⟩ := hW
  have hA : DataW.TrodAll enc Try.prog W 0 (fun _ => true) true Try.f4.params.toList args.toList ds p := hA0
  rw [Try.params4] at hA hval hsz
  obtain ⟨v0, vs0, d0, ds0, p0, q0, hargs, rfl, rfl, h0, r0⟩ := trodAll_cons hA
  obtain ⟨v1, vs1, d1, ds1, p1, q1, rfl, rfl, rfl, h1, r1⟩ := trodAll_cons r0
  obtain ⟨v2, vs2, d2, ds2, p2, q2, rfl, rfl, rfl, h2, r2⟩ := trodAll_cons r1
  obtain ⟨rfl, rfl, rfl⟩ := trodAll_nil r2
  obtain rfl : args = #[v0, v1, v2] := by cases args; simp_all
  obtain ⟨rfl, rfl⟩ := trodVars_none hV
  obtain ⟨a0, len0, cap0, rfl⟩ := okWide_slice Try.underlying22 (hval 0 22 v0 rfl rfl)
  have k0 := h0
  have lt0 : ∀ x ∈ p0, x.block < W.heap.size := by obtain ⟨m, hm⟩ := k0; exact DataW.trod_lt m _ _ _ hm
  obtain ⟨z0, w0⟩ : ∃ l, InV W a0 len0 cap0 l := by
    refine in_vers h0 fun n hn => ?_
    have := of_decide_eq_true (List.all_eq_true.1 hsz _ (DataW.weights_mem_each (j := 0) (t := 22) rfl rfl n hn))
    simp only [reachBytes] at this
    omega
  have k1 := h1
  have lt1 : ∀ x ∈ p1, x.block < W.heap.size := by obtain ⟨m, hm⟩ := k1; exact DataW.trod_lt m _ _ _ hm
  obtain ⟨g1, e1, o1⟩ : ∃ g : Vs, v1 = g.v ∧ g.ok := by
    obtain ⟨cs, hcs, _⟩ := okWide_struct Try.underlying24 (hval 1 24 v1 rfl rfl)
    obtain ⟨fuel, hf⟩ := h1
    obtain ⟨g, hg, ho⟩ := in_ver hf
    refine ⟨g, ?_, ho⟩
    rw [hcs] at hg ⊢
    congr 1
    apply Array.ext'
    simpa [Value.cells, Vs.cells] using hg
  subst e1
  obtain ⟨a2, rfl, rfl, rfl, w2⟩ := open_int Try.underlying2 (hval 2 2 v2 rfl rfl) h2
  clear hA0 hval0
  refine (walk_versionChanges a0 len0 cap0 z0 g1 a2 W w0 o1 w2).mono fun e W' ⟨he, bel⟩ => ?_
  subst he
  exact ⟨_, rfl, _, _, _, [], _, [], hW', trodAll_mk1 (shut_bool Try.underlying4 _), (trodAll_cons_mk (Below.trod laidOut (by kernel_rfl) (of_decide_eq_true (by kernel_rfl)) k0 bel lt0) (trodAll_cons_mk (Below.trod laidOut (by kernel_rfl) (of_decide_eq_true (by kernel_rfl)) k1 bel lt1) (trodAll_cons_mk (shut_int Try.underlying2 w2) trodAll_mk0))), rfl, bel.frame _, fun h => by cases h⟩

/-- The statement. -/
theorem versionChanges_holds : Rows.VersionChangesSaid :=
  OpenClaim.holds_of_wide 4 Try.f4 rfl rfl rfl rfl rfl rfl rfl ⟨rfl, rfl, rfl, rfl, rfl⟩ rfl rfl rfl rfl rfl (by kernel_rfl) Try.func4 (by kernel_rfl)
    (of_decide_eq_true (by kernel_rfl)) (by unfold Func.isWrapper; first | (rw [if_pos (by decide +kernel)]; kernel_rfl) | (rw [if_neg (by decide +kernel)]; exact ⟨rfl, rfl⟩))
    (fun os started H enc _ => lifted_versionChanges os started H enc)
#print axioms versionChanges_holds
end Go.Proofs.Ytmmgeimgkkgoaaa
