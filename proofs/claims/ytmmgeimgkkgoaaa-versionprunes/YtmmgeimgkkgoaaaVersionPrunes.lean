/- Versions, pruned at a mark, say the same at each timestamp from the mark on; pruned again they stay; what is kept and what is not are all. -/
import Derived.Test.YtmmgeimgkkgoaaaVsPp
import Derived.Test.YtmmgeimgkkgoaaaVsD
import Derived.Test.YtmmgeimgkkgoaaaVsL
import Derived.Test.YtmmgeimgkkgoaaaVsOpen
namespace Go.Proofs.Ytmmgeimgkkgoaaa
open Go.ChangeShapes Go.WideShapes Go.ChangeAt Go.RowKit
open Go.ChangeMaps (open_string shut_string)
set_option linter.unusedVariables false
set_option maxRecDepth 100000

theorem prune_sub {mark : Int} {l : List Vs} : (∀ x ∈ (Vr.prune mark l).kept, x ∈ l) := by
  suffices h : ∀ (l : List Vs) (s : Ps) (L : List Vs), (∀ x ∈ s.kept, x ∈ L) → (∀ x ∈ l, x ∈ L) → ∀ x ∈ (l.foldl (Vr.pstep mark) s).kept, x ∈ L from h l ⟨[], [], false⟩ l (by simp) (fun _ h => h)
  intro l
  induction l with
  | nil => intro s L h _; exact h
  | cons y r ih =>
    intro s L h hl
    rw [List.foldl_cons]
    refine ih _ L ?_ (fun x hx => hl x (by simp [hx]))
    unfold Vr.pstep
    split
    · intro x hx
      rcases List.mem_append.1 hx with hx | hx
      · exact h x hx
      · simp at hx
        subst hx
        exact hl x (by simp)
    · split
      · intro x hx
        rcases List.mem_append.1 hx with hx | hx
        · exact h x hx
        · simp at hx
          subst hx
          exact hl x (by simp)
      · exact h

theorem okl_kept {mark : Int} {l : List Vs} (h : Vr.Okl l) : Vr.Okl (Vr.prune mark l).kept := fun i x hx => by
  obtain ⟨j, hj, e⟩ := List.getElem_of_mem (prune_sub x (List.mem_of_getElem? hx))
  exact h j x (by rw [List.getElem?_eq_getElem hj, e])

set_option maxHeartbeats 8000000 in
theorem walk_versionPrunes (p : Option Addr) (n c : Nat) (l : List Vs) (mark ts : Int) (w : World) (hin : InV w p n c l) (hm : (Lit.int .i64 mark).wf = true) (hts : (Lit.int .i64 ts).wf = true) :
    Calls Try.prog 6 #[.slice p n c, .int .i64 mark, .int .i64 ts] w fun e w' => e = .returned (.bool true) ∧ Below w.heap.size w w' := by
  obtain ⟨hv, hn, ho, hp, hl⟩ := InV.vrs hin
  have HX : Hid (∀ W, Below w.heap.size w W → Vrs W p l) := fun W hW => Els.below hv hW (Nat.le_refl _)
  have HN : Hid (l.length = n) := hn
  have HO : Hid (Vr.Okl l ∧ Vr.Okl (Vr.prune mark l).kept) := ⟨ho, okl_kept ho⟩
  have hsum := Vr.prune_len mark l
  rw [hn] at hsum
  obtain ⟨kl, hkl⟩ : ∃ kl, (Vr.prune mark l).kept = kl := ⟨_, rfl⟩
  obtain ⟨rl, hrl⟩ : ∃ rl, (Vr.prune mark l).rest = rl := ⟨_, rfl⟩
  have HKL : Hid ((Vr.prune mark l).kept = kl ∧ (Vr.prune mark l).rest = rl) := ⟨hkl, hrl⟩
  rw [hkl, hrl] at hsum
  rw [hkl] at HO
  obtain ⟨nk, hnk⟩ : ∃ nk, kl.length = nk := ⟨_, rfl⟩
  obtain ⟨nr, hnr⟩ : ∃ nr, rl.length = nr := ⟨_, rfl⟩
  have HNK : Hid (kl.length = nk ∧ rl.length = nr) := ⟨hnk, hnr⟩
  rw [hnk, hnr] at hsum
  have hsi : (nk : Int) + (nr : Int) = (n : Int) := by omega
  have hnk' : nk ≤ 4398046510976 := by omega
  have hnr' : nr ≤ 4398046510976 := by omega
  have HPR : Hid (Vr.check l = 0 → ∀ t, mark ≤ t → Vr.val? (Vr.at? kl t) = Vr.val? (Vr.at? l t) ∧ (Vr.prune mark kl).kept = kl ∧ (Vr.prune mark kl).rest = [] ∧ Vr.check kl = 0) := fun h t ht => by rw [← hkl]; exact Vr.prunes h ht
  have HSI : Hid ((nk : Int) + (nr : Int) = (n : Int)) := hsi
  clear hin hv hn ho hp hm hts hkl hrl hnk hnr hsum hsi
  go_enter Try.func6, Try.ntmps6
  go_wp2_with fail
  refine (prune_any p n c l mark _ HN.out (HX.out _ (Below.refl _ _)) hl).mono ?_
  rintro e w1 ⟨u1, t1, rfl, h1⟩
  obtain ⟨p1, c1, rfl, v1, -, -⟩ := h1.o1.els vknd
  obtain ⟨q1, d1, rfl, y1, -, -⟩ := h1.o2.els vknd
  rw [HKL.out.1] at v1 ⊢
  rw [HKL.out.2] at y1 ⊢
  rw [HNK.out.1, HNK.out.2]
  have HB1 : Hid (Below w.heap.size w w1) := h1.below
  have HV1 : Hid (∀ W, Below w1.heap.size w1 W → Vrs W p1 kl) := fun W hW => Els.below v1 hW (Nat.le_refl _)
  clear h1 v1 y1
  go_wp2_with fail
  refine (dcheck_any p n c l _ HN.out (HX.out _ HB1.out) HO.out.1 (by omega)).mono ?_
  rintro e w2 ⟨rfl, b2⟩
  have HB2 : Hid (Below w.heap.size w w2) := HB1.out.trans (b2.mono HB1.out.size)
  have HV2 : Hid (∀ W, Below w2.heap.size w2 W → Vrs W p1 kl) := fun W hW => HV1.out W (b2.trans (hW.mono b2.size))
  obtain ⟨ck, hck⟩ : ∃ ck, Vr.check l = ck := ⟨_, rfl⟩
  have HCK : Hid (Vr.check l = ck) := hck
  rw [hck]
  clear b2 HV1 HB1 hck
  by_cases hc0 : ck = 0
  · subst hc0
    go_wp2_with fail
    refine (live_any _).mono ?_
    rintro e w3 ⟨rfl, b3⟩
    have HB3 : Hid (Below w.heap.size w w3) := HB2.out.trans (b3.mono HB2.out.size)
    have HV3 : Hid (∀ W, Below w3.heap.size w3 W → Vrs W p1 kl) := fun W hW => HV2.out W (b3.trans (hW.mono b3.size))
    clear b3 HV2 HB2
    by_cases hmx : ts ≤ mark
    · have HT : Hid (mark ≤ mark) := Int.le_refl _
      have hmax1 : max ts mark = mark := by omega
      go_wp2_with fail
      refine (value_any p n c l mark _ HN.out (HX.out _ HB3.out) (by omega)).mono ?_
      rintro e w4 ⟨rfl, b4⟩
      obtain ⟨s, hs⟩ : ∃ s, (Vr.val? (Vr.at? l mark)).getD ⟨#[]⟩ = s := ⟨_, rfl⟩
      obtain ⟨js, hjs⟩ : ∃ js, (Vr.val? (Vr.at? l mark)).isSome = js := ⟨_, rfl⟩
      have HS : Hid (Vr.valV (Vr.val? (Vr.at? l mark)) = .tuple #[.string s, .bool js]) := by unfold Hid Vr.valV; rw [hs, hjs]
      rw [HS.out]
      have HB4 : Hid (Below w.heap.size w w4) := HB3.out.trans (b4.mono HB3.out.size)
      have HV4 : Hid (∀ W, Below w4.heap.size w4 W → Vrs W p1 kl) := fun W hW => HV3.out W (b4.trans (hW.mono b4.size))
      clear b4 HV3 HB3 hs hjs
      go_wp2_with fail
      refine (value_any p1 nk c1 kl mark _ HNK.out.1 (HV4.out _ (Below.refl _ _)) (by omega)).mono ?_
      rintro e w5 ⟨rfl, b5⟩
      rw [(HPR.out HCK.out mark HT.out).1, HS.out]
      have HB5 : Hid (Below w.heap.size w w5) := HB4.out.trans (b5.mono HB4.out.size)
      have HV5 : Hid (∀ W, Below w5.heap.size w5 W → Vrs W p1 kl) := fun W hW => HV4.out W (b5.trans (hW.mono b5.size))
      clear b5 HV4 HB4
      go_wp2_with fail
      refine (prune_any p1 nk c1 kl mark _ HNK.out.1 (HV5.out _ (Below.refl _ _)) hnk').mono ?_
      rintro e w6 ⟨u6, t6, rfl, h6⟩
      obtain ⟨p6, c6, rfl, v6, -, -⟩ := h6.o1.els vknd
      obtain ⟨q6, d6, rfl, -, -, -⟩ := h6.o2.els vknd
      rw [(HPR.out HCK.out mark HT.out).2.1] at v6 ⊢
      rw [(HPR.out HCK.out mark HT.out).2.2.1, HNK.out.1]
      simp only [List.length_nil]
      have b6 := h6.below
      have HB6 : Hid (Below w.heap.size w w6) := HB5.out.trans (b6.mono HB5.out.size)
      have HV6 : Hid (∀ W, Below w6.heap.size w6 W → Vrs W p1 kl ∧ Vrs W p6 kl) := fun W hW => ⟨HV5.out W (b6.trans (hW.mono b6.size)), Els.below v6 hW (Nat.le_refl _)⟩
      have hbj : (js == js) = true := by cases js <;> rfl
      clear h6 v6 b6 HV5 HB5
      go_wp2_with fail
      refine (dsame_any p6 p1 nk nk c6 c1 kl kl _ HNK.out.1 HNK.out.1 (HV6.out _ (Below.refl _ _)).2 (HV6.out _ (Below.refl _ _)).1 (by omega) (by omega)).mono ?_
      rintro e w7 ⟨rfl, b7⟩
      rw [Vr.same_refl]
      have HB7 : Hid (Below w.heap.size w w7) := HB6.out.trans (b7.mono HB6.out.size)
      have HV7 : Hid (Vrs w7 p1 kl) := (HV6.out w7 b7).1
      have hsi := HSI.out
      have hbq : ((nk : Int) + (nr : Int) == (n : Int)) = true := by rw [hsi]; simp
      clear b7 HV6 HB6
      go_wp2_with fail
      refine (check_any p1 nk c1 kl _ HNK.out.1 HV7.out HO.out.2 (by omega)).mono ?_
      rintro e w8 ⟨rfl, b8⟩
      rw [(HPR.out HCK.out mark HT.out).2.2.2]
      have HB8 : Hid (Below w.heap.size w w8) := HB7.out.trans (b8.mono HB7.out.size)
      clear b8 HV7 HB7
      go_wp2
      go_ret
      exact ⟨rfl, HB8.out⟩
    · have HT : Hid (mark ≤ ts) := by unfold Hid; omega
      have hmax1 : max ts mark = ts := by omega
      have hmx' : mark < ts := by omega
      go_wp2_with fail
      refine (value_any p n c l ts _ HN.out (HX.out _ HB3.out) (by omega)).mono ?_
      rintro e w4 ⟨rfl, b4⟩
      obtain ⟨s, hs⟩ : ∃ s, (Vr.val? (Vr.at? l ts)).getD ⟨#[]⟩ = s := ⟨_, rfl⟩
      obtain ⟨js, hjs⟩ : ∃ js, (Vr.val? (Vr.at? l ts)).isSome = js := ⟨_, rfl⟩
      have HS : Hid (Vr.valV (Vr.val? (Vr.at? l ts)) = .tuple #[.string s, .bool js]) := by unfold Hid Vr.valV; rw [hs, hjs]
      rw [HS.out]
      have HB4 : Hid (Below w.heap.size w w4) := HB3.out.trans (b4.mono HB3.out.size)
      have HV4 : Hid (∀ W, Below w4.heap.size w4 W → Vrs W p1 kl) := fun W hW => HV3.out W (b4.trans (hW.mono b4.size))
      clear b4 HV3 HB3 hs hjs
      go_wp2_with fail
      refine (value_any p1 nk c1 kl ts _ HNK.out.1 (HV4.out _ (Below.refl _ _)) (by omega)).mono ?_
      rintro e w5 ⟨rfl, b5⟩
      rw [(HPR.out HCK.out ts HT.out).1, HS.out]
      have HB5 : Hid (Below w.heap.size w w5) := HB4.out.trans (b5.mono HB4.out.size)
      have HV5 : Hid (∀ W, Below w5.heap.size w5 W → Vrs W p1 kl) := fun W hW => HV4.out W (b5.trans (hW.mono b5.size))
      clear b5 HV4 HB4
      go_wp2_with fail
      refine (prune_any p1 nk c1 kl mark _ HNK.out.1 (HV5.out _ (Below.refl _ _)) hnk').mono ?_
      rintro e w6 ⟨u6, t6, rfl, h6⟩
      obtain ⟨p6, c6, rfl, v6, -, -⟩ := h6.o1.els vknd
      obtain ⟨q6, d6, rfl, -, -, -⟩ := h6.o2.els vknd
      rw [(HPR.out HCK.out ts HT.out).2.1] at v6 ⊢
      rw [(HPR.out HCK.out ts HT.out).2.2.1, HNK.out.1]
      simp only [List.length_nil]
      have b6 := h6.below
      have HB6 : Hid (Below w.heap.size w w6) := HB5.out.trans (b6.mono HB5.out.size)
      have HV6 : Hid (∀ W, Below w6.heap.size w6 W → Vrs W p1 kl ∧ Vrs W p6 kl) := fun W hW => ⟨HV5.out W (b6.trans (hW.mono b6.size)), Els.below v6 hW (Nat.le_refl _)⟩
      have hbj : (js == js) = true := by cases js <;> rfl
      clear h6 v6 b6 HV5 HB5
      go_wp2_with fail
      refine (dsame_any p6 p1 nk nk c6 c1 kl kl _ HNK.out.1 HNK.out.1 (HV6.out _ (Below.refl _ _)).2 (HV6.out _ (Below.refl _ _)).1 (by omega) (by omega)).mono ?_
      rintro e w7 ⟨rfl, b7⟩
      rw [Vr.same_refl]
      have HB7 : Hid (Below w.heap.size w w7) := HB6.out.trans (b7.mono HB6.out.size)
      have HV7 : Hid (Vrs w7 p1 kl) := (HV6.out w7 b7).1
      have hsi := HSI.out
      have hbq : ((nk : Int) + (nr : Int) == (n : Int)) = true := by rw [hsi]; simp
      clear b7 HV6 HB6
      go_wp2_with fail
      refine (check_any p1 nk c1 kl _ HNK.out.1 HV7.out HO.out.2 (by omega)).mono ?_
      rintro e w8 ⟨rfl, b8⟩
      rw [(HPR.out HCK.out ts HT.out).2.2.2]
      have HB8 : Hid (Below w.heap.size w w8) := HB7.out.trans (b8.mono HB7.out.size)
      clear b8 HV7 HB7
      go_wp2
      go_ret
      exact ⟨rfl, HB8.out⟩
  · have hcb : (ck == 0) = false := by simpa using hc0
    go_wp2_with fail
    refine (live_any _).mono ?_
    rintro e w3 ⟨rfl, b3⟩
    have HB3 : Hid (Below w.heap.size w w3) := HB2.out.trans (b3.mono HB2.out.size)
    have hsi := HSI.out
    have hbq : ((nk : Int) + (nr : Int) == (n : Int)) = true := by rw [hsi]; simp
    clear b3 HV2 HB2
    go_wp2
    go_ret
    exact ⟨by simp, HB3.out⟩

set_option maxRecDepth 100000 in
set_option maxHeartbeats 2000000 in
theorem lifted_versionPrunes (os : Os) (started : os.Started) (H : Type) (enc : TypeId × Value → H) :
    ReturnsInHanded {} Try.checked os 6 .any (Rows.versionPrunesSpec.pre6 enc Try.prog Try.f6 Rows.versionPrunesRow.domain false) (Rows.versionPrunesSpec.post enc Try.prog Try.f6 false true false false) := by
  refine returnsInHanded_of_change_sized (C := Try.checked) own started (by kernel_rfl) Try.func6
    (ChangeSpec.witness6 (enc := enc) (C := Try.checked) false ⟨#[], #[.slice none 0 0, .int .i64 0, .int .i64 0], []⟩ 8 (by kernel_rfl) (by kernel_rfl) (by kernel_rfl) (by kernel_rfl)) ?_
  intro W base args ds gs before hval0 hW _ hsz0 _
  have hsz : (DataW.weightsEach Try.prog (Try.f6.params.toList ++ Rows.versionPrunesSpec.plain.varTypes Try.prog) (ds ++ gs)).all (· ≤ reachBytes) = true := hsz0
  clear hsz0
  have hval : ∀ (j : Nat) t v, Try.f6.params[j]? = some t → args[j]? = some v → Value.okWide Try.prog W .any base t v := hval0
  have hW' := hW
  obtain ⟨p, q, hA0, hV, rfl, hfz, hnd⟩ := hW
  have hA : DataW.TrodAll enc Try.prog W 0 (fun _ => true) true Try.f6.params.toList args.toList ds p := hA0
  rw [Try.params6] at hA hval hsz
  obtain ⟨v0, vs0, d0, ds0, p0, q0, hargs, rfl, rfl, h0, r0⟩ := trodAll_cons hA
  obtain ⟨v1, vs1, d1, ds1, p1, q1, rfl, rfl, rfl, h1, r1⟩ := trodAll_cons r0
  obtain ⟨v2, vs2, d2, ds2, p2, q2, rfl, rfl, rfl, h2, r2⟩ := trodAll_cons r1
  obtain ⟨rfl, rfl, rfl⟩ := trodAll_nil r2
  obtain rfl : args = #[v0, v1, v2] := by cases args; simp_all
  obtain ⟨rfl, rfl⟩ := trodVars_none hV
  obtain ⟨a0, len0, cap0, rfl⟩ := okWide_slice Try.underlying22 (hval 0 22 v0 rfl rfl)
  have k0 := h0
  have lt0 : ∀ x ∈ p0, x.block < W.heap.size := by obtain ⟨m, hm⟩ := k0; exact DataW.trod_lt m _ _ _ hm
  obtain ⟨z0, w0⟩ : ∃ l, InV W a0 len0 cap0 l := by
    refine in_vers h0 fun n hn => ?_
    have := of_decide_eq_true (List.all_eq_true.1 hsz _ (DataW.weights_mem_each (j := 0) (t := 22) rfl rfl n hn))
    simp only [reachBytes] at this
    omega
  obtain ⟨a1, rfl, rfl, rfl, w1⟩ := open_int Try.underlying2 (hval 1 2 v1 rfl rfl) h1
  obtain ⟨a2, rfl, rfl, rfl, w2⟩ := open_int Try.underlying2 (hval 2 2 v2 rfl rfl) h2
  clear hA0 hval0
  refine (walk_versionPrunes a0 len0 cap0 z0 a1 a2 W w0 w1 w2).mono fun e W' ⟨he, bel⟩ => ?_
  subst he
  exact ⟨_, rfl, _, _, _, [], _, [], hW', trodAll_mk1 (shut_bool Try.underlying4 _), (trodAll_cons_mk (Below.trod laidOut (by kernel_rfl) (of_decide_eq_true (by kernel_rfl)) k0 bel lt0) (trodAll_cons_mk (shut_int Try.underlying2 w1) (trodAll_cons_mk (shut_int Try.underlying2 w2) trodAll_mk0))), rfl, bel.frame _, fun h => by cases h⟩

/-- The statement. -/
theorem versionPrunes_holds : Rows.VersionPrunesSaid :=
  OpenClaim.holds_of_wide 6 Try.f6 rfl rfl rfl rfl rfl rfl rfl ⟨rfl, rfl, rfl, rfl, rfl⟩ rfl rfl rfl rfl rfl (by kernel_rfl) Try.func6 (by kernel_rfl)
    (of_decide_eq_true (by kernel_rfl)) (by unfold Func.isWrapper; first | (rw [if_pos (by decide +kernel)]; kernel_rfl) | (rw [if_neg (by decide +kernel)]; exact ⟨rfl, rfl⟩))
    (fun os started H enc _ => lifted_versionPrunes os started H enc)
#print axioms versionPrunes_holds
end Go.Proofs.Ytmmgeimgkkgoaaa
