/- What a timestamp sees of a key's versions is what the map of their commits has of the key, for at most sixty versions that Check takes. -/
import Derived.Test.YtilabcolfabnmaaVsSe
import Derived.Test.YtilabcolfabnmaaVsD
import Derived.Test.YtilabcolfabnmaaVsL
import Derived.Test.YtilabcolfabnmaaPrX
import Derived.Test.YtilabcolfabnmaaVsOpen
namespace Go.Proofs.Ytilabcolfabnmaa
open Go.ChangeShapes Go.WideShapes Go.ChangeAt Go.RowKit Go.Sort
open Go.ChangeMaps (open_string shut_string)
set_option linter.unusedVariables false
set_option maxRecDepth 100000

/-- The row of commits, and the writes of each. -/
structure SeeR (l : List Vs) (w : World) (base : Nat) (v : Value) (C : List Cm) : Prop where
  own : Own Cm.cells 2 42 w base v C
  each : ∀ c ∈ C, ∃ b x, x ∈ l ∧ x.ts = c.ts ∧ c.p = some ⟨b, 0, none⟩ ∧ c.n = 1 ∧ c.c = 1 ∧ b < w.heap.size ∧ v.ownBlock ≠ some b ∧ Wts w c.p [⟨kk, x.val, x.del⟩]

theorem SeeR.ok {l : List Vs} (hf : l.Pairwise fun x y => y.ts < x.ts) {w : World} {base : Nat} {v : Value} {C : List Cm} (h : SeeR l w base v C) : ∀ c ∈ C, CwOk (seeW l) w c ∧ c.n ≤ 1 := fun c hc => by
  obtain ⟨b, x, h1, h2, h3, h4, h5, -, -, h8⟩ := h.each c hc
  have e : seeW l c = [⟨kk, x.val, x.del⟩] := by
    unfold seeW
    rw [seeW_of hf h1 h2]
  refine ⟨⟨by rw [e]; exact h8, by rw [e, h4]; rfl, fun i y hy => ?_, fun hn => by rw [h3] at hn; cases hn⟩, by omega⟩
  rw [e] at hy
  match i, hy with
  | 0, hy =>
    simp at hy
    subst hy
    show kk.size ≤ maxLen
    decide
  | i + 1, hy => simp at hy

theorem SeeR.below {l : List Vs} {w w' : World} {base : Nat} {v : Value} {C : List Cm} (h : SeeR l w base v C) (hb : Below w.heap.size w w') : SeeR l w' base v C := by
  refine ⟨h.own.below hb (Nat.le_refl _), fun c hc => ?_⟩
  obtain ⟨b, x, h1, h2, h3, h4, h5, h6, h7, h8⟩ := h.each c hc
  exact ⟨b, x, h1, h2, h3, h4, h5, Nat.lt_of_lt_of_le h6 hb.size, h7, Els.below h8 hb (Nat.le_refl _)⟩

/-- One commit more: its write just laid, then itself, then the append. -/
theorem SeeR.app {l : List Vs} {w w2 w3 w' : World} {base : Nat} {v v' : Value} {C : List Cm} {x : Vs} (h : SeeR l w base v C) (hx : x ∈ l) (h2 : w2 = w.alloc (.cells #[.string kk, .string x.val, .bool x.del] 50))
    (h3 : w3 = w2.alloc (.cells #[.int .i64 x.ts, .slice (some ⟨w.heap.size, 0, none⟩) 1 1] 42)) (ho : Own Cm.cells 2 42 w' base v' (C ++ [⟨x.ts, some ⟨w.heap.size, 0, none⟩, 1, 1⟩])) (hg : w3.grownBy w' v.ownBlock) (hv : v'.ownBlock = v.ownBlock ∨ v'.ownBlock = some (w2.heap.size + 1)) : SeeR l w' base v' (C ++ [⟨x.ts, some ⟨w.heap.size, 0, none⟩, 1, 1⟩]) := by
  have hb2 : Below w.heap.size w w2 := by rw [h2]; exact (Below.refl _ _).alloc (Nat.le_refl _) _
  have hb3 : Below w2.heap.size w2 w3 := by rw [h3]; exact (Below.refl _ _).alloc (Nat.le_refl _) _
  have hs2 : w2.heap.size = w.heap.size + 1 := by rw [h2]; simp
  have hs3 : w3.heap.size = w2.heap.size + 1 := by rw [h3]; simp
  have hw : Wts w2 (some ⟨w.heap.size, 0, none⟩) [⟨kk, x.val, x.del⟩] := by rw [h2]; exact els_one wtknd w _ ⟨kk, x.val, x.del⟩
  have hvl : ∀ b, v.ownBlock = some b → b < w.heap.size := fun b hb => (h.own.blk hb).2
  refine ⟨ho, fun c hc => ?_⟩
  rcases List.mem_append.1 hc with hc | hc
  · obtain ⟨b, y, k1, k2, k3, k4, k5, k6, k7, k8⟩ := h.each c hc
    refine ⟨b, y, k1, k2, k3, k4, k5, by have := hg.size; omega, ?_, ?_⟩
    · rcases hv with e | e
      · rw [e]; exact k7
      · rw [e]
        intro h
        simp at h
        omega
    · have h9 := Els.below (Els.below k8 hb2 (Nat.le_refl _)) hb3 (Nat.le_refl _)
      exact h9.tn (grown_tn hg) (fun b' o e hm => by
        rw [k3] at e
        cases e
        exact k7 (opt_toList.1 hm))
  · simp at hc
    subst hc
    refine ⟨w.heap.size, x, hx, rfl, rfl, rfl, rfl, by have := hg.size; omega, ?_, ?_⟩
    · rcases hv with e | e
      · rw [e]
        intro h
        have := hvl _ h
        omega
      · rw [e]
        intro h
        simp at h
        omega
    · have h9 := Els.below hw hb3 (Nat.le_refl _)
      exact h9.tn (grown_tn hg) (fun b' o e hm => by
        cases e
        have := hvl _ (opt_toList.1 hm)
        omega)

theorem chk_of_check {l : List Vs} (h : Vr.check l = 0) : l.Pairwise fun x y => y.ts < x.ts := by
  unfold Vr.check at h
  split at h
  · cases h
  · exact (Vr.chk_falls h).2

theorem run_eql_p (a b d e : ByteArray) (w : World) : (binOp .eql 54 (.agg #[.string a, .string b]) (.agg #[.string d, .string e])).run Try.prog w = .ok (.bool (Pr.eqb ⟨a, b⟩ ⟨d, e⟩)) w := by
  rw [run_eql_struct, eqIn_p]
  rfl

set_option maxHeartbeats 8000000 in
theorem walk_versionSees (p : Option Addr) (n c : Nat) (l : List Vs) (ts : Int) (w : World) (hin : InV w p n c l) (hts : (Lit.int .i64 ts).wf = true) :
    Calls Try.prog 5 #[.slice p n c, .int .i64 ts] w fun e w' => e = .returned (.bool true) ∧ Below w.heap.size w w' := by
  obtain ⟨hv, hn, ho, hp, hl⟩ := InV.vrs hin
  have HX : Hid (∀ W, Below w.heap.size w W → Vrs W p l) := fun W hW => Els.below hv hW (Nat.le_refl _)
  have HN : Hid (l.length = n) := hn
  have HO : Hid (Vr.Okl l) := ho
  obtain ⟨ck, hck⟩ : ∃ ck, Vr.check l = ck := ⟨_, rfl⟩
  have HCK : Hid (Vr.check l = ck) := hck
  clear hin hv hn ho hp hts hck
  go_enter Try.func5, Try.ntmps5
  go_wp2_with fail
  refine (dcheck_any p n c l _ HN.out (HX.out _ (Below.refl _ _)) HO.out (by omega)).mono ?_
  rintro e w1 ⟨rfl, b1⟩
  rw [HCK.out]
  have HB1 : Hid (Below w.heap.size w w1) := b1
  clear b1
  by_cases hc0 : ck = 0
  · subst hc0
    by_cases hn60 : 60 < n
    · have hn60i : (60 : Int) < (n : Int) := by omega
      go_wp2_with fail
      refine (live_any _).mono ?_
      rintro e w2 ⟨rfl, b2⟩
      have HB2 : Hid (Below w.heap.size w w2) := HB1.out.trans (b2.mono HB1.out.size)
      clear b2
      go_wp2
      go_ret
      exact ⟨rfl, HB2.out⟩
    · have hn60i : ¬ (60 : Int) < (n : Int) := by omega
      have HF : Hid (l.Pairwise fun x y => y.ts < x.ts) := chk_of_check HCK.out
      go_wp2_with fail
      refine (live_any _).mono ?_
      rintro e w2 ⟨rfl, b2⟩
      have HB2 : Hid (Below w.heap.size w w2) := HB1.out.trans (b2.mono HB1.out.size)
      clear b2 HB1
      go_wp2_with fail
      go_loopw [5, 26] (fun v i wr => ∃ (j : Nat) (C : List Cm), j ≤ n ∧ i = .int .i64 j ∧ C.length = j ∧ Hid (C.map Cm.ts = (l.take j).map Vs.ts) ∧ Hid (SeeR l wr w2.heap.size v C) ∧ Hid (Below w2.heap.size w2 wr)) (fun _ i _ => n - (intOf i).toNat)
      case atStart => exact ⟨0, [], Nat.zero_le _, rfl, rfl, by simp [Hid], ⟨Own.nil _ _ _, fun c h => by cases h⟩, Below.refl _ _⟩
      case round =>
        obtain ⟨j, C, hj, rfl, hcl, HC, HS, HW⟩ := hrel
        by_cases hlt : j < n
        · have hli : (j : Int) < (n : Int) := by omega
          obtain ⟨b, o, x, rfl, hx, c0, c1, c2⟩ := Vrs.cells (HX.out _ (HB2.out.trans (HW.out.mono HB2.out.size))) (j := j) (by have := HN.out; omega)
          have HXL : Hid (x ∈ l) := List.mem_of_getElem? hx
          have HTK : Hid (l.take (j + 1) = l.take j ++ [x]) := by rw [List.take_add_one, hx]; rfl
          obtain ⟨x1, x2, x3⟩ := x
          obtain ⟨wa, hwa⟩ : ∃ wa, wr.alloc (.cells #[.int .i64 x1, .string x2, .bool x3] 48) = wa := ⟨_, rfl⟩
          have hba : Below wr.heap.size wr wa := by rw [← hwa]; exact (Below.refl _ _).alloc (Nat.le_refl _) _
          have ka : Bk wa wr.heap.size 48 #[.int .i64 x1, .string x2, .bool x3] := by rw [← hwa]; exact Bk.new _ _ _
          have d0 : wa.cell? ⟨wr.heap.size, 0, none⟩ = some (.int .i64 x1) := ka.cell 0
          have d1 : wa.cell? ⟨wr.heap.size, 1, none⟩ = some (.string x2) := ka.cell 1
          have d2 : wa.cell? ⟨wr.heap.size, 2, none⟩ = some (.bool x3) := ka.cell 2
          have HSA : Hid (SeeR l wa w2.heap.size u5 C) := HS.out.below hba
          have HWA : Hid (Below w2.heap.size w2 wa) := HW.out.trans (hba.mono HW.out.size)
          obtain ⟨wb, hwb⟩ : ∃ wb, wb = wa.alloc (.cells #[.string kk, .string x2, .bool x3] 50) := ⟨_, rfl⟩
          have hbb : Below wa.heap.size wa wb := by rw [hwb]; exact (Below.refl _ _).alloc (Nat.le_refl _) _
          have HWB : Hid (wb = wa.alloc (.cells #[.string kk, .string x2, .bool x3] 50) ∧ w2.heap.size ≤ wb.heap.size ∧ w2.heap.size ≤ wa.heap.size) := ⟨hwb, Nat.le_trans HWA.out.size hbb.size, HWA.out.size⟩
          have hown : Own Cm.cells 2 42 wb w2.heap.size u5 C := HSA.out.own.below hbb (Nat.le_refl _)
          have HOWN : Hid (Own Cm.cells 2 42 wb w2.heap.size u5 C ∧ C.length + 1 ≤ 61) := ⟨hown, by omega⟩
          clear hx ka hba hbb hown
          rw [hwb] at HOWN
          clear hwb
          go_wp2_with (at_builtin; refine app1L cmknd Try.underlying24 cminfo rfl _ rfl _ _ rfl w2.heap.size u5 C rfl ⟨x1, some ⟨wa.heap.size, 0, none⟩, 1, 1⟩ _ rfl (by simp) _ rfl HOWN.out.1 (by have := HOWN.out.2; unfold maxLen; omega) (by have := HOWN.out.2; omega) (by have := HWB.out.2.2; simp; omega) ?_; intro v4 w4 h1 h2 h3)
          have HS4 : Hid (SeeR l w4 w2.heap.size v4 (C ++ [⟨x1, some ⟨wa.heap.size, 0, none⟩, 1, 1⟩])) := HSA.out.app HXL.out rfl rfl h1 h2 h3
          have HW4 : Hid (Below w2.heap.size w2 w4) := by
            have h5 : Below w2.heap.size wa ((wa.alloc (.cells #[.string kk, .string x2, .bool x3] 50)).alloc (.cells #[.int .i64 x1, .slice (some ⟨wa.heap.size, 0, none⟩) 1 1] 42)) := ((Below.refl _ _).alloc HWA.out.size _).alloc (by have := HWA.out.size; simp; omega) _
            exact (HWA.out.trans h5).grown h2 (by have := HWA.out.size; simp; omega) (fun g hg => (Own.blk HSA.out.own hg).1)
          have HC4 : Hid ((C ++ [(⟨x1, some ⟨wa.heap.size, 0, none⟩, 1, 1⟩ : Cm)]).map Cm.ts = (l.take (j + 1)).map Vs.ts) := by
            unfold Hid
            rw [HTK.out, List.map_append, List.map_append, HC.out]
            rfl
          clear h1 h2 h3
          go_wp2
          go_roundw
          case rel => exact ⟨j + 1, _, by omega, by go_num, by simp; omega, HC4, HS4, HW4⟩
          case measure => simp [intOf]; omega
        · obtain rfl : j = n := by omega
          have hli : ¬ ((j : Int) < (j : Int)) := by omega
          have HCC : Hid (C.map Cm.ts = l.map Vs.ts) := by
            have := HC.out
            rw [List.take_of_length_le (by have := HN.out; omega)] at this
            exact this
          have HB3 : Hid (Below w.heap.size w wr) := HB2.out.trans (HW.out.mono HB2.out.size)
          obtain ⟨pc, cc, hu5, -, hnil, -⟩ := HS.out.own.els cmknd
          rw [hcl] at hu5
          subst hu5
          have HNIL : Hid (pc = none → j = 0 ∧ cc = 0) := fun h => by have := hnil h; omega
          obtain ⟨ov, hov⟩ : ∃ ov, Vr.val? (Vr.at? l ts) = ov := ⟨_, rfl⟩
          have HOV : Hid (Vr.val? (Vr.at? l ts) = ov) := hov
          clear hnil hov
          go_wp2_with fail
          refine (value_any p j c l ts _ HN.out (HX.out _ HB3.out) (by omega)).mono ?_
          rintro e w4 ⟨rfl, b4⟩
          rw [HOV.out]
          have HB4 : Hid (Below w.heap.size w w4) := HB3.out.trans (b4.mono HB3.out.size)
          have hsr := HS.out.below b4
          obtain ⟨pq, cq, hq, hels, -, -⟩ := hsr.own.els cmknd
          simp only [Value.slice.injEq] at hq
          obtain ⟨rfl, -, rfl⟩ := hq
          have hfold := foldc_any pc j cc C (seeW l) 1 ts w4 hcl hels HNIL.out (fun x hx => (hsr.ok HF.out x hx).1) (fun x hx => (hsr.ok HF.out x hx).2) (by omega) (by omega)
          clear b4 hsr hels
          cases ov with
          | none =>
            simp only [Vr.valV, Option.getD, Option.isSome]
            go_wp2_with fail
            refine hfold.mono ?_
            rintro e w5 ⟨v, m, Z, rfl, hs5, ha5, hm5, han5⟩
            have hm := sees_is HF.out HCC.out hs5 ha5 hm5
            rw [HOV.out] at hm
            subst hm
            obtain ⟨p5, c5, rfl, -, -⟩ := han5.prs
            have HB5 : Hid (Below w.heap.size w w5) := HB4.out.trans (han5.below.mono HB4.out.size)
            simp only [seeL, List.length_nil]
            clear hfold hs5 ha5 hm5 han5
            go_wp2
            go_ret
            exact ⟨rfl, HB5.out⟩
          | some s =>
            simp only [Vr.valV, Option.getD, Option.isSome]
            go_wp2_with fail
            refine hfold.mono ?_
            rintro e w5 ⟨v, m, Z, rfl, hs5, ha5, hm5, han5⟩
            have hm := sees_is HF.out HCC.out hs5 ha5 hm5
            rw [HOV.out] at hm
            subst hm
            obtain ⟨p5, c5, rfl, hpr, -⟩ := han5.prs
            have HB5 : Hid (Below w.heap.size w w5) := HB4.out.trans (han5.below.mono HB4.out.size)
            obtain ⟨b6, o6, x6, rfl, hx6, e0, e1⟩ := Prs.cells hpr (j := 0) (by simp [seeL])
            simp [seeL] at hx6
            subst hx6
            simp only [Nat.zero_mul, Nat.add_zero] at e0 e1
            have heq : ∀ w, (binOp .eql 54 (.agg #[.string kk, .string s]) (.agg #[.string kk, .string s])).run Try.prog w = .ok (.bool true) w := fun w => by
              rw [run_eql_p]
              simp [Pr.eqb]
            simp only [seeL, List.length_cons, List.length_nil]
            clear hfold hs5 ha5 hm5 han5 hpr
            go_wp2
            go_ret
            exact ⟨rfl, HB5.out⟩
  · have hcb : (ck == 0) = false := by simpa using hc0
    go_wp2_with fail
    refine (live_any _).mono ?_
    rintro e w2 ⟨rfl, b2⟩
    have HB2 : Hid (Below w.heap.size w w2) := HB1.out.trans (b2.mono HB1.out.size)
    clear b2
    go_wp2
    go_ret
    exact ⟨rfl, HB2.out⟩

set_option maxRecDepth 100000 in
set_option maxHeartbeats 2000000 in
theorem lifted_versionSees (os : Os) (started : os.Started) (H : Type) (enc : TypeId × Value → H) :
    ReturnsInHanded {} Try.checked os 5 .any (Rows.versionSeesSpec.pre6 enc Try.prog Try.f5 Rows.versionSeesRow.domain false) (Rows.versionSeesSpec.post enc Try.prog Try.f5 false true false false) := by
  refine returnsInHanded_of_change_sized (C := Try.checked) own started (by kernel_rfl) Try.func5
    (ChangeSpec.witness6 (enc := enc) (C := Try.checked) false ⟨#[], #[.slice none 0 0, .int .i64 0], []⟩ 8 (by kernel_rfl) (by kernel_rfl) (by kernel_rfl) (by kernel_rfl)) ?_
  intro W base args ds gs before hval0 hW _ hsz0 _
  have hsz : (DataW.weightsEach Try.prog (Try.f5.params.toList ++ Rows.versionSeesSpec.plain.varTypes Try.prog) (ds ++ gs)).all (· ≤ reachBytes) = true := hsz0
  clear hsz0
  have hval : ∀ (j : Nat) t v, Try.f5.params[j]? = some t → args[j]? = some v → Value.okWide Try.prog W .any base t v := hval0
  have hW' := hW
  obtain ⟨p, q, hA0, hV, rfl, hfz, hnd⟩ := hW
  have hA : DataW.TrodAll enc Try.prog W 0 (fun _ => true) true Try.f5.params.toList args.toList ds p := hA0
  rw [Try.params5] at hA hval hsz
  obtain ⟨v0, vs0, d0, ds0, p0, q0, hargs, rfl, rfl, h0, r0⟩ := trodAll_cons hA
  obtain ⟨v1, vs1, d1, ds1, p1, q1, rfl, rfl, rfl, h1, r1⟩ := trodAll_cons r0
  obtain ⟨rfl, rfl, rfl⟩ := trodAll_nil r1
  obtain rfl : args = #[v0, v1] := by cases args; simp_all
  obtain ⟨rfl, rfl⟩ := trodVars_none hV
  obtain ⟨a0, len0, cap0, rfl⟩ := okWide_slice Try.underlying44 (hval 0 44 v0 rfl rfl)
  have k0 := h0
  have lt0 : ∀ x ∈ p0, x.block < W.heap.size := by obtain ⟨m, hm⟩ := k0; exact DataW.trod_lt m _ _ _ hm
  obtain ⟨z0, w0⟩ : ∃ l, InV W a0 len0 cap0 l := by
    refine in_vers h0 fun n hn => ?_
    have := of_decide_eq_true (List.all_eq_true.1 hsz _ (DataW.weights_mem_each (j := 0) (t := 44) rfl rfl n hn))
    simp only [reachBytes] at this
    omega
  obtain ⟨a1, rfl, rfl, rfl, w1⟩ := open_int Try.underlying2 (hval 1 2 v1 rfl rfl) h1
  clear hA0 hval0
  refine (walk_versionSees a0 len0 cap0 z0 a1 W w0 w1).mono fun e W' ⟨he, bel⟩ => ?_
  subst he
  exact ⟨_, rfl, _, _, _, [], _, [], hW', trodAll_mk1 (shut_bool Try.underlying4 _), (trodAll_cons_mk (Below.trod laidOut (by kernel_rfl) (of_decide_eq_true (by kernel_rfl)) k0 bel lt0) (trodAll_cons_mk (shut_int Try.underlying2 w1) trodAll_mk0)), rfl, bel.frame _, fun h => by cases h⟩

/-- The statement. -/
theorem versionSees_holds : Rows.VersionSeesSaid :=
  OpenClaim.holds_of_wide 5 Try.f5 rfl rfl rfl rfl rfl rfl rfl ⟨rfl, rfl, rfl, rfl, rfl⟩ rfl rfl rfl rfl rfl (by kernel_rfl) Try.func5 (by kernel_rfl)
    (of_decide_eq_true (by kernel_rfl)) (by unfold Func.isWrapper; first | (rw [if_pos (by decide +kernel)]; kernel_rfl) | (rw [if_neg (by decide +kernel)]; exact ⟨rfl, rfl⟩))
    (fun os started H enc _ => lifted_versionSees os started H enc)
#print axioms versionSees_holds
end Go.Proofs.Ytilabcolfabnmaa
