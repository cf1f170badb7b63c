/- A scheduler that no call made answers so, whatever it is asked with; beside it a made one lets two fibers go on in turn. -/
import Derived.Test.YtpjcclmmplddeaaSdQ
import Derived.Test.YtpjcclmmplddeaaSdOpen
namespace Go.Proofs.Ytpjcclmmplddeaa
open Go.ChangeShapes Go.WideShapes Go.ChangeAt Go.RowKit
open Go.ChangeMaps (open_string shut_string)
set_option linter.unusedVariables false
set_option maxRecDepth 100000

/-- What lies ahead of the loop. -/
theorem none_start {w w1 : World} (g : Sop) (hb : Below (w.heap.size + 1) (w.alloc (.cells #[.int .i64 g.dd, .int .i64 g.n] 32)) w1) :
    ∃ ws, ((w1.alloc (.cells #[.int .i64 0] 2)).alloc (.cells #[.map none, .slice none 0 0, .pointer none, .slice none 0 0, .int .i64 0] 61)).alloc (.cells #[.pointer none, .pointer (some ⟨w1.heap.size + 1, 0, none⟩)] 23) = ws ∧ Below w.heap.size w ws ∧
      ∀ W, Below ws.heap.size ws W → Below w.heap.size w W ∧ Bk W w.heap.size 32 #[.int .i64 g.dd, .int .i64 g.n] ∧ Bk W w1.heap.size 2 #[.int .i64 0] ∧ ∀ j, j < 2 → ∃ p, W.cell? ⟨w1.heap.size + 1 + 1, j, none⟩ = some (.pointer p) ∧ Nm W (.pointer p) := by
  have h0 : Below w.heap.size w w1 := ((Below.refl _ w).alloc (Nat.le_refl _) _).trans (hb.mono (by omega))
  have k0 : Bk w1 w.heap.size 32 #[.int .i64 g.dd, .int .i64 g.n] := (Bk.new w _ _).below hb (by omega)
  have kd := ((Bk.new w1 2 #[.int .i64 0]).alloc (.cells #[.map none, .slice none 0 0, .pointer none, .slice none 0 0, .int .i64 0] 61)).alloc (.cells #[.pointer none, .pointer (some ⟨w1.heap.size + 1, 0, none⟩)] 23)
  have k1 := (Bk.new (w1.alloc (.cells #[.int .i64 0] 2)) 61 #[.map none, .slice none 0 0, .pointer none, .slice none 0 0, .int .i64 0]).alloc (.cells #[.pointer none, .pointer (some ⟨w1.heap.size + 1, 0, none⟩)] 23)
  have k2 := Bk.new ((w1.alloc (.cells #[.int .i64 0] 2)).alloc (.cells #[.map none, .slice none 0 0, .pointer none, .slice none 0 0, .int .i64 0] 61)) 23 #[.pointer none, .pointer (some ⟨w1.heap.size + 1, 0, none⟩)]
  have k3 := ((k0.alloc (.cells #[.int .i64 0] 2)).alloc (.cells #[.map none, .slice none 0 0, .pointer none, .slice none 0 0, .int .i64 0] 61)).alloc (.cells #[.pointer none, .pointer (some ⟨w1.heap.size + 1, 0, none⟩)] 23)
  have hbs : Below w.heap.size w (((w1.alloc (.cells #[.int .i64 0] 2)).alloc (.cells #[.map none, .slice none 0 0, .pointer none, .slice none 0 0, .int .i64 0] 61)).alloc (.cells #[.pointer none, .pointer (some ⟨w1.heap.size + 1, 0, none⟩)] 23)) := ((h0.alloc h0.size _).alloc (by have := h0.size; simp; omega) _).alloc (by have := h0.size; simp; omega) _
  simp only [World.size_alloc] at k1 k2
  refine ⟨_, rfl, hbs, fun W hW => ⟨hbs.trans (hW.mono hbs.size), k3.below hW k3.lt, kd.below hW kd.lt, fun j hj => ?_⟩⟩
  have c2 := (k2.below hW k2.lt).cell j
  match j, hj with
  | 0, _ => exact ⟨none, c2, .inl rfl⟩
  | 1, _ => exact ⟨_, c2, .inr ⟨_, rfl, k1.below hW k1.lt⟩⟩

set_option maxHeartbeats 8000000 in
theorem walk_schedNone (g : Sop) (w : World) :
    Calls Try.prog 6 #[g.val] w fun e w' => e = .returned (.bool true) ∧ Below w.heap.size w w' := by
  go_enter Try.func6, Try.ntmps6
  go_wp2_with fail
  refine (begun_any _).mono ?_
  rintro e w1 ⟨rfl, hb1⟩
  simp only [World.size_alloc] at hb1
  obtain ⟨ws, hws, hbs, hall⟩ := none_start g hb1
  have HA : Hid _ := hall
  clear hb1 hall hbs
  go_wp2_with fail
  go_loopw [23] (fun iv wr => ∃ j : Nat, j ≤ 2 ∧ iv = .int .i64 j ∧ Hid (Below ws.heap.size ws wr)) (fun iv _ => 2 - (intOf iv).toNat)
  case atStart => exact ⟨0, by omega, rfl, Below.refl _ _⟩
  case round =>
    obtain ⟨j, hj, rfl, HB⟩ := hrel
    by_cases hlt : j < 2
    · have hli : (j : Int) < 2 := by omega
      obtain ⟨p, cp, hnm⟩ := (HA.out wr HB.out).2.2.2 j hlt
      obtain ⟨wf, hwf⟩ : ∃ wf, wr.alloc (.cells #[.int .i64 1, .pointer (some ⟨w1.heap.size, 0, none⟩)] 48) = wf := ⟨_, rfl⟩
      have hbf : Below wr.heap.size wr wf := hwf ▸ (Below.refl _ wr).alloc (Nat.le_refl _) _
      have hBf : Below ws.heap.size ws wf := HB.out.trans (hbf.mono HB.out.size)
      have kw := (HA.out wf hBf).2.1
      have kd := (HA.out wf hBf).2.2.1
      have c1 : wf.cell? ⟨w.heap.size, 1, none⟩ = some (.int .i64 g.n) := kw.cell 1
      have d0 : wf.cell? ⟨w1.heap.size, 0, none⟩ = some (.int .i64 0) := kd.cell 0
      have HN : Hid (∀ k, Nm (wf.drewN k) (.pointer p)) := fun k => (hnm.below hbf).below ⟨rfl, rfl, rfl, Nat.le_refl _, fun _ _ => rfl⟩
      have HBF : Hid (Below ws.heap.size ws wf) := hBf
      clear hnm hws kw kd hbf hBf
      go_wp2_with fail
      refine (spawn_not (HN.out 0) _).mono ?_
      rintro e w2 ⟨rfl, rfl⟩
      go_wp2_with fail
      refine (step_not (HN.out 0) _).mono ?_
      rintro e w2 ⟨rfl, rfl⟩
      go_wp2_with fail
      refine (pick_not (HN.out 0) _).mono ?_
      rintro e w2 ⟨rfl, rfl⟩
      go_wp2_with fail
      refine (run_not (HN.out 0) _).mono ?_
      rintro e w2 ⟨rfl, rfl⟩
      go_wp2_with fail
      refine (finished_not (HN.out 0)).mono ?_
      rintro e w2 ⟨rfl, rfl⟩
      have HC : Hid (∀ W, Below wf.heap.size wf W → W.cell? ⟨w.heap.size, 1, none⟩ = some (.int .i64 g.n) ∧ W.cell? ⟨w1.heap.size, 0, none⟩ = some (.int .i64 0)) := fun W hW => by
        have hB := HBF.out.trans (hW.mono HBF.out.size)
        exact ⟨(HA.out W hB).2.1.cell 1, (HA.out W hB).2.2.1.cell 0⟩
      have HD : Hid (Below wf.heap.size wf (wf.drewN 1)) := ⟨rfl, rfl, rfl, Nat.le_refl _, fun _ _ => rfl⟩
      go_wp2_with fail
      simp only [List.append_eq, List.cons_append, List.nil_append]
      go_region_held3 (fun w' => w'.cell? ⟨w.heap.size, 1, none⟩ = some (.int .i64 g.n) ∧ w'.cell? ⟨w1.heap.size, 0, none⟩ = some (.int .i64 0)) (go_keep) (first
        | (go_at_call 21; refine (drop_not (HN.out 1) _).mono ?_; rintro e w3 ⟨rfl, rfl⟩)
        | (go_at_call 11; refine (count_not (HN.out 1)).mono ?_; rintro e w3 ⟨rfl, rfl⟩)
        | (go_at_call 13; refine (steps_not (HN.out 1)).mono ?_; rintro e w3 ⟨rfl, rfl⟩)
        | (go_at_call 15; refine (of_not (HN.out 1) _).mono ?_; rintro e w3 ⟨rfl, rfl⟩)
        | (go_at_call 25; refine (alive_not (HN.out 1)).mono ?_; rintro e wa ⟨b, S, rfl, hAv, hba⟩; have hBa := HD.out.trans hba; have s1 := (HC.out wa hBa).1; have s2 := (HC.out wa hBa).2)
        | (go_at_call 24; refine (told_any hAv rfl (fun j x hx => by simp at hx)).mono ?_; rintro e wt ⟨rfl, hbt⟩; have hBt := hBa.trans (hbt.mono hBa.size); have s1 := (HC.out wt hBt).1; have s2 := (HC.out wt hBt).2))
      have HB30 : Hid (Below ws.heap.size ws wt) := HBF.out.trans (hBt.mono HBF.out.size)
      clear hBt hBa hAv hba hbt HC HN HD
      go_wp2
      go_roundw
      case rel => exact ⟨j + 1, by omega, by go_num, HB30⟩
      case measure => simp [intOf]; omega
    · have hli : ¬ (j : Int) < 2 := by omega
      have HE : Hid (Below w.heap.size w wr) := (HA.out wr HB.out).1
      go_wp2
      go_ret
      exact ⟨rfl, HE.out⟩

set_option maxRecDepth 100000 in
set_option maxHeartbeats 2000000 in
theorem lifted_schedNone (os : Os) (started : os.Started) (H : Type) (enc : TypeId × Value → H) :
    ReturnsInHanded {} Try.checked os 6 .any (Rows.schedNoneSpec.pre6 enc Try.prog Try.f6 Rows.schedNoneRow.domain false) (Rows.schedNoneSpec.post enc Try.prog Try.f6 false true false false) := by
  refine returnsInHanded_of_change_sized (C := Try.checked) own started (by kernel_rfl) Try.func6
    (ChangeSpec.witness6 (enc := enc) (C := Try.checked) false ⟨#[], #[.agg #[.int .i64 0, .int .i64 0]], []⟩ 8 (by kernel_rfl) (by kernel_rfl) (by kernel_rfl) (by kernel_rfl)) ?_
  intro W base args ds gs before hval0 hW _ hsz0 _
  have hsz : (DataW.weightsEach Try.prog (Try.f6.params.toList ++ Rows.schedNoneSpec.plain.varTypes Try.prog) (ds ++ gs)).all (· ≤ reachBytes) = true := hsz0
  clear hsz0
  have hval : ∀ (j : Nat) t v, Try.f6.params[j]? = some t → args[j]? = some v → Value.okWide Try.prog W .any base t v := hval0
  have hW' := hW
  obtain ⟨p, q, hA0, hV, rfl, hfz, hnd⟩ := hW
  have hA : DataW.TrodAll enc Try.prog W 0 (fun _ => true) true Try.f6.params.toList args.toList ds p := hA0
  rw [Try.params6] at hA hval hsz
  obtain ⟨v0, vs0, d0, ds0, p0, q0, hargs, rfl, rfl, h0, r0⟩ := trodAll_cons hA
  obtain ⟨rfl, rfl, rfl⟩ := trodAll_nil r0
  obtain rfl : args = #[v0] := by cases args; simp_all
  obtain ⟨rfl, rfl⟩ := trodVars_none hV
  have k0 := h0
  have lt0 : ∀ x ∈ p0, x.block < W.heap.size := by obtain ⟨m, hm⟩ := k0; exact DataW.trod_lt m _ _ _ hm
  obtain ⟨g0, e0⟩ : ∃ g : Sop, v0 = g.val := by
    obtain ⟨cs, hcs, _⟩ := okWide_struct Try.underlying32 (hval 0 32 v0 rfl rfl)
    obtain ⟨fuel, hf⟩ := h0
    obtain ⟨g, hg, _⟩ := in_sop hf
    refine ⟨g, ?_⟩
    rw [hcs] at hg ⊢
    congr 1
    apply Array.ext'
    simpa [Value.cells, Sop.cells] using hg
  subst e0
  clear hA0 hval0
  refine (walk_schedNone g0 W ).mono fun e W' ⟨he, bel⟩ => ?_
  subst he
  exact ⟨_, rfl, _, _, _, [], _, [], hW', trodAll_mk1 (shut_bool Try.underlying4 _), (trodAll_cons_mk (Below.trod laidOut (by kernel_rfl) (of_decide_eq_true (by kernel_rfl)) k0 bel lt0) trodAll_mk0), rfl, bel.frame _, fun h => by cases h⟩

/-- The statement. -/
theorem schedNone_holds : Rows.SchedNoneSaid :=
  OpenClaim.holds_of_wide 6 Try.f6 rfl rfl rfl rfl rfl rfl rfl ⟨rfl, rfl, rfl, rfl, rfl⟩ rfl rfl rfl rfl rfl (by kernel_rfl) Try.func6 (by kernel_rfl)
    (of_decide_eq_true (by kernel_rfl)) (by unfold Func.isWrapper; first | (rw [if_pos (by decide +kernel)]; kernel_rfl) | (rw [if_neg (by decide +kernel)]; exact ⟨rfl, rfl⟩))
    (fun os started H enc _ => lifted_schedNone os started H enc)
#print axioms schedNone_holds
end Go.Proofs.Ytpjcclmmplddeaa
