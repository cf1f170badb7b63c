/- A table that no call made answers so, whatever it is asked with; beside it a made one gives a page and swaps its head. -/
import Derived.Test.YtnjafmjkaajbkaaDoorTbSilent
import Derived.Test.YtnjafmjkaajbkaaDoorTbBg
import Derived.Test.YtnjafmjkaajbkaaDoorTbOpen
namespace Go.Proofs.YtnjafmjkaajbkaaDoor
open Go.ChangeShapes Go.WideShapes Go.ChangeAt Go.RowKit
open Go.ChangeMaps (open_string shut_string)
set_option linter.unusedVariables false
set_option maxRecDepth 100000

/-- What lies ahead of the loop. -/
theorem none_start {w w1 : World} (g : Top) (hb : Below (w.heap.size + 1) (w.alloc (.cells #[.int .i64 g.dd, .int .i64 g.page, .int .i64 g.was.1, .int .i64 g.was.2, .int .i64 g.is.1, .int .i64 g.is.2] 34)) w1) :
    ∃ ws, (w1.alloc (.cells #[.int .i64 0, .slice none 0 0, .slice none 0 0, .int .i64 0, .int .i64 0, .int .i64 0] 64)).alloc (.cells #[.pointer none, .pointer (some ⟨w1.heap.size, 0, none⟩)] 23) = ws ∧ Below w.heap.size w ws ∧
      ∀ W, Below ws.heap.size ws W → Below w.heap.size w W ∧ Bk W w.heap.size 34 #[.int .i64 g.dd, .int .i64 g.page, .int .i64 g.was.1, .int .i64 g.was.2, .int .i64 g.is.1, .int .i64 g.is.2] ∧ ∀ j, j < 2 → ∃ p, W.cell? ⟨w1.heap.size + 1, j, none⟩ = some (.pointer p) ∧ Nm W p := by
  have h0 : Below w.heap.size w w1 := ((Below.refl _ w).alloc (Nat.le_refl _) _).trans (hb.mono (by omega))
  have k0 : Bk w1 w.heap.size 34 #[.int .i64 g.dd, .int .i64 g.page, .int .i64 g.was.1, .int .i64 g.was.2, .int .i64 g.is.1, .int .i64 g.is.2] := (Bk.new w _ _).below hb (by omega)
  have k1 := (Bk.new w1 64 #[.int .i64 0, .slice none 0 0, .slice none 0 0, .int .i64 0, .int .i64 0, .int .i64 0]).alloc (.cells #[.pointer none, .pointer (some ⟨w1.heap.size, 0, none⟩)] 23)
  have k2 := Bk.new (w1.alloc (.cells #[.int .i64 0, .slice none 0 0, .slice none 0 0, .int .i64 0, .int .i64 0, .int .i64 0] 64)) 23 #[.pointer none, .pointer (some ⟨w1.heap.size, 0, none⟩)]
  have k3 := (k0.alloc (.cells #[.int .i64 0, .slice none 0 0, .slice none 0 0, .int .i64 0, .int .i64 0, .int .i64 0] 64)).alloc (.cells #[.pointer none, .pointer (some ⟨w1.heap.size, 0, none⟩)] 23)
  have hbs : Below w.heap.size w ((w1.alloc (.cells #[.int .i64 0, .slice none 0 0, .slice none 0 0, .int .i64 0, .int .i64 0, .int .i64 0] 64)).alloc (.cells #[.pointer none, .pointer (some ⟨w1.heap.size, 0, none⟩)] 23)) := (h0.alloc h0.size _).alloc (by have := h0.size; simp; omega) _
  simp only [World.size_alloc] at k2
  refine ⟨_, rfl, hbs, fun W hW => ⟨hbs.trans (hW.mono hbs.size), k3.below hW k3.lt, fun j hj => ?_⟩⟩
  have c2 := (k2.below hW k2.lt).cell j
  have c1 := (k1.below hW k1.lt).cell 0
  match j, hj with
  | 0, _ => exact ⟨none, c2, .inl rfl⟩
  | 1, _ => exact ⟨_, c2, .inr ⟨_, rfl, c1⟩⟩

set_option maxHeartbeats 8000000 in
theorem walk_tableNone (g : Top) (w : World) :
    Calls Tryd.prog 6 #[g.val] w fun e w' => e = .returned (.bool true) ∧ Below w.heap.size w w' := by
  go_enter Tryd.func6, Tryd.ntmps6
  go_wp2_with fail
  refine (begun_any _).mono ?_
  rintro e w1 ⟨rfl, hb1⟩
  simp only [World.size_alloc] at hb1
  obtain ⟨ws, hws, hbs, hall⟩ := none_start g hb1
  have HA : Hid _ := hall
  clear hb1 hall hbs
  go_wp2_with fail
  go_loopw [17] (fun iv wr => ∃ j : Nat, j ≤ 2 ∧ iv = .int .i64 j ∧ Hid (Below ws.heap.size ws wr)) (fun iv _ => 2 - (intOf iv).toNat)
  case atStart => exact ⟨0, by omega, rfl, Below.refl _ _⟩
  case round =>
    obtain ⟨j, hj, rfl, HB⟩ := hrel
    by_cases hlt : j < 2
    · have hli : (j : Int) < 2 := by omega
      obtain ⟨p, cp, hnm⟩ := (HA.out wr HB.out).2.2 j hlt
      have HN : Hid (∀ W, Below wr.heap.size wr W → Nm W p) := fun W hW => hnm.below hW
      have HX : Hid (∀ W, Below wr.heap.size wr W → Bk W w.heap.size 34 #[.int .i64 g.dd, .int .i64 g.page, .int .i64 g.was.1, .int .i64 g.was.2, .int .i64 g.is.1, .int .i64 g.is.2]) := fun W hW => (HA.out W (HB.out.trans (hW.mono HB.out.size))).2.1
      have kw := HX.out wr (Below.refl _ _)
      have c4 : wr.cell? ⟨w.heap.size, 4, none⟩ = some (.int .i64 g.is.1) := kw.cell 4
      have c5 : wr.cell? ⟨w.heap.size, 5, none⟩ = some (.int .i64 g.is.2) := kw.cell 5
      clear hnm hws kw
      go_wp2_with fail
      refine (alloc_no (HN.out wr (Below.refl _ _)) _ _).mono ?_
      rintro e w2 ⟨rfl, hb2⟩
      have HB2 : Hid (Below wr.heap.size wr w2) := hb2
      have kw := HX.out _ hb2
      have c1 : w2.cell? ⟨w.heap.size, 1, none⟩ = some (.int .i64 g.page) := kw.cell 1
      clear hb2 cp c4 c5 kw
      go_wp2_with fail
      refine (load_no (HN.out _ HB2.out) _).mono ?_
      rintro e w3 ⟨rfl, hb3⟩
      have hb4 : Below wr.heap.size wr (w3.alloc (.cells #[.int .i64 0, .int .i64 0] 32)) := (HB2.out.trans (hb3.mono HB2.out.size)).alloc (by have := HB2.out.size; have := hb3.size; omega) _
      have k4 : Bk (w3.alloc (.cells #[.int .i64 0, .int .i64 0] 32)) w3.heap.size 32 #[.int .i64 0, .int .i64 0] := Bk.new _ _ _
      have HB4 : Hid _ := hb4
      have HK4 : Hid (Bk (w3.alloc (.cells #[.int .i64 0, .int .i64 0] 32)) w3.heap.size 32 #[.int .i64 0, .int .i64 0]) := k4
      have kw := HX.out _ hb4
      have c1 : (w3.alloc (.cells #[.int .i64 0, .int .i64 0] 32)).cell? ⟨w.heap.size, 1, none⟩ = some (.int .i64 g.page) := kw.cell 1
      have c2 : (w3.alloc (.cells #[.int .i64 0, .int .i64 0] 32)).cell? ⟨w.heap.size, 2, none⟩ = some (.int .i64 g.was.1) := kw.cell 2
      have c3 : (w3.alloc (.cells #[.int .i64 0, .int .i64 0] 32)).cell? ⟨w.heap.size, 3, none⟩ = some (.int .i64 g.was.2) := kw.cell 3
      have c4 : (w3.alloc (.cells #[.int .i64 0, .int .i64 0] 32)).cell? ⟨w.heap.size, 4, none⟩ = some (.int .i64 g.is.1) := kw.cell 4
      have c5 : (w3.alloc (.cells #[.int .i64 0, .int .i64 0] 32)).cell? ⟨w.heap.size, 5, none⟩ = some (.int .i64 g.is.2) := kw.cell 5
      clear hb3 hb4 k4 kw
      go_wp2_with fail
      refine (swap_no (HN.out _ HB4.out) _ _ _ _ _).mono ?_
      rintro e w5 ⟨rfl, hb5⟩
      have hb5' := HB4.out.trans (hb5.mono HB4.out.size)
      have HB5 : Hid (Below wr.heap.size wr w5) := hb5'
      have kw := HX.out _ hb5'
      have k5 := HK4.out.below hb5 HK4.out.lt
      have c1 : w5.cell? ⟨w.heap.size, 1, none⟩ = some (.int .i64 g.page) := kw.cell 1
      have d0 : w5.cell? ⟨w3.heap.size, 0, none⟩ = some (.int .i64 0) := k5.cell 0
      have d1 : w5.cell? ⟨w3.heap.size, 1, none⟩ = some (.int .i64 0) := k5.cell 1
      clear hb5 hb5' kw k5 HK4 c2 c3 c4 c5 HB4 HB2
      go_wp2_with fail
      refine (retire_no (HN.out _ HB5.out) _).mono ?_
      rintro e w20 ⟨rfl, rfl⟩
      go_wp2_with fail
      refine (release_no (HN.out _ HB5.out) _).mono ?_
      rintro e w21 ⟨rfl, rfl⟩
      go_wp2_with fail
      refine (state_no (HN.out _ HB5.out) _).mono ?_
      rintro e w22 ⟨rfl, rfl⟩
      go_wp2_with fail
      refine (pages_no (HN.out _ HB5.out)).mono ?_
      rintro e w23 ⟨rfl, rfl⟩
      go_wp2_with fail
      refine (live_no (HN.out _ HB5.out)).mono ?_
      rintro e w24 ⟨rfl, rfl⟩
      go_wp2_with fail
      refine (gone_no (HN.out _ HB5.out)).mono ?_
      rintro e w25 ⟨rfl, rfl⟩
      go_wp2_with fail
      refine (missed_no (HN.out _ HB5.out)).mono ?_
      rintro e w26 ⟨rfl, rfl⟩
      go_wp2_with fail
      refine (clone_no (HN.out _ HB5.out)).mono ?_
      rintro e w27 ⟨rfl, rfl⟩
      go_wp2_with fail
      refine (silentN (HN.out _ HB5.out)).mono ?_
      rintro e w30 ⟨rfl, hb30⟩
      have HB30 : Hid (Below ws.heap.size ws w30) := HB.out.trans ((HB5.out.trans (hb30.mono HB5.out.size)).mono HB.out.size)
      clear hb30 HB5 HX HN
      go_wp2
      go_roundw
      case rel => exact ⟨j + 1, by omega, by go_num, HB30⟩
      case measure => simp [intOf]; omega
    · have hli : ¬ (j : Int) < 2 := by omega
      have HE : Hid (Below w.heap.size w wr) := (HA.out wr HB.out).1
      go_wp2
      go_ret
      exact ⟨rfl, HE.out⟩

theorem laid_met_tableNone (os : Os) : laidMet Tryd.prog Rows.tableNoneRow.laid (({ World.holding Tryd.prog os ⟨#[], #[], []⟩ with heap := (World.holding Tryd.prog os ⟨#[], #[], []⟩).heap.modify 0 fun | .cells _ t frozen => .cells (tabInts.map (Value.int .u8)).toArray t frozen | o => o } : World).forCall (fun _ _ => 0) ⟨#[], #[.agg #[.int .i64 0, .int .i64 0, .int .i64 0, .int .i64 0, .int .i64 0, .int .i64 0]], []⟩).memory :=
  laidMet_of_run' 8 (by kernel_rfl) (by kernel_rfl)
theorem reads_tableNone (os : Os) {H : Type} (enc : TypeId × Value → H) : ∃ places, DataW.whole enc Tryd.prog (({ World.holding Tryd.prog os ⟨#[], #[], []⟩ with heap := (World.holding Tryd.prog os ⟨#[], #[], []⟩).heap.modify 0 fun | .cells _ t frozen => .cells (tabInts.map (Value.int .u8)).toArray t frozen | o => o } : World).forCall (fun _ _ => 0) ⟨#[], #[.agg #[.int .i64 0, .int .i64 0, .int .i64 0, .int .i64 0, .int .i64 0, .int .i64 0]], []⟩).memory Tryd.f6.params.toList Rows.tableNoneSpec.vars false (#[.agg #[.int .i64 0, .int .i64 0, .int .i64 0, .int .i64 0, .int .i64 0, .int .i64 0]] : Array Value).toList 8 = some ([.agg [.lit (.int .i64 0), .lit (.int .i64 0), .agg [.lit (.int .i64 0), .lit (.int .i64 0)], .agg [.lit (.int .i64 0), .lit (.int .i64 0)]]], [], places) :=
  ⟨[], by kernel_rfl⟩

set_option maxRecDepth 100000 in
set_option maxHeartbeats 2000000 in
theorem lifted_tableNone (os : Os) (started : os.Started) (H : Type) (enc : TypeId × Value → H) (F : Stop.Interp) :
    ReturnsInHanded {} Tryd.checked os 6 .any ((OpenSpec.ofChange Rows.tableNoneSpec).preRow enc Tryd.prog Tryd.f6 Rows.tableNoneRow.domain false Rows.tableNoneRow.laid) (((OpenSpec.ofChange Rows.tableNoneSpec).at F).post enc Tryd.prog Tryd.f6 false true false false) := by
  obtain ⟨places, hx⟩ := reads_tableNone os enc
  refine returnsInHanded_of_row (C := Tryd.checked) (s := OpenSpec.ofChange Rows.tableNoneSpec) own started (by kernel_rfl) Tryd.func6
    (witness_row_at (enc := enc) (C := Tryd.checked) false ({ World.holding Tryd.prog os ⟨#[], #[], []⟩ with heap := (World.holding Tryd.prog os ⟨#[], #[], []⟩).heap.modify 0 fun | .cells _ t frozen => .cells (tabInts.map (Value.int .u8)).toArray t frozen | o => o } : World) #[.agg #[.int .i64 0, .int .i64 0, .int .i64 0, .int .i64 0, .int .i64 0, .int .i64 0]] rfl (by kernel_rfl) (by kernel_rfl) (by kernel_rfl)
      (OpenSpec.preRow_of_cond 8 hx (by kernel_rfl) (fun k hk => by cases hk) (by kernel_rfl) (laid_met_tableNone os))) ?_
  intro W base args ds gs before hval0 hW0 _ _ hsz0 hL _ _
  have hW : DataW.Whole enc Tryd.prog Tryd.f6.params.toList Rows.tableNoneSpec.vars false W args.toList ds gs before := hW0
  clear hW0
  have hsz : (DataW.weightsEach Tryd.prog (Tryd.f6.params.toList ++ Rows.tableNoneSpec.plain.varTypes Tryd.prog) (ds ++ gs)).all (· ≤ reachBytes) = true := hsz0
  clear hsz0
  show Calls Tryd.prog 6 args W fun e W' => ∃ v, e = .returned v ∧ Rows.tableNoneSpec.post enc Tryd.prog Tryd.f6 false true false false W args v W'
  have hval : ∀ (j : Nat) t v, Tryd.f6.params[j]? = some t → args[j]? = some v → Value.okWide Tryd.prog W .any base t v := hval0
  have hW' := hW
  obtain ⟨p, q, hA0, hV, rfl, hfz, hnd⟩ := hW
  have hA : DataW.TrodAll enc Tryd.prog W 0 (fun _ => true) true Tryd.f6.params.toList args.toList ds p := hA0
  rw [Tryd.params6] at hA hval hsz
  obtain ⟨v0, vs0, d0, ds0, p0, q0, hargs, rfl, rfl, h0, r0⟩ := trodAll_cons hA
  obtain ⟨rfl, rfl, rfl⟩ := trodAll_nil r0
  obtain rfl : args = #[v0] := by cases args; simp_all
  obtain ⟨rfl, rfl⟩ := trodVars_none hV
  have k0 := h0
  have lt0 : ∀ x ∈ p0, x.block < W.heap.size := by obtain ⟨m, hm⟩ := k0; exact DataW.trod_lt m _ _ _ hm
  obtain ⟨g0, e0⟩ : ∃ g : Top, v0 = g.val := by
    obtain ⟨cs, hcs, _⟩ := okWide_struct Tryd.underlying34 (hval 0 34 v0 rfl rfl)
    obtain ⟨fuel, hf⟩ := h0
    obtain ⟨g, hg, _⟩ := in_top hf
    refine ⟨g, ?_⟩
    rw [hcs] at hg ⊢
    congr 1
    apply Array.ext'
    simpa [Value.cells, Top.cells] using hg
  subst e0
  clear hA0 hval0
  refine (walk_tableNone g0 W ).mono fun e W' ⟨he, bel⟩ => ?_
  subst he
  exact ⟨_, rfl, _, _, _, [], _, [], hW', trodAll_mk1 (shut_bool Tryd.underlying4 _), (trodAll_cons_mk (Below.trod laidOut (by kernel_rfl) (of_decide_eq_true (by kernel_rfl)) k0 bel lt0) trodAll_mk0), rfl, bel.frame _, fun h => by cases h⟩

theorem tableNone_row : Rows.TableNoneSaid :=
  OpenClaim.holds_of_cond 6 Tryd.f6 rfl rfl rfl rfl rfl rfl rfl ⟨rfl, rfl, rfl, rfl, rfl⟩ rfl rfl rfl rfl rfl (by kernel_rfl) Tryd.func6 (by kernel_rfl)
    (of_decide_eq_true (by kernel_rfl)) (by unfold Func.isWrapper; first | (rw [if_pos (by decide +kernel)]; kernel_rfl) | (rw [if_neg (by decide +kernel)]; exact ⟨rfl, rfl⟩))
    (fun os started H enc _ F => by rw [OpenClaim.pre_eq_preRow]; exact lifted_tableNone os started H enc F)

/-- No parameter wants a stand-in; the program's own looks are off. -/
theorem tableNone_plain (f : FuncId) (fn : Func) (hf : Tryd.pinned.checked.prog.funcNamed "cresset/cressetlaw10.TableNone" = some f) (hfn : Tryd.pinned.checked.prog.funcs[f]? = some fn) :
    false = Tryd.pinned.checked.prog.looks [] ∧ ∀ (j : Nat) t, fn.params[j]? = some t → Tryd.pinned.checked.prog.wantsStandIn t = false := by
  obtain rfl : f = 6 := Option.some.inj ((show Tryd.prog.funcNamed "cresset/cressetlaw10.TableNone" = some 6 by kernel_rfl).symm.trans hf) |>.symm
  obtain rfl : fn = Tryd.f6 := (Option.some.inj (Tryd.func6.symm.trans hfn)).symm
  refine ⟨by kernel_rfl, fun j t ht => ?_⟩
  rw [Tryd.params6] at ht
  have hm : t = 34 := by simpa using Array.mem_of_getElem? ht
  subst hm
  all_goals first | exact (show Tryd.prog.wantsStandIn 34 = false by kernel_rfl)

/-- The statement. -/
theorem tableNone_holds : Rows.TableNoneCardSaid :=
  Claim7.holds_tied_plain_at .later [] _ _ _ _ tableNone_row (fun _ h => by cases h) (by kernel_rfl) (fun _ h => by cases h) tableNone_row_tie rfl ⟨rfl, rfl⟩ (by kernel_rfl) rfl tableNone_plain (by kernel_rfl)
#print axioms tableNone_holds
end Go.Proofs.YtnjafmjkaajbkaaDoor
