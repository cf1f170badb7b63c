/- An oracle that no call made answers so, whatever it is asked with; beside it a made one publishes its prefix in order. -/
import Derived.Test.YtdgphlghmjnjfaaOrBg
import Derived.Test.YtdgphlghmjnjfaaOrOpen
namespace Go.Proofs.Ytdgphlghmjnjfaa
open Go.ChangeShapes Go.WideShapes Go.ChangeAt Go.RowKit
open Go.ChangeMaps (open_string shut_string)
set_option linter.unusedVariables false
set_option maxRecDepth 100000

abbrev orZero : Array Value := #[.int .i64 0, .int .i64 0, .map none, .int .i64 0, .int .i64 0, .int .i64 0, .int .i64 0, .int .i64 0, .int .i64 0, .int .i64 0, .int .i64 0, .int .i64 0, .int .i64 0, .int .i64 0, .int .i64 0, .int .i64 0, .int .i64 0, .int .i64 0, .int .i64 0, .int .i64 0]

/-- What lies ahead of the loop. -/
theorem none_start {w w1 : World} (g : Oop) (hb : Below (w.heap.size + 1) (w.alloc (.cells #[.int .i64 g.dd, .int .i64 g.s, .int .i64 g.ts, .bool g.odd] 32)) w1) :
    ∃ ws, (w1.alloc (.cells #[.int .i64 0, .int .i64 0, .map none, .int .i64 0, .int .i64 0, .int .i64 0, .int .i64 0, .int .i64 0, .int .i64 0, .int .i64 0, .int .i64 0, .int .i64 0, .int .i64 0, .int .i64 0, .int .i64 0, .int .i64 0, .int .i64 0, .int .i64 0, .int .i64 0, .int .i64 0] 61)).alloc (.cells #[.pointer none, .pointer (some ⟨w1.heap.size, 0, none⟩)] 23) = ws ∧ Below w.heap.size w ws ∧
      ∀ W, Below ws.heap.size ws W → Below w.heap.size w W ∧ Bk W w.heap.size 32 #[.int .i64 g.dd, .int .i64 g.s, .int .i64 g.ts, .bool g.odd] ∧ ∀ j, j < 2 → ∃ p, W.cell? ⟨w1.heap.size + 1, j, none⟩ = some (.pointer p) ∧ Nm W (.pointer p) := by
  have h0 : Below w.heap.size w w1 := ((Below.refl _ w).alloc (Nat.le_refl _) _).trans (hb.mono (by omega))
  have k0 : Bk w1 w.heap.size 32 #[.int .i64 g.dd, .int .i64 g.s, .int .i64 g.ts, .bool g.odd] := (Bk.new w _ _).below hb (by omega)
  have k1 := (Bk.new w1 61 orZero).alloc (.cells #[.pointer none, .pointer (some ⟨w1.heap.size, 0, none⟩)] 23)
  have k2 := Bk.new (w1.alloc (.cells orZero 61)) 23 #[.pointer none, .pointer (some ⟨w1.heap.size, 0, none⟩)]
  have k3 := (k0.alloc (.cells orZero 61)).alloc (.cells #[.pointer none, .pointer (some ⟨w1.heap.size, 0, none⟩)] 23)
  have hbs : Below w.heap.size w ((w1.alloc (.cells orZero 61)).alloc (.cells #[.pointer none, .pointer (some ⟨w1.heap.size, 0, none⟩)] 23)) := (h0.alloc h0.size _).alloc (by have := h0.size; simp; omega) _
  simp only [World.size_alloc] at k2
  refine ⟨_, rfl, hbs, fun W hW => ⟨hbs.trans (hW.mono hbs.size), k3.below hW k3.lt, fun j hj => ?_⟩⟩
  have c2 := (k2.below hW k2.lt).cell j
  match j, hj with
  | 0, _ => exact ⟨none, c2, .inl rfl⟩
  | 1, _ => exact ⟨_, c2, .inr ⟨_, rfl, (k1.below hW k1.lt).cell 2⟩⟩

set_option maxHeartbeats 8000000 in
theorem walk_oracleNone (g : Oop) (w : World) :
    Calls Try.prog 6 #[g.val] w fun e w' => e = .returned (.bool true) ∧ Below w.heap.size w w' := by
  go_enter Try.func6, Try.ntmps6
  go_wp2_with fail
  refine (begun_any _).mono ?_
  rintro e w1 ⟨rfl, hb1⟩
  simp only [World.size_alloc] at hb1
  obtain ⟨ws, hws, hbs, hall⟩ := none_start g hb1
  have HA : Hid _ := hall
  clear hb1 hall hbs
  go_wp2_with fail
  go_loopw [17] (fun iv wr => ∃ j : Nat, j ≤ 2 ∧ iv = .int .i64 j ∧ Hid (Below ws.heap.size ws wr)) (fun iv _ => 2 - (intOf iv).toNat)
  case atStart => exact ⟨0, by omega, rfl, Below.refl _ _⟩
  case round =>
    obtain ⟨j, hj, rfl, HB⟩ := hrel
    by_cases hlt : j < 2
    · have hli : (j : Int) < 2 := by omega
      obtain ⟨p, cp, hnm⟩ := (HA.out wr HB.out).2.2 j hlt
      have kw := (HA.out wr HB.out).2.1
      have c1 : wr.cell? ⟨w.heap.size, 1, none⟩ = some (.int .i64 g.s) := kw.cell 1
      have c2 : wr.cell? ⟨w.heap.size, 2, none⟩ = some (.int .i64 g.ts) := kw.cell 2
      have HN : Hid (Nm wr (.pointer p)) := hnm
      clear hnm hws kw
      go_wp2_with fail
      refine (next_no HN.out).mono ?_
      rintro e w2 ⟨rfl, rfl⟩
      go_wp2_with fail
      refine (open_no HN.out _).mono ?_
      rintro e w2 ⟨rfl, rfl⟩
      go_wp2_with fail
      refine (snap_no HN.out _).mono ?_
      rintro e w2 ⟨rfl, rfl⟩
      go_wp2_with fail
      refine (publish_no HN.out _).mono ?_
      rintro e w2 ⟨rfl, rfl⟩
      go_wp2_with fail
      refine (close_no HN.out _).mono ?_
      rintro e w2 ⟨rfl, rfl⟩
      go_wp2_with fail
      refine (last_no HN.out).mono ?_
      rintro e w2 ⟨rfl, rfl⟩
      go_wp2_with fail
      refine (published_no HN.out).mono ?_
      rintro e w2 ⟨rfl, rfl⟩
      go_wp2_with fail
      refine (water_no HN.out).mono ?_
      rintro e w2 ⟨rfl, rfl⟩
      go_wp2_with fail
      refine (clone_no HN.out).mono ?_
      rintro e w2 ⟨rfl, rfl⟩
      go_wp2_with fail
      refine (pending_any (goes_no HN.out) (by simp)).mono ?_
      rintro e wa ⟨b, S, rfl, hAv, -, hba⟩
      have HAv : Hid (Av wa b S []) := hAv
      have HBA : Hid (Below w2.heap.size w2 wa) := hba
      clear hAv hba
      go_wp2_with fail
      refine (told_any HAv.out rfl (fun j x hx => by simp at hx)).mono ?_
      rintro e wt ⟨rfl, hbt⟩
      have HB30 : Hid (Below ws.heap.size ws wt) := HB.out.trans ((HBA.out.trans (hbt.mono HBA.out.size)).mono HB.out.size)
      clear hbt
      go_wp2
      go_roundw
      case rel => exact ⟨j + 1, by omega, by go_num, HB30⟩
      case measure => simp [intOf]; omega
    · have hli : ¬ (j : Int) < 2 := by omega
      have HE : Hid (Below w.heap.size w wr) := (HA.out wr HB.out).1
      go_wp2
      go_ret
      exact ⟨rfl, HE.out⟩

set_option maxRecDepth 100000 in
set_option maxHeartbeats 2000000 in
theorem lifted_oracleNone (os : Os) (started : os.Started) (H : Type) (enc : TypeId × Value → H) :
    ReturnsInHanded {} Try.checked os 6 .any (Rows.oracleNoneSpec.pre6 enc Try.prog Try.f6 Rows.oracleNoneRow.domain false) (Rows.oracleNoneSpec.post enc Try.prog Try.f6 false true false false) := by
  refine returnsInHanded_of_change_sized (C := Try.checked) own started (by kernel_rfl) Try.func6
    (ChangeSpec.witness6 (enc := enc) (C := Try.checked) false ⟨#[], #[.agg #[.int .i64 0, .int .i64 0, .int .i64 0, .bool false]], []⟩ 8 (by kernel_rfl) (by kernel_rfl) (by kernel_rfl) (by kernel_rfl)) ?_
  intro W base args ds gs before hval0 hW _ hsz0 _
  have hsz : (DataW.weightsEach Try.prog (Try.f6.params.toList ++ Rows.oracleNoneSpec.plain.varTypes Try.prog) (ds ++ gs)).all (· ≤ reachBytes) = true := hsz0
  clear hsz0
  have hval : ∀ (j : Nat) t v, Try.f6.params[j]? = some t → args[j]? = some v → Value.okWide Try.prog W .any base t v := hval0
  have hW' := hW
  obtain ⟨p, q, hA0, hV, rfl, hfz, hnd⟩ := hW
  have hA : DataW.TrodAll enc Try.prog W 0 (fun _ => true) true Try.f6.params.toList args.toList ds p := hA0
  rw [Try.params6] at hA hval hsz
  obtain ⟨v0, vs0, d0, ds0, p0, q0, hargs, rfl, rfl, h0, r0⟩ := trodAll_cons hA
  obtain ⟨rfl, rfl, rfl⟩ := trodAll_nil r0
  obtain rfl : args = #[v0] := by cases args; simp_all
  obtain ⟨rfl, rfl⟩ := trodVars_none hV
  have k0 := h0
  have lt0 : ∀ x ∈ p0, x.block < W.heap.size := by obtain ⟨m, hm⟩ := k0; exact DataW.trod_lt m _ _ _ hm
  obtain ⟨g0, e0⟩ : ∃ g : Oop, v0 = g.val := by
    obtain ⟨cs, hcs, _⟩ := okWide_struct Try.underlying32 (hval 0 32 v0 rfl rfl)
    obtain ⟨fuel, hf⟩ := h0
    obtain ⟨g, hg, _⟩ := in_oop hf
    refine ⟨g, ?_⟩
    rw [hcs] at hg ⊢
    congr 1
    apply Array.ext'
    simpa [Value.cells, Oop.cells] using hg
  subst e0
  clear hA0 hval0
  refine (walk_oracleNone g0 W ).mono fun e W' ⟨he, bel⟩ => ?_
  subst he
  exact ⟨_, rfl, _, _, _, [], _, [], hW', trodAll_mk1 (shut_bool Try.underlying4 _), (trodAll_cons_mk (Below.trod laidOut (by kernel_rfl) (of_decide_eq_true (by kernel_rfl)) k0 bel lt0) trodAll_mk0), rfl, bel.frame _, fun h => by cases h⟩

/-- The statement. -/
theorem oracleNone_holds : Rows.OracleNoneSaid :=
  OpenClaim.holds_of_wide 6 Try.f6 rfl rfl rfl rfl rfl rfl rfl ⟨rfl, rfl, rfl, rfl, rfl⟩ rfl rfl rfl rfl rfl (by kernel_rfl) Try.func6 (by kernel_rfl)
    (of_decide_eq_true (by kernel_rfl)) (by unfold Func.isWrapper; first | (rw [if_pos (by decide +kernel)]; kernel_rfl) | (rw [if_neg (by decide +kernel)]; exact ⟨rfl, rfl⟩))
    (fun os started H enc _ => lifted_oracleNone os started H enc)
#print axioms oracleNone_holds
end Go.Proofs.Ytdgphlghmjnjfaa
