/- An epoch that no call made answers so, whatever operation it is asked with. -/
import Derived.Test.YtndmcjkbbedoeaaEpYn
import Derived.Test.YtndmcjkbbedoeaaEpOpen
namespace Go.Proofs.Ytndmcjkbbedoeaa
open Go.ChangeShapes Go.WideShapes Go.ChangeAt Go.RowKit
open Go.ChangeMaps (open_string shut_string)
set_option linter.unusedVariables false
set_option maxRecDepth 100000

def zeroCells : Array Value := #[.int .i64 0, .int .i64 0, .int .i64 0, .int .i64 0, .int .i64 0, .int .i64 0, .int .i64 0, .int .i64 0, .int .i64 0, .int .i64 0, .int .i64 0, .int .i64 0, .int .i64 0, .int .i64 0, .int .i64 0, .int .i64 0, .int .i64 0, .int .i64 0, .slice none 0 0, .slice none 0 0, .slice none 0 0]

/-- What lies ahead of the loop. -/
theorem none_start {w w1 : World} (g : Eop) (hb : Below (w.heap.size + 1) (w.alloc (.cells #[.int .i64 g.dd, .int .i64 g.s, .int .i64 g.x.k, .int .i64 g.x.s, .int .i64 g.x.g] 33)) w1) :
    ∃ ws, (w1.alloc (.cells zeroCells 71)).alloc (.cells #[.pointer none, .pointer (some ⟨w1.heap.size, 0, none⟩)] 23) = ws ∧ Below w.heap.size w ws ∧
      ∀ W, Below ws.heap.size ws W → Below w.heap.size w W ∧ (W.cell? ⟨w.heap.size, 1, none⟩ = some (.int .i64 g.s) ∧ W.cell? ⟨w.heap.size, 2, none⟩ = some (.int .i64 g.x.k) ∧ W.cell? ⟨w.heap.size, 3, none⟩ = some (.int .i64 g.x.s) ∧ W.cell? ⟨w.heap.size, 4, none⟩ = some (.int .i64 g.x.g)) ∧ ∀ j, j < 2 → ∃ p, W.cell? ⟨w1.heap.size + 1, j, none⟩ = some (.pointer p) ∧ Nm W p := by
  have h0 : Below w.heap.size w w1 := ((Below.refl _ w).alloc (Nat.le_refl _) _).trans (hb.mono (by omega))
  have k0 : Bk w1 w.heap.size 33 #[.int .i64 g.dd, .int .i64 g.s, .int .i64 g.x.k, .int .i64 g.x.s, .int .i64 g.x.g] := (Bk.new w _ _).below hb (by omega)
  have k1 := (Bk.new w1 71 zeroCells).alloc (.cells #[.pointer none, .pointer (some ⟨w1.heap.size, 0, none⟩)] 23)
  have k2 := Bk.new (w1.alloc (.cells zeroCells 71)) 23 #[.pointer none, .pointer (some ⟨w1.heap.size, 0, none⟩)]
  have k3 := (k0.alloc (.cells zeroCells 71)).alloc (.cells #[.pointer none, .pointer (some ⟨w1.heap.size, 0, none⟩)] 23)
  have hbs : Below w.heap.size w ((w1.alloc (.cells zeroCells 71)).alloc (.cells #[.pointer none, .pointer (some ⟨w1.heap.size, 0, none⟩)] 23)) := (h0.alloc h0.size _).alloc (by have := h0.size; simp; omega) _
  simp only [World.size_alloc] at k2
  refine ⟨_, rfl, hbs, fun W hW => ⟨hbs.trans (hW.mono hbs.size), ?_, fun j hj => ?_⟩⟩
  · have k4 := k3.below hW k3.lt
    exact ⟨k4.cell 1, k4.cell 2, k4.cell 3, k4.cell 4⟩
  have c2 := (k2.below hW k2.lt).cell j
  have c1 := (k1.below hW k1.lt).cell 0
  match j, hj with
  | 0, _ => exact ⟨none, c2, .inl rfl⟩
  | 1, _ => exact ⟨_, c2, .inr ⟨_, rfl, c1⟩⟩

set_option maxHeartbeats 8000000 in
theorem walk_epochNone (g : Eop) (w : World) :
    Calls Try.prog 7 #[g.val] w fun e w' => e = .returned (.bool true) ∧ Below w.heap.size w w' := by
  go_enter Try.func7, Try.ntmps7
  go_wp2_with fail
  refine (begun_any _).mono ?_
  rintro e w1 ⟨rfl, hb1⟩
  simp only [World.size_alloc] at hb1
  obtain ⟨ws, hws, hbs, hall⟩ := none_start g hb1
  have HA : Hid _ := hall
  clear hb1 hall hbs
  unfold zeroCells at hws
  go_wp2_with fail
  go_loopw [15] (fun iv wr => ∃ j : Nat, j ≤ 2 ∧ iv = .int .i64 j ∧ Hid (Below ws.heap.size ws wr)) (fun iv _ => 2 - (intOf iv).toNat)
  case atStart => exact ⟨0, by omega, rfl, Below.refl _ _⟩
  case round =>
    obtain ⟨j, hj, rfl, HB⟩ := hrel
    by_cases hlt : j < 2
    · have hli : (j : Int) < 2 := by omega
      obtain ⟨p, cp, hnm⟩ := (HA.out wr HB.out).2.2 j hlt
      have HN : Hid (∀ W, Below wr.heap.size wr W → Nm W p) := fun W hW => hnm.below hW
      obtain ⟨c1, c2, c3, c4⟩ := (HA.out wr HB.out).2.1
      clear hnm hws
      go_wp2_with fail
      refine (advance_no (HN.out wr (Below.refl _ _))).mono ?_
      rintro e w2 ⟨rfl, rfl⟩
      go_wp2_with fail
      refine (pinned_no (HN.out w2 (Below.refl _ _)) _).mono ?_
      rintro e w3 ⟨rfl, rfl⟩
      go_wp2_with fail
      refine (pin_no (HN.out w3 (Below.refl _ _)) _).mono ?_
      rintro e w4 ⟨rfl, rfl⟩
      go_wp2_with fail
      refine (unpin_no (HN.out w4 (Below.refl _ _)) _).mono ?_
      rintro e w5 ⟨rfl, rfl⟩
      go_wp2_with fail
      refine (retire_no (HN.out w5 (Below.refl _ _)) g.x).mono ?_
      rintro e w6 ⟨rfl, hb6⟩
      have HB6 : Hid (Below w5.heap.size w5 w6) := hb6
      clear hb6 c1 c2 c3 c4 cp
      go_wp2_with fail
      refine (now_no (HN.out w6 HB6.out)).mono ?_
      rintro e w7 ⟨rfl, rfl⟩
      go_wp2_with fail
      refine (young_no (HN.out w7 HB6.out)).mono ?_
      rintro e w8 ⟨rfl, hb8⟩
      have HB8 : Hid (Below w5.heap.size w5 w8) := HB6.out.trans (hb8.mono HB6.out.size)
      clear hb8 HB6
      go_wp2_with fail
      refine (clone_no (HN.out w8 HB8.out)).mono ?_
      rintro e w9 ⟨rfl, rfl⟩
      have HB9 : Hid (Below ws.heap.size ws w9) := HB.out.trans (HB8.out.mono HB.out.size)
      clear HB8 HN
      go_wp2
      go_roundw
      case rel => exact ⟨j + 1, by omega, by go_num, HB9⟩
      case measure => simp [intOf]; omega
    · have hli : ¬ (j : Int) < 2 := by omega
      have HE : Hid (Below w.heap.size w wr) := (HA.out wr HB.out).1
      go_wp2
      go_ret
      exact ⟨rfl, HE.out⟩


set_option maxRecDepth 100000 in
set_option maxHeartbeats 2000000 in
theorem lifted_epochNone (os : Os) (started : os.Started) (H : Type) (enc : TypeId × Value → H) :
    ReturnsInHanded {} Try.checked os 7 .any (Rows.epochNoneSpec.pre6 enc Try.prog Try.f7 Rows.epochNoneRow.domain false) (Rows.epochNoneSpec.post enc Try.prog Try.f7 false true false false) := by
  refine returnsInHanded_of_change_sized (C := Try.checked) own started (by kernel_rfl) Try.func7
    (ChangeSpec.witness6 (enc := enc) (C := Try.checked) false ⟨#[], #[.agg #[.int .i64 0, .int .i64 0, .int .i64 0, .int .i64 0, .int .i64 0]], []⟩ 8 (by kernel_rfl) (by kernel_rfl) (by kernel_rfl) (by kernel_rfl)) ?_
  intro W base args ds gs before hval0 hW _ hsz0 _
  have hsz : (DataW.weightsEach Try.prog (Try.f7.params.toList ++ Rows.epochNoneSpec.plain.varTypes Try.prog) (ds ++ gs)).all (· ≤ reachBytes) = true := hsz0
  clear hsz0
  have hval : ∀ (j : Nat) t v, Try.f7.params[j]? = some t → args[j]? = some v → Value.okWide Try.prog W .any base t v := hval0
  have hW' := hW
  obtain ⟨p, q, hA0, hV, rfl, hfz, hnd⟩ := hW
  have hA : DataW.TrodAll enc Try.prog W 0 (fun _ => true) true Try.f7.params.toList args.toList ds p := hA0
  rw [Try.params7] at hA hval hsz
  obtain ⟨v0, vs0, d0, ds0, p0, q0, hargs, rfl, rfl, h0, r0⟩ := trodAll_cons hA
  obtain ⟨rfl, rfl, rfl⟩ := trodAll_nil r0
  obtain rfl : args = #[v0] := by cases args; simp_all
  obtain ⟨rfl, rfl⟩ := trodVars_none hV
  have k0 := h0
  have lt0 : ∀ x ∈ p0, x.block < W.heap.size := by obtain ⟨m, hm⟩ := k0; exact DataW.trod_lt m _ _ _ hm
  obtain ⟨g0, e0⟩ : ∃ g : Eop, v0 = g.val := by
    obtain ⟨cs, hcs, _⟩ := okWide_struct Try.underlying33 (hval 0 33 v0 rfl rfl)
    obtain ⟨fuel, hf⟩ := h0
    obtain ⟨g, hg, _⟩ := in_eop hf
    refine ⟨g, ?_⟩
    rw [hcs] at hg ⊢
    congr 1
    apply Array.ext'
    simpa [Value.cells, Eop.cells] using hg
  subst e0
  clear hA0 hval0
  refine (walk_epochNone g0 W ).mono fun e W' ⟨he, bel⟩ => ?_
  subst he
  exact ⟨_, rfl, _, _, _, [], _, [], hW', trodAll_mk1 (shut_bool Try.underlying4 _), (trodAll_cons_mk (Below.trod laidOut (by kernel_rfl) (of_decide_eq_true (by kernel_rfl)) k0 bel lt0) trodAll_mk0), rfl, bel.frame _, fun h => by cases h⟩

/-- The statement. -/
theorem epochNone_holds : Rows.EpochNoneSaid :=
  OpenClaim.holds_of_wide 7 Try.f7 rfl rfl rfl rfl rfl rfl rfl ⟨rfl, rfl, rfl, rfl, rfl⟩ rfl rfl rfl rfl rfl (by kernel_rfl) Try.func7 (by kernel_rfl)
    (of_decide_eq_true (by kernel_rfl)) (by unfold Func.isWrapper; first | (rw [if_pos (by decide +kernel)]; kernel_rfl) | (rw [if_neg (by decide +kernel)]; exact ⟨rfl, rfl⟩))
    (fun os started H enc _ => lifted_epochNone os started H enc)
#print axioms epochNone_holds
end Go.Proofs.Ytndmcjkbbedoeaa
