/- A cell and a box that no call made answer so, whatever they are asked with. -/
import Derived.Test.YtjfmilfplidepaaCeNo
import Derived.Test.YtjfmilfplidepaaCeOpen
namespace Go.Proofs.Ytjfmilfplidepaa
open Go.ChangeShapes Go.WideShapes Go.ChangeAt Go.RowKit
open Go.ChangeMaps (open_string shut_string)
set_option linter.unusedVariables false
set_option maxRecDepth 100000

/-- What lies ahead of the first loop. -/
theorem none_cells {w w1 : World} (g : Cop) (hb : Below (w.heap.size + 1) (w.alloc (.cells #[.int .i64 g.dd, .int .i64 g.was, .int .i64 g.is, .string g.x] 30)) w1) :
    ∃ ws, (w1.alloc (.cells #[.bool false, .int .i64 0, .int .i64 0] 69)).alloc (.cells #[.pointer none, .pointer (some ⟨w1.heap.size, 0, none⟩)] 23) = ws ∧
      ∀ W, Below ws.heap.size ws W → Below w.heap.size w W ∧ Bk W w.heap.size 30 #[.int .i64 g.dd, .int .i64 g.was, .int .i64 g.is, .string g.x] ∧ ∀ j, j < 2 → ∃ p, W.cell? ⟨w1.heap.size + 1, j, none⟩ = some (.pointer p) ∧ Nc W p := by
  have h0 : Below w.heap.size w w1 := ((Below.refl _ w).alloc (Nat.le_refl _) _).trans (hb.mono (by omega))
  have k0 : Bk w1 w.heap.size 30 #[.int .i64 g.dd, .int .i64 g.was, .int .i64 g.is, .string g.x] := (Bk.new w _ _).below hb (by omega)
  have k1 := (Bk.new w1 69 #[.bool false, .int .i64 0, .int .i64 0]).alloc (.cells #[.pointer none, .pointer (some ⟨w1.heap.size, 0, none⟩)] 23)
  have k2 := Bk.new (w1.alloc (.cells #[.bool false, .int .i64 0, .int .i64 0] 69)) 23 #[.pointer none, .pointer (some ⟨w1.heap.size, 0, none⟩)]
  have k3 := (k0.alloc (.cells #[.bool false, .int .i64 0, .int .i64 0] 69)).alloc (.cells #[.pointer none, .pointer (some ⟨w1.heap.size, 0, none⟩)] 23)
  have hbs : Below w.heap.size w ((w1.alloc (.cells #[.bool false, .int .i64 0, .int .i64 0] 69)).alloc (.cells #[.pointer none, .pointer (some ⟨w1.heap.size, 0, none⟩)] 23)) := (h0.alloc h0.size _).alloc (by have := h0.size; simp; omega) _
  simp only [World.size_alloc] at k2
  refine ⟨_, rfl, fun W hW => ⟨hbs.trans (hW.mono hbs.size), k3.below hW k3.lt, fun j hj => ?_⟩⟩
  have c2 := (k2.below hW k2.lt).cell j
  have c1 := (k1.below hW k1.lt).cell 0
  match j, hj with
  | 0, _ => exact ⟨none, c2, .inl rfl⟩
  | 1, _ => exact ⟨_, c2, .inr ⟨_, rfl, c1⟩⟩

/-- What lies ahead of the second loop. -/
theorem none_boxes {w : World} {o : Nat} {cs : Array Value} {t : TypeId} (k0 : Bk w o t cs) :
    ∃ ws, (w.alloc (.cells #[.chan none] 73)).alloc (.cells #[.pointer none, .pointer (some ⟨w.heap.size, 0, none⟩)] 37) = ws ∧
      ∀ W, Below ws.heap.size ws W → Below w.heap.size w W ∧ Bk W o t cs ∧ ∀ j, j < 2 → ∃ p, W.cell? ⟨w.heap.size + 1, j, none⟩ = some (.pointer p) ∧ Nb W p := by
  have k1 := (Bk.new w 73 #[.chan none]).alloc (.cells #[.pointer none, .pointer (some ⟨w.heap.size, 0, none⟩)] 37)
  have k2 := Bk.new (w.alloc (.cells #[.chan none] 73)) 37 #[.pointer none, .pointer (some ⟨w.heap.size, 0, none⟩)]
  have k3 := (k0.alloc (.cells #[.chan none] 73)).alloc (.cells #[.pointer none, .pointer (some ⟨w.heap.size, 0, none⟩)] 37)
  have hbs : Below w.heap.size w ((w.alloc (.cells #[.chan none] 73)).alloc (.cells #[.pointer none, .pointer (some ⟨w.heap.size, 0, none⟩)] 37)) := ((Below.refl _ w).alloc (Nat.le_refl _) _).alloc (by simp) _
  simp only [World.size_alloc] at k2
  refine ⟨_, rfl, fun W hW => ⟨hbs.trans (hW.mono hbs.size), k3.below hW k3.lt, fun j hj => ?_⟩⟩
  have c2 := (k2.below hW k2.lt).cell j
  have c1 := (k1.below hW k1.lt).cell 0
  match j, hj with
  | 0, _ => exact ⟨none, c2, .inl rfl⟩
  | 1, _ => exact ⟨_, c2, .inr ⟨_, rfl, c1⟩⟩

set_option maxHeartbeats 8000000 in
theorem walk_cellsNone (g : Cop) (w : World) :
    Calls Try.prog 7 #[g.val] w fun e w' => e = .returned (.bool true) ∧ Below w.heap.size w w' := by
  go_enter Try.func7, Try.ntmps7
  go_wp2_with fail
  refine (begun_any _).mono ?_
  rintro e w1 ⟨rfl, hb1⟩
  simp only [World.size_alloc] at hb1
  obtain ⟨ws, hws, hall⟩ := none_cells g hb1
  have HA : Hid _ := hall
  clear hb1 hall
  go_wp2_with fail
  go_loopw [17] (fun iv wr => ∃ j : Nat, j ≤ 2 ∧ iv = .int .i64 j ∧ Hid (Below ws.heap.size ws wr)) (fun iv _ => 2 - (intOf iv).toNat)
  case atStart => exact ⟨0, by omega, rfl, Below.refl _ _⟩
  case round =>
    obtain ⟨j, hj, rfl, HB⟩ := hrel
    by_cases hlt : j < 2
    · have hli : (j : Int) < 2 := by omega
      obtain ⟨p, cp, hnm⟩ := (HA.out wr HB.out).2.2 j hlt
      have HN : Hid (Nc wr p) := hnm
      have k := (HA.out wr HB.out).2.1
      have c1 : wr.cell? ⟨w.heap.size, 1, none⟩ = some (.int .i64 g.was) := k.cell 1
      have c2 : wr.cell? ⟨w.heap.size, 2, none⟩ = some (.int .i64 g.is) := k.cell 2
      clear hnm hws k
      go_wp2_with fail
      refine (cload_no HN.out).mono ?_
      rintro e w2 ⟨rfl, rfl⟩
      go_wp2_with fail
      refine (cswap_no HN.out _ _).mono ?_
      rintro e w3 ⟨rfl, rfl⟩
      go_wp2_with fail
      refine (cswap_no HN.out _ _).mono ?_
      rintro e w4 ⟨rfl, rfl⟩
      go_wp2_with fail
      refine (cset_no HN.out _).mono ?_
      rintro e w5 ⟨rfl, rfl⟩
      go_wp2_with fail
      refine (cclone_no HN.out).mono ?_
      rintro e w6 ⟨rfl, rfl⟩
      go_wp2
      go_roundw
      case rel => exact ⟨j + 1, by omega, by go_num, HB⟩
      case measure => simp [intOf]; omega
    · have hli : ¬ (j : Int) < 2 := by omega
      have HW : Hid (Below w.heap.size w wr) := (HA.out wr HB.out).1
      obtain ⟨wt, hwt, hall2⟩ := none_boxes (HA.out wr HB.out).2.1
      have HA2 : Hid _ := hall2
      clear hall2 hws HA HB
      go_wp2_with fail
      go_loopw [63] (fun iv wr => ∃ j : Nat, j ≤ 2 ∧ iv = .int .i64 j ∧ Hid (Below wt.heap.size wt wr)) (fun iv _ => 2 - (intOf iv).toNat)
      case atStart => exact ⟨0, by omega, rfl, Below.refl _ _⟩
      case round =>
        obtain ⟨i, hi, rfl, HB⟩ := hrel
        by_cases hlt : i < 2
        · have hli : (i : Int) < 2 := by omega
          obtain ⟨p, cp, hnm⟩ := (HA2.out wr HB.out).2.2 i hlt
          have HN : Hid (Nb wr p) := hnm
          have k := (HA2.out wr HB.out).2.1
          have c3 : wr.cell? ⟨w.heap.size, 3, none⟩ = some (.string g.x) := k.cell 3
          clear hnm hwt k
          go_wp2_with fail
          refine (take_no HN.out).mono ?_
          rintro e w2 ⟨rfl, rfl⟩
          go_wp2_with fail
          refine (put_no HN.out _).mono ?_
          rintro e w3 ⟨rfl, hb3⟩
          have HN3 : Hid (Nb w3 p) := HN.out.below hb3
          have HB3 : Hid (Below wt.heap.size wt w3) := HB.out.trans (hb3.mono HB.out.size)
          clear hb3 HN HB cp c3
          go_wp2_with fail
          refine (blen_no HN3.out).mono ?_
          rintro e w4 ⟨rfl, rfl⟩
          go_wp2_with fail
          refine (broom_no HN3.out).mono ?_
          rintro e w5 ⟨rfl, rfl⟩
          go_wp2_with fail
          refine (bclone_no HN3.out).mono ?_
          rintro e w6 ⟨rfl, rfl⟩
          go_wp2
          go_roundw
          case rel => exact ⟨i + 1, by omega, by go_num, HB3⟩
          case measure => simp [intOf]; omega
        · have hli : ¬ (i : Int) < 2 := by omega
          have HE : Hid (Below w.heap.size w wr) := HW.out.trans (((HA2.out wr HB.out).1).mono HW.out.size)
          go_wp2
          go_ret
          exact ⟨rfl, HE.out⟩

set_option maxRecDepth 100000 in
set_option maxHeartbeats 2000000 in
theorem lifted_cellsNone (os : Os) (started : os.Started) (H : Type) (enc : TypeId × Value → H) :
    ReturnsInHanded {} Try.checked os 7 .any (Rows.cellsNoneSpec.pre6 enc Try.prog Try.f7 Rows.cellsNoneRow.domain false) (Rows.cellsNoneSpec.post enc Try.prog Try.f7 false true false false) := by
  refine returnsInHanded_of_change_sized (C := Try.checked) own started (by kernel_rfl) Try.func7
    (ChangeSpec.witness6 (enc := enc) (C := Try.checked) false ⟨#[], #[.agg #[.int .i64 0, .int .i64 0, .int .i64 0, .string .empty]], []⟩ 8 (by kernel_rfl) (by kernel_rfl) (by kernel_rfl) (by kernel_rfl)) ?_
  intro W base args ds gs before hval0 hW _ hsz0 _
  have hsz : (DataW.weightsEach Try.prog (Try.f7.params.toList ++ Rows.cellsNoneSpec.plain.varTypes Try.prog) (ds ++ gs)).all (· ≤ reachBytes) = true := hsz0
  clear hsz0
  have hval : ∀ (j : Nat) t v, Try.f7.params[j]? = some t → args[j]? = some v → Value.okWide Try.prog W .any base t v := hval0
  have hW' := hW
  obtain ⟨p, q, hA0, hV, rfl, hfz, hnd⟩ := hW
  have hA : DataW.TrodAll enc Try.prog W 0 (fun _ => true) true Try.f7.params.toList args.toList ds p := hA0
  rw [Try.params7] at hA hval hsz
  obtain ⟨v0, vs0, d0, ds0, p0, q0, hargs, rfl, rfl, h0, r0⟩ := trodAll_cons hA
  obtain ⟨rfl, rfl, rfl⟩ := trodAll_nil r0
  obtain rfl : args = #[v0] := by cases args; simp_all
  obtain ⟨rfl, rfl⟩ := trodVars_none hV
  have k0 := h0
  have lt0 : ∀ x ∈ p0, x.block < W.heap.size := by obtain ⟨m, hm⟩ := k0; exact DataW.trod_lt m _ _ _ hm
  obtain ⟨g0, e0⟩ : ∃ g : Cop, v0 = g.val := by
    obtain ⟨cs, hcs, _⟩ := okWide_struct Try.underlying30 (hval 0 30 v0 rfl rfl)
    obtain ⟨fuel, hf⟩ := h0
    obtain ⟨g, hg, _⟩ := in_cop hf
    refine ⟨g, ?_⟩
    rw [hcs] at hg ⊢
    congr 1
    apply Array.ext'
    simpa [Value.cells, Cop.cells] using hg
  subst e0
  clear hA0 hval0
  refine (walk_cellsNone g0 W ).mono fun e W' ⟨he, bel⟩ => ?_
  subst he
  exact ⟨_, rfl, _, _, _, [], _, [], hW', trodAll_mk1 (shut_bool Try.underlying4 _), (trodAll_cons_mk (Below.trod laidOut (by kernel_rfl) (of_decide_eq_true (by kernel_rfl)) k0 bel lt0) trodAll_mk0), rfl, bel.frame _, fun h => by cases h⟩

/-- The statement. -/
theorem cellsNone_holds : Rows.CellsNoneSaid :=
  OpenClaim.holds_of_wide 7 Try.f7 rfl rfl rfl rfl rfl rfl rfl ⟨rfl, rfl, rfl, rfl, rfl⟩ rfl rfl rfl rfl rfl (by kernel_rfl) Try.func7 (by kernel_rfl)
    (of_decide_eq_true (by kernel_rfl)) (by unfold Func.isWrapper; first | (rw [if_pos (by decide +kernel)]; kernel_rfl) | (rw [if_neg (by decide +kernel)]; exact ⟨rfl, rfl⟩))
    (fun os started H enc _ => lifted_cellsNone os started H enc)
#print axioms cellsNone_holds
end Go.Proofs.Ytjfmilfplidepaa
