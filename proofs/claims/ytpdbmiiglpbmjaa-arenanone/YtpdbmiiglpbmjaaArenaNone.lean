/- An arena that no call made answers so, whatever handle and text it is asked with. -/
import Derived.Test.YtpdbmiiglpbmjaaArSilent
import Derived.Test.YtpdbmiiglpbmjaaArOpen
namespace Go.Proofs.Ytpdbmiiglpbmjaa
open Go.ChangeShapes Go.WideShapes Go.ChangeAt Go.RowKit
open Go.ChangeMaps (open_string shut_string)
set_option linter.unusedVariables false
set_option maxRecDepth 100000

/-- What lies ahead of the loop. -/
theorem none_start {w w1 : World} (s g : Int) (hb : Below (w.heap.size + 1) (w.alloc (.cells #[.int .i64 s, .int .i64 g] 36)) w1) :
    ∃ ws, (w1.alloc (.cells #[.int .i64 0, .slice none 0 0, .slice none 0 0, .int .i64 0] 66)).alloc (.cells #[.pointer none, .pointer (some ⟨w1.heap.size, 0, none⟩)] 23) = ws ∧ Below w.heap.size w ws ∧
      ∀ W, Below ws.heap.size ws W → Below w.heap.size w W ∧ (W.cell? ⟨w.heap.size, 0, none⟩ = some (.int .i64 s) ∧ W.cell? ⟨w.heap.size, 1, none⟩ = some (.int .i64 g)) ∧ ∀ j, j < 2 → ∃ p, W.cell? ⟨w1.heap.size + 1, j, none⟩ = some (.pointer p) ∧ Nm W p := by
  have h0 : Below w.heap.size w w1 := ((Below.refl _ w).alloc (Nat.le_refl _) _).trans (hb.mono (by omega))
  have k0 : Bk w1 w.heap.size 36 #[.int .i64 s, .int .i64 g] := (Bk.new w _ _).below hb (by omega)
  have k1 := (Bk.new w1 66 #[.int .i64 0, .slice none 0 0, .slice none 0 0, .int .i64 0]).alloc (.cells #[.pointer none, .pointer (some ⟨w1.heap.size, 0, none⟩)] 23)
  have k2 := Bk.new (w1.alloc (.cells #[.int .i64 0, .slice none 0 0, .slice none 0 0, .int .i64 0] 66)) 23 #[.pointer none, .pointer (some ⟨w1.heap.size, 0, none⟩)]
  have k3 := (k0.alloc (.cells #[.int .i64 0, .slice none 0 0, .slice none 0 0, .int .i64 0] 66)).alloc (.cells #[.pointer none, .pointer (some ⟨w1.heap.size, 0, none⟩)] 23)
  have hbs : Below w.heap.size w ((w1.alloc (.cells #[.int .i64 0, .slice none 0 0, .slice none 0 0, .int .i64 0] 66)).alloc (.cells #[.pointer none, .pointer (some ⟨w1.heap.size, 0, none⟩)] 23)) := (h0.alloc h0.size _).alloc (by have := h0.size; simp; omega) _
  simp only [World.size_alloc] at k2
  refine ⟨_, rfl, hbs, fun W hW => ⟨hbs.trans (hW.mono hbs.size), hcells (k3.below hW k3.lt), fun j hj => ?_⟩⟩
  have c2 := (k2.below hW k2.lt).cell j
  have c1 := (k1.below hW k1.lt).cell 0
  match j, hj with
  | 0, _ => exact ⟨none, c2, .inl rfl⟩
  | 1, _ => exact ⟨_, c2, .inr ⟨_, rfl, c1⟩⟩

set_option maxHeartbeats 8000000 in
theorem walk_arenaNone (s g : Int) (x : ByteArray) (w : World) (hx : x.size ≤ 140737488351232) :
    Calls Try.prog 6 #[.agg #[.int .i64 s, .int .i64 g], .string x] w fun e w' => e = .returned (.bool true) ∧ Below w.heap.size w w' := by
  clear hx
  go_enter Try.func6, Try.ntmps6
  go_wp2_with fail
  refine (begun_any _).mono ?_
  rintro e w1 ⟨rfl, hb1⟩
  simp only [World.size_alloc] at hb1
  obtain ⟨ws, hws, hbs, hall⟩ := none_start s g hb1
  have HA : Hid _ := hall
  clear hb1 hall hbs
  go_wp2_with fail
  go_loopw [17] (fun iv wr => ∃ j : Nat, j ≤ 2 ∧ iv = .int .i64 j ∧ Hid (Below ws.heap.size ws wr)) (fun iv _ => 2 - (intOf iv).toNat)
  case atStart => exact ⟨0, by omega, rfl, Below.refl _ _⟩
  case round =>
    obtain ⟨j, hj, rfl, HB⟩ := hrel
    by_cases hlt : j < 2
    · have hli : (j : Int) < 2 := by omega
      obtain ⟨p, cp, hnm⟩ := (HA.out wr HB.out).2.2 j hlt
      have HN : Hid (∀ W, Below wr.heap.size wr W → Nm W p) := fun W hW => hnm.below hW
      have HX : Hid (∀ W, Below wr.heap.size wr W → W.cell? ⟨w.heap.size, 0, none⟩ = some (.int .i64 s) ∧ W.cell? ⟨w.heap.size, 1, none⟩ = some (.int .i64 g)) := fun W hW => (HA.out W (HB.out.trans (hW.mono HB.out.size))).2.1
      clear hnm hws
      go_wp2_with fail
      refine (putN (HN.out wr (Below.refl _ _)) x).mono ?_
      rintro e w2 ⟨rfl, hb2⟩
      have HB2 : Hid (Below wr.heap.size wr (w2.alloc (.cells #[.int .i64 0, .int .i64 0] 36))) := hb2.alloc hb2.size _
      have HK2 : Hid (Bk (w2.alloc (.cells #[.int .i64 0, .int .i64 0] 36)) w2.heap.size 36 #[.int .i64 0, .int .i64 0]) := Bk.new _ _ _
      obtain ⟨c0, c1⟩ := HX.out _ HB2.out
      clear hb2 cp
      go_wp2_with fail
      refine (getN (HN.out _ HB2.out) s g).mono ?_
      rintro e w3 ⟨rfl, hb3⟩
      have HB3 : Hid (Below wr.heap.size wr w3) := HB2.out.trans (hb3.mono HB2.out.size)
      obtain ⟨d0, d1⟩ := hcells (HK2.out.below hb3 HK2.out.lt)
      obtain ⟨c0, c1⟩ := HX.out _ HB3.out
      clear hb3 HK2 HB2
      go_wp2_with fail
      refine (setN (HN.out _ HB3.out) s g x).mono ?_
      rintro e w4 ⟨rfl, hb4⟩
      have HB4 : Hid (Below wr.heap.size wr w4) := HB3.out.trans (hb4.mono HB3.out.size)
      obtain ⟨c0, c1⟩ := HX.out _ HB4.out
      clear hb4 HB3 d0 d1
      go_wp2_with fail
      refine (freeN (HN.out _ HB4.out) s g).mono ?_
      rintro e w5 ⟨rfl, hb5⟩
      have HB5 : Hid (Below wr.heap.size wr w5) := HB4.out.trans (hb5.mono HB4.out.size)
      clear hb5 HB4 c0 c1
      go_wp2_with fail
      refine (slotsN (HN.out _ HB5.out)).mono ?_
      rintro e w6 ⟨rfl, rfl⟩
      go_wp2_with fail
      refine (liveN (HN.out _ HB5.out)).mono ?_
      rintro e w7 ⟨rfl, rfl⟩
      go_wp2_with fail
      refine (staleN (HN.out _ HB5.out)).mono ?_
      rintro e w8 ⟨rfl, rfl⟩
      go_wp2_with fail
      refine (cloneN (HN.out _ HB5.out)).mono ?_
      rintro e w9 ⟨rfl, rfl⟩
      go_wp2_with fail
      refine (silentN (HN.out _ HB5.out)).mono ?_
      rintro e w10 ⟨rfl, hb10⟩
      have HB10 : Hid (Below ws.heap.size ws w10) := HB.out.trans ((HB5.out.trans (hb10.mono HB5.out.size)).mono HB.out.size)
      clear hb10 HB5 HX HN
      go_wp2
      go_roundw
      case rel => exact ⟨j + 1, by omega, by go_num, HB10⟩
      case measure => simp [intOf]; omega
    · have hli : ¬ (j : Int) < 2 := by omega
      have HE : Hid (Below w.heap.size w wr) := (HA.out wr HB.out).1
      go_wp2
      go_ret
      exact ⟨rfl, HE.out⟩

set_option maxRecDepth 100000 in
set_option maxHeartbeats 2000000 in
theorem lifted_arenaNone (os : Os) (started : os.Started) (H : Type) (enc : TypeId × Value → H) :
    ReturnsInHanded {} Try.checked os 6 .any (Rows.arenaNoneSpec.pre6 enc Try.prog Try.f6 Rows.arenaNoneRow.domain false) (Rows.arenaNoneSpec.post enc Try.prog Try.f6 false true false false) := by
  refine returnsInHanded_of_change_sized (C := Try.checked) own started (by kernel_rfl) Try.func6
    (ChangeSpec.witness6 (enc := enc) (C := Try.checked) false ⟨#[], #[.agg #[.int .i64 0, .int .i64 0], .string .empty], []⟩ 8 (by kernel_rfl) (by kernel_rfl) (by kernel_rfl) (by kernel_rfl)) ?_
  intro W base args ds gs before hval0 hW _ hsz0 _
  have hsz : (DataW.weightsEach Try.prog (Try.f6.params.toList ++ Rows.arenaNoneSpec.plain.varTypes Try.prog) (ds ++ gs)).all (· ≤ reachBytes) = true := hsz0
  clear hsz0
  have hval : ∀ (j : Nat) t v, Try.f6.params[j]? = some t → args[j]? = some v → Value.okWide Try.prog W .any base t v := hval0
  have hW' := hW
  obtain ⟨p, q, hA0, hV, rfl, hfz, hnd⟩ := hW
  have hA : DataW.TrodAll enc Try.prog W 0 (fun _ => true) true Try.f6.params.toList args.toList ds p := hA0
  rw [Try.params6] at hA hval hsz
  obtain ⟨v0, vs0, d0, ds0, p0, q0, hargs, rfl, rfl, h0, r0⟩ := trodAll_cons hA
  obtain ⟨v1, vs1, d1, ds1, p1, q1, rfl, rfl, rfl, h1, r1⟩ := trodAll_cons r0
  obtain ⟨rfl, rfl, rfl⟩ := trodAll_nil r1
  obtain rfl : args = #[v0, v1] := by cases args; simp_all
  obtain ⟨rfl, rfl⟩ := trodVars_none hV
  have k0 := h0
  have lt0 : ∀ x ∈ p0, x.block < W.heap.size := by obtain ⟨m, hm⟩ := k0; exact DataW.trod_lt m _ _ _ hm
  obtain ⟨s0, g0, e0⟩ : ∃ s0 g0, v0 = .agg #[.int .i64 s0, .int .i64 g0] := by
    obtain ⟨cs, hcs, _⟩ := okWide_struct Try.underlying36 (hval 0 36 v0 rfl rfl)
    obtain ⟨fuel, hf⟩ := h0
    obtain ⟨s0, g0, hg, _⟩ := in_hnd hf
    refine ⟨s0, g0, ?_⟩
    rw [hcs] at hg ⊢
    congr 1
    apply Array.ext'
    simpa [Value.cells] using hg
  subst e0
  obtain ⟨a1, rfl, rfl, rfl, w1⟩ := open_string Try.underlying9 (hval 1 9 v1 rfl rfl) h1
  have s1 : a1.size ≤ 140737488351232 := by
    have := sized_string hsz (j := 1) (t := 9) rfl rfl
    have e : a1.data.toList.length = a1.size := by rw [Array.length_toList]; rfl
    simp only [reachBytes] at this
    omega
  clear hA0 hval0
  refine (walk_arenaNone s0 g0 a1 W s1).mono fun e W' ⟨he, bel⟩ => ?_
  subst he
  exact ⟨_, rfl, _, _, _, [], _, [], hW', trodAll_mk1 (shut_bool Try.underlying4 _), (trodAll_cons_mk (Below.trod laidOut (by kernel_rfl) (of_decide_eq_true (by kernel_rfl)) k0 bel lt0) (trodAll_cons_mk (shut_string Try.underlying9 w1) trodAll_mk0)), rfl, bel.frame _, fun h => by cases h⟩

/-- The statement. -/
theorem arenaNone_holds : Rows.ArenaNoneSaid :=
  OpenClaim.holds_of_wide 6 Try.f6 rfl rfl rfl rfl rfl rfl rfl ⟨rfl, rfl, rfl, rfl, rfl⟩ rfl rfl rfl rfl rfl (by kernel_rfl) Try.func6 (by kernel_rfl)
    (of_decide_eq_true (by kernel_rfl)) (by unfold Func.isWrapper; first | (rw [if_pos (by decide +kernel)]; kernel_rfl) | (rw [if_neg (by decide +kernel)]; exact ⟨rfl, rfl⟩))
    (fun os started H enc _ => lifted_arenaNone os started H enc)
#print axioms arenaNone_holds
end Go.Proofs.Ytpdbmiiglpbmjaa
