/- An image that no call made answers so, whatever it is asked with; beside it a made one has what its snapshot sees. -/
import Derived.Test.YtcoibnlecdemcabImNo
import Derived.Test.YtcoibnlecdemcabImBg
import Derived.Test.YtcoibnlecdemcabImOpN
namespace Go.Proofs.Ytcoibnlecdemcab
open Go.ChangeShapes Go.WideShapes Go.ChangeAt Go.RowKit
open Go.ChangeMaps (open_string shut_string)
set_option linter.unusedVariables false
set_option maxRecDepth 100000

/-- What lies ahead of the loop. -/
theorem none_start {w w1 : World} (k : ByteArray) (q : Option Addr) (n c : Nat) (hb : Below (w.heap.size + 1) (w.alloc (.cells #[.string k, .slice q n c] 24)) w1) :
    ∃ ws, (w1.alloc (.cells #[.bool false, .int .i64 0, .string ⟨#[]⟩, .slice none 0 0] 29)).alloc (.cells #[.pointer none, .pointer (some ⟨w1.heap.size, 0, none⟩)] 26) = ws ∧ Below w.heap.size w ws ∧
      ∀ W, Below ws.heap.size ws W → Below w.heap.size w W ∧ Bk W w.heap.size 24 #[.string k, .slice q n c] ∧ ∀ j, j < 2 → ∃ p, W.cell? ⟨w1.heap.size + 1, j, none⟩ = some (.pointer p) ∧ NmI W p := by
  have h0 : Below w.heap.size w w1 := ((Below.refl _ w).alloc (Nat.le_refl _) _).trans (hb.mono (by omega))
  have k0 : Bk w1 w.heap.size 24 #[.string k, .slice q n c] := (Bk.new w _ _).below hb (by omega)
  have k1 := (Bk.new w1 29 #[.bool false, .int .i64 0, .string ⟨#[]⟩, .slice none 0 0]).alloc (.cells #[.pointer none, .pointer (some ⟨w1.heap.size, 0, none⟩)] 26)
  have k2 := Bk.new (w1.alloc (.cells #[.bool false, .int .i64 0, .string ⟨#[]⟩, .slice none 0 0] 29)) 26 #[.pointer none, .pointer (some ⟨w1.heap.size, 0, none⟩)]
  have k3 := (k0.alloc (.cells #[.bool false, .int .i64 0, .string ⟨#[]⟩, .slice none 0 0] 29)).alloc (.cells #[.pointer none, .pointer (some ⟨w1.heap.size, 0, none⟩)] 26)
  have hbs : Below w.heap.size w ((w1.alloc (.cells #[.bool false, .int .i64 0, .string ⟨#[]⟩, .slice none 0 0] 29)).alloc (.cells #[.pointer none, .pointer (some ⟨w1.heap.size, 0, none⟩)] 26)) := (h0.alloc h0.size _).alloc (by have := h0.size; simp; omega) _
  simp only [World.size_alloc] at k2
  refine ⟨_, rfl, hbs, fun W hW => ⟨hbs.trans (hW.mono hbs.size), k3.below hW k3.lt, fun j hj => ?_⟩⟩
  have c2 := (k2.below hW k2.lt).cell j
  match j, hj with
  | 0, _ => exact ⟨none, c2, .inl rfl⟩
  | 1, _ => exact ⟨_, c2, .inr ⟨_, rfl, k1.below hW k1.lt⟩⟩

set_option maxHeartbeats 8000000 in
theorem walk_imageNone (k : ByteArray) (q : Option Addr) (n c : Nat) (w : World) :
    Calls Try.prog 3 #[.agg #[.string k, .slice q n c]] w fun e w' => e = .returned (.bool true) ∧ Below w.heap.size w w' := by
  go_enter Try.func3, Try.ntmps3
  go_wp2_with fail
  refine (begun_any _).mono ?_
  rintro e w1 ⟨rfl, hb1⟩
  simp only [World.size_alloc] at hb1
  obtain ⟨ws, hws, hbs, hall⟩ := none_start k q n c hb1
  have HA : Hid _ := hall
  clear hb1 hall hbs
  go_wp2_with fail
  go_loopw [11] (fun iv wr => ∃ j : Nat, j ≤ 2 ∧ iv = .int .i64 j ∧ Hid (Below ws.heap.size ws wr)) (fun iv _ => 2 - (intOf iv).toNat)
  case atStart => exact ⟨0, by omega, rfl, Below.refl _ _⟩
  case round =>
    obtain ⟨j, hj, rfl, HB⟩ := hrel
    by_cases hlt : j < 2
    · have hli : (j : Int) < 2 := by omega
      obtain ⟨p, cp, hnm⟩ := (HA.out wr HB.out).2.2 j hlt
      have kw := (HA.out wr HB.out).2.1
      have c0 : wr.cell? ⟨w.heap.size, 0, none⟩ = some (.string k) := kw.cell 0
      have c1 : wr.cell? ⟨w.heap.size, 1, none⟩ = some (.slice q n c) := kw.cell 1
      have HN : Hid (NmI wr p) := hnm
      clear hnm hws kw
      go_wp2_with fail
      refine (add_no HN.out _ _ _ _).mono ?_
      rintro e w2 ⟨rfl, rfl⟩
      go_wp2_with fail
      refine (ts_no HN.out).mono ?_
      rintro e w2 ⟨rfl, rfl⟩
      go_wp2_with fail
      refine (imfrom_no HN.out).mono ?_
      rintro e w2 ⟨rfl, rfl⟩
      go_wp2_with fail
      refine (told_none HN.out).mono ?_
      rintro e w3 ⟨rfl, hb3⟩
      have HN3 : Hid (NmI w3 p) := HN.out.below hb3
      have HB3 : Hid (Below ws.heap.size ws w3) := HB.out.trans (hb3.mono HB.out.size)
      clear hb3
      go_wp2_with fail
      refine (lchunks_none HN3.out).mono ?_
      rintro e w4 ⟨rfl, hb4⟩
      have HB4 : Hid (Below ws.heap.size ws w4) := HB3.out.trans (hb4.mono HB3.out.size)
      clear hb4
      go_wp2
      go_roundw
      case rel => exact ⟨j + 1, by omega, by go_num, HB4⟩
      case measure => simp [intOf]; omega
    · have hli : ¬ (j : Int) < 2 := by omega
      have HE : Hid (Below w.heap.size w wr) := (HA.out wr HB.out).1
      go_wp2
      go_ret
      exact ⟨rfl, HE.out⟩

set_option maxRecDepth 100000 in
set_option maxHeartbeats 2000000 in
theorem lifted_imageNone (os : Os) (started : os.Started) (H : Type) (enc : TypeId × Value → H) :
    ReturnsInHanded {} Try.checked os 3 .any (Rows.imageNoneSpec.pre6 enc Try.prog Try.f3 Rows.imageNoneRow.domain false) (Rows.imageNoneSpec.post enc Try.prog Try.f3 false true false false) := by
  refine returnsInHanded_of_change_sized (C := Try.checked) own started (by kernel_rfl) Try.func3
    (ChangeSpec.witness6 (enc := enc) (C := Try.checked) false ⟨#[], #[.agg #[.string .empty, .slice none 0 0]], []⟩ 8 (by kernel_rfl) (by kernel_rfl) (by kernel_rfl) (by kernel_rfl)) ?_
  intro W base args ds gs before hval0 hW _ hsz0 _
  have hsz : (DataW.weightsEach Try.prog (Try.f3.params.toList ++ Rows.imageNoneSpec.plain.varTypes Try.prog) (ds ++ gs)).all (· ≤ reachBytes) = true := hsz0
  clear hsz0
  have hval : ∀ (j : Nat) t v, Try.f3.params[j]? = some t → args[j]? = some v → Value.okWide Try.prog W .any base t v := hval0
  have hW' := hW
  obtain ⟨p, q, hA0, hV, rfl, hfz, hnd⟩ := hW
  have hA : DataW.TrodAll enc Try.prog W 0 (fun _ => true) true Try.f3.params.toList args.toList ds p := hA0
  rw [Try.params3] at hA hval hsz
  obtain ⟨v0, vs0, d0, ds0, p0, q0, hargs, rfl, rfl, h0, r0⟩ := trodAll_cons hA
  obtain ⟨rfl, rfl, rfl⟩ := trodAll_nil r0
  obtain rfl : args = #[v0] := by cases args; simp_all
  obtain ⟨rfl, rfl⟩ := trodVars_none hV
  have k0 := h0
  have lt0 : ∀ x ∈ p0, x.block < W.heap.size := by obtain ⟨m, hm⟩ := k0; exact DataW.trod_lt m _ _ _ hm
  obtain ⟨s0, a0, len0, cap0, e0⟩ : ∃ (s : ByteArray) (a : Option Addr) (n c : Nat), v0 = .agg #[.string s, .slice a n c] := by
    obtain ⟨cs, hcs, _⟩ := okWide_struct Try.underlying24 (hval 0 24 v0 rfl rfl)
    obtain ⟨fuel, hf⟩ := h0
    obtain ⟨s, a, n, c, hg⟩ := in_part hf
    refine ⟨s, a, n, c, ?_⟩
    rw [hcs] at hg ⊢
    congr 1
    apply Array.ext'
    simpa [Value.cells] using hg
  subst e0
  clear hA0 hval0
  refine (walk_imageNone s0 a0 len0 cap0 W ).mono fun e W' ⟨he, bel⟩ => ?_
  subst he
  exact ⟨_, rfl, _, _, _, [], _, [], hW', trodAll_mk1 (shut_bool Try.underlying4 _), (trodAll_cons_mk (Below.trod laidOut (by kernel_rfl) (of_decide_eq_true (by kernel_rfl)) k0 bel lt0) trodAll_mk0), rfl, bel.frame _, fun h => by cases h⟩

/-- The statement. -/
theorem imageNone_holds : Rows.ImageNoneSaid :=
  OpenClaim.holds_of_wide 3 Try.f3 rfl rfl rfl rfl rfl rfl rfl ⟨rfl, rfl, rfl, rfl, rfl⟩ rfl rfl rfl rfl rfl (by kernel_rfl) Try.func3 (by kernel_rfl)
    (of_decide_eq_true (by kernel_rfl)) (by unfold Func.isWrapper; first | (rw [if_pos (by decide +kernel)]; kernel_rfl) | (rw [if_neg (by decide +kernel)]; exact ⟨rfl, rfl⟩))
    (fun os started H enc _ => lifted_imageNone os started H enc)
#print axioms imageNone_holds
end Go.Proofs.Ytcoibnlecdemcab
