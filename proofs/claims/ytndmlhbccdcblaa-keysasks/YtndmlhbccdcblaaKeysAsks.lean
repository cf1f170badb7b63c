/- KeysAsks: what is in which range, which ranges are empty, overlap and cover each other, Next, One and Prefix are the document's: for any two ranges and any text. -/
import Derived.Test.YtndmlhbccdcblaaKyLive
import Derived.Test.YtndmlhbccdcblaaKyPr
import Derived.Test.YtndmlhbccdcblaaKyCr
import Derived.Test.YtndmlhbccdcblaaKyOpen
namespace Go.Proofs.Ytndmlhbccdcblaa
open Go.ChangeShapes Go.WideShapes Go.ChangeAt Go.RowKit
open Go.ChangeMaps (open_string shut_string)
set_option linter.unusedVariables false
set_option maxRecDepth 100000

set_option maxHeartbeats 2000000 in
theorem walk_keysAsks (a b : Rg) (key : ByteArray) (w : World) (_ : a.lo.size ≤ 140737488351232) (_ : a.hi.size ≤ 140737488351232) (_ : b.lo.size ≤ 140737488351232) (_ : b.hi.size ≤ 140737488351232) (hk : key.size ≤ 140737488351232) :
    Calls Try.prog 3 #[a.val, b.val, .string key] w fun e w' => e = .returned (.bool true) ∧ Below w.heap.size w w' := by
  have HKY : Hid (key.size ≤ 140737488351232) := hk
  have HKZ : Hid (key.size ≤ 281474976710656) := by unfold Hid; omega
  clear hk
  obtain ⟨w0, hw0⟩ : ∃ w0, w0 = ((w.alloc (.cells #[.string a.lo, .string a.hi] 23)).alloc (.cells #[.string b.lo, .string b.hi] 23)) := ⟨_, rfl⟩
  have HB0 : Hid (Below w.heap.size w w0) := by rw [hw0]; exact ((Below.refl _ _).alloc (Nat.le_refl _) _).alloc (by simp) _
  have HKA : Hid (Bk w0 w.heap.size 23 #[.string a.lo, .string a.hi]) := by rw [hw0]; exact (Bk.new _ _ _).alloc _
  have HKB : Hid (Bk w0 (w.heap.size + 1) 23 #[.string b.lo, .string b.hi]) := by
    rw [hw0]
    have := Bk.new (w.alloc (.cells #[.string a.lo, .string a.hi] 23)) 23 #[.string b.lo, .string b.hi]
    simp at this
    exact this
  have HC : Hid (∀ w', Below (w.heap.size + 2) w0 w' → (w'.cell? ⟨w.heap.size, 0, none⟩ = some (.string a.lo) ∧ w'.cell? ⟨w.heap.size, 1, none⟩ = some (.string a.hi) ∧ w'.cell? ⟨w.heap.size + 1, 0, none⟩ = some (.string b.lo) ∧ w'.cell? ⟨w.heap.size + 1, 1, none⟩ = some (.string b.hi)) ∧ w.heap.size + 2 ≤ w'.heap.size) := by
    intro w' hb
    have b1 := HKA.out.below hb (by omega)
    have b2 := HKB.out.below hb (by omega)
    exact ⟨⟨b1.cell 0, b1.cell 1, b2.cell 0, b2.cell 1⟩, by have := b2.lt; omega⟩
  obtain ⟨nx, hnx⟩ : ∃ nx, nx = Ky.next key := ⟨_, rfl⟩
  obtain ⟨on, hon⟩ : ∃ on, on = Ky.one key := ⟨_, rfl⟩
  obtain ⟨pr, hpr⟩ : ∃ pr, pr = Ky.pre key := ⟨_, rfl⟩
  have hB : Below (w.heap.size + 2) w0 w0.drew := (Below.refl _ _).drew
  have hk0 := (HC.out _ hB).1
  have hk1 := (HC.out _ (Below.refl _ _)).1
  go_enter Try.func3, Try.ntmps3
  go_wp2_with fail
  rw [← hw0]
  clear hw0
  go_region_held3 (fun w' => w'.cell? ⟨w.heap.size, 0, none⟩ = some (.string a.lo) ∧ w'.cell? ⟨w.heap.size, 1, none⟩ = some (.string a.hi) ∧ w'.cell? ⟨w.heap.size + 1, 0, none⟩ = some (.string b.lo) ∧ w'.cell? ⟨w.heap.size + 1, 1, none⟩ = some (.string b.hi)) (go_keep) (first
    | (go_at_call 9; refine (live_any _).mono ?_; rintro e v ⟨rfl, hb⟩; have hB := hB.trans (hb.mono (HC.out _ hB).2); clear hb; have hkc := (HC.out v hB).1)
    | (go_at_call 10; refine (in_any a _ _).mono ?_; rintro e v ⟨rfl, hb⟩; have hB := hB.trans (hb.mono (HC.out _ hB).2); clear hb; have hkc := (HC.out v hB).1)
    | (go_at_call 11; refine (rin_any a _ _).mono ?_; rintro e v ⟨rfl, hb⟩; have hB := hB.trans (hb.mono (HC.out _ hB).2); clear hb; have hkc := (HC.out v hB).1)
    | (go_at_call 12; refine (empty_any a _).mono ?_; rintro e v ⟨rfl, hb⟩; have hB := hB.trans (hb.mono (HC.out _ hB).2); clear hb; have hkc := (HC.out v hB).1)
    | (go_at_call 13; refine (rempty_any a _).mono ?_; rintro e v ⟨rfl, hb⟩; have hB := hB.trans (hb.mono (HC.out _ hB).2); clear hb; have hkc := (HC.out v hB).1)
    | (go_at_call 14; refine (overlap_any a b _).mono ?_; rintro e v ⟨rfl, hb⟩; have hB := hB.trans (hb.mono (HC.out _ hB).2); clear hb; have hkc := (HC.out v hB).1)
    | (go_at_call 15; refine (roverlap_any a b _).mono ?_; rintro e v ⟨rfl, hb⟩; have hB := hB.trans (hb.mono (HC.out _ hB).2); clear hb; have hkc := (HC.out v hB).1)
    | (go_at_call 16; refine (covers_any a b _).mono ?_; rintro e v ⟨rfl, hb⟩; have hB := hB.trans (hb.mono (HC.out _ hB).2); clear hb; have hkc := (HC.out v hB).1)
    | (go_at_call 17; refine (rcovers_any a b _).mono ?_; rintro e v ⟨rfl, hb⟩; have hB := hB.trans (hb.mono (HC.out _ hB).2); clear hb; have hkc := (HC.out v hB).1)
    | (go_at_call 18; refine (next_any _ _ HKZ.out).mono ?_; rintro e v ⟨rfl, rfl⟩; rw [← hnx])
    | (go_at_call 19; refine (rnext_any _ _ HKZ.out).mono ?_; rintro e v ⟨rfl, rfl⟩; rw [← hnx])
    | (go_at_call 20; refine (one_any _ _ HKZ.out).mono ?_; rintro e v ⟨rfl, hb⟩; have hB := hB.trans (hb.mono (HC.out _ hB).2); clear hb; have hkc := (HC.out v hB).1; rw [← hon])
    | (go_at_call 21; refine (rone_any _ _ HKZ.out).mono ?_; rintro e v ⟨rfl, hb⟩; have hB := hB.trans (hb.mono (HC.out _ hB).2); clear hb; have hkc := (HC.out v hB).1; rw [← hon])
    | (go_at_call 22; refine (prefix_any _ _ HKY.out).mono ?_; rintro e v ⟨rfl, hb⟩; have hB := hB.trans (hb.mono (HC.out _ hB).2); clear hb; have hkc := (HC.out v hB).1; rw [← hpr])
    | (go_at_call 23; refine (rprefix_any _ _ HKY.out).mono ?_; rintro e v ⟨rfl, hb⟩; have hB := hB.trans (hb.mono (HC.out _ hB).2); clear hb; have hkc := (HC.out v hB).1; rw [← hpr]))
  go_wp2
  go_ret
  exact ⟨rfl, HB0.out.trans (hB.mono (by omega))⟩


set_option maxRecDepth 100000 in
set_option maxHeartbeats 2000000 in
theorem lifted_keysAsks (os : Os) (started : os.Started) (H : Type) (enc : TypeId × Value → H) :
    ReturnsInHanded {} Try.checked os 3 .any (Rows.keysAsksSpec.pre6 enc Try.prog Try.f3 Rows.keysAsksRow.domain false) (Rows.keysAsksSpec.post enc Try.prog Try.f3 false true false false) := by
  refine returnsInHanded_of_change_sized (C := Try.checked) own started (by kernel_rfl) Try.func3
    (ChangeSpec.witness6 (enc := enc) (C := Try.checked) false ⟨#[], #[.agg #[.string .empty, .string .empty], .agg #[.string .empty, .string .empty], .string .empty], []⟩ 8 (by kernel_rfl) (by kernel_rfl) (by kernel_rfl) (by kernel_rfl)) ?_
  intro W base args ds gs before hval0 hW _ hsz0 _
  have hsz : (DataW.weightsEach Try.prog (Try.f3.params.toList ++ Rows.keysAsksSpec.plain.varTypes Try.prog) (ds ++ gs)).all (· ≤ reachBytes) = true := hsz0
  clear hsz0
  have hval : ∀ (j : Nat) t v, Try.f3.params[j]? = some t → args[j]? = some v → Value.okWide Try.prog W .any base t v := hval0
  have hW' := hW
  obtain ⟨p, q, hA0, hV, rfl, hfz, hnd⟩ := hW
  have hA : DataW.TrodAll enc Try.prog W 0 (fun _ => true) true Try.f3.params.toList args.toList ds p := hA0
  rw [Try.params3] at hA hval hsz
  obtain ⟨v0, vs0, d0, ds0, p0, q0, hargs, rfl, rfl, h0, r0⟩ := trodAll_cons hA
  obtain ⟨v1, vs1, d1, ds1, p1, q1, rfl, rfl, rfl, h1, r1⟩ := trodAll_cons r0
  obtain ⟨v2, vs2, d2, ds2, p2, q2, rfl, rfl, rfl, h2, r2⟩ := trodAll_cons r1
  obtain ⟨rfl, rfl, rfl⟩ := trodAll_nil r2
  obtain rfl : args = #[v0, v1, v2] := by cases args; simp_all
  obtain ⟨rfl, rfl⟩ := trodVars_none hV
  have k0 := h0
  have lt0 : ∀ x ∈ p0, x.block < W.heap.size := by obtain ⟨m, hm⟩ := k0; exact DataW.trod_lt m _ _ _ hm
  obtain ⟨g0, e0, w0, x0⟩ : ∃ g : Rg, v0 = g.val ∧ g.lo.size ≤ 140737488351232 ∧ g.hi.size ≤ 140737488351232 := by
    obtain ⟨cs, hcs, _⟩ := okWide_struct Try.underlying23 (hval 0 23 v0 rfl rfl)
    obtain ⟨fuel, hf⟩ := h0
    obtain ⟨g, hg, ho⟩ := in_rgW hf (fun n hn => by
      have := of_decide_eq_true (List.all_eq_true.1 hsz _ (DataW.weights_mem_each (j := 0) (t := 23) rfl rfl n hn))
      simp only [reachBytes] at this
      omega)
    refine ⟨g, ?_, ho⟩
    rw [hcs] at hg ⊢
    congr 1
    apply Array.ext'
    simpa [Value.cells, Rg.cells] using hg
  subst e0
  have k1 := h1
  have lt1 : ∀ x ∈ p1, x.block < W.heap.size := by obtain ⟨m, hm⟩ := k1; exact DataW.trod_lt m _ _ _ hm
  obtain ⟨g1, e1, w1, x1⟩ : ∃ g : Rg, v1 = g.val ∧ g.lo.size ≤ 140737488351232 ∧ g.hi.size ≤ 140737488351232 := by
    obtain ⟨cs, hcs, _⟩ := okWide_struct Try.underlying23 (hval 1 23 v1 rfl rfl)
    obtain ⟨fuel, hf⟩ := h1
    obtain ⟨g, hg, ho⟩ := in_rgW hf (fun n hn => by
      have := of_decide_eq_true (List.all_eq_true.1 hsz _ (DataW.weights_mem_each (j := 1) (t := 23) rfl rfl n hn))
      simp only [reachBytes] at this
      omega)
    refine ⟨g, ?_, ho⟩
    rw [hcs] at hg ⊢
    congr 1
    apply Array.ext'
    simpa [Value.cells, Rg.cells] using hg
  subst e1
  obtain ⟨a2, rfl, rfl, rfl, w2⟩ := open_string Try.underlying9 (hval 2 9 v2 rfl rfl) h2
  have s2 : a2.size ≤ 140737488351232 := by
    have := sized_string hsz (j := 2) (t := 9) rfl rfl
    have e : a2.data.toList.length = a2.size := by rw [Array.length_toList]; rfl
    simp only [reachBytes] at this
    omega
  clear hA0 hval0
  refine (walk_keysAsks g0 g1 a2 W w0 x0 w1 x1 s2).mono fun e W' ⟨he, bel⟩ => ?_
  subst he
  exact ⟨_, rfl, _, _, _, [], _, [], hW', trodAll_mk1 (shut_bool Try.underlying4 _), (trodAll_cons_mk (Below.trod laidOut (by kernel_rfl) (of_decide_eq_true (by kernel_rfl)) k0 bel lt0) (trodAll_cons_mk (Below.trod laidOut (by kernel_rfl) (of_decide_eq_true (by kernel_rfl)) k1 bel lt1) (trodAll_cons_mk (shut_string Try.underlying9 w2) trodAll_mk0))), rfl, bel.frame _, fun h => by cases h⟩

/-- The statement. -/
theorem keysAsks_holds : Rows.KeysAsksSaid :=
  OpenClaim.holds_of_wide 3 Try.f3 rfl rfl rfl rfl rfl rfl rfl ⟨rfl, rfl, rfl, rfl, rfl⟩ rfl rfl rfl rfl rfl (by kernel_rfl) Try.func3 (by kernel_rfl)
    (of_decide_eq_true (by kernel_rfl)) (by unfold Func.isWrapper; first | (rw [if_pos (by decide +kernel)]; kernel_rfl) | (rw [if_neg (by decide +kernel)]; exact ⟨rfl, rfl⟩))
    (fun os started H enc _ => lifted_keysAsks os started H enc)
#print axioms keysAsks_holds
end Go.Proofs.Ytndmlhbccdcblaa
