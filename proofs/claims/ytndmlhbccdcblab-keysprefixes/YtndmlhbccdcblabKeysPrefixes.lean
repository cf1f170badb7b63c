/- KeysPrefixes: a text begins with another one just if it is in the range of those that do; One has its text and not the next one: for any two texts. -/
import Derived.Test.YtndmlhbccdcblabKyLive
import Derived.Test.YtndmlhbccdcblabKyPre
import Derived.Test.YtndmlhbccdcblabKyOpen
import Derived.Deep.RegionHeld3
namespace Go.Proofs.Ytndmlhbccdcblab
open Go.ChangeShapes Go.WideShapes Go.ChangeAt Go.RowKit
open Go.ChangeMaps (open_string shut_string)
set_option linter.unusedVariables false
set_option maxRecDepth 100000

theorem kyFour (s key : ByteArray) : ∃ hi nx nk, Ky.pre s = ⟨s, hi⟩ ∧ Ky.next s = nx ∧ Ky.next key = nk ∧ Ky.one key = ⟨key, nk⟩ ∧ Ky.inn ⟨s, hi⟩ key = decide (s.toList <+: key.toList) ∧ Ky.inn ⟨s, hi⟩ s = true ∧ Ky.inn ⟨s, hi⟩ nx = true ∧ Ky.inn ⟨key, nk⟩ key = true ∧ Ky.inn ⟨key, nk⟩ nk = false :=
  ⟨_, _, _, rfl, rfl, rfl, rfl, Ky.inn_pre s key, Ky.inn_pre_self s, Ky.inn_pre_next s, Ky.inn_one_self key, Ky.inn_one_next key⟩

set_option maxHeartbeats 1000000 in
theorem walk_keysPrefixes (s key : ByteArray) (w : World) (hs : s.size ≤ 140737488351232) (hk : key.size ≤ 140737488351232) : Calls Try.prog 3 #[.string s, .string key] w fun e w' => e = .returned (.bool true) ∧ Below w.heap.size w w' := by
  obtain ⟨hi, nx, nk, e1, e2, e3, e4, f1, f2, f3, f4, f5⟩ := kyFour s key
  obtain ⟨bg, hbg⟩ : ∃ bg, bg = decide (s.toList <+: key.toList) := ⟨_, rfl⟩
  rw [← hbg] at f1
  have HS : Hid (s.size ≤ 281474976710656) := by unfold Hid; omega
  have HKY : Hid (key.size ≤ 281474976710656) := by unfold Hid; omega
  by_cases hl : s.size ≤ key.size
  · have hli : (s.size : Int) ≤ (key.size : Int) := by omega
    have hbe := Ky.begins_iff s key hl
    rw [← hbg] at hbe
    clear hbg
    go_enter Try.func3, Try.ntmps3
    go_wp2_with fail
    refine (prefix_any s _ hs).mono ?_
    rintro e w1 ⟨rfl, hb1⟩
    rw [e1]
    have HK1 : Hid (Bk (w1.alloc (.cells #[.string s, .string hi] 23)) w1.heap.size 23 #[.string s, .string hi]) := Bk.new _ _ _
    have HB1 : Hid (Below w.heap.size w (w1.alloc (.cells #[.string s, .string hi] 23))) := hb1.alloc hb1.size _
    have HC : Hid (∀ w', Below (w1.heap.size + 1) (w1.alloc (.cells #[.string s, .string hi] 23)) w' → (w'.cell? ⟨w1.heap.size, 0, none⟩ = some (.string s) ∧ w'.cell? ⟨w1.heap.size, 1, none⟩ = some (.string hi)) ∧ w1.heap.size + 1 ≤ w'.heap.size) := by
      intro w' hb
      have b1 := HK1.out.below hb (by omega)
      exact ⟨⟨b1.cell 0, b1.cell 1⟩, by have := b1.lt; omega⟩
    clear hb1
    have hB : Below (w1.heap.size + 1) (w1.alloc (.cells #[.string s, .string hi] 23)) (w1.alloc (.cells #[.string s, .string hi] 23)).drew := (Below.refl _ _).drew
    have hk0 := (HC.out _ hB).1
    go_wp2_with fail
    go_region_held3 (fun w' => w'.cell? ⟨w1.heap.size, 0, none⟩ = some (.string s) ∧ w'.cell? ⟨w1.heap.size, 1, none⟩ = some (.string hi)) (go_keep) (first
      | (go_at_call 6; refine (live_any _).mono ?_; rintro e v ⟨rfl, hb⟩; have hB := hB.trans (hb.mono (HC.out _ hB).2); clear hb; have hkc := (HC.out v hB).1)
      | (go_at_call 7; refine (in_any ⟨_, _⟩ _ _).mono ?_; rintro e v ⟨rfl, hb⟩; have hB := hB.trans (hb.mono (HC.out _ hB).2); clear hb; have hkc := (HC.out v hB).1; (first | rw [f1] | rw [f2] | rw [f3] | rw [f4] | rw [f5]))
      | (go_at_call_of 8 (Value.string s); refine (next_any _ _ HS.out).mono ?_; rintro e v ⟨rfl, rfl⟩; rw [e2])
      | (go_at_call_of 8 (Value.string key); refine (next_any _ _ HKY.out).mono ?_; rintro e v ⟨rfl, rfl⟩; rw [e3])
      | (go_at_call 9; refine (one_any _ _ HKY.out).mono ?_; rintro e v ⟨rfl, hb⟩; have hB := hB.trans (hb.mono (HC.out _ hB).2); clear hb; have hkc := (HC.out v hB).1; rw [e4]))
    go_wp2
    go_ret
    exact ⟨rfl, HB1.out.trans (hB.mono (by have := HB1.out.size; simp at this; omega))⟩
  · have hli : ¬ (s.size : Int) ≤ (key.size : Int) := by omega
    have hbe := Ky.begins_short s key hl
    rw [← hbg] at hbe
    clear hbg
    rw [hbe] at f1
    go_enter Try.func3, Try.ntmps3
    go_wp2_with fail
    refine (prefix_any s _ hs).mono ?_
    rintro e w1 ⟨rfl, hb1⟩
    rw [e1]
    have HK1 : Hid (Bk (w1.alloc (.cells #[.string s, .string hi] 23)) w1.heap.size 23 #[.string s, .string hi]) := Bk.new _ _ _
    have HB1 : Hid (Below w.heap.size w (w1.alloc (.cells #[.string s, .string hi] 23))) := hb1.alloc hb1.size _
    have HC : Hid (∀ w', Below (w1.heap.size + 1) (w1.alloc (.cells #[.string s, .string hi] 23)) w' → (w'.cell? ⟨w1.heap.size, 0, none⟩ = some (.string s) ∧ w'.cell? ⟨w1.heap.size, 1, none⟩ = some (.string hi)) ∧ w1.heap.size + 1 ≤ w'.heap.size) := by
      intro w' hb
      have b1 := HK1.out.below hb (by omega)
      exact ⟨⟨b1.cell 0, b1.cell 1⟩, by have := b1.lt; omega⟩
    clear hb1
    have hB : Below (w1.heap.size + 1) (w1.alloc (.cells #[.string s, .string hi] 23)) (w1.alloc (.cells #[.string s, .string hi] 23)).drew := (Below.refl _ _).drew
    have hk0 := (HC.out _ hB).1
    go_wp2_with fail
    go_region_held3 (fun w' => w'.cell? ⟨w1.heap.size, 0, none⟩ = some (.string s) ∧ w'.cell? ⟨w1.heap.size, 1, none⟩ = some (.string hi)) (go_keep) (first
      | (go_at_call 6; refine (live_any _).mono ?_; rintro e v ⟨rfl, hb⟩; have hB := hB.trans (hb.mono (HC.out _ hB).2); clear hb; have hkc := (HC.out v hB).1)
      | (go_at_call 7; refine (in_any ⟨_, _⟩ _ _).mono ?_; rintro e v ⟨rfl, hb⟩; have hB := hB.trans (hb.mono (HC.out _ hB).2); clear hb; have hkc := (HC.out v hB).1; (first | rw [f1] | rw [f2] | rw [f3] | rw [f4] | rw [f5]))
      | (go_at_call_of 8 (Value.string s); refine (next_any _ _ HS.out).mono ?_; rintro e v ⟨rfl, rfl⟩; rw [e2])
      | (go_at_call_of 8 (Value.string key); refine (next_any _ _ HKY.out).mono ?_; rintro e v ⟨rfl, rfl⟩; rw [e3])
      | (go_at_call 9; refine (one_any _ _ HKY.out).mono ?_; rintro e v ⟨rfl, hb⟩; have hB := hB.trans (hb.mono (HC.out _ hB).2); clear hb; have hkc := (HC.out v hB).1; rw [e4]))
    go_wp2
    go_ret
    exact ⟨rfl, HB1.out.trans (hB.mono (by have := HB1.out.size; simp at this; omega))⟩


set_option maxRecDepth 100000 in
set_option maxHeartbeats 2000000 in
theorem lifted_keysPrefixes (os : Os) (started : os.Started) (H : Type) (enc : TypeId × Value → H) :
    ReturnsInHanded {} Try.checked os 3 .any (Rows.keysPrefixesSpec.pre6 enc Try.prog Try.f3 Rows.keysPrefixesRow.domain false) (Rows.keysPrefixesSpec.post enc Try.prog Try.f3 false true false false) := by
  refine returnsInHanded_of_change_sized (C := Try.checked) own started (by kernel_rfl) Try.func3
    (ChangeSpec.witness6 (enc := enc) (C := Try.checked) false ⟨#[], #[.string .empty, .string .empty], []⟩ 8 (by kernel_rfl) (by kernel_rfl) (by kernel_rfl) (by kernel_rfl)) ?_
  intro W base args ds gs before hval0 hW _ hsz0 _
  have hsz : (DataW.weightsEach Try.prog (Try.f3.params.toList ++ Rows.keysPrefixesSpec.plain.varTypes Try.prog) (ds ++ gs)).all (· ≤ reachBytes) = true := hsz0
  clear hsz0
  have hval : ∀ (j : Nat) t v, Try.f3.params[j]? = some t → args[j]? = some v → Value.okWide Try.prog W .any base t v := hval0
  have hW' := hW
  obtain ⟨p, q, hA0, hV, rfl, hfz, hnd⟩ := hW
  have hA : DataW.TrodAll enc Try.prog W 0 (fun _ => true) true Try.f3.params.toList args.toList ds p := hA0
  rw [Try.params3] at hA hval hsz
  obtain ⟨v0, vs0, d0, ds0, p0, q0, hargs, rfl, rfl, h0, r0⟩ := trodAll_cons hA
  obtain ⟨v1, vs1, d1, ds1, p1, q1, rfl, rfl, rfl, h1, r1⟩ := trodAll_cons r0
  obtain ⟨rfl, rfl, rfl⟩ := trodAll_nil r1
  obtain rfl : args = #[v0, v1] := by cases args; simp_all
  obtain ⟨rfl, rfl⟩ := trodVars_none hV
  obtain ⟨a0, rfl, rfl, rfl, w0⟩ := open_string Try.underlying9 (hval 0 9 v0 rfl rfl) h0
  have s0 : a0.size ≤ 140737488351232 := by
    have := sized_string hsz (j := 0) (t := 9) rfl rfl
    have e : a0.data.toList.length = a0.size := by rw [Array.length_toList]; rfl
    simp only [reachBytes] at this
    omega
  obtain ⟨a1, rfl, rfl, rfl, w1⟩ := open_string Try.underlying9 (hval 1 9 v1 rfl rfl) h1
  have s1 : a1.size ≤ 140737488351232 := by
    have := sized_string hsz (j := 1) (t := 9) rfl rfl
    have e : a1.data.toList.length = a1.size := by rw [Array.length_toList]; rfl
    simp only [reachBytes] at this
    omega
  clear hA0 hval0
  refine (walk_keysPrefixes a0 a1 W s0 s1).mono fun e W' ⟨he, bel⟩ => ?_
  subst he
  exact ⟨_, rfl, _, _, _, [], _, [], hW', trodAll_mk1 (shut_bool Try.underlying4 _), (trodAll_cons_mk (shut_string Try.underlying9 w0) (trodAll_cons_mk (shut_string Try.underlying9 w1) trodAll_mk0)), rfl, bel.frame _, fun h => by cases h⟩

/-- The statement. -/
theorem keysPrefixes_holds : Rows.KeysPrefixesSaid :=
  OpenClaim.holds_of_wide 3 Try.f3 rfl rfl rfl rfl rfl rfl rfl ⟨rfl, rfl, rfl, rfl, rfl⟩ rfl rfl rfl rfl rfl (by kernel_rfl) Try.func3 (by kernel_rfl)
    (of_decide_eq_true (by kernel_rfl)) (by unfold Func.isWrapper; first | (rw [if_pos (by decide +kernel)]; kernel_rfl) | (rw [if_neg (by decide +kernel)]; exact ⟨rfl, rfl⟩))
    (fun os started H enc _ => lifted_keysPrefixes os started H enc)
#print axioms keysPrefixes_holds
end Go.Proofs.Ytndmlhbccdcblab
