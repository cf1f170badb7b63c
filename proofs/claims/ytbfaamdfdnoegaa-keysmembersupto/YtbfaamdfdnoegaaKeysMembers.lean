/- KeysMembers, where what comes in is of bulk at most 1048576: a text is in what ranges have in common just if it is in each; in their union just if it is in any; in what is left just if it is in any and not in what was taken. -/
import Derived.Test.YtbfaamdfdnoegaaKyLive
import Derived.Test.YtbfaamdfdnoegaaKyPu
import Derived.Test.YtbfaamdfdnoegaaKyBulk
namespace Go.Proofs.Ytbfaamdfdnoegaa
open Go.ChangeShapes Go.WideShapes Go.ChangeAt Go.RowKit
open Go.ChangeMaps (open_string shut_string)
set_option linter.unusedVariables false
set_option maxRecDepth 100000

set_option maxHeartbeats 2000000 in
theorem walk_keysMembers (p : Option Addr) (len cap : Nat) (l : List Rg) (r : Rg) (key : ByteArray) (w : World) (hin : InR w p len cap l) (_ : key.size ≤ 1048576) :
    Calls Try.prog 5 #[.slice p len cap, r.val, .string key] w fun e w' => e = .returned (.bool true) ∧ Below w.heap.size w w' := by
  obtain ⟨hlen, hrgs, hroom, hnil⟩ := hin
  have HL : Hid (l.length = len) := hlen
  have HN : Hid (p = none → len = 0) := hnil
  obtain ⟨w0, hw0⟩ : ∃ w0, w0 = w.alloc (.cells #[.string r.lo, .string r.hi] 23) := ⟨_, rfl⟩
  have HB0 : Hid (Below w.heap.size w w0) := by rw [hw0]; exact (Below.refl _ _).alloc (Nat.le_refl _) _
  have HK0 : Hid (Bk w0 w.heap.size 23 #[.string r.lo, .string r.hi]) := by rw [hw0]; exact Bk.new _ _ _
  have HX0 : Hid (Rgs w0 p l) := hrgs.below HB0.out (Nat.le_refl _)
  have HS0 : Hid (w.heap.size < w0.heap.size) := HK0.out.lt
  have HX : Hid (∀ w', Below w0.heap.size w0 w' → Rgs w' p l ∧ (w'.cell? ⟨w.heap.size, 0, none⟩ = some (.string r.lo) ∧ w'.cell? ⟨w.heap.size, 1, none⟩ = some (.string r.hi)) ∧ Below w.heap.size w w') := by
    intro w' hb
    have hk := HK0.out.below hb HS0.out
    exact ⟨HX0.out.below hb (Nat.le_refl _), ⟨hk.cell 0, hk.cell 1⟩, HB0.out.trans (hb.mono HB0.out.size)⟩
  clear hlen hrgs hnil
  go_enter Try.func5, Try.ntmps5
  go_wp2_with fail
  rw [← hw0]
  clear hw0
  go_loopw [7, 8, 14] (fun e a i wr => ∃ (k : Nat), k ≤ len ∧ i = .int .i64 k ∧ e = .bool ((l.take k).all fun x => Ky.inn x key) ∧ a = .bool ((l.take k).any fun x => Ky.inn x key) ∧ Hid (Below w0.heap.size w0 wr)) (fun _ _ i _ => len - (intOf i).toNat)
  case atStart => exact ⟨0, Nat.zero_le _, rfl, rfl, rfl, Below.refl _ _⟩
  case round =>
    obtain ⟨k, hk, rfl, rfl, rfl, HW⟩ := hrel
    by_cases hlt : k < len
    · have hli : (k : Int) < (len : Int) := by omega
      obtain ⟨b, o, x, rfl, hg, hblt, c0, c1⟩ := (HX.out _ HW.out).1.at (j := k) (by have := HL.out; omega)
      have HEA : Hid (((l.take (k + 1)).all fun x => Ky.inn x key) = (((l.take k).all fun x => Ky.inn x key) && Ky.inn x key)) := by unfold Hid; rw [List.take_add_one, hg]; simp
      have HEN : Hid (((l.take (k + 1)).any fun x => Ky.inn x key) = (((l.take k).any fun x => Ky.inn x key) || Ky.inn x key)) := by unfold Hid; rw [List.take_add_one, hg]; simp
      have HW5 : Hid (Below w0.heap.size w0 (wr.alloc (.cells #[.string x.lo, .string x.hi] 23))) := HW.out.alloc HW.out.size _
      clear hg
      go_wp2_with fail
      refine (in_any x key _).mono ?_
      rintro e w6 ⟨rfl, hb6⟩
      have HW6 : Hid (Below w0.heap.size w0 w6) := HW5.out.trans (hb6.mono HW5.out.size)
      clear hb6 c0 c1
      generalize ((l.take k).all fun x => Ky.inn x key) = ea at HEA ⊢
      generalize ((l.take k).any fun x => Ky.inn x key) = an at HEN ⊢
      generalize Ky.inn x key = ix at HEA HEN ⊢
      cases ea <;> cases an
      all_goals go_wp2
      all_goals (refine ⟨⟨k + 1, by omega, by go_num, ?_, ?_, HW6⟩, by simp [intOf]; omega⟩)
      all_goals first | (rw [HEA.out]; simp) | (rw [HEN.out]; simp)
    · have hkk : k = len := by omega
      have hli : ¬ ((k : Int) < (len : Int)) := by omega
      have htk : l.take k = l := List.take_of_length_le (by have := HL.out; omega)
      rw [htk]
      have he : Ky.inn (Ky.meet l) key = l.all fun x => Ky.inn x key := Ky.inn_meet l key
      have ha : Ky.hits l key = l.any fun x => Ky.inn x key := rfl
      generalize (l.all fun x => Ky.inn x key) = ea at he ⊢
      generalize (l.any fun x => Ky.inn x key) = an at ha ⊢
      have hlm : len ≤ 3298534883328 := by omega
      have hl6 : len ≤ 4611686018427387904 := by omega
      clear hli htk
      go_wp2_with fail
      refine (live_any _).mono ?_
      rintro e w1 ⟨rfl, hb⟩
      have HW1 : Hid (Below w0.heap.size w0 w1) := HW.out.trans (hb.mono HW.out.size)
      clear hb
      go_wp2_with fail
      refine (meet_any p len cap l _ HL.out (HX.out _ HW1.out).1 hl6).mono ?_
      rintro e w2 ⟨rfl, hb⟩
      have HW2 : Hid (Below w0.heap.size w0 w2) := HW1.out.trans (hb.mono HW1.out.size)
      clear hb
      go_wp2_with fail
      refine (in_any (Ky.meet l) key _).mono ?_
      rintro e w3 ⟨rfl, hb⟩
      have HW3 : Hid (Below w0.heap.size w0 w3) := HW2.out.trans (hb.mono HW2.out.size)
      clear hb
      rw [he]
      go_wp2_with fail
      refine (union_any p len cap l _ HL.out (HX.out _ HW3.out).1 hlm HN.out).mono ?_
      rintro e w4 ⟨v4, l4, rfl, hp4, hs4, ho4, hb⟩
      have HW4 : Hid (Below w0.heap.size w0 w4) := HW3.out.trans (hb.mono HW3.out.size)
      have hu4 := (Ky.uni_facts hp4 hs4).2 key
      have hlen4 : (Ky.uni l4).length ≤ 4611686018427387904 := by
        have h1 := Ky.uni_len l4 []
        have h2 := hp4.length_eq
        have h3 := Ky.full_le l
        have h4 := HL.out
        unfold Ky.uni
        simp only [List.length_nil] at h1
        omega
      obtain ⟨p4, c4, rfl, hr4, -⟩ := ho4.rgs
      have HR4 : Hid (Rgs w4 p4 (Ky.uni l4)) := hr4
      rw [ha] at hu4
      clear hb hp4 hs4 ho4 hr4
      go_wp2_with fail
      refine (hits_any p4 _ c4 (Ky.uni l4) key _ rfl HR4.out hlen4).mono ?_
      rintro e w5 ⟨rfl, hb⟩
      have HW5 : Hid (Below w0.heap.size w0 w5) := HW4.out.trans (hb.mono HW4.out.size)
      clear hb HR4
      rw [hu4]
      obtain ⟨-, ⟨r0, r1⟩, -⟩ := HX.out _ HW5.out
      go_wp2_with fail
      refine (minus_any p len cap l r _ HL.out (HX.out _ HW5.out).1 hroom HN.out).mono ?_
      rintro e w6 ⟨v6, l1, l2, rfl, hp1, hs1, hp2, hs2, ho6, hb⟩
      have HW6 : Hid (Below w0.heap.size w0 w6) := HW5.out.trans (hb.mono HW5.out.size)
      have hu6 : Ky.hits (Ky.uni l2) key = (an && !Ky.inn r key) := by
        rw [(Ky.uni_facts hp2 hs2).2 key, Ky.hits_left, (Ky.uni_facts hp1 hs1).2 key, Ky.hits_around, ha]
      have hlen6 : (Ky.uni l2).length ≤ 4611686018427387904 := by
        have h1 := Ky.uni_len l2 []
        have h2 := hp2.length_eq
        have h3 := Ky.full_le (Ky.left (Ky.uni l1) (Ky.around r))
        have h4 := Ky.left_len (Ky.uni l1) (Ky.around r)
        have h5 := Ky.uni_len l1 []
        have h6 := hp1.length_eq
        have h7 := Ky.full_le l
        have h8 := HL.out
        have h9 : (Ky.uni l1).length * (Ky.around r).length ≤ 1048576 * 2 := Nat.mul_le_mul (by unfold Ky.uni; simp only [List.length_nil] at h5; omega) (Ky.around_len r)
        unfold Ky.uni at h9 h4 h3 h2 ⊢
        simp only [List.length_nil] at h1
        omega
      obtain ⟨p6, c6, rfl, hr6, -⟩ := ho6.rgs
      have HR6 : Hid (Rgs w6 p6 (Ky.uni l2)) := hr6
      clear hb hp1 hs1 hp2 hs2 ho6 hr6 r0 r1
      go_wp2_with fail
      refine (hits_any p6 _ c6 (Ky.uni l2) key _ rfl HR6.out hlen6).mono ?_
      rintro e w7 ⟨rfl, hb⟩
      have HW7 : Hid (Below w0.heap.size w0 w7) := HW6.out.trans (hb.mono HW6.out.size)
      clear hb HR6
      rw [hu6]
      obtain ⟨-, ⟨r0, r1⟩, -⟩ := HX.out _ HW7.out
      have hend : ∀ w8, Below w0.heap.size w0 w8 → Calls Try.prog 29 #[.slice p len cap, .string key] w8 fun e w' => e = .returned (.bool an) ∧ Below w8.heap.size w8 w' := by
        intro w8 hb8
        refine (hits_any p len cap l key _ HL.out (HX.out _ hb8).1 hl6).mono ?_
        rintro e w9 ⟨rfl, hb9⟩
        exact ⟨by rw [ha], hb9⟩
      have HEND : Hid _ := hend
      clear hend
      cases an with
      | false =>
        go_wp2_with fail
        refine (HEND.out _ HW7.out).mono ?_
        rintro e w9 ⟨rfl, hb9⟩
        have HW9 : Hid (Below w0.heap.size w0 w9) := HW7.out.trans (hb9.mono HW7.out.size)
        clear hb9
        go_wp2
        go_ret
        exact ⟨rfl, (HX.out _ HW9.out).2.2⟩
      | true =>
        go_wp2_with fail
        refine (in_any r key _).mono ?_
        rintro e w8 ⟨rfl, hb8⟩
        have HW8 : Hid (Below w0.heap.size w0 w8) := HW7.out.trans (hb8.mono HW7.out.size)
        clear hb8
        cases hir : Ky.inn r key
        all_goals go_wp2_with fail
        all_goals refine (HEND.out _ HW8.out).mono ?_
        all_goals rintro e w9 ⟨rfl, hb9⟩
        all_goals have HW9 : Hid (Below w0.heap.size w0 w9) := HW8.out.trans (hb9.mono HW8.out.size)
        all_goals clear hb9
        all_goals go_wp2
        all_goals go_ret
        all_goals exact ⟨rfl, (HX.out _ HW9.out).2.2⟩


theorem contract_keysMembers (H : Type) (enc : TypeId × Value → H) (W : World) (base : Nat) (args : Array Value) (ds gs : List (DataW H)) (before : List MemPlace)
    (hval0 : ∀ (j : Nat) t v, Try.f5.params[j]? = some t → args[j]? = some v → Value.okWide Try.prog W .any base t v)
    (hW : DataW.Whole enc Try.prog Try.f5.params.toList Rows.keysMembersSpec.vars false W args.toList ds gs before) (hk : Rows.uptoSmall H (ds ++ gs) = true) :
    Calls Try.prog 5 args W fun e W' => ∃ v, e = .returned v ∧ Rows.keysMembersSpec.post enc Try.prog Try.f5 false true false false W args v W' := by
  have hval : ∀ (j : Nat) t v, Try.f5.params[j]? = some t → args[j]? = some v → Value.okWide Try.prog W .any base t v := hval0
  have hW' := hW
  obtain ⟨p, q, hA0, hV, rfl, hfz, hnd⟩ := hW
  have hA : DataW.TrodAll enc Try.prog W 0 (fun _ => true) true Try.f5.params.toList args.toList ds p := hA0
  rw [Try.params5] at hA hval
  obtain ⟨v0, vs0, d0, ds0, p0, q0, hargs, rfl, rfl, h0, r0⟩ := trodAll_cons hA
  obtain ⟨v1, vs1, d1, ds1, p1, q1, rfl, rfl, rfl, h1, r1⟩ := trodAll_cons r0
  obtain ⟨v2, vs2, d2, ds2, p2, q2, rfl, rfl, rfl, h2, r2⟩ := trodAll_cons r1
  obtain ⟨rfl, rfl, rfl⟩ := trodAll_nil r2
  obtain rfl : args = #[v0, v1, v2] := by cases args; simp_all
  obtain ⟨rfl, rfl⟩ := trodVars_none hV
  simp only [List.append_nil] at hk
  obtain ⟨a0, len0, cap0, rfl⟩ := okWide_slice Try.underlying31 (hval 0 31 v0 rfl rfl)
  have k0 := h0
  have lt0 : ∀ x ∈ p0, x.block < W.heap.size := by obtain ⟨m, hm⟩ := k0; exact DataW.trod_lt m _ _ _ hm
  obtain ⟨z0, w0⟩ := in_rgs h0 (small_slice hk (by simp))
  have k1 := h1
  have lt1 : ∀ x ∈ p1, x.block < W.heap.size := by obtain ⟨m, hm⟩ := k1; exact DataW.trod_lt m _ _ _ hm
  obtain ⟨g1, e1⟩ : ∃ g : Rg, v1 = g.val := by
    obtain ⟨cs, hcs, _⟩ := okWide_struct Try.underlying23 (hval 1 23 v1 rfl rfl)
    obtain ⟨fuel, hf⟩ := h1
    obtain ⟨g, hg⟩ := in_rg hf
    refine ⟨g, ?_⟩
    rw [hcs] at hg ⊢
    congr 1
    apply Array.ext'
    simpa [Value.cells, Rg.cells] using hg
  subst e1
  obtain ⟨a2, rfl, rfl, rfl, w2⟩ := open_string Try.underlying9 (hval 2 9 v2 rfl rfl) h2
  have s2 : a2.size ≤ 1048576 := small_string hk (by simp)
  clear hA0 hval0
  simp only [List.append_nil] at hW'
  refine (walk_keysMembers a0 len0 cap0 z0 g1 a2 W w0 s2).mono fun e W' ⟨he, bel⟩ => ?_
  subst he
  exact ⟨_, rfl, _, _, _, [], _, [], hW', trodAll_mk1 (shut_bool Try.underlying4 _), (trodAll_cons_mk (Below.trod laidOut (by kernel_rfl) (of_decide_eq_true (by kernel_rfl)) k0 bel lt0) (trodAll_cons_mk (Below.trod laidOut (by kernel_rfl) (of_decide_eq_true (by kernel_rfl)) k1 bel lt1) (trodAll_cons_mk (shut_string Try.underlying9 w2) trodAll_mk0))), rfl, bel.frame _, fun h => by cases h⟩

set_option maxRecDepth 100000 in
set_option maxHeartbeats 2000000 in
theorem lifted_keysMembers (os : Os) (started : os.Started) (H : Type) (enc : TypeId × Value → H) (F : Stop.Interp) :
    ReturnsInHanded {} Try.checked os 5 .any ((Rows.OpenSpec.upto Rows.keysMembersSpec).pre6 enc Try.prog Try.f5 Rows.keysMembersUptoRow.domain false) (((Rows.OpenSpec.upto Rows.keysMembersSpec).at F).post enc Try.prog Try.f5 false true false false) := by
  refine returnsInHanded_of_cond (C := Try.checked) (s := Rows.OpenSpec.upto Rows.keysMembersSpec) (k := Rows.uptoSmall) rfl own started (by kernel_rfl) Try.func5
    (OpenSpec.witness (enc := enc) (C := Try.checked) (s := Rows.OpenSpec.upto Rows.keysMembersSpec) (k := Rows.uptoSmall) rfl false ⟨#[], #[.slice none 0 0, .agg #[.string .empty, .string .empty], .string .empty], []⟩ 8 (by kernel_rfl) (by kernel_rfl) (by kernel_rfl)
      (x := ([.nil, .agg [.lit (.string []), .lit (.string [])], .lit (.string [])], [], [])) (by kernel_rfl) rfl (by kernel_rfl)) ?_
  intro W base args ds gs before hval hW _ hk _
  exact contract_keysMembers H enc W base args ds gs before hval hW hk

/-- The statement. -/
theorem keysMembers_holds : Rows.KeysMembersUptoSaid :=
  OpenClaim.holds_of_cond 5 Try.f5 rfl rfl rfl rfl rfl rfl rfl ⟨rfl, rfl, rfl, rfl, rfl⟩ rfl rfl rfl rfl rfl (by kernel_rfl) Try.func5 (by kernel_rfl)
    (of_decide_eq_true (by kernel_rfl)) (by unfold Func.isWrapper; first | (rw [if_pos (by decide +kernel)]; kernel_rfl) | (rw [if_neg (by decide +kernel)]; exact ⟨rfl, rfl⟩))
    (fun os started H enc _ F => lifted_keysMembers os started H enc F)
#print axioms keysMembers_holds
end Go.Proofs.Ytbfaamdfdnoegaa
