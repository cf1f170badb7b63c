/- The document's Find and From. -/
import Derived.Test.YthpilennljpamaaGreatPgFe
import Derived.Test.YthpilennljpamaaGreatPgKr
namespace Go.Proofs.YthpilennljpamaaGreat
open Go.RowKit Go.Sort
set_option linter.unusedVariables false
set_option maxRecDepth 100000

/-- What is found of a key, in entries in whatever order. -/
def Pg.Fnd (leaf : Bool) (l : List En) (key : ByteArray) (out : Option En) : Prop :=
  (leaf = true → out = Pg.find true l key) ∧
  (leaf = false → (∃ (k : Nat) (x : En), out = some x ∧ l[k]? = some x ∧ Ky.lt key x.key = false ∧ ∀ (j : Nat) (y : En), k < j → l[j]? = some y → Ky.lt key y.key = true) ∨ (out = none ∧ ∀ (j : Nat) (y : En), l[j]? = some y → Ky.lt key y.key = true))

theorem Pg.Fnd.one {leaf : Bool} {l : List En} {key : ByteArray} {a b : Option En} (h1 : Pg.Fnd leaf l key a) (h2 : Pg.Fnd leaf l key b) : a = b := by
  cases leaf with
  | true => rw [h1.1 rfl, h2.1 rfl]
  | false =>
    rcases h1.2 rfl with ⟨k, x, rfl, hk, hx, hj⟩ | ⟨rfl, h⟩
    · rcases h2.2 rfl with ⟨k', x', rfl, hk', hx', hj'⟩ | ⟨rfl, h'⟩
      · rcases Nat.lt_trichotomy k k' with hlt | rfl | hgt
        · have := hj _ _ hlt hk'
          rw [hx'] at this
          cases this
        · rw [hk] at hk'
          exact hk'
        · have := hj' _ _ hgt hk
          rw [hx] at this
          cases this
      · have := h' _ _ hk
        rw [hx] at this
        cases this
    · rcases h2.2 rfl with ⟨k', x', rfl, hk', hx', hj'⟩ | ⟨rfl, h'⟩
      · have := h _ _ hk'
        rw [hx'] at this
        cases this
      · rfl

theorem Pg.Fnd.ord {l : List En} {leaf : Bool} {key : ByteArray} (ho : leaf = false → Pg.Ord l) : Pg.Fnd leaf l key (Pg.find leaf l key) := by
  refine ⟨fun h => by rw [h], fun h => ?_⟩
  subst h
  have hO := ho rfl
  have hall : ∀ j y, j < Pg.upto key l → l[j]? = some y → Ky.lt key y.key = false := fun j y hj hy => by
    have := List.not_of_lt_findIdx (p := fun e : En => Ky.lt key e.key) (xs := l) hj
    have hjl := (List.getElem?_eq_some_iff.1 hy).1
    have he := (List.getElem?_eq_some_iff.1 hy).2
    rw [he] at this
    simpa using this
  have hup : ∀ j y, Pg.upto key l ≤ j → l[j]? = some y → Ky.lt key y.key = true := fun j y hj hy => by
    have hjl := (List.getElem?_eq_some_iff.1 hy).1
    have hul : l.findIdx (fun e : En => Ky.lt key e.key) < l.length := Nat.lt_of_le_of_lt hj hjl
    have h1 := List.findIdx_getElem (p := fun e : En => Ky.lt key e.key) (xs := l) (w := hul)
    rcases Nat.eq_or_lt_of_le hj with he | hlt
    · subst he
      have e1 : l[Pg.upto key l]? = some l[l.findIdx (fun e : En => Ky.lt key e.key)] := List.getElem?_eq_getElem hul
      rw [e1] at hy
      cases hy
      exact h1
    · refine Ky.lt_of_le' (hO.le (j - Pg.upto key l) (Pg.upto key l) _ _ (List.getElem?_eq_getElem hul) ?_) h1
      rw [show Pg.upto key l + (j - Pg.upto key l) = j by omega]
      exact hy
  unfold Pg.find
  simp only [Bool.false_eq_true, if_false]
  by_cases hv : 0 < Pg.upto key l
  · rw [if_pos hv]
    have hul : Pg.upto key l ≤ l.length := List.findIdx_le_length
    have hlt : Pg.upto key l - 1 < l.length := by omega
    refine .inl ⟨Pg.upto key l - 1, l[Pg.upto key l - 1], List.getElem?_eq_getElem hlt, List.getElem?_eq_getElem hlt, hall _ _ (by omega) (List.getElem?_eq_getElem hlt), fun j y hj hy => hup j y (by omega) hy⟩
  · rw [if_neg hv]
    exact .inr ⟨rfl, fun j y hy => hup j y (by omega) hy⟩

set_option maxHeartbeats 4000000 in
theorem rfind_any (leaf : Bool) (lo hi : ByteArray) (r : Int) (p : Option Addr) (len cap : Nat) (l : List En) (key : ByteArray) (w : World) (hlen : l.length = len) (hx : Ens w p l) (hl : len ≤ 4398046511104) :
    Calls Tryz.prog 39 #[pgv leaf lo hi r p len cap, .string key] w fun e w' => (∃ out, e = .returned (fv out) ∧ Pg.Fnd leaf l key out) ∧ Below w.heap.size w w' := by
  obtain ⟨w0, hw0⟩ : ∃ w0, w0 = (w.alloc (.cells (pgc leaf lo hi r p len cap) 24)).alloc (.cells #[.string ⟨#[]⟩, .int .i64 0, .int .i64 0, .int .i64 0] 30) := ⟨_, rfl⟩
  have HB0 : Hid (Below w.heap.size w w0) := by rw [hw0]; exact ((Below.refl _ _).alloc (Nat.le_refl _) _).alloc (by simp) _
  have HK0 : Hid (Bk w0 w.heap.size 24 (pgc leaf lo hi r p len cap)) := by rw [hw0]; exact (Bk.new _ _ _).alloc _
  have HR0 : Hid (Bk w0 (w.heap.size + 1) 30 #[.string ⟨#[]⟩, .int .i64 0, .int .i64 0, .int .i64 0]) := by rw [hw0]; exact Bk.new1 _ _ _ _
  have HL : Hid (l.length = len) := hlen
  have HX0 : Hid (Ens w0 p l) := hx.below HB0.out (Nat.le_refl _)
  clear hx hlen
  have a0 : w0.cell? ⟨w.heap.size, 0, none⟩ = some (.bool leaf) := HK0.out.cell 0
  have a4 : w0.cell? ⟨w.heap.size, 4, none⟩ = some (.slice p len cap) := HK0.out.cell 4
  have b0 : w0.cell? ⟨w.heap.size + 1, 0, none⟩ = some (.string ⟨#[]⟩) := HR0.out.cell 0
  have f0 : w0.frozen? ⟨w.heap.size + 1, 0, none⟩ = false := HR0.out.frozen 0
  have b1 : w0.cell? ⟨w.heap.size + 1, 1, none⟩ = some (.int .i64 0) := HR0.out.cell 1
  have f1 : w0.frozen? ⟨w.heap.size + 1, 1, none⟩ = false := HR0.out.frozen 1
  have b2 : w0.cell? ⟨w.heap.size + 1, 2, none⟩ = some (.int .i64 0) := HR0.out.cell 2
  have f2 : w0.frozen? ⟨w.heap.size + 1, 2, none⟩ = false := HR0.out.frozen 2
  have b3 : w0.cell? ⟨w.heap.size + 1, 3, none⟩ = some (.int .i64 0) := HR0.out.cell 3
  have f3 : w0.frozen? ⟨w.heap.size + 1, 3, none⟩ = false := HR0.out.frozen 3
  have HEND : Hid (∀ (x : En) (we : World), we = put4 w0 (w.heap.size + 1) (.string x.key) (.int .i64 x.s) (.int .i64 x.g) (.int .i64 x.c) → Bk we (w.heap.size + 1) 30 #[.string x.key, .int .i64 x.s, .int .i64 x.g, .int .i64 x.c] ∧ Below w.heap.size w we) := fun x we hwe => by
    have ht : Tn [w.heap.size + 1] w0 we := by rw [hwe]; exact (Tn.refl _ _).four (.inl (by simp)) _ _ _ _
    exact ⟨by rw [hwe]; exact HR0.out.four _ _ _ _, HB0.out.trans (ht.below HB0.out.size (by simp))⟩
  cases leaf with
  | true =>
    go_enter Tryz.func39, Tryz.ntmps39
    go_wp2_with fail
    rw [← hw0]
    clear hw0
    go_wp2_with fail
    go_loopw [6] (fun i wr => ∃ k : Nat, k ≤ len ∧ i = .int .i64 k ∧ wr = w0 ∧ Hid (∀ j x, j < k → l[j]? = some x → Pg.is key x = false)) (fun i _ => len - (intOf i).toNat)
    case atStart => exact ⟨0, Nat.zero_le _, rfl, rfl, fun j x hj => absurd hj (Nat.not_lt_zero _)⟩
    case round =>
      obtain ⟨k, hk, rfl, rfl, HA⟩ := hrel
      by_cases hlt : k < len
      · have hli : (k : Int) < (len : Int) := by omega
        have hk0 : (0 : Int) ≤ (k : Int) := by omega
        obtain ⟨b, o, x, rfl, hg, hblt, c0, c1, c2, c3⟩ := HX0.out.at (j := k) (by have := HL.out; omega)
        have HG : Hid (l[k]? = some x) := hg
        clear hg
        cases hq : Pg.is key x with
        | true =>
          have HF : Hid (Pg.Fnd true l key (some x)) := by
            refine ⟨fun _ => ?_, fun h => by cases h⟩
            unfold Pg.find
            simp only [if_true]
            have hkl := (List.getElem?_eq_some_iff.1 HG.out).1
            have hy : l.any (Pg.is key) = true := List.any_eq_true.2 ⟨x, List.mem_of_getElem? HG.out, hq⟩
            rw [if_pos hy, (List.findIdx_eq hkl).2 ⟨by rw [(List.getElem?_eq_some_iff.1 HG.out).2]; exact hq, fun j hj => HA.out j _ hj (List.getElem?_eq_getElem (by omega))⟩, HG.out]
          have hq' : (x.key.toList == key.toList) = true := by rw [← hq]; rfl
          obtain ⟨xk, xs, xg, xc⟩ := x
          simp only at c0 c1 c2 c3 hq'
          clear hq
          go_wp2
          obtain ⟨we, hwe⟩ : ∃ we, we = put4 wr (w.heap.size + 1) (.string xk) (.int .i64 xs) (.int .i64 xg) (.int .i64 xc) := ⟨_, rfl⟩
          obtain ⟨hA, ht⟩ := HEND.out ⟨xk, xs, xg, xc⟩ we hwe
          unfold put4 at hwe
          rw [← hwe]
          clear hwe
          refine bodyPost_ret (results_two (cs := [.string xk, .int .i64 xs, .int .i64 xg, .int .i64 xc]) rfl rfl en_agg en_size rfl hA) rfl ?_
          exact ⟨⟨_, rfl, HF.out⟩, ht⟩
        | false =>
          have hq' : (x.key.toList == key.toList) = false := by rw [← hq]; rfl
          go_wp2
          go_roundw
          case rel =>
            refine ⟨k + 1, by omega, by go_num, trivial, fun j y hj hy => ?_⟩
            by_cases e : j = k
            · subst e
              rw [HG.out] at hy
              cases hy
              exact hq
            · exact HA.out j y (by omega) hy
          case measure => simp [intOf]; omega
      · have hkk : k = len := by omega
        have hli : ¬ ((k : Int) < (len : Int)) := by omega
        have HF : Hid (Pg.Fnd true l key none) := by
          refine ⟨fun _ => ?_, fun h => by cases h⟩
          unfold Pg.find
          simp [Pg.any_miss (fun j x hj => HA.out j x (by have := HL.out; omega))]
        go_wp2
        obtain ⟨we, hwe⟩ : ∃ we, we = put4 wr (w.heap.size + 1) (.string ⟨#[]⟩) (.int .i64 0) (.int .i64 0) (.int .i64 0) := ⟨_, rfl⟩
        obtain ⟨hA, ht⟩ := HEND.out En.zero we hwe
        unfold put4 at hwe
        rw [← hwe]
        clear hwe
        refine bodyPost_ret (results_two (cs := [.string ⟨#[]⟩, .int .i64 0, .int .i64 0, .int .i64 0]) rfl rfl en_agg en_size rfl hA) rfl ?_
        exact ⟨⟨none, rfl, HF.out⟩, ht⟩
  | false =>
    go_enter Tryz.func39, Tryz.ntmps39
    go_wp2_with fail
    rw [← hw0]
    clear hw0
    go_wp2_with fail
    go_loopw [7] (fun i wr => ∃ k : Nat, k ≤ len ∧ i = .int .i64 ((k : Int) - 1) ∧ wr = w0 ∧ Hid (∀ j x, k ≤ j → l[j]? = some x → Ky.lt key x.key = true)) (fun i _ => (intOf i + 1).toNat)
    case atStart => exact ⟨len, Nat.le_refl _, by go_num, rfl, fun j x hj hx => by have := (List.getElem?_eq_some_iff.1 hx).1; have := HL.out; omega⟩
    case round =>
      obtain ⟨k', hk, rfl, rfl, HA⟩ := hrel
      cases k' with
      | succ k =>
        rw [show ((k + 1 : Nat) : Int) - 1 = (k : Int) by omega]
        have hli : (k : Int) < (len : Int) := by omega
        have hk0 : (0 : Int) ≤ (k : Int) := by omega
        obtain ⟨b, o, x, rfl, hg, hblt, c0, c1, c2, c3⟩ := HX0.out.at (j := k) (by have := HL.out; omega)
        have HG : Hid (l[k]? = some x) := hg
        clear hg
        cases hq : Ky.lt key x.key with
        | false =>
          have HF : Hid (Pg.Fnd false l key (some x)) := ⟨(fun h => by cases h), fun _ => .inl ⟨k, x, rfl, HG.out, hq, fun j y hj hy => HA.out j y (by omega) hy⟩⟩
          have hq' : (Op.bytesLess x.key.toList key.toList || x.key.toList == key.toList) = true := by rw [Ky.leq_iff]; show (!Ky.lt key x.key) = true; rw [hq]; rfl
          obtain ⟨xk, xs, xg, xc⟩ := x
          simp only at c0 c1 c2 c3 hq'
          clear hq
          go_wp2
          obtain ⟨we, hwe⟩ : ∃ we, we = put4 wr (w.heap.size + 1) (.string xk) (.int .i64 xs) (.int .i64 xg) (.int .i64 xc) := ⟨_, rfl⟩
          obtain ⟨hA, ht⟩ := HEND.out ⟨xk, xs, xg, xc⟩ we hwe
          unfold put4 at hwe
          rw [← hwe]
          clear hwe
          refine bodyPost_ret (results_two (cs := [.string xk, .int .i64 xs, .int .i64 xg, .int .i64 xc]) rfl rfl en_agg en_size rfl hA) rfl ?_
          exact ⟨⟨_, rfl, HF.out⟩, ht⟩
        | true =>
          have hq' : (Op.bytesLess x.key.toList key.toList || x.key.toList == key.toList) = false := by rw [Ky.leq_iff]; show (!Ky.lt key x.key) = false; rw [hq]; rfl
          go_wp2
          go_roundw
          case rel =>
            refine ⟨k, by omega, by go_num, trivial, fun j y hj hy => ?_⟩
            by_cases e : j = k
            · subst e
              rw [HG.out] at hy
              cases hy
              exact hq
            · exact HA.out j y (by omega) hy
          case measure => simp [intOf]
      | zero =>
        rw [show ((0 : Nat) : Int) - 1 = -1 by omega]
        have HF : Hid (Pg.Fnd false l key none) := ⟨(fun h => by cases h), fun _ => .inr ⟨rfl, fun j y hy => HA.out j y (Nat.zero_le _) hy⟩⟩
        go_wp2
        obtain ⟨we, hwe⟩ : ∃ we, we = put4 wr (w.heap.size + 1) (.string ⟨#[]⟩) (.int .i64 0) (.int .i64 0) (.int .i64 0) := ⟨_, rfl⟩
        obtain ⟨hA, ht⟩ := HEND.out En.zero we hwe
        unfold put4 at hwe
        rw [← hwe]
        clear hwe
        refine bodyPost_ret (results_two (cs := [.string ⟨#[]⟩, .int .i64 0, .int .i64 0, .int .i64 0]) rfl rfl en_agg en_size rfl hA) rfl ?_
        exact ⟨⟨none, rfl, HF.out⟩, ht⟩

/-- Whether a key is not below another one. -/
abbrev Pg.ge (key : ByteArray) (e : En) : Bool := !Ky.lt e.key key

end Go.Proofs.YthpilennljpamaaGreat
