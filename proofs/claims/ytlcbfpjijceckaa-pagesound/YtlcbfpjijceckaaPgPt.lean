/- A page that may be is in order; what parts it; where a key is found in its halves. -/
import Derived.Test.YtlcbfpjijceckaaPgFe
namespace Go.Proofs.Ytlcbfpjijceckaa
open Go.RowKit Go.Sort
set_option linter.unusedVariables false
set_option maxRecDepth 100000

namespace Pg
theorem good_of_fits {leaf : Bool} {r : Rg} {l : List En} (h : fits leaf r l = true) {j : Nat} (hj : j < l.length) : good leaf r l j = true := by
  unfold fits at h
  rw [List.all_eq_true] at h
  exact h j (List.mem_range.2 hj)

/-- The entries of a page that may be rise. -/
def Ris (l : List En) : Prop := ∀ i a b, l[i]? = some a → l[i + 1]? = some b → Ky.lt a.key b.key = true

theorem Ris.ord {l : List En} (h : Ris l) : Ord l := fun i a b ha hb => by
  cases hq : Ky.lt b.key a.key with
  | false => rfl
  | true =>
    have := Ky.lt_trans (h i a b ha hb) hq
    rw [Ky.lt_irrefl] at this
    exact this.symm

theorem fits_ris {leaf : Bool} {r : Rg} {l : List En} (h : fits leaf r l = true) : Ris l := fun i a b ha hb => by
  have hg := good_of_fits h (List.getElem?_eq_some_iff.1 hb).1
  rw [good_next hb ha, Bool.and_eq_true] at hg
  exact hg.1

theorem fits_in {leaf : Bool} {r : Rg} {l : List En} (h : fits leaf r l = true) {i : Nat} {a : En} (ha : l[i]? = some a) : Ky.inn r a.key = true := by
  have hg := good_of_fits h (List.getElem?_eq_some_iff.1 ha).1
  unfold good at hg
  rw [ha] at hg
  simp only [Bool.and_eq_true] at hg
  exact hg.2.1

theorem may_parts {leaf : Bool} {r : Rg} {right : Int} {l : List En} (h : may leaf r right l = true) : Ky.emp r = false ∧ fits leaf r l = true ∧ begins leaf r.lo l = true ∧ 0 ≤ right := by
  unfold may at h
  simp only [Bool.and_eq_true, Bool.not_eq_true', decide_eq_true_eq] at h
  exact ⟨h.1.1, h.2.1, h.2.2, h.1.2⟩

/-- What parts two keys lies above the first, not above the second, and is not empty. -/
theorem part_facts {leaf : Bool} {a b m : ByteArray} (h : part leaf a b = some m) (hab : Ky.lt a b = true) : Ky.lt a m = true ∧ Ky.lt b m = false ∧ m ≠ .empty := by
  have key : Ky.lt a m = true ∧ Ky.lt b m = false := by
    unfold part at h
    cases leaf with
    | false =>
      simp at h
      subst h
      exact ⟨hab, Ky.lt_irrefl _⟩
    | true =>
      rw [hab] at h
      simp at h
      subst h
      have hcl := Ky.com_lt _ _ hab
      constructor
      · unfold Ky.lt Ky.sep
        rw [Ky.cut_list, Ky.sep_iff _ _ _ hab (by omega)]
        simp
      · unfold Ky.lt Ky.sep
        rw [Ky.cut_list]
        have := Ky.take_le b.toList (Ky.com a.toList b.toList + 1)
        cases hq : Op.bytesLess b.toList (b.toList.take (Ky.com a.toList b.toList + 1)) with
        | false => rfl
        | true =>
          rw [Bool.or_eq_true] at this
          rcases this with h1 | h1
          · have := Ky.less_trans _ _ _ hq h1
            rw [Ky.less_irrefl] at this
            exact this.symm
          · rw [beq_iff_eq] at h1
            rw [h1, Ky.less_irrefl] at hq
            exact hq.symm
  refine ⟨key.1, key.2, fun e => ?_⟩
  rw [e, Ky.lt_empty] at key
  cases key.1

theorem inn_iff (r : Rg) (k : ByteArray) : Ky.inn r k = (!Ky.lt k r.lo && (decide (r.hi = .empty) || Ky.lt k r.hi)) := by
  unfold Ky.inn Ky.below
  rw [Ky.nil_eq]

/-- A key of the page is in one of the halves. -/
theorem parts_in {lo hi m x y k : ByteArray} (hx : Ky.inn ⟨lo, hi⟩ x = true) (hy : Ky.inn ⟨lo, hi⟩ y = true) (h1 : Ky.lt x m = true) (h2 : Ky.lt y m = false) (hm : m ≠ .empty) :
    Ky.inn ⟨lo, m⟩ k = (Ky.inn ⟨lo, hi⟩ k && Ky.lt k m) ∧ Ky.inn ⟨m, hi⟩ k = (Ky.inn ⟨lo, hi⟩ k && !Ky.lt k m) := by
  obtain ⟨r, h0, hr, hn⟩ := Ky.ranks [lo, hi, m, x, y, k]
  simp only [inn_iff] at hx hy ⊢
  have e1 : decide (hi = .empty) = decide (r hi = 0) := by rw [decide_eq_decide]; exact (hn hi (by simp)).2
  have e2 : decide (m = .empty) = false := decide_eq_false hm
  have e3 : r m ≠ 0 := fun e => hm ((hn m (by simp)).2.2 e)
  rw [e1] at hx hy ⊢
  rw [e2]
  rw [(hr x (by simp) lo (by simp)).1, (hr x (by simp) hi (by simp)).1] at hx
  rw [(hr y (by simp) lo (by simp)).1, (hr y (by simp) hi (by simp)).1] at hy
  rw [(hr x (by simp) m (by simp)).1] at h1
  rw [(hr y (by simp) m (by simp)).1] at h2
  rw [(hr k (by simp) lo (by simp)).1, (hr k (by simp) hi (by simp)).1, (hr k (by simp) m (by simp)).1]
  simp only [Bool.and_eq_true, Bool.or_eq_true, Bool.not_eq_true', decide_eq_true_eq, decide_eq_false_iff_not] at hx hy h1 h2
  constructor
  · rw [Bool.eq_iff_iff]
    simp only [Bool.and_eq_true, Bool.or_eq_true, Bool.not_eq_true', decide_eq_true_eq, decide_eq_false_iff_not, Bool.false_eq_true, false_or]
    omega
  · rw [Bool.eq_iff_iff]
    simp only [Bool.and_eq_true, Bool.or_eq_true, Bool.not_eq_true', decide_eq_true_eq, decide_eq_false_iff_not]
    omega

theorem Ris.lt {l : List En} (h : Ris l) {i j : Nat} {a b : En} (hij : i < j) (ha : l[i]? = some a) (hb : l[j]? = some b) : Ky.lt a.key b.key = true := by
  obtain ⟨n, rfl⟩ : ∃ n, j = i + 1 + n := ⟨j - (i + 1), by omega⟩
  have hl := (List.getElem?_eq_some_iff.1 hb).1
  have hc := List.getElem?_eq_getElem (l := l) (i := i + 1) (by omega)
  exact Ky.lt_of_le' (h.ord.le n (i + 1) _ b hc hb) (h i a _ ha hc)

/-- What a key below what parts them has is in the first half. -/
theorem find_left {leaf : Bool} {l : List En} {h : Nat} {m key : ByteArray} (hh : h < l.length) (hd : ∀ j b, h ≤ j → l[j]? = some b → Ky.lt b.key m = false) (hk : Ky.lt key m = true) : find leaf l key = find leaf (l.take h) key := by
  have hgt : ∀ j b, h ≤ j → l[j]? = some b → Ky.lt key b.key = true := fun j b hj hb => Ky.lt_of_le' (hd j b hj hb) hk
  have hsplit : l = l.take h ++ l.drop h := (List.take_append_drop h l).symm
  unfold find
  cases leaf with
  | true =>
    have hnd : ∀ b ∈ l.drop h, is key b = false := fun b hb => by
      obtain ⟨j, hj, rfl⟩ := List.getElem_of_mem hb
      refine not_is_gt (hgt (h + j) _ (by omega) ?_)
      have := List.getElem?_eq_getElem hj
      rw [List.getElem?_drop] at this
      exact this
    have ha : l.any (is key) = (l.take h).any (is key) := by
      conv => lhs; rw [hsplit]
      rw [List.any_append]
      have : (l.drop h).any (is key) = false := by
        rw [List.any_eq_false]
        intro b hb
        rw [hnd b hb]
        simp
      rw [this, Bool.or_false]
    simp only [if_true]
    rw [ha]
    cases hq : (l.take h).any (is key) with
    | false => rfl
    | true =>
      simp only [if_true]
      have hf : l.findIdx (is key) = (l.take h).findIdx (is key) := by
        conv => lhs; rw [hsplit]
        rw [List.findIdx_append, if_pos (List.findIdx_lt_length_of_exists (by obtain ⟨x, h1, h2⟩ := List.any_eq_true.1 hq; exact ⟨x, h1, h2⟩))]
      rw [hf]
      have hlt : (l.take h).findIdx (is key) < (l.take h).length := List.findIdx_lt_length_of_exists (by obtain ⟨x, h1, h2⟩ := List.any_eq_true.1 hq; exact ⟨x, h1, h2⟩)
      rw [List.getElem?_take_of_lt (by rw [List.length_take] at hlt; omega)]
  | false =>
    have hb := List.getElem?_eq_getElem hh
    have hu : upto key l = upto key (l.take h) := by
      unfold upto
      conv => lhs; rw [hsplit]
      rw [List.findIdx_append]
      split
      · rfl
      · rename_i hn
        have hle : (l.take h).findIdx (fun e => Ky.lt key e.key) ≤ (l.take h).length := List.findIdx_le_length
        have hz : (l.drop h).findIdx (fun e => Ky.lt key e.key) = 0 := by
          rw [List.drop_eq_getElem_cons hh, List.findIdx_cons]
          simp [hgt h _ (Nat.le_refl _) hb]
        rw [hz]
        omega
    have hle : upto key (l.take h) ≤ (l.take h).length := List.findIdx_le_length
    simp only [Bool.false_eq_true, if_false]
    rw [hu]
    split
    · rw [List.getElem?_take_of_lt (by rw [List.length_take] at hle; omega)]
    · rfl

/-- What a key from what parts them on has is in the second half. -/
theorem find_right {leaf : Bool} {l : List En} {h : Nat} {m key : ByteArray} (hh : h < l.length) (hd : ∀ j b, j < h → l[j]? = some b → Ky.lt b.key m = true) (hk : Ky.lt key m = false) (hy : leaf = false → ∀ b, l[h]? = some b → Ky.lt key b.key = false) : find leaf l key = find leaf (l.drop h) key := by
  have hlt : ∀ j b, j < h → l[j]? = some b → Ky.lt b.key key = true := fun j b hj hb => Ky.lt_of_le' hk (hd j b hj hb)
  have hsplit : l = l.take h ++ l.drop h := (List.take_append_drop h l).symm
  have hmem : ∀ b ∈ l.take h, Ky.lt b.key key = true := fun b hb => by
    obtain ⟨j, hj, rfl⟩ := List.getElem_of_mem hb
    have hj' : j < h := by rw [List.length_take] at hj; omega
    refine hlt j _ hj' ?_
    have := List.getElem?_eq_getElem hj
    rw [List.getElem?_take_of_lt hj'] at this
    exact this
  have hlen : (l.take h).length = h := by rw [List.length_take]; omega
  unfold find
  cases leaf with
  | true =>
    have hnone : (l.take h).any (is key) = false := by
      rw [List.any_eq_false]
      intro b hb
      rw [not_is_lt (hmem b hb)]
      simp
    have ha : l.any (is key) = (l.drop h).any (is key) := by
      conv => lhs; rw [hsplit]
      rw [List.any_append, hnone, Bool.false_or]
    have hf : l.findIdx (is key) = h + (l.drop h).findIdx (is key) := by
      conv => lhs; rw [hsplit]
      rw [List.findIdx_append, if_neg, hlen, Nat.add_comm]
      rw [Nat.not_lt, Nat.le_iff_lt_or_eq]
      right
      refine (List.findIdx_eq_length.2 fun b hb => ?_).symm
      exact not_is_lt (hmem b hb)
    simp only [if_true]
    rw [ha, hf, List.getElem?_drop]
  | false =>
    have hb := List.getElem?_eq_getElem hh
    have hu : upto key l = h + upto key (l.drop h) := by
      unfold upto
      conv => lhs; rw [hsplit]
      rw [List.findIdx_append, if_neg, hlen, Nat.add_comm]
      rw [Nat.not_lt, Nat.le_iff_lt_or_eq]
      right
      refine (List.findIdx_eq_length.2 fun b hb => ?_).symm
      cases hq : Ky.lt key b.key with
      | false => rfl
      | true =>
        have := Ky.lt_trans hq (hmem b hb)
        rw [Ky.lt_irrefl] at this
        exact this.symm
    have hpos : 0 < upto key (l.drop h) := by
      unfold upto
      rw [List.drop_eq_getElem_cons hh, List.findIdx_cons, hy rfl _ hb]
      simp
    simp only [Bool.false_eq_true, if_false]
    rw [hu, if_pos (by omega), if_pos hpos, List.getElem?_drop]
    congr 1
    omega
end Pg

end Go.Proofs.Ytlcbfpjijceckaa
