/- What was put is found, what was removed is not, other keys keep what they have. -/
import Derived.Test.YtlcbfpjijceckaaPgPu
import Derived.Test.YtlcbfpjijceckaaPgRm
import Derived.Test.YtlcbfpjijceckaaPgPt
namespace Go.Proofs.Ytlcbfpjijceckaa
open Go.RowKit Go.Sort
set_option linter.unusedVariables false
set_option maxRecDepth 100000

namespace Pg
theorem find_leaf (l : List En) (key : ByteArray) : find true l key = l.find? (is key) := by
  unfold find
  simp only [if_true]
  cases hq : l.any (is key) with
  | false =>
    simp only [Bool.false_eq_true, if_false]
    rw [List.any_eq_false] at hq
    exact (List.find?_eq_none.2 fun x hx => hq x hx).symm
  | true =>
    simp only [if_true]
    rw [List.find?_eq_getElem?_findIdx]

theorem find_mid {p : En → Bool} (A B : List En) (y : En) : (A ++ y :: B).find? p = (A.find? p).or (if p y then some y else B.find? p) := by
  rw [List.find?_append, List.find?_cons]
  cases p y <;> rfl

theorem find_skip {p : En → Bool} {A B : List En} {y : En} (h : p y = false) : (A ++ y :: B).find? p = (A ++ B).find? p := by
  rw [find_mid, h, List.find?_append]
  rfl

/-- A list with an entry put. -/
theorem put_shape (l : List En) (e : En) : ∃ A B, putL l e = A ++ e :: B ∧ (∀ x ∈ A, is e.key x = false) ∧ ((∃ x, l = A ++ x :: B ∧ is e.key x = true) ∨ (l = A ++ B ∧ ∀ x ∈ l, is e.key x = false)) := by
  unfold putL
  cases hq : l.any (is e.key) with
  | true =>
    have hlt : l.findIdx (is e.key) < l.length := List.findIdx_lt_length_of_exists (by obtain ⟨x, h1, h2⟩ := List.any_eq_true.1 hq; exact ⟨x, h1, h2⟩)
    refine ⟨l.take (l.findIdx (is e.key)), l.drop (l.findIdx (is e.key) + 1), ?_, ?_, .inl ⟨l[l.findIdx (is e.key)], ?_, List.findIdx_getElem (w := hlt)⟩⟩
    · simp only [if_true]
      rw [List.set_eq_take_append_cons_drop, if_pos hlt]
    · intro x hx
      obtain ⟨j, hj, rfl⟩ := List.getElem_of_mem hx
      rw [List.getElem_take]
      have hj' : j < l.findIdx (is e.key) := by rw [List.length_take] at hj; omega
      have := List.not_of_lt_findIdx hj'
      simpa using this
    · rw [← List.drop_eq_getElem_cons hlt, List.take_append_drop]
  | false =>
    rw [List.any_eq_false] at hq
    have hn : ∀ x ∈ l, is e.key x = false := fun x hx => by simpa using hq x hx
    refine ⟨l.take (l.findIdx fun x => Ky.lt e.key x.key), l.drop (l.findIdx fun x => Ky.lt e.key x.key), ?_, fun x hx => hn x (List.mem_of_mem_take hx), .inr ⟨(List.take_append_drop _ _).symm, hn⟩⟩
    rfl

theorem is_self (e : En) : is e.key e = true := is_iff.2 rfl
theorem not_is {k : ByteArray} {e : En} (h : e.key ≠ k) : is k e = false := by
  cases hq : is k e with
  | false => rfl
  | true => exact absurd (is_iff.1 hq) h

theorem keep_put (l : List En) (e : En) : find true (putL l e) e.key = some e := by
  obtain ⟨A, B, hp, hA, -⟩ := put_shape l e
  rw [find_leaf, hp, find_mid, is_self, List.find?_eq_none.2 (fun x hx => by simp [hA x hx])]
  rfl

theorem keep_other (l : List En) (e : En) {other : ByteArray} (ho : other ≠ e.key) : find true (putL l e) other = find true l other := by
  obtain ⟨A, B, hp, hA, h | ⟨h, -⟩⟩ := put_shape l e
  · obtain ⟨x, hl, hx⟩ := h
    rw [find_leaf, find_leaf, hp, find_skip (not_is (fun h => ho h.symm))]
    conv => rhs; rw [hl]
    rw [find_skip (not_is (fun h => ho (by rw [← h]; exact is_iff.1 hx)))]
  · rw [find_leaf, find_leaf, hp, find_skip (not_is (fun h => ho h.symm))]
    conv => rhs; rw [h]

theorem any_put (l : List En) (e : En) : (putL l e).any (is e.key) = true := by
  obtain ⟨A, B, hp, -⟩ := put_shape l e
  rw [hp]
  exact List.any_eq_true.2 ⟨e, by simp, is_self e⟩

theorem del_put (l : List En) (e : En) : ∃ A B, putL l e = A ++ e :: B ∧ del (putL l e) ((putL l e).findIdx (is e.key)) = A ++ B ∧ (∀ x ∈ A, is e.key x = false) ∧ ((∃ x, l = A ++ x :: B ∧ is e.key x = true) ∨ (l = A ++ B ∧ ∀ x ∈ l, is e.key x = false)) := by
  obtain ⟨A, B, hp, hA, h⟩ := put_shape l e
  refine ⟨A, B, hp, ?_, hA, h⟩
  have hf : (putL l e).findIdx (is e.key) = A.length := by
    rw [hp, List.findIdx_append, if_neg, List.findIdx_cons, is_self]
    · simp
    · rw [Nat.not_lt, List.findIdx_eq_length.2 hA]
      exact Nat.le_refl _
  rw [hf]
  unfold del
  rw [hp, List.take_left, show A.length + 1 = (A ++ [e]).length by simp, show A ++ e :: B = (A ++ [e]) ++ B by simp, List.drop_left]

theorem gone (l : List En) (e : En) (hr : Ris l) : find true (del (putL l e) ((putL l e).findIdx (is e.key))) e.key = none := by
  obtain ⟨A, B, hp, hd, hA, h | ⟨h, hn⟩⟩ := del_put l e
  · obtain ⟨x, hl, hx⟩ := h
    rw [find_leaf, hd, List.find?_eq_none]
    intro y hy
    rw [List.mem_append] at hy
    rcases hy with hy | hy
    · simp [hA y hy]
    · obtain ⟨j, hj, rfl⟩ := List.getElem_of_mem hy
      have h1 : l[A.length]? = some x := by rw [hl]; simp
      have h2 : l[A.length + 1 + j]? = some B[j] := by
        rw [hl, show A ++ x :: B = (A ++ [x]) ++ B by simp, List.getElem?_append_right (by simp), List.getElem?_eq_getElem (by simpa using hj)]
        simp
      have h3 := hr.lt (by omega) h1 h2
      rw [is_iff.1 hx] at h3
      rw [not_is_gt h3]
      simp
  · rw [find_leaf, hd, ← h, List.find?_eq_none]
    intro y hy
    simp [hn y hy]

theorem gone_other (l : List En) (e : En) {other : ByteArray} (ho : other ≠ e.key) : find true (del (putL l e) ((putL l e).findIdx (is e.key))) other = find true l other := by
  obtain ⟨A, B, hp, hd, -⟩ := del_put l e
  rw [← keep_other l e ho, find_leaf, find_leaf, hd, hp, find_skip (not_is (fun h => ho h.symm))]
end Pg

end Go.Proofs.Ytlcbfpjijceckaa
