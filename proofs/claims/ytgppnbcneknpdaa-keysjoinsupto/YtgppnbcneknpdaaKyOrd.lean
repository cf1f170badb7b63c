/- Ends, in words of the order. -/
import Derived.Test.YtgppnbcneknpdaaKyB
namespace Go.Proofs.Ytgppnbcneknpdaa
open Go.RowKit
set_option linter.unusedVariables false
set_option maxRecDepth 100000

namespace Ky
theorem leq_iff (x y : List UInt8) : (Op.bytesLess x y || x == y) = !Op.bytesLess y x := by
  rw [← gtr_iff x y, Bool.not_and, Bool.not_not, Bool.not_not]

theorem nil_cases (a : ByteArray) : (nil a = true ∧ a = .empty) ∨ (nil a = false ∧ a ≠ .empty) := by
  rw [nil_eq]
  by_cases h : a = .empty <;> simp [h]

theorem ends_neg (r m : ByteArray) : decide (ends r m < 0) = (!nil r && (nil m || lt r m)) := by
  rcases nil_cases r with ⟨h1, h2⟩ | ⟨h1, h2⟩ <;> rcases nil_cases m with ⟨h3, h4⟩ | ⟨h3, h4⟩ <;> unfold ends <;> rw [h1, h3]
  · subst h2 h4
    simp [cmp_lt, lt_empty]
  · subst h2
    simp [cmp_lt, lt_empty, empty_lt h4]
  · subst h4
    simp [cmp_lt, empty_lt h2]
  · simp only [cmp_lt]
    cases lt r m <;> simp
    split <;> simp

theorem ends_le (b a : ByteArray) : decide (ends b a ≤ 0) = (nil a || (!nil b && !lt a b)) := by
  rcases nil_cases b with ⟨h1, h2⟩ | ⟨h1, h2⟩ <;> rcases nil_cases a with ⟨h3, h4⟩ | ⟨h3, h4⟩ <;> unfold ends <;> rw [h1, h3]
  · subst h2 h4
    simp [cmp_lt, lt_empty]
  · subst h2
    simp [cmp_lt, lt_empty, empty_lt h4]
  · subst h4
    simp [cmp_lt, empty_lt h2]
  · simp only [cmp_lt]
    cases h : lt b a with
    | true =>
      have : lt a b = false := by
        cases e : lt a b with
        | false => rfl
        | true => have := lt_trans h e; rw [lt_irrefl] at this; cases this
      simp [this]
    | false =>
      cases e : lt a b <;> simp

/-- The lesser end. -/
def least (a b : ByteArray) : ByteArray := if nil a || (!nil b && lt b a) then b else a

theorem least_eq (m r : ByteArray) : (if ends r m < 0 then r else m) = least m r := by
  have h := ends_neg r m
  unfold least
  rcases nil_cases m with ⟨h3, h4⟩ | ⟨h3, h4⟩
  · rw [h3] at h ⊢
    rcases nil_cases r with ⟨h1, h2⟩ | ⟨h1, h2⟩
    · rw [h1] at h
      simp at h
      rw [if_neg (by omega)]
      rw [h2, h4]
      rfl
    · rw [h1] at h
      simp at h
      rw [if_pos h]
      rfl
  · rw [h3] at h ⊢
    cases e : (!nil r && lt r m) with
    | true =>
      have : decide (ends r m < 0) = true := by rw [h]; simpa using e
      rw [if_pos (of_decide_eq_true this)]
      rfl
    | false =>
      have : decide (ends r m < 0) = false := by rw [h]; simpa using e
      rw [if_neg (of_decide_eq_false this)]
      rfl
end Ky
end Go.Proofs.Ytgppnbcneknpdaa
