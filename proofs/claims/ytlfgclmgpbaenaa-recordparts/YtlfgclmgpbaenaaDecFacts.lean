import Derived.Test.YtlfgclmgpbaenaaParse
namespace Go.Proofs.Ytlfgclmgpbaenaa
namespace Cd
set_option linter.unusedVariables false
set_option maxRecDepth 100000

theorem long_facts (k : Nat) (t : Int) (r : List Int) (hk : 1 ≤ k ∧ k ≤ 8) (ht : t = 0 ∨ t = 255) (hb : ∀ x ∈ r, 0 ≤ x ∧ x < 256) :
    ((long k t r).2.2 = 0 ∧ (long k t r).2.1 = 1 + (k : Int) ∧ k ≤ r.length ∧ -9223372036854775808 ≤ (long k t r).1 ∧ (long k t r).1 ≤ 9223372036854775807 ∧ width (long k t r).1 = 1 + k) ∨
    (long k t r).1 = 0 ∧ (long k t r).2.1 = 0 ∧ ((long k t r).2.2 = 10 ∨ (long k t r).2.2 = 11) := by
  have hv := long_val_bd r k t hb
  unfold long
  generalize val ((r.take k).map (tn t)) = V at hv ⊢
  obtain ⟨N, hN⟩ : ∃ N, (if t = 255 then -1 - V else V) = N := ⟨_, rfl⟩
  have hNb : V ≤ 9223372036854775807 → -9223372036854775808 ≤ N ∧ N ≤ 9223372036854775807 := by
    intro h
    rcases ht with rfl | rfl
    · simp at hN
      omega
    · simp at hN
      omega
  rw [hN]
  by_cases h1 : r.length < k
  · rw [if_pos h1]; right; exact ⟨rfl, rfl, Or.inl rfl⟩
  · rw [if_neg h1]
    by_cases h2 : 9223372036854775807 < V
    · rw [if_pos h2]; right; exact ⟨rfl, rfl, Or.inr rfl⟩
    · rw [if_neg h2]
      by_cases h3 : width N ≠ 1 + k
      · rw [if_pos h3]; right; exact ⟨rfl, rfl, Or.inr rfl⟩
      · rw [if_neg h3]
        left
        have := hNb (by omega)
        exact ⟨rfl, rfl, by omega, this.1, this.2, by simpa using h3⟩

/-- What an int that was read is: it fits, its bytes are there, they are as many as its width; or an error stands alone. -/
theorem dec_facts (xs : List Int) (hb : ∀ x ∈ xs, 0 ≤ x ∧ x < 256) :
    ((dec xs).2.2 = 0 ∧ 1 ≤ (dec xs).2.1 ∧ (dec xs).2.1 ≤ 9 ∧ (dec xs).2.1 ≤ xs.length ∧ -9223372036854775808 ≤ (dec xs).1 ∧ (dec xs).1 ≤ 9223372036854775807 ∧ (width (dec xs).1 : Int) = (dec xs).2.1) ∨
    (dec xs).1 = 0 ∧ (dec xs).2.1 = 0 ∧ ((dec xs).2.2 = 10 ∨ (dec xs).2.2 = 11) := by
  cases xs with
  | nil => right; exact ⟨rfl, rfl, Or.inl rfl⟩
  | cons h r =>
    have hh := hb h (by simp)
    have hr : ∀ x ∈ r, 0 ≤ x ∧ x < 256 := fun x hx => hb x (by simp [hx])
    rw [dec_cons]
    split
    · right; exact ⟨rfl, rfl, Or.inr rfl⟩
    · split
      · have := long_facts (h - 208).toNat 0 r (by omega) (by omega) hr
        simp only [List.length_cons]
        omega
      · split
        · have := long_facts (8 - h).toNat 255 r (by omega) (by omega) hr
          simp only [List.length_cons]
          omega
        · left
          simp only [List.length_cons]
          refine ⟨trivial, by omega, by omega, by omega, by omega, by omega, ?_⟩
          unfold width
          rw [if_pos (by omega)]
          rfl

/-- The text that bytes begin with. -/
def decT (xs : List Int) : List Int × Int × Int :=
  if (dec xs).2.2 ≠ 0 then ([], 0, (dec xs).2.2)
  else if (dec xs).1 < 0 then ([], 0, 11)
  else if (dec xs).1 > xs.length - (dec xs).2.1 then ([], 0, 10)
  else ((xs.drop (dec xs).2.1.toNat).take (dec xs).1.toNat, (dec xs).2.1 + (dec xs).1, 0)

/-- The flag that bytes begin with. -/
def decF (xs : List Int) : Bool × Int × Int :=
  if (dec xs).2.2 ≠ 0 then (false, 0, (dec xs).2.2)
  else if (dec xs).1 ≠ 0 ∧ (dec xs).1 ≠ 1 then (false, 0, 11)
  else (decide ((dec xs).1 = 1), (dec xs).2.1, 0)

end Cd
end Go.Proofs.Ytlfgclmgpbaenaa
