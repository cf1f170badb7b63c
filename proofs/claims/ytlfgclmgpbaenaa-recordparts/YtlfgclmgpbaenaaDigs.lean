import Derived.Test.YtlfgclmgpbaenaaVals
namespace Go.Proofs.Ytlfgclmgpbaenaa
namespace Cd

theorem nb_up (u : Nat) (h : u < 18446744073709551616) : u < 256 ^ nb u := by
  unfold nb
  repeat' split
  all_goals
    simp only [Nat.reducePow]
    omega

theorem nb_lo (u : Nat) (h : 2 ≤ nb u) : 256 ^ (nb u - 1) ≤ u := by
  unfold nb at h ⊢
  repeat' split
  all_goals
    rename_i h1
    simp only [Nat.add_one_sub_one, Nat.reducePow]
  all_goals first | omega | (simp_all; omega) | simp_all

theorem be_get (n u : Nat) : ∀ i, i < n → (be n u).getD i 0 = ((u / 256 ^ (n - 1 - i) % 256 : Nat) : Int) := by
  induction n with
  | zero => intro i hi; omega
  | succ n ih =>
    intro i hi
    cases i with
    | zero => simp [be]
    | succ i =>
      have := ih i (by omega)
      rw [show n + 1 - 1 - (i + 1) = n - 1 - i by omega, ← this]
      simp [be, List.getD]

/-- What digits has gathered when the lowest k bytes are still to come. -/
def dig (u k : Nat) : List Int := (be (nb u) u).take (nb u - k)

theorem dig_len (u k : Nat) : (dig u k).length = nb u - k := by
  unfold dig
  rw [List.length_take, be_length]
  omega

theorem dig_yes (u k : Nat) (hu : u < 18446744073709551616) (h : u / 256 ^ k % 256 ≠ 0 ∨ 0 < (dig u (k + 1)).length ∨ k = 0) : dig u k = dig u (k + 1) ++ [((u / 256 ^ k % 256 : Nat) : Int)] := by
  rw [dig_len] at h
  have hp := nb_pos u
  have hk : k < nb u := by
    rcases Nat.lt_or_ge k (nb u) with a | a
    · exact a
    · exfalso
      have hz : u / 256 ^ k = 0 := Nat.div_eq_of_lt (Nat.lt_of_lt_of_le (nb_up u hu) (Nat.pow_le_pow_right (by omega) a))
      rw [hz] at h
      omega
  unfold dig
  rw [show nb u - k = nb u - (k + 1) + 1 by omega, take_snoc _ _ (by rw [be_length]; omega), be_get _ _ _ (by omega)]
  rw [show nb u - 1 - (nb u - (k + 1)) = k by omega]

theorem dig_no (u k : Nat) (hu : u < 18446744073709551616) (h1 : u / 256 ^ k % 256 = 0) (h2 : ¬ 0 < (dig u (k + 1)).length) (h3 : k ≠ 0) : dig u k = dig u (k + 1) := by
  rw [dig_len] at h2
  have hk : nb u ≤ k := by
    rcases Nat.lt_or_ge k (nb u) with a | a
    · exfalso
      have e : nb u = k + 1 := by omega
      have lo := nb_lo u (by omega)
      have up := nb_up u hu
      rw [e] at lo up
      simp only [Nat.add_one_sub_one] at lo
      rw [Nat.pow_succ] at up
      have hp : 0 < 256 ^ k := Nat.pow_pos (by omega)
      have d1 : u / 256 ^ k < 256 := Nat.div_lt_of_lt_mul up
      have d2 : 1 ≤ u / 256 ^ k := (Nat.le_div_iff_mul_le hp).2 (by omega)
      omega
    · exact a
  unfold dig
  rw [show nb u - k = 0 by omega, show nb u - (k + 1) = 0 by omega]

theorem dig_8 (u : Nat) : dig u 8 = [] := by
  have := nb_pos u
  unfold dig
  rw [show nb u - 8 = 0 by omega]
  rfl

theorem dig_0 (u : Nat) : dig u 0 = be (nb u) u := by
  unfold dig
  rw [Nat.sub_zero, List.take_of_length_le (by rw [be_length]; omega)]

end Cd
end Go.Proofs.Ytlfgclmgpbaenaa
