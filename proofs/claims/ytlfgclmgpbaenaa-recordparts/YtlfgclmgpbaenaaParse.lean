import Derived.Test.YtlfgclmgpbaenaaDec
import Derived.Test.YtlfgclmgpbaenaaDigs
namespace Go.Proofs.Ytlfgclmgpbaenaa
namespace Cd
set_option linter.unusedVariables false
set_option maxRecDepth 100000

theorem nb_lt (u k : Nat) (hk : 2 ≤ k) (hk8 : k ≤ 8) (h : u < 256 ^ (k - 1)) : nb u < k := by
  rcases (show k = 2 ∨ k = 3 ∨ k = 4 ∨ k = 5 ∨ k = 6 ∨ k = 7 ∨ k = 8 by omega) with rfl | rfl | rfl | rfl | rfl | rfl | rfl
  all_goals
    simp only [Nat.add_one_sub_one, Nat.reducePow] at h
    unfold nb
    repeat' split
  all_goals omega

theorem nb_ge (u k : Nat) (hk : 2 ≤ k) (hk8 : k ≤ 8) (h : 256 ^ (k - 1) ≤ u) : k ≤ nb u := by
  rcases (show k = 2 ∨ k = 3 ∨ k = 4 ∨ k = 5 ∨ k = 6 ∨ k = 7 ∨ k = 8 by omega) with rfl | rfl | rfl | rfl | rfl | rfl | rfl
  all_goals
    simp only [Nat.add_one_sub_one, Nat.reducePow] at h
    unfold nb
    repeat' split
  all_goals omega

theorem nb_le (u k : Nat) (hk : 1 ≤ k) (hk8 : k ≤ 8) (h : u < 256 ^ k) : nb u ≤ k := by
  rcases Nat.lt_or_ge k 8 with a | a
  · have := nb_lt u (k + 1) (by omega) (by omega) h
    omega
  · have := nb_pos u
    omega

/-- The bytes' number, by the first byte. -/
theorem val_cons (y : Int) (l : List Int) (hy : 0 ≤ y ∧ y < 256) (h : ∀ x ∈ l, 0 ≤ x ∧ x < 256) : y * 256 ^ l.length ≤ val (y :: l) ∧ val (y :: l) < (y + 1) * 256 ^ l.length := by
  have := fold_bd l y h
  unfold val
  simp only [List.foldl_cons, Int.zero_mul, Int.zero_add]
  exact this

theorem head_zero {zs : List Int} {k : Nat} (hl : zs.length = k) (hk : 1 ≤ k ∧ k ≤ 8) (hb : ∀ x ∈ zs, 0 ≤ x ∧ x < 256) (h0 : zs.getD 0 0 = 0) : val zs = 0 ∧ k = 1 ∨ 2 ≤ k ∧ nb (val zs).toNat < k := by
  cases zs with
  | nil => simp at hl; omega
  | cons y l =>
    simp at h0
    subst h0
    have v := val_cons 0 l (by omega) (fun x hx => hb x (by simp [hx]))
    simp only [List.length_cons] at hl
    simp only [Int.zero_mul, Int.zero_add, Int.one_mul] at v
    rcases Nat.lt_or_ge k 2 with a | a
    · left
      have : l.length = 0 := by omega
      rw [this] at v
      simp at v
      omega
    · right
      refine ⟨a, nb_lt _ k a hk.2 ?_⟩
      rw [show k - 1 = l.length by omega]
      have e : ((256 ^ l.length : Nat) : Int) = 256 ^ l.length := by simp
      omega

theorem head_ne {zs : List Int} {k : Nat} (hl : zs.length = k) (hk : 1 ≤ k ∧ k ≤ 8) (hb : ∀ x ∈ zs, 0 ≤ x ∧ x < 256) (h0 : zs.getD 0 0 ≠ 0) : nb (val zs).toNat = k := by
  cases zs with
  | nil => simp at hl; omega
  | cons y l =>
    simp at h0
    have hy := hb y (by simp)
    have v := val_cons y l hy (fun x hx => hb x (by simp [hx]))
    have w := val_bd (y :: l) hb
    simp only [List.length_cons] at hl w
    have e : ((256 ^ l.length : Nat) : Int) = 256 ^ l.length := by simp
    have e2 : ((256 ^ (l.length + 1) : Nat) : Int) = 256 ^ (l.length + 1) := by simp
    have up : nb (val (y :: l)).toNat ≤ k := nb_le _ k hk.1 hk.2 (by rw [← hl]; omega)
    rcases Nat.lt_or_ge k 2 with a | a
    · have := nb_pos (val (y :: l)).toNat
      omega
    · have hp : (0 : Int) ≤ 256 ^ l.length := by omega
      have m : 1 * (256 : Int) ^ l.length ≤ y * 256 ^ l.length := Int.mul_le_mul_of_nonneg_right (by omega) hp
      have lo : k ≤ nb (val (y :: l)).toNat := nb_ge _ k a hk.2 (by rw [show k - 1 = l.length by omega]; omega)
      omega

/-- An int's width by the number of its bytes. -/
theorem width_of (t M : Int) (ht : t = 0 ∨ t = 255) (hM : 0 ≤ M) : width (if t = 255 then -1 - M else M) = if -100 ≤ (if t = 255 then -1 - M else M) ∧ (if t = 255 then -1 - M else M) ≤ 100 then 1 else 1 + nb M.toNat := by
  rcases ht with rfl | rfl
  · simp only [show ((0 : Int) = 255) = False by simp, if_false]
    unfold width
    split
    · rfl
    · rw [if_pos (by omega)]
  · simp only [if_true]
    unfold width
    split
    · rfl
    · rw [if_neg (by omega), show -1 - (-1 - M) = M by omega]

theorem long_zero {k : Nat} {t : Int} {r : List Int} (ht : t = 0 ∨ t = 255) (hk : 1 ≤ k ∧ k ≤ 8) (hb : ∀ x ∈ r, 0 ≤ x ∧ x < 256) (h1 : ¬ r.length < k) (h0 : tn t (r.getD 0 0) = 0) : long k t r = (0, 0, 11) := by
  have hl : ((r.take k).map (tn t)).length = k := by simp; omega
  have hz : ∀ x ∈ (r.take k).map (tn t), 0 ≤ x ∧ x < 256 := by
    intro y hy
    obtain ⟨z, hz, rfl⟩ := List.mem_map.1 hy
    exact tn_byte t z (hb z (List.mem_of_mem_take hz))
  have h00 : ((r.take k).map (tn t)).getD 0 0 = 0 := by
    cases r with
    | nil => simp at h1; omega
    | cons y l =>
      cases k with
      | zero => omega
      | succ k => simpa using h0
  have hh := head_zero hl hk hz h00
  have hv := (val_bd _ hz).1
  unfold long
  rw [if_neg h1]
  split
  · rfl
  · rw [width_of t _ ht hv]
    generalize hN : (if t = 255 then -1 - val ((r.take k).map (tn t)) else val ((r.take k).map (tn t))) = N
    by_cases h3 : -100 ≤ N ∧ N ≤ 100
    · rw [if_pos h3, if_pos (by omega)]
    · rw [if_neg h3, if_pos]
      rcases hh with ⟨a, b⟩ | ⟨a, b⟩
      · exfalso
        rw [a] at hN
        rcases ht with rfl | rfl
        · simp at hN
          omega
        · simp at hN
          omega
      · omega

theorem long_in {k : Nat} {t : Int} {r : List Int} (ht : t = 0 ∨ t = 255) (hk : 1 ≤ k ∧ k ≤ 8) (hb : ∀ x ∈ r, 0 ≤ x ∧ x < 256) (h1 : ¬ r.length < k) (h2 : val ((r.take k).map (tn t)) ≤ 9223372036854775807)
    (h3 : -100 ≤ (if t = 255 then -1 - val ((r.take k).map (tn t)) else val ((r.take k).map (tn t))) ∧ (if t = 255 then -1 - val ((r.take k).map (tn t)) else val ((r.take k).map (tn t))) ≤ 100) : long k t r = (0, 0, 11) := by
  have hv := long_val_bd r k t hb
  unfold long
  rw [if_neg h1, if_neg (by omega), width_of t _ ht hv, if_pos h3, if_pos (by omega)]

theorem long_out {k : Nat} {t : Int} {r : List Int} (ht : t = 0 ∨ t = 255) (hk : 1 ≤ k ∧ k ≤ 8) (hb : ∀ x ∈ r, 0 ≤ x ∧ x < 256) (h1 : ¬ r.length < k) (h2 : val ((r.take k).map (tn t)) ≤ 9223372036854775807) (h0 : tn t (r.getD 0 0) ≠ 0)
    (h3 : ¬ (-100 ≤ (if t = 255 then -1 - val ((r.take k).map (tn t)) else val ((r.take k).map (tn t))) ∧ (if t = 255 then -1 - val ((r.take k).map (tn t)) else val ((r.take k).map (tn t))) ≤ 100)) :
    long k t r = ((if t = 255 then -1 - val ((r.take k).map (tn t)) else val ((r.take k).map (tn t))), 1 + (k : Int), 0) := by
  have hv := long_val_bd r k t hb
  have hl : ((r.take k).map (tn t)).length = k := by simp; omega
  have hz : ∀ x ∈ (r.take k).map (tn t), 0 ≤ x ∧ x < 256 := by
    intro y hy
    obtain ⟨z, hz, rfl⟩ := List.mem_map.1 hy
    exact tn_byte t z (hb z (List.mem_of_mem_take hz))
  have h00 : ((r.take k).map (tn t)).getD 0 0 ≠ 0 := by
    cases r with
    | nil => simp at h1; omega
    | cons y l =>
      cases k with
      | zero => omega
      | succ k => simpa using h0
  have hn := head_ne hl hk hz h00
  unfold long
  rw [if_neg h1, if_neg (by omega), width_of t _ ht hv, if_neg h3, hn, if_neg (by omega)]

end Cd
end Go.Proofs.Ytlfgclmgpbaenaa
