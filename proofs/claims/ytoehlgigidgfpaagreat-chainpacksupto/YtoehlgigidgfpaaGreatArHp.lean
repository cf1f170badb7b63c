/- Heaps of numbers, as plain data: what going up and going down leave. -/
import Derived.Test.YtoehlgigidgfpaaGreatMem
namespace Go.Proofs.YtoehlgigidgfpaaGreat
set_option linter.unusedVariables false

namespace Hq
/-- The number at a place. -/
def at' (l : List Nat) (i : Nat) : Nat := l.getD i 0

/-- A heap: no number is below the one above it. -/
def Is (l : List Nat) : Prop := ∀ i, 0 < i → i < l.length → at' l ((i - 1) / 2) ≤ at' l i

/-- Two places changed. -/
def swap (l : List Nat) (i j : Nat) : List Nat := (l.set i (at' l j)).set j (at' l i)

theorem swap_length (l : List Nat) (i j : Nat) : (swap l i j).length = l.length := by simp [swap]

theorem at_set (l : List Nat) (i k x : Nat) (hi : i < l.length) : at' (l.set i x) k = if k = i then x else at' l k := by
  unfold at'
  by_cases h : k = i
  · subst h
    simp [List.getD, hi]
  · simp [List.getD, h, Ne.symm h]

theorem at_swap (l : List Nat) (i j k : Nat) (hi : i < l.length) (hj : j < l.length) : at' (swap l i j) k = if k = j then at' l i else if k = i then at' l j else at' l k := by
  unfold swap
  rw [at_set _ _ _ _ (by simpa using hj)]
  split
  · rfl
  · rw [at_set _ _ _ _ hi]

theorem swap_perm (l : List Nat) (i j : Nat) (hi : i < l.length) (hj : j < l.length) : (swap l i j).Perm l := by
  have := List.set_set_perm hi hj
  unfold swap at'
  simpa [List.getD, hi, hj] using this

/-- A heap but for j, which may be below the one above it. -/
structure Up (l : List Nat) (j : Nat) : Prop where
  hj : j < l.length
  ord : ∀ i, 0 < i → i < l.length → i ≠ j → at' l ((i - 1) / 2) ≤ at' l i
  grand : 0 < j → ∀ i, 0 < i → i < l.length → (i - 1) / 2 = j → at' l ((j - 1) / 2) ≤ at' l i

theorem Up.stop {l : List Nat} {j : Nat} (h : Up l j) (hs : j = 0 ∨ at' l ((j - 1) / 2) ≤ at' l j) : Is l := by
  intro i h0 hi
  by_cases hij : i = j
  · subst hij
    rcases hs with hs | hs
    · omega
    · exact hs
  · exact h.ord i h0 hi hij

theorem Up.step {l : List Nat} {j : Nat} (h : Up l j) (h0 : 0 < j) (hlt : at' l j < at' l ((j - 1) / 2)) : Up (swap l ((j - 1) / 2) j) ((j - 1) / 2) := by
  have hj := h.hj
  have hp : (j - 1) / 2 < l.length := by omega
  have hpj : (j - 1) / 2 < j := by omega
  refine ⟨by rw [swap_length]; exact hp, ?_, ?_⟩
  · intro i hi0 hi hne
    rw [swap_length] at hi
    rw [at_swap _ _ _ _ hp hj, at_swap _ _ _ _ hp hj]
    by_cases hij : i = j
    · subst hij
      rw [if_pos rfl, if_neg (by omega), if_pos rfl]
      omega
    · rw [if_neg hij, if_neg hne]
      have h1 := h.ord i hi0 hi hij
      by_cases hpi : (i - 1) / 2 = j
      · rw [if_pos hpi]
        exact h.grand h0 i hi0 hi hpi
      · rw [if_neg hpi]
        split
        · rename_i e
          rw [e] at h1
          omega
        · exact h1
  · intro hp0 i hi0 hi hpi
    rw [swap_length] at hi
    have h2 := h.ord ((j - 1) / 2) hp0 hp (by omega)
    rw [at_swap _ _ _ _ hp hj, at_swap _ _ _ _ hp hj, if_neg (by omega), if_neg (by omega)]
    by_cases hij : i = j
    · rw [if_pos hij]
      exact h2
    · rw [if_neg hij, if_neg (by omega)]
      have := h.ord i hi0 hi hij
      rw [hpi] at this
      omega

/-- One more at the end of a heap. -/
theorem Up.begin {l : List Nat} (h : Is l) (x : Nat) : Up (l ++ [x]) l.length := by
  have e : ∀ k, k < l.length → at' (l ++ [x]) k = at' l k := by
    intro k hk
    simp [at', List.getD, List.getElem?_append_left hk]
  refine ⟨by simp, ?_, ?_⟩
  · intro i h0 hi hne
    simp at hi
    rw [e _ (by omega), e _ (by omega)]
    exact h i h0 (by omega)
  · intro h0 i hi0 hi hp
    simp at hi
    omega

/-- A heap among the first n but for those below i. -/
structure Dn (l : List Nat) (n i : Nat) : Prop where
  hn : n ≤ l.length
  ord : ∀ k, 0 < k → k < n → (k - 1) / 2 ≠ i → at' l ((k - 1) / 2) ≤ at' l k
  grand : 0 < i → ∀ k, 0 < k → k < n → (k - 1) / 2 = i → at' l ((i - 1) / 2) ≤ at' l k

theorem Dn.stop {l : List Nat} {n i : Nat} (h : Dn l n i) (hs : ∀ k, 0 < k → k < n → (k - 1) / 2 = i → at' l i ≤ at' l k) : Is (l.take n) := by
  intro k h0 hk
  have hn := h.hn
  have hk' : k < n := by simp at hk; omega
  have e : ∀ j, j < n → at' (l.take n) j = at' l j := by
    intro j hj
    simp [at', List.getD, hj]
  rw [e _ (by omega), e _ hk']
  by_cases hp : (k - 1) / 2 = i
  · rw [hp]
    exact hs k h0 hk' hp
  · exact h.ord k h0 hk' hp

theorem Dn.step {l : List Nat} {n i j : Nat} (h : Dn l n i) (hj0 : 0 < j) (hjn : j < n) (hp : (j - 1) / 2 = i) (hlt : at' l j < at' l i) (hmin : ∀ k, 0 < k → k < n → (k - 1) / 2 = i → at' l j ≤ at' l k) : Dn (swap l i j) n j := by
  have hn := h.hn
  have hi : i < l.length := by omega
  have hj : j < l.length := by omega
  refine ⟨by rw [swap_length]; exact hn, ?_, ?_⟩
  · intro k h0 hk hne
    rw [at_swap _ _ _ _ hi hj, at_swap _ _ _ _ hi hj]
    rw [if_neg hne]
    by_cases hkj : k = j
    · subst hkj
      rw [if_pos rfl, hp, if_pos rfl]
      omega
    · rw [if_neg hkj]
      by_cases hki : k = i
      · subst hki
        rw [if_pos rfl, if_neg (by omega)]
        have := h.grand h0 j hj0 hjn hp
        exact this
      · rw [if_neg hki]
        split
        · rename_i e
          exact hmin k h0 hk e
        · rename_i e
          exact h.ord k h0 hk e
  · intro _ k h0 hk hpk
    rw [at_swap _ _ _ _ hi hj, at_swap _ _ _ _ hi hj, if_neg (by omega), if_pos hp, if_neg (by omega), if_neg (by omega)]
    have := h.ord k h0 hk (by omega)
    rw [hpk] at this
    exact this

/-- The first of a heap is the least. -/
theorem Is.least {l : List Nat} (h : Is l) : ∀ i, i < l.length → at' l 0 ≤ at' l i := by
  intro i
  induction i using Nat.strongRecOn with
  | _ i ih =>
    intro hi
    by_cases h0 : i = 0
    · subst h0
      exact Nat.le_refl _
    · exact Nat.le_trans (ih ((i - 1) / 2) (by omega) (by omega)) (h i (by omega) hi)

theorem Is.head {l : List Nat} (h : Is l) : ∀ x ∈ l, at' l 0 ≤ x := by
  intro x hx
  obtain ⟨i, hi, rfl⟩ := List.mem_iff_getElem.1 hx
  have := h.least i hi
  simpa [at', List.getD, hi] using this

/-- The first of a heap changed with the last one. -/
theorem Dn.begin {l : List Nat} (h : Is l) (hl : 0 < l.length) : Dn (swap l 0 (l.length - 1)) (l.length - 1) 0 := by
  refine ⟨by rw [swap_length]; omega, ?_, ?_⟩
  · intro k h0 hk hne
    rw [at_swap _ _ _ _ hl (by omega), at_swap _ _ _ _ hl (by omega), if_neg (by omega), if_neg hne, if_neg (by omega), if_neg (by omega)]
    exact h k h0 (by omega)
  · intro h0
    omega

theorem swap_last (l : List Nat) (hl : 0 < l.length) : at' (swap l 0 (l.length - 1)) (l.length - 1) = at' l 0 := by
  rw [at_swap _ _ _ _ hl (by omega), if_pos rfl]

/-- What is behind the first n, one number, stays when the others change. -/
theorem swap_at_last {l : List Nat} {i j k : Nat} (hi : i < l.length) (hj : j < l.length) (h1 : k ≠ i) (h2 : k ≠ j) : at' (swap l i j) k = at' l k := by
  rw [at_swap _ _ _ _ hi hj, if_neg h2, if_neg h1]

theorem take_last {l : List Nat} {n : Nat} (h : l.length = n + 1) : l = l.take n ++ [at' l n] := by
  have : l.drop n = [at' l n] := by
    rw [List.drop_eq_getElem_cons (by omega)]
    rw [List.drop_eq_nil_of_le (by omega)]
    simp [at', List.getD, h]
  rw [← this]
  exact (List.take_append_drop n l).symm

end Hq
end Go.Proofs.YtoehlgigidgfpaaGreat
