/- Arenas as plain data: how many are given. -/
import Derived.Test.YtoehlgigidgfpaaGreatAgMem
namespace Go.Proofs.YtoehlgigidgfpaaGreat
set_option linter.unusedVariables false
set_option linter.unusedSectionVars false

variable {α : Type} [Inhabited α]

theorem live_set_free {us : List (Sl α)} {i : Nat} {s : Sl α} (hi : i < us.length) (hs : s.given = false) (hf : (slAt us i).given = true) : live (us.set i s) + 1 = live us := by
  have h1 := live_free us
  have h2 := live_free (us.set i s)
  have h3 := (freeOf_free hi hs hf).length_eq
  simp only [List.length_append, List.length_set, List.length_cons, List.length_nil] at h2 h3
  omega

theorem live_set_give {us : List (Sl α)} {i : Nat} {s : Sl α} (hi : i < us.length) (hs : s.given = true) (hf : (slAt us i).given = false) : live (us.set i s) = live us + 1 := by
  have h1 := live_free us
  have h2 := live_free (us.set i s)
  have h3 := (filter_ne_perm (freeOf_nodup us) (mem_freeOf.2 ⟨hi, hf⟩)).length_eq
  rw [← freeOf_give hi hs] at h3
  simp only [List.length_append, List.length_set, List.length_cons, List.length_nil] at h2 h3
  omega

theorem live_set_same {us : List (Sl α)} {i : Nat} {s : Sl α} (hi : i < us.length) (hs : s.given = (slAt us i).given) : live (us.set i s) = live us := by
  have h1 := live_free us
  have h2 := live_free (us.set i s)
  rw [freeOf_same hi hs, List.length_set] at h2
  omega

theorem live_snoc (us : List (Sl α)) (s : Sl α) (hs : s.given = true) : live (us ++ [s]) = live us + 1 := by simp [live, hs]

theorem low_of_live {us : List (Sl α)} (h : live us = us.length) : low us = us.length := by
  refine low_none ?_
  have := live_free us
  exact List.eq_nil_of_length_eq_zero (by omega)

theorem low_lt {us : List (Sl α)} (h : live us < us.length) : low us < us.length := by
  rcases Nat.lt_or_ge (low us) us.length with h1 | h1
  · exact h1
  · have he : low us = us.length := by have := low_le us; omega
    have : live us = us.length := by
      unfold live
      rw [List.countP_eq_length]
      intro s hs
      unfold low at he
      have := List.findIdx_eq_length.1 he s hs
      simpa using this
    omega

theorem live_put (a : Ar α) (x : α) : live (a.put x).us = live a.us + 1 := by
  unfold Ar.put
  by_cases h : low a.us < a.us.length
  · simp only [if_pos h]
    exact live_set_give h rfl (low_free h).1
  · simp only [if_neg h]
    exact live_snoc _ _ rfl

theorem put_length (a : Ar α) (x : α) : (a.put x).us.length = if low a.us < a.us.length then a.us.length else a.us.length + 1 := by
  unfold Ar.put
  split <;> simp

theorem put_size (a : Ar α) (x : α) : (a.put x).size = a.size := rfl
theorem put_stale (a : Ar α) (x : α) : (a.put x).stale = a.stale := rfl

theorem slAt_mem {us : List (Sl α)} {i : Nat} (hi : i < us.length) : slAt us i ∈ us := by
  simp [slAt, List.getD, hi]

theorem mem_slAt {us : List (Sl α)} {s : Sl α} (h : s ∈ us) : ∃ i, i < us.length ∧ s = slAt us i := by
  obtain ⟨i, hi, rfl⟩ := List.mem_iff_getElem.1 h
  exact ⟨i, hi, by simp [slAt, List.getD, hi]⟩

/-- Gens from 1 to b. -/
def Gens (us : List (Sl α)) (b : Int) : Prop := ∀ s ∈ us, 1 ≤ s.gen ∧ s.gen ≤ b

theorem Gens.nil (b : Int) : Gens ([] : List (Sl α)) b := by intro s hs; cases hs

theorem Gens.mono {us : List (Sl α)} {b c : Int} (h : Gens us b) (hb : b ≤ c) : Gens us c := fun s hs => ⟨(h s hs).1, Int.le_trans (h s hs).2 hb⟩

theorem Gens.set {us : List (Sl α)} {b : Int} (h : Gens us b) (i : Nat) {s : Sl α} (hs : 1 ≤ s.gen ∧ s.gen ≤ b) : Gens (us.set i s) b := by
  intro t ht
  rcases List.mem_or_eq_of_mem_set ht with h1 | rfl
  · exact h t h1
  · exact hs

theorem Gens.gen {a : Ar α} {b : Int} (h : Gens a.us b) (h0 : 0 ≤ b) : 1 ≤ a.gen ∧ a.gen ≤ b + 1 := by
  unfold Ar.gen
  split
  · rename_i hl
    have := h _ (slAt_mem hl)
    omega
  · omega

theorem Gens.put {a : Ar α} {b : Int} (h : Gens a.us b) (h0 : 0 ≤ b) (x : α) : Gens (a.put x).us (b + 1) := by
  have hg := h.gen h0
  unfold Ar.put
  by_cases hl : low a.us < a.us.length
  · simp only [if_pos hl]
    have hh := h _ (slAt_mem hl)
    exact (h.mono (by omega)).set _ ⟨by show 1 ≤ _ + 1; omega, by show (slAt a.us (low a.us)).gen + 1 ≤ b + 1; omega⟩
  · simp only [if_neg hl]
    intro t ht
    simp only [List.mem_append, List.mem_cons, List.not_mem_nil, or_false] at ht
    rcases ht with ht | rfl
    · have := h t ht
      omega
    · exact ⟨Int.le_refl _, by show (1 : Int) ≤ b + 1; omega⟩

theorem Gens.free {a : Ar α} {b : Int} (h : Gens a.us b) {i : Nat} (hi : i < a.us.length) (z : α) : Gens (a.free i z).us b := by
  have := h _ (slAt_mem hi)
  exact h.set i this
theorem Gens.setv {a : Ar α} {b : Int} (h : Gens a.us b) {i : Nat} (hi : i < a.us.length) (x : α) : Gens (a.set i x).us b := by
  have := h _ (slAt_mem hi)
  exact h.set i this

end Go.Proofs.YtoehlgigidgfpaaGreat
