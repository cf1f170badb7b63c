/- Arenas of elements of any kind (GnM): their state as plain data, and how it lies in memory. -/
import Derived.Test.YtoehlgigidgfpaaGreatAgHeap
import Derived.Test.YtoehlgigidgfpaaGreatGnM
namespace Go.Proofs.YtoehlgigidgfpaaGreat
open Go.RowKit
set_option linter.unusedVariables false
set_option linter.unusedSectionVars false
set_option maxRecDepth 100000

/-- A slot. -/
structure Sl (α : Type) where
  gen : Int
  given : Bool
  val : α

/-- An arena: how many slots; those that were ever given; how many calls were stale. -/
structure Ar (α : Type) where
  size : Nat
  us : List (Sl α)
  stale : Int

variable {α : Type} [Inhabited α] {cells : α → List Value} {k : Nat}

def slc (cells : α → List Value) (s : Sl α) : List Value := .int .i64 s.gen :: .bool s.given :: cells s.val

/-- Slots are a kind. -/
theorem slK (K : Knd cells k) : Knd (slc cells) (k + 2) where
  len := fun s => by simp [slc, K.len]
  one := fun s u hu => by
    simp only [slc, List.mem_cons] at hu
    rcases hu with rfl | rfl | hu
    · rfl
    · rfl
    · exact K.one _ u hu
  pos := by omega

/-- The slot at a place. -/
def slAt (us : List (Sl α)) (i : Nat) : Sl α := us.getD i ⟨0, false, default⟩
/-- The free ones of those that were ever given. -/
def freeOf (us : List (Sl α)) : List Nat := (List.range us.length).filter fun i => !(slAt us i).given

theorem slAt_get {us : List (Sl α)} {i : Nat} (hi : i < us.length) : us[i]? = some (slAt us i) := by
  simp [slAt, List.getD, hi]

theorem flat_set {β : Type} {cs : β → List Value} {n : Nat} (K : Knd cs n) : ∀ (l : List β) (i : Nat) (x : β), i < l.length → flat cs (l.set i x) = (flat cs l).take (i * n) ++ cs x ++ (flat cs l).drop (i * n + n)
  | [], i, x, h => by simp at h
  | y :: r, 0, x, h => by
    rw [List.set_cons_zero, flat_cons, flat_cons, Nat.zero_mul, List.take_zero, List.nil_append, Nat.zero_add, List.drop_append_of_le_length (by rw [K.len]; exact Nat.le_refl _), List.drop_of_length_le (by rw [K.len]; exact Nat.le_refl _), List.nil_append]
  | y :: r, i + 1, x, h => by
    have e1 : (i + 1) * n = (cs y).length + i * n := by rw [K.len, Nat.add_mul]; omega
    have e2 : (i + 1) * n + n = (cs y).length + (i * n + n) := by rw [e1]; omega
    rw [List.set_cons_succ, flat_cons, flat_cons, flat_set K r i x (by simpa using h), e2, e1]
    simp only [List.take_length_add_append, List.drop_length_add_append, List.append_assoc]

theorem slAt_set (us : List (Sl α)) (i k : Nat) (s : Sl α) (hi : i < us.length) : slAt (us.set i s) k = if k = i then s else slAt us k := by
  unfold slAt
  by_cases h : k = i
  · subst h
    simp [List.getD, hi]
  · simp [List.getD, h, Ne.symm h]

theorem slAt_left (us vs : List (Sl α)) (k : Nat) (hk : k < us.length) : slAt (us ++ vs) k = slAt us k := by
  simp [slAt, List.getD, List.getElem?_append_left hk]

theorem slAt_last (us : List (Sl α)) (s : Sl α) : slAt (us ++ [s]) us.length = s := by simp [slAt]

theorem mem_freeOf {us : List (Sl α)} {i : Nat} : i ∈ freeOf us ↔ i < us.length ∧ (slAt us i).given = false := by simp [freeOf]

theorem freeOf_le (us : List (Sl α)) : (freeOf us).length ≤ us.length := by
  have := List.length_filter_le (fun i => !(slAt us i).given) (List.range us.length)
  simpa [freeOf] using this

theorem freeOf_nodup (us : List (Sl α)) : (freeOf us).Nodup := List.Pairwise.filter _ List.nodup_range

theorem freeOf_rising (us : List (Sl α)) : (freeOf us).Pairwise (· < ·) := List.Pairwise.filter _ List.pairwise_lt_range

/-- Where the next one goes. -/
def low (us : List (Sl α)) : Nat := us.findIdx fun s => !s.given

/-- How many are given. -/
def live (us : List (Sl α)) : Nat := us.countP fun s => s.given

theorem low_le (us : List (Sl α)) : low us ≤ us.length := List.findIdx_le_length

theorem live_free (us : List (Sl α)) : live us + (freeOf us).length = us.length := by
  induction us with
  | nil => rfl
  | cons s us ih =>
    have e : freeOf (s :: us) = (if s.given then [] else [0]) ++ (freeOf us).map (· + 1) := by
      unfold freeOf
      rw [List.length_cons, List.range_succ_eq_map, List.filter_cons, List.filter_map]
      have : (fun i => !(slAt (s :: us) i).given) ∘ Nat.succ = fun i => !(slAt us i).given := by
        funext i
        simp [slAt, Function.comp]
      rw [this]
      cases h : s.given <;> simp [slAt, h]
    rw [e]
    cases h : s.given <;> simp [live, h] at ih ⊢ <;> omega

theorem live_le (us : List (Sl α)) : live us ≤ us.length := by have := live_free us; omega

theorem low_free {us : List (Sl α)} (h : low us < us.length) : (slAt us (low us)).given = false ∧ ∀ i, i < low us → (slAt us i).given = true := by
  refine ⟨?_, fun i hi => ?_⟩
  · have := List.findIdx_getElem (p := fun s : Sl α => !s.given) (w := h)
    simp at this
    simp only [slAt, List.getD, List.getElem?_eq_getElem h, Option.getD_some]
    exact this
  · have := List.not_of_lt_findIdx (p := fun s : Sl α => !s.given) hi
    simp at this
    simp only [slAt, List.getD, List.getElem?_eq_getElem (show i < us.length by omega), Option.getD_some]
    exact this

theorem low_none {us : List (Sl α)} (h : freeOf us = []) : low us = us.length := by
  unfold low
  rw [List.findIdx_eq_length]
  intro s hs
  obtain ⟨i, hi, rfl⟩ := List.mem_iff_getElem.1 hs
  have : i ∉ freeOf us := by rw [h]; simp
  rw [mem_freeOf] at this
  simp only [slAt, List.getD, List.getElem?_eq_getElem hi, Option.getD_some] at this
  simpa [hi] using this

/-- The lowest of a heap of the free ones. -/
theorem low_heap {us : List (Sl α)} {fr : List Nat} (hp : Hq.Is fr) (hperm : fr.Perm (freeOf us)) (h0 : 0 < fr.length) : Hq.at' fr 0 = low us ∧ low us < us.length := by
  have hm : Hq.at' fr 0 ∈ fr := by
    have : Hq.at' fr 0 = fr[0] := by simp [Hq.at', List.getD, h0]
    rw [this]
    exact List.getElem_mem h0
  have h1 := mem_freeOf.1 (hperm.mem_iff.1 hm)
  have hl : low us < us.length := by
    rcases Nat.lt_or_ge (low us) us.length with h | h
    · exact h
    · have he : low us = us.length := by have := low_le us; omega
      have := List.not_of_lt_findIdx (p := fun s : Sl α => !s.given) (xs := us) (i := Hq.at' fr 0) (by unfold low at he; omega)
      simp at this
      have h2 := h1.2
      simp only [slAt, List.getD, List.getElem?_eq_getElem h1.1, Option.getD_some] at h2
      rw [h2] at this
      cases this
  have h2 := low_free hl
  have h3 : low us ∈ fr := hperm.mem_iff.2 (mem_freeOf.2 ⟨hl, h2.1⟩)
  have h4 := hp.head _ h3
  refine ⟨?_, hl⟩
  rcases Nat.lt_or_ge (Hq.at' fr 0) (low us) with h | h
  · have := h2.2 _ h
    rw [this] at h1
    cases h1.2
  · omega

/-- The free ones, when one is given. -/
theorem freeOf_give {us : List (Sl α)} {i : Nat} {s : Sl α} (hi : i < us.length) (hs : s.given = true) : freeOf (us.set i s) = (freeOf us).filter (· ≠ i) := by
  unfold freeOf
  rw [List.filter_filter, List.length_set]
  refine List.filter_congr ?_
  intro k hk
  rw [slAt_set _ _ _ _ hi]
  by_cases h : k = i
  · subst h
    simp [hs]
  · simp [h]

theorem filter_ne_perm {l : List Nat} {i : Nat} (hn : l.Nodup) (hi : i ∈ l) : (l.filter (· ≠ i) ++ [i]).Perm l := by
  have e : l.filter (· ≠ i) = l.erase i := by
    rw [List.Nodup.erase_eq_filter hn]
    refine List.filter_congr ?_
    intro k _
    by_cases h : k = i <;> simp [h]
  rw [e]
  exact (List.perm_append_comm).trans (List.perm_cons_erase hi).symm

theorem freeOf_take {us : List (Sl α)} {i : Nat} {s : Sl α} {fr' : List Nat} {fr : List Nat} (hi : i < us.length) (hs : s.given = true) (hf : (slAt us i).given = false) (hp : fr.Perm (freeOf us)) (h : (fr' ++ [i]).Perm fr) : fr'.Perm (freeOf (us.set i s)) := by
  rw [freeOf_give hi hs]
  have h1 := filter_ne_perm (freeOf_nodup us) (mem_freeOf.2 ⟨hi, hf⟩)
  have h2 : (fr' ++ [i]).Perm ((freeOf us).filter (· ≠ i) ++ [i]) := h.trans (hp.trans h1.symm)
  exact (List.perm_append_right_iff _).1 h2

/-- The free ones, when one is taken back. -/
theorem freeOf_free {us : List (Sl α)} {i : Nat} {s : Sl α} (hi : i < us.length) (hs : s.given = false) (hf : (slAt us i).given = true) : (freeOf us ++ [i]).Perm (freeOf (us.set i s)) := by
  have e : freeOf us = (freeOf (us.set i s)).filter (· ≠ i) := by
    unfold freeOf
    rw [List.filter_filter, List.length_set]
    refine List.filter_congr ?_
    intro k hk
    rw [slAt_set _ _ _ _ hi]
    by_cases h : k = i
    · subst h
      simp [hf]
    · simp [h]
  rw [e]
  exact filter_ne_perm (freeOf_nodup _) (mem_freeOf.2 ⟨by simpa using hi, by rw [slAt_set _ _ _ _ hi, if_pos rfl]; exact hs⟩)

theorem freeOf_new {us : List (Sl α)} {s : Sl α} (hs : s.given = true) : freeOf (us ++ [s]) = freeOf us := by
  unfold freeOf
  rw [List.length_append, List.length_singleton, List.range_succ, List.filter_append]
  have : (List.filter (fun i => !(slAt (us ++ [s]) i).given) [us.length]) = [] := by simp [slAt_last, hs]
  rw [this, List.append_nil]
  refine List.filter_congr ?_
  intro k hk
  rw [slAt_left _ _ _ (by simpa using hk)]

/-- Other values leave the free ones. -/
theorem freeOf_same {us : List (Sl α)} {i : Nat} {s : Sl α} (hi : i < us.length) (hs : s.given = (slAt us i).given) : freeOf (us.set i s) = freeOf us := by
  unfold freeOf
  rw [List.length_set]
  refine List.filter_congr ?_
  intro k hk
  rw [slAt_set _ _ _ _ hi]
  by_cases h : k = i
  · subst h
    simp [hs]
  · simp [h]

end Go.Proofs.YtoehlgigidgfpaaGreat
