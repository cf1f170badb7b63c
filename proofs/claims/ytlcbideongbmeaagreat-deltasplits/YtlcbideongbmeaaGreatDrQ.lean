/- Keys by their numbers, as plain data: sorted, each once. -/
import Derived.Test.YtlcbideongbmeaaGreatDrU
import Derived.Lib.SlicesCompact
import Derived.Lib.RowBridge
import Derived.Sort.Walk0
import Derived.Shelf.Spec.SearchS
namespace Go.Proofs.YtlcbideongbmeaaGreat
open Go.Lib
set_option linter.unusedVariables false
set_option maxRecDepth 100000

namespace Dr
/-- Keys that rise, each once. -/
def Rise (ks : List (List UInt8)) : Prop := ks.Pairwise (· < ·)

def num (ks : List (List UInt8)) (key : ByteArray) : Nat := ks.findIdx fun k => !Op.bytesLess k key.toList
def kw (ks : List (List UInt8)) (key : ByteArray) : Prop := key.toList ∈ ks

theorem Rise.lt {ks : List (List UInt8)} (h : Rise ks) {i j : Nat} (hj : j < ks.length) (hij : i < j) : ks[i] < ks[j] := List.pairwise_iff_getElem.1 h i j (by omega) hj hij

theorem Rise.iff {ks : List (List UInt8)} (h : Rise ks) {i j : Nat} (hi : i < ks.length) (hj : j < ks.length) : ks[i] < ks[j] ↔ i < j := by
  constructor
  · intro hlt
    by_cases h1 : i < j
    · exact h1
    · by_cases h2 : i = j
      · subst h2; exact absurd hlt (List.lt_irrefl _)
      · exact absurd (List.lt_trans hlt (h.lt hi (by omega))) (List.lt_irrefl _)
  · exact h.lt hj

theorem num_at {ks : List (List UInt8)} (h : Rise ks) {i : Nat} (hi : i < ks.length) {key : ByteArray} (hk : key.toList = ks[i]) : num ks key = i := by
  unfold num
  rw [List.findIdx_eq hi]
  rw [hk]
  constructor
  · rw [bytesLess_eq]; simp [List.lt_irrefl]
  · intro j hj
    rw [bytesLess_eq]
    have := h.lt hi hj
    simp [this]

theorem kw_at {ks : List (List UInt8)} {key : ByteArray} (h : kw ks key) : ∃ i, ∃ hi : i < ks.length, key.toList = ks[i] := by
  obtain ⟨i, hi, e⟩ := List.getElem_of_mem h
  exact ⟨i, hi, e.symm⟩

theorem num_nu {ks : List (List UInt8)} (h : Rise ks) : Nu ks.length (num ks) (kw ks) where
  lt x hx := by
    obtain ⟨i, hi, e⟩ := kw_at hx
    rw [num_at h hi e]; exact hi
  is x y hx hy := by
    obtain ⟨i, hi, e⟩ := kw_at hx
    obtain ⟨j, hj, f⟩ := kw_at hy
    rw [num_at h hi e, num_at h hj f, e, f, Bool.eq_iff_iff, beq_iff_eq, decide_eq_true_iff]
    constructor
    · intro he
      by_cases h1 : i < j
      · have := h.lt hj h1; rw [he] at this; exact absurd this (List.lt_irrefl _)
      · by_cases h2 : j < i
        · have := h.lt hi h2; rw [he] at this; exact absurd this (List.lt_irrefl _)
        · omega
    · intro he; subst he; rfl
  le x y hx hy := by
    obtain ⟨i, hi, e⟩ := kw_at hx
    obtain ⟨j, hj, f⟩ := kw_at hy
    rw [num_at h hi e, num_at h hj f]
    unfold Ky.lt
    rw [e, f, bytesLess_eq, Bool.eq_iff_iff, decide_eq_true_iff, decide_eq_true_iff]
    exact h.iff hi hj

/-- What the halving finds. -/
theorem search_num {ks : List (List UInt8)} (h : Rise ks) (key : ByteArray) (Sx : Nat → ByteArray) (h1 : ∀ t, ∀ ht : t < ks.length, (Sx t).toList = ks[t]) (h2 : ∀ t, ks.length ≤ t → Sx t = key) :
    bsGo (fun t => Op.bytesLess (Sx t).toList key.toList) ks.length 0 ks.length = num ks key := by
  have hle : num ks key ≤ ks.length := List.findIdx_le_length
  refine bsGo_spec _ _ (fun t ht => ?_) (fun t ht => ?_) _ _ _ (by omega) (by omega) hle
  · have htl : t < ks.length := by omega
    rw [h1 t htl]
    have := List.not_of_lt_findIdx (p := fun k => !Op.bytesLess k key.toList) ht
    simpa using this
  · by_cases htl : t < ks.length
    · rw [h1 t htl, bytesLess_eq, decide_eq_false_iff_not]
      have hn : num ks key < ks.length := by omega
      have h3 := List.findIdx_getElem (p := fun k => !Op.bytesLess k key.toList) (xs := ks) (w := hn)
      rw [bytesLess_eq] at h3
      simp only [Bool.not_eq_true', decide_eq_false_iff_not] at h3
      intro h4
      by_cases h5 : t = num ks key
      · subst h5; exact h3 h4
      · exact h3 (List.lt_trans (h.lt htl (show num ks key < t by omega)) h4)
    · rw [h2 t (by omega), bytesLess_eq]
      simp [List.lt_irrefl]

/-- Sorted keys, each once: they rise, and are the same. -/
theorem compact_facts {d : Array (List UInt8)} (hs : ∀ i j, i < j → j < d.size → d[i]! ≤ d[j]!) : ∀ m, m ≤ d.size → (∀ x ∈ compactUpTo d m, ∃ j, j < m ∧ x = d[j]!) ∧ (∀ j, j < m → d[j]! ∈ compactUpTo d m) ∧ (compactUpTo d m).Pairwise (· < ·) := by
  intro m
  induction m with
  | zero =>
    intro _
    refine ⟨fun x hx => ?_, fun j hj => absurd hj (Nat.not_lt_zero _), ?_⟩
    · simp [compactUpTo] at hx
    · simp [compactUpTo]
  | succ m ih =>
    intro hm
    obtain ⟨h1, h2, h3⟩ := ih (by omega)
    rw [compactUpTo_succ]
    cases hk : keeps d m with
    | true =>
      simp only [if_true]
      have hlt : ∀ x ∈ compactUpTo d m, x < d[m]! := by
        intro x hx
        obtain ⟨j, hj, rfl⟩ := h1 x hx
        unfold keeps at hk
        simp only [decide_eq_true_eq] at hk
        have h0 : m ≠ 0 := by omega
        have hne : d[m]! ≠ d[m - 1]! := by
          rcases hk with h | h
          · exact absurd h h0
          · exact h
        have hle : d[j]! ≤ d[m - 1]! := by
          by_cases h5 : j = m - 1
          · subst h5; exact List.le_refl _
          · exact hs j (m - 1) (by omega) (by omega)
        have hle2 := hs (m - 1) m (by omega) (by omega)
        have hlt2 : d[m - 1]! < d[m]! := by
          by_cases h6 : d[m - 1]! < d[m]!
          · exact h6
          · exact absurd (List.le_antisymm (List.not_lt.1 h6) hle2) hne
        exact List.lt_of_le_of_lt hle hlt2
      refine ⟨fun x hx => ?_, fun j hj => ?_, ?_⟩
      · rcases List.mem_append.1 hx with h | h
        · obtain ⟨j, hj, e⟩ := h1 x h
          exact ⟨j, by omega, e⟩
        · exact ⟨m, by omega, by simpa using h⟩
      · by_cases hjm : j = m
        · subst hjm; simp
        · exact List.mem_append_left _ (h2 j (by omega))
      · rw [List.pairwise_append]
        exact ⟨h3, by simp, fun x hx y hy => by rw [List.mem_singleton.1 hy]; exact hlt x hx⟩
    | false =>
      simp only [Bool.false_eq_true, if_false, List.append_nil]
      refine ⟨fun x hx => ?_, fun j hj => ?_, h3⟩
      · obtain ⟨j, hj, e⟩ := h1 x hx
        exact ⟨j, by omega, e⟩
      · by_cases hjm : j = m
        · subst hjm
          unfold keeps at hk
          simp only [decide_eq_false_iff_not, not_or, Decidable.not_not] at hk
          rw [hk.2]
          exact h2 (j - 1) (by omega)
        · exact h2 j (by omega)

/-- The keys of some texts. -/
def keysOf (ss : List (List UInt8)) : List (List UInt8) := compact (ss.mergeSort fun x y => decide (x ≤ y))

theorem keysOf_facts (ss : List (List UInt8)) : Rise (keysOf ss) ∧ ∀ x ∈ ss, x ∈ keysOf ss := by
  have hsort : (ss.mergeSort fun x y => decide (x ≤ y)).Pairwise fun x y => x ≤ y := by
    have := List.pairwise_mergeSort (le := fun (x y : List UInt8) => decide (x ≤ y)) (fun a b c h1 h2 => by
      simp only [decide_eq_true_eq] at *
      exact List.le_trans h1 h2) (fun a b => by
      simp only [Bool.or_eq_true, decide_eq_true_eq]
      exact List.le_total a b) ss
    exact this.imp fun h => by simpa using h
  have hd : ∀ i j, i < j → j < (ss.mergeSort fun x y => decide (x ≤ y)).toArray.size → (ss.mergeSort fun x y => decide (x ≤ y)).toArray[i]! ≤ (ss.mergeSort fun x y => decide (x ≤ y)).toArray[j]! := by
    intro i j hij hj
    rw [getElem!_pos _ i (by omega), getElem!_pos _ j hj]
    have hj' : j < (ss.mergeSort fun x y => decide (x ≤ y)).length := by simpa using hj
    simpa using List.pairwise_iff_getElem.1 hsort i j (by omega) hj' hij
  have h := compact_facts hd _ (Nat.le_refl _)
  refine ⟨?_, fun x hx => ?_⟩
  · unfold Rise keysOf compact
    simpa using h.2.2
  · have hx2 : x ∈ ss.mergeSort fun x y => decide (x ≤ y) := List.mem_mergeSort.2 hx
    obtain ⟨j, hj, e⟩ := List.getElem_of_mem hx2
    have := h.2.1 j (by simpa using hj)
    rw [getElem!_pos _ j (by simpa using hj)] at this
    unfold keysOf compact
    simp only [List.size_toArray, List.getElem_toArray, e] at this
    exact this

theorem keysOf_len (ss : List (List UInt8)) : (keysOf ss).length ≤ ss.length := by
  unfold keysOf
  have := compact_length_le (ss.mergeSort fun x y => decide (x ≤ y))
  rw [List.length_mergeSort] at this
  exact this
end Dr
end Go.Proofs.YtlcbideongbmeaaGreat
