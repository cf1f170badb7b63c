/- A stable order, as plain data: sorted rows with the same elements of each key in the same order. -/
import Derived.Test.YtilabcolfabnmaaGnM
namespace Go.Proofs.Ytilabcolfabnmaa
set_option linter.unusedVariables false
set_option maxRecDepth 100000

section
variable {α : Type} {key : α → Int}

/-- Of each key the same elements, in the same order. -/
def Sam (key : α → Int) (a b : List α) : Prop := ∀ k : Int, a.filter (fun x => key x == k) = b.filter (fun x => key x == k)
/-- Rising by keys. -/
def Asc (key : α → Int) (l : List α) : Prop := l.Pairwise fun x y => key x ≤ key y

theorem Sam.refl (a : List α) : Sam key a a := fun _ => rfl
theorem Sam.symm {a b : List α} (h : Sam key a b) : Sam key b a := fun k => (h k).symm
theorem Sam.trans {a b c : List α} (h : Sam key a b) (h2 : Sam key b c) : Sam key a c := fun k => (h k).trans (h2 k)
theorem Sam.app {a b c d : List α} (h : Sam key a b) (h2 : Sam key c d) : Sam key (a ++ c) (b ++ d) := fun k => by rw [List.filter_append, List.filter_append, h k, h2 k]
theorem Sam.mem {a b : List α} (h : Sam key a b) {x : α} (hx : x ∈ a) : x ∈ b := by
  have h1 : x ∈ a.filter (fun y => key y == key x) := List.mem_filter.2 ⟨hx, by simp⟩
  rw [h (key x)] at h1
  exact (List.mem_filter.1 h1).1

theorem Sam.nil {a : List α} (h : Sam key a []) : a = [] := by
  cases a with
  | nil => rfl
  | cons x r => exact absurd (h.mem (List.mem_cons_self)) (by simp)

/-- Two parts change places, when none of the one has a key of the other. -/
theorem Sam.comm {a b : List α} (h : ∀ x ∈ a, ∀ y ∈ b, key y < key x) : Sam key (a ++ b) (b ++ a) := fun k => by
  rw [List.filter_append, List.filter_append]
  by_cases ha : a.filter (fun x => key x == k) = []
  · rw [ha, List.nil_append, List.append_nil]
  · obtain ⟨x, hx⟩ := List.exists_mem_of_ne_nil _ ha
    obtain ⟨hx1, hx2⟩ := List.mem_filter.1 hx
    have hb : b.filter (fun x => key x == k) = [] := by
      rw [List.filter_eq_nil_iff]
      intro y hy
      have := h x hx1 y hy
      simp at hx2
      simp
      omega
    rw [hb, List.nil_append, List.append_nil]

theorem Sam.len {a b : List α} (h : Sam key a b) : a.length = b.length := by
  induction a generalizing b with
  | nil => rw [h.symm.nil]
  | cons x r ih =>
    obtain ⟨s, t, rfl, hs⟩ : ∃ s t, b = s ++ x :: t ∧ Sam key r (s ++ t) := by
      have hk := h (key x)
      simp at hk
      have hb : x ∈ b := h.mem List.mem_cons_self
      -- the first one of the key
      have : ∀ (b : List α) (r' : List α), x :: r' = b.filter (fun y => key y == key x) → ∃ s t, b = s ++ x :: t ∧ ∀ y ∈ s, key y ≠ key x := by
        intro b
        induction b with
        | nil => intro r' h; simp at h
        | cons y q ih2 =>
          intro r' h
          by_cases e : key y = key x
          · rw [List.filter_cons_of_pos (by simpa using e)] at h
            cases h
            exact ⟨[], q, rfl, by simp⟩
          · rw [List.filter_cons_of_neg (by simpa using e)] at h
            obtain ⟨s, t, rfl, hs⟩ := ih2 r' h
            exact ⟨y :: s, t, rfl, by simpa using ⟨e, hs⟩⟩
      obtain ⟨s, t, rfl, hs⟩ := this b _ hk
      refine ⟨s, t, rfl, fun k => ?_⟩
      have h2 := h k
      by_cases e : key x = k
      · subst e
        rw [List.filter_cons_of_pos (by simp), List.filter_append, List.filter_cons_of_pos (by simp)] at h2
        have hs0 : s.filter (fun y => key y == key x) = [] := by
          rw [List.filter_eq_nil_iff]
          intro y hy
          simpa using hs y hy
        rw [hs0, List.nil_append] at h2
        rw [List.filter_append, hs0, List.nil_append]
        exact List.tail_eq_of_cons_eq h2
      · rw [List.filter_cons_of_neg (by simpa using e), List.filter_append, List.filter_cons_of_neg (by simpa using e)] at h2
        rw [List.filter_append]
        exact h2
    have := ih hs
    simp only [List.length_append, List.length_cons] at this ⊢
    omega

/-- Rising rows with the same elements of each key in the same order are equal. -/
theorem Sam.one {a b : List α} (h : Sam key a b) (ha : Asc key a) (hb : Asc key b) : a = b := by
  induction a generalizing b with
  | nil => rw [h.symm.nil]
  | cons x r ih =>
    cases b with
    | nil => exact absurd h.nil (by simp)
    | cons y s =>
      have hxy : key x = key y := by
        have h1 : x ∈ y :: s := h.mem List.mem_cons_self
        have h2 : y ∈ x :: r := h.symm.mem List.mem_cons_self
        have e1 : key y ≤ key x := by
          rcases List.mem_cons.1 h1 with rfl | h1
          · exact Int.le_refl _
          · exact (List.pairwise_cons.1 hb).1 x h1
        have e2 : key x ≤ key y := by
          rcases List.mem_cons.1 h2 with rfl | h2
          · exact Int.le_refl _
          · exact (List.pairwise_cons.1 ha).1 y h2
        omega
      have hk := h (key x)
      rw [List.filter_cons_of_pos (by simp), List.filter_cons_of_pos (by simp [hxy])] at hk
      obtain ⟨rfl, hk⟩ := List.cons.inj hk
      congr 1
      refine ih (fun k => ?_) (List.pairwise_cons.1 ha).2 (List.pairwise_cons.1 hb).2
      have h2 := h k
      by_cases e : key x = k
      · rw [List.filter_cons_of_pos (by simpa using e), List.filter_cons_of_pos (by simpa using e)] at h2
        exact List.tail_eq_of_cons_eq h2
      · rw [List.filter_cons_of_neg (by simpa using e), List.filter_cons_of_neg (by simpa using e)] at h2
        exact h2

theorem Asc.app {a b : List α} (ha : Asc key a) (hb : Asc key b) (h : ∀ x ∈ a, ∀ y ∈ b, key x ≤ key y) : Asc key (a ++ b) := List.pairwise_append.2 ⟨ha, hb, h⟩
theorem Asc.left {a b : List α} (h : Asc key (a ++ b)) : Asc key a := (List.pairwise_append.1 h).1
theorem Asc.right {a b : List α} (h : Asc key (a ++ b)) : Asc key b := (List.pairwise_append.1 h).2.1
theorem Asc.cross {a b : List α} (h : Asc key (a ++ b)) : ∀ x ∈ a, ∀ y ∈ b, key x ≤ key y := (List.pairwise_append.1 h).2.2
theorem Asc.nil : Asc key ([] : List α) := List.Pairwise.nil
theorem Asc.single (x : α) : Asc key [x] := List.pairwise_singleton _ _

/-- Two sorted parts are merged by parts: L and R swapped between. -/
theorem merge_parts {L U V R Z1 Z2 : List α} (hX : Asc key (L ++ U)) (hY : Asc key (V ++ R)) (hUV : ∀ x ∈ U, ∀ y ∈ V, key y < key x) (hLR : ∀ x ∈ L, ∀ y ∈ R, key x ≤ key y)
    (h1 : Sam key (L ++ V) Z1) (s1 : Asc key Z1) (h2 : Sam key (U ++ R) Z2) (s2 : Asc key Z2) : Sam key ((L ++ U) ++ (V ++ R)) (Z1 ++ Z2) ∧ Asc key (Z1 ++ Z2) := by
  refine ⟨?_, s1.app s2 fun x hx y hy => ?_⟩
  · have h3 : Sam key ((L ++ U) ++ (V ++ R)) ((L ++ V) ++ (U ++ R)) := by
      have e1 : (L ++ U) ++ (V ++ R) = L ++ ((U ++ V) ++ R) := by simp
      have e2 : (L ++ V) ++ (U ++ R) = L ++ ((V ++ U) ++ R) := by simp
      rw [e1, e2]
      exact (Sam.refl L).app ((Sam.comm hUV).app (Sam.refl R))
    exact h3.trans (h1.app h2)
  · have hx' := h1.symm.mem hx
    have hy' := h2.symm.mem hy
    rcases List.mem_append.1 hx' with hx' | hx' <;> rcases List.mem_append.1 hy' with hy' | hy'
    · exact hX.cross x hx' y hy'
    · exact hLR x hx' y hy'
    · have := hUV y hy' x hx'; omega
    · exact hY.cross x hx' y hy'

/-- One element put among those that rise: behind all that are not above it. -/
theorem ins_left {x : α} {P Q : List α} (h : Asc key (P ++ Q)) (hP : ∀ y ∈ P, key y < key x) (hQ : ∀ y ∈ Q, key x ≤ key y) : Sam key (x :: (P ++ Q)) (P ++ x :: Q) ∧ Asc key (P ++ x :: Q) := by
  refine ⟨?_, h.left.app (List.pairwise_cons.2 ⟨hQ, h.right⟩) fun y hy z hz => ?_⟩
  · have : Sam key ([x] ++ P) (P ++ [x]) := Sam.comm (fun a ha b hb => by simp at ha; subst ha; exact hP b hb)
    have h2 := this.app (Sam.refl Q)
    simpa using h2
  · rcases List.mem_cons.1 hz with rfl | hz
    · have := hP y hy; omega
    · exact h.cross y hy z hz
theorem ins_right {x : α} {P Q : List α} (h : Asc key (P ++ Q)) (hP : ∀ y ∈ P, key y ≤ key x) (hQ : ∀ y ∈ Q, key x < key y) : Sam key ((P ++ Q) ++ [x]) (P ++ x :: Q) ∧ Asc key (P ++ x :: Q) := by
  refine ⟨?_, h.left.app (List.pairwise_cons.2 ⟨fun y hy => Int.le_of_lt (hQ y hy), h.right⟩) fun y hy z hz => ?_⟩
  · have : Sam key (Q ++ [x]) ([x] ++ Q) := Sam.comm (fun a ha b hb => by simp at hb; subst hb; exact hQ a ha)
    have h2 := (Sam.refl P).app this
    simpa using h2
  · rcases List.mem_cons.1 hz with rfl | hz
    · exact hP y hy
    · exact h.cross y hy z hz

theorem Asc.at {l : List α} (h : Asc key l) {i j : Nat} {x y : α} (hi : l[i]? = some x) (hj : l[j]? = some y) (hij : i ≤ j) : key x ≤ key y := by
  have h1 := (List.getElem?_eq_some_iff.1 hi).1
  have h2 := (List.getElem?_eq_some_iff.1 hj).1
  rcases Nat.lt_or_ge i j with hlt | hge
  · have := List.pairwise_iff_getElem.1 h i j h1 h2 hlt
    rw [(List.getElem?_eq_some_iff.1 hi).2, (List.getElem?_eq_some_iff.1 hj).2] at this
    exact this
  · have : i = j := by omega
    subst this
    rw [hi] at hj
    cases hj
    exact Int.le_refl _
end
end Go.Proofs.Ytilabcolfabnmaa
