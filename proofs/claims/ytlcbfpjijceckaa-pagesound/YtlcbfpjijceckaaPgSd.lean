/- Of a page that may be, what is put, removed, split and merged may be. -/
import Derived.Test.YtlcbfpjijceckaaPgKp
namespace Go.Proofs.Ytlcbfpjijceckaa
open Go.RowKit Go.Sort
set_option linter.unusedVariables false
set_option maxRecDepth 100000

namespace Pg
/-- The entries of a page: they rise, and each is such as the page may have. -/
theorem fits_iff {leaf : Bool} {r : Rg} {l : List En} : fits leaf r l = true ↔ Ris l ∧ ∀ x ∈ l, Ky.inn r x.key = true ∧ kind leaf x = true := by
  constructor
  · intro h
    refine ⟨fits_ris h, fun x hx => ?_⟩
    obtain ⟨j, hj, rfl⟩ := List.getElem_of_mem hx
    have hg := good_of_fits h hj
    unfold good at hg
    rw [List.getElem?_eq_getElem hj] at hg
    simp only [Bool.and_eq_true] at hg
    exact hg.2
  · rintro ⟨h1, h2⟩
    refine fits_all fun j hj => ?_
    have hx := List.getElem?_eq_getElem hj
    have hk := h2 _ (List.getElem_mem hj)
    cases j with
    | zero => rw [good_first hx, hk.1, hk.2]; rfl
    | succ i =>
      have hd := List.getElem?_eq_getElem (l := l) (i := i) (by omega)
      rw [good_next hx hd, h1 i _ _ hd hx, hk.1, hk.2]
      rfl

/-- Entries rise: each is below each that stands behind it. -/
theorem ris_pair {l : List En} : Ris l ↔ l.Pairwise fun a b => Ky.lt a.key b.key = true := by
  constructor
  · intro h
    rw [List.pairwise_iff_getElem]
    intro i j hi hj hij
    exact h.lt hij (List.getElem?_eq_getElem hi) (List.getElem?_eq_getElem hj)
  · intro h i a b ha hb
    obtain ⟨hi, rfl⟩ := List.getElem?_eq_some_iff.1 ha
    obtain ⟨hj, rfl⟩ := List.getElem?_eq_some_iff.1 hb
    exact List.pairwise_iff_getElem.1 h i (i + 1) hi hj (by omega)

theorem lt_of_not {a b : ByteArray} (h1 : Ky.lt b a = false) (h2 : a ≠ b) : Ky.lt a b = true := by
  cases h : Ky.lt a b with
  | true => rfl
  | false => exact absurd (Ky.lt_total h h1) h2

/-- What is put rises. -/
theorem ris_put {l : List En} (h : Ris l) (e : En) : Ris (putL l e) := by
  unfold putL
  cases hq : l.any (is e.key) with
  | true =>
    simp only [if_true]
    have hlt : l.findIdx (is e.key) < l.length := List.findIdx_lt_length_of_exists (by obtain ⟨x, h1, h2⟩ := List.any_eq_true.1 hq; exact ⟨x, h1, h2⟩)
    have hk : (l[l.findIdx (is e.key)]).key = e.key := is_iff.1 (List.findIdx_getElem (w := hlt))
    have key : ∀ (i : Nat) (a : En), (l.set (l.findIdx (is e.key)) e)[i]? = some a → ∃ b : En, l[i]? = some b ∧ b.key = a.key := by
      intro i a ha
      rw [List.getElem?_set] at ha
      split at ha
      · rename_i hi
        subst hi
        first | rw [if_pos hlt] at ha | skip
        cases ha
        exact ⟨_, List.getElem?_eq_getElem hlt, hk⟩
      · exact ⟨a, ha, rfl⟩
    intro i a b ha hb
    obtain ⟨a', ha', ea⟩ := key i a ha
    obtain ⟨b', hb', eb⟩ := key (i + 1) b hb
    rw [← ea, ← eb]
    exact h i a' b' ha' hb'
  | false =>
    simp only [Bool.false_eq_true, if_false]
    rw [List.any_eq_false] at hq
    have hn : ∀ x ∈ l, e.key ≠ x.key := fun x hx hh => by have := hq x hx; rw [is_iff.2 hh.symm] at this; simp at this
    unfold ins
    obtain ⟨k, hk⟩ : ∃ k, (l.findIdx fun x => Ky.lt e.key x.key) = k := ⟨_, rfl⟩
    rw [hk]
    have hp := ris_pair.1 h
    rw [ris_pair, List.pairwise_append]
    have hsplit : l = l.take k ++ l.drop k := (List.take_append_drop k l).symm
    have hp2 : (l.take k ++ l.drop k).Pairwise fun a b => Ky.lt a.key b.key = true := by rw [← hsplit]; exact hp
    obtain ⟨p1, p2, p3⟩ := List.pairwise_append.1 hp2
    have hA : ∀ a ∈ l.take k, Ky.lt a.key e.key = true := fun a ha => by
      obtain ⟨j, hj, rfl⟩ := List.getElem_of_mem ha
      rw [List.getElem_take]
      have hj' : j < l.findIdx fun x => Ky.lt e.key x.key := by rw [List.length_take] at hj; omega
      have hnl := List.not_of_lt_findIdx hj'
      have hjl : j < l.length := by rw [List.length_take] at hj; omega
      exact lt_of_not (by simpa using hnl) (fun hh => hn _ (List.getElem_mem hjl) hh.symm)
    have hB : ∀ b ∈ l.drop k, Ky.lt e.key b.key = true := fun b hb => by
      by_cases hkl : k < l.length
      · have h0 : Ky.lt e.key (l[k]).key = true := by
          have := List.findIdx_getElem (p := fun x : En => Ky.lt e.key x.key) (xs := l) (w := by rw [hk]; exact hkl)
          simpa [hk] using this
        rw [List.drop_eq_getElem_cons hkl] at hb p2
        rcases List.mem_cons.1 hb with rfl | hb
        · exact h0
        · exact Ky.lt_trans h0 ((List.pairwise_cons.1 p2).1 b hb)
      · rw [List.drop_eq_nil_of_le (by omega)] at hb
        cases hb
    refine ⟨p1, List.pairwise_cons.2 ⟨hB, p2⟩, fun a ha b hb => ?_⟩
    rcases List.mem_cons.1 hb with rfl | hb
    · exact hA a ha
    · exact p3 a ha b hb

theorem mem_put {l : List En} {e x : En} (h : x ∈ putL l e) : x = e ∨ x ∈ l := by
  obtain ⟨A, B, hp, hA, hh⟩ := put_shape l e
  rw [hp] at h
  simp only [List.mem_append, List.mem_cons] at h
  rcases hh with ⟨y, hl, -⟩ | ⟨hl, -⟩
  · rw [hl]
    simp only [List.mem_append, List.mem_cons]
    rcases h with h | rfl | h
    · exact .inr (.inl h)
    · exact .inl rfl
    · exact .inr (.inr (.inr h))
  · rw [hl]
    simp only [List.mem_append]
    rcases h with h | rfl | h
    · exact .inr (.inl h)
    · exact .inl rfl
    · exact .inr (.inr h)

theorem begins_cons {leaf : Bool} {lo : ByteArray} {x : En} {t : List En} : begins leaf lo (x :: t) = (leaf || (x.key.toList == lo.toList)) := rfl

theorem may_mk {leaf : Bool} {r : Rg} {right : Int} {l : List En} (h1 : Ky.emp r = false) (h2 : 0 ≤ right) (h3 : fits leaf r l = true) (h4 : begins leaf r.lo l = true) : may leaf r right l = true := by
  unfold may
  rw [h1, decide_eq_true h2, h3, h4]
  rfl

/-- A page with an entry that it may have may be. -/
theorem may_put {leaf : Bool} {lo hi : ByteArray} {right : Int} {l : List En} {e : En} (h : may leaf ⟨lo, hi⟩ right l = true) (hi2 : Ky.inn ⟨lo, hi⟩ e.key = true) (hk : kind leaf e = true) : may leaf ⟨lo, hi⟩ right (putL l e) = true := by
  obtain ⟨h1, h2, h3, h4⟩ := may_parts h
  obtain ⟨hr, hm⟩ := fits_iff.1 h2
  refine may_mk h1 h4 (fits_iff.2 ⟨ris_put hr e, fun x hx => ?_⟩) ?_
  · rcases mem_put hx with rfl | hx
    · exact ⟨hi2, hk⟩
    · exact hm x hx
  · cases leaf with
    | true => rfl
    | false =>
      cases l with
      | nil => cases h3
      | cons x t =>
        have hx0 : x.key = lo := by
          simp only [begins_cons, Bool.false_or, beq_iff_eq] at h3
          exact Ky.toList_inj h3
        obtain ⟨A, B, hp, hA, hh⟩ := put_shape (x :: t) e
        rw [hp]
        cases A with
        | nil =>
          rcases hh with ⟨y, hl, hy⟩ | ⟨hl, hn⟩
          · simp only [List.nil_append, List.cons.injEq] at hl
            show begins false lo (e :: B) = true
            rw [begins_cons, ← is_iff.1 hy, ← hl.1, hx0]
            simp
          · exfalso
            have hrp := ris_put hr e
            rw [hp] at hrp
            simp only [List.nil_append] at hl hrp
            subst hl
            have h5 := hrp 0 e x rfl rfl
            rw [hx0] at h5
            have h6 : Ky.lt e.key lo = false := by
              rw [inn_iff] at hi2
              simp only [Bool.and_eq_true, Bool.not_eq_true'] at hi2
              exact hi2.1
            rw [h5] at h6
            cases h6
        | cons a A =>
          have : a = x := by
            rcases hh with ⟨y, hl, -⟩ | ⟨hl, -⟩
            · simp only [List.cons_append, List.cons.injEq] at hl; exact hl.1.symm
            · simp only [List.cons_append, List.cons.injEq] at hl; exact hl.1.symm
          subst this
          show begins false lo (a :: (A ++ e :: B)) = true
          rw [begins_cons, hx0]
          simp

/-- A page without an entry may be (but that an inner page's first one stays). -/
theorem may_del {leaf : Bool} {lo hi : ByteArray} {right : Int} {l : List En} {i : Nat} (h : may leaf ⟨lo, hi⟩ right l = true) (hi2 : leaf = true ∨ 0 < i) : may leaf ⟨lo, hi⟩ right (del l i) = true := by
  obtain ⟨h1, h2, h3, h4⟩ := may_parts h
  obtain ⟨hr, hm⟩ := fits_iff.1 h2
  have hsub : (del l i).Sublist l := by
    unfold del
    conv => rhs; rw [← List.take_append_drop i l]
    exact (List.Sublist.refl _).append (by rw [← List.drop_drop]; exact List.drop_sublist _ _)
  refine may_mk h1 h4 (fits_iff.2 ⟨ris_pair.2 ((ris_pair.1 hr).sublist hsub), fun x hx => hm x (hsub.subset hx)⟩) ?_
  cases leaf with
  | true => rfl
  | false =>
    rcases hi2 with hh | hh
    · cases hh
    · cases l with
      | nil => cases h3
      | cons x t =>
        obtain ⟨j, rfl⟩ : ∃ j, i = j + 1 := ⟨i - 1, by omega⟩
        exact h3

/-- The halves of a page that may be may be. -/
theorem may_split {leaf : Bool} {lo hi m : ByteArray} {right id : Int} {l : List En} {i : Nat} {x y : En} (h : may leaf ⟨lo, hi⟩ right l = true) (hid : 1 ≤ id) (hx : l[i]? = some x) (hy : l[i + 1]? = some y) (hp : part leaf x.key y.key = some m) :
    may leaf ⟨lo, m⟩ id (l.take (i + 1)) = true ∧ may leaf ⟨m, hi⟩ right (l.drop (i + 1)) = true := by
  obtain ⟨h1, h2, h3, h4⟩ := may_parts h
  obtain ⟨hr, hm⟩ := fits_iff.1 h2
  obtain ⟨f1, f2, f3⟩ := part_facts hp (hr i x y hx hy)
  have ix := (hm x (List.mem_of_getElem? hx)).1
  have iy := (hm y (List.mem_of_getElem? hy)).1
  have hil := (List.getElem?_eq_some_iff.1 hy).1
  have e1 : Ky.emp ⟨lo, m⟩ = false := by
    unfold Ky.emp Ky.below
    rw [inn_iff] at ix
    simp only [Bool.and_eq_true, Bool.not_eq_true'] at ix
    rw [show Ky.lt lo m = true from Ky.lt_of_le ix.1 f1]
    simp
  have e2 : Ky.emp ⟨m, hi⟩ = false := by
    unfold Ky.emp Ky.below
    rw [inn_iff] at iy
    simp only [Bool.and_eq_true, Bool.or_eq_true, decide_eq_true_eq] at iy
    rw [Ky.nil_eq]
    rcases iy.2 with hh | hh
    · simp [hh]
    · rw [show Ky.lt m hi = true from Ky.lt_of_le f2 hh]; simp
  have hkt : ∀ z ∈ l.take (i + 1), Ky.lt z.key m = true := fun z hz => by
    obtain ⟨j, hj, rfl⟩ := List.getElem_of_mem hz
    have hj' : j < i + 1 := by rw [List.length_take] at hj; omega
    have hz' : l[j]? = some ((l.take (i + 1))[j]) := by
      have := List.getElem?_eq_getElem hj
      rw [List.getElem?_take_of_lt hj'] at this
      exact this
    by_cases hji : j = i
    · subst hji
      rw [hx] at hz'
      cases hz'
      exact f1
    · exact Ky.lt_trans (hr.lt (by omega) hz' hx) f1
  have hkd : ∀ z ∈ l.drop (i + 1), Ky.lt z.key m = false := fun z hz => by
    obtain ⟨j, hj, rfl⟩ := List.getElem_of_mem hz
    have hz' : l[i + 1 + j]? = some ((l.drop (i + 1))[j]) := by
      have := List.getElem?_eq_getElem hj
      rw [List.getElem?_drop] at this
      exact this
    exact Ky.le_trans f2 (hr.ord.le j (i + 1) y _ hy hz')
  constructor
  · refine may_mk e1 (by omega) (fits_iff.2 ⟨ris_pair.2 ((ris_pair.1 hr).sublist (List.take_sublist _ _)), fun z hz => ?_⟩) ?_
    · have hz1 := hm z (List.mem_of_mem_take hz)
      refine ⟨?_, hz1.2⟩
      rw [inn_iff] at hz1 ⊢
      simp only [Bool.and_eq_true, Bool.or_eq_true] at hz1 ⊢
      exact ⟨hz1.1.1, .inr (hkt z hz)⟩
    · cases l with
      | nil => simp at hil
      | cons a t => exact h3
  · refine may_mk e2 h4 (fits_iff.2 ⟨ris_pair.2 ((ris_pair.1 hr).sublist (List.drop_sublist _ _)), fun z hz => ?_⟩) ?_
    · have hz1 := hm z (List.mem_of_mem_drop hz)
      refine ⟨?_, hz1.2⟩
      rw [inn_iff] at hz1 ⊢
      simp only [Bool.and_eq_true, Bool.or_eq_true, Bool.not_eq_true'] at hz1 ⊢
      exact ⟨hkd z hz, hz1.1.2⟩
    · cases leaf with
      | true => rfl
      | false =>
        simp [part] at hp
        rw [List.drop_eq_getElem_cons hil]
        show begins false m _ = true
        rw [begins_cons]
        obtain ⟨hyl, hy2⟩ := List.getElem?_eq_some_iff.1 hy
        rw [hy2, hp]
        simp
end Pg

end Go.Proofs.Ytlcbfpjijceckaa
