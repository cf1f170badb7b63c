/- Freed handles stay stale: plain data. -/
import Derived.Test.YtfbmbjbokmomhaaArPure
namespace Go.Proofs.Ytfbmbjbokmomhaa
set_option linter.unusedVariables false

/-- The handle at a place. -/
def hAt (l : List (Int × Int)) (i : Nat) : Int × Int := l.getD i (0, 0)
def tAt (l : List ByteArray) (i : Nat) : ByteArray := l.getD i .empty

/-- Those that are good, what they have, those that are gone. -/
structure Pu (n j : Nat) (a : Ar) (L : List (Int × Int)) (H : List ByteArray) (G : List (Int × Int)) : Prop where
  size : a.size = n
  stale : a.stale = 0
  lens : H.length = L.length
  liv : live a.us = L.length
  good : ∀ i, i < L.length → a.Good (hAt L i).1 (hAt L i).2 ∧ (slAt a.us (hAt L i).1.toNat).val = .string (tAt H i)
  nd : ∀ i k, i < L.length → k < L.length → (hAt L i).1 = (hAt L k).1 → i = k
  gone : ∀ g ∈ G, 0 ≤ g.1 ∧ g.1 < a.us.length ∧ g.2 ≤ (slAt a.us g.1.toNat).gen ∧ (g.2 = (slAt a.us g.1.toNat).gen → (slAt a.us g.1.toNat).given = false)
  gens : Gens a.us j
  glen : G.length ≤ j
  llen : L.length ≤ j

theorem Pu.start (n : Nat) : Pu n 0 (Ar.fresh n) [] [] [] :=
  { size := rfl, stale := rfl, lens := rfl, liv := rfl, good := (fun i hi => absurd hi (Nat.not_lt_zero i)), nd := (fun i k hi => absurd hi (Nat.not_lt_zero i)), gone := (fun g hg => by cases hg), gens := Gens.nil _, glen := Nat.le_refl _, llen := Nat.le_refl _ }

theorem Pu.more {n j : Nat} {a : Ar} {L : List (Int × Int)} {H : List ByteArray} {G : List (Int × Int)} (h : Pu n j a L H G) : Pu n (j + 1) a L H G :=
  { h with gens := h.gens.mono (by omega), glen := Nat.le_succ_of_le h.glen, llen := Nat.le_succ_of_le h.llen }

theorem hAt_left {L M : List (Int × Int)} {i : Nat} (hi : i < L.length) : hAt (L ++ M) i = hAt L i := by simp [hAt, List.getD, List.getElem?_append_left hi]
theorem hAt_last (L : List (Int × Int)) (x : Int × Int) : hAt (L ++ [x]) L.length = x := by simp [hAt]
theorem tAt_left {L M : List ByteArray} {i : Nat} (hi : i < L.length) : tAt (L ++ M) i = tAt L i := by simp [tAt, List.getD, List.getElem?_append_left hi]
theorem tAt_last (L : List ByteArray) (x : ByteArray) : tAt (L ++ [x]) L.length = x := by simp [tAt]
theorem hAt_mem {L : List (Int × Int)} {i : Nat} (hi : i < L.length) : hAt L i ∈ L := by simp [hAt, List.getD, hi]

/-- The slots behind Put. -/
theorem put_slot (a : Ar) (x : Value) : slAt (a.put x).us (low a.us) = ⟨a.gen, true, x⟩ ∧ low a.us < (a.put x).us.length ∧ ∀ k, k < a.us.length → k ≠ low a.us → slAt (a.put x).us k = slAt a.us k := by
  unfold Ar.put Ar.gen
  by_cases h : low a.us < a.us.length
  · simp only [if_pos h]
    refine ⟨by rw [slAt_set _ _ _ _ h, if_pos rfl], by simpa using h, fun k hk hne => by rw [slAt_set _ _ _ _ h, if_neg hne]⟩
  · simp only [if_neg h]
    have e : low a.us = a.us.length := by have := low_le a.us; omega
    rw [e]
    exact ⟨slAt_last _ _, by simp, fun k hk _ => slAt_left _ _ _ hk⟩

theorem put_ge (a : Ar) (x : Value) : a.us.length ≤ (a.put x).us.length := by
  rw [put_length]
  split <;> omega

theorem Pu.put {n j : Nat} {a : Ar} {L : List (Int × Int)} {H : List ByteArray} {G : List (Int × Int)} (h : Pu n j a L H G) (x : ByteArray) : Pu n (j + 1) (a.put (.string x)) (L ++ [((low a.us : Int), a.gen)]) (H ++ [x]) G := by
  obtain ⟨s1, s2, s3⟩ := put_slot a (.string x)
  have hge := put_ge a (.string x)
  -- a good one is another slot
  have hne : ∀ i, i < L.length → (hAt L i).1.toNat ≠ low a.us ∧ (hAt L i).1.toNat < a.us.length := by
    intro i hi
    obtain ⟨⟨g0, g1, g2, g3⟩, _⟩ := h.good i hi
    refine ⟨fun e => ?_, by omega⟩
    have hl : low a.us < a.us.length := by omega
    have := (low_free hl).1
    rw [← e, g2] at this
    cases this
  exact {
    size := h.size
    stale := h.stale
    lens := by simp [h.lens]
    liv := by rw [live_put, h.liv]; simp
    good := by
      intro i hi
      by_cases hk : i < L.length
      · rw [hAt_left hk, tAt_left (by rw [h.lens]; exact hk)]
        obtain ⟨⟨g0, g1, g2, g3⟩, g4⟩ := h.good i hk
        obtain ⟨n1, n2⟩ := hne i hk
        refine ⟨⟨g0, by omega, ?_, ?_⟩, ?_⟩
        · rw [s3 _ n2 n1]; exact g2
        · rw [s3 _ n2 n1]; exact g3
        · rw [s3 _ n2 n1]; exact g4
      · have e : i = L.length := by simp at hi; omega
        subst e
        rw [hAt_last]
        have e2 : tAt (H ++ [x]) L.length = x := by rw [← h.lens]; exact tAt_last _ _
        rw [e2]
        refine ⟨⟨by show (0 : Int) ≤ (low a.us : Int); omega, by show (low a.us : Int) < _; omega, ?_, ?_⟩, ?_⟩
        · show (slAt _ (low a.us : Int).toNat).given = true
          rw [Int.toNat_natCast, s1]
        · show (slAt _ (low a.us : Int).toNat).gen = a.gen
          rw [Int.toNat_natCast, s1]
        · show (slAt _ (low a.us : Int).toNat).val = _
          rw [Int.toNat_natCast, s1]
    nd := by
      intro i k hi hk he
      simp at hi hk
      have hlast : ∀ i, i < L.length → (hAt (L ++ [((low a.us : Int), a.gen)]) i).1 ≠ (low a.us : Int) := by
        intro i hi e
        rw [hAt_left hi] at e
        have := (hne i hi).1
        rw [e] at this
        exact this (Int.toNat_natCast _)
      by_cases h1 : i < L.length <;> by_cases h2 : k < L.length
      · rw [hAt_left h1, hAt_left h2] at he
        exact h.nd i k h1 h2 he
      · have e : k = L.length := by omega
        subst e
        rw [hAt_last] at he
        exact absurd he (hlast i h1)
      · have e : i = L.length := by omega
        subst e
        rw [hAt_last] at he
        exact absurd he.symm (hlast k h2)
      · omega
    gone := by
      intro g hg
      obtain ⟨g0, g1, g2, g3⟩ := h.gone g hg
      refine ⟨g0, by omega, ?_⟩
      by_cases hl : g.1.toNat = low a.us
      · rw [hl, s1]
        have hlt : low a.us < a.us.length := by omega
        have e : a.gen = (slAt a.us (low a.us)).gen + 1 := by unfold Ar.gen; rw [if_pos hlt]
        rw [hl] at g2
        refine ⟨by show g.2 ≤ a.gen; omega, fun e2 => ?_⟩
        have : g.2 = a.gen := e2
        omega
      · rw [s3 _ (by omega) hl]
        exact ⟨g2, g3⟩
    gens := by
      have := h.gens.put (by omega) (.string x)
      exact this.mono (by omega)
    glen := Nat.le_succ_of_le h.glen
    llen := by simp; exact h.llen }

theorem Pu.set {n j : Nat} {a : Ar} {L : List (Int × Int)} {H : List ByteArray} {G : List (Int × Int)} (h : Pu n j a L H G) {k : Nat} (hk : k < L.length) (x : ByteArray) : Pu n (j + 1) (a.set (hAt L k).1.toNat (.string x)) L (H.set k x) G := by
  obtain ⟨⟨g0, g1, g2, g3⟩, _⟩ := h.good k hk
  have hs : (hAt L k).1.toNat < a.us.length := by omega
  have hset : ∀ i, slAt (a.set (hAt L k).1.toNat (.string x)).us i = if i = (hAt L k).1.toNat then { slAt a.us (hAt L k).1.toNat with val := .string x } else slAt a.us i := fun i => slAt_set _ _ _ _ hs
  have hlen : (a.set (hAt L k).1.toNat (.string x)).us.length = a.us.length := by simp [Ar.set]
  have hgg : ∀ i, (slAt (a.set (hAt L k).1.toNat (.string x)).us i).gen = (slAt a.us i).gen ∧ (slAt (a.set (hAt L k).1.toNat (.string x)).us i).given = (slAt a.us i).given := by
    intro i
    rw [hset]
    split
    · rename_i e
      rw [e]
      exact ⟨rfl, rfl⟩
    · exact ⟨rfl, rfl⟩
  exact {
    size := h.size
    stale := h.stale
    lens := by simp [h.lens]
    liv := by
      rw [← h.liv]
      exact live_set_same hs rfl
    good := by
      intro i hi
      obtain ⟨⟨q0, q1, q2, q3⟩, q4⟩ := h.good i hi
      refine ⟨⟨q0, by rw [hlen]; exact q1, by rw [(hgg _).2]; exact q2, by rw [(hgg _).1]; exact q3⟩, ?_⟩
      rw [hset]
      by_cases hik : i = k
      · subst hik
        rw [if_pos rfl]
        show Value.string x = .string _
        simp [tAt, List.getD, h.lens, hk]
      · have hne : (hAt L i).1.toNat ≠ (hAt L k).1.toNat := fun e => hik (h.nd i k hi hk (by omega))
        rw [if_neg hne, q4]
        simp [tAt, List.getD, Ne.symm hik]
    nd := h.nd
    gone := by
      intro g hg
      have := h.gone g hg
      rw [hlen, (hgg _).1, (hgg _).2]
      exact this
    gens := (h.gens.setv hs _).mono (by omega)
    glen := Nat.le_succ_of_le h.glen
    llen := Nat.le_succ_of_le h.llen }

/-- A list without the one at a place. -/
def cut {α : Type} (l : List α) (k : Nat) : List α := l.take k ++ l.drop (k + 1)

theorem cut_length {α : Type} (l : List α) {k : Nat} (hk : k < l.length) : (cut l k).length + 1 = l.length := by simp [cut]; omega

theorem cut_at {α : Type} (l : List α) {k i : Nat} (hk : k < l.length) (d : α) : (cut l k).getD i d = l.getD (if i < k then i else i + 1) d := by
  unfold cut
  by_cases h : i < k
  · rw [if_pos h]
    have hl : i < l.length := by omega
    simp [List.getD, List.getElem?_append_left, h, hl, Nat.min_eq_left (Nat.le_of_lt hk)]
  · rw [if_neg h]
    simp only [List.getD]
    rw [List.getElem?_append_right (by simp; omega), List.getElem?_drop]
    simp only [List.length_take, Nat.min_eq_left (Nat.le_of_lt hk)]
    rw [show k + 1 + (i - k) = i + 1 by omega]

theorem Pu.free {n j : Nat} {a : Ar} {L : List (Int × Int)} {H : List ByteArray} {G : List (Int × Int)} (h : Pu n j a L H G) {k : Nat} (hk : k < L.length) (z : Value) : Pu n (j + 1) (a.free (hAt L k).1.toNat z) (cut L k) (cut H k) (G ++ [hAt L k]) := by
  obtain ⟨⟨g0, g1, g2, g3⟩, _⟩ := h.good k hk
  have hs : (hAt L k).1.toNat < a.us.length := by omega
  have hset : ∀ i, slAt (a.free (hAt L k).1.toNat z).us i = if i = (hAt L k).1.toNat then ⟨(slAt a.us (hAt L k).1.toNat).gen, false, z⟩ else slAt a.us i := fun i => slAt_set _ _ _ _ hs
  have hlen : (a.free (hAt L k).1.toNat z).us.length = a.us.length := by simp [Ar.free]
  have hcl := cut_length L hk
  have hcH := cut_length H (k := k) (by rw [h.lens]; exact hk)
  have ix : ∀ i, i < (cut L k).length → (if i < k then i else i + 1) < L.length ∧ (if i < k then i else i + 1) ≠ k := by
    intro i hi
    split <;> omega
  have eL : ∀ i, hAt (cut L k) i = hAt L (if i < k then i else i + 1) := fun i => cut_at L hk _
  have eH : ∀ i, tAt (cut H k) i = tAt H (if i < k then i else i + 1) := fun i => cut_at H (by rw [h.lens]; exact hk) _
  exact {
    size := h.size
    stale := h.stale
    lens := by have := h.lens; omega
    liv := by
      have h1 := h.liv
      have h2 : live (a.free (hAt L k).1.toNat z).us + 1 = live a.us := live_set_free hs rfl g2
      omega
    good := by
      intro i hi
      obtain ⟨i1, i2⟩ := ix i hi
      rw [eL, eH]
      obtain ⟨⟨q0, q1, q2, q3⟩, q4⟩ := h.good _ i1
      have hne : (hAt L (if i < k then i else i + 1)).1.toNat ≠ (hAt L k).1.toNat := fun e => i2 (h.nd _ k i1 hk (by omega))
      refine ⟨⟨q0, by rw [hlen]; exact q1, ?_, ?_⟩, ?_⟩
      · rw [hset, if_neg hne]; exact q2
      · rw [hset, if_neg hne]; exact q3
      · rw [hset, if_neg hne]; exact q4
    nd := by
      intro i m hi hm he
      rw [eL, eL] at he
      have := h.nd _ _ (ix i hi).1 (ix m hm).1 he
      split at this <;> split at this <;> omega
    gone := by
      intro g hg
      rw [hlen, hset]
      simp only [List.mem_append, List.mem_cons, List.not_mem_nil, or_false] at hg
      rcases hg with hg | rfl
      · obtain ⟨p0, p1, p2, p3⟩ := h.gone g hg
        refine ⟨p0, p1, ?_⟩
        split
        · rename_i e
          rw [e] at p2
          exact ⟨p2, fun _ => rfl⟩
        · exact ⟨p2, p3⟩
      · refine ⟨g0, g1, ?_⟩
        rw [if_pos rfl]
        exact ⟨by show _ ≤ (slAt a.us _).gen; omega, fun _ => rfl⟩
    gens := (h.gens.free hs z).mono (by omega)
    glen := by simp; exact h.glen
    llen := by have := h.llen; omega }

/-- What is gone is not good. -/
theorem Pu.bad {n j : Nat} {a : Ar} {L : List (Int × Int)} {H : List ByteArray} {G : List (Int × Int)} (h : Pu n j a L H G) {g : Int × Int} (hg : g ∈ G) : ¬ a.Good g.1 g.2 := by
  rintro ⟨_, _, q2, q3⟩
  have := (h.gone g hg).2.2.2 q3.symm
  rw [this] at q2
  cases q2

end Go.Proofs.Ytfbmbjbokmomhaa
