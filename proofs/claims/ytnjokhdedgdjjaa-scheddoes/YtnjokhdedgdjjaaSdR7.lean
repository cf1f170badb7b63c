/- The document's scheduler: a run. -/
import Derived.Test.YtnjokhdedgdjjaaSdR6
namespace Go.Proofs.Ytnjokhdedgdjjaa
open Go.RowKit Go.Maps
set_option linter.unusedVariables false
set_option maxRecDepth 100000

/-- There is always a run. -/
theorem runs_total : ∀ (m : Nat) (s : Sc), s.rest → ∃ d s', Runs m s d s' := by
  intro m
  induction m using Nat.strongRecOn with
  | ind m ih =>
    intro s hr
    by_cases h0 : m = 0
    · exact ⟨0, s, Runs.stop (.inl h0)⟩
    · by_cases hf : s.fl = []
      · exact ⟨0, s, Runs.stop (.inr hf)⟩
      · have hl : 0 < s.al.length := by
          rw [hr, List.length_map]
          exact List.length_pos_iff.2 hf
        obtain ⟨d, s', h⟩ := ih (m - min s.al.length m) (by omega) (s.round (min s.al.length m)) (round_rest _ _)
        exact ⟨_, s', Runs.more h0 hf rfl h⟩

/-- How many of a rising list are at most n. -/
def upto (l : List Nat) (n : Nat) : Nat := (l.filter fun x => decide (x ≤ n)).length

theorem rising_take : ∀ {l : List Nat} {j n : Nat}, l.Pairwise (· < ·) → (∀ x ∈ l.take j, x ≤ n) → (∀ x ∈ l.drop j, n < x) → ∀ x, l[j]? = some x → x ≠ n + 1 → ∀ y ∈ l.drop j, n + 1 < y
  | l, j, n, hp, h1, h2, x, hx, hne => by
    intro y hy
    have hxd : x ∈ l.drop j := by
      rw [List.mem_iff_getElem?]
      exact ⟨0, by rw [List.getElem?_drop]; exact hx⟩
    have hx1 := h2 x hxd
    have hd : l.drop j = x :: l.drop (j + 1) := by
      have hlt := (List.getElem?_eq_some_iff.1 hx).1
      rw [List.drop_eq_getElem_cons hlt]
      congr 1
      exact (List.getElem?_eq_some_iff.1 hx).2
    have hp' : (l.drop j).Pairwise (· < ·) := hp.sublist (List.drop_sublist _ _)
    rw [hd] at hy hp'
    rcases List.mem_cons.1 hy with rfl | hy
    · omega
    · have := (List.pairwise_cons.1 hp').1 y hy
      omega

/-- Within a round: the first j of those that were alive at its beginning have done their step; n numbers have been asked. -/
structure Rr2 (s : Sc) (j n : Nat) : Prop where
  jl : j ≤ s.al.length
  le : ∀ x ∈ s.al.take j, x ≤ n
  gt : ∀ x ∈ s.al.drop j, n < x

theorem Rr2.start (s : Sc) (h : ∀ x ∈ s.al, 1 ≤ x) : Rr2 s 0 0 := ⟨Nat.zero_le _, by simp, fun x hx => by have := h x (by simpa using hx); omega⟩

/-- The next number is one that is alive: or not. -/
theorem Rr2.next {s : Sc} {j n : Nat} (h : Rr2 s j n) (hrest : s.rest) (hr : (s.fl.map Fb.num).Pairwise (· < ·)) :
    (∃ f, f ∈ (s.advs (s.al.take j)).fl ∧ f.num = n + 1 ∧ Rr2 s (j + 1) (n + 1) ∧ s.advs (s.al.take (j + 1)) = (s.advs (s.al.take j)).adv f) ∨ (fat (s.advs (s.al.take j)).fl ((n + 1 : Nat) : Int) = none ∧ Rr2 s j (n + 1)) := by
  have hp : s.al.Pairwise (· < ·) := by rw [hrest]; exact hr
  have hne : ∀ x ∈ s.al.take j, ((n + 1 : Nat) : Int) ≠ ((x : Nat) : Int) := fun x hx => by have := h.le x hx; omega
  have hfat := fat_advs_ne (s.al.take j) hne s
  cases hx : s.al[j]? with
  | none =>
    right
    have hall : s.al.length ≤ j := by simpa using hx
    refine ⟨?_, h.jl, fun x hx => by have := h.le x hx; omega, fun x hx => ?_⟩
    · rw [hfat, fat_none]
      intro f hf e
      have : f.num ∈ s.al := by rw [hrest]; exact List.mem_map_of_mem hf
      have := h.le f.num (by rw [List.take_of_length_le hall]; exact this)
      omega
    · rw [List.drop_of_length_le hall] at hx
      cases hx
  | some x =>
    have hlt := (List.getElem?_eq_some_iff.1 hx).1
    by_cases e : x = n + 1
    · left
      subst e
      have hm : (n + 1) ∈ s.fl.map Fb.num := by rw [← hrest]; exact List.mem_of_getElem? hx
      obtain ⟨f0, hf0, hn0⟩ := List.mem_map.1 hm
      have hs : fat s.fl ((n + 1 : Nat) : Int) = some f0 := by rw [← hn0]; exact fat_of_mem hr hf0
      rw [hs] at hfat
      obtain ⟨hf1, hn1⟩ := fat_mem hfat
      refine ⟨f0, hf1, hn0, ⟨hlt, fun y hy => ?_, fun y hy => ?_⟩, ?_⟩
      · rw [List.take_add_one, hx] at hy
        rcases List.mem_append.1 hy with hy | hy
        · have := h.le y hy; omega
        · simp at hy; omega
      · have hp' : (s.al.drop j).Pairwise (· < ·) := hp.sublist (List.drop_sublist _ _)
        rw [List.drop_eq_getElem_cons hlt] at hp'
        have := (List.pairwise_cons.1 hp').1 y hy
        rw [(List.getElem?_eq_some_iff.1 hx).2] at this
        exact this
      · rw [List.take_add_one, hx]
        simp only [Option.toList_some]
        rw [Sc.advs_snoc, Sc.advN_some hfat]
    · right
      have hgt := rising_take hp h.le h.gt x hx e
      refine ⟨?_, h.jl, fun x hx => by have := h.le x hx; omega, hgt⟩
      rw [hfat, fat_none]
      intro f hf en
      have hm : f.num ∈ s.al := by rw [hrest]; exact List.mem_map_of_mem hf
      rw [← List.take_append_drop j s.al] at hm
      rcases List.mem_append.1 hm with hm | hm
      · have := h.le _ hm; omega
      · have := hgt _ hm; omega

/-- At the end of a round all have done theirs. -/
theorem Rr2.done {s : Sc} {j n : Nat} (h : Rr2 s j n) (ha : ∀ x ∈ s.al, x ≤ n) : j = s.al.length := by
  have := h.jl
  rcases Nat.lt_or_ge j s.al.length with hlt | hge
  · have hm : s.al[j] ∈ s.al.drop j := by
      rw [List.drop_eq_getElem_cons hlt]
      exact List.mem_cons_self
    have h1 := h.gt _ hm
    have h2 := ha _ (List.getElem_mem hlt)
    omega
  · omega

theorem advN_ups {s : Sc} (h : s.ups) (n : Nat) : (s.advN n).ups := by
  intro f hf
  have h1 := (advN_nums s n).subset (List.mem_map_of_mem hf)
  obtain ⟨f0, hf0, e⟩ := List.mem_map.1 h1
  rw [advN_len]
  have := h f0 hf0
  omega
theorem advs_ups (l : List Nat) : ∀ {s : Sc}, s.ups → (s.advs l).ups := by
  induction l with
  | nil => intro s h; exact h
  | cons x r ih => intro s h; exact ih (advN_ups h x)
theorem advs_rs {s : Sc} (hr : (s.fl.map Fb.num).Pairwise (· < ·)) (l : List Nat) : ((s.advs l).fl.map Fb.num).Pairwise (· < ·) := hr.sublist (advs_nums l s)
theorem advs_fl (l : List Nat) (s : Sc) : (s.advs l).fl.length ≤ s.fl.length := by
  have := (advs_nums l s).length_le
  simpa using this
theorem adv_fit {s : Sc} (hr : (s.fl.map Fb.num).Pairwise (· < ·)) {f : Fb} (hf : f ∈ s.fl) : (s.adv f).fl.length + (s.adv f).box.length ≤ s.fl.length + s.box.length := by
  show (if 1 < f.left then s.fl.map (less f.num) else s.fl.filter fun x => x.num != f.num).length + (if 1 < f.left then s.box else s.box ++ [f.num]).length ≤ _
  split
  · simp
  · have := filter_one hr hf
    simp only [List.length_append, List.length_cons, List.length_nil]
    omega
theorem advs_fit (l : List Nat) : ∀ {s : Sc}, (s.fl.map Fb.num).Pairwise (· < ·) → (s.advs l).fl.length + (s.advs l).box.length ≤ s.fl.length + s.box.length := by
  induction l with
  | nil => intro s hr; exact Nat.le_refl _
  | cons x r ih =>
    intro s hr
    have h1 := ih (s := s.advN x) (hr.sublist (advN_nums s x))
    refine Nat.le_trans h1 ?_
    unfold Sc.advN
    split
    · rename_i f hf
      exact adv_fit hr (fat_mem hf).1
    · exact Nat.le_refl _

end Go.Proofs.Ytnjokhdedgdjjaa
