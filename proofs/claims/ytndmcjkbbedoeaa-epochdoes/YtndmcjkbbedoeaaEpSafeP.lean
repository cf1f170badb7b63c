/- Who can still reach what waits: as plain data. -/
import Derived.Test.YtndmcjkbbedoeaaEpMap
namespace Go.Proofs.Ytndmcjkbbedoeaa
open Go.RowKit
set_option linter.unusedVariables false
set_option maxRecDepth 100000

abbrev numb (i : Nat) : Rt := ⟨(i : Int), 0, 0⟩
def cAt (c : List Int) (s : Nat) : Int := c.getD s 0

theorem cAt_set (c : List Int) (k s : Nat) (x : Int) (hk : k < c.length) : cAt (c.set k x) s = if s = k then x else cAt c s := getD_set c k s x 0 hk

/-- c: how often each session was pinned, below 0: it is not pinned now; f: of each thing what c was when it was retired. -/
structure Iv (e : Ep) (c : List Int) (f : Nat → Option (List Int)) (j : Nat) : Prop where
  p17 : e.pins.length = 17
  n1 : 1 ≤ e.now
  ple : ∀ s, e.pin s ≤ e.now
  cl : c.length = 17
  pos : ∀ s, s < 17 → (e.pin s ≠ 0 ↔ 0 < cAt c s)
  bd : ∀ s, s < 17 → (cAt c s).natAbs ≤ j
  form : ∀ x ∈ e.old ++ e.cur, ∃ i : Nat, i < j ∧ x = numb i
  nodup : (e.old ++ e.cur).Nodup
  iff : ∀ i : Nat, (f i).isSome = true ↔ numb i ∈ e.old ++ e.cur
  len : ∀ i y, f i = some y → y.length = 17 ∧ ∀ s, s < 17 → (cAt y s).natAbs ≤ (cAt c s).natAbs
  oldp : ∀ i y, f i = some y → numb i ∈ e.old → ∀ s, s < 17 → 0 < cAt y s → cAt c s = cAt y s → e.pin s ≠ 0 ∧ e.pin s < e.now

theorem Iv.up {e : Ep} {c : List Int} {f : Nat → Option (List Int)} {j k : Nat} (h : Iv e c f j) (hk : j ≤ k) : Iv e c f k :=
  { h with
    bd := fun s hs => by have := h.bd s hs; omega
    form := fun x hx => by
      obtain ⟨i, hi, e⟩ := h.form x hx
      exact ⟨i, by omega, e⟩ }

theorem Iv.fresh : Iv Ep.fresh (List.replicate 17 0) (fun _ => none) 0 where
  p17 := rfl
  n1 := Nat.le_refl _
  ple := fun s => by
    have : Ep.fresh.pin s = 0 := by
      unfold Ep.pin Ep.fresh
      rw [List.getD, List.getElem?_replicate]
      split <;> rfl
    rw [this]
    exact Nat.zero_le _
  cl := rfl
  pos := fun s hs => by
    have h1 : Ep.fresh.pin s = 0 := by
      unfold Ep.pin Ep.fresh
      rw [List.getD, List.getElem?_replicate]
      split <;> rfl
    have h2 : cAt (List.replicate 17 0) s = 0 := by
      unfold cAt
      rw [List.getD, List.getElem?_replicate]
      split <;> rfl
    rw [h1, h2]
    simp
  bd := fun s hs => by
    have h2 : cAt (List.replicate 17 0) s = 0 := by
      unfold cAt
      rw [List.getD, List.getElem?_replicate]
      split <;> rfl
    rw [h2]
    simp
  form := fun x hx => by simp [Ep.fresh] at hx
  nodup := by simp [Ep.fresh]
  iff := fun i => by simp [Ep.fresh]
  len := fun i y h => by cases h
  oldp := fun i y h => by cases h

/-- A session is pinned. -/
theorem Iv.pin {e : Ep} {c : List Int} {f : Nat → Option (List Int)} {j s : Nat} (h : Iv e c f j) (hs : s < 17) (hp : e.pin s = 0) : cAt c s ≤ 0 ∧ Iv (e.setPin s e.now) (c.set s (-cAt c s + 1)) f (j + 1) := by
  have h17 := h.p17
  have hcl := h.cl
  have hc : ¬ 0 < cAt c s := fun hh => ((h.pos s hs).2 hh) hp
  have hP := fun t => Ep.pin_set e s e.now t (by omega)
  have hC := fun t => cAt_set c s t (-cAt c s + 1) (by omega)
  have hn := h.n1
  refine ⟨by omega, ?_⟩
  exact {
    p17 := by simp [Ep.setPin, h17]
    n1 := hn
    ple := fun t => by
      rw [hP t]
      show _ ≤ e.now
      split
      · exact Nat.le_refl _
      · exact h.ple t
    cl := by simp [hcl]
    pos := fun t ht => by
      rw [hP t, hC t]
      by_cases hts : t = s
      · rw [if_pos hts, if_pos hts]
        constructor
        · intro _
          omega
        · intro _
          omega
      · rw [if_neg hts, if_neg hts]
        exact h.pos t ht
    bd := fun t ht => by
      rw [hC t]
      by_cases hts : t = s
      · rw [if_pos hts]
        have := h.bd s hs
        omega
      · rw [if_neg hts]
        have := h.bd t ht
        omega
    form := fun x hx => by
      obtain ⟨i, hi, e⟩ := h.form x hx
      exact ⟨i, by omega, e⟩
    nodup := h.nodup
    iff := h.iff
    len := fun i y hy => by
      refine ⟨(h.len i y hy).1, fun t ht => ?_⟩
      have := (h.len i y hy).2 t ht
      rw [hC t]
      by_cases hts : t = s
      · rw [if_pos hts]
        subst hts
        omega
      · rw [if_neg hts]
        exact this
    oldp := fun i y hy ho t ht h1 h2 => by
      rw [hC t] at h2
      rw [hP t]
      by_cases hts : t = s
      · rw [if_pos hts] at h2
        have := (h.len i y hy).2 t ht
        subst hts
        omega
      · rw [if_neg hts] at h2 ⊢
        exact h.oldp i y hy ho t ht h1 h2 }

/-- .. and let go. -/
theorem Iv.unpin {e : Ep} {c : List Int} {f : Nat → Option (List Int)} {j s : Nat} (h : Iv e c f j) (hs : s < 17) (hp : e.pin s ≠ 0) : 0 < cAt c s ∧ Iv (e.setPin s 0) (c.set s (-cAt c s)) f j := by
  have h17 := h.p17
  have hcl := h.cl
  have hc : 0 < cAt c s := (h.pos s hs).1 hp
  have hP := fun t => Ep.pin_set e s 0 t (by omega)
  have hC := fun t => cAt_set c s t (-cAt c s) (by omega)
  refine ⟨hc, ?_⟩
  exact {
    p17 := by simp [Ep.setPin, h17]
    n1 := h.n1
    ple := fun t => by
      rw [hP t]
      show _ ≤ e.now
      split
      · exact Nat.zero_le _
      · exact h.ple t
    cl := by simp [hcl]
    pos := fun t ht => by
      rw [hP t, hC t]
      by_cases hts : t = s
      · rw [if_pos hts, if_pos hts]
        constructor
        · intro h0
          exact absurd rfl h0
        · intro h0
          omega
      · rw [if_neg hts, if_neg hts]
        exact h.pos t ht
    bd := fun t ht => by
      rw [hC t]
      by_cases hts : t = s
      · rw [if_pos hts]
        have := h.bd s hs
        omega
      · rw [if_neg hts]
        exact h.bd t ht
    form := h.form
    nodup := h.nodup
    iff := h.iff
    len := fun i y hy => by
      refine ⟨(h.len i y hy).1, fun t ht => ?_⟩
      have := (h.len i y hy).2 t ht
      rw [hC t]
      by_cases hts : t = s
      · rw [if_pos hts]
        subst hts
        omega
      · rw [if_neg hts]
        exact this
    oldp := fun i y hy ho t ht h1 h2 => by
      rw [hC t] at h2
      rw [hP t]
      by_cases hts : t = s
      · rw [if_pos hts] at h2
        omega
      · rw [if_neg hts] at h2 ⊢
        exact h.oldp i y hy ho t ht h1 h2 }

theorem Ep.setPin_same {e : Ep} {s : Nat} (hp : e.pin s = 0) (hs : s < e.pins.length) : e.setPin s 0 = e := by
  unfold Ep.setPin
  have h1 : e.pins[s] = 0 := by
    unfold Ep.pin at hp
    rw [List.getD, List.getElem?_eq_getElem hs] at hp
    exact hp
  have h2 : e.pins.set s 0 = e.pins := by
    conv => lhs; rw [← h1]
    exact List.set_getElem_self hs
  rw [h2]

/-- Something is retired. -/
theorem Iv.retire {e : Ep} {c : List Int} {f : Nat → Option (List Int)} {j : Nat} (h : Iv e c f j) : Iv (e.retire (numb j)) c (upd f j c) (j + 1) := by
  have hnew : numb j ∉ e.old ++ e.cur := fun hm => by
    obtain ⟨i, hi, he⟩ := h.form _ hm
    simp only [Rt.mk.injEq] at he
    omega
  have hl : (e.retire (numb j)).old ++ (e.retire (numb j)).cur = (e.old ++ e.cur) ++ [numb j] := by
    show e.old ++ (e.cur ++ [numb j]) = _
    simp
  exact {
    p17 := h.p17
    n1 := h.n1
    ple := h.ple
    cl := h.cl
    pos := h.pos
    bd := fun s hs => by have := h.bd s hs; omega
    form := fun x hx => by
      rw [hl] at hx
      rcases List.mem_append.1 hx with hx | hx
      · obtain ⟨i, hi, e⟩ := h.form x hx
        exact ⟨i, by omega, e⟩
      · simp only [List.mem_cons, List.not_mem_nil, or_false] at hx
        exact ⟨j, by omega, hx⟩
    nodup := by
      rw [hl, List.nodup_append]
      refine ⟨h.nodup, by simp, fun a ha b hb => ?_⟩
      simp only [List.mem_cons, List.not_mem_nil, or_false] at hb
      subst hb
      intro e
      subst e
      exact hnew ha
    iff := fun i => by
      rw [hl]
      unfold upd
      by_cases hij : i = j
      · rw [if_pos hij]
        subst hij
        simp
      · rw [if_neg hij, h.iff i]
        simp only [List.mem_append, List.mem_cons, List.not_mem_nil, or_false, Rt.mk.injEq]
        constructor
        · intro h
          exact .inl h
        · rintro (h | h)
          · exact h
          · omega
    len := fun i y hy => by
      unfold upd at hy
      by_cases hij : i = j
      · rw [if_pos hij] at hy
        cases hy
        exact ⟨h.cl, fun s _ => Nat.le_refl _⟩
      · rw [if_neg hij] at hy
        exact h.len i y hy
    oldp := fun i y hy ho => by
      unfold upd at hy
      by_cases hij : i = j
      · subst hij
        exact absurd (List.mem_append.2 (.inl ho)) hnew
      · rw [if_neg hij] at hy
        exact h.oldp i y hy ho }

def Rt.dec (x y : Rt) : Decidable (x = y) :=
  if h : x.k = y.k ∧ x.s = y.s ∧ x.g = y.g then isTrue (by cases x; cases y; simp_all) else isFalse (fun e => h (by rw [e]; exact ⟨rfl, rfl, rfl⟩))

def Rt.mem (x : Rt) (l : List Rt) : Decidable (x ∈ l) := haveI : DecidableEq Rt := Rt.dec; inferInstance

/-- f without those of a list. -/
def ridL (f : Nat → Option (List Int)) (l : List Rt) : Nat → Option (List Int) := fun i => @ite _ (numb i ∈ l) (Rt.mem (numb i) l) none (f i)

theorem ridL_snoc (f : Nat → Option (List Int)) (l : List Rt) (k : Nat) : ridL f (l ++ [numb k]) = rid (ridL f l) k := by
  funext i
  unfold ridL rid
  by_cases hik : i = k
  · subst hik
    simp
  · rw [if_neg hik]
    have : numb i ∈ l ++ [numb k] ↔ numb i ∈ l := by
      simp only [List.mem_append, List.mem_cons, List.not_mem_nil, or_false, Rt.mk.injEq]
      constructor
      · rintro (h | h)
        · exact h
        · omega
      · exact .inl
    by_cases h : numb i ∈ l
    · rw [if_pos (this.2 h)]
      show none = @ite _ (numb i ∈ l) (Rt.mem (numb i) l) none (f i)
      rw [if_pos h]
    · rw [if_neg (fun hh => h (this.1 hh))]
      show f i = @ite _ (numb i ∈ l) (Rt.mem (numb i) l) none (f i)
      rw [if_neg h]

theorem ridL_nil (f : Nat → Option (List Int)) : ridL f [] = f := by
  funext i
  simp [ridL]

/-- What is answered: nobody reaches it. -/
theorem Iv.safe {e : Ep} {c : List Int} {f : Nat → Option (List Int)} {j m : Nat} (h : Iv e c f j) (hh : e.held = false) (hm : m < e.old.length) :
    ∃ k y, k < j ∧ rtAt e.old m = numb k ∧ ridL f (e.old.take m) k = some y ∧ y.length = 17 ∧ ∀ s, s < 17 → 0 < cAt y s → cAt c s ≠ cAt y s := by
  have hx : e.old[m]? = some (rtAt e.old m) := rtAt_mem hm
  have hmem : rtAt e.old m ∈ e.old := List.mem_of_getElem? hx
  obtain ⟨k, hk, hek⟩ := h.form _ (List.mem_append.2 (.inl hmem))
  rw [hek] at hmem hx
  have hs : (f k).isSome = true := (h.iff k).2 (List.mem_append.2 (.inl hmem))
  obtain ⟨y, hy⟩ := Option.isSome_iff_exists.1 hs
  have hnt : numb k ∉ e.old.take m := fun ht => by
    have hnd : e.old.Nodup := (List.nodup_append.1 h.nodup).1
    obtain ⟨i, hi, he⟩ := List.mem_iff_getElem.1 ht
    simp only [List.length_take] at hi
    rw [List.getElem_take] at he
    have hm2 : e.old[m] = numb k := by
      rw [List.getElem?_eq_getElem hm] at hx
      simpa using hx
    have := (List.getElem_inj (h₀ := by omega) (h₁ := hm) hnd).1 (he.trans hm2.symm)
    omega
  refine ⟨k, y, hk, hek, ?_, (h.len k y hy).1, fun s hs h1 h2 => ?_⟩
  · unfold ridL
    rw [if_neg hnt]
    exact hy
  · obtain ⟨h3, h4⟩ := h.oldp k y hy hmem s hs h1 h2
    have : e.held = true := (Ep.held_iff h.p17).2 ⟨s, hs, h3, h4⟩
    rw [hh] at this
    cases this

/-- The next epoch. -/
theorem Iv.next {e : Ep} {c : List Int} {f : Nat → Option (List Int)} {j : Nat} (h : Iv e c f j) : Iv e.next c (ridL f e.old) j := by
  have hnd := List.nodup_append.1 h.nodup
  have hl : e.next.old ++ e.next.cur = e.cur := by show e.cur ++ [] = e.cur; simp
  exact {
    p17 := h.p17
    n1 := by show 1 ≤ e.now + 1; omega
    ple := fun s => Nat.le_succ_of_le (h.ple s)
    cl := h.cl
    pos := h.pos
    bd := h.bd
    form := fun x hx => by
      rw [hl] at hx
      exact h.form x (List.mem_append.2 (.inr hx))
    nodup := by
      rw [hl]
      exact hnd.2.1
    iff := fun i => by
      rw [hl]
      unfold ridL
      by_cases ho : numb i ∈ e.old
      · rw [if_pos ho]
        constructor
        · intro hx
          cases hx
        · intro hc
          exact absurd rfl (hnd.2.2 _ ho _ hc)
      · rw [if_neg ho, h.iff i, List.mem_append]
        constructor
        · rintro (h | h)
          · exact absurd h ho
          · exact h
        · exact .inr
    len := fun i y hy => by
      unfold ridL at hy
      split at hy
      · cases hy
      · exact h.len i y hy
    oldp := fun i y hy ho s hs h1 h2 => by
      have hp : e.pin s ≠ 0 := (h.pos s hs).2 (by omega)
      refine ⟨hp, ?_⟩
      show e.pin s < e.now + 1
      have := h.ple s
      omega }

/-- As many as wait. -/
theorem Iv.size {e : Ep} {c : List Int} {f : Nat → Option (List Int)} {j n : Nat} (h : Iv e c f j) (hj : j ≤ n) : (ents f n).length = e.old.length + e.cur.length := by
  have h1 : (ents f n).length = ((List.range n).filter fun i => (f i).isSome).length := by
    unfold ents
    induction List.range n with
    | nil => rfl
    | cons a l ih =>
      simp only [List.filterMap_cons, List.filter_cons]
      cases hf : f a with
      | none => simpa [hf] using ih
      | some x => simpa [hf] using ih
  have h2 : (((List.range n).filter fun i => (f i).isSome).map numb).Perm (e.old ++ e.cur) := by
    refine (List.perm_ext_iff_of_nodup ?_ h.nodup).2 fun x => ?_
    · refine List.Pairwise.map _ ?_ (List.Pairwise.filter _ List.nodup_range)
      intro a b hab he
      simp only [Rt.mk.injEq] at he
      omega
    · simp only [List.mem_map, List.mem_filter, List.mem_range]
      constructor
      · rintro ⟨i, ⟨hi, hs⟩, rfl⟩
        exact (h.iff i).1 hs
      · intro hx
        obtain ⟨i, hi, rfl⟩ := h.form x hx
        exact ⟨i, ⟨by omega, (h.iff i).2 hx⟩, rfl⟩
  rw [h1]
  have := h2.length_eq
  rw [List.length_map, List.length_append] at this
  exact this

end Go.Proofs.Ytndmcjkbbedoeaa
