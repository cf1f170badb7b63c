/- What a union has. -/
import Derived.Test.YtgppnbcneknpdaaKyAr
import Derived.Test.YtgppnbcneknpdaaKyCov
namespace Go.Proofs.Ytgppnbcneknpdaa
open Go.RowKit
set_option linter.unusedVariables false
set_option maxRecDepth 100000
namespace Ky

/-- Two ranges that touch or overlap, the first not behind the other, as one. -/
theorem inn_join (q x : Rg) (k : ByteArray) (hq : emp q = false) (hx : emp x = false) (ho : lt x.lo q.lo = false) (ha : apart q x = false) :
    (inn q k || inn x k) = inn (if 0 < ends x.hi q.hi then ⟨q.lo, x.hi⟩ else q) k := by
  obtain ⟨ql, qh⟩ := q
  obtain ⟨xl, xh⟩ := x
  have he := ends_le xh qh
  obtain ⟨r, h0, h1, h2⟩ := ranks [ql, qh, xl, xh, k]
  simp only [List.forall_mem_cons, List.not_mem_nil, false_imp_iff, implies_true, and_true] at h1 h2
  have hc : (0 < ends xh qh) ↔ ¬ (ends xh qh ≤ 0) := by omega
  have hd : (ends xh qh ≤ 0) ↔ (r qh = 0 ∨ (r xh ≠ 0 ∧ ¬ r qh < r xh)) := by
    rw [← decide_eq_true_iff (p := ends xh qh ≤ 0), he]
    simp only [nil_eq, h1, h2]
    simp
  show (inn ⟨ql, qh⟩ k || inn ⟨xl, xh⟩ k) = inn (if 0 < ends xh qh then ⟨ql, xh⟩ else ⟨ql, qh⟩) k
  unfold emp below at hq hx
  unfold apart at ha
  simp only [nil_eq] at hq hx ha
  simp only [h1, h2] at hq hx ha ho
  simp at hq hx ha ho
  rw [Bool.eq_iff_iff]
  by_cases c : 0 < ends xh qh
  · rw [if_pos c]
    have hd' : ¬ (r qh = 0 ∨ (r xh ≠ 0 ∧ ¬ r qh < r xh)) := fun h => (hc.1 c) (hd.2 h)
    unfold inn below
    simp only [nil_eq, h1, h2]
    simp
    omega
  · rw [if_neg c]
    have hd' : (r qh = 0 ∨ (r xh ≠ 0 ∧ ¬ r qh < r xh)) := hd.1 (by omega)
    unfold inn below
    simp only [nil_eq, h1, h2]
    simp
    omega

theorem emp_join (q x : Rg) (hq : emp q = false) (hx : emp x = false) (ho : lt x.lo q.lo = false) (hc : 0 < ends x.hi q.hi) : emp ⟨q.lo, x.hi⟩ = false := by
  obtain ⟨ql, qh⟩ := q
  obtain ⟨xl, xh⟩ := x
  obtain ⟨r, h0, h1, h2⟩ := ranks [ql, qh, xl, xh]
  simp only [List.forall_mem_cons, List.not_mem_nil, false_imp_iff, implies_true, and_true] at h1 h2
  unfold emp below at hq hx ⊢
  simp only [nil_eq] at hq hx ⊢
  simp only [h1, h2] at hq hx ho ⊢
  simp at hq hx ho ⊢
  omega

/-- What a union is while it is made: nothing is empty, each one is apart from the next, none begins behind what comes. -/
structure Un (out : List Rg) : Prop where
  full : ∀ x ∈ out, emp x = false
  part : ∀ (i : Nat) x y, out[i]? = some x → out[i + 1]? = some y → apart x y = true

theorem step_some {out : List Rg} {q : Rg} (h : out.getLast? = some q) (r : Rg) : step out r = if apart q r then out ++ [r] else if 0 < ends r.hi q.hi then out.set (out.length - 1) ⟨q.lo, r.hi⟩ else out := by
  unfold step
  rw [h]

theorem last_split {out : List Rg} {q : Rg} (h : out.getLast? = some q) : ∃ ini, out = ini ++ [q] := by
  have hne : out ≠ [] := by rintro rfl; simp at h
  refine ⟨out.dropLast, ?_⟩
  have := List.dropLast_concat_getLast hne
  rw [List.getLast?_eq_some_getLast hne] at h
  rw [← Option.some.inj h]
  exact this.symm

theorem set_last (ini : List Rg) (q z : Rg) : (ini ++ [q]).set ((ini ++ [q]).length - 1) z = ini ++ [z] := by
  rw [List.length_append, List.length_singleton, Nat.add_sub_cancel, List.set_append_right _ _ (Nat.le_refl _)]
  simp

theorem hits_step {out : List Rg} {r : Rg} (hu : ∀ x ∈ out, emp x = false) (hr : emp r = false) (ho : ∀ q, out.getLast? = some q → lt r.lo q.lo = false) (k : ByteArray) : hits (step out r) k = (hits out k || inn r k) := by
  cases h : out.getLast? with
  | none =>
    have : out = [] := List.getLast?_eq_none_iff.1 h
    subst this
    simp [step, hits]
  | some q =>
    rw [step_some h]
    obtain ⟨ini, rfl⟩ := last_split h
    have hq := hu q (by simp)
    cases ha : apart q r with
    | true =>
      rw [if_pos rfl]
      simp [hits, Bool.or_assoc]
    | false =>
      have hj := inn_join q r k hq hr (ho q h) ha
      simp only [Bool.false_eq_true, if_false]
      by_cases c : 0 < ends r.hi q.hi
      · rw [if_pos c] at hj ⊢
        rw [set_last]
        simp only [hits, List.any_append, List.any_cons, List.any_nil, Bool.or_false]
        rw [← hj, Bool.or_assoc]
      · rw [if_neg c] at hj ⊢
        simp only [hits, List.any_append, List.any_cons, List.any_nil, Bool.or_false]
        rw [Bool.or_assoc, hj]

theorem get_last {ini : List Rg} {q : Rg} : (ini ++ [q])[ini.length]? = some q := by simp

theorem Un.step {out : List Rg} {r : Rg} (hu : Un out) (hr : emp r = false) (ho : ∀ q, out.getLast? = some q → lt r.lo q.lo = false) : Un (step out r) := by
  cases h : out.getLast? with
  | none =>
    have : out = [] := List.getLast?_eq_none_iff.1 h
    subst this
    refine ⟨by simp [Ky.step, hr], fun i x y h1 h2 => ?_⟩
    simp [Ky.step] at h2
  | some q =>
    rw [step_some h]
    obtain ⟨ini, rfl⟩ := last_split h
    have hq := hu.full q (by simp)
    cases ha : apart q r with
    | true =>
      rw [if_pos rfl]
      refine ⟨?_, fun i x y h1 h2 => ?_⟩
      · intro x hx
        rcases List.mem_append.1 hx with hx | hx
        · exact hu.full x hx
        · simp at hx
          subst hx
          exact hr
      · by_cases e : i + 1 < (ini ++ [q]).length
        · rw [List.getElem?_append_left (by omega)] at h1
          rw [List.getElem?_append_left e] at h2
          exact hu.part i x y h1 h2
        · have hl : (ini ++ [q] ++ [r]).length = ini.length + 2 := by simp
          have h2l := (List.getElem?_eq_some_iff.1 h2).1
          have hi : i = ini.length := by simp at e; omega
          subst hi
          rw [List.getElem?_append_left (by simp), get_last] at h1
          have e2 : (ini ++ [q] ++ [r])[ini.length + 1]? = some r := by
            rw [List.getElem?_append_right (by simp)]
            simp
          rw [e2] at h2
          obtain rfl := Option.some.inj h1
          obtain rfl := Option.some.inj h2
          exact ha
    | false =>
      simp only [Bool.false_eq_true, if_false]
      by_cases c : 0 < ends r.hi q.hi
      · rw [if_pos c, set_last]
        refine ⟨?_, fun i x y h1 h2 => ?_⟩
        · intro x hx
          rcases List.mem_append.1 hx with hx | hx
          · exact hu.full x (by simp [hx])
          · simp at hx
            subst hx
            exact emp_join q r hq hr (ho q h) c
        · by_cases e : i + 1 < ini.length
          · rw [List.getElem?_append_left (by omega)] at h1
            rw [List.getElem?_append_left e] at h2
            exact hu.part i x y (by rw [List.getElem?_append_left (by omega)]; exact h1) (by rw [List.getElem?_append_left e]; exact h2)
          · have h2l := (List.getElem?_eq_some_iff.1 h2).1
            have hi : i + 1 = ini.length := by simp at h2l; omega
            rw [hi, get_last] at h2
            obtain rfl := Option.some.inj h2
            rw [List.getElem?_append_left (by omega)] at h1
            have := hu.part i x q (by rw [List.getElem?_append_left (by omega)]; exact h1) (by rw [hi]; exact get_last)
            exact this
      · rw [if_neg c]
        exact hu

theorem last_step {out : List Rg} {r q' : Rg} (h : (step out r).getLast? = some q') : q'.lo = r.lo ∨ ∃ q, out.getLast? = some q ∧ q'.lo = q.lo := by
  cases h0 : out.getLast? with
  | none =>
    have : out = [] := List.getLast?_eq_none_iff.1 h0
    subst this
    simp [step] at h
    subst h
    exact .inl rfl
  | some q =>
    rw [step_some h0] at h
    obtain ⟨ini, rfl⟩ := last_split h0
    split at h
    · simp at h
      subst h
      exact .inl rfl
    · split at h
      · rw [set_last] at h
        simp at h
        subst h
        exact .inr ⟨q, rfl, rfl⟩
      · rw [h0] at h
        obtain rfl := Option.some.inj h
        exact .inr ⟨q, rfl, rfl⟩

theorem fold_un : ∀ (rest out : List Rg), Un out → (∀ q, out.getLast? = some q → ∀ x ∈ rest, lt x.lo q.lo = false) → rest.Pairwise (fun x y => lt y.lo x.lo = false) → (∀ x ∈ rest, emp x = false) →
    Un (rest.foldl step out) ∧ ∀ k, hits (rest.foldl step out) k = (hits out k || rest.any fun x => inn x k)
  | [], out, hu, _, _, _ => ⟨hu, fun k => by simp⟩
  | x :: t, out, hu, ho, hp, hf => by
    rw [List.pairwise_cons] at hp
    have hx := hf x (by simp)
    have hox : ∀ q, out.getLast? = some q → lt x.lo q.lo = false := fun q hq => ho q hq x (by simp)
    obtain ⟨h1, h2⟩ := fold_un t (step out x) (hu.step hx hox) (fun q' hq' y hy => by
      rcases last_step hq' with e | ⟨q, hq, e⟩
      · rw [e]; exact hp.1 y hy
      · rw [e]; exact ho q hq y (by simp [hy])) hp.2 (fun y hy => hf y (by simp [hy]))
    refine ⟨h1, fun k => ?_⟩
    rw [List.foldl_cons, h2 k, hits_step hu.full hx hox, List.any_cons, Bool.or_assoc]

theorem Sorted.pair {l : List Rg} (h : Sorted l) : l.Pairwise (fun x y => lt y.lo x.lo = false) := by
  rw [List.pairwise_iff_getElem]
  intro i j hi hj hij
  exact h i j _ _ hij (List.getElem?_eq_getElem hi) (List.getElem?_eq_getElem hj)

theorem full_not (l : List Rg) : ∀ x ∈ full l, emp x = false := by
  intro x hx
  unfold full at hx
  rw [List.mem_filter] at hx
  simpa using hx.2

/-- A union's ranges are not empty and apart; it has what any of them has. -/
theorem uni_facts {l l' : List Rg} (hp : l'.Perm (full l)) (hs : Sorted l') : Un (uni l') ∧ ∀ k, hits (uni l') k = hits l k := by
  obtain ⟨h1, h2⟩ := fold_un l' [] ⟨by simp, by simp⟩ (by simp) hs.pair (fun x hx => full_not l x (hp.mem_iff.1 hx))
  refine ⟨h1, fun k => ?_⟩
  unfold uni
  rw [h2 k]
  simp only [hits, List.any_nil, Bool.false_or]
  rw [Bool.eq_iff_iff, List.any_eq_true, List.any_eq_true]
  constructor
  · rintro ⟨x, hx, hk⟩
    have := hp.mem_iff.1 hx
    unfold full at this
    exact ⟨x, (List.mem_filter.1 this).1, hk⟩
  · rintro ⟨x, hx, hk⟩
    refine ⟨x, hp.mem_iff.2 ?_, hk⟩
    unfold full
    rw [List.mem_filter]
    refine ⟨hx, ?_⟩
    cases e : emp x with
    | false => rfl
    | true => rw [emp_not e k] at hk; cases hk

end Ky
end Go.Proofs.Ytgppnbcneknpdaa
