/- Trees of greatest numbers (peaks), as plain data. -/
import Derived.Test.YtlcbideongbmeaaGreatMem
namespace Go.Proofs.YtlcbideongbmeaaGreat
set_option linter.unusedVariables false
set_option maxRecDepth 100000

namespace Pk
/-- The number at a place of a list. -/
def at' (t : List Int) (i : Nat) : Int := t.getD i 0

theorem at_set (t : List Int) (i k : Nat) (x : Int) (hi : i < t.length) : at' (t.set i x) k = if k = i then x else at' t k := by
  unfold at'
  by_cases h : k = i
  · subst h
    simp [List.getD, hi]
  · simp [List.getD, h, Ne.symm h]

theorem at_get {t : List Int} {i : Nat} (hi : i < t.length) : t[i]? = some (at' t i) := by
  simp [at', List.getD, hi]

def Ok (t : List Int) (m : Nat) : Prop := at' t m = max (at' t (2 * m)) (at' t (2 * m + 1))

/-- A tree whose lowest row has the numbers xs. -/
structure Is (t : List Int) (D : Nat) (xs : Nat → Int) : Prop where
  len : t.length = 2 * 2 ^ D
  ok : ∀ m, 1 ≤ m → m < 2 ^ D → Ok t m
  leaf : ∀ i, i < 2 ^ D → at' t (2 ^ D + i) = xs i

/-- What a node says of what lies below it. -/
theorem Is.le_iff {t : List Int} {D : Nat} {xs : Nat → Int} (h : Is t D xs) (a : Int) : ∀ k E j, E + k = D → j < 2 ^ E → (at' t (2 ^ E + j) ≤ a ↔ ∀ i, j * 2 ^ k ≤ i → i < (j + 1) * 2 ^ k → xs i ≤ a) := by
  intro k
  induction k with
  | zero =>
    intro E j hE hj
    have e : E = D := by omega
    subst e
    rw [h.leaf j hj]
    constructor
    · intro hle i h1 h2
      have : i = j := by simp at h1 h2; omega
      subst this
      exact hle
    · intro hall
      exact hall j (by simp) (by simp)
  | succ k ih =>
    intro E j hE hj
    have hp : 0 < 2 ^ E := Nat.pos_of_ne_zero (by simp)
    have hn : 2 ^ E + j < 2 ^ D := by
      have h1 : 2 ^ (E + 1) ≤ 2 ^ D := Nat.pow_le_pow_right (by decide) (by omega)
      rw [Nat.pow_succ] at h1
      omega
    have hok := h.ok (2 ^ E + j) (by omega) hn
    unfold Ok at hok
    have e1 : 2 * (2 ^ E + j) = 2 ^ (E + 1) + 2 * j := by rw [Nat.pow_succ]; omega
    have e2 : 2 * (2 ^ E + j) + 1 = 2 ^ (E + 1) + (2 * j + 1) := by rw [Nat.pow_succ]; omega
    rw [e2, e1] at hok
    have hj1 : 2 * j < 2 ^ (E + 1) := by rw [Nat.pow_succ]; omega
    have hj2 : 2 * j + 1 < 2 ^ (E + 1) := by rw [Nat.pow_succ]; omega
    have i1 := ih (E + 1) (2 * j) (by omega) hj1
    have i2 := ih (E + 1) (2 * j + 1) (by omega) hj2
    have m0 : j * 2 ^ (k + 1) = 2 * j * 2 ^ k := by rw [Nat.pow_succ, Nat.mul_comm (2 ^ k) 2, ← Nat.mul_assoc, Nat.mul_comm j 2]
    have m1 : (j + 1) * 2 ^ (k + 1) = (2 * j + 1 + 1) * 2 ^ k := by rw [Nat.pow_succ, Nat.mul_comm (2 ^ k) 2, ← Nat.mul_assoc]; congr 1; omega
    have m2 : 2 * j * 2 ^ k ≤ (2 * j + 1) * 2 ^ k := Nat.mul_le_mul_right _ (by omega)
    have m3 : (2 * j + 1) * 2 ^ k ≤ (2 * j + 1 + 1) * 2 ^ k := Nat.mul_le_mul_right _ (by omega)
    rw [m0, m1, hok]
    constructor
    · intro hle i h1 h2
      by_cases hc : i < (2 * j + 1) * 2 ^ k
      · exact i1.1 (by omega) i h1 hc
      · exact i2.1 (by omega) i (by omega) h2
    · intro hall
      have a1 := i1.2 fun i h1 h2 => hall i h1 (by omega)
      have a2 := i2.2 fun i h1 h2 => hall i (by omega) h2
      omega

/-- The first place from one on with a number above one. -/
structure Fst (xs : Nat → Int) (from' : Nat) (a : Int) (r : Nat) : Prop where
  ge : from' ≤ r
  gt : a < xs r
  le : ∀ i, from' ≤ i → i < r → xs i ≤ a

theorem Fst.one {xs : Nat → Int} {f : Nat} {a : Int} {r s : Nat} (h : Fst xs f a r) (k : Fst xs f a s) : r = s := by
  by_cases h1 : r < s
  · have := k.le r h.ge h1
    have := h.gt
    omega
  · by_cases h2 : s < r
    · have := h.le s k.ge h2
      have := k.gt
      omega
    · omega

/-- Where the search stands. -/
structure At (D : Nat) (xs : Nat → Int) (f P : Nat) (a : Int) (n E k j : Nat) : Prop where
  lev : E + k = D
  node : n = 2 ^ E + j
  lt : j < 2 ^ E
  ge : f ≤ j * 2 ^ k
  le : j * 2 ^ k ≤ P
  none : ∀ i, f ≤ i → i < j * 2 ^ k → xs i ≤ a

theorem At.start {D : Nat} {xs : Nat → Int} {f P : Nat} {a : Int} (hf : f ≤ P) (hP : P < 2 ^ D) : At D xs f P a (2 ^ D + f) D 0 f :=
  ⟨rfl, rfl, by omega, by simp, by simpa using hf, fun i h1 h2 => by simp at h2; omega⟩

theorem At.next {t : List Int} {D : Nat} {xs : Nat → Int} (h : Is t D xs) {f P : Nat} {a : Int} {n E k j : Nat} (hA : At D xs f P a n E k j) (hP : P < 2 ^ D) (hx : a < xs P) (hle : at' t n ≤ a) : At D xs f P a (n + 1) E k (j + 1) ∧ j * 2 ^ k < (j + 1) * 2 ^ k := by
  have hall := (h.le_iff a k E j hA.lev hA.lt).1 (by rw [← hA.node]; exact hle)
  have hp : 0 < 2 ^ k := Nat.pos_of_ne_zero (by simp)
  have e : (j + 1) * 2 ^ k = j * 2 ^ k + 2 ^ k := Nat.succ_mul _ _
  have hPn : (j + 1) * 2 ^ k ≤ P := by
    by_cases hc : (j + 1) * 2 ^ k ≤ P
    · exact hc
    · have := hall P hA.le (by omega)
      omega
  have hDk : 2 ^ D = 2 ^ E * 2 ^ k := by rw [← Nat.pow_add, hA.lev]
  have hj : j + 1 < 2 ^ E := by
    have : (j + 1) * 2 ^ k < 2 ^ E * 2 ^ k := by omega
    exact Nat.lt_of_mul_lt_mul_right this
  refine ⟨⟨hA.lev, by rw [hA.node]; omega, hj, by have := hA.ge; omega, hPn, fun i h1 h2 => ?_⟩, by omega⟩
  by_cases hc : i < j * 2 ^ k
  · exact hA.none i h1 hc
  · exact hall i (by omega) h2

theorem At.up {D : Nat} {xs : Nat → Int} {f P : Nat} {a : Int} {n E k j : Nat} (hA : At D xs f P a n E k j) (he : n % 2 = 0) : ∃ E' j', At D xs f P a (n / 2) E' (k + 1) j' ∧ j' * 2 ^ (k + 1) = j * 2 ^ k := by
  cases E with
  | zero =>
    have h1 := hA.lt
    have h2 := hA.node
    simp at h1 h2
    omega
  | succ E =>
    have h2 := hA.node
    have h1 := hA.lt
    rw [Nat.pow_succ] at h1 h2
    have hj : j = 2 * (j / 2) := by omega
    have m0 : j / 2 * 2 ^ (k + 1) = j * 2 ^ k := by
      rw [Nat.pow_succ, Nat.mul_comm (2 ^ k) 2, ← Nat.mul_assoc, Nat.mul_comm (j / 2) 2, ← hj]
    refine ⟨E, j / 2, ⟨by have := hA.lev; omega, by omega, by omega, by rw [m0]; exact hA.ge, by rw [m0]; exact hA.le, by rw [m0]; exact hA.none⟩, m0⟩

/-- One step down. -/
theorem At.down {t : List Int} {D : Nat} {xs : Nat → Int} (h : Is t D xs) {f P : Nat} {a : Int} {n E k j : Nat} (hA : At D xs f P a n E (k + 1) j) (hP : P < 2 ^ D) (hx : a < xs P) (hgt : a < at' t n) :
    (a < at' t (2 * n) → At D xs f P a (2 * n) (E + 1) k (2 * j)) ∧ (at' t (2 * n) ≤ a → At D xs f P a (2 * n + 1) (E + 1) k (2 * j + 1) ∧ a < at' t (2 * n + 1)) := by
  have m0 : 2 * j * 2 ^ k = j * 2 ^ (k + 1) := by rw [Nat.pow_succ, Nat.mul_comm (2 ^ k) 2, ← Nat.mul_assoc, Nat.mul_comm j 2]
  have hp : 0 < 2 ^ E := Nat.pos_of_ne_zero (by simp)
  have hlt := hA.lt
  have hn := hA.node
  have hnD : n < 2 ^ D := by
    have h1 : 2 ^ (E + 1) ≤ 2 ^ D := Nat.pow_le_pow_right (by decide) (by have := hA.lev; omega)
    rw [Nat.pow_succ] at h1
    omega
  have hok := h.ok n (by omega) hnD
  unfold Ok at hok
  have base : At D xs f P a (2 * n) (E + 1) k (2 * j) := ⟨by have := hA.lev; omega, by rw [Nat.pow_succ]; omega, by rw [Nat.pow_succ]; omega, by rw [m0]; exact hA.ge, by rw [m0]; exact hA.le, by rw [m0]; exact hA.none⟩
  refine ⟨fun _ => base, fun hle => ?_⟩
  refine ⟨(base.next h hP hx hle).1, by omega⟩

theorem At.done {D : Nat} {xs : Nat → Int} {t : List Int} (h : Is t D xs) {f P : Nat} {a : Int} {n E k j : Nat} (hA : At D xs f P a n E k j) (hn : 2 ^ D ≤ n) (hgt : a < at' t n) : k = 0 ∧ n = 2 ^ D + j ∧ Fst xs f a j ∧ j ≤ P := by
  have hk : k = 0 := by
    cases k with
    | zero => rfl
    | succ k =>
      have h1 : 2 ^ (E + 1) ≤ 2 ^ D := Nat.pow_le_pow_right (by decide) (by have := hA.lev; omega)
      rw [Nat.pow_succ] at h1
      have := hA.lt
      have := hA.node
      omega
  subst hk
  have hE : E = D := by have := hA.lev; omega
  subst hE
  have h1 := hA.ge
  have h2 := hA.le
  have h3 := hA.none
  simp only [Nat.pow_zero, Nat.mul_one] at h1 h2 h3
  refine ⟨rfl, hA.node, ⟨h1, ?_, h3⟩, h2⟩
  rw [← h.leaf j hA.lt, ← hA.node]
  exact hgt

theorem At.small {D : Nat} {xs : Nat → Int} {f P : Nat} {a : Int} {n E k j : Nat} (hA : At D xs f P a n E k j) : 1 ≤ n ∧ n < 2 * 2 ^ D := by
  have hp : 0 < 2 ^ E := Nat.pos_of_ne_zero (by simp)
  have h1 : 2 ^ E ≤ 2 ^ D := Nat.pow_le_pow_right (by decide) (by have := hA.lev; omega)
  have := hA.lt
  have := hA.node
  omega

/-- One number changed. -/
def upd (xs : Nat → Int) (i : Nat) (x : Int) : Nat → Int := fun k => if k = i then x else xs k

/-- A tree whose nodes above n are still to be reckoned. -/
structure Half (t : List Int) (D : Nat) (xs : Nat → Int) (n : Nat) : Prop where
  len : t.length = 2 * 2 ^ D
  ge : 1 ≤ n
  lt : n < 2 * 2 ^ D
  ok : ∀ m, 1 ≤ m → m < 2 ^ D → (∀ j, n / 2 ^ (j + 1) ≠ m) → Ok t m
  leaf : ∀ i, i < 2 ^ D → at' t (2 ^ D + i) = xs i

theorem Half.start {t : List Int} {D : Nat} {xs : Nat → Int} (h : Is t D xs) {i : Nat} (hi : i < 2 ^ D) (x : Int) : Half (t.set (2 ^ D + i) x) D (upd xs i x) (2 ^ D + i) := by
  have hl : 2 ^ D + i < t.length := by rw [h.len]; omega
  refine ⟨by rw [List.length_set]; exact h.len, by have : 0 < 2 ^ D := Nat.pos_of_ne_zero (by simp); omega, by omega, fun m h1 h2 hm => ?_, fun q hq => ?_⟩
  · have hne : 2 * m ≠ 2 ^ D + i ∧ 2 * m + 1 ≠ 2 ^ D + i := by
      have := hm 0
      simp only [Nat.zero_add, Nat.pow_one] at this
      omega
    unfold Ok
    rw [at_set _ _ _ _ hl, at_set _ _ _ _ hl, at_set _ _ _ _ hl, if_neg (by omega), if_neg hne.1, if_neg hne.2]
    exact h.ok m h1 h2
  · rw [at_set _ _ _ _ hl]
    unfold upd
    by_cases hc : q = i
    · subst hc; simp
    · rw [if_neg (by omega), if_neg hc]
      exact h.leaf q hq

theorem Half.step {t : List Int} {D : Nat} {xs : Nat → Int} {n : Nat} (h : Half t D xs n) (hn : 1 < n) : Half (t.set (n / 2) (max (at' t (2 * (n / 2))) (at' t (2 * (n / 2) + 1)))) D xs (n / 2) := by
  have hlt := h.lt
  have hl : n / 2 < t.length := by rw [h.len]; omega
  refine ⟨by rw [List.length_set]; exact h.len, by omega, by omega, fun m h1 h2 hm => ?_, fun q hq => ?_⟩
  · have hne : 2 * m ≠ n / 2 ∧ 2 * m + 1 ≠ n / 2 := by
      have := hm 0
      simp only [Nat.zero_add, Nat.pow_one] at this
      omega
    unfold Ok
    rw [at_set _ _ _ _ hl, at_set _ _ _ _ hl, at_set _ _ _ _ hl, if_neg hne.1, if_neg hne.2]
    by_cases hc : m = n / 2
    · rw [if_pos hc, hc]
    · rw [if_neg hc]
      refine h.ok m h1 h2 fun j => ?_
      cases j with
      | zero => simp only [Nat.zero_add, Nat.pow_one]; omega
      | succ j =>
        have := hm j
        rw [Nat.div_div_eq_div_mul] at this
        rw [Nat.pow_succ 2 (j + 1), Nat.mul_comm]
        exact this
  · rw [at_set _ _ _ _ hl, if_neg (by omega)]
    exact h.leaf q hq

theorem Half.done {t : List Int} {D : Nat} {xs : Nat → Int} (h : Half t D xs 1) : Is t D xs :=
  ⟨h.len, fun m h1 h2 => h.ok m h1 h2 fun j => by
    have : 1 / 2 ^ (j + 1) = 0 := Nat.div_eq_of_lt (Nat.one_lt_two_pow (by omega))
    omega, h.leaf⟩

theorem Is.zero (D : Nat) : Is (List.replicate (2 * 2 ^ D) 0) D fun _ => 0 := by
  have h0 : ∀ i, at' (List.replicate (2 * 2 ^ D) 0) i = 0 := by
    intro i
    unfold at'
    rw [List.getD_eq_getElem?_getD, List.getElem?_replicate]
    split <;> rfl
  refine ⟨by simp, fun m _ _ => ?_, fun i _ => h0 _⟩
  unfold Ok
  rw [h0, h0, h0]
  rfl
end Pk
end Go.Proofs.YtlcbideongbmeaaGreat
