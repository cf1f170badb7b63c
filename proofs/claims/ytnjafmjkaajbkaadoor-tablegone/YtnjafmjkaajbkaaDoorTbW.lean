/- The numbers of pages that wait, a bit each. -/
import Derived.Test.YtnjafmjkaajbkaaDoorTbA
import Derived.Laws.Bits64b
import Derived.Lib.TrailingZeros
namespace Go.Proofs.YtnjafmjkaajbkaaDoor
open Go.RowKit
set_option linter.unusedVariables false

/-- The bit of a number. -/
def bitAt (ws : List Nat) (p : Nat) : Bool := (ws.getD (p / 64) 0).testBit (p % 64)

/-- A word without a bit. -/
theorem andNot_bit (a b : Nat) (ha : a < 18446744073709551616) (hb : b < 64) : ∃ r : Nat, bits .andNot .u64 (a : Int) ((2 ^ b : Nat) : Int) = (r : Int) ∧ r < 18446744073709551616 ∧ ∀ j, r.testBit j = (a.testBit j && decide (j ≠ b)) := by
  have h1 : (BitVec.ofInt 64 (a : Int)).toNat = a := by
    rw [BitVec.ofInt_natCast, BitVec.toNat_ofNat]; exact Nat.mod_eq_of_lt (by omega)
  have hp : 2 ^ b < 2 ^ 64 := Nat.pow_lt_pow_right (by decide) hb
  have h2 : (BitVec.ofInt 64 ((2 ^ b : Nat) : Int)).toNat = 2 ^ b := by
    rw [BitVec.ofInt_natCast, BitVec.toNat_ofNat]; exact Nat.mod_eq_of_lt hp
  have h4 := (BitVec.ofInt 64 (a : Int) &&& ~~~ BitVec.ofInt 64 ((2 ^ b : Nat) : Int)).isLt
  refine ⟨(BitVec.ofInt 64 (a : Int) &&& ~~~ BitVec.ofInt 64 ((2 ^ b : Nat) : Int)).toNat, ?_, h4, fun j => ?_⟩
  · show IntKind.u64.wrap ((BitVec.ofInt 64 (a : Int) &&& ~~~ BitVec.ofInt 64 ((2 ^ b : Nat) : Int)).toNat : Int) = _
    rw [IntKind.wrap_u64]
    omega
  · rw [BitVec.toNat_and, Nat.testBit_and, h1]
    by_cases hj : j < 64
    · rw [BitVec.toNat_not, h2]
      have : (2 ^ 64 - 1 - 2 ^ b).testBit j = !(2 ^ b).testBit j := by
        rw [show 2 ^ 64 - 1 - 2 ^ b = 2 ^ 64 - (2 ^ b + 1) by omega, Nat.testBit_two_pow_sub_succ hp]
        simp [hj]
      rw [this, Nat.testBit_two_pow]
      by_cases hjb : b = j <;> simp [hjb, eq_comm]
    · have : a.testBit j = false := Nat.testBit_lt_two_pow (Nat.lt_of_lt_of_le (show a < 2 ^ 64 from ha) (Nat.pow_le_pow_right (show 0 < 2 by decide) (show 64 ≤ j by omega)))
      simp [this]

/-- A word with a bit more. -/
theorem or_bit (a b : Nat) (ha : a < 18446744073709551616) (hb : b < 64) : ∃ r : Nat, bits .or .u64 (a : Int) ((2 ^ b : Nat) : Int) = (r : Int) ∧ r < 18446744073709551616 ∧ ∀ j, r.testBit j = (a.testBit j || decide (j = b)) := by
  have hp : 2 ^ b < 2 ^ 64 := Nat.pow_lt_pow_right (by decide) hb
  refine ⟨a ||| 2 ^ b, bits_or_u64_nat a (2 ^ b) ha hp, Nat.or_lt_two_pow (n := 64) ha hp, fun j => ?_⟩
  rw [Nat.testBit_or, Nat.testBit_two_pow]
  simp [eq_comm]

theorem bitAt_set {ws : List Nat} {k : Nat} (hk : k < ws.length) (r p : Nat) : bitAt (ws.set k r) p = if p / 64 = k then r.testBit (p % 64) else bitAt ws p := by
  unfold bitAt
  by_cases h : p / 64 = k
  · rw [if_pos h]
    subst h
    simp [List.getD, hk]
  · rw [if_neg h]
    simp [List.getD, List.getElem?_set_ne (Ne.symm h)]

/-- A bit taken away. -/
theorem bitAt_clear {ws : List Nat} {q r : Nat} (hk : q / 64 < ws.length) (hr : ∀ j, r.testBit j = ((ws.getD (q / 64) 0).testBit j && decide (j ≠ q % 64))) (p : Nat) : bitAt (ws.set (q / 64) r) p = (bitAt ws p && decide (p ≠ q)) := by
  rw [bitAt_set hk]
  by_cases h : p / 64 = q / 64
  · rw [if_pos h, hr]
    unfold bitAt
    rw [h]
    by_cases h2 : p % 64 = q % 64
    · have : p = q := by omega
      simp [this]
    · have : p ≠ q := fun e => h2 (by rw [e])
      simp [h2, this]
  · have : p ≠ q := fun e => h (by rw [e])
    simp [h, this]

theorem bitAt_put {ws : List Nat} {q r : Nat} (hk : q / 64 < ws.length) (hr : ∀ j, r.testBit j = ((ws.getD (q / 64) 0).testBit j || decide (j = q % 64))) (p : Nat) : bitAt (ws.set (q / 64) r) p = (bitAt ws p || decide (p = q)) := by
  rw [bitAt_set hk]
  by_cases h : p / 64 = q / 64
  · rw [if_pos h, hr]
    unfold bitAt
    rw [h]
    by_cases h2 : p % 64 = q % 64
    · have : p = q := by omega
      simp [this]
    · have : p ≠ q := fun e => h2 (by rw [e])
      simp [h2, this]
  · have : p ≠ q := fun e => h (by rw [e])
    simp [h, this]

theorem bitAt_more (ws : List Nat) (m p : Nat) : bitAt (ws ++ List.replicate m 0) p = bitAt ws p := by
  unfold bitAt
  congr 1
  simp only [List.getD]
  by_cases h : p / 64 < ws.length
  · rw [List.getElem?_append_left h]
  · rw [List.getElem?_append_right (by omega), List.getElem?_eq_none (l := ws) (by omega), List.getElem?_replicate]
    split <;> rfl

/-- The lowest bit of a word. -/
theorem ctz_bit {x : Nat} (h0 : x ≠ 0) (h : x < 18446744073709551616) : Lib.ctz 64 x < 64 ∧ x.testBit (Lib.ctz 64 x) = true ∧ ∀ j, j < Lib.ctz 64 x → x.testBit j = false := by
  obtain ⟨m, hm, hk⟩ := Lib.ctzFrom_spec 64 x (by omega) h
  have e : Lib.ctz 64 x = Lib.ctzFrom 64 x := by simp [Lib.ctz, h0]
  rw [e]
  generalize Lib.ctzFrom 64 x = k at *
  refine ⟨hk, ?_, fun j hj => ?_⟩
  · rw [hm, Nat.mul_comm, Nat.testBit_mul_two_pow]
    simp
  · rw [hm, Nat.mul_comm, Nat.testBit_mul_two_pow]
    simp
    omega

/-- Where there is a bit, the first word that is not 0 and its lowest bit are the lowest number. -/
theorem lowest_bitAt {ws : List Nat} (h64 : ∀ x ∈ ws, x < 18446744073709551616) {q : Nat} (hq : bitAt ws q = true) :
    ∃ k, k < ws.length ∧ ws.getD k 0 ≠ 0 ∧ (∀ i, i < k → ws.getD i 0 = 0) ∧ ws.getD k 0 < 18446744073709551616 ∧ bitAt ws (k * 64 + Lib.ctz 64 (ws.getD k 0)) = true ∧ (∀ p, p < k * 64 + Lib.ctz 64 (ws.getD k 0) → bitAt ws p = false) ∧ Lib.ctz 64 (ws.getD k 0) < 64 := by
  have hne : ∃ i, i < ws.length ∧ ws.getD i 0 ≠ 0 := by
    refine ⟨q / 64, ?_, ?_⟩
    · apply Nat.lt_of_not_le
      intro hle
      unfold bitAt at hq
      rw [List.getD_eq_getElem?_getD, List.getElem?_eq_none hle] at hq
      simp at hq
    · intro e
      unfold bitAt at hq
      rw [e] at hq
      simp at hq
  have hl : ws.findIdx (fun x => decide (x ≠ 0)) < ws.length := by
    rw [List.findIdx_lt_length]
    obtain ⟨i, hi, hx⟩ := hne
    refine ⟨ws[i], List.getElem_mem hi, ?_⟩
    simpa [List.getD, hi] using hx
  obtain ⟨k, hk⟩ : ∃ k, ws.findIdx (fun x => decide (x ≠ 0)) = k := ⟨_, rfl⟩
  have hk0 : ws.getD k 0 ≠ 0 := by
    have := List.findIdx_getElem (p := fun x => decide (x ≠ 0)) (xs := ws) (w := hl)
    rw [hk] at hl
    simp only [hk] at this
    simpa [List.getD, hl] using this
  have hlt : ∀ i, i < k → ws.getD i 0 = 0 := by
    intro i hi
    have hil : i < ws.length := by omega
    have := List.not_of_lt_findIdx (p := fun x => decide (x ≠ 0)) (xs := ws) (i := i) (by omega)
    simpa [List.getD, hil] using this
  rw [hk] at hl
  have hx : ws.getD k 0 < 18446744073709551616 := by
    have : ws.getD k 0 = ws[k] := by simp [List.getD, hl]
    rw [this]
    exact h64 _ (List.getElem_mem hl)
  obtain ⟨c1, c2, c3⟩ := ctz_bit hk0 hx
  generalize hc : Lib.ctz 64 (ws.getD k 0) = c at *
  refine ⟨k, hl, hk0, hlt, hx, ?_, fun p hp => ?_, by rw [hc]; exact c1⟩
  · rw [hc]
    unfold bitAt
    rw [show (k * 64 + c) / 64 = k by omega, show (k * 64 + c) % 64 = c by omega]
    exact c2
  · rw [hc] at hp
    unfold bitAt
    by_cases h : p / 64 < k
    · rw [hlt _ h]
      simp
    · rw [show p / 64 = k by omega]
      exact c3 _ (by omega)
end Go.Proofs.YtnjafmjkaajbkaaDoor
