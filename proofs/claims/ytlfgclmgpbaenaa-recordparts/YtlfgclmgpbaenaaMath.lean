/- The plain side of package codec: an int's bytes, what bytes begin with, with no word of Go. -/
namespace Go.Proofs.Ytlfgclmgpbaenaa
namespace Cd

/-- How many bytes a number below 2^64 has, one at least. -/
def nb (m : Nat) : Nat :=
  if m < 256 then 1 else if m < 65536 then 2 else if m < 16777216 then 3 else if m < 4294967296 then 4 else
  if m < 1099511627776 then 5 else if m < 281474976710656 then 6 else if m < 72057594037927936 then 7 else 8

/-- The lowest k bytes of m, the highest first. -/
def be : Nat → Nat → List Int
  | 0, _ => []
  | k + 1, m => ((m / 256 ^ k % 256 : Nat) : Int) :: be k m

theorem be_length (k m : Nat) : (be k m).length = k := by
  induction k with
  | zero => rfl
  | succ k ih => simp [be, ih]

theorem be_byte (k m : Nat) : ∀ x ∈ be k m, 0 ≤ x ∧ x < 256 := by
  induction k with
  | zero => simp [be]
  | succ k ih =>
    intro x hx
    simp only [be, List.mem_cons] at hx
    rcases hx with rfl | hx
    · omega
    · exact ih x hx

theorem nb_pos (m : Nat) : 1 ≤ nb m ∧ nb m ≤ 8 := by
  unfold nb
  repeat' split
  all_goals omega

/-- An int's width. -/
def width (n : Int) : Nat := if -100 ≤ n ∧ n ≤ 100 then 1 else if 0 < n then 1 + nb n.toNat else 1 + nb (-1 - n).toNat

/-- An int's bytes. -/
def enc (n : Int) : List Int :=
  if -100 ≤ n ∧ n ≤ 100 then [n + 108]
  else if 0 < n then (208 + (nb n.toNat : Int)) :: be (nb n.toNat) n.toNat
  else (8 - (nb (-1 - n).toNat : Int)) :: (be (nb (-1 - n).toNat) (-1 - n).toNat).map (255 - ·)

theorem enc_length (n : Int) : (enc n).length = width n := by
  unfold enc width
  split
  · rfl
  · split <;> simp [be_length, Nat.add_comm]

theorem width_pos (n : Int) : 1 ≤ width n ∧ width n ≤ 9 := by
  unfold width
  have a := nb_pos n.toNat
  have b := nb_pos (-1 - n).toNat
  split
  · omega
  · split <;> omega


theorem turn_byte (p k : Nat) (hp : p < 18446744073709551616) (hk : k < 8) : (18446744073709551615 - p) / 256 ^ k % 256 = 255 - p / 256 ^ k % 256 := by
  rcases (show k = 0 ∨ k = 1 ∨ k = 2 ∨ k = 3 ∨ k = 4 ∨ k = 5 ∨ k = 6 ∨ k = 7 by omega) with rfl | rfl | rfl | rfl | rfl | rfl | rfl | rfl
  all_goals
    simp only [Nat.reducePow]
    omega

theorem be_turn_nat (p k : Nat) (hp : p < 18446744073709551616) (hk : k ≤ 8) : be k (18446744073709551615 - p) = (be k p).map (255 - ·) := by
  induction k with
  | zero => rfl
  | succ k ih =>
    simp only [be, List.map_cons, ih (by omega), List.cons.injEq, and_true]
    rw [turn_byte p k hp (by omega)]
    omega

/-- A number below zero: the lowest bytes of it are those of -1 - n, each turned over. -/
theorem be_turn (n : Int) (k : Nat) (h0 : -9223372036854775808 ≤ n) (h1 : n < 0) (hk : k ≤ 8) : (be k (-1 - n).toNat).map (255 - ·) = be k (n + 18446744073709551616).toNat := by
  rw [← be_turn_nat _ _ (by omega) hk]
  congr 1
  omega

end Cd
end Go.Proofs.Ytlfgclmgpbaenaa
