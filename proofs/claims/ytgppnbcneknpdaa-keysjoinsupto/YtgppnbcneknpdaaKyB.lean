/- What parts two texts: the code's and the document's. -/
import Derived.Test.YtgppnbcneknpdaaKyA
namespace Go.Proofs.Ytgppnbcneknpdaa
open Go.RowKit
set_option linter.unusedVariables false
set_option maxRecDepth 100000

namespace Ky
theorem cut_list (b : ByteArray) (n : Nat) : (b.extract 0 n).toList = b.toList.take n := by
  rw [ByteArray.toList_eq, ByteArray.toList_eq, ByteArray.data_extract]
  simp

theorem sep_iff : ∀ (a b : List UInt8) (n : Nat), Op.bytesLess a b = true → n ≤ b.length → Op.bytesLess a (b.take n) = decide (com a b < n)
  | _, [], n => by intro h; rename_i a; cases a <;> simp [Op.bytesLess] at h
  | [], y :: ys, 0 => by intro _ _; simp [com, Op.bytesLess]
  | [], y :: ys, n + 1 => by intro _ _; simp [com, Op.bytesLess]
  | x :: xs, y :: ys, 0 => by intro _ _; simp [Op.bytesLess]
  | x :: xs, y :: ys, n + 1 => by
    intro h hn
    simp only [Op.bytesLess, Bool.or_eq_true, Bool.and_eq_true, decide_eq_true_eq, beq_iff_eq] at h
    simp only [List.take_succ_cons, Op.bytesLess, com]
    rcases h with h | ⟨rfl, h⟩
    · have hne : x ≠ y := by rintro rfl; exact absurd h (UInt8.lt_irrefl _)
      simp [h, hne]
    · have := sep_iff xs ys n h (by simpa using hn)
      simp [UInt8.lt_irrefl, this]

theorem com_lt : ∀ (a b : List UInt8), Op.bytesLess a b = true → com a b < b.length
  | _, [] => by intro h; rename_i a; cases a <;> simp [Op.bytesLess] at h
  | [], y :: ys => by intro _; simp [com]
  | x :: xs, y :: ys => by
    intro h
    simp only [Op.bytesLess, Bool.or_eq_true, Bool.and_eq_true, decide_eq_true_eq, beq_iff_eq] at h
    simp only [com]
    rcases h with h | ⟨rfl, h⟩
    · have hne : x ≠ y := by rintro rfl; exact absurd h (UInt8.lt_irrefl _)
      simp [hne]
    · have := com_lt xs ys h
      simp
      exact this

theorem take_le : ∀ (l : List UInt8) (n : Nat), (Op.bytesLess (l.take n) l || l.take n == l) = true
  | [], n => by simp
  | a :: l, 0 => by simp [Op.bytesLess]
  | a :: l, n + 1 => by
    have := take_le l n
    simp only [List.take_succ_cons, Op.bytesLess, UInt8.lt_irrefl, decide_false, Bool.false_or, beq_self_eq_true, Bool.true_and, List.cons_beq_cons]
    exact this

/-- What parts two texts. -/
def sep (a b : ByteArray) : ByteArray := b.extract 0 (com a.toList b.toList + 1)

theorem cut_all (b : ByteArray) : b.extract 0 b.size = b := by simp

theorem gtr_iff (x y : List UInt8) : (!Op.bytesLess x y && !x == y) = Op.bytesLess y x := by
  cases h : Op.bytesLess x y with
  | true =>
    have : Op.bytesLess y x = false := by
      cases e : Op.bytesLess y x with
      | false => rfl
      | true => have := less_trans _ _ _ h e; rw [less_irrefl] at this; cases this
    rw [this]; rfl
  | false =>
    cases e : Op.bytesLess y x with
    | true =>
      have : x ≠ y := by rintro rfl; rw [less_irrefl] at e; cases e
      simp [this]
    | false =>
      have := less_total _ _ h e
      simp [this]
end Ky

set_option maxHeartbeats 400000 in
theorem sep_any (a b : ByteArray) (w : World) (ha : a.size ≤ 140737488351232) (hb : b.size ≤ 140737488351232) : Calls Try.prog 37 #[.string a, .string b] w fun r w' => r = .returned (if Ky.lt a b then .tuple #[.string (Ky.sep a b), .bool true] else .tuple #[.string ⟨#[]⟩, .bool false]) ∧ Below w.heap.size w w' := by
  unfold Ky.lt
  cases h : Op.bytesLess a.toList b.toList with
  | false =>
    go_enter Try.func37, Try.ntmps37
    go_wp2
    go_ret2
    exact ⟨rfl, Below.refl _ _⟩
  | true =>
    have h1 : Ky.com a.toList b.toList + 1 ≤ b.size := by
      have := Ky.com_lt _ _ h
      rw [Ky.size_list] at this
      omega
    go_enter Try.func37, Try.ntmps37
    go_wp2_with fail
    refine (shared_any a b _ ha hb).mono ?_
    rintro e w1 ⟨rfl, hb1⟩
    go_wp2
    go_ret2
    exact ⟨rfl, hb1⟩

end Go.Proofs.Ytgppnbcneknpdaa
