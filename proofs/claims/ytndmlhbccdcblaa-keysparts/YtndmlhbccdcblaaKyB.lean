/- What parts two texts: the code's and the document's. -/
import Derived.Test.YtndmlhbccdcblaaKyA
namespace Go.Proofs.Ytndmlhbccdcblaa
open Go.RowKit
set_option linter.unusedVariables false
set_option maxRecDepth 100000

namespace Ky
theorem cut_list (b : ByteArray) (n : Nat) : (b.extract 0 n).toList = b.toList.take n := by
  rw [ByteArray.toList_eq, ByteArray.toList_eq, ByteArray.data_extract]
  simp

theorem sep_iff : ∀ (a b : List UInt8) (n : Nat), Op.bytesLess a b = true → n ≤ b.length → Op.bytesLess a (b.take n) = decide (com a b < n)
  | _, [], n => by intro h; rename_i a; cases a <;> simp [Op.bytesLess] at h
  | [], y :: ys, 0 => by intro _ _; simp [com, Op.bytesLess]
  | [], y :: ys, n + 1 => by intro _ _; simp [com, Op.bytesLess]
  | x :: xs, y :: ys, 0 => by intro _ _; simp [Op.bytesLess]
  | x :: xs, y :: ys, n + 1 => by
    intro h hn
    simp only [Op.bytesLess, Bool.or_eq_true, Bool.and_eq_true, decide_eq_true_eq, beq_iff_eq] at h
    simp only [List.take_succ_cons, Op.bytesLess, com]
    rcases h with h | ⟨rfl, h⟩
    · have hne : x ≠ y := by rintro rfl; exact absurd h (UInt8.lt_irrefl _)
      simp [h, hne]
    · have := sep_iff xs ys n h (by simpa using hn)
      simp [UInt8.lt_irrefl, this]

theorem com_lt : ∀ (a b : List UInt8), Op.bytesLess a b = true → com a b < b.length
  | _, [] => by intro h; rename_i a; cases a <;> simp [Op.bytesLess] at h
  | [], y :: ys => by intro _; simp [com]
  | x :: xs, y :: ys => by
    intro h
    simp only [Op.bytesLess, Bool.or_eq_true, Bool.and_eq_true, decide_eq_true_eq, beq_iff_eq] at h
    simp only [com]
    rcases h with h | ⟨rfl, h⟩
    · have hne : x ≠ y := by rintro rfl; exact absurd h (UInt8.lt_irrefl _)
      simp [hne]
    · have := com_lt xs ys h
      simp
      exact this

theorem take_le : ∀ (l : List UInt8) (n : Nat), (Op.bytesLess (l.take n) l || l.take n == l) = true
  | [], n => by simp
  | a :: l, 0 => by simp [Op.bytesLess]
  | a :: l, n + 1 => by
    have := take_le l n
    simp only [List.take_succ_cons, Op.bytesLess, UInt8.lt_irrefl, decide_false, Bool.false_or, beq_self_eq_true, Bool.true_and, List.cons_beq_cons]
    exact this

/-- What parts two texts. -/
def sep (a b : ByteArray) : ByteArray := b.extract 0 (com a.toList b.toList + 1)

theorem cut_all (b : ByteArray) : b.extract 0 b.size = b := by simp

theorem gtr_iff (x y : List UInt8) : (!Op.bytesLess x y && !x == y) = Op.bytesLess y x := by
  cases h : Op.bytesLess x y with
  | true =>
    have : Op.bytesLess y x = false := by
      cases e : Op.bytesLess y x with
      | false => rfl
      | true => have := less_trans _ _ _ h e; rw [less_irrefl] at this; cases this
    rw [this]; rfl
  | false =>
    cases e : Op.bytesLess y x with
    | true =>
      have : x ≠ y := by rintro rfl; rw [less_irrefl] at e; cases e
      simp [this]
    | false =>
      have := less_total _ _ h e
      simp [this]
end Ky

set_option maxHeartbeats 400000 in
theorem sep_any (a b : ByteArray) (w : World) (ha : a.size ≤ 140737488351232) (hb : b.size ≤ 140737488351232) : Calls Try.prog 33 #[.string a, .string b] w fun r w' => r = .returned (if Ky.lt a b then .tuple #[.string (Ky.sep a b), .bool true] else .tuple #[.string ⟨#[]⟩, .bool false]) ∧ Below w.heap.size w w' := by
  unfold Ky.lt
  cases h : Op.bytesLess a.toList b.toList with
  | false =>
    go_enter Try.func33, Try.ntmps33
    go_wp2
    go_ret2
    exact ⟨rfl, Below.refl _ _⟩
  | true =>
    have h1 : Ky.com a.toList b.toList + 1 ≤ b.size := by
      have := Ky.com_lt _ _ h
      rw [Ky.size_list] at this
      omega
    go_enter Try.func33, Try.ntmps33
    go_wp2_with fail
    refine (shared_any a b _ ha hb).mono ?_
    rintro e w1 ⟨rfl, hb1⟩
    go_wp2
    go_ret2
    exact ⟨rfl, hb1⟩

set_option maxHeartbeats 400000 in
theorem rsep_any (a b : ByteArray) (w : World) (ha : a.size ≤ 140737488351232) (hb : b.size ≤ 140737488351232) : Calls Try.prog 34 #[.string a, .string b] w fun r w' => r = .returned (if Ky.lt a b then .tuple #[.string (Ky.sep a b), .bool true] else .tuple #[.string ⟨#[]⟩, .bool false]) ∧ Below w.heap.size w w' := by
  unfold Ky.lt
  cases h : Op.bytesLess a.toList b.toList with
  | false =>
    go_enter Try.func34, Try.ntmps34
    go_wp2
    go_ret2
    exact ⟨rfl, Below.refl _ _⟩
  | true =>
    have HL : Hid (Ky.com a.toList b.toList < b.size) := by
      have := Ky.com_lt _ _ h
      rw [Ky.size_list] at this
      exact this
    have HS : Hid (∀ n, n ≤ b.size → Op.bytesLess a.toList (b.extract 0 n).toList = decide (Ky.com a.toList b.toList < n)) := by
      intro n hn
      rw [Ky.cut_list]
      exact Ky.sep_iff _ _ n h (by rw [Ky.size_list]; exact hn)
    go_enter Try.func34, Try.ntmps34
    go_wp2_with fail
    go_loopw [6] (fun i wr => ∃ k : Nat, k ≤ b.size ∧ i = .int .i64 k ∧ Hid (Below w.heap.size w wr) ∧ Hid (k ≤ Ky.com a.toList b.toList + 1)) (fun i _ => b.size - (intOf i).toNat)
    case atStart => exact ⟨0, Nat.zero_le _, rfl, Below.refl _ _, by simp [Hid]⟩
    case round =>
      obtain ⟨k, hk, rfl, HW, HC⟩ := hrel
      by_cases hlt : k < b.size
      · have hli : (k : Int) < (b.size : Int) := by omega
        go_wp2_with fail
        case roundEnd =>
          rename_i hq
          have hg := Ky.gtr_iff (b.extract 0 k).toList a.toList
          rw [HS.out k hk] at hg
          have : ¬ Ky.com a.toList b.toList < k := by
            intro hc
            rw [decide_eq_true hc, Bool.and_eq_true] at hg
            rcases hq with hq | hq
            · rw [hg.1] at hq; cases hq
            · rw [hg.2] at hq; cases hq
          exact ⟨⟨k + 1, by omega, by go_num, HW, by unfold Hid; omega⟩, by simp [intOf]; omega⟩
        · rename_i hq
          have hg := Ky.gtr_iff (b.extract 0 k).toList a.toList
          rw [HS.out k hk, hq.1, hq.2] at hg
          have hc : Ky.com a.toList b.toList < k := of_decide_eq_true hg.symm
          have : k = Ky.com a.toList b.toList + 1 := by have := HC.out; omega
          go_ret2
          refine ⟨?_, HW.out⟩
          unfold Ky.sep
          rw [← this]
          rfl
      · have hkk : k = b.size := by omega
        have hli : ¬ ((k : Int) < (b.size : Int)) := by omega
        have HF : Hid (Ky.sep a b = b) := by
          unfold Hid Ky.sep
          have h0 := HL.out
          have h1 := HC.out
          rw [show Ky.com a.toList b.toList + 1 = b.size by omega, Ky.cut_all]
        go_wp2
        go_ret2
        rw [HF.out]
        exact ⟨rfl, HW.out⟩

end Go.Proofs.Ytndmlhbccdcblaa
