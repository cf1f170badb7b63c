/- A text in a range; what parts two texts; two texts held against each other (the code's, package keys). -/
import Derived.Test.YtoehlgigidgfpaaGreatKyM
import Derived.Laws.BytesArg
import Derived.Laws.IdiomStrings
namespace Go.Proofs.YtoehlgigidgfpaaGreat
open Go.RowKit
set_option linter.unusedVariables false
set_option maxRecDepth 100000

theorem isBelow_any (s e : ByteArray) (w : World) : Calls Tryz.prog 110 #[.string s, .string e] w fun r w' => r = .returned (.bool (Ky.below s e)) ∧ w' = w := by
  go_enter Tryz.func110, Tryz.ntmps110
  go_wp2
  all_goals go_ret
  all_goals (unfold Ky.below Ky.nil Ky.lt; simp_all)

theorem empty_any (r : Rg) (w : World) : Calls Tryz.prog 83 #[r.val] w fun e w' => e = .returned (.bool (Ky.emp r)) ∧ Below w.heap.size w w' := by
  obtain ⟨lo, hi⟩ := r
  go_enter Tryz.func83, Tryz.ntmps83
  go_wp2_with fail
  refine (isBelow_any lo hi _).mono ?_
  rintro e w1 ⟨rfl, rfl⟩
  go_wp2
  go_ret
  exact ⟨rfl, (Below.refl _ _).alloc (Nat.le_refl _) _⟩

theorem in_any (r : Rg) (k : ByteArray) (w : World) : Calls Tryz.prog 126 #[r.val, .string k] w fun e w' => e = .returned (.bool (Ky.inn r k)) ∧ Below w.heap.size w w' := by
  obtain ⟨lo, hi⟩ := r
  have HI : Hid (Ky.inn ⟨lo, hi⟩ k = (!Op.bytesLess k.toList lo.toList && Ky.below k hi)) := rfl
  cases h : Op.bytesLess k.toList lo.toList with
  | true =>
    rw [h] at HI
    go_enter Tryz.func126, Tryz.ntmps126
    go_wp2
    go_ret
    exact ⟨by rw [HI.out]; rfl, (Below.refl _ _).alloc (Nat.le_refl _) _⟩
  | false =>
    rw [h] at HI
    go_enter Tryz.func126, Tryz.ntmps126
    go_wp2_with fail
    refine (isBelow_any k hi _).mono ?_
    rintro e w1 ⟨rfl, rfl⟩
    go_wp2
    go_ret
    exact ⟨by rw [HI.out]; simp, (Below.refl _ _).alloc (Nat.le_refl _) _⟩

/-- How many bytes two texts begin with in common. -/
def Ky.com : List UInt8 → List UInt8 → Nat
  | a :: x, b :: y => if a = b then Ky.com x y + 1 else 0
  | _, _ => 0

theorem Ky.com_le : ∀ a b : List UInt8, Ky.com a b ≤ a.length ∧ Ky.com a b ≤ b.length
  | [], _ => by simp [Ky.com]
  | _ :: _, [] => by simp [Ky.com]
  | a :: x, b :: y => by
    have := Ky.com_le x y
    simp only [Ky.com]
    split <;> simp <;> omega

theorem Ky.size_list (s : ByteArray) : s.toList.length = s.size := by rw [ByteArray.toList_eq]; rfl

theorem Ky.at_drop (s : ByteArray) {k : Nat} (h : k < s.size) : s.toList.drop k = s[k] :: s.toList.drop (k + 1) := by
  rw [ByteArray.toList_eq]
  have hl : k < s.data.toList.length := h
  rw [List.drop_eq_getElem_cons hl]
  rfl

namespace Ky
theorem cut_list (b : ByteArray) (n : Nat) : (b.extract 0 n).toList = b.toList.take n := by
  rw [ByteArray.toList_eq, ByteArray.toList_eq, ByteArray.data_extract]
  simp

theorem sep_iff : ∀ (a b : List UInt8) (n : Nat), Op.bytesLess a b = true → n ≤ b.length → Op.bytesLess a (b.take n) = decide (com a b < n)
  | _, [], n => by intro h; rename_i a; cases a <;> simp [Op.bytesLess] at h
  | [], y :: ys, 0 => by intro _ _; simp [com, Op.bytesLess]
  | [], y :: ys, n + 1 => by intro _ _; simp [com, Op.bytesLess]
  | x :: xs, y :: ys, 0 => by intro _ _; simp [Op.bytesLess]
  | x :: xs, y :: ys, n + 1 => by
    intro h hn
    simp only [Op.bytesLess, Bool.or_eq_true, Bool.and_eq_true, decide_eq_true_eq, beq_iff_eq] at h
    simp only [List.take_succ_cons, Op.bytesLess, com]
    rcases h with h | ⟨rfl, h⟩
    · have hne : x ≠ y := by rintro rfl; exact absurd h (UInt8.lt_irrefl _)
      simp [h, hne]
    · have := sep_iff xs ys n h (by simpa using hn)
      simp [UInt8.lt_irrefl, this]

theorem com_lt : ∀ (a b : List UInt8), Op.bytesLess a b = true → com a b < b.length
  | _, [] => by intro h; rename_i a; cases a <;> simp [Op.bytesLess] at h
  | [], y :: ys => by intro _; simp [com]
  | x :: xs, y :: ys => by
    intro h
    simp only [Op.bytesLess, Bool.or_eq_true, Bool.and_eq_true, decide_eq_true_eq, beq_iff_eq] at h
    simp only [com]
    rcases h with h | ⟨rfl, h⟩
    · have hne : x ≠ y := by rintro rfl; exact absurd h (UInt8.lt_irrefl _)
      simp [hne]
    · have := com_lt xs ys h
      simp
      exact this

theorem take_le : ∀ (l : List UInt8) (n : Nat), (Op.bytesLess (l.take n) l || l.take n == l) = true
  | [], n => by simp
  | a :: l, 0 => by simp [Op.bytesLess]
  | a :: l, n + 1 => by
    have := take_le l n
    simp only [List.take_succ_cons, Op.bytesLess, UInt8.lt_irrefl, decide_false, Bool.false_or, beq_self_eq_true, Bool.true_and, List.cons_beq_cons]
    exact this

/-- What parts two texts. -/
def sep (a b : ByteArray) : ByteArray := b.extract 0 (com a.toList b.toList + 1)

theorem cut_all (b : ByteArray) : b.extract 0 b.size = b := by simp

theorem gtr_iff (x y : List UInt8) : (!Op.bytesLess x y && !x == y) = Op.bytesLess y x := by
  cases h : Op.bytesLess x y with
  | true =>
    have : Op.bytesLess y x = false := by
      cases e : Op.bytesLess y x with
      | false => rfl
      | true => have := less_trans _ _ _ h e; rw [less_irrefl] at this; cases this
    rw [this]; rfl
  | false =>
    cases e : Op.bytesLess y x with
    | true =>
      have : x ≠ y := by rintro rfl; rw [less_irrefl] at e; cases e
      simp [this]
    | false =>
      have := less_total _ _ h e
      simp [this]
end Ky

theorem cmpStr_any (a b : ByteArray) (w : World) : Calls Tryz.prog 204 #[.string a, .string b] w fun e w' => e = .returned (.int .i64 (Ky.cmp a b)) ∧ w' = w := by
  go_enter Tryz.func204, Tryz.ntmps204
  go_wp2
  rw [run_callFunc_extern Tryz.func214 (by kernel_rfl) (by kernel_rfl) (by kernel_rfl) (e := Extern.BytealgCompare.compare) (by kernel_rfl), Lib.run_compareString]
  simp only [Result.andThen]
  rw [Oper.upon_value]
  go_wp2
  go_ret
  refine ⟨?_, rfl⟩
  unfold Ky.cmp
  rw [ByteArray.toList_eq, ByteArray.toList_eq]
  rfl

theorem compare_any (a b : ByteArray) (w : World) : Calls Tryz.prog 178 #[.string a, .string b] w fun e w' => e = .returned (.int .i64 (Ky.cmp a b)) ∧ w' = w := by
  go_enter Tryz.func178, Tryz.ntmps178
  go_wp2_with fail
  refine (cmpStr_any a b _).mono ?_
  rintro e w1 ⟨rfl, rfl⟩
  go_wp2
  go_ret
  exact ⟨rfl, rfl⟩

end Go.Proofs.YtoehlgigidgfpaaGreat
