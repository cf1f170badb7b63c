/- Texts that begin alike. -/
import Derived.Test.YtndmlhbccdcblabKyP
namespace Go.Proofs.Ytndmlhbccdcblab
open Go.RowKit
set_option linter.unusedVariables false
set_option maxRecDepth 100000
namespace Ky

theorem bumpR_snoc (a : UInt8) : ∀ r : List UInt8, bumpR (r ++ [a]) = if bumpR r = [] then (if a = 255 then [] else [a + 1]) else bumpR r ++ [a]
  | [] => by simp [bumpR]
  | b :: r => by
    simp only [List.cons_append, bumpR]
    by_cases h : b = 255
    · simp only [h, if_true]
      exact bumpR_snoc a r
    · simp [h]

theorem bump_cons (a : UInt8) (t : List UInt8) : bump (a :: t) = if bump t = [] then (if a = 255 then [] else [a + 1]) else a :: bump t := by
  unfold bump
  rw [List.reverse_cons, bumpR_snoc]
  have e : (bumpR t.reverse).reverse = [] ↔ bumpR t.reverse = [] := by simp
  by_cases h : bumpR t.reverse = []
  · rw [if_pos h, if_pos (e.2 h)]
    split <;> simp
  · rw [if_neg h, if_neg (fun x => h (e.1 x))]
    simp

theorem lt_succ {a b : UInt8} (h : a ≠ 255) : b < a + 1 ↔ b ≤ a := by
  have h1 := UInt8.toNat_lt a
  have h2 : a.toNat ≠ 255 := fun e => h (UInt8.toNat_inj.1 (by simpa using e))
  have : (a + 1).toNat = a.toNat + 1 := by rw [UInt8.toNat_add]; simp; omega
  rw [UInt8.lt_iff_toNat_lt, UInt8.le_iff_toNat_le]
  omega

theorem pre_list : ∀ s k : List UInt8, (!Op.bytesLess k s && ((bump s).isEmpty || Op.bytesLess k (bump s))) = decide (s <+: k)
  | [], k => by
    have : Op.bytesLess k [] = false := by cases k <;> rfl
    simp [this, bump_nil]
  | a :: t, [] => by simp [Op.bytesLess]
  | a :: t, b :: k => by
    have ih := pre_list t k
    rw [bump_cons]
    have hp : (a :: t <+: b :: k) ↔ (a = b ∧ t <+: k) := List.cons_prefix_cons
    rw [Bool.eq_iff_iff] at ih ⊢
    rw [decide_eq_true_iff] at ih ⊢
    rw [hp, ← ih]
    rcases Nat.lt_trichotomy a.toNat b.toNat with h | h | h
    · have hab : a < b := UInt8.lt_iff_toNat_lt.2 h
      have hne : a ≠ b := by intro e; rw [e] at h; omega
      have hba : ¬ b < a := fun e => by have := UInt8.lt_iff_toNat_lt.1 e; omega
      have hbe : (b == a) = false := by simpa using fun e : b = a => hne e.symm
      by_cases h0 : bump t = []
      · rw [if_pos h0]
        by_cases h255 : a = 255
        · subst h255
          have := UInt8.toNat_lt b
          have e : (255 : UInt8).toNat = 255 := rfl
          omega
        · rw [if_neg h255]
          have h3 : ¬ b < a + 1 := fun e => by have := UInt8.le_iff_toNat_le.1 ((lt_succ h255).1 e); omega
          simp [Op.bytesLess, hba, hbe, h3, hne]
      · rw [if_neg h0]
        simp [Op.bytesLess, hba, hbe, hne]
    · have hab : a = b := UInt8.toNat_inj.1 h
      subst hab
      by_cases h0 : bump t = []
      · rw [if_pos h0]
        by_cases h255 : a = 255
        · simp [Op.bytesLess, h0, h255]
        · rw [if_neg h255]
          have h3 : a < a + 1 := (lt_succ h255).2 (UInt8.le_refl _)
          simp [Op.bytesLess, h0, h3]
      · rw [if_neg h0]
        have : (bump t).isEmpty = false := by simpa using h0
        simp [Op.bytesLess, this]
    · have hba : b < a := UInt8.lt_iff_toNat_lt.2 h
      have hne : a ≠ b := by intro e; rw [e] at h; omega
      simp [Op.bytesLess, hba, hne]

theorem inn_pre (s k : ByteArray) : inn (pre s) k = decide (s.toList <+: k.toList) := by
  have := pre_list s.toList k.toList
  rw [← this]
  have e : (ByteArray.mk (bump s.toList).toArray).toList = bump s.toList := by rw [ByteArray.toList_eq]
  unfold inn below nil lt pre
  simp only [e]

theorem next_list (k : ByteArray) : (next k).toList = k.toList ++ [0] := by
  unfold next
  rw [ByteArray.toList_eq, ByteArray.toList_eq, ByteArray.data_append]
  simp

theorem less_snoc : ∀ l : List UInt8, Op.bytesLess l (l ++ [0]) = true
  | [] => rfl
  | a :: l => by simp [Op.bytesLess, less_snoc l]

theorem inn_pre_self (s : ByteArray) : inn (pre s) s = true := by rw [inn_pre]; simp
theorem inn_pre_next (s : ByteArray) : inn (pre s) (next s) = true := by rw [inn_pre, next_list]; simp
theorem lt_next (k : ByteArray) : lt k (next k) = true := by unfold lt; rw [next_list]; exact less_snoc _
theorem inn_one_self (k : ByteArray) : inn (one k) k = true := by
  unfold inn below one
  rw [lt_irrefl, lt_next]
  simp
theorem inn_one_next (k : ByteArray) : inn (one k) (next k) = false := by
  unfold inn below one
  have : nil (next k) = false := by
    unfold nil
    rw [next_list]
    simp
  simp only [this, lt_irrefl]
  simp

/-- Whether a text begins with another one, as it is asked. -/
theorem begins_iff (s k : ByteArray) (h : s.size ≤ k.size) : ((k.extract 0 s.size).toList == s.toList) = decide (s.toList <+: k.toList) := by
  have e : (k.extract 0 s.size).toList = k.toList.take s.size := by
    rw [ByteArray.toList_eq, ByteArray.toList_eq, ByteArray.data_extract]
    simp
  rw [e, Bool.eq_iff_iff, beq_iff_eq, decide_eq_true_iff, List.prefix_iff_eq_take, size_list]
  exact eq_comm
theorem begins_short (s k : ByteArray) (h : ¬ s.size ≤ k.size) : decide (s.toList <+: k.toList) = false := by
  rw [decide_eq_false_iff_not]
  intro hp
  have := hp.length_le
  rw [size_list, size_list] at this
  exact h this
end Ky
end Go.Proofs.Ytndmlhbccdcblab
