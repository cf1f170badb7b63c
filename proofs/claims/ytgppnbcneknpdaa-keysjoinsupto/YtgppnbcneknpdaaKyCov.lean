/- What covers, has; what overlaps. -/
import Derived.Test.YtgppnbcneknpdaaKyC
import Derived.Test.YtgppnbcneknpdaaKyOrd
namespace Go.Proofs.Ytgppnbcneknpdaa
open Go.RowKit
set_option linter.unusedVariables false
set_option maxRecDepth 100000
namespace Ky

theorem covers_has {a b : Rg} (hc : covers a b = true) {s : ByteArray} (hs : inn b s = true) : inn a s = true := by
  obtain ⟨al, ah⟩ := a
  obtain ⟨bl, bh⟩ := b
  obtain ⟨r, h0, h1, h2⟩ := ranks [al, ah, bl, bh, s]
  simp only [List.forall_mem_cons, List.not_mem_nil, false_imp_iff, implies_true, and_true] at h1 h2
  unfold covers emp at hc
  rw [ends_le] at hc
  unfold inn at hs ⊢
  unfold below at hc hs ⊢
  simp only [nil_eq] at hc hs ⊢
  simp only [h1, h2] at hc hs ⊢
  simp at hc hs ⊢
  omega

theorem meet2_all (a : Rg) : meet2 all a = a := by
  obtain ⟨l, h⟩ := a
  unfold meet2 all most
  rw [least_eq]
  unfold least
  congr 1
  · by_cases e : l = .empty
    · subst e; simp
    · simp [empty_lt e]
  · simp [nil_eq]

/-- A text is in what two ranges have in common just if it is in each. -/
theorem inn_meet2 (a b : Rg) (s : ByteArray) : inn (meet2 a b) s = (inn a s && inn b s) := by
  obtain ⟨al, ah⟩ := a
  obtain ⟨bl, bh⟩ := b
  obtain ⟨r, h0, h1, h2⟩ := ranks [al, ah, bl, bh, s]
  simp only [List.forall_mem_cons, List.not_mem_nil, false_imp_iff, implies_true, and_true] at h1 h2
  unfold meet2
  rw [least_eq]
  unfold inn below most least
  simp only [nil_eq, h1, h2]
  rw [Bool.eq_iff_iff]
  by_cases c1 : r al < r bl <;> by_cases c2 : r ah = 0 <;> by_cases c3 : r bh = 0 <;> by_cases c4 : r bh < r ah <;> simp [c1, c2, c3, c4, h1, h2] <;> omega

theorem emp_meet2 (a b : Rg) : emp (meet2 a b) = emp (meet2 b a) := by
  obtain ⟨al, ah⟩ := a
  obtain ⟨bl, bh⟩ := b
  obtain ⟨r, h0, h1, h2⟩ := ranks [al, ah, bl, bh]
  simp only [List.forall_mem_cons, List.not_mem_nil, false_imp_iff, implies_true, and_true] at h1 h2
  unfold meet2
  rw [least_eq, least_eq]
  unfold emp below most least
  simp only [nil_eq, h1, h2]
  rw [Bool.eq_iff_iff]
  by_cases c1 : r al < r bl <;> by_cases c2 : r ah = 0 <;> by_cases c3 : r bh = 0 <;> by_cases c4 : r bh < r ah <;> by_cases c5 : r bl < r al <;> by_cases c6 : r ah < r bh <;> simp [c1, c2, c3, c4, c5, c6, h1, h2] <;> omega

theorem emp_not {r : Rg} (h : emp r = true) (s : ByteArray) : inn r s = false := by
  obtain ⟨al, ah⟩ := r
  obtain ⟨r, h0, h1, h2⟩ := ranks [al, ah, s]
  simp only [List.forall_mem_cons, List.not_mem_nil, false_imp_iff, implies_true, and_true] at h1 h2
  unfold emp at h
  unfold inn
  unfold below at h ⊢
  simp only [nil_eq] at h ⊢
  simp only [h1, h2] at h ⊢
  simp at h ⊢
  omega

theorem overlap_eq (a b : Rg) : overlap a b = !emp (meet2 a b) := by
  unfold overlap meet
  simp only [List.foldl_cons, List.foldl_nil, meet2_all]

theorem overlap_comm (a b : Rg) : overlap a b = overlap b a := by rw [overlap_eq, overlap_eq, emp_meet2]

theorem overlap_not {a b : Rg} (h : overlap a b = false) (s : ByteArray) (ha : inn a s = true) : inn b s = false := by
  rw [overlap_eq] at h
  have := emp_not (r := meet2 a b) (by simpa using h) s
  rw [inn_meet2, ha] at this
  simpa using this

theorem covers_self (a : Rg) : covers a a = true := by
  obtain ⟨al, ah⟩ := a
  unfold covers
  rw [ends_le]
  simp only [lt_irrefl]
  cases nil ah <;> simp

theorem covers_meet (a b : Rg) : covers a (meet [a, b]) = true := by
  have : meet [a, b] = meet2 a b := by unfold meet; simp only [List.foldl_cons, List.foldl_nil, meet2_all]
  rw [this]
  obtain ⟨al, ah⟩ := a
  obtain ⟨bl, bh⟩ := b
  obtain ⟨r, h0, h1, h2⟩ := ranks [al, ah, bl, bh]
  simp only [List.forall_mem_cons, List.not_mem_nil, false_imp_iff, implies_true, and_true] at h1 h2
  unfold meet2 covers
  rw [least_eq, ends_le]
  unfold emp below most least
  simp only [nil_eq, h1, h2]
  by_cases c1 : r al < r bl <;> by_cases c2 : r ah = 0 <;> by_cases c3 : r bh = 0 <;> by_cases c4 : r bh < r ah <;> simp [c1, c2, c3, c4, h1, h2] <;> omega

theorem covers_emp {a b : Rg} (h : emp b = true) : covers a b = true := by
  unfold covers
  rw [h]
  rfl
end Ky
end Go.Proofs.Ytgppnbcneknpdaa
