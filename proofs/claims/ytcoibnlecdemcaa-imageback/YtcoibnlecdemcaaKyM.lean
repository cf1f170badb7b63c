/- Texts in the order of their bytes; ranges; what the document says of them, as plain data. -/
import Derived.Test.YtcoibnlecdemcaaMem
import Derived.Lib.Bytealg
import Derived.Lib.MinMaxS
import Derived.Laws.Cover1
namespace Go.Proofs.Ytcoibnlecdemcaa
open Go.RowKit
set_option linter.unusedVariables false
set_option maxRecDepth 100000

/-- A range. -/
structure Rg where
  lo : ByteArray
  hi : ByteArray

def Rg.cells (r : Rg) : List Value := [.string r.lo, .string r.hi]
abbrev Rg.val (r : Rg) : Value := .agg #[.string r.lo, .string r.hi]

namespace Ky

theorem less_irrefl : ∀ l : List UInt8, Op.bytesLess l l = false
  | [] => rfl
  | a :: l => by simp [Op.bytesLess, less_irrefl l]

theorem less_trans : ∀ a b c : List UInt8, Op.bytesLess a b = true → Op.bytesLess b c = true → Op.bytesLess a c = true
  | _, [], _ => by intro h _; rename_i a c; cases a <;> simp [Op.bytesLess] at h
  | [], _ :: _, [] => by intro _ h; simp [Op.bytesLess] at h
  | [], _ :: _, _ :: _ => by intro _ _; simp [Op.bytesLess]
  | _ :: _, _ :: _, [] => by intro _ h; simp [Op.bytesLess] at h
  | a :: x, b :: y, c :: z => by
    intro h1 h2
    simp only [Op.bytesLess, Bool.or_eq_true, Bool.and_eq_true, decide_eq_true_eq, beq_iff_eq] at h1 h2 ⊢
    rcases h1 with h1 | ⟨rfl, h1⟩
    · rcases h2 with h2 | ⟨rfl, h2⟩
      · exact Or.inl (UInt8.lt_trans h1 h2)
      · exact Or.inl h1
    · rcases h2 with h2 | ⟨rfl, h2⟩
      · exact Or.inl h2
      · exact Or.inr ⟨rfl, less_trans x y z h1 h2⟩

theorem less_total : ∀ a b : List UInt8, Op.bytesLess a b = false → Op.bytesLess b a = false → a = b
  | [], [] => fun _ _ => rfl
  | [], _ :: _ => by intro h; simp [Op.bytesLess] at h
  | _ :: _, [] => by intro _ h; simp [Op.bytesLess] at h
  | a :: x, b :: y => by
    intro h1 h2
    simp only [Op.bytesLess, Bool.or_eq_false_iff, Bool.and_eq_false_iff, decide_eq_false_iff_not, beq_eq_false_iff_ne] at h1 h2
    have e : a = b := by
      rcases h1.2 with h | h
      · rcases h2.2 with h' | h'
        · exact UInt8.le_antisymm (UInt8.not_lt.1 h2.1) (UInt8.not_lt.1 h1.1)
        · exact UInt8.le_antisymm (UInt8.not_lt.1 h2.1) (UInt8.not_lt.1 h1.1)
      · exact UInt8.le_antisymm (UInt8.not_lt.1 h2.1) (UInt8.not_lt.1 h1.1)
    subst e
    have r1 : Op.bytesLess x y = false := by rcases h1.2 with h | h; · exact absurd rfl h
                                             · exact h
    have r2 : Op.bytesLess y x = false := by rcases h2.2 with h | h; · exact absurd rfl h
                                             · exact h
    rw [less_total x y r1 r2]

/-- Whether a text is below another. -/
def lt (a b : ByteArray) : Bool := Op.bytesLess a.toList b.toList

theorem toList_inj {a b : ByteArray} (h : a.toList = b.toList) : a = b := by
  rw [ByteArray.toList_eq, ByteArray.toList_eq] at h
  obtain ⟨⟨x⟩⟩ := a
  obtain ⟨⟨y⟩⟩ := b
  simp at h
  rw [h]

theorem lt_irrefl (a : ByteArray) : lt a a = false := less_irrefl _
theorem lt_trans {a b c : ByteArray} : lt a b = true → lt b c = true → lt a c = true := less_trans _ _ _
theorem lt_total {a b : ByteArray} (h : lt a b = false) (k : lt b a = false) : a = b := toList_inj (less_total _ _ h k)

theorem empty_toList : ByteArray.empty.toList = [] := by rw [ByteArray.toList_eq]; rfl
theorem nil_iff {s : ByteArray} : s.toList = [] ↔ s = .empty := ⟨fun h => toList_inj (h.trans empty_toList.symm), fun h => by rw [h]; exact empty_toList⟩
theorem lt_empty (a : ByteArray) : lt a .empty = false := by unfold lt; rw [empty_toList]; cases a.toList <;> rfl
theorem empty_lt {a : ByteArray} (h : a ≠ .empty) : lt .empty a = true := by
  cases e : lt .empty a with
  | true => rfl
  | false => exact absurd (lt_total (lt_empty a) e) h

/-- How many of some texts lie below one. -/
def rank (L : List ByteArray) (x : ByteArray) : Nat := (L.filter fun y => lt y x).length

theorem rank_le (L : List ByteArray) {x y : ByteArray} (h : lt x y = true) : rank L x ≤ rank L y := by
  induction L with
  | nil => exact Nat.le_refl _
  | cons a L ih =>
    unfold rank at ih ⊢
    simp only [List.filter_cons]
    cases e : lt a x with
    | true =>
      rw [lt_trans e h]
      simpa using ih
    | false =>
      simp only [Bool.false_eq_true, if_false]
      split
      · simp only [List.length_cons]; omega
      · exact ih

theorem rank_lt : ∀ (L : List ByteArray) {x y : ByteArray}, x ∈ L → lt x y = true → rank L x < rank L y
  | [], _, _, hm, _ => by cases hm
  | a :: L, x, y, hm, h => by
    by_cases hx : a = x
    · subst hx
      have := rank_le L h
      unfold rank at this ⊢
      simp only [List.filter_cons, lt_irrefl, h, Bool.false_eq_true, if_false, if_true, List.length_cons]
      omega
    · have hm' : x ∈ L := by
        rcases List.mem_cons.1 hm with e | e
        · exact absurd e.symm hx
        · exact e
      have := rank_lt L hm' h
      unfold rank at this ⊢
      simp only [List.filter_cons]
      cases e : lt a x with
      | true =>
        rw [lt_trans e h]
        simpa using this
      | false =>
        simp only [Bool.false_eq_true, if_false]
        split
        · simp only [List.length_cons]; omega
        · exact this

/-- Some texts as numbers: their order is the numbers'. -/
theorem ranks (L : List ByteArray) : ∃ r : ByteArray → Nat, r .empty = 0 ∧ (∀ x ∈ L, ∀ y ∈ L, (lt x y = decide (r x < r y)) ∧ (x = y ↔ r x = r y)) ∧ ∀ x ∈ L, (lt .empty x = decide (0 < r x)) ∧ (x = .empty ↔ r x = 0) := by
  have key : ∀ x ∈ ByteArray.empty :: L, ∀ y ∈ ByteArray.empty :: L, (lt x y = decide (rank (.empty :: L) x < rank (.empty :: L) y)) ∧ (x = y ↔ rank (.empty :: L) x = rank (.empty :: L) y) := by
    intro x hx y hy
    cases e : lt x y with
    | true =>
      have := rank_lt _ hx e
      refine ⟨by simp [this], ⟨fun h => (by subst h; rw [lt_irrefl] at e), fun h => by omega⟩⟩
    | false =>
      cases e' : lt y x with
      | true =>
        have := rank_lt _ hy e'
        refine ⟨by simp; omega, ⟨fun h => (by subst h; rw [lt_irrefl] at e'), fun h => by omega⟩⟩
      | false =>
        have := lt_total e e'
        subst this
        simp
  have r0 : rank (.empty :: L) .empty = 0 := by
    unfold rank
    rw [List.length_eq_zero_iff, List.filter_eq_nil_iff]
    intro a _
    rw [lt_empty]
    simp
  refine ⟨rank (.empty :: L), r0, fun x hx y hy => key x (List.mem_cons_of_mem _ hx) y (List.mem_cons_of_mem _ hy), fun x hx => ?_⟩
  have := key .empty (List.mem_cons_self ..) x (List.mem_cons_of_mem _ hx)
  rw [r0] at this
  exact ⟨this.1, ⟨fun h => (this.2.1 h.symm).symm, fun h => (this.2.2 h.symm).symm⟩⟩

/-- Whether an end is none. -/
def nil (a : ByteArray) : Bool := a.toList.isEmpty

theorem nil_eq (a : ByteArray) : nil a = decide (a = .empty) := by
  unfold nil
  by_cases h : a = .empty
  · subst h; rw [empty_toList]; simp
  · have : a.toList ≠ [] := fun e => h (nil_iff.1 e)
    simp [h, this]

theorem cmp_eq : ∀ a b : List UInt8, Lib.compareBytes a b = if Op.bytesLess a b then -1 else if Op.bytesLess b a then 1 else 0
  | [], [] => rfl
  | [], _ :: _ => by simp [Lib.compareBytes, Op.bytesLess]
  | _ :: _, [] => by simp [Lib.compareBytes, Op.bytesLess]
  | a :: x, b :: y => by
    simp only [Lib.compareBytes, Op.bytesLess, cmp_eq x y]
    by_cases h1 : a < b
    · simp [h1]
    · by_cases h2 : b < a
      · have : a ≠ b := fun e => h1 (e ▸ e ▸ h2)
        simp [h1, h2, this]
      · have : a = b := UInt8.le_antisymm (UInt8.not_lt.1 h2) (UInt8.not_lt.1 h1)
        subst this
        simp [h1]

/-- Two texts held against each other. -/
def cmp (a b : ByteArray) : Int := Lib.compareBytes a.toList b.toList
theorem cmp_lt (a b : ByteArray) : cmp a b = if lt a b then -1 else if lt b a then 1 else 0 := cmp_eq _ _

/-- Whether a text is below an end. -/
def below (s e : ByteArray) : Bool := nil e || lt s e
/-- Two ends held against each other. -/
def ends (a b : ByteArray) : Int := if nil a != nil b then cmp b a else cmp a b
def inn (r : Rg) (k : ByteArray) : Bool := !lt k r.lo && below k r.hi
def emp (r : Rg) : Bool := !below r.lo r.hi
def most (a b : ByteArray) : ByteArray := if lt a b then b else a
def meet2 (m r : Rg) : Rg := ⟨most m.lo r.lo, if ends r.hi m.hi < 0 then r.hi else m.hi⟩
def all : Rg := ⟨.empty, .empty⟩
def meet (l : List Rg) : Rg := l.foldl meet2 all
def overlap (a b : Rg) : Bool := !emp (meet [a, b])
def covers (a b : Rg) : Bool := emp b || (!lt b.lo a.lo && decide (ends b.hi a.hi ≤ 0))
def hits (l : List Rg) (k : ByteArray) : Bool := l.any fun r => inn r k

end Ky
end Go.Proofs.Ytcoibnlecdemcaa
