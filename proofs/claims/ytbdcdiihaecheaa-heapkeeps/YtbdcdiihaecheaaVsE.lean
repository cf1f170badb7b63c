/- Which versions are the same. -/
import Derived.Test.YtbdcdiihaecheaaVsC
import Derived.Laws.StructEq
namespace Go.Proofs.Ytbdcdiihaecheaa
open Go.RowKit Go.Sort
set_option linter.unusedVariables false
set_option maxRecDepth 100000

/-- Whether two versions are the same. -/
def Vs.eqb (x y : Vs) : Bool := (x.ts == y.ts) && ((x.val.toList == y.val.toList) && (x.del == y.del))

theorem eq_int64V (d : Nat) (x y : Int) (w : World) : (Op.equalIn (d + 1) 2 (.int .i64 x) (.int .i64 y)).run Try.prog w = .ok (x == y) w := by
  simp [Op.equalIn, run_underlying Try.underlying2]
theorem eq_strV (d : Nat) (x y : ByteArray) (w : World) : (Op.equalIn (d + 1) 9 (.string x) (.string y)).run Try.prog w = .ok (x.toList == y.toList) w := by
  simp [Op.equalIn, run_underlying Try.underlying9, beq_toListBytes]
theorem eq_boolV (d : Nat) (x y : Bool) (w : World) : (Op.equalIn (d + 1) 4 (.bool x) (.bool y)).run Try.prog w = .ok (x == y) w := by
  simp [Op.equalIn, run_underlying Try.underlying4]
theorem eq_vD (m : Nat) (h1 : ∀ x y w, (Op.equalIn m 2 (.int .i64 x) (.int .i64 y)).run Try.prog w = .ok (x == y) w) (h2 : ∀ x y w, (Op.equalIn m 9 (.string x) (.string y)).run Try.prog w = .ok (x.toList == y.toList) w)
    (h3 : ∀ x y w, (Op.equalIn m 4 (.bool x) (.bool y)).run Try.prog w = .ok (x == y) w) (x y : Vs) (w : World) :
    (Op.equalIn (m + 1) 34 x.v y.v).run Try.prog w = .ok (Vs.eqb x y) w := by
  obtain ⟨a, b, c⟩ := x
  obtain ⟨d, e, f⟩ := y
  have p0 : ∀ (a : Int) (b : ByteArray) (c : Bool) w, (part 2 #[.int .i64 a, .string b, .bool c] 0).run Try.prog w = .ok (.int .i64 a) w := fun a b c w => by kernel_rfl
  have p1 : ∀ (a : Int) (b : ByteArray) (c : Bool) w, (part 9 #[.int .i64 a, .string b, .bool c] 1).run Try.prog w = .ok (.string b) w := fun a b c w => by kernel_rfl
  have p2 : ∀ (a : Int) (b : ByteArray) (c : Bool) w, (part 4 #[.int .i64 a, .string b, .bool c] 2).run Try.prog w = .ok (.bool c) w := fun a b c w => by kernel_rfl
  have hs : Try.prog.stoodInHeld 34 = false := by kernel_rfl
  unfold Vs.eqb
  simp [Op.equalIn, run_underlying Try.underlying34, p0, p1, p2, h1, h2, h3, hs]
  cases h : (a == d) <;> cases h' : (b.toList == e.toList) <;> cases h'' : (c == f) <;> simp_all
theorem eqIn_v (a d : Int) (b e : ByteArray) (c f : Bool) (w : World) : (Op.equalIn 10000 34 (.agg #[.int .i64 a, .string b, .bool c]) (.agg #[.int .i64 d, .string e, .bool f])).run Try.prog w = .ok (Vs.eqb ⟨a, b, c⟩ ⟨d, e, f⟩) w :=
  eq_vD 9999 (fun x y w => eq_int64V 9998 x y w) (fun x y w => eq_strV 9998 x y w) (fun x y w => eq_boolV 9998 x y w) ⟨a, b, c⟩ ⟨d, e, f⟩ w
theorem run_neq_v (a d : Int) (b e : ByteArray) (c f : Bool) (w : World) : (binOp .neq 34 (.agg #[.int .i64 a, .string b, .bool c]) (.agg #[.int .i64 d, .string e, .bool f])).run Try.prog w = .ok (.bool (!Vs.eqb ⟨a, b, c⟩ ⟨d, e, f⟩)) w := by
  rw [run_neq_struct, eqIn_v]
  rfl
theorem run_eql_v (a d : Int) (b e : ByteArray) (c f : Bool) (w : World) : (binOp .eql 34 (.agg #[.int .i64 a, .string b, .bool c]) (.agg #[.int .i64 d, .string e, .bool f])).run Try.prog w = .ok (.bool (Vs.eqb ⟨a, b, c⟩ ⟨d, e, f⟩)) w := by
  rw [run_eql_struct, eqIn_v]
  rfl

namespace Vr
def same : List Vs → List Vs → Bool
  | [], [] => true
  | x :: r, y :: s => Vs.eqb x y && same r s
  | _, _ => false

theorem same_len {a b : List Vs} (h : ¬ a.length = b.length) : same a b = false := by
  induction a generalizing b with
  | nil => cases b with
    | nil => simp at h
    | cons y s => rfl
  | cons x r ih => cases b with
    | nil => rfl
    | cons y s =>
      simp only [same]
      rw [ih (by simpa using h), Bool.and_false]

theorem eqb_refl (x : Vs) : Vs.eqb x x = true := by simp [Vs.eqb]
theorem same_refl (l : List Vs) : same l l = true := by
  induction l with
  | nil => rfl
  | cons x r ih => simp [same, ih, eqb_refl]

theorem same_drop {a b : List Vs} {k : Nat} {x y : Vs} (hx : a[k]? = some x) (hy : b[k]? = some y) : same (a.drop k) (b.drop k) = (Vs.eqb x y && same (a.drop (k + 1)) (b.drop (k + 1))) := by
  have h1 : k < a.length := (List.getElem?_eq_some_iff.1 hx).1
  have h2 : k < b.length := (List.getElem?_eq_some_iff.1 hy).1
  rw [List.drop_eq_getElem_cons h1, List.drop_eq_getElem_cons h2]
  rw [List.getElem?_eq_getElem h1] at hx
  rw [List.getElem?_eq_getElem h2] at hy
  cases hx
  cases hy
  rfl
end Vr

end Go.Proofs.Ytbdcdiihaecheaa
