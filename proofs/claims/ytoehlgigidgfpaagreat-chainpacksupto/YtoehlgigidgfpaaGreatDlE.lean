/- Entries held against each other. -/
import Derived.Test.YtoehlgigidgfpaaGreatPgSm
import Derived.Laws.StructEq
namespace Go.Proofs.YtoehlgigidgfpaaGreat
open Go.RowKit Go.Sort
set_option linter.unusedVariables false
set_option maxRecDepth 100000
theorem beq_str (x y : ByteArray) : (x == y) = (x.toList == y.toList) := by
  exact beq_toListBytes x y
theorem eq_intD (d : Nat) (x y : Int) (w : World) : (Op.equalIn (d + 1) 3 (.int .i64 x) (.int .i64 y)).run Tryz.prog w = .ok (x == y) w := by
  simp [Op.equalIn, run_underlying Tryz.underlying3]
theorem eq_int64D (d : Nat) (x y : Int) (w : World) : (Op.equalIn (d + 1) 2 (.int .i64 x) (.int .i64 y)).run Tryz.prog w = .ok (x == y) w := by
  simp [Op.equalIn, run_underlying Tryz.underlying2]
theorem eq_strD (d : Nat) (x y : ByteArray) (w : World) : (Op.equalIn (d + 1) 9 (.string x) (.string y)).run Tryz.prog w = .ok (x.toList == y.toList) w := by
  simp [Op.equalIn, run_underlying Tryz.underlying9, beq_str]
theorem eq_hndD (m : Nat) (h1 : ∀ x y w, (Op.equalIn m 3 (.int .i64 x) (.int .i64 y)).run Tryz.prog w = .ok (x == y) w) (h2 : ∀ x y w, (Op.equalIn m 2 (.int .i64 x) (.int .i64 y)).run Tryz.prog w = .ok (x == y) w) (s g s' g' : Int) (w : World) :
    (Op.equalIn (m + 1) 31 (.agg #[.int .i64 s, .int .i64 g]) (.agg #[.int .i64 s', .int .i64 g'])).run Tryz.prog w = .ok ((s == s') && (g == g')) w := by
  have p0 : ∀ (a b : Int) w, (part 3 #[.int .i64 a, .int .i64 b] 0).run Tryz.prog w = .ok (.int .i64 a) w := fun a b w => by kernel_rfl
  have p1 : ∀ (a b : Int) w, (part 2 #[.int .i64 a, .int .i64 b] 1).run Tryz.prog w = .ok (.int .i64 b) w := fun a b w => by kernel_rfl
  have hs : Tryz.prog.stoodInHeld 31 = false := by kernel_rfl
  simp [Op.equalIn, run_underlying Tryz.underlying31, p0, p1, h1, h2, hs]
  cases h : (s == s') <;> cases h' : (g == g') <;> simp_all
theorem eq_enD (m : Nat) (h1 : ∀ x y w, (Op.equalIn m 3 (.int .i64 x) (.int .i64 y)).run Tryz.prog w = .ok (x == y) w) (h2 : ∀ x y w, (Op.equalIn m 9 (.string x) (.string y)).run Tryz.prog w = .ok (x.toList == y.toList) w)
    (h3 : ∀ s g s' g' w, (Op.equalIn m 31 (.agg #[.int .i64 s, .int .i64 g]) (.agg #[.int .i64 s', .int .i64 g'])).run Tryz.prog w = .ok ((s == s') && (g == g')) w) (x y : En) (w : World) :
    (Op.equalIn (m + 1) 33 x.val y.val).run Tryz.prog w = .ok (En.eqb x y) w := by
  obtain ⟨xk, xs, xg, xc⟩ := x
  obtain ⟨yk, ys, yg, yc⟩ := y
  have p0 : ∀ (k : ByteArray) (a b c : Int) w, (part 9 #[.string k, .int .i64 a, .int .i64 b, .int .i64 c] 0).run Tryz.prog w = .ok (.string k) w := fun k a b c w => by kernel_rfl
  have p1 : ∀ (k : ByteArray) (a b c : Int) w, (part 31 #[.string k, .int .i64 a, .int .i64 b, .int .i64 c] 1).run Tryz.prog w = .ok (.agg #[.int .i64 a, .int .i64 b]) w := fun k a b c w => by kernel_rfl
  have p2 : ∀ (k : ByteArray) (a b c : Int) w, (part 3 #[.string k, .int .i64 a, .int .i64 b, .int .i64 c] 3).run Tryz.prog w = .ok (.int .i64 c) w := fun k a b c w => by kernel_rfl
  have hs : Tryz.prog.stoodInHeld 33 = false := by kernel_rfl
  unfold En.eqb
  simp [Op.equalIn, run_underlying Tryz.underlying33, p0, p1, p2, h1, h2, h3, hs]
  cases h : (xk.toList == yk.toList) <;> cases h' : (xs == ys) <;> cases h'' : (xg == yg) <;> cases h3 : (xc == yc) <;> simp_all
theorem run_eql_en (x y : En) (w : World) : (binOp .eql 33 x.val y.val).run Tryz.prog w = .ok (.bool (En.eqb x y)) w := by
  have := eq_enD 9999 (fun x y w => eq_intD 9998 x y w) (fun x y w => eq_strD 9998 x y w) (fun s g s' g' w => eq_hndD 9998 (fun x y w => eq_intD 9997 x y w) (fun x y w => eq_int64D 9997 x y w) s g s' g' w) x y w
  have h : (Op.equal 33 x.val y.val).run Tryz.prog w = .ok (En.eqb x y) w := this
  simp [binOp, go_sem, h]

theorem eqIn_en (xk yk : ByteArray) (xs xg xc ys yg yc : Int) (w : World) : (Op.equalIn 10000 33 (.agg #[.string xk, .int .i64 xs, .int .i64 xg, .int .i64 xc]) (.agg #[.string yk, .int .i64 ys, .int .i64 yg, .int .i64 yc])).run Tryz.prog w = .ok (En.eqb ⟨xk, xs, xg, xc⟩ ⟨yk, ys, yg, yc⟩) w :=
  eq_enD 9999 (fun x y w => eq_intD 9998 x y w) (fun x y w => eq_strD 9998 x y w) (fun s g s' g' w => eq_hndD 9998 (fun x y w => eq_intD 9997 x y w) (fun x y w => eq_int64D 9997 x y w) s g s' g' w) ⟨xk, xs, xg, xc⟩ ⟨yk, ys, yg, yc⟩ w
end Go.Proofs.YtoehlgigidgfpaaGreat
