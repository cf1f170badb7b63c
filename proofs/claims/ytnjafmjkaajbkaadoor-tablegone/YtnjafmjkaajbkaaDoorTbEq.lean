/- Handles are held against each other. -/
import Derived.Test.YtnjafmjkaajbkaaDoorMem
import Derived.Handy
namespace Go.Proofs.YtnjafmjkaajbkaaDoor
open Go.RowKit
set_option linter.unusedVariables false
set_option maxRecDepth 100000

theorem heql (a b c d : Int) (w : World) : (binOp BinOp.eql 32 (.agg #[.int .i64 a, .int .i64 b]) (.agg #[.int .i64 c, .int .i64 d])).run Tryd.prog w = .ok (.bool (decide ((a, b) = (c, d)))) w := by
  have h : (binOp BinOp.eql 32 (.agg #[.int .i64 a, .int .i64 b]) (.agg #[.int .i64 c, .int .i64 d])).run Tryd.prog w = (if a = c then (if b = d then .ok (.bool true) w else .ok (.bool false) w) else .ok (.bool false) w) := by
    simp [go_sem]
  rw [h]
  by_cases h1 : a = c <;> by_cases h2 : b = d <;> simp [h1, h2]

theorem heql_ne {a b c d : Int} (h : ¬ ((a, b) : Int × Int) = (c, d)) : ∀ w : World, (binOp BinOp.eql 32 (.agg #[.int .i64 a, .int .i64 b]) (.agg #[.int .i64 c, .int .i64 d])).run Tryd.prog w = .ok (.bool false) w := fun w => by
  rw [heql, decide_eq_false h]

theorem heql_eq {a b c d : Int} (h : ((a, b) : Int × Int) = (c, d)) : ∀ w : World, (binOp BinOp.eql 32 (.agg #[.int .i64 a, .int .i64 b]) (.agg #[.int .i64 c, .int .i64 d])).run Tryd.prog w = .ok (.bool true) w := fun w => by
  rw [heql, decide_eq_true h]
theorem hneq (a b c d : Int) (w : World) : (binOp BinOp.neq 32 (.agg #[.int .i64 a, .int .i64 b]) (.agg #[.int .i64 c, .int .i64 d])).run Tryd.prog w = .ok (.bool (!decide ((a, b) = (c, d)))) w := by
  have h : (binOp BinOp.neq 32 (.agg #[.int .i64 a, .int .i64 b]) (.agg #[.int .i64 c, .int .i64 d])).run Tryd.prog w = (if a = c then (if b = d then .ok (.bool false) w else .ok (.bool true) w) else .ok (.bool true) w) := by
    simp [go_sem]
  rw [h]
  by_cases h1 : a = c <;> by_cases h2 : b = d <;> simp [h1, h2]
theorem hneq_ne {a b c d : Int} (h : ¬ ((a, b) : Int × Int) = (c, d)) : ∀ w : World, (binOp BinOp.neq 32 (.agg #[.int .i64 a, .int .i64 b]) (.agg #[.int .i64 c, .int .i64 d])).run Tryd.prog w = .ok (.bool true) w := fun w => by
  rw [hneq, decide_eq_false h]
  rfl
theorem hneq_eq {a b c d : Int} (h : ((a, b) : Int × Int) = (c, d)) : ∀ w : World, (binOp BinOp.neq 32 (.agg #[.int .i64 a, .int .i64 b]) (.agg #[.int .i64 c, .int .i64 d])).run Tryd.prog w = .ok (.bool false) w := fun w => by
  rw [hneq, decide_eq_true h]
  rfl
end Go.Proofs.YtnjafmjkaajbkaaDoor
