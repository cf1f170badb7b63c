/- Pairs are held against each other. -/
import Derived.Test.YtjfmilfplidepaaCeBmP
import Derived.ChangeKeysEq
namespace Go.Proofs.Ytjfmilfplidepaa
open Go.RowKit
set_option maxRecDepth 100000

theorem eq_intC (d : Nat) (x : Int) (w : World) : (Op.equalIn (d + 1) 3 (.int .i64 x) (.int .i64 x)).run Try.prog w = .ok true w := by
  simp [Op.equalIn, run_underlying Try.underlying3]

theorem eq_pairC (d : Nat) (a b : Int) (w : World) : (Op.equalIn (d + 1 + 1) 62 (.agg #[.int .i64 a, .int .i64 b]) (.agg #[.int .i64 a, .int .i64 b])).run Try.prog w = .ok true w := by
  obtain ⟨i, hi⟩ : ∃ i, Try.prog.info? 3 = some i := Option.isSome_iff_exists.1 (by kernel_rfl)
  rw [run_equalIn_array w (d + 1) _ _ Try.underlying62 hi]
  have c1 : Try.prog.cellsOf 3 = 1 := by kernel_rfl
  have p0 : (part 3 #[.int .i64 a, .int .i64 b] (0 * 1)).run Try.prog w = .ok (.int .i64 a) w := by kernel_rfl
  have p1 : (part 3 #[.int .i64 a, .int .i64 b] 1).run Try.prog w = .ok (.int .i64 b) w := by kernel_rfl
  rw [c1]
  simp only [show List.range 2 = [0, 1] from rfl, Op.eqItems, Sem.run_bind, p0, eq_intC, Result.andThen_ok]
  simp [p1, eq_intC]

theorem eq_pair (a b : Int) (w : World) : (Op.equalIn 10000 62 (.agg #[.int .i64 a, .int .i64 b]) (.agg #[.int .i64 a, .int .i64 b])).run Try.prog w = .ok true w := eq_pairC 9998 a b w
end Go.Proofs.Ytjfmilfplidepaa
