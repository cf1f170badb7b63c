/- slices.SortFunc of no pair. -/
import Derived.Test.YtilabcolfabnmaaPrM
import Derived.WalkLawsBesides
import Derived.Tactics2
import Derived.WalkSmall
namespace Go.Proofs.Ytilabcolfabnmaa
open Go.RowKit
set_option linter.unusedVariables false
set_option maxRecDepth 100000

theorem len64_zero (w : World) : Calls Try.prog 78 #[.int .u64 0] w fun e w' => e = .returned (.int .i64 0) ∧ w' = w := by
  go_enter Try.func78, Try.ntmps78
  go_wp2
  go_ret
  exact ⟨by kernel_rfl, rfl⟩

theorem len_zero (w : World) : Calls Try.prog 65 #[.int .u64 0] w fun e w' => e = .returned (.int .i64 0) ∧ w' = w := by
  go_enter Try.func65, Try.ntmps65
  go_wp2_with (go_at_call 78; refine (len64_zero _).mono ?_; rintro e w1 ⟨rfl, rfl⟩)
  go_ret
  exact ⟨rfl, rfl⟩

theorem insort_nil (p : Option Addr) (c : Nat) (f : Value) (w : World) : Calls Try.prog 69 #[.slice p 0 c, .int .i64 0, .int .i64 0, f] w fun e w' => e = .returned (.tuple #[]) ∧ w' = w := by
  go_enter Try.func69, Try.ntmps69
  go_wp2_with fail
  go_loop [8] (fun i => i = .int .i64 1) (fun _ => 0)
  case atStart => rfl
  case round =>
    subst hrel
    go_wp2
    go_end0
    exact ⟨rfl, rfl⟩

theorem pdq_nil (p : Option Addr) (c : Nat) (f : Value) (w : World) : Calls Try.prog 64 #[.slice p 0 c, .int .i64 0, .int .i64 0, .int .i64 0, f] w fun e w' => e = .returned (.tuple #[]) ∧ w' = w := by
  go_enter Try.func64, Try.ntmps64
  go_wp2_with fail
  go_loop [1, 2] (fun a b => a = .int .i64 0 ∧ b = .int .i64 0) (fun _ _ => 0)
  case atStart => exact ⟨rfl, rfl⟩
  case round =>
    obtain ⟨rfl, rfl⟩ := hrel
    go_wp2_with (go_at_call 69; refine (insort_nil _ _ _ _).mono ?_; rintro e w1 ⟨rfl, rfl⟩)
    exact bodyPost_ret (results_none rfl _ _ _) rfl ⟨rfl, rfl⟩

theorem psort_nil (p : Option Addr) (c : Nat) (f : Value) (w : World) : Calls Try.prog 57 #[.slice p 0 c, f] w fun e w' => e = .returned (.tuple #[]) ∧ w' = w := by
  go_enter Try.func57, Try.ntmps57
  go_wp2_with (first | (go_at_call 65; refine (len_zero _).mono ?_; rintro e w1 ⟨rfl, rfl⟩) | (go_at_call 64; refine (pdq_nil _ _ _ _).mono ?_; rintro e w1 ⟨rfl, rfl⟩))
  go_end0
  exact ⟨rfl, rfl⟩
end Go.Proofs.Ytilabcolfabnmaa
