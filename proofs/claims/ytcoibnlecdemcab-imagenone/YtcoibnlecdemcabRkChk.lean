/- What is wrong with a key, a value, a write: the code's and the document's. -/
import Derived.Test.YtcoibnlecdemcabRkM
namespace Go.Proofs.Ytcoibnlecdemcab.Rk
open Go.RowKit
set_option linter.unusedVariables false
set_option maxRecDepth 100000

set_option maxHeartbeats 400000 in
theorem key_any (s : ByteArray) (w : World) : Calls Try.prog 20 #[.string s] w fun e w' => e = .returned (.int .i64 (Rc.keyE s)) ∧ w' = w := by
  have hn := Rc.nil_iff s
  go_enter Try.func20, Try.ntmps20
  go_wp2
  all_goals go_ret
  all_goals (unfold Rc.keyE; simp_all)
  all_goals omega

set_option maxHeartbeats 400000 in
theorem val_any (s : ByteArray) (w : World) : Calls Try.prog 32 #[.string s] w fun e w' => e = .returned (.int .i64 (Rc.valE s)) ∧ w' = w := by
  go_enter Try.func32, Try.ntmps32
  go_wp2
  all_goals go_ret
  all_goals (unfold Rc.valE; simp_all)
  all_goals omega

end Go.Proofs.Ytcoibnlecdemcab.Rk
