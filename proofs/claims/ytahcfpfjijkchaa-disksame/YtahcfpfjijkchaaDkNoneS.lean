/- Of a disk that no call made: what it is like, and what it tells. -/
import Derived.Test.YtahcfpfjijkchaaDkNone
import Derived.Deep.QuietTactic
import Derived.BigQuiet
import Derived.WalkSmall
namespace Go.Proofs.Ytahcfpfjijkchaa
open Go.RowKit Go.Shelf Go.Maps
set_option linter.unusedVariables false

theorem NM.drewN {w : World} {v : Value} (h : NM w v) (n : Nat) : NM (w.drewN n) v := h.below (below_drewN (Below.refl _ _) n)

set_option maxRecDepth 100000 in
set_option maxHeartbeats 2000000 in
theorem same_not {w : World} {v : Value} (h : NM w v) (u : Value) : Calls Try.prog 20 #[v, u] w fun e w' => e = .returned (.bool false) ∧ Below w.heap.size w w' := by
  have H : Hid (∀ n, NM (w.drewN n) v) := fun n => h.drewN n
  clear h
  go_enter Try.func20, Try.ntmps20
  go_wp2_with fail
  go_quiet (first | (go_at_call 35; refine Calls.quiet_of_same (made_not (H.out _))))
  have hb : Below w.heap.size w (w.drewN nq) := below_drewN (Below.refl _ _) nq
  have HB : Hid _ := hb
  generalize w.drewN nq = w1 at *
  go_wp2
  go_ret
  exact ⟨rfl, HB.out⟩

end Go.Proofs.Ytahcfpfjijkchaa
