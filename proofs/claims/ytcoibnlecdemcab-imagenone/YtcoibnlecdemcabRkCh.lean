/- What is wrong with a chunk: the code's and the document's. -/
import Derived.Test.YtcoibnlecdemcabRkCom2
namespace Go.Proofs.Ytcoibnlecdemcab.Rk
open Go.RowKit
set_option linter.unusedVariables false
set_option maxRecDepth 100000

theorem Rc.chE_bad {n : Int} {l : List St} (h : n < 0 ∨ 4095 < n ∨ 16 < l.length) : Rc.chE n l = 32 := by unfold Rc.chE; rw [if_pos h]
theorem Rc.chE_good {n : Int} {l : List St} (h : ¬ (n < 0 ∨ 4095 < n ∨ 16 < l.length)) : Rc.chE n l = Rc.stsE .empty l := by unfold Rc.chE; rw [if_neg h]

theorem box_chunk (w : World) (n : Int) (s : Value) (d : Bool) : Below w.heap.size w (w.alloc (.cells #[.int .i64 n, s, .bool d] 58)) := (Below.refl _ _).alloc (Nat.le_refl _) _

end Go.Proofs.Ytcoibnlecdemcab.Rk
