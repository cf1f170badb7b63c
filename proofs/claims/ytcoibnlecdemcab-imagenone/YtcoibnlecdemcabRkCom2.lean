/- What is wrong with a commit: the document's. -/
import Derived.Test.YtcoibnlecdemcabRkCom
import Derived.Deep.QuietTactic
import Derived.BigQuiet
namespace Go.Proofs.Ytcoibnlecdemcab.Rk
open Go.RowKit
set_option linter.unusedVariables false
set_option maxRecDepth 100000

/-- What a loop over rising keys knows of the key ahead. -/
def Ahead (l : List ByteArray) (k : Nat) (a : ByteArray) : Prop := (k = 0 → a = .empty) ∧ ∀ j, k = j + 1 → l[j]? = some a

theorem Ahead.next {α : Type} {l : List α} {f : α → ByteArray} {k : Nat} {g : α} (h : l[k]? = some g) : Ahead (l.map f) (k + 1) (f g) := by
  refine ⟨fun h => by omega, fun j hj => ?_⟩
  obtain rfl : k = j := by omega
  rw [List.getElem?_map, h]
  rfl

end Go.Proofs.Ytcoibnlecdemcab.Rk
