/- What is wrong with a commit: the code's and the document's. -/
import Derived.Test.YtcoibnlecdemcabRkChk
namespace Go.Proofs.Ytcoibnlecdemcab.Rk
open Go.RowKit
set_option linter.unusedVariables false
set_option maxRecDepth 100000

theorem Rc.drop_at {α : Type} {l : List α} {k : Nat} {g : α} (h : l[k]? = some g) : l.drop k = g :: l.drop (k + 1) := by
  obtain ⟨hk, rfl⟩ := List.getElem?_eq_some_iff.1 h
  exact List.drop_eq_getElem_cons hk

theorem Rc.comE_bad {ts : Int} {l : List Wr} (h : ts < 1 ∨ 1099511627776 < ts ∨ l.length = 0 ∨ 64 < l.length) : Rc.comE ts l = 32 := by unfold Rc.comE; rw [if_pos h]
theorem Rc.comE_good {ts : Int} {l : List Wr} (h : ¬ (ts < 1 ∨ 1099511627776 < ts ∨ l.length = 0 ∨ 64 < l.length)) : Rc.comE ts l = Rc.wsE .empty l := by unfold Rc.comE; rw [if_neg h]

end Go.Proofs.Ytcoibnlecdemcab.Rk
