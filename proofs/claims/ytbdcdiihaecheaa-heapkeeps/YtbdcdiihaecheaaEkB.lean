/- Epochs: sessions are pinned and let go. -/
import Derived.Test.YtbdcdiihaecheaaEkA
import Derived.Deep.RegionHeld3
namespace Go.Proofs.Ytbdcdiihaecheaa
open Go.RowKit
set_option linter.unusedVariables false
set_option maxRecDepth 100000

theorem Ep.pin_le {e : Ep} (h : ∀ p ∈ e.pins, p ≤ e.now) (s : Nat) : e.pin s ≤ e.now := by
  unfold Ep.pin
  by_cases hs : s < e.pins.length
  · rw [show e.pins.getD s 0 = e.pins[s] by simp [List.getD, hs]]
    exact h _ (List.getElem_mem hs)
  · simp [List.getD, hs]

end Go.Proofs.Ytbdcdiihaecheaa
