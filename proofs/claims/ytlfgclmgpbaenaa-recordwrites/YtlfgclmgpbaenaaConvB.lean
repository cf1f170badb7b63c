import Derived.Test.YtlfgclmgpbaenaaPutText
import Derived.Laws.IdiomStrings
namespace Go.Proofs.Ytlfgclmgpbaenaa
open Go.RowKit
set_option linter.unusedVariables false
set_option maxRecDepth 100000

/-- '[]byte(s)'. -/
theorem conv_bytes (w : World) (s : ByteArray) : ∃ c w', (convert 9 42 (.string s)).run Try.prog w = .ok (.slice (some ⟨w.heap.size, 0, none⟩) s.size c) w' ∧ s.size ≤ c ∧ Bys w' (some ⟨w.heap.size, 0, none⟩) (strB s) ∧ Below w.heap.size w w' := by
  refine ⟨_, _, run_bytes_of_string w 9 42 5 s Try.underlying9 Try.underlying42 Try.underlying5, grownCap_ge _ _ _ _, ?_, ((Below.refl _ _).drew).alloc (Nat.le_refl _) _⟩
  intro _
  refine ⟨w.heap.size, 0, rfl, fun i hi => ?_⟩
  rw [strB_length] at hi
  have hi' : i < s.data.size := hi
  rw [Nat.zero_add, cell_of_row _ w.heap.size i _ 5 _ (heap_alloc_new w.drew _), bytesRow_at s _ i hi']
  have : (strB s).getD i 0 = (s.data[i].toNat : Int) := by
    unfold strB
    simp only [List.getD, List.getElem?_map, Array.getElem?_toList]
    rw [Array.getElem?_eq_getElem hi']
    rfl
  rw [this]

end Go.Proofs.Ytlfgclmgpbaenaa
