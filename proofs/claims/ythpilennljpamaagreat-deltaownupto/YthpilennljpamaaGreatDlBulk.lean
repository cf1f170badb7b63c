/- Deltas of a bounded size. -/
import Derived.Test.YthpilennljpamaaGreatPgBulk
import Derived.Test.YthpilennljpamaaGreatDlOpen
namespace Go.Proofs.YthpilennljpamaaGreat
open Go.RowKit
set_option linter.unusedVariables false

theorem delta_upto {H : Type} {l : List (DataW H)} (hk : Rows.uptoSmall H l = true) {d : DataW H} (hd : d ∈ l) :
    ∀ y0 y1 y2 y3 z0 z1 z2 z3 elems spare, d = .agg [y0, y1, y2, y3, .agg [z0, z1, z2, z3, .slice elems spare]] → elems.length + spare.length ≤ 1048576 ∧ ∀ y ∈ elems, ∀ k r, y = .agg (.lit (.string k) :: r) → k.length ≤ 140737488351232 := by
  intro y0 y1 y2 y3 z0 z1 z2 z3 elems spare e
  subst e
  have h1 := bulk_part hd
  have h2 := bulk_bound hk
  have h3 := bulk_length elems
  have h4 := bulk_length spare
  simp only [Rows.uptoBulk, Rows.uptoBulkAll] at h1
  refine ⟨by omega, fun y hy k r hy2 => ?_⟩
  have h5 := bulk_part hy
  rw [hy2] at h5
  simp only [Rows.uptoBulk, Rows.uptoBulkAll] at h5
  omega

end Go.Proofs.YthpilennljpamaaGreat
