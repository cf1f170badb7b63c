/- A text in a range; what parts two texts (the document's). -/
import Derived.Test.YtoehlgigidgfpaaGreatPgK
namespace Go.Proofs.YtoehlgigidgfpaaGreat
open Go.RowKit
set_option linter.unusedVariables false
set_option maxRecDepth 100000

theorem Ky.leq_iff (x y : List UInt8) : (Op.bytesLess x y || x == y) = !Op.bytesLess y x := by
  rw [← Ky.gtr_iff x y, Bool.not_and, Bool.not_not, Bool.not_not]

theorem rin_any (r : Rg) (k : ByteArray) (w : World) : Calls Tryz.prog 88 #[r.val, .string k] w fun e w' => e = .returned (.bool (Ky.inn r k)) ∧ Below w.heap.size w w' := by
  have HI : Hid (Ky.inn r k = (!Op.bytesLess k.toList r.lo.toList && (r.hi.toList.isEmpty || Op.bytesLess k.toList r.hi.toList))) := rfl
  cases h : Op.bytesLess k.toList r.lo.toList with
  | true =>
    rw [h] at HI
    go_enter Tryz.func88, Tryz.ntmps88
    go_wp2
    go_ret
    exact ⟨by rw [HI.out]; rfl, (Below.refl _ _).alloc (Nat.le_refl _) _⟩
  | false =>
    rw [h] at HI
    cases h2 : r.hi.toList.isEmpty with
    | true =>
      rw [h2] at HI
      go_enter Tryz.func88, Tryz.ntmps88
      go_wp2
      go_ret
      exact ⟨by rw [HI.out]; rfl, (Below.refl _ _).alloc (Nat.le_refl _) _⟩
    | false =>
      rw [h2] at HI
      go_enter Tryz.func88, Tryz.ntmps88
      go_wp2
      all_goals go_ret
      all_goals exact ⟨by rw [HI.out]; simp, (Below.refl _ _).alloc (Nat.le_refl _) _⟩

theorem rempty_any (r : Rg) (w : World) : Calls Tryz.prog 52 #[r.val] w fun e w' => e = .returned (.bool (Ky.emp r)) ∧ Below w.heap.size w w' := by
  have HI : Hid (Ky.emp r = !(r.hi.toList.isEmpty || Op.bytesLess r.lo.toList r.hi.toList)) := rfl
  have hle := Ky.leq_iff r.hi.toList r.lo.toList
  cases h2 : r.hi.toList.isEmpty with
  | true =>
    rw [h2] at HI
    clear hle
    go_enter Tryz.func52, Tryz.ntmps52
    go_wp2
    go_ret
    exact ⟨by rw [HI.out]; rfl, (Below.refl _ _).alloc (Nat.le_refl _) _⟩
  | false =>
    rw [h2] at HI
    go_enter Tryz.func52, Tryz.ntmps52
    go_wp2
    all_goals go_ret
    all_goals exact ⟨by rw [HI.out]; simp, (Below.refl _ _).alloc (Nat.le_refl _) _⟩


end Go.Proofs.YtoehlgigidgfpaaGreat
