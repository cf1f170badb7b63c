/- slices.Clone of commits. -/
import Derived.Test.YtilabcolfabnmaaGnT
import Derived.Test.YtilabcolfabnmaaSbM
import Derived.WalkLawsBesides
import Derived.Lib.SliceRun
namespace Go.Proofs.Ytilabcolfabnmaa
open Go.RowKit
set_option linter.unusedVariables false
set_option maxRecDepth 100000

set_option maxHeartbeats 1000000 in
theorem cloneC_any (p : Option Addr) (len cap : Nat) (l : List Cm) (w : World) (hlen : l.length = len) (hx : Els Cm.cells 2 w p l) (hl : len ≤ 4398046510976) (hp : p = none → len = 0 ∧ cap = 0) :
    Calls Try.prog 45 #[.slice p len cap] w fun e w' => ∃ v, e = .returned v ∧ Own Cm.cells 2 42 w' w.heap.size v l ∧ Below w.heap.size w w' := by
  have qnil : ∀ (w : World) (a : Option Addr) (n c n' c' : Nat), (binOp .eql 24 (.slice a n c) (.slice none n' c')).run Try.prog w = .ok (.bool a.isNone) w := fun w a n c n' c' => Lib.run_eql_slice_nil w _ _ a n c n' c' Try.underlying24
  have HX : Hid (Els Cm.cells 2 w p l) := hx
  have HL : Hid (l.length = len) := hlen
  clear hx hlen
  cases p with
  | none =>
    have hl0 := (hp rfl).1
    go_enter Try.func45, Try.ntmps45
    go_wp2
    go_ret
    have e : l = [] := List.eq_nil_of_length_eq_zero (by have := HL.out; omega)
    subst e
    exact ⟨_, rfl, Own.nil _ _ _, Below.refl _ _⟩
  | some ad =>
    clear hp
    go_enter Try.func45, Try.ntmps45
    go_wp2_with (at_builtin; refine appL cmknd Try.underlying24 cminfo rfl _ rfl _ _ rfl w.heap.size _ [] l rfl (some ad) len cap rfl HL.out ?qc1 (fun h => by cases h) ?qc2 ?qc3 ?qc4 ?qc5 ?_)
    case qc1 => exact HX.out.below ((Below.refl _ _).alloc (Nat.le_refl _) _) (Nat.le_refl _)
    case qc2 => exact World.ownsRow_made w #[] 0 (Nat.le_refl _) (Nat.zero_le _) (by simp)
    case qc3 => unfold maxLen; simp; omega
    case qc4 => simp; omega
    case qc5 => simp
    intro v' w1 hown hgrow hnil
    go_wp2
    go_ret
    exact ⟨v', rfl, by simpa using hown, ((Below.refl _ w).alloc (Nat.le_refl _) _).grown hgrow (by simp) (by intro k hk; simp [Value.ownBlock] at hk; omega)⟩
end Go.Proofs.Ytilabcolfabnmaa
