/- Which versions may be: Check. -/
import Derived.Test.YtbdcdiihaecheaaVsB
import Derived.Deep.QuietTactic
import Derived.Deep.RegionHeld3
import Derived.Lib.QuietBelow
namespace Go.Proofs.Ytbdcdiihaecheaa
open Go.RowKit
set_option linter.unusedVariables false
set_option maxRecDepth 100000

/-- Texts that may be in memory. -/
def Vr.Okl (l : List Vs) : Prop := ∀ (i : Nat) x, l[i]? = some x → x.val.size ≤ 9223372036854775807

/-- The timestamp ahead of the j-th one. -/
def Vr.ahead (l : List Vs) (j : Nat) : Int := match j with | 0 => 1099511627777 | i + 1 => (l.getD i Vs.zero).ts
theorem Vr.ahead_succ {l : List Vs} {j : Nat} {x : Vs} (h : l[j]? = some x) : Vr.ahead l (j + 1) = x.ts := by
  unfold Vr.ahead
  simp [List.getD, h]

/-- How Check goes on from the j-th one. -/
theorem Vr.chk_drop {l : List Vs} {j : Nat} {x : Vs} (h : l[j]? = some x) : Vr.chk (Vr.ahead l j) (l.drop j) = if (Vr.fits x && decide (x.ts < Vr.ahead l j)) = true then Vr.chk (Vr.ahead l (j + 1)) (l.drop (j + 1)) else 151 := by
  have hj : j < l.length := (List.getElem?_eq_some_iff.1 h).1
  rw [List.drop_eq_getElem_cons hj, Vr.ahead_succ h]
  have : l[j] = x := by
    rw [List.getElem?_eq_getElem hj] at h
    exact Option.some.inj h
  rw [this]
  rfl

theorem Vr.check_of {l : List Vs} (h : ¬ 1024 < l.length) : Vr.check l = Vr.chk (Vr.ahead l 0) (l.drop 0) := by
  unfold Vr.check
  rw [if_neg h]
  rfl

end Go.Proofs.Ytbdcdiihaecheaa
