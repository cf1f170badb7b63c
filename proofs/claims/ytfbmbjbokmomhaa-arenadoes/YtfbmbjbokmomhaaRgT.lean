/- A region that draws its order: behind its first operations only what reads. -/
import Derived.Test.YtfbmbjbokmomhaaRgM
import Derived.Lib.QuietBelow
namespace Go.Proofs.Ytfbmbjbokmomhaa
open Go.RowKit Go.Sort
set_option linter.unusedVariables false
set_option maxRecDepth 100000
section
variable {P : Program} {ops : Array Oper} {Q : Exit → Act → World → Prop} {md : Region.Mode} {S : World → Prop} {m : Nat}

theorem wpAnyM_of_any : ∀ (fuel : Nat) (listed : Array Bool) (a : Act) (w : World), (∀ i, i < m → listed.getD i true = true) → wpAny P md ops Q fuel listed a w → wpAnyM P md ops Q S m fuel listed a w
  | 0, _, _, _, _, h => h
  | fuel + 1, listed, _, _, hl, h => ⟨h.1, fun i hi => wpOp_mono (fun a' w' h' => ⟨fun hm => absurd (hl i hm) (by rw [(mem_ready.1 hi).1]; decide), wpAnyM_of_any fuel _ a' w' (fun j hj => by
      have hij : i ≠ j := fun e => by
        subst e
        have := hl i hj
        rw [(mem_ready.1 hi).1] at this
        cases this
      rw [getD_set_ne true hij]
      exact hl j hj) h'⟩) (h.2 i hi)⟩

theorem wpAny_tail {C : World → Prop} {a : Act} {w : World} {listed : Array Bool} {fuel : Nat} (k : Nat) (os : List Oper) (hf : os.length = fuel) (hs : Region.noSelect ops = true) (hl : ∀ j, os[j]? = ops[k + j]?) (hB : Region.lexFrom md ops os.length k listed = true) (hw : C w)
    (h : wpQuiet P ops C (fun a' => ∀ w', C w' → Q .normal a' w') os a) : wpAny P md ops Q fuel listed a w := by
  subst hf
  exact wpAny_of_quiet (C := C) (Q := fun a' => ∀ w', C w' → Q .normal a' w') (fun _ w' hw' h => h w' hw') _ _ _ _ hw (wpAnyQ_lex (C := C) hs os k listed a hl hB h)
end
end Go.Proofs.Ytfbmbjbokmomhaa
