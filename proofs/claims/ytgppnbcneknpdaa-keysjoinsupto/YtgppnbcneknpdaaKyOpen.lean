/- Ranges that came in. -/
import Derived.Test.YtgppnbcneknpdaaKyM
import Derived.ProofKit
import Derived.OpenShut
import Derived.ShutString
import Derived.ChangeOld
import Derived.SizedLaws
import Derived.JoinedCond
import Derived.Deep.Slices
namespace Go.Proofs.Ytgppnbcneknpdaa
open Go.ChangeShapes Go.WideShapes Go.ChangeAt Go.RowKit
open Go.ChangeMaps (open_string shut_string)
set_option linter.unusedVariables false
set_option maxRecDepth 100000

theorem own : ownKnob Try.prog.godebug = none := by kernel_rfl
theorem laidOut : laidOutB Try.prog = true := by kernel_rfl

theorem list2 {α : Type} {l : List α} (h : l.length = 2) : ∃ a b, l = [a, b] := by
  match l, h with
  | [a, b], _ => exact ⟨a, b, rfl⟩

theorem rcells_at {W : World} {a : Addr} {n : Nat} {cs : List Value} (h : W.cells? 0 a n = some cs) : ∀ j v, cs[j]? = some v → W.cell? (a.add j) = some v := by
  obtain ⟨_, hl, hc⟩ := World.cells?_some h
  intro j v hv
  have hj : j < n := by
    have := (List.getElem?_eq_some_iff.1 hv).1
    omega
  exact (hc j hj).trans hv

section
variable {H : Type} {enc : TypeId × Value → H} {W : World} {fuel : Nat} {cs : List Value} {x : DataW H × List MemPlace}

theorem in_rg0 (hf : DataW.trod enc Try.prog W 0 (fun _ => true) true fuel 24 cs = some x) : ∃ g : Rg, cs = g.cells ∧ x.1 = .agg [.lit (.string g.lo.data.toList), .lit (.string g.hi.data.toList)] := by
  obtain ⟨ys, n, -, rfl, hlen, hys, hall⟩ := DataW.trod_struct Try.underlying24 hf
  have eT : Try.prog.cellsOf 24 = 2 := by kernel_rfl
  rw [eT] at hlen
  obtain ⟨c0, c1, rfl⟩ := list2 hlen
  obtain ⟨y0, y1, rfl⟩ := list2 (l := ys) hys
  have h0 : DataW.trod enc Try.prog W 0 (fun _ => true) true n 9 [c0] = some y0 := by
    have h : DataW.trod enc Try.prog W 0 (fun _ => true) true n 9 (List.take (Try.prog.cellsOf 9) (List.drop 0 [c0, c1])) = some y0 := hall 0 _ rfl
    rw [show Try.prog.cellsOf 9 = 1 by kernel_rfl] at h
    exact h
  have h1 : DataW.trod enc Try.prog W 0 (fun _ => true) true n 9 [c1] = some y1 := by
    have h : DataW.trod enc Try.prog W 0 (fun _ => true) true n 9 (List.take (Try.prog.cellsOf 9) (List.drop 1 [c0, c1])) = some y1 := hall 1 _ rfl
    rw [show Try.prog.cellsOf 9 = 1 by kernel_rfl] at h
    exact h
  obtain ⟨v0, q0, e0, _⟩ := DataW.trod_string Try.underlying9 h0
  obtain ⟨v1, q1, e1, _⟩ := DataW.trod_string Try.underlying9 h1
  simp only [List.cons.injEq, and_true] at q0 q1
  subst q0 q1
  refine ⟨⟨v0, v1⟩, rfl, ?_⟩
  rw [e0, e1]
  rfl

theorem in_rg (hf : DataW.trod enc Try.prog W 0 (fun _ => true) true fuel 24 cs = some x) : ∃ g : Rg, cs = g.cells := by
  obtain ⟨g, h, _⟩ := in_rg0 hf
  exact ⟨g, h⟩

/-- A range that came in, its texts of no more bytes than can be. -/
theorem in_rgW (hf : DataW.trod enc Try.prog W 0 (fun _ => true) true fuel 24 cs = some x) (hB : ∀ n ∈ x.1.weights Try.prog 24, n ≤ 140737488351232) : ∃ g : Rg, cs = g.cells ∧ g.lo.size ≤ 140737488351232 ∧ g.hi.size ≤ 140737488351232 := by
  obtain ⟨g, h, e⟩ := in_rg0 hf
  refine ⟨g, h, ?_, ?_⟩
  · have := hB g.lo.data.toList.length (by
      rw [e, DataW.weights, Try.underlying24]
      simp [DataW.weights, DataW.weightsEach])
    simpa using this
  · have := hB g.hi.data.toList.length (by
      rw [e, DataW.weights, Try.underlying24]
      simp [DataW.weights, DataW.weightsEach])
    simpa using this
end

end Go.Proofs.Ytgppnbcneknpdaa
