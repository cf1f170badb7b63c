/- What came in: versions. -/
import Derived.Test.YtcoibnlecdemcaaInL
import Derived.Test.YtcoibnlecdemcaaVsC
namespace Go.Proofs.Ytcoibnlecdemcaa
open Go.ChangeShapes Go.WideShapes Go.ChangeAt Go.RowKit
set_option linter.unusedVariables false
set_option maxRecDepth 100000

def Vs.ok (x : Vs) : Prop := x.val.size ≤ 9223372036854775807

section
variable {H : Type} {enc : TypeId × Value → H} {W : World} {fuel : Nat} {cs : List Value} {x : DataW H × List MemPlace}

theorem in_ver (hf : DataW.trod enc Try.prog W 0 (fun _ => true) true fuel 83 cs = some x) : ∃ g : Vs, cs = g.cells ∧ g.ok := by
  obtain ⟨ys, n, -, rfl, hlen, hys, hall⟩ := DataW.trod_struct Try.underlying83 hf
  have eT : Try.prog.cellsOf 83 = 3 := by kernel_rfl
  rw [eT] at hlen
  obtain ⟨c0, c1, c2, rfl⟩ := list3 hlen
  obtain ⟨y0, y1, y2, rfl⟩ := list3 (l := ys) hys
  have h0 : DataW.trod enc Try.prog W 0 (fun _ => true) true n 2 [c0] = some y0 := by
    have h : DataW.trod enc Try.prog W 0 (fun _ => true) true n 2 (List.take (Try.prog.cellsOf 2) (List.drop 0 [c0, c1, c2])) = some y0 := hall 0 _ rfl
    rw [show Try.prog.cellsOf 2 = 1 by kernel_rfl] at h
    exact h
  have h1 : DataW.trod enc Try.prog W 0 (fun _ => true) true n 9 [c1] = some y1 := by
    have h : DataW.trod enc Try.prog W 0 (fun _ => true) true n 9 (List.take (Try.prog.cellsOf 9) (List.drop 1 [c0, c1, c2])) = some y1 := hall 1 _ rfl
    rw [show Try.prog.cellsOf 9 = 1 by kernel_rfl] at h
    exact h
  have h2 : DataW.trod enc Try.prog W 0 (fun _ => true) true n 4 [c2] = some y2 := by
    have h : DataW.trod enc Try.prog W 0 (fun _ => true) true n 4 (List.take (Try.prog.cellsOf 4) (List.drop 2 [c0, c1, c2])) = some y2 := hall 2 _ rfl
    rw [show Try.prog.cellsOf 4 = 1 by kernel_rfl] at h
    exact h
  obtain ⟨v0, q0, _, w0⟩ := DataW.trod_int Try.underlying2 h0
  obtain ⟨v1, q1, _, w1⟩ := DataW.trod_string Try.underlying9 h1
  obtain ⟨v2, q2, _⟩ := DataW.trod_bool Try.underlying4 h2
  simp only [List.cons.injEq, and_true] at q0 q1 q2
  subst q0 q1 q2
  exact ⟨⟨v0, v1, v2⟩, rfl, by unfold maxLen at w1; exact w1⟩
end

/-- Versions that came in. -/
abbrev InV (W : World) (a : Option Addr) (len cap : Nat) (l : List Vs) : Prop := InL Vs.cells Vs.ok 3 4398046510976 W a len cap l
theorem in_vers {H : Type} {enc : TypeId × Value → H} {W : World} {a : Option Addr} {len cap : Nat} {d : DataW H} {p : List MemPlace}
    (h : DataW.Trod enc Try.prog W 0 (fun _ => true) true 31 (.slice a len cap) d p) (hB : ∀ n ∈ d.weights Try.prog 31, n ≤ 140737488351232) : ∃ l, InV W a len cap l :=
  haveI : Inhabited Vs := ⟨Vs.zero⟩
  in_list (k := 3) (B := 32) Try.underlying31 (by kernel_rfl) (by kernel_rfl) (by decide) (fun n hn => by omega) (fun fuel cs x hf => in_ver hf) (fun g => by simp [Vs.cells]) h hB

theorem InV.vrs {W : World} {a : Option Addr} {len cap : Nat} {l : List Vs} (h : InV W a len cap l) : Vrs W a l ∧ l.length = len ∧ Vr.Okl l ∧ (a = none → len = 0 ∧ cap = 0) ∧ len ≤ 4398046510976 :=
  ⟨fun hl => h.cel (by rw [← h.lenq]; exact hl), h.lenq, fun i x hx => h.ok x (List.mem_of_getElem? hx), h.nil, Nat.le_trans h.le h.room⟩
end Go.Proofs.Ytcoibnlecdemcaa
