/- What came in: operations, with their pages' bounds. -/
import Derived.Test.YtnjafmjkaajbkaaDoorTbOpen
namespace Go.Proofs.YtnjafmjkaajbkaaDoor
open Go.ChangeShapes Go.WideShapes Go.ChangeAt Go.RowKit
open Go.ChangeMaps (open_string shut_string)
set_option linter.unusedVariables false
set_option maxRecDepth 100000

section
variable {H : Type} {enc : TypeId × Value → H} {W : World} {fuel : Nat} {cs : List Value} {x : DataW H × List MemPlace}
theorem in_topw (hf : DataW.trod enc Tryd.prog W 0 (fun _ => true) true fuel 34 cs = some x) : ∃ g : Top, cs = g.cells ∧ (Lit.int .i64 g.page).wf = true := by
  obtain ⟨ys, n, -, rfl, hlen, hys, hall⟩ := DataW.trod_struct Tryd.underlying34 hf
  have eT : Tryd.prog.cellsOf 34 = 6 := by kernel_rfl
  rw [eT] at hlen
  obtain ⟨c0, c1, c2, c3, c4, c5, rfl⟩ := list6 hlen
  obtain ⟨y0, y1, y2, y3, rfl⟩ := list4 (l := ys) hys
  have h0 : DataW.trod enc Tryd.prog W 0 (fun _ => true) true n 3 [c0] = some y0 := by
    have h : DataW.trod enc Tryd.prog W 0 (fun _ => true) true n 3 (List.take (Tryd.prog.cellsOf 3) (List.drop 0 [c0, c1, c2, c3, c4, c5])) = some y0 := hall 0 _ rfl
    rw [show Tryd.prog.cellsOf 3 = 1 by kernel_rfl] at h
    exact h
  have h1 : DataW.trod enc Tryd.prog W 0 (fun _ => true) true n 3 [c1] = some y1 := by
    have h : DataW.trod enc Tryd.prog W 0 (fun _ => true) true n 3 (List.take (Tryd.prog.cellsOf 3) (List.drop 1 [c0, c1, c2, c3, c4, c5])) = some y1 := hall 1 _ rfl
    rw [show Tryd.prog.cellsOf 3 = 1 by kernel_rfl] at h
    exact h
  have h2 : DataW.trod enc Tryd.prog W 0 (fun _ => true) true n 32 [c2, c3] = some y2 := by
    have h : DataW.trod enc Tryd.prog W 0 (fun _ => true) true n 32 (List.take (Tryd.prog.cellsOf 32) (List.drop 2 [c0, c1, c2, c3, c4, c5])) = some y2 := hall 2 _ rfl
    rw [show Tryd.prog.cellsOf 32 = 2 by kernel_rfl] at h
    exact h
  have h3 : DataW.trod enc Tryd.prog W 0 (fun _ => true) true n 32 [c4, c5] = some y3 := by
    have h : DataW.trod enc Tryd.prog W 0 (fun _ => true) true n 32 (List.take (Tryd.prog.cellsOf 32) (List.drop 4 [c0, c1, c2, c3, c4, c5])) = some y3 := hall 3 _ rfl
    rw [show Tryd.prog.cellsOf 32 = 2 by kernel_rfl] at h
    exact h
  obtain ⟨v0, q0, _, w0⟩ := DataW.trod_int Tryd.underlying3 h0
  obtain ⟨v1, q1, _, w1⟩ := DataW.trod_int Tryd.underlying3 h1
  obtain ⟨a2, b2, q2, -⟩ := in_hnd h2
  obtain ⟨a3, b3, q3, -⟩ := in_hnd h3
  simp only [List.cons.injEq, and_true] at q0 q1 q2 q3
  obtain ⟨rfl, rfl⟩ := q2
  obtain ⟨rfl, rfl⟩ := q3
  subst q0 q1
  exact ⟨⟨v0, v1, (a2, b2), (a3, b3)⟩, rfl, w1⟩

end

abbrev InW (w : World) (p : Option Addr) (len cap : Nat) (l : List Top) : Prop := InL Top.cells (fun o => (Lit.int .i64 o.page).wf = true) 6 2932031007401 w p len cap l

theorem in_topsw {H : Type} {enc : TypeId × Value → H} {W : World} {a : Option Addr} {len cap : Nat} {d : DataW H} {p : List MemPlace}
    (h : DataW.Trod enc Tryd.prog W 0 (fun _ => true) true 22 (.slice a len cap) d p) (hB : ∀ n ∈ d.weights Tryd.prog 22, n ≤ 140737488351232) : ∃ l, InW W a len cap l :=
  haveI : Inhabited Top := ⟨⟨0, 0, (0, 0), (0, 0)⟩⟩
  in_list (B := 48) Tryd.underlying22 (by kernel_rfl) (by kernel_rfl) (by decide) (fun n hn => by omega) (fun fuel cs x hf => in_topw hf) (fun g => by simp [Top.cells]) h hB

theorem InW.at6 {w : World} {p : Option Addr} {len cap : Nat} {l : List Top} (h : InW w p len cap l) {j : Nat} (hj : j < len) : ∃ (b o : Nat) (g : Top), p = some ⟨b, o, none⟩ ∧ (Lit.int .i64 g.page).wf = true ∧
    w.cell? ⟨b, o + j * 6, none⟩ = some (.int .i64 g.dd) ∧ w.cell? ⟨b, o + j * 6 + 1, none⟩ = some (.int .i64 g.page) ∧ w.cell? ⟨b, o + j * 6 + 2, none⟩ = some (.int .i64 g.was.1) ∧ w.cell? ⟨b, o + j * 6 + 3, none⟩ = some (.int .i64 g.was.2) ∧ w.cell? ⟨b, o + j * 6 + 4, none⟩ = some (.int .i64 g.is.1) ∧ w.cell? ⟨b, o + j * 6 + 5, none⟩ = some (.int .i64 g.is.2) := by
  obtain ⟨b, o, g, hp, hg, hw, hc⟩ := h.at hj
  exact ⟨b, o, g, hp, hw, hc 0 _ rfl, hc 1 _ rfl, hc 2 _ rfl, hc 3 _ rfl, hc 4 _ rfl, hc 5 _ rfl⟩
end Go.Proofs.YtnjafmjkaajbkaaDoor
