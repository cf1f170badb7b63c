/- What came in: operations, bytes, numbers. -/
import Derived.Test.YtdgphlghmjnjfaaInL
namespace Go.Proofs.Ytdgphlghmjnjfaa
open Go.ChangeShapes Go.WideShapes Go.ChangeAt Go.RowKit
set_option linter.unusedVariables false
set_option maxRecDepth 100000

/-- An operation of a script. -/
structure Oop where
  dd : Int
  s : Int
  ts : Int
  odd : Bool

def Oop.cells (o : Oop) : List Value := [.int .i64 o.dd, .int .i64 o.s, .int .i64 o.ts, .bool o.odd]
abbrev Oop.val (o : Oop) : Value := .agg #[.int .i64 o.dd, .int .i64 o.s, .int .i64 o.ts, .bool o.odd]
def Oop.ok (o : Oop) : Prop := (-9223372036854775808 ≤ o.s ∧ o.s ≤ 9223372036854775807) ∧ (-9223372036854775808 ≤ o.ts ∧ o.ts ≤ 9223372036854775807)

theorem bounds_int {v : Int} (w : (Lit.int .i64 v).wf = true) : -9223372036854775808 ≤ v ∧ v ≤ 9223372036854775807 := bounds_i64 w
theorem bounds_b {v : Int} (w : (Lit.int .u8 v).wf = true) : 0 ≤ v ∧ v < 256 := by
  have := bounds_u8 w
  omega

section
variable {H : Type} {enc : TypeId × Value → H} {W : World} {fuel : Nat} {cs : List Value} {x : DataW H × List MemPlace}

theorem in_oop (hf : DataW.trod enc Try.prog W 0 (fun _ => true) true fuel 32 cs = some x) : ∃ g : Oop, cs = g.cells ∧ g.ok := by
  obtain ⟨ys, n, -, rfl, hlen, hys, hall⟩ := DataW.trod_struct Try.underlying32 hf
  have eT : Try.prog.cellsOf 32 = 4 := by kernel_rfl
  rw [eT] at hlen
  obtain ⟨c0, c1, c2, c3, rfl⟩ := list4 hlen
  obtain ⟨y0, y1, y2, y3, rfl⟩ := list4 (l := ys) hys
  have h0 : DataW.trod enc Try.prog W 0 (fun _ => true) true n 3 [c0] = some y0 := by
    have h : DataW.trod enc Try.prog W 0 (fun _ => true) true n 3 (List.take (Try.prog.cellsOf 3) (List.drop 0 [c0, c1, c2, c3])) = some y0 := hall 0 _ rfl
    rw [show Try.prog.cellsOf 3 = 1 by kernel_rfl] at h
    exact h
  have h1 : DataW.trod enc Try.prog W 0 (fun _ => true) true n 3 [c1] = some y1 := by
    have h : DataW.trod enc Try.prog W 0 (fun _ => true) true n 3 (List.take (Try.prog.cellsOf 3) (List.drop 1 [c0, c1, c2, c3])) = some y1 := hall 1 _ rfl
    rw [show Try.prog.cellsOf 3 = 1 by kernel_rfl] at h
    exact h
  have h2 : DataW.trod enc Try.prog W 0 (fun _ => true) true n 2 [c2] = some y2 := by
    have h : DataW.trod enc Try.prog W 0 (fun _ => true) true n 2 (List.take (Try.prog.cellsOf 2) (List.drop 2 [c0, c1, c2, c3])) = some y2 := hall 2 _ rfl
    rw [show Try.prog.cellsOf 2 = 1 by kernel_rfl] at h
    exact h
  have h3 : DataW.trod enc Try.prog W 0 (fun _ => true) true n 4 [c3] = some y3 := by
    have h : DataW.trod enc Try.prog W 0 (fun _ => true) true n 4 (List.take (Try.prog.cellsOf 4) (List.drop 3 [c0, c1, c2, c3])) = some y3 := hall 3 _ rfl
    rw [show Try.prog.cellsOf 4 = 1 by kernel_rfl] at h
    exact h
  obtain ⟨v0, q0, _, w0⟩ := DataW.trod_int Try.underlying3 h0
  obtain ⟨v1, q1, _, w1⟩ := DataW.trod_int Try.underlying3 h1
  obtain ⟨v2, q2, _, w2⟩ := DataW.trod_int Try.underlying2 h2
  obtain ⟨v3, q3, _⟩ := DataW.trod_bool Try.underlying4 h3
  simp only [List.cons.injEq, and_true] at q0 q1 q2 q3
  subst q0 q1 q2 q3
  exact ⟨⟨v0, v1, v2, v3⟩, rfl, bounds_int w1, bounds_int w2⟩
theorem in_u8 (hf : DataW.trod enc Try.prog W 0 (fun _ => true) true fuel 5 cs = some x) : ∃ g : Int, cs = [.int .u8 g] ∧ (0 ≤ g ∧ g < 256) := by
  obtain ⟨v0, q0, _, w0⟩ := DataW.trod_int Try.underlying5 hf
  exact ⟨v0, q0, bounds_b w0⟩
end

abbrev InOo (w : World) (p : Option Addr) (len cap : Nat) (l : List Oop) : Prop := InL Oop.cells Oop.ok 4 4398046510976 w p len cap l
abbrev InU (w : World) (p : Option Addr) (len cap : Nat) (l : List Int) : Prop := InL (fun g : Int => [Value.int .u8 g]) (fun g => 0 ≤ g ∧ g < 256) 1 140737488351232 w p len cap l

section
variable {H : Type} {enc : TypeId × Value → H} {W : World} {a : Option Addr} {len cap : Nat} {d : DataW H} {p : List MemPlace}
theorem in_oops (h : DataW.Trod enc Try.prog W 0 (fun _ => true) true 22 (.slice a len cap) d p) (hB : ∀ n ∈ d.weights Try.prog 22, n ≤ 140737488351232) : ∃ l, InOo W a len cap l :=
  haveI : Inhabited Oop := ⟨⟨0, 0, 0, false⟩⟩
  in_list (B := 32) Try.underlying22 (by kernel_rfl) (by kernel_rfl) (by decide) (fun n hn => by omega) (fun fuel cs x hf => in_oop hf) (fun g => by simp [Oop.cells]) h hB
theorem in_u8s (h : DataW.Trod enc Try.prog W 0 (fun _ => true) true 50 (.slice a len cap) d p) (hB : ∀ n ∈ d.weights Try.prog 50, n ≤ 140737488351232) : ∃ l, InU W a len cap l :=
  in_list (B := 1) Try.underlying50 (by kernel_rfl) (by kernel_rfl) (by decide) (fun n hn => by omega) (fun fuel cs x hf => in_u8 hf) (fun g => by simp) h hB
end
end Go.Proofs.Ytdgphlghmjnjfaa
