/- What came in: operations, bytes, numbers. -/
import Derived.Test.YtnjokhdedgdjjaaInL
namespace Go.Proofs.Ytnjokhdedgdjjaa
open Go.ChangeShapes Go.WideShapes Go.ChangeAt Go.RowKit
set_option linter.unusedVariables false
set_option maxRecDepth 100000

/-- An operation of a script. -/
structure Sop where
  dd : Int
  n : Int

def Sop.cells (o : Sop) : List Value := [.int .i64 o.dd, .int .i64 o.n]
abbrev Sop.val (o : Sop) : Value := .agg #[.int .i64 o.dd, .int .i64 o.n]
def Sop.ok (o : Sop) : Prop := (-9223372036854775808 ≤ o.dd ∧ o.dd ≤ 9223372036854775807) ∧ (-9223372036854775808 ≤ o.n ∧ o.n ≤ 9223372036854775807)

theorem bounds_int {v : Int} (w : (Lit.int .i64 v).wf = true) : -9223372036854775808 ≤ v ∧ v ≤ 9223372036854775807 := bounds_i64 w
theorem bounds_b {v : Int} (w : (Lit.int .u8 v).wf = true) : 0 ≤ v ∧ v < 256 := by
  have := bounds_u8 w
  omega

section
variable {H : Type} {enc : TypeId × Value → H} {W : World} {fuel : Nat} {cs : List Value} {x : DataW H × List MemPlace}

theorem in_sop (hf : DataW.trod enc Try.prog W 0 (fun _ => true) true fuel 32 cs = some x) : ∃ g : Sop, cs = g.cells ∧ g.ok := by
  obtain ⟨ys, n, -, rfl, hlen, hys, hall⟩ := DataW.trod_struct Try.underlying32 hf
  have eT : Try.prog.cellsOf 32 = 2 := by kernel_rfl
  rw [eT] at hlen
  obtain ⟨c0, c1, rfl⟩ := list2 hlen
  obtain ⟨y0, y1, rfl⟩ := list2 (l := ys) hys
  have h0 : DataW.trod enc Try.prog W 0 (fun _ => true) true n 3 [c0] = some y0 := by
    have h : DataW.trod enc Try.prog W 0 (fun _ => true) true n 3 (List.take (Try.prog.cellsOf 3) (List.drop 0 [c0, c1])) = some y0 := hall 0 _ rfl
    rw [show Try.prog.cellsOf 3 = 1 by kernel_rfl] at h
    exact h
  have h1 : DataW.trod enc Try.prog W 0 (fun _ => true) true n 3 [c1] = some y1 := by
    have h : DataW.trod enc Try.prog W 0 (fun _ => true) true n 3 (List.take (Try.prog.cellsOf 3) (List.drop 1 [c0, c1])) = some y1 := hall 1 _ rfl
    rw [show Try.prog.cellsOf 3 = 1 by kernel_rfl] at h
    exact h
  obtain ⟨v0, q0, _, w0⟩ := DataW.trod_int Try.underlying3 h0
  obtain ⟨v1, q1, _, w1⟩ := DataW.trod_int Try.underlying3 h1
  simp only [List.cons.injEq, and_true] at q0 q1
  subst q0 q1
  exact ⟨⟨v0, v1⟩, rfl, bounds_int w0, bounds_int w1⟩
theorem in_i64 (hf : DataW.trod enc Try.prog W 0 (fun _ => true) true fuel 3 cs = some x) : ∃ g : Int, cs = [.int .i64 g] ∧ (-9223372036854775808 ≤ g ∧ g ≤ 9223372036854775807) := by
  obtain ⟨v0, q0, _, w0⟩ := DataW.trod_int Try.underlying3 hf
  exact ⟨v0, q0, bounds_int w0⟩
theorem in_u8 (hf : DataW.trod enc Try.prog W 0 (fun _ => true) true fuel 5 cs = some x) : ∃ g : Int, cs = [.int .u8 g] ∧ (0 ≤ g ∧ g < 256) := by
  obtain ⟨v0, q0, _, w0⟩ := DataW.trod_int Try.underlying5 hf
  exact ⟨v0, q0, bounds_b w0⟩
end

abbrev InS (w : World) (p : Option Addr) (len cap : Nat) (l : List Sop) : Prop := InL Sop.cells Sop.ok 2 8796093021952 w p len cap l
abbrev InZ (w : World) (p : Option Addr) (len cap : Nat) (l : List Int) : Prop := InL (fun g : Int => [Value.int .i64 g]) (fun g => -9223372036854775808 ≤ g ∧ g ≤ 9223372036854775807) 1 17592186043904 w p len cap l
abbrev InU (w : World) (p : Option Addr) (len cap : Nat) (l : List Int) : Prop := InL (fun g : Int => [Value.int .u8 g]) (fun g => 0 ≤ g ∧ g < 256) 1 140737488351232 w p len cap l

section
variable {H : Type} {enc : TypeId × Value → H} {W : World} {a : Option Addr} {len cap : Nat} {d : DataW H} {p : List MemPlace}
theorem in_sops (h : DataW.Trod enc Try.prog W 0 (fun _ => true) true 22 (.slice a len cap) d p) (hB : ∀ n ∈ d.weights Try.prog 22, n ≤ 140737488351232) : ∃ l, InS W a len cap l :=
  haveI : Inhabited Sop := ⟨⟨0, 0⟩⟩
  in_list (B := 16) Try.underlying22 (by kernel_rfl) (by kernel_rfl) (by decide) (fun n hn => by omega) (fun fuel cs x hf => in_sop hf) (fun g => by simp [Sop.cells]) h hB
theorem in_intl (h : DataW.Trod enc Try.prog W 0 (fun _ => true) true 36 (.slice a len cap) d p) (hB : ∀ n ∈ d.weights Try.prog 36, n ≤ 140737488351232) : ∃ l, InZ W a len cap l :=
  in_list (B := 8) Try.underlying36 (by kernel_rfl) (by kernel_rfl) (by decide) (fun n hn => by omega) (fun fuel cs x hf => in_i64 hf) (fun g => by simp) h hB
theorem in_u8s (h : DataW.Trod enc Try.prog W 0 (fun _ => true) true 42 (.slice a len cap) d p) (hB : ∀ n ∈ d.weights Try.prog 42, n ≤ 140737488351232) : ∃ l, InU W a len cap l :=
  in_list (B := 1) Try.underlying42 (by kernel_rfl) (by kernel_rfl) (by decide) (fun n hn => by omega) (fun fuel cs x hf => in_u8 hf) (fun g => by simp) h hB
end
end Go.Proofs.Ytnjokhdedgdjjaa
