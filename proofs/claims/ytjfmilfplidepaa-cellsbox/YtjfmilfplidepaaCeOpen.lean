/- What came in: operations, texts, pairs. -/
import Derived.Test.YtjfmilfplidepaaInL
namespace Go.Proofs.Ytjfmilfplidepaa
open Go.ChangeShapes Go.WideShapes Go.ChangeAt Go.RowKit
open Go.ChangeMaps (open_string shut_string)
set_option linter.unusedVariables false
set_option maxRecDepth 100000

/-- An operation of a script. -/
structure Cop where
  dd : Int
  was : Int
  is : Int
  x : ByteArray

def Cop.cells (o : Cop) : List Value := [.int .i64 o.dd, .int .i64 o.was, .int .i64 o.is, .string o.x]
abbrev Cop.val (o : Cop) : Value := .agg #[.int .i64 o.dd, .int .i64 o.was, .int .i64 o.is, .string o.x]

section
variable {H : Type} {enc : TypeId × Value → H} {W : World} {fuel : Nat} {cs : List Value} {x : DataW H × List MemPlace}

theorem in_cop (hf : DataW.trod enc Try.prog W 0 (fun _ => true) true fuel 30 cs = some x) : ∃ g : Cop, cs = g.cells ∧ True := by
  obtain ⟨ys, n, -, rfl, hlen, hys, hall⟩ := DataW.trod_struct Try.underlying30 hf
  have eT : Try.prog.cellsOf 30 = 4 := by kernel_rfl
  rw [eT] at hlen
  obtain ⟨c0, c1, c2, c3, rfl⟩ := list4 hlen
  obtain ⟨y0, y1, y2, y3, rfl⟩ := list4 (l := ys) hys
  have h0 : DataW.trod enc Try.prog W 0 (fun _ => true) true n 3 [c0] = some y0 := by
    have h : DataW.trod enc Try.prog W 0 (fun _ => true) true n 3 (List.take (Try.prog.cellsOf 3) (List.drop 0 [c0, c1, c2, c3])) = some y0 := hall 0 _ rfl
    rw [show Try.prog.cellsOf 3 = 1 by kernel_rfl] at h
    exact h
  have h1 : DataW.trod enc Try.prog W 0 (fun _ => true) true n 3 [c1] = some y1 := by
    have h : DataW.trod enc Try.prog W 0 (fun _ => true) true n 3 (List.take (Try.prog.cellsOf 3) (List.drop 1 [c0, c1, c2, c3])) = some y1 := hall 1 _ rfl
    rw [show Try.prog.cellsOf 3 = 1 by kernel_rfl] at h
    exact h
  have h2 : DataW.trod enc Try.prog W 0 (fun _ => true) true n 3 [c2] = some y2 := by
    have h : DataW.trod enc Try.prog W 0 (fun _ => true) true n 3 (List.take (Try.prog.cellsOf 3) (List.drop 2 [c0, c1, c2, c3])) = some y2 := hall 2 _ rfl
    rw [show Try.prog.cellsOf 3 = 1 by kernel_rfl] at h
    exact h
  have h3 : DataW.trod enc Try.prog W 0 (fun _ => true) true n 9 [c3] = some y3 := by
    have h : DataW.trod enc Try.prog W 0 (fun _ => true) true n 9 (List.take (Try.prog.cellsOf 9) (List.drop 3 [c0, c1, c2, c3])) = some y3 := hall 3 _ rfl
    rw [show Try.prog.cellsOf 9 = 1 by kernel_rfl] at h
    exact h
  obtain ⟨v0, q0, _, w0⟩ := DataW.trod_int Try.underlying3 h0
  obtain ⟨v1, q1, _, w1⟩ := DataW.trod_int Try.underlying3 h1
  obtain ⟨v2, q2, _, w2⟩ := DataW.trod_int Try.underlying3 h2
  obtain ⟨v3, q3, _, w3⟩ := DataW.trod_string Try.underlying9 h3
  simp only [List.cons.injEq, and_true] at q0 q1 q2 q3
  subst q0 q1 q2 q3
  exact ⟨⟨v0, v1, v2, v3⟩, rfl, trivial⟩

theorem in_str (hf : DataW.trod enc Try.prog W 0 (fun _ => true) true fuel 9 cs = some x) : ∃ g : ByteArray, cs = [.string g] ∧ True := by
  obtain ⟨v3, q3, _, w3⟩ := DataW.trod_string Try.underlying9 hf
  exact ⟨v3, q3, trivial⟩
end

abbrev InC (w : World) (p : Option Addr) (len cap : Nat) (l : List Cop) : Prop := InL Cop.cells (fun _ => True) 4 3518437208780 w p len cap l
abbrev InT (w : World) (p : Option Addr) (len cap : Nat) (l : List ByteArray) : Prop := InL (fun s : ByteArray => [Value.string s]) (fun _ => True) 1 8796093021952 w p len cap l

theorem InC.at4 {w : World} {p : Option Addr} {len cap : Nat} {l : List Cop} (h : InC w p len cap l) {j : Nat} (hj : j < len) : ∃ b o g, p = some ⟨b, o, none⟩ ∧ l[j]? = some g ∧ b < w.heap.size ∧
    w.cell? ⟨b, o + j * 4, none⟩ = some (.int .i64 g.dd) ∧ w.cell? ⟨b, o + j * 4 + 1, none⟩ = some (.int .i64 g.was) ∧ w.cell? ⟨b, o + j * 4 + 2, none⟩ = some (.int .i64 g.is) ∧ w.cell? ⟨b, o + j * 4 + 3, none⟩ = some (.string g.x) := by
  obtain ⟨b, o, g, hp, hg, _, hc⟩ := h.at hj
  exact ⟨b, o, g, hp, hg, World.block_lt_of_cell? w _ (hc 0 _ rfl), hc 0 _ rfl, hc 1 _ rfl, hc 2 _ rfl, hc 3 _ rfl⟩

theorem in_cops {H : Type} {enc : TypeId × Value → H} {W : World} {a : Option Addr} {len cap : Nat} {d : DataW H} {p : List MemPlace}
    (h : DataW.Trod enc Try.prog W 0 (fun _ => true) true 22 (.slice a len cap) d p) (hB : ∀ n ∈ d.weights Try.prog 22, n ≤ 140737488351232) : ∃ l, InC W a len cap l :=
  haveI : Inhabited Cop := ⟨⟨0, 0, 0, .empty⟩⟩
  in_list (B := 40) Try.underlying22 (by kernel_rfl) (by kernel_rfl) (by decide) (fun n hn => by omega) (fun fuel cs x hf => in_cop hf) (fun g => by simp [Cop.cells]) h hB

theorem in_texts {H : Type} {enc : TypeId × Value → H} {W : World} {a : Option Addr} {len cap : Nat} {d : DataW H} {p : List MemPlace}
    (h : DataW.Trod enc Try.prog W 0 (fun _ => true) true 49 (.slice a len cap) d p) (hB : ∀ n ∈ d.weights Try.prog 49, n ≤ 140737488351232) : ∃ l, InT W a len cap l :=
  in_list (B := 16) Try.underlying49 (by kernel_rfl) (by kernel_rfl) (by decide) (fun n hn => by omega) (fun fuel cs x hf => in_str hf) (fun g => by simp) h hB

theorem in_pr {H : Type} {enc : TypeId × Value → H} {W : World} {fuel : Nat} {cs : List Value} {x : DataW H × List MemPlace} (hf : DataW.trod enc Try.prog W 0 (fun _ => true) true fuel 62 cs = some x) : ∃ g : Int × Int, cs = [.int .i64 g.1, .int .i64 g.2] ∧ True := by
  obtain ⟨ys, n, -, rfl, hlen, hys, hall⟩ := DataW.trod_array Try.underlying62 hf
  have eT : Try.prog.cellsOf 62 = 2 := by kernel_rfl
  have e1 : Try.prog.cellsOf 3 = 1 := by kernel_rfl
  rw [eT] at hlen
  obtain ⟨c0, c1, rfl⟩ := list2 hlen
  have h0 := hall 0 (by decide)
  have h1 := hall 1 (by decide)
  rw [e1] at h0 h1
  obtain ⟨y0, y1, rfl⟩ := list2 (l := ys) hys
  obtain ⟨v0, q0, _, w0⟩ := DataW.trod_int Try.underlying3 h0
  obtain ⟨v1, q1, _, w1⟩ := DataW.trod_int Try.underlying3 h1
  simp at q0 q1
  subst q0 q1
  exact ⟨(v0, v1), rfl, trivial⟩

abbrev InP (w : World) (p : Option Addr) (len cap : Nat) (l : List (Int × Int)) : Prop := InL (fun s : Int × Int => [Value.int .i64 s.1, Value.int .i64 s.2]) (fun _ => True) 2 8796093021952 w p len cap l

theorem in_pairs {H : Type} {enc : TypeId × Value → H} {W : World} {a : Option Addr} {len cap : Nat} {d : DataW H} {p : List MemPlace}
    (h : DataW.Trod enc Try.prog W 0 (fun _ => true) true 58 (.slice a len cap) d p) (hB : ∀ n ∈ d.weights Try.prog 58, n ≤ 140737488351232) : ∃ l, InP W a len cap l :=
  in_list (B := 16) Try.underlying58 (by kernel_rfl) (by kernel_rfl) (by decide) (fun n hn => by omega) (fun fuel cs x hf => in_pr hf) (fun g => by simp) h hB
end Go.Proofs.Ytjfmilfplidepaa
