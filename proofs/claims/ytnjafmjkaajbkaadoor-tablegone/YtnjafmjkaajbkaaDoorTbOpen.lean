/- What came in: operations, handles; the table of the library. -/
import Derived.Test.YtnjafmjkaajbkaaDoorInL
import Derived.Lib.LaidTab
import Derived.Lib.TrailingZeros
import Derived.Deep.DeepHandedRow
import Derived.Test.YtnjafmjkaajbkaaDoorCards
import Derived.Test.YtnjafmjkaajbkaaDoorTie
namespace Go.Proofs.YtnjafmjkaajbkaaDoor
open Go.ChangeShapes Go.WideShapes Go.ChangeAt Go.RowKit
open Go.ChangeMaps (open_string shut_string)
set_option linter.unusedVariables false
set_option maxRecDepth 100000

/-- An operation of a script. -/
structure Top where
  dd : Int
  page : Int
  was : Int × Int
  is : Int × Int

def Top.cells (o : Top) : List Value := [.int .i64 o.dd, .int .i64 o.page, .int .i64 o.was.1, .int .i64 o.was.2, .int .i64 o.is.1, .int .i64 o.is.2]
abbrev Top.val (o : Top) : Value := .agg #[.int .i64 o.dd, .int .i64 o.page, .int .i64 o.was.1, .int .i64 o.was.2, .int .i64 o.is.1, .int .i64 o.is.2]

theorem list6 {α : Type} {l : List α} (h : l.length = 6) : ∃ a b c d e f, l = [a, b, c, d, e, f] := by
  match l, h with
  | [a, b, c, d, e, f], _ => exact ⟨a, b, c, d, e, f, rfl⟩

section
variable {H : Type} {enc : TypeId × Value → H} {W : World} {fuel : Nat} {cs : List Value} {x : DataW H × List MemPlace}

theorem in_hnd (hf : DataW.trod enc Tryd.prog W 0 (fun _ => true) true fuel 32 cs = some x) : ∃ s g : Int, cs = [.int .i64 s, .int .i64 g] ∧ (-9223372036854775808 ≤ s ∧ s ≤ 9223372036854775807) ∧ (-9223372036854775808 ≤ g ∧ g ≤ 9223372036854775807) := by
  obtain ⟨ys, n, -, rfl, hlen, hys, hall⟩ := DataW.trod_struct Tryd.underlying32 hf
  have eT : Tryd.prog.cellsOf 32 = 2 := by kernel_rfl
  rw [eT] at hlen
  obtain ⟨c0, c1, rfl⟩ := list2 hlen
  obtain ⟨y0, y1, rfl⟩ := list2 (l := ys) hys
  have h0 : DataW.trod enc Tryd.prog W 0 (fun _ => true) true n 3 [c0] = some y0 := by
    have h : DataW.trod enc Tryd.prog W 0 (fun _ => true) true n 3 (List.take (Tryd.prog.cellsOf 3) (List.drop 0 [c0, c1])) = some y0 := hall 0 _ rfl
    rw [show Tryd.prog.cellsOf 3 = 1 by kernel_rfl] at h
    exact h
  have h1 : DataW.trod enc Tryd.prog W 0 (fun _ => true) true n 2 [c1] = some y1 := by
    have h : DataW.trod enc Tryd.prog W 0 (fun _ => true) true n 2 (List.take (Tryd.prog.cellsOf 2) (List.drop 1 [c0, c1])) = some y1 := hall 1 _ rfl
    rw [show Tryd.prog.cellsOf 2 = 1 by kernel_rfl] at h
    exact h
  obtain ⟨v0, q0, _, w0⟩ := DataW.trod_int Tryd.underlying3 h0
  obtain ⟨v1, q1, _, w1⟩ := DataW.trod_int Tryd.underlying2 h1
  simp only [List.cons.injEq, and_true] at q0 q1
  subst q0 q1
  exact ⟨v0, v1, rfl, bounds_i64 w0, bounds_i64 w1⟩

theorem in_top (hf : DataW.trod enc Tryd.prog W 0 (fun _ => true) true fuel 34 cs = some x) : ∃ g : Top, cs = g.cells ∧ True := by
  obtain ⟨ys, n, -, rfl, hlen, hys, hall⟩ := DataW.trod_struct Tryd.underlying34 hf
  have eT : Tryd.prog.cellsOf 34 = 6 := by kernel_rfl
  rw [eT] at hlen
  obtain ⟨c0, c1, c2, c3, c4, c5, rfl⟩ := list6 hlen
  obtain ⟨y0, y1, y2, y3, rfl⟩ := list4 (l := ys) hys
  have h0 : DataW.trod enc Tryd.prog W 0 (fun _ => true) true n 3 [c0] = some y0 := by
    have h : DataW.trod enc Tryd.prog W 0 (fun _ => true) true n 3 (List.take (Tryd.prog.cellsOf 3) (List.drop 0 [c0, c1, c2, c3, c4, c5])) = some y0 := hall 0 _ rfl
    rw [show Tryd.prog.cellsOf 3 = 1 by kernel_rfl] at h
    exact h
  have h1 : DataW.trod enc Tryd.prog W 0 (fun _ => true) true n 3 [c1] = some y1 := by
    have h : DataW.trod enc Tryd.prog W 0 (fun _ => true) true n 3 (List.take (Tryd.prog.cellsOf 3) (List.drop 1 [c0, c1, c2, c3, c4, c5])) = some y1 := hall 1 _ rfl
    rw [show Tryd.prog.cellsOf 3 = 1 by kernel_rfl] at h
    exact h
  have h2 : DataW.trod enc Tryd.prog W 0 (fun _ => true) true n 32 [c2, c3] = some y2 := by
    have h : DataW.trod enc Tryd.prog W 0 (fun _ => true) true n 32 (List.take (Tryd.prog.cellsOf 32) (List.drop 2 [c0, c1, c2, c3, c4, c5])) = some y2 := hall 2 _ rfl
    rw [show Tryd.prog.cellsOf 32 = 2 by kernel_rfl] at h
    exact h
  have h3 : DataW.trod enc Tryd.prog W 0 (fun _ => true) true n 32 [c4, c5] = some y3 := by
    have h : DataW.trod enc Tryd.prog W 0 (fun _ => true) true n 32 (List.take (Tryd.prog.cellsOf 32) (List.drop 4 [c0, c1, c2, c3, c4, c5])) = some y3 := hall 3 _ rfl
    rw [show Tryd.prog.cellsOf 32 = 2 by kernel_rfl] at h
    exact h
  obtain ⟨v0, q0, _, w0⟩ := DataW.trod_int Tryd.underlying3 h0
  obtain ⟨v1, q1, _, w1⟩ := DataW.trod_int Tryd.underlying3 h1
  obtain ⟨a2, b2, q2, -⟩ := in_hnd h2
  obtain ⟨a3, b3, q3, -⟩ := in_hnd h3
  simp only [List.cons.injEq, and_true] at q0 q1 q2 q3
  obtain ⟨rfl, rfl⟩ := q2
  obtain ⟨rfl, rfl⟩ := q3
  subst q0 q1
  exact ⟨⟨v0, v1, (a2, b2), (a3, b3)⟩, rfl, trivial⟩

theorem in_hd (hf : DataW.trod enc Tryd.prog W 0 (fun _ => true) true fuel 32 cs = some x) : ∃ g : Int × Int, cs = [.int .i64 g.1, .int .i64 g.2] ∧ True := by
  obtain ⟨a, b, q, -⟩ := in_hnd hf
  exact ⟨(a, b), q, trivial⟩
end

abbrev InO (w : World) (p : Option Addr) (len cap : Nat) (l : List Top) : Prop := InL Top.cells (fun _ => True) 6 2932031007401 w p len cap l
abbrev InH (w : World) (p : Option Addr) (len cap : Nat) (l : List (Int × Int)) : Prop := InL (fun s : Int × Int => [Value.int .i64 s.1, Value.int .i64 s.2]) (fun _ => True) 2 8796093021952 w p len cap l

theorem in_tops {H : Type} {enc : TypeId × Value → H} {W : World} {a : Option Addr} {len cap : Nat} {d : DataW H} {p : List MemPlace}
    (h : DataW.Trod enc Tryd.prog W 0 (fun _ => true) true 22 (.slice a len cap) d p) (hB : ∀ n ∈ d.weights Tryd.prog 22, n ≤ 140737488351232) : ∃ l, InO W a len cap l :=
  haveI : Inhabited Top := ⟨⟨0, 0, (0, 0), (0, 0)⟩⟩
  in_list (B := 48) Tryd.underlying22 (by kernel_rfl) (by kernel_rfl) (by decide) (fun n hn => by omega) (fun fuel cs x hf => in_top hf) (fun g => by simp [Top.cells]) h hB

theorem in_hnds {H : Type} {enc : TypeId × Value → H} {W : World} {a : Option Addr} {len cap : Nat} {d : DataW H} {p : List MemPlace}
    (h : DataW.Trod enc Tryd.prog W 0 (fun _ => true) true 52 (.slice a len cap) d p) (hB : ∀ n ∈ d.weights Tryd.prog 52, n ≤ 140737488351232) : ∃ l, InH W a len cap l :=
  in_list (B := 16) Tryd.underlying52 (by kernel_rfl) (by kernel_rfl) (by decide) (fun n hn => by omega) (fun fuel cs x hf => in_hd hf) (fun g => by simp) h hB

theorem InO.at6 {w : World} {p : Option Addr} {len cap : Nat} {l : List Top} (h : InO w p len cap l) {j : Nat} (hj : j < len) : ∃ b o g, p = some ⟨b, o, none⟩ ∧ l[j]? = some g ∧ b < w.heap.size ∧
    w.cell? ⟨b, o + j * 6, none⟩ = some (.int .i64 g.dd) ∧ w.cell? ⟨b, o + j * 6 + 1, none⟩ = some (.int .i64 g.page) ∧ w.cell? ⟨b, o + j * 6 + 2, none⟩ = some (.int .i64 g.was.1) ∧ w.cell? ⟨b, o + j * 6 + 3, none⟩ = some (.int .i64 g.was.2) ∧ w.cell? ⟨b, o + j * 6 + 4, none⟩ = some (.int .i64 g.is.1) ∧ w.cell? ⟨b, o + j * 6 + 5, none⟩ = some (.int .i64 g.is.2) := by
  obtain ⟨b, o, g, hp, hg, _, hc⟩ := h.at hj
  exact ⟨b, o, g, hp, hg, World.block_lt_of_cell? w _ (hc 0 _ rfl), hc 0 _ rfl, hc 1 _ rfl, hc 2 _ rfl, hc 3 _ rfl, hc 4 _ rfl, hc 5 _ rfl⟩

theorem InH.at2 {w : World} {p : Option Addr} {len cap : Nat} {l : List (Int × Int)} (h : InH w p len cap l) {j : Nat} (hj : j < len) : ∃ b o g, p = some ⟨b, o, none⟩ ∧ l[j]? = some g ∧ b < w.heap.size ∧
    w.cell? ⟨b, o + j * 2, none⟩ = some (.int .i64 g.1) ∧ w.cell? ⟨b, o + j * 2 + 1, none⟩ = some (.int .i64 g.2) := by
  obtain ⟨b, o, g, hp, hg, _, hc⟩ := h.at hj
  exact ⟨b, o, g, hp, hg, World.block_lt_of_cell? w _ (hc 0 _ rfl), hc 0 _ rfl, hc 1 _ rfl⟩

/-- The library's table: what its cells hold. -/
def Tab (w : World) : Prop := ∀ j, j < 64 → w.cell? ⟨0, j, none⟩ = some (.int .u8 ((Lib.deBruijn64tab.getD j 0 : Nat) : Int))

theorem gTab : Tryd.prog.globalNamed "math/bits.deBruijn64tab" = some 0 := by kernel_rfl
theorem gTabType : (Tryd.prog.globals[0]?).map (·.type) = some 106 := by kernel_rfl
theorem cellsTab : Tryd.prog.cellsOf 106 = 64 := by kernel_rfl
theorem cellsU8 : Tryd.prog.cellsOf 5 = 1 := by kernel_rfl
def tabInts : List Int := Lib.deBruijn64tab.map fun (n : Nat) => (n : Int)
theorem tab_of {W : World} (h : laidMetH Tryd.prog [("math/bits.deBruijn64tab", Rows.laid_math_bits_deBruijn64tab)] W) : Tab W := by
  have hT : Lib.TabIs Tryd.prog W "math/bits.deBruijn64tab" .u8 tabInts := Lib.tabIs_of_head (rest := []) gTab gTabType Tryd.underlying106 Tryd.underlying5 cellsU8 cellsTab h
  intro j hj
  have hl : j < Lib.deBruijn64tab.length := by rw [show Lib.deBruijn64tab.length = 64 by decide]; exact hj
  have := hT.cell gTab j (by rw [tabInts, List.length_map]; exact hl)
  rw [this]
  simp [tabInts, List.getD, hl]

theorem Tab.below {w w' : World} (h : Tab w) (hb : Below w.heap.size w w') : Tab w' := fun j hj => by
  have hh := h j hj
  rw [hb.cell (p := ⟨0, j, none⟩) (World.block_lt_of_cell? w _ hh)]
  exact hh
theorem Tab.lt {w : World} (h : Tab w) : 0 < w.heap.size := World.block_lt_of_cell? w _ (h 0 (by decide))
theorem Tab.tn {S : List Nat} {w w' : World} (h : Tab w) (ht : Tn S w w') (hS : 0 ∉ S) : Tab w' := fun j hj => by
  have hh := h j hj
  simp only [World.cell?] at hh ⊢
  rw [ht.block 0 h.lt hS]
  exact hh

end Go.Proofs.YtnjafmjkaajbkaaDoor
