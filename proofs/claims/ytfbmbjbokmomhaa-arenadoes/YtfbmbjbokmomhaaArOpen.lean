/- What came in: numbers, handles, operations. -/
import Derived.Test.YtfbmbjbokmomhaaMem
import Derived.ProofKit
import Derived.OpenShut
import Derived.ShutString
import Derived.ChangeOld
import Derived.SizedLaws
import Derived.JoinedCond
import Derived.Deep.Slices
namespace Go.Proofs.Ytfbmbjbokmomhaa
open Go.ChangeShapes Go.WideShapes Go.ChangeAt Go.RowKit
open Go.ChangeMaps (open_string shut_string)
set_option linter.unusedVariables false
set_option maxRecDepth 100000

theorem own : ownKnob Try.prog.godebug = none := by kernel_rfl
theorem laidOut : laidOutB Try.prog = true := by kernel_rfl
theorem bytes_int : Try.prog.bytesOf 3 = 8 := by kernel_rfl

/-- The ints that a slice leads to. -/
def Its (w : World) (p : Option Addr) (xs : List Int) : Prop :=
  0 < xs.length → ∃ b o, p = some ⟨b, o, none⟩ ∧ ∀ i, i < xs.length → w.cell? ⟨b, o + i, none⟩ = some (.int .i64 (xs.getD i 0))

structure InI (B : Nat) (w : World) (p : Option Addr) (len cap : Nat) (xs : List Int) : Prop where
  lenq : xs.length = len
  its : Its w p xs
  le : len ≤ cap
  room : cap ≤ B
  nil : p = none → len = 0 ∧ cap = 0
  fits : ∀ y ∈ xs, -9223372036854775808 ≤ y ∧ y ≤ 9223372036854775807

theorem InI.below {B : Nat} {w w' : World} {p : Option Addr} {len cap : Nat} {xs : List Int} (h : InI B w p len cap xs) (hb : Below w.heap.size w w') : InI B w' p len cap xs :=
  ⟨h.lenq, fun hl => by
    obtain ⟨b, o, hp, hc⟩ := h.its hl
    refine ⟨b, o, hp, fun i hi => ?_⟩
    have hh := hc i hi
    rw [hb.cell (p := ⟨b, o + i, none⟩) (World.block_lt_of_cell? w _ hh)]
    exact hh, h.le, h.room, h.nil, h.fits⟩

theorem in_ints {H : Type} {enc : TypeId × Value → H} {W : World} {a : Option Addr} {len cap : Nat} {d : DataW H} {p : List MemPlace} {B : Nat}
    (h : DataW.Trod enc Try.prog W 0 (fun _ => true) true 52 (.slice a len cap) d p) (hB : ∀ elems spare, d = .slice elems spare → elems.length + spare.length ≤ B) : ∃ xs, InI B W a len cap xs := by
  obtain ⟨fuel, hf⟩ := h
  rcases open_ints Try.underlying52 Try.underlying3 (by kernel_rfl) hf with ⟨hcs, _⟩ | ⟨x, l, c, zs, hcs, _, hl, hm, hz, hx, hcell, hwz⟩
  · simp [Value.cells] at hcs
    obtain ⟨rfl, rfl, rfl⟩ := hcs
    exact ⟨[], rfl, fun h => absurd h (Nat.lt_irrefl 0), Nat.le_refl _, Nat.zero_le _, fun _ => ⟨rfl, rfl⟩, by simp⟩
  · simp [Value.cells] at hcs
    obtain ⟨rfl, rfl, rfl⟩ := hcs
    simp only [Prod.mk.injEq] at hx
    have hb := hB _ _ hx.1
    simp only [lits, List.length_map, List.length_take, List.length_drop] at hb
    simp only [if_true] at hz
    refine ⟨zs.take len, by simp; omega, ?_, hl, by omega, (fun e => by cases e), ?_⟩
    · intro hpos
      simp at hpos
      have h0 := hcell 0 (by omega)
      obtain ⟨b, off, spot⟩ := x
      have hspot : spot = none := by simpa [Addr.add] using World.cell?_spot h0
      subst hspot
      refine ⟨b, off, rfl, fun i hi => ?_⟩
      simp at hi
      have := hcell i (by omega)
      rw [Addr.add_lit] at this
      rw [this]
      simp [List.getD, show i < len by omega]
    · intro y hy
      have := bounds_i64 (hwz y (List.mem_of_mem_take hy))
      omega

/-- An operation of a script. -/
structure Aop where
  dd : Int
  use : Int
  text : ByteArray
  slot : Int
  gen : Int

def Aop.cells (o : Aop) : List Value := [.int .i64 o.dd, .int .i64 o.use, .string o.text, .int .i64 o.slot, .int .i64 o.gen]
def Aop.ok (o : Aop) : Prop := (-9223372036854775808 ≤ o.use ∧ o.use ≤ 9223372036854775807) ∧ (-9223372036854775808 ≤ o.slot ∧ o.slot ≤ 9223372036854775807) ∧ (-9223372036854775808 ≤ o.gen ∧ o.gen ≤ 9223372036854775807)

theorem list2 {α : Type} {l : List α} (h : l.length = 2) : ∃ a b, l = [a, b] := by
  match l, h with
  | [a, b], _ => exact ⟨a, b, rfl⟩
theorem list4 {α : Type} {l : List α} (h : l.length = 4) : ∃ a b c d, l = [a, b, c, d] := by
  match l, h with
  | [a, b, c, d], _ => exact ⟨a, b, c, d, rfl⟩
theorem list5 {α : Type} {l : List α} (h : l.length = 5) : ∃ a b c d e, l = [a, b, c, d, e] := by
  match l, h with
  | [a, b, c, d, e], _ => exact ⟨a, b, c, d, e, rfl⟩

theorem rcells_at {W : World} {a : Addr} {n : Nat} {cs : List Value} (h : W.cells? 0 a n = some cs) : ∀ j v, cs[j]? = some v → W.cell? (a.add j) = some v := by
  obtain ⟨_, hl, hc⟩ := World.cells?_some h
  intro j v hv
  have hj : j < n := by
    have := (List.getElem?_eq_some_iff.1 hv).1
    omega
  exact (hc j hj).trans hv

section
variable {H : Type} {enc : TypeId × Value → H} {W : World} {fuel : Nat} {cs : List Value} {x : DataW H × List MemPlace}

theorem in_hnd (hf : DataW.trod enc Try.prog W 0 (fun _ => true) true fuel 36 cs = some x) : ∃ s g : Int, cs = [.int .i64 s, .int .i64 g] ∧ (-9223372036854775808 ≤ s ∧ s ≤ 9223372036854775807) ∧ (-9223372036854775808 ≤ g ∧ g ≤ 9223372036854775807) := by
  obtain ⟨ys, n, -, rfl, hlen, hys, hall⟩ := DataW.trod_struct Try.underlying36 hf
  have eT : Try.prog.cellsOf 36 = 2 := by kernel_rfl
  rw [eT] at hlen
  obtain ⟨c0, c1, rfl⟩ := list2 hlen
  obtain ⟨y0, y1, rfl⟩ := list2 (l := ys) hys
  have h0 : DataW.trod enc Try.prog W 0 (fun _ => true) true n 3 [c0] = some y0 := by
    have h : DataW.trod enc Try.prog W 0 (fun _ => true) true n 3 (List.take (Try.prog.cellsOf 3) (List.drop 0 [c0, c1])) = some y0 := hall 0 _ rfl
    rw [show Try.prog.cellsOf 3 = 1 by kernel_rfl] at h
    exact h
  have h1 : DataW.trod enc Try.prog W 0 (fun _ => true) true n 2 [c1] = some y1 := by
    have h : DataW.trod enc Try.prog W 0 (fun _ => true) true n 2 (List.take (Try.prog.cellsOf 2) (List.drop 1 [c0, c1])) = some y1 := hall 1 _ rfl
    rw [show Try.prog.cellsOf 2 = 1 by kernel_rfl] at h
    exact h
  obtain ⟨v0, q0, _, w0⟩ := DataW.trod_int Try.underlying3 h0
  obtain ⟨v1, q1, _, w1⟩ := DataW.trod_int Try.underlying2 h1
  simp only [List.cons.injEq, and_true] at q0 q1
  subst q0 q1
  exact ⟨v0, v1, rfl, bounds_i64 w0, bounds_i64 w1⟩

theorem in_aop (hf : DataW.trod enc Try.prog W 0 (fun _ => true) true fuel 38 cs = some x) : ∃ g : Aop, cs = g.cells ∧ g.ok := by
  obtain ⟨ys, n, -, rfl, hlen, hys, hall⟩ := DataW.trod_struct Try.underlying38 hf
  have eT : Try.prog.cellsOf 38 = 5 := by kernel_rfl
  rw [eT] at hlen
  obtain ⟨c0, c1, c2, c3, c4, rfl⟩ := list5 hlen
  obtain ⟨y0, y1, y2, y3, rfl⟩ := list4 (l := ys) hys
  have h0 : DataW.trod enc Try.prog W 0 (fun _ => true) true n 3 [c0] = some y0 := by
    have h : DataW.trod enc Try.prog W 0 (fun _ => true) true n 3 (List.take (Try.prog.cellsOf 3) (List.drop 0 [c0, c1, c2, c3, c4])) = some y0 := hall 0 _ rfl
    rw [show Try.prog.cellsOf 3 = 1 by kernel_rfl] at h
    exact h
  have h1 : DataW.trod enc Try.prog W 0 (fun _ => true) true n 3 [c1] = some y1 := by
    have h : DataW.trod enc Try.prog W 0 (fun _ => true) true n 3 (List.take (Try.prog.cellsOf 3) (List.drop 1 [c0, c1, c2, c3, c4])) = some y1 := hall 1 _ rfl
    rw [show Try.prog.cellsOf 3 = 1 by kernel_rfl] at h
    exact h
  have h2 : DataW.trod enc Try.prog W 0 (fun _ => true) true n 9 [c2] = some y2 := by
    have h : DataW.trod enc Try.prog W 0 (fun _ => true) true n 9 (List.take (Try.prog.cellsOf 9) (List.drop 2 [c0, c1, c2, c3, c4])) = some y2 := hall 2 _ rfl
    rw [show Try.prog.cellsOf 9 = 1 by kernel_rfl] at h
    exact h
  have h3 : DataW.trod enc Try.prog W 0 (fun _ => true) true n 36 [c3, c4] = some y3 := by
    have h : DataW.trod enc Try.prog W 0 (fun _ => true) true n 36 (List.take (Try.prog.cellsOf 36) (List.drop 3 [c0, c1, c2, c3, c4])) = some y3 := hall 3 _ rfl
    rw [show Try.prog.cellsOf 36 = 2 by kernel_rfl] at h
    exact h
  obtain ⟨v0, q0, _, w0⟩ := DataW.trod_int Try.underlying3 h0
  obtain ⟨v1, q1, _, w1⟩ := DataW.trod_int Try.underlying3 h1
  obtain ⟨v2, q2, _, _⟩ := DataW.trod_string Try.underlying9 h2
  obtain ⟨v3, v4, q3, w3, w4⟩ := in_hnd h3
  simp only [List.cons.injEq, and_true] at q0 q1 q2 q3
  obtain ⟨rfl, rfl⟩ := q3
  subst q0 q1 q2
  exact ⟨⟨v0, v1, v2, v3, v4⟩, rfl, bounds_i64 w1, w3, w4⟩
end

/-- Operations that a slice leads to. -/
structure InA (w : World) (p : Option Addr) (len cap : Nat) (l : List Aop) : Prop where
  lenq : l.length = len
  cel : 0 < len → ∃ b o, p = some ⟨b, o, none⟩ ∧ ∀ (i : Nat) g, l[i]? = some g → ∀ (j : Nat) v, g.cells[j]? = some v → w.cell? ⟨b, o + i * 5 + j, none⟩ = some v
  le : len ≤ cap
  room : cap ≤ 2932031007402
  nil : p = none → len = 0 ∧ cap = 0
  ok : ∀ g ∈ l, g.ok

theorem InA.up {w w' : World} {p : Option Addr} {len cap : Nat} {l : List Aop} (h : InA w p len cap l) (hb : Below w.heap.size w w') : InA w' p len cap l := by
  refine ⟨h.lenq, fun hl => ?_, h.le, h.room, h.nil, h.ok⟩
  obtain ⟨b, o, rfl, hc⟩ := h.cel hl
  refine ⟨b, o, rfl, fun i g hi j v hv => ?_⟩
  have hh := hc i g hi j v hv
  rw [hb.cell (p := ⟨b, o + i * 5 + j, none⟩) (World.block_lt_of_cell? w _ hh)]
  exact hh

theorem InA.at {w : World} {p : Option Addr} {len cap : Nat} {l : List Aop} (h : InA w p len cap l) {j : Nat} (hj : j < len) : ∃ b o g, p = some ⟨b, o, none⟩ ∧ l[j]? = some g ∧ g.ok ∧ b < w.heap.size ∧
    w.cell? ⟨b, o + j * 5, none⟩ = some (.int .i64 g.dd) ∧ w.cell? ⟨b, o + j * 5 + 1, none⟩ = some (.int .i64 g.use) ∧ w.cell? ⟨b, o + j * 5 + 2, none⟩ = some (.string g.text) ∧ w.cell? ⟨b, o + j * 5 + 3, none⟩ = some (.int .i64 g.slot) ∧ w.cell? ⟨b, o + j * 5 + 4, none⟩ = some (.int .i64 g.gen) := by
  obtain ⟨b, o, rfl, hc⟩ := h.cel (by omega)
  have hjl : j < l.length := by rw [h.lenq]; exact hj
  have hg := List.getElem?_eq_getElem hjl
  exact ⟨b, o, l[j], rfl, hg, h.ok _ (List.getElem_mem hjl), World.block_lt_of_cell? w _ (hc j _ hg 0 _ rfl), hc j _ hg 0 _ rfl, hc j _ hg 1 _ rfl, hc j _ hg 2 _ rfl, hc j _ hg 3 _ rfl, hc j _ hg 4 _ rfl⟩

theorem in_aops {H : Type} {enc : TypeId × Value → H} {W : World} {a : Option Addr} {len cap : Nat} {d : DataW H} {p : List MemPlace}
    (h : DataW.Trod enc Try.prog W 0 (fun _ => true) true 22 (.slice a len cap) d p) (hB : ∀ n ∈ d.weights Try.prog 22, n ≤ 140737488351232) : ∃ l, InA W a len cap l := by
  obtain ⟨fuel, hf⟩ := h
  have e5 : Try.prog.cellsOf 38 = 5 := by kernel_rfl
  have e48 : Try.prog.bytesOf 38 = 48 := by kernel_rfl
  rcases Go.Deep.open_slice Try.underlying22 hf with ⟨hcs, _⟩ | ⟨x, l, c, m, n, D, Pl, hcs, _, hl, hm, hmm, hx, hall⟩
  · simp [Value.cells] at hcs
    obtain ⟨rfl, rfl, rfl⟩ := hcs
    exact ⟨[], rfl, fun h => absurd h (Nat.lt_irrefl 0), Nat.le_refl _, Nat.zero_le _, fun _ => ⟨rfl, rfl⟩, by simp⟩
  · simp [Value.cells] at hcs
    obtain ⟨rfl, rfl, rfl⟩ := hcs
    simp only [if_true] at hmm
    subst hmm
    rw [e5] at hall
    simp only [Prod.mk.injEq] at hx
    have hroom : m ≤ 2932031007402 := by
      have := hB ((len + (m - len)) * Try.prog.bytesOf 38) (by rw [hx.1, DataW.weights, Try.underlying22]; simp)
      rw [e48] at this
      omega
    haveI : Inhabited Aop := ⟨⟨0, 0, .empty, 0, 0⟩⟩
    obtain ⟨G, hG⟩ := Go.Deep.choose_lt (n := len) (α := Aop) (p := fun i g => W.cells? 0 (x.add (i * 5)) 5 = some g.cells ∧ g.ok) (fun i hi => by
      obtain ⟨cs, h1, h2⟩ := hall i (by omega)
      obtain ⟨g, rfl, h3⟩ := in_aop h2
      exact ⟨g, h1, h3⟩)
    refine ⟨(List.range len).map G, by simp, fun hpos => ?_, hl, hroom, (fun h => by cases h), ?_⟩
    · have h0 := rcells_at (hG 0 hpos).1 0 _ rfl
      obtain ⟨b, off, spot⟩ := x
      have hspot : spot = none := by
        have := World.cell?_spot h0
        simpa [Addr.add] using this
      subst hspot
      refine ⟨b, off, rfl, fun i g hi j v hv => ?_⟩
      have hil : i < len := by
        have := (List.getElem?_eq_some_iff.1 hi).1
        simpa using this
      have hg : g = G i := by simpa [hil] using hi.symm
      subst hg
      have := rcells_at (hG i hil).1 j v hv
      rw [Addr.add_lit, Addr.add_lit] at this
      exact this
    · intro g hg
      obtain ⟨i, hi, rfl⟩ := List.mem_map.1 hg
      exact (hG i (List.mem_range.1 hi)).2
end Go.Proofs.Ytfbmbjbokmomhaa
