/- Operations that came in. -/
import Derived.Test.YtpggnejifpcnmaaDkOpen
import Derived.Deep.Slices
namespace Go.Proofs.Ytpggnejifpcnmaa
open Go.ChangeShapes Go.WideShapes Go.ChangeAt Go.RowKit
set_option linter.unusedVariables false

/-- An operation. -/
structure GOp where
  dd : Int
  pl : Int
  a : Int
  b : Int
  n : Int
  kp : Option Addr
  kc : Nat
  ks : List Bool
  op : Option Addr
  oc : Nat
  os : List Int

def GOp.cells (g : GOp) : List Value := [.int .i64 g.dd, .int .i64 g.pl, .int .u8 g.a, .int .u8 g.b, .int .i64 g.n, .slice g.kp g.ks.length g.kc, .slice g.op g.os.length g.oc]

theorem bytes_u8 : Try.prog.bytesOf 5 = 1 := by kernel_rfl

/-- A slice of bytes that came in. -/
structure InB (w : World) (p : Option Addr) (len cap : Nat) (xs : List Int) : Prop where
  lenq : xs.length = len
  bys : Bys w p xs
  le : len ≤ cap
  room : cap ≤ 140737488351232
  nil : p = none → len = 0 ∧ cap = 0
  byte : ∀ y ∈ xs, 0 ≤ y ∧ y < 256

structure OpIn (w : World) (g : GOp) : Prop where
  dd : (Lit.int .i64 g.dd).wf = true
  pl : (Lit.int .i64 g.pl).wf = true
  a : 0 ≤ g.a ∧ g.a < 256
  b : 0 ≤ g.b ∧ g.b < 256
  n : (Lit.int .i64 g.n).wf = true
  ks : InK w g.kp g.ks.length g.kc g.ks
  os : InB w g.op g.os.length g.oc g.os

section
variable {H : Type} {enc : TypeId × Value → H} {W : World} {fuel : Nat} {cs : List Value} {x : DataW H × List MemPlace}

theorem in_bools_cs (hf : DataW.trod enc Try.prog W 0 (fun _ => true) true fuel 31 cs = some x) (hB : ∀ elems spare, x.1 = .slice elems spare → elems.length + spare.length ≤ 140737488351232) : ∃ a len cap ks, cs = [.slice a len cap] ∧ InK W a len cap ks := by
  have h0 := hf
  rcases Go.Deep.open_bools Try.underlying31 Try.underlying4 (by kernel_rfl) hf with ⟨hcs, _⟩ | ⟨a, l, c, Z, hcs, _⟩
  · subst hcs
    obtain ⟨ks, hk⟩ := in_bools (a := none) (len := 0) (cap := 0) (p := x.2) (d := x.1) ⟨fuel, hf⟩ hB
    exact ⟨none, 0, 0, ks, rfl, hk⟩
  · subst hcs
    obtain ⟨ks, hk⟩ := in_bools (a := some a) (len := l) (cap := c) (p := x.2) (d := x.1) ⟨fuel, hf⟩ hB
    exact ⟨some a, l, c, ks, rfl, hk⟩

theorem in_bytes_cs (hf : DataW.trod enc Try.prog W 0 (fun _ => true) true fuel 32 cs = some x) (hB : ∀ elems spare, x.1 = .slice elems spare → elems.length + spare.length ≤ 140737488351232) : ∃ a len cap xs, cs = [.slice a len cap] ∧ InB W a len cap xs := by
  rcases open_ints Try.underlying32 Try.underlying5 (by kernel_rfl) hf with ⟨hcs, _⟩ | ⟨y, l, c, zs, hcs, _, hl, hm, hz, hx, hcell, hwz⟩
  · exact ⟨none, 0, 0, [], hcs, rfl, Bys.nil _ _, Nat.le_refl _, Nat.zero_le _, fun _ => ⟨rfl, rfl⟩, by simp⟩
  · refine ⟨some y, l, c, zs.take l, hcs, ?_⟩
    have hb := hB _ _ (by rw [hx])
    simp only [lits, List.length_map, List.length_take, List.length_drop] at hb
    simp only [if_true] at hz
    refine ⟨by simp; omega, ?_, hl, by omega, (fun e => by cases e), ?_⟩
    · intro hpos
      simp at hpos
      have h0 := hcell 0 (by omega)
      obtain ⟨b, off, spot⟩ := y
      have hspot : spot = none := by simpa [Addr.add] using World.cell?_spot h0
      subst hspot
      refine ⟨b, off, rfl, fun i hi => ?_⟩
      simp at hi
      have := hcell i (by omega)
      rw [Addr.add_lit] at this
      rw [this]
      simp [List.getD, show i < l by omega]
    · intro y hy
      have := bounds_u8 (hwz y (List.mem_of_mem_take hy))
      omega

theorem list7 {α : Type} {l : List α} (h : l.length = 7) : ∃ a b c d e f g, l = [a, b, c, d, e, f, g] := by
  match l, h with
  | [a, b, c, d, e, f, g], _ => exact ⟨a, b, c, d, e, f, g, rfl⟩

theorem in_op (hf : DataW.trod enc Try.prog W 0 (fun _ => true) true fuel 34 cs = some x) (hB : ∀ n ∈ x.1.weights Try.prog 34, n ≤ 140737488351232) : ∃ g, cs = GOp.cells g ∧ OpIn W g := by
  obtain ⟨ys, n, -, rfl, hlen, hys, hall⟩ := DataW.trod_struct Try.underlying34 hf
  have e7 : Try.prog.cellsOf 34 = 7 := by kernel_rfl
  have e1 : Try.prog.cellsOf 3 = 1 := by kernel_rfl
  have e2 : Try.prog.cellsOf 5 = 1 := by kernel_rfl
  have e3 : Try.prog.cellsOf 31 = 1 := by kernel_rfl
  have e4 : Try.prog.cellsOf 32 = 1 := by kernel_rfl
  rw [e7] at hlen
  obtain ⟨c0, c1, c2, c3, c4, c5, c6, rfl⟩ := list7 hlen
  obtain ⟨y0, y1, y2, y3, y4, y5, y6, rfl⟩ := list7 (l := ys) hys
  have h0 : DataW.trod enc Try.prog W 0 (fun _ => true) true n 3 [c0] = some y0 := by
    have h : DataW.trod enc Try.prog W 0 (fun _ => true) true n 3 (List.take (Try.prog.cellsOf 3) (List.drop 0 [c0, c1, c2, c3, c4, c5, c6])) = some y0 := hall 0 _ rfl
    rw [e1] at h
    exact h
  have h1 : DataW.trod enc Try.prog W 0 (fun _ => true) true n 3 [c1] = some y1 := by
    have h : DataW.trod enc Try.prog W 0 (fun _ => true) true n 3 (List.take (Try.prog.cellsOf 3) (List.drop 1 [c0, c1, c2, c3, c4, c5, c6])) = some y1 := hall 1 _ rfl
    rw [e1] at h
    exact h
  have h2 : DataW.trod enc Try.prog W 0 (fun _ => true) true n 5 [c2] = some y2 := by
    have h : DataW.trod enc Try.prog W 0 (fun _ => true) true n 5 (List.take (Try.prog.cellsOf 5) (List.drop 2 [c0, c1, c2, c3, c4, c5, c6])) = some y2 := hall 2 _ rfl
    rw [e2] at h
    exact h
  have h3 : DataW.trod enc Try.prog W 0 (fun _ => true) true n 5 [c3] = some y3 := by
    have h : DataW.trod enc Try.prog W 0 (fun _ => true) true n 5 (List.take (Try.prog.cellsOf 5) (List.drop 3 [c0, c1, c2, c3, c4, c5, c6])) = some y3 := hall 3 _ rfl
    rw [e2] at h
    exact h
  have h4 : DataW.trod enc Try.prog W 0 (fun _ => true) true n 3 [c4] = some y4 := by
    have h : DataW.trod enc Try.prog W 0 (fun _ => true) true n 3 (List.take (Try.prog.cellsOf 3) (List.drop 4 [c0, c1, c2, c3, c4, c5, c6])) = some y4 := hall 4 _ rfl
    rw [e1] at h
    exact h
  have h5 : DataW.trod enc Try.prog W 0 (fun _ => true) true n 31 [c5] = some y5 := by
    have h : DataW.trod enc Try.prog W 0 (fun _ => true) true n 31 (List.take (Try.prog.cellsOf 31) (List.drop 5 [c0, c1, c2, c3, c4, c5, c6])) = some y5 := hall 5 _ rfl
    rw [e3] at h
    exact h
  have h6 : DataW.trod enc Try.prog W 0 (fun _ => true) true n 32 [c6] = some y6 := by
    have h : DataW.trod enc Try.prog W 0 (fun _ => true) true n 32 (List.take (Try.prog.cellsOf 32) (List.drop 6 [c0, c1, c2, c3, c4, c5, c6])) = some y6 := hall 6 _ rfl
    rw [e4] at h
    exact h
  obtain ⟨v0, q0, _, w0⟩ := DataW.trod_int Try.underlying3 h0
  obtain ⟨v1, q1, _, w1⟩ := DataW.trod_int Try.underlying3 h1
  obtain ⟨v2, q2, _, w2⟩ := DataW.trod_int Try.underlying5 h2
  obtain ⟨v3, q3, _, w3⟩ := DataW.trod_int Try.underlying5 h3
  obtain ⟨v4, q4, _, w4⟩ := DataW.trod_int Try.underlying3 h4
  simp only [List.map_cons, List.map_nil] at hB
  have hB5 : ∀ elems spare, y5.1 = .slice elems spare → elems.length + spare.length ≤ 140737488351232 := by
    intro elems spare he
    have hm : (elems.length + spare.length) * Try.prog.bytesOf 4 ∈ DataW.weights Try.prog 34 (.agg [y0.1, y1.1, y2.1, y3.1, y4.1, y5.1, y6.1]) := by
      simp [DataW.weights, Try.underlying34, DataW.weightsEach, he, Try.underlying31]
    have := hB _ hm
    rw [bytes_bool] at this
    omega
  have hB6 : ∀ elems spare, y6.1 = .slice elems spare → elems.length + spare.length ≤ 140737488351232 := by
    intro elems spare he
    have hm : (elems.length + spare.length) * Try.prog.bytesOf 5 ∈ DataW.weights Try.prog 34 (.agg [y0.1, y1.1, y2.1, y3.1, y4.1, y5.1, y6.1]) := by
      simp [DataW.weights, Try.underlying34, DataW.weightsEach, he, Try.underlying32]
    have := hB _ hm
    rw [bytes_u8] at this
    omega
  obtain ⟨kp, kl, kc, ks, q5, hk⟩ := in_bools_cs h5 hB5
  obtain ⟨op, ol, oc, os, q6, ho⟩ := in_bytes_cs h6 hB6
  simp only [List.cons.injEq, and_true] at q0 q1 q2 q3 q4 q5 q6
  subst q0 q1 q2 q3 q4 q5 q6
  have k1 := hk.lenq
  have o1 := ho.lenq
  subst k1
  subst o1
  exact ⟨⟨v0, v1, v2, v3, v4, kp, kc, ks, op, oc, os⟩, rfl, w0, w1, by have := bounds_u8 w2; show 0 ≤ v2 ∧ v2 < 256; omega, by have := bounds_u8 w3; show 0 ≤ v3 ∧ v3 < 256; omega, w4, hk, ho⟩
end

/-- Operations that came in. -/
structure InOps (w : World) (p : Option Addr) (len cap : Nat) (l : List GOp) : Prop where
  lenq : l.length = len
  cel : 0 < len → ∃ b o, p = some ⟨b, o, none⟩ ∧ ∀ (i : Nat) g, l[i]? = some g → ∀ (j : Nat) v, g.cells[j]? = some v → w.cell? ⟨b, o + i * 7 + j, none⟩ = some v
  each : ∀ g ∈ l, OpIn w g
  le : len ≤ cap
  room : cap ≤ 1759218604390
  nil : p = none → len = 0 ∧ cap = 0

theorem weights_all {H : Type} {P : Program} {e : TypeId} {l : List (DataW H)} {d : DataW H} (h : d ∈ l) {n : Nat} (hn : n ∈ d.weights P e) : n ∈ DataW.weightsAll P e l := by
  induction l with
  | nil => cases h
  | cons x r ih =>
    rw [DataW.weightsAll, List.mem_append]
    rcases List.mem_cons.1 h with rfl | h
    · exact .inl hn
    · exact .inr (ih h)

theorem cells_at {W : World} {a : Addr} {n : Nat} {cs : List Value} (h : W.cells? 0 a n = some cs) : ∀ j v, cs[j]? = some v → W.cell? (a.add j) = some v := by
  obtain ⟨_, hl, hc⟩ := World.cells?_some h
  intro j v hv
  have hj : j < n := by
    have := (List.getElem?_eq_some_iff.1 hv).1
    omega
  exact (hc j hj).trans hv

theorem in_ops {H : Type} {enc : TypeId × Value → H} {W : World} {a : Option Addr} {len cap : Nat} {d : DataW H} {p : List MemPlace}
    (h : DataW.Trod enc Try.prog W 0 (fun _ => true) true 22 (.slice a len cap) d p) (hB : ∀ n ∈ d.weights Try.prog 22, n ≤ 140737488351232) : ∃ l, InOps W a len cap l := by
  obtain ⟨fuel, hf⟩ := h
  have e7 : Try.prog.cellsOf 34 = 7 := by kernel_rfl
  have e80 : Try.prog.bytesOf 34 = 80 := by kernel_rfl
  rcases Go.Deep.open_slice Try.underlying22 hf with ⟨hcs, _⟩ | ⟨x, l, c, m, n, D, Pl, hcs, _, hl, hm, hmm, hx, hall⟩
  · simp [Value.cells] at hcs
    obtain ⟨rfl, rfl, rfl⟩ := hcs
    exact ⟨[], rfl, fun h => absurd h (Nat.lt_irrefl 0), by simp, Nat.le_refl _, Nat.zero_le _, fun _ => ⟨rfl, rfl⟩⟩
  · simp [Value.cells] at hcs
    obtain ⟨rfl, rfl, rfl⟩ := hcs
    simp only [if_true] at hmm
    subst hmm
    rw [e7] at hall
    simp only [Prod.mk.injEq] at hx
    have hw : ∀ i, i < len → ∀ k ∈ (D i).weights Try.prog 34, k ≤ 140737488351232 := by
      intro i hi k hk
      refine hB k ?_
      rw [hx.1, DataW.weights, Try.underlying22]
      simp only [List.mem_cons, List.mem_append]
      exact .inr (.inl (weights_all (List.mem_map.2 ⟨i, List.mem_range.2 hi, rfl⟩) hk))
    have hroom : m ≤ 1759218604390 := by
      have := hB ((len + (m - len)) * Try.prog.bytesOf 34) (by rw [hx.1, DataW.weights, Try.underlying22]; simp)
      rw [e80] at this
      omega
    haveI : Inhabited GOp := ⟨⟨0, 0, 0, 0, 0, none, 0, [], none, 0, []⟩⟩
    obtain ⟨G, hG⟩ := Go.Deep.choose_lt (n := len) (α := GOp) (p := fun i g => W.cells? 0 (x.add (i * 7)) 7 = some g.cells ∧ OpIn W g) (fun i hi => by
      obtain ⟨cs, h1, h2⟩ := hall i (by omega)
      obtain ⟨g, rfl, h3⟩ := in_op h2 (hw i hi)
      exact ⟨g, h1, h3⟩)
    refine ⟨(List.range len).map G, by simp, fun hpos => ?_, ?_, hl, hroom, fun h => by cases h⟩
    · have h0 := cells_at (hG 0 hpos).1 0 _ rfl
      obtain ⟨b, off, spot⟩ := x
      have hspot : spot = none := by
        have := World.cell?_spot h0
        simpa [Addr.add] using this
      subst hspot
      refine ⟨b, off, rfl, fun i g hi j v hv => ?_⟩
      have hil : i < len := by
        have := (List.getElem?_eq_some_iff.1 hi).1
        simpa using this
      have hg : g = G i := by simpa [hil] using hi.symm
      subst hg
      have := cells_at (hG i hil).1 j v hv
      rw [Addr.add_lit, Addr.add_lit] at this
      exact this
    · intro g hg
      obtain ⟨i, hi, rfl⟩ := List.mem_map.1 hg
      exact (hG i (List.mem_range.1 hi)).2

end Go.Proofs.Ytpggnejifpcnmaa
