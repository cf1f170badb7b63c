/- Records that came in. -/
import Derived.Test.YtmjbfelfdhehbaaRcM
import Derived.Deep.Slices
namespace Go.Proofs.Ytmjbfelfdhehbaa
open Go.ChangeShapes Go.WideShapes Go.ChangeAt Go.RowKit
set_option linter.unusedVariables false
set_option maxRecDepth 100000

theorem list2 {α : Type} {l : List α} (h : l.length = 2) : ∃ a b, l = [a, b] := by
  match l, h with
  | [a, b], _ => exact ⟨a, b, rfl⟩
theorem list3 {α : Type} {l : List α} (h : l.length = 3) : ∃ a b c, l = [a, b, c] := by
  match l, h with
  | [a, b, c], _ => exact ⟨a, b, c, rfl⟩
theorem list4 {α : Type} {l : List α} (h : l.length = 4) : ∃ a b c d, l = [a, b, c, d] := by
  match l, h with
  | [a, b, c, d], _ => exact ⟨a, b, c, d, rfl⟩
theorem list5 {α : Type} {l : List α} (h : l.length = 5) : ∃ a b c d e, l = [a, b, c, d, e] := by
  match l, h with
  | [a, b, c, d, e], _ => exact ⟨a, b, c, d, e, rfl⟩
theorem list8 {α : Type} {l : List α} (h : l.length = 8) : ∃ a b c d e f g i, l = [a, b, c, d, e, f, g, i] := by
  match l, h with
  | [a, b, c, d, e, f, g, i], _ => exact ⟨a, b, c, d, e, f, g, i, rfl⟩

theorem rcells_at {W : World} {a : Addr} {n : Nat} {cs : List Value} (h : W.cells? 0 a n = some cs) : ∀ j v, cs[j]? = some v → W.cell? (a.add j) = some v := by
  obtain ⟨_, hl, hc⟩ := World.cells?_some h
  intro j v hv
  have hj : j < n := by
    have := (List.getElem?_eq_some_iff.1 hv).1
    omega
  exact (hc j hj).trans hv

section
variable {H : Type} {enc : TypeId × Value → H} {W : World} {fuel : Nat} {cs : List Value} {x : DataW H × List MemPlace}

theorem in_wr (hf : DataW.trod enc Try.prog W 0 (fun _ => true) true fuel 42 cs = some x) : ∃ g : Wr, cs = g.cells := by
  obtain ⟨ys, n, -, rfl, hlen, hys, hall⟩ := DataW.trod_struct Try.underlying42 hf
  have eT : Try.prog.cellsOf 42 = 3 := by kernel_rfl
  rw [eT] at hlen
  obtain ⟨c0, c1, c2, rfl⟩ := list3 hlen
  obtain ⟨y0, y1, y2, rfl⟩ := list3 (l := ys) hys
  have h0 : DataW.trod enc Try.prog W 0 (fun _ => true) true n 9 [c0] = some y0 := by
    have h : DataW.trod enc Try.prog W 0 (fun _ => true) true n 9 (List.take (Try.prog.cellsOf 9) (List.drop 0 [c0, c1, c2])) = some y0 := hall 0 _ rfl
    rw [show Try.prog.cellsOf 9 = 1 by kernel_rfl] at h
    exact h
  have h1 : DataW.trod enc Try.prog W 0 (fun _ => true) true n 9 [c1] = some y1 := by
    have h : DataW.trod enc Try.prog W 0 (fun _ => true) true n 9 (List.take (Try.prog.cellsOf 9) (List.drop 1 [c0, c1, c2])) = some y1 := hall 1 _ rfl
    rw [show Try.prog.cellsOf 9 = 1 by kernel_rfl] at h
    exact h
  have h2 : DataW.trod enc Try.prog W 0 (fun _ => true) true n 4 [c2] = some y2 := by
    have h : DataW.trod enc Try.prog W 0 (fun _ => true) true n 4 (List.take (Try.prog.cellsOf 4) (List.drop 2 [c0, c1, c2])) = some y2 := hall 2 _ rfl
    rw [show Try.prog.cellsOf 4 = 1 by kernel_rfl] at h
    exact h
  obtain ⟨v0, q0, _, _⟩ := DataW.trod_string Try.underlying9 h0
  obtain ⟨v1, q1, _, _⟩ := DataW.trod_string Try.underlying9 h1
  obtain ⟨v2, q2, _⟩ := DataW.trod_bool Try.underlying4 h2
  simp only [List.cons.injEq, and_true] at q0 q1 q2
  subst q0 q1 q2
  exact ⟨⟨v0, v1, v2⟩, rfl⟩

theorem in_st (hf : DataW.trod enc Try.prog W 0 (fun _ => true) true fuel 90 cs = some x) : ∃ g : St, cs = g.cells ∧ -9223372036854775808 ≤ g.ts ∧ g.ts ≤ 9223372036854775807 := by
  obtain ⟨ys, n, -, rfl, hlen, hys, hall⟩ := DataW.trod_struct Try.underlying90 hf
  have eT : Try.prog.cellsOf 90 = 3 := by kernel_rfl
  rw [eT] at hlen
  obtain ⟨c0, c1, c2, rfl⟩ := list3 hlen
  obtain ⟨y0, y1, y2, rfl⟩ := list3 (l := ys) hys
  have h0 : DataW.trod enc Try.prog W 0 (fun _ => true) true n 9 [c0] = some y0 := by
    have h : DataW.trod enc Try.prog W 0 (fun _ => true) true n 9 (List.take (Try.prog.cellsOf 9) (List.drop 0 [c0, c1, c2])) = some y0 := hall 0 _ rfl
    rw [show Try.prog.cellsOf 9 = 1 by kernel_rfl] at h
    exact h
  have h1 : DataW.trod enc Try.prog W 0 (fun _ => true) true n 9 [c1] = some y1 := by
    have h : DataW.trod enc Try.prog W 0 (fun _ => true) true n 9 (List.take (Try.prog.cellsOf 9) (List.drop 1 [c0, c1, c2])) = some y1 := hall 1 _ rfl
    rw [show Try.prog.cellsOf 9 = 1 by kernel_rfl] at h
    exact h
  have h2 : DataW.trod enc Try.prog W 0 (fun _ => true) true n 2 [c2] = some y2 := by
    have h : DataW.trod enc Try.prog W 0 (fun _ => true) true n 2 (List.take (Try.prog.cellsOf 2) (List.drop 2 [c0, c1, c2])) = some y2 := hall 2 _ rfl
    rw [show Try.prog.cellsOf 2 = 1 by kernel_rfl] at h
    exact h
  obtain ⟨v0, q0, _, _⟩ := DataW.trod_string Try.underlying9 h0
  obtain ⟨v1, q1, _, _⟩ := DataW.trod_string Try.underlying9 h1
  obtain ⟨v2, q2, _, w2⟩ := DataW.trod_int Try.underlying2 h2
  simp only [List.cons.injEq, and_true] at q0 q1 q2
  subst q0 q1 q2
  have := bounds_i64 w2
  exact ⟨⟨v0, v1, v2⟩, rfl, by show -9223372036854775808 ≤ v2; omega, by show v2 ≤ 9223372036854775807; omega⟩

theorem in_writes (hf : DataW.trod enc Try.prog W 0 (fun _ => true) true fuel 22 cs = some x) : ∃ a len cap l, cs = [.slice a len cap] ∧ InW W a len cap l := by
  have e3 : Try.prog.cellsOf 42 = 3 := by kernel_rfl
  rcases Go.Deep.open_slice Try.underlying22 hf with ⟨hcs, _⟩ | ⟨x, l, c, m, n, D, Pl, hcs, _, hl, hm, hmm, hx, hall⟩
  · exact ⟨none, 0, 0, [], hcs, rfl, (fun h => absurd h (Nat.lt_irrefl 0)), Nat.le_refl _, by omega, (fun _ => ⟨rfl, rfl⟩)⟩
  · simp only [if_true] at hmm
    subst hmm
    rw [e3] at hall
    haveI : Inhabited Wr := ⟨⟨.empty, .empty, false⟩⟩
    obtain ⟨F, hF⟩ := Go.Deep.choose_lt (n := l) (α := Wr) (p := fun i g => W.cells? 0 (x.add (i * 3)) 3 = some g.cells) (fun i hi => by
      obtain ⟨cs, h1, h2⟩ := hall i (by omega)
      obtain ⟨g, rfl⟩ := in_wr h2
      exact ⟨g, h1⟩)
    refine ⟨some x, l, m, (List.range l).map F, hcs, by simp, fun hpos => ?_, hl, by unfold maxLen at hm; omega, (fun h => by cases h)⟩
    · have h0 := rcells_at (hF 0 hpos) 0 _ rfl
      obtain ⟨b, off, spot⟩ := x
      have hspot : spot = none := by
        have := World.cell?_spot h0
        simpa [Addr.add] using this
      subst hspot
      refine ⟨b, off, rfl, fun i g hi j v hv => ?_⟩
      have hil : i < l := by
        have := (List.getElem?_eq_some_iff.1 hi).1
        simpa using this
      have hg : g = F i := by simpa [hil] using hi.symm
      subst hg
      have := rcells_at (hF i hil) j v hv
      rw [Addr.add_lit, Addr.add_lit] at this
      exact this

theorem in_stampeds (hf : DataW.trod enc Try.prog W 0 (fun _ => true) true fuel 38 cs = some x) : ∃ a len cap l, cs = [.slice a len cap] ∧ InS W a len cap l := by
  have e3 : Try.prog.cellsOf 90 = 3 := by kernel_rfl
  rcases Go.Deep.open_slice Try.underlying38 hf with ⟨hcs, _⟩ | ⟨x, l, c, m, n, D, Pl, hcs, _, hl, hm, hmm, hx, hall⟩
  · exact ⟨none, 0, 0, [], hcs, rfl, (fun h => absurd h (Nat.lt_irrefl 0)), Nat.le_refl _, by omega, (fun _ => ⟨rfl, rfl⟩), by simp⟩
  · simp only [if_true] at hmm
    subst hmm
    rw [e3] at hall
    haveI : Inhabited St := ⟨⟨.empty, .empty, 0⟩⟩
    obtain ⟨F, hF⟩ := Go.Deep.choose_lt (n := l) (α := St) (p := fun i g => W.cells? 0 (x.add (i * 3)) 3 = some g.cells ∧ -9223372036854775808 ≤ g.ts ∧ g.ts ≤ 9223372036854775807) (fun i hi => by
      obtain ⟨cs, h1, h2⟩ := hall i (by omega)
      obtain ⟨g, rfl, h3⟩ := in_st h2
      exact ⟨g, h1, h3⟩)
    refine ⟨some x, l, m, (List.range l).map F, hcs, by simp, fun hpos => ?_, hl, by unfold maxLen at hm; omega, (fun h => by cases h), ?_⟩
    · have h0 := rcells_at (hF 0 hpos).1 0 _ rfl
      obtain ⟨b, off, spot⟩ := x
      have hspot : spot = none := by
        have := World.cell?_spot h0
        simpa [Addr.add] using this
      subst hspot
      refine ⟨b, off, rfl, fun i g hi j v hv => ?_⟩
      have hil : i < l := by
        have := (List.getElem?_eq_some_iff.1 hi).1
        simpa using this
      have hg : g = F i := by simpa [hil] using hi.symm
      subst hg
      have := rcells_at (hF i hil).1 j v hv
      rw [Addr.add_lit, Addr.add_lit] at this
      exact this
    · intro g hg
      obtain ⟨i, hi, rfl⟩ := List.mem_map.1 hg
      exact (hF i (List.mem_range.1 hi)).2

theorem in_commit (hf : DataW.trod enc Try.prog W 0 (fun _ => true) true fuel 24 cs = some x) : ∃ ts a len cap l, cs = [.int .i64 ts, .slice a len cap] ∧ (-9223372036854775808 ≤ ts ∧ ts ≤ 9223372036854775807) ∧ InW W a len cap l := by
  obtain ⟨ys, n, -, rfl, hlen, hys, hall⟩ := DataW.trod_struct Try.underlying24 hf
  have eT : Try.prog.cellsOf 24 = 2 := by kernel_rfl
  rw [eT] at hlen
  obtain ⟨c0, c1, rfl⟩ := list2 hlen
  obtain ⟨y0, y1, rfl⟩ := list2 (l := ys) hys
  have h0 : DataW.trod enc Try.prog W 0 (fun _ => true) true n 2 [c0] = some y0 := by
    have h : DataW.trod enc Try.prog W 0 (fun _ => true) true n 2 (List.take (Try.prog.cellsOf 2) (List.drop 0 [c0, c1])) = some y0 := hall 0 _ rfl
    rw [show Try.prog.cellsOf 2 = 1 by kernel_rfl] at h
    exact h
  have h1 : DataW.trod enc Try.prog W 0 (fun _ => true) true n 22 [c1] = some y1 := by
    have h : DataW.trod enc Try.prog W 0 (fun _ => true) true n 22 (List.take (Try.prog.cellsOf 22) (List.drop 1 [c0, c1])) = some y1 := hall 1 _ rfl
    rw [show Try.prog.cellsOf 22 = 1 by kernel_rfl] at h
    exact h
  obtain ⟨v0, q0, _, w0⟩ := DataW.trod_int Try.underlying2 h0
  obtain ⟨a, len, cap, l, q1, hw⟩ := in_writes h1
  simp only [List.cons.injEq, and_true] at q0 q1
  subst q0 q1
  have := bounds_i64 w0
  exact ⟨v0, a, len, cap, l, rfl, by omega, hw⟩

theorem in_chunk (hf : DataW.trod enc Try.prog W 0 (fun _ => true) true fuel 40 cs = some x) : ∃ n a len cap l d, cs = [.int .i64 n, .slice a len cap, .bool d] ∧ (-9223372036854775808 ≤ n ∧ n ≤ 9223372036854775807) ∧ InS W a len cap l := by
  obtain ⟨ys, n, -, rfl, hlen, hys, hall⟩ := DataW.trod_struct Try.underlying40 hf
  have eT : Try.prog.cellsOf 40 = 3 := by kernel_rfl
  rw [eT] at hlen
  obtain ⟨c0, c1, c2, rfl⟩ := list3 hlen
  obtain ⟨y0, y1, y2, rfl⟩ := list3 (l := ys) hys
  have h0 : DataW.trod enc Try.prog W 0 (fun _ => true) true n 3 [c0] = some y0 := by
    have h : DataW.trod enc Try.prog W 0 (fun _ => true) true n 3 (List.take (Try.prog.cellsOf 3) (List.drop 0 [c0, c1, c2])) = some y0 := hall 0 _ rfl
    rw [show Try.prog.cellsOf 3 = 1 by kernel_rfl] at h
    exact h
  have h1 : DataW.trod enc Try.prog W 0 (fun _ => true) true n 38 [c1] = some y1 := by
    have h : DataW.trod enc Try.prog W 0 (fun _ => true) true n 38 (List.take (Try.prog.cellsOf 38) (List.drop 1 [c0, c1, c2])) = some y1 := hall 1 _ rfl
    rw [show Try.prog.cellsOf 38 = 1 by kernel_rfl] at h
    exact h
  have h2 : DataW.trod enc Try.prog W 0 (fun _ => true) true n 4 [c2] = some y2 := by
    have h : DataW.trod enc Try.prog W 0 (fun _ => true) true n 4 (List.take (Try.prog.cellsOf 4) (List.drop 2 [c0, c1, c2])) = some y2 := hall 2 _ rfl
    rw [show Try.prog.cellsOf 4 = 1 by kernel_rfl] at h
    exact h
  obtain ⟨v0, q0, _, w0⟩ := DataW.trod_int Try.underlying3 h0
  obtain ⟨a, len, cap, l, q1, hw⟩ := in_stampeds h1
  obtain ⟨v2, q2, _⟩ := DataW.trod_bool Try.underlying4 h2
  simp only [List.cons.injEq, and_true] at q0 q1 q2
  subst q0 q1 q2
  have := bounds_i64 w0
  exact ⟨v0, a, len, cap, l, v2, rfl, by omega, hw⟩

theorem in_mark (hf : DataW.trod enc Try.prog W 0 (fun _ => true) true fuel 46 cs = some x) : ∃ a0 a1 a2 a3, cs = [.int .i64 a0, .int .i64 a1, .int .i64 a2, .int .i64 a3] ∧ (-9223372036854775808 ≤ a0 ∧ a0 ≤ 9223372036854775807) ∧ (-9223372036854775808 ≤ a1 ∧ a1 ≤ 9223372036854775807) ∧ (-9223372036854775808 ≤ a2 ∧ a2 ≤ 9223372036854775807) ∧ (-9223372036854775808 ≤ a3 ∧ a3 ≤ 9223372036854775807) := by
  obtain ⟨ys, n, -, rfl, hlen, hys, hall⟩ := DataW.trod_struct Try.underlying46 hf
  have eT : Try.prog.cellsOf 46 = 4 := by kernel_rfl
  rw [eT] at hlen
  obtain ⟨c0, c1, c2, c3, rfl⟩ := list4 hlen
  obtain ⟨y0, y1, y2, y3, rfl⟩ := list4 (l := ys) hys
  have h0 : DataW.trod enc Try.prog W 0 (fun _ => true) true n 2 [c0] = some y0 := by
    have h : DataW.trod enc Try.prog W 0 (fun _ => true) true n 2 (List.take (Try.prog.cellsOf 2) (List.drop 0 [c0, c1, c2, c3])) = some y0 := hall 0 _ rfl
    rw [show Try.prog.cellsOf 2 = 1 by kernel_rfl] at h
    exact h
  have h1 : DataW.trod enc Try.prog W 0 (fun _ => true) true n 3 [c1] = some y1 := by
    have h : DataW.trod enc Try.prog W 0 (fun _ => true) true n 3 (List.take (Try.prog.cellsOf 3) (List.drop 1 [c0, c1, c2, c3])) = some y1 := hall 1 _ rfl
    rw [show Try.prog.cellsOf 3 = 1 by kernel_rfl] at h
    exact h
  have h2 : DataW.trod enc Try.prog W 0 (fun _ => true) true n 2 [c2] = some y2 := by
    have h : DataW.trod enc Try.prog W 0 (fun _ => true) true n 2 (List.take (Try.prog.cellsOf 2) (List.drop 2 [c0, c1, c2, c3])) = some y2 := hall 2 _ rfl
    rw [show Try.prog.cellsOf 2 = 1 by kernel_rfl] at h
    exact h
  have h3 : DataW.trod enc Try.prog W 0 (fun _ => true) true n 2 [c3] = some y3 := by
    have h : DataW.trod enc Try.prog W 0 (fun _ => true) true n 2 (List.take (Try.prog.cellsOf 2) (List.drop 3 [c0, c1, c2, c3])) = some y3 := hall 3 _ rfl
    rw [show Try.prog.cellsOf 2 = 1 by kernel_rfl] at h
    exact h
  obtain ⟨v0, q0, _, w0⟩ := DataW.trod_int Try.underlying2 h0
  obtain ⟨v1, q1, _, w1⟩ := DataW.trod_int Try.underlying3 h1
  obtain ⟨v2, q2, _, w2⟩ := DataW.trod_int Try.underlying2 h2
  obtain ⟨v3, q3, _, w3⟩ := DataW.trod_int Try.underlying2 h3
  simp only [List.cons.injEq, and_true] at q0 q1 q2 q3
  subst q0 q1 q2 q3
  have r0 := bounds_i64 w0
  have r1 := bounds_i64 w1
  have r2 := bounds_i64 w2
  have r3 := bounds_i64 w3
  exact ⟨v0, v1, v2, v3, rfl, by omega, by omega, by omega, by omega⟩

/-- Every number of a master is an int64. -/
def Ms.ok (m : Ms) : Prop := (-9223372036854775808 ≤ m.seq ∧ m.seq ≤ 9223372036854775807) ∧ (-9223372036854775808 ≤ m.area ∧ m.area ≤ 9223372036854775807) ∧ (-9223372036854775808 ≤ m.chunks ∧ m.chunks ≤ 9223372036854775807) ∧ (-9223372036854775808 ≤ m.ts ∧ m.ts ≤ 9223372036854775807) ∧ (-9223372036854775808 ≤ m.sector ∧ m.sector ≤ 9223372036854775807) ∧ (-9223372036854775808 ≤ m.offset ∧ m.offset ≤ 9223372036854775807) ∧ (-9223372036854775808 ≤ m.number ∧ m.number ≤ 9223372036854775807) ∧ (-9223372036854775808 ≤ m.run ∧ m.run ≤ 9223372036854775807)

theorem in_master (hf : DataW.trod enc Try.prog W 0 (fun _ => true) true fuel 48 cs = some x) : ∃ m : Ms, cs = m.cells ∧ m.ok := by
  obtain ⟨ys, n, -, rfl, hlen, hys, hall⟩ := DataW.trod_struct Try.underlying48 hf
  have eT : Try.prog.cellsOf 48 = 8 := by kernel_rfl
  rw [eT] at hlen
  obtain ⟨c0, c1, c2, c3, c4, c5, c6, c7, rfl⟩ := list8 hlen
  obtain ⟨y0, y1, y2, y3, y4, rfl⟩ := list5 (l := ys) hys
  have h0 : DataW.trod enc Try.prog W 0 (fun _ => true) true n 2 [c0] = some y0 := by
    have h : DataW.trod enc Try.prog W 0 (fun _ => true) true n 2 (List.take (Try.prog.cellsOf 2) (List.drop 0 [c0, c1, c2, c3, c4, c5, c6, c7])) = some y0 := hall 0 _ rfl
    rw [show Try.prog.cellsOf 2 = 1 by kernel_rfl] at h
    exact h
  have h1 : DataW.trod enc Try.prog W 0 (fun _ => true) true n 3 [c1] = some y1 := by
    have h : DataW.trod enc Try.prog W 0 (fun _ => true) true n 3 (List.take (Try.prog.cellsOf 3) (List.drop 1 [c0, c1, c2, c3, c4, c5, c6, c7])) = some y1 := hall 1 _ rfl
    rw [show Try.prog.cellsOf 3 = 1 by kernel_rfl] at h
    exact h
  have h2 : DataW.trod enc Try.prog W 0 (fun _ => true) true n 3 [c2] = some y2 := by
    have h : DataW.trod enc Try.prog W 0 (fun _ => true) true n 3 (List.take (Try.prog.cellsOf 3) (List.drop 2 [c0, c1, c2, c3, c4, c5, c6, c7])) = some y2 := hall 2 _ rfl
    rw [show Try.prog.cellsOf 3 = 1 by kernel_rfl] at h
    exact h
  have h3 : DataW.trod enc Try.prog W 0 (fun _ => true) true n 2 [c3] = some y3 := by
    have h : DataW.trod enc Try.prog W 0 (fun _ => true) true n 2 (List.take (Try.prog.cellsOf 2) (List.drop 3 [c0, c1, c2, c3, c4, c5, c6, c7])) = some y3 := hall 3 _ rfl
    rw [show Try.prog.cellsOf 2 = 1 by kernel_rfl] at h
    exact h
  have h4 : DataW.trod enc Try.prog W 0 (fun _ => true) true n 46 [c4, c5, c6, c7] = some y4 := by
    have h : DataW.trod enc Try.prog W 0 (fun _ => true) true n 46 (List.take (Try.prog.cellsOf 46) (List.drop 4 [c0, c1, c2, c3, c4, c5, c6, c7])) = some y4 := hall 4 _ rfl
    rw [show Try.prog.cellsOf 46 = 4 by kernel_rfl] at h
    exact h
  obtain ⟨v0, q0, _, w0⟩ := DataW.trod_int Try.underlying2 h0
  obtain ⟨v1, q1, _, w1⟩ := DataW.trod_int Try.underlying3 h1
  obtain ⟨v2, q2, _, w2⟩ := DataW.trod_int Try.underlying3 h2
  obtain ⟨v3, q3, _, w3⟩ := DataW.trod_int Try.underlying2 h3
  obtain ⟨a0, a1, a2, a3, q4, s0, s1, s2, s3⟩ := in_mark h4
  simp only [List.cons.injEq, and_true] at q0 q1 q2 q3 q4
  obtain ⟨e0, e1, e2, e3⟩ := q4
  subst q0 q1 q2 q3 e0 e1 e2 e3
  have r0 := bounds_i64 w0
  have r1 := bounds_i64 w1
  have r2 := bounds_i64 w2
  have r3 := bounds_i64 w3
  refine ⟨⟨v0, v1, v2, v3, a0, a1, a2, a3⟩, rfl, ?_⟩
  unfold Ms.ok
  simp only
  omega

end

end Go.Proofs.Ytmjbfelfdhehbaa
