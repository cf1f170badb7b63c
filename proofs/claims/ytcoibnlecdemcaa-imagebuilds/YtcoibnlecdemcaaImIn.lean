/- Chunks that came in. -/
import Derived.Test.YtcoibnlecdemcaaInL
import Derived.Test.YtcoibnlecdemcaaImC
namespace Go.Proofs.Ytcoibnlecdemcaa
open Go.ChangeShapes Go.WideShapes Go.ChangeAt Go.RowKit
set_option linter.unusedVariables false
set_option maxRecDepth 100000

/-- What a chunk leads to. -/
def Ck.ok (W : World) (g : Ck) : Prop := ∃ l, Rk.InS W g.p g.n g.c l

section
variable {H : Type} {enc : TypeId × Value → H} {W : World} {fuel : Nat} {cs : List Value} {x : DataW H × List MemPlace}

theorem in_st (hf : DataW.trod enc Try.prog W 0 (fun _ => true) true fuel 52 cs = some x) : ∃ g : St, cs = Rk.St.cells g ∧ -9223372036854775808 ≤ g.ts ∧ g.ts ≤ 9223372036854775807 := by
  obtain ⟨ys, n, -, rfl, hlen, hys, hall⟩ := DataW.trod_struct Try.underlying52 hf
  have eT : Try.prog.cellsOf 52 = 3 := by kernel_rfl
  rw [eT] at hlen
  obtain ⟨c0, c1, c2, rfl⟩ := list3 hlen
  obtain ⟨y0, y1, y2, rfl⟩ := list3 (l := ys) hys
  have h0 : DataW.trod enc Try.prog W 0 (fun _ => true) true n 9 [c0] = some y0 := by
    have h : DataW.trod enc Try.prog W 0 (fun _ => true) true n 9 (List.take (Try.prog.cellsOf 9) (List.drop 0 [c0, c1, c2])) = some y0 := hall 0 _ rfl
    rw [show Try.prog.cellsOf 9 = 1 by kernel_rfl] at h
    exact h
  have h1 : DataW.trod enc Try.prog W 0 (fun _ => true) true n 9 [c1] = some y1 := by
    have h : DataW.trod enc Try.prog W 0 (fun _ => true) true n 9 (List.take (Try.prog.cellsOf 9) (List.drop 1 [c0, c1, c2])) = some y1 := hall 1 _ rfl
    rw [show Try.prog.cellsOf 9 = 1 by kernel_rfl] at h
    exact h
  have h2 : DataW.trod enc Try.prog W 0 (fun _ => true) true n 2 [c2] = some y2 := by
    have h : DataW.trod enc Try.prog W 0 (fun _ => true) true n 2 (List.take (Try.prog.cellsOf 2) (List.drop 2 [c0, c1, c2])) = some y2 := hall 2 _ rfl
    rw [show Try.prog.cellsOf 2 = 1 by kernel_rfl] at h
    exact h
  obtain ⟨v0, q0, _, _⟩ := DataW.trod_string Try.underlying9 h0
  obtain ⟨v1, q1, _, _⟩ := DataW.trod_string Try.underlying9 h1
  obtain ⟨v2, q2, _, w2⟩ := DataW.trod_int Try.underlying2 h2
  simp only [List.cons.injEq, and_true] at q0 q1 q2
  subst q0 q1 q2
  have := bounds_i64 w2
  exact ⟨⟨v0, v1, v2⟩, rfl, by show -9223372036854775808 ≤ v2; omega, by show v2 ≤ 9223372036854775807; omega⟩

theorem in_stampeds (hf : DataW.trod enc Try.prog W 0 (fun _ => true) true fuel 38 cs = some x) : ∃ a len cap l, cs = [.slice a len cap] ∧ Rk.InS W a len cap l := by
  have e3 : Try.prog.cellsOf 52 = 3 := by kernel_rfl
  rcases Go.Deep.open_slice Try.underlying38 hf with ⟨hcs, _⟩ | ⟨x, l, c, m, n, D, Pl, hcs, _, hl, hm, hmm, hx, hall⟩
  · exact ⟨none, 0, 0, [], hcs, rfl, (fun h => absurd h (Nat.lt_irrefl 0)), Nat.le_refl _, by omega, (fun _ => ⟨rfl, rfl⟩)⟩
  · simp only [if_true] at hmm
    subst hmm
    rw [e3] at hall
    haveI : Inhabited St := ⟨⟨.empty, .empty, 0⟩⟩
    obtain ⟨F, hF⟩ := Go.Deep.choose_lt (n := l) (α := St) (p := fun i g => W.cells? 0 (x.add (i * 3)) 3 = some (Rk.St.cells g) ∧ -9223372036854775808 ≤ g.ts ∧ g.ts ≤ 9223372036854775807) (fun i hi => by
      obtain ⟨cs, h1, h2⟩ := hall i (by omega)
      obtain ⟨g, rfl, h3⟩ := in_st h2
      exact ⟨g, h1, h3⟩)
    refine ⟨some x, l, m, (List.range l).map F, hcs, by simp, fun hpos => ?_, hl, by unfold maxLen at hm; omega, (fun h => by cases h)⟩
    · have h0 := rcells_at (hF 0 hpos).1 0 _ rfl
      obtain ⟨b, off, spot⟩ := x
      have hspot : spot = none := by
        have := World.cell?_spot h0
        simpa [Addr.add] using this
      subst hspot
      refine ⟨b, off, rfl, fun i g hi j v hv => ?_⟩
      have hil : i < l := by
        have := (List.getElem?_eq_some_iff.1 hi).1
        simpa using this
      have hg : g = F i := by simpa [hil] using hi.symm
      subst hg
      have := rcells_at (hF i hil).1 j v hv
      rw [Addr.add_lit, Addr.add_lit] at this
      exact this

theorem in_chunk (hf : DataW.trod enc Try.prog W 0 (fun _ => true) true fuel 71 cs = some x) : ∃ n a len cap l d, cs = [.int .i64 n, .slice a len cap, .bool d] ∧ (-9223372036854775808 ≤ n ∧ n ≤ 9223372036854775807) ∧ Rk.InS W a len cap l := by
  obtain ⟨ys, n, -, rfl, hlen, hys, hall⟩ := DataW.trod_struct Try.underlying71 hf
  have eT : Try.prog.cellsOf 71 = 3 := by kernel_rfl
  rw [eT] at hlen
  obtain ⟨c0, c1, c2, rfl⟩ := list3 hlen
  obtain ⟨y0, y1, y2, rfl⟩ := list3 (l := ys) hys
  have h0 : DataW.trod enc Try.prog W 0 (fun _ => true) true n 3 [c0] = some y0 := by
    have h : DataW.trod enc Try.prog W 0 (fun _ => true) true n 3 (List.take (Try.prog.cellsOf 3) (List.drop 0 [c0, c1, c2])) = some y0 := hall 0 _ rfl
    rw [show Try.prog.cellsOf 3 = 1 by kernel_rfl] at h
    exact h
  have h1 : DataW.trod enc Try.prog W 0 (fun _ => true) true n 38 [c1] = some y1 := by
    have h : DataW.trod enc Try.prog W 0 (fun _ => true) true n 38 (List.take (Try.prog.cellsOf 38) (List.drop 1 [c0, c1, c2])) = some y1 := hall 1 _ rfl
    rw [show Try.prog.cellsOf 38 = 1 by kernel_rfl] at h
    exact h
  have h2 : DataW.trod enc Try.prog W 0 (fun _ => true) true n 4 [c2] = some y2 := by
    have h : DataW.trod enc Try.prog W 0 (fun _ => true) true n 4 (List.take (Try.prog.cellsOf 4) (List.drop 2 [c0, c1, c2])) = some y2 := hall 2 _ rfl
    rw [show Try.prog.cellsOf 4 = 1 by kernel_rfl] at h
    exact h
  obtain ⟨v0, q0, _, w0⟩ := DataW.trod_int Try.underlying3 h0
  obtain ⟨a, len, cap, l, q1, hw⟩ := in_stampeds h1
  obtain ⟨v2, q2, _⟩ := DataW.trod_bool Try.underlying4 h2
  simp only [List.cons.injEq, and_true] at q0 q1 q2
  subst q0 q1 q2
  have := bounds_i64 w0
  exact ⟨v0, a, len, cap, l, v2, rfl, by omega, hw⟩

theorem in_ck (hf : DataW.trod enc Try.prog W 0 (fun _ => true) true fuel 71 cs = some x) : ∃ g : Ck, cs = g.cells ∧ g.ok W := by
  obtain ⟨n, a, len, cap, l, d, rfl, -, h⟩ := in_chunk hf
  exact ⟨⟨n, a, len, cap, d⟩, rfl, l, h⟩
end

theorem in_cks {H : Type} {enc : TypeId × Value → H} {W : World} {a : Option Addr} {len cap : Nat} {d : DataW H} {p : List MemPlace}
    (h : DataW.Trod enc Try.prog W 0 (fun _ => true) true 43 (.slice a len cap) d p) (hB : ∀ n ∈ d.weights Try.prog 43, n ≤ 140737488351232) : ∃ l, InL Ck.cells (Ck.ok W) 3 3518437208781 W a len cap l :=
  haveI : Inhabited Ck := ⟨⟨0, none, 0, 0, false⟩⟩
  in_list (k := 3) (B := 40) Try.underlying43 (by kernel_rfl) (by kernel_rfl) (by decide) (fun n hn => by omega) (fun fuel cs x hf => in_ck hf) (fun g => by simp [Ck.cells]) h hB

/-- Each chunk's pairs, chosen once. -/
theorem stOf_ex {W : World} {l : List Ck} (h : ∀ g ∈ l, Ck.ok W g) : ∃ f : Ck → List St, ∀ g ∈ l, Rk.InS W g.p g.n g.c (f g) := by
  classical
  refine ⟨fun g => if h : Ck.ok W g then h.choose else [], fun g hg => ?_⟩
  simp only [dif_pos (h g hg)]
  exact (h g hg).choose_spec
end Go.Proofs.Ytcoibnlecdemcaa
