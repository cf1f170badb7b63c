/- Keys with their versions that came in. -/
import Derived.Test.YtcoibnlecdemcaaVsOpen
import Derived.Test.YtcoibnlecdemcaaImB
namespace Go.Proofs.Ytcoibnlecdemcaa
open Go.ChangeShapes Go.WideShapes Go.ChangeAt Go.RowKit
set_option linter.unusedVariables false
set_option maxRecDepth 100000

theorem weights_all {H : Type} {P : Program} {e : TypeId} {l : List (DataW H)} {d : DataW H} (h : d ∈ l) {n : Nat} (hn : n ∈ d.weights P e) : n ∈ DataW.weightsAll P e l := by
  induction l with
  | nil => cases h
  | cons x r ih =>
    rw [DataW.weightsAll, List.mem_append]
    rcases List.mem_cons.1 h with rfl | h
    · exact .inl hn
    · exact .inr (ih h)

/-- The same as in_list, where an element's own weights are told. -/
theorem in_listW {α : Type} {cells : α → List Value} {ok : α → Prop} {k M : Nat} [Inhabited α] {H : Type} {enc : TypeId × Value → H} {W : World} {a : Option Addr} {len cap : Nat} {d : DataW H} {p : List MemPlace} {T E : TypeId} {B : Nat}
    (hu : Try.prog.underlying T = some (.slice E)) (ek : Try.prog.cellsOf E = k) (eb : Try.prog.bytesOf E = B) (hM : ∀ n, n * B ≤ 140737488351232 → n ≤ M)
    (elem : ∀ (fuel : Nat) (cs : List Value) (x : DataW H × List MemPlace), DataW.trod enc Try.prog W 0 (fun _ => true) true fuel E cs = some x → (∀ n ∈ x.1.weights Try.prog E, n ≤ 140737488351232) → ∃ g : α, cs = cells g ∧ ok g)
    (hk : ∀ g : α, 0 < (cells g).length)
    (h : DataW.Trod enc Try.prog W 0 (fun _ => true) true T (.slice a len cap) d p) (hB : ∀ n ∈ d.weights Try.prog T, n ≤ 140737488351232) : ∃ l, InL cells ok k M W a len cap l := by
  obtain ⟨fuel, hf⟩ := h
  rcases Go.Deep.open_slice hu hf with ⟨hcs, _⟩ | ⟨x, l, c, m, n, D, Pl, hcs, _, hl, hm, hmm, hx, hall⟩
  · simp [Value.cells] at hcs
    obtain ⟨rfl, rfl, rfl⟩ := hcs
    exact ⟨[], rfl, fun h => absurd h (Nat.lt_irrefl 0), Nat.le_refl _, Nat.zero_le _, fun _ => ⟨rfl, rfl⟩, by simp⟩
  · simp [Value.cells] at hcs
    obtain ⟨rfl, rfl, rfl⟩ := hcs
    simp only [if_true] at hmm
    subst hmm
    rw [ek] at hall
    simp only [Prod.mk.injEq] at hx
    have hw : ∀ i, i < len → ∀ k ∈ (D i).weights Try.prog E, k ≤ 140737488351232 := by
      intro i hi k hk
      refine hB k ?_
      rw [hx.1, DataW.weights, hu]
      simp only [List.mem_cons, List.mem_append]
      exact .inr (.inl (weights_all (List.mem_map.2 ⟨i, List.mem_range.2 hi, rfl⟩) hk))
    have hroom : m ≤ M := by
      have := hB ((len + (m - len)) * Try.prog.bytesOf E) (by rw [hx.1, DataW.weights, hu]; simp)
      rw [eb] at this
      rw [show len + (m - len) = m by omega] at this
      exact hM m this
    obtain ⟨G, hG⟩ := Go.Deep.choose_lt (n := len) (α := α) (p := fun i g => W.cells? 0 (x.add (i * k)) k = some (cells g) ∧ ok g) (fun i hi => by
      obtain ⟨cs, h1, h2⟩ := hall i (by omega)
      obtain ⟨g, rfl, h3⟩ := elem _ _ _ h2 (hw i hi)
      exact ⟨g, h1, h3⟩)
    refine ⟨(List.range len).map G, by simp, fun hpos => ?_, hl, hroom, (fun h => by cases h), ?_⟩
    · have h0 := rcells_at (hG 0 hpos).1 0 _ (List.getElem?_eq_getElem (hk (G 0)))
      obtain ⟨b, off, spot⟩ := x
      have hspot : spot = none := by
        have := World.cell?_spot h0
        simpa [Addr.add] using this
      subst hspot
      refine ⟨b, off, rfl, fun i g hi j v hv => ?_⟩
      have hil : i < len := by
        have := (List.getElem?_eq_some_iff.1 hi).1
        simpa using this
      have hg : g = G i := by simpa [hil] using hi.symm
      subst hg
      have := rcells_at (hG i hil).1 j v hv
      rw [Addr.add_lit, Addr.add_lit] at this
      exact this
    · intro g hg
      obtain ⟨i, hi, rfl⟩ := List.mem_map.1 hg
      exact (hG i (List.mem_range.1 hi)).2

/-- A key with its versions, as it lies. -/
structure Pt where
  key : ByteArray
  p : Option Addr
  n : Nat
  c : Nat
def Pt.cells (x : Pt) : List Value := [.string x.key, .slice x.p x.n x.c]
/-- What it leads to. -/
def Pt.ok (W : World) (g : Pt) : Prop := ∃ l, InV W g.p g.n g.c l

section
variable {H : Type} {enc : TypeId × Value → H} {W : World} {fuel : Nat} {cs : List Value} {x : DataW H × List MemPlace}
theorem in_pt (hf : DataW.trod enc Try.prog W 0 (fun _ => true) true fuel 33 cs = some x) (hB : ∀ n ∈ x.1.weights Try.prog 33, n ≤ 140737488351232) : ∃ g : Pt, cs = g.cells ∧ g.ok W := by
  obtain ⟨ys, n, -, rfl, hlen, hys, hall⟩ := DataW.trod_struct Try.underlying33 hf
  have eT : Try.prog.cellsOf 33 = 2 := by kernel_rfl
  rw [eT] at hlen
  obtain ⟨c0, c1, rfl⟩ := list2 hlen
  obtain ⟨y0, y1, rfl⟩ := list2 (l := ys) hys
  have h0 : DataW.trod enc Try.prog W 0 (fun _ => true) true n 9 [c0] = some y0 := by
    have h : DataW.trod enc Try.prog W 0 (fun _ => true) true n 9 (List.take (Try.prog.cellsOf 9) (List.drop 0 [c0, c1])) = some y0 := hall 0 _ rfl
    rw [show Try.prog.cellsOf 9 = 1 by kernel_rfl] at h
    exact h
  have h1 : DataW.trod enc Try.prog W 0 (fun _ => true) true n 31 [c1] = some y1 := by
    have h : DataW.trod enc Try.prog W 0 (fun _ => true) true n 31 (List.take (Try.prog.cellsOf 31) (List.drop 1 [c0, c1])) = some y1 := hall 1 _ rfl
    rw [show Try.prog.cellsOf 31 = 1 by kernel_rfl] at h
    exact h
  obtain ⟨v0, q0, _, _⟩ := DataW.trod_string Try.underlying9 h0
  simp only [List.cons.injEq, and_true] at q0
  subst q0
  obtain ⟨a, nn, cc, hc⟩ : ∃ a nn cc, c1 = .slice a nn cc := by
    rcases Go.Deep.open_slice Try.underlying31 h1 with ⟨hcs, _⟩ | ⟨x, l, c, m, n, D, Pl, hcs, _⟩
    · simp only [List.cons.injEq, and_true] at hcs
      exact ⟨none, 0, 0, hcs⟩
    · simp only [List.cons.injEq, and_true] at hcs
      exact ⟨_, _, _, hcs⟩
  subst hc
  obtain ⟨l, hl⟩ := in_vers (a := a) (len := nn) (cap := cc) (d := y1.1) (p := y1.2) ⟨n, h1⟩ (fun k hk => hB k (by
    simp only [List.map_cons, List.map_nil]
    rw [DataW.weights, Try.underlying33]
    simp only [List.map_cons, List.map_nil, DataW.weightsEach, List.mem_append]
    exact .inr (.inl hk)))
  exact ⟨⟨v0, a, nn, cc⟩, rfl, l, hl⟩
end

theorem in_pts {H : Type} {enc : TypeId × Value → H} {W : World} {a : Option Addr} {len cap : Nat} {d : DataW H} {p : List MemPlace}
    (h : DataW.Trod enc Try.prog W 0 (fun _ => true) true 22 (.slice a len cap) d p) (hB : ∀ n ∈ d.weights Try.prog 22, n ≤ 140737488351232) : ∃ l, InL Pt.cells (Pt.ok W) 2 3518437208781 W a len cap l :=
  haveI : Inhabited Pt := ⟨⟨⟨#[]⟩, none, 0, 0⟩⟩
  in_listW (k := 2) (B := 40) Try.underlying22 (by kernel_rfl) (by kernel_rfl) (fun n hn => by omega) (fun fuel cs x hf hw => in_pt hf hw) (fun g => by simp [Pt.cells]) h hB
end Go.Proofs.Ytcoibnlecdemcaa
