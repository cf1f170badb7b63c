/- A slice that came in, of elements of any kind. -/
import Derived.Test.YtcoibnlecdemcaaMem
import Derived.Handy
import Derived.ProofKit
import Derived.OpenShut
import Derived.ShutString
import Derived.ChangeOld
import Derived.SizedLaws
import Derived.JoinedCond
import Derived.Deep.Slices
namespace Go.Proofs.Ytcoibnlecdemcaa
open Go.ChangeShapes Go.WideShapes Go.ChangeAt Go.RowKit
open Go.ChangeMaps (open_string shut_string)
set_option linter.unusedVariables false
set_option maxRecDepth 100000

theorem own : ownKnob Try.prog.godebug = none := by kernel_rfl
theorem laidOut : laidOutB Try.prog = true := by kernel_rfl

theorem list2 {α : Type} {l : List α} (h : l.length = 2) : ∃ a b, l = [a, b] := by
  match l, h with
  | [a, b], _ => exact ⟨a, b, rfl⟩
theorem list3 {α : Type} {l : List α} (h : l.length = 3) : ∃ a b c, l = [a, b, c] := by
  match l, h with
  | [a, b, c], _ => exact ⟨a, b, c, rfl⟩
theorem list4 {α : Type} {l : List α} (h : l.length = 4) : ∃ a b c d, l = [a, b, c, d] := by
  match l, h with
  | [a, b, c, d], _ => exact ⟨a, b, c, d, rfl⟩

theorem rcells_at {W : World} {a : Addr} {n : Nat} {cs : List Value} (h : W.cells? 0 a n = some cs) : ∀ j v, cs[j]? = some v → W.cell? (a.add j) = some v := by
  obtain ⟨_, hl, hc⟩ := World.cells?_some h
  intro j v hv
  have hj : j < n := by
    have := (List.getElem?_eq_some_iff.1 hv).1
    omega
  exact (hc j hj).trans hv

/-- Elements that a slice leads to: their cells, k each; the room is at most M. -/
structure InL {α : Type} (cells : α → List Value) (ok : α → Prop) (k M : Nat) (w : World) (p : Option Addr) (len cap : Nat) (l : List α) : Prop where
  lenq : l.length = len
  cel : 0 < len → ∃ b o, p = some ⟨b, o, none⟩ ∧ ∀ (i : Nat) g, l[i]? = some g → ∀ (j : Nat) v, (cells g)[j]? = some v → w.cell? ⟨b, o + i * k + j, none⟩ = some v
  le : len ≤ cap
  room : cap ≤ M
  nil : p = none → len = 0 ∧ cap = 0
  ok : ∀ g ∈ l, ok g

section
variable {α : Type} {cells : α → List Value} {ok : α → Prop} {k M : Nat}

theorem InL.up {w w' : World} {p : Option Addr} {len cap : Nat} {l : List α} (h : InL cells ok k M w p len cap l) (hb : Below w.heap.size w w') : InL cells ok k M w' p len cap l := by
  refine ⟨h.lenq, fun hl => ?_, h.le, h.room, h.nil, h.ok⟩
  obtain ⟨b, o, rfl, hc⟩ := h.cel hl
  refine ⟨b, o, rfl, fun i g hi j v hv => ?_⟩
  have hh := hc i g hi j v hv
  rw [hb.cell (p := ⟨b, o + i * k + j, none⟩) (World.block_lt_of_cell? w _ hh)]
  exact hh

theorem InL.at {w : World} {p : Option Addr} {len cap : Nat} {l : List α} (h : InL cells ok k M w p len cap l) {j : Nat} (hj : j < len) : ∃ b o g, p = some ⟨b, o, none⟩ ∧ l[j]? = some g ∧ ok g ∧ ∀ (i : Nat) v, (cells g)[i]? = some v → w.cell? ⟨b, o + j * k + i, none⟩ = some v := by
  obtain ⟨b, o, rfl, hc⟩ := h.cel (by omega)
  have hjl : j < l.length := by rw [h.lenq]; exact hj
  have hg := List.getElem?_eq_getElem hjl
  exact ⟨b, o, l[j], rfl, hg, h.ok _ (List.getElem_mem hjl), hc j _ hg⟩

theorem in_list [Inhabited α] {H : Type} {enc : TypeId × Value → H} {W : World} {a : Option Addr} {len cap : Nat} {d : DataW H} {p : List MemPlace} {T E : TypeId} {B : Nat}
    (hu : Try.prog.underlying T = some (.slice E)) (ek : Try.prog.cellsOf E = k) (eb : Try.prog.bytesOf E = B) (hB0 : 0 < B) (hM : ∀ n, n * B ≤ 140737488351232 → n ≤ M)
    (elem : ∀ (fuel : Nat) (cs : List Value) (x : DataW H × List MemPlace), DataW.trod enc Try.prog W 0 (fun _ => true) true fuel E cs = some x → ∃ g : α, cs = cells g ∧ ok g)
    (hk : ∀ g : α, 0 < (cells g).length)
    (h : DataW.Trod enc Try.prog W 0 (fun _ => true) true T (.slice a len cap) d p) (hB : ∀ n ∈ d.weights Try.prog T, n ≤ 140737488351232) : ∃ l, InL cells ok k M W a len cap l := by
  obtain ⟨fuel, hf⟩ := h
  rcases Go.Deep.open_slice hu hf with ⟨hcs, _⟩ | ⟨x, l, c, m, n, D, Pl, hcs, _, hl, hm, hmm, hx, hall⟩
  · simp [Value.cells] at hcs
    obtain ⟨rfl, rfl, rfl⟩ := hcs
    exact ⟨[], rfl, fun h => absurd h (Nat.lt_irrefl 0), Nat.le_refl _, Nat.zero_le _, fun _ => ⟨rfl, rfl⟩, by simp⟩
  · simp [Value.cells] at hcs
    obtain ⟨rfl, rfl, rfl⟩ := hcs
    simp only [if_true] at hmm
    subst hmm
    rw [ek] at hall
    simp only [Prod.mk.injEq] at hx
    have hroom : m ≤ M := by
      have := hB ((len + (m - len)) * Try.prog.bytesOf E) (by rw [hx.1, DataW.weights, hu]; simp)
      rw [eb] at this
      rw [show len + (m - len) = m by omega] at this
      exact hM m this
    obtain ⟨G, hG⟩ := Go.Deep.choose_lt (n := len) (α := α) (p := fun i g => W.cells? 0 (x.add (i * k)) k = some (cells g) ∧ ok g) (fun i hi => by
      obtain ⟨cs, h1, h2⟩ := hall i (by omega)
      obtain ⟨g, rfl, h3⟩ := elem _ _ _ h2
      exact ⟨g, h1, h3⟩)
    refine ⟨(List.range len).map G, by simp, fun hpos => ?_, hl, hroom, (fun h => by cases h), ?_⟩
    · have h0 := rcells_at (hG 0 hpos).1 0 _ (List.getElem?_eq_getElem (hk (G 0)))
      obtain ⟨b, off, spot⟩ := x
      have hspot : spot = none := by
        have := World.cell?_spot h0
        simpa [Addr.add] using this
      subst hspot
      refine ⟨b, off, rfl, fun i g hi j v hv => ?_⟩
      have hil : i < len := by
        have := (List.getElem?_eq_some_iff.1 hi).1
        simpa using this
      have hg : g = G i := by simpa [hil] using hi.symm
      subst hg
      have := rcells_at (hG i hil).1 j v hv
      rw [Addr.add_lit, Addr.add_lit] at this
      exact this
    · intro g hg
      obtain ⟨i, hi, rfl⟩ := List.mem_map.1 hg
      exact (hG i (List.mem_range.1 hi)).2
end
end Go.Proofs.Ytcoibnlecdemcaa
