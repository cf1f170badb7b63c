/- Rows that may be spoilt, of any kind. -/
import Derived.Test.YtilabcolfabnmaaGnT
namespace Go.Proofs.Ytilabcolfabnmaa
open Go.RowKit
set_option linter.unusedVariables false
set_option maxRecDepth 100000

/-- A row that may be spoilt at each element's first cell: it lies from m0 on and ahead of D. -/
def SpK (k m0 D : Nat) (v : Value) (w : World) : Prop := ∃ pu nu cu, v = .slice pu nu cu ∧ nu ≤ 4611686018427387904 ∧ ∀ j, j < nu → ∃ g u, pu = some ⟨g, 0, none⟩ ∧ m0 ≤ g ∧ g < D ∧ w.cell? ⟨g, j * k, none⟩ = some u ∧ w.frozen? ⟨g, j * k, none⟩ = false

theorem Own.spk {α : Type} {cells : α → List Value} {k : Nat} (K : Knd cells k) {t : TypeId} {w : World} {base m0 D : Nat} {v : Value} {l : List α} (h : Own cells k t w base v l) (hb : m0 ≤ base) (hD : w.heap.size ≤ D) (hl : l.length ≤ 4611686018427387904) : SpK k m0 D v w := by
  have h' := h
  rcases h.2 with ⟨hv, hn⟩ | ⟨g, cap, cur, hv, hbb, hg, hle, hcm, hcur, htake⟩
  · subst hv
    exact ⟨_, _, _, rfl, Nat.zero_le _, fun j hj => by omega⟩
  · have hgl : g < w.heap.size := (Array.getElem?_eq_some_iff.1 hg).1
    subst hv
    refine ⟨_, _, _, rfl, hl, fun j hj => ?_⟩
    have hjk : j * k < l.length * k := Nat.mul_lt_mul_of_pos_right hj K.pos
    have hx := List.getElem?_eq_getElem hj
    have h0l : 0 < (cells l[j]).length := by rw [K.len]; exact K.pos
    have h0 := World.ownsRow.cellAt (show w.ownsRow base t k _ l.length (flat cells l) from h') (j * k + 0) (by simpa using hjk)
    rw [flat_at K l j _ hx 0 _ (List.getElem?_eq_getElem h0l)] at h0
    exact ⟨g, _, rfl, Nat.le_trans hb hbb, Nat.lt_of_lt_of_le hgl hD, h0, World.ownsRow.frozenAt (show w.ownsRow base t k _ l.length (flat cells l) from h') _⟩

theorem SpK.nil (k m0 D : Nat) (p : Option Addr) (c : Nat) (w : World) : SpK k m0 D (.slice p 0 c) w := ⟨_, _, _, rfl, Nat.zero_le _, fun j hj => by omega⟩

theorem SpK.below {w w' : World} {k m0 D B : Nat} {v : Value} (h : SpK k m0 D v w) (hb : Below B w w') (hD : D ≤ B) : SpK k m0 D v w' := by
  obtain ⟨pu, nu, cu, rfl, h1, h2⟩ := h
  refine ⟨_, _, _, rfl, h1, fun j hj => ?_⟩
  obtain ⟨g, u, rfl, h3, h4, h5, h6⟩ := h2 j hj
  have e : w'.heap[g]? = w.heap[g]? := hb.block g (by omega)
  refine ⟨g, u, rfl, h3, h4, ?_, ?_⟩
  · rw [← h5]; simp [World.cell?, e]
  · rw [← h6]; simp [World.frozen?, e]

theorem SpK.mono {w : World} {k m0 D D' : Nat} {v : Value} (h : SpK k m0 D v w) (hD : D ≤ D') : SpK k m0 D' v w := by
  obtain ⟨pu, nu, cu, rfl, h1, h2⟩ := h
  refine ⟨_, _, _, rfl, h1, fun j hj => ?_⟩
  obtain ⟨g, u, rfl, h3, h4, h5, h6⟩ := h2 j hj
  exact ⟨g, u, rfl, h3, by omega, h5, h6⟩

theorem SpK.set {w : World} {k m0 D : Nat} {v : Value} (h : SpK k m0 D v w) (q : Addr) (x : Value) : SpK k m0 D v (w.setCell q x) := by
  obtain ⟨pu, nu, cu, rfl, h1, h2⟩ := h
  refine ⟨_, _, _, rfl, h1, fun j hj => ?_⟩
  obtain ⟨g, u, rfl, h3, h4, h5, h6⟩ := h2 j hj
  obtain ⟨u', h7⟩ := cell?_setCell_some (p := q) (x := x) h5
  exact ⟨g, u', rfl, h3, h4, h7, by simpa using h6⟩

/-- Between the rounds: a row D of rows that may be spoilt. -/
structure SoK (w1 : World) (D k : Nat) (vs : List Value) (w : World) : Prop where
  bel : Below w1.heap.size w1 w
  row : ∀ (i : Nat) v, vs[i]? = some v → w.cell? ⟨D, i, none⟩ = some v ∧ SpK k w1.heap.size D v w

theorem SoK.set {w1 w : World} {D k g i : Nat} {vs : List Value} (h : SoK w1 D k vs w) (hg : w1.heap.size ≤ g) (hD : g < D) (x : Value) : SoK w1 D k vs (w.setCell ⟨g, i, none⟩ x) where
  bel := h.bel.setCell (p := ⟨g, i, none⟩) hg _
  row j v hv := by
    obtain ⟨h1, h2⟩ := h.row j v hv
    refine ⟨?_, h2.set _ _⟩
    rw [World.cell?_setCell_other (h := by intro e; simp only [Addr.mk.injEq] at e; omega)]
    exact h1

theorem SoK.at {w1 w : World} {D k : Nat} {vs : List Value} (h : SoK w1 D k vs w) (i : Nat) (hi : i < vs.length) : ∃ pu nu cu, w.cell? ⟨D, i, none⟩ = some (.slice pu nu cu) ∧ nu ≤ 4611686018427387904 ∧ ∀ W, SoK w1 D k vs W → ∀ j, j < nu → ∃ g u, pu = some ⟨g, 0, none⟩ ∧ w1.heap.size ≤ g ∧ g < D ∧ W.cell? ⟨g, j * k, none⟩ = some u ∧ W.frozen? ⟨g, j * k, none⟩ = false := by
  have hv := List.getElem?_eq_getElem hi
  obtain ⟨h1, pu, nu, cu, e, h2, -⟩ := h.row i _ hv
  rw [e] at h1 hv
  refine ⟨pu, nu, cu, h1, h2, fun W hW j hj => ?_⟩
  obtain ⟨-, pu', nu', cu', e', -, h3⟩ := hW.row i _ hv
  cases e'
  exact h3 j hj
end Go.Proofs.Ytilabcolfabnmaa
