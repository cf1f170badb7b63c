/- Commits in a row that may be written: what a swap leaves. -/
import Derived.Test.YtilabcolfabnmaaSbP
import Derived.WalkLawsBesides
import Derived.Tactics2
import Derived.WalkSmall
namespace Go.Proofs.Ytilabcolfabnmaa
open Go.RowKit
set_option linter.unusedVariables false
set_option maxRecDepth 100000

/-- A commit: its timestamp, and the slice of its writes. -/
structure Cm where
  ts : Int
  p : Option Addr
  n : Nat
  c : Nat
def Cm.cells (x : Cm) : List Value := [.int .i64 x.ts, .slice x.p x.n x.c]
abbrev Cm.v (x : Cm) : Value := .agg #[.int .i64 x.ts, .slice x.p x.n x.c]
theorem cmknd : Knd Cm.cells 2 := ⟨fun _ => rfl, fun x u hu => by simp [Cm.cells] at hu; rcases hu with rfl | rfl <;> rfl, by decide⟩
theorem cminfo : (Try.prog.info? 42).map (fun i => (i.zero, i.size, i.bytes)) = some (some (.agg #[.int .i64 0, .slice none 0 0]), 2, 32) := by kernel_rfl

/-- Commits in block g, none of them frozen. -/
def Rcm (w : World) (g : Nat) (l : List Cm) : Prop :=
  ∀ (i : Nat) x, l[i]? = some x → (w.cell? ⟨g, i * 2, none⟩ = some (.int .i64 x.ts) ∧ w.cell? ⟨g, i * 2 + 1, none⟩ = some (.slice x.p x.n x.c)) ∧ w.frozen? ⟨g, i * 2, none⟩ = false ∧ w.frozen? ⟨g, i * 2 + 1, none⟩ = false

theorem Rcm.els {w : World} {g : Nat} {l : List Cm} (h : Rcm w g l) : Els Cm.cells 2 w (some ⟨g, 0, none⟩) l := fun _ => ⟨g, 0, rfl, fun i x hx j v hv => by
  rw [Nat.zero_add]
  have := (h i x hx).1
  match j, hv with
  | 0, hv => simp [Cm.cells] at hv; subst hv; exact this.1
  | 1, hv => simp [Cm.cells] at hv; subst hv; exact this.2
  | j + 2, hv => simp [Cm.cells] at hv⟩

theorem Rcm.same {w w' : World} {g : Nat} {l : List Cm} (h : Rcm w g l) (e : w'.heap[g]? = w.heap[g]?) : Rcm w' g l := by
  intro i x hi
  have := h i x hi
  simp only [World.cell?, World.frozen?, e] at this ⊢
  exact this

theorem Rcm.below {w w' : World} {g B : Nat} {l : List Cm} (h : Rcm w g l) (hb : Below B w w') (hg : g < B) : Rcm w' g l := h.same (hb.block g hg)

theorem Rcm.lt {w : World} {g : Nat} {l : List Cm} (h : Rcm w g l) {i : Nat} {x : Cm} (hi : l[i]? = some x) : g < w.heap.size := World.block_lt_of_cell? w _ (h i x hi).1.1

theorem Rcm.set {w : World} {g : Nat} {l : List Cm} (h : Rcm w g l) (i : Nat) (x y : Cm) (hy : l[i]? = some y) : Rcm ((w.setCell ⟨g, i * 2, none⟩ (.int .i64 x.ts)).setCell ⟨g, i * 2 + 1, none⟩ (.slice x.p x.n x.c)) g (l.set i x) := by
  have hi0 := h i y hy
  intro j z hz
  have fz : ∀ k, ((w.setCell ⟨g, i * 2, none⟩ (.int .i64 x.ts)).setCell ⟨g, i * 2 + 1, none⟩ (.slice x.p x.n x.c)).frozen? ⟨g, k, none⟩ = w.frozen? ⟨g, k, none⟩ := fun k => by simp
  rw [fz, fz]
  by_cases e : j = i
  · subst e
    have hl : j < l.length := (List.getElem?_eq_some_iff.1 hy).1
    rw [List.getElem?_set_self hl] at hz
    obtain rfl := Option.some.inj hz
    refine ⟨⟨?_, ?_⟩, hi0.2⟩
    · rw [World.cell?_setCell_other (h := by intro e; simp only [Addr.mk.injEq] at e; omega)]
      exact World.cell?_setCell_same _ _ _ hi0.1.1
    · have e2 : (w.setCell ⟨g, j * 2, none⟩ (.int .i64 x.ts)).cell? ⟨g, j * 2 + 1, none⟩ = some (.slice y.p y.n y.c) := by
        rw [World.cell?_setCell_other (h := by intro e; simp only [Addr.mk.injEq] at e; omega)]
        exact hi0.1.2
      exact World.cell?_setCell_same _ _ _ e2
  · rw [List.getElem?_set_ne (by omega)] at hz
    have hj := h j z hz
    refine ⟨⟨?_, ?_⟩, hj.2⟩
    · rw [World.cell?_setCell_other (h := by intro e; simp only [Addr.mk.injEq] at e; omega), World.cell?_setCell_other (h := by intro e; simp only [Addr.mk.injEq] at e; omega)]
      exact hj.1.1
    · rw [World.cell?_setCell_other (h := by intro e; simp only [Addr.mk.injEq] at e; omega), World.cell?_setCell_other (h := by intro e; simp only [Addr.mk.injEq] at e; omega)]
      exact hj.1.2

/-- Both stores of a swap. -/
def wset (w : World) (g i : Nat) (x : Cm) : World := (w.setCell ⟨g, i * 2, none⟩ (.int .i64 x.ts)).setCell ⟨g, i * 2 + 1, none⟩ (.slice x.p x.n x.c)

theorem wset_tn {a w : World} {g : Nat} (h : Tn [g] a w) (i : Nat) (x : Cm) : Tn [g] a (wset w g i x) := (h.setCell (.inl (by simp)) _).setCell (.inl (by simp)) _

theorem mid_get1 (P Q S : List Cm) (x y : Cm) : (P ++ x :: (Q ++ y :: S))[P.length]? = some x := by simp
theorem mid_get2 (P Q S : List Cm) (x y : Cm) : (P ++ x :: (Q ++ y :: S))[P.length + 1 + Q.length]? = some y := by
  rw [List.getElem?_append_right (by omega), show P.length + 1 + Q.length - P.length = Q.length + 1 by omega, List.getElem?_cons_succ]
  simp
theorem mid_set1 (P S : List Cm) (x z : Cm) : (P ++ x :: S).set P.length z = P ++ z :: S := by
  rw [List.set_append_right _ _ (Nat.le_refl _)]
  simp
theorem mid_set2 (P Q S : List Cm) (x y z : Cm) : (P ++ x :: (Q ++ y :: S)).set (P.length + 1 + Q.length) z = P ++ x :: (Q ++ z :: S) := by
  rw [List.set_append_right _ _ (by omega), show P.length + 1 + Q.length - P.length = Q.length + 1 by omega, List.set_cons_succ, mid_set1]

/-- What a row has at two places, and what it has behind their swap: whichever is stored first. -/
theorem swap_row {w : World} {g a b : Nat} {P Q S : List Cm} {x y : Cm} (h : Rcm w g (P ++ x :: (Q ++ y :: S))) (ha : P.length = a) (hb : a + 1 + Q.length = b) :
    ((w.cell? ⟨g, a * 2, none⟩ = some (.int .i64 x.ts) ∧ w.cell? ⟨g, a * 2 + 1, none⟩ = some (.slice x.p x.n x.c)) ∧ w.frozen? ⟨g, a * 2, none⟩ = false ∧ w.frozen? ⟨g, a * 2 + 1, none⟩ = false) ∧
    ((w.cell? ⟨g, b * 2, none⟩ = some (.int .i64 y.ts) ∧ w.cell? ⟨g, b * 2 + 1, none⟩ = some (.slice y.p y.n y.c)) ∧ w.frozen? ⟨g, b * 2, none⟩ = false ∧ w.frozen? ⟨g, b * 2 + 1, none⟩ = false) ∧
    Rcm (wset (wset w g a y) g b x) g (P ++ y :: (Q ++ x :: S)) ∧ Rcm (wset (wset w g b x) g a y) g (P ++ y :: (Q ++ x :: S)) := by
  subst ha
  subst hb
  refine ⟨h _ _ (mid_get1 P Q S x y), h _ _ (mid_get2 P Q S x y), ?_, ?_⟩
  · have h1 := h.set P.length y x (mid_get1 P Q S x y)
    rw [mid_set1] at h1
    have h2 := h1.set _ x y (mid_get2 P Q S y y)
    rw [mid_set2] at h2
    exact h2
  · have h1 := h.set _ x y (mid_get2 P Q S x y)
    rw [mid_set2] at h1
    have h2 := h1.set P.length y x (mid_get1 P Q S x x)
    rw [mid_set1] at h2
    exact h2

theorem split_at {l : List Cm} {i : Nat} (h : i < l.length) : ∃ x, l[i]? = some x ∧ l = l.take i ++ x :: l.drop (i + 1) ∧ l.take (i + 1) = l.take i ++ [x] ∧ l.drop i = x :: l.drop (i + 1) := by
  refine ⟨l[i], List.getElem?_eq_getElem h, ?_, ?_, List.drop_eq_getElem_cons h⟩
  · rw [← List.drop_eq_getElem_cons h, List.take_append_drop]
  · rw [List.take_add_one, List.getElem?_eq_getElem h]
    rfl
end Go.Proofs.Ytilabcolfabnmaa
