/- slices.DeleteFunc of the empty ranges, in a row of the call's own. -/
import Derived.Test.YtgppnbcneknpdaaKyL
import Derived.Test.YtgppnbcneknpdaaKyH
namespace Go.Proofs.Ytgppnbcneknpdaa
open Go.RowKit
set_option linter.unusedVariables false
set_option maxRecDepth 100000

/-- Ranges in block g, none of them frozen. -/
def Row (w : World) (g : Nat) (l : List Rg) : Prop :=
  ∀ (i : Nat) x, l[i]? = some x → (w.cell? ⟨g, i * 2, none⟩ = some (.string x.lo) ∧ w.cell? ⟨g, i * 2 + 1, none⟩ = some (.string x.hi)) ∧ w.frozen? ⟨g, i * 2, none⟩ = false ∧ w.frozen? ⟨g, i * 2 + 1, none⟩ = false

theorem Row.rgs {w : World} {g : Nat} {l : List Rg} (h : Row w g l) : Rgs w (some ⟨g, 0, none⟩) l := fun _ => ⟨g, 0, rfl, fun i x hi => by rw [Nat.zero_add]; exact (h i x hi).1⟩

theorem Row.same {w w' : World} {g : Nat} {l : List Rg} (h : Row w g l) (e : w'.heap[g]? = w.heap[g]?) : Row w' g l := by
  intro i x hi
  have := h i x hi
  have c : ∀ k, w'.cell? ⟨g, k, none⟩ = w.cell? ⟨g, k, none⟩ := fun k => by simp [World.cell?, e]
  have z : ∀ k, w'.frozen? ⟨g, k, none⟩ = w.frozen? ⟨g, k, none⟩ := fun k => by simp [World.frozen?, e]
  rw [c, c, z, z]
  exact this

theorem Row.lt {w : World} {g : Nat} {l : List Rg} (h : Row w g l) {i : Nat} {x : Rg} (hi : l[i]? = some x) : g < w.heap.size := World.block_lt_of_cell? w _ (h i x hi).1.1

theorem Row.set {w : World} {g : Nat} {l : List Rg} (h : Row w g l) (i : Nat) (x y : Rg) (hy : l[i]? = some y) : Row ((w.setCell ⟨g, i * 2, none⟩ (.string x.lo)).setCell ⟨g, i * 2 + 1, none⟩ (.string x.hi)) g (l.set i x) := by
  have hi0 := h i y hy
  intro j z hz
  have fz : ∀ k, ((w.setCell ⟨g, i * 2, none⟩ (.string x.lo)).setCell ⟨g, i * 2 + 1, none⟩ (.string x.hi)).frozen? ⟨g, k, none⟩ = w.frozen? ⟨g, k, none⟩ := fun k => by simp
  rw [fz, fz]
  by_cases e : j = i
  · subst e
    have hl : j < l.length := (List.getElem?_eq_some_iff.1 hy).1
    rw [List.getElem?_set_self hl] at hz
    obtain rfl := Option.some.inj hz
    refine ⟨⟨?_, ?_⟩, hi0.2⟩
    · rw [World.cell?_setCell_other (h := by intro e; simp only [Addr.mk.injEq] at e; omega)]
      exact World.cell?_setCell_same _ _ _ hi0.1.1
    · have e2 : (w.setCell ⟨g, j * 2, none⟩ (.string x.lo)).cell? ⟨g, j * 2 + 1, none⟩ = some (.string y.hi) := by
        rw [World.cell?_setCell_other (h := by intro e; simp only [Addr.mk.injEq] at e; omega)]
        exact hi0.1.2
      exact World.cell?_setCell_same _ _ _ e2
  · rw [List.getElem?_set_ne (by omega)] at hz
    have hj := h j z hz
    refine ⟨⟨?_, ?_⟩, hj.2⟩
    · rw [World.cell?_setCell_other (h := by intro e; simp only [Addr.mk.injEq] at e; omega), World.cell?_setCell_other (h := by intro e; simp only [Addr.mk.injEq] at e; omega)]
      exact hj.1.1
    · rw [World.cell?_setCell_other (h := by intro e; simp only [Addr.mk.injEq] at e; omega), World.cell?_setCell_other (h := by intro e; simp only [Addr.mk.injEq] at e; omega)]
      exact hj.1.2

theorem OwnR.row {w : World} {base : Nat} {v : Value} {l : List Rg} (h : OwnR w base v l) : (v = .slice none 0 0 ∧ l = []) ∨ ∃ g cap, v = .slice (some ⟨g, 0, none⟩) l.length cap ∧ base ≤ g ∧ g < w.heap.size ∧ l.length ≤ cap ∧ cap ≤ maxLen ∧ Row w g l := by
  obtain ⟨p, c, hv0, hr, hn0⟩ := h.rgs
  rcases h.2 with ⟨hv, hn⟩ | ⟨g, cap, cur, hv, hb, hg, hle, hcm, hcur, htake⟩
  · exact .inl ⟨hv, List.eq_nil_of_length_eq_zero hn⟩
  · refine .inr ⟨g, cap, hv, hb, (Array.getElem?_eq_some_iff.1 hg).1, hle, hcm, fun i x hi => ?_⟩
    rw [hv] at hv0
    simp only [Value.slice.injEq] at hv0
    obtain ⟨b, o, hp, hc⟩ := hr (by have := (List.getElem?_eq_some_iff.1 hi).1; omega)
    rw [← hv0.1] at hp
    simp only [Option.some.injEq, Addr.mk.injEq] at hp
    obtain ⟨rfl, rfl, _⟩ := hp
    have := hc i x hi
    rw [Nat.zero_add] at this
    exact ⟨this, by simp [World.frozen?, hg], by simp [World.frozen?, hg]⟩

/-- 'clear(s)' of ranges. -/
theorem run_clear_rg (w : World) (ty : TypeId) (b o n c : Nat) (hn : 0 < n) (hc : ∀ j, j < n * 2 → (w.cell? ⟨b, o + j, none⟩).isSome = true) (hf : ∀ j, j < n * 2 → w.frozen? ⟨b, o + j, none⟩ = false) :
    (Builtin.clear_ #[22] ty #[.slice (some ⟨b, o, none⟩) n c]).run Try.prog w = .ok (.tuple #[]) (w.setCells b o (List.replicate (n * 2) (.string ⟨#[]⟩))) := by
  have hv : ∀ w, (zeroValue 24).run Try.prog w = .ok (.agg #[.string ⟨#[]⟩, .string ⟨#[]⟩]) w := fun w => by kernel_rfl
  have hzc : (Builtin.zeroCells (Value.agg #[.string ⟨#[]⟩, .string ⟨#[]⟩]).cells n).toList = List.replicate (n * 2) (.string ⟨#[]⟩) := by
    simp [Builtin.zeroCells, Value.cells]
    apply List.ext_getElem
    · simp
    · intro i h1 h2
      simp
      have : i % 2 < 2 := Nat.mod_lt _ (by decide)
      rcases Nat.mod_two_eq_zero_or_one i with e | e <;> rw [e] <;> rfl
  have hst := run_storeCells_cells (P := Try.prog) b o (List.replicate (n * 2) (.string ⟨#[]⟩)) 0 w (by simpa using hc) (by simpa using hf) (by intro v hv'; rw [List.eq_of_mem_replicate hv']; rfl)
  simp only [Nat.add_zero] at hst
  obtain ⟨m, rfl⟩ : ∃ m, n = m + 1 := ⟨n - 1, by omega⟩
  simp only [Builtin.clear_]
  simp [run_underlying Try.underlying22, hv, hzc, hst]

end Go.Proofs.Ytgppnbcneknpdaa
