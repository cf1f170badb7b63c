/- Rows of handles. -/
import Derived.Test.YtfbmbjbokmomhaaArWait
namespace Go.Proofs.Ytfbmbjbokmomhaa
open Go.RowKit
set_option linter.unusedVariables false
set_option maxRecDepth 100000

def hCells (l : List (Int × Int)) : List Value := (l.map fun h => [Value.int .i64 h.1, Value.int .i64 h.2]).flatten

theorem hCells_append (l m : List (Int × Int)) : hCells (l ++ m) = hCells l ++ hCells m := by simp [hCells]

theorem hCells_length (l : List (Int × Int)) : (hCells l).length = l.length * 2 := by
  induction l with
  | nil => rfl
  | cons s us ih =>
    simp only [hCells, List.map_cons, List.flatten_cons, List.length_append] at ih ⊢
    rw [ih]
    simp
    omega

theorem hCells_at (l : List (Int × Int)) (i : Nat) (hi : i < l.length) : (hCells l)[i * 2]? = some (.int .i64 (l.getD i (0, 0)).1) ∧ (hCells l)[i * 2 + 1]? = some (.int .i64 (l.getD i (0, 0)).2) := by
  induction l generalizing i with
  | nil => simp at hi
  | cons s us ih =>
    have e : hCells (s :: us) = [.int .i64 s.1, .int .i64 s.2] ++ hCells us := rfl
    rw [e]
    cases i with
    | zero => simp
    | succ i =>
      have := ih i (by simpa using hi)
      have e1 : (i + 1) * 2 = i * 2 + 1 + 1 := by omega
      rw [e1]
      simpa using this

/-- A row of handles in memory. -/
def Hr (w : World) (v : Value) (l : List (Int × Int)) : Prop := w.ownsRow 0 36 2 v l.length (hCells l)

theorem Hr.nil (w : World) : Hr w (.slice none 0 0) [] := World.ownsRow_nil _ _ _ _
theorem Hr.tn {S : List Nat} {w w' : World} {v : Value} {l : List (Int × Int)} (h : Hr w v l) (ht : Tn S w w') (hn : ∀ k, v.ownBlock = some k → k ∉ S) : Hr w' v l := owns_tn h ht hn
theorem Hr.formN {w : World} {v : Value} {l : List (Int × Int)} {n : Nat} (hn : l.length = n) (h : Hr w v l) : (∃ p c, v = .slice p n c) ∧ w.ownsRow 0 36 2 v n (hCells l) := by
  subst hn
  refine ⟨?_, h⟩
  rcases h.2 with ⟨hv, hn⟩ | ⟨g, cap, cur, hv, _⟩
  · exact ⟨none, 0, by rw [hv, hn]⟩
  · exact ⟨_, cap, hv⟩
theorem Hr.form {w : World} {v : Value} {l : List (Int × Int)} (h : Hr w v l) : ∃ p c, v = .slice p l.length c := by
  rcases h.2 with ⟨hv, hn⟩ | ⟨g, cap, cur, hv, _⟩
  · exact ⟨none, 0, by rw [hv, hn]⟩
  · exact ⟨_, cap, hv⟩
theorem Hr.lt {w : World} {v : Value} {l : List (Int × Int)} (h : Hr w v l) : ∀ k, v.ownBlock = some k → k < w.heap.size := row_block h
theorem Hr.cell {w : World} {g c n : Nat} {l : List (Int × Int)} (hn : l.length = n) (h : Hr w (.slice (some ⟨g, 0, none⟩) n c) l) (i : Nat) (hi : i < n) : w.cell? ⟨g, i * 2, none⟩ = some (.int .i64 (l.getD i (0, 0)).1) ∧ w.cell? ⟨g, i * 2 + 1, none⟩ = some (.int .i64 (l.getD i (0, 0)).2) := by
  subst hn
  have hh := hCells_at l i hi
  rw [World.ownsRow.cellAt h (i * 2) (by omega), World.ownsRow.cellAt h (i * 2 + 1) (by omega)]
  exact hh
theorem Hr.some' {w : World} {v : Value} {l : List (Int × Int)} (h : Hr w v l) (hl : 0 < l.length) : ∃ g c, v = .slice (some ⟨g, 0, none⟩) l.length c := row_some h hl

/-- The row behind block turns, told by its blocks. -/
theorem Hr.keep {w w' : World} {v : Value} {l : List (Int × Int)} (h : Hr w v l) (hb : ∀ k ∈ v.ownBlock.toList, w'.heap[k]? = w.heap[k]?) : Hr w' v l := by
  refine ⟨h.1, ?_⟩
  rcases h.2 with hv | ⟨g, cap, cur, rfl, hbb, hgg, rest⟩
  · exact .inl hv
  · exact .inr ⟨g, cap, cur, rfl, hbb, (hb g (opt_toList.2 rfl)).trans hgg, rest⟩

theorem hinfo : (Try.prog.info? 36).map (fun i => (i.zero, i.size, i.bytes)) = some (some (.agg #[.int .i64 0, .int .i64 0]), 2, 16) := by kernel_rfl

theorem hone (s g : Int) : ∀ u ∈ [Value.int .i64 s, Value.int .i64 g], u.oneCell' = true := by
  intro u hu
  simp only [List.mem_cons, List.not_mem_nil, or_false] at hu
  rcases hu with rfl | rfl <;> rfl

/-- A handle is appended. -/
theorem Hr.app {w w2 : World} {v v' : Value} {l : List (Int × Int)} {s g : Int} {n : Nat} (hn : l.length = n) (hrow : w2.ownsRow 0 36 2 v' (n + 1) (hCells l ++ [.int .i64 s, .int .i64 g])) (hg : (w.alloc (.cells #[.int .i64 s, .int .i64 g] 36)).grownBy w2 v.ownBlock)
    (hblk : v'.ownBlock = v.ownBlock ∨ v'.ownBlock = some (w.heap.size + 1)) : Hr w2 v' (l ++ [(s, g)]) ∧ Tn v.ownBlock.toList w w2 ∧ Nw w v v' := by
  refine ⟨?_, ((Tn.refl _ w).alloc _).grown hg (fun k hk => .inl (opt_toList.2 hk)), ?_⟩
  · subst hn
    unfold Hr
    rw [hCells_append, List.length_append]
    exact hrow
  · intro k hk
    rcases hblk with hb | hb
    · exact .inl (by rw [← hb]; exact hk)
    · rw [hb] at hk
      simp at hk
      exact .inr (by omega)

theorem Nw.mem {w : World} {v v' : Value} (h : Nw w v v') : ∀ x ∈ v'.ownBlock.toList, x ∈ v.ownBlock.toList ∨ w.heap.size ≤ x := by
  intro x hx
  rcases h x (opt_toList.1 hx) with h1 | h1
  · exact .inl (opt_toList.2 h1)
  · exact .inr h1

/-- A handle's box. -/
theorem hbox (w : World) (s g : Int) : ∃ w1, w.alloc (.cells #[.int .i64 s, .int .i64 g] 36) = w1 ∧ Tn [] w w1 ∧ Bk w1 w.heap.size 36 #[.int .i64 s, .int .i64 g] ∧ w1.heap.size = w.heap.size + 1 :=
  ⟨_, rfl, (Tn.refl _ _).alloc _, Bk.new _ _ _, by simp⟩

theorem hcells {w : World} {b : Nat} {s g : Int} (h : Bk w b 36 #[.int .i64 s, .int .i64 g]) : w.cell? ⟨b, 0, none⟩ = some (.int .i64 s) ∧ w.cell? ⟨b, 1, none⟩ = some (.int .i64 g) := ⟨h.cell 0, h.cell 1⟩

end Go.Proofs.Ytfbmbjbokmomhaa
