import Derived.Test.YtlfgclmgpbaenaaAppG
namespace Go.Proofs.Ytlfgclmgpbaenaa
open Go.RowKit
set_option linter.unusedVariables false
set_option maxRecDepth 100000

theorem Own.cell {w : World} {base g n cap : Nat} {xs : List Int} (h : Own w base (.slice (some ⟨g, 0, none⟩) n cap) n xs) (j : Nat) (hj : j < n) : w.cell? ⟨g, j, none⟩ = some (.int .u8 (xs.getD j 0)) := by
  have hl := h.len
  have := World.ownsRow.cellAt h j (by omega)
  rw [this]
  simp [List.getD, show j < xs.length by omega]

theorem Own.frozen {w : World} {base g n cap : Nat} {xs : List Int} (h : Own w base (.slice (some ⟨g, 0, none⟩) n cap) n xs) (j : Nat) : w.frozen? ⟨g, j, none⟩ = false := World.ownsRow.frozenAt h j

theorem Own.set {w : World} {base g n cap : Nat} {xs : List Int} (h : Own w base (.slice (some ⟨g, 0, none⟩) n cap) n xs) (j : Nat) (x : Int) :
    Own (w.setCell ⟨g, j, none⟩ (.int .u8 x)) base (.slice (some ⟨g, 0, none⟩) n cap) n (xs.set j x) ∧ w.grownBy (w.setCell ⟨g, j, none⟩ (.int .u8 x)) (some g) := by
  have := World.ownsRow.stored h j (.int .u8 x)
  refine ⟨?_, this.2⟩
  have h1 := this.1
  unfold Own
  rw [List.map_set]
  exact h1

theorem Own.form {w : World} {base n : Nat} {v : Value} {xs : List Int} (h : Own w base v n xs) : (v = .slice none 0 0 ∧ n = 0 ∧ xs = []) ∨ ∃ g c, v = .slice (some ⟨g, 0, none⟩) n c ∧ base ≤ g ∧ g < w.heap.size ∧ n ≤ c := by
  have hl := h.len
  rcases h.2 with ⟨hv, hn⟩ | ⟨g, cap, cur, hv, hb, hg, hle, _⟩
  · exact .inl ⟨hv, hn, List.eq_nil_of_length_eq_zero (by omega)⟩
  · exact .inr ⟨g, cap, hv, hb, (Array.getElem?_eq_some_iff.1 hg).1, hle⟩

/-- Blocks of the elder do not meet those of the younger. -/
theorem apart {w2 : World} {hi lo n : Nat} {v1 v2 : Value} {xs : List Int} (h1 : ∀ k, v1.ownBlock = some k → k < hi) (h2 : Own w2 lo v2 n xs) (hle : hi ≤ lo) :
    (v1.ownBlock = none ∨ v1.ownBlock ≠ v2.ownBlock) ∧ (v2.ownBlock = none ∨ v2.ownBlock ≠ v1.ownBlock) := by
  cases e2 : v2.ownBlock with
  | none =>
    cases e1 : v1.ownBlock with
    | none => exact ⟨.inl rfl, .inl rfl⟩
    | some k => exact ⟨.inr (by simp), .inl rfl⟩
  | some k2 =>
    have hk2 := (World.ownsRow.lt h2 k2 e2).1
    cases e1 : v1.ownBlock with
    | none => exact ⟨.inl rfl, .inr (by simp)⟩
    | some k =>
      have := h1 k e1
      exact ⟨.inr (by simp; omega), .inr (by simp; omega)⟩

theorem Own.hi {w : World} {base n : Nat} {v : Value} {xs : List Int} (h : Own w base v n xs) : ∀ k, v.ownBlock = some k → k < w.heap.size := fun k hk => (World.ownsRow.lt h k hk).2

theorem below_grown_own {B : Nat} {a w w' : World} {base n : Nat} {v : Value} {xs : List Int} (hb : Below B a w) (hg : w.grownBy w' v.ownBlock) (h : Own w base v n xs) (hB : B ≤ base) (hs : B ≤ w.heap.size) : Below B a w' :=
  hb.grown hg hs (fun k hk => Nat.le_trans hB (World.ownsRow.lt h k hk).1)

theorem Own.n_le {w : World} {base n : Nat} {v : Value} {xs : List Int} (h : Own w base v n xs) : n ≤ 9223372036854775807 := by
  rcases h.2 with ⟨hv, hn⟩ | ⟨g, cap, cur, hv, hb, hg, hle, hcm, _⟩
  · omega
  · unfold maxLen at hcm
    omega

end Go.Proofs.Ytlfgclmgpbaenaa
