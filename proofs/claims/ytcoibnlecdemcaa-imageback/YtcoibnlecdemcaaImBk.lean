/- A row in a box that a round appends to; what an image keeps below a block. -/
import Derived.Test.YtcoibnlecdemcaaImCh
import Derived.Test.YtcoibnlecdemcaaImGd
import Derived.Test.YtcoibnlecdemcaaImPa
namespace Go.Proofs.Ytcoibnlecdemcaa
open Go.RowKit Go.Shelf
set_option linter.unusedVariables false
set_option maxRecDepth 100000

section
variable {α : Type} {cells : α → List Value} {k : Nat}

/-- A row in a box, behind an append of one element. -/
theorem box_app {e tS : TypeId} {A w5 : World} {bB base : Nat} {v v' : Value} {l : List α} {x : α} (kb : Bk A bB tS #[v]) (hr : Own cells k e A base v l) (h1 : bB < base) (h2 : base ≤ A.heap.size)
    (hg : (A.alloc (.cells (cells x).toArray e)).grownBy w5 v.ownBlock) (ho : Own cells k e w5 base v' (l ++ [x])) :
    Bk w5 bB tS #[v] ∧ Bk (w5.setCell ⟨bB, 0, none⟩ v') bB tS #[v'] ∧ Own cells k e (w5.setCell ⟨bB, 0, none⟩ v') base v' (l ++ [x]) ∧ (∀ b, b < A.heap.size → b ≠ bB → v.ownBlock ≠ some b → (w5.setCell ⟨bB, 0, none⟩ v').heap[b]? = A.heap[b]?) ∧ A.heap.size ≤ (w5.setCell ⟨bB, 0, none⟩ v').heap.size ∧ Below bB A (w5.setCell ⟨bB, 0, none⟩ v') := by
  have hgs := hg.size
  simp only [World.size_alloc] at hgs
  have hlt := kb.lt
  have e1 : ∀ b, b < A.heap.size → v.ownBlock ≠ some b → w5.heap[b]? = A.heap[b]? := fun b h3 h4 =>
    (hg.block b (by simp; omega) (fun e => h4 e.symm)).trans (Below.heap_alloc _ _ _ h3)
  have nb : v.ownBlock ≠ some bB := fun e => by have := (hr.blk e).1; omega
  have kb5 : Bk w5 bB tS #[v] := (e1 _ hlt nb).trans kb
  refine ⟨kb5, by have := kb5.set 0 v'; simpa using this, ?_, fun b h3 h4 h5 => (Below.heap_setCell _ _ _ _ h4).trans (e1 b h3 h5), by simp [World.setCell]; omega, ?_⟩
  · exact ho.tn ((Tn.refl [bB] w5).setCell (.inl (by simp)) v') (fun b hb => by
      have := (ho.blk hb).1
      simp
      omega)
  · have h3 : Below bB A (A.alloc (.cells (cells x).toArray e)) := (Below.refl _ _).alloc (by omega) _
    exact (h3.grown hg (by simp; omega) (fun b e => by have := (hr.blk e).1; omega)).setCell (p := ⟨bB, 0, none⟩) (Nat.le_refl _) _

theorem Own.kp {e : TypeId} {A A' : World} {base : Nat} {v : Value} {l : List α} (h : Own cells k e A base v l) (hk : KpP v.ownBlock.toList A A') : Own cells k e A' base v l := by
  refine ⟨h.1, ?_⟩
  rcases h.2 with hn | ⟨g, cap, c0, hv, hbb, hg, rest⟩
  · exact .inl hn
  · exact .inr ⟨g, cap, c0, hv, hbb, (hk g (by rw [hv]; simp [Value.ownBlock])).trans hg, rest⟩
theorem Own.cel {e : TypeId} {A : World} {base : Nat} {v : Value} {l : List α} (h : Own cells k e A base v l) : ∀ b ∈ v.ownBlock.toList, base ≤ b ∧ ∃ o : Obj, A.heap[b]? = some o ∧ o.isCells = true := by
  intro b hb
  have hb' : v.ownBlock = some b := by simpa using hb
  refine ⟨(h.blk hb').1, ?_⟩
  rcases h.2 with ⟨hv, -⟩ | ⟨g, cap, c0, hv, hbb, hg, -⟩
  · rw [hv] at hb'; cases hb'
  · rw [hv] at hb'
    cases hb'
    exact ⟨_, hg, rfl⟩
end

theorem IsIm.keep {A A' : World} {base B N : Nat} {v : Value} {m : Im} (h : IsIm A base B v m) (hB : B < N) (hv : ∀ g, v.ownBlock = some g → g < N) (hk : ∀ b, b < N → A'.heap[b]? = A.heap[b]?) : IsIm A' base B v m :=
  ⟨(hk B hB).trans h.blk, h.row.kp (fun b hb => hk b (hv b (by simpa using hb))), h.ne⟩
end Go.Proofs.Ytcoibnlecdemcaa
