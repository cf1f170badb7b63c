/- Two rows of the call's own beside each other; an element just laid is appended to one of them. -/
import Derived.Test.YtcoibnlecdemcaaGnM
namespace Go.Proofs.Ytcoibnlecdemcaa
open Go.RowKit
set_option linter.unusedVariables false
set_option maxRecDepth 100000

section
variable {α : Type} {cells : α → List Value} {k : Nat}

theorem app1L (K : Knd cells k) {e t : TypeId} {z : Value} {bytes : Nat} (ht : Try.prog.underlying t = some (.slice e)) (hinfo : (Try.prog.info? e).map (fun i => (i.zero, i.size, i.bytes)) = some (some z, k, bytes)) (hzs : z.cells.size = k)
    {ops : Array Oper} {rest : List Oper} {o : Oper} {a : Act} {Q : Exit → Act → World → Prop} (w : World) (hw : Region.wanted o (yielded ops a.tmps) = true) (s x : Operand)
    (ho : o.op = .call { callee := .builtin .append, args := #[s, x], argTypes := #[t, t] })
    (base : Nat) (v : Value) (l : List α) (hs : a.eval s = v) (y : α) (B : Nat) (hx : a.eval x = .slice (some ⟨B, 0, none⟩) 1 1) (hB : B = w.heap.size) (cs : Array Value) (hcs : cs = (cells y).toArray) (hown : Own cells k e w base v l)
    (h63 : l.length + 1 ≤ maxLen) (hb : (l.length + 1) * bytes ≤ 140737488355328) (hbase : base ≤ w.heap.size)
    (h : ∀ v' w', Own cells k e w' base v' (l ++ [y]) → (w.alloc (.cells cs e)).grownBy w' v.ownBlock → (v'.ownBlock = v.ownBlock ∨ v'.ownBlock = some (w.heap.size + 1)) → wpList Try.prog ops Q rest (a.put o.dst v') w') : wpList Try.prog ops Q (o :: rest) a (w.alloc (.cells cs e)) := by
  subst hB
  subst hcs
  refine appL K ht hinfo hzs _ hw s x ho base v l [y] hs (some ⟨w.heap.size, 0, none⟩) 1 1 hx rfl (els_one K w e y) (fun h => by cases h) (hown.below ((Below.refl _ _).alloc (Nat.le_refl _) _) (Nat.le_refl _)) h63 hb (by simp; omega) ?_
  intro v' w' h1 h2 h3
  exact h v' w' h1 h2 (by simpa using h3)

/-- Two rows of the call's own. -/
structure TwoR (cells : α → List Value) (k : Nat) (t : TypeId) (w W : World) (v1 v2 : Value) (a b : List α) : Prop where
  o1 : Own cells k t W w.heap.size v1 a
  o2 : Own cells k t W w.heap.size v2 b
  ne : ∀ g, v1.ownBlock = some g → v2.ownBlock ≠ some g
  below : Below w.heap.size w W

theorem TwoR.swap {t : TypeId} {w W : World} {v1 v2 : Value} {a b : List α} (h : TwoR cells k t w W v1 v2 a b) : TwoR cells k t w W v2 v1 b a := ⟨h.o2, h.o1, fun g h2 h1 => h.ne g h1 h2, h.below⟩

theorem TwoR.nil (t : TypeId) {w W : World} (h : Below w.heap.size w W) : TwoR cells k t w W (.slice none 0 0) (.slice none 0 0) [] [] := ⟨Own.nil _ _ _, Own.nil _ _ _, fun g h => (by cases h), h⟩

theorem TwoR.up {t : TypeId} {w W W' : World} {v1 v2 : Value} {a b : List α} (h : TwoR cells k t w W v1 v2 a b) (hb : Below W.heap.size W W') : TwoR cells k t w W' v1 v2 a b := ⟨h.o1.below hb (Nat.le_refl _), h.o2.below hb (Nat.le_refl _), h.ne, h.below.trans (hb.mono h.below.size)⟩

theorem TwoR.app {t : TypeId} {w W w' : World} {v1 v2 v' : Value} {a b a' : List α} {cs : Array Value} {e : TypeId} (h : TwoR cells k t w W v1 v2 a b) (h1 : Own cells k t w' w.heap.size v' a') (h2 : (W.alloc (.cells cs e)).grownBy w' v1.ownBlock) (h3 : v'.ownBlock = v1.ownBlock ∨ v'.ownBlock = some (W.heap.size + 1)) : TwoR cells k t w w' v' v2 a' b := by
  have hal : Below W.heap.size W (W.alloc (.cells cs e)) := (Below.refl _ _).alloc (Nat.le_refl _) _
  refine ⟨h1, ?_, fun g hg => ?_, ?_⟩
  · exact (h.o2.below hal (Nat.le_refl _)).tn (grown_tn h2) (fun g hg hm => h.ne g (opt_toList.1 hm) hg)
  · rcases h3 with h3 | h3
    · exact h.ne g (h3.symm.trans hg)
    · rw [hg] at h3
      cases h3
      intro hh
      have := (h.o2.blk hh).2
      omega
  · exact (h.below.trans (hal.mono h.below.size)).grown h2 (by have := h.below.size; simp; omega) (fun g hg => (h.o1.blk hg).1)
end
end Go.Proofs.Ytcoibnlecdemcaa
