/- What is told is held against the document's. -/
import Derived.Test.YthpilennljpamaaGreatPgIt
import Derived.Test.YthpilennljpamaaGreatPgSm
namespace Go.Proofs.YthpilennljpamaaGreat
open Go.RowKit Go.Shelf Go.Sort
attribute [local go_sem] Oper.semAt_some
set_option linter.unusedVariables false
set_option maxRecDepth 100000

theorem tn_drewN (w : World) (k : Nat) : Tn [] w (w.drewN k) := ⟨rfl, rfl, rfl, Nat.le_refl _, fun _ _ _ => rfl⟩

theorem pfx_snoc {L pre : List En} (h : pre <+: L) (hN : pre.length < L.length) (x y : En) (hy : L[pre.length]? = some y) : pre ++ [x] <+: L ↔ x = y := by
  obtain ⟨t, rfl⟩ := h
  cases t with
  | nil => simp at hN
  | cons z t =>
    have e : z = y := by simpa using hy
    subst e
    rw [List.prefix_append_right_inj, List.cons_prefix_cons]
    simp

/-- Between the rounds. -/
structure Tl (w W : World) (q : Option Addr) (m c : Nat) (stop : Int) (L pre : List En) : Prop where
  b0 : Boxed W w.heap.size 22 (.slice q m c)
  b1 : Boxed W (w.heap.size + 1) 3 (.int .i64 stop)
  b2 : Boxed W (w.heap.size + 1 + 1) 4 (.bool false)
  b3 : Boxed W (w.heap.size + 1 + 1 + 1) 3 (.int .i64 (pre.length : Int))
  below : Below w.heap.size w W
  pf : pre <+: L

section
variable {w W W' : World} {q : Option Addr} {m c : Nat} {stop : Int} {L pre : List En}

theorem Tl.abides {row : Option Nat} {k : Nat} (h : Tl w W q m c stop L pre) (hm : w.heap.size ≤ k) (hg : W.grownBy W' row) (hr : ∀ r, row = some r → k ≤ r ∧ ∃ o : Obj, W.heap[r]? = some o ∧ o.isCells = false) : Tl w W' q m c stop L pre where
  b0 := boxed_from h.b0 hg hr
  b1 := boxed_from h.b1 hg hr
  b2 := boxed_from h.b2 hg hr
  b3 := boxed_from h.b3 hg hr
  below := h.below.grown hg h.below.size (fun k hk => by have := (hr k hk).1; omega)
  pf := h.pf

theorem Tl.still (h : Tl w W q m c stop L pre) (ht : Tn [] W W') : Tl w W' q m c stop L pre where
  b0 := Bk.tn (show Bk W _ _ _ from h.b0) ht (by simp)
  b1 := Bk.tn (show Bk W _ _ _ from h.b1) ht (by simp)
  b2 := Bk.tn (show Bk W _ _ _ from h.b2) ht (by simp)
  b3 := Bk.tn (show Bk W _ _ _ from h.b3) ht (by simp)
  below := h.below.trans (ht.below h.below.size (by simp))
  pf := h.pf

theorem Tl.fin {S : List Nat} (h : Tl w W q m c stop L pre) (hS : ∀ b ∈ S, b < w.heap.size) (ht : Tn [w.heap.size + 1 + 1, w.heap.size + 1 + 1 + 1] W W') : KeepsOthers W W' ∧ KpP S W W' ∧ Below w.heap.size w W' := by
  have hs := h.below.size
  refine ⟨keeps_tn ht (fun y hy => ?_), KpP.of_tn ht (fun y hy => ?_), h.below.trans (ht.below hs (fun y hy => ?_))⟩
  · simp only [List.mem_cons, List.not_mem_nil, or_false] at hy
    rcases hy with rfl | rfl
    · exact ⟨_, h.b2, rfl⟩
    · exact ⟨_, h.b3, rfl⟩
  · have := hS y hy
    simp only [List.mem_cons, List.not_mem_nil, or_false]
    omega
  · simp only [List.mem_cons, List.not_mem_nil, or_false] at hy
    omega

/-- The number goes up. -/
theorem Tl.num {N : Nat} (h : Tl w W q m c stop L pre) (hN : pre.length = N) (x : En) (hp : pre ++ [x] <+: L) : Tl w (W.setCell ⟨w.heap.size + 1 + 1 + 1, 0, none⟩ (.int .i64 ((N : Int) + 1))) q m c stop L (pre ++ [x]) where
  b0 := h.b0.other (by omega) _
  b1 := h.b1.other (by omega) _
  b2 := h.b2.other (by omega) _
  b3 := by
    rw [List.length_append, hN, show ((N + [x].length : Nat) : Int) = (N : Int) + 1 by simp]
    exact h.b3.set _
  below := h.below.setCell (p := ⟨w.heap.size + 1 + 1 + 1, 0, none⟩) (by simp; omega) _
  pf := hp
end

theorem tl_start (w : World) (q : Option Addr) (m c : Nat) (stop : Int) (L : List En) : ∃ W, W = (((w.alloc (.cells #[.slice q m c] 22)).alloc (.cells #[.int .i64 stop] 3)).alloc (.cells #[.bool false] 4)).alloc (.cells #[.int .i64 0] 3) ∧ W.heap.size = w.heap.size + 4 ∧ Tl w W q m c stop L [] := by
  refine ⟨_, rfl, by simp, ?_⟩
  have c0 := Bk.new w 22 #[.slice q m c]
  have c1 := Bk.new (w.alloc (.cells #[.slice q m c] 22)) 3 #[.int .i64 stop]
  have c2 := Bk.new ((w.alloc (.cells #[.slice q m c] 22)).alloc (.cells #[.int .i64 stop] 3)) 4 #[.bool false]
  have c3 := Bk.new (((w.alloc (.cells #[.slice q m c] 22)).alloc (.cells #[.int .i64 stop] 3)).alloc (.cells #[.bool false] 4)) 3 #[.int .i64 0]
  simp only [World.size_alloc] at c1 c2 c3
  exact ⟨((c0.alloc _).alloc _).alloc _, (c1.alloc _).alloc _, c2.alloc _, c3, ((((Below.refl _ w).alloc (Nat.le_refl _) _).alloc (by simp) _).alloc (by simp; omega) _).alloc (by simp; omega) _, List.nil_prefix⟩

end Go.Proofs.YthpilennljpamaaGreat
