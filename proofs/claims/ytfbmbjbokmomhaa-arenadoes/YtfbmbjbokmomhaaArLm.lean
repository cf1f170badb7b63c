/- All: what it gathers. -/
import Derived.Test.YtfbmbjbokmomhaaArIt
namespace Go.Proofs.Ytfbmbjbokmomhaa
open Go.RowKit Go.Shelf
attribute [local go_sem] Oper.semAt_some
set_option linter.unusedVariables false
set_option linter.unusedSimpArgs false
set_option maxRecDepth 100000

theorem owns_from {W W' : World} {row : Option Nat} {m base size n : Nat} {e : TypeId} {v : Value} {xs : List Value} (h : W.ownsRow base e size v n xs) (hg : W.grownBy W' row) (hr : ∀ r, row = some r → m ≤ r ∧ ∃ o : Obj, W.heap[r]? = some o ∧ o.isCells = false) : W'.ownsRow base e size v n xs := by
  refine ⟨h.1, ?_⟩
  rcases h.2 with hv | ⟨g, cap, cur, rfl, hb, hgg, rest⟩
  · exact .inl hv
  · refine .inr ⟨g, cap, cur, rfl, hb, (hg.block g (Array.getElem?_eq_some_iff.1 hgg).1 (fun e => ?_)).trans hgg, rest⟩
    obtain ⟨_, o, ho, hc⟩ := hr g e.symm
    rw [hgg] at ho
    cases ho
    cases hc

theorem owns_cells {W : World} {base size n : Nat} {e : TypeId} {v : Value} {xs : List Value} (h : W.ownsRow base e size v n xs) {b : Nat} (hb : v.ownBlock = some b) : ∃ o : Obj, W.heap[b]? = some o ∧ o.isCells = true := by
  rcases h.2 with ⟨hv, _⟩ | ⟨g, cap, cur, rfl, _, hgg, rest⟩
  · rw [hv] at hb
    cases hb
  · cases hb
    exact ⟨_, hgg, rfl⟩

/-- The handles and the texts as cells. -/
def ha (l : List (Nat × Int × ByteArray)) : List Value := hCells (l.map fun x => ((x.1 : Int), x.2.1))
def hb (l : List (Nat × Int × ByteArray)) : List Value := l.map fun x => Value.string x.2.2
theorem ats_snoc (l : List (Nat × Int × ByteArray)) (x : Nat × Int × ByteArray) : ha (l ++ [x]) = ha l ++ [.int .i64 (x.1 : Int), .int .i64 x.2.1] := by simp [ha, hCells]

/-- A block of the rows' own. -/
def Fr (w : World) (b : Nat) : Prop := w.heap.size ≤ b ∧ b ≠ w.heap.size ∧ b ≠ w.heap.size + 1 ∧ b ≠ w.heap.size + 2

/-- What was gathered. -/
structure Lm (w : World) (pre : List (Nat × Int × ByteArray)) (W : World) (v1 v2 : Value) : Prop where
  b1 : Boxed W (w.heap.size) 32 v1
  b2 : Boxed W (w.heap.size + 1) 44 v2
  r1 : W.ownsRow 0 36 2 v1 pre.length (ha pre)
  r2 : W.ownsRow 0 9 1 v2 pre.length (hb pre)
  n1 : ∀ b, v1.ownBlock = some b → Fr w b
  n2 : ∀ b, v2.ownBlock = some b → Fr w b
  ne : ∀ b, v1.ownBlock = some b → v2.ownBlock ≠ some b
  below : Below w.heap.size w W
  size : w.heap.size + 3 ≤ W.heap.size

theorem Lm.abides {w W W' : World} {pre : List (Nat × Int × ByteArray)} {v1 v2 : Value} {row : Option Nat} {m : Nat} (h : Lm w pre W v1 v2) (hm : w.heap.size ≤ m) (hg : W.grownBy W' row) (hr : ∀ r, row = some r → m ≤ r ∧ ∃ o : Obj, W.heap[r]? = some o ∧ o.isCells = false) : Lm w pre W' v1 v2 where
  b1 := boxed_from h.b1 hg hr
  b2 := boxed_from h.b2 hg hr
  r1 := owns_from h.r1 hg hr
  r2 := owns_from h.r2 hg hr
  n1 := h.n1
  n2 := h.n2
  ne := h.ne
  below := h.below.grown hg h.below.size (fun k hk => by have := (hr k hk).1; omega)
  size := Nat.le_trans h.size hg.size

/-- Two appends, one behind the other. -/
theorem Lm.two {w W Wa Wb w3 w7 : World} {pre : List (Nat × Int × ByteArray)} {v1 v2 v3 v7 : Value} {x : Nat × Int × ByteArray} (h : Lm w pre W v1 v2) (ta : Tn [] W Wa)
    (o3 : w3.ownsRow 0 36 2 v3 (pre.length + 1) (ha pre ++ [.int .i64 (x.1 : Int), .int .i64 x.2.1])) (g3 : Wa.grownBy w3 v1.ownBlock) (q3 : v3.ownBlock = v1.ownBlock ∨ v3.ownBlock = some Wa.heap.size)
    (tb : Tn [] w3 Wb) (o7 : w7.ownsRow 0 9 1 v7 (pre.length + 1) (hb pre ++ [.string x.2.2])) (g7 : Wb.grownBy w7 v2.ownBlock) (q7 : v7.ownBlock = v2.ownBlock ∨ v7.ownBlock = some Wb.heap.size) :
    Boxed w7 (w.heap.size) 32 v1 ∧ Boxed w7 (w.heap.size + 1) 44 v2 ∧ Tn (v1.ownBlock.toList ++ v2.ownBlock.toList) W w7 ∧
    Lm w (pre ++ [x]) ((w7.setCell ⟨w.heap.size, 0, none⟩ v3).setCell ⟨w.heap.size + 1, 0, none⟩ v7) v3 v7 ∧
    Tn (v1.ownBlock.toList ++ v2.ownBlock.toList ++ [w.heap.size, w.heap.size + 1]) W ((w7.setCell ⟨w.heap.size, 0, none⟩ v3).setCell ⟨w.heap.size + 1, 0, none⟩ v7) := by
  have t3 : Tn v1.ownBlock.toList W w3 := (ta.mono (by simp)).grown g3 (fun k hk => .inl (opt_toList.2 hk))
  have tb3 : Tn v1.ownBlock.toList W Wb := t3.trans tb (by simp)
  have t7 : Tn (v1.ownBlock.toList ++ v2.ownBlock.toList) W w7 := (tb3.mono (fun b hb => List.mem_append.2 (.inl hb))).grown g7 (fun k hk => .inl (List.mem_append.2 (.inr (opt_toList.2 hk))))
  have sa := ta.size
  have s3 := g3.size
  have sb := tb.size
  have hsz := h.size
  have m3 : ∀ b, v3.ownBlock = some b → v1.ownBlock = some b ∨ (W.heap.size ≤ b ∧ b < w3.heap.size) := by
    intro b hb
    have hlt := row_block o3 b hb
    rcases q3 with q | q
    · exact .inl (by rw [← q]; exact hb)
    · rw [q] at hb
      cases hb
      exact .inr ⟨by omega, hlt⟩
  have m7 : ∀ b, v7.ownBlock = some b → v2.ownBlock = some b ∨ w3.heap.size ≤ b := by
    intro b hb
    rcases q7 with q | q
    · exact .inl (by rw [← q]; exact hb)
    · rw [q] at hb
      cases hb
      exact .inr (by omega)
  have k1 : Bk w7 (w.heap.size) 32 #[v1] := Bk.tn (show Bk W _ _ _ from h.b1) t7 (fun hm => by
    rcases List.mem_append.1 hm with hm | hm
    · exact (h.n1 _ (opt_toList.1 hm)).2.1 rfl
    · exact (h.n2 _ (opt_toList.1 hm)).2.1 rfl)
  have k2 : Bk w7 (w.heap.size + 1) 44 #[v2] := Bk.tn (show Bk W _ _ _ from h.b2) t7 (fun hm => by
    rcases List.mem_append.1 hm with hm | hm
    · exact (h.n1 _ (opt_toList.1 hm)).2.2.1 rfl
    · exact (h.n2 _ (opt_toList.1 hm)).2.2.1 rfl)
  have hf3 : ∀ b, v3.ownBlock = some b → Fr w b := by
    intro b hb
    rcases m3 b hb with h1 | h1
    · exact h.n1 b h1
    · exact ⟨by omega, by omega, by omega, by omega⟩
  have hf7 : ∀ b, v7.ownBlock = some b → Fr w b := by
    intro b hb
    rcases m7 b hb with h1 | h1
    · exact h.n2 b h1
    · exact ⟨by omega, by omega, by omega, by omega⟩
  have tS : Tn [w.heap.size, w.heap.size + 1] w7 ((w7.setCell ⟨w.heap.size, 0, none⟩ v3).setCell ⟨w.heap.size + 1, 0, none⟩ v7) := ((Tn.refl _ _).setCell (.inl (by simp)) _).setCell (.inl (by simp)) _
  have tF : Tn (v1.ownBlock.toList ++ v2.ownBlock.toList ++ [w.heap.size, w.heap.size + 1]) W ((w7.setCell ⟨w.heap.size, 0, none⟩ v3).setCell ⟨w.heap.size + 1, 0, none⟩ v7) := (t7.mono (fun b hb => List.mem_append.2 (.inl hb))).trans tS (fun b hb => .inl (List.mem_append.2 (.inr hb)))
  have hlt2 : ∀ b, v2.ownBlock = some b → b < W.heap.size := fun b hb => row_block h.r2 b hb
  refine ⟨k1, k2, t7, ?_, tF⟩
  exact {
    b1 := by
      have := (k1.set 0 v3).other (p := ⟨w.heap.size + 1, 0, none⟩) (by simp) v7
      exact this
    b2 := by
      have := (k2.other (p := ⟨w.heap.size, 0, none⟩) (by simp) v3).set 0 v7
      exact this
    r1 := by
      rw [ats_snoc, List.length_append]
      refine owns_tn (owns_tn (owns_tn o3 tb (by simp)) (grown_tn g7) (fun b hb hm => ?_)) tS (fun b hb hm => ?_)
      · have h2 := opt_toList.1 hm
        rcases m3 b hb with h1 | h1
        · exact h.ne b h1 h2
        · have := hlt2 b h2
          omega
      · have := hf3 b hb
        simp at hm
        rcases hm with rfl | rfl
        · exact this.2.1 rfl
        · exact this.2.2.1 rfl
    r2 := by
      have e : hb (pre ++ [x]) = hb pre ++ [.string x.2.2] := by simp [hb]
      rw [e, List.length_append]
      refine owns_tn o7 tS (fun b hb hm => ?_)
      have := hf7 b hb
      simp at hm
      rcases hm with rfl | rfl
      · exact this.2.1 rfl
      · exact this.2.2.1 rfl
    n1 := hf3
    n2 := hf7
    ne := fun b hb hb7 => by
      rcases m7 b hb7 with h1 | h1
      · rcases m3 b hb with h2 | h2
        · exact h.ne b h2 h1
        · have := hlt2 b h1
          omega
      · have := row_block o3 b hb
        omega
    below := h.below.trans (tF.below h.below.size (fun b hb => by
      simp only [List.mem_append, List.mem_cons, List.not_mem_nil, or_false, opt_toList] at hb
      rcases hb with (hb | hb) | hb | hb
      · exact (h.n1 b hb).1
      · exact (h.n2 b hb).1
      · omega
      · omega))
    size := Nat.le_trans hsz tF.size }

end Go.Proofs.Ytfbmbjbokmomhaa
