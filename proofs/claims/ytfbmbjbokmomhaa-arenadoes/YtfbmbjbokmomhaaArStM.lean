/- Freed handles stay stale: rows of handles and of texts beside an arena. -/
import Derived.Test.YtfbmbjbokmomhaaArStP
import Derived.Test.YtfbmbjbokmomhaaArA7S
import Derived.Test.YtfbmbjbokmomhaaArRow
namespace Go.Proofs.Ytfbmbjbokmomhaa
open Go.RowKit
set_option linter.unusedVariables false
set_option maxRecDepth 100000

/-- A row of texts in memory. -/
def Sr (w : World) (v : Value) (l : List ByteArray) : Prop := w.ownsRow 0 9 1 v l.length (l.map Value.string)

theorem Sr.nil (w : World) : Sr w (.slice none 0 0) [] := World.ownsRow_nil _ _ _ _
theorem Sr.tn {S : List Nat} {w w' : World} {v : Value} {l : List ByteArray} (h : Sr w v l) (ht : Tn S w w') (hn : ∀ k, v.ownBlock = some k → k ∉ S) : Sr w' v l := owns_tn h ht hn
theorem Sr.formN {w : World} {v : Value} {l : List ByteArray} {n : Nat} (hn : l.length = n) (h : Sr w v l) : (∃ p c, v = .slice p n c) ∧ w.ownsRow 0 9 1 v n (l.map Value.string) := by
  subst hn
  refine ⟨?_, h⟩
  rcases h.2 with ⟨hv, hn⟩ | ⟨g, cap, cur, hv, _⟩
  · exact ⟨none, 0, by rw [hv, hn]⟩
  · exact ⟨_, cap, hv⟩
theorem Sr.keep {w w' : World} {v : Value} {l : List ByteArray} (h : Sr w v l) (hb : ∀ k ∈ v.ownBlock.toList, w'.heap[k]? = w.heap[k]?) : Sr w' v l := by
  refine ⟨h.1, ?_⟩
  rcases h.2 with hv | ⟨g, cap, cur, rfl, hbb, hgg, rest⟩
  · exact .inl hv
  · exact .inr ⟨g, cap, cur, rfl, hbb, (hb g (opt_toList.2 rfl)).trans hgg, rest⟩
theorem Sr.lt {w : World} {v : Value} {l : List ByteArray} (h : Sr w v l) : ∀ k, v.ownBlock = some k → k < w.heap.size := row_block h
theorem Sr.cell {w : World} {g c n : Nat} {l : List ByteArray} (hn : l.length = n) (h : Sr w (.slice (some ⟨g, 0, none⟩) n c) l) (i : Nat) (hi : i < n) : w.cell? ⟨g, i, none⟩ = some (.string (tAt l i)) := by
  subst hn
  rw [World.ownsRow.cellAt h i (by omega)]
  simp [tAt, List.getD, hi]
theorem Sr.set {w : World} {g c n : Nat} {l : List ByteArray} (hn : l.length = n) (h : Sr w (.slice (some ⟨g, 0, none⟩) n c) l) (i : Nat) (x : ByteArray) : Sr (w.setCell ⟨g, i, none⟩ (.string x)) (.slice (some ⟨g, 0, none⟩) n c) (l.set i x) ∧ Tn [g] w (w.setCell ⟨g, i, none⟩ (.string x)) := by
  subst hn
  have := World.ownsRow.stored h i (.string x)
  refine ⟨?_, grown_tn this.2⟩
  unfold Sr
  rw [List.map_set, List.length_set]
  exact this.1

theorem strinfo : (Try.prog.info? 9).map (fun i => (i.zero, i.size, i.bytes)) = some (some (.string ⟨#[]⟩), 1, 16) := by kernel_rfl

/-- Two rows have no block in common. -/
def Ap (u v : Value) : Prop := ∀ k, u.ownBlock = some k → v.ownBlock ≠ some k

theorem Ap.symm {u v : Value} (h : Ap u v) : Ap v u := fun k hk e => h k e hk

def bl3 (g l s : Value) : List Nat := g.ownBlock.toList ++ (l.ownBlock.toList ++ s.ownBlock.toList)

theorem mem_bl3 {g l s : Value} {k : Nat} : k ∈ bl3 g l s ↔ g.ownBlock = some k ∨ l.ownBlock = some k ∨ s.ownBlock = some k := by simp only [bl3, List.mem_append, opt_toList]

/-- The arena, and the three rows. -/
structure Sm (w wr : World) (B : Nat) (a : Ar) (gv lv sv : Value) (L : List (Int × Int)) (H : List ByteArray) (G : List (Int × Int)) : Prop where
  ar : AsS w.heap.size wr B a (bl3 gv lv sv)
  gr : Hr wr gv G
  lr : Hr wr lv L
  sr : Sr wr sv H
  gl : Ap gv lv
  gs : Ap gv sv
  ls : Ap lv sv
  lo : ∀ k ∈ bl3 gv lv sv, w.heap.size ≤ k
  bel : Below w.heap.size w wr

theorem Sm.quiet {w wr w1 : World} {B : Nat} {a : Ar} {gv lv sv : Value} {L : List (Int × Int)} {H : List ByteArray} {G : List (Int × Int)} (h : Sm w wr B a gv lv sv L H G) (ht : Tn [] wr w1) : Sm w w1 B a gv lv sv L H G :=
  { h with ar := h.ar.quiet ht, gr := h.gr.tn ht (by simp), lr := h.lr.tn ht (by simp), sr := h.sr.tn ht (by simp), bel := h.bel.trans (ht.below h.bel.size (by simp)) }

theorem Sm.aft {w wr w1 : World} {B : Nat} {a a' : Ar} {gv lv sv : Value} {L : List (Int × Int)} {H : List ByteArray} {G : List (Int × Int)} (h : Sm w wr B a gv lv sv L H G) (hf : AftS w.heap.size wr w1 B a' (bl3 gv lv sv)) : Sm w w1 B a' gv lv sv L H G :=
  { h with ar := hf.1, gr := h.gr.keep (fun k hk => hf.2.2 k (mem_bl3.2 (.inl (opt_toList.1 hk)))), lr := h.lr.keep (fun k hk => hf.2.2 k (mem_bl3.2 (.inr (.inl (opt_toList.1 hk))))), sr := h.sr.keep (fun k hk => hf.2.2 k (mem_bl3.2 (.inr (.inr (opt_toList.1 hk))))), bel := h.bel.trans (hf.2.1.mono (Nat.le_refl _)) }

theorem Sm.lt {w wr : World} {B : Nat} {a : Ar} {gv lv sv : Value} {L : List (Int × Int)} {H : List ByteArray} {G : List (Int × Int)} (h : Sm w wr B a gv lv sv L H G) : ∀ k ∈ bl3 gv lv sv, k < wr.heap.size := by
  intro k hk
  rcases mem_bl3.1 hk with hk | hk | hk
  · exact h.gr.lt k hk
  · exact h.lr.lt k hk
  · exact h.sr.lt k hk

theorem Sm.lvle {w wr : World} {B : Nat} {a : Ar} {gv lv sv : Value} {L : List (Int × Int)} {H : List ByteArray} {G : List (Int × Int)} (h : Sm w wr B a gv lv sv L H G) : live a.us ≤ a.size := by
  obtain ⟨bs, ⟨uv, fv, fr, _, hi⟩, _⟩ := h.ar
  exact Nat.le_trans (live_le a.us) hi.le

/-- One row has grown or is another one; the others stay. -/
theorem Sm.turnG {w wr w1 : World} {B : Nat} {a : Ar} {gv gv' lv sv : Value} {L : List (Int × Int)} {H : List ByteArray} {G G' : List (Int × Int)} (h : Sm w wr B a gv lv sv L H G) (hr : Hr w1 gv' G') (ht : Tn gv.ownBlock.toList wr w1) (hn : Nw wr gv gv') : Sm w w1 B a gv' lv sv L H G' := by
  have hsz := h.bel.size
  have hav : ∀ x ∈ bl3 gv' lv sv, x ∈ bl3 gv lv sv ∨ wr.heap.size ≤ x := by
    intro x hx
    rcases mem_bl3.1 hx with h1 | h1 | h1
    · rcases hn x h1 with h2 | h2
      · exact .inl (mem_bl3.2 (.inl h2))
      · exact .inr h2
    · exact .inl (mem_bl3.2 (.inr (.inl h1)))
    · exact .inl (mem_bl3.2 (.inr (.inr h1)))
  have lr1 := h.lr.tn ht (fun k hk hm => h.gl k (opt_toList.1 hm) hk)
  have sr1 := h.sr.tn ht (fun k hk hm => h.gs k (opt_toList.1 hm) hk)
  exact {
    ar := h.ar.grow ht (fun x hx => .inl (mem_bl3.2 (.inl (opt_toList.1 hx)))) hav (fun x hx => by
      rcases mem_bl3.1 hx with h1 | h1 | h1
      · exact hr.lt x h1
      · exact lr1.lt x h1
      · exact sr1.lt x h1)
    gr := hr
    lr := lr1
    sr := sr1
    gl := fun k hk e => by
      rcases hn k hk with h1 | h1
      · exact h.gl k h1 e
      · have := h.lr.lt k e
        omega
    gs := fun k hk e => by
      rcases hn k hk with h1 | h1
      · exact h.gs k h1 e
      · have := h.sr.lt k e
        omega
    ls := h.ls
    lo := fun k hk => by
      rcases hav k hk with h1 | h1
      · exact h.lo k h1
      · omega
    bel := h.bel.trans (ht.below hsz (fun x hx => h.lo x (mem_bl3.2 (.inl (opt_toList.1 hx))))) }

/-- The other two have grown, or are others. -/
theorem Sm.turnLS {w wr w1 : World} {B : Nat} {a : Ar} {gv lv lv' sv sv' : Value} {L L' : List (Int × Int)} {H H' : List ByteArray} {G : List (Int × Int)} (h : Sm w wr B a gv lv sv L H G) (hl : Hr w1 lv' L') (hs : Sr w1 sv' H') (ht : Tn (lv.ownBlock.toList ++ sv.ownBlock.toList) wr w1) (hn : Nw wr lv lv') (hm : Nw wr sv sv') (hap : Ap lv' sv') : Sm w w1 B a gv lv' sv' L' H' G := by
  have hsz := h.bel.size
  have hav : ∀ x ∈ bl3 gv lv' sv', x ∈ bl3 gv lv sv ∨ wr.heap.size ≤ x := by
    intro x hx
    rcases mem_bl3.1 hx with h1 | h1 | h1
    · exact .inl (mem_bl3.2 (.inl h1))
    · rcases hn x h1 with h2 | h2
      · exact .inl (mem_bl3.2 (.inr (.inl h2)))
      · exact .inr h2
    · rcases hm x h1 with h2 | h2
      · exact .inl (mem_bl3.2 (.inr (.inr h2)))
      · exact .inr h2
  have gr1 := h.gr.tn ht (fun k hk hmm => by
    simp only [List.mem_append, opt_toList] at hmm
    rcases hmm with e | e
    · exact h.gl k hk e
    · exact h.gs k hk e)
  exact {
    ar := h.ar.grow ht (fun x hx => by
      simp only [List.mem_append, opt_toList] at hx
      exact .inl (mem_bl3.2 (.inr hx))) hav (fun x hx => by
      rcases mem_bl3.1 hx with h1 | h1 | h1
      · exact gr1.lt x h1
      · exact hl.lt x h1
      · exact hs.lt x h1)
    gr := gr1
    lr := hl
    sr := hs
    gl := fun k hk e => by
      rcases hn k e with h1 | h1
      · exact h.gl k hk h1
      · have := h.gr.lt k hk
        omega
    gs := fun k hk e => by
      rcases hm k e with h1 | h1
      · exact h.gs k hk h1
      · have := h.gr.lt k hk
        omega
    ls := hap
    lo := fun k hk => by
      rcases hav k hk with h1 | h1
      · exact h.lo k h1
      · omega
    bel := h.bel.trans (ht.below hsz (fun x hx => by
      simp only [List.mem_append, opt_toList] at hx
      exact h.lo x (mem_bl3.2 (.inr hx)))) }

end Go.Proofs.Ytfbmbjbokmomhaa
