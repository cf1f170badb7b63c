/- Arenas of elements of any kind: what Set, Free and Put leave. -/
import Derived.Test.YtbdcdiihaecheaaAgCnt
namespace Go.Proofs.Ytbdcdiihaecheaa
open Go.RowKit
set_option linter.unusedVariables false
set_option linter.unusedSectionVars false
set_option maxRecDepth 100000

variable {α : Type} [Inhabited α] {cells : α → List Value} {k : Nat} {tA tS : TypeId}

/-- Another value, in memory. -/
theorem IsAr.setv (K : Knd cells k) {w : World} {B gb c n : Nat} {fv : Value} {fr : List Nat} {a : Ar α} (hn : a.us.length = n) (h : IsAr cells k tA tS w B (.slice (some ⟨gb, 0, none⟩) n c) fv fr a) (i : Nat) (hi : i < n) (x : α) :
    ArT cells k tA tS w (setCells w gb (i * (k + 2) + 2) (cells x)) B (bsOf B (.slice (some ⟨gb, 0, none⟩) n c) fv) (a.set i x) := by
  have hgB : gb ≠ B := h.ne1 gb rfl
  have ht : Tn [gb] w (setCells w gb (i * (k + 2) + 2) (cells x)) := setCells_tn _ _
  refine ⟨_, ⟨_, fv, fr, rfl, ?_⟩, ht.mono (by intro y hy; simp at hy; subst hy; exact mem_bsOf.2 (.inr (.inl rfl))), fun b hb => .inl hb⟩
  exact {
    wt := ⟨h.wt.blk.tn ht (by simp; omega), h.wt.row.tn ht (fun k hk hm => by simp at hm; subst hm; exact h.ne2 k rfl hk), h.wt.ne, h.wt.len⟩
    row := row_value K hn h.row i hi x
    ne1 := h.ne1
    ne2 := h.ne2
    hp := h.hp
    perm := by
      show fr.Perm (freeOf (a.us.set i ⟨(slAt a.us i).gen, (slAt a.us i).given, x⟩))
      rw [freeOf_same (s := ⟨(slAt a.us i).gen, (slAt a.us i).given, x⟩) (by omega) rfl]
      exact h.perm
    le := by
      show (a.us.set i _).length ≤ a.size
      rw [List.length_set]
      exact h.le
    s1 := h.s1
    s2 := h.s2 }

/-- A slot is taken back, in memory: ahead of its waiting. -/
theorem IsAr.clear (K : Knd cells k) {w w' : World} {B gb c n : Nat} {fv : Value} {fr : List Nat} {a : Ar α} (hn : a.us.length = n) (h : IsAr cells k tA tS w B (.slice (some ⟨gb, 0, none⟩) n c) fv fr a) (i : Nat) (hi : i < n) (g : Int) (z : α)
    (hw : w' = setCells w gb (i * (k + 2)) (slc cells ⟨g, false, z⟩)) :
    w'.ownsRow 0 tS (k + 2) (.slice (some ⟨gb, 0, none⟩) n c) (a.us.set i ⟨g, false, z⟩).length (flat (slc cells) (a.us.set i ⟨g, false, z⟩)) ∧ Wt w' B tA (.int .i64 a.size) (.slice (some ⟨gb, 0, none⟩) n c) (.int .i64 a.stale) fv fr ∧ Tn [gb] w w' := by
  have hgB : gb ≠ B := h.ne1 gb rfl
  have ht : Tn [gb] w w' := by
    rw [hw]
    exact setCells_tn _ _
  refine ⟨by rw [hw]; exact row_write K hn h.row i hi ⟨g, false, z⟩, ?_, ht⟩
  exact ⟨h.wt.blk.tn ht (by simp; omega), h.wt.row.tn ht (fun k hk hm => by simp at hm; subst hm; exact h.ne2 k rfl hk), h.wt.ne, h.wt.len⟩

/-- .. and behind. -/
theorem free_end {w w2 w3 w4 : World} {B gb c n : Nat} {fv : Value} {fr : List Nat} {a : Ar α} {i : Nat} {z : α} (hn : a.us.length = n) (h : IsAr cells k tA tS w2 B (.slice (some ⟨gb, 0, none⟩) n c) fv fr a) (hi : i < n) (hgv : (slAt a.us i).given = true)
    (h0 : Tn [] w w2) (hrow : w3.ownsRow 0 tS (k + 2) (.slice (some ⟨gb, 0, none⟩) n c) (a.us.set i ⟨(slAt a.us i).gen, false, z⟩).length (flat (slc cells) (a.us.set i ⟨(slAt a.us i).gen, false, z⟩))) (ht3 : Tn [gb] w2 w3)
    (hw4 : Waits w3 w4 B tA (.int .i64 a.size) (.slice (some ⟨gb, 0, none⟩) n c) (.int .i64 a.stale) fv (fun l' => l'.Perm (fr ++ [i]))) :
    ArT cells k tA tS w w4 B (bsOf B (.slice (some ⟨gb, 0, none⟩) n c) fv) (a.free i z) := by
  obtain ⟨fv', fr', hwt, hp, hperm, ht4, hnw⟩ := hw4
  have hgB : gb ≠ B := h.ne1 gb rfl
  have hgf : fv.ownBlock ≠ some gb := h.ne2 gb rfl
  have hlt : gb < w2.heap.size := row_block h.row gb rfl
  have hne' : fv'.ownBlock ≠ some gb := by
    intro e
    rcases hnw gb e with h1 | h1
    · exact hgf h1
    · have := ht3.size
      omega
  refine ⟨bsOf B (.slice (some ⟨gb, 0, none⟩) n c) fv', ⟨_, fv', fr', rfl, ?_⟩, ?_, ?_⟩
  · exact {
      wt := hwt
      row := owns_tn hrow ht4 (fun k hk hm => by
        cases hk
        simp only [List.mem_cons, opt_toList] at hm
        rcases hm with hm | hm
        · exact hgB hm
        · exact hgf hm)
      ne1 := h.ne1
      ne2 := fun k hk => by cases hk; exact hne'
      hp := hp
      perm := hperm.trans ((List.Perm.append_right _ h.perm).trans (freeOf_free (by omega) rfl hgv))
      le := by
        show (a.us.set i _).length ≤ a.size
        rw [List.length_set]
        exact h.le
      s1 := h.s1
      s2 := h.s2 }
  · refine ((h0.mono (by simp)).trans ht3 ?_).trans ht4 ?_
    · intro x hx
      simp at hx
      subst hx
      exact .inl (mem_bsOf.2 (.inr (.inl rfl)))
    · intro x hx
      simp only [List.mem_cons, opt_toList] at hx
      rcases hx with rfl | hx
      · exact .inl (mem_bsOf.2 (.inl rfl))
      · exact .inl (mem_bsOf.2 (.inr (.inr hx)))
  · intro b hb
    rcases mem_bsOf.1 hb with rfl | hb | hb
    · exact .inl (mem_bsOf.2 (.inl rfl))
    · exact .inl (mem_bsOf.2 (.inr (.inl hb)))
    · rcases hnw b hb with h1 | h1
      · exact .inl (mem_bsOf.2 (.inr (.inr h1)))
      · exact .inr (Nat.le_trans h0.size (Nat.le_trans ht3.size h1))

theorem wait_box {w w' : World} {B b : Nat} {t u : TypeId} {c0 c1 c3 v : Value} {P : List Nat → Prop} {cs : Array Value} (hw : Waits w w' B t c0 c1 c3 v P) (hk : Bk w b u cs) (hb : b ≠ B) (hv : v.ownBlock ≠ some b) : Bk w' b u cs := by
  obtain ⟨_, _, _, _, _, ht, _⟩ := hw
  refine hk.tn ht ?_
  simp only [List.mem_cons, opt_toList, not_or]
  exact ⟨hb, hv⟩

theorem put_end (K : Knd cells k) {w w1 w3 w4 w5 : World} {B R : Nat} {uv fv : Value} {fr' : List Nat} {a : Ar α} {g' n' c' : Nat} {fv' : Value} {z x : α} (hR : w.heap.size ≤ R) (hn : (opened a.us z).length = n') (h1 : 1 ≤ a.size) (h2 : a.size ≤ 65536) (hl : n' ≤ a.size)
    (ht1 : Tn [] w w1) (hm : Mid cells k tA tS w3 B (.slice (some ⟨g', 0, none⟩) n' c') fv' fr' a.size a.stale (opened a.us z) (low a.us)) (ht3 : Tn (bsOf B uv fv) w1 w3) (hn1 : Nw w1 uv (.slice (some ⟨g', 0, none⟩) n' c')) (hn2 : Nw w1 fv fv')
    (hw4 : w4 = setCells w3 g' (low a.us * (k + 2)) (slc cells ⟨a.gen, true, x⟩)) (ht5 : Tn [R] w4 w5) (hRb : R ∉ bsOf B (.slice (some ⟨g', 0, none⟩) n' c') fv') :
    ArT cells k tA tS w w5 B (bsOf B uv fv) (a.put x) := by
  obtain ⟨h4, ht4⟩ := hm.give hn K ⟨a.gen, true, x⟩ rfl h1 h2 hl hw4
  have e : (⟨a.size, (opened a.us z).set (low a.us) ⟨a.gen, true, x⟩, a.stale⟩ : Ar α) = a.put x := by
    rw [opened_set]
    rfl
  rw [e] at h4
  refine ⟨_, ⟨_, _, _, rfl, h4.tn ht5 (fun b hb hm => by simp at hm; subst hm; exact hRb hb)⟩, ?_, ?_⟩
  · refine (((ht1.mono (by simp)).trans ht3 (fun x hx => .inl hx)).trans ht4 ?_).trans ht5 ?_
    · intro y hy
      simp at hy
      subst hy
      rcases hn1 y rfl with h | h
      · exact .inl (mem_bsOf.2 (.inr (.inl h)))
      · exact .inr (Nat.le_trans ht1.size h)
    · intro y hy
      simp at hy
      subst hy
      exact .inr hR
  · intro b hb
    rcases mem_bsOf.1 hb with rfl | hb | hb
    · exact .inl (mem_bsOf.2 (.inl rfl))
    · rcases hn1 b hb with h | h
      · exact .inl (mem_bsOf.2 (.inr (.inl h)))
      · exact .inr (Nat.le_trans ht1.size h)
    · rcases hn2 b hb with h | h
      · exact .inl (mem_bsOf.2 (.inr (.inr h)))
      · exact .inr (Nat.le_trans ht1.size h)

theorem opened_len {us : List (Sl α)} {n : Nat} (z : α) (hl : us.length ≤ n) (hlt : live us < n) : (opened us z).length ≤ n := by
  unfold opened
  split
  · exact hl
  · rename_i h
    have h1 : low us = us.length := by have := low_le us; omega
    have : live us = us.length := by
      unfold live
      rw [List.countP_eq_length]
      intro s hs
      unfold low at h1
      have := List.findIdx_eq_length.1 h1 s hs
      simpa using this
    simp
    omega


end Go.Proofs.Ytbdcdiihaecheaa
