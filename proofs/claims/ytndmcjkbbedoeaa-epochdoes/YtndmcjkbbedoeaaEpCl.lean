/- Clone. -/
import Derived.Test.YtndmcjkbbedoeaaEpRa
namespace Go.Proofs.Ytndmcjkbbedoeaa
open Go.RowKit
set_option linter.unusedVariables false
set_option maxRecDepth 100000

set_option maxHeartbeats 1000000 in
/-- slices.Clone. -/
theorem sclone_any {w : World} {v : Value} {l : List Rt} (h : Rr w v l) (hl : l.length ≤ 3600000000000) :
    Calls Try.prog 40 #[v] w fun r w' => ∃ v', r = .returned v' ∧ Rr w' v' l ∧ Tn [] w w' ∧ ∀ b, v'.ownBlock = some b → w.heap.size ≤ b := by
  obtain ⟨n, hn⟩ : ∃ n, l.length = n := ⟨_, rfl⟩
  obtain ⟨p, c, rfl, -⟩ := h.form
  have HR : Hid (Rr w (.slice p l.length c) l) := h
  have HN : Hid (l.length = n) := hn
  have hnl := h.news
  rw [hn] at HR hl hnl ⊢
  cases p with
  | none =>
    obtain ⟨rfl, rfl⟩ := hnl.2.2.2 rfl
    have hl0 : l = [] := List.eq_nil_of_length_eq_zero hn
    subst hl0
    clear hnl h HR hn HN
    have hq : ∀ W : World, (binOp .eql 50 (.slice none 0 0) (.slice none 0 0)).run Try.prog W = .ok (.bool true) W := fun W => by kernel_rfl
    go_enter Try.func40, Try.ntmps40
    go_wp2
    go_ret
    exact ⟨_, rfl, Rr.nil _, Tn.refl _ _, fun b hb => (by cases hb)⟩
  | some ad =>
    have HO : Hid (World.ownsRow (w.alloc (.cells #[] 31)) 0 31 3 (.slice (some ⟨w.heap.size, 0, none⟩) 0 0) 0 []) := ⟨rfl, .inr ⟨w.heap.size, 0, #[], rfl, Nat.zero_le _, Bk.new w _ _, Nat.le_refl _, Nat.zero_le _, rfl, rfl⟩⟩
    have HW : Hid (Rr (w.alloc (.cells #[] 31)) (.slice (some ad) n c) l) := HR.out.tn ((Tn.refl [] _).alloc _) (by simp)
    clear hnl h hn
    have hq : ∀ W : World, (binOp .eql 50 (.slice (some ad) n c) (.slice none 0 0)).run Try.prog W = .ok (.bool false) W := fun W => by kernel_rfl
    go_enter Try.func40, Try.ntmps40
    go_wp2_with (at_builtin; refine appX _ rfl _ _ _ rfl 31 (.agg #[.int .i64 0, .int .i64 0, .int .i64 0]) 3 24 Try.underlying50 rtinfo rfl (by decide) (.slice (some ⟨w.heap.size, 0, none⟩) 0 0) 0 [] rfl HO.out (some ad) n c (rts l) rfl HW.out.news.2.2.1 HW.out.news.1 HW.out.news.2.1 HW.out.news.2.2.2 (by unfold maxLen; omega) (by omega) ?_)
    intro v2 w2 o2 g2 q2
    have HF : Hid (Rr w2 v2 l ∧ Tn [] w w2 ∧ ∀ b, v2.ownBlock = some b → w.heap.size ≤ b) := by
      refine ⟨?_, ((Tn.refl [] w).alloc _).grown g2 (fun k hk => .inr (by cases hk; exact Nat.le_refl _)), fun b hb => ?_⟩
      · unfold Rr
        rw [HN.out]
        simpa using o2
      · rcases q2 with q | q
        · rw [q] at hb
          cases hb
          exact Nat.le_refl _
        · rw [q] at hb
          cases hb
          simp
    clear o2 g2 q2
    go_wp2
    go_ret
    exact ⟨_, rfl, HF.out⟩

/-- The pins, copied up to k. -/
def cpins (e : Ep) (k : Nat) : List Nat := e.pins.take k ++ List.replicate (17 - k) 0

theorem cpins_set {e : Ep} (h17 : e.pins.length = 17) (k : Nat) (hk : k < 17) : (cpins e k).set k (e.pin k) = cpins e (k + 1) ∧ (cpins e k).length = 17 := by
  have hk' : k < e.pins.length := by omega
  have hp : e.pins[k]? = some (e.pin k) := by simp [Ep.pin, List.getD, hk']
  unfold cpins
  refine ⟨?_, by simp [h17]; omega⟩
  rw [List.set_append_right _ _ (by simp [h17]; omega), List.length_take, h17, show min k 17 = k by omega, Nat.sub_self, take_snoc hp, show 17 - k = (17 - (k + 1)) + 1 by omega, List.replicate_succ, List.set_cons_zero, List.append_assoc]
  rfl

theorem cpins_all {e : Ep} (h17 : e.pins.length = 17) : cpins e 17 = e.pins := by
  unfold cpins
  rw [List.take_of_length_le (by omega)]
  simp

/-- While the lists are copied. -/
structure Cp (w wr : World) (B Bc : Nat) (vs vs' : List Value) (e : Ep) (i : Nat) : Prop where
  blk : Bk wr Bc 71 (epCells e.now e.pins vs')
  v3 : vs'.length = 3
  row : ∀ k, k < i → Rr wr (vs'.getD k vNil) (e.lst k)
  nil : ∀ k, i ≤ k → k < 3 → vs'.getD k vNil = vNil
  new : ∀ k b, k < 3 → (vs'.getD k vNil).ownBlock = some b → w.heap.size + 1 ≤ b ∧ b < wr.heap.size
  ne : ∀ j k b, j < 3 → k < 3 → (vs'.getD j vNil).ownBlock = some b → (vs'.getD k vNil).ownBlock = some b → j = k
  tn : Tn [Bc] w wr
  bc : Bc = w.heap.size

theorem Cp.more {w wr w2 : World} {B Bc i : Nat} {vs vs' : List Value} {e : Ep} {u : Value} (h : Cp w wr B Bc vs vs' e i) (hi : i < 3) (t2 : Tn [] wr w2) (hr : Rr w2 u (e.lst i)) (hu : ∀ b, u.ownBlock = some b → wr.heap.size ≤ b) (hp : e.pins.length = 17) (hlt : Bc < wr.heap.size) : Cp w (w2.setCell ⟨Bc, 18 + i, none⟩ u) B Bc vs (vs'.set i u) e (i + 1) := by
  have hg : ∀ j, (vs'.set i u).getD j vNil = if j = i then u else vs'.getD j vNil := fun j => getD_set _ _ _ _ _ (by rw [h.v3]; exact hi)
  have t3 : Tn [Bc] w2 (w2.setCell ⟨Bc, 18 + i, none⟩ u) := (Tn.refl _ _).setCell (.inl (by simp)) _
  have hs := h.tn.size
  have hs2 := t2.size
  have hs3 := t3.size
  have hbc := h.bc
  exact {
    blk := by
      have := (h.blk.tn t2 (by simp)).set (18 + i) u
      rwa [epCells_setList _ _ _ _ hp] at this
    v3 := by simp [h.v3]
    row := fun k hk => by
      rw [hg k]
      by_cases hki : k = i
      · rw [if_pos hki, hki]
        exact hr.tn t3 (fun b hb => by have := hu b hb; simp; omega)
      · rw [if_neg hki]
        exact ((h.row k (by omega)).tn t2 (by simp)).tn t3 (fun b hb => by have := (h.new k b (by omega) hb).1; simp; omega)
    nil := fun k h1 h2 => by
      rw [hg k, if_neg (by omega)]
      exact h.nil k (by omega) h2
    new := fun k b hk hb => by
      rw [hg k] at hb
      by_cases hki : k = i
      · rw [if_pos hki] at hb
        have h1 := hu b hb
        have h2 := hr.lt b hb
        exact ⟨by omega, by omega⟩
      · rw [if_neg hki] at hb
        have := h.new k b hk hb
        exact ⟨this.1, by omega⟩
    ne := fun j k b hj hk h1 h2 => by
      rw [hg j] at h1
      rw [hg k] at h2
      by_cases e1 : j = i
      · rw [if_pos e1] at h1
        by_cases e2 : k = i
        · omega
        · rw [if_neg e2] at h2
          have := hu b h1
          have := (h.new k b hk h2).2
          omega
      · rw [if_neg e1] at h1
        by_cases e2 : k = i
        · rw [if_pos e2] at h2
          have := hu b h2
          have := (h.new j b hj h1).2
          omega
        · rw [if_neg e2] at h2
          exact h.ne j k b hj hk h1 h2
    tn := (h.tn.trans t2 (by simp)).trans t3 (fun x hx => .inl hx)
    bc := hbc }

end Go.Proofs.Ytndmcjkbbedoeaa
