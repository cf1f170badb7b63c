/- The document's scheduler: a step, a fiber dropped. -/
import Derived.Test.YtnjokhdedgdjjaaSdR1
namespace Go.Proofs.Ytnjokhdedgdjjaa
open Go.RowKit Go.Maps
set_option linter.unusedVariables false
set_option maxRecDepth 100000

theorem fbinfo : (Try.prog.info? 77).map (fun i => (i.zero, i.size, i.bytes)) = some (some (.agg #[.int .i64 0, .int .i64 0, .int .i64 0]), 3, 24) := by kernel_rfl

theorem less_above {n : Nat} {l : List Fb} (h : ∀ x ∈ l, x.num ≠ n) : l.map (less n) = l := by
  conv => rhs; rw [← List.map_id l]
  refine List.map_congr_left fun x hx => ?_
  unfold less
  rw [if_neg (h x hx)]
  rfl

theorem set_less : ∀ {l : List Fb} {i : Nat} {f : Fb}, (l.map Fb.num).Pairwise (· < ·) → l[i]? = some f → l.set i { f with left := f.left - 1 } = l.map (less f.num)
  | [], i, f, _, h => by simp at h
  | x :: r, 0, f, hr, h => by
    simp at h
    subst h
    simp only [List.map_cons, List.pairwise_cons] at hr
    simp only [List.set_cons_zero, List.map_cons]
    rw [less_above (fun y hy => by have := hr.1 _ (List.mem_map_of_mem hy); omega)]
    simp [less]
  | x :: r, i + 1, f, hr, h => by
    simp only [List.map_cons, List.pairwise_cons] at hr
    have hf : r[i]? = some f := by simpa using h
    have hx := hr.1 _ (List.mem_map_of_mem (List.mem_of_getElem? hf))
    simp only [List.set_cons_succ, List.map_cons]
    rw [set_less hr.2 hf]
    congr 1
    unfold less
    rw [if_neg (by omega)]

theorem cut_filter : ∀ {l : List Fb} {i : Nat} {f : Fb}, (l.map Fb.num).Pairwise (· < ·) → l[i]? = some f → l.take i ++ l.drop (i + 1) = l.filter fun x => x.num != f.num
  | [], i, f, _, h => by simp at h
  | x :: r, 0, f, hr, h => by
    simp at h
    subst h
    simp only [List.map_cons, List.pairwise_cons] at hr
    rw [List.filter_cons_of_neg (by simp)]
    simp only [List.take_zero, List.nil_append, List.drop_succ_cons, List.drop_zero]
    exact (List.filter_eq_self.2 fun y hy => by have := hr.1 _ (List.mem_map_of_mem hy); simp; omega).symm
  | x :: r, i + 1, f, hr, h => by
    simp only [List.map_cons, List.pairwise_cons] at hr
    have hf : r[i]? = some f := by simpa using h
    have hx := hr.1 _ (List.mem_map_of_mem (List.mem_of_getElem? hf))
    rw [List.filter_cons_of_pos (by simp; omega)]
    simp only [List.take_succ_cons, List.cons_append, List.drop_succ_cons]
    rw [cut_filter hr.2 hf]

theorem rfs_set : ∀ (l : List Fb) (i : Nat) (f : Fb) (x : Int), l[i]? = some f → (rfs l).set (i * 3 + 1) (.int .i64 x) = rfs (l.set i { f with left := x })
  | [], i, f, x, h => by simp at h
  | y :: r, 0, f, x, h => by
    simp at h
    subst h
    simp [rfs, rf]
  | y :: r, i + 1, f, x, h => by
    have hf : r[i]? = some f := by simpa using h
    have := rfs_set r i f x hf
    simp only [rfs, List.flatMap_cons, List.set_cons_succ] at *
    rw [List.set_append_right (h := by simp [rf]; omega)]
    rw [show (i + 1) * 3 + 1 - (rf y).length = i * 3 + 1 by simp [rf]; omega, this]

theorem rf_one (l : List Fb) : ∀ u ∈ rfs l, u.oneCell' = true := by
  intro u hu
  simp only [rfs, List.mem_flatMap, rf] at hu
  obtain ⟨f, _, hu⟩ := hu
  simp at hu
  rcases hu with rfl | rfl | rfl <;> rfl

section
variable {w w' : World} {r : Gr} {L : Nat} {s : Sc}

theorem Rq.congr {s' : Sc} (h : Rq w r L s) (h1 : s'.room = s.room) (h2 : s'.done = s.done) (h3 : s'.fl = s.fl) (h4 : s'.box = s.box) (h5 : s'.steps = s.steps) : Rq w r L s' :=
  ⟨by rw [h1, h5]; exact h.blk, by rw [h3]; exact h.al, by rw [h2]; exact h.dn, by rw [h4]; exact h.en⟩

theorem Rq.ne (h : Rq w r L s) : (∀ k, r.va.ownBlock = some k → r.R ≠ k) ∧ (∀ k, r.vd.ownBlock = some k → r.R ≠ k) ∧ (∀ k, r.ve.ownBlock = some k → r.R ≠ k) ∧ (∀ k, r.va.ownBlock = some k → r.vd.ownBlock ≠ some k) ∧ (∀ k, r.va.ownBlock = some k → r.ve.ownBlock ≠ some k) ∧ (∀ k, r.vd.ownBlock = some k → r.ve.ownBlock ≠ some k) := by
  refine ⟨fun k hk e => ?_, fun k hk e => ?_, fun k hk e => ?_, fun k hk e => ?_, fun k hk e => ?_, fun k hk e => ?_⟩
  · obtain ⟨cs, hc⟩ := row_bk h.al hk
    have := h.blk.ty (e ▸ hc)
    simp at this
  · obtain ⟨cs, hc⟩ := row_bk h.dn hk
    have := h.blk.ty (e ▸ hc)
    simp at this
  · obtain ⟨_, cs, hc⟩ := h.en.lt hk
    have := h.blk.ty (e ▸ hc)
    simp at this
  · obtain ⟨cs, hc⟩ := row_bk h.al hk
    obtain ⟨ds, hd⟩ := row_bk h.dn e
    have := hc.ty hd
    simp at this
  · obtain ⟨cs, hc⟩ := row_bk h.al hk
    obtain ⟨_, ds, hd⟩ := h.en.lt e
    have := hc.ty hd
    simp at this
  · obtain ⟨cs, hc⟩ := row_bk h.dn hk
    obtain ⟨_, ds, hd⟩ := h.en.lt e
    have := hc.ty hd
    simp at this

theorem Rq.notR (h : Rq w r L s) : (∀ k, r.va.ownBlock = some k → k ∉ [r.R]) ∧ (∀ k, r.vd.ownBlock = some k → k ∉ [r.R]) ∧ (∀ k, r.ve.ownBlock = some k → k ∉ [r.R]) := by
  refine ⟨fun k hk => ?_, fun k hk => ?_, fun k hk => ?_⟩
  · simpa using fun e => h.ne.1 k hk e.symm
  · simpa using fun e => h.ne.2.1 k hk e.symm
  · simpa using fun e => h.ne.2.2.1 k hk e.symm

theorem Rq.setSteps (h : Rq w r L s) (x : Int) : Rq (w.setCell ⟨r.R, 5, none⟩ (.int .i64 x)) r L { s with steps := x } ∧ Tn [r.R] w (w.setCell ⟨r.R, 5, none⟩ (.int .i64 x)) := by
  have t : Tn [r.R] w (w.setCell ⟨r.R, 5, none⟩ (.int .i64 x)) := (Tn.refl _ w).setCell (.inl (by simp)) _
  have hb := h.blk.set 5 (.int .i64 x)
  exact ⟨⟨hb, owns_tn h.al t h.notR.1, owns_tn h.dn t h.notR.2.1, h.en.tn t h.notR.2.2⟩, t⟩

theorem Rq.setLast (h : Rq w r L s) (x : Nat) : Rq (w.setCell ⟨r.R, 1, none⟩ (.int .i64 (x : Int))) r x s ∧ Tn [r.R] w (w.setCell ⟨r.R, 1, none⟩ (.int .i64 (x : Int))) := by
  have t : Tn [r.R] w (w.setCell ⟨r.R, 1, none⟩ (.int .i64 (x : Int))) := (Tn.refl _ w).setCell (.inl (by simp)) _
  have hb := h.blk.set 1 (.int .i64 (x : Int))
  exact ⟨⟨hb, owns_tn h.al t h.notR.1, owns_tn h.dn t h.notR.2.1, h.en.tn t h.notR.2.2⟩, t⟩

theorem Rq.setDid (h : Rq w r L s) {G k n : Nat} (hv : r.vd = .slice (some ⟨G, 0, none⟩) n k) (j : Nat) (x : Int) : Rq (w.setCell ⟨G, j, none⟩ (.int .i64 x)) r L { s with done := s.done.set j x } ∧ Tn [G] w (w.setCell ⟨G, j, none⟩ (.int .i64 x)) := by
  have t : Tn [G] w (w.setCell ⟨G, j, none⟩ (.int .i64 x)) := (Tn.refl _ w).setCell (.inl (by simp)) _
  have hG : r.vd.ownBlock = some G := by rw [hv]; rfl
  obtain ⟨p, c, hv2, -⟩ := row_form h.dn
  obtain rfl : n = s.done.length := by rw [hv] at hv2; cases hv2; rfl
  have h1 := h.dn
  rw [hv] at h1
  have h2 := (World.ownsRow.stored h1 j (.int .i64 x)).1
  refine ⟨⟨h.blk.tn t (by simpa using h.ne.2.1 G hG), owns_tn h.al t fun k hk => ?_, ?_, h.en.tn t fun k hk => ?_⟩, t⟩
  · intro hm
    simp at hm
    subst hm
    exact h.ne.2.2.2.1 _ hk hG
  · rw [hv]
    simp only [List.length_set]
    rw [← intz_set]
    exact h2
  · intro hm
    simp at hm
    subst hm
    exact h.ne.2.2.2.2.2 _ hG hk

theorem Rq.setLeft (h : Rq w r L s) {G k n : Nat} (hv : r.va = .slice (some ⟨G, 0, none⟩) n k) {i : Nat} {f : Fb} (hi : s.fl[i]? = some f) (x : Int) : Rq (w.setCell ⟨G, i * 3 + 1, none⟩ (.int .i64 x)) r L { s with fl := s.fl.set i { f with left := x } } ∧ Tn [G] w (w.setCell ⟨G, i * 3 + 1, none⟩ (.int .i64 x)) := by
  have t : Tn [G] w (w.setCell ⟨G, i * 3 + 1, none⟩ (.int .i64 x)) := (Tn.refl _ w).setCell (.inl (by simp)) _
  have hG : r.va.ownBlock = some G := by rw [hv]; rfl
  obtain ⟨p, c, hv2, -⟩ := row_form h.al
  obtain rfl : n = s.fl.length := by rw [hv] at hv2; cases hv2; rfl
  have h1 := h.al
  rw [hv] at h1
  have h2 := (World.ownsRow.stored h1 (i * 3 + 1) (.int .i64 x)).1
  refine ⟨⟨h.blk.tn t (by simpa using h.ne.1 G hG), ?_, owns_tn h.dn t fun k hk => ?_, h.en.tn t fun k hk => ?_⟩, t⟩
  · rw [hv]
    simp only [List.length_set]
    rw [← rfs_set _ _ _ _ hi]
    exact h2
  · intro hm
    simp at hm
    subst hm
    exact h.ne.2.2.2.1 _ hG hk
  · intro hm
    simp at hm
    subst hm
    exact h.ne.2.2.2.2.1 _ hG hk

/-- Another row of those that have finished. -/
theorem Rq.setEn (h : Rq w r L s) {w1 : World} (t0 : Tn r.ve.ownBlock.toList w w1) {ve' : Value} {bx : List Nat} (hr : Ro w1 3 ve' (ints bx)) : Rq (w1.setCell ⟨r.R, 4, none⟩ ve') { r with ve := ve' } L { s with box := bx } ∧ Tn (r.R :: r.ve.ownBlock.toList) w (w1.setCell ⟨r.R, 4, none⟩ ve') := by
  have hb1 := h.blk.tn t0 (by rw [opt_toList]; exact fun e => h.ne.2.2.1 _ e rfl)
  have t : Tn [r.R] w1 (w1.setCell ⟨r.R, 4, none⟩ ve') := (Tn.refl _ w1).setCell (.inl (by simp)) _
  have hb := hb1.set 4 ve'
  have hne' : ∀ k, ve'.ownBlock = some k → k ∉ [r.R] := fun k hk hm => by
    simp at hm
    subst hm
    obtain ⟨_, cs, hc⟩ := hr.lt hk
    have := hb1.ty hc
    simp at this
  refine ⟨⟨hb, owns_tn (owns_tn h.al t0 fun k hk => by rw [opt_toList]; exact h.ne.2.2.2.2.1 _ hk) t h.notR.1, owns_tn (owns_tn h.dn t0 fun k hk => by rw [opt_toList]; exact h.ne.2.2.2.2.2 _ hk) t h.notR.2.1, hr.tn t hne'⟩, ?_⟩
  exact (t0.mono (fun x hx => List.mem_cons_of_mem _ hx)).trans t (by simp)

/-- Another row of those that are alive, a new one. -/
theorem Rq.setAl (h : Rq w r L s) {w1 : World} (t0 : Tn r.va.ownBlock.toList w w1) {va' : Value} {fl' : List Fb} (hr : w1.ownsRow 0 77 3 va' fl'.length (rfs fl')) : Rq (w1.setCell ⟨r.R, 2, none⟩ va') { r with va := va' } L { s with fl := fl' } ∧ Tn (r.R :: r.va.ownBlock.toList) w (w1.setCell ⟨r.R, 2, none⟩ va') := by
  have hb1 := h.blk.tn t0 (by rw [opt_toList]; exact fun e => h.ne.1 _ e rfl)
  have t : Tn [r.R] w1 (w1.setCell ⟨r.R, 2, none⟩ va') := (Tn.refl _ w1).setCell (.inl (by simp)) _
  have hb := hb1.set 2 va'
  have hne' : ∀ k, va'.ownBlock = some k → k ∉ [r.R] := fun k hk hm => by
    simp at hm
    subst hm
    obtain ⟨cs, hc⟩ := row_bk hr hk
    have := hb1.ty hc
    simp at this
  refine ⟨⟨hb, owns_tn hr t hne', owns_tn (owns_tn h.dn t0 fun k hk => by rw [opt_toList]; exact fun e => h.ne.2.2.2.1 _ e hk) t h.notR.2.1, (h.en.tn t0 fun k hk => by rw [opt_toList]; exact fun e => h.ne.2.2.2.2.1 _ e hk).tn t h.notR.2.2⟩, ?_⟩
  exact (t0.mono (fun x hx => List.mem_cons_of_mem _ hx)).trans t (by simp)

theorem Rq.setDn (h : Rq w r L s) {w1 : World} (t0 : Tn r.vd.ownBlock.toList w w1) {vd' : Value} {dn' : List Int} (hr : w1.ownsRow 0 2 1 vd' dn'.length (intz dn')) : Rq (w1.setCell ⟨r.R, 3, none⟩ vd') { r with vd := vd' } L { s with done := dn' } ∧ Tn (r.R :: r.vd.ownBlock.toList) w (w1.setCell ⟨r.R, 3, none⟩ vd') := by
  have hb1 := h.blk.tn t0 (by rw [opt_toList]; exact fun e => h.ne.2.1 _ e rfl)
  have t : Tn [r.R] w1 (w1.setCell ⟨r.R, 3, none⟩ vd') := (Tn.refl _ w1).setCell (.inl (by simp)) _
  have hb := hb1.set 3 vd'
  have hne' : ∀ k, vd'.ownBlock = some k → k ∉ [r.R] := fun k hk hm => by
    simp at hm
    subst hm
    obtain ⟨cs, hc⟩ := row_bk hr hk
    have := hb1.ty hc
    simp at this
  refine ⟨⟨hb, owns_tn (owns_tn h.al t0 fun k hk => by rw [opt_toList]; exact fun e => h.ne.2.2.2.1 _ hk e) t h.notR.1, owns_tn hr t hne', (h.en.tn t0 fun k hk => by rw [opt_toList]; exact fun e => h.ne.2.2.2.2.2 _ e hk).tn t h.notR.2.2⟩, ?_⟩
  exact (t0.mono (fun x hx => List.mem_cons_of_mem _ hx)).trans t (by simp)

theorem Rq.news (h : Rq w r L s) {G k n : Nat} (hv : r.va = .slice (some ⟨G, 0, none⟩) n k) (l : List Fb) (o : Nat) (hl : ∀ j u, (rfs l)[j]? = some u → (rfs s.fl)[o + j]? = some u) : ∀ ad, some (⟨G, o, none⟩ : Addr) = some ad → ∀ j u, (rfs l)[j]? = some u → w.cell? (ad.add j) = some u := by
  intro ad had j u hu
  cases had
  rw [show (⟨G, o, none⟩ : Addr).add j = ⟨G, o + j, none⟩ by unfold Addr.add; split <;> simp_all]
  obtain ⟨p, c, hv2, -⟩ := row_form h.al
  obtain rfl : n = s.fl.length := by rw [hv] at hv2; cases hv2; rfl
  have h1 := h.al
  rw [hv] at h1
  have hu' := hl j u hu
  have hlt := (List.getElem?_eq_some_iff.1 hu').1
  rw [World.ownsRow.cellAt h1 (o + j) (by rw [rfs_length] at hlt; omega)]
  exact hu'

theorem rfs_take (l : List Fb) (i : Nat) : rfs (l.take i) = (rfs l).take (i * 3) := by
  induction l generalizing i with
  | nil => simp [rfs]
  | cons x r ih =>
    cases i with
    | zero => simp [rfs]
    | succ i =>
      have := ih i
      simp only [rfs, List.take_succ_cons, List.flatMap_cons] at *
      rw [this, List.take_append]
      rw [List.take_of_length_le (l := rf x) (by simp [rf]; omega)]
      rw [show (i + 1) * 3 - (rf x).length = i * 3 by simp [rf]; omega]
theorem rfs_drop (l : List Fb) (i : Nat) : rfs (l.drop i) = (rfs l).drop (i * 3) := by
  induction l generalizing i with
  | nil => simp [rfs]
  | cons x r ih =>
    cases i with
    | zero => simp [rfs]
    | succ i =>
      have := ih i
      simp only [rfs, List.drop_succ_cons, List.flatMap_cons] at *
      rw [this, List.drop_append]
      rw [List.drop_of_length_le (l := rf x) (by simp [rf]; omega)]
      rw [show (i + 1) * 3 - (rf x).length = i * 3 by simp [rf]; omega]
      simp

end
end Go.Proofs.Ytnjokhdedgdjjaa
