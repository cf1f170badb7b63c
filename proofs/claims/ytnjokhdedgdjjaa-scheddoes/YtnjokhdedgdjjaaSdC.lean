/- Schedulers: what each change of memory makes of them. -/
import Derived.Test.YtnjokhdedgdjjaaSdB
namespace Go.Proofs.Ytnjokhdedgdjjaa
open Go.RowKit Go.Maps
set_option linter.unusedVariables false
set_option maxRecDepth 100000

theorem Bk.ne {w : World} {a b : Nat} {t t' : TypeId} {cs cs' : Array Value} (h : Bk w a t cs) (k : Bk w b t' cs') (hne : t ≠ t') : a ≠ b := fun e => hne (h.ty (e ▸ k))
theorem Bk.neM {w : World} {b M N : Nat} {t : TypeId} {cs : Array Value} {α : Type} {R : Value → Option (DataW α × List MemPlace)} {f : Nat → Option α} (h : Bk w b t cs) (k : Mp R w M N f) : M ≠ b := fun e => h.notMap (e ▸ k)

section
variable {w w' : World} {N : Nat} {g : Ge} {s : Sc}

theorem Sd.cb (h : Sd w N g s) {f : Fb} (hf : f ∈ s.fl) : ∃ b i cs, f.cnt = ⟨b, i, none⟩ ∧ Bk w b 2 cs ∧ cs[i]? = some (.int .i64 (s.D f.cnt)) := h.cn _ (h.cin f hf)

/-- What a step makes of a fiber's block and its counter. -/
def Sc.stepped (s : Sc) (f : Fb) : Sc := { s with D := fun a => if a = f.cnt then wrap64 (s.D f.cnt + 1) else s.D a, fl := if 1 < f.left then s.fl.map (less f.num) else s.fl }

theorem nodup_blk {fl : List Fb} (hn : (fl.map Fb.blk).Nodup) {f x : Fb} (hf : f ∈ fl) (hx : x ∈ fl) (hb : x.blk = f.blk) : x = f := by
  induction fl with
  | nil => cases hf
  | cons y r ih =>
    simp only [List.map_cons, List.nodup_cons] at hn
    rcases List.mem_cons.1 hf with rfl | hf' <;> rcases List.mem_cons.1 hx with rfl | hx'
    · rfl
    · exact absurd (List.mem_map.2 ⟨x, hx', hb⟩) hn.1
    · exact absurd (List.mem_map.2 ⟨f, hf', hb.symm⟩) hn.1
    · exact ih hn.2 hf' hx'

theorem rising_num {fl : List Fb} (hr : (fl.map Fb.num).Pairwise (· < ·)) {f x : Fb} (hf : f ∈ fl) (hx : x ∈ fl) (hb : x.num = f.num) : x = f := by
  have h1 := fat_of_mem hr hf
  have h2 := fat_of_mem hr hx
  rw [hb, h1] at h2
  exact (Option.some.inj h2).symm

theorem Sd.stepped (h : Sd w N g s) {f : Fb} (hf : f ∈ s.fl) {cb i : Nat} {cs : Array Value} (hc : f.cnt = ⟨cb, i, none⟩) (hcb : Bk w cb 2 cs) (hi : cs[i]? = some (.int .i64 (s.D f.cnt)))
    (t : Tn [f.blk, cb] w w') (k1 : Bk w' f.blk 48 #[.int .i64 (if 1 < f.left then f.left - 1 else f.left), .pointer (some f.cnt)]) (k2 : Bk w' cb 2 (cs.setIfInBounds i (.int .i64 (wrap64 (s.D f.cnt + 1))))) : Sd w' N g (s.stepped f) := by
  have hfb := h.fb f hf
  have hcin := h.cin f hf
  have hfl : (s.stepped f).fl.map Fb.num = s.fl.map Fb.num ∧ (s.stepped f).fl.map Fb.blk = s.fl.map Fb.blk ∧ fsome (s.stepped f).fl = fsome s.fl ∧ (s.stepped f).fl.length = s.fl.length := by
    unfold Sc.stepped
    split
    · exact ⟨less_nums _ _, less_blks _ _, fsome_less _ _, by simp⟩
    · exact ⟨rfl, rfl, rfl, rfl⟩
  have hmem : ∀ x ∈ (s.stepped f).fl, ∃ y ∈ s.fl, x.num = y.num ∧ x.blk = y.blk ∧ x.cnt = y.cnt ∧ (x.left = if y.num = f.num ∧ 1 < f.left then y.left - 1 else y.left) := by
    intro x hx
    unfold Sc.stepped at hx
    by_cases h1 : 1 < f.left
    · simp only [h1, if_true] at hx
      obtain ⟨y, hy, rfl⟩ := List.mem_map.1 hx
      refine ⟨y, hy, less_num _ _, less_blk _ _, less_cnt _ _, ?_⟩
      unfold less
      by_cases h2 : y.num = f.num <;> simp [h1, h2]
    · simp only [h1, if_false] at hx
      exact ⟨x, hx, rfl, rfl, rfl, by simp [h1]⟩
  refine ⟨h.blk.tn t ?_, ?_, owns_tn h.al t ?_, owns_tn h.dn t ?_, h.bx.tn t ?_ ?_ ?_, ?_, ?_, ?_, ?_, h.d1, h.d2, h.hN, ?_, ?_, ?_, h.big⟩
  · simp only [List.mem_cons, List.not_mem_nil, or_false, not_or]
    exact ⟨h.blk.ne hfb (by decide), h.blk.ne hcb (by decide)⟩
  · rw [hfl.2.2.1]
    refine h.mp.tn t ?_
    simp only [List.mem_cons, List.not_mem_nil, or_false, not_or]
    exact ⟨hfb.neM h.mp, hcb.neM h.mp⟩
  · intro k hk
    obtain ⟨cs', hk'⟩ := row_bk h.al hk
    simp only [List.mem_cons, List.not_mem_nil, or_false, not_or]
    exact ⟨hk'.ne hfb (by decide), hk'.ne hcb (by decide)⟩
  · intro k hk
    obtain ⟨cs', hk'⟩ := row_bk h.dn hk
    simp only [List.mem_cons, List.not_mem_nil, or_false, not_or]
    refine ⟨hk'.ne hfb (by decide), fun e => ?_⟩
    have := h.d2 _ hcin
    rw [hc] at this
    exact this (by rw [hk, e])
  · simp only [List.mem_cons, List.not_mem_nil, or_false, not_or]
    exact ⟨h.bx.blk.ne hfb (by decide), h.bx.blk.ne hcb (by decide)⟩
  · simp only [List.mem_cons, List.not_mem_nil, or_false, not_or]
    exact ⟨fun e => h.bx.ch.ne hfb e.symm, fun e => h.bx.ch.ne hcb e.symm⟩
  · intro b hb
    obtain ⟨x, hx⟩ := h.bx.mem hb
    simp only [List.mem_cons, List.not_mem_nil, or_false, not_or]
    exact ⟨hx.ne hfb (by decide), hx.ne hcb (by decide)⟩
  · intro x hx
    obtain ⟨y, hy, e1, e2, e3, e4⟩ := hmem x hx
    rw [e2, e3, e4]
    by_cases hyf : y.blk = f.blk
    · obtain rfl := nodup_blk h.nd hf hy hyf
      by_cases h1 : 1 < y.left
      · simpa [h1] using k1
      · simpa [h1] using k1
    · have : ¬ (y.num = f.num ∧ 1 < f.left) := fun e => hyf (by rw [rising_num h.rs hf hy e.1])
      rw [if_neg this]
      refine (h.fb y hy).tn t ?_
      simp only [List.mem_cons, List.not_mem_nil, or_false, not_or]
      exact ⟨hyf, (h.fb y hy).ne hcb (by decide)⟩
  · rw [hfl.2.1]; exact h.nd
  · intro x hx
    obtain ⟨y, hy, e1, e2, e3, e4⟩ := hmem x hx
    rw [e3]
    exact h.cin y hy
  · intro a ha
    obtain ⟨b', i', cs', rfl, hb', hc'⟩ := h.cn a ha
    by_cases hbb : b' = cb
    · subst hbb
      obtain rfl : cs' = cs := by
        have : some (Obj.cells cs' 2 (0, 0)) = some (Obj.cells cs 2 (0, 0)) := (show w.heap[b']? = _ from hb').symm.trans hcb
        simpa using this
      refine ⟨b', i', _, rfl, k2, ?_⟩
      by_cases hii : i' = i
      · subst hii
        have hlt : i' < cs'.size := (Array.getElem?_eq_some_iff.1 hc').1
        rw [Array.getElem?_setIfInBounds_self_of_lt hlt]
        simp [Sc.stepped, hc]
      · rw [Array.getElem?_setIfInBounds_ne (fun e => hii e.symm), hc']
        have : ¬ ((⟨b', i', none⟩ : Addr) = f.cnt) := fun e => hii (by rw [hc] at e; cases e; rfl)
        simp [Sc.stepped, this]
    · refine ⟨b', i', cs', rfl, hb'.tn t ?_, ?_⟩
      · simp only [List.mem_cons, List.not_mem_nil, or_false, not_or]
        exact ⟨hb'.ne hfb (by decide), hbb⟩
      · have : ¬ ((⟨b', i', none⟩ : Addr) = f.cnt) := fun e => hbb (by rw [hc] at e; cases e; rfl)
        simp [Sc.stepped, this, hc']
  · rw [hfl.1]; exact h.rs
  · intro x hx
    obtain ⟨y, hy, e1, e2, e3, e4⟩ := hmem x hx
    rw [e1]
    exact h.up y hy
  · rw [hfl.2.2.2]; exact h.fits

theorem intz_set (l : List Int) (j : Nat) (x : Int) : (intz l).set j (.int .i64 x) = intz (l.set j x) := by simp [intz, List.map_set]

/-- A step more of a number. -/
theorem Sd.setDone (h : Sd w N g s) {G k : Nat} (hv : g.vd = .slice (some ⟨G, 0, none⟩) s.done.length k) (j : Nat) (x : Int) : Sd (w.setCell ⟨G, j, none⟩ (.int .i64 x)) N g { s with done := s.done.set j x } ∧ Tn [G] w (w.setCell ⟨G, j, none⟩ (.int .i64 x)) := by
  have hd := h.dn
  rw [hv] at hd
  have h1 := (hd.stored j (.int .i64 x)).1
  have t : Tn [G] w (w.setCell ⟨G, j, none⟩ (.int .i64 x)) := (Tn.refl [G] w).setCell (.inl (by simp)) _
  obtain ⟨cs, hG⟩ := row_bk h.dn (k := G) (by rw [hv]; rfl)
  refine ⟨⟨h.blk.tn t (by simpa using h.blk.ne hG (by decide)), h.mp.tn t (by simpa using hG.neM h.mp), owns_tn h.al t ?_, ?_, h.bx.tn t (by simpa using h.bx.blk.ne hG (by decide)) (by simpa using fun e => h.bx.ch.ne hG e.symm) ?_, ?_, h.nd, h.cin, h.cn.tn t ?_, h.d1, h.d2, h.hN, h.rs, ?_, h.fits, h.big⟩, t⟩
  · intro k' hk
    obtain ⟨cs', hk'⟩ := row_bk h.al hk
    simpa using hk'.ne hG (by decide)
  · rw [hv]
    simp only [List.length_set]
    rw [← intz_set]
    exact h1
  · intro b hb
    obtain ⟨x, hx⟩ := h.bx.mem hb
    simpa using hx.ne hG (by decide)
  · intro f hf
    exact (h.fb f hf).tn t (by simpa using (h.fb f hf).ne hG (by decide))
  · intro a ha
    have := h.d2 a ha
    rw [hv] at this
    simp only [Value.ownBlock] at this
    simp
    exact fun e => this (by rw [e])
  · intro f hf
    simpa using h.up f hf

/-- A step more. -/
theorem Sd.setSteps (h : Sd w N g s) (x : Int) : Sd (w.setCell ⟨g.S, 4, none⟩ (.int .i64 x)) N g { s with steps := x } ∧ Tn [g.S] w (w.setCell ⟨g.S, 4, none⟩ (.int .i64 x)) := by
  have t : Tn [g.S] w (w.setCell ⟨g.S, 4, none⟩ (.int .i64 x)) := (Tn.refl [g.S] w).setCell (.inl (by simp)) _
  have hn := h.s_ne
  refine ⟨⟨?_, h.mp.tn t (by simpa using hn.1.symm), owns_tn h.al t (fun k hk => by simpa using (hn.2.2.2.1 k hk).symm), owns_tn h.dn t (fun k hk => by simpa using (hn.2.2.2.2.1 k hk).symm), h.bx.tn t (by simpa using hn.2.2.1.symm) (by simpa using hn.2.1.symm) (fun b hb => by simpa using (hn.2.2.2.2.2.2.2 b hb).symm), fun f hf => (h.fb f hf).tn t (by simpa using (hn.2.2.2.2.2.1 f hf).symm), h.nd, h.cin, h.cn.tn t (fun a ha => by simpa using (hn.2.2.2.2.2.2.1 a ha).symm), h.d1, h.d2, h.hN, h.rs, h.up, h.fits, h.big⟩, t⟩
  exact h.blk.set 4 _

/-- Another row of numbers that are alive. -/
theorem Sd.setAl (h : Sd w N g s) {w1 : World} (t0 : Tn g.va.ownBlock.toList w w1) {va' : Value} {al' : List Nat} (hr : w1.ownsRow 0 3 1 va' al'.length (ints al')) (hd1 : ∀ b ∈ g.bs, va'.ownBlock ≠ some b) : Sd (w1.setCell ⟨g.S, 1, none⟩ va') N { g with va := va' } { s with al := al' } ∧ Tn (g.S :: g.va.ownBlock.toList) w (w1.setCell ⟨g.S, 1, none⟩ va') := by
  have t1 : Tn [g.S] w1 (w1.setCell ⟨g.S, 1, none⟩ va') := (Tn.refl [g.S] w1).setCell (.inl (by simp)) _
  have t : Tn (g.S :: g.va.ownBlock.toList) w (w1.setCell ⟨g.S, 1, none⟩ va') := (t0.mono (fun x hx => List.mem_cons_of_mem _ hx)).setCell (.inl (by simp)) _
  have hn := h.s_ne
  have hS0 : Bk w1 g.S 61 #[.map (some g.M), g.va, .pointer (some ⟨g.X, 0, none⟩), g.vd, .int .i64 s.steps] := h.blk.tn t0 (by rw [opt_toList]; exact fun e => hn.2.2.2.1 _ e rfl)
  have hno : ∀ x : Nat, g.S ≠ x → (∀ cs, ¬ Bk w x 3 cs) → x ∉ g.S :: g.va.ownBlock.toList := by
    intro x h1 h2 hx
    rcases List.mem_cons.1 hx with rfl | hx
    · exact h1 rfl
    · obtain ⟨cs, hc⟩ := row_bk h.al (opt_toList.1 hx)
      exact h2 cs hc
  refine ⟨⟨hS0.set 1 _, h.mp.tn t (hno _ hn.1 fun cs hc => hc.notMap h.mp), owns_tn hr t1 (fun k hk => ?_), owns_tn h.dn t (fun k hk => ?_), h.bx.tn t (hno _ hn.2.2.1 fun cs hc => by have := hc.ty h.bx.blk; simp at this) (hno _ hn.2.1 fun cs hc => h.bx.ch.ne hc rfl) (fun b hb => ?_), fun f hf => (h.fb f hf).tn t (hno _ (hn.2.2.2.2.2.1 f hf) fun cs hc => by have := hc.ty (h.fb f hf); simp at this), h.nd, h.cin, h.cn.tn t (fun a ha => ?_), hd1, h.d2, h.hN, h.rs, h.up, h.fits, h.big⟩, t⟩
  · obtain ⟨cs, hc⟩ := row_bk hr hk
    simpa using hc.ne hS0 (by decide)
  · obtain ⟨cs', hc'⟩ := row_bk h.dn hk
    exact hno _ (hn.2.2.2.2.1 k hk) fun cs hc => by have := hc.ty hc'; simp at this
  · intro hx
    rcases List.mem_cons.1 hx with e | hx
    · exact hn.2.2.2.2.2.2.2 b hb e.symm
    · exact h.d1 b hb (opt_toList.1 hx)
  · obtain ⟨b, i, cs', rfl, hb, hc'⟩ := h.cn a ha
    exact hno _ (hn.2.2.2.2.2.2.1 _ ha) fun cs hc => by have := hc.ty hb; simp at this

/-- Another row of steps. -/
theorem Sd.setDn (h : Sd w N g s) {w1 : World} (t0 : Tn g.vd.ownBlock.toList w w1) {vd' : Value} {dn' : List Int} (hr : w1.ownsRow 0 2 1 vd' dn'.length (intz dn')) (hl : s.done.length ≤ dn'.length) (hd2 : ∀ a ∈ g.ca, vd'.ownBlock ≠ some a.block) : Sd (w1.setCell ⟨g.S, 3, none⟩ vd') N { g with vd := vd' } { s with done := dn' } ∧ Tn (g.S :: g.vd.ownBlock.toList) w (w1.setCell ⟨g.S, 3, none⟩ vd') := by
  have t1 : Tn [g.S] w1 (w1.setCell ⟨g.S, 3, none⟩ vd') := (Tn.refl [g.S] w1).setCell (.inl (by simp)) _
  have t : Tn (g.S :: g.vd.ownBlock.toList) w (w1.setCell ⟨g.S, 3, none⟩ vd') := (t0.mono (fun x hx => List.mem_cons_of_mem _ hx)).setCell (.inl (by simp)) _
  have hn := h.s_ne
  have hS0 : Bk w1 g.S 61 #[.map (some g.M), g.va, .pointer (some ⟨g.X, 0, none⟩), g.vd, .int .i64 s.steps] := h.blk.tn t0 (by rw [opt_toList]; exact fun e => hn.2.2.2.2.1 _ e rfl)
  have hno : ∀ x : Nat, g.S ≠ x → (∀ cs, ¬ Bk w x 2 cs) → x ∉ g.S :: g.vd.ownBlock.toList := by
    intro x h1 h2 hx
    rcases List.mem_cons.1 hx with rfl | hx
    · exact h1 rfl
    · obtain ⟨cs, hc⟩ := row_bk h.dn (opt_toList.1 hx)
      exact h2 cs hc
  refine ⟨⟨hS0.set 3 _, h.mp.tn t (hno _ hn.1 fun cs hc => hc.notMap h.mp), owns_tn h.al t (fun k hk => ?_), owns_tn hr t1 (fun k hk => ?_), h.bx.tn t (hno _ hn.2.2.1 fun cs hc => by have := hc.ty h.bx.blk; simp at this) (hno _ hn.2.1 fun cs hc => h.bx.ch.ne hc rfl) (fun b hb => ?_), fun f hf => (h.fb f hf).tn t (hno _ (hn.2.2.2.2.2.1 f hf) fun cs hc => by have := hc.ty (h.fb f hf); simp at this), h.nd, h.cin, h.cn.tn t (fun a ha => ?_), h.d1, hd2, h.hN, h.rs, fun f hf => ?_, h.fits, h.big⟩, t⟩
  · obtain ⟨cs', hc'⟩ := row_bk h.al hk
    exact hno _ (hn.2.2.2.1 k hk) fun cs hc => by have := hc.ty hc'; simp at this
  · obtain ⟨cs, hc⟩ := row_bk hr hk
    simpa using hc.ne hS0 (by decide)
  · obtain ⟨x, hx⟩ := h.bx.mem hb
    exact hno _ (hn.2.2.2.2.2.2.2 b hb) fun cs hc => by have := hc.ty hx; simp at this
  · intro hx
    rcases List.mem_cons.1 hx with e | hx
    · exact hn.2.2.2.2.2.2.1 a ha e.symm
    · exact h.d2 a ha (opt_toList.1 hx)
  · have := h.up f hf
    exact ⟨this.1, Nat.le_trans this.2.1 hl, this.2.2⟩

/-- The map turns. -/
theorem Sd.turnMap (h : Sd w N g s) {fl' : List Fb} (t : Tn [g.M] w w') (hm : Mp fElem w' g.M N (fsome fl')) (hsub : ∀ f ∈ fl', f ∈ s.fl) (hnd : (fl'.map Fb.blk).Nodup) (hrs : (fl'.map Fb.num).Pairwise (· < ·)) (hfit : fl'.length ≤ s.fl.length) : Sd w' N g { s with fl := fl' } := by
  have hn := h.s_ne
  refine ⟨h.blk.tn t (by simpa using hn.1), hm, owns_tn h.al t ?_, owns_tn h.dn t ?_, h.bx.tn t (by simpa using (h.bx.blk.neM h.mp).symm) ?_ ?_, fun f hf => (h.fb f (hsub f hf)).tn t (by simpa using ((h.fb f (hsub f hf)).neM h.mp).symm), hnd, fun f hf => h.cin f (hsub f hf), h.cn.tn t ?_, h.d1, h.d2, h.hN, hrs, fun f hf => h.up f (hsub f hf), by have := h.fits; show fl'.length + s.box.length ≤ s.room; omega, h.big⟩
  · intro k hk
    obtain ⟨cs, hc⟩ := row_bk h.al hk
    simpa using (hc.neM h.mp).symm
  · intro k hk
    obtain ⟨cs, hc⟩ := row_bk h.dn hk
    simpa using (hc.neM h.mp).symm
  · simp
    exact fun e => h.bx.ch.notMap (e ▸ h.mp)
  · intro b hb
    obtain ⟨x, hx⟩ := h.bx.mem hb
    simpa using (hx.neM h.mp).symm
  · intro a ha
    obtain ⟨b, i, cs, rfl, hb, hc⟩ := h.cn a ha
    simpa using (hb.neM h.mp).symm

/-- The box turns. -/
theorem Sd.turnBox (h : Sd w N g s) {bs' : List Nat} {box' : List Nat} (t : Tn [g.C] w w') (hb : BxI w' g.X g.C s.room bs' (box'.map fun (n : Nat) => (n : Int))) (hnew : ∀ b ∈ bs', b ∈ g.bs ∨ w.heap.size ≤ b) (hfit : s.fl.length + box'.length ≤ s.room) : Sd w' N { g with bs := bs' } { s with box := box' } := by
  have hn := h.s_ne
  refine ⟨h.blk.tn t (by simpa using hn.2.1), h.mp.tn t ?_, owns_tn h.al t ?_, owns_tn h.dn t ?_, hb, fun f hf => (h.fb f hf).tn t (by simpa using h.bx.ch.ne (h.fb f hf)), h.nd, h.cin, h.cn.tn t ?_, ?_, h.d2, h.hN, h.rs, h.up, hfit, h.big⟩
  · simp
    exact fun e => h.bx.ch.notMap (e ▸ h.mp)
  · intro k hk
    obtain ⟨cs, hc⟩ := row_bk h.al hk
    simpa using h.bx.ch.ne hc
  · intro k hk
    obtain ⟨cs, hc⟩ := row_bk h.dn hk
    simpa using h.bx.ch.ne hc
  · intro a ha
    obtain ⟨b, i, cs, rfl, hb, hc⟩ := h.cn a ha
    simpa using h.bx.ch.ne hb
  · intro b hb e
    rcases hnew b hb with h1 | h1
    · exact h.d1 b h1 e
    · have := (row_block h.al b e)
      omega
end
end Go.Proofs.Ytnjokhdedgdjjaa
