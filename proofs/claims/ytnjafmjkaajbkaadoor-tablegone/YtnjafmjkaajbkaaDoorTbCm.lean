/- A clone of a table. -/
import Derived.Test.YtnjafmjkaajbkaaDoorTbCl
namespace Go.Proofs.YtnjafmjkaajbkaaDoor
open Go.RowKit
set_option linter.unusedVariables false
set_option maxRecDepth 100000

/-- A table with all of the same. -/
structure Same (t t' : Tb) : Prop where
  size : t'.size = t.size
  miss : t'.missed = t.missed
  st : ∀ q : Int, (t'.pg q).st = (t.pg q).st
  hd : ∀ (q : Int) (c : Nat) (x : Int × Int) (m : Int), t'.pg q = Pa.live c x m → ∃ c', t.pg q = Pa.live c' x m

theorem Same.rel {t t' : Tb} {r : Rt} {n : Nat} (h : Same t t') (k : Rel t r n) : Rel t' r n :=
  ⟨by rw [h.size]; exact k.size, by rw [h.miss]; exact k.miss, fun q => by rw [h.st]; exact k.st q, fun q c x m hq => by
    obtain ⟨c', hc⟩ := h.hd q c x m hq
    exact k.hd q c' x m hc⟩

theorem own_up {w w' : World} {base size n : Nat} {e : TypeId} {v : Value} {xs : List Value} (h : w.ownsRow base e size v n xs) (hb : Below w.heap.size w w') : w'.ownsRow base e size v n xs := owns_tn h (Tn.of_below hb []) (by simp)

/-- Between the rounds: the first j pages of the clone have cells of their own. -/
structure Clo (w wr : World) (C : Nat) (ue we : Value) (t : Tb) (j : Nat) (vs : List Pa) : Prop where
  len : vs.length = t.us.length
  blk : Bk wr C 64 #[.int .i64 (t.size : Int), ue, we, .int .i64 (t.many : Int), .int .i64 (t.gone : Int), .int .i64 0]
  row : wr.ownsRow 0 80 2 ue t.us.length (paCells vs)
  wrd : wr.ownsRow 0 100 1 we t.ws.length (wsCells t.ws)
  old : ∀ i : Nat, j ≤ i → vs[i]? = t.us[i]?
  new : ∀ (i c : Nat) (x : Int × Int) (m : Int), i < j → vs[i]? = some (Pa.live c x m) → Ce wr c x m ∧ w.heap.size ≤ c ∧ ∃ c', t.us[i]? = some (Pa.live c' x m)
  st : ∀ i : Nat, (vs[i]?).map Pa.st = (t.us[i]?).map Pa.st
  dis : ∀ (i k c : Nat) (x y : Int × Int) (m l : Int), i < j → k < j → vs[i]? = some (Pa.live c x m) → vs[k]? = some (Pa.live c y l) → i = k
  hC : w.heap.size ≤ C
  hE : ∀ k, ue.ownBlock = some k → w.heap.size ≤ k
  hW : ∀ k, we.ownBlock = some k → w.heap.size ≤ k
  below : Below w.heap.size w wr

theorem Clo.below' {w wr wr' : World} {C : Nat} {ue we : Value} {t : Tb} {j : Nat} {vs : List Pa} (h : Clo w wr C ue we t j vs) (hb : Below wr.heap.size wr wr') : Clo w wr' C ue we t j vs :=
  { h with blk := h.blk.below hb h.blk.lt, row := own_up h.row hb, wrd := own_up h.wrd hb, new := fun i c x m hi hv => let ⟨a, b⟩ := h.new i c x m hi hv; ⟨a.below hb a.lt, b⟩, below := h.below.trans (hb.mono h.below.size) }

/-- A page with a cell of its own. -/
theorem Clo.next {w wr v : World} {C g cap c n : Nat} {we : Value} {t : Tb} {j : Nat} {vs : List Pa} {x : Int × Int} {m : Int} (hn : t.us.length = n) (h : Clo w wr C (.slice (some ⟨g, 0, none⟩) n cap) we t j vs) (hj : t.us[j]? = some (Pa.live c x m)) (hv : Below wr.heap.size wr v) (hc : Ce v wr.heap.size x m) :
    Clo w (v.setCell ⟨g, j * 2 + 1, none⟩ (.pointer (some ⟨wr.heap.size, 0, none⟩))) C (.slice (some ⟨g, 0, none⟩) n cap) we t (j + 1) (vs.set j (Pa.live wr.heap.size x m)) := by
  have h' := h.below' hv
  have hjl : j < t.us.length := (List.getElem?_eq_some_iff.1 hj).1
  have hjv : j < vs.length := by rw [h.len]; exact hjl
  have ht : Tn [g] v (v.setCell ⟨g, j * 2 + 1, none⟩ (.pointer (some ⟨wr.heap.size, 0, none⟩))) := (Tn.refl _ _).setCell (.inl (by simp)) _
  obtain ⟨cs, hcs⟩ := row_type h'.row g rfl
  have hgC : g ≠ C := ne_type hcs h'.blk (by decide)
  have hvj : vs[j]? = some (Pa.live c x m) := by rw [h.old j (Nat.le_refl _)]; exact hj
  have hgn := h.hE g rfl
  have e : paCells (vs.set j (Pa.live wr.heap.size x m)) = (paCells vs).set (j * 2 + 1) (.pointer (some ⟨wr.heap.size, 0, none⟩)) := by
    rw [paCells_set _ _ _ hjv]
    have e1 := paCells_at vs j 0 hvj (by omega)
    obtain ⟨l1, e1⟩ := List.getElem?_eq_some_iff.1 (show (paCells vs)[j * 2]? = some (.int .i64 (Pa.live wr.heap.size x m).st) from e1)
    rw [← e1, List.set_getElem_self l1]
    rfl
  have key : ∀ (i d : Nat) (y : Int × Int) (l : Int), i < j + 1 → (vs.set j (Pa.live wr.heap.size x m))[i]? = some (Pa.live d y l) → (i = j ∧ d = wr.heap.size ∧ y = x ∧ l = m) ∨ (i < j ∧ vs[i]? = some (Pa.live d y l)) := by
    intro i d y l hi hv
    by_cases hij : i = j
    · subst hij
      rw [List.getElem?_set_self hjv] at hv
      injection hv with hv
      obtain ⟨a, b, c⟩ := Pa.live_inj hv
      exact .inl ⟨rfl, a.symm, b.symm, c.symm⟩
    · rw [List.getElem?_set_ne (Ne.symm hij)] at hv
      exact .inr ⟨by omega, hv⟩
  exact {
    len := by simpa using h.len
    blk := h'.blk.tn ht (by simpa using hgC.symm)
    row := by
      rw [e]
      have hr := h'.row
      rw [hn] at hr ⊢
      exact (World.ownsRow.stored hr (j * 2 + 1) _).1
    wrd := owns_tn h'.wrd ht (fun k hk hm => by
      simp at hm
      subst hm
      obtain ⟨ds, hds⟩ := row_type h'.wrd k hk
      exact ne_type hcs hds (by decide) rfl)
    old := fun i hi => by rw [List.getElem?_set_ne (by omega)]; exact h.old i (by omega)
    new := fun i d y l hi hv => by
      rcases key i d y l hi hv with ⟨rfl, rfl, rfl, rfl⟩ | ⟨hlt, hv⟩
      · refine ⟨hc.tn ht ?_, h.below.size, c, hj⟩
        simpa using (ne_type hcs hc (by decide)).symm
      · obtain ⟨a, b, c⟩ := h'.new i d y l hlt hv
        exact ⟨a.tn ht (by simpa using (ne_type hcs a (by decide)).symm), b, c⟩
    st := fun i => by
      by_cases hij : i = j
      · subst hij
        rw [List.getElem?_set_self hjv, hj]
        rfl
      · rw [List.getElem?_set_ne (Ne.symm hij)]
        exact h.st i
    dis := fun i k d y z l l' hi hk h1 h2 => by
      rcases key i d y l hi h1 with ⟨e1, e2, -, -⟩ | ⟨hlt, h1'⟩
      · rcases key k d z l' hk h2 with ⟨e3, -⟩ | ⟨hlt2, h2'⟩
        · omega
        · have := (h.new k _ z l' hlt2 h2').1.lt
          omega
      · rcases key k d z l' hk h2 with ⟨e3, e4, -⟩ | ⟨hlt2, h2'⟩
        · have := (h.new i _ y l hlt h1').1.lt
          omega
        · exact h.dis i k d y z l l' hlt hlt2 h1' h2'
    hC := h.hC
    hE := h.hE
    hW := h.hW
    below := (h.below.trans (hv.mono h.below.size)).setCell (p := ⟨g, j * 2 + 1, none⟩) hgn _ }

/-- A page without a cell. -/
theorem Clo.skip {w wr v : World} {C g cap n : Nat} {we : Value} {t : Tb} {j : Nat} {vs : List Pa} {p : Pa} (hn : t.us.length = n) (h : Clo w wr C (.slice (some ⟨g, 0, none⟩) n cap) we t j vs) (hj : t.us[j]? = some p) (hp : p.ptr = none) (hv : Below wr.heap.size wr v) :
    Clo w (v.setCell ⟨g, j * 2 + 1, none⟩ (.pointer none)) C (.slice (some ⟨g, 0, none⟩) n cap) we t (j + 1) vs := by
  have h' := h.below' hv
  have ht : Tn [g] v (v.setCell ⟨g, j * 2 + 1, none⟩ (.pointer none)) := (Tn.refl _ _).setCell (.inl (by simp)) _
  obtain ⟨cs, hcs⟩ := row_type h'.row g rfl
  have hgC : g ≠ C := ne_type hcs h'.blk (by decide)
  have hvj : vs[j]? = some p := by rw [h.old j (Nat.le_refl _)]; exact hj
  have hgn := h.hE g rfl
  have hnl : ∀ c x m, vs[j]? ≠ some (Pa.live c x m) := fun c x m e => by
    rw [hvj] at e
    injection e with e
    subst e
    cases hp
  exact {
    len := h.len
    blk := h'.blk.tn ht (by simpa using hgC.symm)
    row := by
      have e1 := paCells_at vs j 1 hvj (by omega)
      obtain ⟨l1, e1⟩ := List.getElem?_eq_some_iff.1 (show (paCells vs)[j * 2 + 1]? = some (.pointer p.ptr) from e1)
      have e2 : (paCells vs).set (j * 2 + 1) (.pointer none) = paCells vs := by
        rw [show Value.pointer none = (paCells vs)[j * 2 + 1] by rw [e1, hp]]
        exact List.set_getElem_self l1
      have hr := h'.row
      rw [hn] at hr ⊢
      have := (World.ownsRow.stored hr (j * 2 + 1) (.pointer none)).1
      rwa [e2] at this
    wrd := owns_tn h'.wrd ht (fun k hk hm => by
      simp at hm
      subst hm
      obtain ⟨ds, hds⟩ := row_type h'.wrd k hk
      exact ne_type hcs hds (by decide) rfl)
    old := fun i hi => h.old i (by omega)
    new := fun i d y l hi hv => by
      by_cases hij : i = j
      · subst hij
        exact absurd hv (hnl _ _ _)
      · obtain ⟨a, b, c⟩ := h'.new i d y l (by omega) hv
        exact ⟨a.tn ht (by simpa using (ne_type hcs a (by decide)).symm), b, c⟩
    st := h.st
    dis := fun i k d y z l l' hi hk h1 h2 => by
      by_cases hij : i = j
      · subst hij; exact absurd h1 (hnl _ _ _)
      · by_cases hkj : k = j
        · subst hkj; exact absurd h2 (hnl _ _ _)
        · exact h.dis i k d y z l l' (by omega) (by omega) h1 h2
    hC := h.hC
    hE := h.hE
    hW := h.hW
    below := (h.below.trans (hv.mono h.below.size)).setCell (p := ⟨g, j * 2 + 1, none⟩) hgn _ }

/-- All rounds are done, the counter is set. -/
theorem Clo.done {w wr : World} {C : Nat} {ue we : Value} {t : Tb} {vs : List Pa} (ho : t.Ok) (h : Clo w wr C ue we t t.us.length vs) :
    ∃ cs t', Tbn (wr.setCell ⟨C, 5, none⟩ (.int .i64 t.missed)) C cs t' ∧ Same t t' ∧ Below w.heap.size w (wr.setCell ⟨C, 5, none⟩ (.int .i64 t.missed)) ∧ ∀ b ∈ cs, w.heap.size ≤ b := by
  have ht : Tn [C] wr (wr.setCell ⟨C, 5, none⟩ (.int .i64 t.missed)) := (Tn.refl _ _).setCell (.inl (by simp)) _
  have hin : ∀ (i c : Nat) (x : Int × Int) (m : Int), vs[i]? = some (Pa.live c x m) → i < t.us.length := fun i c x m hv => by rw [← h.len]; exact (List.getElem?_eq_some_iff.1 hv).1
  have hcnt : ∀ f : Pa → Bool, (∀ p q : Pa, p.st = q.st → f p = f q) → vs.countP f = t.us.countP f := by
    intro f hf
    have e : vs.map f = t.us.map f := by
      apply List.ext_getElem?
      intro i
      have := h.st i
      rw [List.getElem?_map, List.getElem?_map]
      cases h1 : vs[i]? with
      | none =>
        rw [h1] at this
        cases h2 : t.us[i]? with
        | none => rfl
        | some q => rw [h2] at this; cases this
      | some p =>
        rw [h1] at this
        cases h2 : t.us[i]? with
        | none => rw [h2] at this; cases this
        | some q =>
          rw [h2] at this
          simp at this
          simp [hf p q this]
    have e1 := List.countP_map (p := id) (f := f) (l := vs)
    have e2 := List.countP_map (p := id) (f := f) (l := t.us)
    rw [e] at e1
    have := e1.symm.trans e2
    simpa using this
  have hfree : ∀ p q : Pa, p.st = q.st → p.isFree = q.isFree := fun p q e => by
    rcases p with ⟨_ | _ | ⟨a, b, c⟩⟩ <;> rcases q with ⟨_ | _ | ⟨a', b', c'⟩⟩ <;> simp [Pa.st] at e <;> rfl
  have hgone : ∀ p q : Pa, p.st = q.st → p.isGone = q.isGone := fun p q e => by
    rcases p with ⟨_ | _ | ⟨a, b, c⟩⟩ <;> rcases q with ⟨_ | _ | ⟨a', b', c'⟩⟩ <;> simp [Pa.st] at e <;> rfl
  have hm : vs.countP Pa.isFree = t.many := hcnt _ hfree
  have hg : vs.countP Pa.isGone = t.gone := hcnt _ hgone
  refine ⟨bsT C ue we vs, ⟨t.size, vs, t.ws, t.missed⟩, ⟨ue, we, rfl, ?_, ?_⟩, ?_, ?_, ?_⟩
  · show Rw _ C ue we (t.size : Int) vs t.ws ((vs.countP Pa.isFree : Nat) : Int) ((vs.countP Pa.isGone : Nat) : Int) t.missed
    rw [hm, hg]
    refine ⟨h.blk.set 5 _, ?_, owns_tn h.wrd ht (fun k hk hm => ?_), fun i c x m hv => ?_, fun i k c x m y l h1 h2 => h.dis i k c x y m l (hin i c x m h1) (hin k c y l h2) h1 h2⟩
    · rw [h.len]
      refine owns_tn h.row ht (fun k hk hm => ?_)
      simp at hm
      subst hm
      obtain ⟨ds, hds⟩ := row_type h.row k hk
      exact ne_type hds h.blk (by decide) rfl
    · simp at hm
      subst hm
      obtain ⟨ds, hds⟩ := row_type h.wrd k hk
      exact ne_type hds h.blk (by decide) rfl
    · have a := (h.new i c x m (hin i c x m hv) hv).1
      exact a.tn ht (by simpa using ne_type a h.blk (by decide))
  · refine ⟨ho.s1, ho.s2, by show vs.length ≤ t.size; rw [h.len]; exact ho.le, ho.wl, ho.w64, fun p => ?_⟩
    show bitAt t.ws p = true ↔ vs[p]? = some Pa.free
    rw [ho.bit p]
    have := h.st p
    constructor
    · intro e
      rw [e] at this
      cases h1 : vs[p]? with
      | none => rw [h1] at this; cases this
      | some q =>
        rw [h1] at this
        simp at this
        rw [(Pa.st0 (p := q)).1 (by rw [this]; rfl)]
    · intro e
      rw [e] at this
      cases h1 : t.us[p]? with
      | none => rw [h1] at this; cases this
      | some q =>
        rw [h1] at this
        simp at this
        rw [(Pa.st0 (p := q)).1 (by rw [← this]; rfl)]
  · have pgs : ∀ q : Int, (pgAt vs q).st = (pgAt t.us q).st := by
      intro q
      by_cases h0 : q < 0
      · rw [pgAt_neg h0, pgAt_neg h0]
      · obtain ⟨k, rfl⟩ : ∃ k : Nat, q = (k : Int) := ⟨q.toNat, by omega⟩
        rw [pgAt_nat, pgAt_nat]
        have := h.st k
        simp only [List.getD]
        cases h1 : vs[k]? with
        | none =>
          rw [h1] at this
          cases h2 : t.us[k]? with
          | none => rfl
          | some q => rw [h2] at this; cases this
        | some p =>
          rw [h1] at this
          cases h2 : t.us[k]? with
          | none => rw [h2] at this; cases this
          | some q => rw [h2] at this; simpa using this
    refine ⟨rfl, rfl, pgs, fun q c x m hq => ?_⟩
    obtain ⟨i, rfl, hi⟩ := Tb.live_at hq
    obtain ⟨-, -, c', hc'⟩ := h.new i c x m (hin i c x m hi) hi
    exact ⟨c', pgAt_some hc'⟩
  · exact h.below.setCell (p := ⟨C, 5, none⟩) h.hC _
  · intro b hb
    rcases mem_bsT.1 hb with rfl | hb | hb | ⟨i, x, m, hi⟩
    · exact h.hC
    · exact h.hE b hb
    · exact h.hW b hb
    · exact (h.new i b x m (hin i b x m hi) hi).2.1
end Go.Proofs.YtnjafmjkaajbkaaDoor
