/- Tables: what each call makes of one, as plain data. -/
import Derived.Test.YtnjafmjkaajbkaaDoorTbD
import Derived.Test.YtnjafmjkaajbkaaDoorTbBg
namespace Go.Proofs.YtnjafmjkaajbkaaDoor
open Go.RowKit
set_option linter.unusedVariables false
set_option maxRecDepth 100000

/-- A table: how many pages; those that were ever given; the words of those that wait; how many swaps were missed. -/
structure Tb where
  size : Nat
  us : List Pa
  ws : List Nat
  missed : Int

namespace Tb
def many (t : Tb) : Nat := t.us.countP Pa.isFree
def gone (t : Tb) : Nat := t.us.countP Pa.isGone
/-- The page of a number. -/
def pg (t : Tb) (p : Int) : Pa := pgAt t.us p
structure Ok (t : Tb) : Prop where
  s1 : 1 ≤ t.size
  s2 : t.size ≤ 65536
  le : t.us.length ≤ t.size
  wl : t.ws.length ≤ 1024
  w64 : ∀ x ∈ t.ws, x < 18446744073709551616
  bit : ∀ p, bitAt t.ws p = true ↔ t.us[p]? = some Pa.free
/-- One page has turned. -/
def Upd (t t' : Tb) (p : Int) (x : Pa) : Prop := t'.size = t.size ∧ t'.missed = t.missed ∧ ∀ q, t'.pg q = if q = p then x else t.pg q
end Tb

theorem pgAt_set {us : List Pa} {i : Nat} (hi : i < us.length) (x : Pa) (q : Int) : pgAt (us.set i x) q = if q = (i : Int) then x else pgAt us q := by
  by_cases h0 : q < 0
  · rw [pgAt_neg h0, pgAt_neg h0, if_neg (by omega)]
  · obtain ⟨k, rfl⟩ : ∃ k : Nat, q = (k : Int) := ⟨q.toNat, by omega⟩
    rw [pgAt_nat, pgAt_nat]
    by_cases hk : k = i
    · subst hk
      rw [if_pos rfl]
      simp [List.getD, hi]
    · rw [if_neg (by omega)]
      simp only [List.getD]
      rw [List.getElem?_set_ne (Ne.symm hk)]
theorem pgAt_push (us : List Pa) (x : Pa) (q : Int) : pgAt (us ++ [x]) q = if q = (us.length : Int) then x else pgAt us q := by
  by_cases h0 : q < 0
  · rw [pgAt_neg h0, pgAt_neg h0, if_neg (by omega)]
  · obtain ⟨k, rfl⟩ : ∃ k : Nat, q = (k : Int) := ⟨q.toNat, by omega⟩
    rw [pgAt_nat, pgAt_nat]
    simp only [List.getD]
    by_cases hk : k < us.length
    · rw [if_neg (by omega), List.getElem?_append_left hk]
    · rw [List.getElem?_append_right (by omega)]
      by_cases hk2 : k = us.length
      · subst hk2
        simp
      · rw [if_neg (by omega), List.getElem?_eq_none (by simp; omega), List.getElem?_eq_none (by omega)]

theorem free_at {us : List Pa} {p : Nat} (hp : p < us.length) : pgAt us (p : Int) = .free ↔ us[p]? = some Pa.free := by
  rw [pgAt_nat]
  simp [List.getD, hp]
theorem countP_pos_at {us : List Pa} (h : 0 < us.countP Pa.isFree) : ∃ q : Nat, us[q]? = some Pa.free := by
  obtain ⟨x, hx, hf⟩ := List.countP_pos_iff.1 h
  obtain ⟨i, hi, rfl⟩ := List.mem_iff_getElem.1 hx
  refine ⟨i, ?_⟩
  rw [List.getElem?_eq_getElem hi, Pa.isFree_iff.1 hf]
theorem countP_zero_at {us : List Pa} (h : us.countP Pa.isFree = 0) (q : Nat) : us[q]? ≠ some Pa.free := by
  intro hq
  have := List.countP_eq_zero.1 h _ (List.mem_of_getElem? hq)
  simp [Pa.isFree] at this

/-- A table in memory, and the blocks that are its. -/
def Tbn (w : World) (B : Nat) (bs : List Nat) (t : Tb) : Prop := ∃ uv wv, bs = bsT B uv wv t.us ∧ Rw w B uv wv (t.size : Int) t.us t.ws (t.many : Int) (t.gone : Int) t.missed ∧ t.Ok
/-- What a call makes of it. -/
def TbT (w w' : World) (B : Nat) (bs : List Nat) (t : Tb) : Prop := ∃ bs', Tbn w' B bs' t ∧ Tn bs w w' ∧ ∀ b ∈ bs', b ∈ bs ∨ w.heap.size ≤ b

section
variable {w w' : World} {B : Nat} {bs : List Nat} {t : Tb}

theorem Tbn.tn {S : List Nat} (h : Tbn w B bs t) (ht : Tn S w w') (hS : ∀ b ∈ bs, b ∉ S) : Tbn w' B bs t := by
  obtain ⟨uv, wv, rfl, h, ho⟩ := h
  exact ⟨uv, wv, rfl, h.tn ht hS, ho⟩
theorem Tbn.below (h : Tbn w B bs t) (hb : Below w.heap.size w w') : Tbn w' B bs t := h.tn (Tn.of_below hb []) (by simp)
theorem Tbn.lt (h : Tbn w B bs t) : ∀ b ∈ bs, b < w.heap.size := by
  obtain ⟨uv, wv, rfl, h, ho⟩ := h
  exact h.lt
theorem Tbn.hB (h : Tbn w B bs t) : B ∈ bs := by
  obtain ⟨uv, wv, rfl, h, ho⟩ := h
  exact mem_bsT.2 (.inl rfl)
theorem Tbn.ok (h : Tbn w B bs t) : t.Ok := by
  obtain ⟨uv, wv, rfl, h, ho⟩ := h
  exact ho
theorem TbT.refl (h : Tbn w B bs t) : TbT w w B bs t := ⟨bs, h, Tn.refl _ _, fun b hb => .inl hb⟩
theorem TbT.same (h : Tbn w B bs t) (ht : Tn [] w w') : TbT w w' B bs t := ⟨bs, h.tn ht (by simp), ht.mono (by simp), fun b hb => .inl hb⟩
theorem TbT.below (h : Tbn w B bs t) (hb : Below w.heap.size w w') : TbT w w' B bs t := TbT.same h (Tn.of_below hb [])
theorem TbT.trans {w2 : World} {bs1 : List Nat} (h1 : Tn bs w w') (hn : ∀ b ∈ bs1, b ∈ bs ∨ w.heap.size ≤ b) (h2 : TbT w' w2 B bs1 t) : TbT w w2 B bs t := by
  obtain ⟨bs2, ha, ht, hm⟩ := h2
  refine ⟨bs2, ha, h1.trans ht hn, fun b hb => ?_⟩
  rcases hm b hb with h | h
  · exact hn b h
  · exact .inr (Nat.le_trans h1.size h)

theorem Tb.many_le (t : Tb) : t.many ≤ t.us.length := List.countP_le_length
theorem Tb.gone_le (t : Tb) : t.gone ≤ t.us.length := List.countP_le_length

theorem Tb.Ok.full (ho : t.Ok) (hf : ∀ q : Nat, q < t.size → t.pg q ≠ .free) : t.us.length = t.size ∧ t.many = 0 := by
  have hl : t.us.length = t.size := by
    apply Nat.le_antisymm ho.le
    apply Nat.le_of_not_lt
    intro hlt
    exact hf _ hlt (pgAt_far (Int.le_refl _))
  refine ⟨hl, ?_⟩
  apply Nat.eq_zero_of_not_pos
  intro hp
  obtain ⟨q, hq⟩ := countP_pos_at hp
  have hql : q < t.us.length := (List.getElem?_eq_some_iff.1 hq).1
  exact hf q (by omega) ((free_at hql).2 hq)

theorem Tb.Ok.room (ho : t.Ok) {p : Nat} (hp : p < t.size) (hf : t.pg p = .free) : ((t.us.length : Nat) : Int) - (t.many : Int) ≠ (t.size : Int) := by
  intro e
  have h1 := ho.le
  have h2 := t.many_le
  have hm : t.many = 0 := by omega
  have hl : t.us.length = t.size := by omega
  exact countP_zero_at hm p ((free_at (by omega)).1 hf)

theorem tAlloc_arg (h : Tbn w B bs t) : Calls Tryd.prog 14 #[.pointer (some ⟨B, 0, none⟩), hv (0, 0)] w fun e w' => e = .returned (.tuple #[.int .i64 0, .int .i64 1]) ∧ Below w.heap.size w w' := by
  obtain ⟨uv, wv, rfl, h, ho⟩ := h
  exact alloc_arg h (by have := ho.s1; omega)

theorem tAlloc_full (h : Tbn w B bs t) (x : Int × Int) (hx : x ≠ (0, 0)) (hf : ∀ q : Nat, q < t.size → t.pg q ≠ .free) : Calls Tryd.prog 14 #[.pointer (some ⟨B, 0, none⟩), hv x] w fun e w' => e = .returned (.tuple #[.int .i64 0, .int .i64 5]) ∧ Below w.heap.size w w' := by
  obtain ⟨uv, wv, rfl, h, ho⟩ := h
  obtain ⟨h1, h2⟩ := ho.full hf
  have := ho.s1
  have := ho.s2
  have := t.gone_le
  exact alloc_full h (by omega) (by omega) (by omega) (by omega) (by omega) (by omega) x hx (by omega)

theorem tAlloc_ok (h : Tbn w B bs t) (hT : Tab w) (x : Int × Int) (hx : x ≠ (0, 0)) {p : Nat} (hp : p < t.size) (hf : t.pg p = .free) (hlow : ∀ q : Nat, q < p → t.pg q ≠ .free) : Calls Tryd.prog 14 #[.pointer (some ⟨B, 0, none⟩), hv x] w fun e w' => e = .returned (.tuple #[.int .i64 (p : Int), .int .i64 0]) ∧ ∃ t' c, Tb.Upd t t' p (Pa.live c x 0) ∧ TbT w w' B bs t' := by
  obtain ⟨uv, wv, rfl, h, ho⟩ := h
  have s1 := ho.s1
  have s2 := ho.s2
  have hle := ho.le
  have hgl := t.gone_le
  have hml := t.many_le
  have hroom := ho.room hp hf
  by_cases hm : t.many = 0
  · have hpl : p = t.us.length := by
      by_cases hlt : p < t.us.length
      · exact absurd ((free_at hlt).1 hf) (countP_zero_at hm p)
      · apply Nat.le_antisymm _ (by omega)
        apply Nat.le_of_not_lt
        intro hlt2
        exact hlow _ hlt2 (pgAt_far (Int.le_refl _))
    subst hpl
    rw [hm] at h hroom
    have hl := fun v (hv : Below w.heap.size w v) => lowest_new (w := v) (h.below hv) (by omega)
    refine (alloc_of (us' := t.us ++ [.free]) (ws' := t.ws) (many' := 0) h (by omega) (by omega) (by omega) (by omega) (by omega) (by omega) x hx hroom (by omega) (by simp) hl).mono ?_
    rintro e w' ⟨rfl, uv', c, h1, h2, h3, h4⟩
    have e1 : (t.us ++ [Pa.free]).set t.us.length (Pa.live c x 0) = t.us ++ [Pa.live c x 0] := by simp
    rw [e1] at h1
    have hm' : (t.us ++ [Pa.live c x 0]).countP Pa.isFree = 0 := by
      rw [List.countP_append, show t.us.countP Pa.isFree = 0 from hm]
      simp [Pa.isFree]
    have hg' : (t.us ++ [Pa.live c x 0]).countP Pa.isGone = t.gone := by
      rw [List.countP_append]
      simp [Pa.isGone, Tb.gone]
    refine ⟨rfl, ⟨t.size, t.us ++ [Pa.live c x 0], t.ws, t.missed⟩, c, ⟨rfl, rfl, fun q => pgAt_push t.us (Pa.live c x 0) q⟩, bsT B uv' wv (t.us ++ [Pa.live c x 0]), ⟨uv', wv, rfl, ?_, ?_⟩, h2.mono bs3_sub, ?_⟩
    · show Rw w' B uv' wv (t.size : Int) (t.us ++ [Pa.live c x 0]) t.ws (((t.us ++ [Pa.live c x 0]).countP Pa.isFree : Nat) : Int) (((t.us ++ [Pa.live c x 0]).countP Pa.isGone : Nat) : Int) t.missed
      rw [hm', hg']
      exact h1
    · refine ⟨s1, s2, by show (t.us ++ [_]).length ≤ t.size; simp; omega, ho.wl, ho.w64, fun q => ?_⟩
      show _ ↔ (t.us ++ [Pa.live c x 0])[q]? = some Pa.free
      rw [ho.bit q]
      by_cases hq : q < t.us.length
      · rw [List.getElem?_append_left hq]
      · rw [List.getElem?_eq_none (by omega), List.getElem?_append_right (by omega)]
        cases hj : q - t.us.length with
        | zero => simp
        | succ j => simp
    · intro b hb
      rcases mem_bsT.1 hb with rfl | hb | hb | ⟨i, y, n, hi⟩
      · exact .inl (mem_bsT.2 (.inl rfl))
      · exact (h3 b hb).imp (fun hh => mem_bsT.2 (.inr (.inl hh))) id
      · exact .inl (mem_bsT.2 (.inr (.inr (.inl hb))))
      · by_cases hil : i < t.us.length
        · rw [List.getElem?_append_left hil] at hi
          exact .inl (mem_bsT.2 (.inr (.inr (.inr ⟨i, y, n, hi⟩))))
        · rw [List.getElem?_append_right (by omega)] at hi
          cases hj : i - t.us.length with
          | zero =>
            rw [hj] at hi
            simp at hi
            obtain ⟨rfl, -, -⟩ := hi
            exact .inr h4
          | succ j => rw [hj] at hi; simp at hi
  · obtain ⟨q0, hq0⟩ := countP_pos_at (Nat.pos_of_ne_zero hm)
    obtain ⟨p', ws', hb1, hb2, hb3, hb4, hb5, hl⟩ := lowest_old h (by omega) (by omega) ho.wl ho.w64 ((ho.bit q0).2 hq0) hT
    have hf' := (ho.bit p').1 hb1
    have hpl' : p' < t.us.length := (List.getElem?_eq_some_iff.1 hf').1
    have hpp : p' = p := by
      apply Nat.le_antisymm
      · apply Nat.le_of_not_lt
        intro hlt
        have h1 := hb2 p hlt
        have h2 := (ho.bit p).2 ((free_at (by omega)).1 hf)
        rw [h1] at h2
        cases h2
      · apply Nat.le_of_not_lt
        intro hlt
        exact hlow p' hlt ((free_at hpl').2 hf')
    subst hpp
    refine (alloc_of (us' := t.us) (ws' := ws') (many' := (t.many : Int) - 1) h (by omega) (by omega) (by omega) (by omega) (by omega) (by omega) x hx hroom (by omega) hf' hl).mono ?_
    rintro e w' ⟨rfl, uv', c, h1, h2, h3, h4⟩
    have hel : t.us[p'] = Pa.free := by rw [List.getElem?_eq_getElem hpl'] at hf'; exact Option.some.inj hf'
    have hm' : (t.us.set p' (Pa.live c x 0)).countP Pa.isFree = t.many - 1 := by
      rw [List.countP_set hpl', hel]
      simp [Pa.isFree, Tb.many]
    have hg' : (t.us.set p' (Pa.live c x 0)).countP Pa.isGone = t.gone := by
      rw [List.countP_set hpl', hel]
      simp [Pa.isGone, Tb.gone]
    refine ⟨rfl, ⟨t.size, t.us.set p' (Pa.live c x 0), ws', t.missed⟩, c, ⟨rfl, rfl, fun q => pgAt_set hpl' (Pa.live c x 0) q⟩, bsT B uv' wv (t.us.set p' (Pa.live c x 0)), ⟨uv', wv, rfl, ?_, ?_⟩, h2.mono bs3_sub, ?_⟩
    · show Rw w' B uv' wv (t.size : Int) (t.us.set p' (Pa.live c x 0)) ws' (((t.us.set p' (Pa.live c x 0)).countP Pa.isFree : Nat) : Int) (((t.us.set p' (Pa.live c x 0)).countP Pa.isGone : Nat) : Int) t.missed
      rw [hm', hg', show ((t.many - 1 : Nat) : Int) = (t.many : Int) - 1 by omega]
      exact h1
    · refine ⟨s1, s2, by show (t.us.set p' _).length ≤ t.size; simp; omega, by rw [show (⟨t.size, t.us.set p' (Pa.live c x 0), ws', t.missed⟩ : Tb).ws = ws' from rfl, hb4]; exact ho.wl, hb5, fun q => ?_⟩
      show bitAt ws' q = true ↔ (t.us.set p' (Pa.live c x 0))[q]? = some Pa.free
      rw [hb3]
      by_cases hq : q = p'
      · subst hq
        simp [hpl']
      · rw [List.getElem?_set_ne (Ne.symm hq), ← ho.bit q]
        simp [hq]
    · intro b hb
      rcases mem_bsT.1 hb with rfl | hb | hb | ⟨i, y, n, hi⟩
      · exact .inl (mem_bsT.2 (.inl rfl))
      · exact (h3 b hb).imp (fun hh => mem_bsT.2 (.inr (.inl hh))) id
      · exact .inl (mem_bsT.2 (.inr (.inr (.inl hb))))
      · by_cases hil : i = p'
        · subst hil
          simp [hpl'] at hi
          obtain ⟨rfl, -, -⟩ := hi
          exact .inr h4
        · rw [List.getElem?_set_ne (Ne.symm hil)] at hi
          exact .inl (mem_bsT.2 (.inr (.inr (.inr ⟨i, y, n, hi⟩))))
end
end Go.Proofs.YtnjafmjkaajbkaaDoor
