/- A table beside its two maps. -/
import Derived.Test.YtnjafmjkaajbkaaDoorTbMp
import Derived.Test.YtnjafmjkaajbkaaDoorTbSt
import Derived.Test.YtnjafmjkaajbkaaDoorTbOpen
namespace Go.Proofs.YtnjafmjkaajbkaaDoor
open Go.RowKit Go.Maps
set_option linter.unusedVariables false
set_option maxRecDepth 100000

/-- The heads of a table, and who is gone. -/
def fl (t : Tb) : Nat → Option (Int × Int) := fun i => (t.pg (i : Int)).hd
def isG (p : Pa) : Option Bool := if p.st = 2 then some true else none
def fg (t : Tb) : Nat → Option Bool := fun i => isG (t.pg (i : Int))

theorem fl_nat (t : Tb) (i : Nat) : fl t i = (t.us.getD i Pa.free).hd := by rw [fl, Tb.pg, pgAt_nat]
theorem fg_nat (t : Tb) (i : Nat) : fg t i = isG (t.us.getD i Pa.free) := by rw [fg, Tb.pg, pgAt_nat]

theorem Tb.Ok.out {t : Tb} (ho : t.Ok) {q : Int} (h : ¬ (0 ≤ q ∧ q < (t.size : Int))) : t.pg q = Pa.free := by
  unfold Tb.pg
  by_cases h0 : q < 0
  · exact pgAt_neg h0
  · exact pgAt_far (by have := ho.le; omega)

theorem get_fl {t : Tb} (ho : t.Ok) (q : Int) : getI (fl t) t.size q = (t.pg q).hd := by
  by_cases h : 0 ≤ q ∧ q < (t.size : Int)
  · obtain ⟨i, rfl⟩ : ∃ i : Nat, q = (i : Int) := ⟨q.toNat, by omega⟩
    rw [getI_nat _ _ _ (by omega)]
    rfl
  · rw [getI_out h, ho.out h]
    rfl
theorem get_fg {t : Tb} (ho : t.Ok) (q : Int) : getI (fg t) t.size q = isG (t.pg q) := by
  by_cases h : 0 ≤ q ∧ q < (t.size : Int)
  · obtain ⟨i, rfl⟩ : ∃ i : Nat, q = (i : Int) := ⟨q.toNat, by omega⟩
    rw [getI_nat _ _ _ (by omega)]
    rfl
  · rw [getI_out h, ho.out h]
    rfl

section
variable {t t' : Tb} {i : Nat}
theorem fl_live {c : Nat} {x : Int × Int} {m : Int} (h : Tb.Upd t t' (i : Int) (Pa.live c x m)) : upd (fl t) i x = fl t' := by
  funext j
  unfold upd fl
  rw [h.2.2]
  by_cases e : j = i
  · subst e
    simp [Pa.hd]
  · rw [if_neg e, if_neg (by omega)]
theorem fg_same {x : Pa} {p : Int} (h : Tb.Upd t t' p x) (h1 : x.st ≠ 2) (h2 : (t.pg p).st ≠ 2) : fg t' = fg t := by
  funext j
  unfold fg
  rw [h.2.2]
  by_cases e : (j : Int) = p
  · subst e
    rw [if_pos rfl]
    simp [isG, h1, h2]
  · rw [if_neg e]
theorem fl_gone {p : Int} {x : Pa} (h : Tb.Upd t t' p x) (hx : x.hd = none) : rid (fl t) p = fl t' := by
  funext j
  unfold rid fl
  rw [h.2.2]
  by_cases e : (j : Int) = p
  · rw [if_pos e, if_pos e, hx]
  · rw [if_neg e, if_neg e]
theorem fg_gone (h : Tb.Upd t t' (i : Int) Pa.gone) : upd (fg t) i true = fg t' := by
  funext j
  unfold upd fg
  rw [h.2.2]
  by_cases e : j = i
  · subst e
    simp [isG, Pa.st]
  · rw [if_neg e, if_neg (by omega)]
theorem fg_free {p : Int} (h : Tb.Upd t t' p Pa.free) : rid (fg t) p = fg t' := by
  funext j
  unfold rid fg
  rw [h.2.2]
  by_cases e : (j : Int) = p
  · rw [if_pos e, if_pos e]
    rfl
  · rw [if_neg e, if_neg e]
theorem fl_free {p : Int} (h : Tb.Upd t t' p Pa.free) (hp : t.pg p = Pa.gone) : fl t' = fl t := by
  funext j
  unfold fl
  rw [h.2.2]
  by_cases e : (j : Int) = p
  · rw [if_pos e, e, hp]
    rfl
  · rw [if_neg e]
theorem fg_none {p : Int} (hp : (t.pg p).st ≠ 2) : rid (fg t) p = fg t := by
  funext j
  unfold rid fg
  by_cases e : (j : Int) = p
  · rw [if_pos e, e]
    simp [isG, hp]
  · rw [if_neg e]
end

theorem ents_len {α : Type} (f : Nat → Option α) (n : Nat) : (ents f n).length = (List.range n).countP (fun i => (f i).isSome) := by
  unfold ents
  induction n with
  | zero => simp
  | succ n ih =>
    rw [List.range_succ, List.filterMap_append, List.length_append, List.countP_append, ih]
    cases h : f n <;> simp [h]

theorem live_len {t : Tb} (ho : t.Ok) : (ents (fl t) t.size).length = (lv t.us t.us.length).length := by
  rw [← lv_over ho.le]
  have key : ∀ j, (ents (fl t) j).length = (lv t.us j).length := by
    intro j
    induction j with
    | zero => simp [ents, lv]
    | succ j ih =>
      rw [lv_succ, List.length_append, ← ih, ents_len, ents_len, List.range_succ, List.countP_append]
      congr 1
      simp only [List.countP_singleton, fl_nat]
      generalize (t.us.getD j Pa.free).hd = o
      cases o <;> simp
  exact key _

theorem gone_len {t : Tb} (ho : t.Ok) : (ents (fg t) t.size).length = t.gone := by
  have key : ∀ j, (ents (fg t) j).length = (t.us.take j).countP Pa.isGone := by
    intro j
    induction j with
    | zero => simp [ents]
    | succ j ih =>
      rw [List.take_add_one, List.countP_append, ← ih, ents_len, ents_len, List.range_succ, List.countP_append]
      congr 1
      simp only [List.countP_singleton, fg_nat]
      by_cases hu : j < t.us.length
      · rw [List.getElem?_eq_getElem hu, show t.us.getD j Pa.free = t.us[j] by simp [List.getD, hu]]
        generalize t.us[j] = p
        rcases p with ⟨_ | _ | ⟨a, b, d⟩⟩ <;> simp [isG, Pa.isGone, Pa.st]
      · rw [List.getElem?_eq_none (by omega), show t.us.getD j Pa.free = Pa.free by simp [List.getD, List.getElem?_eq_none (show t.us.length ≤ j by omega)]]
        simp [isG, Pa.st]
  rw [key, List.take_of_length_le ho.le]
  rfl

/-- Both, in a walk that began in w. -/
structure Gs (w W : World) (B : Nat) (bs : List Nat) (t : Tb) (n Mg Ml : Nat) (F : Nat → Option Bool) (L : Nat → Option (Int × Int)) : Prop where
  tb : Tbn W B bs t
  size : t.size = n
  tab : Tab W
  mg : Mp bElem W Mg n F
  ml : Mp hElem W Ml n L
  ne : Mg ≠ Ml
  below : Below w.heap.size w W
  low : ∀ b ∈ bs ++ [Mg, Ml], w.heap.size ≤ b
  pos : 0 < w.heap.size

section
variable {w W W' : World} {B : Nat} {bs : List Nat} {t t' : Tb} {n Mg Ml : Nat} {F F' : Nat → Option Bool} {L L' : Nat → Option (Int × Int)}
theorem Mp.not_in {α : Type} {R : Value → Option (DataW α × List MemPlace)} {M n : Nat} {f : Nat → Option α} (h : Mp R W M n f) (k : Tbn W B bs t) : M ∉ bs := by
  intro hm
  obtain ⟨cs, τ, h1, -⟩ := k.kinds M hm
  obtain ⟨es, clock, h2⟩ := h.block
  rw [h1] at h2
  cases h2
theorem Mp.not_cells {α : Type} {R : Value → Option (DataW α × List MemPlace)} {M n : Nat} {f : Nat → Option α} (h : Mp R W M n f) {b : Nat} {τ : TypeId} {cs : Array Value} (k : Bk W b τ cs) : M ≠ b := by
  rintro rfl
  obtain ⟨es, clock, h2⟩ := h.block
  rw [show W.heap[M]? = _ from k] at h2
  cases h2

theorem Gs.still (h : Gs w W B bs t n Mg Ml F L) (hb : Below W.heap.size W W') : Gs w W' B bs t n Mg Ml F L :=
  ⟨h.tb.below hb, h.size, h.tab.below hb, h.mg.below hb, h.ml.below hb, h.ne, h.below.trans (hb.mono h.below.size), h.low, h.pos⟩

theorem Gs.turn (h : Gs w W B bs t n Mg Ml F L) (hs : t'.size = n) (k : TbT W W' B bs t') : Tn bs W W' ∧ ∃ bs', Gs w W' B bs' t' n Mg Ml F L := by
  obtain ⟨bs', k1, k2, k3⟩ := k
  refine ⟨k2, bs', k1, hs, h.tab.tn k2 (fun hm => ?_), h.mg.tn k2 (h.mg.not_in h.tb), h.ml.tn k2 (h.ml.not_in h.tb), h.ne, h.below.trans (k2.below h.below.size (fun b hb => h.low b (List.mem_append.2 (.inl hb)))), fun b hb => ?_, h.pos⟩
  · have h1 := h.low 0 (List.mem_append.2 (.inl hm))
    have := h.pos
    omega
  · rcases List.mem_append.1 hb with hb | hb
    · rcases k3 b hb with h1 | h1
      · exact h.low b (List.mem_append.2 (.inl h1))
      · exact Nat.le_trans h.below.size h1
    · exact h.low b (List.mem_append.2 (.inr hb))

theorem Gs.putG (h : Gs w W B bs t n Mg Ml F L) (k : Mp bElem W' Mg n F') (ht : Tn [Mg] W W') : Gs w W' B bs t n Mg Ml F' L := by
  have l1 := h.low Mg (by simp)
  have := h.pos
  exact ⟨h.tb.tn ht (fun b hb hm => by simp at hm; subst hm; exact h.mg.not_in h.tb hb), h.size, h.tab.tn ht (by simp; omega), k, h.ml.tn ht (by simp; exact fun e => h.ne e.symm), h.ne, h.below.trans (ht.below h.below.size (by simpa using l1)), h.low, h.pos⟩
theorem Gs.putL (h : Gs w W B bs t n Mg Ml F L) (k : Mp hElem W' Ml n L') (ht : Tn [Ml] W W') : Gs w W' B bs t n Mg Ml F L' := by
  have l1 := h.low Ml (by simp)
  have := h.pos
  exact ⟨h.tb.tn ht (fun b hb hm => by simp at hm; subst hm; exact h.ml.not_in h.tb hb), h.size, h.tab.tn ht (by simp; omega), h.mg.tn ht (by simp; exact h.ne), k, h.ne, h.below.trans (ht.below h.below.size (by simpa using l1)), h.low, h.pos⟩
end

end Go.Proofs.YtnjafmjkaajbkaaDoor
