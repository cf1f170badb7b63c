/- Epochs: their state as plain data, and how it lies in memory. -/
import Derived.Test.YtbdcdiihaecheaaEkM
namespace Go.Proofs.Ytbdcdiihaecheaa
open Go.RowKit
set_option linter.unusedVariables false
set_option maxRecDepth 100000

/-- An epoch: its number, to which each session is pinned (0: it is not), what was retired in the epoch ahead, and in this one. -/
structure Ep where
  now : Nat
  pins : List Nat
  old : List Rt
  cur : List Rt

namespace Ep
/-- The first. -/
def fresh : Ep := ⟨1, List.replicate 17 0, [], []⟩
/-- The list at one of the three places. -/
def lst (e : Ep) (k : Nat) : List Rt := if k = e.now % 3 then e.cur else if k = (e.now + 2) % 3 then e.old else []
def pin (e : Ep) (s : Nat) : Nat := e.pins.getD s 0
def setPin (e : Ep) (s x : Nat) : Ep := { e with pins := e.pins.set s x }
def retire (e : Ep) (x : Rt) : Ep := { e with cur := e.cur ++ [x] }
def next (e : Ep) : Ep := { e with now := e.now + 1, old := e.cur, cur := [] }
/-- Does a session hold it back? -/
def held (e : Ep) : Bool := e.pins.any fun p => decide (p ≠ 0) && decide (p < e.now)
theorem lst_cur (e : Ep) : e.lst (e.now % 3) = e.cur := by simp [lst]
theorem lst_old (e : Ep) : e.lst ((e.now + 2) % 3) = e.old := by
  unfold lst
  rw [if_neg (by omega), if_pos rfl]
theorem lst_none (e : Ep) : e.lst ((e.now + 1) % 3) = [] := by
  unfold lst
  rw [if_neg (by omega), if_neg (by omega)]
theorem lst_retire (e : Ep) (x : Rt) (k : Nat) : (e.retire x).lst k = if k = e.now % 3 then e.cur ++ [x] else e.lst k := by
  unfold lst retire
  by_cases h : k = e.now % 3 <;> simp [h]
theorem lst_setPin (e : Ep) (s x k : Nat) : (e.setPin s x).lst k = e.lst k := rfl
theorem lst_next (e : Ep) (k : Nat) (hk : k < 3) : e.next.lst k = if k = (e.now + 2) % 3 then [] else e.lst k := by
  unfold lst next
  dsimp only
  by_cases h : k = e.now % 3
  · rw [if_neg (by omega), if_pos (by omega), if_neg (by omega), if_pos h]
  · by_cases h2 : k = (e.now + 2) % 3
    · rw [if_neg (by omega), if_neg (by omega), if_pos h2]
    · rw [if_pos (by omega), if_neg h2, if_neg h, if_neg h2]
end Ep

def vNil : Value := .slice none 0 0
/-- The cells of an epoch. -/
def epCells (now : Nat) (pins : List Nat) (vs : List Value) : Array Value := ((.int .i64 (now : Int)) :: (pins.map (fun (p : Nat) => Value.int .i64 (p : Int)) ++ vs)).toArray

theorem epCells_now (now : Nat) (pins : List Nat) (vs : List Value) : (epCells now pins vs)[0]? = some (.int .i64 (now : Int)) := by simp [epCells]
theorem epCells_pin (now : Nat) (pins : List Nat) (vs : List Value) (s : Nat) (hs : s < pins.length) : (epCells now pins vs)[1 + s]? = some (.int .i64 ((pins.getD s 0 : Nat) : Int)) := by
  simp [epCells, Nat.add_comm 1 s, List.getElem?_append_left, hs]
theorem epCells_list (now : Nat) (pins : List Nat) (vs : List Value) (hp : pins.length = 17) (k : Nat) (hk : k < vs.length) : (epCells now pins vs)[18 + k]? = some (vs.getD k vNil) := by
  have e : 18 + k = (17 + k) + 1 := by omega
  simp only [epCells, List.getElem?_toArray, e, List.getElem?_cons_succ]
  rw [List.getElem?_append_right (by simp [hp])]
  simp [hp, hk]
theorem epCells_setNow (now x : Nat) (pins : List Nat) (vs : List Value) : (epCells now pins vs).setIfInBounds 0 (.int .i64 (x : Int)) = epCells x pins vs := by
  simp [epCells]
theorem epCells_setPin (now x : Nat) (pins : List Nat) (vs : List Value) (s : Nat) (hs : s < pins.length) : (epCells now pins vs).setIfInBounds (1 + s) (.int .i64 (x : Int)) = epCells now (pins.set s x) vs := by
  unfold epCells
  apply Array.ext'
  simp only [Array.toList_setIfInBounds, Nat.add_comm 1 s, List.set_cons_succ, List.map_set]
  rw [List.set_append_left _ _ (by simpa using hs)]
theorem epCells_setList (now : Nat) (pins : List Nat) (vs : List Value) (v : Value) (hp : pins.length = 17) (k : Nat) : (epCells now pins vs).setIfInBounds (18 + k) v = epCells now pins (vs.set k v) := by
  have e : 18 + k = (17 + k) + 1 := by omega
  unfold epCells
  apply Array.ext'
  simp only [Array.toList_setIfInBounds, e, List.set_cons_succ]
  rw [List.set_append_right _ _ (by simp [hp])]
  simp [hp]

/-- An epoch in memory: its block, the rows of the three lists. -/
structure IsEp (w : World) (B : Nat) (vs : List Value) (e : Ep) : Prop where
  blk : Bk w B 89 (epCells e.now e.pins vs)
  p17 : e.pins.length = 17
  v3 : vs.length = 3
  row : ∀ k, k < 3 → Rr w (vs.getD k vNil) (e.lst k)
  ne : ∀ j k b, j < 3 → k < 3 → (vs.getD j vNil).ownBlock = some b → (vs.getD k vNil).ownBlock = some b → j = k
  neB : ∀ k b, k < 3 → (vs.getD k vNil).ownBlock = some b → b ≠ B
  n1 : 1 ≤ e.now
  ple : ∀ p ∈ e.pins, p ≤ e.now

def blocks (B : Nat) (vs : List Value) : List Nat := B :: vs.filterMap Value.ownBlock

theorem mem_blocks {B : Nat} {vs : List Value} {b : Nat} (h3 : vs.length = 3) : b ∈ blocks B vs ↔ b = B ∨ ∃ k, k < 3 ∧ (vs.getD k vNil).ownBlock = some b := by
  simp only [blocks, List.mem_cons, List.mem_filterMap]
  refine or_congr Iff.rfl ⟨?_, ?_⟩
  · rintro ⟨v, hv, hb⟩
    obtain ⟨i, hi, rfl⟩ := List.mem_iff_getElem.1 hv
    refine ⟨i, by omega, ?_⟩
    simp [List.getD, hi, hb]
  · rintro ⟨k, hk, hb⟩
    have hk' : k < vs.length := by omega
    refine ⟨vs[k], List.getElem_mem hk', ?_⟩
    simpa [List.getD, hk'] using hb

def Epn (w : World) (B : Nat) (bs : List Nat) (e : Ep) : Prop := ∃ vs, bs = blocks B vs ∧ IsEp w B vs e

/-- What a call makes of it. -/
def EpT (w w' : World) (B : Nat) (bs : List Nat) (e : Ep) : Prop := ∃ bs', Epn w' B bs' e ∧ Tn bs w w' ∧ ∀ b ∈ bs', b ∈ bs ∨ w.heap.size ≤ b

theorem IsEp.tn {S : List Nat} {w w' : World} {B : Nat} {vs : List Value} {e : Ep} (h : IsEp w B vs e) (ht : Tn S w w') (hS : ∀ b ∈ blocks B vs, b ∉ S) : IsEp w' B vs e :=
  { h with
    blk := h.blk.tn ht (hS B (by simp [blocks]))
    row := fun k hk => (h.row k hk).tn ht (fun b hb => hS b ((mem_blocks h.v3).2 (.inr ⟨k, hk, hb⟩))) }

theorem Epn.tn {S : List Nat} {w w' : World} {B : Nat} {bs : List Nat} {e : Ep} (h : Epn w B bs e) (ht : Tn S w w') (hS : ∀ b ∈ bs, b ∉ S) : Epn w' B bs e := by
  obtain ⟨vs, rfl, h⟩ := h
  exact ⟨vs, rfl, h.tn ht hS⟩

theorem IsEp.lt {w : World} {B : Nat} {vs : List Value} {e : Ep} (h : IsEp w B vs e) : ∀ b ∈ blocks B vs, b < w.heap.size := by
  intro b hb
  rcases (mem_blocks h.v3).1 hb with rfl | ⟨k, hk, hb⟩
  · exact h.blk.lt
  · exact (h.row k hk).lt b hb

theorem Epn.lt {w : World} {B : Nat} {bs : List Nat} {e : Ep} (h : Epn w B bs e) : ∀ b ∈ bs, b < w.heap.size := by
  obtain ⟨vs, rfl, h⟩ := h
  exact h.lt
theorem Epn.hB {w : World} {B : Nat} {bs : List Nat} {e : Ep} (h : Epn w B bs e) : B ∈ bs := by
  obtain ⟨vs, rfl, h⟩ := h
  simp [blocks]
theorem Epn.below {w w' : World} {B : Nat} {bs : List Nat} {e : Ep} (h : Epn w B bs e) (hb : Below w.heap.size w w') : Epn w' B bs e := h.tn (Tn.of_below hb []) (by simp)
theorem Epn.n1 {w : World} {B : Nat} {bs : List Nat} {e : Ep} (h : Epn w B bs e) : 1 ≤ e.now := by
  obtain ⟨vs, rfl, h⟩ := h
  exact h.n1
theorem Epn.p17 {w : World} {B : Nat} {bs : List Nat} {e : Ep} (h : Epn w B bs e) : e.pins.length = 17 := by
  obtain ⟨vs, rfl, h⟩ := h
  exact h.p17
theorem EpT.refl {w : World} {B : Nat} {bs : List Nat} {e : Ep} (h : Epn w B bs e) : EpT w w B bs e := ⟨bs, h, Tn.refl _ _, fun b hb => .inl hb⟩
theorem EpT.same {w w' : World} {B : Nat} {bs : List Nat} {e : Ep} (h : Epn w B bs e) (ht : Tn [] w w') : EpT w w' B bs e := ⟨bs, h.tn ht (by simp), ht.mono (by simp), fun b hb => .inl hb⟩
theorem EpT.trans {w w1 w2 : World} {B : Nat} {bs bs1 : List Nat} {e : Ep} (h1 : Tn bs w w1) (hn : ∀ b ∈ bs1, b ∈ bs ∨ w.heap.size ≤ b) (h2 : EpT w1 w2 B bs1 e) : EpT w w2 B bs e := by
  obtain ⟨bs2, ha, ht, hm⟩ := h2
  refine ⟨bs2, ha, h1.trans ht hn, fun b hb => ?_⟩
  rcases hm b hb with h | h
  · exact hn b h
  · exact .inr (Nat.le_trans h1.size h)
theorem EpT.pre {w w1 w2 : World} {B : Nat} {bs : List Nat} {e : Ep} (h1 : Tn [] w w1) (h2 : EpT w1 w2 B bs e) : EpT w w2 B bs e :=
  EpT.trans (h1.mono (by simp)) (fun b hb => .inl hb) h2
theorem EpT.then {w w1 w2 : World} {B : Nat} {bs : List Nat} {e : Ep} (h1 : EpT w w1 B bs e) (ht : Tn [] w1 w2) : EpT w w2 B bs e := by
  obtain ⟨bs1, ha, ht1, hm⟩ := h1
  exact ⟨bs1, ha.tn ht (by simp), ht1.trans ht (by simp), hm⟩

/-- The cells. -/
theorem IsEp.cNow {w : World} {B : Nat} {vs : List Value} {e : Ep} (h : IsEp w B vs e) : w.cell? ⟨B, 0, none⟩ = some (.int .i64 (e.now : Int)) := (h.blk.cell 0).trans (epCells_now _ _ _)
theorem IsEp.cPin {w : World} {B : Nat} {vs : List Value} {e : Ep} (h : IsEp w B vs e) (s : Nat) (hs : s < 17) : w.cell? ⟨B, 1 + s, none⟩ = some (.int .i64 ((e.pin s : Nat) : Int)) := (h.blk.cell _).trans (epCells_pin _ _ _ _ (by rw [h.p17]; exact hs))
theorem IsEp.cList {w : World} {B : Nat} {vs : List Value} {e : Ep} (h : IsEp w B vs e) (k : Nat) (hk : k < 3) : w.cell? ⟨B, 18 + k, none⟩ = some (vs.getD k vNil) := (h.blk.cell _).trans (epCells_list _ _ _ h.p17 _ (by rw [h.v3]; exact hk))

theorem IsEp.setPin {w w' : World} {B : Nat} {vs : List Value} {e : Ep} (h : IsEp w B vs e) (s : Nat) (hs : s < 17) (x : Nat) (hx : x ≤ e.now) (hw : w' = w.setCell ⟨B, 1 + s, none⟩ (.int .i64 (x : Int))) : EpT w w' B (blocks B vs) (e.setPin s x) := by
  have ht : Tn [B] w w' := by rw [hw]; exact (Tn.refl _ _).setCell (.inl (by simp)) _
  refine ⟨blocks B vs, ⟨vs, rfl, ?_⟩, ht.mono (by simp [blocks]), fun b hb => .inl hb⟩
  exact {
    blk := by
      rw [hw]
      have := h.blk.set (1 + s) (.int .i64 (x : Int))
      rwa [epCells_setPin _ _ _ _ _ (by rw [h.p17]; exact hs)] at this
    p17 := by simp [Ep.setPin, h.p17]
    v3 := h.v3
    row := fun k hk => (h.row k hk).tn ht (fun b hb => by simpa using h.neB k b hk hb)
    ne := h.ne
    neB := h.neB
    n1 := h.n1
    ple := fun p hp => by
      rcases List.mem_or_eq_of_mem_set hp with hp | rfl
      · exact h.ple p hp
      · exact hx }

/-- Getting at a value of three by its place. -/
theorem getD_set {α : Type} (l : List α) (k j : Nat) (x d : α) (hk : k < l.length) : (l.set k x).getD j d = if j = k then x else l.getD j d := by
  by_cases h : j = k
  · subst h
    simp [List.getD, hk]
  · simp [List.getD, h, Ne.symm h]

end Go.Proofs.Ytbdcdiihaecheaa
