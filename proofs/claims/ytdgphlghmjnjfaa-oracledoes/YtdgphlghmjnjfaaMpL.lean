/- A map by numbers of 64 bits, for whatever elements: what it says (free of any package). -/
import Derived.Test.YtdgphlghmjnjfaaApA
import Derived.Maps.Ext
import Derived.Maps.OwnSet
namespace Go.Proofs.Ytdgphlghmjnjfaa
open Go.RowKit Go.Maps
set_option linter.unusedVariables false
set_option maxRecDepth 100000

section
variable {α : Type}
/-- What a map says: what f has below n, in their order. -/
def ents (f : Nat → Option α) (n : Nat) : List (Lit × DataW α) := (List.range n).filterMap fun i => (f i).map fun x => (Lit.int .i64 (i : Int), DataW.held x)
def datum (f : Nat → Option α) (n : Nat) : DataW α := .map (ents f n)

theorem mem_ents {f : Nat → Option α} {n : Nat} {p : Lit × DataW α} : p ∈ ents f n ↔ ∃ i x, i < n ∧ f i = some x ∧ p = (Lit.int .i64 (i : Int), DataW.held x) := by
  simp only [ents, List.mem_filterMap, List.mem_range, Option.map_eq_some_iff]
  constructor
  · rintro ⟨i, hi, x, hx, rfl⟩; exact ⟨i, x, hi, hx, rfl⟩
  · rintro ⟨i, x, hi, hx, rfl⟩; exact ⟨i, hi, x, hx, rfl⟩

theorem ents_rising (f : Nat → Option α) (n : Nat) : (ents f n).Pairwise (fun p q => p.1.before q.1 = true) := by
  unfold ents
  rw [List.pairwise_filterMap]
  refine List.Pairwise.imp ?_ List.pairwise_lt_range
  intro a b hab p hp q hq
  simp only [Option.map_eq_some_iff] at hp hq
  obtain ⟨x, _, rfl⟩ := hp
  obtain ⟨y, _, rfl⟩ := hq
  simp [Lit.before]
  omega

theorem canon_datum (f : Nat → Option α) (n : Nat) : Canon (datum f n) :=
  ⟨_, rfl, ents_rising f n, fun p hp => by obtain ⟨i, x, _, _, rfl⟩ := mem_ents.1 hp; trivial⟩

theorem sameKey_int (a b : Int) : (Lit.int .i64 a).sameKey (Lit.int .i64 b) = decide (a = b) := by simp [Lit.sameKey]

theorem has_datum (f : Nat → Option α) (n : Nat) (k : Lit) : Maps.has (datum f n) k = true ↔ ∃ i : Nat, i < n ∧ (f i).isSome = true ∧ (Lit.int .i64 (i : Int)).sameKey k = true := by
  rw [datum, Maps.has_eq, List.any_eq_true]
  constructor
  · rintro ⟨p, hp, hk⟩
    obtain ⟨i, x, hi, hx, rfl⟩ := mem_ents.1 hp
    exact ⟨i, hi, by simp [hx], hk⟩
  · rintro ⟨i, hi, hx, hk⟩
    obtain ⟨x, hx⟩ := Option.isSome_iff_exists.1 hx
    exact ⟨_, mem_ents.2 ⟨i, x, hi, hx, rfl⟩, hk⟩

theorem has_datum_nat (f : Nat → Option α) (n i : Nat) (hi : i < n) : Maps.has (datum f n) (.int .i64 (i : Int)) = (f i).isSome := by
  cases h : (f i).isSome with
  | true => exact (has_datum f n _).2 ⟨i, hi, h, by simp [sameKey_int]⟩
  | false =>
    rw [Bool.eq_false_iff]
    intro hh
    obtain ⟨j, _, hj, hk⟩ := (has_datum f n _).1 hh
    simp [sameKey_int] at hk
    obtain rfl : j = i := by omega
    rw [h] at hj
    cases hj

theorem at_datum (f : Nat → Option α) (n i : Nat) (x : α) (hi : i < n) (hx : f i = some x) (z : DataW α) : (datum f n).atKey (.int .i64 (i : Int)) z = .held x := by
  unfold datum DataW.atKey
  have hs : ∃ p, (ents f n).find? (fun p => p.1.sameKey (.int .i64 (i : Int))) = some p := by
    rw [← Option.isSome_iff_exists, List.find?_isSome]
    exact ⟨_, mem_ents.2 ⟨i, x, hi, hx, rfl⟩, by simp [sameKey_int]⟩
  obtain ⟨p, hp⟩ := hs
  simp only [hp]
  have hm := List.mem_of_find?_eq_some hp
  have hk := List.find?_some hp
  obtain ⟨j, y, _, hy, rfl⟩ := mem_ents.1 hm
  simp [sameKey_int] at hk
  obtain rfl : j = i := by omega
  rw [hx] at hy
  cases hy
  rfl

/-- f with x at i. -/
def upd (f : Nat → Option α) (i : Nat) (x : α) : Nat → Option α := fun j => if j = i then some x else f j

theorem ne_of_not_same {i : Nat} {k : Lit} (h : k ≠ .int .i64 (i : Int)) : (Lit.int .i64 (i : Int)).sameKey k = false := Maps.sameKey_ne (fun e => h e.symm)

theorem put_canon {f : Nat → Option α} {n i : Nat} {x : α} (hi : i < n) (hc : Canon ((datum f n).put (.int .i64 (i : Int)) (.held x))) : (datum f n).put (.int .i64 (i : Int)) (.held x) = datum (upd f i x) n := by
  have hm : IsMap (datum f n) := ⟨_, rfl⟩
  have hk : WideAt.IsKeyLit (.int .i64 (i : Int)) := trivial
  refine Maps.ext hc (canon_datum _ _) ?_ ?_
  · intro k
    by_cases he : k = .int .i64 (i : Int)
    · subst he
      rw [Maps.has_put_same hm hk, has_datum_nat _ _ _ hi]
      simp [upd]
    · rw [Maps.has_put_other he]
      rw [Bool.eq_iff_iff, has_datum, has_datum]
      constructor
      · rintro ⟨j, hj, hs, hsk⟩
        refine ⟨j, hj, ?_, hsk⟩
        unfold upd
        split
        · rfl
        · exact hs
      · rintro ⟨j, hj, hs, hsk⟩
        refine ⟨j, hj, ?_, hsk⟩
        unfold upd at hs
        split at hs
        · rename_i hji
          subst hji
          rw [ne_of_not_same he] at hsk
          cases hsk
        · exact hs
  · intro k z hh
    by_cases he : k = .int .i64 (i : Int)
    · subst he
      rw [Maps.atKey_put_same hm hk, at_datum (upd f i x) n i x hi (by simp [upd])]
    · rw [Maps.has_put_other he] at hh
      rw [Maps.atKey_put_other he]
      obtain ⟨j, hj, hs, hsk⟩ := (has_datum f n k).1 hh
      obtain rfl : k = .int .i64 (j : Int) := by
        apply Classical.byContradiction
        intro hne
        rw [ne_of_not_same hne] at hsk
        cases hsk
      obtain ⟨y, hy⟩ := Option.isSome_iff_exists.1 hs
      have hji : j ≠ i := fun e => he (by rw [e])
      rw [at_datum f n j y hj hy, at_datum (upd f i x) n j y hj (by simp [upd, hji, hy])]

theorem length_filterMap_le' {α β : Type} (g : α → Option β) (l : List α) : (l.filterMap g).length ≤ l.length := List.length_filterMap_le g l

theorem size_datum (f : Nat → Option α) (n : Nat) : Maps.size (datum f n) ≤ n := by
  have := List.length_filterMap_le (fun i => (f i).map fun x => (Lit.int .i64 (i : Int), DataW.held x)) (List.range n)
  simpa [datum, Maps.size, ents] using this

theorem datum_none (n : Nat) : datum (fun _ => (none : Option α)) n = .map [] := by
  have : ents (fun _ => (none : Option α)) n = [] := by
    unfold ents
    rw [List.filterMap_eq_nil_iff]
    intro a _
    rfl
  rw [datum, this]


/-- What a map has at whatever number. -/
def getI (f : Nat → Option α) (n : Nat) (q : Int) : Option α := if 0 ≤ q ∧ q < (n : Int) then f q.toNat else none
theorem getI_nat (f : Nat → Option α) (n i : Nat) (hi : i < n) : getI f n (i : Int) = f i := by
  unfold getI
  rw [if_pos (by omega)]
  simp
theorem getI_out {f : Nat → Option α} {n : Nat} {q : Int} (h : ¬ (0 ≤ q ∧ q < (n : Int))) : getI f n q = none := by
  unfold getI
  rw [if_neg h]

theorem has_int (f : Nat → Option α) (n : Nat) (q : Int) : Maps.has (datum f n) (.int .i64 q) = (getI f n q).isSome := by
  by_cases h : 0 ≤ q ∧ q < (n : Int)
  · obtain ⟨i, rfl⟩ : ∃ i : Nat, q = (i : Int) := ⟨q.toNat, by omega⟩
    rw [has_datum_nat f n i (by omega), getI_nat f n i (by omega)]
  · rw [getI_out h, Option.isSome_none, Bool.eq_false_iff]
    intro hh
    obtain ⟨j, hj, _, hk⟩ := (has_datum f n _).1 hh
    simp [sameKey_int] at hk
    omega

theorem at_int (f : Nat → Option α) (n : Nat) (q : Int) (z : α) : (datum f n).atKey (.int .i64 q) (.held z) = .held ((getI f n q).getD z) := by
  cases hg : getI f n q with
  | none =>
    refine Maps.atKey_of_not_has ?_ _
    rw [has_int, hg]
    rfl
  | some x =>
    have hb : 0 ≤ q ∧ q < (n : Int) := by
      apply Classical.byContradiction
      intro h
      rw [getI_out h] at hg
      cases hg
    obtain ⟨i, rfl⟩ : ∃ i : Nat, q = (i : Int) := ⟨q.toNat, by omega⟩
    rw [getI_nat f n i (by omega)] at hg
    rw [at_datum f n i x (by omega) hg]
    rfl

/-- f without q. -/
def rid (f : Nat → Option α) (q : Int) : Nat → Option α := fun j => if (j : Int) = q then none else f j

theorem del_canon {f : Nat → Option α} {n : Nat} {q : Int} (hc : Canon ((datum f n).del (.int .i64 q))) : (datum f n).del (.int .i64 q) = datum (rid f q) n := by
  refine Maps.ext hc (canon_datum _ _) ?_ ?_
  · intro k
    by_cases he : k = .int .i64 q
    · subst he
      rw [Maps.has_del_same, has_int]
      unfold getI rid
      split
      · rename_i h
        rw [if_pos (by omega)]
        rfl
      · rfl
    · rw [Maps.has_del_other he]
      rw [Bool.eq_iff_iff, has_datum, has_datum]
      constructor
      · rintro ⟨j, hj, hs, hsk⟩
        refine ⟨j, hj, ?_, hsk⟩
        unfold rid
        split
        · rename_i hji
          subst hji
          rw [ne_of_not_same he] at hsk
          cases hsk
        · exact hs
      · rintro ⟨j, hj, hs, hsk⟩
        refine ⟨j, hj, ?_, hsk⟩
        unfold rid at hs
        split at hs
        · cases hs
        · exact hs
  · intro k z hh
    by_cases he : k = .int .i64 q
    · subst he
      rw [Maps.has_del_same] at hh
      cases hh
    · rw [Maps.has_del_other he] at hh
      rw [Maps.atKey_del_other he]
      obtain ⟨j, hj, hs, hsk⟩ := (has_datum f n k).1 hh
      obtain rfl : k = .int .i64 (j : Int) := by
        apply Classical.byContradiction
        intro hne
        rw [ne_of_not_same hne] at hsk
        cases hsk
      obtain ⟨y, hy⟩ := Option.isSome_iff_exists.1 hs
      have hji : ¬ (j : Int) = q := fun e => he (by rw [e])
      rw [at_datum f n j y hj hy, at_datum (rid f q) n j y hj (by simp [rid, hji, hy])]

/-- How what it holds reads. -/
structure Reads (R : Value → Option (DataW α × List MemPlace)) (val : α → Value) : Prop where
  can : ∀ x, R (val x) = some (.held x, [])
  inv : ∀ v z, R v = some z → ∃ x, v = val x ∧ z = (.held x, [])

theorem int_law : Keyed Try.prog 2 := int_keyed Try.underlying2

theorem turned_tn {w w' : World} {M : Nat} (h : w.mapTurned w' M) : Tn [M] w w' := grown_tn h.grown

/-- The map in memory. -/
def Mp (R : Value → Option (DataW α × List MemPlace)) (w : World) (M n : Nat) (f : Nat → Option α) : Prop := w.ownsMap Try.prog 2 R M n (datum f n)

section
variable {R : Value → Option (DataW α × List MemPlace)} {val : α → Value} {w w' : World} {M n : Nat} {f : Nat → Option α}
theorem Mp.tn {S : List Nat} (h : Mp R w M n f) (k : Tn S w w') (hM : M ∉ S) : Mp R w' M n f := by
  obtain ⟨es, clock, hb, F, hs, hD⟩ := h
  exact ⟨es, clock, (k.block M (Array.getElem?_eq_some_iff.1 hb).1 hM).trans hb, F, hs, hD⟩
theorem Mp.below (h : Mp R w M n f) (hb : Below w.heap.size w w') : Mp R w' M n f := h.tn (Tn.of_below hb []) (by simp)
theorem Mp.lt (h : Mp R w M n f) : M < w.heap.size := World.ownsMap.lt h
theorem Mp.new (R : Value → Option (DataW α × List MemPlace)) (w : World) (n : Nat) : Mp R (w.alloc (.map #[] 0)) w.heap.size n (fun _ => none) := by
  unfold Mp
  rw [datum_none]
  exact (World.ownsMap_made w Try.prog 2 R).mono (Nat.zero_le _)
theorem Mp.block (h : Mp R w M n f) : ∃ es clock, w.heap[M]? = some (.map es clock) := by
  obtain ⟨es, clock, hb, -⟩ := h
  exact ⟨es, clock, hb⟩

theorem Mp.bound {m : Nat} (h : w.ownsMap Try.prog 2 R M m (datum f n)) : Mp R w M n f := by
  obtain ⟨es, clock, hb, F, hs, hD⟩ := h
  refine ⟨es, clock, hb, F, ?_, hD⟩
  have h1 := size_datum f n
  rw [hD, Maps.size_eq, length_sorted] at h1
  simpa using h1

variable {t e : TypeId}
theorem Mp.look (h : Mp R w M n f) (hR : Reads R val) (ht : Try.prog.underlying t = some (.map 2 e)) {z : α} (hz : (zeroValue e).run Try.prog w = .ok (val z) w) (q : Int) (hq : (Lit.int .i64 q).wf = true) :
    (Instr.lookup t (.map (some M)) (.int .i64 q) true).run Try.prog w = .ok (.tuple #[val ((getI f n q).getD z), .bool (getI f n q).isSome]) w := by
  obtain ⟨v, ps, h1, h2⟩ := World.ownsMap.look_ok h int_law ht hz (hR.can z) (keyOf_int_mk Try.underlying2 hq)
  rw [at_int] at h2
  obtain ⟨x, rfl, hx⟩ := hR.inv _ _ h2
  simp only [Prod.mk.injEq, DataW.held.injEq] at hx
  rw [h1, has_int, hx.1]
theorem Mp.look1 (h : Mp R w M n f) (hR : Reads R val) (ht : Try.prog.underlying t = some (.map 2 e)) {z : α} (hz : (zeroValue e).run Try.prog w = .ok (val z) w) (q : Int) (hq : (Lit.int .i64 q).wf = true) :
    (Instr.lookup t (.map (some M)) (.int .i64 q) false).run Try.prog w = .ok (val ((getI f n q).getD z)) w := by
  obtain ⟨v, ps, h1, h2⟩ := World.ownsMap.lookup h int_law ht hz (hR.can z) (keyOf_int_mk Try.underlying2 hq)
  rw [at_int] at h2
  obtain ⟨x, rfl, hx⟩ := hR.inv _ _ h2
  simp only [Prod.mk.injEq, DataW.held.injEq] at hx
  rw [h1, hx.1]
theorem Mp.len (h : Mp R w M n f) (ht : Try.prog.underlying t = some (.map 2 e)) (ty : TypeId) : (Builtin.len_ #[t] ty #[.map (some M)]).run Try.prog w = .ok (.int .i64 (((ents f n).length : Nat) : Int)) w := by
  have := World.ownsMap.len h ht ty
  rw [this]
  rfl
theorem Mp.put (h : Mp R w M n f) (hR : Reads R val) (ht : Try.prog.underlying t = some (.map 2 e)) (i : Nat) (hi : i < n) (hn : n ≤ 4611686018427387904) (x : α) :
    ∃ w', (Instr.mapUpdate t (.map (some M)) (.int .i64 (i : Int)) (val x)).run Try.prog w = .ok () w' ∧ Mp R w' M n (upd f i x) ∧ Tn [M] w w' := by
  obtain ⟨w', h1, h2, h3⟩ := World.ownsMap.store h int_law ht (by unfold maxLen; omega) (keyOf_int_mk Try.underlying2 (show (Lit.int .i64 (i : Int)).wf = true from WalkArith.wf_i64 (by omega))) (hR.can x)
  have hc := h2.canon int_law
  rw [put_canon hi hc] at h2
  exact ⟨w', h1, Mp.bound h2, turned_tn h3⟩
theorem Mp.del (h : Mp R w M n f) (ht : Try.prog.underlying t = some (.map 2 e)) (q : Int) (hq : (Lit.int .i64 q).wf = true) (ty : TypeId) :
    ∃ w', (Builtin.delete_ #[t, 2] ty #[.map (some M), .int .i64 q]).run Try.prog w = .ok (.tuple #[]) w' ∧ Mp R w' M n (rid f q) ∧ Tn [M] w w' := by
  obtain ⟨w', h1, h2, h3⟩ := World.ownsMap.drop h int_law ht (keyOf_int_mk Try.underlying2 hq) ty
  have hc := h2.canon int_law
  rw [del_canon hc] at h2
  exact ⟨w', h1, h2, turned_tn h3⟩
end
end

end Go.Proofs.Ytdgphlghmjnjfaa
