/- Disks: what a sector is in memory, what a map of sectors says, which blocks may have turned. -/
import Derived.Test.YtpggnejifpcnmaaMem
import Derived.Maps.Ext
import Derived.Maps.Range
import Derived.Lib.SlKeysI
namespace Go.Proofs.Ytpggnejifpcnmaa
open Go.RowKit Go.Maps
set_option linter.unusedVariables false

/-- A sector's bytes. -/
def Sec (xs : List Int) : Prop := xs.length = 512 ∧ ∀ y ∈ xs, 0 ≤ y ∧ y < 256

/-- A sector's cells. -/
def secCells (xs : List Int) : Array Value := (xs.map (Value.int .u8)).toArray
/-- A sector's value. -/
def secVal (xs : List Int) : Value := .agg (secCells xs)
/-- 512 noughts. -/
def zeros : List Int := List.replicate 512 0

theorem sec_zeros : Sec zeros := ⟨List.length_replicate, fun y hy => by have := List.eq_of_mem_replicate hy; omega⟩
theorem secCells_size (xs : List Int) : (secCells xs).size = xs.length := by simp [secCells]

/-- One byte's cell. -/
def isByte : Value → Bool
  | .int .u8 y => decide (0 ≤ y) && decide (y < 256)
  | _ => false

theorem isByte_inv {v : Value} (h : isByte v = true) : v = .int .u8 (RowKit.intOf v) ∧ 0 ≤ RowKit.intOf v ∧ RowKit.intOf v < 256 := by
  unfold isByte at h
  split at h
  · simp only [Bool.and_eq_true, decide_eq_true_eq] at h
    exact ⟨rfl, h⟩
  · cases h

/-- How a sector in a map reads. -/
def secElem : Value → Option (DataW (List Int) × List MemPlace)
  | .agg cs => if cs.toList.length = 512 ∧ cs.toList.all isByte = true then some (.held (cs.toList.map RowKit.intOf), []) else none
  | _ => none

theorem secCells_back (xs : List Int) : (secCells xs).toList.map RowKit.intOf = xs := by
  simp only [secCells, List.map_map]
  rw [show (RowKit.intOf ∘ Value.int IntKind.u8) = id from funext fun x => rfl, List.map_id]

theorem secElem_mk {xs : List Int} (h : Sec xs) : secElem (secVal xs) = some (.held xs, []) := by
  unfold secElem secVal
  simp only [secCells_back]
  rw [if_pos]
  refine ⟨by simpa [secCells] using h.1, ?_⟩
  rw [List.all_eq_true]
  intro v hv
  simp only [secCells, List.mem_map] at hv
  obtain ⟨y, hy, rfl⟩ := hv
  have := h.2 y hy
  simp [isByte, this]

theorem secElem_inv {v : Value} {z : DataW (List Int) × List MemPlace} (h : secElem v = some z) : ∃ xs, v = secVal xs ∧ z = (.held xs, []) ∧ Sec xs := by
  unfold secElem at h
  split at h
  · rename_i cs
    split at h
    · rename_i hc
      cases h
      have h1 := List.all_eq_true.1 hc.2
      refine ⟨_, ?_, rfl, by simpa using hc.1, ?_⟩
      · rw [secVal, secCells, List.map_map]
        congr 1
        apply Array.ext'
        simp only []
        conv => lhs; rw [← List.map_id cs.toList]
        refine List.map_congr_left fun v hv => ?_
        exact (isByte_inv (h1 v hv)).1
      · intro y hy
        simp only [List.mem_map] at hy
        obtain ⟨v, hv, rfl⟩ := hy
        exact (isByte_inv (h1 v hv)).2
    · cases h
  · cases h

/-- What a map says: the sectors that f has below n, in their order. -/
def ents (f : Nat → Option (List Int)) (n : Nat) : List (Lit × DataW (List Int)) := (List.range n).filterMap fun i => (f i).map fun x => (Lit.int .i64 (i : Int), DataW.held x)
def datum (f : Nat → Option (List Int)) (n : Nat) : DataW (List Int) := .map (ents f n)

theorem mem_ents {f : Nat → Option (List Int)} {n : Nat} {p : Lit × DataW (List Int)} : p ∈ ents f n ↔ ∃ i x, i < n ∧ f i = some x ∧ p = (Lit.int .i64 (i : Int), DataW.held x) := by
  simp only [ents, List.mem_filterMap, List.mem_range, Option.map_eq_some_iff]
  constructor
  · rintro ⟨i, hi, x, hx, rfl⟩; exact ⟨i, x, hi, hx, rfl⟩
  · rintro ⟨i, x, hi, hx, rfl⟩; exact ⟨i, hi, x, hx, rfl⟩

theorem ents_rising (f : Nat → Option (List Int)) (n : Nat) : (ents f n).Pairwise (fun p q => p.1.before q.1 = true) := by
  unfold ents
  rw [List.pairwise_filterMap]
  refine List.Pairwise.imp ?_ List.pairwise_lt_range
  intro a b hab p hp q hq
  simp only [Option.map_eq_some_iff] at hp hq
  obtain ⟨x, _, rfl⟩ := hp
  obtain ⟨y, _, rfl⟩ := hq
  simp [Lit.before]
  omega

theorem canon_datum (f : Nat → Option (List Int)) (n : Nat) : Canon (datum f n) :=
  ⟨_, rfl, ents_rising f n, fun p hp => by obtain ⟨i, x, _, _, rfl⟩ := mem_ents.1 hp; trivial⟩

theorem sameKey_int (a b : Int) : (Lit.int .i64 a).sameKey (Lit.int .i64 b) = decide (a = b) := by simp [Lit.sameKey]

theorem has_datum (f : Nat → Option (List Int)) (n : Nat) (k : Lit) : Maps.has (datum f n) k = true ↔ ∃ i : Nat, i < n ∧ (f i).isSome = true ∧ (Lit.int .i64 (i : Int)).sameKey k = true := by
  rw [datum, Maps.has_eq, List.any_eq_true]
  constructor
  · rintro ⟨p, hp, hk⟩
    obtain ⟨i, x, hi, hx, rfl⟩ := mem_ents.1 hp
    exact ⟨i, hi, by simp [hx], hk⟩
  · rintro ⟨i, hi, hx, hk⟩
    obtain ⟨x, hx⟩ := Option.isSome_iff_exists.1 hx
    exact ⟨_, mem_ents.2 ⟨i, x, hi, hx, rfl⟩, hk⟩

theorem has_datum_nat (f : Nat → Option (List Int)) (n i : Nat) (hi : i < n) : Maps.has (datum f n) (.int .i64 (i : Int)) = (f i).isSome := by
  cases h : (f i).isSome with
  | true => exact (has_datum f n _).2 ⟨i, hi, h, by simp [sameKey_int]⟩
  | false =>
    rw [Bool.eq_false_iff]
    intro hh
    obtain ⟨j, _, hj, hk⟩ := (has_datum f n _).1 hh
    simp [sameKey_int] at hk
    obtain rfl : j = i := by omega
    rw [h] at hj
    cases hj

theorem at_datum (f : Nat → Option (List Int)) (n i : Nat) (x : List Int) (hi : i < n) (hx : f i = some x) (z : DataW (List Int)) : (datum f n).atKey (.int .i64 (i : Int)) z = .held x := by
  unfold datum DataW.atKey
  have hs : ∃ p, (ents f n).find? (fun p => p.1.sameKey (.int .i64 (i : Int))) = some p := by
    rw [← Option.isSome_iff_exists, List.find?_isSome]
    exact ⟨_, mem_ents.2 ⟨i, x, hi, hx, rfl⟩, by simp [sameKey_int]⟩
  obtain ⟨p, hp⟩ := hs
  simp only [hp]
  have hm := List.mem_of_find?_eq_some hp
  have hk := List.find?_some hp
  obtain ⟨j, y, _, hy, rfl⟩ := mem_ents.1 hm
  simp [sameKey_int] at hk
  obtain rfl : j = i := by omega
  rw [hx] at hy
  cases hy
  rfl

/-- f with x at i. -/
def upd (f : Nat → Option (List Int)) (i : Nat) (x : List Int) : Nat → Option (List Int) := fun j => if j = i then some x else f j

theorem ne_of_not_same {i : Nat} {k : Lit} (h : k ≠ .int .i64 (i : Int)) : (Lit.int .i64 (i : Int)).sameKey k = false := Maps.sameKey_ne (fun e => h e.symm)

theorem put_canon {f : Nat → Option (List Int)} {n i : Nat} {x : List Int} (hi : i < n) (hc : Canon ((datum f n).put (.int .i64 (i : Int)) (.held x))) : (datum f n).put (.int .i64 (i : Int)) (.held x) = datum (upd f i x) n := by
  have hm : IsMap (datum f n) := ⟨_, rfl⟩
  have hk : WideAt.IsKeyLit (.int .i64 (i : Int)) := trivial
  refine Maps.ext hc (canon_datum _ _) ?_ ?_
  · intro k
    by_cases he : k = .int .i64 (i : Int)
    · subst he
      rw [Maps.has_put_same hm hk, has_datum_nat _ _ _ hi]
      simp [upd]
    · rw [Maps.has_put_other he]
      rw [Bool.eq_iff_iff, has_datum, has_datum]
      constructor
      · rintro ⟨j, hj, hs, hsk⟩
        refine ⟨j, hj, ?_, hsk⟩
        unfold upd
        split
        · rfl
        · exact hs
      · rintro ⟨j, hj, hs, hsk⟩
        refine ⟨j, hj, ?_, hsk⟩
        unfold upd at hs
        split at hs
        · rename_i hji
          subst hji
          rw [ne_of_not_same he] at hsk
          cases hsk
        · exact hs
  · intro k z hh
    by_cases he : k = .int .i64 (i : Int)
    · subst he
      rw [Maps.atKey_put_same hm hk, at_datum (upd f i x) n i x hi (by simp [upd])]
    · rw [Maps.has_put_other he] at hh
      rw [Maps.atKey_put_other he]
      obtain ⟨j, hj, hs, hsk⟩ := (has_datum f n k).1 hh
      obtain rfl : k = .int .i64 (j : Int) := by
        apply Classical.byContradiction
        intro hne
        rw [ne_of_not_same hne] at hsk
        cases hsk
      obtain ⟨y, hy⟩ := Option.isSome_iff_exists.1 hs
      have hji : j ≠ i := fun e => he (by rw [e])
      rw [at_datum f n j y hj hy, at_datum (upd f i x) n j y hj (by simp [upd, hji, hy])]

theorem length_filterMap_le' {α β : Type} (g : α → Option β) (l : List α) : (l.filterMap g).length ≤ l.length := List.length_filterMap_le g l

theorem size_datum (f : Nat → Option (List Int)) (n : Nat) : Maps.size (datum f n) ≤ n := by
  have := List.length_filterMap_le (fun i => (f i).map fun x => (Lit.int .i64 (i : Int), DataW.held x)) (List.range n)
  simpa [datum, Maps.size, ents] using this

/-- A map of so many sectors. -/
theorem owns_bound {w : World} {b m n : Nat} {f : Nat → Option (List Int)} (h : w.ownsMap Try.prog 3 secElem b m (datum f n)) : w.ownsMap Try.prog 3 secElem b n (datum f n) := by
  obtain ⟨es, clock, hb, F, hs, hD⟩ := h
  refine ⟨es, clock, hb, F, ?_, hD⟩
  have h1 := size_datum f n
  rw [hD, Maps.size_eq, length_sorted] at h1
  simpa using h1

/-- The dirty ones, rising. -/
def dirts (f : Nat → Option (List Int)) (n : Nat) : List Nat := (List.range n).filter fun i => (f i).isSome

theorem intKeys_datum (f : Nat → Option (List Int)) (n : Nat) : intKeys (datum f n) = (dirts f n).map (fun (i : Nat) => (i : Int)) := by
  unfold datum intKeys ents dirts
  simp only [List.map_filterMap]
  induction List.range n with
  | nil => rfl
  | cons a l ih =>
    simp only [List.filterMap_cons, List.filter_cons]
    cases h : f a with
    | none => simpa [h] using ih
    | some x => simpa [h, Go.intOf] using ih

end Go.Proofs.Ytpggnejifpcnmaa
