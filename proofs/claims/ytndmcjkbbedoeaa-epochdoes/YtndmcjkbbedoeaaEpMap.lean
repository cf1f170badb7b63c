/- A map from numbers to what each session had: what it says. -/
import Derived.Test.YtndmcjkbbedoeaaEpEn
import Derived.Maps.Ext
import Derived.Maps.OwnSet
namespace Go.Proofs.Ytndmcjkbbedoeaa
open Go.RowKit Go.Maps
set_option linter.unusedVariables false
set_option maxRecDepth 100000

/-- Seventeen numbers as cells, and as a value. -/
def pinCells (xs : List Int) : Array Value := (xs.map (Value.int .i64)).toArray
def pinVal (xs : List Int) : Value := .agg (pinCells xs)

def isI64 : Value → Bool
  | .int .i64 _ => true
  | _ => false

theorem isI64_inv {v : Value} (h : isI64 v = true) : v = .int .i64 (RowKit.intOf v) := by
  unfold isI64 at h
  split at h
  · rfl
  · cases h

/-- How they read in a map. -/
def pinElem : Value → Option (DataW (List Int) × List MemPlace)
  | .agg cs => if cs.toList.length = 17 ∧ cs.toList.all isI64 = true then some (.held (cs.toList.map RowKit.intOf), []) else none
  | _ => none

theorem pinCells_back (xs : List Int) : (pinCells xs).toList.map RowKit.intOf = xs := by
  simp only [pinCells, List.map_map]
  rw [show (RowKit.intOf ∘ Value.int IntKind.i64) = id from funext fun x => rfl, List.map_id]

theorem pinElem_mk {xs : List Int} (h : xs.length = 17) : pinElem (pinVal xs) = some (.held xs, []) := by
  unfold pinElem pinVal
  simp only [pinCells_back]
  rw [if_pos]
  refine ⟨by simpa [pinCells] using h, ?_⟩
  rw [List.all_eq_true]
  intro v hv
  simp only [pinCells, List.mem_map] at hv
  obtain ⟨y, hy, rfl⟩ := hv
  rfl

theorem pinElem_inv {v : Value} {z : DataW (List Int) × List MemPlace} (h : pinElem v = some z) : ∃ xs, v = pinVal xs ∧ z = (.held xs, []) ∧ xs.length = 17 := by
  unfold pinElem at h
  split at h
  · rename_i cs
    split at h
    · rename_i hc
      cases h
      have h1 := List.all_eq_true.1 hc.2
      refine ⟨_, ?_, rfl, by simpa using hc.1⟩
      rw [pinVal, pinCells, List.map_map]
      congr 1
      apply Array.ext'
      simp only []
      conv => lhs; rw [← List.map_id cs.toList]
      refine List.map_congr_left fun v hv => ?_
      exact isI64_inv (h1 v hv)
    · cases h
  · cases h

/-- What a map says: what f has below n, in their order. -/
def ents (f : Nat → Option (List Int)) (n : Nat) : List (Lit × DataW (List Int)) := (List.range n).filterMap fun i => (f i).map fun x => (Lit.int .i64 (i : Int), DataW.held x)
def datum (f : Nat → Option (List Int)) (n : Nat) : DataW (List Int) := .map (ents f n)

theorem mem_ents {f : Nat → Option (List Int)} {n : Nat} {p : Lit × DataW (List Int)} : p ∈ ents f n ↔ ∃ i x, i < n ∧ f i = some x ∧ p = (Lit.int .i64 (i : Int), DataW.held x) := by
  simp only [ents, List.mem_filterMap, List.mem_range, Option.map_eq_some_iff]
  constructor
  · rintro ⟨i, hi, x, hx, rfl⟩; exact ⟨i, x, hi, hx, rfl⟩
  · rintro ⟨i, x, hi, hx, rfl⟩; exact ⟨i, hi, x, hx, rfl⟩

theorem ents_rising (f : Nat → Option (List Int)) (n : Nat) : (ents f n).Pairwise (fun p q => p.1.before q.1 = true) := by
  unfold ents
  rw [List.pairwise_filterMap]
  refine List.Pairwise.imp ?_ List.pairwise_lt_range
  intro a b hab p hp q hq
  simp only [Option.map_eq_some_iff] at hp hq
  obtain ⟨x, _, rfl⟩ := hp
  obtain ⟨y, _, rfl⟩ := hq
  simp [Lit.before]
  omega

theorem canon_datum (f : Nat → Option (List Int)) (n : Nat) : Canon (datum f n) :=
  ⟨_, rfl, ents_rising f n, fun p hp => by obtain ⟨i, x, _, _, rfl⟩ := mem_ents.1 hp; trivial⟩

theorem sameKey_int (a b : Int) : (Lit.int .i64 a).sameKey (Lit.int .i64 b) = decide (a = b) := by simp [Lit.sameKey]

theorem has_datum (f : Nat → Option (List Int)) (n : Nat) (k : Lit) : Maps.has (datum f n) k = true ↔ ∃ i : Nat, i < n ∧ (f i).isSome = true ∧ (Lit.int .i64 (i : Int)).sameKey k = true := by
  rw [datum, Maps.has_eq, List.any_eq_true]
  constructor
  · rintro ⟨p, hp, hk⟩
    obtain ⟨i, x, hi, hx, rfl⟩ := mem_ents.1 hp
    exact ⟨i, hi, by simp [hx], hk⟩
  · rintro ⟨i, hi, hx, hk⟩
    obtain ⟨x, hx⟩ := Option.isSome_iff_exists.1 hx
    exact ⟨_, mem_ents.2 ⟨i, x, hi, hx, rfl⟩, hk⟩

theorem has_datum_nat (f : Nat → Option (List Int)) (n i : Nat) (hi : i < n) : Maps.has (datum f n) (.int .i64 (i : Int)) = (f i).isSome := by
  cases h : (f i).isSome with
  | true => exact (has_datum f n _).2 ⟨i, hi, h, by simp [sameKey_int]⟩
  | false =>
    rw [Bool.eq_false_iff]
    intro hh
    obtain ⟨j, _, hj, hk⟩ := (has_datum f n _).1 hh
    simp [sameKey_int] at hk
    obtain rfl : j = i := by omega
    rw [h] at hj
    cases hj

theorem at_datum (f : Nat → Option (List Int)) (n i : Nat) (x : List Int) (hi : i < n) (hx : f i = some x) (z : DataW (List Int)) : (datum f n).atKey (.int .i64 (i : Int)) z = .held x := by
  unfold datum DataW.atKey
  have hs : ∃ p, (ents f n).find? (fun p => p.1.sameKey (.int .i64 (i : Int))) = some p := by
    rw [← Option.isSome_iff_exists, List.find?_isSome]
    exact ⟨_, mem_ents.2 ⟨i, x, hi, hx, rfl⟩, by simp [sameKey_int]⟩
  obtain ⟨p, hp⟩ := hs
  simp only [hp]
  have hm := List.mem_of_find?_eq_some hp
  have hk := List.find?_some hp
  obtain ⟨j, y, _, hy, rfl⟩ := mem_ents.1 hm
  simp [sameKey_int] at hk
  obtain rfl : j = i := by omega
  rw [hx] at hy
  cases hy
  rfl

/-- f with x at i. -/
def upd (f : Nat → Option (List Int)) (i : Nat) (x : List Int) : Nat → Option (List Int) := fun j => if j = i then some x else f j

theorem ne_of_not_same {i : Nat} {k : Lit} (h : k ≠ .int .i64 (i : Int)) : (Lit.int .i64 (i : Int)).sameKey k = false := Maps.sameKey_ne (fun e => h e.symm)

theorem put_canon {f : Nat → Option (List Int)} {n i : Nat} {x : List Int} (hi : i < n) (hc : Canon ((datum f n).put (.int .i64 (i : Int)) (.held x))) : (datum f n).put (.int .i64 (i : Int)) (.held x) = datum (upd f i x) n := by
  have hm : IsMap (datum f n) := ⟨_, rfl⟩
  have hk : WideAt.IsKeyLit (.int .i64 (i : Int)) := trivial
  refine Maps.ext hc (canon_datum _ _) ?_ ?_
  · intro k
    by_cases he : k = .int .i64 (i : Int)
    · subst he
      rw [Maps.has_put_same hm hk, has_datum_nat _ _ _ hi]
      simp [upd]
    · rw [Maps.has_put_other he]
      rw [Bool.eq_iff_iff, has_datum, has_datum]
      constructor
      · rintro ⟨j, hj, hs, hsk⟩
        refine ⟨j, hj, ?_, hsk⟩
        unfold upd
        split
        · rfl
        · exact hs
      · rintro ⟨j, hj, hs, hsk⟩
        refine ⟨j, hj, ?_, hsk⟩
        unfold upd at hs
        split at hs
        · rename_i hji
          subst hji
          rw [ne_of_not_same he] at hsk
          cases hsk
        · exact hs
  · intro k z hh
    by_cases he : k = .int .i64 (i : Int)
    · subst he
      rw [Maps.atKey_put_same hm hk, at_datum (upd f i x) n i x hi (by simp [upd])]
    · rw [Maps.has_put_other he] at hh
      rw [Maps.atKey_put_other he]
      obtain ⟨j, hj, hs, hsk⟩ := (has_datum f n k).1 hh
      obtain rfl : k = .int .i64 (j : Int) := by
        apply Classical.byContradiction
        intro hne
        rw [ne_of_not_same hne] at hsk
        cases hsk
      obtain ⟨y, hy⟩ := Option.isSome_iff_exists.1 hs
      have hji : j ≠ i := fun e => he (by rw [e])
      rw [at_datum f n j y hj hy, at_datum (upd f i x) n j y hj (by simp [upd, hji, hy])]

theorem length_filterMap_le' {α β : Type} (g : α → Option β) (l : List α) : (l.filterMap g).length ≤ l.length := List.length_filterMap_le g l

theorem size_datum (f : Nat → Option (List Int)) (n : Nat) : Maps.size (datum f n) ≤ n := by
  have := List.length_filterMap_le (fun i => (f i).map fun x => (Lit.int .i64 (i : Int), DataW.held x)) (List.range n)
  simpa [datum, Maps.size, ents] using this

/-- A map of so many. -/
theorem owns_bound {w : World} {b m n : Nat} {f : Nat → Option (List Int)} (h : w.ownsMap Try.prog 3 pinElem b m (datum f n)) : w.ownsMap Try.prog 3 pinElem b n (datum f n) := by
  obtain ⟨es, clock, hb, F, hs, hD⟩ := h
  refine ⟨es, clock, hb, F, ?_, hD⟩
  have h1 := size_datum f n
  rw [hD, Maps.size_eq, length_sorted] at h1
  simpa using h1

/-- f without i. -/
def rid (f : Nat → Option (List Int)) (i : Nat) : Nat → Option (List Int) := fun j => if j = i then none else f j

theorem del_canon {f : Nat → Option (List Int)} {n i : Nat} (hi : i < n) (hc : Canon ((datum f n).del (.int .i64 (i : Int)))) : (datum f n).del (.int .i64 (i : Int)) = datum (rid f i) n := by
  have hm : IsMap (datum f n) := ⟨_, rfl⟩
  have hk : WideAt.IsKeyLit (.int .i64 (i : Int)) := trivial
  refine Maps.ext hc (canon_datum _ _) ?_ ?_
  · intro k
    by_cases he : k = .int .i64 (i : Int)
    · subst he
      rw [Maps.has_del_same, has_datum_nat _ _ _ hi]
      simp [rid]
    · rw [Maps.has_del_other he]
      rw [Bool.eq_iff_iff, has_datum, has_datum]
      constructor
      · rintro ⟨j, hj, hs, hsk⟩
        refine ⟨j, hj, ?_, hsk⟩
        unfold rid
        split
        · rename_i hji
          subst hji
          rw [ne_of_not_same he] at hsk
          cases hsk
        · exact hs
      · rintro ⟨j, hj, hs, hsk⟩
        refine ⟨j, hj, ?_, hsk⟩
        unfold rid at hs
        split at hs
        · cases hs
        · exact hs
  · intro k z hh
    by_cases he : k = .int .i64 (i : Int)
    · subst he
      rw [Maps.has_del_same] at hh
      cases hh
    · rw [Maps.has_del_other he] at hh
      rw [Maps.atKey_del_other he]
      obtain ⟨j, hj, hs, hsk⟩ := (has_datum f n k).1 hh
      obtain rfl : k = .int .i64 (j : Int) := by
        apply Classical.byContradiction
        intro hne
        rw [ne_of_not_same hne] at hsk
        cases hsk
      obtain ⟨y, hy⟩ := Option.isSome_iff_exists.1 hs
      have hji : j ≠ i := fun e => he (by rw [e])
      rw [at_datum f n j y hj hy, at_datum (rid f i) n j y hj (by simp [rid, hji, hy])]

theorem datum_none (n : Nat) : datum (fun _ => none) n = .map [] := by
  have : ents (fun _ => none) n = [] := by
    unfold ents
    rw [List.filterMap_eq_nil_iff]
    intro a _
    rfl
  rw [datum, this]

theorem int_law : Keyed Try.prog 3 := int_keyed Try.underlying3
theorem pin_zero (w : World) : (zeroValue 45).run Try.prog w = .ok (pinVal (List.replicate 17 0)) w := by kernel_rfl

/-- The map in memory. -/
def Mp (w : World) (M n : Nat) (f : Nat → Option (List Int)) : Prop := w.ownsMap Try.prog 3 pinElem M n (datum f n)

theorem Mp.tn {S : List Nat} {w w' : World} {M n : Nat} {f : Nat → Option (List Int)} (h : Mp w M n f) (k : Tn S w w') (hM : M ∉ S) : Mp w' M n f := by
  obtain ⟨es, clock, hb, F, hs, hD⟩ := h
  exact ⟨es, clock, (k.block M (Array.getElem?_eq_some_iff.1 hb).1 hM).trans hb, F, hs, hD⟩

theorem Mp.lt {w : World} {M n : Nat} {f : Nat → Option (List Int)} (h : Mp w M n f) : M < w.heap.size := World.ownsMap.lt h

theorem Mp.new (w : World) (n : Nat) : Mp (w.alloc (.map #[] 0)) w.heap.size n (fun _ => none) := by
  unfold Mp
  rw [datum_none]
  exact (World.ownsMap_made w Try.prog 3 pinElem).mono (Nat.zero_le _)

theorem turned_tn {w w' : World} {M : Nat} (h : w.mapTurned w' M) : Tn [M] w w' := by
  have := h.grown
  exact grown_tn this

section
variable {w : World} {ops : Array Oper} {rest : List Oper} {o : Oper} {a : Act} {Q : Exit → Act → World → Prop}

theorem wp_lookup_pin (hg : o.guard = none) (m x : Operand) (hop : o.op = Op.lookup 46 m x true) (M n : Nat) (f : Nat → Option (List Int)) (hm : a.eval m = .map (some M))
    (hown : Mp w M n f) (i : Nat) (hi : i < n) (hn : n ≤ 3600000000000) (hx : a.eval x = .int .i64 (i : Int)) (y : List Int) (hy : f i = some y) (vv : Value) (hvv : pinVal y = vv)
    (hK : wpList Try.prog ops Q rest (a.put o.dst (.tuple #[vv, .bool true])) w) : wpList Try.prog ops Q (o :: rest) a w := by
  refine wpList_lookup_own_ok w hg m x 46 hop 3 45 int_law Try.underlying46 pinElem (pin_zero _) _ _ (pinElem_mk (by simp)) M n _ hm hown _ _ hx (keyOf_int_mk Try.underlying3 (WalkArith.wf_i64 (by omega))) ?_
  intro v ps hv
  rw [has_datum_nat f n i hi, hy]
  obtain ⟨xs, rfl, hz, hs⟩ := pinElem_inv hv
  simp only [Prod.mk.injEq] at hz
  have := hz.1
  rw [at_datum f n i y hi hy] at this
  have e : xs = y := by simpa using this.symm
  subst e
  rw [hvv]
  exact hK

theorem wp_update_pin (hg : o.guard = none) (m x y : Operand) (hop : o.op = Op.mapUpdate 46 m x y) (M n : Nat) (f : Nat → Option (List Int)) (hm : a.eval m = .map (some M))
    (hown : Mp w M n f) (i : Nat) (hi : i < n) (hn : n ≤ 3600000000000) (hx : a.eval x = .int .i64 (i : Int)) (xs : List Int) (hs : xs.length = 17) (hy : a.eval y = pinVal xs)
    (hK : ∀ w', Mp w' M n (upd f i xs) → Tn [M] w w' → wpList Try.prog ops Q rest (a.put o.dst undef) w') : wpList Try.prog ops Q (o :: rest) a w := by
  refine wpList_mapUpdate_in w hg m x y 46 hop 3 45 int_law Try.underlying46 pinElem M n _ hm hown (by unfold maxLen; omega) _ _ _ hx hy (keyOf_int_mk Try.underlying3 (WalkArith.wf_i64 (by omega))) _ [] (pinElem_mk hs) ?_
  intro w' hown' ht
  have hc := hown'.canon int_law
  rw [put_canon hi hc] at hown'
  exact hK w' (owns_bound hown') (turned_tn ht)

theorem wp_delete_pin (hg : o.guard = none) (m x : Operand) (hop : o.op = Op.call { callee := Callee.builtin Builtin.delete, args := #[m, x], argTypes := #[46, 3] }) (M n : Nat) (f : Nat → Option (List Int)) (hm : a.eval m = .map (some M))
    (hown : Mp w M n f) (i : Nat) (hi : i < n) (hn : n ≤ 3600000000000) (hx : a.eval x = .int .i64 (i : Int))
    (hK : ∀ w', Mp w' M n (rid f i) → Tn [M] w w' → wpList Try.prog ops Q rest (a.put o.dst (.tuple #[])) w') : wpList Try.prog ops Q (o :: rest) a w := by
  refine wpList_delete_own w hg m x 46 3 hop 45 int_law Try.underlying46 pinElem M n _ hm hown _ _ hx (keyOf_int_mk Try.underlying3 (WalkArith.wf_i64 (by omega))) ?_
  intro w' hown' ht
  have hc := hown'.canon int_law
  rw [del_canon hi hc] at hown'
  exact hK w' hown' (turned_tn ht)

theorem wp_len_pin (hg : o.guard = none) (m : Operand) (hop : o.op = Op.call { callee := Callee.builtin Builtin.len, args := #[m], argTypes := #[46] }) (M n : Nat) (f : Nat → Option (List Int)) (hm : a.eval m = .map (some M))
    (hown : Mp w M n f) (hK : wpList Try.prog ops Q rest (a.put o.dst (.int .i64 ((ents f n).length : Nat))) w) : wpList Try.prog ops Q (o :: rest) a w := by
  refine wpList_len_own w hg m 46 hop 3 45 Try.underlying46 pinElem M n _ hm hown ?_
  exact hK
end

end Go.Proofs.Ytndmcjkbbedoeaa
