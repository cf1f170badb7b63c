/- Pairs as plain data; a map by texts that holds pairs. -/
import Derived.Test.YtilabcolfabnmaaGnM
import Derived.Maps.Ext
import Derived.Maps.OwnSet
import Derived.Maps.Range
import Derived.StringKeys
import Derived.Sort.KeysCollected
namespace Go.Proofs.Ytilabcolfabnmaa
open Go.RowKit Go.Maps
set_option linter.unusedVariables false
set_option maxRecDepth 100000

/-- A pair. -/
structure Pr where
  key : ByteArray
  val : ByteArray

def Pr.cells (x : Pr) : List Value := [.string x.key, .string x.val]
abbrev Pr.v (x : Pr) : Value := .agg #[.string x.key, .string x.val]
theorem prinfo : (Try.prog.info? 54).map (fun i => (i.zero, i.size, i.bytes)) = some (some (.agg #[.string ⟨#[]⟩, .string ⟨#[]⟩]), 2, 32) := by kernel_rfl
theorem prknd : Knd Pr.cells 2 := ⟨fun _ => rfl, fun x u hu => by simp [Pr.cells] at hu; rcases hu with rfl | rfl <;> rfl, by decide⟩
abbrev Prs (w : World) (p : Option Addr) (l : List Pr) : Prop := Els Pr.cells 2 w p l
abbrev OwnP (w : World) (base : Nat) (v : Value) (l : List Pr) : Prop := Own Pr.cells 2 54 w base v l

theorem Prs.cells {w : World} {p : Option Addr} {l : List Pr} (h : Prs w p l) {j : Nat} (hj : j < l.length) : ∃ b o x, p = some ⟨b, o, none⟩ ∧ l[j]? = some x ∧ w.cell? ⟨b, o + j * 2, none⟩ = some (.string x.key) ∧ w.cell? ⟨b, o + j * 2 + 1, none⟩ = some (.string x.val) := by
  obtain ⟨b, o, x, hp, hx, hc⟩ := Els.at h hj
  exact ⟨b, o, x, hp, hx, hc 0 _ rfl, hc 1 _ rfl⟩

/-- How a pair in a map reads. -/
def prR (v : Value) : Option (DataW Pr × List MemPlace) := match v with
  | .agg vs => match vs.toList with
    | [.string a, .string b] => some (.held ⟨a, b⟩, [])
    | _ => none
  | _ => none
theorem prR_can (x : Pr) : prR x.v = some (.held x, []) := rfl
theorem prR_inv (v : Value) (z : DataW Pr × List MemPlace) (h : prR v = some z) : ∃ x : Pr, v = x.v ∧ z = (.held x, []) := by
  unfold prR at h
  split at h
  · rename_i vs
    split at h
    · rename_i a b hl
      refine ⟨⟨a, b⟩, ?_, by cases h; rfl⟩
      have : vs = [Value.string a, Value.string b].toArray := by rw [← hl]
      rw [this]
    · cases h
  · cases h

theorem str_law : Keyed Try.prog 9 := string_keyed Try.underlying9

theorem turned_tn' {w w' : World} {M : Nat} (h : w.mapTurned w' M) : Tn [M] w w' := grown_tn h.grown

/-- What a map has, by the keys' bytes. -/
abbrev Fm := List UInt8 → Option Pr
def Fm.set (F : Fm) (k : List UInt8) (x : Pr) : Fm := fun j => if j = k then some x else F j
def Fm.rid (F : Fm) (k : List UInt8) : Fm := fun j => if j = k then none else F j

/-- The map in memory. -/
structure Sm (w : World) (M n : Nat) (F : Fm) : Prop where
  ex : ∃ D : DataW Pr, w.ownsMap Try.prog 9 prR M n D ∧ (∀ k, Maps.has D (.string k) = (F k).isSome) ∧ (∀ k x, F k = some x → ∀ z, D.atKey (.string k) z = .held x)

section
variable {w w' : World} {M n : Nat} {F : Fm}
theorem Sm.tn {S : List Nat} (h : Sm w M n F) (k : Tn S w w') (hM : M ∉ S) : Sm w' M n F := by
  obtain ⟨D, ⟨es, clock, hb, Ft, hs, hD⟩, h1, h2⟩ := h.ex
  exact ⟨⟨D, ⟨es, clock, (k.block M (Array.getElem?_eq_some_iff.1 hb).1 hM).trans hb, Ft, hs, hD⟩, h1, h2⟩⟩
theorem Sm.below (h : Sm w M n F) (hb : Below w.heap.size w w') : Sm w' M n F := h.tn (Tn.of_below hb []) (by simp)
theorem Sm.lt (h : Sm w M n F) : M < w.heap.size := by obtain ⟨D, h0, -⟩ := h.ex; exact World.ownsMap.lt h0
theorem Sm.new (w : World) : Sm (w.alloc (.map #[] 0)) w.heap.size 0 (fun _ => none) :=
  ⟨⟨.map [], World.ownsMap_made w Try.prog 9 prR, fun k => rfl, fun k x h => by cases h⟩⟩

theorem lit_str_ne {a b : List UInt8} (h : a ≠ b) : (Lit.string a : Lit) ≠ .string b := fun e => h (by cases e; rfl)

variable {t e : TypeId}
theorem Sm.put (h : Sm w M n F) (ht : Try.prog.underlying t = some (.map 9 e)) (k : ByteArray) (hk : k.size ≤ maxLen) (hn : n < maxLen) (x : Pr) :
    ∃ w', (Instr.mapUpdate t (.map (some M)) (.string k) x.v).run Try.prog w = .ok () w' ∧ Sm w' M (n + 1) (F.set k.data.toList x) ∧ Tn [M] w w' := by
  obtain ⟨D, h0, h1, h2⟩ := h.ex
  obtain ⟨w', g1, g2, g3⟩ := World.ownsMap.store h0 str_law ht hn (Go.WideMaps.keyOf_string_mk Try.underlying9 hk) (prR_can x)
  have hm : IsMap D := h0.isMap
  refine ⟨w', g1, ⟨⟨_, g2, fun j => ?_, fun j y hy z => ?_⟩⟩, turned_tn' g3⟩
  · unfold Fm.set
    by_cases e : j = k.data.toList
    · subst e
      rw [Maps.has_put_same hm (show WideAt.IsKeyLit (.string _) from trivial), if_pos rfl]
      rfl
    · rw [Maps.has_put_other (lit_str_ne e), h1, if_neg e]
  · unfold Fm.set at hy
    by_cases e : j = k.data.toList
    · subst e
      rw [if_pos rfl] at hy
      cases hy
      rw [Maps.atKey_put_same hm (show WideAt.IsKeyLit (.string _) from trivial)]
    · rw [if_neg e] at hy
      rw [Maps.atKey_put_other (lit_str_ne e)]
      exact h2 j y hy z
theorem Sm.del (h : Sm w M n F) (ht : Try.prog.underlying t = some (.map 9 e)) (k : ByteArray) (hk : k.size ≤ maxLen) (ty : TypeId) :
    ∃ w', (Builtin.delete_ #[t, 9] ty #[.map (some M), .string k]).run Try.prog w = .ok (.tuple #[]) w' ∧ Sm w' M n (F.rid k.data.toList) ∧ Tn [M] w w' := by
  obtain ⟨D, h0, h1, h2⟩ := h.ex
  obtain ⟨w', g1, g2, g3⟩ := World.ownsMap.drop h0 str_law ht (Go.WideMaps.keyOf_string_mk Try.underlying9 hk) ty
  refine ⟨w', g1, ⟨⟨_, g2, fun j => ?_, fun j y hy z => ?_⟩⟩, turned_tn' g3⟩
  · unfold Fm.rid
    by_cases e : j = k.data.toList
    · subst e
      rw [Maps.has_del_same, if_pos rfl]
      rfl
    · rw [Maps.has_del_other (lit_str_ne e), h1, if_neg e]
  · unfold Fm.rid at hy
    by_cases e : j = k.data.toList
    · rw [if_pos e] at hy
      cases hy
    · rw [if_neg e] at hy
      rw [Maps.atKey_del_other (lit_str_ne e)]
      exact h2 j y hy z
end
end Go.Proofs.Ytilabcolfabnmaa
