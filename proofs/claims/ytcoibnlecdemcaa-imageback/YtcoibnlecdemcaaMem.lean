/- Memory: which blocks may have turned; what a block of cells has. -/
import Derived.Test.YtcoibnlecdemcaaRows
import Derived.WalkKit
import Derived.WalkSpells
import Derived.Maps.OwnSet
namespace Go.Proofs.Ytcoibnlecdemcaa
open Go.RowKit Go.Maps
set_option linter.unusedVariables false

theorem ret_int {k : IntKind} {a b : Int} (h : a = b) : Ending.returned (.int k a) = .returned (.int k b) := by rw [h]

/-- Nothing but the blocks of S, and new ones, has turned. -/
structure Tn (S : List Nat) (w w' : World) : Prop where
  os : w'.os = w.os
  tape : w'.tape = w.tape
  output : w'.output = w.output
  size : w.heap.size ≤ w'.heap.size
  block : ∀ k, k < w.heap.size → k ∉ S → w'.heap[k]? = w.heap[k]?

theorem not_both {S : List Nat} {x n : Nat} (h : x ∈ S ∨ n ≤ x) (hn : x ∉ S) (hx : x < n) : False := by
  rcases h with h | h
  · exact hn h
  · omega

theorem Tn.refl (S : List Nat) (w : World) : Tn S w w := ⟨rfl, rfl, rfl, Nat.le_refl _, fun _ _ _ => rfl⟩

theorem Tn.trans {S T : List Nat} {a b c : World} (h : Tn S a b) (k : Tn T b c) (hT : ∀ x ∈ T, x ∈ S ∨ a.heap.size ≤ x) : Tn S a c :=
  ⟨k.os.trans h.os, k.tape.trans h.tape, k.output.trans h.output, Nat.le_trans h.size k.size, fun i hi hn => (k.block i (Nat.lt_of_lt_of_le hi h.size) (fun hm => not_both (hT i hm) hn hi)).trans (h.block i hi hn)⟩

theorem Tn.mono {S T : List Nat} {a b : World} (h : Tn S a b) (hS : ∀ x ∈ S, x ∈ T) : Tn T a b := ⟨h.os, h.tape, h.output, h.size, fun k hk hn => h.block k hk (fun hm => hn (hS k hm))⟩

theorem Tn.below {S : List Nat} {a b : World} (h : Tn S a b) {B : Nat} (hB : B ≤ a.heap.size) (hS : ∀ x ∈ S, B ≤ x) : Below B a b :=
  ⟨h.os, h.tape, h.output, h.size, fun k hk => h.block k (by omega) (fun hm => by have := hS k hm; omega)⟩

theorem Tn.of_below {w w' : World} (h : Below w.heap.size w w') (S : List Nat) : Tn S w w' := ⟨h.os, h.tape, h.output, h.size, fun k hk _ => h.block k hk⟩

theorem Tn.drew {S : List Nat} {a w : World} (h : Tn S a w) : Tn S a w.drew := ⟨h.os, h.tape, h.output, h.size, h.block⟩

theorem Tn.alloc {S : List Nat} {a w : World} (h : Tn S a w) (o : Obj) : Tn S a (w.alloc o) :=
  ⟨h.os, h.tape, h.output, by simp; have := h.size; omega, fun k hk hn => (Below.heap_alloc _ _ _ (by have := h.size; omega)).trans (h.block k hk hn)⟩

theorem Tn.setCell {S : List Nat} {a w : World} (h : Tn S a w) {p : Addr} (hp : p.block ∈ S ∨ a.heap.size ≤ p.block) (u : Value) : Tn S a (w.setCell p u) :=
  ⟨h.os, h.tape, h.output, by simpa [World.setCell] using h.size, fun k hk hn => (Below.heap_setCell _ _ _ _ (fun e => by subst e; exact not_both hp hn hk)).trans (h.block k hk hn)⟩

theorem Tn.grown {S : List Nat} {a w w' : World} {row : Option Nat} (h : Tn S a w) (hg : w.grownBy w' row) (hr : ∀ k, row = some k → k ∈ S ∨ a.heap.size ≤ k) : Tn S a w' :=
  ⟨hg.os.trans h.os, hg.tape.trans h.tape, hg.output.trans h.output, Nat.le_trans h.size hg.size, fun k hk hn => (hg.block k (Nat.lt_of_lt_of_le hk h.size) (fun e => not_both (hr k e.symm) hn hk)).trans (h.block k hk hn)⟩

theorem Tn.setRow {S : List Nat} {a w : World} (h : Tn S a w) {g : Nat} (hp : g ∈ S ∨ a.heap.size ≤ g) (cs : Array Value) : Tn S a (w.setRow g cs) :=
  ⟨h.os, h.tape, h.output, by simpa [World.setRow] using h.size, fun k hk hn => (setRow_other w g k cs (fun e => by subst e; exact not_both hp hn hk)).trans (h.block k hk hn)⟩

/-- A block of cells. -/
def Bk (w : World) (b : Nat) (t : TypeId) (cs : Array Value) : Prop := w.heap[b]? = some (.cells cs t (0, 0))

theorem Bk.lt {w : World} {b : Nat} {t : TypeId} {cs : Array Value} (h : Bk w b t cs) : b < w.heap.size := (Array.getElem?_eq_some_iff.1 h).1
theorem Bk.new (w : World) (t : TypeId) (cs : Array Value) : Bk (w.alloc (.cells cs t)) w.heap.size t cs := (MapKept.heap_alloc w _).1
theorem Bk.tn {S : List Nat} {w w' : World} {b : Nat} {t : TypeId} {cs : Array Value} (h : Bk w b t cs) (k : Tn S w w') (hb : b ∉ S) : Bk w' b t cs := (k.block b h.lt hb).trans h
theorem Bk.below {w w' : World} {b B : Nat} {t : TypeId} {cs : Array Value} (h : Bk w b t cs) (k : Below B w w') (hb : b < B) : Bk w' b t cs := (k.block b hb).trans h
theorem Bk.alloc {w : World} {b : Nat} {t : TypeId} {cs : Array Value} (h : Bk w b t cs) (o : Obj) : Bk (w.alloc o) b t cs := (Below.heap_alloc w o b h.lt).trans h
theorem Bk.other {w : World} {b : Nat} {t : TypeId} {cs : Array Value} (h : Bk w b t cs) {p : Addr} (hne : b ≠ p.block) (u : Value) : Bk (w.setCell p u) b t cs := (Below.heap_setCell w p u b hne).trans h
theorem Bk.drew {w : World} {b : Nat} {t : TypeId} {cs : Array Value} (h : Bk w b t cs) : Bk w.drew b t cs := h
theorem Bk.cell {w : World} {b : Nat} {t : TypeId} {cs : Array Value} (h : Bk w b t cs) (i : Nat) : w.cell? ⟨b, i, none⟩ = cs[i]? := by simp [World.cell?, show w.heap[b]? = _ from h]
theorem Bk.frozen {w : World} {b : Nat} {t : TypeId} {cs : Array Value} (h : Bk w b t cs) (i : Nat) : w.frozen? ⟨b, i, none⟩ = false := by simp [World.frozen?, show w.heap[b]? = _ from h]
theorem Bk.set {w : World} {b : Nat} {t : TypeId} {cs : Array Value} (h : Bk w b t cs) (i : Nat) (u : Value) : Bk (w.setCell ⟨b, i, none⟩ u) b t (cs.setIfInBounds i u) := by
  rw [setCell_eq_setRow w b i cs t (0, 0) u h]
  exact setRow_heap w b cs _ t _ h
theorem Bk.setRow {w : World} {b : Nat} {t : TypeId} {cs : Array Value} (h : Bk w b t cs) (ds : Array Value) : Bk (w.setRow b ds) b t ds := setRow_heap w b cs _ t _ h
theorem Bk.rowOther {w : World} {b g : Nat} {t : TypeId} {cs : Array Value} (h : Bk w b t cs) (hne : b ≠ g) (ds : Array Value) : Bk (w.setRow g ds) b t cs := (setRow_other w g b ds hne).trans h

end Go.Proofs.Ytcoibnlecdemcaa
