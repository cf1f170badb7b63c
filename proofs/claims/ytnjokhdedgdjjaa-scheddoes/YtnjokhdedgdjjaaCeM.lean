/- Cells and boxes: small facts. -/
import Derived.Test.YtnjokhdedgdjjaaMem
import Derived.Lib.Bytealg
import Derived.Laws.Cover1
import Derived.Conc.LoneSelectN
import Derived.Conc.LoneSelect
namespace Go.Proofs.Ytnjokhdedgdjjaa
open Go.Conc Go.RowKit
set_option linter.unusedVariables false

theorem toList_injC {a b : ByteArray} (h : a.toList = b.toList) : a = b := by
  rw [ByteArray.toList_eq, ByteArray.toList_eq] at h
  obtain ⟨⟨x⟩⟩ := a
  obtain ⟨⟨y⟩⟩ := b
  simp at h
  rw [h]

theorem eqlC (a b : ByteArray) : (a.toList == b.toList) = decide (a = b) := by
  by_cases h : a = b <;> simp [h]
  exact fun k => h (toList_injC k)

/-- A channel: its room, what waits. -/
def Ch (w : World) (c room : Nat) (buf : Array Value) : Prop := ∃ s r, w.heap[c]? = some (.chan room buf false s r false)

theorem Ch.lt {w : World} {c room : Nat} {buf : Array Value} (h : Ch w c room buf) : c < w.heap.size := by
  obtain ⟨s, r, h⟩ := h
  exact (Array.getElem?_eq_some_iff.1 h).1
theorem Ch.tn {S : List Nat} {w w' : World} {c room : Nat} {buf : Array Value} (h : Ch w c room buf) (t : Tn S w w') (hc : c ∉ S) : Ch w' c room buf := by
  have hl := h.lt
  obtain ⟨s, r, h⟩ := h
  exact ⟨s, r, (t.block c hl hc).trans h⟩
/-- No block of cells is a channel. -/
theorem Ch.ne {w : World} {c room b : Nat} {buf : Array Value} {t : TypeId} {cs : Array Value} (h : Ch w c room buf) (k : Bk w b t cs) : b ≠ c := by
  obtain ⟨s, r, h⟩ := h
  intro e
  subst e
  rw [show w.heap[b]? = _ from k] at h
  simp at h
theorem Ch.set {w : World} {c room : Nat} {buf : Array Value} (h : Ch w c room buf) (buf' : Array Value) (s r : Nat) : Ch (w.setChan c room buf' false s r false) c room buf' := ⟨s, r, heap_setChan _ _ _ _ _ _ _ _ h.lt⟩
theorem Ch.new (w : World) (room : Nat) : Ch (w.alloc (.chan room #[] false 0 0 false)) w.heap.size room #[] := ⟨0, 0, (MapKept.heap_alloc w _).1⟩
theorem Tn.setChan {S : List Nat} {a w : World} (h : Tn S a w) {c : Nat} (hp : c ∈ S ∨ a.heap.size ≤ c) (cap : Nat) (buf : Array Value) (cl : Bool) (s r : Nat) (tm : Bool) : Tn S a (w.setChan c cap buf cl s r tm) :=
  ⟨h.os, h.tape, h.output, by simpa [World.setChan] using h.size, fun k hk hn => by
    have hne : c ≠ k := fun e => by subst e; exact not_both hp hn hk
    simp only [World.setChan]
    rw [Array.getElem?_setIfInBounds_ne hne]
    exact h.block k hk hn⟩
end Go.Proofs.Ytnjokhdedgdjjaa
