/- Records, as plain data: what is wrong with each, and what is in memory. -/
import Derived.Test.YtcoibnlecdemcaaGnM
import Derived.Laws.BytesArg
import Derived.Laws.IdiomStrings
namespace Go.Proofs.Ytcoibnlecdemcaa.Rk
open Go.RowKit
set_option linter.unusedVariables false
set_option maxRecDepth 100000

/-- A write. -/
structure Wr where
  key : ByteArray
  val : ByteArray
  del : Bool

/-- A pair with its timestamp. -/
structure St where
  key : ByteArray
  val : ByteArray
  ts : Int

/-- A master. -/
structure Ms where
  seq : Int
  area : Int
  chunks : Int
  ts : Int
  sector : Int
  offset : Int
  number : Int
  run : Int

def Wr.cells (x : Wr) : List Value := [.string x.key, .string x.val, .bool x.del]
def St.cells (x : St) : List Value := [.string x.key, .string x.val, .int .i64 x.ts]
def Ms.cells (m : Ms) : List Value := [.int .i64 m.seq, .int .i64 m.area, .int .i64 m.chunks, .int .i64 m.ts, .int .i64 m.sector, .int .i64 m.offset, .int .i64 m.number, .int .i64 m.run]

namespace Rc

/-- Whether a text is not above another. -/
def le (a b : ByteArray) : Bool := Op.bytesLess a.toList b.toList || a.toList == b.toList

def keyE (s : ByteArray) : Int := if s.size = 0 ∨ 64 < s.size then 30 else 0
def valE (s : ByteArray) : Int := if 256 < s.size then 31 else 0
def pairE (k v : ByteArray) : Int := if keyE k = 0 then valE v else keyE k
def wrE (x : Wr) : Int := if pairE x.key x.val = 0 then (if x.del = true ∧ x.val.size ≠ 0 then 32 else 0) else pairE x.key x.val
def wsE : ByteArray → List Wr → Int
  | _, [] => 0
  | a, x :: r => if wrE x = 0 then (if le x.key a = true then 32 else wsE x.key r) else wrE x
def comE (ts : Int) (l : List Wr) : Int := if ts < 1 ∨ 1099511627776 < ts ∨ l.length = 0 ∨ 64 < l.length then 32 else wsE .empty l
def stsE : ByteArray → List St → Int
  | _, [] => 0
  | a, x :: r => if pairE x.key x.val = 0 then (if x.ts < 1 ∨ 1099511627776 < x.ts ∨ le x.key a = true then 32 else stsE x.key r) else pairE x.key x.val
def chE (n : Int) (l : List St) : Int := if n < 0 ∨ 4095 < n ∨ 16 < l.length then 32 else stsE .empty l
def inn (a n b : Int) : Bool := decide (a ≤ n) && decide (n ≤ b)
def msE (m : Ms) : Int := if inn 1 m.seq 1099511627776 && inn 0 m.area 1 && inn 1 m.chunks 4096 && inn 0 m.ts 1099511627776 && inn 0 m.sector 1099511627776 && inn 0 m.offset 511 && inn 0 m.number 1099511627776 && inn 0 m.run 1099511627776 then 0 else 32

theorem nil_iff (s : ByteArray) : s.toList = [] ↔ s.size = 0 := by
  rw [ByteArray.toList_eq]
  constructor
  · intro h
    have := congrArg List.length h
    simpa using this
  · intro h
    apply List.eq_nil_of_length_eq_zero
    simpa using h

theorem le_empty {s : ByteArray} (h : s.size ≠ 0) : le s .empty = false := by
  have h1 : s.toList ≠ [] := fun e => h ((nil_iff s).1 e)
  have h2 : (ByteArray.empty).toList = [] := (nil_iff _).2 rfl
  unfold le
  rw [h2]
  cases hs : s.toList with
  | nil => exact absurd hs h1
  | cons a r => simp [Op.bytesLess]

theorem keyE_ne {s : ByteArray} (h : keyE s = 0) : s.size ≠ 0 := by
  unfold keyE at h
  split at h
  · omega
  · omega

theorem pairE_key {k v : ByteArray} (h : pairE k v = 0) : keyE k = 0 ∧ valE v = 0 := by
  unfold pairE at h
  split at h
  · exact ⟨by assumption, h⟩
  · contradiction

theorem wrE_pair {x : Wr} (h : wrE x = 0) : pairE x.key x.val = 0 := by
  unfold wrE at h
  split at h
  · assumption
  · contradiction

end Rc

/-- Writes that a slice leads to. -/
structure InW (w : World) (p : Option Addr) (len cap : Nat) (l : List Wr) : Prop where
  lenq : l.length = len
  cel : 0 < len → ∃ b o, p = some ⟨b, o, none⟩ ∧ ∀ (i : Nat) g, l[i]? = some g → ∀ (j : Nat) v, g.cells[j]? = some v → w.cell? ⟨b, o + i * 3 + j, none⟩ = some v
  le : len ≤ cap
  room : cap ≤ 9223372036854775807
  nil : p = none → len = 0 ∧ cap = 0

theorem InW.up {w w' : World} {p : Option Addr} {len cap : Nat} {l : List Wr} (h : InW w p len cap l) (hb : Below w.heap.size w w') : InW w' p len cap l := by
  refine ⟨h.lenq, fun hl => ?_, h.le, h.room, h.nil⟩
  obtain ⟨b, o, rfl, hc⟩ := h.cel hl
  refine ⟨b, o, rfl, fun i g hi j v hv => ?_⟩
  have hh := hc i g hi j v hv
  rw [hb.cell (p := ⟨b, o + i * 3 + j, none⟩) (World.block_lt_of_cell? w _ hh)]
  exact hh

theorem InW.at {w : World} {p : Option Addr} {len cap : Nat} {l : List Wr} (h : InW w p len cap l) {j : Nat} (hj : j < len) : ∃ b o g, p = some ⟨b, o, none⟩ ∧ l[j]? = some g ∧ b < w.heap.size ∧
    w.cell? ⟨b, o + j * 3, none⟩ = some (.string g.key) ∧ w.cell? ⟨b, o + j * 3 + 1, none⟩ = some (.string g.val) ∧ w.cell? ⟨b, o + j * 3 + 2, none⟩ = some (.bool g.del) := by
  obtain ⟨b, o, rfl, hc⟩ := h.cel (by omega)
  have hjl : j < l.length := by rw [h.lenq]; exact hj
  have hg := List.getElem?_eq_getElem hjl
  exact ⟨b, o, l[j], rfl, hg, World.block_lt_of_cell? w _ (hc j _ hg 0 _ rfl), hc j _ hg 0 _ rfl, hc j _ hg 1 _ rfl, hc j _ hg 2 _ rfl⟩

/-- Pairs with timestamps that a slice leads to. -/
structure InS (w : World) (p : Option Addr) (len cap : Nat) (l : List St) : Prop where
  lenq : l.length = len
  cel : 0 < len → ∃ b o, p = some ⟨b, o, none⟩ ∧ ∀ (i : Nat) g, l[i]? = some g → ∀ (j : Nat) v, g.cells[j]? = some v → w.cell? ⟨b, o + i * 3 + j, none⟩ = some v
  le : len ≤ cap
  room : cap ≤ 9223372036854775807
  nil : p = none → len = 0 ∧ cap = 0

theorem InS.up {w w' : World} {p : Option Addr} {len cap : Nat} {l : List St} (h : InS w p len cap l) (hb : Below w.heap.size w w') : InS w' p len cap l := by
  refine ⟨h.lenq, fun hl => ?_, h.le, h.room, h.nil⟩
  obtain ⟨b, o, rfl, hc⟩ := h.cel hl
  refine ⟨b, o, rfl, fun i g hi j v hv => ?_⟩
  have hh := hc i g hi j v hv
  rw [hb.cell (p := ⟨b, o + i * 3 + j, none⟩) (World.block_lt_of_cell? w _ hh)]
  exact hh

theorem InS.at {w : World} {p : Option Addr} {len cap : Nat} {l : List St} (h : InS w p len cap l) {j : Nat} (hj : j < len) : ∃ b o g, p = some ⟨b, o, none⟩ ∧ l[j]? = some g ∧ b < w.heap.size ∧
    w.cell? ⟨b, o + j * 3, none⟩ = some (.string g.key) ∧ w.cell? ⟨b, o + j * 3 + 1, none⟩ = some (.string g.val) ∧ w.cell? ⟨b, o + j * 3 + 2, none⟩ = some (.int .i64 g.ts) := by
  obtain ⟨b, o, rfl, hc⟩ := h.cel (by omega)
  have hjl : j < l.length := by rw [h.lenq]; exact hj
  have hg := List.getElem?_eq_getElem hjl
  exact ⟨b, o, l[j], rfl, hg, World.block_lt_of_cell? w _ (hc j _ hg 0 _ rfl), hc j _ hg 0 _ rfl, hc j _ hg 1 _ rfl, hc j _ hg 2 _ rfl⟩

end Go.Proofs.Ytcoibnlecdemcaa.Rk
