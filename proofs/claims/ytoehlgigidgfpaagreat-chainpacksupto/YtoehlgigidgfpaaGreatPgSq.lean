/- Pages as plain data; Split (the code's). -/
import Derived.Test.YtoehlgigidgfpaaGreatPgSp
namespace Go.Proofs.YtoehlgigidgfpaaGreat
open Go.RowKit Go.Sort
set_option linter.unusedVariables false
set_option maxRecDepth 100000

/-- A page. -/
structure Pp where
  leaf : Bool
  lo : ByteArray
  hi : ByteArray
  r : Int
  l : List En

namespace Pg
abbrev zero : Pp := ⟨false, ⟨#[]⟩, ⟨#[]⟩, 0, []⟩
/-- What parts two keys. -/
def part (leaf : Bool) (a b : ByteArray) : Option ByteArray := if leaf then (if Ky.lt a b then some (Ky.sep a b) else none) else some b
def keyAt (l : List En) (i : Nat) : ByteArray := match l[i]? with | some e => e.key | none => ⟨#[]⟩
/-- A page's halves. -/
def split (g : Pp) (id : Int) : Pp × Pp × Int :=
  if id < 1 then (zero, zero, 1)
  else if g.l.length < 2 then (zero, zero, 71)
  else match part g.leaf (keyAt g.l (g.l.length / 2 - 1)) (keyAt g.l (g.l.length / 2)) with
    | none => (zero, zero, 70)
    | some m => (⟨g.leaf, g.lo, m, id, g.l.take (g.l.length / 2)⟩, ⟨g.leaf, m, g.hi, g.r, g.l.drop (g.l.length / 2)⟩, 0)
end Pg

/-- A page's value that leads to entries in memory of the call's own. -/
def PgAt (w : World) (base : Nat) (v : Value) (g : Pp) : Prop := ∃ p cap, v = pgv g.leaf g.lo g.hi g.r p g.l.length cap ∧ Seg w base p g.l.length cap g.l

theorem PgAt.zero (w : World) (base : Nat) : PgAt w base (pgv false ⟨#[]⟩ ⟨#[]⟩ 0 none 0 0) Pg.zero := ⟨none, 0, rfl, Seg.nil _ _⟩
theorem PgAt.below {w w' : World} {base : Nat} {v : Value} {g : Pp} (h : PgAt w base v g) {B : Nat} (hb : Below B w w') (hB : w.heap.size ≤ B) : PgAt w' base v g := by
  obtain ⟨p, c, hv, hs⟩ := h
  exact ⟨p, c, hv, hs.below hb hB⟩
theorem PgAt.mono {w : World} {base base' : Nat} {v : Value} {g : Pp} (h : PgAt w base v g) (hb : base' ≤ base) : PgAt w base' v g := by
  obtain ⟨p, c, hv, hs⟩ := h
  exact ⟨p, c, hv, hs.mono hb⟩
theorem Pg.keyAt_some {l : List En} {i : Nat} {e : En} (h : l[i]? = some e) : Pg.keyAt l i = e.key := by unfold Pg.keyAt; rw [h]

abbrev zc : Array Value := #[.bool false, .string ⟨#[]⟩, .string ⟨#[]⟩, .int .i64 0, .slice none 0 0]

end Go.Proofs.YtoehlgigidgfpaaGreat
