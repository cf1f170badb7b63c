/- Deltas as plain data. -/
import Derived.Test.YtoehlgigidgfpaaGreatPgSm
import Derived.Test.YtoehlgigidgfpaaGreatPgMm
import Derived.Test.YtoehlgigidgfpaaGreatPgPu
import Derived.Test.YtoehlgigidgfpaaGreatPgRm
namespace Go.Proofs.YtoehlgigidgfpaaGreat
open Go.RowKit Go.Sort
set_option linter.unusedVariables false
set_option maxRecDepth 100000

/-- A delta. -/
structure De where
  k : Int
  e : En
  key : ByteArray
  pg : Int
  rt : Pp

/-- A delta's cells; its value. -/
abbrev dlc (k : Int) (e : En) (key : ByteArray) (pg : Int) (leaf : Bool) (lo hi : ByteArray) (r : Int) (p : Option Addr) (len cap : Nat) : Array Value :=
  #[.int .i64 k, .string e.key, .int .i64 e.s, .int .i64 e.g, .int .i64 e.c, .string key, .int .i64 pg, .bool leaf, .string lo, .string hi, .int .i64 r, .slice p len cap]
abbrev dlv (k : Int) (e : En) (key : ByteArray) (pg : Int) (leaf : Bool) (lo hi : ByteArray) (r : Int) (p : Option Addr) (len cap : Nat) : Value :=
  .agg #[.int .i64 k, .string e.key, .int .i64 e.s, .int .i64 e.g, .int .i64 e.c, .string key, .int .i64 pg, .bool leaf, .string lo, .string hi, .int .i64 r, .slice p len cap]

namespace Dl
abbrev zero : De := ⟨0, En.zero, ⟨#[]⟩, 0, Pg.zero⟩

/-- Whether two deltas are the same. -/
def same (a b : De) : Bool := (a.k == b.k) && (En.eqb a.e b.e && ((a.key.toList == b.key.toList) && ((a.pg == b.pg) && Pg.same a.rt b.rt)))

theorem same_self (a : De) : same a a = true := by
  unfold same
  rw [Pg.same_self, (En.eqb_iff a.e a.e).2 rfl]
  simp

/-- A delta with the fields alone that its kind names. -/
def named (d : De) : De :=
  if d.k = 1 then ⟨d.k, d.e, ⟨#[]⟩, 0, Pg.zero⟩
  else if d.k = 2 then ⟨d.k, En.zero, d.key, 0, Pg.zero⟩
  else if d.k = 3 then ⟨d.k, En.zero, d.key, d.pg, Pg.zero⟩
  else if d.k = 4 then ⟨d.k, En.zero, ⟨#[]⟩, 0, d.rt⟩
  else if d.k = 5 then ⟨d.k, En.zero, ⟨#[]⟩, d.pg, Pg.zero⟩
  else ⟨d.k, En.zero, ⟨#[]⟩, 0, Pg.zero⟩

/-- Whether there is such a kind, and what it names may be. -/
def fits (d : De) : Bool :=
  if d.k = 1 then true
  else if d.k = 2 then true
  else if d.k = 3 then !d.key.toList.isEmpty && decide (1 ≤ d.pg)
  else if d.k = 4 then Pg.may d.rt.leaf ⟨d.rt.lo, d.rt.hi⟩ d.rt.r d.rt.l
  else if d.k = 5 then decide (1 ≤ d.pg)
  else false

def may (d : De) : Bool := same d (named d) && fits d

def without (g : Pp) (key : ByteArray) : Pp := if g.l.any (Pg.is key) then ⟨g.leaf, g.lo, g.hi, g.r, Pg.del g.l (g.l.findIdx (Pg.is key))⟩ else g
def upTo (g : Pp) (key : ByteArray) (r : Int) : Pp := ⟨g.leaf, g.lo, key, r, g.l.filter fun e => Ky.lt e.key key⟩

/-- A page by a delta. -/
def apply (g : Pp) (d : De) : Pp × Int :=
  if may d then
    if d.k = 1 then Pg.put g d.e
    else if d.k = 2 then (if Ky.inn ⟨g.lo, g.hi⟩ d.key then (without g d.key, 0) else (Pg.zero, 73))
    else if d.k = 3 then (if Ky.lt g.lo d.key && Ky.inn ⟨g.lo, g.hi⟩ d.key then (upTo g d.key d.pg, 0) else (Pg.zero, 90))
    else if d.k = 4 then Pg.merge g d.rt
    else (Pg.zero, 91)
  else (Pg.zero, 90)

/-- The delta that gives a key what a page has by it. -/
def restore (g : Pp) (key : ByteArray) : De :=
  match g.l.find? (Pg.is key) with
  | some e => ⟨1, e, ⟨#[]⟩, 0, Pg.zero⟩
  | none => ⟨2, En.zero, key, 0, Pg.zero⟩

def undo (g : Pp) (d : De) : Option De :=
  if (apply g d).2 = 0 then
    if d.k = 1 then some (restore g d.e.key)
    else if d.k = 2 then some (restore g d.key)
    else none
  else none
end Dl

end Go.Proofs.YtoehlgigidgfpaaGreat
