/- What chain's arena holds: nodes. -/
import Derived.Test.YtoehlgigidgfpaaGreatDlL
import Derived.Test.YtoehlgigidgfpaaGreatAgCnt
namespace Go.Proofs.YtoehlgigidgfpaaGreat
open Go.RowKit
set_option linter.unusedVariables false
set_option maxRecDepth 100000

/-- A page as it lies in memory: with where its entries lie. -/
structure Pm where
  g : Pp
  p : Option Addr
  n : Nat
  c : Nat

/-- A node: whether it is a base, its page, its delta, the next one's handle, how many deltas there are. -/
structure Nod where
  b : Bool
  P : Pm
  D : Dm
  s : Int
  g : Int
  long : Int

abbrev Pm.zero : Pm := ⟨Pg.zero, none, 0, 0⟩
abbrev Dm.zero : Dm := ⟨Dl.zero, none, 0, 0⟩
abbrev Nod.zero : Nod := ⟨false, Pm.zero, Dm.zero, 0, 0, 0⟩

def Nod.cells (x : Nod) : List Value := [.bool x.b, .bool x.P.g.leaf, .string x.P.g.lo, .string x.P.g.hi, .int .i64 x.P.g.r, .slice x.P.p x.P.n x.P.c, .int .i64 x.D.d.k, .string x.D.d.e.key, .int .i64 x.D.d.e.s, .int .i64 x.D.d.e.g, .int .i64 x.D.d.e.c, .string x.D.d.key, .int .i64 x.D.d.pg, .bool x.D.d.rt.leaf, .string x.D.d.rt.lo, .string x.D.d.rt.hi, .int .i64 x.D.d.rt.r, .slice x.D.p x.D.n x.D.c, .int .i64 x.s, .int .i64 x.g, .int .i64 x.long]
abbrev Nod.v (x : Nod) : Value := .agg #[.bool x.b, .bool x.P.g.leaf, .string x.P.g.lo, .string x.P.g.hi, .int .i64 x.P.g.r, .slice x.P.p x.P.n x.P.c, .int .i64 x.D.d.k, .string x.D.d.e.key, .int .i64 x.D.d.e.s, .int .i64 x.D.d.e.g, .int .i64 x.D.d.e.c, .string x.D.d.key, .int .i64 x.D.d.pg, .bool x.D.d.rt.leaf, .string x.D.d.rt.lo, .string x.D.d.rt.hi, .int .i64 x.D.d.rt.r, .slice x.D.p x.D.n x.D.c, .int .i64 x.s, .int .i64 x.g, .int .i64 x.long]

theorem ndK : Knd Nod.cells 21 := ⟨fun _ => rfl, fun x u hu => by simp [Nod.cells] at hu; rcases hu with rfl | rfl | rfl | rfl | rfl | rfl | rfl | rfl | rfl | rfl | rfl | rfl | rfl | rfl | rfl | rfl | rfl | rfl | rfl | rfl | rfl <;> rfl, by decide⟩

set_option linter.unusedSectionVars false
variable [Inhabited Nod]

theorem sl23 {w : World} {tS : TypeId} {us : List (Sl Nod)} {g n c : Nat} (hn : us.length = n) (h : w.ownsRow 0 tS 23 (.slice (some ⟨g, 0, none⟩) n c) us.length (flat (slc Nod.cells) us)) (i : Nat) (hi : i < n) :
    w.cell? ⟨g, i * 23, none⟩ = some (.int .i64 (slAt us i).gen) ∧ w.cell? ⟨g, i * 23 + 1, none⟩ = some (.bool (slAt us i).given) ∧ w.cell? ⟨g, i * 23 + 2, none⟩ = some (.bool (slAt us i).val.b) ∧ w.cell? ⟨g, i * 23 + 3, none⟩ = some (.bool (slAt us i).val.P.g.leaf) ∧ w.cell? ⟨g, i * 23 + 4, none⟩ = some (.string (slAt us i).val.P.g.lo) ∧ w.cell? ⟨g, i * 23 + 5, none⟩ = some (.string (slAt us i).val.P.g.hi) ∧ w.cell? ⟨g, i * 23 + 6, none⟩ = some (.int .i64 (slAt us i).val.P.g.r) ∧ w.cell? ⟨g, i * 23 + 7, none⟩ = some (.slice (slAt us i).val.P.p (slAt us i).val.P.n (slAt us i).val.P.c) ∧ w.cell? ⟨g, i * 23 + 8, none⟩ = some (.int .i64 (slAt us i).val.D.d.k) ∧ w.cell? ⟨g, i * 23 + 9, none⟩ = some (.string (slAt us i).val.D.d.e.key) ∧ w.cell? ⟨g, i * 23 + 10, none⟩ = some (.int .i64 (slAt us i).val.D.d.e.s) ∧ w.cell? ⟨g, i * 23 + 11, none⟩ = some (.int .i64 (slAt us i).val.D.d.e.g) ∧ w.cell? ⟨g, i * 23 + 12, none⟩ = some (.int .i64 (slAt us i).val.D.d.e.c) ∧ w.cell? ⟨g, i * 23 + 13, none⟩ = some (.string (slAt us i).val.D.d.key) ∧ w.cell? ⟨g, i * 23 + 14, none⟩ = some (.int .i64 (slAt us i).val.D.d.pg) ∧ w.cell? ⟨g, i * 23 + 15, none⟩ = some (.bool (slAt us i).val.D.d.rt.leaf) ∧ w.cell? ⟨g, i * 23 + 16, none⟩ = some (.string (slAt us i).val.D.d.rt.lo) ∧ w.cell? ⟨g, i * 23 + 17, none⟩ = some (.string (slAt us i).val.D.d.rt.hi) ∧ w.cell? ⟨g, i * 23 + 18, none⟩ = some (.int .i64 (slAt us i).val.D.d.rt.r) ∧ w.cell? ⟨g, i * 23 + 19, none⟩ = some (.slice (slAt us i).val.D.p (slAt us i).val.D.n (slAt us i).val.D.c) ∧ w.cell? ⟨g, i * 23 + 20, none⟩ = some (.int .i64 (slAt us i).val.s) ∧ w.cell? ⟨g, i * 23 + 21, none⟩ = some (.int .i64 (slAt us i).val.g) ∧ w.cell? ⟨g, i * 23 + 22, none⟩ = some (.int .i64 (slAt us i).val.long) :=
  ⟨row_cells ndK hn h i hi 0 _ rfl, row_cells ndK hn h i hi 1 _ rfl, row_cells ndK hn h i hi 2 _ rfl, row_cells ndK hn h i hi 3 _ rfl, row_cells ndK hn h i hi 4 _ rfl, row_cells ndK hn h i hi 5 _ rfl, row_cells ndK hn h i hi 6 _ rfl, row_cells ndK hn h i hi 7 _ rfl, row_cells ndK hn h i hi 8 _ rfl, row_cells ndK hn h i hi 9 _ rfl, row_cells ndK hn h i hi 10 _ rfl, row_cells ndK hn h i hi 11 _ rfl, row_cells ndK hn h i hi 12 _ rfl, row_cells ndK hn h i hi 13 _ rfl, row_cells ndK hn h i hi 14 _ rfl, row_cells ndK hn h i hi 15 _ rfl, row_cells ndK hn h i hi 16 _ rfl, row_cells ndK hn h i hi 17 _ rfl, row_cells ndK hn h i hi 18 _ rfl, row_cells ndK hn h i hi 19 _ rfl, row_cells ndK hn h i hi 20 _ rfl, row_cells ndK hn h i hi 21 _ rfl, row_cells ndK hn h i hi 22 _ rfl⟩

end Go.Proofs.YtoehlgigidgfpaaGreat
