/- What heap's arenas hold: cells and links. -/
import Derived.Test.YtbdcdiihaecheaaVsM
import Derived.Test.YtbdcdiihaecheaaAgCnt
namespace Go.Proofs.Ytbdcdiihaecheaa
open Go.RowKit
set_option linter.unusedVariables false
set_option maxRecDepth 100000

/-- A cell. -/
structure Cl where
  key : ByteArray
  s : Int
  g : Int
  closed : Bool

/-- A version in a chain. -/
structure Ln where
  ts : Int
  val : ByteArray
  del : Bool
  s : Int
  g : Int

abbrev Cl.zero : Cl := ⟨⟨#[]⟩, 0, 0, false⟩
abbrev Ln.zero : Ln := ⟨0, ⟨#[]⟩, false, 0, 0⟩

def Cl.cells (x : Cl) : List Value := [.string x.key, .int .i64 x.s, .int .i64 x.g, .bool x.closed]
abbrev Cl.v (x : Cl) : Value := .agg #[.string x.key, .int .i64 x.s, .int .i64 x.g, .bool x.closed]
def Ln.cells (x : Ln) : List Value := [.int .i64 x.ts, .string x.val, .bool x.del, .int .i64 x.s, .int .i64 x.g]
abbrev Ln.v (x : Ln) : Value := .agg #[.int .i64 x.ts, .string x.val, .bool x.del, .int .i64 x.s, .int .i64 x.g]

theorem clK : Knd Cl.cells 4 := ⟨fun _ => rfl, fun x u hu => by simp [Cl.cells] at hu; rcases hu with rfl | rfl | rfl | rfl <;> rfl, by decide⟩
theorem lnK : Knd Ln.cells 5 := ⟨fun _ => rfl, fun x u hu => by simp [Ln.cells] at hu; rcases hu with rfl | rfl | rfl | rfl | rfl <;> rfl, by decide⟩

set_option linter.unusedSectionVars false
variable [Inhabited Cl] [Inhabited Ln]

theorem sl6 {w : World} {tS : TypeId} {us : List (Sl Cl)} {g n c : Nat} (hn : us.length = n) (h : w.ownsRow 0 tS 6 (.slice (some ⟨g, 0, none⟩) n c) us.length (flat (slc Cl.cells) us)) (i : Nat) (hi : i < n) :
    w.cell? ⟨g, i * 6, none⟩ = some (.int .i64 (slAt us i).gen) ∧ w.cell? ⟨g, i * 6 + 1, none⟩ = some (.bool (slAt us i).given) ∧ w.cell? ⟨g, i * 6 + 2, none⟩ = some (.string (slAt us i).val.key) ∧ w.cell? ⟨g, i * 6 + 3, none⟩ = some (.int .i64 (slAt us i).val.s) ∧ w.cell? ⟨g, i * 6 + 4, none⟩ = some (.int .i64 (slAt us i).val.g) ∧ w.cell? ⟨g, i * 6 + 5, none⟩ = some (.bool (slAt us i).val.closed) :=
  ⟨row_cells clK hn h i hi 0 _ rfl, row_cells clK hn h i hi 1 _ rfl, row_cells clK hn h i hi 2 _ rfl, row_cells clK hn h i hi 3 _ rfl, row_cells clK hn h i hi 4 _ rfl, row_cells clK hn h i hi 5 _ rfl⟩

theorem sl7 {w : World} {tS : TypeId} {us : List (Sl Ln)} {g n c : Nat} (hn : us.length = n) (h : w.ownsRow 0 tS 7 (.slice (some ⟨g, 0, none⟩) n c) us.length (flat (slc Ln.cells) us)) (i : Nat) (hi : i < n) :
    w.cell? ⟨g, i * 7, none⟩ = some (.int .i64 (slAt us i).gen) ∧ w.cell? ⟨g, i * 7 + 1, none⟩ = some (.bool (slAt us i).given) ∧ w.cell? ⟨g, i * 7 + 2, none⟩ = some (.int .i64 (slAt us i).val.ts) ∧ w.cell? ⟨g, i * 7 + 3, none⟩ = some (.string (slAt us i).val.val) ∧ w.cell? ⟨g, i * 7 + 4, none⟩ = some (.bool (slAt us i).val.del) ∧ w.cell? ⟨g, i * 7 + 5, none⟩ = some (.int .i64 (slAt us i).val.s) ∧ w.cell? ⟨g, i * 7 + 6, none⟩ = some (.int .i64 (slAt us i).val.g) :=
  ⟨row_cells lnK hn h i hi 0 _ rfl, row_cells lnK hn h i hi 1 _ rfl, row_cells lnK hn h i hi 2 _ rfl, row_cells lnK hn h i hi 3 _ rfl, row_cells lnK hn h i hi 4 _ rfl, row_cells lnK hn h i hi 5 _ rfl, row_cells lnK hn h i hi 6 _ rfl⟩

end Go.Proofs.Ytbdcdiihaecheaa
