/-
  DERIVED. GIVEN WITH THE SEED: THE CARDS: each row of YtnjafmjkaajbkaaDoorRows.lean that lists a variable, with what it lists TIED to the program's text (the seventh form; the later family's looks); each row that meets fmt, with fmt's text TOLD by the authors' own Lean function (tested against real Go, not proved from fmt's source: count such statements apart). THE CARD IS WHAT COUNTS. Prove the row's statement (the work); the ties are given (YtnjafmjkaajbkaaDoorTie.lean); close each card by the builder's one call (the guide's Derived/Test/ToyasCard.lean, 'card_holds'). Laid BY PROGRAM, IN A SANDBOX (cutbox-door.mjs). By AI agents, Wed Nov 11 2026. No macro, syntax, notation, axiom, sorry.
-/
import Derived.Test.YtnjafmjkaajbkaaDoorRows
import GoSem.ClaimSeven
namespace Go.Proofs.YtnjafmjkaajbkaaDoor
namespace Rows

/-- THE TIED CARD OF 'cressetlaw10.TableDoes'. -/
def tableDoesCard : Claim7 := { stood := { row := tableDoesRow, standIns := [], harness := (true, "e607a83212b2bd9dde7517e0fb62a0cf29c43f3f8b19bd4a5bbe458836b2a4bd"), looks := false }, kinds := [], alts := [], laidByText := true, laidKinds := [.data], laidTests := true, laidLooks := .later }
def TableDoesCardSaid : Prop := Claim7.holds Tryd.pinned (.plain (OpenSpec.ofChange tableDoesSpec)) tableDoesCard

/-- THE TIED CARD OF 'cressetlaw10.TableGone'. -/
def tableGoneCard : Claim7 := { stood := { row := tableGoneRow, standIns := [], harness := (true, "e607a83212b2bd9dde7517e0fb62a0cf29c43f3f8b19bd4a5bbe458836b2a4bd"), looks := false }, kinds := [], alts := [], laidByText := true, laidKinds := [.data], laidTests := true, laidLooks := .later }
def TableGoneCardSaid : Prop := Claim7.holds Tryd.pinned (.plain (OpenSpec.ofChange tableGoneSpec)) tableGoneCard

/-- THE TIED CARD OF 'cressetlaw10.TableOne'. -/
def tableOneCard : Claim7 := { stood := { row := tableOneRow, standIns := [], harness := (true, "e607a83212b2bd9dde7517e0fb62a0cf29c43f3f8b19bd4a5bbe458836b2a4bd"), looks := false }, kinds := [], alts := [], laidByText := true, laidKinds := [.data], laidTests := true, laidLooks := .later }
def TableOneCardSaid : Prop := Claim7.holds Tryd.pinned (.plain (OpenSpec.ofChange tableOneSpec)) tableOneCard

/-- THE TIED CARD OF 'cressetlaw10.TableNone'. -/
def tableNoneCard : Claim7 := { stood := { row := tableNoneRow, standIns := [], harness := (true, "e607a83212b2bd9dde7517e0fb62a0cf29c43f3f8b19bd4a5bbe458836b2a4bd"), looks := false }, kinds := [], alts := [], laidByText := true, laidKinds := [.data], laidTests := true, laidLooks := .later }
def TableNoneCardSaid : Prop := Claim7.holds Tryd.pinned (.plain (OpenSpec.ofChange tableNoneSpec)) tableNoneCard

/-- THE SECOND FORM's CARD OF 'cressetlaw10.TableDoes'. -/
def tableDoesUptoCard : Claim7 := { stood := { row := tableDoesUptoRow, standIns := [], harness := (true, "e607a83212b2bd9dde7517e0fb62a0cf29c43f3f8b19bd4a5bbe458836b2a4bd"), looks := false }, kinds := [], alts := [], laidByText := true, laidKinds := [.data], laidTests := true, laidLooks := .later }
def TableDoesUptoCardSaid : Prop := Claim7.holds Tryd.pinned (.plain (OpenSpec.upto tableDoesSpec)) tableDoesUptoCard

/-- THE SECOND FORM's CARD OF 'cressetlaw10.TableGone'. -/
def tableGoneUptoCard : Claim7 := { stood := { row := tableGoneUptoRow, standIns := [], harness := (true, "e607a83212b2bd9dde7517e0fb62a0cf29c43f3f8b19bd4a5bbe458836b2a4bd"), looks := false }, kinds := [], alts := [], laidByText := true, laidKinds := [.data], laidTests := true, laidLooks := .later }
def TableGoneUptoCardSaid : Prop := Claim7.holds Tryd.pinned (.plain (OpenSpec.upto tableGoneSpec)) tableGoneUptoCard

/-- THE SECOND FORM's CARD OF 'cressetlaw10.TableOne'. -/
def tableOneUptoCard : Claim7 := { stood := { row := tableOneUptoRow, standIns := [], harness := (true, "e607a83212b2bd9dde7517e0fb62a0cf29c43f3f8b19bd4a5bbe458836b2a4bd"), looks := false }, kinds := [], alts := [], laidByText := true, laidKinds := [.data], laidTests := true, laidLooks := .later }
def TableOneUptoCardSaid : Prop := Claim7.holds Tryd.pinned (.plain (OpenSpec.upto tableOneSpec)) tableOneUptoCard

/-- THE SECOND FORM's CARD OF 'cressetlaw10.TableNone'. -/
def tableNoneUptoCard : Claim7 := { stood := { row := tableNoneUptoRow, standIns := [], harness := (true, "e607a83212b2bd9dde7517e0fb62a0cf29c43f3f8b19bd4a5bbe458836b2a4bd"), looks := false }, kinds := [], alts := [], laidByText := true, laidKinds := [.data], laidTests := true, laidLooks := .later }
def TableNoneUptoCardSaid : Prop := Claim7.holds Tryd.pinned (.plain (OpenSpec.upto tableNoneSpec)) tableNoneUptoCard
end Rows
end Go.Proofs.YtnjafmjkaajbkaaDoor
