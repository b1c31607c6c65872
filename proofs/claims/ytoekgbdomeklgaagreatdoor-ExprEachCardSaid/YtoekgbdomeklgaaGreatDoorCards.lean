/-
  DERIVED. GIVEN WITH THE SEED: THE CARDS: each row of YtoekgbdomeklgaaGreatDoorRows.lean that lists a variable, with what it lists TIED to the program's text (the seventh form; the later family's looks); each row that meets fmt, with fmt's text TOLD by the authors' own Lean function (tested against real Go, not proved from fmt's source: count such statements apart). THE CARD IS WHAT COUNTS. Prove the row's statement (the work); the ties are given (YtoekgbdomeklgaaGreatDoorTie.lean); close each card by the builder's one call (the guide's Derived/Test/ToyasCard.lean, 'card_holds'). Laid BY PROGRAM, IN A SANDBOX (cutbox-door.mjs). By AI agents, Wed Nov 11 2026. No macro, syntax, notation, axiom, sorry.
-/
import Derived.Test.YtoekgbdomeklgaaGreatDoorRows
import GoSem.ClaimSeven
namespace Go.Proofs.YtoekgbdomeklgaaGreatDoor
namespace Rows

/-- THE TIED CARD OF 'synchronylaw06.ExprEach'. -/
def exprEachCard : Claim7 := { stood := { row := exprEachRow, standIns := [], harness := (true, "07549926d25d1756c87116af6b886eb2f6b82d5016c03d77beda938666d585d8"), looks := true }, kinds := [], alts := [], laidByText := true, laidKinds := [.data, .data, .data, .data, .sentinel, .sentinel, .pinned], laidTests := true, laidLooks := .later }
def ExprEachCardSaid : Prop := Claim7.holds Tryz.pinned (.plain (OpenSpec.ofChange exprEachSpec)) exprEachCard

/-- THE SECOND FORM's CARD OF 'synchronylaw06.ExprEach'. -/
def exprEachUptoCard : Claim7 := { stood := { row := exprEachUptoRow, standIns := [], harness := (true, "07549926d25d1756c87116af6b886eb2f6b82d5016c03d77beda938666d585d8"), looks := true }, kinds := [], alts := [], laidByText := true, laidKinds := [.data, .data, .data, .data, .sentinel, .sentinel, .pinned], laidTests := true, laidLooks := .later }
def ExprEachUptoCardSaid : Prop := Claim7.holds Tryz.pinned (.plain (OpenSpec.upto exprEachSpec)) exprEachUptoCard
end Rows
end Go.Proofs.YtoekgbdomeklgaaGreatDoor
