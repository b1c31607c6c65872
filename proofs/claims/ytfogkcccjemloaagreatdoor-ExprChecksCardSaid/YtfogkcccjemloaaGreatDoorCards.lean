/-
  DERIVED. GIVEN WITH THE SEED: THE CARDS: each row of YtfogkcccjemloaaGreatDoorRows.lean that lists a variable, with what it lists TIED to the program's text (the seventh form; the later family's looks); each row that meets fmt, with fmt's text TOLD by the authors' own Lean function (tested against real Go, not proved from fmt's source: count such statements apart). THE CARD IS WHAT COUNTS. Prove the row's statement (the work); the ties are given (YtfogkcccjemloaaGreatDoorTie.lean); close each card by the builder's one call (the guide's Derived/Test/ToyasCard.lean, 'card_holds'). Laid BY PROGRAM, IN A SANDBOX (cutbox-door.mjs). By AI agents, Wed Nov 11 2026. No macro, syntax, notation, axiom, sorry.
-/
import Derived.Test.YtfogkcccjemloaaGreatDoorRows
import GoSem.ClaimSeven
namespace Go.Proofs.YtfogkcccjemloaaGreatDoor
namespace Rows

/-- THE TIED CARD OF 'synchronylaw06.ExprChecks'. -/
def exprChecksCard : Claim7 := { stood := { row := exprChecksRow, standIns := [], harness := (true, "03074afb5683eb6ecfb25ea503bff99f0913453e637bf0c37dff984876cb6421"), looks := true }, kinds := [], alts := [], laidByText := true, laidKinds := [.data, .data, .data, .data, .sentinel, .sentinel, .pinned], laidTests := true, laidLooks := .later }
def ExprChecksCardSaid : Prop := Claim7.holds Tryz.pinned (.plain (OpenSpec.ofChange exprChecksSpec)) exprChecksCard

/-- THE TIED CARD OF 'synchronylaw06.ExprCounts'. -/
def exprCountsCard : Claim7 := { stood := { row := exprCountsRow, standIns := [], harness := (true, "03074afb5683eb6ecfb25ea503bff99f0913453e637bf0c37dff984876cb6421"), looks := true }, kinds := [], alts := [], laidByText := true, laidKinds := [.data, .data, .data, .data, .sentinel, .sentinel, .pinned], laidTests := true, laidLooks := .later }
def ExprCountsCardSaid : Prop := Claim7.holds Tryz.pinned (.plain (OpenSpec.ofChange exprCountsSpec)) exprCountsCard

/-- THE TIED CARD OF 'synchronylaw06.ExprNames'. -/
def exprNamesCard : Claim7 := { stood := { row := exprNamesRow, standIns := [], harness := (true, "03074afb5683eb6ecfb25ea503bff99f0913453e637bf0c37dff984876cb6421"), looks := true }, kinds := [], alts := [], laidByText := true, laidKinds := [.data, .data, .data, .data, .sentinel, .sentinel, .pinned], laidTests := true, laidLooks := .later }
def ExprNamesCardSaid : Prop := Claim7.holds Tryz.pinned (.plain (OpenSpec.ofChange exprNamesSpec)) exprNamesCard

/-- THE TIED CARD OF 'synchronylaw06.ExprSame'. -/
def exprSameCard : Claim7 := { stood := { row := exprSameRow, standIns := [], harness := (true, "03074afb5683eb6ecfb25ea503bff99f0913453e637bf0c37dff984876cb6421"), looks := true }, kinds := [], alts := [], laidByText := true, laidKinds := [.data, .data, .data, .data, .sentinel, .sentinel, .pinned], laidTests := true, laidLooks := .later }
def ExprSameCardSaid : Prop := Claim7.holds Tryz.pinned (.plain (OpenSpec.ofChange exprSameSpec)) exprSameCard

/-- THE TIED CARD OF 'synchronylaw06.ExprRenames'. -/
def exprRenamesCard : Claim7 := { stood := { row := exprRenamesRow, standIns := [], harness := (true, "03074afb5683eb6ecfb25ea503bff99f0913453e637bf0c37dff984876cb6421"), looks := true }, kinds := [], alts := [], laidByText := true, laidKinds := [.data, .data, .data, .data, .sentinel, .sentinel, .pinned], laidTests := true, laidLooks := .later }
def ExprRenamesCardSaid : Prop := Claim7.holds Tryz.pinned (.plain (OpenSpec.ofChange exprRenamesSpec)) exprRenamesCard

/-- THE TIED CARD OF 'synchronylaw06.ExprEach'. -/
def exprEachCard : Claim7 := { stood := { row := exprEachRow, standIns := [], harness := (true, "03074afb5683eb6ecfb25ea503bff99f0913453e637bf0c37dff984876cb6421"), looks := true }, kinds := [], alts := [], laidByText := true, laidKinds := [.data, .data, .data, .data, .sentinel, .sentinel, .pinned], laidTests := true, laidLooks := .later }
def ExprEachCardSaid : Prop := Claim7.holds Tryz.pinned (.plain (OpenSpec.ofChange exprEachSpec)) exprEachCard

/-- THE TIED CARD OF 'synchronylaw06.ExprParts'. -/
def exprPartsCard : Claim7 := { stood := { row := exprPartsRow, standIns := [], harness := (true, "03074afb5683eb6ecfb25ea503bff99f0913453e637bf0c37dff984876cb6421"), looks := true }, kinds := [], alts := [], laidByText := true, laidKinds := [.data, .data, .data, .data, .sentinel, .sentinel, .pinned], laidTests := true, laidLooks := .later }
def ExprPartsCardSaid : Prop := Claim7.holds Tryz.pinned (.plain (OpenSpec.ofChange exprPartsSpec)) exprPartsCard

/-- THE SECOND FORM's CARD OF 'synchronylaw06.ExprChecks'. -/
def exprChecksUptoCard : Claim7 := { stood := { row := exprChecksUptoRow, standIns := [], harness := (true, "03074afb5683eb6ecfb25ea503bff99f0913453e637bf0c37dff984876cb6421"), looks := true }, kinds := [], alts := [], laidByText := true, laidKinds := [.data, .data, .data, .data, .sentinel, .sentinel, .pinned], laidTests := true, laidLooks := .later }
def ExprChecksUptoCardSaid : Prop := Claim7.holds Tryz.pinned (.plain (OpenSpec.upto exprChecksSpec)) exprChecksUptoCard

/-- THE SECOND FORM's CARD OF 'synchronylaw06.ExprCounts'. -/
def exprCountsUptoCard : Claim7 := { stood := { row := exprCountsUptoRow, standIns := [], harness := (true, "03074afb5683eb6ecfb25ea503bff99f0913453e637bf0c37dff984876cb6421"), looks := true }, kinds := [], alts := [], laidByText := true, laidKinds := [.data, .data, .data, .data, .sentinel, .sentinel, .pinned], laidTests := true, laidLooks := .later }
def ExprCountsUptoCardSaid : Prop := Claim7.holds Tryz.pinned (.plain (OpenSpec.upto exprCountsSpec)) exprCountsUptoCard

/-- THE SECOND FORM's CARD OF 'synchronylaw06.ExprNames'. -/
def exprNamesUptoCard : Claim7 := { stood := { row := exprNamesUptoRow, standIns := [], harness := (true, "03074afb5683eb6ecfb25ea503bff99f0913453e637bf0c37dff984876cb6421"), looks := true }, kinds := [], alts := [], laidByText := true, laidKinds := [.data, .data, .data, .data, .sentinel, .sentinel, .pinned], laidTests := true, laidLooks := .later }
def ExprNamesUptoCardSaid : Prop := Claim7.holds Tryz.pinned (.plain (OpenSpec.upto exprNamesSpec)) exprNamesUptoCard

/-- THE SECOND FORM's CARD OF 'synchronylaw06.ExprSame'. -/
def exprSameUptoCard : Claim7 := { stood := { row := exprSameUptoRow, standIns := [], harness := (true, "03074afb5683eb6ecfb25ea503bff99f0913453e637bf0c37dff984876cb6421"), looks := true }, kinds := [], alts := [], laidByText := true, laidKinds := [.data, .data, .data, .data, .sentinel, .sentinel, .pinned], laidTests := true, laidLooks := .later }
def ExprSameUptoCardSaid : Prop := Claim7.holds Tryz.pinned (.plain (OpenSpec.upto exprSameSpec)) exprSameUptoCard

/-- THE SECOND FORM's CARD OF 'synchronylaw06.ExprRenames'. -/
def exprRenamesUptoCard : Claim7 := { stood := { row := exprRenamesUptoRow, standIns := [], harness := (true, "03074afb5683eb6ecfb25ea503bff99f0913453e637bf0c37dff984876cb6421"), looks := true }, kinds := [], alts := [], laidByText := true, laidKinds := [.data, .data, .data, .data, .sentinel, .sentinel, .pinned], laidTests := true, laidLooks := .later }
def ExprRenamesUptoCardSaid : Prop := Claim7.holds Tryz.pinned (.plain (OpenSpec.upto exprRenamesSpec)) exprRenamesUptoCard

/-- THE SECOND FORM's CARD OF 'synchronylaw06.ExprEach'. -/
def exprEachUptoCard : Claim7 := { stood := { row := exprEachUptoRow, standIns := [], harness := (true, "03074afb5683eb6ecfb25ea503bff99f0913453e637bf0c37dff984876cb6421"), looks := true }, kinds := [], alts := [], laidByText := true, laidKinds := [.data, .data, .data, .data, .sentinel, .sentinel, .pinned], laidTests := true, laidLooks := .later }
def ExprEachUptoCardSaid : Prop := Claim7.holds Tryz.pinned (.plain (OpenSpec.upto exprEachSpec)) exprEachUptoCard

/-- THE SECOND FORM's CARD OF 'synchronylaw06.ExprParts'. -/
def exprPartsUptoCard : Claim7 := { stood := { row := exprPartsUptoRow, standIns := [], harness := (true, "03074afb5683eb6ecfb25ea503bff99f0913453e637bf0c37dff984876cb6421"), looks := true }, kinds := [], alts := [], laidByText := true, laidKinds := [.data, .data, .data, .data, .sentinel, .sentinel, .pinned], laidTests := true, laidLooks := .later }
def ExprPartsUptoCardSaid : Prop := Claim7.holds Tryz.pinned (.plain (OpenSpec.upto exprPartsSpec)) exprPartsUptoCard
end Rows
end Go.Proofs.YtfogkcccjemloaaGreatDoor
