/-
  DERIVED. GIVEN WITH THE SEED: THE CARDS: each row of YthlapepjebidgaaGreatDoorRows.lean that lists a variable, with what it lists TIED to the program's text (the seventh form; the later family's looks); each row that meets fmt, with fmt's text TOLD by the authors' own Lean function (tested against real Go, not proved from fmt's source: count such statements apart). THE CARD IS WHAT COUNTS. Prove the row's statement (the work); the ties are given (YthlapepjebidgaaGreatDoorTie.lean); close each card by the builder's one call (the guide's Derived/Test/ToyasCard.lean, 'card_holds'). Laid BY PROGRAM, IN A SANDBOX (cutbox-door.mjs). By AI agents, Wed Nov 11 2026. No macro, syntax, notation, axiom, sorry.
-/
import Derived.Test.YthlapepjebidgaaGreatDoorRows
import GoSem.ClaimSeven
namespace Go.Proofs.YthlapepjebidgaaGreatDoor
namespace Rows

/-- THE TIED CARD OF 'synchronylaw06.ExprEach'. -/
def exprEachCard : Claim7 := { stood := { row := exprEachRow, standIns := [], harness := (true, "5220307cb1fdf7ebb783575f603ff4fddcee35a3fea8509df787e803cd574a07"), looks := true }, kinds := [], alts := [], laidByText := true, laidKinds := [.data, .data, .data, .data, .sentinel, .sentinel, .pinned], laidTests := true, laidLooks := .later }
def ExprEachCardSaid : Prop := Claim7.holds Tryz.pinned (.plain (OpenSpec.ofChange exprEachSpec)) exprEachCard

/-- THE TIED CARD OF 'synchronylaw07.ShapeChecks'. -/
def shapeChecksCard : Claim7 := { stood := { row := shapeChecksRow, standIns := [], harness := (true, "5220307cb1fdf7ebb783575f603ff4fddcee35a3fea8509df787e803cd574a07"), looks := true }, kinds := [], alts := [], laidByText := true, laidKinds := [.data, .data, .data, .data, .sentinel, .sentinel, .pinned], laidTests := true, laidLooks := .later }
def ShapeChecksCardSaid : Prop := Claim7.holds Tryz.pinned (.plain (OpenSpec.ofChange shapeChecksSpec)) shapeChecksCard

/-- THE TIED CARD OF 'synchronylaw07.ShapeExprs'. -/
def shapeExprsCard : Claim7 := { stood := { row := shapeExprsRow, standIns := [], harness := (true, "5220307cb1fdf7ebb783575f603ff4fddcee35a3fea8509df787e803cd574a07"), looks := true }, kinds := [], alts := [], laidByText := true, laidKinds := [.data, .data, .data, .data, .sentinel, .sentinel, .pinned], laidTests := true, laidLooks := .later }
def ShapeExprsCardSaid : Prop := Claim7.holds Tryz.pinned (.plain (OpenSpec.ofChange shapeExprsSpec)) shapeExprsCard

/-- THE TIED CARD OF 'synchronylaw07.ShapeSames'. -/
def shapeSamesCard : Claim7 := { stood := { row := shapeSamesRow, standIns := [], harness := (true, "5220307cb1fdf7ebb783575f603ff4fddcee35a3fea8509df787e803cd574a07"), looks := true }, kinds := [], alts := [], laidByText := true, laidKinds := [.data, .data, .data, .data, .sentinel, .sentinel, .pinned], laidTests := true, laidLooks := .later }
def ShapeSamesCardSaid : Prop := Claim7.holds Tryz.pinned (.plain (OpenSpec.ofChange shapeSamesSpec)) shapeSamesCard

/-- THE TIED CARD OF 'synchronylaw07.ShapeLess'. -/
def shapeLessCard : Claim7 := { stood := { row := shapeLessRow, standIns := [], harness := (true, "5220307cb1fdf7ebb783575f603ff4fddcee35a3fea8509df787e803cd574a07"), looks := true }, kinds := [], alts := [], laidByText := true, laidKinds := [.data, .data, .data, .data, .sentinel, .sentinel, .pinned], laidTests := true, laidLooks := .later }
def ShapeLessCardSaid : Prop := Claim7.holds Tryz.pinned (.plain (OpenSpec.ofChange shapeLessSpec)) shapeLessCard

/-- THE TIED CARD OF 'synchronylaw07.ShapeLimits'. -/
def shapeLimitsCard : Claim7 := { stood := { row := shapeLimitsRow, standIns := [], harness := (true, "5220307cb1fdf7ebb783575f603ff4fddcee35a3fea8509df787e803cd574a07"), looks := true }, kinds := [], alts := [], laidByText := true, laidKinds := [.data, .data, .data, .data, .sentinel, .sentinel, .pinned], laidTests := true, laidLooks := .later }
def ShapeLimitsCardSaid : Prop := Claim7.holds Tryz.pinned (.plain (OpenSpec.ofChange shapeLimitsSpec)) shapeLimitsCard

/-- THE TIED CARD OF 'synchronylaw07.ShapeInside'. -/
def shapeInsideCard : Claim7 := { stood := { row := shapeInsideRow, standIns := [], harness := (true, "5220307cb1fdf7ebb783575f603ff4fddcee35a3fea8509df787e803cd574a07"), looks := true }, kinds := [], alts := [], laidByText := true, laidKinds := [.data, .data, .data, .data, .sentinel, .sentinel, .pinned], laidTests := true, laidLooks := .later }
def ShapeInsideCardSaid : Prop := Claim7.holds Tryz.pinned (.plain (OpenSpec.ofChange shapeInsideSpec)) shapeInsideCard

/-- THE SECOND FORM's CARD OF 'synchronylaw06.ExprEach'. -/
def exprEachUptoCard : Claim7 := { stood := { row := exprEachUptoRow, standIns := [], harness := (true, "5220307cb1fdf7ebb783575f603ff4fddcee35a3fea8509df787e803cd574a07"), looks := true }, kinds := [], alts := [], laidByText := true, laidKinds := [.data, .data, .data, .data, .sentinel, .sentinel, .pinned], laidTests := true, laidLooks := .later }
def ExprEachUptoCardSaid : Prop := Claim7.holds Tryz.pinned (.plain (OpenSpec.upto exprEachSpec)) exprEachUptoCard

/-- THE SECOND FORM's CARD OF 'synchronylaw07.ShapeChecks'. -/
def shapeChecksUptoCard : Claim7 := { stood := { row := shapeChecksUptoRow, standIns := [], harness := (true, "5220307cb1fdf7ebb783575f603ff4fddcee35a3fea8509df787e803cd574a07"), looks := true }, kinds := [], alts := [], laidByText := true, laidKinds := [.data, .data, .data, .data, .sentinel, .sentinel, .pinned], laidTests := true, laidLooks := .later }
def ShapeChecksUptoCardSaid : Prop := Claim7.holds Tryz.pinned (.plain (OpenSpec.upto shapeChecksSpec)) shapeChecksUptoCard

/-- THE SECOND FORM's CARD OF 'synchronylaw07.ShapeExprs'. -/
def shapeExprsUptoCard : Claim7 := { stood := { row := shapeExprsUptoRow, standIns := [], harness := (true, "5220307cb1fdf7ebb783575f603ff4fddcee35a3fea8509df787e803cd574a07"), looks := true }, kinds := [], alts := [], laidByText := true, laidKinds := [.data, .data, .data, .data, .sentinel, .sentinel, .pinned], laidTests := true, laidLooks := .later }
def ShapeExprsUptoCardSaid : Prop := Claim7.holds Tryz.pinned (.plain (OpenSpec.upto shapeExprsSpec)) shapeExprsUptoCard

/-- THE SECOND FORM's CARD OF 'synchronylaw07.ShapeSames'. -/
def shapeSamesUptoCard : Claim7 := { stood := { row := shapeSamesUptoRow, standIns := [], harness := (true, "5220307cb1fdf7ebb783575f603ff4fddcee35a3fea8509df787e803cd574a07"), looks := true }, kinds := [], alts := [], laidByText := true, laidKinds := [.data, .data, .data, .data, .sentinel, .sentinel, .pinned], laidTests := true, laidLooks := .later }
def ShapeSamesUptoCardSaid : Prop := Claim7.holds Tryz.pinned (.plain (OpenSpec.upto shapeSamesSpec)) shapeSamesUptoCard

/-- THE SECOND FORM's CARD OF 'synchronylaw07.ShapeLess'. -/
def shapeLessUptoCard : Claim7 := { stood := { row := shapeLessUptoRow, standIns := [], harness := (true, "5220307cb1fdf7ebb783575f603ff4fddcee35a3fea8509df787e803cd574a07"), looks := true }, kinds := [], alts := [], laidByText := true, laidKinds := [.data, .data, .data, .data, .sentinel, .sentinel, .pinned], laidTests := true, laidLooks := .later }
def ShapeLessUptoCardSaid : Prop := Claim7.holds Tryz.pinned (.plain (OpenSpec.upto shapeLessSpec)) shapeLessUptoCard

/-- THE SECOND FORM's CARD OF 'synchronylaw07.ShapeLimits'. -/
def shapeLimitsUptoCard : Claim7 := { stood := { row := shapeLimitsUptoRow, standIns := [], harness := (true, "5220307cb1fdf7ebb783575f603ff4fddcee35a3fea8509df787e803cd574a07"), looks := true }, kinds := [], alts := [], laidByText := true, laidKinds := [.data, .data, .data, .data, .sentinel, .sentinel, .pinned], laidTests := true, laidLooks := .later }
def ShapeLimitsUptoCardSaid : Prop := Claim7.holds Tryz.pinned (.plain (OpenSpec.upto shapeLimitsSpec)) shapeLimitsUptoCard

/-- THE SECOND FORM's CARD OF 'synchronylaw07.ShapeInside'. -/
def shapeInsideUptoCard : Claim7 := { stood := { row := shapeInsideUptoRow, standIns := [], harness := (true, "5220307cb1fdf7ebb783575f603ff4fddcee35a3fea8509df787e803cd574a07"), looks := true }, kinds := [], alts := [], laidByText := true, laidKinds := [.data, .data, .data, .data, .sentinel, .sentinel, .pinned], laidTests := true, laidLooks := .later }
def ShapeInsideUptoCardSaid : Prop := Claim7.holds Tryz.pinned (.plain (OpenSpec.upto shapeInsideSpec)) shapeInsideUptoCard
end Rows
end Go.Proofs.YthlapepjebidgaaGreatDoor
