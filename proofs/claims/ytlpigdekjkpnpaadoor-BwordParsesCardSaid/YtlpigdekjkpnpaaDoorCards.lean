/-
  DERIVED. GIVEN WITH THE SEED: THE CARDS: each row of YtlpigdekjkpnpaaDoorRows.lean that lists a variable, with what it lists TIED to the program's text (the seventh form; the later family's looks); each row that meets fmt, with fmt's text TOLD by the authors' own Lean function (tested against real Go, not proved from fmt's source: count such statements apart). THE CARD IS WHAT COUNTS. Prove the row's statement (the work); the ties are given (YtlpigdekjkpnpaaDoorTie.lean); close each card by the builder's one call (the guide's Derived/Test/ToyasCard.lean, 'card_holds'). Laid BY PROGRAM, IN A SANDBOX (cutbox-door.mjs). By AI agents, Wed Nov 11 2026. No macro, syntax, notation, axiom, sorry.
-/
import Derived.Test.YtlpigdekjkpnpaaDoorRows
import GoSem.ClaimSeven
namespace Go.Proofs.YtlpigdekjkpnpaaDoor
namespace Rows

/-- THE TIED CARD OF 'synchronylaw02.BwordTexts'. -/
def bwordTextsCard : Claim7 := { stood := { row := bwordTextsRow, standIns := [], harness := (true, "6ce96e7f74ce113aff0cfa6cc404af956564a1c50c34b23f6da349a48b22ecbd"), looks := false }, kinds := [], alts := [], laidByText := true, laidKinds := [.data, .pinned], laidTests := true, laidLooks := .later }
def BwordTextsCardSaid : Prop := Claim7.holds Tryd.pinned (.plain (OpenSpec.ofChange bwordTextsSpec)) bwordTextsCard

/-- THE TIED CARD OF 'synchronylaw02.BwordParses'. -/
def bwordParsesCard : Claim7 := { stood := { row := bwordParsesRow, standIns := [], harness := (true, "6ce96e7f74ce113aff0cfa6cc404af956564a1c50c34b23f6da349a48b22ecbd"), looks := false }, kinds := [], alts := [], laidByText := true, laidKinds := [.data, .pinned], laidTests := true, laidLooks := .later }
def BwordParsesCardSaid : Prop := Claim7.holds Tryd.pinned (.plain (OpenSpec.ofChange bwordParsesSpec)) bwordParsesCard

/-- THE SECOND FORM's CARD OF 'synchronylaw02.BwordTexts'. -/
def bwordTextsUptoCard : Claim7 := { stood := { row := bwordTextsUptoRow, standIns := [], harness := (true, "6ce96e7f74ce113aff0cfa6cc404af956564a1c50c34b23f6da349a48b22ecbd"), looks := false }, kinds := [], alts := [], laidByText := true, laidKinds := [.data, .pinned], laidTests := true, laidLooks := .later }
def BwordTextsUptoCardSaid : Prop := Claim7.holds Tryd.pinned (.plain (OpenSpec.upto bwordTextsSpec)) bwordTextsUptoCard

/-- THE SECOND FORM's CARD OF 'synchronylaw02.BwordParses'. -/
def bwordParsesUptoCard : Claim7 := { stood := { row := bwordParsesUptoRow, standIns := [], harness := (true, "6ce96e7f74ce113aff0cfa6cc404af956564a1c50c34b23f6da349a48b22ecbd"), looks := false }, kinds := [], alts := [], laidByText := true, laidKinds := [.data, .pinned], laidTests := true, laidLooks := .later }
def BwordParsesUptoCardSaid : Prop := Claim7.holds Tryd.pinned (.plain (OpenSpec.upto bwordParsesSpec)) bwordParsesUptoCard
end Rows
end Go.Proofs.YtlpigdekjkpnpaaDoor
