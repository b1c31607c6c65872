/-
  DERIVED. GIVEN WITH THE SEED: THE CARDS: each row of YtahffafobdiogaaDoorRows.lean that lists a variable, with what it lists TIED to the program's text (the seventh form; the later family's looks); each row that meets fmt, with fmt's text TOLD by the authors' own Lean function (tested against real Go, not proved from fmt's source: count such statements apart). THE CARD IS WHAT COUNTS. Prove the row's statement (the work); the ties are given (YtahffafobdiogaaDoorTie.lean); close each card by the builder's one call (the guide's Derived/Test/ToyasCard.lean, 'card_holds'). Laid BY PROGRAM, IN A SANDBOX (cutbox-door.mjs). By AI agents, Wed Nov 11 2026. No macro, syntax, notation, axiom, sorry.
-/
import Derived.Test.YtahffafobdiogaaDoorRows
import GoSem.ClaimSeven
namespace Go.Proofs.YtahffafobdiogaaDoor
namespace Rows

/-- THE TIED CARD OF 'synchronylaw04.GraphOrders'. -/
def graphOrdersCard : Claim7 := { stood := { row := graphOrdersRow, standIns := [], harness := (true, "ddb6cc96a84610efda5bf16bfec421319d6bdac1ab4e3bd06a3bf2f5792f3f6b"), looks := false }, kinds := [], alts := [], laidByText := true, laidKinds := [.data], laidTests := true, laidLooks := .later }
def GraphOrdersCardSaid : Prop := Claim7.holds Tryd.pinned (.plain (OpenSpec.ofChange graphOrdersSpec)) graphOrdersCard

/-- THE TIED CARD OF 'synchronylaw04.GraphCycles'. -/
def graphCyclesCard : Claim7 := { stood := { row := graphCyclesRow, standIns := [], harness := (true, "ddb6cc96a84610efda5bf16bfec421319d6bdac1ab4e3bd06a3bf2f5792f3f6b"), looks := false }, kinds := [], alts := [], laidByText := true, laidKinds := [.data], laidTests := true, laidLooks := .later }
def GraphCyclesCardSaid : Prop := Claim7.holds Tryd.pinned (.plain (OpenSpec.ofChange graphCyclesSpec)) graphCyclesCard

/-- THE TIED CARD OF 'synchronylaw04.GraphParts'. -/
def graphPartsCard : Claim7 := { stood := { row := graphPartsRow, standIns := [], harness := (true, "ddb6cc96a84610efda5bf16bfec421319d6bdac1ab4e3bd06a3bf2f5792f3f6b"), looks := false }, kinds := [], alts := [], laidByText := true, laidKinds := [.data], laidTests := true, laidLooks := .later }
def GraphPartsCardSaid : Prop := Claim7.holds Tryd.pinned (.plain (OpenSpec.ofChange graphPartsSpec)) graphPartsCard

/-- THE TIED CARD OF 'synchronylaw04.GraphForward'. -/
def graphForwardCard : Claim7 := { stood := { row := graphForwardRow, standIns := [], harness := (true, "ddb6cc96a84610efda5bf16bfec421319d6bdac1ab4e3bd06a3bf2f5792f3f6b"), looks := false }, kinds := [], alts := [], laidByText := true, laidKinds := [.data], laidTests := true, laidLooks := .later }
def GraphForwardCardSaid : Prop := Claim7.holds Tryd.pinned (.plain (OpenSpec.ofChange graphForwardSpec)) graphForwardCard

/-- THE TIED CARD OF 'synchronylaw04.GraphRound'. -/
def graphRoundCard : Claim7 := { stood := { row := graphRoundRow, standIns := [], harness := (true, "ddb6cc96a84610efda5bf16bfec421319d6bdac1ab4e3bd06a3bf2f5792f3f6b"), looks := false }, kinds := [], alts := [], laidByText := true, laidKinds := [.data], laidTests := true, laidLooks := .later }
def GraphRoundCardSaid : Prop := Claim7.holds Tryd.pinned (.plain (OpenSpec.ofChange graphRoundSpec)) graphRoundCard

/-- THE TIED CARD OF 'synchronylaw04.GraphTurned'. -/
def graphTurnedCard : Claim7 := { stood := { row := graphTurnedRow, standIns := [], harness := (true, "ddb6cc96a84610efda5bf16bfec421319d6bdac1ab4e3bd06a3bf2f5792f3f6b"), looks := false }, kinds := [], alts := [], laidByText := true, laidKinds := [.data], laidTests := true, laidLooks := .later }
def GraphTurnedCardSaid : Prop := Claim7.holds Tryd.pinned (.plain (OpenSpec.ofChange graphTurnedSpec)) graphTurnedCard

/-- THE SECOND FORM's CARD OF 'synchronylaw04.GraphOrders'. -/
def graphOrdersUptoCard : Claim7 := { stood := { row := graphOrdersUptoRow, standIns := [], harness := (true, "ddb6cc96a84610efda5bf16bfec421319d6bdac1ab4e3bd06a3bf2f5792f3f6b"), looks := false }, kinds := [], alts := [], laidByText := true, laidKinds := [.data], laidTests := true, laidLooks := .later }
def GraphOrdersUptoCardSaid : Prop := Claim7.holds Tryd.pinned (.plain (OpenSpec.upto graphOrdersSpec)) graphOrdersUptoCard

/-- THE SECOND FORM's CARD OF 'synchronylaw04.GraphCycles'. -/
def graphCyclesUptoCard : Claim7 := { stood := { row := graphCyclesUptoRow, standIns := [], harness := (true, "ddb6cc96a84610efda5bf16bfec421319d6bdac1ab4e3bd06a3bf2f5792f3f6b"), looks := false }, kinds := [], alts := [], laidByText := true, laidKinds := [.data], laidTests := true, laidLooks := .later }
def GraphCyclesUptoCardSaid : Prop := Claim7.holds Tryd.pinned (.plain (OpenSpec.upto graphCyclesSpec)) graphCyclesUptoCard

/-- THE SECOND FORM's CARD OF 'synchronylaw04.GraphParts'. -/
def graphPartsUptoCard : Claim7 := { stood := { row := graphPartsUptoRow, standIns := [], harness := (true, "ddb6cc96a84610efda5bf16bfec421319d6bdac1ab4e3bd06a3bf2f5792f3f6b"), looks := false }, kinds := [], alts := [], laidByText := true, laidKinds := [.data], laidTests := true, laidLooks := .later }
def GraphPartsUptoCardSaid : Prop := Claim7.holds Tryd.pinned (.plain (OpenSpec.upto graphPartsSpec)) graphPartsUptoCard

/-- THE SECOND FORM's CARD OF 'synchronylaw04.GraphForward'. -/
def graphForwardUptoCard : Claim7 := { stood := { row := graphForwardUptoRow, standIns := [], harness := (true, "ddb6cc96a84610efda5bf16bfec421319d6bdac1ab4e3bd06a3bf2f5792f3f6b"), looks := false }, kinds := [], alts := [], laidByText := true, laidKinds := [.data], laidTests := true, laidLooks := .later }
def GraphForwardUptoCardSaid : Prop := Claim7.holds Tryd.pinned (.plain (OpenSpec.upto graphForwardSpec)) graphForwardUptoCard

/-- THE SECOND FORM's CARD OF 'synchronylaw04.GraphRound'. -/
def graphRoundUptoCard : Claim7 := { stood := { row := graphRoundUptoRow, standIns := [], harness := (true, "ddb6cc96a84610efda5bf16bfec421319d6bdac1ab4e3bd06a3bf2f5792f3f6b"), looks := false }, kinds := [], alts := [], laidByText := true, laidKinds := [.data], laidTests := true, laidLooks := .later }
def GraphRoundUptoCardSaid : Prop := Claim7.holds Tryd.pinned (.plain (OpenSpec.upto graphRoundSpec)) graphRoundUptoCard

/-- THE SECOND FORM's CARD OF 'synchronylaw04.GraphTurned'. -/
def graphTurnedUptoCard : Claim7 := { stood := { row := graphTurnedUptoRow, standIns := [], harness := (true, "ddb6cc96a84610efda5bf16bfec421319d6bdac1ab4e3bd06a3bf2f5792f3f6b"), looks := false }, kinds := [], alts := [], laidByText := true, laidKinds := [.data], laidTests := true, laidLooks := .later }
def GraphTurnedUptoCardSaid : Prop := Claim7.holds Tryd.pinned (.plain (OpenSpec.upto graphTurnedSpec)) graphTurnedUptoCard
end Rows
end Go.Proofs.YtahffafobdiogaaDoor
