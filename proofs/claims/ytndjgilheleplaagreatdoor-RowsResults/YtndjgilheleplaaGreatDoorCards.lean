/-
  DERIVED. GIVEN WITH THE SEED: THE CARDS: each row of YtndjgilheleplaaGreatDoorRows.lean that lists a variable, with what it lists TIED to the program's text (the seventh form; the later family's looks); each row that meets fmt, with fmt's text TOLD by the authors' own Lean function (tested against real Go, not proved from fmt's source: count such statements apart). THE CARD IS WHAT COUNTS. Prove the row's statement (the work); the ties are given (YtndjgilheleplaaGreatDoorTie.lean); close each card by the builder's one call (the guide's Derived/Test/ToyasCard.lean, 'card_holds'). Laid BY PROGRAM, IN A SANDBOX (cutbox-door.mjs). By AI agents, Wed Nov 11 2026. No macro, syntax, notation, axiom, sorry.
-/
import Derived.Test.YtndjgilheleplaaGreatDoorRows
import GoSem.ClaimSeven
namespace Go.Proofs.YtndjgilheleplaaGreatDoor
namespace Rows

/-- THE TIED CARD OF 'concordatlaw02.RowsOps'. -/
def rowsOpsCard : Claim7 := { stood := { row := rowsOpsRow, standIns := [], harness := (true, "18d4039486dafd9b3b70c5d1348d5a03dc2dc74fbcb4f9d3ba539a0795b9cc5d"), looks := false }, kinds := [], alts := [], laidByText := true, laidKinds := [.data, .data, .data], laidTests := true, laidLooks := .later }
def RowsOpsCardSaid : Prop := Claim7.holds Tryz.pinned (.plain (OpenSpec.ofChange rowsOpsSpec)) rowsOpsCard

/-- THE TIED CARD OF 'concordatlaw02.RowsResults'. -/
def rowsResultsCard : Claim7 := { stood := { row := rowsResultsRow, standIns := [], harness := (true, "18d4039486dafd9b3b70c5d1348d5a03dc2dc74fbcb4f9d3ba539a0795b9cc5d"), looks := false }, kinds := [], alts := [], laidByText := true, laidKinds := [.data, .data, .data], laidTests := true, laidLooks := .later }
def RowsResultsCardSaid : Prop := Claim7.holds Tryz.pinned (.plain (OpenSpec.ofChange rowsResultsSpec)) rowsResultsCard

/-- THE TIED CARD OF 'concordatlaw02.RowsChanges'. -/
def rowsChangesCard : Claim7 := { stood := { row := rowsChangesRow, standIns := [], harness := (true, "18d4039486dafd9b3b70c5d1348d5a03dc2dc74fbcb4f9d3ba539a0795b9cc5d"), looks := false }, kinds := [], alts := [], laidByText := true, laidKinds := [.data, .data, .data], laidTests := true, laidLooks := .later }
def RowsChangesCardSaid : Prop := Claim7.holds Tryz.pinned (.plain (OpenSpec.ofChange rowsChangesSpec)) rowsChangesCard

/-- THE SECOND FORM's CARD OF 'concordatlaw02.RowsOps'. -/
def rowsOpsUptoCard : Claim7 := { stood := { row := rowsOpsUptoRow, standIns := [], harness := (true, "18d4039486dafd9b3b70c5d1348d5a03dc2dc74fbcb4f9d3ba539a0795b9cc5d"), looks := false }, kinds := [], alts := [], laidByText := true, laidKinds := [.data, .data, .data], laidTests := true, laidLooks := .later }
def RowsOpsUptoCardSaid : Prop := Claim7.holds Tryz.pinned (.plain (OpenSpec.upto rowsOpsSpec)) rowsOpsUptoCard

/-- THE SECOND FORM's CARD OF 'concordatlaw02.RowsResults'. -/
def rowsResultsUptoCard : Claim7 := { stood := { row := rowsResultsUptoRow, standIns := [], harness := (true, "18d4039486dafd9b3b70c5d1348d5a03dc2dc74fbcb4f9d3ba539a0795b9cc5d"), looks := false }, kinds := [], alts := [], laidByText := true, laidKinds := [.data, .data, .data], laidTests := true, laidLooks := .later }
def RowsResultsUptoCardSaid : Prop := Claim7.holds Tryz.pinned (.plain (OpenSpec.upto rowsResultsSpec)) rowsResultsUptoCard

/-- THE SECOND FORM's CARD OF 'concordatlaw02.RowsChanges'. -/
def rowsChangesUptoCard : Claim7 := { stood := { row := rowsChangesUptoRow, standIns := [], harness := (true, "18d4039486dafd9b3b70c5d1348d5a03dc2dc74fbcb4f9d3ba539a0795b9cc5d"), looks := false }, kinds := [], alts := [], laidByText := true, laidKinds := [.data, .data, .data], laidTests := true, laidLooks := .later }
def RowsChangesUptoCardSaid : Prop := Claim7.holds Tryz.pinned (.plain (OpenSpec.upto rowsChangesSpec)) rowsChangesUptoCard
end Rows
end Go.Proofs.YtndjgilheleplaaGreatDoor
