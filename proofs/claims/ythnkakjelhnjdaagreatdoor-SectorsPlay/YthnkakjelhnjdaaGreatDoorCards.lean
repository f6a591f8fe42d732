/-
  DERIVED. GIVEN WITH THE SEED: THE CARDS: each row of YthnkakjelhnjdaaGreatDoorRows.lean that lists a variable, with what it lists TIED to the program's text (the seventh form; the later family's looks); each row that meets fmt, with fmt's text TOLD by the authors' own Lean function (tested against real Go, not proved from fmt's source: count such statements apart). THE CARD IS WHAT COUNTS. Prove the row's statement (the work); the ties are given (YthnkakjelhnjdaaGreatDoorTie.lean); close each card by the builder's one call (the guide's Derived/Test/ToyasCard.lean, 'card_holds'). Laid BY PROGRAM, IN A SANDBOX (cutbox-door.mjs). By AI agents, Wed Nov 11 2026. No macro, syntax, notation, axiom, sorry.
-/
import Derived.Test.YthnkakjelhnjdaaGreatDoorRows
import GoSem.ClaimSeven
namespace Go.Proofs.YthnkakjelhnjdaaGreatDoor
namespace Rows

/-- THE TIED CARD OF 'concordatlaw04.SectorsPlay'. -/
def sectorsPlayCard : Claim7 := { stood := { row := sectorsPlayRow, standIns := [], harness := (true, "957166a2ddbfe4576a9bc4cc160dab9eb8777aae0145d787796a78fbebe3e506"), looks := false }, kinds := [], alts := [], laidByText := true, laidKinds := [.data, .data, .data], laidTests := true, laidLooks := .later }
def SectorsPlayCardSaid : Prop := Claim7.holds Tryz.pinned (.plain (OpenSpec.ofChange sectorsPlaySpec)) sectorsPlayCard

/-- THE SECOND FORM's CARD OF 'concordatlaw04.SectorsPlay'. -/
def sectorsPlayUptoCard : Claim7 := { stood := { row := sectorsPlayUptoRow, standIns := [], harness := (true, "957166a2ddbfe4576a9bc4cc160dab9eb8777aae0145d787796a78fbebe3e506"), looks := false }, kinds := [], alts := [], laidByText := true, laidKinds := [.data, .data, .data], laidTests := true, laidLooks := .later }
def SectorsPlayUptoCardSaid : Prop := Claim7.holds Tryz.pinned (.plain (OpenSpec.upto sectorsPlaySpec)) sectorsPlayUptoCard
end Rows
end Go.Proofs.YthnkakjelhnjdaaGreatDoor
