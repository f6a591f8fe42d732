/-
  DERIVED. GIVEN WITH THE SEED: THE CARDS: each row of YtboinccdnaddmaaGreatDoorRows.lean that lists a variable, with what it lists TIED to the program's text (the seventh form; the later family's looks); each row that meets fmt, with fmt's text TOLD by the authors' own Lean function (tested against real Go, not proved from fmt's source: count such statements apart). THE CARD IS WHAT COUNTS. Prove the row's statement (the work); the ties are given (YtboinccdnaddmaaGreatDoorTie.lean); close each card by the builder's one call (the guide's Derived/Test/ToyasCard.lean, 'card_holds'). Laid BY PROGRAM, IN A SANDBOX (cutbox-door.mjs). By AI agents, Wed Nov 11 2026. No macro, syntax, notation, axiom, sorry.
-/
import Derived.Test.YtboinccdnaddmaaGreatDoorRows
import GoSem.ClaimSeven
namespace Go.Proofs.YtboinccdnaddmaaGreatDoor
namespace Rows

/-- THE TIED CARD OF 'concordatlaw09.ClocksPlay'. -/
def clocksPlayCard : Claim7 := { stood := { row := clocksPlayRow, standIns := [], harness := (true, "8523131454beef3edf029bb4d10cf5e12ecb1badbd5734989eb92b7e6cb3b497"), looks := false }, kinds := [], alts := [], laidByText := true, laidKinds := [.data, .data, .data], laidTests := true, laidLooks := .later }
def ClocksPlayCardSaid : Prop := Claim7.holds Tryz.pinned (.plain (OpenSpec.ofChange clocksPlaySpec)) clocksPlayCard

/-- THE SECOND FORM's CARD OF 'concordatlaw09.ClocksPlay'. -/
def clocksPlayUptoCard : Claim7 := { stood := { row := clocksPlayUptoRow, standIns := [], harness := (true, "8523131454beef3edf029bb4d10cf5e12ecb1badbd5734989eb92b7e6cb3b497"), looks := false }, kinds := [], alts := [], laidByText := true, laidKinds := [.data, .data, .data], laidTests := true, laidLooks := .later }
def ClocksPlayUptoCardSaid : Prop := Claim7.holds Tryz.pinned (.plain (OpenSpec.upto clocksPlaySpec)) clocksPlayUptoCard
end Rows
end Go.Proofs.YtboinccdnaddmaaGreatDoor
