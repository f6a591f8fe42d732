/-
  DERIVED. GIVEN WITH THE SEED: THE CARDS: each row of YtogmoemeppnieaaGreatDoorRows.lean that lists a variable, with what it lists TIED to the program's text (the seventh form; the later family's looks); each row that meets fmt, with fmt's text TOLD by the authors' own Lean function (tested against real Go, not proved from fmt's source: count such statements apart). THE CARD IS WHAT COUNTS. Prove the row's statement (the work); the ties are given (YtogmoemeppnieaaGreatDoorTie.lean); close each card by the builder's one call (the guide's Derived/Test/ToyasCard.lean, 'card_holds'). Laid BY PROGRAM, IN A SANDBOX (cutbox-door.mjs). By AI agents, Wed Nov 11 2026. No macro, syntax, notation, axiom, sorry.
-/
import Derived.Test.YtogmoemeppnieaaGreatDoorRows
import GoSem.ClaimSeven
namespace Go.Proofs.YtogmoemeppnieaaGreatDoor
namespace Rows

/-- THE TIED CARD OF 'concordatlaw05.FramesGet'. -/
def framesGetCard : Claim7 := { stood := { row := framesGetRow, standIns := [], harness := (true, "6258bbb9cfbcba9301d3f117294e12f8f4954321fcce821c6e076d9ca42d164c"), looks := false }, kinds := [], alts := [], laidByText := true, laidKinds := [.data, .data, .data], laidTests := true, laidLooks := .later }
def FramesGetCardSaid : Prop := Claim7.holds Tryz.pinned (.plain (OpenSpec.ofChange framesGetSpec)) framesGetCard

/-- THE SECOND FORM's CARD OF 'concordatlaw05.FramesGet'. -/
def framesGetUptoCard : Claim7 := { stood := { row := framesGetUptoRow, standIns := [], harness := (true, "6258bbb9cfbcba9301d3f117294e12f8f4954321fcce821c6e076d9ca42d164c"), looks := false }, kinds := [], alts := [], laidByText := true, laidKinds := [.data, .data, .data], laidTests := true, laidLooks := .later }
def FramesGetUptoCardSaid : Prop := Claim7.holds Tryz.pinned (.plain (OpenSpec.upto framesGetSpec)) framesGetUptoCard
end Rows
end Go.Proofs.YtogmoemeppnieaaGreatDoor
