/-
  DERIVED. GIVEN WITH THE SEED: THE CARDS: each row of YtcgecdiaddcfkaaGreatDoorRows.lean that lists a variable, with what it lists TIED to the program's text (the seventh form; the later family's looks); each row that meets fmt, with fmt's text TOLD by the authors' own Lean function (tested against real Go, not proved from fmt's source: count such statements apart). THE CARD IS WHAT COUNTS. Prove the row's statement (the work); the ties are given (YtcgecdiaddcfkaaGreatDoorTie.lean); close each card by the builder's one call (the guide's Derived/Test/ToyasCard.lean, 'card_holds'). Laid BY PROGRAM, IN A SANDBOX (cutbox-door.mjs). By AI agents, Wed Nov 11 2026. No macro, syntax, notation, axiom, sorry.
-/
import Derived.Test.YtcgecdiaddcfkaaGreatDoorRows
import GoSem.ClaimSeven
namespace Go.Proofs.YtcgecdiaddcfkaaGreatDoor
namespace Rows

/-- THE TIED CARD OF 'concordatlaw07.PacketsPut'. -/
def packetsPutCard : Claim7 := { stood := { row := packetsPutRow, standIns := [], harness := (true, "ae57c3ea60493973f8b2f0c140355bb7bc4a79137d3bcf628e97b349ae14fecb"), looks := false }, kinds := [], alts := [], laidByText := true, laidKinds := [.data, .data, .data], laidTests := true, laidLooks := .later }
def PacketsPutCardSaid : Prop := Claim7.holds Tryz.pinned (.plain (OpenSpec.ofChange packetsPutSpec)) packetsPutCard

/-- THE TIED CARD OF 'concordatlaw07.PacketsGet'. -/
def packetsGetCard : Claim7 := { stood := { row := packetsGetRow, standIns := [], harness := (true, "ae57c3ea60493973f8b2f0c140355bb7bc4a79137d3bcf628e97b349ae14fecb"), looks := false }, kinds := [], alts := [], laidByText := true, laidKinds := [.data, .data, .data], laidTests := true, laidLooks := .later }
def PacketsGetCardSaid : Prop := Claim7.holds Tryz.pinned (.plain (OpenSpec.ofChange packetsGetSpec)) packetsGetCard

/-- THE SECOND FORM's CARD OF 'concordatlaw07.PacketsPut'. -/
def packetsPutUptoCard : Claim7 := { stood := { row := packetsPutUptoRow, standIns := [], harness := (true, "ae57c3ea60493973f8b2f0c140355bb7bc4a79137d3bcf628e97b349ae14fecb"), looks := false }, kinds := [], alts := [], laidByText := true, laidKinds := [.data, .data, .data], laidTests := true, laidLooks := .later }
def PacketsPutUptoCardSaid : Prop := Claim7.holds Tryz.pinned (.plain (OpenSpec.upto packetsPutSpec)) packetsPutUptoCard

/-- THE SECOND FORM's CARD OF 'concordatlaw07.PacketsGet'. -/
def packetsGetUptoCard : Claim7 := { stood := { row := packetsGetUptoRow, standIns := [], harness := (true, "ae57c3ea60493973f8b2f0c140355bb7bc4a79137d3bcf628e97b349ae14fecb"), looks := false }, kinds := [], alts := [], laidByText := true, laidKinds := [.data, .data, .data], laidTests := true, laidLooks := .later }
def PacketsGetUptoCardSaid : Prop := Claim7.holds Tryz.pinned (.plain (OpenSpec.upto packetsGetSpec)) packetsGetUptoCard
end Rows
end Go.Proofs.YtcgecdiaddcfkaaGreatDoor
