/-
  DERIVED. GIVEN WITH THE SEED: THE CARDS: each row of YtcgecdiaddcfkaaDoorRows.lean that lists a variable, with what it lists TIED to the program's text (the seventh form; the later family's looks); each row that meets fmt, with fmt's text TOLD by the authors' own Lean function (tested against real Go, not proved from fmt's source: count such statements apart). THE CARD IS WHAT COUNTS. Prove the row's statement (the work); the ties are given (YtcgecdiaddcfkaaDoorTie.lean); close each card by the builder's one call (the guide's Derived/Test/ToyasCard.lean, 'card_holds'). Laid BY PROGRAM, IN A SANDBOX (cutbox-door.mjs). By AI agents, Wed Nov 11 2026. No macro, syntax, notation, axiom, sorry.
-/
import Derived.Test.YtcgecdiaddcfkaaDoorRows
import GoSem.ClaimSeven
namespace Go.Proofs.YtcgecdiaddcfkaaDoor
namespace Rows

/-- THE TIED CARD OF 'concordatlaw07.PacketsBack'. -/
def packetsBackCard : Claim7 := { stood := { row := packetsBackRow, standIns := [], harness := (true, "07c61c868a2dfec609a032f7926916cb79c77b7a0aff10e66ebc6d0b027ab734"), looks := false }, kinds := [], alts := [], laidByText := true, laidKinds := [.data, .data, .data], laidTests := true, laidLooks := .later }
def PacketsBackCardSaid : Prop := Claim7.holds Tryd.pinned (.plain (OpenSpec.ofChange packetsBackSpec)) packetsBackCard

/-- THE TIED CARD OF 'concordatlaw07.PacketsParts'. -/
def packetsPartsCard : Claim7 := { stood := { row := packetsPartsRow, standIns := [], harness := (true, "07c61c868a2dfec609a032f7926916cb79c77b7a0aff10e66ebc6d0b027ab734"), looks := false }, kinds := [], alts := [], laidByText := true, laidKinds := [.data, .data, .data], laidTests := true, laidLooks := .later }
def PacketsPartsCardSaid : Prop := Claim7.holds Tryd.pinned (.plain (OpenSpec.ofChange packetsPartsSpec)) packetsPartsCard

/-- THE TIED CARD OF 'concordatlaw07.PacketsLines'. -/
def packetsLinesCard : Claim7 := { stood := { row := packetsLinesRow, standIns := [], harness := (true, "07c61c868a2dfec609a032f7926916cb79c77b7a0aff10e66ebc6d0b027ab734"), looks := false }, kinds := [], alts := [], laidByText := true, laidKinds := [.data, .data, .data], laidTests := true, laidLooks := .later }
def PacketsLinesCardSaid : Prop := Claim7.holds Tryd.pinned (.plain (OpenSpec.ofChange packetsLinesSpec)) packetsLinesCard

/-- THE TIED CARD OF 'concordatlaw07.PacketsUnlike'. -/
def packetsUnlikeCard : Claim7 := { stood := { row := packetsUnlikeRow, standIns := [], harness := (true, "07c61c868a2dfec609a032f7926916cb79c77b7a0aff10e66ebc6d0b027ab734"), looks := false }, kinds := [], alts := [], laidByText := true, laidKinds := [.data, .data, .data], laidTests := true, laidLooks := .later }
def PacketsUnlikeCardSaid : Prop := Claim7.holds Tryd.pinned (.plain (OpenSpec.ofChange packetsUnlikeSpec)) packetsUnlikeCard

/-- THE SECOND FORM's CARD OF 'concordatlaw07.PacketsBack'. -/
def packetsBackUptoCard : Claim7 := { stood := { row := packetsBackUptoRow, standIns := [], harness := (true, "07c61c868a2dfec609a032f7926916cb79c77b7a0aff10e66ebc6d0b027ab734"), looks := false }, kinds := [], alts := [], laidByText := true, laidKinds := [.data, .data, .data], laidTests := true, laidLooks := .later }
def PacketsBackUptoCardSaid : Prop := Claim7.holds Tryd.pinned (.plain (OpenSpec.upto packetsBackSpec)) packetsBackUptoCard

/-- THE SECOND FORM's CARD OF 'concordatlaw07.PacketsParts'. -/
def packetsPartsUptoCard : Claim7 := { stood := { row := packetsPartsUptoRow, standIns := [], harness := (true, "07c61c868a2dfec609a032f7926916cb79c77b7a0aff10e66ebc6d0b027ab734"), looks := false }, kinds := [], alts := [], laidByText := true, laidKinds := [.data, .data, .data], laidTests := true, laidLooks := .later }
def PacketsPartsUptoCardSaid : Prop := Claim7.holds Tryd.pinned (.plain (OpenSpec.upto packetsPartsSpec)) packetsPartsUptoCard

/-- THE SECOND FORM's CARD OF 'concordatlaw07.PacketsLines'. -/
def packetsLinesUptoCard : Claim7 := { stood := { row := packetsLinesUptoRow, standIns := [], harness := (true, "07c61c868a2dfec609a032f7926916cb79c77b7a0aff10e66ebc6d0b027ab734"), looks := false }, kinds := [], alts := [], laidByText := true, laidKinds := [.data, .data, .data], laidTests := true, laidLooks := .later }
def PacketsLinesUptoCardSaid : Prop := Claim7.holds Tryd.pinned (.plain (OpenSpec.upto packetsLinesSpec)) packetsLinesUptoCard

/-- THE SECOND FORM's CARD OF 'concordatlaw07.PacketsUnlike'. -/
def packetsUnlikeUptoCard : Claim7 := { stood := { row := packetsUnlikeUptoRow, standIns := [], harness := (true, "07c61c868a2dfec609a032f7926916cb79c77b7a0aff10e66ebc6d0b027ab734"), looks := false }, kinds := [], alts := [], laidByText := true, laidKinds := [.data, .data, .data], laidTests := true, laidLooks := .later }
def PacketsUnlikeUptoCardSaid : Prop := Claim7.holds Tryd.pinned (.plain (OpenSpec.upto packetsUnlikeSpec)) packetsUnlikeUptoCard
end Rows
end Go.Proofs.YtcgecdiaddcfkaaDoor
