/-
  DERIVED. GIVEN WITH THE SEED: THE CARDS: each row of YthcngkikclaodaaDoorRows.lean that lists a variable, with what it lists TIED to the program's text (the seventh form; the later family's looks); each row that meets fmt, with fmt's text TOLD by the authors' own Lean function (tested against real Go, not proved from fmt's source: count such statements apart). THE CARD IS WHAT COUNTS. Prove the row's statement (the work); the ties are given (YthcngkikclaodaaDoorTie.lean); close each card by the builder's one call (the guide's Derived/Test/ToyasCard.lean, 'card_holds'). Laid BY PROGRAM, IN A SANDBOX (cutbox-door.mjs). By AI agents, Wed Nov 11 2026. No macro, syntax, notation, axiom, sorry.
-/
import Derived.Test.YthcngkikclaodaaDoorRows
import GoSem.ClaimSeven
namespace Go.Proofs.YthcngkikclaodaaDoor
namespace Rows

/-- THE TIED CARD OF 'concordatlaw01.KeysIn'. -/
def keysInCard : Claim7 := { stood := { row := keysInRow, standIns := [], harness := (true, "3ad88b0ee9d8f0877f713786f6de8d0e095275d2a3c7213b2069dc956548714a"), looks := false }, kinds := [], alts := [], laidByText := true, laidKinds := [.data, .data, .data], laidTests := true, laidLooks := .later }
def KeysInCardSaid : Prop := Claim7.holds Tryd.pinned (.plain (OpenSpec.ofChange keysInSpec)) keysInCard

/-- THE TIED CARD OF 'concordatlaw01.KeysMarkers'. -/
def keysMarkersCard : Claim7 := { stood := { row := keysMarkersRow, standIns := [], harness := (true, "3ad88b0ee9d8f0877f713786f6de8d0e095275d2a3c7213b2069dc956548714a"), looks := false }, kinds := [], alts := [], laidByText := true, laidKinds := [.data, .data, .data], laidTests := true, laidLooks := .later }
def KeysMarkersCardSaid : Prop := Claim7.holds Tryd.pinned (.plain (OpenSpec.ofChange keysMarkersSpec)) keysMarkersCard

/-- THE TIED CARD OF 'concordatlaw01.KeysOrder'. -/
def keysOrderCard : Claim7 := { stood := { row := keysOrderRow, standIns := [], harness := (true, "3ad88b0ee9d8f0877f713786f6de8d0e095275d2a3c7213b2069dc956548714a"), looks := false }, kinds := [], alts := [], laidByText := true, laidKinds := [.data, .data, .data], laidTests := true, laidLooks := .later }
def KeysOrderCardSaid : Prop := Claim7.holds Tryd.pinned (.plain (OpenSpec.ofChange keysOrderSpec)) keysOrderCard

/-- THE TIED CARD OF 'concordatlaw01.KeysJoined'. -/
def keysJoinedCard : Claim7 := { stood := { row := keysJoinedRow, standIns := [], harness := (true, "3ad88b0ee9d8f0877f713786f6de8d0e095275d2a3c7213b2069dc956548714a"), looks := false }, kinds := [], alts := [], laidByText := true, laidKinds := [.data, .data, .data], laidTests := true, laidLooks := .later }
def KeysJoinedCardSaid : Prop := Claim7.holds Tryd.pinned (.plain (OpenSpec.ofChange keysJoinedSpec)) keysJoinedCard

/-- THE TIED CARD OF 'concordatlaw01.KeysBetween'. -/
def keysBetweenCard : Claim7 := { stood := { row := keysBetweenRow, standIns := [], harness := (true, "3ad88b0ee9d8f0877f713786f6de8d0e095275d2a3c7213b2069dc956548714a"), looks := false }, kinds := [], alts := [], laidByText := true, laidKinds := [.data, .data, .data], laidTests := true, laidLooks := .later }
def KeysBetweenCardSaid : Prop := Claim7.holds Tryd.pinned (.plain (OpenSpec.ofChange keysBetweenSpec)) keysBetweenCard

/-- THE SECOND FORM's CARD OF 'concordatlaw01.KeysIn'. -/
def keysInUptoCard : Claim7 := { stood := { row := keysInUptoRow, standIns := [], harness := (true, "3ad88b0ee9d8f0877f713786f6de8d0e095275d2a3c7213b2069dc956548714a"), looks := false }, kinds := [], alts := [], laidByText := true, laidKinds := [.data, .data, .data], laidTests := true, laidLooks := .later }
def KeysInUptoCardSaid : Prop := Claim7.holds Tryd.pinned (.plain (OpenSpec.upto keysInSpec)) keysInUptoCard

/-- THE SECOND FORM's CARD OF 'concordatlaw01.KeysMarkers'. -/
def keysMarkersUptoCard : Claim7 := { stood := { row := keysMarkersUptoRow, standIns := [], harness := (true, "3ad88b0ee9d8f0877f713786f6de8d0e095275d2a3c7213b2069dc956548714a"), looks := false }, kinds := [], alts := [], laidByText := true, laidKinds := [.data, .data, .data], laidTests := true, laidLooks := .later }
def KeysMarkersUptoCardSaid : Prop := Claim7.holds Tryd.pinned (.plain (OpenSpec.upto keysMarkersSpec)) keysMarkersUptoCard

/-- THE SECOND FORM's CARD OF 'concordatlaw01.KeysOrder'. -/
def keysOrderUptoCard : Claim7 := { stood := { row := keysOrderUptoRow, standIns := [], harness := (true, "3ad88b0ee9d8f0877f713786f6de8d0e095275d2a3c7213b2069dc956548714a"), looks := false }, kinds := [], alts := [], laidByText := true, laidKinds := [.data, .data, .data], laidTests := true, laidLooks := .later }
def KeysOrderUptoCardSaid : Prop := Claim7.holds Tryd.pinned (.plain (OpenSpec.upto keysOrderSpec)) keysOrderUptoCard

/-- THE SECOND FORM's CARD OF 'concordatlaw01.KeysJoined'. -/
def keysJoinedUptoCard : Claim7 := { stood := { row := keysJoinedUptoRow, standIns := [], harness := (true, "3ad88b0ee9d8f0877f713786f6de8d0e095275d2a3c7213b2069dc956548714a"), looks := false }, kinds := [], alts := [], laidByText := true, laidKinds := [.data, .data, .data], laidTests := true, laidLooks := .later }
def KeysJoinedUptoCardSaid : Prop := Claim7.holds Tryd.pinned (.plain (OpenSpec.upto keysJoinedSpec)) keysJoinedUptoCard

/-- THE SECOND FORM's CARD OF 'concordatlaw01.KeysBetween'. -/
def keysBetweenUptoCard : Claim7 := { stood := { row := keysBetweenUptoRow, standIns := [], harness := (true, "3ad88b0ee9d8f0877f713786f6de8d0e095275d2a3c7213b2069dc956548714a"), looks := false }, kinds := [], alts := [], laidByText := true, laidKinds := [.data, .data, .data], laidTests := true, laidLooks := .later }
def KeysBetweenUptoCardSaid : Prop := Claim7.holds Tryd.pinned (.plain (OpenSpec.upto keysBetweenSpec)) keysBetweenUptoCard
end Rows
end Go.Proofs.YthcngkikclaodaaDoor
