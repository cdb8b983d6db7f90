/-
  DERIVED. GIVEN WITH THE SEED: THE CARDS: each row of YtgmmjnedgaeefaaDoorRows.lean that lists a variable, with what it lists TIED to the program's text (the seventh form; the later family's looks); each row that meets fmt, with fmt's text TOLD by the authors' own Lean function (tested against real Go, not proved from fmt's source: count such statements apart). THE CARD IS WHAT COUNTS. Prove the row's statement (the work); the ties are given (YtgmmjnedgaeefaaDoorTie.lean); close each card by the builder's one call (the guide's Derived/Test/ToyasCard.lean, 'card_holds'). Laid BY PROGRAM, IN A SANDBOX (cutbox-door.mjs). By AI agents, Wed Nov 11 2026. No macro, syntax, notation, axiom, sorry.
-/
import Derived.Test.YtgmmjnedgaeefaaDoorRows
import GoSem.ClaimSeven
namespace Go.Proofs.YtgmmjnedgaeefaaDoor
namespace Rows

/-- THE TIED CARD OF 'drawbridgelaw05.HkdfCuts'. -/
def hkdfCutsCard : Claim7 := { stood := { row := hkdfCutsRow, standIns := [], harness := (true, "35546074731c4e0e8bc9e7d4fac531ef486e064867f863b86a0ef45e1de28292"), looks := false }, kinds := [], alts := [], laidByText := true, laidKinds := [.data], laidTests := true, laidLooks := .later }
def HkdfCutsCardSaid : Prop := Claim7.holds Tryd.pinned (.plain (OpenSpec.ofChange hkdfCutsSpec)) hkdfCutsCard

/-- THE TIED CARD OF 'drawbridgelaw09.PacketBack'. -/
def packetBackCard : Claim7 := { stood := { row := packetBackRow, standIns := [], harness := (true, "35546074731c4e0e8bc9e7d4fac531ef486e064867f863b86a0ef45e1de28292"), looks := false }, kinds := [], alts := [], laidByText := true, laidKinds := [.data], laidTests := true, laidLooks := .later }
def PacketBackCardSaid : Prop := Claim7.holds Tryd.pinned (.plain (OpenSpec.ofChange packetBackSpec)) packetBackCard

/-- THE TIED CARD OF 'drawbridgelaw09.PacketWays'. -/
def packetWaysCard : Claim7 := { stood := { row := packetWaysRow, standIns := [], harness := (true, "35546074731c4e0e8bc9e7d4fac531ef486e064867f863b86a0ef45e1de28292"), looks := false }, kinds := [], alts := [], laidByText := true, laidKinds := [.data], laidTests := true, laidLooks := .later }
def PacketWaysCardSaid : Prop := Claim7.holds Tryd.pinned (.plain (OpenSpec.ofChange packetWaysSpec)) packetWaysCard

/-- THE TIED CARD OF 'drawbridgelaw09.PacketFields'. -/
def packetFieldsCard : Claim7 := { stood := { row := packetFieldsRow, standIns := [], harness := (true, "35546074731c4e0e8bc9e7d4fac531ef486e064867f863b86a0ef45e1de28292"), looks := false }, kinds := [], alts := [], laidByText := true, laidKinds := [.data], laidTests := true, laidLooks := .later }
def PacketFieldsCardSaid : Prop := Claim7.holds Tryd.pinned (.plain (OpenSpec.ofChange packetFieldsSpec)) packetFieldsCard

/-- THE SECOND FORM's CARD OF 'drawbridgelaw05.HkdfCuts'. -/
def hkdfCutsUptoCard : Claim7 := { stood := { row := hkdfCutsUptoRow, standIns := [], harness := (true, "35546074731c4e0e8bc9e7d4fac531ef486e064867f863b86a0ef45e1de28292"), looks := false }, kinds := [], alts := [], laidByText := true, laidKinds := [.data], laidTests := true, laidLooks := .later }
def HkdfCutsUptoCardSaid : Prop := Claim7.holds Tryd.pinned (.plain (OpenSpec.upto hkdfCutsSpec)) hkdfCutsUptoCard

/-- THE SECOND FORM's CARD OF 'drawbridgelaw09.PacketBack'. -/
def packetBackUptoCard : Claim7 := { stood := { row := packetBackUptoRow, standIns := [], harness := (true, "35546074731c4e0e8bc9e7d4fac531ef486e064867f863b86a0ef45e1de28292"), looks := false }, kinds := [], alts := [], laidByText := true, laidKinds := [.data], laidTests := true, laidLooks := .later }
def PacketBackUptoCardSaid : Prop := Claim7.holds Tryd.pinned (.plain (OpenSpec.upto packetBackSpec)) packetBackUptoCard

/-- THE SECOND FORM's CARD OF 'drawbridgelaw09.PacketWays'. -/
def packetWaysUptoCard : Claim7 := { stood := { row := packetWaysUptoRow, standIns := [], harness := (true, "35546074731c4e0e8bc9e7d4fac531ef486e064867f863b86a0ef45e1de28292"), looks := false }, kinds := [], alts := [], laidByText := true, laidKinds := [.data], laidTests := true, laidLooks := .later }
def PacketWaysUptoCardSaid : Prop := Claim7.holds Tryd.pinned (.plain (OpenSpec.upto packetWaysSpec)) packetWaysUptoCard

/-- THE SECOND FORM's CARD OF 'drawbridgelaw09.PacketFields'. -/
def packetFieldsUptoCard : Claim7 := { stood := { row := packetFieldsUptoRow, standIns := [], harness := (true, "35546074731c4e0e8bc9e7d4fac531ef486e064867f863b86a0ef45e1de28292"), looks := false }, kinds := [], alts := [], laidByText := true, laidKinds := [.data], laidTests := true, laidLooks := .later }
def PacketFieldsUptoCardSaid : Prop := Claim7.holds Tryd.pinned (.plain (OpenSpec.upto packetFieldsSpec)) packetFieldsUptoCard
end Rows
end Go.Proofs.YtgmmjnedgaeefaaDoor
