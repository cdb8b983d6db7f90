/-
  DERIVED. GIVEN WITH THE SEED: THE CARDS: each row of YtbdpnpabpcidkaaDoorRows.lean that lists a variable, with what it lists TIED to the program's text (the seventh form; the later family's looks); each row that meets fmt, with fmt's text TOLD by the authors' own Lean function (tested against real Go, not proved from fmt's source: count such statements apart). THE CARD IS WHAT COUNTS. Prove the row's statement (the work); the ties are given (YtbdpnpabpcidkaaDoorTie.lean); close each card by the builder's one call (the guide's Derived/Test/ToyasCard.lean, 'card_holds'). Laid BY PROGRAM, IN A SANDBOX (cutbox-door.mjs). By AI agents, Wed Nov 11 2026. No macro, syntax, notation, axiom, sorry.
-/
import Derived.Test.YtbdpnpabpcidkaaDoorRows
import GoSem.ClaimSeven
namespace Go.Proofs.YtbdpnpabpcidkaaDoor
namespace Rows

/-- THE TIED CARD OF 'drawbridgelaw05.HkdfCuts'. -/
def hkdfCutsCard : Claim7 := { stood := { row := hkdfCutsRow, standIns := [], harness := (true, "e8e3de6c41699062758bca3aa19055691fc7013ecfd0051246aca8197be3c318"), looks := false }, kinds := [], alts := [], laidByText := true, laidKinds := [.data], laidTests := true, laidLooks := .later }
def HkdfCutsCardSaid : Prop := Claim7.holds Tryd.pinned (.plain (OpenSpec.ofChange hkdfCutsSpec)) hkdfCutsCard

/-- THE TIED CARD OF 'drawbridgelaw09.PacketNames'. -/
def packetNamesCard : Claim7 := { stood := { row := packetNamesRow, standIns := [], harness := (true, "e8e3de6c41699062758bca3aa19055691fc7013ecfd0051246aca8197be3c318"), looks := false }, kinds := [], alts := [], laidByText := true, laidKinds := [.data], laidTests := true, laidLooks := .later }
def PacketNamesCardSaid : Prop := Claim7.holds Tryd.pinned (.plain (OpenSpec.ofChange packetNamesSpec)) packetNamesCard

/-- THE TIED CARD OF 'drawbridgelaw09.PacketBack'. -/
def packetBackCard : Claim7 := { stood := { row := packetBackRow, standIns := [], harness := (true, "e8e3de6c41699062758bca3aa19055691fc7013ecfd0051246aca8197be3c318"), looks := false }, kinds := [], alts := [], laidByText := true, laidKinds := [.data], laidTests := true, laidLooks := .later }
def PacketBackCardSaid : Prop := Claim7.holds Tryd.pinned (.plain (OpenSpec.ofChange packetBackSpec)) packetBackCard

/-- THE TIED CARD OF 'drawbridgelaw09.PacketWays'. -/
def packetWaysCard : Claim7 := { stood := { row := packetWaysRow, standIns := [], harness := (true, "e8e3de6c41699062758bca3aa19055691fc7013ecfd0051246aca8197be3c318"), looks := false }, kinds := [], alts := [], laidByText := true, laidKinds := [.data], laidTests := true, laidLooks := .later }
def PacketWaysCardSaid : Prop := Claim7.holds Tryd.pinned (.plain (OpenSpec.ofChange packetWaysSpec)) packetWaysCard

/-- THE TIED CARD OF 'drawbridgelaw09.PacketFields'. -/
def packetFieldsCard : Claim7 := { stood := { row := packetFieldsRow, standIns := [], harness := (true, "e8e3de6c41699062758bca3aa19055691fc7013ecfd0051246aca8197be3c318"), looks := false }, kinds := [], alts := [], laidByText := true, laidKinds := [.data], laidTests := true, laidLooks := .later }
def PacketFieldsCardSaid : Prop := Claim7.holds Tryd.pinned (.plain (OpenSpec.ofChange packetFieldsSpec)) packetFieldsCard

/-- THE TIED CARD OF 'drawbridgelaw10.ShakeNames'. -/
def shakeNamesCard : Claim7 := { stood := { row := shakeNamesRow, standIns := [], harness := (true, "e8e3de6c41699062758bca3aa19055691fc7013ecfd0051246aca8197be3c318"), looks := false }, kinds := [], alts := [], laidByText := true, laidKinds := [.data], laidTests := true, laidLooks := .later }
def ShakeNamesCardSaid : Prop := Claim7.holds Tryd.pinned (.plain (OpenSpec.ofChange shakeNamesSpec)) shakeNamesCard

/-- THE TIED CARD OF 'drawbridgelaw10.ShakeCalls'. -/
def shakeCallsCard : Claim7 := { stood := { row := shakeCallsRow, standIns := [], harness := (true, "e8e3de6c41699062758bca3aa19055691fc7013ecfd0051246aca8197be3c318"), looks := false }, kinds := [], alts := [], laidByText := true, laidKinds := [.data], laidTests := true, laidLooks := .later }
def ShakeCallsCardSaid : Prop := Claim7.holds Tryd.pinned (.plain (OpenSpec.ofChange shakeCallsSpec)) shakeCallsCard

/-- THE SECOND FORM's CARD OF 'drawbridgelaw05.HkdfCuts'. -/
def hkdfCutsUptoCard : Claim7 := { stood := { row := hkdfCutsUptoRow, standIns := [], harness := (true, "e8e3de6c41699062758bca3aa19055691fc7013ecfd0051246aca8197be3c318"), looks := false }, kinds := [], alts := [], laidByText := true, laidKinds := [.data], laidTests := true, laidLooks := .later }
def HkdfCutsUptoCardSaid : Prop := Claim7.holds Tryd.pinned (.plain (OpenSpec.upto hkdfCutsSpec)) hkdfCutsUptoCard

/-- THE SECOND FORM's CARD OF 'drawbridgelaw09.PacketNames'. -/
def packetNamesUptoCard : Claim7 := { stood := { row := packetNamesUptoRow, standIns := [], harness := (true, "e8e3de6c41699062758bca3aa19055691fc7013ecfd0051246aca8197be3c318"), looks := false }, kinds := [], alts := [], laidByText := true, laidKinds := [.data], laidTests := true, laidLooks := .later }
def PacketNamesUptoCardSaid : Prop := Claim7.holds Tryd.pinned (.plain (OpenSpec.upto packetNamesSpec)) packetNamesUptoCard

/-- THE SECOND FORM's CARD OF 'drawbridgelaw09.PacketBack'. -/
def packetBackUptoCard : Claim7 := { stood := { row := packetBackUptoRow, standIns := [], harness := (true, "e8e3de6c41699062758bca3aa19055691fc7013ecfd0051246aca8197be3c318"), looks := false }, kinds := [], alts := [], laidByText := true, laidKinds := [.data], laidTests := true, laidLooks := .later }
def PacketBackUptoCardSaid : Prop := Claim7.holds Tryd.pinned (.plain (OpenSpec.upto packetBackSpec)) packetBackUptoCard

/-- THE SECOND FORM's CARD OF 'drawbridgelaw09.PacketWays'. -/
def packetWaysUptoCard : Claim7 := { stood := { row := packetWaysUptoRow, standIns := [], harness := (true, "e8e3de6c41699062758bca3aa19055691fc7013ecfd0051246aca8197be3c318"), looks := false }, kinds := [], alts := [], laidByText := true, laidKinds := [.data], laidTests := true, laidLooks := .later }
def PacketWaysUptoCardSaid : Prop := Claim7.holds Tryd.pinned (.plain (OpenSpec.upto packetWaysSpec)) packetWaysUptoCard

/-- THE SECOND FORM's CARD OF 'drawbridgelaw09.PacketFields'. -/
def packetFieldsUptoCard : Claim7 := { stood := { row := packetFieldsUptoRow, standIns := [], harness := (true, "e8e3de6c41699062758bca3aa19055691fc7013ecfd0051246aca8197be3c318"), looks := false }, kinds := [], alts := [], laidByText := true, laidKinds := [.data], laidTests := true, laidLooks := .later }
def PacketFieldsUptoCardSaid : Prop := Claim7.holds Tryd.pinned (.plain (OpenSpec.upto packetFieldsSpec)) packetFieldsUptoCard

/-- THE SECOND FORM's CARD OF 'drawbridgelaw10.ShakeNames'. -/
def shakeNamesUptoCard : Claim7 := { stood := { row := shakeNamesUptoRow, standIns := [], harness := (true, "e8e3de6c41699062758bca3aa19055691fc7013ecfd0051246aca8197be3c318"), looks := false }, kinds := [], alts := [], laidByText := true, laidKinds := [.data], laidTests := true, laidLooks := .later }
def ShakeNamesUptoCardSaid : Prop := Claim7.holds Tryd.pinned (.plain (OpenSpec.upto shakeNamesSpec)) shakeNamesUptoCard

/-- THE SECOND FORM's CARD OF 'drawbridgelaw10.ShakeCalls'. -/
def shakeCallsUptoCard : Claim7 := { stood := { row := shakeCallsUptoRow, standIns := [], harness := (true, "e8e3de6c41699062758bca3aa19055691fc7013ecfd0051246aca8197be3c318"), looks := false }, kinds := [], alts := [], laidByText := true, laidKinds := [.data], laidTests := true, laidLooks := .later }
def ShakeCallsUptoCardSaid : Prop := Claim7.holds Tryd.pinned (.plain (OpenSpec.upto shakeCallsSpec)) shakeCallsUptoCard
end Rows
end Go.Proofs.YtbdpnpabpcidkaaDoor
