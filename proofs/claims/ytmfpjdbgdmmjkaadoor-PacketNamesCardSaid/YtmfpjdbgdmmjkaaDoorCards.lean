/-
  DERIVED. GIVEN WITH THE SEED: THE CARDS: each row of YtmfpjdbgdmmjkaaDoorRows.lean that lists a variable, with what it lists TIED to the program's text (the seventh form; the later family's looks); each row that meets fmt, with fmt's text TOLD by the authors' own Lean function (tested against real Go, not proved from fmt's source: count such statements apart). THE CARD IS WHAT COUNTS. Prove the row's statement (the work); the ties are given (YtmfpjdbgdmmjkaaDoorTie.lean); close each card by the builder's one call (the guide's Derived/Test/ToyasCard.lean, 'card_holds'). Laid BY PROGRAM, IN A SANDBOX (cutbox-door.mjs). By AI agents, Wed Nov 11 2026. No macro, syntax, notation, axiom, sorry.
-/
import Derived.Test.YtmfpjdbgdmmjkaaDoorRows
import GoSem.ClaimSeven
namespace Go.Proofs.YtmfpjdbgdmmjkaaDoor
namespace Rows

/-- THE TIED CARD OF 'drawbridgelaw05.HkdfCuts'. -/
def hkdfCutsCard : Claim7 := { stood := { row := hkdfCutsRow, standIns := [], harness := (true, "0f0434cf59c063f3afcca7be49ebf92476bc828af9e04e9d966a5cd6a2ccb888"), looks := false }, kinds := [], alts := [], laidByText := true, laidKinds := [.data], laidTests := true, laidLooks := .later }
def HkdfCutsCardSaid : Prop := Claim7.holds Tryd.pinned (.plain (OpenSpec.ofChange hkdfCutsSpec)) hkdfCutsCard

/-- THE TIED CARD OF 'drawbridgelaw09.PacketNames'. -/
def packetNamesCard : Claim7 := { stood := { row := packetNamesRow, standIns := [], harness := (true, "0f0434cf59c063f3afcca7be49ebf92476bc828af9e04e9d966a5cd6a2ccb888"), looks := false }, kinds := [], alts := [], laidByText := true, laidKinds := [.data], laidTests := true, laidLooks := .later }
def PacketNamesCardSaid : Prop := Claim7.holds Tryd.pinned (.plain (OpenSpec.ofChange packetNamesSpec)) packetNamesCard

/-- THE TIED CARD OF 'drawbridgelaw09.PacketBack'. -/
def packetBackCard : Claim7 := { stood := { row := packetBackRow, standIns := [], harness := (true, "0f0434cf59c063f3afcca7be49ebf92476bc828af9e04e9d966a5cd6a2ccb888"), looks := false }, kinds := [], alts := [], laidByText := true, laidKinds := [.data], laidTests := true, laidLooks := .later }
def PacketBackCardSaid : Prop := Claim7.holds Tryd.pinned (.plain (OpenSpec.ofChange packetBackSpec)) packetBackCard

/-- THE TIED CARD OF 'drawbridgelaw09.PacketWays'. -/
def packetWaysCard : Claim7 := { stood := { row := packetWaysRow, standIns := [], harness := (true, "0f0434cf59c063f3afcca7be49ebf92476bc828af9e04e9d966a5cd6a2ccb888"), looks := false }, kinds := [], alts := [], laidByText := true, laidKinds := [.data], laidTests := true, laidLooks := .later }
def PacketWaysCardSaid : Prop := Claim7.holds Tryd.pinned (.plain (OpenSpec.ofChange packetWaysSpec)) packetWaysCard

/-- THE TIED CARD OF 'drawbridgelaw09.PacketFields'. -/
def packetFieldsCard : Claim7 := { stood := { row := packetFieldsRow, standIns := [], harness := (true, "0f0434cf59c063f3afcca7be49ebf92476bc828af9e04e9d966a5cd6a2ccb888"), looks := false }, kinds := [], alts := [], laidByText := true, laidKinds := [.data], laidTests := true, laidLooks := .later }
def PacketFieldsCardSaid : Prop := Claim7.holds Tryd.pinned (.plain (OpenSpec.ofChange packetFieldsSpec)) packetFieldsCard

/-- THE TIED CARD OF 'drawbridgelaw10.ShakeNames'. -/
def shakeNamesCard : Claim7 := { stood := { row := shakeNamesRow, standIns := [], harness := (true, "0f0434cf59c063f3afcca7be49ebf92476bc828af9e04e9d966a5cd6a2ccb888"), looks := false }, kinds := [], alts := [], laidByText := true, laidKinds := [.data], laidTests := true, laidLooks := .later }
def ShakeNamesCardSaid : Prop := Claim7.holds Tryd.pinned (.plain (OpenSpec.ofChange shakeNamesSpec)) shakeNamesCard

/-- THE TIED CARD OF 'drawbridgelaw10.ShakeCalls'. -/
def shakeCallsCard : Claim7 := { stood := { row := shakeCallsRow, standIns := [], harness := (true, "0f0434cf59c063f3afcca7be49ebf92476bc828af9e04e9d966a5cd6a2ccb888"), looks := false }, kinds := [], alts := [], laidByText := true, laidKinds := [.data], laidTests := true, laidLooks := .later }
def ShakeCallsCardSaid : Prop := Claim7.holds Tryd.pinned (.plain (OpenSpec.ofChange shakeCallsSpec)) shakeCallsCard

/-- THE TIED CARD OF 'drawbridgelaw10.ShakeBoth'. -/
def shakeBothCard : Claim7 := { stood := { row := shakeBothRow, standIns := [], harness := (true, "0f0434cf59c063f3afcca7be49ebf92476bc828af9e04e9d966a5cd6a2ccb888"), looks := false }, kinds := [], alts := [], laidByText := true, laidKinds := [.data], laidTests := true, laidLooks := .later }
def ShakeBothCardSaid : Prop := Claim7.holds Tryd.pinned (.plain (OpenSpec.ofChange shakeBothSpec)) shakeBothCard

/-- THE TIED CARD OF 'drawbridgelaw10.ShakeMarks'. -/
def shakeMarksCard : Claim7 := { stood := { row := shakeMarksRow, standIns := [], harness := (true, "0f0434cf59c063f3afcca7be49ebf92476bc828af9e04e9d966a5cd6a2ccb888"), looks := false }, kinds := [], alts := [], laidByText := true, laidKinds := [.data], laidTests := true, laidLooks := .later }
def ShakeMarksCardSaid : Prop := Claim7.holds Tryd.pinned (.plain (OpenSpec.ofChange shakeMarksSpec)) shakeMarksCard

/-- THE TIED CARD OF 'drawbridgelaw10.ShakeAgain'. -/
def shakeAgainCard : Claim7 := { stood := { row := shakeAgainRow, standIns := [], harness := (true, "0f0434cf59c063f3afcca7be49ebf92476bc828af9e04e9d966a5cd6a2ccb888"), looks := false }, kinds := [], alts := [], laidByText := true, laidKinds := [.data], laidTests := true, laidLooks := .later }
def ShakeAgainCardSaid : Prop := Claim7.holds Tryd.pinned (.plain (OpenSpec.ofChange shakeAgainSpec)) shakeAgainCard

/-- THE SECOND FORM's CARD OF 'drawbridgelaw05.HkdfCuts'. -/
def hkdfCutsUptoCard : Claim7 := { stood := { row := hkdfCutsUptoRow, standIns := [], harness := (true, "0f0434cf59c063f3afcca7be49ebf92476bc828af9e04e9d966a5cd6a2ccb888"), looks := false }, kinds := [], alts := [], laidByText := true, laidKinds := [.data], laidTests := true, laidLooks := .later }
def HkdfCutsUptoCardSaid : Prop := Claim7.holds Tryd.pinned (.plain (OpenSpec.upto hkdfCutsSpec)) hkdfCutsUptoCard

/-- THE SECOND FORM's CARD OF 'drawbridgelaw09.PacketNames'. -/
def packetNamesUptoCard : Claim7 := { stood := { row := packetNamesUptoRow, standIns := [], harness := (true, "0f0434cf59c063f3afcca7be49ebf92476bc828af9e04e9d966a5cd6a2ccb888"), looks := false }, kinds := [], alts := [], laidByText := true, laidKinds := [.data], laidTests := true, laidLooks := .later }
def PacketNamesUptoCardSaid : Prop := Claim7.holds Tryd.pinned (.plain (OpenSpec.upto packetNamesSpec)) packetNamesUptoCard

/-- THE SECOND FORM's CARD OF 'drawbridgelaw09.PacketBack'. -/
def packetBackUptoCard : Claim7 := { stood := { row := packetBackUptoRow, standIns := [], harness := (true, "0f0434cf59c063f3afcca7be49ebf92476bc828af9e04e9d966a5cd6a2ccb888"), looks := false }, kinds := [], alts := [], laidByText := true, laidKinds := [.data], laidTests := true, laidLooks := .later }
def PacketBackUptoCardSaid : Prop := Claim7.holds Tryd.pinned (.plain (OpenSpec.upto packetBackSpec)) packetBackUptoCard

/-- THE SECOND FORM's CARD OF 'drawbridgelaw09.PacketWays'. -/
def packetWaysUptoCard : Claim7 := { stood := { row := packetWaysUptoRow, standIns := [], harness := (true, "0f0434cf59c063f3afcca7be49ebf92476bc828af9e04e9d966a5cd6a2ccb888"), looks := false }, kinds := [], alts := [], laidByText := true, laidKinds := [.data], laidTests := true, laidLooks := .later }
def PacketWaysUptoCardSaid : Prop := Claim7.holds Tryd.pinned (.plain (OpenSpec.upto packetWaysSpec)) packetWaysUptoCard

/-- THE SECOND FORM's CARD OF 'drawbridgelaw09.PacketFields'. -/
def packetFieldsUptoCard : Claim7 := { stood := { row := packetFieldsUptoRow, standIns := [], harness := (true, "0f0434cf59c063f3afcca7be49ebf92476bc828af9e04e9d966a5cd6a2ccb888"), looks := false }, kinds := [], alts := [], laidByText := true, laidKinds := [.data], laidTests := true, laidLooks := .later }
def PacketFieldsUptoCardSaid : Prop := Claim7.holds Tryd.pinned (.plain (OpenSpec.upto packetFieldsSpec)) packetFieldsUptoCard

/-- THE SECOND FORM's CARD OF 'drawbridgelaw10.ShakeNames'. -/
def shakeNamesUptoCard : Claim7 := { stood := { row := shakeNamesUptoRow, standIns := [], harness := (true, "0f0434cf59c063f3afcca7be49ebf92476bc828af9e04e9d966a5cd6a2ccb888"), looks := false }, kinds := [], alts := [], laidByText := true, laidKinds := [.data], laidTests := true, laidLooks := .later }
def ShakeNamesUptoCardSaid : Prop := Claim7.holds Tryd.pinned (.plain (OpenSpec.upto shakeNamesSpec)) shakeNamesUptoCard

/-- THE SECOND FORM's CARD OF 'drawbridgelaw10.ShakeCalls'. -/
def shakeCallsUptoCard : Claim7 := { stood := { row := shakeCallsUptoRow, standIns := [], harness := (true, "0f0434cf59c063f3afcca7be49ebf92476bc828af9e04e9d966a5cd6a2ccb888"), looks := false }, kinds := [], alts := [], laidByText := true, laidKinds := [.data], laidTests := true, laidLooks := .later }
def ShakeCallsUptoCardSaid : Prop := Claim7.holds Tryd.pinned (.plain (OpenSpec.upto shakeCallsSpec)) shakeCallsUptoCard

/-- THE SECOND FORM's CARD OF 'drawbridgelaw10.ShakeBoth'. -/
def shakeBothUptoCard : Claim7 := { stood := { row := shakeBothUptoRow, standIns := [], harness := (true, "0f0434cf59c063f3afcca7be49ebf92476bc828af9e04e9d966a5cd6a2ccb888"), looks := false }, kinds := [], alts := [], laidByText := true, laidKinds := [.data], laidTests := true, laidLooks := .later }
def ShakeBothUptoCardSaid : Prop := Claim7.holds Tryd.pinned (.plain (OpenSpec.upto shakeBothSpec)) shakeBothUptoCard

/-- THE SECOND FORM's CARD OF 'drawbridgelaw10.ShakeMarks'. -/
def shakeMarksUptoCard : Claim7 := { stood := { row := shakeMarksUptoRow, standIns := [], harness := (true, "0f0434cf59c063f3afcca7be49ebf92476bc828af9e04e9d966a5cd6a2ccb888"), looks := false }, kinds := [], alts := [], laidByText := true, laidKinds := [.data], laidTests := true, laidLooks := .later }
def ShakeMarksUptoCardSaid : Prop := Claim7.holds Tryd.pinned (.plain (OpenSpec.upto shakeMarksSpec)) shakeMarksUptoCard

/-- THE SECOND FORM's CARD OF 'drawbridgelaw10.ShakeAgain'. -/
def shakeAgainUptoCard : Claim7 := { stood := { row := shakeAgainUptoRow, standIns := [], harness := (true, "0f0434cf59c063f3afcca7be49ebf92476bc828af9e04e9d966a5cd6a2ccb888"), looks := false }, kinds := [], alts := [], laidByText := true, laidKinds := [.data], laidTests := true, laidLooks := .later }
def ShakeAgainUptoCardSaid : Prop := Claim7.holds Tryd.pinned (.plain (OpenSpec.upto shakeAgainSpec)) shakeAgainUptoCard
end Rows
end Go.Proofs.YtmfpjdbgdmmjkaaDoor
