/-
  DERIVED. GIVEN WITH THE SEED: THE CARDS: each row of YtedmogacklbcmaaGreatDoorRows.lean that lists a variable, with what it lists TIED to the program's text (the seventh form; the later family's looks); each row that meets fmt, with fmt's text TOLD by the authors' own Lean function (tested against real Go, not proved from fmt's source: count such statements apart). THE CARD IS WHAT COUNTS. Prove the row's statement (the work); the ties are given (YtedmogacklbcmaaGreatDoorTie.lean); close each card by the builder's one call (the guide's Derived/Test/ToyasCard.lean, 'card_holds'). Laid BY PROGRAM, IN A SANDBOX (cutbox-door.mjs). By AI agents, Wed Nov 11 2026. No macro, syntax, notation, axiom, sorry.
-/
import Derived.Test.YtedmogacklbcmaaGreatDoorRows
import GoSem.ClaimSeven
namespace Go.Proofs.YtedmogacklbcmaaGreatDoor
namespace Rows

/-- THE TIED CARD OF 'drawbridgelaw16.SessionNames'. -/
def sessionNamesCard : Claim7 := { stood := { row := sessionNamesRow, standIns := [], harness := (true, "1aaf8135e7a6b81fd6f529c0a51445f7041cb4223cc3f6a593ffa72a19312aee"), looks := false }, kinds := [], alts := [], laidByText := true, laidKinds := [.data], laidTests := true, laidLooks := .later }
def SessionNamesCardSaid : Prop := Claim7.holds Tryz.pinned (.plain (OpenSpec.ofChange sessionNamesSpec)) sessionNamesCard

/-- THE TIED CARD OF 'drawbridgelaw16.SessionOnce'. -/
def sessionOnceCard : Claim7 := { stood := { row := sessionOnceRow, standIns := [], harness := (true, "1aaf8135e7a6b81fd6f529c0a51445f7041cb4223cc3f6a593ffa72a19312aee"), looks := false }, kinds := [], alts := [], laidByText := true, laidKinds := [.data], laidTests := true, laidLooks := .later }
def SessionOnceCardSaid : Prop := Claim7.holds Tryz.pinned (.plain (OpenSpec.ofChange sessionOnceSpec)) sessionOnceCard

/-- THE TIED CARD OF 'drawbridgelaw16.SessionApart'. -/
def sessionApartCard : Claim7 := { stood := { row := sessionApartRow, standIns := [], harness := (true, "1aaf8135e7a6b81fd6f529c0a51445f7041cb4223cc3f6a593ffa72a19312aee"), looks := false }, kinds := [], alts := [], laidByText := true, laidKinds := [.data], laidTests := true, laidLooks := .later }
def SessionApartCardSaid : Prop := Claim7.holds Tryz.pinned (.plain (OpenSpec.ofChange sessionApartSpec)) sessionApartCard

/-- THE TIED CARD OF 'drawbridgelaw16.SessionRow'. -/
def sessionRowCard : Claim7 := { stood := { row := sessionRowRow, standIns := [], harness := (true, "1aaf8135e7a6b81fd6f529c0a51445f7041cb4223cc3f6a593ffa72a19312aee"), looks := false }, kinds := [], alts := [], laidByText := true, laidKinds := [.data], laidTests := true, laidLooks := .later }
def SessionRowCardSaid : Prop := Claim7.holds Tryz.pinned (.plain (OpenSpec.ofChange sessionRowSpec)) sessionRowCard

/-- THE SECOND FORM's CARD OF 'drawbridgelaw16.SessionNames'. -/
def sessionNamesUptoCard : Claim7 := { stood := { row := sessionNamesUptoRow, standIns := [], harness := (true, "1aaf8135e7a6b81fd6f529c0a51445f7041cb4223cc3f6a593ffa72a19312aee"), looks := false }, kinds := [], alts := [], laidByText := true, laidKinds := [.data], laidTests := true, laidLooks := .later }
def SessionNamesUptoCardSaid : Prop := Claim7.holds Tryz.pinned (.plain (OpenSpec.upto sessionNamesSpec)) sessionNamesUptoCard

/-- THE SECOND FORM's CARD OF 'drawbridgelaw16.SessionOnce'. -/
def sessionOnceUptoCard : Claim7 := { stood := { row := sessionOnceUptoRow, standIns := [], harness := (true, "1aaf8135e7a6b81fd6f529c0a51445f7041cb4223cc3f6a593ffa72a19312aee"), looks := false }, kinds := [], alts := [], laidByText := true, laidKinds := [.data], laidTests := true, laidLooks := .later }
def SessionOnceUptoCardSaid : Prop := Claim7.holds Tryz.pinned (.plain (OpenSpec.upto sessionOnceSpec)) sessionOnceUptoCard

/-- THE SECOND FORM's CARD OF 'drawbridgelaw16.SessionApart'. -/
def sessionApartUptoCard : Claim7 := { stood := { row := sessionApartUptoRow, standIns := [], harness := (true, "1aaf8135e7a6b81fd6f529c0a51445f7041cb4223cc3f6a593ffa72a19312aee"), looks := false }, kinds := [], alts := [], laidByText := true, laidKinds := [.data], laidTests := true, laidLooks := .later }
def SessionApartUptoCardSaid : Prop := Claim7.holds Tryz.pinned (.plain (OpenSpec.upto sessionApartSpec)) sessionApartUptoCard

/-- THE SECOND FORM's CARD OF 'drawbridgelaw16.SessionRow'. -/
def sessionRowUptoCard : Claim7 := { stood := { row := sessionRowUptoRow, standIns := [], harness := (true, "1aaf8135e7a6b81fd6f529c0a51445f7041cb4223cc3f6a593ffa72a19312aee"), looks := false }, kinds := [], alts := [], laidByText := true, laidKinds := [.data], laidTests := true, laidLooks := .later }
def SessionRowUptoCardSaid : Prop := Claim7.holds Tryz.pinned (.plain (OpenSpec.upto sessionRowSpec)) sessionRowUptoCard
end Rows
end Go.Proofs.YtedmogacklbcmaaGreatDoor
