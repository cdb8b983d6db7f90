/-
  DERIVED. GIVEN WITH THE SEED: THE CARDS: each row of YtaamkgchophpeaaDoorRows.lean that lists a variable, with what it lists TIED to the program's text (the seventh form; the later family's looks); each row that meets fmt, with fmt's text TOLD by the authors' own Lean function (tested against real Go, not proved from fmt's source: count such statements apart). THE CARD IS WHAT COUNTS. Prove the row's statement (the work); the ties are given (YtaamkgchophpeaaDoorTie.lean); close each card by the builder's one call (the guide's Derived/Test/ToyasCard.lean, 'card_holds'). Laid BY PROGRAM, IN A SANDBOX (cutbox-door.mjs). By AI agents, Wed Nov 11 2026. No macro, syntax, notation, axiom, sorry.
-/
import Derived.Test.YtaamkgchophpeaaDoorRows
import GoSem.ClaimSeven
namespace Go.Proofs.YtaamkgchophpeaaDoor
namespace Rows

/-- THE TIED CARD OF 'drawbridgelaw05.HkdfNames'. -/
def hkdfNamesCard : Claim7 := { stood := { row := hkdfNamesRow, standIns := [], harness := (true, "588d7cd68785447ba0ef05c75b3d83c0dda81ca6131980d41ac71c1f27d30285"), looks := false }, kinds := [], alts := [], laidByText := true, laidKinds := [.data], laidTests := true, laidLooks := .later }
def HkdfNamesCardSaid : Prop := Claim7.holds Tryd.pinned (.plain (OpenSpec.ofChange hkdfNamesSpec)) hkdfNamesCard

/-- THE TIED CARD OF 'drawbridgelaw05.HkdfSums'. -/
def hkdfSumsCard : Claim7 := { stood := { row := hkdfSumsRow, standIns := [], harness := (true, "588d7cd68785447ba0ef05c75b3d83c0dda81ca6131980d41ac71c1f27d30285"), looks := false }, kinds := [], alts := [], laidByText := true, laidKinds := [.data], laidTests := true, laidLooks := .later }
def HkdfSumsCardSaid : Prop := Claim7.holds Tryd.pinned (.plain (OpenSpec.ofChange hkdfSumsSpec)) hkdfSumsCard

/-- THE TIED CARD OF 'drawbridgelaw05.HkdfCuts'. -/
def hkdfCutsCard : Claim7 := { stood := { row := hkdfCutsRow, standIns := [], harness := (true, "588d7cd68785447ba0ef05c75b3d83c0dda81ca6131980d41ac71c1f27d30285"), looks := false }, kinds := [], alts := [], laidByText := true, laidKinds := [.data], laidTests := true, laidLooks := .later }
def HkdfCutsCardSaid : Prop := Claim7.holds Tryd.pinned (.plain (OpenSpec.ofChange hkdfCutsSpec)) hkdfCutsCard

/-- THE TIED CARD OF 'drawbridgelaw05.HkdfFirst'. -/
def hkdfFirstCard : Claim7 := { stood := { row := hkdfFirstRow, standIns := [], harness := (true, "588d7cd68785447ba0ef05c75b3d83c0dda81ca6131980d41ac71c1f27d30285"), looks := false }, kinds := [], alts := [], laidByText := true, laidKinds := [.data], laidTests := true, laidLooks := .later }
def HkdfFirstCardSaid : Prop := Claim7.holds Tryd.pinned (.plain (OpenSpec.ofChange hkdfFirstSpec)) hkdfFirstCard

/-- THE SECOND FORM's CARD OF 'drawbridgelaw05.HkdfNames'. -/
def hkdfNamesUptoCard : Claim7 := { stood := { row := hkdfNamesUptoRow, standIns := [], harness := (true, "588d7cd68785447ba0ef05c75b3d83c0dda81ca6131980d41ac71c1f27d30285"), looks := false }, kinds := [], alts := [], laidByText := true, laidKinds := [.data], laidTests := true, laidLooks := .later }
def HkdfNamesUptoCardSaid : Prop := Claim7.holds Tryd.pinned (.plain (OpenSpec.upto hkdfNamesSpec)) hkdfNamesUptoCard

/-- THE SECOND FORM's CARD OF 'drawbridgelaw05.HkdfSums'. -/
def hkdfSumsUptoCard : Claim7 := { stood := { row := hkdfSumsUptoRow, standIns := [], harness := (true, "588d7cd68785447ba0ef05c75b3d83c0dda81ca6131980d41ac71c1f27d30285"), looks := false }, kinds := [], alts := [], laidByText := true, laidKinds := [.data], laidTests := true, laidLooks := .later }
def HkdfSumsUptoCardSaid : Prop := Claim7.holds Tryd.pinned (.plain (OpenSpec.upto hkdfSumsSpec)) hkdfSumsUptoCard

/-- THE SECOND FORM's CARD OF 'drawbridgelaw05.HkdfCuts'. -/
def hkdfCutsUptoCard : Claim7 := { stood := { row := hkdfCutsUptoRow, standIns := [], harness := (true, "588d7cd68785447ba0ef05c75b3d83c0dda81ca6131980d41ac71c1f27d30285"), looks := false }, kinds := [], alts := [], laidByText := true, laidKinds := [.data], laidTests := true, laidLooks := .later }
def HkdfCutsUptoCardSaid : Prop := Claim7.holds Tryd.pinned (.plain (OpenSpec.upto hkdfCutsSpec)) hkdfCutsUptoCard

/-- THE SECOND FORM's CARD OF 'drawbridgelaw05.HkdfFirst'. -/
def hkdfFirstUptoCard : Claim7 := { stood := { row := hkdfFirstUptoRow, standIns := [], harness := (true, "588d7cd68785447ba0ef05c75b3d83c0dda81ca6131980d41ac71c1f27d30285"), looks := false }, kinds := [], alts := [], laidByText := true, laidKinds := [.data], laidTests := true, laidLooks := .later }
def HkdfFirstUptoCardSaid : Prop := Claim7.holds Tryd.pinned (.plain (OpenSpec.upto hkdfFirstSpec)) hkdfFirstUptoCard
end Rows
end Go.Proofs.YtaamkgchophpeaaDoor
