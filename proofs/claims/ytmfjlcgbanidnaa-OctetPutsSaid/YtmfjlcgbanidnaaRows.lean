/-
  No cell of these rows narrows 'for every input' (looked for: loops, veiled, ifaces, maps, wideKeys, modest, calm, conditions, laid).
  DERIVED. THE GIVEN ROWS OF THIS SEAT. 12 by the template 'for every input the law returns true; each argument reads behind the call as it read before'; 0 by the template 'total and deterministic' (their statements: YtmfjlcgbanidnaaTotals.lean).
  GIVEN WITH THE SEED: the statements are not yours to turn. If you find one false, say at which input.
  Laid BY PROGRAM, IN A SANDBOX (cutbox-rows.mjs): the forced cells as the released guide's own fill.sh prints them over the translation bbce98a8ded5deca… (all of the seat's roots in one cut). By AI agents, Wed Nov 11 2026. No macro, syntax, notation, axiom, sorry.
-/
import Derived.Test.YtmfjlcgbanidnaaChecked
import GoSem.Claim
import GoSem.ClaimJoined
import GoSem.ClaimMapViews
import Derived.JoinedTies
import Derived.KernelRfl
namespace Go.Proofs.Ytmfjlcgbanidnaa
/- THE CELL 'sum', in the pinned program and in every row, IS THE sha256 OF THE DUMP (.gsa) THAT YtmfjlcgbanidnaaProg.lean LOADS. Nothing in Lean hashes anything: it is a label: what it is worth is what the hold of that sum in a sandbox is worth. -/
noncomputable def Try.pinned : Pinned := { name := "ytmfjlcgbanidnaa", sum := "bbce98a8ded5deca1ce6a6f81ae746773d02c4cf7e2206f8fd1962cf3c850a72", checked := Try.checked }
namespace Rows
def none {H : Type} : Left H := { results := [], args := [] }

/-- 'drawbridgelaw01.OctetNames': WHATEVER THE INPUT: true; the input reads as it did. -/
def octetNamesSpec : ChangeSpec := { name := "octetNames", fn := fun _ => fun
  | [] => { results := [.lit (.bool true)], args := [] }
  | _ => none }
def octetNamesRow : OpenClaim := { program := "ytmfjlcgbanidnaa", sum := "bbce98a8ded5deca1ce6a6f81ae746773d02c4cf7e2206f8fd1962cf3c850a72", func := "drawbridge/drawbridgelaw01.OctetNames", spec := "octetNames", apart := false }
def OctetNamesSaid : Prop := octetNamesRow.holds Try.pinned (OpenSpec.ofChange octetNamesSpec)

/-- ITS FALSE NEIGHBOUR: 'it returns false'. Refute it at one input. -/
def octetNamesWrong : ChangeSpec := { name := "octetNames", fn := fun _ => fun
  | [] => { results := [.lit (.bool false)], args := [] }
  | _ => none }
def OctetNamesWrongFalsely : Prop := octetNamesRow.holds Try.pinned (OpenSpec.ofChange octetNamesWrong)

/-- 'drawbridgelaw01.OctetPuts': WHATEVER THE INPUT: true; the input reads as it did. -/
def octetPutsSpec : ChangeSpec := { name := "octetPuts", fn := fun _ => fun
  | [d1, d2, d3] => { results := [.lit (.bool true)], args := [d1, d2, d3] }
  | _ => none }
def octetPutsRow : OpenClaim := { program := "ytmfjlcgbanidnaa", sum := "bbce98a8ded5deca1ce6a6f81ae746773d02c4cf7e2206f8fd1962cf3c850a72", func := "drawbridge/drawbridgelaw01.OctetPuts", spec := "octetPuts", apart := false }
def OctetPutsSaid : Prop := octetPutsRow.holds Try.pinned (OpenSpec.ofChange octetPutsSpec)

/-- ITS FALSE NEIGHBOUR: 'it returns false'. Refute it at one input. -/
def octetPutsWrong : ChangeSpec := { name := "octetPuts", fn := fun _ => fun
  | [d1, d2, d3] => { results := [.lit (.bool false)], args := [d1, d2, d3] }
  | _ => none }
def OctetPutsWrongFalsely : Prop := octetPutsRow.holds Try.pinned (OpenSpec.ofChange octetPutsWrong)

/-- 'drawbridgelaw01.OctetNil': WHATEVER THE INPUT: true; the input reads as it did. -/
def octetNilSpec : ChangeSpec := { name := "octetNil", fn := fun _ => fun
  | [d] => { results := [.lit (.bool true)], args := [d] }
  | _ => none }
def octetNilRow : OpenClaim := { program := "ytmfjlcgbanidnaa", sum := "bbce98a8ded5deca1ce6a6f81ae746773d02c4cf7e2206f8fd1962cf3c850a72", func := "drawbridge/drawbridgelaw01.OctetNil", spec := "octetNil", apart := false }
def OctetNilSaid : Prop := octetNilRow.holds Try.pinned (OpenSpec.ofChange octetNilSpec)

/-- ITS FALSE NEIGHBOUR: 'it returns false'. Refute it at one input. -/
def octetNilWrong : ChangeSpec := { name := "octetNil", fn := fun _ => fun
  | [d] => { results := [.lit (.bool false)], args := [d] }
  | _ => none }
def OctetNilWrongFalsely : Prop := octetNilRow.holds Try.pinned (OpenSpec.ofChange octetNilWrong)

/-- 'drawbridgelaw01.OctetBack': WHATEVER THE INPUT: true; the input reads as it did. -/
def octetBackSpec : ChangeSpec := { name := "octetBack", fn := fun _ => fun
  | [d1, d2] => { results := [.lit (.bool true)], args := [d1, d2] }
  | _ => none }
def octetBackRow : OpenClaim := { program := "ytmfjlcgbanidnaa", sum := "bbce98a8ded5deca1ce6a6f81ae746773d02c4cf7e2206f8fd1962cf3c850a72", func := "drawbridge/drawbridgelaw01.OctetBack", spec := "octetBack", apart := false }
def OctetBackSaid : Prop := octetBackRow.holds Try.pinned (OpenSpec.ofChange octetBackSpec)

/-- ITS FALSE NEIGHBOUR: 'it returns false'. Refute it at one input. -/
def octetBackWrong : ChangeSpec := { name := "octetBack", fn := fun _ => fun
  | [d1, d2] => { results := [.lit (.bool false)], args := [d1, d2] }
  | _ => none }
def OctetBackWrongFalsely : Prop := octetBackRow.holds Try.pinned (OpenSpec.ofChange octetBackWrong)

/-- 'drawbridgelaw01.OctetOnly': WHATEVER THE INPUT: true; the input reads as it did. -/
def octetOnlySpec : ChangeSpec := { name := "octetOnly", fn := fun _ => fun
  | [d1, d2] => { results := [.lit (.bool true)], args := [d1, d2] }
  | _ => none }
def octetOnlyRow : OpenClaim := { program := "ytmfjlcgbanidnaa", sum := "bbce98a8ded5deca1ce6a6f81ae746773d02c4cf7e2206f8fd1962cf3c850a72", func := "drawbridge/drawbridgelaw01.OctetOnly", spec := "octetOnly", apart := false }
def OctetOnlySaid : Prop := octetOnlyRow.holds Try.pinned (OpenSpec.ofChange octetOnlySpec)

/-- ITS FALSE NEIGHBOUR: 'it returns false'. Refute it at one input. -/
def octetOnlyWrong : ChangeSpec := { name := "octetOnly", fn := fun _ => fun
  | [d1, d2] => { results := [.lit (.bool false)], args := [d1, d2] }
  | _ => none }
def OctetOnlyWrongFalsely : Prop := octetOnlyRow.holds Try.pinned (OpenSpec.ofChange octetOnlyWrong)

/-- 'drawbridgelaw01.OctetSees': WHATEVER THE INPUT: true; the input reads as it did. -/
def octetSeesSpec : ChangeSpec := { name := "octetSees", fn := fun _ => fun
  | [d1, d2, d3, d4] => { results := [.lit (.bool true)], args := [d1, d2, d3, d4] }
  | _ => none }
def octetSeesRow : OpenClaim := { program := "ytmfjlcgbanidnaa", sum := "bbce98a8ded5deca1ce6a6f81ae746773d02c4cf7e2206f8fd1962cf3c850a72", func := "drawbridge/drawbridgelaw01.OctetSees", spec := "octetSees", apart := false }
def OctetSeesSaid : Prop := octetSeesRow.holds Try.pinned (OpenSpec.ofChange octetSeesSpec)

/-- ITS FALSE NEIGHBOUR: 'it returns false'. Refute it at one input. -/
def octetSeesWrong : ChangeSpec := { name := "octetSees", fn := fun _ => fun
  | [d1, d2, d3, d4] => { results := [.lit (.bool false)], args := [d1, d2, d3, d4] }
  | _ => none }
def OctetSeesWrongFalsely : Prop := octetSeesRow.holds Try.pinned (OpenSpec.ofChange octetSeesWrong)

/-- 'drawbridgelaw01.OctetErrs': WHATEVER THE INPUT: true; the input reads as it did. -/
def octetErrsSpec : ChangeSpec := { name := "octetErrs", fn := fun _ => fun
  | [d1, d2] => { results := [.lit (.bool true)], args := [d1, d2] }
  | _ => none }
def octetErrsRow : OpenClaim := { program := "ytmfjlcgbanidnaa", sum := "bbce98a8ded5deca1ce6a6f81ae746773d02c4cf7e2206f8fd1962cf3c850a72", func := "drawbridge/drawbridgelaw01.OctetErrs", spec := "octetErrs", apart := false }
def OctetErrsSaid : Prop := octetErrsRow.holds Try.pinned (OpenSpec.ofChange octetErrsSpec)

/-- ITS FALSE NEIGHBOUR: 'it returns false'. Refute it at one input. -/
def octetErrsWrong : ChangeSpec := { name := "octetErrs", fn := fun _ => fun
  | [d1, d2] => { results := [.lit (.bool false)], args := [d1, d2] }
  | _ => none }
def OctetErrsWrongFalsely : Prop := octetErrsRow.holds Try.pinned (OpenSpec.ofChange octetErrsWrong)

/-- 'drawbridgelaw01.OctetSizes': WHATEVER THE INPUT: true; the input reads as it did. -/
def octetSizesSpec : ChangeSpec := { name := "octetSizes", fn := fun _ => fun
  | [d1, d2] => { results := [.lit (.bool true)], args := [d1, d2] }
  | _ => none }
def octetSizesRow : OpenClaim := { program := "ytmfjlcgbanidnaa", sum := "bbce98a8ded5deca1ce6a6f81ae746773d02c4cf7e2206f8fd1962cf3c850a72", func := "drawbridge/drawbridgelaw01.OctetSizes", spec := "octetSizes", apart := false }
def OctetSizesSaid : Prop := octetSizesRow.holds Try.pinned (OpenSpec.ofChange octetSizesSpec)

/-- ITS FALSE NEIGHBOUR: 'it returns false'. Refute it at one input. -/
def octetSizesWrong : ChangeSpec := { name := "octetSizes", fn := fun _ => fun
  | [d1, d2] => { results := [.lit (.bool false)], args := [d1, d2] }
  | _ => none }
def OctetSizesWrongFalsely : Prop := octetSizesRow.holds Try.pinned (OpenSpec.ofChange octetSizesWrong)

/-- 'drawbridgelaw02.ChachaNames': WHATEVER THE INPUT: true; the input reads as it did. -/
def chachaNamesSpec : ChangeSpec := { name := "chachaNames", fn := fun _ => fun
  | [] => { results := [.lit (.bool true)], args := [] }
  | _ => none }
def chachaNamesRow : OpenClaim := { program := "ytmfjlcgbanidnaa", sum := "bbce98a8ded5deca1ce6a6f81ae746773d02c4cf7e2206f8fd1962cf3c850a72", func := "drawbridge/drawbridgelaw02.ChachaNames", spec := "chachaNames", apart := false }
def ChachaNamesSaid : Prop := chachaNamesRow.holds Try.pinned (OpenSpec.ofChange chachaNamesSpec)

/-- ITS FALSE NEIGHBOUR: 'it returns false'. Refute it at one input. -/
def chachaNamesWrong : ChangeSpec := { name := "chachaNames", fn := fun _ => fun
  | [] => { results := [.lit (.bool false)], args := [] }
  | _ => none }
def ChachaNamesWrongFalsely : Prop := chachaNamesRow.holds Try.pinned (OpenSpec.ofChange chachaNamesWrong)

/-- 'drawbridgelaw02.ChachaCalls': WHATEVER THE INPUT: true; the input reads as it did. -/
def chachaCallsSpec : ChangeSpec := { name := "chachaCalls", fn := fun _ => fun
  | [d1, d2, d3, d4, d5] => { results := [.lit (.bool true)], args := [d1, d2, d3, d4, d5] }
  | _ => none }
def chachaCallsRow : OpenClaim := { program := "ytmfjlcgbanidnaa", sum := "bbce98a8ded5deca1ce6a6f81ae746773d02c4cf7e2206f8fd1962cf3c850a72", func := "drawbridge/drawbridgelaw02.ChachaCalls", spec := "chachaCalls", apart := false }
def ChachaCallsSaid : Prop := chachaCallsRow.holds Try.pinned (OpenSpec.ofChange chachaCallsSpec)

/-- ITS FALSE NEIGHBOUR: 'it returns false'. Refute it at one input. -/
def chachaCallsWrong : ChangeSpec := { name := "chachaCalls", fn := fun _ => fun
  | [d1, d2, d3, d4, d5] => { results := [.lit (.bool false)], args := [d1, d2, d3, d4, d5] }
  | _ => none }
def ChachaCallsWrongFalsely : Prop := chachaCallsRow.holds Try.pinned (OpenSpec.ofChange chachaCallsWrong)

/-- 'drawbridgelaw02.ChachaBack': WHATEVER THE INPUT: true; the input reads as it did. -/
def chachaBackSpec : ChangeSpec := { name := "chachaBack", fn := fun _ => fun
  | [d1, d2, d3, d4, d5] => { results := [.lit (.bool true)], args := [d1, d2, d3, d4, d5] }
  | _ => none }
def chachaBackRow : OpenClaim := { program := "ytmfjlcgbanidnaa", sum := "bbce98a8ded5deca1ce6a6f81ae746773d02c4cf7e2206f8fd1962cf3c850a72", func := "drawbridge/drawbridgelaw02.ChachaBack", spec := "chachaBack", apart := false }
def ChachaBackSaid : Prop := chachaBackRow.holds Try.pinned (OpenSpec.ofChange chachaBackSpec)

/-- ITS FALSE NEIGHBOUR: 'it returns false'. Refute it at one input. -/
def chachaBackWrong : ChangeSpec := { name := "chachaBack", fn := fun _ => fun
  | [d1, d2, d3, d4, d5] => { results := [.lit (.bool false)], args := [d1, d2, d3, d4, d5] }
  | _ => none }
def ChachaBackWrongFalsely : Prop := chachaBackRow.holds Try.pinned (OpenSpec.ofChange chachaBackWrong)

/-- 'drawbridgelaw02.ChachaTurns': WHATEVER THE INPUT: true; the input reads as it did. -/
def chachaTurnsSpec : ChangeSpec := { name := "chachaTurns", fn := fun _ => fun
  | [d1, d2, d3, d4, d5] => { results := [.lit (.bool true)], args := [d1, d2, d3, d4, d5] }
  | _ => none }
def chachaTurnsRow : OpenClaim := { program := "ytmfjlcgbanidnaa", sum := "bbce98a8ded5deca1ce6a6f81ae746773d02c4cf7e2206f8fd1962cf3c850a72", func := "drawbridge/drawbridgelaw02.ChachaTurns", spec := "chachaTurns", apart := false }
def ChachaTurnsSaid : Prop := chachaTurnsRow.holds Try.pinned (OpenSpec.ofChange chachaTurnsSpec)

/-- ITS FALSE NEIGHBOUR: 'it returns false'. Refute it at one input. -/
def chachaTurnsWrong : ChangeSpec := { name := "chachaTurns", fn := fun _ => fun
  | [d1, d2, d3, d4, d5] => { results := [.lit (.bool false)], args := [d1, d2, d3, d4, d5] }
  | _ => none }
def ChachaTurnsWrongFalsely : Prop := chachaTurnsRow.holds Try.pinned (OpenSpec.ofChange chachaTurnsWrong)

/- THE SECOND FORM. 'bulk': how many values and letters a reading holds, each counted each time it is reached (what is shared counts as often as it is met; a slice's spare places count too). A statement '..UptoSaid' is the law's where the arguments, and the package variables that the reading takes, are together of bulk at most 1048576: NARROWER than '..Said'. Prove '..Said' where nothing that the law and all that it calls make is longer than what came in: it says more and counts as full. Else prove '..UptoSaid'. A law counts once. -/
mutual
def uptoBulk {H : Type} : DataW H → Nat
  | .lit (.string bytes) => bytes.length + 1
  | .lit _ => 1
  | .nil => 1
  | .ptr d => uptoBulk d + 1
  | .slice elems spare => uptoBulkAll elems + uptoBulkAll spare + 1
  | .agg parts => uptoBulkAll parts + 1
  | .iface _ d => uptoBulk d + 1
  | .map entries => uptoBulkEntries entries + 1
  | .held _ => 1
def uptoBulkAll {H : Type} : List (DataW H) → Nat
  | [] => 0
  | d :: r => uptoBulk d + uptoBulkAll r
def uptoBulkEntries {H : Type} : List (Lit × DataW H) → Nat
  | [] => 0
  | x :: r => uptoBulkEntry x + uptoBulkEntries r
def uptoBulkEntry {H : Type} : Lit × DataW H → Nat
  | (.string bytes, d) => bytes.length + uptoBulk d + 1
  | (_, d) => uptoBulk d + 1
 end
def uptoSmall : (H : Type) → List (DataW H) → Bool := fun _ ds => decide (uptoBulkAll ds ≤ 1048576)
def OpenSpec.upto (s : _root_.Go.ChangeSpec) : _root_.Go.OpenSpec := { _root_.Go.OpenSpec.ofChange s with cond := some uptoSmall }

/-- 'drawbridgelaw01.OctetNames', WHERE WHAT IT READS IS OF BULK AT MOST 1048576: true; the input reads as it did. -/
def octetNamesUptoRow : OpenClaim := { program := "ytmfjlcgbanidnaa", sum := "bbce98a8ded5deca1ce6a6f81ae746773d02c4cf7e2206f8fd1962cf3c850a72", func := "drawbridge/drawbridgelaw01.OctetNames", spec := "octetNames", apart := false, narrowed := true }
def OctetNamesUptoSaid : Prop := octetNamesUptoRow.holds Try.pinned (OpenSpec.upto octetNamesSpec)

/-- 'drawbridgelaw01.OctetPuts', WHERE WHAT IT READS IS OF BULK AT MOST 1048576: true; the input reads as it did. -/
def octetPutsUptoRow : OpenClaim := { program := "ytmfjlcgbanidnaa", sum := "bbce98a8ded5deca1ce6a6f81ae746773d02c4cf7e2206f8fd1962cf3c850a72", func := "drawbridge/drawbridgelaw01.OctetPuts", spec := "octetPuts", apart := false, narrowed := true }
def OctetPutsUptoSaid : Prop := octetPutsUptoRow.holds Try.pinned (OpenSpec.upto octetPutsSpec)

/-- 'drawbridgelaw01.OctetNil', WHERE WHAT IT READS IS OF BULK AT MOST 1048576: true; the input reads as it did. -/
def octetNilUptoRow : OpenClaim := { program := "ytmfjlcgbanidnaa", sum := "bbce98a8ded5deca1ce6a6f81ae746773d02c4cf7e2206f8fd1962cf3c850a72", func := "drawbridge/drawbridgelaw01.OctetNil", spec := "octetNil", apart := false, narrowed := true }
def OctetNilUptoSaid : Prop := octetNilUptoRow.holds Try.pinned (OpenSpec.upto octetNilSpec)

/-- 'drawbridgelaw01.OctetBack', WHERE WHAT IT READS IS OF BULK AT MOST 1048576: true; the input reads as it did. -/
def octetBackUptoRow : OpenClaim := { program := "ytmfjlcgbanidnaa", sum := "bbce98a8ded5deca1ce6a6f81ae746773d02c4cf7e2206f8fd1962cf3c850a72", func := "drawbridge/drawbridgelaw01.OctetBack", spec := "octetBack", apart := false, narrowed := true }
def OctetBackUptoSaid : Prop := octetBackUptoRow.holds Try.pinned (OpenSpec.upto octetBackSpec)

/-- 'drawbridgelaw01.OctetOnly', WHERE WHAT IT READS IS OF BULK AT MOST 1048576: true; the input reads as it did. -/
def octetOnlyUptoRow : OpenClaim := { program := "ytmfjlcgbanidnaa", sum := "bbce98a8ded5deca1ce6a6f81ae746773d02c4cf7e2206f8fd1962cf3c850a72", func := "drawbridge/drawbridgelaw01.OctetOnly", spec := "octetOnly", apart := false, narrowed := true }
def OctetOnlyUptoSaid : Prop := octetOnlyUptoRow.holds Try.pinned (OpenSpec.upto octetOnlySpec)

/-- 'drawbridgelaw01.OctetSees', WHERE WHAT IT READS IS OF BULK AT MOST 1048576: true; the input reads as it did. -/
def octetSeesUptoRow : OpenClaim := { program := "ytmfjlcgbanidnaa", sum := "bbce98a8ded5deca1ce6a6f81ae746773d02c4cf7e2206f8fd1962cf3c850a72", func := "drawbridge/drawbridgelaw01.OctetSees", spec := "octetSees", apart := false, narrowed := true }
def OctetSeesUptoSaid : Prop := octetSeesUptoRow.holds Try.pinned (OpenSpec.upto octetSeesSpec)

/-- 'drawbridgelaw01.OctetErrs', WHERE WHAT IT READS IS OF BULK AT MOST 1048576: true; the input reads as it did. -/
def octetErrsUptoRow : OpenClaim := { program := "ytmfjlcgbanidnaa", sum := "bbce98a8ded5deca1ce6a6f81ae746773d02c4cf7e2206f8fd1962cf3c850a72", func := "drawbridge/drawbridgelaw01.OctetErrs", spec := "octetErrs", apart := false, narrowed := true }
def OctetErrsUptoSaid : Prop := octetErrsUptoRow.holds Try.pinned (OpenSpec.upto octetErrsSpec)

/-- 'drawbridgelaw01.OctetSizes', WHERE WHAT IT READS IS OF BULK AT MOST 1048576: true; the input reads as it did. -/
def octetSizesUptoRow : OpenClaim := { program := "ytmfjlcgbanidnaa", sum := "bbce98a8ded5deca1ce6a6f81ae746773d02c4cf7e2206f8fd1962cf3c850a72", func := "drawbridge/drawbridgelaw01.OctetSizes", spec := "octetSizes", apart := false, narrowed := true }
def OctetSizesUptoSaid : Prop := octetSizesUptoRow.holds Try.pinned (OpenSpec.upto octetSizesSpec)

/-- 'drawbridgelaw02.ChachaNames', WHERE WHAT IT READS IS OF BULK AT MOST 1048576: true; the input reads as it did. -/
def chachaNamesUptoRow : OpenClaim := { program := "ytmfjlcgbanidnaa", sum := "bbce98a8ded5deca1ce6a6f81ae746773d02c4cf7e2206f8fd1962cf3c850a72", func := "drawbridge/drawbridgelaw02.ChachaNames", spec := "chachaNames", apart := false, narrowed := true }
def ChachaNamesUptoSaid : Prop := chachaNamesUptoRow.holds Try.pinned (OpenSpec.upto chachaNamesSpec)

/-- 'drawbridgelaw02.ChachaCalls', WHERE WHAT IT READS IS OF BULK AT MOST 1048576: true; the input reads as it did. -/
def chachaCallsUptoRow : OpenClaim := { program := "ytmfjlcgbanidnaa", sum := "bbce98a8ded5deca1ce6a6f81ae746773d02c4cf7e2206f8fd1962cf3c850a72", func := "drawbridge/drawbridgelaw02.ChachaCalls", spec := "chachaCalls", apart := false, narrowed := true }
def ChachaCallsUptoSaid : Prop := chachaCallsUptoRow.holds Try.pinned (OpenSpec.upto chachaCallsSpec)

/-- 'drawbridgelaw02.ChachaBack', WHERE WHAT IT READS IS OF BULK AT MOST 1048576: true; the input reads as it did. -/
def chachaBackUptoRow : OpenClaim := { program := "ytmfjlcgbanidnaa", sum := "bbce98a8ded5deca1ce6a6f81ae746773d02c4cf7e2206f8fd1962cf3c850a72", func := "drawbridge/drawbridgelaw02.ChachaBack", spec := "chachaBack", apart := false, narrowed := true }
def ChachaBackUptoSaid : Prop := chachaBackUptoRow.holds Try.pinned (OpenSpec.upto chachaBackSpec)

/-- 'drawbridgelaw02.ChachaTurns', WHERE WHAT IT READS IS OF BULK AT MOST 1048576: true; the input reads as it did. -/
def chachaTurnsUptoRow : OpenClaim := { program := "ytmfjlcgbanidnaa", sum := "bbce98a8ded5deca1ce6a6f81ae746773d02c4cf7e2206f8fd1962cf3c850a72", func := "drawbridge/drawbridgelaw02.ChachaTurns", spec := "chachaTurns", apart := false, narrowed := true }
def ChachaTurnsUptoSaid : Prop := chachaTurnsUptoRow.holds Try.pinned (OpenSpec.upto chachaTurnsSpec)

end Rows
end Go.Proofs.Ytmfjlcgbanidnaa
