/-
  No cell of these rows narrows 'for every input' (looked for: loops, veiled, ifaces, maps, wideKeys, modest, calm, conditions, laid).
  DERIVED. THE GIVEN ROWS OF THIS SEAT. 8 by the template 'for every input the law returns true; each argument reads behind the call as it read before'; 0 by the template 'total and deterministic' (their statements: YtlphmbefcbhhpaaTotals.lean).
  GIVEN WITH THE SEED: the statements are not yours to turn. If you find one false, say at which input.
  Laid BY PROGRAM, IN A SANDBOX (cutbox-rows.mjs): the forced cells as the released guide's own fill.sh prints them over the translation eb5c9e55bbfd4491… (all of the seat's roots in one cut). By AI agents, Wed Nov 11 2026. No macro, syntax, notation, axiom, sorry.
-/
import Derived.Test.YtlphmbefcbhhpaaChecked
import GoSem.Claim
import GoSem.ClaimJoined
import GoSem.ClaimMapViews
import Derived.JoinedTies
import Derived.KernelRfl
namespace Go.Proofs.Ytlphmbefcbhhpaa
/- THE CELL 'sum', in the pinned program and in every row, IS THE sha256 OF THE DUMP (.gsa) THAT YtlphmbefcbhhpaaProg.lean LOADS. Nothing in Lean hashes anything: it is a label: what it is worth is what the hold of that sum in a sandbox is worth. -/
noncomputable def Try.pinned : Pinned := { name := "ytlphmbefcbhhpaa", sum := "eb5c9e55bbfd44910b345df919b814cbee0f77fd54ee3f65496e3ec2d8616a6f", checked := Try.checked }
namespace Rows
def none {H : Type} : Left H := { results := [], args := [] }

/-- 'drawbridgelaw14.RecordApart': WHATEVER THE INPUT: true; the input reads as it did. -/
def recordApartSpec : ChangeSpec := { name := "recordApart", fn := fun _ => fun
  | [d1, d2, d3, d4] => { results := [.lit (.bool true)], args := [d1, d2, d3, d4] }
  | _ => none }
def recordApartRow : OpenClaim := { program := "ytlphmbefcbhhpaa", sum := "eb5c9e55bbfd44910b345df919b814cbee0f77fd54ee3f65496e3ec2d8616a6f", func := "drawbridge/drawbridgelaw14.RecordApart", spec := "recordApart", inPlace := ["slices.overlaps[drawbridge/api.Flow]"], unfollowed := true, recurses := true, apart := false }
def RecordApartSaid : Prop := recordApartRow.holds Try.pinned (OpenSpec.ofChange recordApartSpec)

/-- ITS FALSE NEIGHBOUR: 'it returns false'. Refute it at one input. -/
def recordApartWrong : ChangeSpec := { name := "recordApart", fn := fun _ => fun
  | [d1, d2, d3, d4] => { results := [.lit (.bool false)], args := [d1, d2, d3, d4] }
  | _ => none }
def RecordApartWrongFalsely : Prop := recordApartRow.holds Try.pinned (OpenSpec.ofChange recordApartWrong)

/-- 'drawbridgelaw08.ConfigBytes': WHATEVER THE INPUT: true; the input reads as it did. -/
def configBytesSpec : ChangeSpec := { name := "configBytes", fn := fun _ => fun
  | [d1, d2, d3, d4] => { results := [.lit (.bool true)], args := [d1, d2, d3, d4] }
  | _ => none }
def configBytesRow : OpenClaim := { program := "ytlphmbefcbhhpaa", sum := "eb5c9e55bbfd44910b345df919b814cbee0f77fd54ee3f65496e3ec2d8616a6f", func := "drawbridge/drawbridgelaw08.ConfigBytes", spec := "configBytes", unfollowed := true, recurses := true, apart := false }
def ConfigBytesSaid : Prop := configBytesRow.holds Try.pinned (OpenSpec.ofChange configBytesSpec)

/-- ITS FALSE NEIGHBOUR: 'it returns false'. Refute it at one input. -/
def configBytesWrong : ChangeSpec := { name := "configBytes", fn := fun _ => fun
  | [d1, d2, d3, d4] => { results := [.lit (.bool false)], args := [d1, d2, d3, d4] }
  | _ => none }
def ConfigBytesWrongFalsely : Prop := configBytesRow.holds Try.pinned (OpenSpec.ofChange configBytesWrong)

/-- 'drawbridgelaw08.ConfigBack': WHATEVER THE INPUT: true; the input reads as it did. -/
def configBackSpec : ChangeSpec := { name := "configBack", fn := fun _ => fun
  | [d1, d2, d3] => { results := [.lit (.bool true)], args := [d1, d2, d3] }
  | _ => none }
def configBackRow : OpenClaim := { program := "ytlphmbefcbhhpaa", sum := "eb5c9e55bbfd44910b345df919b814cbee0f77fd54ee3f65496e3ec2d8616a6f", func := "drawbridge/drawbridgelaw08.ConfigBack", spec := "configBack", unfollowed := true, recurses := true, apart := false }
def ConfigBackSaid : Prop := configBackRow.holds Try.pinned (OpenSpec.ofChange configBackSpec)

/-- ITS FALSE NEIGHBOUR: 'it returns false'. Refute it at one input. -/
def configBackWrong : ChangeSpec := { name := "configBack", fn := fun _ => fun
  | [d1, d2, d3] => { results := [.lit (.bool false)], args := [d1, d2, d3] }
  | _ => none }
def ConfigBackWrongFalsely : Prop := configBackRow.holds Try.pinned (OpenSpec.ofChange configBackWrong)

/-- 'drawbridgelaw08.ConfigGoes': WHATEVER THE INPUT: true; the input reads as it did. -/
def configGoesSpec : ChangeSpec := { name := "configGoes", fn := fun _ => fun
  | [d1, d2] => { results := [.lit (.bool true)], args := [d1, d2] }
  | _ => none }
def configGoesRow : OpenClaim := { program := "ytlphmbefcbhhpaa", sum := "eb5c9e55bbfd44910b345df919b814cbee0f77fd54ee3f65496e3ec2d8616a6f", func := "drawbridge/drawbridgelaw08.ConfigGoes", spec := "configGoes", unfollowed := true, recurses := true, apart := false }
def ConfigGoesSaid : Prop := configGoesRow.holds Try.pinned (OpenSpec.ofChange configGoesSpec)

/-- ITS FALSE NEIGHBOUR: 'it returns false'. Refute it at one input. -/
def configGoesWrong : ChangeSpec := { name := "configGoes", fn := fun _ => fun
  | [d1, d2] => { results := [.lit (.bool false)], args := [d1, d2] }
  | _ => none }
def ConfigGoesWrongFalsely : Prop := configGoesRow.holds Try.pinned (OpenSpec.ofChange configGoesWrong)

/-- 'drawbridgelaw08.ConfigLeads': WHATEVER THE INPUT: true; the input reads as it did. -/
def configLeadsSpec : ChangeSpec := { name := "configLeads", fn := fun _ => fun
  | [d1, d2, d3] => { results := [.lit (.bool true)], args := [d1, d2, d3] }
  | _ => none }
def configLeadsRow : OpenClaim := { program := "ytlphmbefcbhhpaa", sum := "eb5c9e55bbfd44910b345df919b814cbee0f77fd54ee3f65496e3ec2d8616a6f", func := "drawbridge/drawbridgelaw08.ConfigLeads", spec := "configLeads", unfollowed := true, recurses := true, apart := false }
def ConfigLeadsSaid : Prop := configLeadsRow.holds Try.pinned (OpenSpec.ofChange configLeadsSpec)

/-- ITS FALSE NEIGHBOUR: 'it returns false'. Refute it at one input. -/
def configLeadsWrong : ChangeSpec := { name := "configLeads", fn := fun _ => fun
  | [d1, d2, d3] => { results := [.lit (.bool false)], args := [d1, d2, d3] }
  | _ => none }
def ConfigLeadsWrongFalsely : Prop := configLeadsRow.holds Try.pinned (OpenSpec.ofChange configLeadsWrong)

/-- 'drawbridgelaw08.ConfigTwice': WHATEVER THE INPUT: true; the input reads as it did. -/
def configTwiceSpec : ChangeSpec := { name := "configTwice", fn := fun _ => fun
  | [d1, d2, d3] => { results := [.lit (.bool true)], args := [d1, d2, d3] }
  | _ => none }
def configTwiceRow : OpenClaim := { program := "ytlphmbefcbhhpaa", sum := "eb5c9e55bbfd44910b345df919b814cbee0f77fd54ee3f65496e3ec2d8616a6f", func := "drawbridge/drawbridgelaw08.ConfigTwice", spec := "configTwice", unfollowed := true, recurses := true, apart := false }
def ConfigTwiceSaid : Prop := configTwiceRow.holds Try.pinned (OpenSpec.ofChange configTwiceSpec)

/-- ITS FALSE NEIGHBOUR: 'it returns false'. Refute it at one input. -/
def configTwiceWrong : ChangeSpec := { name := "configTwice", fn := fun _ => fun
  | [d1, d2, d3] => { results := [.lit (.bool false)], args := [d1, d2, d3] }
  | _ => none }
def ConfigTwiceWrongFalsely : Prop := configTwiceRow.holds Try.pinned (OpenSpec.ofChange configTwiceWrong)

/-- 'drawbridgelaw11.WireBack': WHATEVER THE INPUT: true; the input reads as it did. -/
def wireBackSpec : ChangeSpec := { name := "wireBack", fn := fun _ => fun
  | [d1, d2, d3] => { results := [.lit (.bool true)], args := [d1, d2, d3] }
  | _ => none }
def wireBackRow : OpenClaim := { program := "ytlphmbefcbhhpaa", sum := "eb5c9e55bbfd44910b345df919b814cbee0f77fd54ee3f65496e3ec2d8616a6f", func := "drawbridge/drawbridgelaw11.WireBack", spec := "wireBack", unfollowed := true, recurses := true, apart := false }
def WireBackSaid : Prop := wireBackRow.holds Try.pinned (OpenSpec.ofChange wireBackSpec)

/-- ITS FALSE NEIGHBOUR: 'it returns false'. Refute it at one input. -/
def wireBackWrong : ChangeSpec := { name := "wireBack", fn := fun _ => fun
  | [d1, d2, d3] => { results := [.lit (.bool false)], args := [d1, d2, d3] }
  | _ => none }
def WireBackWrongFalsely : Prop := wireBackRow.holds Try.pinned (OpenSpec.ofChange wireBackWrong)

/-- 'drawbridgelaw11.WireRows': WHATEVER THE INPUT: true; the input reads as it did. -/
def wireRowsSpec : ChangeSpec := { name := "wireRows", fn := fun _ => fun
  | [d1, d2] => { results := [.lit (.bool true)], args := [d1, d2] }
  | _ => none }
def wireRowsRow : OpenClaim := { program := "ytlphmbefcbhhpaa", sum := "eb5c9e55bbfd44910b345df919b814cbee0f77fd54ee3f65496e3ec2d8616a6f", func := "drawbridge/drawbridgelaw11.WireRows", spec := "wireRows", unfollowed := true, recurses := true, apart := false }
def WireRowsSaid : Prop := wireRowsRow.holds Try.pinned (OpenSpec.ofChange wireRowsSpec)

/-- ITS FALSE NEIGHBOUR: 'it returns false'. Refute it at one input. -/
def wireRowsWrong : ChangeSpec := { name := "wireRows", fn := fun _ => fun
  | [d1, d2] => { results := [.lit (.bool false)], args := [d1, d2] }
  | _ => none }
def WireRowsWrongFalsely : Prop := wireRowsRow.holds Try.pinned (OpenSpec.ofChange wireRowsWrong)

/- THE SECOND FORM. 'bulk': how many values and letters a reading holds, each counted each time it is reached (what is shared counts as often as it is met; a slice's spare places count too). A statement '..UptoSaid' is the law's where the arguments, and the package variables that the reading takes, are together of bulk at most 1048576: NARROWER than '..Said'. Prove '..Said' where nothing that the law and all that it calls make is longer than what came in: it says more and counts as full. Else prove '..UptoSaid'. A law counts once. -/
mutual
def uptoBulk {H : Type} : DataW H → Nat
  | .lit (.string bytes) => bytes.length + 1
  | .lit _ => 1
  | .nil => 1
  | .ptr d => uptoBulk d + 1
  | .slice elems spare => uptoBulkAll elems + uptoBulkAll spare + 1
  | .agg parts => uptoBulkAll parts + 1
  | .iface _ d => uptoBulk d + 1
  | .map entries => uptoBulkEntries entries + 1
  | .held _ => 1
def uptoBulkAll {H : Type} : List (DataW H) → Nat
  | [] => 0
  | d :: r => uptoBulk d + uptoBulkAll r
def uptoBulkEntries {H : Type} : List (Lit × DataW H) → Nat
  | [] => 0
  | x :: r => uptoBulkEntry x + uptoBulkEntries r
def uptoBulkEntry {H : Type} : Lit × DataW H → Nat
  | (.string bytes, d) => bytes.length + uptoBulk d + 1
  | (_, d) => uptoBulk d + 1
 end
def uptoSmall : (H : Type) → List (DataW H) → Bool := fun _ ds => decide (uptoBulkAll ds ≤ 1048576)
def OpenSpec.upto (s : _root_.Go.ChangeSpec) : _root_.Go.OpenSpec := { _root_.Go.OpenSpec.ofChange s with cond := some uptoSmall }

/-- 'drawbridgelaw14.RecordApart', WHERE WHAT IT READS IS OF BULK AT MOST 1048576: true; the input reads as it did. -/
def recordApartUptoRow : OpenClaim := { program := "ytlphmbefcbhhpaa", sum := "eb5c9e55bbfd44910b345df919b814cbee0f77fd54ee3f65496e3ec2d8616a6f", func := "drawbridge/drawbridgelaw14.RecordApart", spec := "recordApart", inPlace := ["slices.overlaps[drawbridge/api.Flow]"], unfollowed := true, recurses := true, apart := false, narrowed := true }
def RecordApartUptoSaid : Prop := recordApartUptoRow.holds Try.pinned (OpenSpec.upto recordApartSpec)

/-- 'drawbridgelaw08.ConfigBytes', WHERE WHAT IT READS IS OF BULK AT MOST 1048576: true; the input reads as it did. -/
def configBytesUptoRow : OpenClaim := { program := "ytlphmbefcbhhpaa", sum := "eb5c9e55bbfd44910b345df919b814cbee0f77fd54ee3f65496e3ec2d8616a6f", func := "drawbridge/drawbridgelaw08.ConfigBytes", spec := "configBytes", unfollowed := true, recurses := true, apart := false, narrowed := true }
def ConfigBytesUptoSaid : Prop := configBytesUptoRow.holds Try.pinned (OpenSpec.upto configBytesSpec)

/-- 'drawbridgelaw08.ConfigBack', WHERE WHAT IT READS IS OF BULK AT MOST 1048576: true; the input reads as it did. -/
def configBackUptoRow : OpenClaim := { program := "ytlphmbefcbhhpaa", sum := "eb5c9e55bbfd44910b345df919b814cbee0f77fd54ee3f65496e3ec2d8616a6f", func := "drawbridge/drawbridgelaw08.ConfigBack", spec := "configBack", unfollowed := true, recurses := true, apart := false, narrowed := true }
def ConfigBackUptoSaid : Prop := configBackUptoRow.holds Try.pinned (OpenSpec.upto configBackSpec)

/-- 'drawbridgelaw08.ConfigGoes', WHERE WHAT IT READS IS OF BULK AT MOST 1048576: true; the input reads as it did. -/
def configGoesUptoRow : OpenClaim := { program := "ytlphmbefcbhhpaa", sum := "eb5c9e55bbfd44910b345df919b814cbee0f77fd54ee3f65496e3ec2d8616a6f", func := "drawbridge/drawbridgelaw08.ConfigGoes", spec := "configGoes", unfollowed := true, recurses := true, apart := false, narrowed := true }
def ConfigGoesUptoSaid : Prop := configGoesUptoRow.holds Try.pinned (OpenSpec.upto configGoesSpec)

/-- 'drawbridgelaw08.ConfigLeads', WHERE WHAT IT READS IS OF BULK AT MOST 1048576: true; the input reads as it did. -/
def configLeadsUptoRow : OpenClaim := { program := "ytlphmbefcbhhpaa", sum := "eb5c9e55bbfd44910b345df919b814cbee0f77fd54ee3f65496e3ec2d8616a6f", func := "drawbridge/drawbridgelaw08.ConfigLeads", spec := "configLeads", unfollowed := true, recurses := true, apart := false, narrowed := true }
def ConfigLeadsUptoSaid : Prop := configLeadsUptoRow.holds Try.pinned (OpenSpec.upto configLeadsSpec)

/-- 'drawbridgelaw08.ConfigTwice', WHERE WHAT IT READS IS OF BULK AT MOST 1048576: true; the input reads as it did. -/
def configTwiceUptoRow : OpenClaim := { program := "ytlphmbefcbhhpaa", sum := "eb5c9e55bbfd44910b345df919b814cbee0f77fd54ee3f65496e3ec2d8616a6f", func := "drawbridge/drawbridgelaw08.ConfigTwice", spec := "configTwice", unfollowed := true, recurses := true, apart := false, narrowed := true }
def ConfigTwiceUptoSaid : Prop := configTwiceUptoRow.holds Try.pinned (OpenSpec.upto configTwiceSpec)

/-- 'drawbridgelaw11.WireBack', WHERE WHAT IT READS IS OF BULK AT MOST 1048576: true; the input reads as it did. -/
def wireBackUptoRow : OpenClaim := { program := "ytlphmbefcbhhpaa", sum := "eb5c9e55bbfd44910b345df919b814cbee0f77fd54ee3f65496e3ec2d8616a6f", func := "drawbridge/drawbridgelaw11.WireBack", spec := "wireBack", unfollowed := true, recurses := true, apart := false, narrowed := true }
def WireBackUptoSaid : Prop := wireBackUptoRow.holds Try.pinned (OpenSpec.upto wireBackSpec)

/-- 'drawbridgelaw11.WireRows', WHERE WHAT IT READS IS OF BULK AT MOST 1048576: true; the input reads as it did. -/
def wireRowsUptoRow : OpenClaim := { program := "ytlphmbefcbhhpaa", sum := "eb5c9e55bbfd44910b345df919b814cbee0f77fd54ee3f65496e3ec2d8616a6f", func := "drawbridge/drawbridgelaw11.WireRows", spec := "wireRows", unfollowed := true, recurses := true, apart := false, narrowed := true }
def WireRowsUptoSaid : Prop := wireRowsUptoRow.holds Try.pinned (OpenSpec.upto wireRowsSpec)

end Rows
end Go.Proofs.Ytlphmbefcbhhpaa
