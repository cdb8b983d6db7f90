/-
  No cell of these rows narrows 'for every input' (looked for: loops, veiled, ifaces, maps, wideKeys, modest, calm, conditions, laid).
  DERIVED. THE GIVEN ROWS OF THIS SEAT. 4 by the template 'for every input the law returns true; each argument reads behind the call as it read before'; 0 by the template 'total and deterministic' (their statements: YtlphmbefcbhhpaaGreatTotals.lean).
  GIVEN WITH THE SEED: the statements are not yours to turn. If you find one false, say at which input.
  Laid BY PROGRAM, IN A SANDBOX (cutbox-rows.mjs): the forced cells as the released guide's own fill.sh prints them over the translation e117ea45c2435526… (all of the seat's roots in one cut). By AI agents, Wed Nov 11 2026. No macro, syntax, notation, axiom, sorry.
-/
import Derived.Test.YtlphmbefcbhhpaaGreatChecked
import GoSem.Claim
import GoSem.ClaimJoined
import GoSem.ClaimMapViews
import Derived.JoinedTies
import Derived.KernelRfl
namespace Go.Proofs.YtlphmbefcbhhpaaGreat
/- THE CELL 'sum', in the pinned program and in every row, IS THE sha256 OF THE DUMP (.gsa) THAT YtlphmbefcbhhpaaGreatProg.lean LOADS. Nothing in Lean hashes anything: it is a label: what it is worth is what the hold of that sum in a sandbox is worth. -/
noncomputable def Tryz.pinned : Pinned := { name := "ytlphmbefcbhhpaagreat", sum := "e117ea45c243552693589d55aeb0316174dc7ffe913810b0e13e04fbe27fa60f", checked := Tryz.checked }
namespace Rows
def none {H : Type} : Left H := { results := [], args := [] }

/-- 'drawbridgelaw14.RecordNames': WHATEVER THE INPUT: true; the input reads as it did. -/
def recordNamesSpec : ChangeSpec := { name := "recordNames", fn := fun _ => fun
  | [] => { results := [.lit (.bool true)], args := [] }
  | _ => none }
def recordNamesRow : OpenClaim := { program := "ytlphmbefcbhhpaagreat", sum := "e117ea45c243552693589d55aeb0316174dc7ffe913810b0e13e04fbe27fa60f", func := "drawbridge/drawbridgelaw14.RecordNames", spec := "recordNames", inPlace := ["slices.overlaps[drawbridge/api.Flow]"], unfollowed := true, recurses := true, apart := false }
def RecordNamesSaid : Prop := recordNamesRow.holds Tryz.pinned (OpenSpec.ofChange recordNamesSpec)

/-- ITS FALSE NEIGHBOUR: 'it returns false'. Refute it at one input. -/
def recordNamesWrong : ChangeSpec := { name := "recordNames", fn := fun _ => fun
  | [] => { results := [.lit (.bool false)], args := [] }
  | _ => none }
def RecordNamesWrongFalsely : Prop := recordNamesRow.holds Tryz.pinned (OpenSpec.ofChange recordNamesWrong)

/-- 'drawbridgelaw14.RecordEnters': WHATEVER THE INPUT: true; the input reads as it did. -/
def recordEntersSpec : ChangeSpec := { name := "recordEnters", fn := fun _ => fun
  | [d1, d2] => { results := [.lit (.bool true)], args := [d1, d2] }
  | _ => none }
def recordEntersRow : OpenClaim := { program := "ytlphmbefcbhhpaagreat", sum := "e117ea45c243552693589d55aeb0316174dc7ffe913810b0e13e04fbe27fa60f", func := "drawbridge/drawbridgelaw14.RecordEnters", spec := "recordEnters", inPlace := ["slices.overlaps[drawbridge/api.Flow]", "slices.overlaps[drawbridge/api.Session]"], unfollowed := true, recurses := true, apart := false }
def RecordEntersSaid : Prop := recordEntersRow.holds Tryz.pinned (OpenSpec.ofChange recordEntersSpec)

/-- ITS FALSE NEIGHBOUR: 'it returns false'. Refute it at one input. -/
def recordEntersWrong : ChangeSpec := { name := "recordEnters", fn := fun _ => fun
  | [d1, d2] => { results := [.lit (.bool false)], args := [d1, d2] }
  | _ => none }
def RecordEntersWrongFalsely : Prop := recordEntersRow.holds Tryz.pinned (OpenSpec.ofChange recordEntersWrong)

/-- 'drawbridgelaw14.RecordFolds': WHATEVER THE INPUT: true; the input reads as it did. -/
def recordFoldsSpec : ChangeSpec := { name := "recordFolds", fn := fun _ => fun
  | [d1, d2] => { results := [.lit (.bool true)], args := [d1, d2] }
  | _ => none }
def recordFoldsRow : OpenClaim := { program := "ytlphmbefcbhhpaagreat", sum := "e117ea45c243552693589d55aeb0316174dc7ffe913810b0e13e04fbe27fa60f", func := "drawbridge/drawbridgelaw14.RecordFolds", spec := "recordFolds", inPlace := ["slices.overlaps[drawbridge/api.Flow]"], unfollowed := true, recurses := true, apart := false }
def RecordFoldsSaid : Prop := recordFoldsRow.holds Tryz.pinned (OpenSpec.ofChange recordFoldsSpec)

/-- ITS FALSE NEIGHBOUR: 'it returns false'. Refute it at one input. -/
def recordFoldsWrong : ChangeSpec := { name := "recordFolds", fn := fun _ => fun
  | [d1, d2] => { results := [.lit (.bool false)], args := [d1, d2] }
  | _ => none }
def RecordFoldsWrongFalsely : Prop := recordFoldsRow.holds Tryz.pinned (OpenSpec.ofChange recordFoldsWrong)

/-- 'drawbridgelaw14.RecordOnce': WHATEVER THE INPUT: true; the input reads as it did. -/
def recordOnceSpec : ChangeSpec := { name := "recordOnce", fn := fun _ => fun
  | [d1, d2, d3] => { results := [.lit (.bool true)], args := [d1, d2, d3] }
  | _ => none }
def recordOnceRow : OpenClaim := { program := "ytlphmbefcbhhpaagreat", sum := "e117ea45c243552693589d55aeb0316174dc7ffe913810b0e13e04fbe27fa60f", func := "drawbridge/drawbridgelaw14.RecordOnce", spec := "recordOnce", inPlace := ["slices.overlaps[drawbridge/api.Flow]", "slices.overlaps[drawbridge/api.Session]"], unfollowed := true, recurses := true, apart := false }
def RecordOnceSaid : Prop := recordOnceRow.holds Tryz.pinned (OpenSpec.ofChange recordOnceSpec)

/-- ITS FALSE NEIGHBOUR: 'it returns false'. Refute it at one input. -/
def recordOnceWrong : ChangeSpec := { name := "recordOnce", fn := fun _ => fun
  | [d1, d2, d3] => { results := [.lit (.bool false)], args := [d1, d2, d3] }
  | _ => none }
def RecordOnceWrongFalsely : Prop := recordOnceRow.holds Tryz.pinned (OpenSpec.ofChange recordOnceWrong)

/- THE SECOND FORM. 'bulk': how many values and letters a reading holds, each counted each time it is reached (what is shared counts as often as it is met; a slice's spare places count too). A statement '..UptoSaid' is the law's where the arguments, and the package variables that the reading takes, are together of bulk at most 1048576: NARROWER than '..Said'. Prove '..Said' where nothing that the law and all that it calls make is longer than what came in: it says more and counts as full. Else prove '..UptoSaid'. A law counts once. -/
mutual
def uptoBulk {H : Type} : DataW H → Nat
  | .lit (.string bytes) => bytes.length + 1
  | .lit _ => 1
  | .nil => 1
  | .ptr d => uptoBulk d + 1
  | .slice elems spare => uptoBulkAll elems + uptoBulkAll spare + 1
  | .agg parts => uptoBulkAll parts + 1
  | .iface _ d => uptoBulk d + 1
  | .map entries => uptoBulkEntries entries + 1
  | .held _ => 1
def uptoBulkAll {H : Type} : List (DataW H) → Nat
  | [] => 0
  | d :: r => uptoBulk d + uptoBulkAll r
def uptoBulkEntries {H : Type} : List (Lit × DataW H) → Nat
  | [] => 0
  | x :: r => uptoBulkEntry x + uptoBulkEntries r
def uptoBulkEntry {H : Type} : Lit × DataW H → Nat
  | (.string bytes, d) => bytes.length + uptoBulk d + 1
  | (_, d) => uptoBulk d + 1
 end
def uptoSmall : (H : Type) → List (DataW H) → Bool := fun _ ds => decide (uptoBulkAll ds ≤ 1048576)
def OpenSpec.upto (s : _root_.Go.ChangeSpec) : _root_.Go.OpenSpec := { _root_.Go.OpenSpec.ofChange s with cond := some uptoSmall }

/-- 'drawbridgelaw14.RecordNames', WHERE WHAT IT READS IS OF BULK AT MOST 1048576: true; the input reads as it did. -/
def recordNamesUptoRow : OpenClaim := { program := "ytlphmbefcbhhpaagreat", sum := "e117ea45c243552693589d55aeb0316174dc7ffe913810b0e13e04fbe27fa60f", func := "drawbridge/drawbridgelaw14.RecordNames", spec := "recordNames", inPlace := ["slices.overlaps[drawbridge/api.Flow]"], unfollowed := true, recurses := true, apart := false, narrowed := true }
def RecordNamesUptoSaid : Prop := recordNamesUptoRow.holds Tryz.pinned (OpenSpec.upto recordNamesSpec)

/-- 'drawbridgelaw14.RecordEnters', WHERE WHAT IT READS IS OF BULK AT MOST 1048576: true; the input reads as it did. -/
def recordEntersUptoRow : OpenClaim := { program := "ytlphmbefcbhhpaagreat", sum := "e117ea45c243552693589d55aeb0316174dc7ffe913810b0e13e04fbe27fa60f", func := "drawbridge/drawbridgelaw14.RecordEnters", spec := "recordEnters", inPlace := ["slices.overlaps[drawbridge/api.Flow]", "slices.overlaps[drawbridge/api.Session]"], unfollowed := true, recurses := true, apart := false, narrowed := true }
def RecordEntersUptoSaid : Prop := recordEntersUptoRow.holds Tryz.pinned (OpenSpec.upto recordEntersSpec)

/-- 'drawbridgelaw14.RecordFolds', WHERE WHAT IT READS IS OF BULK AT MOST 1048576: true; the input reads as it did. -/
def recordFoldsUptoRow : OpenClaim := { program := "ytlphmbefcbhhpaagreat", sum := "e117ea45c243552693589d55aeb0316174dc7ffe913810b0e13e04fbe27fa60f", func := "drawbridge/drawbridgelaw14.RecordFolds", spec := "recordFolds", inPlace := ["slices.overlaps[drawbridge/api.Flow]"], unfollowed := true, recurses := true, apart := false, narrowed := true }
def RecordFoldsUptoSaid : Prop := recordFoldsUptoRow.holds Tryz.pinned (OpenSpec.upto recordFoldsSpec)

/-- 'drawbridgelaw14.RecordOnce', WHERE WHAT IT READS IS OF BULK AT MOST 1048576: true; the input reads as it did. -/
def recordOnceUptoRow : OpenClaim := { program := "ytlphmbefcbhhpaagreat", sum := "e117ea45c243552693589d55aeb0316174dc7ffe913810b0e13e04fbe27fa60f", func := "drawbridge/drawbridgelaw14.RecordOnce", spec := "recordOnce", inPlace := ["slices.overlaps[drawbridge/api.Flow]", "slices.overlaps[drawbridge/api.Session]"], unfollowed := true, recurses := true, apart := false, narrowed := true }
def RecordOnceUptoSaid : Prop := recordOnceUptoRow.holds Tryz.pinned (OpenSpec.upto recordOnceSpec)

end Rows
end Go.Proofs.YtlphmbefcbhhpaaGreat
