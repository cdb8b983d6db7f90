/-
  No cell of these rows narrows 'for every input' (looked for: loops, veiled, ifaces, maps, wideKeys, modest, calm, conditions, laid).
  DERIVED. THE GIVEN ROWS OF THIS SEAT. 2 by the template 'for every input the law returns true; each argument reads behind the call as it read before'; 0 by the template 'total and deterministic' (their statements: YtmfjlcgbanidnabTotals.lean).
  GIVEN WITH THE SEED: the statements are not yours to turn. If you find one false, say at which input.
  Laid BY PROGRAM, IN A SANDBOX (cutbox-rows.mjs): the forced cells as the released guide's own fill.sh prints them over the translation 364bda94cea847a6… (all of the seat's roots in one cut). By AI agents, Wed Nov 11 2026. No macro, syntax, notation, axiom, sorry.
-/
import Derived.Test.YtmfjlcgbanidnabChecked
import GoSem.Claim
import GoSem.ClaimJoined
import GoSem.ClaimMapViews
import Derived.JoinedTies
import Derived.KernelRfl
namespace Go.Proofs.Ytmfjlcgbanidnab
/- THE CELL 'sum', in the pinned program and in every row, IS THE sha256 OF THE DUMP (.gsa) THAT YtmfjlcgbanidnabProg.lean LOADS. Nothing in Lean hashes anything: it is a label: what it is worth is what the hold of that sum in a sandbox is worth. -/
noncomputable def Try.pinned : Pinned := { name := "ytmfjlcgbanidnab", sum := "364bda94cea847a6ec2164f78584b747f996288384bc807c80040558a50d6e19", checked := Try.checked }
namespace Rows
def none {H : Type} : Left H := { results := [], args := [] }

/-- 'drawbridgelaw02.ChachaRows': WHATEVER THE INPUT: true; the input reads as it did. -/
def chachaRowsSpec : ChangeSpec := { name := "chachaRows", fn := fun _ => fun
  | [d1, d2, d3, d4] => { results := [.lit (.bool true)], args := [d1, d2, d3, d4] }
  | _ => none }
def chachaRowsRow : OpenClaim := { program := "ytmfjlcgbanidnab", sum := "364bda94cea847a6ec2164f78584b747f996288384bc807c80040558a50d6e19", func := "drawbridge/drawbridgelaw02.ChachaRows", spec := "chachaRows", apart := false }
def ChachaRowsSaid : Prop := chachaRowsRow.holds Try.pinned (OpenSpec.ofChange chachaRowsSpec)

/-- ITS FALSE NEIGHBOUR: 'it returns false'. Refute it at one input. -/
def chachaRowsWrong : ChangeSpec := { name := "chachaRows", fn := fun _ => fun
  | [d1, d2, d3, d4] => { results := [.lit (.bool false)], args := [d1, d2, d3, d4] }
  | _ => none }
def ChachaRowsWrongFalsely : Prop := chachaRowsRow.holds Try.pinned (OpenSpec.ofChange chachaRowsWrong)

/-- 'drawbridgelaw02.ChachaStates': WHATEVER THE INPUT: true; the input reads as it did. -/
def chachaStatesSpec : ChangeSpec := { name := "chachaStates", fn := fun _ => fun
  | [d1, d2, d3, d4, d5] => { results := [.lit (.bool true)], args := [d1, d2, d3, d4, d5] }
  | _ => none }
def chachaStatesRow : OpenClaim := { program := "ytmfjlcgbanidnab", sum := "364bda94cea847a6ec2164f78584b747f996288384bc807c80040558a50d6e19", func := "drawbridge/drawbridgelaw02.ChachaStates", spec := "chachaStates", apart := false }
def ChachaStatesSaid : Prop := chachaStatesRow.holds Try.pinned (OpenSpec.ofChange chachaStatesSpec)

/-- ITS FALSE NEIGHBOUR: 'it returns false'. Refute it at one input. -/
def chachaStatesWrong : ChangeSpec := { name := "chachaStates", fn := fun _ => fun
  | [d1, d2, d3, d4, d5] => { results := [.lit (.bool false)], args := [d1, d2, d3, d4, d5] }
  | _ => none }
def ChachaStatesWrongFalsely : Prop := chachaStatesRow.holds Try.pinned (OpenSpec.ofChange chachaStatesWrong)

/- THE SECOND FORM. 'bulk': how many values and letters a reading holds, each counted each time it is reached (what is shared counts as often as it is met; a slice's spare places count too). A statement '..UptoSaid' is the law's where the arguments, and the package variables that the reading takes, are together of bulk at most 1048576: NARROWER than '..Said'. Prove '..Said' where nothing that the law and all that it calls make is longer than what came in: it says more and counts as full. Else prove '..UptoSaid'. A law counts once. -/
mutual
def uptoBulk {H : Type} : DataW H → Nat
  | .lit (.string bytes) => bytes.length + 1
  | .lit _ => 1
  | .nil => 1
  | .ptr d => uptoBulk d + 1
  | .slice elems spare => uptoBulkAll elems + uptoBulkAll spare + 1
  | .agg parts => uptoBulkAll parts + 1
  | .iface _ d => uptoBulk d + 1
  | .map entries => uptoBulkEntries entries + 1
  | .held _ => 1
def uptoBulkAll {H : Type} : List (DataW H) → Nat
  | [] => 0
  | d :: r => uptoBulk d + uptoBulkAll r
def uptoBulkEntries {H : Type} : List (Lit × DataW H) → Nat
  | [] => 0
  | x :: r => uptoBulkEntry x + uptoBulkEntries r
def uptoBulkEntry {H : Type} : Lit × DataW H → Nat
  | (.string bytes, d) => bytes.length + uptoBulk d + 1
  | (_, d) => uptoBulk d + 1
 end
def uptoSmall : (H : Type) → List (DataW H) → Bool := fun _ ds => decide (uptoBulkAll ds ≤ 1048576)
def OpenSpec.upto (s : _root_.Go.ChangeSpec) : _root_.Go.OpenSpec := { _root_.Go.OpenSpec.ofChange s with cond := some uptoSmall }

/-- 'drawbridgelaw02.ChachaRows', WHERE WHAT IT READS IS OF BULK AT MOST 1048576: true; the input reads as it did. -/
def chachaRowsUptoRow : OpenClaim := { program := "ytmfjlcgbanidnab", sum := "364bda94cea847a6ec2164f78584b747f996288384bc807c80040558a50d6e19", func := "drawbridge/drawbridgelaw02.ChachaRows", spec := "chachaRows", apart := false, narrowed := true }
def ChachaRowsUptoSaid : Prop := chachaRowsUptoRow.holds Try.pinned (OpenSpec.upto chachaRowsSpec)

/-- 'drawbridgelaw02.ChachaStates', WHERE WHAT IT READS IS OF BULK AT MOST 1048576: true; the input reads as it did. -/
def chachaStatesUptoRow : OpenClaim := { program := "ytmfjlcgbanidnab", sum := "364bda94cea847a6ec2164f78584b747f996288384bc807c80040558a50d6e19", func := "drawbridge/drawbridgelaw02.ChachaStates", spec := "chachaStates", apart := false, narrowed := true }
def ChachaStatesUptoSaid : Prop := chachaStatesUptoRow.holds Try.pinned (OpenSpec.upto chachaStatesSpec)

end Rows
end Go.Proofs.Ytmfjlcgbanidnab
