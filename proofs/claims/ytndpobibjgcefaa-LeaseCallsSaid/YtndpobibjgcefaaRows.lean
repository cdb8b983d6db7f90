/-
  No cell of these rows narrows 'for every input' (looked for: loops, veiled, ifaces, maps, wideKeys, modest, calm, conditions, laid).
  DERIVED. THE GIVEN ROWS OF THIS SEAT. 5 by the template 'for every input the law returns true; each argument reads behind the call as it read before'; 0 by the template 'total and deterministic' (their statements: YtndpobibjgcefaaTotals.lean).
  GIVEN WITH THE SEED: the statements are not yours to turn. If you find one false, say at which input.
  Laid BY PROGRAM, IN A SANDBOX (cutbox-rows.mjs): the forced cells as the released guide's own fill.sh prints them over the translation 29ffd66bb21c450b… (all of the seat's roots in one cut). By AI agents, Wed Nov 11 2026. No macro, syntax, notation, axiom, sorry.
-/
import Derived.Test.YtndpobibjgcefaaChecked
import GoSem.Claim
import GoSem.ClaimJoined
import GoSem.ClaimMapViews
import Derived.JoinedTies
import Derived.KernelRfl
namespace Go.Proofs.Ytndpobibjgcefaa
/- THE CELL 'sum', in the pinned program and in every row, IS THE sha256 OF THE DUMP (.gsa) THAT YtndpobibjgcefaaProg.lean LOADS. Nothing in Lean hashes anything: it is a label: what it is worth is what the hold of that sum in a sandbox is worth. -/
noncomputable def Try.pinned : Pinned := { name := "ytndpobibjgcefaa", sum := "29ffd66bb21c450b69de09bd96051a9fbc4a0b19796c39d3dc2e5037470e270a", checked := Try.checked }
namespace Rows
def none {H : Type} : Left H := { results := [], args := [] }

/-- 'drawbridgelaw06.LeaseNames': WHATEVER THE INPUT: true; the input reads as it did. -/
def leaseNamesSpec : ChangeSpec := { name := "leaseNames", fn := fun _ => fun
  | [] => { results := [.lit (.bool true)], args := [] }
  | _ => none }
def leaseNamesRow : OpenClaim := { program := "ytndpobibjgcefaa", sum := "29ffd66bb21c450b69de09bd96051a9fbc4a0b19796c39d3dc2e5037470e270a", func := "drawbridge/drawbridgelaw06.LeaseNames", spec := "leaseNames", apart := false }
def LeaseNamesSaid : Prop := leaseNamesRow.holds Try.pinned (OpenSpec.ofChange leaseNamesSpec)

/-- ITS FALSE NEIGHBOUR: 'it returns false'. Refute it at one input. -/
def leaseNamesWrong : ChangeSpec := { name := "leaseNames", fn := fun _ => fun
  | [] => { results := [.lit (.bool false)], args := [] }
  | _ => none }
def LeaseNamesWrongFalsely : Prop := leaseNamesRow.holds Try.pinned (OpenSpec.ofChange leaseNamesWrong)

/-- 'drawbridgelaw06.LeaseCalls': WHATEVER THE INPUT: true; the input reads as it did. -/
def leaseCallsSpec : ChangeSpec := { name := "leaseCalls", fn := fun _ => fun
  | [d1, d2, d3, d4, d5] => { results := [.lit (.bool true)], args := [d1, d2, d3, d4, d5] }
  | _ => none }
def leaseCallsRow : OpenClaim := { program := "ytndpobibjgcefaa", sum := "29ffd66bb21c450b69de09bd96051a9fbc4a0b19796c39d3dc2e5037470e270a", func := "drawbridge/drawbridgelaw06.LeaseCalls", spec := "leaseCalls", apart := false }
def LeaseCallsSaid : Prop := leaseCallsRow.holds Try.pinned (OpenSpec.ofChange leaseCallsSpec)

/-- ITS FALSE NEIGHBOUR: 'it returns false'. Refute it at one input. -/
def leaseCallsWrong : ChangeSpec := { name := "leaseCalls", fn := fun _ => fun
  | [d1, d2, d3, d4, d5] => { results := [.lit (.bool false)], args := [d1, d2, d3, d4, d5] }
  | _ => none }
def LeaseCallsWrongFalsely : Prop := leaseCallsRow.holds Try.pinned (OpenSpec.ofChange leaseCallsWrong)

/-- 'drawbridgelaw06.LeaseOnce': WHATEVER THE INPUT: true; the input reads as it did. -/
def leaseOnceSpec : ChangeSpec := { name := "leaseOnce", fn := fun _ => fun
  | [d] => { results := [.lit (.bool true)], args := [d] }
  | _ => none }
def leaseOnceRow : OpenClaim := { program := "ytndpobibjgcefaa", sum := "29ffd66bb21c450b69de09bd96051a9fbc4a0b19796c39d3dc2e5037470e270a", func := "drawbridge/drawbridgelaw06.LeaseOnce", spec := "leaseOnce", apart := false }
def LeaseOnceSaid : Prop := leaseOnceRow.holds Try.pinned (OpenSpec.ofChange leaseOnceSpec)

/-- ITS FALSE NEIGHBOUR: 'it returns false'. Refute it at one input. -/
def leaseOnceWrong : ChangeSpec := { name := "leaseOnce", fn := fun _ => fun
  | [d] => { results := [.lit (.bool false)], args := [d] }
  | _ => none }
def LeaseOnceWrongFalsely : Prop := leaseOnceRow.holds Try.pinned (OpenSpec.ofChange leaseOnceWrong)

/-- 'drawbridgelaw06.LeaseNonces': WHATEVER THE INPUT: true; the input reads as it did. -/
def leaseNoncesSpec : ChangeSpec := { name := "leaseNonces", fn := fun _ => fun
  | [d1, d2, d3, d4, d5, d6, d7] => { results := [.lit (.bool true)], args := [d1, d2, d3, d4, d5, d6, d7] }
  | _ => none }
def leaseNoncesRow : OpenClaim := { program := "ytndpobibjgcefaa", sum := "29ffd66bb21c450b69de09bd96051a9fbc4a0b19796c39d3dc2e5037470e270a", func := "drawbridge/drawbridgelaw06.LeaseNonces", spec := "leaseNonces", apart := false }
def LeaseNoncesSaid : Prop := leaseNoncesRow.holds Try.pinned (OpenSpec.ofChange leaseNoncesSpec)

/-- ITS FALSE NEIGHBOUR: 'it returns false'. Refute it at one input. -/
def leaseNoncesWrong : ChangeSpec := { name := "leaseNonces", fn := fun _ => fun
  | [d1, d2, d3, d4, d5, d6, d7] => { results := [.lit (.bool false)], args := [d1, d2, d3, d4, d5, d6, d7] }
  | _ => none }
def LeaseNoncesWrongFalsely : Prop := leaseNoncesRow.holds Try.pinned (OpenSpec.ofChange leaseNoncesWrong)

/-- 'drawbridgelaw06.LeaseAdds': WHATEVER THE INPUT: true; the input reads as it did. -/
def leaseAddsSpec : ChangeSpec := { name := "leaseAdds", fn := fun _ => fun
  | [d1, d2, d3, d4] => { results := [.lit (.bool true)], args := [d1, d2, d3, d4] }
  | _ => none }
def leaseAddsRow : OpenClaim := { program := "ytndpobibjgcefaa", sum := "29ffd66bb21c450b69de09bd96051a9fbc4a0b19796c39d3dc2e5037470e270a", func := "drawbridge/drawbridgelaw06.LeaseAdds", spec := "leaseAdds", apart := false }
def LeaseAddsSaid : Prop := leaseAddsRow.holds Try.pinned (OpenSpec.ofChange leaseAddsSpec)

/-- ITS FALSE NEIGHBOUR: 'it returns false'. Refute it at one input. -/
def leaseAddsWrong : ChangeSpec := { name := "leaseAdds", fn := fun _ => fun
  | [d1, d2, d3, d4] => { results := [.lit (.bool false)], args := [d1, d2, d3, d4] }
  | _ => none }
def LeaseAddsWrongFalsely : Prop := leaseAddsRow.holds Try.pinned (OpenSpec.ofChange leaseAddsWrong)

/- THE SECOND FORM. 'bulk': how many values and letters a reading holds, each counted each time it is reached (what is shared counts as often as it is met; a slice's spare places count too). A statement '..UptoSaid' is the law's where the arguments, and the package variables that the reading takes, are together of bulk at most 1048576: NARROWER than '..Said'. Prove '..Said' where nothing that the law and all that it calls make is longer than what came in: it says more and counts as full. Else prove '..UptoSaid'. A law counts once. -/
mutual
def uptoBulk {H : Type} : DataW H → Nat
  | .lit (.string bytes) => bytes.length + 1
  | .lit _ => 1
  | .nil => 1
  | .ptr d => uptoBulk d + 1
  | .slice elems spare => uptoBulkAll elems + uptoBulkAll spare + 1
  | .agg parts => uptoBulkAll parts + 1
  | .iface _ d => uptoBulk d + 1
  | .map entries => uptoBulkEntries entries + 1
  | .held _ => 1
def uptoBulkAll {H : Type} : List (DataW H) → Nat
  | [] => 0
  | d :: r => uptoBulk d + uptoBulkAll r
def uptoBulkEntries {H : Type} : List (Lit × DataW H) → Nat
  | [] => 0
  | x :: r => uptoBulkEntry x + uptoBulkEntries r
def uptoBulkEntry {H : Type} : Lit × DataW H → Nat
  | (.string bytes, d) => bytes.length + uptoBulk d + 1
  | (_, d) => uptoBulk d + 1
 end
def uptoSmall : (H : Type) → List (DataW H) → Bool := fun _ ds => decide (uptoBulkAll ds ≤ 1048576)
def OpenSpec.upto (s : _root_.Go.ChangeSpec) : _root_.Go.OpenSpec := { _root_.Go.OpenSpec.ofChange s with cond := some uptoSmall }

/-- 'drawbridgelaw06.LeaseNames', WHERE WHAT IT READS IS OF BULK AT MOST 1048576: true; the input reads as it did. -/
def leaseNamesUptoRow : OpenClaim := { program := "ytndpobibjgcefaa", sum := "29ffd66bb21c450b69de09bd96051a9fbc4a0b19796c39d3dc2e5037470e270a", func := "drawbridge/drawbridgelaw06.LeaseNames", spec := "leaseNames", apart := false, narrowed := true }
def LeaseNamesUptoSaid : Prop := leaseNamesUptoRow.holds Try.pinned (OpenSpec.upto leaseNamesSpec)

/-- 'drawbridgelaw06.LeaseCalls', WHERE WHAT IT READS IS OF BULK AT MOST 1048576: true; the input reads as it did. -/
def leaseCallsUptoRow : OpenClaim := { program := "ytndpobibjgcefaa", sum := "29ffd66bb21c450b69de09bd96051a9fbc4a0b19796c39d3dc2e5037470e270a", func := "drawbridge/drawbridgelaw06.LeaseCalls", spec := "leaseCalls", apart := false, narrowed := true }
def LeaseCallsUptoSaid : Prop := leaseCallsUptoRow.holds Try.pinned (OpenSpec.upto leaseCallsSpec)

/-- 'drawbridgelaw06.LeaseOnce', WHERE WHAT IT READS IS OF BULK AT MOST 1048576: true; the input reads as it did. -/
def leaseOnceUptoRow : OpenClaim := { program := "ytndpobibjgcefaa", sum := "29ffd66bb21c450b69de09bd96051a9fbc4a0b19796c39d3dc2e5037470e270a", func := "drawbridge/drawbridgelaw06.LeaseOnce", spec := "leaseOnce", apart := false, narrowed := true }
def LeaseOnceUptoSaid : Prop := leaseOnceUptoRow.holds Try.pinned (OpenSpec.upto leaseOnceSpec)

/-- 'drawbridgelaw06.LeaseNonces', WHERE WHAT IT READS IS OF BULK AT MOST 1048576: true; the input reads as it did. -/
def leaseNoncesUptoRow : OpenClaim := { program := "ytndpobibjgcefaa", sum := "29ffd66bb21c450b69de09bd96051a9fbc4a0b19796c39d3dc2e5037470e270a", func := "drawbridge/drawbridgelaw06.LeaseNonces", spec := "leaseNonces", apart := false, narrowed := true }
def LeaseNoncesUptoSaid : Prop := leaseNoncesUptoRow.holds Try.pinned (OpenSpec.upto leaseNoncesSpec)

/-- 'drawbridgelaw06.LeaseAdds', WHERE WHAT IT READS IS OF BULK AT MOST 1048576: true; the input reads as it did. -/
def leaseAddsUptoRow : OpenClaim := { program := "ytndpobibjgcefaa", sum := "29ffd66bb21c450b69de09bd96051a9fbc4a0b19796c39d3dc2e5037470e270a", func := "drawbridge/drawbridgelaw06.LeaseAdds", spec := "leaseAdds", apart := false, narrowed := true }
def LeaseAddsUptoSaid : Prop := leaseAddsUptoRow.holds Try.pinned (OpenSpec.upto leaseAddsSpec)

end Rows
end Go.Proofs.Ytndpobibjgcefaa
