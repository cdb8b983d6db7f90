/- The chapter's examples hold, in every memory. -/
import Derived.Test.YtedmogacklbcmaaEvAll
import Derived.Test.YtedmogacklbcmaaRows
import Derived.ProofKit
import Derived.Below
namespace Go.Proofs.Ytedmogacklbcmaa.Wir
open Go.RowKit
theorem own : ownKnob Try.prog.godebug = none := by kernel_rfl
set_option maxRecDepth 100000 in
theorem mixed : Try.prog.follows .mixedOrders = true := by kernel_rfl
set_option maxRecDepth 100000 in
theorem ran : Ev.evBool Try.prog 6000 20 #[] = some true := by kernel_rfl
theorem lives_any (w : World) : Calls Try.prog 20 #[] w fun e w' => e = .returned (.bool true) ∧ Below w.heap.size w w' := Ev.calls_of_evBool mixed ran w
theorem laid : laidOutB Try.prog = true := by kernel_rfl
end Go.Proofs.Ytedmogacklbcmaa.Wir
