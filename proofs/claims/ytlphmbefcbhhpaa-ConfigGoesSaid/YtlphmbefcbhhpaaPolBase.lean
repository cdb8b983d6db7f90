/- What all of layer 3's proofs ask of the program. -/
import Derived.Test.YtlphmbefcbhhpaaEvAll
import Derived.Test.YtlphmbefcbhhpaaRows
import Derived.ProofKit
import Derived.Below
namespace Go.Proofs.Ytlphmbefcbhhpaa.Pol
open Go.RowKit
theorem own : ownKnob Try.prog.godebug = none := by kernel_rfl
set_option maxRecDepth 100000 in
theorem mixed : Try.prog.follows .mixedOrders = true := by kernel_rfl
theorem laid : laidOutB Try.prog = true := by kernel_rfl
end Go.Proofs.Ytlphmbefcbhhpaa.Pol
