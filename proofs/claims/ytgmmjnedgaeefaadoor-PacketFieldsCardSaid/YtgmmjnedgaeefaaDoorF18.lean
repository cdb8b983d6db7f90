/- Texts that the proofs share: PolBase. -/
import Derived.Test.YtgmmjnedgaeefaaDoorF16
import Derived.ProofKit
import Derived.Below
import Derived.Test.YtgmmjnedgaeefaaDoorRows
namespace Go.Proofs.YtgmmjnedgaeefaaDoor.Pol
open Go.RowKit
theorem own : ownKnob Tryd.prog.godebug = none := by kernel_rfl
set_option maxRecDepth 100000 in
theorem mixed : Tryd.prog.follows .mixedOrders = true := by kernel_rfl
theorem laid : laidOutB Tryd.prog = true := by kernel_rfl
end Go.Proofs.YtgmmjnedgaeefaaDoor.Pol
