/- What all of layer 3's proofs ask of the program. -/
import Derived.Test.YtpllbnioncjhaaaDoorEvAll
import Derived.Test.YtpllbnioncjhaaaDoorRows
import Derived.ProofKit
import Derived.Below
namespace Go.Proofs.YtpllbnioncjhaaaDoor.Pol
open Go.RowKit
theorem own : ownKnob Tryd.prog.godebug = none := by kernel_rfl
set_option maxRecDepth 100000 in
theorem mixed : Tryd.prog.follows .mixedOrders = true := by kernel_rfl
theorem laid : laidOutB Tryd.prog = true := by kernel_rfl
end Go.Proofs.YtpllbnioncjhaaaDoor.Pol
