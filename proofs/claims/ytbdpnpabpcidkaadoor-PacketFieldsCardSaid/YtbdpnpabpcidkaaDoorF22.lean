/- Texts that the proofs share: ShkStr. -/
import Derived.Test.YtbdpnpabpcidkaaDoorF20
import Derived.Lib.ConvBytes
namespace Go.Proofs.YtbdpnpabpcidkaaDoor.Shk
open Go.RowKit
end Go.Proofs.YtbdpnpabpcidkaaDoor.Shk
