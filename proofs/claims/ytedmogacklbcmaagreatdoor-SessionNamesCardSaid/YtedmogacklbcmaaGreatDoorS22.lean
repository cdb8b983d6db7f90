/- Texts that the proofs share: ShkStr. -/
import Derived.Test.YtedmogacklbcmaaGreatDoorS19
import Derived.Lib.ConvBytes
namespace Go.Proofs.YtedmogacklbcmaaGreatDoor.Shk
open Go.RowKit
end Go.Proofs.YtedmogacklbcmaaGreatDoor.Shk
