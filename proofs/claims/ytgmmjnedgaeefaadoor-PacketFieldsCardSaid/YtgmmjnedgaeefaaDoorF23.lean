/- Texts that the proofs share: ShkStr. -/
import Derived.Test.YtgmmjnedgaeefaaDoorF20
import Derived.Lib.ConvBytes
namespace Go.Proofs.YtgmmjnedgaeefaaDoor.Shk
open Go.RowKit
end Go.Proofs.YtgmmjnedgaeefaaDoor.Shk
