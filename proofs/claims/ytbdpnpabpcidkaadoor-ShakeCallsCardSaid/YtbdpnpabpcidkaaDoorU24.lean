/- Texts that the proofs share: OctMake. -/
import Derived.Test.YtbdpnpabpcidkaaDoorU00
import Derived.Test.YtbdpnpabpcidkaaDoorU18
import Derived.Outline
import Derived.Lib.Hide
import Derived.Test.YtbdpnpabpcidkaaDoorShelf
namespace Go.Proofs.YtbdpnpabpcidkaaDoor
open Go.RowKit
theorem Bs.one (w : World) (V : Value) (u : UInt8) (hV : V = bv u) : Bs (w.alloc (.cells #[V] 5)) (w.heap.size + 1) (.slice (some ⟨w.heap.size, 0, none⟩) 1 1) [u] :=
 ⟨_, 1, rfl, by simp, fun _ => ⟨w.heap.size, 0, rfl, by omega, fun i x hx => by
  cases i with
  | zero => simp at hx; subst hx; rw [World.cell?_alloc_at _ _ _ _ rfl, hV]; rfl
  | succ i => simp at hx⟩⟩
end Go.Proofs.YtbdpnpabpcidkaaDoor
