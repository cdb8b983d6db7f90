/- Texts that the proofs share: ShkStr. -/
import Derived.Test.YtbdpnpabpcidkaaDoorU19
import Derived.Lib.ConvBytes
namespace Go.Proofs.YtbdpnpabpcidkaaDoor.Shk
open Go.RowKit
theorem bytesWorld_below (w : World) (l : List UInt8) : Below w.heap.size w (Lib.bytesWorld w 5 ⟨l.toArray⟩) :=
 ⟨rfl, rfl, rfl, by rw [Lib.bytesWorld_size]; omega, fun i hi => Lib.bytesWorld_at_old w 5 _ i hi⟩
theorem run_bytes (w : World) (l : List UInt8) : ∃ v W, (convert 9 23 (strOf l)).run Tryd.prog w = .ok v W ∧ Bs W W.heap.size v l ∧ Below w.heap.size w W := by
 refine ⟨_, _, Lib.run_convert_string_bytes w 9 23 5 ⟨l.toArray⟩ Tryd.underlying9 Tryd.underlying23 Tryd.underlying5, ?_, bytesWorld_below w l⟩
 have hs : (⟨l.toArray⟩ : ByteArray).size = l.length := rfl
 refine ⟨some ⟨w.heap.size, 0, none⟩, grownCap w l.length 0 5, rfl, ?_, fun _ => ⟨w.heap.size, 0, rfl, by rw [Lib.bytesWorld_size]; omega, fun i u hu => ?_⟩⟩
 · exact grownCap_ge w l.length 0 5
 · have hi : i < l.length := (List.getElem?_eq_some_iff.1 hu).1
   rw [Nat.zero_add, Lib.bytesWorld_cell w 5 _ i (by rw [hs]; exact hi)]
   rw [List.getD_eq_getElem?_getD, hu]
   rfl
end Go.Proofs.YtbdpnpabpcidkaaDoor.Shk
