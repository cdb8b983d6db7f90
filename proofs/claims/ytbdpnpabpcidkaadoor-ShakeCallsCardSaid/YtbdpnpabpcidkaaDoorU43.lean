/- Texts that the proofs share: PktWr, PktWr2. -/
import Derived.Test.YtbdpnpabpcidkaaDoorU16
import Derived.Test.YtbdpnpabpcidkaaDoorU19
import Derived.Test.YtbdpnpabpcidkaaDoorU24
import Derived.Test.YtbdpnpabpcidkaaDoorU34
namespace Go.Proofs.YtbdpnpabpcidkaaDoor.Pkt
open Go.RowKit
structure Wr (w : World) (lo g : Nat) (v : Value) (l : List UInt8) : Prop where
 row : Row w g [v] 106
 own : Own w lo v l
 lt : g < lo
 le : lo ≤ w.heap.size
structure KB (lo g : Nat) (x y : World) : Prop where
 os : y.os = x.os
 tape : y.tape = x.tape
 output : y.output = x.output
 size : x.heap.size ≤ y.heap.size
 block : ∀ k, k < lo → k ≠ g → y.heap[k]? = x.heap[k]?
theorem KB.trans {lo g : Nat} {x y z : World} (h : KB lo g x y) (k : KB lo g y z) : KB lo g x z := ⟨k.os.trans h.os, k.tape.trans h.tape, k.output.trans h.output, Nat.le_trans h.size k.size, fun i h1 h2 => (k.block i h1 h2).trans (h.block i h1 h2)⟩
theorem KB.row {lo g b : Nat} {x y : World} {cs : List Value} {u : TypeId} (h : KB lo g x y) (hr : Row x b cs u) (h1 : b < lo) (h2 : b ≠ g) : Row y b cs u := by
 unfold Row
 rw [h.block b h1 h2]
 exact hr
end Go.Proofs.YtbdpnpabpcidkaaDoor.Pkt
namespace Go.Proofs.YtbdpnpabpcidkaaDoor.Pkt
open Go.RowKit
end Go.Proofs.YtbdpnpabpcidkaaDoor.Pkt
