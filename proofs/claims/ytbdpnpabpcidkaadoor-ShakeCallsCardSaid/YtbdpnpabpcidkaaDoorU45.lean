/- Texts that the proofs share: PktWr3. -/
import Derived.Test.YtbdpnpabpcidkaaDoorU14
import Derived.Test.YtbdpnpabpcidkaaDoorU26
import Derived.Test.YtbdpnpabpcidkaaDoorU33
import Derived.Test.YtbdpnpabpcidkaaDoorU43
namespace Go.Proofs.YtbdpnpabpcidkaaDoor.Pkt
open Go.RowKit
structure KG (lo g : Nat) (F : List UInt8) (x y : World) : Prop where
 os : y.os = x.os
 tape : y.tape = x.tape
 output : y.output = x.output
 size : x.heap.size ≤ y.heap.size
 block : ∀ k, k < x.heap.size → k ≠ g → y.heap[k]? = x.heap[k]?
 up : ∀ u, Row x g [u] 106 → ∃ u', Row y g [u'] 106
 has : (∃ u, Row x g [u] 106 ∧ Own x lo u F) → ∃ u, Row y g [u] 106 ∧ Own y lo u F
section
variable {lo g : Nat} {F : List UInt8}
theorem KG.refl (x : World) : KG lo g F x x := ⟨rfl, rfl, rfl, Nat.le_refl _, fun _ _ _ => rfl, fun u h => ⟨u, h⟩, fun h => h⟩
theorem KG.trans (x y z : World) (h : KG lo g F x y) (k : KG lo g F y z) : KG lo g F x z :=
 ⟨k.os.trans h.os, k.tape.trans h.tape, k.output.trans h.output, Nat.le_trans h.size k.size, fun i h1 h2 => (k.block i (Nat.lt_of_lt_of_le h1 h.size) h2).trans (h.block i h1 h2), fun u hu => by
  obtain ⟨u', hu'⟩ := h.up u hu
  exact k.up u' hu', fun hu => k.has (h.has hu)⟩
end
end Go.Proofs.YtbdpnpabpcidkaaDoor.Pkt
