/- Texts that the proofs share: OctRead. -/
import Derived.Test.YtgmmjnedgaeefaaDoorF19
import Derived.Test.YtgmmjnedgaeefaaDoorF25
import Derived.Deep.QuietTactic
import Derived.BigQuiet
namespace Go.Proofs.YtgmmjnedgaeefaaDoor
open Go.RowKit
def Rd (w : World) (lo g : Nat) (l : List UInt8) (at_ err : Nat) : Prop :=
 ∃ v, w.heap[g]? = some (.cells #[.bool true, v, .int .i64 (at_ : Nat), .int .i64 (err : Nat)] 80 (0, 0)) ∧ Bs w g v l ∧ at_ ≤ l.length ∧ l.length ≤ 35184372088832 ∧ ∀ k, v.ownBlock = some k → lo ≤ k
theorem Rd.cells {w : World} {lo g : Nat} {l : List UInt8} {at_ err : Nat} (h : Rd w lo g l at_ err) : ∃ A c, w.cell? ⟨g, 0, none⟩ = some (.bool true) ∧ w.cell? ⟨g, 1, none⟩ = some (.slice A l.length c) ∧ w.cell? ⟨g, 2, none⟩ = some (.int .i64 (at_ : Nat)) ∧ w.cell? ⟨g, 3, none⟩ = some (.int .i64 (err : Nat)) ∧
 w.frozen? ⟨g, 2, none⟩ = false ∧ w.frozen? ⟨g, 3, none⟩ = false ∧ Bs w g (.slice A l.length c) l ∧ l.length ≤ c ∧ at_ ≤ l.length ∧ l.length ≤ 35184372088832 ∧ g < w.heap.size := by
 obtain ⟨v, h1, h2, h3, h4⟩ := h
 obtain ⟨A, c, rfl, hc, hcs⟩ := h2
 refine ⟨A, c, ?_, ?_, ?_, ?_, ?_, ?_, ⟨A, c, rfl, hc, hcs⟩, hc, h3, h4.1, (Array.getElem?_eq_some_iff.1 h1).1⟩ <;> simp [World.cell?, World.frozen?, h1]
theorem Rd.put {w : World} {lo g : Nat} {l : List UInt8} {at_ err : Nat} (h : Rd w lo g l at_ err) (a e : Nat) (ha : a ≤ l.length) : Rd ((w.setCell ⟨g, 2, none⟩ (.int .i64 (a : Nat))).setCell ⟨g, 3, none⟩ (.int .i64 (e : Nat))) lo g l a e := by
 obtain ⟨v, h1, h2, h3, h4⟩ := h
 refine ⟨v, ?_, (h2.setCell (p := ⟨g, 2, none⟩) (Nat.le_refl _) _).setCell (p := ⟨g, 3, none⟩) (Nat.le_refl _) _, ha, h4⟩
 simp [World.setCell, Array.getElem?_modify, h1]
theorem Rd.drew {w : World} {lo g : Nat} {l : List UInt8} {at_ err : Nat} (h : Rd w lo g l at_ err) : Rd w.drew lo g l at_ err := h
theorem Rd.drewN {w : World} {lo g : Nat} {l : List UInt8} {at_ err : Nat} (h : Rd w lo g l at_ err) (n : Nat) : Rd (w.drewN n) lo g l at_ err := h
end Go.Proofs.YtgmmjnedgaeefaaDoor
