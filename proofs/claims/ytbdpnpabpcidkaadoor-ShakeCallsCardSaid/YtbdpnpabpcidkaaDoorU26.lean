/- Texts that the proofs share: OctEnd, OctRest. -/
import Derived.Test.YtbdpnpabpcidkaaDoorU25
import Derived.StillTailTactics
import Derived.IntWalk
namespace Go.Proofs.YtbdpnpabpcidkaaDoor
open Go.RowKit
theorem Rd.below {w w' : World} {lo g : Nat} {l : List UInt8} {a e B : Nat} (h : Rd w lo g l a e) (hb : Below B w w') (hg : g < B) : Rd w' lo g l a e := by
 obtain ⟨v, h1, h2, h3, h4⟩ := h
 exact ⟨v, by rw [hb.block g hg]; exact h1, h2.keep fun b o hbg => hb.cell (p := ⟨b, o, none⟩) (by simp only; omega), h3, h4⟩
theorem Rd.grown {w w' : World} {lo g : Nat} {l : List UInt8} {a e : Nat} {row : Option Nat} (h : Rd w lo g l a e) (hg : w.grownBy w' row) (hr : ∀ k, row = some k → g < k ∨ k < lo ∧ k < g) : Rd w' lo g l a e := by
 obtain ⟨v, h1, h2, h3, h4, h5⟩ := h
 have hlt : g < w.heap.size := (Array.getElem?_eq_some_iff.1 h1).1
 refine ⟨v, by rw [hg.block g hlt (fun e => by have := hr g e.symm; omega)]; exact h1, ?_, h3, h4, h5⟩
 obtain ⟨A, c, rfl, hc, hcs⟩ := h2
 refine ⟨A, c, rfl, hc, fun hne => ?_⟩
 obtain ⟨b, off, rfl, k1, k2⟩ := hcs hne
 have hlo := h5 b rfl
 exact ⟨b, off, rfl, k1, fun i u hu => (World.cell?_of_block (a := ⟨b, off + i, none⟩) (hg.block b (by omega) (fun e => by have := hr b e.symm; omega))).trans (k2 i u hu)⟩
end Go.Proofs.YtbdpnpabpcidkaaDoor
namespace Go.Proofs.YtbdpnpabpcidkaaDoor
open Go.RowKit
end Go.Proofs.YtbdpnpabpcidkaaDoor
