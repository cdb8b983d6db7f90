/- A mac and its tag. -/
import Derived.Test.YtpllbnioncjhaaaPolNew
import Derived.Test.YtpllbnioncjhaaaPolWrite
import Derived.Test.YtpllbnioncjhaaaEqArr
namespace Go.Proofs.Ytpllbnioncjhaaa
open Go.RowKit
namespace Pol
open Poly (L)
def finL (r : L) (l : List UInt8) : L := if 0 < l.length % 16 then Poly.next (sumL r l) r (Poly.le (l.drop (16 * (l.length / 16))) + 256 ^ (l.length % 16)) else sumL r l
def tagL (r s : L) (l : List UInt8) : List UInt8 := Poly.bytes16 (Poly.val (Poly.red (finL r l)) + Poly.val s)
theorem MTag_any {w : World} {g : Nat} {r s : L} {l : List UInt8} (hr : Poly.Fit r) (hs : Poly.Fit s) (h : MacAt w g r s l) (hsz : l.length < 4611686018427387904) :
    Calls Try.prog 34 #[.pointer (some ⟨g, 0, none⟩)] w fun e w1 => e = .returned (arr8 (tagL r s l)) ∧ Below w.heap.size w w1 := by
  obtain ⟨rest, h1, h2, h3⟩ := h
  by_cases h0 : l.length % 16 = 0
  · have := MTag_zero h1 (sumN_loose hr l _) hr hs hsz h3 h0
    have e : fin r (sumN r l (l.length / 16)) rest l.length = finL r l := by unfold fin finL sumL; rw [if_neg (by omega), if_neg (by omega)]
    rw [e] at this
    exact this
  · have := MTag_some h1 (sumN_loose hr l _) hr hs hsz h3 (by omega)
    have e : fin r (sumN r l (l.length / 16)) rest l.length = finL r l := by unfold fin finL sumL; rw [if_pos (by omega), if_pos (by omega), h2]
    rw [e] at this
    exact this
theorem Rest.of_bs {w w1 : World} {g : Nat} {v : Value} {b : List UInt8} (h : Bs w w.heap.size v b) (hb : Below w.heap.size w w1) (hg : w.heap.size ≤ g) : Rest w1 g v b := by
  obtain ⟨A, c, rfl, hc, hcs⟩ := h
  refine ⟨A, c, rfl, hc, fun hne => ?_⟩
  obtain ⟨k, off, rfl, hk, hcell⟩ := hcs hne
  exact ⟨k, off, rfl, by omega, by have := hb.size; omega, fun i u hu => (hb.cell (p := ⟨k, off + i, none⟩) hk).trans (hcell i u hu)⟩
set_option maxRecDepth 100000
theorem keep_below {w w1 : World} {K : Nat → Prop} {lo : Nat} (h : Ev.Keep ⟨w, K⟩ w1) (hK : ∀ k, K k → lo ≤ k) (hlo : lo ≤ w.heap.size) : Below lo w w1 :=
  ⟨h.os, h.tape, h.output, h.size, fun k hk => h.block k fun e => by
    rcases e with e | e
    · have e' : w.heap.size ≤ k := e
      omega
    · have := hK k e
      omega⟩
theorem cell_freeze (w : World) (p q : Addr) (n : Nat) : (w.freeze p n).cell? q = w.cell? q := by
  unfold World.freeze
  split
  · rfl
  · unfold World.cell?
    by_cases hb : p.block = q.block
    · simp only [Array.getElem?_modify, if_pos hb]
      cases w.heap[q.block]? with
      | none => rfl
      | some o => cases o <;> rfl
    · simp only [Array.getElem?_modify, if_neg hb]
theorem below_frozen {B : Nat} {w w1 : World} (h : Below B w w1) {p : Addr} (hp : B ≤ p.block) (n : Nat) : Below B w (w1.freeze p n) := by
  refine h.trans ?_
  unfold World.freeze
  split
  · exact Below.refl _ _
  · refine ⟨rfl, rfl, rfl, by simp, fun k hk => ?_⟩
    simp only [Array.getElem?_modify]
    rw [if_neg (by omega)]
end Pol
end Go.Proofs.Ytpllbnioncjhaaa
