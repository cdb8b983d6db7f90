/- Sixteen bytes, compared: poly.Equal. -/
import Derived.Test.YtpllbnioncjhaaaAeadPure
namespace Go.Proofs.Ytpllbnioncjhaaa
open Go.RowKit
namespace Aead
open Pol (own mixed laid MacAt rOf sOf tagK)
theorem two_flat (a b : List UInt8) : [arr8 a, arr8 b].all Ev.flat = true := by rw [List.all_cons, Pol.flat_bv]; exact Pol.one_flat b
theorem Equal_any {a b : List UInt8} (ha : a.length = 16) (hb : b.length = 16) (w : World) : Calls Try.prog 17 #[arr8 a, arr8 b] w fun e w' => e = .returned (.bool (decide (a = b))) ∧ Below w.heap.size w w' := by
  have h := Equal_ev (PolyI.nums a) (PolyI.nums b) (by simp [PolyI.nums, ha]) (by simp [PolyI.nums, hb])
  rw [show (PolyI.nums a).map PolyI.u8 = a.map bv from Pol.cells_nums a, show (PolyI.nums b).map PolyI.u8 = b.map bv from Pol.cells_nums b, equal_is ha hb] at h
  exact Ev.calls_ans (l := []) mixed (by decide) (by simp) (by simp) (Pol.flat_args (two_flat a b)) h rfl
end Aead
end Go.Proofs.Ytpllbnioncjhaaa
