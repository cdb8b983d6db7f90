/- The tag of any bytes: poly.Tag. -/
import Derived.Test.YtpllbnioncjhaaaPolKey
namespace Go.Proofs.Ytpllbnioncjhaaa
open Go.RowKit
namespace Pol
open Poly (L)
set_option maxRecDepth 100000
/-- The tag of these bytes, by the mac that New made. -/
theorem TagF_of {key : List UInt8} {r s : L} (hk : key.length = 32) (hr : Poly.Fit r) (hs : Poly.Fit s)
    (hnew : ∀ w, Calls Try.prog 32 #[arr8 key] w fun e w1 => ∃ g, e = .returned (.pointer (some ⟨g, 0, none⟩)) ∧ w.heap.size ≤ g ∧ Row w1 g (macCells r s zeroL (List.replicate 16 0) 0) 73 ∧ Below w.heap.size w w1)
    {w : World} {v : Value} {l : List UInt8} (hv : Bs w w.heap.size v l) (hl : l.length < 4611686018427387904) :
    Calls Try.prog 12 #[.agg (key.map bv).toArray, v] w fun e w1 => e = .returned (arr8 (tagL r s l)) ∧ Below w.heap.size w w1 := by
  have Hv := Lib.hid hv
  have Hl := Lib.hid hl
  have Hk := Lib.hid (show (key.map bv).length = 32 by rw [List.length_map]; exact hk)
  clear hv hl hk
  go_enter Try.func12, Try.ntmps12
  go_wp2_with (first
    | (refine wpList_loadRow (n := 32) (cs := key.map bv) rfl 24 _ rfl rfl ((Row.new rfl rfl).alloc _) Try.underlying24 rfl (by kernel_rfl) Hk.out ?_)
    | fail)
  obtain ⟨W, hW⟩ : ∃ W, (w.alloc (.cells (key.map bv).toArray 24)).alloc (.cells ((List.replicate 16 (0 : UInt8)).map bv).toArray 35) = W := ⟨_, rfl⟩
  have hWb : Below w.heap.size w W := hW ▸ ((Below.refl _ w).alloc (Nat.le_refl _) _).alloc (by simp) _
  have hWs : W.heap.size = w.heap.size + 2 := by rw [← hW]; simp
  have hWr : Row W (w.heap.size + 1) ((List.replicate 16 (0 : UInt8)).map bv) 35 := hW ▸ Row.new (by simp) rfl
  have hWv : Bs W W.heap.size v l := (hW ▸ ((Hv.out.alloc (Nat.le_refl _) _).alloc (by simp) _) : Bs W w.heap.size v l).more (by omega)
  show Calls _ _ _ ((w.alloc (.cells (key.map bv).toArray 24)).alloc (.cells ((List.replicate 16 (0 : UInt8)).map bv).toArray 35)) _
  rw [hW]
  clear hW
  refine (hnew W).mono ?_
  rintro e w1 ⟨g, rfl, hg, hrow, hb1⟩
  have hr1 := hWr.below hb1 (by omega)
  have hrest := Rest.of_bs hWv hb1 hg
  have hlo1 : w.heap.size ≤ w1.heap.size := by have := hb1.size; omega
  have hb01 := nextB hWb (Nat.le_refl _) hb1
  have Hrow := Lib.hid hrow
  have Hrest := Lib.hid hrest
  have Hr1 := Lib.hid hr1
  have Hb01 := Lib.hid hb01
  have Hg := Lib.hid (show w.heap.size + 2 ≤ g by omega)
  have Hlo1 := Lib.hid hlo1
  clear hrow hrest hr1 hb01 hWr hWv hWb hWs hb1 hg hlo1
  go_wp2_with fail
  refine (Write_any (l := []) hr (MacAt.new Hrow.out) Hrest.out (by have := Hl.out; simpa using this)).mono ?_
  rintro e w2 ⟨rfl, hm2, hk2⟩
  have hr2 : Row w2 (w.heap.size + 1) ((List.replicate 16 (0 : UInt8)).map bv) 35 := (hk2.block (w.heap.size + 1) (by
    have h1 := Hr1.out.lt
    have h2 := Hg.out
    rintro (e | e)
    · have e' : w1.heap.size ≤ w.heap.size + 1 := e
      omega
    · have e' : w.heap.size + 1 = g := e
      omega)).trans Hr1.out
  have hb02 := Hb01.out.trans (keep_below hk2 (lo := w.heap.size) (by rintro k rfl; have := Hg.out; omega) Hlo1.out)
  have Hm2 := Lib.hid hm2
  have Hr2 := Lib.hid hr2
  have Hb02 := Lib.hid hb02
  clear hm2 hr2 hb02 hk2
  go_wp2_with fail
  refine (MTag_any hr hs Hm2.out (by simpa using Hl.out)).mono ?_
  rintro e w3 ⟨rfl, hb3⟩
  have Hr3 := Lib.hid (Hr2.out.below hb3 Hr2.out.lt)
  have Hb03 := Lib.hid (nextB Hb02.out (Nat.le_refl _) hb3)
  rw [List.nil_append]
  clear hb3
  go_wp2_with (first
    | (refine wpList_storeRow (n := 16) rfl 35 _ _ rfl rfl rfl (cs := (tagL r s l).map bv) (old := (List.replicate 16 (0 : UInt8)).map bv) Hr3.out (by kernel_rfl) (by simp [tagL, Poly.bytes16_length]) (by simp) (bytes1 _) ?_)
    | fail)
  refine bodyPost_ret (results_row rfl _ rfl (Hr3.out.setRow _) Try.underlying35 rfl (by kernel_rfl) (n := 16) (by simp [tagL, Poly.bytes16_length])) rfl ?_
  exact ⟨rfl, below_setRow Hb03.out (by omega) _⟩
theorem TagF_any {key : List UInt8} (hk : key.length = 32) {w : World} {v : Value} {l : List UInt8} (hv : Bs w w.heap.size v l) (hl : l.length < 4611686018427387904) :
    Calls Try.prog 12 #[arr8 key, v] w fun e w1 => e = .returned (arr8 (tagK key l)) ∧ Below w.heap.size w w1 :=
  TagF_of hk (rOf_fit hk) (sOf_fit hk) (New_any hk) hv hl
end Pol
end Go.Proofs.Ytpllbnioncjhaaa
