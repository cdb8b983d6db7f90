/- Everybody who has the key, and follows the protocol, obtains the same secret; with another mark nobody does: 'drawbridgelaw10.ShakeBoth'. -/
import Derived.Test.YtmfpjdbgdmmjkaaDoorQ39
import Derived.Test.YtmfpjdbgdmmjkaaDoorQ40
import Derived.Test.YtmfpjdbgdmmjkaaDoorQ42
import Derived.Test.YtmfpjdbgdmmjkaaDoorQ43
import Derived.Test.YtmfpjdbgdmmjkaaDoorQ44
namespace Go.Proofs.YtmfpjdbgdmmjkaaDoor.shakeBoth
open Go.ChangeShapes Go.WideShapes Go.ChangeAt Go.RowKit
open Shk Pkt
theorem eq32 (x y : List UInt8) (hx : x.length = 32) (hy : y.length = 32) (w : World) : (Op.equal 24 (arr8 x) (arr8 y)).run Tryd.prog w = .ok (decide (x = y)) w := run_eql_arr8 (P := Tryd.prog) Tryd.underlying24 Tryd.underlying5 (by kernel_rfl) x y hx hy w
set_option maxRecDepth 100000 in
set_option maxHeartbeats 400000 in
theorem low (key ra rb ch : List UInt8) (z : Int) (s e : Nat) (hk : key.length = 32) (hra : ra.length = 16) (hrb : rb.length = 16) (hch : ch.length = 16) (hz : z < 1) (w : World) (ht : Tab w) : Calls Tryd.prog 10 #[arr8 key, .int .i64 z, arr8 ra, arr8 rb, .int .u64 (s : Int), .int .u32 (e : Int), arr8 ch] w fun e w' => e = .returned (.bool true) ∧ Below w.heap.size w w' := by
  have HB0 := Lib.hid (show Below w.heap.size w ((((w.alloc (.cells (key.map bv).toArray 24)).alloc (.cells (ra.map bv).toArray 38)).alloc (.cells (rb.map bv).toArray 38)).alloc (.cells (ch.map bv).toArray 38)) from ((((Below.refl _ w).alloc (Nat.le_refl _) _).alloc (by simp) _).alloc (by simp; omega) _).alloc (by simp; omega) _)
  have HT0 := Lib.hid (ht.below HB0.out ht.1)
  have HK0 := Lib.hid (show Row ((((w.alloc (.cells (key.map bv).toArray 24)).alloc (.cells (ra.map bv).toArray 38)).alloc (.cells (rb.map bv).toArray 38)).alloc (.cells (ch.map bv).toArray 38)) w.heap.size (key.map bv) 24 from (((Row.new rfl rfl).alloc _).alloc _).alloc _)
  have HA0 := Lib.hid (show Row ((((w.alloc (.cells (key.map bv).toArray 24)).alloc (.cells (ra.map bv).toArray 38)).alloc (.cells (rb.map bv).toArray 38)).alloc (.cells (ch.map bv).toArray 38)) (w.heap.size + 1) (ra.map bv) 38 from ((Row.new (by simp) rfl).alloc _).alloc _)
  have HC0 := Lib.hid (show Row ((((w.alloc (.cells (key.map bv).toArray 24)).alloc (.cells (ra.map bv).toArray 38)).alloc (.cells (rb.map bv).toArray 38)).alloc (.cells (ch.map bv).toArray 38)) (w.heap.size + 1 + 1) (rb.map bv) 38 from (Row.new (by simp) rfl).alloc _)
  have HD0 := Lib.hid (show Row ((((w.alloc (.cells (key.map bv).toArray 24)).alloc (.cells (ra.map bv).toArray 38)).alloc (.cells (rb.map bv).toArray 38)).alloc (.cells (ch.map bv).toArray 38)) (w.heap.size + 1 + 1 + 1) (ch.map bv) 38 from Row.new (by simp) rfl)
  have HLv := Lib.hid (fun w (ht : Tab w) => Shk.lives_any w ht)
  have HKl := Lib.hid hk
  have HRa := Lib.hid hra
  have HRb := Lib.hid hrb
  have HRc := Lib.hid hch
  obtain ⟨Z, hZ⟩ : ∃ Z, List.replicate 32 (0 : UInt8) = Z := ⟨_, rfl⟩
  have HZe := Lib.hid hZ
  have HZl := Lib.hid (show Z.length = 32 by rw [← hZ]; rfl)
  have hz32 : z32 = Z.map bv := by rw [← hZ]; rfl
  obtain ⟨E, hE⟩ : ∃ E, nm 0 = E := ⟨_, rfl⟩
  have HEo := Lib.hid (show E.Ok by rw [← hE]; exact Shk.nm_ok)
  have HH0 := Lib.hid (show (if helloOk z then Value.tuple #[(helloP key z ra).val, .int .i64 0] else .tuple #[(nm 0).val, .int .i64 2]) = .tuple #[E.val, .int .i64 2] by rw [if_neg (by unfold helloOk; omega), hE])
  have hz1 : decide ((1 : Int) ≤ z) = false := decide_eq_false (by omega)
  clear ht hk hra hrb hch hZ hz32 hE
  unfold arr8
  go_enter Tryd.func10, Tryd.ntmps10
  go_wp2_with fail
  refine (HLv.out _ HT0.out).mono ?_
  rintro e w1 ⟨rfl, hb⟩
  have HB1 := Lib.hid (nextB HB0.out (Nat.le_refl _) hb)
  have HT1 := Lib.hid (HT0.out.below hb HT0.out.1)
  have HKa := Lib.hid (HK0.out.below hb HK0.out.lt)
  have HAa := Lib.hid (HA0.out.below hb HA0.out.lt)
  have HCa := Lib.hid (HC0.out.below hb HC0.out.lt)
  have HDa := Lib.hid (HD0.out.below hb HD0.out.lt)
  clear hb
  have HL2 := Lib.hid (l_a32 HKa.out HKl.out)
  have HL3 := Lib.hid (l_a16 HAa.out HRa.out)
  go_wp2_with (first
    | (refine wpList_ld 24 rfl rfl HL2.out rfl ?_)
    | (refine wpList_ld 38 rfl rfl HL3.out rfl ?_)
    | fail)
  refine (Hello_any key z ra HKl.out HRa.out w1 HT1.out).mono ?_
  rintro e w4 ⟨rfl, hb⟩
  rw [HH0.out]
  have HB5 := Lib.hid (nextB HB1.out (Nat.le_refl _) hb)
  have HK5 := Lib.hid (HKa.out.below hb HKa.out.lt)
  have HA5 := Lib.hid (HAa.out.below hb HAa.out.lt)
  have HC5 := Lib.hid (HCa.out.below hb HCa.out.lt)
  have HD5 := Lib.hid (HDa.out.below hb HDa.out.lt)
  have HT5 := Lib.hid (HT1.out.below hb HT1.out.1)
  clear hb
  go_wp2_with (first
    | (show wpList _ _ _ (⟨none, Op.store 40 _ _, _, _, _, _⟩ :: _) _ _
       refine wpList_storeRow (g := w4.heap.size) rfl 40 _ _ rfl rfl rfl (cs := E.cells) (Row.new rfl rfl : Row (w4.alloc (.cells (nm 0).cells.toArray 40)) w4.heap.size (nm 0).cells 40) (by kernel_rfl) (Pk.length HEo.out) (Pk.length nm_ok) (Pk.one HEo.out) ?_
       refine wpList_name fun V hV => ?_
       refine sstop ?_)
    | fail)
  unfold SStop
  obtain ⟨W6, hV2⟩ : ∃ V2, V = V2 := ⟨V, rfl⟩
  rw [hV2] at hV ⊢
  clear hV2
  have hb : Below w4.heap.size w4 W6 := by rw [← hV]; exact (below_setRow ((Below.refl _ w4).alloc (Nat.le_refl _) _) (by omega) _)
  have HE6 := Lib.hid (show Row W6 w4.heap.size E.cells 40 by rw [← hV]; exact ((Row.new rfl rfl : Row (w4.alloc (.cells (nm 0).cells.toArray 40)) w4.heap.size (nm 0).cells 40).setRow _))
  have HB7 := Lib.hid (nextB HB5.out (Nat.le_refl _) hb)
  have HK7 := Lib.hid (HK5.out.below hb HK5.out.lt)
  have HA7 := Lib.hid (HA5.out.below hb HA5.out.lt)
  have HC7 := Lib.hid (HC5.out.below hb HC5.out.lt)
  have HD7 := Lib.hid (HD5.out.below hb HD5.out.lt)
  have HT7 := Lib.hid (HT5.out.below hb HT5.out.1)
  clear hV hb
  go_wp2
  go_ret
  exact ⟨rfl, HB7.out⟩
set_option maxRecDepth 100000 in
set_option maxHeartbeats 400000 in
theorem high (key ra rb ch : List UInt8) (z : Int) (s e : Nat) (hk : key.length = 32) (hra : ra.length = 16) (hrb : rb.length = 16) (hch : ch.length = 16) (hz1 : 1 ≤ z) (hz2 : 65536 < z) (w : World) (ht : Tab w) : Calls Tryd.prog 10 #[arr8 key, .int .i64 z, arr8 ra, arr8 rb, .int .u64 (s : Int), .int .u32 (e : Int), arr8 ch] w fun e w' => e = .returned (.bool true) ∧ Below w.heap.size w w' := by
  have HB0 := Lib.hid (show Below w.heap.size w ((((w.alloc (.cells (key.map bv).toArray 24)).alloc (.cells (ra.map bv).toArray 38)).alloc (.cells (rb.map bv).toArray 38)).alloc (.cells (ch.map bv).toArray 38)) from ((((Below.refl _ w).alloc (Nat.le_refl _) _).alloc (by simp) _).alloc (by simp; omega) _).alloc (by simp; omega) _)
  have HT0 := Lib.hid (ht.below HB0.out ht.1)
  have HK0 := Lib.hid (show Row ((((w.alloc (.cells (key.map bv).toArray 24)).alloc (.cells (ra.map bv).toArray 38)).alloc (.cells (rb.map bv).toArray 38)).alloc (.cells (ch.map bv).toArray 38)) w.heap.size (key.map bv) 24 from (((Row.new rfl rfl).alloc _).alloc _).alloc _)
  have HA0 := Lib.hid (show Row ((((w.alloc (.cells (key.map bv).toArray 24)).alloc (.cells (ra.map bv).toArray 38)).alloc (.cells (rb.map bv).toArray 38)).alloc (.cells (ch.map bv).toArray 38)) (w.heap.size + 1) (ra.map bv) 38 from ((Row.new (by simp) rfl).alloc _).alloc _)
  have HC0 := Lib.hid (show Row ((((w.alloc (.cells (key.map bv).toArray 24)).alloc (.cells (ra.map bv).toArray 38)).alloc (.cells (rb.map bv).toArray 38)).alloc (.cells (ch.map bv).toArray 38)) (w.heap.size + 1 + 1) (rb.map bv) 38 from (Row.new (by simp) rfl).alloc _)
  have HD0 := Lib.hid (show Row ((((w.alloc (.cells (key.map bv).toArray 24)).alloc (.cells (ra.map bv).toArray 38)).alloc (.cells (rb.map bv).toArray 38)).alloc (.cells (ch.map bv).toArray 38)) (w.heap.size + 1 + 1 + 1) (ch.map bv) 38 from Row.new (by simp) rfl)
  have HLv := Lib.hid (fun w (ht : Tab w) => Shk.lives_any w ht)
  have HKl := Lib.hid hk
  have HRa := Lib.hid hra
  have HRb := Lib.hid hrb
  have HRc := Lib.hid hch
  obtain ⟨Z, hZ⟩ : ∃ Z, List.replicate 32 (0 : UInt8) = Z := ⟨_, rfl⟩
  have HZe := Lib.hid hZ
  have HZl := Lib.hid (show Z.length = 32 by rw [← hZ]; rfl)
  have hz32 : z32 = Z.map bv := by rw [← hZ]; rfl
  obtain ⟨E, hE⟩ : ∃ E, nm 0 = E := ⟨_, rfl⟩
  have HEo := Lib.hid (show E.Ok by rw [← hE]; exact Shk.nm_ok)
  have HH0 := Lib.hid (show (if helloOk z then Value.tuple #[(helloP key z ra).val, .int .i64 0] else .tuple #[(nm 0).val, .int .i64 2]) = .tuple #[E.val, .int .i64 2] by rw [if_neg (by unfold helloOk; omega), hE])
  have hz1 : decide ((1 : Int) ≤ z) = true := decide_eq_true hz1
  have hz2 : decide (z ≤ (65536 : Int)) = false := decide_eq_false (by omega)
  clear ht hk hra hrb hch hZ hz32 hE
  unfold arr8
  go_enter Tryd.func10, Tryd.ntmps10
  go_wp2_with fail
  refine (HLv.out _ HT0.out).mono ?_
  rintro e w1 ⟨rfl, hb⟩
  have HB1 := Lib.hid (nextB HB0.out (Nat.le_refl _) hb)
  have HT1 := Lib.hid (HT0.out.below hb HT0.out.1)
  have HKa := Lib.hid (HK0.out.below hb HK0.out.lt)
  have HAa := Lib.hid (HA0.out.below hb HA0.out.lt)
  have HCa := Lib.hid (HC0.out.below hb HC0.out.lt)
  have HDa := Lib.hid (HD0.out.below hb HD0.out.lt)
  clear hb
  have HL2 := Lib.hid (l_a32 HKa.out HKl.out)
  have HL3 := Lib.hid (l_a16 HAa.out HRa.out)
  go_wp2_with (first
    | (refine wpList_ld 24 rfl rfl HL2.out rfl ?_)
    | (refine wpList_ld 38 rfl rfl HL3.out rfl ?_)
    | fail)
  refine (Hello_any key z ra HKl.out HRa.out w1 HT1.out).mono ?_
  rintro e w4 ⟨rfl, hb⟩
  rw [HH0.out]
  have HB5 := Lib.hid (nextB HB1.out (Nat.le_refl _) hb)
  have HK5 := Lib.hid (HKa.out.below hb HKa.out.lt)
  have HA5 := Lib.hid (HAa.out.below hb HAa.out.lt)
  have HC5 := Lib.hid (HCa.out.below hb HCa.out.lt)
  have HD5 := Lib.hid (HDa.out.below hb HDa.out.lt)
  have HT5 := Lib.hid (HT1.out.below hb HT1.out.1)
  clear hb
  go_wp2_with (first
    | (show wpList _ _ _ (⟨none, Op.store 40 _ _, _, _, _, _⟩ :: _) _ _
       refine wpList_storeRow (g := w4.heap.size) rfl 40 _ _ rfl rfl rfl (cs := E.cells) (Row.new rfl rfl : Row (w4.alloc (.cells (nm 0).cells.toArray 40)) w4.heap.size (nm 0).cells 40) (by kernel_rfl) (Pk.length HEo.out) (Pk.length nm_ok) (Pk.one HEo.out) ?_
       refine wpList_name fun V hV => ?_
       refine sstop ?_)
    | fail)
  unfold SStop
  obtain ⟨W6, hV2⟩ : ∃ V2, V = V2 := ⟨V, rfl⟩
  rw [hV2] at hV ⊢
  clear hV2
  have hb : Below w4.heap.size w4 W6 := by rw [← hV]; exact (below_setRow ((Below.refl _ w4).alloc (Nat.le_refl _) _) (by omega) _)
  have HE6 := Lib.hid (show Row W6 w4.heap.size E.cells 40 by rw [← hV]; exact ((Row.new rfl rfl : Row (w4.alloc (.cells (nm 0).cells.toArray 40)) w4.heap.size (nm 0).cells 40).setRow _))
  have HB7 := Lib.hid (nextB HB5.out (Nat.le_refl _) hb)
  have HK7 := Lib.hid (HK5.out.below hb HK5.out.lt)
  have HA7 := Lib.hid (HA5.out.below hb HA5.out.lt)
  have HC7 := Lib.hid (HC5.out.below hb HC5.out.lt)
  have HD7 := Lib.hid (HD5.out.below hb HD5.out.lt)
  have HT7 := Lib.hid (HT5.out.below hb HT5.out.1)
  clear hV hb
  go_wp2
  go_ret
  exact ⟨rfl, HB7.out⟩
set_option maxRecDepth 100000 in
set_option maxHeartbeats 400000 in
theorem no_s (key ra rb ch : List UInt8) (z : Int) (s e : Nat) (hk : key.length = 32) (hra : ra.length = 16) (hrb : rb.length = 16) (hch : ch.length = 16) (hok : helloOk z) (hs : s = 0) (w : World) (ht : Tab w) : Calls Tryd.prog 10 #[arr8 key, .int .i64 z, arr8 ra, arr8 rb, .int .u64 (s : Int), .int .u32 (e : Int), arr8 ch] w fun e w' => e = .returned (.bool true) ∧ Below w.heap.size w w' := by
  have HB0 := Lib.hid (show Below w.heap.size w ((((w.alloc (.cells (key.map bv).toArray 24)).alloc (.cells (ra.map bv).toArray 38)).alloc (.cells (rb.map bv).toArray 38)).alloc (.cells (ch.map bv).toArray 38)) from ((((Below.refl _ w).alloc (Nat.le_refl _) _).alloc (by simp) _).alloc (by simp; omega) _).alloc (by simp; omega) _)
  have HT0 := Lib.hid (ht.below HB0.out ht.1)
  have HK0 := Lib.hid (show Row ((((w.alloc (.cells (key.map bv).toArray 24)).alloc (.cells (ra.map bv).toArray 38)).alloc (.cells (rb.map bv).toArray 38)).alloc (.cells (ch.map bv).toArray 38)) w.heap.size (key.map bv) 24 from (((Row.new rfl rfl).alloc _).alloc _).alloc _)
  have HA0 := Lib.hid (show Row ((((w.alloc (.cells (key.map bv).toArray 24)).alloc (.cells (ra.map bv).toArray 38)).alloc (.cells (rb.map bv).toArray 38)).alloc (.cells (ch.map bv).toArray 38)) (w.heap.size + 1) (ra.map bv) 38 from ((Row.new (by simp) rfl).alloc _).alloc _)
  have HC0 := Lib.hid (show Row ((((w.alloc (.cells (key.map bv).toArray 24)).alloc (.cells (ra.map bv).toArray 38)).alloc (.cells (rb.map bv).toArray 38)).alloc (.cells (ch.map bv).toArray 38)) (w.heap.size + 1 + 1) (rb.map bv) 38 from (Row.new (by simp) rfl).alloc _)
  have HD0 := Lib.hid (show Row ((((w.alloc (.cells (key.map bv).toArray 24)).alloc (.cells (ra.map bv).toArray 38)).alloc (.cells (rb.map bv).toArray 38)).alloc (.cells (ch.map bv).toArray 38)) (w.heap.size + 1 + 1 + 1) (ch.map bv) 38 from Row.new (by simp) rfl)
  have HLv := Lib.hid (fun w (ht : Tab w) => Shk.lives_any w ht)
  have HKl := Lib.hid hk
  have HRa := Lib.hid hra
  have HRb := Lib.hid hrb
  have HRc := Lib.hid hch
  obtain ⟨Z, hZ⟩ : ∃ Z, List.replicate 32 (0 : UInt8) = Z := ⟨_, rfl⟩
  have HZe := Lib.hid hZ
  have HZl := Lib.hid (show Z.length = 32 by rw [← hZ]; rfl)
  have hz32 : z32 = Z.map bv := by rw [← hZ]; rfl
  obtain ⟨E, hE⟩ : ∃ E, nm 0 = E := ⟨_, rfl⟩
  have HEo := Lib.hid (show E.Ok by rw [← hE]; exact Shk.nm_ok)
  obtain ⟨H, hH⟩ : ∃ H, helloP key z ra = H := ⟨_, rfl⟩
  have HHo := Lib.hid (show H.Ok by rw [← hH]; exact helloP_ok key z HRa.out)
  have HHb := Lib.hid (show H.bo = .slice none 0 0 by rw [← hH]; rfl)
  have hc : ckH key H 0 = 0 := by rw [← hH]; exact ckH_hello key z ra hok
  have HH1 := Lib.hid (show (if helloOk z then Value.tuple #[(helloP key z ra).val, .int .i64 0] else .tuple #[(nm 0).val, .int .i64 2]) = .tuple #[H.val, .int .i64 0] by rw [if_pos hok, hH])
  have hz1 : decide ((1 : Int) ≤ z) = true := decide_eq_true hok.1
  have hz2 : decide (z ≤ (65536 : Int)) = true := decide_eq_true hok.2
  have hno : ¬ ansOk s e := by unfold ansOk; omega
  have HA1 := Lib.hid (show ansV key H 0 s e rb = .tuple #[E.val, arr8 Z, .int .i64 2] by rw [ansV_args hc hno, hE, hz32]; rfl)
  have hs' : decide (0 < s) = false := decide_eq_false (by omega)
  clear hs
  clear ht hk hra hrb hch hZ hz32 hE hH hc hok hno
  unfold arr8
  go_enter Tryd.func10, Tryd.ntmps10
  go_wp2_with fail
  refine (HLv.out _ HT0.out).mono ?_
  rintro e w1 ⟨rfl, hb⟩
  have HB1 := Lib.hid (nextB HB0.out (Nat.le_refl _) hb)
  have HT1 := Lib.hid (HT0.out.below hb HT0.out.1)
  have HKa := Lib.hid (HK0.out.below hb HK0.out.lt)
  have HAa := Lib.hid (HA0.out.below hb HA0.out.lt)
  have HCa := Lib.hid (HC0.out.below hb HC0.out.lt)
  have HDa := Lib.hid (HD0.out.below hb HD0.out.lt)
  clear hb
  have HL2 := Lib.hid (l_a32 HKa.out HKl.out)
  have HL3 := Lib.hid (l_a16 HAa.out HRa.out)
  go_wp2_with (first
    | (refine wpList_ld 24 rfl rfl HL2.out rfl ?_)
    | (refine wpList_ld 38 rfl rfl HL3.out rfl ?_)
    | fail)
  refine (Hello_any key z ra HKl.out HRa.out w1 HT1.out).mono ?_
  rintro e w4 ⟨rfl, hb⟩
  rw [HH1.out]
  have HB5 := Lib.hid (nextB HB1.out (Nat.le_refl _) hb)
  have HK5 := Lib.hid (HKa.out.below hb HKa.out.lt)
  have HA5 := Lib.hid (HAa.out.below hb HAa.out.lt)
  have HC5 := Lib.hid (HCa.out.below hb HCa.out.lt)
  have HD5 := Lib.hid (HDa.out.below hb HDa.out.lt)
  have HT5 := Lib.hid (HT1.out.below hb HT1.out.1)
  clear hb
  go_wp2_with (first
    | (show wpList _ _ _ (⟨none, Op.store 40 _ _, _, _, _, _⟩ :: _) _ _
       refine wpList_storeRow (g := w4.heap.size) rfl 40 _ _ rfl rfl rfl (cs := H.cells) (Row.new rfl rfl : Row (w4.alloc (.cells (nm 0).cells.toArray 40)) w4.heap.size (nm 0).cells 40) (by kernel_rfl) (Pk.length HHo.out) (Pk.length nm_ok) (Pk.one HHo.out) ?_
       refine wpList_name fun V hV => ?_
       refine sstop ?_)
    | fail)
  unfold SStop
  obtain ⟨W6, hV2⟩ : ∃ V2, V = V2 := ⟨V, rfl⟩
  rw [hV2] at hV ⊢
  clear hV2
  have hb : Below w4.heap.size w4 W6 := by rw [← hV]; exact (below_setRow ((Below.refl _ w4).alloc (Nat.le_refl _) _) (by omega) _)
  have HH6 := Lib.hid (show Row W6 w4.heap.size H.cells 40 by rw [← hV]; exact ((Row.new rfl rfl : Row (w4.alloc (.cells (nm 0).cells.toArray 40)) w4.heap.size (nm 0).cells 40).setRow _))
  have HB7 := Lib.hid (nextB HB5.out (Nat.le_refl _) hb)
  have HK7 := Lib.hid (HK5.out.below hb HK5.out.lt)
  have HA7 := Lib.hid (HA5.out.below hb HA5.out.lt)
  have HC7 := Lib.hid (HC5.out.below hb HC5.out.lt)
  have HD7 := Lib.hid (HD5.out.below hb HD5.out.lt)
  have HT7 := Lib.hid (HT5.out.below hb HT5.out.1)
  clear hV hb
  have HL8 := Lib.hid (l_a32 HK7.out HKl.out)
  have HL9 := Lib.hid (l_all HH6.out HHo.out)
  have HL10 := Lib.hid (l_a16 HC7.out HRb.out)
  go_wp2_with (first
    | (refine wpList_ld 24 rfl rfl HL8.out rfl ?_)
    | (refine wpList_ld 40 rfl rfl HL9.out rfl ?_)
    | (refine wpList_ld 38 rfl rfl HL10.out rfl ?_)
    | fail)
  refine (Answer_any key H s e rb HKl.out HHo.out none 0 0 HHb.out HRb.out W6 HT7.out).mono ?_
  rintro e w11 ⟨rfl, hb⟩
  rw [HA1.out]
  have HB12 := Lib.hid (nextB HB7.out (Nat.le_refl _) hb)
  have HK12 := Lib.hid (HK7.out.below hb HK7.out.lt)
  have HA12 := Lib.hid (HA7.out.below hb HA7.out.lt)
  have HC12 := Lib.hid (HC7.out.below hb HC7.out.lt)
  have HD12 := Lib.hid (HD7.out.below hb HD7.out.lt)
  have HH12 := Lib.hid (HH6.out.below hb HH6.out.lt)
  have HT12 := Lib.hid (HT7.out.below hb HT7.out.1)
  clear hb
  go_wp2_with (first
    | (show wpList _ _ _ (⟨none, Op.store 40 _ _, _, _, _, _⟩ :: _) _ _
       refine wpList_storeRow (g := w11.heap.size) rfl 40 _ _ rfl rfl rfl (cs := E.cells) ((Row.new rfl rfl : Row (w11.alloc (.cells (nm 0).cells.toArray 40)) w11.heap.size (nm 0).cells 40).alloc _) (by kernel_rfl) (Pk.length HEo.out) (Pk.length nm_ok) (Pk.one HEo.out) ?_)
    | (show wpList _ _ _ (⟨none, Op.store 24 _ _, _, _, _, _⟩ :: _) _ _
       refine wpList_storeRow (g := (w11.heap.size + 1)) rfl 24 _ _ rfl rfl rfl (cs := (Z.map bv)) ((Row.new (by simp) rfl : Row ((w11.alloc (.cells (nm 0).cells.toArray 40)).alloc (.cells z32.toArray 24)) (w11.heap.size + 1) z32 24).setOther _ _ (by omega)) (by kernel_rfl) (by rw [List.length_map]; exact HZl.out) rfl (hbytes_one Z) ?_
       refine wpList_name fun V hV => ?_
       refine sstop ?_)
    | fail)
  unfold SStop
  obtain ⟨W13, hV2⟩ : ∃ V2, V = V2 := ⟨V, rfl⟩
  rw [hV2] at hV ⊢
  clear hV2
  have hb : Below w11.heap.size w11 W13 := by rw [← hV]; exact (below_setRow (below_setRow (((Below.refl _ w11).alloc (Nat.le_refl _) _).alloc (by simp) _) (by omega) _) (by omega) _)
  have HE13 := Lib.hid (show Row W13 w11.heap.size E.cells 40 by rw [← hV]; exact ((((Row.new rfl rfl : Row (w11.alloc (.cells (nm 0).cells.toArray 40)) w11.heap.size (nm 0).cells 40).alloc _).setRow _).setOther _ _ (by omega)))
  have HZ13 := Lib.hid (show Row W13 (w11.heap.size + 1) (Z.map bv) 24 by rw [← hV]; exact (((Row.new (by simp) rfl : Row ((w11.alloc (.cells (nm 0).cells.toArray 40)).alloc (.cells z32.toArray 24)) (w11.heap.size + 1) z32 24).setOther _ _ (by omega)).setRow _))
  have HB14 := Lib.hid (nextB HB12.out (Nat.le_refl _) hb)
  have HK14 := Lib.hid (HK12.out.below hb HK12.out.lt)
  have HA14 := Lib.hid (HA12.out.below hb HA12.out.lt)
  have HC14 := Lib.hid (HC12.out.below hb HC12.out.lt)
  have HD14 := Lib.hid (HD12.out.below hb HD12.out.lt)
  have HH14 := Lib.hid (HH12.out.below hb HH12.out.lt)
  have HT14 := Lib.hid (HT12.out.below hb HT12.out.1)
  clear hV hb
  have heg := fun u v w => eqg .eql (.inl rfl) Z Z u v w
  have hev := fun w => eqv Z Z HZl.out HZl.out w
  rw [show decide (Z = Z) = true by simp] at hev
  have HL15 := Lib.hid (l_a32 HZ13.out HZl.out)
  go_wp2_with (first
    | (refine wpList_ld 24 rfl rfl HL15.out rfl ?_)
    | (show wpList _ _ _ (⟨some 72, _, _, _, _, _⟩ :: _) _ _; refine wpList_bd _ _ rfl (v := arr8 Z) (by rw [← HZe.out]; kernel_rfl) rfl ?_)
    | fail)
  go_ret
  exact ⟨rfl, HB14.out⟩
set_option maxRecDepth 100000 in
set_option maxHeartbeats 400000 in
theorem no_e (key ra rb ch : List UInt8) (z : Int) (s e : Nat) (hk : key.length = 32) (hra : ra.length = 16) (hrb : rb.length = 16) (hch : ch.length = 16) (hok : helloOk z) (hs : 1 ≤ s) (he : e = 0) (w : World) (ht : Tab w) : Calls Tryd.prog 10 #[arr8 key, .int .i64 z, arr8 ra, arr8 rb, .int .u64 (s : Int), .int .u32 (e : Int), arr8 ch] w fun e w' => e = .returned (.bool true) ∧ Below w.heap.size w w' := by
  have HB0 := Lib.hid (show Below w.heap.size w ((((w.alloc (.cells (key.map bv).toArray 24)).alloc (.cells (ra.map bv).toArray 38)).alloc (.cells (rb.map bv).toArray 38)).alloc (.cells (ch.map bv).toArray 38)) from ((((Below.refl _ w).alloc (Nat.le_refl _) _).alloc (by simp) _).alloc (by simp; omega) _).alloc (by simp; omega) _)
  have HT0 := Lib.hid (ht.below HB0.out ht.1)
  have HK0 := Lib.hid (show Row ((((w.alloc (.cells (key.map bv).toArray 24)).alloc (.cells (ra.map bv).toArray 38)).alloc (.cells (rb.map bv).toArray 38)).alloc (.cells (ch.map bv).toArray 38)) w.heap.size (key.map bv) 24 from (((Row.new rfl rfl).alloc _).alloc _).alloc _)
  have HA0 := Lib.hid (show Row ((((w.alloc (.cells (key.map bv).toArray 24)).alloc (.cells (ra.map bv).toArray 38)).alloc (.cells (rb.map bv).toArray 38)).alloc (.cells (ch.map bv).toArray 38)) (w.heap.size + 1) (ra.map bv) 38 from ((Row.new (by simp) rfl).alloc _).alloc _)
  have HC0 := Lib.hid (show Row ((((w.alloc (.cells (key.map bv).toArray 24)).alloc (.cells (ra.map bv).toArray 38)).alloc (.cells (rb.map bv).toArray 38)).alloc (.cells (ch.map bv).toArray 38)) (w.heap.size + 1 + 1) (rb.map bv) 38 from (Row.new (by simp) rfl).alloc _)
  have HD0 := Lib.hid (show Row ((((w.alloc (.cells (key.map bv).toArray 24)).alloc (.cells (ra.map bv).toArray 38)).alloc (.cells (rb.map bv).toArray 38)).alloc (.cells (ch.map bv).toArray 38)) (w.heap.size + 1 + 1 + 1) (ch.map bv) 38 from Row.new (by simp) rfl)
  have HLv := Lib.hid (fun w (ht : Tab w) => Shk.lives_any w ht)
  have HKl := Lib.hid hk
  have HRa := Lib.hid hra
  have HRb := Lib.hid hrb
  have HRc := Lib.hid hch
  obtain ⟨Z, hZ⟩ : ∃ Z, List.replicate 32 (0 : UInt8) = Z := ⟨_, rfl⟩
  have HZe := Lib.hid hZ
  have HZl := Lib.hid (show Z.length = 32 by rw [← hZ]; rfl)
  have hz32 : z32 = Z.map bv := by rw [← hZ]; rfl
  obtain ⟨E, hE⟩ : ∃ E, nm 0 = E := ⟨_, rfl⟩
  have HEo := Lib.hid (show E.Ok by rw [← hE]; exact Shk.nm_ok)
  obtain ⟨H, hH⟩ : ∃ H, helloP key z ra = H := ⟨_, rfl⟩
  have HHo := Lib.hid (show H.Ok by rw [← hH]; exact helloP_ok key z HRa.out)
  have HHb := Lib.hid (show H.bo = .slice none 0 0 by rw [← hH]; rfl)
  have hc : ckH key H 0 = 0 := by rw [← hH]; exact ckH_hello key z ra hok
  have HH1 := Lib.hid (show (if helloOk z then Value.tuple #[(helloP key z ra).val, .int .i64 0] else .tuple #[(nm 0).val, .int .i64 2]) = .tuple #[H.val, .int .i64 0] by rw [if_pos hok, hH])
  have hz1 : decide ((1 : Int) ≤ z) = true := decide_eq_true hok.1
  have hz2 : decide (z ≤ (65536 : Int)) = true := decide_eq_true hok.2
  have hno : ¬ ansOk s e := by unfold ansOk; omega
  have HA1 := Lib.hid (show ansV key H 0 s e rb = .tuple #[E.val, arr8 Z, .int .i64 2] by rw [ansV_args hc hno, hE, hz32]; rfl)
  have hs' : decide (0 < s) = true := decide_eq_true (by omega)
  have he' : decide (0 < e) = false := decide_eq_false (by omega)
  clear hs he
  clear ht hk hra hrb hch hZ hz32 hE hH hc hok hno
  unfold arr8
  go_enter Tryd.func10, Tryd.ntmps10
  go_wp2_with fail
  refine (HLv.out _ HT0.out).mono ?_
  rintro e w1 ⟨rfl, hb⟩
  have HB1 := Lib.hid (nextB HB0.out (Nat.le_refl _) hb)
  have HT1 := Lib.hid (HT0.out.below hb HT0.out.1)
  have HKa := Lib.hid (HK0.out.below hb HK0.out.lt)
  have HAa := Lib.hid (HA0.out.below hb HA0.out.lt)
  have HCa := Lib.hid (HC0.out.below hb HC0.out.lt)
  have HDa := Lib.hid (HD0.out.below hb HD0.out.lt)
  clear hb
  have HL2 := Lib.hid (l_a32 HKa.out HKl.out)
  have HL3 := Lib.hid (l_a16 HAa.out HRa.out)
  go_wp2_with (first
    | (refine wpList_ld 24 rfl rfl HL2.out rfl ?_)
    | (refine wpList_ld 38 rfl rfl HL3.out rfl ?_)
    | fail)
  refine (Hello_any key z ra HKl.out HRa.out w1 HT1.out).mono ?_
  rintro e w4 ⟨rfl, hb⟩
  rw [HH1.out]
  have HB5 := Lib.hid (nextB HB1.out (Nat.le_refl _) hb)
  have HK5 := Lib.hid (HKa.out.below hb HKa.out.lt)
  have HA5 := Lib.hid (HAa.out.below hb HAa.out.lt)
  have HC5 := Lib.hid (HCa.out.below hb HCa.out.lt)
  have HD5 := Lib.hid (HDa.out.below hb HDa.out.lt)
  have HT5 := Lib.hid (HT1.out.below hb HT1.out.1)
  clear hb
  go_wp2_with (first
    | (show wpList _ _ _ (⟨none, Op.store 40 _ _, _, _, _, _⟩ :: _) _ _
       refine wpList_storeRow (g := w4.heap.size) rfl 40 _ _ rfl rfl rfl (cs := H.cells) (Row.new rfl rfl : Row (w4.alloc (.cells (nm 0).cells.toArray 40)) w4.heap.size (nm 0).cells 40) (by kernel_rfl) (Pk.length HHo.out) (Pk.length nm_ok) (Pk.one HHo.out) ?_
       refine wpList_name fun V hV => ?_
       refine sstop ?_)
    | fail)
  unfold SStop
  obtain ⟨W6, hV2⟩ : ∃ V2, V = V2 := ⟨V, rfl⟩
  rw [hV2] at hV ⊢
  clear hV2
  have hb : Below w4.heap.size w4 W6 := by rw [← hV]; exact (below_setRow ((Below.refl _ w4).alloc (Nat.le_refl _) _) (by omega) _)
  have HH6 := Lib.hid (show Row W6 w4.heap.size H.cells 40 by rw [← hV]; exact ((Row.new rfl rfl : Row (w4.alloc (.cells (nm 0).cells.toArray 40)) w4.heap.size (nm 0).cells 40).setRow _))
  have HB7 := Lib.hid (nextB HB5.out (Nat.le_refl _) hb)
  have HK7 := Lib.hid (HK5.out.below hb HK5.out.lt)
  have HA7 := Lib.hid (HA5.out.below hb HA5.out.lt)
  have HC7 := Lib.hid (HC5.out.below hb HC5.out.lt)
  have HD7 := Lib.hid (HD5.out.below hb HD5.out.lt)
  have HT7 := Lib.hid (HT5.out.below hb HT5.out.1)
  clear hV hb
  have HL8 := Lib.hid (l_a32 HK7.out HKl.out)
  have HL9 := Lib.hid (l_all HH6.out HHo.out)
  have HL10 := Lib.hid (l_a16 HC7.out HRb.out)
  go_wp2_with (first
    | (refine wpList_ld 24 rfl rfl HL8.out rfl ?_)
    | (refine wpList_ld 40 rfl rfl HL9.out rfl ?_)
    | (refine wpList_ld 38 rfl rfl HL10.out rfl ?_)
    | fail)
  refine (Answer_any key H s e rb HKl.out HHo.out none 0 0 HHb.out HRb.out W6 HT7.out).mono ?_
  rintro e w11 ⟨rfl, hb⟩
  rw [HA1.out]
  have HB12 := Lib.hid (nextB HB7.out (Nat.le_refl _) hb)
  have HK12 := Lib.hid (HK7.out.below hb HK7.out.lt)
  have HA12 := Lib.hid (HA7.out.below hb HA7.out.lt)
  have HC12 := Lib.hid (HC7.out.below hb HC7.out.lt)
  have HD12 := Lib.hid (HD7.out.below hb HD7.out.lt)
  have HH12 := Lib.hid (HH6.out.below hb HH6.out.lt)
  have HT12 := Lib.hid (HT7.out.below hb HT7.out.1)
  clear hb
  go_wp2_with (first
    | (show wpList _ _ _ (⟨none, Op.store 40 _ _, _, _, _, _⟩ :: _) _ _
       refine wpList_storeRow (g := w11.heap.size) rfl 40 _ _ rfl rfl rfl (cs := E.cells) ((Row.new rfl rfl : Row (w11.alloc (.cells (nm 0).cells.toArray 40)) w11.heap.size (nm 0).cells 40).alloc _) (by kernel_rfl) (Pk.length HEo.out) (Pk.length nm_ok) (Pk.one HEo.out) ?_)
    | (show wpList _ _ _ (⟨none, Op.store 24 _ _, _, _, _, _⟩ :: _) _ _
       refine wpList_storeRow (g := (w11.heap.size + 1)) rfl 24 _ _ rfl rfl rfl (cs := (Z.map bv)) ((Row.new (by simp) rfl : Row ((w11.alloc (.cells (nm 0).cells.toArray 40)).alloc (.cells z32.toArray 24)) (w11.heap.size + 1) z32 24).setOther _ _ (by omega)) (by kernel_rfl) (by rw [List.length_map]; exact HZl.out) rfl (hbytes_one Z) ?_
       refine wpList_name fun V hV => ?_
       refine sstop ?_)
    | fail)
  unfold SStop
  obtain ⟨W13, hV2⟩ : ∃ V2, V = V2 := ⟨V, rfl⟩
  rw [hV2] at hV ⊢
  clear hV2
  have hb : Below w11.heap.size w11 W13 := by rw [← hV]; exact (below_setRow (below_setRow (((Below.refl _ w11).alloc (Nat.le_refl _) _).alloc (by simp) _) (by omega) _) (by omega) _)
  have HE13 := Lib.hid (show Row W13 w11.heap.size E.cells 40 by rw [← hV]; exact ((((Row.new rfl rfl : Row (w11.alloc (.cells (nm 0).cells.toArray 40)) w11.heap.size (nm 0).cells 40).alloc _).setRow _).setOther _ _ (by omega)))
  have HZ13 := Lib.hid (show Row W13 (w11.heap.size + 1) (Z.map bv) 24 by rw [← hV]; exact (((Row.new (by simp) rfl : Row ((w11.alloc (.cells (nm 0).cells.toArray 40)).alloc (.cells z32.toArray 24)) (w11.heap.size + 1) z32 24).setOther _ _ (by omega)).setRow _))
  have HB14 := Lib.hid (nextB HB12.out (Nat.le_refl _) hb)
  have HK14 := Lib.hid (HK12.out.below hb HK12.out.lt)
  have HA14 := Lib.hid (HA12.out.below hb HA12.out.lt)
  have HC14 := Lib.hid (HC12.out.below hb HC12.out.lt)
  have HD14 := Lib.hid (HD12.out.below hb HD12.out.lt)
  have HH14 := Lib.hid (HH12.out.below hb HH12.out.lt)
  have HT14 := Lib.hid (HT12.out.below hb HT12.out.1)
  clear hV hb
  have heg := fun u v w => eqg .eql (.inl rfl) Z Z u v w
  have hev := fun w => eqv Z Z HZl.out HZl.out w
  rw [show decide (Z = Z) = true by simp] at hev
  have HL15 := Lib.hid (l_a32 HZ13.out HZl.out)
  go_wp2_with (first
    | (refine wpList_ld 24 rfl rfl HL15.out rfl ?_)
    | (show wpList _ _ _ (⟨some 72, _, _, _, _, _⟩ :: _) _ _; refine wpList_bd _ _ rfl (v := arr8 Z) (by rw [← HZe.out]; kernel_rfl) rfl ?_)
    | fail)
  go_ret
  exact ⟨rfl, HB14.out⟩
set_option maxRecDepth 100000 in
set_option maxHeartbeats 8000000 in
theorem walk (key ra rb ch : List UInt8) (z : Int) (s e : Nat) (hk : key.length = 32) (hra : ra.length = 16) (hrb : rb.length = 16) (hch : ch.length = 16) (hok : helloOk z) (hs : 1 ≤ s) (he : 1 ≤ e) (w : World) (ht : Tab w) : Calls Tryd.prog 10 #[arr8 key, .int .i64 z, arr8 ra, arr8 rb, .int .u64 (s : Int), .int .u32 (e : Int), arr8 ch] w fun e w' => e = .returned (.bool true) ∧ Below w.heap.size w w' := by
  have HB0 := Lib.hid (show Below w.heap.size w ((((w.alloc (.cells (key.map bv).toArray 24)).alloc (.cells (ra.map bv).toArray 38)).alloc (.cells (rb.map bv).toArray 38)).alloc (.cells (ch.map bv).toArray 38)) from ((((Below.refl _ w).alloc (Nat.le_refl _) _).alloc (by simp) _).alloc (by simp; omega) _).alloc (by simp; omega) _)
  have HT0 := Lib.hid (ht.below HB0.out ht.1)
  have HK0 := Lib.hid (show Row ((((w.alloc (.cells (key.map bv).toArray 24)).alloc (.cells (ra.map bv).toArray 38)).alloc (.cells (rb.map bv).toArray 38)).alloc (.cells (ch.map bv).toArray 38)) w.heap.size (key.map bv) 24 from (((Row.new rfl rfl).alloc _).alloc _).alloc _)
  have HA0 := Lib.hid (show Row ((((w.alloc (.cells (key.map bv).toArray 24)).alloc (.cells (ra.map bv).toArray 38)).alloc (.cells (rb.map bv).toArray 38)).alloc (.cells (ch.map bv).toArray 38)) (w.heap.size + 1) (ra.map bv) 38 from ((Row.new (by simp) rfl).alloc _).alloc _)
  have HC0 := Lib.hid (show Row ((((w.alloc (.cells (key.map bv).toArray 24)).alloc (.cells (ra.map bv).toArray 38)).alloc (.cells (rb.map bv).toArray 38)).alloc (.cells (ch.map bv).toArray 38)) (w.heap.size + 1 + 1) (rb.map bv) 38 from (Row.new (by simp) rfl).alloc _)
  have HD0 := Lib.hid (show Row ((((w.alloc (.cells (key.map bv).toArray 24)).alloc (.cells (ra.map bv).toArray 38)).alloc (.cells (rb.map bv).toArray 38)).alloc (.cells (ch.map bv).toArray 38)) (w.heap.size + 1 + 1 + 1) (ch.map bv) 38 from Row.new (by simp) rfl)
  have HLv := Lib.hid (fun w (ht : Tab w) => Shk.lives_any w ht)
  have HKl := Lib.hid hk
  have HRa := Lib.hid hra
  have HRb := Lib.hid hrb
  have HRc := Lib.hid hch
  obtain ⟨Z, hZ⟩ : ∃ Z, List.replicate 32 (0 : UInt8) = Z := ⟨_, rfl⟩
  have HZe := Lib.hid hZ
  have HZl := Lib.hid (show Z.length = 32 by rw [← hZ]; rfl)
  have hz32 : z32 = Z.map bv := by rw [← hZ]; rfl
  obtain ⟨E, hE⟩ : ∃ E, nm 0 = E := ⟨_, rfl⟩
  have HEo := Lib.hid (show E.Ok by rw [← hE]; exact Shk.nm_ok)
  obtain ⟨H, hH⟩ : ∃ H, helloP key z ra = H := ⟨_, rfl⟩
  have HHo := Lib.hid (show H.Ok by rw [← hH]; exact helloP_ok key z HRa.out)
  have HHb := Lib.hid (show H.bo = .slice none 0 0 by rw [← hH]; rfl)
  have hc : ckH key H 0 = 0 := by rw [← hH]; exact ckH_hello key z ra hok
  have HH1 := Lib.hid (show (if helloOk z then Value.tuple #[(helloP key z ra).val, .int .i64 0] else .tuple #[(nm 0).val, .int .i64 2]) = .tuple #[H.val, .int .i64 0] by rw [if_pos hok, hH])
  have hz1 : decide ((1 : Int) ≤ z) = true := decide_eq_true hok.1
  have hz2 : decide (z ≤ (65536 : Int)) = true := decide_eq_true hok.2
  have hoe : ansOk s e := ⟨hs, he⟩
  have hs' : decide (0 < s) = true := decide_eq_true (by omega)
  have he' : decide (0 < e) = true := decide_eq_true (by omega)
  obtain ⟨P, hP⟩ : ∃ P, answerP key H s e rb = P := ⟨_, rfl⟩
  obtain ⟨S, hS⟩ : ∃ S, secL key H P = S := ⟨_, rfl⟩
  have HSe := Lib.hid hS
  have HPo := Lib.hid (show P.Ok by rw [← hP]; exact answerP_ok key H s e HRb.out)
  have HPb := Lib.hid (show P.bo = .slice none 0 0 by rw [← hP]; rfl)
  have HPs := Lib.hid (show P.ses = s by rw [← hP]; rfl)
  have HPe := Lib.hid (show P.epo = e by rw [← hP]; rfl)
  have HHz := Lib.hid (show H.peer = z by rw [← hH]; rfl)
  have HSl := Lib.hid (show S.length = 32 by rw [← hS]; exact secL_length _ _ _)
  have HA1 := Lib.hid (show ansV key H 0 s e rb = .tuple #[P.val, arr8 S, .int .i64 0] by rw [ansV_yes hc hoe, hP, hS])
  have HC1 := Lib.hid (show cansV key H P 0 0 = .tuple #[arr8 S, .int .i64 0] by rw [cansV_yes hc (by rw [← hP]; exact ckA_answer key H s e rb hoe), hS])
  have HCH := Lib.hid (show chkk H 0 1 (Shk.mark key (hello5 ++ (helloL H).flatten)) = 0 from hc)
  obtain ⟨HB, hHB⟩ : ∃ B, wm H (mixN H.mrk ch 16) = B := ⟨_, rfl⟩
  obtain ⟨PB, hPB⟩ : ∃ B, wm P (mixN P.mrk ch 16) = B := ⟨_, rfl⟩
  have HHBe := Lib.hid hHB
  have HPBe := Lib.hid hPB
  have HHBo := Lib.hid (show HB.Ok by rw [← hHB]; exact wm_ok HHo.out (by rw [mixN_length]; exact HHo.out.m))
  have HPBo := Lib.hid (show PB.Ok by rw [← hPB]; exact wm_ok HPo.out (by rw [mixN_length]; exact HPo.out.m))
  have HHBb := Lib.hid (show HB.bo = .slice none 0 0 by rw [← hHB]; exact HHb.out)
  have HPBb := Lib.hid (show PB.bo = .slice none 0 0 by rw [← hPB]; exact HPb.out)
  have HNE : Hid (ch ≠ List.replicate 16 0 → ckH key HB 0 = 12 ∧ ckA key H PB 0 = 12) := fun hne => by
    have h1 := mixN_ne H.mrk ch HHo.out.m HRc.out hne
    have h2 := mixN_ne P.mrk ch HPo.out.m HRc.out hne
    rw [← hHB, ← hPB]
    refine ⟨?_, ?_⟩
    · rw [← hH] at h1 ⊢
      exact ckH_wm key z ra _ hok h1
    · rw [← hP] at h2 ⊢
      exact ckA_wm key H s e rb _ hoe h2
  have HHc := Lib.hid hc
  have Hz32 := Lib.hid hz32
  have HEe := Lib.hid hE
  clear ht hk hra hrb hch hZ hz32 hE hH hc hok hoe hP hS hs he hHB hPB
  unfold arr8
  go_enter Tryd.func10, Tryd.ntmps10
  go_wp2_with fail
  refine (HLv.out _ HT0.out).mono ?_
  rintro e w1 ⟨rfl, hb⟩
  have HB1 := Lib.hid (nextB HB0.out (Nat.le_refl _) hb)
  have HT1 := Lib.hid (HT0.out.below hb HT0.out.1)
  have HKa := Lib.hid (HK0.out.below hb HK0.out.lt)
  have HAa := Lib.hid (HA0.out.below hb HA0.out.lt)
  have HCa := Lib.hid (HC0.out.below hb HC0.out.lt)
  have HDa := Lib.hid (HD0.out.below hb HD0.out.lt)
  clear hb
  have HL2 := Lib.hid (l_a32 HKa.out HKl.out)
  have HL3 := Lib.hid (l_a16 HAa.out HRa.out)
  go_wp2_with (first
    | (refine wpList_ld 24 rfl rfl HL2.out rfl ?_)
    | (refine wpList_ld 38 rfl rfl HL3.out rfl ?_)
    | fail)
  refine (Hello_any key z ra HKl.out HRa.out w1 HT1.out).mono ?_
  rintro e w4 ⟨rfl, hb⟩
  rw [HH1.out]
  have HB5 := Lib.hid (nextB HB1.out (Nat.le_refl _) hb)
  have HK5 := Lib.hid (HKa.out.below hb HKa.out.lt)
  have HA5 := Lib.hid (HAa.out.below hb HAa.out.lt)
  have HC5 := Lib.hid (HCa.out.below hb HCa.out.lt)
  have HD5 := Lib.hid (HDa.out.below hb HDa.out.lt)
  have HT5 := Lib.hid (HT1.out.below hb HT1.out.1)
  clear hb
  go_wp2_with (first
    | (show wpList _ _ _ (⟨none, Op.store 40 _ _, _, _, _, _⟩ :: _) _ _
       refine wpList_storeRow (g := w4.heap.size) rfl 40 _ _ rfl rfl rfl (cs := H.cells) (Row.new rfl rfl : Row (w4.alloc (.cells (nm 0).cells.toArray 40)) w4.heap.size (nm 0).cells 40) (by kernel_rfl) (Pk.length HHo.out) (Pk.length nm_ok) (Pk.one HHo.out) ?_
       refine wpList_name fun V hV => ?_
       refine sstop ?_)
    | fail)
  unfold SStop
  obtain ⟨W6, hV2⟩ : ∃ V2, V = V2 := ⟨V, rfl⟩
  rw [hV2] at hV ⊢
  clear hV2
  have hb : Below w4.heap.size w4 W6 := by rw [← hV]; exact (below_setRow ((Below.refl _ w4).alloc (Nat.le_refl _) _) (by omega) _)
  have HH6 := Lib.hid (show Row W6 w4.heap.size H.cells 40 by rw [← hV]; exact ((Row.new rfl rfl : Row (w4.alloc (.cells (nm 0).cells.toArray 40)) w4.heap.size (nm 0).cells 40).setRow _))
  have HB7 := Lib.hid (nextB HB5.out (Nat.le_refl _) hb)
  have HK7 := Lib.hid (HK5.out.below hb HK5.out.lt)
  have HA7 := Lib.hid (HA5.out.below hb HA5.out.lt)
  have HC7 := Lib.hid (HC5.out.below hb HC5.out.lt)
  have HD7 := Lib.hid (HD5.out.below hb HD5.out.lt)
  have HT7 := Lib.hid (HT5.out.below hb HT5.out.1)
  clear hV hb
  have HL8 := Lib.hid (l_a32 HK7.out HKl.out)
  have HL9 := Lib.hid (l_all HH6.out HHo.out)
  have HL10 := Lib.hid (l_a16 HC7.out HRb.out)
  go_wp2_with (first
    | (refine wpList_ld 24 rfl rfl HL8.out rfl ?_)
    | (refine wpList_ld 40 rfl rfl HL9.out rfl ?_)
    | (refine wpList_ld 38 rfl rfl HL10.out rfl ?_)
    | fail)
  refine (Answer_any key H s e rb HKl.out HHo.out none 0 0 HHb.out HRb.out W6 HT7.out).mono ?_
  rintro e w11 ⟨rfl, hb⟩
  rw [HA1.out]
  have HB12 := Lib.hid (nextB HB7.out (Nat.le_refl _) hb)
  have HK12 := Lib.hid (HK7.out.below hb HK7.out.lt)
  have HA12 := Lib.hid (HA7.out.below hb HA7.out.lt)
  have HC12 := Lib.hid (HC7.out.below hb HC7.out.lt)
  have HD12 := Lib.hid (HD7.out.below hb HD7.out.lt)
  have HH12 := Lib.hid (HH6.out.below hb HH6.out.lt)
  have HT12 := Lib.hid (HT7.out.below hb HT7.out.1)
  clear hb
  go_wp2_with (first
    | (show wpList _ _ _ (⟨none, Op.store 40 _ _, _, _, _, _⟩ :: _) _ _
       refine wpList_storeRow (g := w11.heap.size) rfl 40 _ _ rfl rfl rfl (cs := P.cells) ((Row.new rfl rfl : Row (w11.alloc (.cells (nm 0).cells.toArray 40)) w11.heap.size (nm 0).cells 40).alloc _) (by kernel_rfl) (Pk.length HPo.out) (Pk.length nm_ok) (Pk.one HPo.out) ?_)
    | (show wpList _ _ _ (⟨none, Op.store 24 _ _, _, _, _, _⟩ :: _) _ _
       refine wpList_storeRow (g := (w11.heap.size + 1)) rfl 24 _ _ rfl rfl rfl (cs := (S.map bv)) ((Row.new (by simp) rfl : Row ((w11.alloc (.cells (nm 0).cells.toArray 40)).alloc (.cells z32.toArray 24)) (w11.heap.size + 1) z32 24).setOther _ _ (by omega)) (by kernel_rfl) (by rw [List.length_map]; exact HSl.out) rfl (hbytes_one S) ?_
       refine wpList_name fun V hV => ?_
       refine sstop ?_)
    | fail)
  unfold SStop
  obtain ⟨W13, hV2⟩ : ∃ V2, V = V2 := ⟨V, rfl⟩
  rw [hV2] at hV ⊢
  clear hV2
  have hb : Below w11.heap.size w11 W13 := by rw [← hV]; exact (below_setRow (below_setRow (((Below.refl _ w11).alloc (Nat.le_refl _) _).alloc (by simp) _) (by omega) _) (by omega) _)
  have HP13 := Lib.hid (show Row W13 w11.heap.size P.cells 40 by rw [← hV]; exact ((((Row.new rfl rfl : Row (w11.alloc (.cells (nm 0).cells.toArray 40)) w11.heap.size (nm 0).cells 40).alloc _).setRow _).setOther _ _ (by omega)))
  have HS13 := Lib.hid (show Row W13 (w11.heap.size + 1) (S.map bv) 24 by rw [← hV]; exact (((Row.new (by simp) rfl : Row ((w11.alloc (.cells (nm 0).cells.toArray 40)).alloc (.cells z32.toArray 24)) (w11.heap.size + 1) z32 24).setOther _ _ (by omega)).setRow _))
  have HB14 := Lib.hid (nextB HB12.out (Nat.le_refl _) hb)
  have HK14 := Lib.hid (HK12.out.below hb HK12.out.lt)
  have HA14 := Lib.hid (HA12.out.below hb HA12.out.lt)
  have HC14 := Lib.hid (HC12.out.below hb HC12.out.lt)
  have HD14 := Lib.hid (HD12.out.below hb HD12.out.lt)
  have HH14 := Lib.hid (HH12.out.below hb HH12.out.lt)
  have HT14 := Lib.hid (HT12.out.below hb HT12.out.1)
  clear hV hb
  have HL15 := Lib.hid (l_a32 HK14.out HKl.out)
  have HL16 := Lib.hid (l_all HH14.out HHo.out)
  have HL17 := Lib.hid (l_all HP13.out HPo.out)
  go_wp2_with (first
    | (refine wpList_ld 24 rfl rfl HL15.out rfl ?_)
    | (refine wpList_ld 40 rfl rfl HL16.out rfl ?_)
    | (refine wpList_ld 40 rfl rfl HL17.out rfl ?_)
    | fail)
  refine (CheckAnswer_any key H P HKl.out HHo.out HPo.out none none 0 0 0 0 HHb.out HPb.out W13 HT14.out).mono ?_
  rintro e w18 ⟨rfl, hb⟩
  rw [HC1.out]
  have HB19 := Lib.hid (nextB HB14.out (Nat.le_refl _) hb)
  have HK19 := Lib.hid (HK14.out.below hb HK14.out.lt)
  have HA19 := Lib.hid (HA14.out.below hb HA14.out.lt)
  have HC19 := Lib.hid (HC14.out.below hb HC14.out.lt)
  have HD19 := Lib.hid (HD14.out.below hb HD14.out.lt)
  have HH19 := Lib.hid (HH14.out.below hb HH14.out.lt)
  have HP19 := Lib.hid (HP13.out.below hb HP13.out.lt)
  have HS19 := Lib.hid (HS13.out.below hb HS13.out.lt)
  have HT19 := Lib.hid (HT14.out.below hb HT14.out.1)
  clear hb
  go_wp2_with (first
    | (show wpList _ _ _ (⟨none, Op.store 24 _ _, _, _, _, _⟩ :: _) _ _
       refine wpList_storeRow (g := w18.heap.size) rfl 24 _ _ rfl rfl rfl (cs := (S.map bv)) (Row.new rfl rfl : Row (w18.alloc (.cells z32.toArray 24)) w18.heap.size z32 24) (by kernel_rfl) (by rw [List.length_map]; exact HSl.out) rfl (hbytes_one S) ?_
       refine wpList_name fun V hV => ?_
       refine sstop ?_)
    | fail)
  unfold SStop
  obtain ⟨W20, hV2⟩ : ∃ V2, V = V2 := ⟨V, rfl⟩
  rw [hV2] at hV ⊢
  clear hV2
  have hb : Below w18.heap.size w18 W20 := by rw [← hV]; exact (below_setRow ((Below.refl _ w18).alloc (Nat.le_refl _) _) (by omega) _)
  have HU20 := Lib.hid (show Row W20 w18.heap.size (S.map bv) 24 by rw [← hV]; exact ((Row.new rfl rfl : Row (w18.alloc (.cells z32.toArray 24)) w18.heap.size z32 24).setRow _))
  have HB21 := Lib.hid (nextB HB19.out (Nat.le_refl _) hb)
  have HK21 := Lib.hid (HK19.out.below hb HK19.out.lt)
  have HA21 := Lib.hid (HA19.out.below hb HA19.out.lt)
  have HC21 := Lib.hid (HC19.out.below hb HC19.out.lt)
  have HD21 := Lib.hid (HD19.out.below hb HD19.out.lt)
  have HH21 := Lib.hid (HH19.out.below hb HH19.out.lt)
  have HP21 := Lib.hid (HP19.out.below hb HP19.out.lt)
  have HS21 := Lib.hid (HS19.out.below hb HS19.out.lt)
  have HT21 := Lib.hid (HT19.out.below hb HT19.out.1)
  clear hV hb
  go_wp2_with fail
  refine By.marks Pol.mixed Grew [By.is (arr8 key),
    By.is (H.val),
    By.is (.int .i64 0),
    By.is (.bool false),
    By.is (.bool false),
    By.is (.int .i64 0),
    By.is (.bool false),
    By.is (.bool false),
    By.is (.bool false),
    By.is (arr8 S),
    By.is (arr8 S),
    By.is (.bool false),
    By.is (.bool false),
    By.is (.bool false),
    By.is (arr8 S),
    By.is (arr8 key),
    By.is (H.val),
    By.is (P.val),
    By.is (arr8 S),
    By.is (.bool false),
    By.is (.bool false),
    By.is (.bool false),
    By.is (.pointer (some ⟨w11.heap.size, 2, none⟩)),
    By.is (.int .u64 (P.ses : Int)),
    By.is (.int .u64 (s : Int)),
    By.is (.bool false),
    By.is (.bool false),
    By.is (.bool false),
    By.is (.pointer (some ⟨w11.heap.size, 3, none⟩)),
    By.is (.int .u32 (P.epo : Int)),
    By.is (.int .u32 (e : Int)),
    By.is (.bool false),
    By.is (.bool false),
    By.is (.bool false),
    By.is (.pointer (some ⟨w4.heap.size, 1, none⟩)),
    By.is (.int .i64 H.peer),
    By.is (.int .i64 z),
    By.is (.bool false),
    By.is (.bool false)]
    (Ev.masks _ []) (by kernel_rfl) rfl Grew.refl Grew.trans ⟨?_, ?_, ?_, ?_, ?_, ?_, ?_, ?_, ?_, ?_, ?_, ?_, ?_, ?_, ?_, ?_, ?_, ?_, ?_, ?_, ?_, ?_, ?_, ?_, ?_, ?_, ?_, ?_, ?_, ?_, ?_, ?_, ?_, ?_, ?_, ?_, ?_, ?_, ?_, trivial⟩ ?_
  · intro a w ht hs hg -- 81
    have h7 := By.same_get hs 7 (by decide) (by kernel_rfl)
    refine By.yes rfl ?_
    clear hs hg
    have hr := l_a32 (Row.below (w := W20.drew) HK21.out ht HK21.out.lt) HKl.out
    refine wp_ld 24 _ rfl h7 hr ?_
    exact ⟨_, rfl, Grew.refl _, rfl⟩
  · intro a w ht hs hg -- 82
    have h15 := By.same_get hs 15 (by decide) (by kernel_rfl)
    refine By.yes rfl ?_
    clear hs hg
    have hr := l_all (Row.below (w := W20.drew) HH21.out ht HH21.out.lt) HHo.out
    refine wp_ld 40 _ rfl h15 hr ?_
    exact ⟨_, rfl, Grew.refl _, rfl⟩
  · intro a w ht hs hg -- 83
    have h81 : a.tmps.getD 81 undef = _ := By.given_get hg 0 rfl rfl (by kernel_rfl)
    have h82 : a.tmps.getD 82 undef = _ := By.given_get hg 1 rfl rfl (by kernel_rfl)
    refine By.yes rfl ?_
    clear hs hg
    have HTw := Lib.hid (HT21.out.below (grew_below ht) HT21.out.1)
    clear ht
    unfold arr8 at h81
    unfold Pk.val at h82
    go_simp
    refine (CheckHello_any key H HKl.out HHo.out none 0 0 HHb.out w HTw.out).mono ?_
    rintro x w8 ⟨rfl, hb8⟩
    exact ⟨_, rfl, hb8, congrArg (Value.int .i64) HCH.out⟩
  · intro a w ht hs hg -- 84
    have h83 : a.tmps.getD 83 undef = _ := By.given_get hg 2 rfl rfl (by kernel_rfl)
    refine By.yes rfl ?_
    clear hs hg
    go_simp
    exact ⟨_, rfl, Grew.refl _, rfl⟩
  · intro a w ht hs hg -- 85
    have h84 : a.tmps.getD 84 undef = _ := By.given_get hg 3 rfl rfl (by kernel_rfl)
    refine By.yes rfl ?_
    clear hs hg
    go_simp
    exact ⟨_, rfl, Grew.refl _, rfl⟩
  · intro a w ht hs hg -- 86
    have h20 := By.same_get hs 20 (by decide) (by kernel_rfl)
    have hg85 := By.given_get hg 4 rfl rfl (by kernel_rfl)
    refine By.yes (By.want_yes rfl rfl hg85) ?_
    clear hg85
    clear hs hg
    go_simp
    exact ⟨_, rfl, Grew.refl _, rfl⟩
  · intro a w ht hs hg -- 87
    have h86 : a.tmps.getD 86 undef = _ := By.given_get hg 5 rfl rfl (by kernel_rfl)
    have hg85 := By.given_get hg 4 rfl rfl (by kernel_rfl)
    refine By.yes (By.want_yes rfl rfl hg85) ?_
    clear hg85
    clear hs hg
    go_simp
    exact ⟨_, rfl, Grew.refl _, rfl⟩
  · intro a w ht hs hg -- 88
    have h85 : a.tmps.getD 85 undef = _ := By.given_get hg 4 rfl rfl (by kernel_rfl)
    have h87 : a.tmps.getD 87 undef = _ := By.given_get hg 6 rfl rfl (by kernel_rfl)
    refine By.yes rfl ?_
    clear hs hg
    go_simp
    exact ⟨_, rfl, Grew.refl _, rfl⟩
  · intro a w ht hs hg -- 89
    have h88 : a.tmps.getD 88 undef = _ := By.given_get hg 7 rfl rfl (by kernel_rfl)
    refine By.yes rfl ?_
    clear hs hg
    go_simp
    exact ⟨_, rfl, Grew.refl _, rfl⟩
  · intro a w ht hs hg -- 90
    have h18 := By.same_get hs 18 (by decide) (by kernel_rfl)
    have hg89 := By.given_get hg 8 rfl rfl (by kernel_rfl)
    refine By.yes (By.want_yes rfl rfl hg89) ?_
    clear hg89
    clear hs hg
    have hr := l_a32 (Row.below (w := W20.drew) HS21.out ht HS21.out.lt) HSl.out
    refine wp_ld 24 _ rfl h18 hr ?_
    exact ⟨_, rfl, Grew.refl _, rfl⟩
  · intro a w ht hs hg -- 91
    have h19 := By.same_get hs 19 (by decide) (by kernel_rfl)
    have hg89 := By.given_get hg 8 rfl rfl (by kernel_rfl)
    refine By.yes (By.want_yes rfl rfl hg89) ?_
    clear hg89
    clear hs hg
    have hr := l_a32 (Row.below (w := W20.drew) HU20.out ht HU20.out.lt) HSl.out
    refine wp_ld 24 _ rfl h19 hr ?_
    exact ⟨_, rfl, Grew.refl _, rfl⟩
  · intro a w ht hs hg -- 92
    have h90 : a.tmps.getD 90 undef = _ := By.given_get hg 9 rfl rfl (by kernel_rfl)
    have h91 : a.tmps.getD 91 undef = _ := By.given_get hg 10 rfl rfl (by kernel_rfl)
    have hg89 := By.given_get hg 8 rfl rfl (by kernel_rfl)
    refine By.yes (By.want_yes rfl rfl hg89) ?_
    clear hg89
    clear hs hg
    refine wp_neqArr _ _ rfl (by kernel_rfl) h90 h91 (eq32 S S HSl.out HSl.out w) ?_
    exact ⟨_, rfl, Grew.refl _, congrArg Value.bool (by simp)⟩
  · intro a w ht hs hg -- 93
    have h89 : a.tmps.getD 89 undef = _ := By.given_get hg 8 rfl rfl (by kernel_rfl)
    have h92 : a.tmps.getD 92 undef = _ := By.given_get hg 11 rfl rfl (by kernel_rfl)
    refine By.yes rfl ?_
    clear hs hg
    go_simp
    exact ⟨_, rfl, Grew.refl _, rfl⟩
  · intro a w ht hs hg -- 94
    have h93 : a.tmps.getD 93 undef = _ := By.given_get hg 12 rfl rfl (by kernel_rfl)
    refine By.yes rfl ?_
    clear hs hg
    go_simp
    exact ⟨_, rfl, Grew.refl _, rfl⟩
  · intro a w ht hs hg -- 95
    have h18 := By.same_get hs 18 (by decide) (by kernel_rfl)
    have hg94 := By.given_get hg 13 rfl rfl (by kernel_rfl)
    refine By.yes (By.want_yes rfl rfl hg94) ?_
    clear hg94
    clear hs hg
    have hr := l_a32 (Row.below (w := W20.drew) HS21.out ht HS21.out.lt) HSl.out
    refine wp_ld 24 _ rfl h18 hr ?_
    exact ⟨_, rfl, Grew.refl _, rfl⟩
  · intro a w ht hs hg -- 96
    have h7 := By.same_get hs 7 (by decide) (by kernel_rfl)
    have hg94 := By.given_get hg 13 rfl rfl (by kernel_rfl)
    refine By.yes (By.want_yes rfl rfl hg94) ?_
    clear hg94
    clear hs hg
    have hr := l_a32 (Row.below (w := W20.drew) HK21.out ht HK21.out.lt) HKl.out
    refine wp_ld 24 _ rfl h7 hr ?_
    exact ⟨_, rfl, Grew.refl _, rfl⟩
  · intro a w ht hs hg -- 97
    have h15 := By.same_get hs 15 (by decide) (by kernel_rfl)
    have hg94 := By.given_get hg 13 rfl rfl (by kernel_rfl)
    refine By.yes (By.want_yes rfl rfl hg94) ?_
    clear hg94
    clear hs hg
    have hr := l_all (Row.below (w := W20.drew) HH21.out ht HH21.out.lt) HHo.out
    refine wp_ld 40 _ rfl h15 hr ?_
    exact ⟨_, rfl, Grew.refl _, rfl⟩
  · intro a w ht hs hg -- 98
    have h17 := By.same_get hs 17 (by decide) (by kernel_rfl)
    have hg94 := By.given_get hg 13 rfl rfl (by kernel_rfl)
    refine By.yes (By.want_yes rfl rfl hg94) ?_
    clear hg94
    clear hs hg
    have hr := l_all (Row.below (w := W20.drew) HP21.out ht HP21.out.lt) HPo.out
    refine wp_ld 40 _ rfl h17 hr ?_
    exact ⟨_, rfl, Grew.refl _, rfl⟩
  · intro a w ht hs hg -- 99
    have h96 : a.tmps.getD 96 undef = _ := By.given_get hg 15 rfl rfl (by kernel_rfl)
    have h97 : a.tmps.getD 97 undef = _ := By.given_get hg 16 rfl rfl (by kernel_rfl)
    have h98 : a.tmps.getD 98 undef = _ := By.given_get hg 17 rfl rfl (by kernel_rfl)
    have hg94 := By.given_get hg 13 rfl rfl (by kernel_rfl)
    refine By.yes (By.want_yes rfl rfl hg94) ?_
    clear hg94
    clear hs hg
    have HTw := Lib.hid (HT21.out.below (grew_below ht) HT21.out.1)
    clear ht
    unfold arr8 at h96
    unfold Pk.val at h97 h98
    go_simp
    refine (Secret_any key H P HKl.out HHo.out HPo.out w HTw.out).mono ?_
    rintro x w8 ⟨rfl, hb8⟩
    exact ⟨_, rfl, hb8, congrArg arr8 HSe.out⟩
  · intro a w ht hs hg -- 100
    have h95 : a.tmps.getD 95 undef = _ := By.given_get hg 14 rfl rfl (by kernel_rfl)
    have h99 : a.tmps.getD 99 undef = _ := By.given_get hg 18 rfl rfl (by kernel_rfl)
    have hg94 := By.given_get hg 13 rfl rfl (by kernel_rfl)
    refine By.yes (By.want_yes rfl rfl hg94) ?_
    clear hg94
    clear hs hg
    refine wp_neqArr _ _ rfl (by kernel_rfl) h95 h99 (eq32 S S HSl.out HSl.out w) ?_
    exact ⟨_, rfl, Grew.refl _, congrArg Value.bool (by simp)⟩
  · intro a w ht hs hg -- 101
    have h94 : a.tmps.getD 94 undef = _ := By.given_get hg 13 rfl rfl (by kernel_rfl)
    have h100 : a.tmps.getD 100 undef = _ := By.given_get hg 19 rfl rfl (by kernel_rfl)
    refine By.yes rfl ?_
    clear hs hg
    go_simp
    exact ⟨_, rfl, Grew.refl _, rfl⟩
  · intro a w ht hs hg -- 102
    have h101 : a.tmps.getD 101 undef = _ := By.given_get hg 20 rfl rfl (by kernel_rfl)
    refine By.yes rfl ?_
    clear hs hg
    go_simp
    exact ⟨_, rfl, Grew.refl _, rfl⟩
  · intro a w ht hs hg -- 103
    have h17 := By.same_get hs 17 (by decide) (by kernel_rfl)
    have hg102 := By.given_get hg 21 rfl rfl (by kernel_rfl)
    refine By.yes (By.want_yes rfl rfl hg102) ?_
    clear hg102
    clear hs hg
    go_simp
    exact ⟨_, rfl, Grew.refl _, rfl⟩
  · intro a w ht hs hg -- 104
    have h103 : a.tmps.getD 103 undef = _ := By.given_get hg 22 rfl rfl (by kernel_rfl)
    have hg102 := By.given_get hg 21 rfl rfl (by kernel_rfl)
    refine By.yes (By.want_yes rfl rfl hg102) ?_
    clear hg102
    clear hs hg
    have hc := c_ses (Row.below (w := W20.drew) HP21.out ht HP21.out.lt)
    clear ht
    go_simp
    exact ⟨_, rfl, Grew.refl _, rfl⟩
  · intro a w ht hs hg -- 105
    have h4 := By.same_get hs 4 (by decide) (by kernel_rfl)
    have hg102 := By.given_get hg 21 rfl rfl (by kernel_rfl)
    refine By.yes (By.want_yes rfl rfl hg102) ?_
    clear hg102
    clear hs hg
    go_simp
    exact ⟨_, rfl, Grew.refl _, rfl⟩
  · intro a w ht hs hg -- 106
    have h104 : a.tmps.getD 104 undef = _ := By.given_get hg 23 rfl rfl (by kernel_rfl)
    have h105 : a.tmps.getD 105 undef = _ := By.given_get hg 24 rfl rfl (by kernel_rfl)
    have hg102 := By.given_get hg 21 rfl rfl (by kernel_rfl)
    refine By.yes (By.want_yes rfl rfl hg102) ?_
    clear hg102
    clear hs hg
    clear ht
    go_simp
    exact ⟨_, rfl, Grew.refl _, congrArg Value.bool (by simp [HPs.out])⟩
  · intro a w ht hs hg -- 107
    have h102 : a.tmps.getD 102 undef = _ := By.given_get hg 21 rfl rfl (by kernel_rfl)
    have h106 : a.tmps.getD 106 undef = _ := By.given_get hg 25 rfl rfl (by kernel_rfl)
    refine By.yes rfl ?_
    clear hs hg
    go_simp
    exact ⟨_, rfl, Grew.refl _, rfl⟩
  · intro a w ht hs hg -- 108
    have h107 : a.tmps.getD 107 undef = _ := By.given_get hg 26 rfl rfl (by kernel_rfl)
    refine By.yes rfl ?_
    clear hs hg
    go_simp
    exact ⟨_, rfl, Grew.refl _, rfl⟩
  · intro a w ht hs hg -- 109
    have h17 := By.same_get hs 17 (by decide) (by kernel_rfl)
    have hg108 := By.given_get hg 27 rfl rfl (by kernel_rfl)
    refine By.yes (By.want_yes rfl rfl hg108) ?_
    clear hg108
    clear hs hg
    go_simp
    exact ⟨_, rfl, Grew.refl _, rfl⟩
  · intro a w ht hs hg -- 110
    have h109 : a.tmps.getD 109 undef = _ := By.given_get hg 28 rfl rfl (by kernel_rfl)
    have hg108 := By.given_get hg 27 rfl rfl (by kernel_rfl)
    refine By.yes (By.want_yes rfl rfl hg108) ?_
    clear hg108
    clear hs hg
    have hc := c_epo (Row.below (w := W20.drew) HP21.out ht HP21.out.lt)
    clear ht
    go_simp
    exact ⟨_, rfl, Grew.refl _, rfl⟩
  · intro a w ht hs hg -- 111
    have h5 := By.same_get hs 5 (by decide) (by kernel_rfl)
    have hg108 := By.given_get hg 27 rfl rfl (by kernel_rfl)
    refine By.yes (By.want_yes rfl rfl hg108) ?_
    clear hg108
    clear hs hg
    go_simp
    exact ⟨_, rfl, Grew.refl _, rfl⟩
  · intro a w ht hs hg -- 112
    have h110 : a.tmps.getD 110 undef = _ := By.given_get hg 29 rfl rfl (by kernel_rfl)
    have h111 : a.tmps.getD 111 undef = _ := By.given_get hg 30 rfl rfl (by kernel_rfl)
    have hg108 := By.given_get hg 27 rfl rfl (by kernel_rfl)
    refine By.yes (By.want_yes rfl rfl hg108) ?_
    clear hg108
    clear hs hg
    clear ht
    go_simp
    exact ⟨_, rfl, Grew.refl _, congrArg Value.bool (by simp [HPe.out])⟩
  · intro a w ht hs hg -- 113
    have h108 : a.tmps.getD 108 undef = _ := By.given_get hg 27 rfl rfl (by kernel_rfl)
    have h112 : a.tmps.getD 112 undef = _ := By.given_get hg 31 rfl rfl (by kernel_rfl)
    refine By.yes rfl ?_
    clear hs hg
    go_simp
    exact ⟨_, rfl, Grew.refl _, rfl⟩
  · intro a w ht hs hg -- 114
    have h113 : a.tmps.getD 113 undef = _ := By.given_get hg 32 rfl rfl (by kernel_rfl)
    refine By.yes rfl ?_
    clear hs hg
    go_simp
    exact ⟨_, rfl, Grew.refl _, rfl⟩
  · intro a w ht hs hg -- 115
    have h15 := By.same_get hs 15 (by decide) (by kernel_rfl)
    have hg114 := By.given_get hg 33 rfl rfl (by kernel_rfl)
    refine By.yes (By.want_yes rfl rfl hg114) ?_
    clear hg114
    clear hs hg
    go_simp
    exact ⟨_, rfl, Grew.refl _, rfl⟩
  · intro a w ht hs hg -- 116
    have h115 : a.tmps.getD 115 undef = _ := By.given_get hg 34 rfl rfl (by kernel_rfl)
    have hg114 := By.given_get hg 33 rfl rfl (by kernel_rfl)
    refine By.yes (By.want_yes rfl rfl hg114) ?_
    clear hg114
    clear hs hg
    have hc := c_peer (Row.below (w := W20.drew) HH21.out ht HH21.out.lt)
    clear ht
    go_simp
    exact ⟨_, rfl, Grew.refl _, rfl⟩
  · intro a w ht hs hg -- 117
    have h1 := By.same_get hs 1 (by decide) (by kernel_rfl)
    have hg114 := By.given_get hg 33 rfl rfl (by kernel_rfl)
    refine By.yes (By.want_yes rfl rfl hg114) ?_
    clear hg114
    clear hs hg
    go_simp
    exact ⟨_, rfl, Grew.refl _, rfl⟩
  · intro a w ht hs hg -- 118
    have h116 : a.tmps.getD 116 undef = _ := By.given_get hg 35 rfl rfl (by kernel_rfl)
    have h117 : a.tmps.getD 117 undef = _ := By.given_get hg 36 rfl rfl (by kernel_rfl)
    have hg114 := By.given_get hg 33 rfl rfl (by kernel_rfl)
    refine By.yes (By.want_yes rfl rfl hg114) ?_
    clear hg114
    clear hs hg
    clear ht
    go_simp
    exact ⟨_, rfl, Grew.refl _, congrArg Value.bool (by simp [HHz.out])⟩
  · intro a w ht hs hg -- 119
    have h114 : a.tmps.getD 114 undef = _ := By.given_get hg 33 rfl rfl (by kernel_rfl)
    have h118 : a.tmps.getD 118 undef = _ := By.given_get hg 37 rfl rfl (by kernel_rfl)
    refine By.yes rfl ?_
    clear hs hg
    go_simp
    exact ⟨_, rfl, Grew.refl _, rfl⟩
  refine By.ends_is (By.ends_is (By.ends_is (By.ends_is (By.ends_is (By.ends_is (By.ends_is (By.ends_is (By.ends_is (By.ends_is (By.ends_is (By.ends_is (By.ends_is (By.ends_is (By.ends_is (By.ends_is (By.ends_is (By.ends_is (By.ends_is (By.ends_is (By.ends_is (By.ends_is (By.ends_is (By.ends_is (By.ends_is (By.ends_is (By.ends_is (By.ends_is (By.ends_is (By.ends_is (By.ends_is (By.ends_is (By.ends_is (By.ends_is (By.ends_is (By.ends_is (By.ends_is (By.ends_is (By.ends_is (By.ends_nil fun W14 hw14 => ?_)))))))))))))))))))))))))))))))))))))))
  simp only [Act.put, List.setIfInBounds_toArray, List.set_cons_succ, List.set_cons_zero]
  have hb := grew_below hw14
  have HB22 := Lib.hid (nextB HB21.out (Nat.le_refl _) hb)
  have HK22 := Lib.hid (HK21.out.below hb HK21.out.lt)
  have HA22 := Lib.hid (HA21.out.below hb HA21.out.lt)
  have HC22 := Lib.hid (HC21.out.below hb HC21.out.lt)
  have HD22 := Lib.hid (HD21.out.below hb HD21.out.lt)
  have HH22 := Lib.hid (HH21.out.below hb HH21.out.lt)
  have HP22 := Lib.hid (HP21.out.below hb HP21.out.lt)
  have HS22 := Lib.hid (HS21.out.below hb HS21.out.lt)
  have HU22 := Lib.hid (HU20.out.below hb HU20.out.lt)
  have HT22 := Lib.hid (HT21.out.below hb HT21.out.1)
  clear hb hw14
  go_wp2_with fail
  refine ByD.marksF Pol.mixed 4 1 2 3 121 (fun v x => v ≠ x) (by decide) (by decide) (by decide) Grew [By.is H.val, By.is P.val, newP W14.heap.size, newP W14.heap.size]
    (Ev.masks _ []) (Nat.zero_lt_succ _) rfl (by kernel_rfl) (by kernel_rfl) rfl Grew.refl Grew.trans rfl rfl rfl rfl rfl rfl ⟨?_, ?_, ?_, ?_, trivial⟩ [_, _, _] (by rfl) ?_ ?_
  · intro a w9 ht hs hg
    have h15 := By.same_get hs 15 (by decide) (by kernel_rfl)
    refine By.yes rfl ?_
    clear hs hg
    have hr := l_all (Row.below (w := W14.drew) HH22.out ht HH22.out.lt) HHo.out
    refine wp_ld 40 _ rfl h15 hr ?_
    first | exact ⟨_, rfl, Grew.refl _, rfl⟩ | exact ⟨_, rfl, Grew.refl _, rfl, fun h => absurd h (by decide), fun h => absurd h (by decide)⟩
  · intro a w9 ht hs hg
    have h17 := By.same_get hs 17 (by decide) (by kernel_rfl)
    refine By.yes rfl ?_
    clear hs hg
    have hr := l_all (Row.below (w := W14.drew) HP22.out ht HP22.out.lt) HPo.out
    refine wp_ld 40 _ rfl h17 hr ?_
    first | exact ⟨_, rfl, Grew.refl _, rfl⟩ | exact ⟨_, rfl, Grew.refl _, rfl, fun h => absurd h (by decide), fun h => absurd h (by decide)⟩
  · intro a w9 ht hs hg
    refine By.yes rfl ?_
    clear hs hg
    have hBw : W14.heap.size ≤ w9.heap.size := (show W14.drew.heap.size ≤ w9.heap.size from ht.size)
    refine Oper.wp_mono ?_ (show Oper.wp Tryd.prog _ a w9 (fun a' w' => a' = a.put (some 21) (.pointer (some ⟨w9.heap.size, 0, none⟩)) ∧ w' = w9.alloc (.cells (nm 0).cells.toArray 40)) _ from by
      go_simp
      first | rfl | exact ⟨rfl, rfl⟩)
    rintro a' w' ⟨rfl, rfl⟩
    exact ⟨_, rfl, (Below.refl _ w9).alloc (Nat.le_refl _) _, newP_at w9 hBw, fun _ x hx => newP_ne hx, fun h => absurd h (by decide)⟩
  · intro a w9 ht hs hg
    refine By.yes rfl ?_
    clear hs hg
    have hBw : W14.heap.size ≤ w9.heap.size := (show W14.drew.heap.size ≤ w9.heap.size from ht.size)
    refine Oper.wp_mono ?_ (show Oper.wp Tryd.prog _ a w9 (fun a' w' => a' = a.put (some 22) (.pointer (some ⟨w9.heap.size, 0, none⟩)) ∧ w' = w9.alloc (.cells (nm 0).cells.toArray 40)) _ from by
      go_simp
      first | rfl | exact ⟨rfl, rfl⟩)
    rintro a' w' ⟨rfl, rfl⟩
    exact ⟨_, rfl, (Below.refl _ w9).alloc (Nat.le_refl _) _, newP_at w9 hBw, fun h => absurd h (by decide), fun _ x hx e => newP_ne hx e.symm⟩
  · skip
    refine By.ends_is ?_
    refine By.ends_is ?_
    refine By.ends_any fun _ => ?_
    refine By.ends_any fun _ => ?_
    refine By.ends_nil fun w9 hw9 => ?_
    intro hD
    obtain ⟨⟨hw9, hn1⟩, hn2⟩ := hw9
    obtain ⟨g1, hv1, hlt1, hge1, hr1⟩ := hn1
    obtain ⟨g2, hv2, hlt2, hge2, hr2⟩ := hn2
    subst hv1
    subst hv2
    have hne : g1 ≠ g2 := by
      intro e
      subst e
      refine hD ?_
      kernel_rfl
    have HR1 := Lib.hid hr1
    have HR2 := Lib.hid hr2
    have HNx := Lib.hid (show g1 ≠ g2 ∧ W14.heap.size ≤ g1 ∧ W14.heap.size ≤ g2 from ⟨hne, hge1, hge2⟩)
    have HBx := Lib.hid (grew_below hw9)
    clear hD hw9 hlt1 hlt2 hge1 hge2 hr1 hr2 hne
    simp only [Act.put, List.setIfInBounds_toArray, List.set_cons_succ, List.set_cons_zero, List.drop_succ_cons, List.drop_zero]
    refine wpList_storeRow (g := g1) rfl 40 (.tmp 21) (.tmp 120) rfl rfl rfl (cs := H.cells) HR1.out (by kernel_rfl) (Pk.length HHo.out) (Pk.length nm_ok) (Pk.one HHo.out) ?_
    refine wpList_name fun V1 hV1 => ?_
    have HX1 := Lib.hid (show Row V1 g1 (wm H (mixN H.mrk ch 0)).cells 40 from hV1 ▸ HR1.out.setRow _)
    have HY1 := Lib.hid (show Row V1 g2 (nm 0).cells 40 from hV1 ▸ HR2.out.setOther g1 _ HNx.out.1.symm)
    have HB1w := Lib.hid (show Below W14.heap.size W14 V1 from hV1 ▸ below_setRow HBx.out HNx.out.2.1 _)
    clear hV1
    refine wpList_storeRow (g := g2) rfl 40 (.tmp 22) (.tmp 121) rfl rfl rfl (cs := P.cells) HY1.out (by kernel_rfl) (Pk.length HPo.out) (Pk.length nm_ok) (Pk.one HPo.out) ?_
    refine wpList_name fun V2 hV2 => ?_
    have RY2 := Lib.hid (show Row V2 g2 (wm P (mixN P.mrk ch 0)).cells 40 from hV2 ▸ HY1.out.setRow _)
    have RX2 := Lib.hid (show Row V2 g1 (wm H (mixN H.mrk ch 0)).cells 40 from hV2 ▸ HX1.out.setOther g2 _ HNx.out.1)
    have HB2w := Lib.hid (show Below W14.heap.size W14 V2 from hV2 ▸ below_setRow HB1w.out HNx.out.2.2 _)
    clear hV2
    go_wp2
    go_loopw [23] (fun iv wr => ∃ i : Nat, i ≤ 16 ∧ iv = .int .i64 (i : Int) ∧ Row wr g1 (wm H (mixN H.mrk ch i)).cells 40 ∧ Row wr g2 (wm P (mixN P.mrk ch i)).cells 40 ∧ Below W14.heap.size W14 wr) (fun iv _ => 16 - (intOf iv).toNat)
    case atStart => exact ⟨0, Nat.zero_le _, rfl, RX2.out, RY2.out, HB2w.out⟩
    case round =>
      obtain ⟨i, hi, rfl, hx, hy, hb⟩ := hrel
      have R0 := Lib.hid hx
      have S0 := Lib.hid hy
      have HBr := Lib.hid hb
      clear hx hy hb
      by_cases h1 : i < 16
      case pos =>
        have h1' : (i : Int) < 16 := by omega
        have h0' : ¬ (i : Int) < 0 := by omega
        have Hml21 := Lib.hid (show i < (mixN H.mrk ch i).length by rw [mixN_length, HHo.out.m]; exact h1)
        have Hml22 := Lib.hid (show i < (mixN P.mrk ch i).length by rw [mixN_length, HPo.out.m]; exact h1)
        have Hci := Lib.hid (show i < ch.length by rw [HRc.out]; exact h1)
        have HDr := Lib.hid (HD22.out.below HBr.out HD22.out.lt)
        go_wp2_with fail
        refine Tail.marksAt Pol.mixed 11 Grew [By.is (.int .i64 (i : Int)),
          By.is (.int .i64 (i : Int)),
          By.is (.pointer (some ⟨g1, 21, none⟩)),
          By.is (.pointer (some ⟨g1, 21 + i, none⟩)),
          By.is (bv ((mixN H.mrk ch i).getD i 0)),
          By.is (.int .i64 (i : Int)),
          By.is (.pointer (some ⟨(w.heap.size + 1 + 1 + 1), i, none⟩)),
          By.is (bv (ch.getD i 0)),
          By.is (bv ((mixN H.mrk ch i).getD i 0 ^^^ ch.getD i 0)),
          By.is (.pointer (some ⟨g1, 21, none⟩)),
          By.is (.pointer (some ⟨g1, 21 + i, none⟩))]
          (Ev.masks _ []) (Nat.zero_lt_succ _) (by kernel_rfl) (by kernel_rfl) rfl Grew.refl Grew.trans ⟨?_, ?_, ?_, ?_, ?_, ?_, ?_, ?_, ?_, ?_, ?_, trivial⟩ ?_
        · intro a w ht hs hg -- 126
          have h23 := By.same_get hs 23 (by decide) (by kernel_rfl)
          refine By.yes rfl ?_
          clear hs hg
          go_simp
          exact ⟨_, rfl, Grew.refl _, rfl⟩
        · intro a w ht hs hg -- 127
          have h23 := By.same_get hs 23 (by decide) (by kernel_rfl)
          refine By.yes rfl ?_
          clear hs hg
          go_simp
          exact ⟨_, rfl, Grew.refl _, rfl⟩
        · intro a w ht hs hg -- 128
          have h21 := By.same_get hs 21 (by decide) (by kernel_rfl)
          refine By.yes rfl ?_
          clear hs hg
          go_simp
          exact ⟨_, rfl, Grew.refl _, rfl⟩
        · intro a w ht hs hg -- 129
          have h128 : a.tmps.getD 128 undef = _ := By.given_get hg 2 rfl rfl (by kernel_rfl)
          have h127 : a.tmps.getD 127 undef = _ := By.given_get hg 1 rfl rfl (by kernel_rfl)
          refine By.yes rfl ?_
          clear hs hg
          clear ht
          go_simp
          exact ⟨_, rfl, Grew.refl _, rfl⟩
        · intro a w ht hs hg -- 130
          have h129 : a.tmps.getD 129 undef = _ := By.given_get hg 3 rfl rfl (by kernel_rfl)
          refine By.yes rfl ?_
          clear hs hg
          have hc := (Row.below (w := wr.drew) R0.out ht R0.out.lt).cell (i := 21 + i) (wm_cell HHo.out _ i Hml21.out)
          clear ht
          go_simp
          exact ⟨_, rfl, Grew.refl _, rfl⟩
        · intro a w ht hs hg -- 131
          have h23 := By.same_get hs 23 (by decide) (by kernel_rfl)
          refine By.yes rfl ?_
          clear hs hg
          go_simp
          exact ⟨_, rfl, Grew.refl _, rfl⟩
        · intro a w ht hs hg -- 132
          have h13 := By.same_get hs 13 (by decide) (by kernel_rfl)
          have h131 : a.tmps.getD 131 undef = _ := By.given_get hg 5 rfl rfl (by kernel_rfl)
          refine By.yes rfl ?_
          clear hs hg
          clear ht
          go_simp
          exact ⟨_, rfl, Grew.refl _, rfl⟩
        · intro a w ht hs hg -- 133
          have h132 : a.tmps.getD 132 undef = _ := By.given_get hg 6 rfl rfl (by kernel_rfl)
          refine By.yes rfl ?_
          clear hs hg
          have hc := (Row.below (w := wr.drew) HDr.out ht HDr.out.lt).cell (i := i) (ch_cell ch i Hci.out)
          clear ht
          go_simp
          exact ⟨_, rfl, Grew.refl _, rfl⟩
        · intro a w ht hs hg -- 134
          have h130 : a.tmps.getD 130 undef = _ := By.given_get hg 4 rfl rfl (by kernel_rfl)
          have h133 : a.tmps.getD 133 undef = _ := By.given_get hg 7 rfl rfl (by kernel_rfl)
          refine By.yes rfl ?_
          clear hs hg
          clear ht
          unfold bv at h130 h133
          go_simp
          exact ⟨_, rfl, Grew.refl _, congrArg (Value.int .u8) (w_xor8 _ _)⟩
        · intro a w ht hs hg -- 135
          have h21 := By.same_get hs 21 (by decide) (by kernel_rfl)
          refine By.yes rfl ?_
          clear hs hg
          go_simp
          exact ⟨_, rfl, Grew.refl _, rfl⟩
        · intro a w ht hs hg -- 136
          have h135 : a.tmps.getD 135 undef = _ := By.given_get hg 9 rfl rfl (by kernel_rfl)
          have h126 : a.tmps.getD 126 undef = _ := By.given_get hg 0 rfl rfl (by kernel_rfl)
          refine By.yes rfl ?_
          clear hs hg
          clear ht
          go_simp
          exact ⟨_, rfl, Grew.refl _, rfl⟩
        refine By.ends_is (By.ends_is (By.ends_is (By.ends_is (By.ends_is (By.ends_is (By.ends_is (By.ends_is (By.ends_is (By.ends_is (By.ends_is (By.ends_nil fun wq hwq => ?_)))))))))))
        simp only [Act.put, List.setIfInBounds_toArray, List.set_cons_succ, List.set_cons_zero]
        simp only [List.drop_succ_cons, List.drop_zero]
        have hbq := grew_below hwq
        have RXq := Lib.hid (R0.out.below hbq R0.out.lt)
        have RYq := Lib.hid (S0.out.below hbq S0.out.lt)
        have HDq := Lib.hid (HDr.out.below hbq HDr.out.lt)
        have HBq := Lib.hid (HBr.out.trans (hbq.mono HBr.out.size))
        clear hwq hbq
        refine wpList_plain rfl fun K hK => ?_
        refine Stg.wp_storeAny (n := 1) (off := 21 + i) (cs := [(bv ((mixN H.mrk ch i).getD i 0 ^^^ ch.getD i 0))]) 5 (.tmp 136) (.tmp 134) rfl rfl rfl rfl RXq.out (by kernel_rfl) rfl (by rw [Pk.length (wm_ok HHo.out (by rw [mixN_length]; exact HHo.out.m))]; have := Hml21.out; rw [mixN_length, HHo.out.m] at this; show 21 + i + 1 ≤ 38; omega) (by intro v hv; simp at hv; subst hv; rfl) ?_
        rw [wm_splice HHo.out _ i Hml21.out (by rw [mixN_length]; exact HHo.out.m)]
        refine hK _ _ ?_
        clear hK
        refine wpList_name fun wx hV => ?_
        have RX := Lib.hid (show Row wx g1 (wm H (mixN H.mrk ch (i + 1))).cells 40 by rw [← hV]; exact RXq.out.setRow _)
        have OX := Lib.hid (show Row wx g2 (wm P (mixN P.mrk ch i)).cells 40 by rw [← hV]; exact RYq.out.setOther _ _ HNx.out.1.symm)
        have DX := Lib.hid (show Row wx (w.heap.size + 1 + 1 + 1) (ch.map bv) 38 by rw [← hV]; exact HDq.out.setOther _ _ (by have h5 := HD22.out.lt; have h6 := HNx.out.2.1; omega))
        have BX := Lib.hid (show Below W14.heap.size W14 wx by rw [← hV]; exact below_setRow HBq.out HNx.out.2.1 _)
        clear hV
        go_wp2_with fail
        refine Tail.marksAt Pol.mixed 11 Grew [By.is (.int .i64 (i : Int)),
          By.is (.int .i64 (i : Int)),
          By.is (.pointer (some ⟨g2, 21, none⟩)),
          By.is (.pointer (some ⟨g2, 21 + i, none⟩)),
          By.is (bv ((mixN P.mrk ch i).getD i 0)),
          By.is (.int .i64 (i : Int)),
          By.is (.pointer (some ⟨(w.heap.size + 1 + 1 + 1), i, none⟩)),
          By.is (bv (ch.getD i 0)),
          By.is (bv ((mixN P.mrk ch i).getD i 0 ^^^ ch.getD i 0)),
          By.is (.pointer (some ⟨g2, 21, none⟩)),
          By.is (.pointer (some ⟨g2, 21 + i, none⟩))]
          (Ev.masks _ []) (Nat.zero_lt_succ _) (by kernel_rfl) (by kernel_rfl) rfl Grew.refl Grew.trans ⟨?_, ?_, ?_, ?_, ?_, ?_, ?_, ?_, ?_, ?_, ?_, trivial⟩ ?_
        · intro a w ht hs hg -- 137
          have h23 := By.same_get hs 23 (by decide) (by kernel_rfl)
          refine By.yes rfl ?_
          clear hs hg
          go_simp
          exact ⟨_, rfl, Grew.refl _, rfl⟩
        · intro a w ht hs hg -- 138
          have h23 := By.same_get hs 23 (by decide) (by kernel_rfl)
          refine By.yes rfl ?_
          clear hs hg
          go_simp
          exact ⟨_, rfl, Grew.refl _, rfl⟩
        · intro a w ht hs hg -- 139
          have h22 := By.same_get hs 22 (by decide) (by kernel_rfl)
          refine By.yes rfl ?_
          clear hs hg
          go_simp
          exact ⟨_, rfl, Grew.refl _, rfl⟩
        · intro a w ht hs hg -- 140
          have h139 : a.tmps.getD 139 undef = _ := By.given_get hg 2 rfl rfl (by kernel_rfl)
          have h138 : a.tmps.getD 138 undef = _ := By.given_get hg 1 rfl rfl (by kernel_rfl)
          refine By.yes rfl ?_
          clear hs hg
          clear ht
          go_simp
          exact ⟨_, rfl, Grew.refl _, rfl⟩
        · intro a w ht hs hg -- 141
          have h140 : a.tmps.getD 140 undef = _ := By.given_get hg 3 rfl rfl (by kernel_rfl)
          refine By.yes rfl ?_
          clear hs hg
          have hc := (Row.below (w := wx.drew) OX.out ht OX.out.lt).cell (i := 21 + i) (wm_cell HPo.out _ i Hml22.out)
          clear ht
          go_simp
          exact ⟨_, rfl, Grew.refl _, rfl⟩
        · intro a w ht hs hg -- 142
          have h23 := By.same_get hs 23 (by decide) (by kernel_rfl)
          refine By.yes rfl ?_
          clear hs hg
          go_simp
          exact ⟨_, rfl, Grew.refl _, rfl⟩
        · intro a w ht hs hg -- 143
          have h13 := By.same_get hs 13 (by decide) (by kernel_rfl)
          have h142 : a.tmps.getD 142 undef = _ := By.given_get hg 5 rfl rfl (by kernel_rfl)
          refine By.yes rfl ?_
          clear hs hg
          clear ht
          go_simp
          exact ⟨_, rfl, Grew.refl _, rfl⟩
        · intro a w ht hs hg -- 144
          have h143 : a.tmps.getD 143 undef = _ := By.given_get hg 6 rfl rfl (by kernel_rfl)
          refine By.yes rfl ?_
          clear hs hg
          have hc := (Row.below (w := wx.drew) DX.out ht DX.out.lt).cell (i := i) (ch_cell ch i Hci.out)
          clear ht
          go_simp
          exact ⟨_, rfl, Grew.refl _, rfl⟩
        · intro a w ht hs hg -- 145
          have h141 : a.tmps.getD 141 undef = _ := By.given_get hg 4 rfl rfl (by kernel_rfl)
          have h144 : a.tmps.getD 144 undef = _ := By.given_get hg 7 rfl rfl (by kernel_rfl)
          refine By.yes rfl ?_
          clear hs hg
          clear ht
          unfold bv at h141 h144
          go_simp
          exact ⟨_, rfl, Grew.refl _, congrArg (Value.int .u8) (w_xor8 _ _)⟩
        · intro a w ht hs hg -- 146
          have h22 := By.same_get hs 22 (by decide) (by kernel_rfl)
          refine By.yes rfl ?_
          clear hs hg
          go_simp
          exact ⟨_, rfl, Grew.refl _, rfl⟩
        · intro a w ht hs hg -- 147
          have h146 : a.tmps.getD 146 undef = _ := By.given_get hg 9 rfl rfl (by kernel_rfl)
          have h137 : a.tmps.getD 137 undef = _ := By.given_get hg 0 rfl rfl (by kernel_rfl)
          refine By.yes rfl ?_
          clear hs hg
          clear ht
          go_simp
          exact ⟨_, rfl, Grew.refl _, rfl⟩
        refine By.ends_is (By.ends_is (By.ends_is (By.ends_is (By.ends_is (By.ends_is (By.ends_is (By.ends_is (By.ends_is (By.ends_is (By.ends_is (By.ends_nil fun wq hwq => ?_)))))))))))
        simp only [Act.put, List.setIfInBounds_toArray, List.set_cons_succ, List.set_cons_zero]
        simp only [List.drop_succ_cons, List.drop_zero]
        have hbq := grew_below hwq
        have RXq := Lib.hid (OX.out.below hbq OX.out.lt)
        have RYq := Lib.hid (RX.out.below hbq RX.out.lt)
        have HDq := Lib.hid (DX.out.below hbq DX.out.lt)
        have HBq := Lib.hid (BX.out.trans (hbq.mono BX.out.size))
        clear hwq hbq
        refine wpList_plain rfl fun K hK => ?_
        refine Stg.wp_storeAny (n := 1) (off := 21 + i) (cs := [(bv ((mixN P.mrk ch i).getD i 0 ^^^ ch.getD i 0))]) 5 (.tmp 147) (.tmp 145) rfl rfl rfl rfl RXq.out (by kernel_rfl) rfl (by rw [Pk.length (wm_ok HPo.out (by rw [mixN_length]; exact HPo.out.m))]; have := Hml22.out; rw [mixN_length, HPo.out.m] at this; show 21 + i + 1 ≤ 38; omega) (by intro v hv; simp at hv; subst hv; rfl) ?_
        rw [wm_splice HPo.out _ i Hml22.out (by rw [mixN_length]; exact HPo.out.m)]
        refine hK _ _ ?_
        clear hK
        refine wpList_name fun wy hV => ?_
        have RY := Lib.hid (show Row wy g2 (wm P (mixN P.mrk ch (i + 1))).cells 40 by rw [← hV]; exact RXq.out.setRow _)
        have OY := Lib.hid (show Row wy g1 (wm H (mixN H.mrk ch (i + 1))).cells 40 by rw [← hV]; exact RYq.out.setOther _ _ HNx.out.1)
        have DY := Lib.hid (show Row wy (w.heap.size + 1 + 1 + 1) (ch.map bv) 38 by rw [← hV]; exact HDq.out.setOther _ _ (by have h5 := HD22.out.lt; have h6 := HNx.out.2.2; omega))
        have BY := Lib.hid (show Below W14.heap.size W14 wy by rw [← hV]; exact below_setRow HBq.out HNx.out.2.2 _)
        clear hV
        go_wp2_with fail
        go_roundw
        case rel => exact ⟨i + 1, h1, by simp, OY.out, RY.out, BY.out⟩
        case measure => simp [intOf]; omega
      case neg =>
        have h1' : ¬ (i : Int) < 16 := by omega
        have h16 : i = 16 := by omega
        subst h16
        have HX := Lib.hid (show Row wr g1 HB.cells 40 from HHBe.out ▸ R0.out)
        have HY := Lib.hid (show Row wr g2 PB.cells 40 from HPBe.out ▸ S0.out)
        have HB23 := Lib.hid (nextB HB22.out (Nat.le_refl _) HBr.out)
        have HK23 := Lib.hid (HK22.out.below HBr.out HK22.out.lt)
        have HA23 := Lib.hid (HA22.out.below HBr.out HA22.out.lt)
        have HC23 := Lib.hid (HC22.out.below HBr.out HC22.out.lt)
        have HD23 := Lib.hid (HD22.out.below HBr.out HD22.out.lt)
        have HH23 := Lib.hid (HH22.out.below HBr.out HH22.out.lt)
        have HP23 := Lib.hid (HP22.out.below HBr.out HP22.out.lt)
        have HS23 := Lib.hid (HS22.out.below HBr.out HS22.out.lt)
        have HU23 := Lib.hid (HU22.out.below HBr.out HU22.out.lt)
        have HT23 := Lib.hid (HT22.out.below HBr.out HT22.out.1)
        obtain ⟨Z6, hZ6⟩ : ∃ Z, List.replicate 16 (0 : UInt8) = Z := ⟨_, rfl⟩
        have HZ6 := Lib.hid hZ6
        have HZ6l := Lib.hid (show Z6.length = 16 by rw [← hZ6]; rfl)
        have he6 := fun u v w => eqg16 ch Z6 u v w
        have hv6 := fun w => eqv16 ch Z6 HRc.out HZ6l.out w
        by_cases hz : ch = Z6
        case pos =>
          rw [decide_eq_true hz] at hv6
          clear hZ6 hz
          have HL24 := Lib.hid (l_a16 HD23.out HRc.out)
          go_wp2_with (first
            | (refine wpList_ld 38 rfl rfl HL24.out rfl ?_)
            | (show wpList _ _ _ (⟨some 149, _, _, _, _, _⟩ :: _) _ _; refine wpList_bd _ _ rfl (v := arr8 Z6) (by rw [← HZ6.out]; kernel_rfl) rfl ?_)
            | fail)
          go_ret
          exact ⟨rfl, HB23.out⟩
        case neg =>
          rw [decide_eq_false hz] at hv6
          have hN := HNE.out (by rw [hZ6]; exact hz)
          have HA3 := Lib.hid (show ansV key HB 0 s e rb = .tuple #[E.val, arr8 Z, .int .i64 12] by rw [ansV_no hN.1 (by decide), HEe.out, Hz32.out]; rfl)
          have HC3 := Lib.hid (show cansV key H PB 0 0 = .tuple #[arr8 Z, .int .i64 12] by rw [cansV_no HHc.out hN.2 (by decide), Hz32.out]; rfl)
          have HCB := Lib.hid (show chkk HB 0 1 (Shk.mark key (hello5 ++ (helloL HB).flatten)) = 12 from hN.1)
          clear hZ6 hz hN
          have HL24 := Lib.hid (l_a16 HD23.out HRc.out)
          have HL25 := Lib.hid (l_a32 HK23.out HKl.out)
          have HL26 := Lib.hid (l_all HH23.out HHo.out)
          have HL27 := Lib.hid (l_all HY.out HPBo.out)
          go_wp2_with (first
            | (refine wpList_ld 38 rfl rfl HL24.out rfl ?_)
            | (refine wpList_ld 24 rfl rfl HL25.out rfl ?_)
            | (refine wpList_ld 40 rfl rfl HL26.out rfl ?_)
            | (refine wpList_ld 40 rfl rfl HL27.out rfl ?_)
            | (show wpList _ _ _ (⟨some 149, _, _, _, _, _⟩ :: _) _ _; refine wpList_bd _ _ rfl (v := arr8 Z6) (by rw [← HZ6.out]; kernel_rfl) rfl ?_)
            | fail)
          refine (CheckAnswer_any key H PB HKl.out HHo.out HPBo.out none none 0 0 0 0 HHb.out HPBb.out wr HT23.out).mono ?_
          rintro e w28 ⟨rfl, hb⟩
          rw [HC3.out]
          have HB29 := Lib.hid (nextB HB23.out (Nat.le_refl _) hb)
          have HK29 := Lib.hid (HK23.out.below hb HK23.out.lt)
          have HA29 := Lib.hid (HA23.out.below hb HA23.out.lt)
          have HC29 := Lib.hid (HC23.out.below hb HC23.out.lt)
          have HD29 := Lib.hid (HD23.out.below hb HD23.out.lt)
          have HH29 := Lib.hid (HH23.out.below hb HH23.out.lt)
          have HP29 := Lib.hid (HP23.out.below hb HP23.out.lt)
          have HS29 := Lib.hid (HS23.out.below hb HS23.out.lt)
          have HU29 := Lib.hid (HU23.out.below hb HU23.out.lt)
          have HHB29 := Lib.hid (HX.out.below hb HX.out.lt)
          have HPB29 := Lib.hid (HY.out.below hb HY.out.lt)
          have HT29 := Lib.hid (HT23.out.below hb HT23.out.1)
          clear hb
          go_wp2_with (first
            | (show wpList _ _ _ (⟨none, Op.store 24 _ _, _, _, _, _⟩ :: _) _ _
               refine wpList_storeRow (g := w28.heap.size) rfl 24 _ _ rfl rfl rfl (cs := (Z.map bv)) (Row.new rfl rfl : Row (w28.alloc (.cells z32.toArray 24)) w28.heap.size z32 24) (by kernel_rfl) (by rw [List.length_map]; exact HZl.out) rfl (hbytes_one Z) ?_
               refine wpList_name fun V hV => ?_
               refine sstop ?_)
            | fail)
          unfold SStop
          obtain ⟨W30, hV2⟩ : ∃ V2, V = V2 := ⟨V, rfl⟩
          rw [hV2] at hV ⊢
          clear hV2
          have hb : Below w28.heap.size w28 W30 := by rw [← hV]; exact (below_setRow ((Below.refl _ w28).alloc (Nat.le_refl _) _) (by omega) _)
          have HV30 := Lib.hid (show Row W30 w28.heap.size (Z.map bv) 24 by rw [← hV]; exact ((Row.new rfl rfl : Row (w28.alloc (.cells z32.toArray 24)) w28.heap.size z32 24).setRow _))
          have HB31 := Lib.hid (nextB HB29.out (Nat.le_refl _) hb)
          have HK31 := Lib.hid (HK29.out.below hb HK29.out.lt)
          have HA31 := Lib.hid (HA29.out.below hb HA29.out.lt)
          have HC31 := Lib.hid (HC29.out.below hb HC29.out.lt)
          have HD31 := Lib.hid (HD29.out.below hb HD29.out.lt)
          have HH31 := Lib.hid (HH29.out.below hb HH29.out.lt)
          have HP31 := Lib.hid (HP29.out.below hb HP29.out.lt)
          have HS31 := Lib.hid (HS29.out.below hb HS29.out.lt)
          have HU31 := Lib.hid (HU29.out.below hb HU29.out.lt)
          have HHB31 := Lib.hid (HHB29.out.below hb HHB29.out.lt)
          have HPB31 := Lib.hid (HPB29.out.below hb HPB29.out.lt)
          have HT31 := Lib.hid (HT29.out.below hb HT29.out.1)
          clear hV hb
          have HL32 := Lib.hid (l_a32 HK31.out HKl.out)
          have HL33 := Lib.hid (l_all HHB31.out HHBo.out)
          have HL34 := Lib.hid (l_a16 HC31.out HRb.out)
          go_wp2_with (first
            | (refine wpList_ld 24 rfl rfl HL32.out rfl ?_)
            | (refine wpList_ld 40 rfl rfl HL33.out rfl ?_)
            | (refine wpList_ld 38 rfl rfl HL34.out rfl ?_)
            | fail)
          refine (Answer_any key HB s e rb HKl.out HHBo.out none 0 0 HHBb.out HRb.out W30 HT31.out).mono ?_
          rintro e w35 ⟨rfl, hb⟩
          rw [HA3.out]
          have HB36 := Lib.hid (nextB HB31.out (Nat.le_refl _) hb)
          have HK36 := Lib.hid (HK31.out.below hb HK31.out.lt)
          have HA36 := Lib.hid (HA31.out.below hb HA31.out.lt)
          have HC36 := Lib.hid (HC31.out.below hb HC31.out.lt)
          have HD36 := Lib.hid (HD31.out.below hb HD31.out.lt)
          have HH36 := Lib.hid (HH31.out.below hb HH31.out.lt)
          have HP36 := Lib.hid (HP31.out.below hb HP31.out.lt)
          have HS36 := Lib.hid (HS31.out.below hb HS31.out.lt)
          have HU36 := Lib.hid (HU31.out.below hb HU31.out.lt)
          have HHB36 := Lib.hid (HHB31.out.below hb HHB31.out.lt)
          have HPB36 := Lib.hid (HPB31.out.below hb HPB31.out.lt)
          have HV36 := Lib.hid (HV30.out.below hb HV30.out.lt)
          have HT36 := Lib.hid (HT31.out.below hb HT31.out.1)
          clear hb
          go_wp2_with (first
            | (show wpList _ _ _ (⟨none, Op.store 40 _ _, _, _, _, _⟩ :: _) _ _
               refine wpList_storeRow (g := w35.heap.size) rfl 40 _ _ rfl rfl rfl (cs := E.cells) ((Row.new rfl rfl : Row (w35.alloc (.cells (nm 0).cells.toArray 40)) w35.heap.size (nm 0).cells 40).alloc _) (by kernel_rfl) (Pk.length HEo.out) (Pk.length nm_ok) (Pk.one HEo.out) ?_)
            | (show wpList _ _ _ (⟨none, Op.store 24 _ _, _, _, _, _⟩ :: _) _ _
               refine wpList_storeRow (g := (w35.heap.size + 1)) rfl 24 _ _ rfl rfl rfl (cs := (Z.map bv)) ((Row.new (by simp) rfl : Row ((w35.alloc (.cells (nm 0).cells.toArray 40)).alloc (.cells z32.toArray 24)) (w35.heap.size + 1) z32 24).setOther _ _ (by omega)) (by kernel_rfl) (by rw [List.length_map]; exact HZl.out) rfl (hbytes_one Z) ?_
               refine wpList_name fun V hV => ?_
               refine sstop ?_)
            | fail)
          unfold SStop
          obtain ⟨W37, hV2⟩ : ∃ V2, V = V2 := ⟨V, rfl⟩
          rw [hV2] at hV ⊢
          clear hV2
          have hb : Below w35.heap.size w35 W37 := by rw [← hV]; exact (below_setRow (below_setRow (((Below.refl _ w35).alloc (Nat.le_refl _) _).alloc (by simp) _) (by omega) _) (by omega) _)
          have HE37 := Lib.hid (show Row W37 w35.heap.size E.cells 40 by rw [← hV]; exact ((((Row.new rfl rfl : Row (w35.alloc (.cells (nm 0).cells.toArray 40)) w35.heap.size (nm 0).cells 40).alloc _).setRow _).setOther _ _ (by omega)))
          have HY37 := Lib.hid (show Row W37 (w35.heap.size + 1) (Z.map bv) 24 by rw [← hV]; exact (((Row.new (by simp) rfl : Row ((w35.alloc (.cells (nm 0).cells.toArray 40)).alloc (.cells z32.toArray 24)) (w35.heap.size + 1) z32 24).setOther _ _ (by omega)).setRow _))
          have HB38 := Lib.hid (nextB HB36.out (Nat.le_refl _) hb)
          have HK38 := Lib.hid (HK36.out.below hb HK36.out.lt)
          have HA38 := Lib.hid (HA36.out.below hb HA36.out.lt)
          have HC38 := Lib.hid (HC36.out.below hb HC36.out.lt)
          have HD38 := Lib.hid (HD36.out.below hb HD36.out.lt)
          have HH38 := Lib.hid (HH36.out.below hb HH36.out.lt)
          have HP38 := Lib.hid (HP36.out.below hb HP36.out.lt)
          have HS38 := Lib.hid (HS36.out.below hb HS36.out.lt)
          have HU38 := Lib.hid (HU36.out.below hb HU36.out.lt)
          have HHB38 := Lib.hid (HHB36.out.below hb HHB36.out.lt)
          have HPB38 := Lib.hid (HPB36.out.below hb HPB36.out.lt)
          have HV38 := Lib.hid (HV36.out.below hb HV36.out.lt)
          have HT38 := Lib.hid (HT36.out.below hb HT36.out.1)
          clear hV hb
          have HL39 := Lib.hid (l_a32 HK38.out HKl.out)
          have HL40 := Lib.hid (l_all HHB38.out HHBo.out)
          go_wp2_with (first
            | (refine wpList_ld 24 rfl rfl HL39.out rfl ?_)
            | (refine wpList_ld 40 rfl rfl HL40.out rfl ?_)
            | fail)
          refine (CheckHello_any key HB HKl.out HHBo.out none 0 0 HHBb.out W37 HT38.out).mono ?_
          rintro e w41 ⟨rfl, hb⟩
          rw [HCB.out]
          have HB42 := Lib.hid (nextB HB38.out (Nat.le_refl _) hb)
          have HK42 := Lib.hid (HK38.out.below hb HK38.out.lt)
          have HA42 := Lib.hid (HA38.out.below hb HA38.out.lt)
          have HC42 := Lib.hid (HC38.out.below hb HC38.out.lt)
          have HD42 := Lib.hid (HD38.out.below hb HD38.out.lt)
          have HH42 := Lib.hid (HH38.out.below hb HH38.out.lt)
          have HP42 := Lib.hid (HP38.out.below hb HP38.out.lt)
          have HS42 := Lib.hid (HS38.out.below hb HS38.out.lt)
          have HU42 := Lib.hid (HU38.out.below hb HU38.out.lt)
          have HHB42 := Lib.hid (HHB38.out.below hb HHB38.out.lt)
          have HPB42 := Lib.hid (HPB38.out.below hb HPB38.out.lt)
          have HV42 := Lib.hid (HV38.out.below hb HV38.out.lt)
          have HE42 := Lib.hid (HE37.out.below hb HE37.out.lt)
          have HY42 := Lib.hid (HY37.out.below hb HY37.out.lt)
          have HT42 := Lib.hid (HT38.out.below hb HT38.out.1)
          clear hb
          have heg := fun u v w => eqg .eql (.inl rfl) Z Z u v w
          have hev := fun w => eqv Z Z HZl.out HZl.out w
          rw [show decide (Z = Z) = true by simp] at hev
          have HL43 := Lib.hid (l_a32 HV42.out HZl.out)
          have HL44 := Lib.hid (l_a32 HY42.out HZl.out)
          go_wp2_with (first
            | (refine wpList_ld 24 rfl rfl HL43.out rfl ?_)
            | (refine wpList_ld 24 rfl rfl HL44.out rfl ?_)
            | (show wpList _ _ _ (⟨some 178, _, _, _, _, _⟩ :: _) _ _; refine wpList_bd _ _ rfl (v := arr8 Z) (by rw [← HZe.out]; kernel_rfl) rfl ?_)
            | (show wpList _ _ _ (⟨some 187, _, _, _, _, _⟩ :: _) _ _; refine wpList_bd _ _ rfl (v := arr8 Z) (by rw [← HZe.out]; kernel_rfl) rfl ?_)
            | fail)
          go_ret
          exact ⟨rfl, HB42.out⟩
  · skip
    refine By.ends_is ?_
    refine By.ends_is ?_
    refine By.ends_any fun _ => ?_
    refine By.ends_any fun _ => ?_
    refine By.ends_nil fun w9 hw9 => ?_
    intro hD
    obtain ⟨⟨hw9, hn1⟩, hn2⟩ := hw9
    obtain ⟨g1, hv1, hlt1, hge1, hr1⟩ := hn1
    obtain ⟨g2, hv2, hlt2, hge2, hr2⟩ := hn2
    subst hv1
    subst hv2
    have hne : g1 ≠ g2 := by
      intro e
      subst e
      refine hD ?_
      kernel_rfl
    have HR1 := Lib.hid hr1
    have HR2 := Lib.hid hr2
    have HNx := Lib.hid (show g1 ≠ g2 ∧ W14.heap.size ≤ g1 ∧ W14.heap.size ≤ g2 from ⟨hne, hge1, hge2⟩)
    have HBx := Lib.hid (grew_below hw9)
    clear hD hw9 hlt1 hlt2 hge1 hge2 hr1 hr2 hne
    simp only [Act.put, List.setIfInBounds_toArray, List.set_cons_succ, List.set_cons_zero, List.drop_succ_cons, List.drop_zero]
    refine wpList_storeRow (g := g1) rfl 40 (.tmp 21) (.tmp 120) rfl rfl rfl (cs := H.cells) HR1.out (by kernel_rfl) (Pk.length HHo.out) (Pk.length nm_ok) (Pk.one HHo.out) ?_
    refine wpList_name fun V1 hV1 => ?_
    have HX1 := Lib.hid (show Row V1 g1 (wm H (mixN H.mrk ch 0)).cells 40 from hV1 ▸ HR1.out.setRow _)
    have HY1 := Lib.hid (show Row V1 g2 (nm 0).cells 40 from hV1 ▸ HR2.out.setOther g1 _ HNx.out.1.symm)
    have HB1w := Lib.hid (show Below W14.heap.size W14 V1 from hV1 ▸ below_setRow HBx.out HNx.out.2.1 _)
    clear hV1
    refine wpList_ld 40 rfl rfl (l_all (HP22.out.below HB1w.out HP22.out.lt) HPo.out) rfl ?_
    simp only [Act.put, List.setIfInBounds_toArray, List.set_cons_succ, List.set_cons_zero]
    refine wpList_storeRow (g := g2) rfl 40 (.tmp 22) (.tmp 121) rfl rfl rfl (cs := P.cells) HY1.out (by kernel_rfl) (Pk.length HPo.out) (Pk.length nm_ok) (Pk.one HPo.out) ?_
    refine wpList_name fun V2 hV2 => ?_
    have RY2 := Lib.hid (show Row V2 g2 (wm P (mixN P.mrk ch 0)).cells 40 from hV2 ▸ HY1.out.setRow _)
    have RX2 := Lib.hid (show Row V2 g1 (wm H (mixN H.mrk ch 0)).cells 40 from hV2 ▸ HX1.out.setOther g2 _ HNx.out.1)
    have HB2w := Lib.hid (show Below W14.heap.size W14 V2 from hV2 ▸ below_setRow HB1w.out HNx.out.2.2 _)
    clear hV2
    go_wp2
    go_loopw [23] (fun iv wr => ∃ i : Nat, i ≤ 16 ∧ iv = .int .i64 (i : Int) ∧ Row wr g1 (wm H (mixN H.mrk ch i)).cells 40 ∧ Row wr g2 (wm P (mixN P.mrk ch i)).cells 40 ∧ Below W14.heap.size W14 wr) (fun iv _ => 16 - (intOf iv).toNat)
    case atStart => exact ⟨0, Nat.zero_le _, rfl, RX2.out, RY2.out, HB2w.out⟩
    case round =>
      obtain ⟨i, hi, rfl, hx, hy, hb⟩ := hrel
      have R0 := Lib.hid hx
      have S0 := Lib.hid hy
      have HBr := Lib.hid hb
      clear hx hy hb
      by_cases h1 : i < 16
      case pos =>
        have h1' : (i : Int) < 16 := by omega
        have h0' : ¬ (i : Int) < 0 := by omega
        have Hml21 := Lib.hid (show i < (mixN H.mrk ch i).length by rw [mixN_length, HHo.out.m]; exact h1)
        have Hml22 := Lib.hid (show i < (mixN P.mrk ch i).length by rw [mixN_length, HPo.out.m]; exact h1)
        have Hci := Lib.hid (show i < ch.length by rw [HRc.out]; exact h1)
        have HDr := Lib.hid (HD22.out.below HBr.out HD22.out.lt)
        go_wp2_with fail
        refine Tail.marksAt Pol.mixed 11 Grew [By.is (.int .i64 (i : Int)),
          By.is (.int .i64 (i : Int)),
          By.is (.pointer (some ⟨g1, 21, none⟩)),
          By.is (.pointer (some ⟨g1, 21 + i, none⟩)),
          By.is (bv ((mixN H.mrk ch i).getD i 0)),
          By.is (.int .i64 (i : Int)),
          By.is (.pointer (some ⟨(w.heap.size + 1 + 1 + 1), i, none⟩)),
          By.is (bv (ch.getD i 0)),
          By.is (bv ((mixN H.mrk ch i).getD i 0 ^^^ ch.getD i 0)),
          By.is (.pointer (some ⟨g1, 21, none⟩)),
          By.is (.pointer (some ⟨g1, 21 + i, none⟩))]
          (Ev.masks _ []) (Nat.zero_lt_succ _) (by kernel_rfl) (by kernel_rfl) rfl Grew.refl Grew.trans ⟨?_, ?_, ?_, ?_, ?_, ?_, ?_, ?_, ?_, ?_, ?_, trivial⟩ ?_
        · intro a w ht hs hg -- 126
          have h23 := By.same_get hs 23 (by decide) (by kernel_rfl)
          refine By.yes rfl ?_
          clear hs hg
          go_simp
          exact ⟨_, rfl, Grew.refl _, rfl⟩
        · intro a w ht hs hg -- 127
          have h23 := By.same_get hs 23 (by decide) (by kernel_rfl)
          refine By.yes rfl ?_
          clear hs hg
          go_simp
          exact ⟨_, rfl, Grew.refl _, rfl⟩
        · intro a w ht hs hg -- 128
          have h21 := By.same_get hs 21 (by decide) (by kernel_rfl)
          refine By.yes rfl ?_
          clear hs hg
          go_simp
          exact ⟨_, rfl, Grew.refl _, rfl⟩
        · intro a w ht hs hg -- 129
          have h128 : a.tmps.getD 128 undef = _ := By.given_get hg 2 rfl rfl (by kernel_rfl)
          have h127 : a.tmps.getD 127 undef = _ := By.given_get hg 1 rfl rfl (by kernel_rfl)
          refine By.yes rfl ?_
          clear hs hg
          clear ht
          go_simp
          exact ⟨_, rfl, Grew.refl _, rfl⟩
        · intro a w ht hs hg -- 130
          have h129 : a.tmps.getD 129 undef = _ := By.given_get hg 3 rfl rfl (by kernel_rfl)
          refine By.yes rfl ?_
          clear hs hg
          have hc := (Row.below (w := wr.drew) R0.out ht R0.out.lt).cell (i := 21 + i) (wm_cell HHo.out _ i Hml21.out)
          clear ht
          go_simp
          exact ⟨_, rfl, Grew.refl _, rfl⟩
        · intro a w ht hs hg -- 131
          have h23 := By.same_get hs 23 (by decide) (by kernel_rfl)
          refine By.yes rfl ?_
          clear hs hg
          go_simp
          exact ⟨_, rfl, Grew.refl _, rfl⟩
        · intro a w ht hs hg -- 132
          have h13 := By.same_get hs 13 (by decide) (by kernel_rfl)
          have h131 : a.tmps.getD 131 undef = _ := By.given_get hg 5 rfl rfl (by kernel_rfl)
          refine By.yes rfl ?_
          clear hs hg
          clear ht
          go_simp
          exact ⟨_, rfl, Grew.refl _, rfl⟩
        · intro a w ht hs hg -- 133
          have h132 : a.tmps.getD 132 undef = _ := By.given_get hg 6 rfl rfl (by kernel_rfl)
          refine By.yes rfl ?_
          clear hs hg
          have hc := (Row.below (w := wr.drew) HDr.out ht HDr.out.lt).cell (i := i) (ch_cell ch i Hci.out)
          clear ht
          go_simp
          exact ⟨_, rfl, Grew.refl _, rfl⟩
        · intro a w ht hs hg -- 134
          have h130 : a.tmps.getD 130 undef = _ := By.given_get hg 4 rfl rfl (by kernel_rfl)
          have h133 : a.tmps.getD 133 undef = _ := By.given_get hg 7 rfl rfl (by kernel_rfl)
          refine By.yes rfl ?_
          clear hs hg
          clear ht
          unfold bv at h130 h133
          go_simp
          exact ⟨_, rfl, Grew.refl _, congrArg (Value.int .u8) (w_xor8 _ _)⟩
        · intro a w ht hs hg -- 135
          have h21 := By.same_get hs 21 (by decide) (by kernel_rfl)
          refine By.yes rfl ?_
          clear hs hg
          go_simp
          exact ⟨_, rfl, Grew.refl _, rfl⟩
        · intro a w ht hs hg -- 136
          have h135 : a.tmps.getD 135 undef = _ := By.given_get hg 9 rfl rfl (by kernel_rfl)
          have h126 : a.tmps.getD 126 undef = _ := By.given_get hg 0 rfl rfl (by kernel_rfl)
          refine By.yes rfl ?_
          clear hs hg
          clear ht
          go_simp
          exact ⟨_, rfl, Grew.refl _, rfl⟩
        refine By.ends_is (By.ends_is (By.ends_is (By.ends_is (By.ends_is (By.ends_is (By.ends_is (By.ends_is (By.ends_is (By.ends_is (By.ends_is (By.ends_nil fun wq hwq => ?_)))))))))))
        simp only [Act.put, List.setIfInBounds_toArray, List.set_cons_succ, List.set_cons_zero]
        simp only [List.drop_succ_cons, List.drop_zero]
        have hbq := grew_below hwq
        have RXq := Lib.hid (R0.out.below hbq R0.out.lt)
        have RYq := Lib.hid (S0.out.below hbq S0.out.lt)
        have HDq := Lib.hid (HDr.out.below hbq HDr.out.lt)
        have HBq := Lib.hid (HBr.out.trans (hbq.mono HBr.out.size))
        clear hwq hbq
        refine wpList_plain rfl fun K hK => ?_
        refine Stg.wp_storeAny (n := 1) (off := 21 + i) (cs := [(bv ((mixN H.mrk ch i).getD i 0 ^^^ ch.getD i 0))]) 5 (.tmp 136) (.tmp 134) rfl rfl rfl rfl RXq.out (by kernel_rfl) rfl (by rw [Pk.length (wm_ok HHo.out (by rw [mixN_length]; exact HHo.out.m))]; have := Hml21.out; rw [mixN_length, HHo.out.m] at this; show 21 + i + 1 ≤ 38; omega) (by intro v hv; simp at hv; subst hv; rfl) ?_
        rw [wm_splice HHo.out _ i Hml21.out (by rw [mixN_length]; exact HHo.out.m)]
        refine hK _ _ ?_
        clear hK
        refine wpList_name fun wx hV => ?_
        have RX := Lib.hid (show Row wx g1 (wm H (mixN H.mrk ch (i + 1))).cells 40 by rw [← hV]; exact RXq.out.setRow _)
        have OX := Lib.hid (show Row wx g2 (wm P (mixN P.mrk ch i)).cells 40 by rw [← hV]; exact RYq.out.setOther _ _ HNx.out.1.symm)
        have DX := Lib.hid (show Row wx (w.heap.size + 1 + 1 + 1) (ch.map bv) 38 by rw [← hV]; exact HDq.out.setOther _ _ (by have h5 := HD22.out.lt; have h6 := HNx.out.2.1; omega))
        have BX := Lib.hid (show Below W14.heap.size W14 wx by rw [← hV]; exact below_setRow HBq.out HNx.out.2.1 _)
        clear hV
        go_wp2_with fail
        refine Tail.marksAt Pol.mixed 11 Grew [By.is (.int .i64 (i : Int)),
          By.is (.int .i64 (i : Int)),
          By.is (.pointer (some ⟨g2, 21, none⟩)),
          By.is (.pointer (some ⟨g2, 21 + i, none⟩)),
          By.is (bv ((mixN P.mrk ch i).getD i 0)),
          By.is (.int .i64 (i : Int)),
          By.is (.pointer (some ⟨(w.heap.size + 1 + 1 + 1), i, none⟩)),
          By.is (bv (ch.getD i 0)),
          By.is (bv ((mixN P.mrk ch i).getD i 0 ^^^ ch.getD i 0)),
          By.is (.pointer (some ⟨g2, 21, none⟩)),
          By.is (.pointer (some ⟨g2, 21 + i, none⟩))]
          (Ev.masks _ []) (Nat.zero_lt_succ _) (by kernel_rfl) (by kernel_rfl) rfl Grew.refl Grew.trans ⟨?_, ?_, ?_, ?_, ?_, ?_, ?_, ?_, ?_, ?_, ?_, trivial⟩ ?_
        · intro a w ht hs hg -- 137
          have h23 := By.same_get hs 23 (by decide) (by kernel_rfl)
          refine By.yes rfl ?_
          clear hs hg
          go_simp
          exact ⟨_, rfl, Grew.refl _, rfl⟩
        · intro a w ht hs hg -- 138
          have h23 := By.same_get hs 23 (by decide) (by kernel_rfl)
          refine By.yes rfl ?_
          clear hs hg
          go_simp
          exact ⟨_, rfl, Grew.refl _, rfl⟩
        · intro a w ht hs hg -- 139
          have h22 := By.same_get hs 22 (by decide) (by kernel_rfl)
          refine By.yes rfl ?_
          clear hs hg
          go_simp
          exact ⟨_, rfl, Grew.refl _, rfl⟩
        · intro a w ht hs hg -- 140
          have h139 : a.tmps.getD 139 undef = _ := By.given_get hg 2 rfl rfl (by kernel_rfl)
          have h138 : a.tmps.getD 138 undef = _ := By.given_get hg 1 rfl rfl (by kernel_rfl)
          refine By.yes rfl ?_
          clear hs hg
          clear ht
          go_simp
          exact ⟨_, rfl, Grew.refl _, rfl⟩
        · intro a w ht hs hg -- 141
          have h140 : a.tmps.getD 140 undef = _ := By.given_get hg 3 rfl rfl (by kernel_rfl)
          refine By.yes rfl ?_
          clear hs hg
          have hc := (Row.below (w := wx.drew) OX.out ht OX.out.lt).cell (i := 21 + i) (wm_cell HPo.out _ i Hml22.out)
          clear ht
          go_simp
          exact ⟨_, rfl, Grew.refl _, rfl⟩
        · intro a w ht hs hg -- 142
          have h23 := By.same_get hs 23 (by decide) (by kernel_rfl)
          refine By.yes rfl ?_
          clear hs hg
          go_simp
          exact ⟨_, rfl, Grew.refl _, rfl⟩
        · intro a w ht hs hg -- 143
          have h13 := By.same_get hs 13 (by decide) (by kernel_rfl)
          have h142 : a.tmps.getD 142 undef = _ := By.given_get hg 5 rfl rfl (by kernel_rfl)
          refine By.yes rfl ?_
          clear hs hg
          clear ht
          go_simp
          exact ⟨_, rfl, Grew.refl _, rfl⟩
        · intro a w ht hs hg -- 144
          have h143 : a.tmps.getD 143 undef = _ := By.given_get hg 6 rfl rfl (by kernel_rfl)
          refine By.yes rfl ?_
          clear hs hg
          have hc := (Row.below (w := wx.drew) DX.out ht DX.out.lt).cell (i := i) (ch_cell ch i Hci.out)
          clear ht
          go_simp
          exact ⟨_, rfl, Grew.refl _, rfl⟩
        · intro a w ht hs hg -- 145
          have h141 : a.tmps.getD 141 undef = _ := By.given_get hg 4 rfl rfl (by kernel_rfl)
          have h144 : a.tmps.getD 144 undef = _ := By.given_get hg 7 rfl rfl (by kernel_rfl)
          refine By.yes rfl ?_
          clear hs hg
          clear ht
          unfold bv at h141 h144
          go_simp
          exact ⟨_, rfl, Grew.refl _, congrArg (Value.int .u8) (w_xor8 _ _)⟩
        · intro a w ht hs hg -- 146
          have h22 := By.same_get hs 22 (by decide) (by kernel_rfl)
          refine By.yes rfl ?_
          clear hs hg
          go_simp
          exact ⟨_, rfl, Grew.refl _, rfl⟩
        · intro a w ht hs hg -- 147
          have h146 : a.tmps.getD 146 undef = _ := By.given_get hg 9 rfl rfl (by kernel_rfl)
          have h137 : a.tmps.getD 137 undef = _ := By.given_get hg 0 rfl rfl (by kernel_rfl)
          refine By.yes rfl ?_
          clear hs hg
          clear ht
          go_simp
          exact ⟨_, rfl, Grew.refl _, rfl⟩
        refine By.ends_is (By.ends_is (By.ends_is (By.ends_is (By.ends_is (By.ends_is (By.ends_is (By.ends_is (By.ends_is (By.ends_is (By.ends_is (By.ends_nil fun wq hwq => ?_)))))))))))
        simp only [Act.put, List.setIfInBounds_toArray, List.set_cons_succ, List.set_cons_zero]
        simp only [List.drop_succ_cons, List.drop_zero]
        have hbq := grew_below hwq
        have RXq := Lib.hid (OX.out.below hbq OX.out.lt)
        have RYq := Lib.hid (RX.out.below hbq RX.out.lt)
        have HDq := Lib.hid (DX.out.below hbq DX.out.lt)
        have HBq := Lib.hid (BX.out.trans (hbq.mono BX.out.size))
        clear hwq hbq
        refine wpList_plain rfl fun K hK => ?_
        refine Stg.wp_storeAny (n := 1) (off := 21 + i) (cs := [(bv ((mixN P.mrk ch i).getD i 0 ^^^ ch.getD i 0))]) 5 (.tmp 147) (.tmp 145) rfl rfl rfl rfl RXq.out (by kernel_rfl) rfl (by rw [Pk.length (wm_ok HPo.out (by rw [mixN_length]; exact HPo.out.m))]; have := Hml22.out; rw [mixN_length, HPo.out.m] at this; show 21 + i + 1 ≤ 38; omega) (by intro v hv; simp at hv; subst hv; rfl) ?_
        rw [wm_splice HPo.out _ i Hml22.out (by rw [mixN_length]; exact HPo.out.m)]
        refine hK _ _ ?_
        clear hK
        refine wpList_name fun wy hV => ?_
        have RY := Lib.hid (show Row wy g2 (wm P (mixN P.mrk ch (i + 1))).cells 40 by rw [← hV]; exact RXq.out.setRow _)
        have OY := Lib.hid (show Row wy g1 (wm H (mixN H.mrk ch (i + 1))).cells 40 by rw [← hV]; exact RYq.out.setOther _ _ HNx.out.1)
        have DY := Lib.hid (show Row wy (w.heap.size + 1 + 1 + 1) (ch.map bv) 38 by rw [← hV]; exact HDq.out.setOther _ _ (by have h5 := HD22.out.lt; have h6 := HNx.out.2.2; omega))
        have BY := Lib.hid (show Below W14.heap.size W14 wy by rw [← hV]; exact below_setRow HBq.out HNx.out.2.2 _)
        clear hV
        go_wp2_with fail
        go_roundw
        case rel => exact ⟨i + 1, h1, by simp, OY.out, RY.out, BY.out⟩
        case measure => simp [intOf]; omega
      case neg =>
        have h1' : ¬ (i : Int) < 16 := by omega
        have h16 : i = 16 := by omega
        subst h16
        have HX := Lib.hid (show Row wr g1 HB.cells 40 from HHBe.out ▸ R0.out)
        have HY := Lib.hid (show Row wr g2 PB.cells 40 from HPBe.out ▸ S0.out)
        have HB23 := Lib.hid (nextB HB22.out (Nat.le_refl _) HBr.out)
        have HK23 := Lib.hid (HK22.out.below HBr.out HK22.out.lt)
        have HA23 := Lib.hid (HA22.out.below HBr.out HA22.out.lt)
        have HC23 := Lib.hid (HC22.out.below HBr.out HC22.out.lt)
        have HD23 := Lib.hid (HD22.out.below HBr.out HD22.out.lt)
        have HH23 := Lib.hid (HH22.out.below HBr.out HH22.out.lt)
        have HP23 := Lib.hid (HP22.out.below HBr.out HP22.out.lt)
        have HS23 := Lib.hid (HS22.out.below HBr.out HS22.out.lt)
        have HU23 := Lib.hid (HU22.out.below HBr.out HU22.out.lt)
        have HT23 := Lib.hid (HT22.out.below HBr.out HT22.out.1)
        obtain ⟨Z6, hZ6⟩ : ∃ Z, List.replicate 16 (0 : UInt8) = Z := ⟨_, rfl⟩
        have HZ6 := Lib.hid hZ6
        have HZ6l := Lib.hid (show Z6.length = 16 by rw [← hZ6]; rfl)
        have he6 := fun u v w => eqg16 ch Z6 u v w
        have hv6 := fun w => eqv16 ch Z6 HRc.out HZ6l.out w
        by_cases hz : ch = Z6
        case pos =>
          rw [decide_eq_true hz] at hv6
          clear hZ6 hz
          have HL24 := Lib.hid (l_a16 HD23.out HRc.out)
          go_wp2_with (first
            | (refine wpList_ld 38 rfl rfl HL24.out rfl ?_)
            | (show wpList _ _ _ (⟨some 149, _, _, _, _, _⟩ :: _) _ _; refine wpList_bd _ _ rfl (v := arr8 Z6) (by rw [← HZ6.out]; kernel_rfl) rfl ?_)
            | fail)
          go_ret
          exact ⟨rfl, HB23.out⟩
        case neg =>
          rw [decide_eq_false hz] at hv6
          have hN := HNE.out (by rw [hZ6]; exact hz)
          have HA3 := Lib.hid (show ansV key HB 0 s e rb = .tuple #[E.val, arr8 Z, .int .i64 12] by rw [ansV_no hN.1 (by decide), HEe.out, Hz32.out]; rfl)
          have HC3 := Lib.hid (show cansV key H PB 0 0 = .tuple #[arr8 Z, .int .i64 12] by rw [cansV_no HHc.out hN.2 (by decide), Hz32.out]; rfl)
          have HCB := Lib.hid (show chkk HB 0 1 (Shk.mark key (hello5 ++ (helloL HB).flatten)) = 12 from hN.1)
          clear hZ6 hz hN
          have HL24 := Lib.hid (l_a16 HD23.out HRc.out)
          have HL25 := Lib.hid (l_a32 HK23.out HKl.out)
          have HL26 := Lib.hid (l_all HH23.out HHo.out)
          have HL27 := Lib.hid (l_all HY.out HPBo.out)
          go_wp2_with (first
            | (refine wpList_ld 38 rfl rfl HL24.out rfl ?_)
            | (refine wpList_ld 24 rfl rfl HL25.out rfl ?_)
            | (refine wpList_ld 40 rfl rfl HL26.out rfl ?_)
            | (refine wpList_ld 40 rfl rfl HL27.out rfl ?_)
            | (show wpList _ _ _ (⟨some 149, _, _, _, _, _⟩ :: _) _ _; refine wpList_bd _ _ rfl (v := arr8 Z6) (by rw [← HZ6.out]; kernel_rfl) rfl ?_)
            | fail)
          refine (CheckAnswer_any key H PB HKl.out HHo.out HPBo.out none none 0 0 0 0 HHb.out HPBb.out wr HT23.out).mono ?_
          rintro e w28 ⟨rfl, hb⟩
          rw [HC3.out]
          have HB29 := Lib.hid (nextB HB23.out (Nat.le_refl _) hb)
          have HK29 := Lib.hid (HK23.out.below hb HK23.out.lt)
          have HA29 := Lib.hid (HA23.out.below hb HA23.out.lt)
          have HC29 := Lib.hid (HC23.out.below hb HC23.out.lt)
          have HD29 := Lib.hid (HD23.out.below hb HD23.out.lt)
          have HH29 := Lib.hid (HH23.out.below hb HH23.out.lt)
          have HP29 := Lib.hid (HP23.out.below hb HP23.out.lt)
          have HS29 := Lib.hid (HS23.out.below hb HS23.out.lt)
          have HU29 := Lib.hid (HU23.out.below hb HU23.out.lt)
          have HHB29 := Lib.hid (HX.out.below hb HX.out.lt)
          have HPB29 := Lib.hid (HY.out.below hb HY.out.lt)
          have HT29 := Lib.hid (HT23.out.below hb HT23.out.1)
          clear hb
          go_wp2_with (first
            | (show wpList _ _ _ (⟨none, Op.store 24 _ _, _, _, _, _⟩ :: _) _ _
               refine wpList_storeRow (g := w28.heap.size) rfl 24 _ _ rfl rfl rfl (cs := (Z.map bv)) (Row.new rfl rfl : Row (w28.alloc (.cells z32.toArray 24)) w28.heap.size z32 24) (by kernel_rfl) (by rw [List.length_map]; exact HZl.out) rfl (hbytes_one Z) ?_
               refine wpList_name fun V hV => ?_
               refine sstop ?_)
            | fail)
          unfold SStop
          obtain ⟨W30, hV2⟩ : ∃ V2, V = V2 := ⟨V, rfl⟩
          rw [hV2] at hV ⊢
          clear hV2
          have hb : Below w28.heap.size w28 W30 := by rw [← hV]; exact (below_setRow ((Below.refl _ w28).alloc (Nat.le_refl _) _) (by omega) _)
          have HV30 := Lib.hid (show Row W30 w28.heap.size (Z.map bv) 24 by rw [← hV]; exact ((Row.new rfl rfl : Row (w28.alloc (.cells z32.toArray 24)) w28.heap.size z32 24).setRow _))
          have HB31 := Lib.hid (nextB HB29.out (Nat.le_refl _) hb)
          have HK31 := Lib.hid (HK29.out.below hb HK29.out.lt)
          have HA31 := Lib.hid (HA29.out.below hb HA29.out.lt)
          have HC31 := Lib.hid (HC29.out.below hb HC29.out.lt)
          have HD31 := Lib.hid (HD29.out.below hb HD29.out.lt)
          have HH31 := Lib.hid (HH29.out.below hb HH29.out.lt)
          have HP31 := Lib.hid (HP29.out.below hb HP29.out.lt)
          have HS31 := Lib.hid (HS29.out.below hb HS29.out.lt)
          have HU31 := Lib.hid (HU29.out.below hb HU29.out.lt)
          have HHB31 := Lib.hid (HHB29.out.below hb HHB29.out.lt)
          have HPB31 := Lib.hid (HPB29.out.below hb HPB29.out.lt)
          have HT31 := Lib.hid (HT29.out.below hb HT29.out.1)
          clear hV hb
          have HL32 := Lib.hid (l_a32 HK31.out HKl.out)
          have HL33 := Lib.hid (l_all HHB31.out HHBo.out)
          have HL34 := Lib.hid (l_a16 HC31.out HRb.out)
          go_wp2_with (first
            | (refine wpList_ld 24 rfl rfl HL32.out rfl ?_)
            | (refine wpList_ld 40 rfl rfl HL33.out rfl ?_)
            | (refine wpList_ld 38 rfl rfl HL34.out rfl ?_)
            | fail)
          refine (Answer_any key HB s e rb HKl.out HHBo.out none 0 0 HHBb.out HRb.out W30 HT31.out).mono ?_
          rintro e w35 ⟨rfl, hb⟩
          rw [HA3.out]
          have HB36 := Lib.hid (nextB HB31.out (Nat.le_refl _) hb)
          have HK36 := Lib.hid (HK31.out.below hb HK31.out.lt)
          have HA36 := Lib.hid (HA31.out.below hb HA31.out.lt)
          have HC36 := Lib.hid (HC31.out.below hb HC31.out.lt)
          have HD36 := Lib.hid (HD31.out.below hb HD31.out.lt)
          have HH36 := Lib.hid (HH31.out.below hb HH31.out.lt)
          have HP36 := Lib.hid (HP31.out.below hb HP31.out.lt)
          have HS36 := Lib.hid (HS31.out.below hb HS31.out.lt)
          have HU36 := Lib.hid (HU31.out.below hb HU31.out.lt)
          have HHB36 := Lib.hid (HHB31.out.below hb HHB31.out.lt)
          have HPB36 := Lib.hid (HPB31.out.below hb HPB31.out.lt)
          have HV36 := Lib.hid (HV30.out.below hb HV30.out.lt)
          have HT36 := Lib.hid (HT31.out.below hb HT31.out.1)
          clear hb
          go_wp2_with (first
            | (show wpList _ _ _ (⟨none, Op.store 40 _ _, _, _, _, _⟩ :: _) _ _
               refine wpList_storeRow (g := w35.heap.size) rfl 40 _ _ rfl rfl rfl (cs := E.cells) ((Row.new rfl rfl : Row (w35.alloc (.cells (nm 0).cells.toArray 40)) w35.heap.size (nm 0).cells 40).alloc _) (by kernel_rfl) (Pk.length HEo.out) (Pk.length nm_ok) (Pk.one HEo.out) ?_)
            | (show wpList _ _ _ (⟨none, Op.store 24 _ _, _, _, _, _⟩ :: _) _ _
               refine wpList_storeRow (g := (w35.heap.size + 1)) rfl 24 _ _ rfl rfl rfl (cs := (Z.map bv)) ((Row.new (by simp) rfl : Row ((w35.alloc (.cells (nm 0).cells.toArray 40)).alloc (.cells z32.toArray 24)) (w35.heap.size + 1) z32 24).setOther _ _ (by omega)) (by kernel_rfl) (by rw [List.length_map]; exact HZl.out) rfl (hbytes_one Z) ?_
               refine wpList_name fun V hV => ?_
               refine sstop ?_)
            | fail)
          unfold SStop
          obtain ⟨W37, hV2⟩ : ∃ V2, V = V2 := ⟨V, rfl⟩
          rw [hV2] at hV ⊢
          clear hV2
          have hb : Below w35.heap.size w35 W37 := by rw [← hV]; exact (below_setRow (below_setRow (((Below.refl _ w35).alloc (Nat.le_refl _) _).alloc (by simp) _) (by omega) _) (by omega) _)
          have HE37 := Lib.hid (show Row W37 w35.heap.size E.cells 40 by rw [← hV]; exact ((((Row.new rfl rfl : Row (w35.alloc (.cells (nm 0).cells.toArray 40)) w35.heap.size (nm 0).cells 40).alloc _).setRow _).setOther _ _ (by omega)))
          have HY37 := Lib.hid (show Row W37 (w35.heap.size + 1) (Z.map bv) 24 by rw [← hV]; exact (((Row.new (by simp) rfl : Row ((w35.alloc (.cells (nm 0).cells.toArray 40)).alloc (.cells z32.toArray 24)) (w35.heap.size + 1) z32 24).setOther _ _ (by omega)).setRow _))
          have HB38 := Lib.hid (nextB HB36.out (Nat.le_refl _) hb)
          have HK38 := Lib.hid (HK36.out.below hb HK36.out.lt)
          have HA38 := Lib.hid (HA36.out.below hb HA36.out.lt)
          have HC38 := Lib.hid (HC36.out.below hb HC36.out.lt)
          have HD38 := Lib.hid (HD36.out.below hb HD36.out.lt)
          have HH38 := Lib.hid (HH36.out.below hb HH36.out.lt)
          have HP38 := Lib.hid (HP36.out.below hb HP36.out.lt)
          have HS38 := Lib.hid (HS36.out.below hb HS36.out.lt)
          have HU38 := Lib.hid (HU36.out.below hb HU36.out.lt)
          have HHB38 := Lib.hid (HHB36.out.below hb HHB36.out.lt)
          have HPB38 := Lib.hid (HPB36.out.below hb HPB36.out.lt)
          have HV38 := Lib.hid (HV36.out.below hb HV36.out.lt)
          have HT38 := Lib.hid (HT36.out.below hb HT36.out.1)
          clear hV hb
          have HL39 := Lib.hid (l_a32 HK38.out HKl.out)
          have HL40 := Lib.hid (l_all HHB38.out HHBo.out)
          go_wp2_with (first
            | (refine wpList_ld 24 rfl rfl HL39.out rfl ?_)
            | (refine wpList_ld 40 rfl rfl HL40.out rfl ?_)
            | fail)
          refine (CheckHello_any key HB HKl.out HHBo.out none 0 0 HHBb.out W37 HT38.out).mono ?_
          rintro e w41 ⟨rfl, hb⟩
          rw [HCB.out]
          have HB42 := Lib.hid (nextB HB38.out (Nat.le_refl _) hb)
          have HK42 := Lib.hid (HK38.out.below hb HK38.out.lt)
          have HA42 := Lib.hid (HA38.out.below hb HA38.out.lt)
          have HC42 := Lib.hid (HC38.out.below hb HC38.out.lt)
          have HD42 := Lib.hid (HD38.out.below hb HD38.out.lt)
          have HH42 := Lib.hid (HH38.out.below hb HH38.out.lt)
          have HP42 := Lib.hid (HP38.out.below hb HP38.out.lt)
          have HS42 := Lib.hid (HS38.out.below hb HS38.out.lt)
          have HU42 := Lib.hid (HU38.out.below hb HU38.out.lt)
          have HHB42 := Lib.hid (HHB38.out.below hb HHB38.out.lt)
          have HPB42 := Lib.hid (HPB38.out.below hb HPB38.out.lt)
          have HV42 := Lib.hid (HV38.out.below hb HV38.out.lt)
          have HE42 := Lib.hid (HE37.out.below hb HE37.out.lt)
          have HY42 := Lib.hid (HY37.out.below hb HY37.out.lt)
          have HT42 := Lib.hid (HT38.out.below hb HT38.out.1)
          clear hb
          have heg := fun u v w => eqg .eql (.inl rfl) Z Z u v w
          have hev := fun w => eqv Z Z HZl.out HZl.out w
          rw [show decide (Z = Z) = true by simp] at hev
          have HL43 := Lib.hid (l_a32 HV42.out HZl.out)
          have HL44 := Lib.hid (l_a32 HY42.out HZl.out)
          go_wp2_with (first
            | (refine wpList_ld 24 rfl rfl HL43.out rfl ?_)
            | (refine wpList_ld 24 rfl rfl HL44.out rfl ?_)
            | (show wpList _ _ _ (⟨some 178, _, _, _, _, _⟩ :: _) _ _; refine wpList_bd _ _ rfl (v := arr8 Z) (by rw [← HZe.out]; kernel_rfl) rfl ?_)
            | (show wpList _ _ _ (⟨some 187, _, _, _, _, _⟩ :: _) _ _; refine wpList_bd _ _ rfl (v := arr8 Z) (by rw [← HZe.out]; kernel_rfl) rfl ?_)
            | fail)
          go_ret
          exact ⟨rfl, HB42.out⟩

set_option maxRecDepth 100000 in
theorem lift (os : Os) (started : os.Started) (H : Type) (enc : TypeId × Value → H) :
    ReturnsInHanded {} Tryd.checked os 10 .any (fun w args => (Rows.shakeBothSpec.pre enc Tryd.prog Tryd.f10 Rows.shakeBothRow.domain false w args ∧ laidMetH Tryd.prog Hk.laidL w) ∧ sizedMet enc Tryd.prog Tryd.f10 (OpenSpec.ofChange Rows.shakeBothSpec) false w args) (Rows.shakeBothSpec.post enc Tryd.prog Tryd.f10 false true false false) := by
  refine Hk.lifted 4 Pol.own started (by kernel_rfl) Tryd.func10 Pol.laid (by kernel_rfl) rfl Tryd.underlying4 rfl
    (fun ds hd => by
      have hd' : ds.length = 7 := hd
      match ds, hd' with
      | [d0, d1, d2, d3, d4, d5, d6], _ => rfl)
    (ChangeSpec.witness_at (enc := enc) (C := Tryd.checked) (os := os) (X := fun w _ => laidMetH Tryd.prog Hk.laidL w) false (Hk.laidWorld os) #[.agg (Array.replicate 32 (.int .u8 0)), .int .i64 0, .agg (Array.replicate 16 (.int .u8 0)), .agg (Array.replicate 16 (.int .u8 0)), .int .u64 0, .int .u32 0, .agg (Array.replicate 16 (.int .u8 0))] 8 rfl (by kernel_rfl) (by kernel_rfl) (by kernel_rfl) (by kernel_rfl) (by kernel_rfl) (Hk.laid_metH os _)) ?_
  intro W args ds ps hst htab
  have hA : DataW.TrodAll enc Tryd.prog W 0 (fun _ => true) true Tryd.f10.params.toList args.toList ds ps := hst.trod
  have hok := hst.okw
  have hlt := hst.lt
  rw [Tryd.params10] at hA hok
  obtain ⟨v0, r0, d0, e0, p0, q0, hargs, rfl, rfl, h0, hA⟩ := trodAll_cons hA
  obtain ⟨v1, r1, d1, e1, p1, q1, rfl, rfl, rfl, h1, hA⟩ := trodAll_cons hA
  obtain ⟨v2, r2, d2, e2, p2, q2, rfl, rfl, rfl, h2, hA⟩ := trodAll_cons hA
  obtain ⟨v3, r3, d3, e3, p3, q3, rfl, rfl, rfl, h3, hA⟩ := trodAll_cons hA
  obtain ⟨v4, r4, d4, e4, p4, q4, rfl, rfl, rfl, h4, hA⟩ := trodAll_cons hA
  obtain ⟨v5, r5, d5, e5, p5, q5, rfl, rfl, rfl, h5, hA⟩ := trodAll_cons hA
  obtain ⟨v6, r6, d6, e6, p6, q6, rfl, rfl, rfl, h6, hA⟩ := trodAll_cons hA
  obtain ⟨rfl, rfl, rfl⟩ := trodAll_nil hA
  obtain rfl : args = #[v0, v1, v2, v3, v4, v5, v6] := by cases args; simp_all
  obtain ⟨_, hv0⟩ := hok 0 24 v0 rfl rfl
  obtain ⟨_, hv1⟩ := hok 1 3 v1 rfl rfl
  obtain ⟨_, hv2⟩ := hok 2 38 v2 rfl rfl
  obtain ⟨_, hv3⟩ := hok 3 38 v3 rfl rfl
  obtain ⟨_, hv4⟩ := hok 4 36 v4 rfl rfl
  obtain ⟨_, hv5⟩ := hok 5 37 v5 rfl rfl
  obtain ⟨_, hv6⟩ := hok 6 38 v6 rfl rfl
  obtain ⟨key, rfl, hk⟩ := arr8_at Tryd.underlying24 (by kernel_rfl) (by kernel_rfl) Tryd.underlying5 hv0
  obtain ⟨z, rfl, _, _⟩ := Law.int_at Tryd.underlying3 hv1 h1
  obtain ⟨ra, rfl, hra⟩ := arr8_at Tryd.underlying38 (by kernel_rfl) (by kernel_rfl) Tryd.underlying5 hv2
  obtain ⟨rb, rfl, hrb⟩ := arr8_at Tryd.underlying38 (by kernel_rfl) (by kernel_rfl) Tryd.underlying5 hv3
  obtain ⟨s, rfl, hs1, _⟩ := Law.int_at Tryd.underlying36 hv4 h4
  obtain ⟨e, rfl, he1, _⟩ := Law.int_at Tryd.underlying37 hv5 h5
  obtain ⟨ch, rfl, hch⟩ := arr8_at Tryd.underlying38 (by kernel_rfl) (by kernel_rfl) Tryd.underlying5 hv6
  obtain ⟨s, rfl⟩ : ∃ n : Nat, s = (n : Int) := ⟨s.toNat, (Int.toNat_of_nonneg (show (0 : Int) ≤ s from hs1)).symm⟩
  obtain ⟨e, rfl⟩ : ∃ n : Nat, e = (n : Int) := ⟨e.toNat, (Int.toNat_of_nonneg (show (0 : Int) ≤ e from he1)).symm⟩
  by_cases c1 : z < 1
  · exact low key ra rb ch z s e hk hra hrb hch c1 W htab
  by_cases c2 : 65536 < z
  · exact high key ra rb ch z s e hk hra hrb hch (by omega) c2 W htab
  have hok : helloOk z := ⟨by omega, by omega⟩
  by_cases c3 : s = 0
  · exact no_s key ra rb ch z s e hk hra hrb hch hok c3 W htab
  by_cases c4 : e = 0
  · exact no_e key ra rb ch z s e hk hra hrb hch hok (by omega) c4 W htab
  exact walk key ra rb ch z s e hk hra hrb hch hok (by omega) (by omega) W htab

theorem over : Rows.shakeBothRow.holds Tryd.pinned (OpenSpec.ofChange Rows.shakeBothSpec) :=
  OpenClaim.holds_of_wide 10 Tryd.f10 rfl rfl rfl rfl rfl rfl rfl ⟨rfl, rfl, rfl, rfl, rfl⟩ rfl rfl rfl rfl rfl (by kernel_rfl) Tryd.func10 (by kernel_rfl)
    (of_decide_eq_true (by kernel_rfl)) (by unfold Func.isWrapper; first | (rw [if_pos (by decide +kernel)]; kernel_rfl) | (rw [if_neg (by decide +kernel)]; exact ⟨rfl, rfl⟩))
    (fun os started H enc _ => lift os started H enc)
theorem proved : Rows.ShakeBothCardSaid :=
  Claim7.holds_tied_plain_at .later [] [.data] true Rows.shakeBothCard.stood.harness false over (fun _ h => by cases h) (by kernel_rfl) (fun _ h => by cases h) shakeBoth_row_tie rfl ⟨rfl, rfl⟩ (by kernel_rfl) rfl
    (fun f fn hf hfn => by
      obtain rfl : f = 10 := (Option.some.inj ((show Tryd.prog.funcNamed Rows.shakeBothRow.func = some 10 by kernel_rfl).symm.trans hf)).symm
      obtain rfl : fn = Tryd.f10 := (Option.some.inj (Tryd.func10.symm.trans hfn)).symm
      refine ⟨by kernel_rfl, fun j t ht => ?_⟩
      have hall : (Tryd.f10.params.toList.all fun t => Tryd.prog.wantsStandIn t == false) = true := by kernel_rfl
      have h := List.all_eq_true.1 hall t (Array.mem_toList_iff.2 (Array.mem_of_getElem? ht))
      exact eq_of_beq h)
    (by kernel_rfl)
#print axioms proved
end Go.Proofs.YtmfpjdbgdmmjkaaDoor.shakeBoth
