/- The same request has the same answer; the secret does not depend on the epoch, but the mark does: 'drawbridgelaw10.ShakeAgain'. -/
import Derived.Test.YtmfpjdbgdmmjkaaDoorQ19
import Derived.Test.YtmfpjdbgdmmjkaaDoorQ37
import Derived.Test.YtmfpjdbgdmmjkaaDoorQ39
import Derived.Test.YtmfpjdbgdmmjkaaDoorQ40
namespace Go.Proofs.YtmfpjdbgdmmjkaaDoor.shakeAgain
open Go.ChangeShapes Go.WideShapes Go.ChangeAt Go.RowKit
open Shk Pkt
set_option maxRecDepth 100000 in
set_option maxHeartbeats 4000000 in
theorem walk (key ra rb : List UInt8) (s e f : Nat) (hk : key.length = 32) (hra : ra.length = 16) (hrb : rb.length = 16) (w : World) (ht : Tab w) : Calls Tryd.prog 12 #[arr8 key, arr8 ra, arr8 rb, .int .u64 (s : Int), .int .u32 (e : Int), .int .u32 (f : Int)] w fun e w' => e = .returned (.bool true) ∧ Below w.heap.size w w' := by
  have HB0 := Lib.hid (show Below w.heap.size w (((w.alloc (.cells (key.map bv).toArray 24)).alloc (.cells (ra.map bv).toArray 38)).alloc (.cells (rb.map bv).toArray 38)) from (((Below.refl _ w).alloc (Nat.le_refl _) _).alloc (by simp) _).alloc (by simp; omega) _)
  have HT0 := Lib.hid (ht.below HB0.out ht.1)
  have HK0 := Lib.hid (show Row (((w.alloc (.cells (key.map bv).toArray 24)).alloc (.cells (ra.map bv).toArray 38)).alloc (.cells (rb.map bv).toArray 38)) w.heap.size (key.map bv) 24 from ((Row.new rfl rfl).alloc _).alloc _)
  have HA0 := Lib.hid (show Row (((w.alloc (.cells (key.map bv).toArray 24)).alloc (.cells (ra.map bv).toArray 38)).alloc (.cells (rb.map bv).toArray 38)) (w.heap.size + 1) (ra.map bv) 38 from (Row.new (by simp) rfl).alloc _)
  have HC0 := Lib.hid (show Row (((w.alloc (.cells (key.map bv).toArray 24)).alloc (.cells (ra.map bv).toArray 38)).alloc (.cells (rb.map bv).toArray 38)) (w.heap.size + 1 + 1) (rb.map bv) 38 from Row.new (by simp) rfl)
  have HLv := Lib.hid (fun w (ht : Tab w) => Shk.lives_any w ht)
  have HKl := Lib.hid hk
  have HRa := Lib.hid hra
  have HRb := Lib.hid hrb
  clear ht hk hra hrb
  by_cases h1 : s = 0
  · subst h1
    unfold arr8
    go_enter Tryd.func12, Tryd.ntmps12
    go_wp2_with fail
    refine (HLv.out _ HT0.out).mono ?_
    rintro e w1 ⟨rfl, hb⟩
    have HB1 := Lib.hid (nextB HB0.out (Nat.le_refl _) hb)
    have HT1 := Lib.hid (HT0.out.below hb HT0.out.1)
    clear hb
    go_wp2
    go_ret
    exact ⟨rfl, HB1.out⟩
  by_cases h2 : e = 0
  · subst h2
    have hs : ((s : Int) == 0) = false := by simp; omega
    unfold arr8
    go_enter Tryd.func12, Tryd.ntmps12
    go_wp2_with fail
    refine (HLv.out _ HT0.out).mono ?_
    rintro e w1 ⟨rfl, hb⟩
    have HB1 := Lib.hid (nextB HB0.out (Nat.le_refl _) hb)
    have HT1 := Lib.hid (HT0.out.below hb HT0.out.1)
    clear hb
    go_wp2
    go_ret
    exact ⟨rfl, HB1.out⟩
  by_cases h3 : f = 0
  · subst h3
    have hs : ((s : Int) == 0) = false := by simp; omega
    have he : ((e : Int) == 0) = false := by simp; omega
    unfold arr8
    go_enter Tryd.func12, Tryd.ntmps12
    go_wp2_with fail
    refine (HLv.out _ HT0.out).mono ?_
    rintro e w1 ⟨rfl, hb⟩
    have HB1 := Lib.hid (nextB HB0.out (Nat.le_refl _) hb)
    have HT1 := Lib.hid (HT0.out.below hb HT0.out.1)
    clear hb
    go_wp2
    go_ret
    exact ⟨rfl, HB1.out⟩
  have hs : ((s : Int) == 0) = false := by simp; omega
  have he : ((e : Int) == 0) = false := by simp; omega
  have hf : ((f : Int) == 0) = false := by simp; omega
  have hoe : ansOk s e := ⟨by omega, by omega⟩
  have hof : ansOk s f := ⟨by omega, by omega⟩
  obtain ⟨H, hH⟩ : ∃ H, helloP key 5 ra = H := ⟨_, rfl⟩
  obtain ⟨P, hP⟩ : ∃ P, answerP key H s e rb = P := ⟨_, rfl⟩
  obtain ⟨Q, hQ⟩ : ∃ Q, answerP key H s f rb = Q := ⟨_, rfl⟩
  obtain ⟨S, hS⟩ : ∃ S, secL key H P = S := ⟨_, rfl⟩
  have hS2 : secL key H Q = S := by rw [← hS, ← hP, ← hQ]; rfl
  have HHo := Lib.hid (show H.Ok by rw [← hH]; exact helloP_ok key 5 HRa.out)
  have HHb := Lib.hid (show H.bo = .slice none 0 0 by rw [← hH]; rfl)
  have HPo := Lib.hid (show P.Ok by rw [← hP]; exact answerP_ok key H s e HRb.out)
  have HPb := Lib.hid (show P.bo = .slice none 0 0 by rw [← hP]; rfl)
  have HQo := Lib.hid (show Q.Ok by rw [← hQ]; exact answerP_ok key H s f HRb.out)
  have HQb := Lib.hid (show Q.bo = .slice none 0 0 by rw [← hQ]; rfl)
  have HSl := Lib.hid (show S.length = 32 by rw [← hS]; exact secL_length _ _ _)
  have hc : ckH key H 0 = 0 := by rw [← hH]; exact ckH_hello key 5 ra (by decide)
  have HH1 := Lib.hid (show (if helloOk 5 then Value.tuple #[(helloP key 5 ra).val, .int .i64 0] else .tuple #[(nm 0).val, .int .i64 2]) = .tuple #[H.val, .int .i64 0] by rw [if_pos (by decide), hH])
  have HA1 := Lib.hid (show ansV key H 0 s e rb = .tuple #[P.val, arr8 S, .int .i64 0] by rw [ansV_yes hc hoe, hP, hS])
  have HA2 := Lib.hid (show ansV key H 0 s f rb = .tuple #[Q.val, arr8 S, .int .i64 0] by rw [ansV_yes hc hof, hQ, hS2])
  have HC1 := Lib.hid (show cansV key H P 0 0 = .tuple #[arr8 S, .int .i64 0] by rw [cansV_yes hc (by rw [← hP]; exact ckA_answer key H s e rb hoe), hS])
  have HC2 := Lib.hid (show cansV key H Q 0 0 = .tuple #[arr8 S, .int .i64 0] by rw [cansV_yes hc (by rw [← hQ]; exact ckA_answer key H s f rb hof), hS2])
  clear hoe hof hH hP hQ hS hS2 hc h1 h2 h3
  unfold arr8
  go_enter Tryd.func12, Tryd.ntmps12
  go_wp2_with fail
  refine (HLv.out _ HT0.out).mono ?_
  rintro e w1 ⟨rfl, hb⟩
  have HB1 := Lib.hid (nextB HB0.out (Nat.le_refl _) hb)
  have HT1 := Lib.hid (HT0.out.below hb HT0.out.1)
  have HKa := Lib.hid (HK0.out.below hb HK0.out.lt)
  have HAa := Lib.hid (HA0.out.below hb HA0.out.lt)
  have HCa := Lib.hid (HC0.out.below hb HC0.out.lt)
  clear hb
  have HL2 := Lib.hid (l_a32 HKa.out HKl.out)
  have HL3 := Lib.hid (l_a16 HAa.out HRa.out)
  go_wp2_with (first
    | (refine wpList_ld 24 rfl rfl HL2.out rfl ?_)
    | (refine wpList_ld 38 rfl rfl HL3.out rfl ?_)
    | fail)
  refine (Hello_any key 5 ra HKl.out HRa.out w1 HT1.out).mono ?_
  rintro e w4 ⟨rfl, hb⟩
  rw [HH1.out]
  have HB5 := Lib.hid (nextB HB1.out (Nat.le_refl _) hb)
  have HK5 := Lib.hid (HKa.out.below hb HKa.out.lt)
  have HA5 := Lib.hid (HAa.out.below hb HAa.out.lt)
  have HC5 := Lib.hid (HCa.out.below hb HCa.out.lt)
  have HT5 := Lib.hid (HT1.out.below hb HT1.out.1)
  clear hb
  go_wp2_with (first
    | (show wpList _ _ _ (⟨none, Op.store 40 _ _, _, _, _, _⟩ :: _) _ _
       refine wpList_storeRow (g := w4.heap.size) rfl 40 _ _ rfl rfl rfl (cs := H.cells) (Row.new rfl rfl : Row (w4.alloc (.cells (nm 0).cells.toArray 40)) w4.heap.size (nm 0).cells 40) (by kernel_rfl) (Pk.length HHo.out) (Pk.length nm_ok) (Pk.one HHo.out) ?_
       refine wpList_name fun V hV => ?_
       refine sstop ?_)
    | fail)
  unfold SStop
  obtain ⟨W6, hV2⟩ : ∃ V2, V = V2 := ⟨V, rfl⟩
  rw [hV2] at hV ⊢
  clear hV2
  have hb : Below w4.heap.size w4 W6 := by rw [← hV]; exact (below_setRow ((Below.refl _ w4).alloc (Nat.le_refl _) _) (by omega) _)
  have HH6 := Lib.hid (show Row W6 w4.heap.size H.cells 40 by rw [← hV]; exact ((Row.new rfl rfl : Row (w4.alloc (.cells (nm 0).cells.toArray 40)) w4.heap.size (nm 0).cells 40).setRow _))
  have HB7 := Lib.hid (nextB HB5.out (Nat.le_refl _) hb)
  have HK7 := Lib.hid (HK5.out.below hb HK5.out.lt)
  have HA7 := Lib.hid (HA5.out.below hb HA5.out.lt)
  have HC7 := Lib.hid (HC5.out.below hb HC5.out.lt)
  have HT7 := Lib.hid (HT5.out.below hb HT5.out.1)
  clear hV hb
  have HL8 := Lib.hid (l_a32 HK7.out HKl.out)
  have HL9 := Lib.hid (l_all HH6.out HHo.out)
  have HL10 := Lib.hid (l_a16 HC7.out HRb.out)
  go_wp2_with (first
    | (refine wpList_ld 24 rfl rfl HL8.out rfl ?_)
    | (refine wpList_ld 40 rfl rfl HL9.out rfl ?_)
    | (refine wpList_ld 38 rfl rfl HL10.out rfl ?_)
    | fail)
  refine (Answer_any key H s e rb HKl.out HHo.out none 0 0 HHb.out HRb.out W6 HT7.out).mono ?_
  rintro e w11 ⟨rfl, hb⟩
  rw [HA1.out]
  have HB12 := Lib.hid (nextB HB7.out (Nat.le_refl _) hb)
  have HK12 := Lib.hid (HK7.out.below hb HK7.out.lt)
  have HA12 := Lib.hid (HA7.out.below hb HA7.out.lt)
  have HC12 := Lib.hid (HC7.out.below hb HC7.out.lt)
  have HH12 := Lib.hid (HH6.out.below hb HH6.out.lt)
  have HT12 := Lib.hid (HT7.out.below hb HT7.out.1)
  clear hb
  go_wp2_with (first
    | (show wpList _ _ _ (⟨none, Op.store 40 _ _, _, _, _, _⟩ :: _) _ _
       refine wpList_storeRow (g := w11.heap.size) rfl 40 _ _ rfl rfl rfl (cs := P.cells) ((Row.new rfl rfl : Row (w11.alloc (.cells (nm 0).cells.toArray 40)) w11.heap.size (nm 0).cells 40).alloc _) (by kernel_rfl) (Pk.length HPo.out) (Pk.length nm_ok) (Pk.one HPo.out) ?_)
    | (show wpList _ _ _ (⟨none, Op.store 24 _ _, _, _, _, _⟩ :: _) _ _
       refine wpList_storeRow (g := (w11.heap.size + 1)) rfl 24 _ _ rfl rfl rfl (cs := (S.map bv)) ((Row.new (by simp) rfl : Row ((w11.alloc (.cells (nm 0).cells.toArray 40)).alloc (.cells z32.toArray 24)) (w11.heap.size + 1) z32 24).setOther _ _ (by omega)) (by kernel_rfl) (by rw [List.length_map]; exact HSl.out) rfl (hbytes_one S) ?_
       refine wpList_name fun V hV => ?_
       refine sstop ?_)
    | fail)
  unfold SStop
  obtain ⟨W13, hV2⟩ : ∃ V2, V = V2 := ⟨V, rfl⟩
  rw [hV2] at hV ⊢
  clear hV2
  have hb : Below w11.heap.size w11 W13 := by rw [← hV]; exact (below_setRow (below_setRow (((Below.refl _ w11).alloc (Nat.le_refl _) _).alloc (by simp) _) (by omega) _) (by omega) _)
  have HP113 := Lib.hid (show Row W13 w11.heap.size P.cells 40 by rw [← hV]; exact ((((Row.new rfl rfl : Row (w11.alloc (.cells (nm 0).cells.toArray 40)) w11.heap.size (nm 0).cells 40).alloc _).setRow _).setOther _ _ (by omega)))
  have HS113 := Lib.hid (show Row W13 (w11.heap.size + 1) (S.map bv) 24 by rw [← hV]; exact (((Row.new (by simp) rfl : Row ((w11.alloc (.cells (nm 0).cells.toArray 40)).alloc (.cells z32.toArray 24)) (w11.heap.size + 1) z32 24).setOther _ _ (by omega)).setRow _))
  have HB14 := Lib.hid (nextB HB12.out (Nat.le_refl _) hb)
  have HK14 := Lib.hid (HK12.out.below hb HK12.out.lt)
  have HA14 := Lib.hid (HA12.out.below hb HA12.out.lt)
  have HC14 := Lib.hid (HC12.out.below hb HC12.out.lt)
  have HH14 := Lib.hid (HH12.out.below hb HH12.out.lt)
  have HT14 := Lib.hid (HT12.out.below hb HT12.out.1)
  clear hV hb
  have HL15 := Lib.hid (l_a32 HK14.out HKl.out)
  have HL16 := Lib.hid (l_all HH14.out HHo.out)
  have HL17 := Lib.hid (l_a16 HC14.out HRb.out)
  go_wp2_with (first
    | (refine wpList_ld 24 rfl rfl HL15.out rfl ?_)
    | (refine wpList_ld 40 rfl rfl HL16.out rfl ?_)
    | (refine wpList_ld 38 rfl rfl HL17.out rfl ?_)
    | fail)
  refine (Answer_any key H s f rb HKl.out HHo.out none 0 0 HHb.out HRb.out W13 HT14.out).mono ?_
  rintro e w18 ⟨rfl, hb⟩
  rw [HA2.out]
  have HB19 := Lib.hid (nextB HB14.out (Nat.le_refl _) hb)
  have HK19 := Lib.hid (HK14.out.below hb HK14.out.lt)
  have HA19 := Lib.hid (HA14.out.below hb HA14.out.lt)
  have HC19 := Lib.hid (HC14.out.below hb HC14.out.lt)
  have HH19 := Lib.hid (HH14.out.below hb HH14.out.lt)
  have HP119 := Lib.hid (HP113.out.below hb HP113.out.lt)
  have HS119 := Lib.hid (HS113.out.below hb HS113.out.lt)
  have HT19 := Lib.hid (HT14.out.below hb HT14.out.1)
  clear hb
  go_wp2_with (first
    | (show wpList _ _ _ (⟨none, Op.store 40 _ _, _, _, _, _⟩ :: _) _ _
       refine wpList_storeRow (g := w18.heap.size) rfl 40 _ _ rfl rfl rfl (cs := Q.cells) ((Row.new rfl rfl : Row (w18.alloc (.cells (nm 0).cells.toArray 40)) w18.heap.size (nm 0).cells 40).alloc _) (by kernel_rfl) (Pk.length HQo.out) (Pk.length nm_ok) (Pk.one HQo.out) ?_)
    | (show wpList _ _ _ (⟨none, Op.store 24 _ _, _, _, _, _⟩ :: _) _ _
       refine wpList_storeRow (g := (w18.heap.size + 1)) rfl 24 _ _ rfl rfl rfl (cs := (S.map bv)) ((Row.new (by simp) rfl : Row ((w18.alloc (.cells (nm 0).cells.toArray 40)).alloc (.cells z32.toArray 24)) (w18.heap.size + 1) z32 24).setOther _ _ (by omega)) (by kernel_rfl) (by rw [List.length_map]; exact HSl.out) rfl (hbytes_one S) ?_
       refine wpList_name fun V hV => ?_
       refine sstop ?_)
    | fail)
  unfold SStop
  obtain ⟨W20, hV2⟩ : ∃ V2, V = V2 := ⟨V, rfl⟩
  rw [hV2] at hV ⊢
  clear hV2
  have hb : Below w18.heap.size w18 W20 := by rw [← hV]; exact (below_setRow (below_setRow (((Below.refl _ w18).alloc (Nat.le_refl _) _).alloc (by simp) _) (by omega) _) (by omega) _)
  have HP220 := Lib.hid (show Row W20 w18.heap.size Q.cells 40 by rw [← hV]; exact ((((Row.new rfl rfl : Row (w18.alloc (.cells (nm 0).cells.toArray 40)) w18.heap.size (nm 0).cells 40).alloc _).setRow _).setOther _ _ (by omega)))
  have HS220 := Lib.hid (show Row W20 (w18.heap.size + 1) (S.map bv) 24 by rw [← hV]; exact (((Row.new (by simp) rfl : Row ((w18.alloc (.cells (nm 0).cells.toArray 40)).alloc (.cells z32.toArray 24)) (w18.heap.size + 1) z32 24).setOther _ _ (by omega)).setRow _))
  have HB21 := Lib.hid (nextB HB19.out (Nat.le_refl _) hb)
  have HK21 := Lib.hid (HK19.out.below hb HK19.out.lt)
  have HA21 := Lib.hid (HA19.out.below hb HA19.out.lt)
  have HC21 := Lib.hid (HC19.out.below hb HC19.out.lt)
  have HH21 := Lib.hid (HH19.out.below hb HH19.out.lt)
  have HP121 := Lib.hid (HP119.out.below hb HP119.out.lt)
  have HS121 := Lib.hid (HS119.out.below hb HS119.out.lt)
  have HT21 := Lib.hid (HT19.out.below hb HT19.out.1)
  clear hV hb
  have HL22 := Lib.hid (l_a32 HK21.out HKl.out)
  have HL23 := Lib.hid (l_all HH21.out HHo.out)
  have HL24 := Lib.hid (l_a16 HC21.out HRb.out)
  go_wp2_with (first
    | (refine wpList_ld 24 rfl rfl HL22.out rfl ?_)
    | (refine wpList_ld 40 rfl rfl HL23.out rfl ?_)
    | (refine wpList_ld 38 rfl rfl HL24.out rfl ?_)
    | fail)
  refine (Answer_any key H s e rb HKl.out HHo.out none 0 0 HHb.out HRb.out W20 HT21.out).mono ?_
  rintro e w25 ⟨rfl, hb⟩
  rw [HA1.out]
  have HB26 := Lib.hid (nextB HB21.out (Nat.le_refl _) hb)
  have HK26 := Lib.hid (HK21.out.below hb HK21.out.lt)
  have HA26 := Lib.hid (HA21.out.below hb HA21.out.lt)
  have HC26 := Lib.hid (HC21.out.below hb HC21.out.lt)
  have HH26 := Lib.hid (HH21.out.below hb HH21.out.lt)
  have HP126 := Lib.hid (HP121.out.below hb HP121.out.lt)
  have HS126 := Lib.hid (HS121.out.below hb HS121.out.lt)
  have HP226 := Lib.hid (HP220.out.below hb HP220.out.lt)
  have HS226 := Lib.hid (HS220.out.below hb HS220.out.lt)
  have HT26 := Lib.hid (HT21.out.below hb HT21.out.1)
  clear hb
  go_wp2_with (first
    | (show wpList _ _ _ (⟨none, Op.store 40 _ _, _, _, _, _⟩ :: _) _ _
       refine wpList_storeRow (g := w25.heap.size) rfl 40 _ _ rfl rfl rfl (cs := P.cells) ((Row.new rfl rfl : Row (w25.alloc (.cells (nm 0).cells.toArray 40)) w25.heap.size (nm 0).cells 40).alloc _) (by kernel_rfl) (Pk.length HPo.out) (Pk.length nm_ok) (Pk.one HPo.out) ?_)
    | (show wpList _ _ _ (⟨none, Op.store 24 _ _, _, _, _, _⟩ :: _) _ _
       refine wpList_storeRow (g := (w25.heap.size + 1)) rfl 24 _ _ rfl rfl rfl (cs := (S.map bv)) ((Row.new (by simp) rfl : Row ((w25.alloc (.cells (nm 0).cells.toArray 40)).alloc (.cells z32.toArray 24)) (w25.heap.size + 1) z32 24).setOther _ _ (by omega)) (by kernel_rfl) (by rw [List.length_map]; exact HSl.out) rfl (hbytes_one S) ?_
       refine wpList_name fun V hV => ?_
       refine sstop ?_)
    | fail)
  unfold SStop
  obtain ⟨W27, hV2⟩ : ∃ V2, V = V2 := ⟨V, rfl⟩
  rw [hV2] at hV ⊢
  clear hV2
  have hb : Below w25.heap.size w25 W27 := by rw [← hV]; exact (below_setRow (below_setRow (((Below.refl _ w25).alloc (Nat.le_refl _) _).alloc (by simp) _) (by omega) _) (by omega) _)
  have HP327 := Lib.hid (show Row W27 w25.heap.size P.cells 40 by rw [← hV]; exact ((((Row.new rfl rfl : Row (w25.alloc (.cells (nm 0).cells.toArray 40)) w25.heap.size (nm 0).cells 40).alloc _).setRow _).setOther _ _ (by omega)))
  have HS327 := Lib.hid (show Row W27 (w25.heap.size + 1) (S.map bv) 24 by rw [← hV]; exact (((Row.new (by simp) rfl : Row ((w25.alloc (.cells (nm 0).cells.toArray 40)).alloc (.cells z32.toArray 24)) (w25.heap.size + 1) z32 24).setOther _ _ (by omega)).setRow _))
  have HB28 := Lib.hid (nextB HB26.out (Nat.le_refl _) hb)
  have HK28 := Lib.hid (HK26.out.below hb HK26.out.lt)
  have HA28 := Lib.hid (HA26.out.below hb HA26.out.lt)
  have HC28 := Lib.hid (HC26.out.below hb HC26.out.lt)
  have HH28 := Lib.hid (HH26.out.below hb HH26.out.lt)
  have HP128 := Lib.hid (HP126.out.below hb HP126.out.lt)
  have HS128 := Lib.hid (HS126.out.below hb HS126.out.lt)
  have HP228 := Lib.hid (HP226.out.below hb HP226.out.lt)
  have HS228 := Lib.hid (HS226.out.below hb HS226.out.lt)
  have HT28 := Lib.hid (HT26.out.below hb HT26.out.1)
  clear hV hb
  have hng := fun u v w => eqg .neq (.inr rfl) S S u v w
  have hnv := fun w => nev S S HSl.out HSl.out w
  rw [show (!decide (S = S)) = false by simp] at hnv
  have HL29 := Lib.hid (l_a32 HS128.out HSl.out)
  have HL30 := Lib.hid (l_a32 HS228.out HSl.out)
  have HL31 := Lib.hid (l_a32 HS327.out HSl.out)
  have HL32 := Lib.hid (l_all HP327.out HPo.out)
  have HL33 := Lib.hid (l_all HP128.out HPo.out)
  go_wp2_with (first
    | (refine wpList_ld 24 rfl rfl HL29.out rfl ?_)
    | (refine wpList_ld 24 rfl rfl HL30.out rfl ?_)
    | (refine wpList_ld 24 rfl rfl HL31.out rfl ?_)
    | (refine wpList_ld 40 rfl rfl HL32.out rfl ?_)
    | (refine wpList_ld 40 rfl rfl HL33.out rfl ?_)
    | fail)
  refine (KPacket_yes P P HPo.out HPo.out W27 [] [] (by rw [HPb.out]; exact Bs_nil _ _) (by rw [HPb.out]; exact Bs_nil _ _) rfl rfl rfl rfl rfl rfl rfl).mono ?_
  rintro e w34 ⟨rfl, hb⟩
  rw [show decide (([] : List UInt8) = []) = true from rfl]
  have HB35 := Lib.hid (nextB HB28.out (Nat.le_refl _) hb)
  have HK35 := Lib.hid (HK28.out.below hb HK28.out.lt)
  have HA35 := Lib.hid (HA28.out.below hb HA28.out.lt)
  have HC35 := Lib.hid (HC28.out.below hb HC28.out.lt)
  have HH35 := Lib.hid (HH28.out.below hb HH28.out.lt)
  have HP135 := Lib.hid (HP128.out.below hb HP128.out.lt)
  have HS135 := Lib.hid (HS128.out.below hb HS128.out.lt)
  have HP235 := Lib.hid (HP228.out.below hb HP228.out.lt)
  have HS235 := Lib.hid (HS228.out.below hb HS228.out.lt)
  have HP335 := Lib.hid (HP327.out.below hb HP327.out.lt)
  have HS335 := Lib.hid (HS327.out.below hb HS327.out.lt)
  have HT35 := Lib.hid (HT28.out.below hb HT28.out.1)
  clear hb
  have HL36 := Lib.hid (l_a32 HK35.out HKl.out)
  have HL37 := Lib.hid (l_all HH35.out HHo.out)
  have HL38 := Lib.hid (l_all HP135.out HPo.out)
  go_wp2_with (first
    | (refine wpList_ld 24 rfl rfl HL36.out rfl ?_)
    | (refine wpList_ld 40 rfl rfl HL37.out rfl ?_)
    | (refine wpList_ld 40 rfl rfl HL38.out rfl ?_)
    | fail)
  refine (CheckAnswer_any key H P HKl.out HHo.out HPo.out none none 0 0 0 0 HHb.out HPb.out w34 HT35.out).mono ?_
  rintro e w39 ⟨rfl, hb⟩
  rw [HC1.out]
  have HB40 := Lib.hid (nextB HB35.out (Nat.le_refl _) hb)
  have HK40 := Lib.hid (HK35.out.below hb HK35.out.lt)
  have HA40 := Lib.hid (HA35.out.below hb HA35.out.lt)
  have HC40 := Lib.hid (HC35.out.below hb HC35.out.lt)
  have HH40 := Lib.hid (HH35.out.below hb HH35.out.lt)
  have HP140 := Lib.hid (HP135.out.below hb HP135.out.lt)
  have HS140 := Lib.hid (HS135.out.below hb HS135.out.lt)
  have HP240 := Lib.hid (HP235.out.below hb HP235.out.lt)
  have HS240 := Lib.hid (HS235.out.below hb HS235.out.lt)
  have HP340 := Lib.hid (HP335.out.below hb HP335.out.lt)
  have HS340 := Lib.hid (HS335.out.below hb HS335.out.lt)
  have HT40 := Lib.hid (HT35.out.below hb HT35.out.1)
  clear hb
  go_wp2_with (first
    | (show wpList _ _ _ (⟨none, Op.store 24 _ _, _, _, _, _⟩ :: _) _ _
       refine wpList_storeRow (g := w39.heap.size) rfl 24 _ _ rfl rfl rfl (cs := (S.map bv)) (Row.new rfl rfl : Row (w39.alloc (.cells z32.toArray 24)) w39.heap.size z32 24) (by kernel_rfl) (by rw [List.length_map]; exact HSl.out) rfl (hbytes_one S) ?_
       refine wpList_name fun V hV => ?_
       refine sstop ?_)
    | fail)
  unfold SStop
  obtain ⟨W41, hV2⟩ : ∃ V2, V = V2 := ⟨V, rfl⟩
  rw [hV2] at hV ⊢
  clear hV2
  have hb : Below w39.heap.size w39 W41 := by rw [← hV]; exact (below_setRow ((Below.refl _ w39).alloc (Nat.le_refl _) _) (by omega) _)
  have HU141 := Lib.hid (show Row W41 w39.heap.size (S.map bv) 24 by rw [← hV]; exact ((Row.new rfl rfl : Row (w39.alloc (.cells z32.toArray 24)) w39.heap.size z32 24).setRow _))
  have HB42 := Lib.hid (nextB HB40.out (Nat.le_refl _) hb)
  have HK42 := Lib.hid (HK40.out.below hb HK40.out.lt)
  have HA42 := Lib.hid (HA40.out.below hb HA40.out.lt)
  have HC42 := Lib.hid (HC40.out.below hb HC40.out.lt)
  have HH42 := Lib.hid (HH40.out.below hb HH40.out.lt)
  have HP142 := Lib.hid (HP140.out.below hb HP140.out.lt)
  have HS142 := Lib.hid (HS140.out.below hb HS140.out.lt)
  have HP242 := Lib.hid (HP240.out.below hb HP240.out.lt)
  have HS242 := Lib.hid (HS240.out.below hb HS240.out.lt)
  have HP342 := Lib.hid (HP340.out.below hb HP340.out.lt)
  have HS342 := Lib.hid (HS340.out.below hb HS340.out.lt)
  have HT42 := Lib.hid (HT40.out.below hb HT40.out.1)
  clear hV hb
  have HL43 := Lib.hid (l_a32 HK42.out HKl.out)
  have HL44 := Lib.hid (l_all HH42.out HHo.out)
  have HL45 := Lib.hid (l_all HP242.out HQo.out)
  go_wp2_with (first
    | (refine wpList_ld 24 rfl rfl HL43.out rfl ?_)
    | (refine wpList_ld 40 rfl rfl HL44.out rfl ?_)
    | (refine wpList_ld 40 rfl rfl HL45.out rfl ?_)
    | fail)
  refine (CheckAnswer_any key H Q HKl.out HHo.out HQo.out none none 0 0 0 0 HHb.out HQb.out W41 HT42.out).mono ?_
  rintro e w46 ⟨rfl, hb⟩
  rw [HC2.out]
  have HB47 := Lib.hid (nextB HB42.out (Nat.le_refl _) hb)
  have HK47 := Lib.hid (HK42.out.below hb HK42.out.lt)
  have HA47 := Lib.hid (HA42.out.below hb HA42.out.lt)
  have HC47 := Lib.hid (HC42.out.below hb HC42.out.lt)
  have HH47 := Lib.hid (HH42.out.below hb HH42.out.lt)
  have HP147 := Lib.hid (HP142.out.below hb HP142.out.lt)
  have HS147 := Lib.hid (HS142.out.below hb HS142.out.lt)
  have HP247 := Lib.hid (HP242.out.below hb HP242.out.lt)
  have HS247 := Lib.hid (HS242.out.below hb HS242.out.lt)
  have HP347 := Lib.hid (HP342.out.below hb HP342.out.lt)
  have HS347 := Lib.hid (HS342.out.below hb HS342.out.lt)
  have HU147 := Lib.hid (HU141.out.below hb HU141.out.lt)
  have HT47 := Lib.hid (HT42.out.below hb HT42.out.1)
  clear hb
  go_wp2_with (first
    | (show wpList _ _ _ (⟨none, Op.store 24 _ _, _, _, _, _⟩ :: _) _ _
       refine wpList_storeRow (g := w46.heap.size) rfl 24 _ _ rfl rfl rfl (cs := (S.map bv)) (Row.new rfl rfl : Row (w46.alloc (.cells z32.toArray 24)) w46.heap.size z32 24) (by kernel_rfl) (by rw [List.length_map]; exact HSl.out) rfl (hbytes_one S) ?_
       refine wpList_name fun V hV => ?_
       refine sstop ?_)
    | fail)
  unfold SStop
  obtain ⟨W48, hV2⟩ : ∃ V2, V = V2 := ⟨V, rfl⟩
  rw [hV2] at hV ⊢
  clear hV2
  have hb : Below w46.heap.size w46 W48 := by rw [← hV]; exact (below_setRow ((Below.refl _ w46).alloc (Nat.le_refl _) _) (by omega) _)
  have HU248 := Lib.hid (show Row W48 w46.heap.size (S.map bv) 24 by rw [← hV]; exact ((Row.new rfl rfl : Row (w46.alloc (.cells z32.toArray 24)) w46.heap.size z32 24).setRow _))
  have HB49 := Lib.hid (nextB HB47.out (Nat.le_refl _) hb)
  have HK49 := Lib.hid (HK47.out.below hb HK47.out.lt)
  have HA49 := Lib.hid (HA47.out.below hb HA47.out.lt)
  have HC49 := Lib.hid (HC47.out.below hb HC47.out.lt)
  have HH49 := Lib.hid (HH47.out.below hb HH47.out.lt)
  have HP149 := Lib.hid (HP147.out.below hb HP147.out.lt)
  have HS149 := Lib.hid (HS147.out.below hb HS147.out.lt)
  have HP249 := Lib.hid (HP247.out.below hb HP247.out.lt)
  have HS249 := Lib.hid (HS247.out.below hb HS247.out.lt)
  have HP349 := Lib.hid (HP347.out.below hb HP347.out.lt)
  have HS349 := Lib.hid (HS347.out.below hb HS347.out.lt)
  have HU149 := Lib.hid (HU147.out.below hb HU147.out.lt)
  have HT49 := Lib.hid (HT47.out.below hb HT47.out.1)
  clear hV hb
  have heg := fun u v w => eqg .eql (.inl rfl) S S u v w
  have hev := fun w => eqv S S HSl.out HSl.out w
  rw [show decide (S = S) = true by simp] at hev
  have HL50 := Lib.hid (l_a32 HU149.out HSl.out)
  have HL51 := Lib.hid (l_a32 HS149.out HSl.out)
  have HL52 := Lib.hid (l_a32 HU248.out HSl.out)
  go_wp2_with (first
    | (refine wpList_ld 24 rfl rfl HL50.out rfl ?_)
    | (refine wpList_ld 24 rfl rfl HL51.out rfl ?_)
    | (refine wpList_ld 24 rfl rfl HL52.out rfl ?_)
    | fail)
  go_ret
  exact ⟨rfl, HB49.out⟩

set_option maxRecDepth 100000 in
theorem lift (os : Os) (started : os.Started) (H : Type) (enc : TypeId × Value → H) :
    ReturnsInHanded {} Tryd.checked os 12 .any (fun w args => (Rows.shakeAgainSpec.pre enc Tryd.prog Tryd.f12 Rows.shakeAgainRow.domain false w args ∧ laidMetH Tryd.prog Hk.laidL w) ∧ sizedMet enc Tryd.prog Tryd.f12 (OpenSpec.ofChange Rows.shakeAgainSpec) false w args) (Rows.shakeAgainSpec.post enc Tryd.prog Tryd.f12 false true false false) := by
  refine Hk.lifted 4 Pol.own started (by kernel_rfl) Tryd.func12 Pol.laid (by kernel_rfl) rfl Tryd.underlying4 rfl
    (fun ds hd => by
      have hd' : ds.length = 6 := hd
      match ds, hd' with
      | [d0, d1, d2, d3, d4, d5], _ => rfl)
    (ChangeSpec.witness_at (enc := enc) (C := Tryd.checked) (os := os) (X := fun w _ => laidMetH Tryd.prog Hk.laidL w) false (Hk.laidWorld os) #[.agg (Array.replicate 32 (.int .u8 0)), .agg (Array.replicate 16 (.int .u8 0)), .agg (Array.replicate 16 (.int .u8 0)), .int .u64 0, .int .u32 0, .int .u32 0] 8 rfl (by kernel_rfl) (by kernel_rfl) (by kernel_rfl) (by kernel_rfl) (by kernel_rfl) (Hk.laid_metH os _)) ?_
  intro W args ds ps hst htab
  have hA : DataW.TrodAll enc Tryd.prog W 0 (fun _ => true) true Tryd.f12.params.toList args.toList ds ps := hst.trod
  have hok := hst.okw
  have hlt := hst.lt
  rw [Tryd.params12] at hA hok
  obtain ⟨v0, r0, d0, e0, p0, q0, hargs, rfl, rfl, h0, hA⟩ := trodAll_cons hA
  obtain ⟨v1, r1, d1, e1, p1, q1, rfl, rfl, rfl, h1, hA⟩ := trodAll_cons hA
  obtain ⟨v2, r2, d2, e2, p2, q2, rfl, rfl, rfl, h2, hA⟩ := trodAll_cons hA
  obtain ⟨v3, r3, d3, e3, p3, q3, rfl, rfl, rfl, h3, hA⟩ := trodAll_cons hA
  obtain ⟨v4, r4, d4, e4, p4, q4, rfl, rfl, rfl, h4, hA⟩ := trodAll_cons hA
  obtain ⟨v5, r5, d5, e5, p5, q5, rfl, rfl, rfl, h5, hA⟩ := trodAll_cons hA
  obtain ⟨rfl, rfl, rfl⟩ := trodAll_nil hA
  obtain rfl : args = #[v0, v1, v2, v3, v4, v5] := by cases args; simp_all
  obtain ⟨_, hv0⟩ := hok 0 24 v0 rfl rfl
  obtain ⟨_, hv1⟩ := hok 1 38 v1 rfl rfl
  obtain ⟨_, hv2⟩ := hok 2 38 v2 rfl rfl
  obtain ⟨_, hv3⟩ := hok 3 36 v3 rfl rfl
  obtain ⟨_, hv4⟩ := hok 4 37 v4 rfl rfl
  obtain ⟨_, hv5⟩ := hok 5 37 v5 rfl rfl
  obtain ⟨key, rfl, hk⟩ := arr8_at Tryd.underlying24 (by kernel_rfl) (by kernel_rfl) Tryd.underlying5 hv0
  obtain ⟨ra, rfl, hra⟩ := arr8_at Tryd.underlying38 (by kernel_rfl) (by kernel_rfl) Tryd.underlying5 hv1
  obtain ⟨rb, rfl, hrb⟩ := arr8_at Tryd.underlying38 (by kernel_rfl) (by kernel_rfl) Tryd.underlying5 hv2
  obtain ⟨s, rfl, hs1, hs2⟩ := Law.int_at Tryd.underlying36 hv3 h3
  obtain ⟨e, rfl, he1, he2⟩ := Law.int_at Tryd.underlying37 hv4 h4
  obtain ⟨f, rfl, hf1, hf2⟩ := Law.int_at Tryd.underlying37 hv5 h5
  obtain ⟨s, rfl⟩ : ∃ n : Nat, s = (n : Int) := ⟨s.toNat, (Int.toNat_of_nonneg (show (0 : Int) ≤ s from hs1)).symm⟩
  obtain ⟨e, rfl⟩ : ∃ n : Nat, e = (n : Int) := ⟨e.toNat, (Int.toNat_of_nonneg (show (0 : Int) ≤ e from he1)).symm⟩
  obtain ⟨f, rfl⟩ : ∃ n : Nat, f = (n : Int) := ⟨f.toNat, (Int.toNat_of_nonneg (show (0 : Int) ≤ f from hf1)).symm⟩
  exact walk key ra rb s e f hk hra hrb W htab

theorem over : Rows.shakeAgainRow.holds Tryd.pinned (OpenSpec.ofChange Rows.shakeAgainSpec) :=
  OpenClaim.holds_of_wide 12 Tryd.f12 rfl rfl rfl rfl rfl rfl rfl ⟨rfl, rfl, rfl, rfl, rfl⟩ rfl rfl rfl rfl rfl (by kernel_rfl) Tryd.func12 (by kernel_rfl)
    (of_decide_eq_true (by kernel_rfl)) (by unfold Func.isWrapper; first | (rw [if_pos (by decide +kernel)]; kernel_rfl) | (rw [if_neg (by decide +kernel)]; exact ⟨rfl, rfl⟩))
    (fun os started H enc _ => lift os started H enc)
theorem proved : Rows.ShakeAgainCardSaid :=
  Claim7.holds_tied_plain_at .later [] [.data] true Rows.shakeAgainCard.stood.harness false over (fun _ h => by cases h) (by kernel_rfl) (fun _ h => by cases h) shakeAgain_row_tie rfl ⟨rfl, rfl⟩ (by kernel_rfl) rfl
    (fun f fn hf hfn => by
      obtain rfl : f = 12 := (Option.some.inj ((show Tryd.prog.funcNamed Rows.shakeAgainRow.func = some 12 by kernel_rfl).symm.trans hf)).symm
      obtain rfl : fn = Tryd.f12 := (Option.some.inj (Tryd.func12.symm.trans hfn)).symm
      refine ⟨by kernel_rfl, fun j t ht => ?_⟩
      have hall : (Tryd.f12.params.toList.all fun t => Tryd.prog.wantsStandIn t == false) = true := by kernel_rfl
      have h := List.all_eq_true.1 hall t (Array.mem_toList_iff.2 (Array.mem_of_getElem? ht))
      exact eq_of_beq h)
    (by kernel_rfl)
#print axioms proved
end Go.Proofs.YtmfpjdbgdmmjkaaDoor.shakeAgain
