/- The examples of chapter 10 have the results that it states: 'drawbridgelaw10.ShakeNames'. -/
import Derived.Test.YtmfpjdbgdmmjkaaDoorQ39
import Derived.Test.YtmfpjdbgdmmjkaaDoorQ40
namespace Go.Proofs.YtmfpjdbgdmmjkaaDoor.shakeNames
open Go.ChangeShapes Go.WideShapes Go.ChangeAt Go.RowKit
open Shk Pkt
set_option maxRecDepth 100000 in
set_option maxHeartbeats 2000000 in
theorem walk (w : World) (ht : Tab w) : Calls Tryd.prog 8 #[] w fun e w' => e = .returned (.bool true) ∧ Below w.heap.size w w' := by
  have HB0 := Lib.hid (Below.refl w.heap.size w)
  have HT0 := Lib.hid ht
  obtain ⟨Z, hZ⟩ : ∃ Z, List.replicate 32 (0 : UInt8) = Z := ⟨_, rfl⟩
  obtain ⟨R, hR⟩ : ∃ R, List.replicate 16 (0 : UInt8) = R := ⟨_, rfl⟩
  have HZe := Lib.hid hZ
  have HRe := Lib.hid hR
  have HZl := Lib.hid (show Z.length = 32 by rw [← hZ]; rfl)
  have HRl := Lib.hid (show R.length = 16 by rw [← hR]; rfl)
  have hz32 : z32 = Z.map bv := by rw [← hZ]; rfl
  obtain ⟨E, hE⟩ : ∃ E, nm 0 = E := ⟨_, rfl⟩
  have HEe := Lib.hid hE
  have HEo := Lib.hid (show E.Ok by rw [← hE]; exact Shk.nm_ok)
  have HEb := Lib.hid (show E.bo = .slice none 0 0 by rw [← hE]; rfl)
  obtain ⟨H, hH⟩ : ∃ H, helloP Z 1 R = H := ⟨_, rfl⟩
  have HHo := Lib.hid (show H.Ok by rw [← hH]; exact helloP_ok Z 1 HRl.out)
  have HHb := Lib.hid (show H.bo = .slice none 0 0 by rw [← hH]; rfl)
  have HH0 := Lib.hid (show (if helloOk 0 then Value.tuple #[(helloP Z 0 R).val, .int .i64 0] else .tuple #[(nm 0).val, .int .i64 2]) = .tuple #[E.val, .int .i64 2] by rw [if_neg (by decide), hE])
  have HH1 := Lib.hid (show (if helloOk 1 then Value.tuple #[(helloP Z 1 R).val, .int .i64 0] else .tuple #[(nm 0).val, .int .i64 2]) = .tuple #[H.val, .int .i64 0] by rw [if_pos (by decide), hH])
  have hc : ckH Z H 0 = 0 := by rw [← hH]; exact ckH_hello Z 1 R (by decide)
  have HA1 := Lib.hid (show ansV Z H 0 0 1 R = .tuple #[E.val, arr8 Z, .int .i64 2] by rw [ansV_args hc (by decide), hE, hz32]; rfl)
  have HC1 := Lib.hid (show cansV Z H H 0 0 = .tuple #[arr8 Z, .int .i64 2] by
    rw [cansV_no hc (show ckA Z H H 0 = 2 from chkk_kind (by rw [← hH]; show (1 : Int) ≠ 2; decide)) (by decide), hz32]; rfl)
  have HE1 := Lib.hid (show chkk E 0 1 (Shk.mark Z (hello5 ++ (helloL E).flatten)) = 2 from chkk_kind (by rw [← hE]; show (0 : Int) ≠ 1; decide))
  have HLv := Lib.hid (fun w (ht : Tab w) => Shk.lives_any w ht)
  clear ht hZ hR hz32 hE hH hc
  go_enter Tryd.func8, Tryd.ntmps8
  go_wp2_with (first
    | (show wpList _ _ _ (⟨some 11, _, _, _, _, _⟩ :: _) _ _; refine wpList_bd _ _ rfl (v := arr8 Z) (by rw [← HZe.out]; kernel_rfl) rfl ?_)
    | (show wpList _ _ _ (⟨some 12, _, _, _, _, _⟩ :: _) _ _; refine wpList_bd _ _ rfl (v := arr8 R) (by rw [← HRe.out]; kernel_rfl) rfl ?_)
    | fail)
  refine (Hello_any Z 0 R HZl.out HRl.out w HT0.out).mono ?_
  rintro e w1 ⟨rfl, hb⟩
  rw [HH0.out]
  have HB2 := Lib.hid (nextB HB0.out (Nat.le_refl _) hb)
  have HT2 := Lib.hid (HT0.out.below hb HT0.out.1)
  clear hb
  go_wp2_with (first
    | (show wpList _ _ _ (⟨none, Op.store 40 _ _, _, _, _, _⟩ :: _) _ _
       refine wpList_storeRow (g := w1.heap.size) rfl 40 _ _ rfl rfl rfl (cs := E.cells) (Row.new rfl rfl : Row (w1.alloc (.cells (nm 0).cells.toArray 40)) w1.heap.size (nm 0).cells 40) (by kernel_rfl) (Pk.length HEo.out) (Pk.length nm_ok) (Pk.one HEo.out) ?_
       refine wpList_name fun V hV => ?_
       refine sstop ?_)
    | fail)
  unfold SStop
  obtain ⟨W3, hV2⟩ : ∃ V2, V = V2 := ⟨V, rfl⟩
  rw [hV2] at hV ⊢
  clear hV2
  have hb : Below w1.heap.size w1 W3 := by rw [← hV]; exact (below_setRow ((Below.refl _ w1).alloc (Nat.le_refl _) _) (by omega) _)
  have HE3 := Lib.hid (show Row W3 w1.heap.size E.cells 40 by rw [← hV]; exact ((Row.new rfl rfl : Row (w1.alloc (.cells (nm 0).cells.toArray 40)) w1.heap.size (nm 0).cells 40).setRow _))
  have HB4 := Lib.hid (nextB HB2.out (Nat.le_refl _) hb)
  have HT4 := Lib.hid (HT2.out.below hb HT2.out.1)
  clear hV hb
  go_wp2_with (first
    | (show wpList _ _ _ (⟨some 17, _, _, _, _, _⟩ :: _) _ _; refine wpList_bd _ _ rfl (v := arr8 Z) (by rw [← HZe.out]; kernel_rfl) rfl ?_)
    | (show wpList _ _ _ (⟨some 18, _, _, _, _, _⟩ :: _) _ _; refine wpList_bd _ _ rfl (v := arr8 R) (by rw [← HRe.out]; kernel_rfl) rfl ?_)
    | fail)
  refine (Hello_any Z 1 R HZl.out HRl.out W3 HT4.out).mono ?_
  rintro e w5 ⟨rfl, hb⟩
  rw [HH1.out]
  have HB6 := Lib.hid (nextB HB4.out (Nat.le_refl _) hb)
  have HE6 := Lib.hid (HE3.out.below hb HE3.out.lt)
  have HT6 := Lib.hid (HT4.out.below hb HT4.out.1)
  clear hb
  go_wp2_with (first
    | (show wpList _ _ _ (⟨none, Op.store 40 _ _, _, _, _, _⟩ :: _) _ _
       refine wpList_storeRow (g := w5.heap.size) rfl 40 _ _ rfl rfl rfl (cs := H.cells) (Row.new rfl rfl : Row (w5.alloc (.cells (nm 0).cells.toArray 40)) w5.heap.size (nm 0).cells 40) (by kernel_rfl) (Pk.length HHo.out) (Pk.length nm_ok) (Pk.one HHo.out) ?_
       refine wpList_name fun V hV => ?_
       refine sstop ?_)
    | fail)
  unfold SStop
  obtain ⟨W7, hV2⟩ : ∃ V2, V = V2 := ⟨V, rfl⟩
  rw [hV2] at hV ⊢
  clear hV2
  have hb : Below w5.heap.size w5 W7 := by rw [← hV]; exact (below_setRow ((Below.refl _ w5).alloc (Nat.le_refl _) _) (by omega) _)
  have HH7 := Lib.hid (show Row W7 w5.heap.size H.cells 40 by rw [← hV]; exact ((Row.new rfl rfl : Row (w5.alloc (.cells (nm 0).cells.toArray 40)) w5.heap.size (nm 0).cells 40).setRow _))
  have HB8 := Lib.hid (nextB HB6.out (Nat.le_refl _) hb)
  have HE8 := Lib.hid (HE6.out.below hb HE6.out.lt)
  have HT8 := Lib.hid (HT6.out.below hb HT6.out.1)
  clear hV hb
  have HL9 := Lib.hid (l_all HH7.out HHo.out)
  go_wp2_with (first
    | (refine wpList_ld 40 rfl rfl HL9.out rfl ?_)
    | (show wpList _ _ _ (⟨some 23, _, _, _, _, _⟩ :: _) _ _; refine wpList_bd _ _ rfl (v := arr8 Z) (by rw [← HZe.out]; kernel_rfl) rfl ?_)
    | (show wpList _ _ _ (⟨some 25, _, _, _, _, _⟩ :: _) _ _; refine wpList_bd _ _ rfl (v := arr8 R) (by rw [← HRe.out]; kernel_rfl) rfl ?_)
    | fail)
  refine (Answer_any Z H 0 1 R HZl.out HHo.out none 0 0 HHb.out HRl.out W7 HT8.out).mono ?_
  rintro e w10 ⟨rfl, hb⟩
  rw [HA1.out]
  have HB11 := Lib.hid (nextB HB8.out (Nat.le_refl _) hb)
  have HE11 := Lib.hid (HE8.out.below hb HE8.out.lt)
  have HH11 := Lib.hid (HH7.out.below hb HH7.out.lt)
  have HT11 := Lib.hid (HT8.out.below hb HT8.out.1)
  clear hb
  go_wp2_with (first
    | (show wpList _ _ _ (⟨none, Op.store 40 _ _, _, _, _, _⟩ :: _) _ _
       refine wpList_storeRow (g := w10.heap.size) rfl 40 _ _ rfl rfl rfl (cs := E.cells) ((Row.new rfl rfl : Row (w10.alloc (.cells (nm 0).cells.toArray 40)) w10.heap.size (nm 0).cells 40).alloc _) (by kernel_rfl) (Pk.length HEo.out) (Pk.length nm_ok) (Pk.one HEo.out) ?_)
    | (show wpList _ _ _ (⟨none, Op.store 24 _ _, _, _, _, _⟩ :: _) _ _
       refine wpList_storeRow (g := (w10.heap.size + 1)) rfl 24 _ _ rfl rfl rfl (cs := (Z.map bv)) ((Row.new (by simp) rfl : Row ((w10.alloc (.cells (nm 0).cells.toArray 40)).alloc (.cells z32.toArray 24)) (w10.heap.size + 1) z32 24).setOther _ _ (by omega)) (by kernel_rfl) (by rw [List.length_map]; exact HZl.out) rfl (hbytes_one Z) ?_
       refine wpList_name fun V hV => ?_
       refine sstop ?_)
    | fail)
  unfold SStop
  obtain ⟨W12, hV2⟩ : ∃ V2, V = V2 := ⟨V, rfl⟩
  rw [hV2] at hV ⊢
  clear hV2
  have hb : Below w10.heap.size w10 W12 := by rw [← hV]; exact (below_setRow (below_setRow (((Below.refl _ w10).alloc (Nat.le_refl _) _).alloc (by simp) _) (by omega) _) (by omega) _)
  have HE212 := Lib.hid (show Row W12 w10.heap.size E.cells 40 by rw [← hV]; exact ((((Row.new rfl rfl : Row (w10.alloc (.cells (nm 0).cells.toArray 40)) w10.heap.size (nm 0).cells 40).alloc _).setRow _).setOther _ _ (by omega)))
  have HZ212 := Lib.hid (show Row W12 (w10.heap.size + 1) (Z.map bv) 24 by rw [← hV]; exact (((Row.new (by simp) rfl : Row ((w10.alloc (.cells (nm 0).cells.toArray 40)).alloc (.cells z32.toArray 24)) (w10.heap.size + 1) z32 24).setOther _ _ (by omega)).setRow _))
  have HB13 := Lib.hid (nextB HB11.out (Nat.le_refl _) hb)
  have HE13 := Lib.hid (HE11.out.below hb HE11.out.lt)
  have HH13 := Lib.hid (HH11.out.below hb HH11.out.lt)
  have HT13 := Lib.hid (HT11.out.below hb HT11.out.1)
  clear hV hb
  have HL14 := Lib.hid (l_all HH13.out HHo.out)
  go_wp2_with (first
    | (refine wpList_ld 40 rfl rfl HL14.out rfl ?_)
    | (show wpList _ _ _ (⟨some 31, _, _, _, _, _⟩ :: _) _ _; refine wpList_bd _ _ rfl (v := arr8 Z) (by rw [← HZe.out]; kernel_rfl) rfl ?_)
    | fail)
  refine (CheckAnswer_any Z H H HZl.out HHo.out HHo.out none none 0 0 0 0 HHb.out HHb.out W12 HT13.out).mono ?_
  rintro e w15 ⟨rfl, hb⟩
  rw [HC1.out]
  have HB16 := Lib.hid (nextB HB13.out (Nat.le_refl _) hb)
  have HE16 := Lib.hid (HE13.out.below hb HE13.out.lt)
  have HH16 := Lib.hid (HH13.out.below hb HH13.out.lt)
  have HE216 := Lib.hid (HE212.out.below hb HE212.out.lt)
  have HZ216 := Lib.hid (HZ212.out.below hb HZ212.out.lt)
  have HT16 := Lib.hid (HT13.out.below hb HT13.out.1)
  clear hb
  go_wp2_with (first
    | (show wpList _ _ _ (⟨none, Op.store 24 _ _, _, _, _, _⟩ :: _) _ _
       refine wpList_storeRow (g := w15.heap.size) rfl 24 _ _ rfl rfl rfl (cs := (Z.map bv)) (Row.new rfl rfl : Row (w15.alloc (.cells z32.toArray 24)) w15.heap.size z32 24) (by kernel_rfl) (by rw [List.length_map]; exact HZl.out) rfl (hbytes_one Z) ?_
       refine wpList_name fun V hV => ?_
       refine sstop ?_)
    | fail)
  unfold SStop
  obtain ⟨W17, hV2⟩ : ∃ V2, V = V2 := ⟨V, rfl⟩
  rw [hV2] at hV ⊢
  clear hV2
  have hb : Below w15.heap.size w15 W17 := by rw [← hV]; exact (below_setRow ((Below.refl _ w15).alloc (Nat.le_refl _) _) (by omega) _)
  have HZ317 := Lib.hid (show Row W17 w15.heap.size (Z.map bv) 24 by rw [← hV]; exact ((Row.new rfl rfl : Row (w15.alloc (.cells z32.toArray 24)) w15.heap.size z32 24).setRow _))
  have HB18 := Lib.hid (nextB HB16.out (Nat.le_refl _) hb)
  have HE18 := Lib.hid (HE16.out.below hb HE16.out.lt)
  have HH18 := Lib.hid (HH16.out.below hb HH16.out.lt)
  have HE218 := Lib.hid (HE216.out.below hb HE216.out.lt)
  have HZ218 := Lib.hid (HZ216.out.below hb HZ216.out.lt)
  have HT18 := Lib.hid (HT16.out.below hb HT16.out.1)
  clear hV hb
  go_wp2_with fail
  refine (HLv.out W17 HT18.out).mono ?_
  rintro e w19 ⟨rfl, hb⟩
  have HB20 := Lib.hid (nextB HB18.out (Nat.le_refl _) hb)
  have HE20 := Lib.hid (HE18.out.below hb HE18.out.lt)
  have HH20 := Lib.hid (HH18.out.below hb HH18.out.lt)
  have HE220 := Lib.hid (HE218.out.below hb HE218.out.lt)
  have HZ220 := Lib.hid (HZ218.out.below hb HZ218.out.lt)
  have HZ320 := Lib.hid (HZ317.out.below hb HZ317.out.lt)
  have HT20 := Lib.hid (HT18.out.below hb HT18.out.1)
  clear hb
  go_wp2_with (first
    | (show wpList _ _ _ (⟨some 51, _, _, _, _, _⟩ :: _) _ _; refine wpList_bd _ _ rfl (v := arr8 Z) (by rw [← HZe.out]; kernel_rfl) rfl ?_)
    | (show wpList _ _ _ (⟨some 52, _, _, _, _, _⟩ :: _) _ _; refine wpList_bd _ _ rfl (v := E.val) (by rw [← HEe.out]; kernel_rfl) rfl ?_)
    | fail)
  refine (CheckHello_any Z E HZl.out HEo.out none 0 0 HEb.out w19 HT20.out).mono ?_
  rintro e w21 ⟨rfl, hb⟩
  rw [HE1.out]
  have HB22 := Lib.hid (nextB HB20.out (Nat.le_refl _) hb)
  have HE22 := Lib.hid (HE20.out.below hb HE20.out.lt)
  have HH22 := Lib.hid (HH20.out.below hb HH20.out.lt)
  have HE222 := Lib.hid (HE220.out.below hb HE220.out.lt)
  have HZ222 := Lib.hid (HZ220.out.below hb HZ220.out.lt)
  have HZ322 := Lib.hid (HZ320.out.below hb HZ320.out.lt)
  have HT22 := Lib.hid (HT20.out.below hb HT20.out.1)
  clear hb
  go_wp2
  go_ret
  exact ⟨rfl, HB22.out⟩

set_option maxRecDepth 100000 in
theorem lift (os : Os) (started : os.Started) (H : Type) (enc : TypeId × Value → H) :
    ReturnsInHanded {} Tryd.checked os 8 .any (fun w args => (Rows.shakeNamesSpec.pre enc Tryd.prog Tryd.f8 Rows.shakeNamesRow.domain false w args ∧ laidMetH Tryd.prog Hk.laidL w) ∧ sizedMet enc Tryd.prog Tryd.f8 (OpenSpec.ofChange Rows.shakeNamesSpec) false w args) (Rows.shakeNamesSpec.post enc Tryd.prog Tryd.f8 false true false false) := by
  refine Hk.lifted 4 Pol.own started (by kernel_rfl) Tryd.func8 Pol.laid (by kernel_rfl) rfl Tryd.underlying4 rfl
    (fun ds hd => by
      have hd' : ds.length = 0 := hd
      match ds, hd' with
      | [], _ => rfl)
    (ChangeSpec.witness_at (enc := enc) (C := Tryd.checked) (os := os) (X := fun w _ => laidMetH Tryd.prog Hk.laidL w) false (Hk.laidWorld os) #[] 8 rfl (by kernel_rfl) (by kernel_rfl) (by kernel_rfl) (by kernel_rfl) (by kernel_rfl) (Hk.laid_metH os _)) ?_
  intro W args ds ps hst htab
  have hA : DataW.TrodAll enc Tryd.prog W 0 (fun _ => true) true Tryd.f8.params.toList args.toList ds ps := hst.trod
  have hok := hst.okw
  have hlt := hst.lt
  rw [Tryd.params8] at hA hok
  obtain ⟨rfl, rfl, rfl⟩ := trodAll_none hA
  exact walk W htab

theorem over : Rows.shakeNamesRow.holds Tryd.pinned (OpenSpec.ofChange Rows.shakeNamesSpec) :=
  OpenClaim.holds_of_wide 8 Tryd.f8 rfl rfl rfl rfl rfl rfl rfl ⟨rfl, rfl, rfl, rfl, rfl⟩ rfl rfl rfl rfl rfl (by kernel_rfl) Tryd.func8 (by kernel_rfl)
    (of_decide_eq_true (by kernel_rfl)) (by unfold Func.isWrapper; first | (rw [if_pos (by decide +kernel)]; kernel_rfl) | (rw [if_neg (by decide +kernel)]; exact ⟨rfl, rfl⟩))
    (fun os started H enc _ => lift os started H enc)
theorem proved : Rows.ShakeNamesCardSaid :=
  Claim7.holds_tied_plain_at .later [] [.data] true Rows.shakeNamesCard.stood.harness false over (fun _ h => by cases h) (by kernel_rfl) (fun _ h => by cases h) shakeNames_row_tie rfl ⟨rfl, rfl⟩ (by kernel_rfl) rfl
    (fun f fn hf hfn => by
      obtain rfl : f = 8 := (Option.some.inj ((show Tryd.prog.funcNamed Rows.shakeNamesRow.func = some 8 by kernel_rfl).symm.trans hf)).symm
      obtain rfl : fn = Tryd.f8 := (Option.some.inj (Tryd.func8.symm.trans hfn)).symm
      refine ⟨by kernel_rfl, fun j t ht => ?_⟩
      have hall : (Tryd.f8.params.toList.all fun t => Tryd.prog.wantsStandIn t == false) = true := by kernel_rfl
      have h := List.all_eq_true.1 hall t (Array.mem_toList_iff.2 (Array.mem_of_getElem? ht))
      exact eq_of_beq h)
    (by kernel_rfl)
#print axioms proved
end Go.Proofs.YtmfpjdbgdmmjkaaDoor.shakeNames
