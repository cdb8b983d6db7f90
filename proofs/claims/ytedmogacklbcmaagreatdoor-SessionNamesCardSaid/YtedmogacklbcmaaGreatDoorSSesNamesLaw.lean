/- The chapter's names and first examples: 'drawbridgelaw16.SessionNames'. -/
import Derived.Test.YtedmogacklbcmaaGreatDoorS47
import Derived.Test.YtedmogacklbcmaaGreatDoorS48
import Derived.Test.YtedmogacklbcmaaGreatDoorS49
namespace Go.Proofs.YtedmogacklbcmaaGreatDoor.sessionNames
open Go.ChangeShapes Go.WideShapes Go.ChangeAt Go.RowKit Go.Deep
open Ses
open Pkt (dp dataOk sealedL z16 dp_ok Pk chk)
def eX : Ed := ⟨9, 3, k5, 1, 1, 1, 0, 1, 0, 0, 1, 32⟩
def pX : Ed := ⟨9, 3, k5, 1, 0, 1, 1152921504606846976, 1, 0, 0, 1152921504606846977, 32⟩
def qX : Ed := ⟨9, 3, k5, 1, 0, 2, 1152921504606846976, 1, 0, 0, 1152921504606846977, 32⟩
def x1 : List UInt8 := [120]
theorem eX_is : newE 9 3 k5 1 1 32 = eX := e0_is
theorem pX_is : newE 9 3 k5 1 0 32 = pX := ep_is
theorem eX_In : eX.In := eX_is ▸ n_In 1
theorem pX_In : pX.In := pX_is ▸ n_In 0
theorem eX_V : Valid eX := eX_is ▸ n_V 1 (.inr rfl)
theorem pX_V : Valid pX := pX_is ▸ n_V 0 (.inl rfl)
theorem qX_K : qX.K := k5_len
theorem ref_9 : Win.ref 1 0 0 1 1 = 9 := by
  unfold Win.ref
  rw [if_neg (Classical.not_not.2 wok1), if_neg (by decide), if_neg (by decide), if_neg (by decide), if_pos (by decide)]
set_option maxRecDepth 100000 in
theorem build_s0 (w : World) : (Instr.build 25 #[]).run Tryz.prog w = .ok (.agg (ssc 0 0 z32).toArray) w := by kernel_rfl
theorem no_zero : ¬ Valid (newE 0 0 z32 1 0 1) := by
  rw [show newE 0 0 z32 1 0 1 = ⟨0, 0, z32, 1, 0, 1, 1152921504606846976, 1, 0, 0, 1152921504606846977, 1⟩ from if_pos rfl]
  exact fun h => absurd h.1.1 (by decide)
theorem new_e (y : World) : Calls Tryz.prog 7 #[.agg (ssc 9 3 k5).toArray, .int .u32 1, .int .i64 1, .int .i64 32] y fun r w' => r = .returned (.tuple #[eX.val, .int .i64 0]) ∧ Below y.heap.size y w' := by
  refine (New_any 9 3 k5 k5_len 1 1 32 (by decide) (by decide) y).mono ?_
  rintro r w' ⟨⟨h, _⟩, hb⟩
  exact ⟨(h (n_V 1 (.inr rfl))).trans (by rw [e0_is]; rfl), hb⟩
theorem new_p (y : World) : Calls Tryz.prog 7 #[.agg (ssc 9 3 k5).toArray, .int .u32 1, .int .i64 0, .int .i64 32] y fun r w' => r = .returned (.tuple #[pX.val, .int .i64 0]) ∧ Below y.heap.size y w' := by
  refine (New_any 9 3 k5 k5_len 1 0 32 (by decide) (by decide) y).mono ?_
  rintro r w' ⟨⟨h, _⟩, hb⟩
  exact ⟨(h (n_V 0 (.inl rfl))).trans (by rw [ep_is]; rfl), hb⟩
theorem new_z (y : World) : Calls Tryz.prog 7 #[.agg (ssc 0 0 z32).toArray, .int .u32 1, .int .i64 0, .int .i64 1] y fun r w' => r = .returned (.tuple #[zed.val, .int .i64 2]) ∧ Below y.heap.size y w' := by
  refine (New_any 0 0 z32 (by decide) 1 0 1 (by decide) (by decide) y).mono ?_
  rintro r w' ⟨⟨_, h⟩, hb⟩
  exact ⟨h no_zero, hb⟩
theorem send_x (y : World) (A : Option Addr) (c : Nat) (ht : Tab y) (hp : Bs y y.heap.size (.slice A 1 c) x1) : Calls Tryz.prog 9 #[pX.val, .slice A 1 c] y fun r w' => (∃ b R, r = .returned (.tuple #[(dp 9 1 1 (.slice (some ⟨b, 0, none⟩) 17 17)).val, qX.val, .int .i64 0]) ∧ y.heap.size ≤ b ∧ Row w' b ((sealedL k5 0 9 1 1 x1).map bv ++ R) 5) ∧ Below y.heap.size y w' :=
  Send_ok pX pX_In pX_V (by decide) A x1 c (by decide) y ht hp
theorem rec_x (y : World) (bo : Value) (A : Option Addr) (c : Nat) (hbo : bo = .slice A 17 c) (ht : Tab y) (hb : Bs y y.heap.size bo (sealedL k5 0 9 1 1 x1)) : Calls Tryz.prog 10 #[eX.val, (dp 9 1 1 bo).val] y (fun r w' => r = .returned (.tuple #[.slice none 0 0, zed.val, .int .i64 9]) ∧ Below y.heap.size y w') := by
  refine (Receive_open eX eX_In eX_V 9 1 1 bo 0 (if_neg (by decide)) x1 (by decide) A c hbo ⟨by decide, by decide, by decide, by decide⟩ rfl rfl (if_pos ref_9) y ht hb).mono ?_
  rintro r w' ⟨⟨_, h⟩, hb'⟩
  exact ⟨h ref_9, hb'⟩
theorem lim_x (y : World) : Calls Tryz.prog 11 #[eX.val, .int .u64 1] y fun r w' => r = .returned (.tuple #[.agg (rcs 7 9 33).toArray, .bool true]) ∧ Below y.heap.size y w' := Limits_ok eX eX_In eX_V 1 ref_9 (by decide) y
theorem move_x (y : World) : Calls Tryz.prog 12 #[eX.val, .int .u32 1] y fun r w' => r = .returned (.tuple #[zed.val, .int .i64 8]) ∧ Below y.heap.size y w' := Move_old eX eX_In eX_V 1 (by decide) y
theorem knock_x (y : World) (ht : Tab y) : Calls Tryz.prog 13 #[pX.val] y fun r w' => (∃ b, r = .returned (.tuple #[(dp 9 1 1 (.slice (some ⟨b, 0, none⟩) 16 16)).val, qX.val, .int .i64 0])) ∧ Below y.heap.size y w' := Knock_ok pX pX_In pX_V (by decide) y ht
set_option maxRecDepth 100000 in
set_option maxHeartbeats 16000000 in
theorem walk (w : World) (ht : Tab w) : Calls Tryz.prog 3 #[] w fun r w' => r = .returned (.bool true) ∧ Below w.heap.size w w' := by
  have HT := Lib.hid ht
  have HB := Lib.hid (Below.refl w.heap.size w)
  have HN0 := new_e
  have HNp := new_p
  have HNz := new_z
  have HSx := send_x
  have HRx := rec_x
  have HLi := lim_x
  have HMo := move_x
  have HKn := knock_x
  have HFi := first_any
  have HBz := build_s0
  obtain ⟨sv, hsv⟩ : ∃ sv, Value.agg (ssc 9 3 k5).toArray = sv := ⟨_, rfl⟩
  obtain ⟨sz, hsz⟩ : ∃ sv, Value.agg (ssc 0 0 z32).toArray = sv := ⟨_, rfl⟩
  rw [hsv] at HN0 HNp HFi
  rw [hsz] at HNz HBz
  obtain ⟨e0, he0⟩ : ∃ x : Ed, eX = x := ⟨_, rfl⟩
  have HK0 := Lib.hid (show e0.K from he0 ▸ eX_In.k)
  obtain ⟨v0, hv0⟩ : ∃ v, e0.val = v := ⟨_, rfl⟩
  have HW0 := Lib.hid (show v0 = .agg e0.cs.toArray from hv0.symm)
  have FL0 := Lib.hid (fun (y : World) (g : Nat) (T : TypeId) (h : Row y g e0.cs T) => show (loadVar 32 ⟨g, 0, none⟩).run Tryz.prog y = .ok v0 y from hv0 ▸ l_end h HK0.out)
  obtain ⟨ep, hep⟩ : ∃ x : Ed, pX = x := ⟨_, rfl⟩
  have HKp := Lib.hid (show ep.K from hep ▸ pX_In.k)
  obtain ⟨vp, hvp⟩ : ∃ v, ep.val = v := ⟨_, rfl⟩
  have HWp := Lib.hid (show vp = .agg ep.cs.toArray from hvp.symm)
  have FLp := Lib.hid (fun (y : World) (g : Nat) (T : TypeId) (h : Row y g ep.cs T) => show (loadVar 32 ⟨g, 0, none⟩).run Tryz.prog y = .ok vp y from hvp ▸ l_end h HKp.out)
  obtain ⟨eq, heq⟩ : ∃ x : Ed, qX = x := ⟨_, rfl⟩
  have HKq := Lib.hid (show eq.K from heq ▸ qX_K)
  obtain ⟨vq, hvq⟩ : ∃ v, eq.val = v := ⟨_, rfl⟩
  have HWq := Lib.hid (show vq = .agg eq.cs.toArray from hvq.symm)
  have FLq := Lib.hid (fun (y : World) (g : Nat) (T : TypeId) (h : Row y g eq.cs T) => show (loadVar 32 ⟨g, 0, none⟩).run Tryz.prog y = .ok vq y from hvq ▸ l_end h HKq.out)
  obtain ⟨zv, hzv⟩ : ∃ z, zed.val = z := ⟨_, rfl⟩
  have HZV := Lib.hid (show zv = .agg zed.cs.toArray from hzv.symm)
  obtain ⟨rc, hrc⟩ : ∃ rc, rcs 7 9 33 = rc := ⟨_, rfl⟩
  have HRL := Lib.hid (show rc.length = 85 by rw [← hrc]; exact rcs_len _ _ _)
  have HR1 := Lib.hid (show ∀ v ∈ rc, v.oneCell' = true by rw [← hrc]; exact rcs_one _ _ _)
  have HR0 := Lib.hid (show rc[0]? = some (.int .i64 7) ∧ rc[4]? = some (.int .u64 ((33 : Nat) : Int)) by rw [← hrc]; exact ⟨rfl, rfl⟩)
  rw [hrc] at HLi
  rw [hzv] at HNz HRx HMo
  rw [he0, hv0] at HN0 HRx HLi HMo
  rw [hep, hvp] at HNp HSx HKn
  rw [heq, hvq] at HSx HKn
  replace HN0 := Lib.hid HN0
  replace HNp := Lib.hid HNp
  replace HNz := Lib.hid HNz
  replace HSx := Lib.hid HSx
  replace HRx := Lib.hid HRx
  replace HLi := Lib.hid HLi
  replace HMo := Lib.hid HMo
  replace HKn := Lib.hid HKn
  replace HFi := Lib.hid HFi
  replace HBz := Lib.hid HBz
  have hlen1 := Pkt.sealedL_length k5 0 9 1 1 x1
  have HSL := Lib.hid hlen1
  clear hzv hrc hsv hsz he0 hv0 hep hvp heq hvq ht hlen1
  go_enter Tryz.func3, Tryz.ntmps3
  go_wp2_with fail
  refine (HFi.out w).mono ?_
  rintro r w1 ⟨rfl, hb⟩
  have HB := Lib.hid (nextB HB.out (Nat.le_refl _) hb)
  clear hb
  go_wp2_with fail
  refine (HN0.out w1).mono ?_
  rintro r w2 ⟨rfl, hb⟩
  have HB := Lib.hid (nextB HB.out (Nat.le_refl _) hb)
  clear hb
  go_wp2_with (first
    | (show wpList _ _ _ (⟨some 1, _, _, _, _, _⟩ :: _) _ _
       refine QB.wpList_alloc rfl 32 rfl zero_End ?_; intro Y1 hx hy
       have HX1 := Lib.hid (show Row Y1 w2.heap.size zed.cs 32 from hx)
       have HY1 := Lib.hid hy
       clear hx hy)
    | (refine wpList_storeRow rfl 32 _ _ rfl rfl (cs := e0.cs) HW0.out HX1.out (by kernel_rfl) (Ed.len HK0.out) (Ed.len zed_K) (Ed.one _) ?_
       refine QB.name fun W3 hZ => ?_
       have hb6 : Below w2.heap.size w2 W3 := hZ ▸ below_setRow HY1.out (Nat.le_refl _) _
       have RG := Lib.hid (show Row W3 w2.heap.size e0.cs 32 from hZ ▸ HX1.out.setRow _)
       have HB := Lib.hid (nextB HB.out (Nat.le_refl _) hb6)
       clear hb6 HX1 HY1
       clear hZ)
    | fail)
  obtain ⟨gG, hgG⟩ : ∃ g, w2.heap.size = g := ⟨_, rfl⟩
  rw [hgG] at RG ⊢
  clear hgG
  refine (HFi.out W3).mono ?_
  rintro r w4 ⟨rfl, hb⟩
  have HB := Lib.hid (nextB HB.out (Nat.le_refl _) hb)
  have RG := Lib.hid (RG.out.below hb RG.out.lt)
  clear hb
  go_wp2_with fail
  refine (HNp.out w4).mono ?_
  rintro r w5 ⟨rfl, hb⟩
  have HB := Lib.hid (nextB HB.out (Nat.le_refl _) hb)
  have RG := Lib.hid (RG.out.below hb RG.out.lt)
  clear hb
  go_wp2_with (first
    | (show wpList _ _ _ (⟨some 3, _, _, _, _, _⟩ :: _) _ _
       refine QB.wpList_alloc rfl 32 rfl zero_End ?_; intro Y3 hx hy
       have HX3 := Lib.hid (show Row Y3 w5.heap.size zed.cs 32 from hx)
       have HY3 := Lib.hid hy
       clear hx hy)
    | (refine wpList_storeRow rfl 32 _ _ rfl rfl (cs := ep.cs) HWp.out HX3.out (by kernel_rfl) (Ed.len HKp.out) (Ed.len zed_K) (Ed.one _) ?_
       refine QB.name fun W6 hZ => ?_
       have hb6 : Below w5.heap.size w5 W6 := hZ ▸ below_setRow HY3.out (Nat.le_refl _) _
       have RP := Lib.hid (show Row W6 w5.heap.size ep.cs 32 from hZ ▸ HX3.out.setRow _)
       have RG := Lib.hid (RG.out.below hb6 RG.out.lt)
       have HB := Lib.hid (nextB HB.out (Nat.le_refl _) hb6)
       obtain ⟨m, hconv⟩ := Hk.conv_lit W6 x1 1 rfl (by omega)
       obtain ⟨WF, hWF⟩ : ∃ WF, (W6.alloc (.cells (x1.map bv).toArray 5)).freeze ⟨W6.heap.size, m, none⟩ 1 = WF := ⟨_, rfl⟩
       rw [hWF] at hconv
       have hconv' : (convert 38 38 (.slice (some ⟨W6.heap.size, 0, none⟩) 1 1)).run Tryz.prog (W6.alloc (.cells #[.int .u8 120] 5)) = .ok (.slice (some ⟨W6.heap.size, 0, none⟩) 1 1) WF := hconv
       have hbf : Below W6.heap.size W6 WF := hWF ▸ Hk.below_frozen ((Below.refl _ W6).alloc (Nat.le_refl _) _) (Nat.le_refl _) 1
       have HF := Lib.hid (show Bs WF WF.heap.size (.slice (some ⟨W6.heap.size, 0, none⟩) 1 1) x1 from by
         have h := Hk.bs_lit W6 x1 1 m rfl
         rw [hWF] at h
         exact h.more (by rw [← hWF, Hk.size_freeze]; simp))
       have HL := Lib.hid (FLp.out W6 _ _ RP.out)
       have HBF := Lib.hid hbf
       clear hconv hWF hbf
       clear hb6 HX3 HY3
       clear hZ)
    | (refine QB.wpList_ld 32 rfl rfl HL.out (by kernel_rfl) ?_; clear HL)
    | fail)
  clear hconv'
  obtain ⟨gP, hgP⟩ : ∃ g, w5.heap.size = g := ⟨_, rfl⟩
  rw [hgP] at RP ⊢
  clear hgP
  have RG := Lib.hid (RG.out.below HBF.out RG.out.lt)
  have RP := Lib.hid (RP.out.below HBF.out RP.out.lt)
  have HB := Lib.hid (nextB HB.out (Nat.le_refl _) HBF.out)
  clear HBF
  refine (HSx.out WF _ 1 (HT.out.below HB.out HT.out.1) HF.out).mono ?_
  rintro r w7 ⟨⟨b, R, rfl, hlo, hrow⟩, hb⟩
  have HRb := Lib.hid hrow
  clear hrow hlo HF
  have HB := Lib.hid (nextB HB.out (Nat.le_refl _) hb)
  have RG := Lib.hid (RG.out.below hb RG.out.lt)
  have RP := Lib.hid (RP.out.below hb RP.out.lt)
  clear hb
  obtain ⟨P1, hP1⟩ : ∃ P, dp 9 1 1 (.slice (some ⟨b, 0, none⟩) 17 17) = P := ⟨_, rfl⟩
  have HPo1 := Lib.hid (show P1.Ok by rw [← hP1]; exact dp_ok _ _ _ rfl)
  have HPq1 := Lib.hid hP1
  obtain ⟨pv1, hpv1⟩ : ∃ pv, P1.val = pv := ⟨_, rfl⟩
  have HPV1 := Lib.hid (show pv1 = .agg P1.cells.toArray from hpv1.symm)
  have HPW1 := Lib.hid (show pv1 = (dp 9 1 1 (.slice (some ⟨b, 0, none⟩) 17 17)).val by rw [hP1, hpv1])
  have HLP1 := Lib.hid (fun (y : World) (g : Nat) (h : Row y g P1.cells 40) => show (loadVar 40 ⟨g, 0, none⟩).run Tryz.prog y = .ok pv1 y by rw [HPV1.out]; exact Pkt.l_all h HPo1.out)
  rw [hP1, hpv1]
  clear hP1 hpv1
  go_wp2_with (first
    | (show wpList _ _ _ (⟨some 5, _, _, _, _, _⟩ :: _) _ _
       refine QB.wpList_alloc rfl 40 rfl zpk ?_; intro Y5 hx hy
       have HX5 := Lib.hid (show Row Y5 w7.heap.size (Pkt.nm 0).cells 40 from hx)
       have HY5 := Lib.hid hy
       clear hx hy)
    | (show wpList _ _ _ (⟨some 6, _, _, _, _, _⟩ :: _) _ _
       refine QB.wpList_alloc rfl 32 rfl zero_End ?_; intro Y6 hx hy
       have HX6 := Lib.hid (show Row Y6 Y5.heap.size zed.cs 32 from hx)
       have HG56 := Lib.hid (show w7.heap.size < Y5.heap.size from HX5.out.lt)
       have HX5' := Lib.hid (HX5.out.below hy HX5.out.lt)
       have HY6 := Lib.hid (nextB HY5.out (Nat.le_refl _) hy)
       clear hx hy HX5 HY5)
    | (refine wpList_storeRow rfl 40 _ _ rfl rfl (cs := P1.cells) HPV1.out HX5'.out (by kernel_rfl) (Pkt.Pk.length HPo1.out) (Pkt.Pk.length (Pkt.nm_ok 0)) (Pkt.Pk.one HPo1.out) ?_
       refine QB.name fun A5 hZ => ?_
       have HX6' := Lib.hid (row_grown HX6.out (hZ ▸ only_setRow _ : Y6.grownBy A5 (some w7.heap.size)) (by have := HG56.out; omega))
       have HYA := Lib.hid (show Below w7.heap.size w7 A5 from hZ ▸ below_setRow HY6.out (Nat.le_refl _) _)
       have HP5 := Lib.hid (show Row A5 w7.heap.size P1.cells 40 from hZ ▸ HX5'.out.setRow _)
       clear HX5' HX6 HY6
       clear hZ)
    | (refine wpList_storeRow rfl 32 _ _ rfl rfl (cs := eq.cs) HWq.out HX6'.out (by kernel_rfl) (Ed.len HKq.out) (Ed.len zed_K) (Ed.one _) ?_
       refine QB.name fun W8 hZ => ?_
       have hb6 : Below w7.heap.size w7 W8 := hZ ▸ below_setRow HYA.out (by have := HG56.out; omega) _
       have R5 := Lib.hid (row_grown HP5.out (hZ ▸ only_setRow _ : A5.grownBy W8 (some Y5.heap.size)) (by have := HG56.out; omega))
       have RG := Lib.hid (RG.out.below hb6 RG.out.lt)
       have RP := Lib.hid (RP.out.below hb6 RP.out.lt)
       have HRb := Lib.hid (HRb.out.below hb6 HRb.out.lt)
       have HB := Lib.hid (nextB HB.out (Nat.le_refl _) hb6)
       have HL := Lib.hid (FL0.out W8 _ _ RG.out)
       have HL2 := Lib.hid (HLP1.out W8 _ R5.out)
       clear hb6 HX6' HYA HP5 HG56
       clear hZ)
    | (refine QB.wpList_ld 32 rfl rfl HL.out (by kernel_rfl) ?_; clear HL)
    | (refine QB.wpList_ld 40 rfl rfl HL2.out (by kernel_rfl) ?_; clear HL2)
    | fail)
  clear R5
  rw [HPW1.out]
  refine (HRx.out W8 _ _ 17 rfl (HT.out.below HB.out HT.out.1) (Shk_bs HRb.out (by rw [HSL.out]; rfl))).mono ?_
  rintro r w9 ⟨rfl, hb⟩
  have HB := Lib.hid (nextB HB.out (Nat.le_refl _) hb)
  have RG := Lib.hid (RG.out.below hb RG.out.lt)
  have RP := Lib.hid (RP.out.below hb RP.out.lt)
  have HRb := Lib.hid (HRb.out.below hb HRb.out.lt)
  clear hb
  clear HRb
  go_wp2_with (first
    | (show wpList _ _ _ (⟨some 9, _, _, _, _, _⟩ :: _) _ _
       refine QB.wpList_alloc rfl 32 rfl zero_End ?_; intro Y9 hx hy
       have HX9 := Lib.hid (show Row Y9 w9.heap.size zed.cs 32 from hx)
       have HY9 := Lib.hid hy
       clear hx hy)
    | (refine wpList_storeRow rfl 32 _ _ rfl rfl (cs := zed.cs) HZV.out HX9.out (by kernel_rfl) (Ed.len zed_K) (Ed.len zed_K) (Ed.one _) ?_
       refine QB.name fun W10 hZ => ?_
       have hb6 : Below w9.heap.size w9 W10 := hZ ▸ below_setRow HY9.out (Nat.le_refl _) _
       have R9 := Lib.hid (show Row W10 w9.heap.size zed.cs 32 from hZ ▸ HX9.out.setRow _)
       have RG := Lib.hid (RG.out.below hb6 RG.out.lt)
       have RP := Lib.hid (RP.out.below hb6 RP.out.lt)
       have HB := Lib.hid (nextB HB.out (Nat.le_refl _) hb6)
       have HL := Lib.hid (FL0.out W10 _ _ RG.out)
       clear hb6 HX9 HY9
       clear hZ)
    | (refine QB.wpList_ld 32 rfl rfl HL.out (by kernel_rfl) ?_; clear HL)
    | fail)
  clear R9
  refine (HLi.out W10).mono ?_
  rintro r w11 ⟨rfl, hb⟩
  have HB := Lib.hid (nextB HB.out (Nat.le_refl _) hb)
  have RG := Lib.hid (RG.out.below hb RG.out.lt)
  have RP := Lib.hid (RP.out.below hb RP.out.lt)
  clear hb
  go_wp2_with (first
    | (show wpList _ _ _ (⟨some 11, _, _, _, _, _⟩ :: _) _ _
       refine QB.wpList_alloc rfl 58 rfl zero_Rec ?_; intro Y11 hx hy
       have HX11 := Lib.hid (show Row Y11 w11.heap.size (rcs 0 0 0) 58 from hx)
       have HY11 := Lib.hid hy
       clear hx hy)
    | (refine wpList_storeRow rfl 58 _ _ rfl rfl (cs := rc) rfl HX11.out (by kernel_rfl) HRL.out (rcs_len 0 0 0) HR1.out ?_
       refine QB.name fun W12 hZ => ?_
       have hb6 : Below w11.heap.size w11 W12 := hZ ▸ below_setRow HY11.out (Nat.le_refl _) _
       have R11 := Lib.hid (show Row W12 w11.heap.size rc 58 from hZ ▸ HX11.out.setRow _)
       have RG := Lib.hid (RG.out.below hb6 RG.out.lt)
       have RP := Lib.hid (RP.out.below hb6 RP.out.lt)
       have HB := Lib.hid (nextB HB.out (Nat.le_refl _) hb6)
       clear hb6 HX11 HY11
       clear hZ)
    | (refine wpList_bp rfl 25 _ rfl (ps := #[]) (by kernel_rfl) (HBz.out _) ?_)
    | fail)
  obtain ⟨g11, hg11⟩ : ∃ g, w11.heap.size = g := ⟨_, rfl⟩
  rw [hg11] at R11 ⊢
  clear hg11
  refine (HNz.out W12).mono ?_
  rintro r w13 ⟨rfl, hb⟩
  have HB := Lib.hid (nextB HB.out (Nat.le_refl _) hb)
  have RG := Lib.hid (RG.out.below hb RG.out.lt)
  have RP := Lib.hid (RP.out.below hb RP.out.lt)
  have R11 := Lib.hid (R11.out.below hb R11.out.lt)
  clear hb
  go_wp2_with (first
    | (show wpList _ _ _ (⟨some 13, _, _, _, _, _⟩ :: _) _ _
       refine QB.wpList_alloc rfl 32 rfl zero_End ?_; intro Y13 hx hy
       have HX13 := Lib.hid (show Row Y13 w13.heap.size zed.cs 32 from hx)
       have HY13 := Lib.hid hy
       clear hx hy)
    | (refine wpList_storeRow rfl 32 _ _ rfl rfl (cs := zed.cs) HZV.out HX13.out (by kernel_rfl) (Ed.len zed_K) (Ed.len zed_K) (Ed.one _) ?_
       refine QB.name fun W14 hZ => ?_
       have hb6 : Below w13.heap.size w13 W14 := hZ ▸ below_setRow HY13.out (Nat.le_refl _) _
       have R13 := Lib.hid (show Row W14 w13.heap.size zed.cs 32 from hZ ▸ HX13.out.setRow _)
       have RG := Lib.hid (RG.out.below hb6 RG.out.lt)
       have RP := Lib.hid (RP.out.below hb6 RP.out.lt)
       have R11 := Lib.hid (R11.out.below hb6 R11.out.lt)
       have HB := Lib.hid (nextB HB.out (Nat.le_refl _) hb6)
       have HL := Lib.hid (FL0.out W14 _ _ RG.out)
       clear hb6 HX13 HY13
       clear hZ)
    | (refine QB.wpList_ld 32 rfl rfl HL.out (by kernel_rfl) ?_; clear HL)
    | fail)
  clear R13
  refine (HMo.out W14).mono ?_
  rintro r w15 ⟨rfl, hb⟩
  have HB := Lib.hid (nextB HB.out (Nat.le_refl _) hb)
  have RG := Lib.hid (RG.out.below hb RG.out.lt)
  have RP := Lib.hid (RP.out.below hb RP.out.lt)
  have R11 := Lib.hid (R11.out.below hb R11.out.lt)
  clear hb
  go_wp2_with (first
    | (show wpList _ _ _ (⟨some 15, _, _, _, _, _⟩ :: _) _ _
       refine QB.wpList_alloc rfl 32 rfl zero_End ?_; intro Y15 hx hy
       have HX15 := Lib.hid (show Row Y15 w15.heap.size zed.cs 32 from hx)
       have HY15 := Lib.hid hy
       clear hx hy)
    | (refine wpList_storeRow rfl 32 _ _ rfl rfl (cs := zed.cs) HZV.out HX15.out (by kernel_rfl) (Ed.len zed_K) (Ed.len zed_K) (Ed.one _) ?_
       refine QB.name fun W16 hZ => ?_
       have hb6 : Below w15.heap.size w15 W16 := hZ ▸ below_setRow HY15.out (Nat.le_refl _) _
       have R15 := Lib.hid (show Row W16 w15.heap.size zed.cs 32 from hZ ▸ HX15.out.setRow _)
       have RG := Lib.hid (RG.out.below hb6 RG.out.lt)
       have RP := Lib.hid (RP.out.below hb6 RP.out.lt)
       have R11 := Lib.hid (R11.out.below hb6 R11.out.lt)
       have HB := Lib.hid (nextB HB.out (Nat.le_refl _) hb6)
       have HL := Lib.hid (FLp.out W16 _ _ RP.out)
       clear hb6 HX15 HY15
       clear hZ)
    | (refine QB.wpList_ld 32 rfl rfl HL.out (by kernel_rfl) ?_; clear HL)
    | fail)
  clear R15
  refine (HKn.out W16 (HT.out.below HB.out HT.out.1)).mono ?_
  rintro r w17 ⟨⟨b2, rfl⟩, hb⟩
  have HB := Lib.hid (nextB HB.out (Nat.le_refl _) hb)
  have RG := Lib.hid (RG.out.below hb RG.out.lt)
  have RP := Lib.hid (RP.out.below hb RP.out.lt)
  have R11 := Lib.hid (R11.out.below hb R11.out.lt)
  clear hb
  obtain ⟨P2, hP2⟩ : ∃ P, dp 9 1 1 (.slice (some ⟨b2, 0, none⟩) 16 16) = P := ⟨_, rfl⟩
  have HPo2 := Lib.hid (show P2.Ok by rw [← hP2]; exact dp_ok _ _ _ rfl)
  have HPq2 := Lib.hid hP2
  obtain ⟨pv2, hpv2⟩ : ∃ pv, P2.val = pv := ⟨_, rfl⟩
  have HPV2 := Lib.hid (show pv2 = .agg P2.cells.toArray from hpv2.symm)
  have HPW2 := Lib.hid (show pv2 = (dp 9 1 1 (.slice (some ⟨b2, 0, none⟩) 16 16)).val by rw [hP2, hpv2])
  have HLP2 := Lib.hid (fun (y : World) (g : Nat) (h : Row y g P2.cells 40) => show (loadVar 40 ⟨g, 0, none⟩).run Tryz.prog y = .ok pv2 y by rw [HPV2.out]; exact Pkt.l_all h HPo2.out)
  rw [hP2, hpv2]
  clear hP2 hpv2
  go_wp2_with (first
    | (show wpList _ _ _ (⟨some 17, _, _, _, _, _⟩ :: _) _ _
       refine QB.wpList_alloc rfl 40 rfl zpk ?_; intro Y17 hx hy
       have HX17 := Lib.hid (show Row Y17 w17.heap.size (Pkt.nm 0).cells 40 from hx)
       have HY17 := Lib.hid hy
       clear hx hy)
    | (show wpList _ _ _ (⟨some 18, _, _, _, _, _⟩ :: _) _ _
       refine QB.wpList_alloc rfl 32 rfl zero_End ?_; intro Y18 hx hy
       have HX18 := Lib.hid (show Row Y18 Y17.heap.size zed.cs 32 from hx)
       have HG56 := Lib.hid (show w17.heap.size < Y17.heap.size from HX17.out.lt)
       have HX17' := Lib.hid (HX17.out.below hy HX17.out.lt)
       have HY18 := Lib.hid (nextB HY17.out (Nat.le_refl _) hy)
       clear hx hy HX17 HY17)
    | (refine wpList_storeRow rfl 40 _ _ rfl rfl (cs := P2.cells) HPV2.out HX17'.out (by kernel_rfl) (Pkt.Pk.length HPo2.out) (Pkt.Pk.length (Pkt.nm_ok 0)) (Pkt.Pk.one HPo2.out) ?_
       refine QB.name fun A17 hZ => ?_
       have HX18' := Lib.hid (row_grown HX18.out (hZ ▸ only_setRow _ : Y18.grownBy A17 (some w17.heap.size)) (by have := HG56.out; omega))
       have HYA := Lib.hid (show Below w17.heap.size w17 A17 from hZ ▸ below_setRow HY18.out (Nat.le_refl _) _)
       have HP17 := Lib.hid (show Row A17 w17.heap.size P2.cells 40 from hZ ▸ HX17'.out.setRow _)
       clear HX17' HX18 HY18
       clear hZ)
    | (refine wpList_storeRow rfl 32 _ _ rfl rfl (cs := eq.cs) HWq.out HX18'.out (by kernel_rfl) (Ed.len HKq.out) (Ed.len zed_K) (Ed.one _) ?_
       refine QB.name fun W18 hZ => ?_
       have hb6 : Below w17.heap.size w17 W18 := hZ ▸ below_setRow HYA.out (by have := HG56.out; omega) _
       have R17 := Lib.hid (row_grown HP17.out (hZ ▸ only_setRow _ : A17.grownBy W18 (some Y17.heap.size)) (by have := HG56.out; omega))
       have RG := Lib.hid (RG.out.below hb6 RG.out.lt)
       have RP := Lib.hid (RP.out.below hb6 RP.out.lt)
       have R11 := Lib.hid (R11.out.below hb6 R11.out.lt)
       have HB := Lib.hid (nextB HB.out (Nat.le_refl _) hb6)
       clear hb6 HX18' HYA HP17 HG56
       clear hZ)
    | fail)
  obtain ⟨g17, hg17⟩ : ∃ g, w17.heap.size = g := ⟨_, rfl⟩
  rw [hg17] at R17 ⊢
  clear hg17
  refine ((lives_any W18 (HT.out.below HB.out HT.out.1))).mono ?_
  rintro r w19 ⟨rfl, hb⟩
  have HB := Lib.hid (nextB HB.out (Nat.le_refl _) hb)
  have RG := Lib.hid (RG.out.below hb RG.out.lt)
  have RP := Lib.hid (RP.out.below hb RP.out.lt)
  have R11 := Lib.hid (R11.out.below hb R11.out.lt)
  have R17 := Lib.hid (R17.out.below hb R17.out.lt)
  clear hb
  have c110 := R11.out.cell HR0.out.1
  have c114 := R11.out.cell HR0.out.2
  have c37 : w19.cell? ⟨g17, 37, none⟩ = some (.slice (some ⟨b2, 0, none⟩) 16 16) := (Pkt.c_bo R17.out HPo2.out).trans (by rw [← HPq2.out]; rfl)
  go_wp2
  go_ret
  exact ⟨rfl, HB.out⟩
set_option maxRecDepth 100000 in
theorem lift (os : Os) (started : os.Started) (H : Type) (enc : TypeId × Value → H) :
    ReturnsInHanded {} Tryz.checked os 3 .any (fun w args => (Rows.sessionNamesSpec.pre enc Tryz.prog Tryz.f3 Rows.sessionNamesRow.domain false w args ∧ laidMetH Tryz.prog Hk.laidL w) ∧ sizedMet enc Tryz.prog Tryz.f3 (OpenSpec.ofChange Rows.sessionNamesSpec) false w args) (Rows.sessionNamesSpec.post enc Tryz.prog Tryz.f3 false true false false) := by
  refine Hk.lifted 4 Pol.own started (by kernel_rfl) Tryz.func3 Pol.laid (by kernel_rfl) rfl Tryz.underlying4 rfl
    (fun ds hd => by
      have hd' : ds.length = 0 := hd
      match ds, hd' with
      | [], _ => rfl)
    (ChangeSpec.witness_at (enc := enc) (C := Tryz.checked) (os := os) (X := fun w _ => laidMetH Tryz.prog Hk.laidL w) false (Hk.laidWorld os) #[] 8 rfl (by kernel_rfl) (by kernel_rfl) (by kernel_rfl) (by kernel_rfl) (by kernel_rfl) (Hk.laid_metH os _)) ?_
  intro W args ds ps hst htab
  have hA : DataW.TrodAll enc Tryz.prog W 0 (fun _ => true) true Tryz.f3.params.toList args.toList ds ps := hst.trod
  have hok := hst.okw
  have hlt := hst.lt
  rw [Tryz.params3] at hA hok
  obtain ⟨rfl, rfl, rfl⟩ := trodAll_none hA
  exact walk W htab

theorem over : Rows.sessionNamesRow.holds Tryz.pinned (OpenSpec.ofChange Rows.sessionNamesSpec) :=
  OpenClaim.holds_of_wide 3 Tryz.f3 rfl rfl rfl rfl rfl rfl rfl ⟨rfl, rfl, rfl, rfl, rfl⟩ rfl rfl rfl rfl rfl (by kernel_rfl) Tryz.func3 (by kernel_rfl)
    (of_decide_eq_true (by kernel_rfl)) (by unfold Func.isWrapper; first | (rw [if_pos (by decide +kernel)]; kernel_rfl) | (rw [if_neg (by decide +kernel)]; exact ⟨rfl, rfl⟩))
    (fun os started H enc _ => lift os started H enc)
theorem proved : Rows.SessionNamesCardSaid :=
  Claim7.holds_tied_plain_at .later [] [.data] true Rows.sessionNamesCard.stood.harness false over (fun _ h => by cases h) (by kernel_rfl) (fun _ h => by cases h) sessionNames_row_tie rfl ⟨rfl, rfl⟩ (by kernel_rfl) rfl
    (fun f fn hf hfn => by
      obtain rfl : f = 3 := (Option.some.inj ((show Tryz.prog.funcNamed Rows.sessionNamesRow.func = some 3 by kernel_rfl).symm.trans hf)).symm
      obtain rfl : fn = Tryz.f3 := (Option.some.inj (Tryz.func3.symm.trans hfn)).symm
      refine ⟨by kernel_rfl, fun j t ht => ?_⟩
      have hall : (Tryz.f3.params.toList.all fun t => Tryz.prog.wantsStandIn t == false) = true := by kernel_rfl
      have h := List.all_eq_true.1 hall t (Array.mem_toList_iff.2 (Array.mem_of_getElem? ht))
      exact eq_of_beq h)
    (by kernel_rfl)
#print axioms proved
end Go.Proofs.YtedmogacklbcmaaGreatDoor.sessionNames
