/- Texts that the proofs share: SesLimits. -/
import Derived.Test.YtedmogacklbcmaaGreatDoorS47
namespace Go.Proofs.YtedmogacklbcmaaGreatDoor.Win
open Go.RowKit
set_option maxRecDepth 100000 in
set_option maxHeartbeats 4000000 in
theorem Wants_yes (f t s l n : Nat) (w : World) (hF : Fits f t s l) (h : ref f t s l n = 9) : Calls Tryz.prog 35 #[wv f t s l, .int .u64 (n : Int)] w fun e w' => e = .returned (.bool true) ∧ Below w.heap.size w w' := by
  have HR := Lib.hid (fun W : World => Ref_any f t s l n W hF)
  rw [h] at HR
  clear h hF
  go_enter Tryz.func35, Tryz.ntmps35
  go_wp2_with fail
  refine (HR.out _).mono ?_
  rintro e V ⟨rfl, hb⟩
  have HB := Lib.hid (show Below w.heap.size w V from nextB ((Below.refl _ w).alloc (Nat.le_refl _) _) (Nat.le_refl _) hb)
  clear hb
  go_wp2
  go_ret
  exact ⟨rfl, HB.out⟩
end Go.Proofs.YtedmogacklbcmaaGreatDoor.Win
namespace Go.Proofs.YtedmogacklbcmaaGreatDoor.Ses
open Go.RowKit
open Pkt (dp dataOk sealedL)
theorem l_win9 {w : World} {g : Nat} {e : Ed} {T : TypeId} (h : Row w g e.cs T) (hk : e.K) : (loadVar 30 ⟨g, 38, none⟩).run Tryz.prog w = .ok (Win.wv e.f e.t e.s e.m) w := by
  rw [Pol.run_loadVar_sub (off := 38) (n := 4) w h Tryz.underlying30 rfl (by kernel_rfl) (by rw [Ed.len hk]; decide)]
  rw [show e.cs.drop 38 = e.tail.drop 4 by show (e.ses ++ e.tail).drop 38 = _; rw [List.drop_append, Ed.seslen hk, List.drop_of_length_le (by rw [Ed.seslen hk]; decide)]; rfl]
  rfl
set_option maxRecDepth 100000 in
set_option maxHeartbeats 4000000 in
theorem Limits_ok (e : Ed) (hi : e.In) (hV : Valid e) (n : Nat) (hr9 : Win.ref e.f e.t e.s e.m n = 9) (hn : n ≤ 1152921504606846976) (w : World) : Calls Tryz.prog 11 #[e.val, .int .u64 (n : Int)] w fun r w' => r = .returned (.tuple #[.agg (rcs 7 e.sid (min (n + e.stock.toNat) 1152921504606846977)).toArray, .bool true]) ∧ Below w.heap.size w w' := by
  have hk := hi.k
  obtain ⟨W, hW⟩ : ∃ W, w.alloc (.cells e.cs.toArray 32) = W := ⟨_, rfl⟩
  have hr : Row W w.heap.size e.cs 32 := hW ▸ Row.new rfl rfl
  have hb : Below w.heap.size w W := hW ▸ (Below.refl _ w).alloc (Nat.le_refl _) _
  have HB := Lib.hid hb
  have HK := Lib.hid hk
  have HR := Lib.hid hr
  have HWA := Lib.hid (fun y => Win.Wants_yes e.f e.t e.s e.m n y hi.w hr9)
  have FI := Lib.hid (fun (y : World) (g : Nat) (T : TypeId) (h : Row y g e.cs T) => l_win9 h hk)
  have HNN := Lib.hid hn
  have HC := Lib.hid (fun y => Check_any e hi y)
  rw [show chkE e = 0 from if_pos hV] at HC
  obtain ⟨st, hst⟩ : ∃ n : Nat, e.stock = (n : Int) := ⟨e.stock.toNat, by have := hV.2.1; omega⟩
  have HST := Lib.hid (show e.stock = (st : Int) ∧ 0 < st ∧ st ≤ 65536 by have h1 := hV.2.1; have h2 := hV.2.2.1; omega)
  have hwst : IntKind.u64.wrap (st : Int) = (st : Int) := Lea.wrap_in _ (by omega) (by have := hV.2.2.1; omega)
  obtain ⟨ev, hev⟩ : ∃ ev, e.val = ev := ⟨_, rfl⟩
  have HEV := Lib.hid (show ev = .agg e.cs.toArray from hev.symm)
  have FD := Lib.hid (fun (y : World) (g : Nat) (T : TypeId) (h : Row y g e.cs T) => show (loadVar 32 ⟨g, 0, none⟩).run Tryz.prog y = .ok ev y from hev ▸ l_end h hk)
  have HBe := Lib.hid (fun (y : World) => show (Instr.build 90 #[(0, ev)]).run Tryz.prog y = .ok ev y from hev ▸ build_en hk y)
  obtain ⟨up, hup⟩ : ∃ up, min (n + e.stock.toNat) 1152921504606846977 = up := ⟨_, rfl⟩
  have HUP := Lib.hid hup
  have hadd : IntKind.u64.wrap ((n : Int) + (st : Int)) = ((n + st : Nat) : Int) := by rw [Lea.wrap_in _ (by omega) (by have := HST.out.2.2; omega)]; omega
  have hmin : min ((n + st : Nat) : Int) 1152921504606846977 = (up : Int) := by have := HST.out.1; omega
  have hmin2 : min ((n : Int) + (st : Int)) 1152921504606846977 = (up : Int) := by have := HST.out.1; omega
  have hmw : IntKind.u64.wrap (min ((n + st : Nat) : Int) 1152921504606846977) = (up : Int) := by rw [hmin]; exact Lea.wrap_in _ (by omega) (by omega)
  rw [hev] at HC
  rw [hup, hev, HEV.out]
  clear hr hb hk hi hV hn hr9 hst hev hup
  go_enter Tryz.func11, Tryz.ntmps11
  go_wp2_with (first
    | (show wpList _ _ _ (⟨some 4, _, _, _, _, _⟩ :: _) _ _
       refine QB.wpList_alloc rfl 58 rfl zero_Rec ?_; intro X2 hx2 hy2
       have HR2 := Lib.hid (show Row X2 W.heap.size (rcs 0 0 0) 58 from hx2)
       have HY2 := Lib.hid (nextB HB.out (Nat.le_refl _) hy2)
       have HRe := Lib.hid (HR.out.below hy2 HR.out.lt)
       have HL := Lib.hid (FD.out X2 _ _ HRe.out)
       have HG0 := Lib.hid (show w.heap.size < W.heap.size from HR.out.lt)
       clear hx2 hy2 HR HB)
    | (refine QB.wpList_ld 32 rfl rfl HL.out (by kernel_rfl) ?_; clear HL)
    | (refine wpList_bp rfl 90 _ rfl (ps := #[(0, ev)]) (by kernel_rfl) (HBe.out _) ?_)
    | (show wpList _ _ _ (⟨some 6, _, _, _, _, _⟩ :: _) _ _
       refine QB.wpList_alloc rfl 90 rfl zero_en ?_; intro X4 hx4 hy4
       have HX4 := Lib.hid (show Row X4 X2.heap.size zed.cs 90 from hx4); have HY4 := Lib.hid hy4; clear hx4 hy4)
    | (refine wpList_storeRow rfl 90 _ _ rfl rfl (cs := e.cs) HEV.out HX4.out (by kernel_rfl) (Ed.len HK.out) (Ed.len zed_K) e.one ?_
       refine QB.name fun W1 hZ => ?_
       have hb6 : Below X2.heap.size X2 W1 := hZ ▸ below_setRow HY4.out (Nat.le_refl _) _
       have HR4 := Lib.hid (show Row W1 X2.heap.size e.cs 90 from hZ ▸ HX4.out.setRow _)
       have HB1 := Lib.hid (nextB HY2.out (Nat.le_refl _) hb6)
       have HR21 := Lib.hid (HR2.out.below hb6 HR2.out.lt)
       have HG4 := Lib.hid (show W.heap.size < X2.heap.size from HR2.out.lt)
       have HL1 := Lib.hid (FD.out W1 _ _ HR4.out)
       clear hZ hb6 HX4 HY4 HY2 HR2 HRe)
    | (refine QB.wpList_ld 32 rfl rfl HL1.out (by kernel_rfl) ?_; clear HL1)
    | fail)
  obtain ⟨g2, hg2⟩ : ∃ g, W.heap.size = g := ⟨_, rfl⟩
  obtain ⟨g4, hg4⟩ : ∃ g, X2.heap.size = g := ⟨_, rfl⟩
  have HGG := Lib.hid (show w.heap.size < g2 ∧ g2 < g4 by have := HG0.out; have := HG4.out; omega)
  rw [hg2] at HR21 ⊢
  rw [hg4] at HR4 ⊢
  clear hW hg2 hg4 HG0 HG4 FD HBe
  refine (HC.out W1).mono ?_
  rintro r w2 ⟨rfl, hb2⟩
  have HB2 := Lib.hid (nextB HB1.out (Nat.le_refl _) hb2)
  have HR2 := Lib.hid (HR21.out.below hb2 HR21.out.lt)
  have HR4 := Lib.hid (HR4.out.below hb2 HR4.out.lt)
  have HL := Lib.hid (FI.out w2 _ _ HR4.out)
  clear hb2 HB1 HR21 HC
  go_wp2_with (first
    | (refine QB.wpList_ld 30 rfl rfl HL.out (by kernel_rfl) ?_; clear HL)
    | fail)
  refine (HWA.out w2).mono ?_
  rintro r w3 ⟨rfl, hb3⟩
  have HB3 := Lib.hid (nextB HB2.out (Nat.le_refl _) hb3)
  have HR2 := Lib.hid (HR2.out.below hb3 HR2.out.lt)
  have HR4 := Lib.hid (HR4.out.below hb3 HR4.out.lt)
  have c42 := c_stock HR4.out HK.out
  have c0 := c_sid HR4.out
  rw [HST.out.1] at c42
  have HBR := Lib.hid (fun (y : World) => build_Rec 7 (e.sid : Int) (up : Int) y)
  obtain ⟨rc, hrc⟩ : ∃ rc, rcs 7 e.sid up = rc := ⟨_, rfl⟩
  have HRC := Lib.hid hrc
  have HRL := Lib.hid (show rc.length = 85 by rw [← hrc]; exact rcs_len _ _ _)
  have HR1 := Lib.hid (show ∀ v ∈ rc, v.oneCell' = true by rw [← hrc]; exact rcs_one _ _ _)
  rw [show (Value.int .i64 7 :: .int .u32 0 :: .int .u64 0 :: .int .u64 (e.sid : Int) :: .int .u64 (up : Int) :: zrest) = rc from hrc] at HBR
  clear hb3 hrc HB2
  go_wp2_with (first
    | (refine wpList_bp rfl 58 _ rfl (ps := #[(0, .int .i64 7), (3, .int .u64 (e.sid : Int)), (4, .int .u64 (up : Int))]) (by kernel_rfl) (HBR.out _) ?_)
    | (refine wpList_storeRow rfl 58 _ _ rfl rfl (cs := rc) rfl HR2.out (by kernel_rfl) HRL.out (rcs_len 0 0 0) HR1.out ?_
       refine QB.name fun V2 hZ => ?_
       have R2 := Lib.hid (show Row V2 g2 rc 58 from hZ ▸ HR2.out.setRow _)
       have HBZ := Lib.hid (show Below w.heap.size w V2 from hZ ▸ below_setRow HB3.out (by have := HGG.out; omega) _)
       clear hZ)
    | fail)
  refine bodyPost_ret (results_ct (cs := rc) rfl rfl R2.out Tryz.underlying58 rfl (by kernel_rfl) HRL.out) rfl ?_
  exact ⟨by rw [HRC.out]; rfl, HBZ.out⟩
set_option maxRecDepth 100000 in
set_option maxHeartbeats 4000000 in
theorem Move_old (e : Ed) (hi : e.In) (hV : Valid e) (ep2 : Nat) (h1 : ep2 ≤ e.ep) (w : World) : Calls Tryz.prog 12 #[e.val, .int .u32 (ep2 : Int)] w fun r w' => r = .returned (.tuple #[zed.val, .int .i64 8]) ∧ Below w.heap.size w w' := by
  have hle : (ep2 : Int) ≤ (e.ep : Int) := by omega
  have hle2 : ¬ (e.ep : Int) < (ep2 : Int) := by omega
  have HB0 := Lib.hid (fun (y : World) => build_End0 y)
  obtain ⟨zv, hzv⟩ : ∃ zv, zed.val = zv := ⟨_, rfl⟩
  have HZV := Lib.hid (show zv = .agg zed.cs.toArray from hzv.symm)
  rw [hzv] at HB0 ⊢
  clear h1 hzv
  have hk := hi.k
  obtain ⟨W, hW⟩ : ∃ W, w.alloc (.cells e.cs.toArray 32) = W := ⟨_, rfl⟩
  have hr : Row W w.heap.size e.cs 32 := hW ▸ Row.new rfl rfl
  have hb : Below w.heap.size w W := hW ▸ (Below.refl _ w).alloc (Nat.le_refl _) _
  have HWS := Lib.hid (show w.heap.size < W.heap.size from hr.lt)
  have HB := Lib.hid hb
  have HK := Lib.hid hk
  have HR := Lib.hid hr
  have HC := Lib.hid (fun y => Check_any e hi y)
  rw [show chkE e = 0 from if_pos hV] at HC
  obtain ⟨ev, hev⟩ : ∃ ev, e.val = ev := ⟨_, rfl⟩
  have HEV := Lib.hid (show ev = .agg e.cs.toArray from hev.symm)
  have FD := Lib.hid (fun (y : World) (g : Nat) (T : TypeId) (h : Row y g e.cs T) => show (loadVar 32 ⟨g, 0, none⟩).run Tryz.prog y = .ok ev y from hev ▸ l_end h hk)
  have FE := Lib.hid (fun (y : World) (g : Nat) (h : Row y g e.cs 90) => show (loadVar 90 ⟨g, 0, none⟩).run Tryz.prog y = .ok ev y from hev ▸ l_en h hk)
  have HBe := Lib.hid (fun (y : World) => show (Instr.build 90 #[(0, ev)]).run Tryz.prog y = .ok ev y from hev ▸ build_en hk y)
  rw [hev] at HC
  rw [hev, HEV.out]
  clear hr hb hk hi hV hev
  go_enter Tryz.func12, Tryz.ntmps12
  go_wp2_with (first
    | (show wpList _ _ _ (⟨some 4, _, _, _, _, _⟩ :: _) _ _
       refine QB.wpList_alloc rfl 32 rfl zero_End ?_; intro X2 hx2 hy2
       have HR2 := Lib.hid (show Row X2 W.heap.size zed.cs 32 from hx2)
       have HY2 := Lib.hid (nextB HB.out (Nat.le_refl _) hy2)
       have HRe := Lib.hid (HR.out.below hy2 HR.out.lt)
       have HL := Lib.hid (FD.out X2 _ _ HRe.out)
       skip
       clear hx2 hy2 HR HB)
    | (refine QB.wpList_ld 32 rfl rfl HL.out (by kernel_rfl) ?_; clear HL)
    | (refine wpList_bp rfl 90 _ rfl (ps := #[(0, ev)]) (by kernel_rfl) (HBe.out _) ?_)
    | (show wpList _ _ _ (⟨some 6, _, _, _, _, _⟩ :: _) _ _
       refine QB.wpList_alloc rfl 90 rfl zero_en ?_; intro X4 hx4 hy4
       have HX4 := Lib.hid (show Row X4 X2.heap.size zed.cs 90 from hx4); have HY4 := Lib.hid hy4; clear hx4 hy4)
    | (refine wpList_storeRow rfl 90 _ _ rfl rfl (cs := e.cs) HEV.out HX4.out (by kernel_rfl) (Ed.len HK.out) (Ed.len zed_K) e.one ?_
       refine QB.name fun W1 hZ => ?_
       have hb6 : Below X2.heap.size X2 W1 := hZ ▸ below_setRow HY4.out (Nat.le_refl _) _
       have HR4 := Lib.hid (show Row W1 X2.heap.size e.cs 90 from hZ ▸ HX4.out.setRow _)
       have HB1 := Lib.hid (nextB HY2.out (Nat.le_refl _) hb6)
       have HR21 := Lib.hid (HR2.out.below hb6 HR2.out.lt)
       have HG4 := Lib.hid (show W.heap.size < X2.heap.size from HR2.out.lt)
       have HL1 := Lib.hid (FD.out W1 _ _ HR4.out)
       skip
       clear hZ hb6 HX4 HY4 HY2 HR2 HRe)
    | (refine QB.wpList_ld 32 rfl rfl HL1.out (by kernel_rfl) ?_; clear HL1)
    | fail)
  obtain ⟨g2, hg2⟩ : ∃ g, W.heap.size = g := ⟨_, rfl⟩
  obtain ⟨g4, hg4⟩ : ∃ g, X2.heap.size = g := ⟨_, rfl⟩
  have HGG := Lib.hid (show w.heap.size < g2 ∧ g2 < g4 by have := HWS.out; have := HG4.out; omega)
  rw [hg2] at HR21 ⊢
  rw [hg4] at HR4 ⊢
  clear hW hg2 hg4 HWS HG4 HBe
  refine (HC.out W1).mono ?_
  rintro r w2 ⟨rfl, hb2⟩
  have HB2 := Lib.hid (nextB HB1.out (Nat.le_refl _) hb2)
  have HR2 := Lib.hid (HR21.out.below hb2 HR21.out.lt)
  have HR4 := Lib.hid (HR4.out.below hb2 HR4.out.lt)
  skip
  clear hb2 HB1 HR21 HC
  have c34 := c_ep HR4.out HK.out
  go_wp2_with (first
    | (refine wpList_bp rfl 32 _ rfl (ps := #[]) (by kernel_rfl) (HB0.out _) ?_)
    | (refine wpList_storeRow rfl 32 _ _ rfl rfl (cs := zed.cs) HZV.out HR2.out (by kernel_rfl) (Ed.len zed_K) (Ed.len zed_K) (Ed.one _) ?_
       refine QB.name fun V2 hZ => ?_
       have R2 := Lib.hid (show Row V2 g2 zed.cs 32 from hZ ▸ HR2.out.setRow _)
       have HBZ := Lib.hid (show Below w.heap.size w V2 from hZ ▸ below_setRow HB2.out (by have := HGG.out; omega) _)
       clear hZ)
    | fail)
  refine bodyPost_ret (results_ct (cs := zed.cs) rfl rfl R2.out Tryz.underlying32 rfl (by kernel_rfl) (Ed.len zed_K)) rfl ?_
  exact ⟨by rw [HZV.out]; rfl, HBZ.out⟩
set_option maxRecDepth 100000 in
set_option maxHeartbeats 4000000 in
theorem Knock_ok (e : Ed) (hi : e.In) (hV : Valid e) (hl : e.n ≤ e.l) (w : World) (ht : Tab w) : Calls Tryz.prog 13 #[e.val] w fun r w' => (∃ b, r = .returned (.tuple #[(dp e.sid e.ep e.n (.slice (some ⟨b, 0, none⟩) 16 16)).val, ({ e with n := e.n + 1 } : Ed).val, .int .i64 0])) ∧ Below w.heap.size w w' := by
  have hk := hi.k
  obtain ⟨W, hW⟩ : ∃ W, w.alloc (.cells e.cs.toArray 32) = W := ⟨_, rfl⟩
  have hr : Row W w.heap.size e.cs 32 := hW ▸ Row.new rfl rfl
  have hb : Below w.heap.size w W := hW ▸ (Below.refl _ w).alloc (Nat.le_refl _) _
  have HB := Lib.hid hb
  have HT := Lib.hid ht
  have HR := Lib.hid hr
  have HWS := Lib.hid (show w.heap.size < W.heap.size from hr.lt)
  obtain ⟨E2, hE2⟩ : ∃ X : Ed, { e with n := e.n + 1 } = X := ⟨_, rfl⟩
  have HK2 := Lib.hid (show E2.K from hE2 ▸ hk)
  obtain ⟨ev, hev⟩ : ∃ ev, e.val = ev := ⟨_, rfl⟩
  have HEV := Lib.hid (show ev = .agg e.cs.toArray from hev.symm)
  obtain ⟨ew, hew⟩ : ∃ ew, E2.val = ew := ⟨_, rfl⟩
  have HEW := Lib.hid (show ew = .agg E2.cs.toArray from hew.symm)
  have FD := Lib.hid (fun (y : World) (g : Nat) (T : TypeId) (h : Row y g e.cs T) => show (loadVar 32 ⟨g, 0, none⟩).run Tryz.prog y = .ok ev y from hev ▸ l_end h hk)
  have HSE := Lib.hid (show ∀ (y : World), Tab y → Calls Tryz.prog 9 #[ev, .slice none 0 0] y fun r w' => (∃ b R, r = .returned (.tuple #[(dp e.sid e.ep e.n (.slice (some ⟨b, 0, none⟩) 16 16)).val, ew, .int .i64 0]) ∧ y.heap.size ≤ b ∧ Row w' b ((sealedL e.sec e.way e.sid e.ep e.n []).map bv ++ R) 5) ∧ Below y.heap.size y w' from fun y h1 => by
    have h := Send_ok e hi hV hl none [] 0 (by decide) y h1 ⟨none, 0, rfl, Nat.le_refl _, fun h => absurd rfl h⟩
    rw [hE2, hew, hev] at h
    exact h)
  rw [hE2, hew, hev, HEV.out]
  clear hr hb hk hi hV hl ht hE2 hev hew
  go_enter Tryz.func13, Tryz.ntmps13
  go_wp2_with (first
    | (show wpList _ _ _ (⟨some 2, _, _, _, _, _⟩ :: _) _ _
       refine QB.wpList_alloc rfl 40 rfl zpk ?_; intro X4 hx4 hy4
       have HR4 := Lib.hid (show Row X4 W.heap.size (Pkt.nm 0).cells 40 from hx4)
       have HY4 := Lib.hid (nextB HB.out (Nat.le_refl _) hy4)
       have HRe4 := Lib.hid (HR.out.below hy4 HR.out.lt)
       clear hx4 hy4 HR HB)
    | (show wpList _ _ _ (⟨some 3, _, _, _, _, _⟩ :: _) _ _
       refine QB.wpList_alloc rfl 32 rfl zero_End ?_; intro X5 hx5 hy5
       have HR5 := Lib.hid (show Row X5 X4.heap.size zed.cs 32 from hx5)
       have HY5 := Lib.hid (nextB HY4.out (Nat.le_refl _) hy5)
       have HR45 := Lib.hid (HR4.out.below hy5 HR4.out.lt)
       have HG5 := Lib.hid (show W.heap.size < X4.heap.size from HR4.out.lt)
       have HL := Lib.hid (FD.out X5 _ _ (HRe4.out.below hy5 HRe4.out.lt))
       clear hx5 hy5 HRe4 HY4 HR4)
    | (refine QB.wpList_ld 32 rfl rfl HL.out (by kernel_rfl) ?_; clear HL)
    | fail)
  obtain ⟨g4, hg4⟩ : ∃ g, W.heap.size = g := ⟨_, rfl⟩
  obtain ⟨g5, hg5⟩ : ∃ g, X4.heap.size = g := ⟨_, rfl⟩
  have HGG := Lib.hid (show w.heap.size < g4 ∧ g4 < g5 by have := HWS.out; have := HG5.out; omega)
  rw [hg5] at HR5 ⊢
  rw [hg4] at HR45 ⊢
  clear hW hg4 hg5 HWS HG5 FD
  refine (HSE.out X5 (HT.out.below HY5.out HT.out.1)).mono ?_
  rintro r w2 ⟨⟨b, R, rfl, _, _⟩, hb2⟩
  have HB2 := Lib.hid (nextB HY5.out (Nat.le_refl _) hb2)
  have HR4 := Lib.hid (HR45.out.below hb2 HR45.out.lt)
  have HR5 := Lib.hid (HR5.out.below hb2 HR5.out.lt)
  obtain ⟨Pq, hPq⟩ : ∃ P, dp e.sid e.ep e.n (.slice (some ⟨b, 0, none⟩) 16 16) = P := ⟨_, rfl⟩
  have HPo := Lib.hid (show Pq.Ok by rw [← hPq]; exact Pkt.dp_ok _ _ _ rfl)
  have HPq := Lib.hid hPq
  obtain ⟨pv, hpv⟩ : ∃ pv, Pq.val = pv := ⟨_, rfl⟩
  have HPV := Lib.hid (show pv = .agg Pq.cells.toArray from hpv.symm)
  have HPW := Lib.hid hpv
  rw [hPq, hpv]
  clear hb2 HY5 HR45 HSE hPq hpv
  go_wp2_with (first
    | (refine wpList_storeRow rfl 40 _ _ rfl rfl (cs := Pq.cells) HPV.out HR4.out (by kernel_rfl) (Pkt.Pk.length HPo.out) (Pkt.Pk.length (Pkt.nm_ok 0)) (Pkt.Pk.one HPo.out) ?_
       refine QB.name fun W3 hZ => ?_
       have HR4' := Lib.hid (show Row W3 g4 Pq.cells 40 from hZ ▸ HR4.out.setRow _)
       have HR5' := Lib.hid (row_grown HR5.out (hZ ▸ only_setRow _ : w2.grownBy W3 (some g4)) (by have := HGG.out; omega))
       have HB3 := Lib.hid (show Below w.heap.size w W3 from hZ ▸ below_setRow HB2.out (by have := HGG.out; omega) _)
       clear hZ HR4 HR5)
    | (refine wpList_storeRow rfl 32 _ _ rfl rfl (cs := E2.cs) HEW.out HR5'.out (by kernel_rfl) (Ed.len HK2.out) (Ed.len zed_K) (Ed.one _) ?_
       refine QB.name fun W4 hZ => ?_
       have HR55 := Lib.hid (show Row W4 g5 E2.cs 32 from hZ ▸ HR5'.out.setRow _)
       have HR44 := Lib.hid (row_grown HR4'.out (hZ ▸ only_setRow _ : W3.grownBy W4 (some g5)) (by have := HGG.out; omega))
       have HB4 := Lib.hid (show Below w.heap.size w W4 from hZ ▸ below_setRow HB3.out (by have := HGG.out; omega) _)
       clear hZ HR4' HR5')
    | fail)
  refine bodyPost_ret (results_cct (cs := Pq.cells) (cs2 := E2.cs) rfl rfl rfl HR44.out HR55.out Tryz.underlying40 Tryz.underlying32 rfl rfl (by kernel_rfl) (by kernel_rfl) (Pkt.Pk.length HPo.out) (Ed.len HK2.out)) rfl ?_
  exact ⟨⟨b, by rw [HEW.out, HPq.out]; rfl⟩, HB4.out⟩
end Go.Proofs.YtedmogacklbcmaaGreatDoor.Ses
