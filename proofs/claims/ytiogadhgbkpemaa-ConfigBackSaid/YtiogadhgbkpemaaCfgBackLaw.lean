/- What is encoded as bytes is read back, and nothing else is: 'drawbridgelaw08.ConfigBack', for every argument. -/
import Derived.Test.YtiogadhgbkpemaaCfgReadOp
import Derived.Test.YtiogadhgbkpemaaCfgKit
import Derived.Test.YtiogadhgbkpemaaCfgMember
import Derived.Test.YtiogadhgbkpemaaCfgArgs
import Derived.Test.YtiogadhgbkpemaaCfgLives
import Derived.Test.YtiogadhgbkpemaaKit
import Derived.Test.YtiogadhgbkpemaaLaw
namespace Go.Proofs.Ytiogadhgbkpemaa.cfgBack
open Go.ChangeShapes Go.WideShapes Go.ChangeAt Go.RowKit Go.Maps
open Cfg
theorem own : ownKnob Try.checked.prog.godebug = none := by kernel_rfl
theorem laid : laidOutB Try.checked.prog = true := by kernel_rfl
theorem str_guard (op : BinOp) (hop : op = .eql ∨ op = .neq) (x y : Operand) (l m : List UInt8) (w : World) : (eqGuard op 9 x y (strOf l) (strOf m)).run Try.prog w = .ok () w := by
  have hg : Try.prog.eqGuardType Try.prog.depth 9 = false := by kernel_rfl
  unfold strOf
  rcases hop with rfl | rfl <;> simp [eqGuard, Sem.run_bind, hg]
theorem str_neq (l : List UInt8) (w : World) : (binOp .neq 9 (strOf l) (strOf l)).run Try.prog w = .ok (.bool false) w := by
  unfold strOf binOp Op.stringOp
  simp [Sem.run_pure]
theorem zero_cfg : (Try.prog.info? 27).bind (·.zero) = some (.agg #[.slice none 0 0, .slice none 0 0]) := by kernel_rfl
theorem two_one (A B : Option Addr) (a b c d : Nat) : ∀ v ∈ [Value.slice A a b, .slice B c d], v.oneCell' = true := by
  intro v hv
  simp only [List.mem_cons, List.not_mem_nil, or_false] at hv
  rcases hv with rfl | rfl <;> rfl
theorem cenc_le {c : Cf} (hV : Val c) (hk : K32 c.ps) (ha : ∀ r ∈ c.rs, 0 ≤ r.addr ∧ r.addr ≤ 4294967295) : (cenc c).length ≤ 100000 := by
  obtain ⟨f1, f2⟩ := hV.fits hk ha
  have h1 := flat_le (f := Mb.enc) (K := 50) (l := c.ps) fun x hx => mb_len (f1 x hx)
  have h2 := flat_le (f := Rt.enc) (K := 27) (l := c.rs) fun x hx => rt_len (f2 x hx)
  have h3 := Num.enc_le (n := c.ps.length) (by have := hV.1; omega)
  have h4 := Num.enc_le (n := c.rs.length) (by have := hV.2.1; omega)
  have := hV.1
  have := hV.2.1
  unfold cenc
  simp only [List.length_append]
  omega
theorem oenc_le {o : Opn} (hV : okO o = true) (hk : o.ky.length = 32) (ha : 0 ≤ o.addr ∧ o.addr ≤ 4294967295) (hr : 0 ≤ o.ref ∧ o.ref < 18446744073709551616) : o.enc.length ≤ 1000 := by
  obtain ⟨f1, f2, f3⟩ := okO_fit hV ha
  have h1 := Num.enc_le (n := o.kind.toNat) (by omega)
  have h2 := Num.enc_le (n := o.ref.toNat) (by omega)
  have h3 := Num.enc_le (n := o.id.toNat) (by omega)
  have h4 := Num.enc_le (n := o.addr.toNat) (by omega)
  have h5 := Num.enc_le (n := o.bits.toNat) (by omega)
  unfold Opn.enc
  simp only [List.length_append]
  omega
set_option maxRecDepth 100000 in
set_option maxHeartbeats 20000000 in
theorem walk {w : World} {vp vr : Value} {c : Cf} {o : Opn} {AB : Option Addr} {cB : Nat} {b : List UInt8} (hc : CAt w w.heap.size vp vr c) (ha : ∀ r ∈ c.rs, 0 ≤ r.addr ∧ r.addr ≤ 4294967295) (hk : o.ky.length = 32) (hoa : 0 ≤ o.addr ∧ o.addr ≤ 4294967295) (hor : 0 ≤ o.ref ∧ o.ref < 18446744073709551616) (hb : Bs w w.heap.size (.slice AB b.length cB) b) :
    Calls Try.prog 5 #[.agg #[vp, vr], o.val, .slice AB b.length cB] w fun e w' => e = .returned (.bool true) ∧ Below w.heap.size w w' := by
  obtain ⟨A1, n1, A2, n2, rfl, rfl⟩ := hc.shape
  obtain ⟨W0, hW0⟩ : ∃ W0, (w.alloc (.cells #[.slice A1 c.ps.length n1, .slice A2 c.rs.length n2] 27)).alloc (.cells o.cs.toArray 45) = W0 := ⟨_, rfl⟩
  have hb0 : Below w.heap.size w W0 := hW0 ▸ ((Below.refl _ w).alloc (Nat.le_refl _) _).alloc (by simp) _
  have hr0 : Row W0 w.heap.size [.slice A1 c.ps.length n1, .slice A2 c.rs.length n2] 27 := hW0 ▸ (Row.new rfl rfl : Row (w.alloc (.cells #[.slice A1 c.ps.length n1, .slice A2 c.rs.length n2] 27)) w.heap.size [.slice A1 c.ps.length n1, .slice A2 c.rs.length n2] 27).alloc _
  have hr1 : Row W0 (w.heap.size + 1) o.cs 45 := hW0 ▸ Row.new (by simp) rfl
  have HR0 := Lib.hid hr0
  have HR1 := Lib.hid hr1
  have HB0 := Lib.hid hb0
  have HC := Lib.hid hc
  have HA := Lib.hid ha
  have Hko := Lib.hid hk
  have HOA := Lib.hid (And.intro hoa hor)
  have Hb := Lib.hid hb
  clear hc hk hr0 hr1 hb0 hb ha hoa hor
  unfold Opn.val
  go_enter Try.func5, Try.ntmps5
  go_wp2_with fail
  refine (lives_any _).mono ?_
  rintro e W ⟨rfl, hbw⟩
  have HB := Lib.hid hbw
  have HL := Lib.hid (Light_any A1 A2 c.ps.length n1 c.rs.length n2 W)
  clear hbw
  clear hW0
  have HBW := Lib.hid (show Below w.heap.size w W from nextB HB0.out (Nat.le_refl _) HB.out)
  have KR0 := Lib.hid (HR0.out.below HB.out HR0.out.lt)
  have KR1 := Lib.hid (HR1.out.below HB.out HR1.out.lt)
  obtain ⟨g0, hg0⟩ : ∃ g, w.heap.size = g := ⟨_, rfl⟩
  obtain ⟨g1, hg1⟩ : ∃ g, w.heap.size + 1 = g := ⟨_, rfl⟩
  have HRc := Lib.hid (show Row W g0 [.slice A1 c.ps.length n1, .slice A2 c.rs.length n2] 27 from hg0 ▸ KR0.out)
  have HRo := Lib.hid (show Row W g1 o.cs 45 from hg1 ▸ KR1.out)
  have FP := Lib.hid (fun w' (h : Below W.heap.size W w') => (HRc.out.below h HRc.out.lt).cell (i := 0) rfl)
  have FR := Lib.hid (fun w' (h : Below W.heap.size W w') => (HRc.out.below h HRc.out.lt).cell (i := 1) rfl)
  have FO := Lib.hid (fun w' (h : Below W.heap.size W w') => l_op (HRo.out.below h HRo.out.lt) Hko.out)
  have FCA := Lib.hid (fun w' (h : Below W.heap.size W w') => show CAt w' w.heap.size (.slice A1 c.ps.length n1) (.slice A2 c.rs.length n2) c from HC.out.below (nextB HBW.out (Nat.le_refl _) h))
  have FB := Lib.hid (fun w' (h : Below W.heap.size W w') => show Bs w' w'.heap.size (.slice AB b.length cB) b from (Hb.out.below (nextB HBW.out (Nat.le_refl _) h)).more (nextB HBW.out (Nat.le_refl _) h).size)
  have FWW := Lib.hid (fun w' (h : Below W.heap.size W w') => show Below w.heap.size w w' from nextB HBW.out (Nat.le_refl _) h)
  obtain ⟨li, hli⟩ : ∃ li, (decide (c.ps.length ≤ 40) && decide (c.rs.length ≤ 40)) = li := ⟨_, rfl⟩
  rw [hli] at HL
  have HLI := Lib.hid hli
  rw [hg1, hg0]
  clear hli hg0 hg1 HR0 HR1 KR0 KR1 HB HB0 HRc HRo Hb
  have c0 := FP.out W (Below.refl _ _)
  have c1 := FR.out W (Below.refl _ _)
  go_wp2_with fail
  refine HL.out.mono ?_
  rintro e W3 ⟨rfl, hb3⟩
  have HB3 := Lib.hid hb3
  clear hb3 HL c0 c1
  cases li with
  | false =>
    go_wp2
    go_ret
    exact ⟨rfl, FWW.out W3 HB3.out⟩
  | true =>
  have HN := Lib.hid (show c.ps.length ≤ 40 ∧ c.rs.length ≤ 40 by have := HLI.out; simp only [Bool.and_eq_true, decide_eq_true_eq] at this; exact this)
  clear HLI
  by_cases hlen : 4000 < b.length
  · have hlen' : (4000 : Int) < (b.length : Int) := by omega
    go_wp2
    go_ret
    exact ⟨rfl, FWW.out W3 HB3.out⟩
  have hlen' : ¬ (4000 : Int) < (b.length : Int) := by omega
  have HL4 := Lib.hid (show b.length ≤ 35184372088832 by omega)
  have HLB := Lib.hid (show b.length ≤ 140737488355327 by omega)
  clear hlen
  go_wp2_with fail
  refine (Own_any _ b _ (FB.out W3 HB3.out) HLB.out).mono ?_
  rintro e w4 ⟨v4, rfl, ho4, hb4⟩
  have HO4 := Lib.hid ho4
  have HK4 := Lib.hid (show Below W.heap.size W w4 from nextB HB3.out (Nat.le_refl _) hb4)
  clear ho4 hb4
  go_wp2_with fail
  refine (Read_any _ b _ HO4.out.bs HL4.out).mono ?_
  rintro e w5 ⟨hsome, hnone, hb5⟩
  have HK5 := Lib.hid (show Below W.heap.size W w5 from nextB HK4.out (Nat.le_refl _) hb5)
  clear hb5 HO4
  cases hrd : rdCfg b with
  | some d =>
    obtain ⟨v1, v2, rfl, hn⟩ := hsome d hrd
    obtain ⟨hbb, hV, hk, ha⟩ := rdCfg_bytes hrd
    obtain ⟨P1, a1, Q1, b1, rfl, rfl⟩ := hn.at.shape
    have HCN := Lib.hid hn.at
    have HV := Lib.hid hV
    have HBB := Lib.hid hbb
    have HAA := Lib.hid ha
    clear hsome hnone hrd hbb hV hk ha hn
    go_wp2_with (first
      | (refine QB.wpList_alloc rfl 27 rfl zero_cfg ?_; intro X1 hx1 hy1; have HX1 := Lib.hid (show Row X1 w5.heap.size [.slice none 0 0, .slice none 0 0] 27 from hx1); have HY1 := Lib.hid hy1; clear hx1 hy1)
      | (refine wpList_storeRow rfl 27 (.tmp 7) (.tmp 29) rfl rfl (cs := [.slice P1 d.ps.length a1, .slice Q1 d.rs.length b1]) rfl HX1.out (by kernel_rfl) rfl rfl (two_one _ _ _ _ _ _) ?_
         refine QB.name fun w6 hZ => ?_
         have hb6 : Below w5.heap.size w5 w6 := hZ ▸ below_setRow HY1.out (Nat.le_refl _) _
         have HR7 := Lib.hid (show Row w6 w5.heap.size [.slice P1 d.ps.length a1, .slice Q1 d.rs.length b1] 27 from hZ ▸ HX1.out.setRow _)
         have HKw6 := Lib.hid (show Below W.heap.size W w6 from nextB HK5.out (Nat.le_refl _) hb6)
         have HG7 := Lib.hid (show W.heap.size ≤ w5.heap.size from HK5.out.size)
         have HCN := Lib.hid (HCN.out.below hb6)
         have m0 := HR7.out.cell (i := 0) rfl
         have m1 := HR7.out.cell (i := 1) rfl
         clear hZ hb6 HX1 HY1)
      | fail)
    clear m0 m1
    obtain ⟨g7, hg7⟩ : ∃ g, w5.heap.size = g := ⟨_, rfl⟩
    rw [hg7] at HR7 HG7 ⊢
    refine (Bytes_ok HCN.out (by rw [hg7]; exact Nat.le_of_lt HR7.out.lt) HV.out HAA.out).mono ?_
    rintro e w7 ⟨x, rfl, ho7, hb7⟩
    rw [HBB.out] at ho7
    have HK7 := Lib.hid (show Below W.heap.size W w7 from nextB HKw6.out (Nat.le_refl _) hb7)
    have HR7 := Lib.hid (HR7.out.below hb7 HR7.out.lt)
    have hr1 := run_str w7 ho7.bs
    have hr2 := run_str w7 (FB.out w7 HK7.out)
    obtain ⟨A8, c8, rfl⟩ := ho7.shape
    have hsg := str_guard .neq (.inr rfl) (.tmp 42) (.tmp 44) b b w7
    have hsn := str_neq b w7
    clear hb7 ho7 HCN HV HBB HAA hg7
    go_wp2_with fail
    clear hr1 hr2 hsg hsn
    refine (Own_any _ b _ (FB.out w7 HK7.out) HLB.out).mono ?_
    rintro e w9 ⟨v9, rfl, ho9, hb9⟩
    have HO9 := Lib.hid ho9
    have HK9 := Lib.hid (show Below W.heap.size W w9 from nextB HK7.out (Nat.le_refl _) hb9)
    have HR7 := Lib.hid (HR7.out.below hb9 HR7.out.lt)
    clear ho9 hb9
    go_wp2_with fail
    refine (ReadOp_any _ b _ HO9.out.bs HL4.out).mono ?_
    rintro e w10 ⟨hsome, hnone, hb10⟩
    have HK10 := Lib.hid (show Below W.heap.size W w10 from nextB HK9.out (Nat.le_refl _) hb10)
    have HR7 := Lib.hid (HR7.out.below hb10 HR7.out.lt)
    have HLT7 := Lib.hid HR7.out.lt
    clear hb10 HO9
    cases hro : rdOpn b with
    | some p =>
      have he := hsome p hro
      subst he
      obtain ⟨hbb, hV, hk, ha, hr⟩ := rdOpn_bytes hro
      have HPK := Lib.hid hk
      have HV := Lib.hid hV
      have HBB := Lib.hid hbb
      have HAA := Lib.hid (And.intro ha hr)
      clear hsome hnone hro hbb hV hk ha hr
      obtain ⟨pv, hpv⟩ : ∃ pv, p.val = pv := ⟨_, rfl⟩
      have HPV := Lib.hid (show pv = .agg p.cs.toArray from hpv.symm)
      have HLV := Lib.hid (fun (y : World) (g : Nat) (hy : Row y g p.cs 45) => show (loadVar 45 ⟨g, 0, none⟩).run Try.prog y = .ok pv y from hpv ▸ l_op hy HPK.out)
      have HOB := Lib.hid (fun (y : World) => show Calls Try.prog (23) #[pv] y _ from hpv ▸ OpBytes_ok (w := y) HPK.out HV.out HAA.out.1 HAA.out.2)
      rw [hpv]
      clear hpv
      go_wp2_with (first
        | (refine QB.wpList_alloc rfl 45 rfl zero_op ?_; intro X1 hx1 hy1; have HX1 := Lib.hid (show Row X1 w10.heap.size (zop 0 0).cs 45 from hx1); have HY1 := Lib.hid hy1; clear hx1 hy1)
        | (refine wpList_storeRow rfl 45 (.tmp 11) (.tmp 51) rfl rfl (cs := p.cs) HPV.out HX1.out (by kernel_rfl) (Opn.len HPK.out) (Opn.len zkey_len) (Opn.one _) ?_
           refine QB.name fun w11 hZ => ?_
           have hb6 : Below w10.heap.size w10 w11 := hZ ▸ below_setRow HY1.out (Nat.le_refl _) _
           have HR11 := Lib.hid (show Row w11 w10.heap.size p.cs 45 from hZ ▸ HX1.out.setRow _)
           have HK11 := Lib.hid (show Below W.heap.size W w11 from nextB HK10.out (Nat.le_refl _) hb6)
           have HR7 := Lib.hid (HR7.out.below hb6 HR7.out.lt)
           have HG11 := Lib.hid (show W.heap.size ≤ w10.heap.size from HK10.out.size)
           have HLD := Lib.hid (HLV.out w11 _ HR11.out)
           clear hZ hb6 HX1 HY1)
        | (refine QB.wpList_ld 45 rfl rfl HLD.out (by kernel_rfl) ?_; clear HLD)
        | fail)
      obtain ⟨g11, hg11⟩ : ∃ g, w10.heap.size = g := ⟨_, rfl⟩
      rw [hg11] at HR11 HG11 HLT7 ⊢
      refine (HOB.out w11).mono ?_
      rintro e w12 ⟨x, rfl, ho7, hb7⟩
      rw [HBB.out] at ho7
      have HK12 := Lib.hid (show Below W.heap.size W w12 from nextB HK11.out (Nat.le_refl _) hb7)
      have HR7 := Lib.hid (HR7.out.below hb7 HR7.out.lt)
      have HR11 := Lib.hid (HR11.out.below hb7 HR11.out.lt)
      have hr1 := run_str w12 ho7.bs
      have hr2 := run_str w12 (FB.out w12 HK12.out)
      obtain ⟨A9, c9, rfl⟩ := ho7.shape
      have hsg := str_guard .neq (.inr rfl) (.tmp 64) (.tmp 66) b b w12
      have hsn := str_neq b w12
      have HLO := Lib.hid (Opn.len HPK.out)
      have c0 := FP.out w12 HK12.out
      have c1 := FR.out w12 HK12.out
      clear hb7 ho7 HV HBB HAA hg11 HOB HLV HPV
      go_wp2_with fail
      clear hr1 hr2 hsg hsn c0 c1
      by_cases hV : Val c
      case pos =>
        have HV := Lib.hid hV
        have HRO := Lib.hid (rdCfg_own c hV (FCA.out w12 HK12.out).ps.1 HA.out)
        have HLE := Lib.hid (show (cenc c).length ≤ 35184372088832 by have := cenc_le hV (FCA.out w12 HK12.out).ps.1 HA.out; omega)
        clear hV
        refine (Bytes_ok (FCA.out w12 HK12.out) (FWW.out w12 HK12.out).size HV.out HA.out).mono ?_
        rintro e w13 ⟨x, rfl, ho, hb⟩
        have HK13 := Lib.hid (show Below W.heap.size W w13 from nextB HK12.out (Nat.le_refl _) hb)
        have HR7 := Lib.hid (HR7.out.below hb HR7.out.lt)
        have HR11 := Lib.hid (HR11.out.below hb HR11.out.lt)
        have HG7b := Lib.hid HR7.out.lt
        have HO := Lib.hid ho
        clear ho hb
        go_wp2_with fail
        refine (Read_any _ (cenc c) _ HO.out.bs HLE.out).mono ?_
        rintro e w14 ⟨hsome, _, hb⟩
        obtain ⟨v1, v2, rfl, hn⟩ := hsome c HRO.out
        obtain ⟨P2, a2, Q2, b2, rfl, rfl⟩ := hn.at.shape
        have HK14 := Lib.hid (show Below W.heap.size W w14 from nextB HK13.out (Nat.le_refl _) hb)
        have HR7 := Lib.hid (HR7.out.below hb HR7.out.lt)
        have HR11 := Lib.hid (HR11.out.below hb HR11.out.lt)
        have HCN := Lib.hid hn
        clear hsome hb hn HO HRO HLE
        go_wp2_with (first
          | (refine wpList_storeRow rfl 27 (.tmp 7) (.tmp 79) rfl rfl (cs := [.slice P2 c.ps.length a2, .slice Q2 c.rs.length b2]) rfl HR7.out (by kernel_rfl) rfl rfl (two_one _ _ _ _ _ _) ?_
             refine QB.name fun w15 hZ => ?_
             have HR7' := Lib.hid (show Row w15 g7 [.slice P2 c.ps.length a2, .slice Q2 c.rs.length b2] 27 from hZ ▸ HR7.out.setRow _)
             have HR11 := Lib.hid (show Row w15 g11 p.cs 45 from hZ ▸ HR11.out.setOther _ _ (by have := HLT7.out; omega))
             have HK15 := Lib.hid (show Below W.heap.size W w15 from hZ ▸ below_setRow HK14.out HG7.out _)
             have HCN := Lib.hid (show CNew w15 w13.heap.size (.slice P2 c.ps.length a2) (.slice Q2 c.rs.length b2) c from hZ ▸ HCN.out.setRow HG7b.out _)
             have c0 := FP.out w15 HK15.out
             have c1 := FR.out w15 HK15.out
             clear hZ)
          | fail)
        clear HR7
        have HCh := Lib.hid (Check_any (FCA.out w15 HK15.out) (FWW.out w15 HK15.out).size)
        rw [show checkZ c = 0 from if_pos HV.out] at HCh
        refine HCh.out.mono ?_
        rintro e w16 ⟨rfl, hb⟩
        have HK16 := Lib.hid (show Below W.heap.size W w16 from nextB HK15.out (Nat.le_refl _) hb)
        have HR7 := Lib.hid (HR7'.out.below hb HR7'.out.lt)
        have HR11 := Lib.hid (HR11.out.below hb HR11.out.lt)
        have HKt := Lib.hid (Kit_any (w := w16) (B := w16.heap.size) (HCN.out.below hb).at ((FCA.out w16 HK16.out).more (FWW.out w16 HK16.out).size) (by have := HN.out; omega) (by have := HN.out; omega) (Nat.le_refl _))
        rw [decide_eq_true rfl, decide_eq_true rfl, Bool.and_true] at HKt
        clear hb c0 c1 HCh HCN HR7'
        have c0 := FP.out w16 HK16.out
        have c1 := FR.out w16 HK16.out
        have m0 := HR7.out.cell (i := 0) rfl
        have m1 := HR7.out.cell (i := 1) rfl
        go_wp2_with fail
        refine HKt.out.mono ?_
        rintro e w17 ⟨rfl, hb⟩
        have HK17 := Lib.hid (show Below W.heap.size W w17 from nextB HK16.out (Nat.le_refl _) hb)
        have HR11 := Lib.hid (HR11.out.below hb HR11.out.lt)
        have HLDo := Lib.hid (FO.out w17 HK17.out)
        clear hb c0 c1 m0 m1 HKt HV HR7
        obtain ⟨ov, hov⟩ : ∃ ov, o.val = ov := ⟨_, rfl⟩
        have HOV := Lib.hid (show ov = .agg o.cs.toArray from hov.symm)
        have FOV := Lib.hid (fun (y : World) (hy : Below W.heap.size W y) => show (loadVar 45 ⟨g1, 0, none⟩).run Try.prog y = .ok ov y from hov ▸ FO.out y hy)
        have FCO := Lib.hid (fun (y : World) => show Calls Try.prog 28 #[ov] y _ from hov ▸ CheckOp_any o Hko.out y)
        rw [hov] at HLDo
        by_cases hV : okO o = true
        case pos =>
          have HV := Lib.hid hV
          have HRO := Lib.hid (rdOpn_own o hV Hko.out HOA.out.1 HOA.out.2)
          have HLE := Lib.hid (show o.enc.length ≤ 35184372088832 by have := oenc_le hV Hko.out HOA.out.1 HOA.out.2; omega)
          have HOB := Lib.hid (fun (y : World) => show Calls Try.prog (23) #[ov] y _ from hov ▸ OpBytes_ok (w := y) Hko.out HV.out HOA.out.1 HOA.out.2)
          have HEQ := Lib.hid (fun (y : World) => show (Op.equal 45 ov ov).run Try.prog y = .ok true y from hov ▸ (by have := eq_op o o Hko.out Hko.out y; rwa [decide_eq_true rfl] at this))
          clear hV hov
          go_wp2_with (first
            | (refine QB.wpList_ld 45 rfl rfl HLDo.out (by kernel_rfl) ?_; clear HLDo)
            | fail)
          refine (HOB.out _).mono ?_
          rintro e w18 ⟨x, rfl, ho, hb⟩
          have HK18 := Lib.hid (show Below W.heap.size W w18 from nextB HK17.out (Nat.le_refl _) hb)
          have HR11 := Lib.hid (HR11.out.below hb HR11.out.lt)
          have HO := Lib.hid ho
          clear ho hb HOB
          go_wp2_with fail
          refine (ReadOp_any _ o.enc _ HO.out.bs HLE.out).mono ?_
          rintro e w19 ⟨hsome, _, hb⟩
          have he := hsome o HRO.out
          subst he
          have HK19 := Lib.hid (show Below W.heap.size W w19 from nextB HK18.out (Nat.le_refl _) hb)
          have HR11 := Lib.hid (HR11.out.below hb HR11.out.lt)
          clear hb hsome HO HRO HLE
          rw [show o.val = ov from HOV.out.symm]
          go_wp2_with (first
            | (refine wpList_storeRow rfl 45 (.tmp 11) (.tmp 105) rfl rfl (cs := o.cs) HOV.out HR11.out (by kernel_rfl) (Opn.len Hko.out) HLO.out (Opn.one _) ?_
               refine QB.name fun w20 hZ => ?_
               have HR11' := Lib.hid (show Row w20 g11 o.cs 45 from hZ ▸ HR11.out.setRow _)
               have HK20 := Lib.hid (show Below W.heap.size W w20 from hZ ▸ below_setRow HK19.out HG11.out _)
               have HLDo := Lib.hid (FOV.out w20 HK20.out)
               clear hZ)
            | (refine QB.wpList_ld 45 rfl rfl HLDo.out (by kernel_rfl) ?_; clear HLDo)
            | fail)
          clear HR11
          have HCo := Lib.hid (FCO.out w20)
          rw [show checkOpZ o = 0 from if_pos HV.out] at HCo
          refine HCo.out.mono ?_
          rintro e w21 ⟨rfl, hb⟩
          have HK21 := Lib.hid (show Below W.heap.size W w21 from nextB HK20.out (Nat.le_refl _) hb)
          have HR11 := Lib.hid (HR11'.out.below hb HR11'.out.lt)
          have HL1 := Lib.hid (show (loadVar 45 ⟨g11, 0, none⟩).run Try.prog w21 = .ok ov w21 by rw [HOV.out]; exact l_op HR11.out Hko.out)
          have HL2 := Lib.hid (FOV.out w21 HK21.out)
          have hgd : (eqGuard .eql 45 (.tmp 115) (.tmp 116) ov ov).run Try.prog w21 = .ok () w21 := by rw [HOV.out]; exact guard_of g_op _ _ _ _ _ _
          have hev : (binOp .eql 45 ov ov).run Try.prog w21 = .ok (.bool true) w21 := by have := HEQ.out w21; rw [HOV.out] at this ⊢; exact eql_of this
          clear hb HCo HR11' HEQ HOV
          go_wp2_with (first
            | (refine QB.wpList_ld 45 rfl rfl HL1.out (by kernel_rfl) ?_; clear HL1)
            | (refine QB.wpList_ld 45 rfl rfl HL2.out (by kernel_rfl) ?_; clear HL2)
            | fail)
          go_ret
          exact ⟨rfl, FWW.out w21 HK21.out⟩
        case neg =>
          have HV := Lib.hid hV
          have HOB := Lib.hid (fun (y : World) => show Calls Try.prog (23) #[ov] y _ from hov ▸ OpBytes_no (w := y) Hko.out HV.out)
          clear hV hov
          go_wp2_with (first
            | (refine QB.wpList_ld 45 rfl rfl HLDo.out (by kernel_rfl) ?_; clear HLDo)
            | fail)
          refine (HOB.out _).mono ?_
          rintro e w18 ⟨rfl, hb⟩
          have HK18 := Lib.hid (show Below W.heap.size W w18 from nextB HK17.out (Nat.le_refl _) hb)
          have HLDo := Lib.hid (FOV.out w18 HK18.out)
          have HCo := Lib.hid (FCO.out w18)
          rw [show checkOpZ o = 2 from if_neg HV.out] at HCo
          clear hb HOB HOV
          go_wp2_with (first
            | (refine QB.wpList_ld 45 rfl rfl HLDo.out (by kernel_rfl) ?_; clear HLDo)
            | fail)
          refine HCo.out.mono ?_
          rintro e w19 ⟨rfl, hb⟩
          have HK19 := Lib.hid (show Below W.heap.size W w19 from nextB HK18.out (Nat.le_refl _) hb)
          clear hb HCo
          go_wp2
          go_ret
          exact ⟨rfl, FWW.out w19 HK19.out⟩
      case neg =>
        have HV := Lib.hid hV
        clear hV
        refine (Bytes_no (FCA.out w12 HK12.out) (FWW.out w12 HK12.out).size HV.out).mono ?_
        rintro e w13 ⟨rfl, hb⟩
        have HK13 := Lib.hid (show Below W.heap.size W w13 from nextB HK12.out (Nat.le_refl _) hb)
        have HR11 := Lib.hid (HR11.out.below hb HR11.out.lt)
        have HCh := Lib.hid (Check_any (FCA.out w13 HK13.out) (FWW.out w13 HK13.out).size)
        rw [show checkZ c = 2 from if_neg HV.out] at HCh
        have c0 := FP.out w13 HK13.out
        have c1 := FR.out w13 HK13.out
        clear hb
        go_wp2_with fail
        refine HCh.out.mono ?_
        rintro e w17 ⟨rfl, hb⟩
        have HK17 := Lib.hid (show Below W.heap.size W w17 from nextB HK13.out (Nat.le_refl _) hb)
        have HR11 := Lib.hid (HR11.out.below hb HR11.out.lt)
        have HLDo := Lib.hid (FO.out w17 HK17.out)
        clear hb c0 c1 HCh HV HR7
        obtain ⟨ov, hov⟩ : ∃ ov, o.val = ov := ⟨_, rfl⟩
        have HOV := Lib.hid (show ov = .agg o.cs.toArray from hov.symm)
        have FOV := Lib.hid (fun (y : World) (hy : Below W.heap.size W y) => show (loadVar 45 ⟨g1, 0, none⟩).run Try.prog y = .ok ov y from hov ▸ FO.out y hy)
        have FCO := Lib.hid (fun (y : World) => show Calls Try.prog 28 #[ov] y _ from hov ▸ CheckOp_any o Hko.out y)
        rw [hov] at HLDo
        by_cases hV : okO o = true
        case pos =>
          have HV := Lib.hid hV
          have HRO := Lib.hid (rdOpn_own o hV Hko.out HOA.out.1 HOA.out.2)
          have HLE := Lib.hid (show o.enc.length ≤ 35184372088832 by have := oenc_le hV Hko.out HOA.out.1 HOA.out.2; omega)
          have HOB := Lib.hid (fun (y : World) => show Calls Try.prog (23) #[ov] y _ from hov ▸ OpBytes_ok (w := y) Hko.out HV.out HOA.out.1 HOA.out.2)
          have HEQ := Lib.hid (fun (y : World) => show (Op.equal 45 ov ov).run Try.prog y = .ok true y from hov ▸ (by have := eq_op o o Hko.out Hko.out y; rwa [decide_eq_true rfl] at this))
          clear hV hov
          go_wp2_with (first
            | (refine QB.wpList_ld 45 rfl rfl HLDo.out (by kernel_rfl) ?_; clear HLDo)
            | fail)
          refine (HOB.out _).mono ?_
          rintro e w18 ⟨x, rfl, ho, hb⟩
          have HK18 := Lib.hid (show Below W.heap.size W w18 from nextB HK17.out (Nat.le_refl _) hb)
          have HR11 := Lib.hid (HR11.out.below hb HR11.out.lt)
          have HO := Lib.hid ho
          clear ho hb HOB
          go_wp2_with fail
          refine (ReadOp_any _ o.enc _ HO.out.bs HLE.out).mono ?_
          rintro e w19 ⟨hsome, _, hb⟩
          have he := hsome o HRO.out
          subst he
          have HK19 := Lib.hid (show Below W.heap.size W w19 from nextB HK18.out (Nat.le_refl _) hb)
          have HR11 := Lib.hid (HR11.out.below hb HR11.out.lt)
          clear hb hsome HO HRO HLE
          rw [show o.val = ov from HOV.out.symm]
          go_wp2_with (first
            | (refine wpList_storeRow rfl 45 (.tmp 11) (.tmp 105) rfl rfl (cs := o.cs) HOV.out HR11.out (by kernel_rfl) (Opn.len Hko.out) HLO.out (Opn.one _) ?_
               refine QB.name fun w20 hZ => ?_
               have HR11' := Lib.hid (show Row w20 g11 o.cs 45 from hZ ▸ HR11.out.setRow _)
               have HK20 := Lib.hid (show Below W.heap.size W w20 from hZ ▸ below_setRow HK19.out HG11.out _)
               have HLDo := Lib.hid (FOV.out w20 HK20.out)
               clear hZ)
            | (refine QB.wpList_ld 45 rfl rfl HLDo.out (by kernel_rfl) ?_; clear HLDo)
            | fail)
          clear HR11
          have HCo := Lib.hid (FCO.out w20)
          rw [show checkOpZ o = 0 from if_pos HV.out] at HCo
          refine HCo.out.mono ?_
          rintro e w21 ⟨rfl, hb⟩
          have HK21 := Lib.hid (show Below W.heap.size W w21 from nextB HK20.out (Nat.le_refl _) hb)
          have HR11 := Lib.hid (HR11'.out.below hb HR11'.out.lt)
          have HL1 := Lib.hid (show (loadVar 45 ⟨g11, 0, none⟩).run Try.prog w21 = .ok ov w21 by rw [HOV.out]; exact l_op HR11.out Hko.out)
          have HL2 := Lib.hid (FOV.out w21 HK21.out)
          have hgd : (eqGuard .eql 45 (.tmp 115) (.tmp 116) ov ov).run Try.prog w21 = .ok () w21 := by rw [HOV.out]; exact guard_of g_op _ _ _ _ _ _
          have hev : (binOp .eql 45 ov ov).run Try.prog w21 = .ok (.bool true) w21 := by have := HEQ.out w21; rw [HOV.out] at this ⊢; exact eql_of this
          clear hb HCo HR11' HEQ HOV
          go_wp2_with (first
            | (refine QB.wpList_ld 45 rfl rfl HL1.out (by kernel_rfl) ?_; clear HL1)
            | (refine QB.wpList_ld 45 rfl rfl HL2.out (by kernel_rfl) ?_; clear HL2)
            | fail)
          go_ret
          exact ⟨rfl, FWW.out w21 HK21.out⟩
        case neg =>
          have HV := Lib.hid hV
          have HOB := Lib.hid (fun (y : World) => show Calls Try.prog (23) #[ov] y _ from hov ▸ OpBytes_no (w := y) Hko.out HV.out)
          clear hV hov
          go_wp2_with (first
            | (refine QB.wpList_ld 45 rfl rfl HLDo.out (by kernel_rfl) ?_; clear HLDo)
            | fail)
          refine (HOB.out _).mono ?_
          rintro e w18 ⟨rfl, hb⟩
          have HK18 := Lib.hid (show Below W.heap.size W w18 from nextB HK17.out (Nat.le_refl _) hb)
          have HLDo := Lib.hid (FOV.out w18 HK18.out)
          have HCo := Lib.hid (FCO.out w18)
          rw [show checkOpZ o = 2 from if_neg HV.out] at HCo
          clear hb HOB HOV
          go_wp2_with (first
            | (refine QB.wpList_ld 45 rfl rfl HLDo.out (by kernel_rfl) ?_; clear HLDo)
            | fail)
          refine HCo.out.mono ?_
          rintro e w19 ⟨rfl, hb⟩
          have HK19 := Lib.hid (show Below W.heap.size W w19 from nextB HK18.out (Nat.le_refl _) hb)
          clear hb HCo
          go_wp2
          go_ret
          exact ⟨rfl, FWW.out w19 HK19.out⟩
    | none =>
      have he := hnone hro
      subst he
      clear hsome hnone hro
      obtain ⟨zo, hzo⟩ : ∃ zo, (zop 0 0).val = zo := ⟨_, rfl⟩
      have HZO := Lib.hid (show zo = .agg (zop 0 0).cs.toArray from hzo.symm)
      rw [hzo]
      clear hzo
      go_wp2_with (first
        | (refine QB.wpList_alloc rfl 45 rfl zero_op ?_; intro X1 hx1 hy1; have HX1 := Lib.hid (show Row X1 w10.heap.size (zop 0 0).cs 45 from hx1); have HY1 := Lib.hid hy1; clear hx1 hy1)
        | (refine wpList_storeRow rfl 45 (.tmp 11) (.tmp 51) rfl rfl (cs := (zop 0 0).cs) HZO.out HX1.out (by kernel_rfl) (Opn.len zkey_len) (Opn.len zkey_len) (Opn.one _) ?_
           refine QB.name fun w11 hZ => ?_
           have hb6 : Below w10.heap.size w10 w11 := hZ ▸ below_setRow HY1.out (Nat.le_refl _) _
           have HR11 := Lib.hid (show Row w11 w10.heap.size (zop 0 0).cs 45 from hZ ▸ HX1.out.setRow _)
           have HK11 := Lib.hid (show Below W.heap.size W w11 from nextB HK10.out (Nat.le_refl _) hb6)
           have HR7 := Lib.hid (HR7.out.below hb6 HR7.out.lt)
           have HG11 := Lib.hid (show W.heap.size ≤ w10.heap.size from HK10.out.size)
           have c0 := FP.out w11 HK11.out
           have c1 := FR.out w11 HK11.out
           clear hZ hb6 HX1 HY1)
        | fail)
      clear c0 c1
      obtain ⟨g11, hg11⟩ : ∃ g, w10.heap.size = g := ⟨_, rfl⟩
      rw [hg11] at HR11 HG11 HLT7 ⊢
      have HLO := Lib.hid (Opn.len zkey_len : (zop 0 0).cs.length = 37)
      clear hg11 HZO
      by_cases hV : Val c
      case pos =>
        have HV := Lib.hid hV
        have HRO := Lib.hid (rdCfg_own c hV (FCA.out w11 HK11.out).ps.1 HA.out)
        have HLE := Lib.hid (show (cenc c).length ≤ 35184372088832 by have := cenc_le hV (FCA.out w11 HK11.out).ps.1 HA.out; omega)
        clear hV
        refine (Bytes_ok (FCA.out w11 HK11.out) (FWW.out w11 HK11.out).size HV.out HA.out).mono ?_
        rintro e w13 ⟨x, rfl, ho, hb⟩
        have HK13 := Lib.hid (show Below W.heap.size W w13 from nextB HK11.out (Nat.le_refl _) hb)
        have HR7 := Lib.hid (HR7.out.below hb HR7.out.lt)
        have HR11 := Lib.hid (HR11.out.below hb HR11.out.lt)
        have HG7b := Lib.hid HR7.out.lt
        have HO := Lib.hid ho
        clear ho hb
        go_wp2_with fail
        refine (Read_any _ (cenc c) _ HO.out.bs HLE.out).mono ?_
        rintro e w14 ⟨hsome, _, hb⟩
        obtain ⟨v1, v2, rfl, hn⟩ := hsome c HRO.out
        obtain ⟨P2, a2, Q2, b2, rfl, rfl⟩ := hn.at.shape
        have HK14 := Lib.hid (show Below W.heap.size W w14 from nextB HK13.out (Nat.le_refl _) hb)
        have HR7 := Lib.hid (HR7.out.below hb HR7.out.lt)
        have HR11 := Lib.hid (HR11.out.below hb HR11.out.lt)
        have HCN := Lib.hid hn
        clear hsome hb hn HO HRO HLE
        go_wp2_with (first
          | (refine wpList_storeRow rfl 27 (.tmp 7) (.tmp 79) rfl rfl (cs := [.slice P2 c.ps.length a2, .slice Q2 c.rs.length b2]) rfl HR7.out (by kernel_rfl) rfl rfl (two_one _ _ _ _ _ _) ?_
             refine QB.name fun w15 hZ => ?_
             have HR7' := Lib.hid (show Row w15 g7 [.slice P2 c.ps.length a2, .slice Q2 c.rs.length b2] 27 from hZ ▸ HR7.out.setRow _)
             have HR11 := Lib.hid (show Row w15 g11 (zop 0 0).cs 45 from hZ ▸ HR11.out.setOther _ _ (by have := HLT7.out; omega))
             have HK15 := Lib.hid (show Below W.heap.size W w15 from hZ ▸ below_setRow HK14.out HG7.out _)
             have HCN := Lib.hid (show CNew w15 w13.heap.size (.slice P2 c.ps.length a2) (.slice Q2 c.rs.length b2) c from hZ ▸ HCN.out.setRow HG7b.out _)
             have c0 := FP.out w15 HK15.out
             have c1 := FR.out w15 HK15.out
             clear hZ)
          | fail)
        clear HR7
        have HCh := Lib.hid (Check_any (FCA.out w15 HK15.out) (FWW.out w15 HK15.out).size)
        rw [show checkZ c = 0 from if_pos HV.out] at HCh
        refine HCh.out.mono ?_
        rintro e w16 ⟨rfl, hb⟩
        have HK16 := Lib.hid (show Below W.heap.size W w16 from nextB HK15.out (Nat.le_refl _) hb)
        have HR7 := Lib.hid (HR7'.out.below hb HR7'.out.lt)
        have HR11 := Lib.hid (HR11.out.below hb HR11.out.lt)
        have HKt := Lib.hid (Kit_any (w := w16) (B := w16.heap.size) (HCN.out.below hb).at ((FCA.out w16 HK16.out).more (FWW.out w16 HK16.out).size) (by have := HN.out; omega) (by have := HN.out; omega) (Nat.le_refl _))
        rw [decide_eq_true rfl, decide_eq_true rfl, Bool.and_true] at HKt
        clear hb c0 c1 HCh HCN HR7'
        have c0 := FP.out w16 HK16.out
        have c1 := FR.out w16 HK16.out
        have m0 := HR7.out.cell (i := 0) rfl
        have m1 := HR7.out.cell (i := 1) rfl
        go_wp2_with fail
        refine HKt.out.mono ?_
        rintro e w17 ⟨rfl, hb⟩
        have HK17 := Lib.hid (show Below W.heap.size W w17 from nextB HK16.out (Nat.le_refl _) hb)
        have HR11 := Lib.hid (HR11.out.below hb HR11.out.lt)
        have HLDo := Lib.hid (FO.out w17 HK17.out)
        clear hb c0 c1 m0 m1 HKt HV HR7
        obtain ⟨ov, hov⟩ : ∃ ov, o.val = ov := ⟨_, rfl⟩
        have HOV := Lib.hid (show ov = .agg o.cs.toArray from hov.symm)
        have FOV := Lib.hid (fun (y : World) (hy : Below W.heap.size W y) => show (loadVar 45 ⟨g1, 0, none⟩).run Try.prog y = .ok ov y from hov ▸ FO.out y hy)
        have FCO := Lib.hid (fun (y : World) => show Calls Try.prog 28 #[ov] y _ from hov ▸ CheckOp_any o Hko.out y)
        rw [hov] at HLDo
        by_cases hV : okO o = true
        case pos =>
          have HV := Lib.hid hV
          have HRO := Lib.hid (rdOpn_own o hV Hko.out HOA.out.1 HOA.out.2)
          have HLE := Lib.hid (show o.enc.length ≤ 35184372088832 by have := oenc_le hV Hko.out HOA.out.1 HOA.out.2; omega)
          have HOB := Lib.hid (fun (y : World) => show Calls Try.prog (23) #[ov] y _ from hov ▸ OpBytes_ok (w := y) Hko.out HV.out HOA.out.1 HOA.out.2)
          have HEQ := Lib.hid (fun (y : World) => show (Op.equal 45 ov ov).run Try.prog y = .ok true y from hov ▸ (by have := eq_op o o Hko.out Hko.out y; rwa [decide_eq_true rfl] at this))
          clear hV hov
          go_wp2_with (first
            | (refine QB.wpList_ld 45 rfl rfl HLDo.out (by kernel_rfl) ?_; clear HLDo)
            | fail)
          refine (HOB.out _).mono ?_
          rintro e w18 ⟨x, rfl, ho, hb⟩
          have HK18 := Lib.hid (show Below W.heap.size W w18 from nextB HK17.out (Nat.le_refl _) hb)
          have HR11 := Lib.hid (HR11.out.below hb HR11.out.lt)
          have HO := Lib.hid ho
          clear ho hb HOB
          go_wp2_with fail
          refine (ReadOp_any _ o.enc _ HO.out.bs HLE.out).mono ?_
          rintro e w19 ⟨hsome, _, hb⟩
          have he := hsome o HRO.out
          subst he
          have HK19 := Lib.hid (show Below W.heap.size W w19 from nextB HK18.out (Nat.le_refl _) hb)
          have HR11 := Lib.hid (HR11.out.below hb HR11.out.lt)
          clear hb hsome HO HRO HLE
          rw [show o.val = ov from HOV.out.symm]
          go_wp2_with (first
            | (refine wpList_storeRow rfl 45 (.tmp 11) (.tmp 105) rfl rfl (cs := o.cs) HOV.out HR11.out (by kernel_rfl) (Opn.len Hko.out) HLO.out (Opn.one _) ?_
               refine QB.name fun w20 hZ => ?_
               have HR11' := Lib.hid (show Row w20 g11 o.cs 45 from hZ ▸ HR11.out.setRow _)
               have HK20 := Lib.hid (show Below W.heap.size W w20 from hZ ▸ below_setRow HK19.out HG11.out _)
               have HLDo := Lib.hid (FOV.out w20 HK20.out)
               clear hZ)
            | (refine QB.wpList_ld 45 rfl rfl HLDo.out (by kernel_rfl) ?_; clear HLDo)
            | fail)
          clear HR11
          have HCo := Lib.hid (FCO.out w20)
          rw [show checkOpZ o = 0 from if_pos HV.out] at HCo
          refine HCo.out.mono ?_
          rintro e w21 ⟨rfl, hb⟩
          have HK21 := Lib.hid (show Below W.heap.size W w21 from nextB HK20.out (Nat.le_refl _) hb)
          have HR11 := Lib.hid (HR11'.out.below hb HR11'.out.lt)
          have HL1 := Lib.hid (show (loadVar 45 ⟨g11, 0, none⟩).run Try.prog w21 = .ok ov w21 by rw [HOV.out]; exact l_op HR11.out Hko.out)
          have HL2 := Lib.hid (FOV.out w21 HK21.out)
          have hgd : (eqGuard .eql 45 (.tmp 115) (.tmp 116) ov ov).run Try.prog w21 = .ok () w21 := by rw [HOV.out]; exact guard_of g_op _ _ _ _ _ _
          have hev : (binOp .eql 45 ov ov).run Try.prog w21 = .ok (.bool true) w21 := by have := HEQ.out w21; rw [HOV.out] at this ⊢; exact eql_of this
          clear hb HCo HR11' HEQ HOV
          go_wp2_with (first
            | (refine QB.wpList_ld 45 rfl rfl HL1.out (by kernel_rfl) ?_; clear HL1)
            | (refine QB.wpList_ld 45 rfl rfl HL2.out (by kernel_rfl) ?_; clear HL2)
            | fail)
          go_ret
          exact ⟨rfl, FWW.out w21 HK21.out⟩
        case neg =>
          have HV := Lib.hid hV
          have HOB := Lib.hid (fun (y : World) => show Calls Try.prog (23) #[ov] y _ from hov ▸ OpBytes_no (w := y) Hko.out HV.out)
          clear hV hov
          go_wp2_with (first
            | (refine QB.wpList_ld 45 rfl rfl HLDo.out (by kernel_rfl) ?_; clear HLDo)
            | fail)
          refine (HOB.out _).mono ?_
          rintro e w18 ⟨rfl, hb⟩
          have HK18 := Lib.hid (show Below W.heap.size W w18 from nextB HK17.out (Nat.le_refl _) hb)
          have HLDo := Lib.hid (FOV.out w18 HK18.out)
          have HCo := Lib.hid (FCO.out w18)
          rw [show checkOpZ o = 2 from if_neg HV.out] at HCo
          clear hb HOB HOV
          go_wp2_with (first
            | (refine QB.wpList_ld 45 rfl rfl HLDo.out (by kernel_rfl) ?_; clear HLDo)
            | fail)
          refine HCo.out.mono ?_
          rintro e w19 ⟨rfl, hb⟩
          have HK19 := Lib.hid (show Below W.heap.size W w19 from nextB HK18.out (Nat.le_refl _) hb)
          clear hb HCo
          go_wp2
          go_ret
          exact ⟨rfl, FWW.out w19 HK19.out⟩
      case neg =>
        have HV := Lib.hid hV
        clear hV
        refine (Bytes_no (FCA.out w11 HK11.out) (FWW.out w11 HK11.out).size HV.out).mono ?_
        rintro e w13 ⟨rfl, hb⟩
        have HK13 := Lib.hid (show Below W.heap.size W w13 from nextB HK11.out (Nat.le_refl _) hb)
        have HR11 := Lib.hid (HR11.out.below hb HR11.out.lt)
        have HCh := Lib.hid (Check_any (FCA.out w13 HK13.out) (FWW.out w13 HK13.out).size)
        rw [show checkZ c = 2 from if_neg HV.out] at HCh
        have c0 := FP.out w13 HK13.out
        have c1 := FR.out w13 HK13.out
        clear hb
        go_wp2_with fail
        refine HCh.out.mono ?_
        rintro e w17 ⟨rfl, hb⟩
        have HK17 := Lib.hid (show Below W.heap.size W w17 from nextB HK13.out (Nat.le_refl _) hb)
        have HR11 := Lib.hid (HR11.out.below hb HR11.out.lt)
        have HLDo := Lib.hid (FO.out w17 HK17.out)
        clear hb c0 c1 HCh HV HR7
        obtain ⟨ov, hov⟩ : ∃ ov, o.val = ov := ⟨_, rfl⟩
        have HOV := Lib.hid (show ov = .agg o.cs.toArray from hov.symm)
        have FOV := Lib.hid (fun (y : World) (hy : Below W.heap.size W y) => show (loadVar 45 ⟨g1, 0, none⟩).run Try.prog y = .ok ov y from hov ▸ FO.out y hy)
        have FCO := Lib.hid (fun (y : World) => show Calls Try.prog 28 #[ov] y _ from hov ▸ CheckOp_any o Hko.out y)
        rw [hov] at HLDo
        by_cases hV : okO o = true
        case pos =>
          have HV := Lib.hid hV
          have HRO := Lib.hid (rdOpn_own o hV Hko.out HOA.out.1 HOA.out.2)
          have HLE := Lib.hid (show o.enc.length ≤ 35184372088832 by have := oenc_le hV Hko.out HOA.out.1 HOA.out.2; omega)
          have HOB := Lib.hid (fun (y : World) => show Calls Try.prog (23) #[ov] y _ from hov ▸ OpBytes_ok (w := y) Hko.out HV.out HOA.out.1 HOA.out.2)
          have HEQ := Lib.hid (fun (y : World) => show (Op.equal 45 ov ov).run Try.prog y = .ok true y from hov ▸ (by have := eq_op o o Hko.out Hko.out y; rwa [decide_eq_true rfl] at this))
          clear hV hov
          go_wp2_with (first
            | (refine QB.wpList_ld 45 rfl rfl HLDo.out (by kernel_rfl) ?_; clear HLDo)
            | fail)
          refine (HOB.out _).mono ?_
          rintro e w18 ⟨x, rfl, ho, hb⟩
          have HK18 := Lib.hid (show Below W.heap.size W w18 from nextB HK17.out (Nat.le_refl _) hb)
          have HR11 := Lib.hid (HR11.out.below hb HR11.out.lt)
          have HO := Lib.hid ho
          clear ho hb HOB
          go_wp2_with fail
          refine (ReadOp_any _ o.enc _ HO.out.bs HLE.out).mono ?_
          rintro e w19 ⟨hsome, _, hb⟩
          have he := hsome o HRO.out
          subst he
          have HK19 := Lib.hid (show Below W.heap.size W w19 from nextB HK18.out (Nat.le_refl _) hb)
          have HR11 := Lib.hid (HR11.out.below hb HR11.out.lt)
          clear hb hsome HO HRO HLE
          rw [show o.val = ov from HOV.out.symm]
          go_wp2_with (first
            | (refine wpList_storeRow rfl 45 (.tmp 11) (.tmp 105) rfl rfl (cs := o.cs) HOV.out HR11.out (by kernel_rfl) (Opn.len Hko.out) HLO.out (Opn.one _) ?_
               refine QB.name fun w20 hZ => ?_
               have HR11' := Lib.hid (show Row w20 g11 o.cs 45 from hZ ▸ HR11.out.setRow _)
               have HK20 := Lib.hid (show Below W.heap.size W w20 from hZ ▸ below_setRow HK19.out HG11.out _)
               have HLDo := Lib.hid (FOV.out w20 HK20.out)
               clear hZ)
            | (refine QB.wpList_ld 45 rfl rfl HLDo.out (by kernel_rfl) ?_; clear HLDo)
            | fail)
          clear HR11
          have HCo := Lib.hid (FCO.out w20)
          rw [show checkOpZ o = 0 from if_pos HV.out] at HCo
          refine HCo.out.mono ?_
          rintro e w21 ⟨rfl, hb⟩
          have HK21 := Lib.hid (show Below W.heap.size W w21 from nextB HK20.out (Nat.le_refl _) hb)
          have HR11 := Lib.hid (HR11'.out.below hb HR11'.out.lt)
          have HL1 := Lib.hid (show (loadVar 45 ⟨g11, 0, none⟩).run Try.prog w21 = .ok ov w21 by rw [HOV.out]; exact l_op HR11.out Hko.out)
          have HL2 := Lib.hid (FOV.out w21 HK21.out)
          have hgd : (eqGuard .eql 45 (.tmp 115) (.tmp 116) ov ov).run Try.prog w21 = .ok () w21 := by rw [HOV.out]; exact guard_of g_op _ _ _ _ _ _
          have hev : (binOp .eql 45 ov ov).run Try.prog w21 = .ok (.bool true) w21 := by have := HEQ.out w21; rw [HOV.out] at this ⊢; exact eql_of this
          clear hb HCo HR11' HEQ HOV
          go_wp2_with (first
            | (refine QB.wpList_ld 45 rfl rfl HL1.out (by kernel_rfl) ?_; clear HL1)
            | (refine QB.wpList_ld 45 rfl rfl HL2.out (by kernel_rfl) ?_; clear HL2)
            | fail)
          go_ret
          exact ⟨rfl, FWW.out w21 HK21.out⟩
        case neg =>
          have HV := Lib.hid hV
          have HOB := Lib.hid (fun (y : World) => show Calls Try.prog (23) #[ov] y _ from hov ▸ OpBytes_no (w := y) Hko.out HV.out)
          clear hV hov
          go_wp2_with (first
            | (refine QB.wpList_ld 45 rfl rfl HLDo.out (by kernel_rfl) ?_; clear HLDo)
            | fail)
          refine (HOB.out _).mono ?_
          rintro e w18 ⟨rfl, hb⟩
          have HK18 := Lib.hid (show Below W.heap.size W w18 from nextB HK17.out (Nat.le_refl _) hb)
          have HLDo := Lib.hid (FOV.out w18 HK18.out)
          have HCo := Lib.hid (FCO.out w18)
          rw [show checkOpZ o = 2 from if_neg HV.out] at HCo
          clear hb HOB HOV
          go_wp2_with (first
            | (refine QB.wpList_ld 45 rfl rfl HLDo.out (by kernel_rfl) ?_; clear HLDo)
            | fail)
          refine HCo.out.mono ?_
          rintro e w19 ⟨rfl, hb⟩
          have HK19 := Lib.hid (show Below W.heap.size W w19 from nextB HK18.out (Nat.le_refl _) hb)
          clear hb HCo
          go_wp2
          go_ret
          exact ⟨rfl, FWW.out w19 HK19.out⟩
  | none =>
    have he := hnone hrd
    subst he
    clear hsome hnone hrd
    go_wp2_with (first
      | (refine QB.wpList_alloc rfl 27 rfl zero_cfg ?_; intro X1 hx1 hy1; have HX1 := Lib.hid (show Row X1 w5.heap.size [.slice none 0 0, .slice none 0 0] 27 from hx1); have HY1 := Lib.hid hy1; clear hx1 hy1)
      | (refine wpList_storeRow rfl 27 (.tmp 7) (.tmp 29) rfl rfl (cs := [.slice none 0 0, .slice none 0 0]) rfl HX1.out (by kernel_rfl) rfl rfl (two_one _ _ _ _ _ _) ?_
         refine QB.name fun w6 hZ => ?_
         have hb6 : Below w5.heap.size w5 w6 := hZ ▸ below_setRow HY1.out (Nat.le_refl _) _
         have HR7 := Lib.hid (show Row w6 w5.heap.size [.slice none 0 0, .slice none 0 0] 27 from hZ ▸ HX1.out.setRow _)
         have HKw6 := Lib.hid (show Below W.heap.size W w6 from nextB HK5.out (Nat.le_refl _) hb6)
         have HG7 := Lib.hid (show W.heap.size ≤ w5.heap.size from HK5.out.size)
         clear hZ hb6 HX1 HY1)
      | fail)
    obtain ⟨g7, hg7⟩ : ∃ g, w5.heap.size = g := ⟨_, rfl⟩
    rw [hg7] at HR7 HG7 ⊢
    clear hg7
    refine (Own_any _ b _ (FB.out w6 HKw6.out) HLB.out).mono ?_
    rintro e w9 ⟨v9, rfl, ho9, hb9⟩
    have HO9 := Lib.hid ho9
    have HK9 := Lib.hid (show Below W.heap.size W w9 from nextB HKw6.out (Nat.le_refl _) hb9)
    have HR7 := Lib.hid (HR7.out.below hb9 HR7.out.lt)
    clear ho9 hb9
    go_wp2_with fail
    refine (ReadOp_any _ b _ HO9.out.bs HL4.out).mono ?_
    rintro e w10 ⟨hsome, hnone, hb10⟩
    have HK10 := Lib.hid (show Below W.heap.size W w10 from nextB HK9.out (Nat.le_refl _) hb10)
    have HR7 := Lib.hid (HR7.out.below hb10 HR7.out.lt)
    have HLT7 := Lib.hid HR7.out.lt
    clear hb10 HO9
    cases hro : rdOpn b with
    | some p =>
      have he := hsome p hro
      subst he
      obtain ⟨hbb, hV, hk, ha, hr⟩ := rdOpn_bytes hro
      have HPK := Lib.hid hk
      have HV := Lib.hid hV
      have HBB := Lib.hid hbb
      have HAA := Lib.hid (And.intro ha hr)
      clear hsome hnone hro hbb hV hk ha hr
      obtain ⟨pv, hpv⟩ : ∃ pv, p.val = pv := ⟨_, rfl⟩
      have HPV := Lib.hid (show pv = .agg p.cs.toArray from hpv.symm)
      have HLV := Lib.hid (fun (y : World) (g : Nat) (hy : Row y g p.cs 45) => show (loadVar 45 ⟨g, 0, none⟩).run Try.prog y = .ok pv y from hpv ▸ l_op hy HPK.out)
      have HOB := Lib.hid (fun (y : World) => show Calls Try.prog (23) #[pv] y _ from hpv ▸ OpBytes_ok (w := y) HPK.out HV.out HAA.out.1 HAA.out.2)
      rw [hpv]
      clear hpv
      go_wp2_with (first
        | (refine QB.wpList_alloc rfl 45 rfl zero_op ?_; intro X1 hx1 hy1; have HX1 := Lib.hid (show Row X1 w10.heap.size (zop 0 0).cs 45 from hx1); have HY1 := Lib.hid hy1; clear hx1 hy1)
        | (refine wpList_storeRow rfl 45 (.tmp 11) (.tmp 51) rfl rfl (cs := p.cs) HPV.out HX1.out (by kernel_rfl) (Opn.len HPK.out) (Opn.len zkey_len) (Opn.one _) ?_
           refine QB.name fun w11 hZ => ?_
           have hb6 : Below w10.heap.size w10 w11 := hZ ▸ below_setRow HY1.out (Nat.le_refl _) _
           have HR11 := Lib.hid (show Row w11 w10.heap.size p.cs 45 from hZ ▸ HX1.out.setRow _)
           have HK11 := Lib.hid (show Below W.heap.size W w11 from nextB HK10.out (Nat.le_refl _) hb6)
           have HR7 := Lib.hid (HR7.out.below hb6 HR7.out.lt)
           have HG11 := Lib.hid (show W.heap.size ≤ w10.heap.size from HK10.out.size)
           have HLD := Lib.hid (HLV.out w11 _ HR11.out)
           clear hZ hb6 HX1 HY1)
        | (refine QB.wpList_ld 45 rfl rfl HLD.out (by kernel_rfl) ?_; clear HLD)
        | fail)
      obtain ⟨g11, hg11⟩ : ∃ g, w10.heap.size = g := ⟨_, rfl⟩
      rw [hg11] at HR11 HG11 HLT7 ⊢
      refine (HOB.out w11).mono ?_
      rintro e w12 ⟨x, rfl, ho7, hb7⟩
      rw [HBB.out] at ho7
      have HK12 := Lib.hid (show Below W.heap.size W w12 from nextB HK11.out (Nat.le_refl _) hb7)
      have HR7 := Lib.hid (HR7.out.below hb7 HR7.out.lt)
      have HR11 := Lib.hid (HR11.out.below hb7 HR11.out.lt)
      have hr1 := run_str w12 ho7.bs
      have hr2 := run_str w12 (FB.out w12 HK12.out)
      obtain ⟨A9, c9, rfl⟩ := ho7.shape
      have hsg := str_guard .neq (.inr rfl) (.tmp 64) (.tmp 66) b b w12
      have hsn := str_neq b w12
      have HLO := Lib.hid (Opn.len HPK.out)
      have c0 := FP.out w12 HK12.out
      have c1 := FR.out w12 HK12.out
      clear hb7 ho7 HV HBB HAA hg11 HOB HLV HPV
      go_wp2_with fail
      clear hr1 hr2 hsg hsn c0 c1
      by_cases hV : Val c
      case pos =>
        have HV := Lib.hid hV
        have HRO := Lib.hid (rdCfg_own c hV (FCA.out w12 HK12.out).ps.1 HA.out)
        have HLE := Lib.hid (show (cenc c).length ≤ 35184372088832 by have := cenc_le hV (FCA.out w12 HK12.out).ps.1 HA.out; omega)
        clear hV
        refine (Bytes_ok (FCA.out w12 HK12.out) (FWW.out w12 HK12.out).size HV.out HA.out).mono ?_
        rintro e w13 ⟨x, rfl, ho, hb⟩
        have HK13 := Lib.hid (show Below W.heap.size W w13 from nextB HK12.out (Nat.le_refl _) hb)
        have HR7 := Lib.hid (HR7.out.below hb HR7.out.lt)
        have HR11 := Lib.hid (HR11.out.below hb HR11.out.lt)
        have HG7b := Lib.hid HR7.out.lt
        have HO := Lib.hid ho
        clear ho hb
        go_wp2_with fail
        refine (Read_any _ (cenc c) _ HO.out.bs HLE.out).mono ?_
        rintro e w14 ⟨hsome, _, hb⟩
        obtain ⟨v1, v2, rfl, hn⟩ := hsome c HRO.out
        obtain ⟨P2, a2, Q2, b2, rfl, rfl⟩ := hn.at.shape
        have HK14 := Lib.hid (show Below W.heap.size W w14 from nextB HK13.out (Nat.le_refl _) hb)
        have HR7 := Lib.hid (HR7.out.below hb HR7.out.lt)
        have HR11 := Lib.hid (HR11.out.below hb HR11.out.lt)
        have HCN := Lib.hid hn
        clear hsome hb hn HO HRO HLE
        go_wp2_with (first
          | (refine wpList_storeRow rfl 27 (.tmp 7) (.tmp 79) rfl rfl (cs := [.slice P2 c.ps.length a2, .slice Q2 c.rs.length b2]) rfl HR7.out (by kernel_rfl) rfl rfl (two_one _ _ _ _ _ _) ?_
             refine QB.name fun w15 hZ => ?_
             have HR7' := Lib.hid (show Row w15 g7 [.slice P2 c.ps.length a2, .slice Q2 c.rs.length b2] 27 from hZ ▸ HR7.out.setRow _)
             have HR11 := Lib.hid (show Row w15 g11 p.cs 45 from hZ ▸ HR11.out.setOther _ _ (by have := HLT7.out; omega))
             have HK15 := Lib.hid (show Below W.heap.size W w15 from hZ ▸ below_setRow HK14.out HG7.out _)
             have HCN := Lib.hid (show CNew w15 w13.heap.size (.slice P2 c.ps.length a2) (.slice Q2 c.rs.length b2) c from hZ ▸ HCN.out.setRow HG7b.out _)
             have c0 := FP.out w15 HK15.out
             have c1 := FR.out w15 HK15.out
             clear hZ)
          | fail)
        clear HR7
        have HCh := Lib.hid (Check_any (FCA.out w15 HK15.out) (FWW.out w15 HK15.out).size)
        rw [show checkZ c = 0 from if_pos HV.out] at HCh
        refine HCh.out.mono ?_
        rintro e w16 ⟨rfl, hb⟩
        have HK16 := Lib.hid (show Below W.heap.size W w16 from nextB HK15.out (Nat.le_refl _) hb)
        have HR7 := Lib.hid (HR7'.out.below hb HR7'.out.lt)
        have HR11 := Lib.hid (HR11.out.below hb HR11.out.lt)
        have HKt := Lib.hid (Kit_any (w := w16) (B := w16.heap.size) (HCN.out.below hb).at ((FCA.out w16 HK16.out).more (FWW.out w16 HK16.out).size) (by have := HN.out; omega) (by have := HN.out; omega) (Nat.le_refl _))
        rw [decide_eq_true rfl, decide_eq_true rfl, Bool.and_true] at HKt
        clear hb c0 c1 HCh HCN HR7'
        have c0 := FP.out w16 HK16.out
        have c1 := FR.out w16 HK16.out
        have m0 := HR7.out.cell (i := 0) rfl
        have m1 := HR7.out.cell (i := 1) rfl
        go_wp2_with fail
        refine HKt.out.mono ?_
        rintro e w17 ⟨rfl, hb⟩
        have HK17 := Lib.hid (show Below W.heap.size W w17 from nextB HK16.out (Nat.le_refl _) hb)
        have HR11 := Lib.hid (HR11.out.below hb HR11.out.lt)
        have HLDo := Lib.hid (FO.out w17 HK17.out)
        clear hb c0 c1 m0 m1 HKt HV HR7
        obtain ⟨ov, hov⟩ : ∃ ov, o.val = ov := ⟨_, rfl⟩
        have HOV := Lib.hid (show ov = .agg o.cs.toArray from hov.symm)
        have FOV := Lib.hid (fun (y : World) (hy : Below W.heap.size W y) => show (loadVar 45 ⟨g1, 0, none⟩).run Try.prog y = .ok ov y from hov ▸ FO.out y hy)
        have FCO := Lib.hid (fun (y : World) => show Calls Try.prog 28 #[ov] y _ from hov ▸ CheckOp_any o Hko.out y)
        rw [hov] at HLDo
        by_cases hV : okO o = true
        case pos =>
          have HV := Lib.hid hV
          have HRO := Lib.hid (rdOpn_own o hV Hko.out HOA.out.1 HOA.out.2)
          have HLE := Lib.hid (show o.enc.length ≤ 35184372088832 by have := oenc_le hV Hko.out HOA.out.1 HOA.out.2; omega)
          have HOB := Lib.hid (fun (y : World) => show Calls Try.prog (23) #[ov] y _ from hov ▸ OpBytes_ok (w := y) Hko.out HV.out HOA.out.1 HOA.out.2)
          have HEQ := Lib.hid (fun (y : World) => show (Op.equal 45 ov ov).run Try.prog y = .ok true y from hov ▸ (by have := eq_op o o Hko.out Hko.out y; rwa [decide_eq_true rfl] at this))
          clear hV hov
          go_wp2_with (first
            | (refine QB.wpList_ld 45 rfl rfl HLDo.out (by kernel_rfl) ?_; clear HLDo)
            | fail)
          refine (HOB.out _).mono ?_
          rintro e w18 ⟨x, rfl, ho, hb⟩
          have HK18 := Lib.hid (show Below W.heap.size W w18 from nextB HK17.out (Nat.le_refl _) hb)
          have HR11 := Lib.hid (HR11.out.below hb HR11.out.lt)
          have HO := Lib.hid ho
          clear ho hb HOB
          go_wp2_with fail
          refine (ReadOp_any _ o.enc _ HO.out.bs HLE.out).mono ?_
          rintro e w19 ⟨hsome, _, hb⟩
          have he := hsome o HRO.out
          subst he
          have HK19 := Lib.hid (show Below W.heap.size W w19 from nextB HK18.out (Nat.le_refl _) hb)
          have HR11 := Lib.hid (HR11.out.below hb HR11.out.lt)
          clear hb hsome HO HRO HLE
          rw [show o.val = ov from HOV.out.symm]
          go_wp2_with (first
            | (refine wpList_storeRow rfl 45 (.tmp 11) (.tmp 105) rfl rfl (cs := o.cs) HOV.out HR11.out (by kernel_rfl) (Opn.len Hko.out) HLO.out (Opn.one _) ?_
               refine QB.name fun w20 hZ => ?_
               have HR11' := Lib.hid (show Row w20 g11 o.cs 45 from hZ ▸ HR11.out.setRow _)
               have HK20 := Lib.hid (show Below W.heap.size W w20 from hZ ▸ below_setRow HK19.out HG11.out _)
               have HLDo := Lib.hid (FOV.out w20 HK20.out)
               clear hZ)
            | (refine QB.wpList_ld 45 rfl rfl HLDo.out (by kernel_rfl) ?_; clear HLDo)
            | fail)
          clear HR11
          have HCo := Lib.hid (FCO.out w20)
          rw [show checkOpZ o = 0 from if_pos HV.out] at HCo
          refine HCo.out.mono ?_
          rintro e w21 ⟨rfl, hb⟩
          have HK21 := Lib.hid (show Below W.heap.size W w21 from nextB HK20.out (Nat.le_refl _) hb)
          have HR11 := Lib.hid (HR11'.out.below hb HR11'.out.lt)
          have HL1 := Lib.hid (show (loadVar 45 ⟨g11, 0, none⟩).run Try.prog w21 = .ok ov w21 by rw [HOV.out]; exact l_op HR11.out Hko.out)
          have HL2 := Lib.hid (FOV.out w21 HK21.out)
          have hgd : (eqGuard .eql 45 (.tmp 115) (.tmp 116) ov ov).run Try.prog w21 = .ok () w21 := by rw [HOV.out]; exact guard_of g_op _ _ _ _ _ _
          have hev : (binOp .eql 45 ov ov).run Try.prog w21 = .ok (.bool true) w21 := by have := HEQ.out w21; rw [HOV.out] at this ⊢; exact eql_of this
          clear hb HCo HR11' HEQ HOV
          go_wp2_with (first
            | (refine QB.wpList_ld 45 rfl rfl HL1.out (by kernel_rfl) ?_; clear HL1)
            | (refine QB.wpList_ld 45 rfl rfl HL2.out (by kernel_rfl) ?_; clear HL2)
            | fail)
          go_ret
          exact ⟨rfl, FWW.out w21 HK21.out⟩
        case neg =>
          have HV := Lib.hid hV
          have HOB := Lib.hid (fun (y : World) => show Calls Try.prog (23) #[ov] y _ from hov ▸ OpBytes_no (w := y) Hko.out HV.out)
          clear hV hov
          go_wp2_with (first
            | (refine QB.wpList_ld 45 rfl rfl HLDo.out (by kernel_rfl) ?_; clear HLDo)
            | fail)
          refine (HOB.out _).mono ?_
          rintro e w18 ⟨rfl, hb⟩
          have HK18 := Lib.hid (show Below W.heap.size W w18 from nextB HK17.out (Nat.le_refl _) hb)
          have HLDo := Lib.hid (FOV.out w18 HK18.out)
          have HCo := Lib.hid (FCO.out w18)
          rw [show checkOpZ o = 2 from if_neg HV.out] at HCo
          clear hb HOB HOV
          go_wp2_with (first
            | (refine QB.wpList_ld 45 rfl rfl HLDo.out (by kernel_rfl) ?_; clear HLDo)
            | fail)
          refine HCo.out.mono ?_
          rintro e w19 ⟨rfl, hb⟩
          have HK19 := Lib.hid (show Below W.heap.size W w19 from nextB HK18.out (Nat.le_refl _) hb)
          clear hb HCo
          go_wp2
          go_ret
          exact ⟨rfl, FWW.out w19 HK19.out⟩
      case neg =>
        have HV := Lib.hid hV
        clear hV
        refine (Bytes_no (FCA.out w12 HK12.out) (FWW.out w12 HK12.out).size HV.out).mono ?_
        rintro e w13 ⟨rfl, hb⟩
        have HK13 := Lib.hid (show Below W.heap.size W w13 from nextB HK12.out (Nat.le_refl _) hb)
        have HR11 := Lib.hid (HR11.out.below hb HR11.out.lt)
        have HCh := Lib.hid (Check_any (FCA.out w13 HK13.out) (FWW.out w13 HK13.out).size)
        rw [show checkZ c = 2 from if_neg HV.out] at HCh
        have c0 := FP.out w13 HK13.out
        have c1 := FR.out w13 HK13.out
        clear hb
        go_wp2_with fail
        refine HCh.out.mono ?_
        rintro e w17 ⟨rfl, hb⟩
        have HK17 := Lib.hid (show Below W.heap.size W w17 from nextB HK13.out (Nat.le_refl _) hb)
        have HR11 := Lib.hid (HR11.out.below hb HR11.out.lt)
        have HLDo := Lib.hid (FO.out w17 HK17.out)
        clear hb c0 c1 HCh HV HR7
        obtain ⟨ov, hov⟩ : ∃ ov, o.val = ov := ⟨_, rfl⟩
        have HOV := Lib.hid (show ov = .agg o.cs.toArray from hov.symm)
        have FOV := Lib.hid (fun (y : World) (hy : Below W.heap.size W y) => show (loadVar 45 ⟨g1, 0, none⟩).run Try.prog y = .ok ov y from hov ▸ FO.out y hy)
        have FCO := Lib.hid (fun (y : World) => show Calls Try.prog 28 #[ov] y _ from hov ▸ CheckOp_any o Hko.out y)
        rw [hov] at HLDo
        by_cases hV : okO o = true
        case pos =>
          have HV := Lib.hid hV
          have HRO := Lib.hid (rdOpn_own o hV Hko.out HOA.out.1 HOA.out.2)
          have HLE := Lib.hid (show o.enc.length ≤ 35184372088832 by have := oenc_le hV Hko.out HOA.out.1 HOA.out.2; omega)
          have HOB := Lib.hid (fun (y : World) => show Calls Try.prog (23) #[ov] y _ from hov ▸ OpBytes_ok (w := y) Hko.out HV.out HOA.out.1 HOA.out.2)
          have HEQ := Lib.hid (fun (y : World) => show (Op.equal 45 ov ov).run Try.prog y = .ok true y from hov ▸ (by have := eq_op o o Hko.out Hko.out y; rwa [decide_eq_true rfl] at this))
          clear hV hov
          go_wp2_with (first
            | (refine QB.wpList_ld 45 rfl rfl HLDo.out (by kernel_rfl) ?_; clear HLDo)
            | fail)
          refine (HOB.out _).mono ?_
          rintro e w18 ⟨x, rfl, ho, hb⟩
          have HK18 := Lib.hid (show Below W.heap.size W w18 from nextB HK17.out (Nat.le_refl _) hb)
          have HR11 := Lib.hid (HR11.out.below hb HR11.out.lt)
          have HO := Lib.hid ho
          clear ho hb HOB
          go_wp2_with fail
          refine (ReadOp_any _ o.enc _ HO.out.bs HLE.out).mono ?_
          rintro e w19 ⟨hsome, _, hb⟩
          have he := hsome o HRO.out
          subst he
          have HK19 := Lib.hid (show Below W.heap.size W w19 from nextB HK18.out (Nat.le_refl _) hb)
          have HR11 := Lib.hid (HR11.out.below hb HR11.out.lt)
          clear hb hsome HO HRO HLE
          rw [show o.val = ov from HOV.out.symm]
          go_wp2_with (first
            | (refine wpList_storeRow rfl 45 (.tmp 11) (.tmp 105) rfl rfl (cs := o.cs) HOV.out HR11.out (by kernel_rfl) (Opn.len Hko.out) HLO.out (Opn.one _) ?_
               refine QB.name fun w20 hZ => ?_
               have HR11' := Lib.hid (show Row w20 g11 o.cs 45 from hZ ▸ HR11.out.setRow _)
               have HK20 := Lib.hid (show Below W.heap.size W w20 from hZ ▸ below_setRow HK19.out HG11.out _)
               have HLDo := Lib.hid (FOV.out w20 HK20.out)
               clear hZ)
            | (refine QB.wpList_ld 45 rfl rfl HLDo.out (by kernel_rfl) ?_; clear HLDo)
            | fail)
          clear HR11
          have HCo := Lib.hid (FCO.out w20)
          rw [show checkOpZ o = 0 from if_pos HV.out] at HCo
          refine HCo.out.mono ?_
          rintro e w21 ⟨rfl, hb⟩
          have HK21 := Lib.hid (show Below W.heap.size W w21 from nextB HK20.out (Nat.le_refl _) hb)
          have HR11 := Lib.hid (HR11'.out.below hb HR11'.out.lt)
          have HL1 := Lib.hid (show (loadVar 45 ⟨g11, 0, none⟩).run Try.prog w21 = .ok ov w21 by rw [HOV.out]; exact l_op HR11.out Hko.out)
          have HL2 := Lib.hid (FOV.out w21 HK21.out)
          have hgd : (eqGuard .eql 45 (.tmp 115) (.tmp 116) ov ov).run Try.prog w21 = .ok () w21 := by rw [HOV.out]; exact guard_of g_op _ _ _ _ _ _
          have hev : (binOp .eql 45 ov ov).run Try.prog w21 = .ok (.bool true) w21 := by have := HEQ.out w21; rw [HOV.out] at this ⊢; exact eql_of this
          clear hb HCo HR11' HEQ HOV
          go_wp2_with (first
            | (refine QB.wpList_ld 45 rfl rfl HL1.out (by kernel_rfl) ?_; clear HL1)
            | (refine QB.wpList_ld 45 rfl rfl HL2.out (by kernel_rfl) ?_; clear HL2)
            | fail)
          go_ret
          exact ⟨rfl, FWW.out w21 HK21.out⟩
        case neg =>
          have HV := Lib.hid hV
          have HOB := Lib.hid (fun (y : World) => show Calls Try.prog (23) #[ov] y _ from hov ▸ OpBytes_no (w := y) Hko.out HV.out)
          clear hV hov
          go_wp2_with (first
            | (refine QB.wpList_ld 45 rfl rfl HLDo.out (by kernel_rfl) ?_; clear HLDo)
            | fail)
          refine (HOB.out _).mono ?_
          rintro e w18 ⟨rfl, hb⟩
          have HK18 := Lib.hid (show Below W.heap.size W w18 from nextB HK17.out (Nat.le_refl _) hb)
          have HLDo := Lib.hid (FOV.out w18 HK18.out)
          have HCo := Lib.hid (FCO.out w18)
          rw [show checkOpZ o = 2 from if_neg HV.out] at HCo
          clear hb HOB HOV
          go_wp2_with (first
            | (refine QB.wpList_ld 45 rfl rfl HLDo.out (by kernel_rfl) ?_; clear HLDo)
            | fail)
          refine HCo.out.mono ?_
          rintro e w19 ⟨rfl, hb⟩
          have HK19 := Lib.hid (show Below W.heap.size W w19 from nextB HK18.out (Nat.le_refl _) hb)
          clear hb HCo
          go_wp2
          go_ret
          exact ⟨rfl, FWW.out w19 HK19.out⟩
    | none =>
      have he := hnone hro
      subst he
      clear hsome hnone hro
      obtain ⟨zo, hzo⟩ : ∃ zo, (zop 0 0).val = zo := ⟨_, rfl⟩
      have HZO := Lib.hid (show zo = .agg (zop 0 0).cs.toArray from hzo.symm)
      rw [hzo]
      clear hzo
      go_wp2_with (first
        | (refine QB.wpList_alloc rfl 45 rfl zero_op ?_; intro X1 hx1 hy1; have HX1 := Lib.hid (show Row X1 w10.heap.size (zop 0 0).cs 45 from hx1); have HY1 := Lib.hid hy1; clear hx1 hy1)
        | (refine wpList_storeRow rfl 45 (.tmp 11) (.tmp 51) rfl rfl (cs := (zop 0 0).cs) HZO.out HX1.out (by kernel_rfl) (Opn.len zkey_len) (Opn.len zkey_len) (Opn.one _) ?_
           refine QB.name fun w11 hZ => ?_
           have hb6 : Below w10.heap.size w10 w11 := hZ ▸ below_setRow HY1.out (Nat.le_refl _) _
           have HR11 := Lib.hid (show Row w11 w10.heap.size (zop 0 0).cs 45 from hZ ▸ HX1.out.setRow _)
           have HK11 := Lib.hid (show Below W.heap.size W w11 from nextB HK10.out (Nat.le_refl _) hb6)
           have HR7 := Lib.hid (HR7.out.below hb6 HR7.out.lt)
           have HG11 := Lib.hid (show W.heap.size ≤ w10.heap.size from HK10.out.size)
           have c0 := FP.out w11 HK11.out
           have c1 := FR.out w11 HK11.out
           clear hZ hb6 HX1 HY1)
        | fail)
      clear c0 c1
      obtain ⟨g11, hg11⟩ : ∃ g, w10.heap.size = g := ⟨_, rfl⟩
      rw [hg11] at HR11 HG11 HLT7 ⊢
      have HLO := Lib.hid (Opn.len zkey_len : (zop 0 0).cs.length = 37)
      clear hg11 HZO
      by_cases hV : Val c
      case pos =>
        have HV := Lib.hid hV
        have HRO := Lib.hid (rdCfg_own c hV (FCA.out w11 HK11.out).ps.1 HA.out)
        have HLE := Lib.hid (show (cenc c).length ≤ 35184372088832 by have := cenc_le hV (FCA.out w11 HK11.out).ps.1 HA.out; omega)
        clear hV
        refine (Bytes_ok (FCA.out w11 HK11.out) (FWW.out w11 HK11.out).size HV.out HA.out).mono ?_
        rintro e w13 ⟨x, rfl, ho, hb⟩
        have HK13 := Lib.hid (show Below W.heap.size W w13 from nextB HK11.out (Nat.le_refl _) hb)
        have HR7 := Lib.hid (HR7.out.below hb HR7.out.lt)
        have HR11 := Lib.hid (HR11.out.below hb HR11.out.lt)
        have HG7b := Lib.hid HR7.out.lt
        have HO := Lib.hid ho
        clear ho hb
        go_wp2_with fail
        refine (Read_any _ (cenc c) _ HO.out.bs HLE.out).mono ?_
        rintro e w14 ⟨hsome, _, hb⟩
        obtain ⟨v1, v2, rfl, hn⟩ := hsome c HRO.out
        obtain ⟨P2, a2, Q2, b2, rfl, rfl⟩ := hn.at.shape
        have HK14 := Lib.hid (show Below W.heap.size W w14 from nextB HK13.out (Nat.le_refl _) hb)
        have HR7 := Lib.hid (HR7.out.below hb HR7.out.lt)
        have HR11 := Lib.hid (HR11.out.below hb HR11.out.lt)
        have HCN := Lib.hid hn
        clear hsome hb hn HO HRO HLE
        go_wp2_with (first
          | (refine wpList_storeRow rfl 27 (.tmp 7) (.tmp 79) rfl rfl (cs := [.slice P2 c.ps.length a2, .slice Q2 c.rs.length b2]) rfl HR7.out (by kernel_rfl) rfl rfl (two_one _ _ _ _ _ _) ?_
             refine QB.name fun w15 hZ => ?_
             have HR7' := Lib.hid (show Row w15 g7 [.slice P2 c.ps.length a2, .slice Q2 c.rs.length b2] 27 from hZ ▸ HR7.out.setRow _)
             have HR11 := Lib.hid (show Row w15 g11 (zop 0 0).cs 45 from hZ ▸ HR11.out.setOther _ _ (by have := HLT7.out; omega))
             have HK15 := Lib.hid (show Below W.heap.size W w15 from hZ ▸ below_setRow HK14.out HG7.out _)
             have HCN := Lib.hid (show CNew w15 w13.heap.size (.slice P2 c.ps.length a2) (.slice Q2 c.rs.length b2) c from hZ ▸ HCN.out.setRow HG7b.out _)
             have c0 := FP.out w15 HK15.out
             have c1 := FR.out w15 HK15.out
             clear hZ)
          | fail)
        clear HR7
        have HCh := Lib.hid (Check_any (FCA.out w15 HK15.out) (FWW.out w15 HK15.out).size)
        rw [show checkZ c = 0 from if_pos HV.out] at HCh
        refine HCh.out.mono ?_
        rintro e w16 ⟨rfl, hb⟩
        have HK16 := Lib.hid (show Below W.heap.size W w16 from nextB HK15.out (Nat.le_refl _) hb)
        have HR7 := Lib.hid (HR7'.out.below hb HR7'.out.lt)
        have HR11 := Lib.hid (HR11.out.below hb HR11.out.lt)
        have HKt := Lib.hid (Kit_any (w := w16) (B := w16.heap.size) (HCN.out.below hb).at ((FCA.out w16 HK16.out).more (FWW.out w16 HK16.out).size) (by have := HN.out; omega) (by have := HN.out; omega) (Nat.le_refl _))
        rw [decide_eq_true rfl, decide_eq_true rfl, Bool.and_true] at HKt
        clear hb c0 c1 HCh HCN HR7'
        have c0 := FP.out w16 HK16.out
        have c1 := FR.out w16 HK16.out
        have m0 := HR7.out.cell (i := 0) rfl
        have m1 := HR7.out.cell (i := 1) rfl
        go_wp2_with fail
        refine HKt.out.mono ?_
        rintro e w17 ⟨rfl, hb⟩
        have HK17 := Lib.hid (show Below W.heap.size W w17 from nextB HK16.out (Nat.le_refl _) hb)
        have HR11 := Lib.hid (HR11.out.below hb HR11.out.lt)
        have HLDo := Lib.hid (FO.out w17 HK17.out)
        clear hb c0 c1 m0 m1 HKt HV HR7
        obtain ⟨ov, hov⟩ : ∃ ov, o.val = ov := ⟨_, rfl⟩
        have HOV := Lib.hid (show ov = .agg o.cs.toArray from hov.symm)
        have FOV := Lib.hid (fun (y : World) (hy : Below W.heap.size W y) => show (loadVar 45 ⟨g1, 0, none⟩).run Try.prog y = .ok ov y from hov ▸ FO.out y hy)
        have FCO := Lib.hid (fun (y : World) => show Calls Try.prog 28 #[ov] y _ from hov ▸ CheckOp_any o Hko.out y)
        rw [hov] at HLDo
        by_cases hV : okO o = true
        case pos =>
          have HV := Lib.hid hV
          have HRO := Lib.hid (rdOpn_own o hV Hko.out HOA.out.1 HOA.out.2)
          have HLE := Lib.hid (show o.enc.length ≤ 35184372088832 by have := oenc_le hV Hko.out HOA.out.1 HOA.out.2; omega)
          have HOB := Lib.hid (fun (y : World) => show Calls Try.prog (23) #[ov] y _ from hov ▸ OpBytes_ok (w := y) Hko.out HV.out HOA.out.1 HOA.out.2)
          have HEQ := Lib.hid (fun (y : World) => show (Op.equal 45 ov ov).run Try.prog y = .ok true y from hov ▸ (by have := eq_op o o Hko.out Hko.out y; rwa [decide_eq_true rfl] at this))
          clear hV hov
          go_wp2_with (first
            | (refine QB.wpList_ld 45 rfl rfl HLDo.out (by kernel_rfl) ?_; clear HLDo)
            | fail)
          refine (HOB.out _).mono ?_
          rintro e w18 ⟨x, rfl, ho, hb⟩
          have HK18 := Lib.hid (show Below W.heap.size W w18 from nextB HK17.out (Nat.le_refl _) hb)
          have HR11 := Lib.hid (HR11.out.below hb HR11.out.lt)
          have HO := Lib.hid ho
          clear ho hb HOB
          go_wp2_with fail
          refine (ReadOp_any _ o.enc _ HO.out.bs HLE.out).mono ?_
          rintro e w19 ⟨hsome, _, hb⟩
          have he := hsome o HRO.out
          subst he
          have HK19 := Lib.hid (show Below W.heap.size W w19 from nextB HK18.out (Nat.le_refl _) hb)
          have HR11 := Lib.hid (HR11.out.below hb HR11.out.lt)
          clear hb hsome HO HRO HLE
          rw [show o.val = ov from HOV.out.symm]
          go_wp2_with (first
            | (refine wpList_storeRow rfl 45 (.tmp 11) (.tmp 105) rfl rfl (cs := o.cs) HOV.out HR11.out (by kernel_rfl) (Opn.len Hko.out) HLO.out (Opn.one _) ?_
               refine QB.name fun w20 hZ => ?_
               have HR11' := Lib.hid (show Row w20 g11 o.cs 45 from hZ ▸ HR11.out.setRow _)
               have HK20 := Lib.hid (show Below W.heap.size W w20 from hZ ▸ below_setRow HK19.out HG11.out _)
               have HLDo := Lib.hid (FOV.out w20 HK20.out)
               clear hZ)
            | (refine QB.wpList_ld 45 rfl rfl HLDo.out (by kernel_rfl) ?_; clear HLDo)
            | fail)
          clear HR11
          have HCo := Lib.hid (FCO.out w20)
          rw [show checkOpZ o = 0 from if_pos HV.out] at HCo
          refine HCo.out.mono ?_
          rintro e w21 ⟨rfl, hb⟩
          have HK21 := Lib.hid (show Below W.heap.size W w21 from nextB HK20.out (Nat.le_refl _) hb)
          have HR11 := Lib.hid (HR11'.out.below hb HR11'.out.lt)
          have HL1 := Lib.hid (show (loadVar 45 ⟨g11, 0, none⟩).run Try.prog w21 = .ok ov w21 by rw [HOV.out]; exact l_op HR11.out Hko.out)
          have HL2 := Lib.hid (FOV.out w21 HK21.out)
          have hgd : (eqGuard .eql 45 (.tmp 115) (.tmp 116) ov ov).run Try.prog w21 = .ok () w21 := by rw [HOV.out]; exact guard_of g_op _ _ _ _ _ _
          have hev : (binOp .eql 45 ov ov).run Try.prog w21 = .ok (.bool true) w21 := by have := HEQ.out w21; rw [HOV.out] at this ⊢; exact eql_of this
          clear hb HCo HR11' HEQ HOV
          go_wp2_with (first
            | (refine QB.wpList_ld 45 rfl rfl HL1.out (by kernel_rfl) ?_; clear HL1)
            | (refine QB.wpList_ld 45 rfl rfl HL2.out (by kernel_rfl) ?_; clear HL2)
            | fail)
          go_ret
          exact ⟨rfl, FWW.out w21 HK21.out⟩
        case neg =>
          have HV := Lib.hid hV
          have HOB := Lib.hid (fun (y : World) => show Calls Try.prog (23) #[ov] y _ from hov ▸ OpBytes_no (w := y) Hko.out HV.out)
          clear hV hov
          go_wp2_with (first
            | (refine QB.wpList_ld 45 rfl rfl HLDo.out (by kernel_rfl) ?_; clear HLDo)
            | fail)
          refine (HOB.out _).mono ?_
          rintro e w18 ⟨rfl, hb⟩
          have HK18 := Lib.hid (show Below W.heap.size W w18 from nextB HK17.out (Nat.le_refl _) hb)
          have HLDo := Lib.hid (FOV.out w18 HK18.out)
          have HCo := Lib.hid (FCO.out w18)
          rw [show checkOpZ o = 2 from if_neg HV.out] at HCo
          clear hb HOB HOV
          go_wp2_with (first
            | (refine QB.wpList_ld 45 rfl rfl HLDo.out (by kernel_rfl) ?_; clear HLDo)
            | fail)
          refine HCo.out.mono ?_
          rintro e w19 ⟨rfl, hb⟩
          have HK19 := Lib.hid (show Below W.heap.size W w19 from nextB HK18.out (Nat.le_refl _) hb)
          clear hb HCo
          go_wp2
          go_ret
          exact ⟨rfl, FWW.out w19 HK19.out⟩
      case neg =>
        have HV := Lib.hid hV
        clear hV
        refine (Bytes_no (FCA.out w11 HK11.out) (FWW.out w11 HK11.out).size HV.out).mono ?_
        rintro e w13 ⟨rfl, hb⟩
        have HK13 := Lib.hid (show Below W.heap.size W w13 from nextB HK11.out (Nat.le_refl _) hb)
        have HR11 := Lib.hid (HR11.out.below hb HR11.out.lt)
        have HCh := Lib.hid (Check_any (FCA.out w13 HK13.out) (FWW.out w13 HK13.out).size)
        rw [show checkZ c = 2 from if_neg HV.out] at HCh
        have c0 := FP.out w13 HK13.out
        have c1 := FR.out w13 HK13.out
        clear hb
        go_wp2_with fail
        refine HCh.out.mono ?_
        rintro e w17 ⟨rfl, hb⟩
        have HK17 := Lib.hid (show Below W.heap.size W w17 from nextB HK13.out (Nat.le_refl _) hb)
        have HR11 := Lib.hid (HR11.out.below hb HR11.out.lt)
        have HLDo := Lib.hid (FO.out w17 HK17.out)
        clear hb c0 c1 HCh HV HR7
        obtain ⟨ov, hov⟩ : ∃ ov, o.val = ov := ⟨_, rfl⟩
        have HOV := Lib.hid (show ov = .agg o.cs.toArray from hov.symm)
        have FOV := Lib.hid (fun (y : World) (hy : Below W.heap.size W y) => show (loadVar 45 ⟨g1, 0, none⟩).run Try.prog y = .ok ov y from hov ▸ FO.out y hy)
        have FCO := Lib.hid (fun (y : World) => show Calls Try.prog 28 #[ov] y _ from hov ▸ CheckOp_any o Hko.out y)
        rw [hov] at HLDo
        by_cases hV : okO o = true
        case pos =>
          have HV := Lib.hid hV
          have HRO := Lib.hid (rdOpn_own o hV Hko.out HOA.out.1 HOA.out.2)
          have HLE := Lib.hid (show o.enc.length ≤ 35184372088832 by have := oenc_le hV Hko.out HOA.out.1 HOA.out.2; omega)
          have HOB := Lib.hid (fun (y : World) => show Calls Try.prog (23) #[ov] y _ from hov ▸ OpBytes_ok (w := y) Hko.out HV.out HOA.out.1 HOA.out.2)
          have HEQ := Lib.hid (fun (y : World) => show (Op.equal 45 ov ov).run Try.prog y = .ok true y from hov ▸ (by have := eq_op o o Hko.out Hko.out y; rwa [decide_eq_true rfl] at this))
          clear hV hov
          go_wp2_with (first
            | (refine QB.wpList_ld 45 rfl rfl HLDo.out (by kernel_rfl) ?_; clear HLDo)
            | fail)
          refine (HOB.out _).mono ?_
          rintro e w18 ⟨x, rfl, ho, hb⟩
          have HK18 := Lib.hid (show Below W.heap.size W w18 from nextB HK17.out (Nat.le_refl _) hb)
          have HR11 := Lib.hid (HR11.out.below hb HR11.out.lt)
          have HO := Lib.hid ho
          clear ho hb HOB
          go_wp2_with fail
          refine (ReadOp_any _ o.enc _ HO.out.bs HLE.out).mono ?_
          rintro e w19 ⟨hsome, _, hb⟩
          have he := hsome o HRO.out
          subst he
          have HK19 := Lib.hid (show Below W.heap.size W w19 from nextB HK18.out (Nat.le_refl _) hb)
          have HR11 := Lib.hid (HR11.out.below hb HR11.out.lt)
          clear hb hsome HO HRO HLE
          rw [show o.val = ov from HOV.out.symm]
          go_wp2_with (first
            | (refine wpList_storeRow rfl 45 (.tmp 11) (.tmp 105) rfl rfl (cs := o.cs) HOV.out HR11.out (by kernel_rfl) (Opn.len Hko.out) HLO.out (Opn.one _) ?_
               refine QB.name fun w20 hZ => ?_
               have HR11' := Lib.hid (show Row w20 g11 o.cs 45 from hZ ▸ HR11.out.setRow _)
               have HK20 := Lib.hid (show Below W.heap.size W w20 from hZ ▸ below_setRow HK19.out HG11.out _)
               have HLDo := Lib.hid (FOV.out w20 HK20.out)
               clear hZ)
            | (refine QB.wpList_ld 45 rfl rfl HLDo.out (by kernel_rfl) ?_; clear HLDo)
            | fail)
          clear HR11
          have HCo := Lib.hid (FCO.out w20)
          rw [show checkOpZ o = 0 from if_pos HV.out] at HCo
          refine HCo.out.mono ?_
          rintro e w21 ⟨rfl, hb⟩
          have HK21 := Lib.hid (show Below W.heap.size W w21 from nextB HK20.out (Nat.le_refl _) hb)
          have HR11 := Lib.hid (HR11'.out.below hb HR11'.out.lt)
          have HL1 := Lib.hid (show (loadVar 45 ⟨g11, 0, none⟩).run Try.prog w21 = .ok ov w21 by rw [HOV.out]; exact l_op HR11.out Hko.out)
          have HL2 := Lib.hid (FOV.out w21 HK21.out)
          have hgd : (eqGuard .eql 45 (.tmp 115) (.tmp 116) ov ov).run Try.prog w21 = .ok () w21 := by rw [HOV.out]; exact guard_of g_op _ _ _ _ _ _
          have hev : (binOp .eql 45 ov ov).run Try.prog w21 = .ok (.bool true) w21 := by have := HEQ.out w21; rw [HOV.out] at this ⊢; exact eql_of this
          clear hb HCo HR11' HEQ HOV
          go_wp2_with (first
            | (refine QB.wpList_ld 45 rfl rfl HL1.out (by kernel_rfl) ?_; clear HL1)
            | (refine QB.wpList_ld 45 rfl rfl HL2.out (by kernel_rfl) ?_; clear HL2)
            | fail)
          go_ret
          exact ⟨rfl, FWW.out w21 HK21.out⟩
        case neg =>
          have HV := Lib.hid hV
          have HOB := Lib.hid (fun (y : World) => show Calls Try.prog (23) #[ov] y _ from hov ▸ OpBytes_no (w := y) Hko.out HV.out)
          clear hV hov
          go_wp2_with (first
            | (refine QB.wpList_ld 45 rfl rfl HLDo.out (by kernel_rfl) ?_; clear HLDo)
            | fail)
          refine (HOB.out _).mono ?_
          rintro e w18 ⟨rfl, hb⟩
          have HK18 := Lib.hid (show Below W.heap.size W w18 from nextB HK17.out (Nat.le_refl _) hb)
          have HLDo := Lib.hid (FOV.out w18 HK18.out)
          have HCo := Lib.hid (FCO.out w18)
          rw [show checkOpZ o = 2 from if_neg HV.out] at HCo
          clear hb HOB HOV
          go_wp2_with (first
            | (refine QB.wpList_ld 45 rfl rfl HLDo.out (by kernel_rfl) ?_; clear HLDo)
            | fail)
          refine HCo.out.mono ?_
          rintro e w19 ⟨rfl, hb⟩
          have HK19 := Lib.hid (show Below W.heap.size W w19 from nextB HK18.out (Nat.le_refl _) hb)
          clear hb HCo
          go_wp2
          go_ret
          exact ⟨rfl, FWW.out w19 HK19.out⟩

set_option maxRecDepth 100000 in
theorem lift (os : Os) (started : os.Started) (H : Type) (enc : TypeId × Value → H) :
    ReturnsInHanded {} Try.checked os 5 .any (Rows.configBackSpec.pre6 enc Try.prog Try.f5 Rows.configBackRow.domain false) (Rows.configBackSpec.post enc Try.prog Try.f5 false true false false) := by
  refine Law.lifted (C := Try.checked) 4 own started (by kernel_rfl) Try.func5 laid (by kernel_rfl) rfl Try.underlying4 rfl
    (fun ds hd => by
      have hd' : ds.length = 3 := hd
      match ds, hd' with
      | [d0, d1, d2], _ => rfl)
    (ChangeSpec.witness6 (enc := enc) (C := Try.checked) false ⟨#[], #[.agg #[.slice none 0 0, .slice none 0 0], (Opn.val ⟨0, 0, 0, zkey, 0, 0⟩), .slice none 0 0], []⟩ 8 (by kernel_rfl) (by kernel_rfl) (by kernel_rfl) (by kernel_rfl)) ?_
  intro W args ds ps hst
  have hA : DataW.TrodAll enc Try.prog W 0 (fun _ => true) true Try.f5.params.toList args.toList ds ps := hst.trod
  have hok := hst.okw
  have hlt := hst.lt
  rw [Try.params5] at hA hok
  obtain ⟨v0, v1, v2, d0, d1, d2, p0, p1, p2, rfl, rfl, rfl, h0, h1, h2⟩ := trodAll_three hA
  obtain ⟨_, hv0⟩ := hok 0 27 v0 rfl rfl
  obtain ⟨_, hv1⟩ := hok 1 45 v1 rfl rfl
  obtain ⟨_, hv2⟩ := hok 2 63 v2 rfl rfl
  obtain ⟨vp, vr, c, rfl, hc, ha⟩ := cfg_at hv0 h0 (fun x hx => hlt x (by simp [hx]))
  obtain ⟨o, ⟨rfl, hk, hoa, _⟩, hor⟩ := op_atR hv1
  obtain ⟨b, hb, _⟩ := Law.bytes_at Try.underlying63 hv2 h2 (fun x hx => hlt x (by simp [hx]))
  have hb0 := hb
  obtain ⟨AB, cB, rfl, _, _⟩ := hb0
  exact walk hc ha hk hoa ⟨hor.1, by omega⟩ hb

theorem over : Rows.configBackRow.holds Try.pinned (OpenSpec.ofChange Rows.configBackSpec) :=
  OpenClaim.holds_of_wide 5 Try.f5 rfl rfl rfl rfl rfl rfl rfl ⟨rfl, rfl, rfl, rfl, rfl⟩ rfl rfl rfl rfl rfl (by kernel_rfl) Try.func5 (by kernel_rfl)
    (of_decide_eq_true (by kernel_rfl)) (by unfold Func.isWrapper; first | (rw [if_pos (by decide +kernel)]; kernel_rfl) | (rw [if_neg (by decide +kernel)]; exact ⟨rfl, rfl⟩))
    (fun os started H enc _ => lift os started H enc)
theorem proved : Rows.ConfigBackSaid := over
#print axioms proved
end Go.Proofs.Ytiogadhgbkpemaa.cfgBack
