/- What is encoded is read back, and nothing else is: 'drawbridgelaw11.WireBack', for every argument. -/
import Derived.Test.YtedmogacklbcmaaWirKit
import Derived.Test.YtedmogacklbcmaaWirArgsR
import Derived.Test.YtedmogacklbcmaaWirLives
import Derived.Test.YtedmogacklbcmaaLaw
namespace Go.Proofs.Ytedmogacklbcmaa.wireBack
open Go.ChangeShapes Go.WideShapes Go.ChangeAt Go.RowKit Go.Maps
open Cfg Wir RdK
theorem own : ownKnob Try.checked.prog.godebug = none := by kernel_rfl
theorem laid : laidOutB Try.checked.prog = true := by kernel_rfl
theorem own_kept {w w' : World} {base : Nat} {v : Value} {l : List UInt8} {g : Nat} (h : Own w base v l) (hg : w.grownBy w' (some g)) (hlt : g < base) : Own w' base v l :=
  Own.kept h hg (by cases hv : v.ownBlock with | none => exact .inl rfl | some i => exact .inr fun e => by injection e with e; have := (h.block_ge hv).1; omega)
theorem own_apart {w w' : World} {b1 b2 : Nat} {v x : Value} {l k : List UInt8} (h : Own w b1 v l) (hx : Own w b2 x k) (hg : w.grownBy w' x.ownBlock) (hlt : ∀ i, x.ownBlock = some i → i < b1) : Own w' b1 v l :=
  Own.kept h hg (by cases hv : v.ownBlock with | none => exact .inl rfl | some i => exact .inr fun e => by have h1 := (h.block_ge hv).1; have := hlt i e.symm; omega)
theorem ownE_apart {w w' : World} {b1 : Nat} {v x : Value} {l : List En} (h : OwnE w b1 v l) (hg : w.grownBy w' x.ownBlock) (hlt : ∀ i, x.ownBlock = some i → i < b1) : OwnE w' b1 v l :=
  ⟨h.1, World.ownsRow.kept h.2 hg (by cases hv : v.ownBlock with | none => exact .inl rfl | some i => exact .inr fun e => by have h1 := (h.2.lt i hv).1; have := hlt i e.symm; omega)⟩
theorem below_grown {B : Nat} {a b : World} {row : Option Nat} (h : a.grownBy b row) (hr : ∀ g, row = some g → B ≤ g) (hB : B ≤ a.heap.size) : Below B a b := ⟨h.os, h.tape, h.output, h.size, fun k hk => h.block k (by omega) (fun e => by have := hr k e.symm; omega)⟩
theorem bs_zero {W V : World} (h : W.alloc (.cells #[.int .u8 0] 5) = V) : Bs V V.heap.size (.slice (some ⟨W.heap.size, 0, none⟩) 1 1) [0] := by
  have hr : Row (W.alloc (.cells ([(0 : UInt8)].map bv).toArray 5)) W.heap.size ([(0 : UInt8)].map bv) 5 := Row.new rfl rfl
  have hr2 : Row V W.heap.size ([(0 : UInt8)].map bv) 5 := h ▸ hr
  exact hr2.bs (B := V.heap.size) hr2.lt
set_option maxRecDepth 100000 in
theorem run_zero (w : World) : (Instr.buildSlice 31 1 #[(0, .int .u8 0)]).run Try.prog w = .ok (.slice (some ⟨w.heap.size, 0, none⟩) 1 1) (w.alloc (.cells #[.int .u8 0] 5)) := by kernel_rfl
theorem menc_le {m : Ms} (hV : checkMZ m = 0) (hK : ∀ e ∈ m.es, e.K) (hR : m.R) : m.enc.length ≤ 10000000 := by
  obtain ⟨v1, v2, v3, v4, v5⟩ := valid_range hV
  have h1 := Cfg.flat_le (f := fun e : En => blk e.enc) (K := 209) (l := m.es) fun e he => by
    have h2 := En.enc_le (hK e he) (v5 e he) (hR.es e he)
    have h3 := Num.enc_le (n := e.enc.length) (by omega)
    unfold blk
    rw [List.length_append]
    omega
  have hk := Num.enc_le (n := m.kind.toNat) (by omega)
  have he := Num.enc_le (n := m.ep.toNat) (by have := hR.ep; omega)
  have hx := Num.enc_le (n := m.ix.toNat) (by have := hR.ix; omega)
  have hp := Num.enc_le (n := m.prev.toNat) (by have := hR.prev; omega)
  have hu := Num.enc_le (n := m.upto.toNat) (by have := hR.upto; omega)
  have hr := Num.enc_le (n := m.ref.toNat) (by have := hR.ref; omega)
  have hn := Num.enc_le (n := m.node.toNat) (by omega)
  have hi := Num.enc_le (n := bnat m.is) (by cases m.is <;> decide)
  have hl := Num.enc_le (n := m.es.length) (by omega)
  have hb := Num.enc_le (n := m.body.length) (by omega)
  have hh : m.head.length = (Oct.enc m.kind.toNat).length + ((Oct.enc m.ep.toNat).length + ((Oct.enc m.ix.toNat).length + ((Oct.enc m.prev.toNat).length + ((Oct.enc m.upto.toNat).length + ((Oct.enc m.ref.toNat).length + ((Oct.enc m.node.toNat).length + ((Oct.enc (bnat m.is)).length + (Oct.enc m.es.length).length))))))) := by
    unfold Ms.head
    simp [Num.encs]
  unfold Ms.enc
  rw [List.length_append, List.length_append, hh]
  unfold blk at h1 ⊢
  rw [List.length_append]
  omega
set_option maxRecDepth 100000 in
set_option maxHeartbeats 40000000 in
theorem walk {w : World} {ve0 vb0 : Value} {m : Ms} {e : En} {AB : Option Addr} {cB : Nat} {b : List UInt8} (hek : e.K) (her : e.R) (hm : MAt w w.heap.size ve0 vb0 m) (hmr : m.R) (hb : Bs w w.heap.size (.slice AB b.length cB) b) :
    Calls Try.prog 4 #[e.val, .agg (m.cs ve0 vb0).toArray, .slice AB b.length cB] w fun r w' => r = .returned (.bool true) ∧ Below w.heap.size w w' := by
  obtain ⟨A1, n1, A2, n2, rfl, rfl, _, _⟩ := hm.shape
  obtain ⟨mc, hmc⟩ : ∃ mc, m.cs (.slice A1 m.es.length n1) (.slice A2 m.body.length n2) = mc := ⟨_, rfl⟩
  obtain ⟨ec, hec⟩ : ∃ ec, e.cs = ec := ⟨_, rfl⟩
  obtain ⟨W0, hW0⟩ : ∃ W0, (w.alloc (.cells ec.toArray 49)).alloc (.cells mc.toArray 52) = W0 := ⟨_, rfl⟩
  have hb0 : Below w.heap.size w W0 := hW0 ▸ ((Below.refl _ w).alloc (Nat.le_refl _) _).alloc (by simp) _
  have hr0 : Row W0 w.heap.size ec 49 := hW0 ▸ (Row.new rfl rfl : Row (w.alloc (.cells ec.toArray 49)) w.heap.size ec 49).alloc _
  have hr1 : Row W0 (w.heap.size + 1) mc 52 := hW0 ▸ Row.new (by simp) rfl
  have HR0 := Lib.hid hr0
  have HR1 := Lib.hid hr1
  have HB0 := Lib.hid hb0
  have HM := Lib.hid hm
  have HEK := Lib.hid hek
  have HER := Lib.hid her
  have HMR := Lib.hid hmr
  have Hb := Lib.hid hb
  have HEC := Lib.hid hec
  have HMC := Lib.hid hmc
  unfold En.val
  rw [hec, hmc]
  clear hek her hm hmr hr0 hr1 hb0 hb hec hmc
  go_enter Try.func4, Try.ntmps4
  go_wp2_with fail
  refine (lives_any _).mono ?_
  rintro r W ⟨rfl, hbw⟩
  have HB := Lib.hid hbw
  have HL := Lib.hid (Light_any m A1 A2 n1 n2 W)
  rw [HMC.out] at HL
  clear hbw
  clear hW0
  have HBW := Lib.hid (show Below w.heap.size w W from nextB HB0.out (Nat.le_refl _) HB.out)
  have KR0 := Lib.hid (HR0.out.below HB.out HR0.out.lt)
  have KR1 := Lib.hid (HR1.out.below HB.out HR1.out.lt)
  obtain ⟨g0, hg0⟩ : ∃ g, w.heap.size = g := ⟨_, rfl⟩
  obtain ⟨g1, hg1⟩ : ∃ g, w.heap.size + 1 = g := ⟨_, rfl⟩
  have HRe := Lib.hid (show Row W g0 ec 49 from hg0 ▸ KR0.out)
  have HRm := Lib.hid (show Row W g1 mc 52 from hg1 ▸ KR1.out)
  obtain ⟨ev, hev⟩ : ∃ ev, Value.agg ec.toArray = ev := ⟨_, rfl⟩
  have HEV := Lib.hid (show e.val = ev by unfold En.val; rw [HEC.out]; exact hev)
  have FE := Lib.hid (fun w' (h : Below W.heap.size W w') => show (loadVar 49 ⟨g0, 0, none⟩).run Try.prog w' = .ok ev w' from by
    rw [← HEV.out]
    exact l_ent (HEC.out ▸ HRe.out.below h HRe.out.lt) HEK.out)
  have FM := Lib.hid (fun w' (h : Below W.heap.size W w') => show (loadVar 52 ⟨g1, 0, none⟩).run Try.prog w' = .ok (.agg mc.toArray) w' from by
    rw [← HMC.out]
    exact l_msg (HMC.out ▸ HRm.out.below h HRm.out.lt))
  have FMA := Lib.hid (fun w' (h : Below W.heap.size W w') => show MAt w' w.heap.size (.slice A1 m.es.length n1) (.slice A2 m.body.length n2) m from HM.out.below (nextB HBW.out (Nat.le_refl _) h))
  have FB := Lib.hid (fun w' (h : Below W.heap.size W w') => show Bs w' w'.heap.size (.slice AB b.length cB) b from (Hb.out.below (nextB HBW.out (Nat.le_refl _) h)).more (nextB HBW.out (Nat.le_refl _) h).size)
  have FWW := Lib.hid (fun w' (h : Below W.heap.size W w') => show Below w.heap.size w w' from nextB HBW.out (Nat.le_refl _) h)
  obtain ⟨li, hli⟩ : ∃ li, (decide (m.es.length ≤ 40) && decide (m.body.length ≤ 4000)) = li := ⟨_, rfl⟩
  rw [hli] at HL
  have HLI := Lib.hid hli
  rw [hg1, hg0]
  clear hli hg0 hg1 HR0 HR1 KR0 KR1 HB HB0 HRe HRm Hb hev HM
  have HLM := Lib.hid (FM.out W (Below.refl _ _))
  go_wp2_with (first | (refine QB.wpList_ld 52 rfl rfl HLM.out (by kernel_rfl) ?_; clear HLM) | fail)
  refine HL.out.mono ?_
  rintro r W3 ⟨rfl, hb3⟩
  have HB3 := Lib.hid hb3
  clear hb3 HL
  cases li with
  | false =>
    go_wp2
    go_ret
    exact ⟨rfl, FWW.out W3 HB3.out⟩
  | true =>
  have HN := Lib.hid (show m.es.length ≤ 40 by have := HLI.out; simp only [Bool.and_eq_true, decide_eq_true_eq] at this; exact this.1)
  clear HLI
  by_cases hlen : 4000 < b.length
  · have hlen' : (4000 : Int) < (b.length : Int) := by omega
    go_wp2
    go_ret
    exact ⟨rfl, FWW.out W3 HB3.out⟩
  have hlen' : ¬ (4000 : Int) < (b.length : Int) := by omega
  have HL4 := Lib.hid (show b.length ≤ 35184372088832 by omega)
  have HLB := Lib.hid (show b.length ≤ 140737488355327 by omega)
  clear hlen
  go_wp2_with fail
  refine (Own_any _ b _ (FB.out W3 HB3.out) HLB.out).mono ?_
  rintro r w4 ⟨v4, rfl, ho4, hb4⟩
  have HO4 := Lib.hid ho4
  have HK4 := Lib.hid (show Below W.heap.size W w4 from nextB HB3.out (Nat.le_refl _) hb4)
  clear ho4 hb4
  go_wp2_with fail
  refine (ReadEntry_any _ b _ HO4.out.bs HL4.out).mono ?_
  rintro r w5 ⟨hsome, hnone, hb5⟩
  have HK5 := Lib.hid (show Below W.heap.size W w5 from nextB HK4.out (Nat.le_refl _) hb5)
  clear hb5 HO4
  cases hrd : rdEnt b with
  | some p =>
    have he := hsome p hrd
    subst he
    obtain ⟨hbb, hV, hk, hr⟩ := rdEnt_bytes hrd
    have HPK := Lib.hid hk
    have HBB := Lib.hid hbb
    obtain ⟨pc, hpc⟩ : ∃ pc, p.cs = pc := ⟨_, rfl⟩
    obtain ⟨pv, hpv⟩ : ∃ pv, p.val = pv := ⟨_, rfl⟩
    have HPV := Lib.hid (show pv = .agg pc.toArray by rw [← hpv, ← hpc]; rfl)
    have HPL := Lib.hid (show pc.length = 74 by rw [← hpc]; exact En.len hk)
    have HPO := Lib.hid (show ∀ u ∈ pc, u.oneCell' = true by rw [← hpc]; exact p.one)
    have HPB := Lib.hid (fun (y : World) => show Calls Try.prog 23 #[pv] y _ from hpv ▸ EntryBytes_ok (w := y) hk hV hr)
    have HPD := Lib.hid (fun (y : World) (g : Nat) (hy : Row y g pc 49) => show (loadVar 49 ⟨g, 0, none⟩).run Try.prog y = .ok pv y by rw [← hpv]; exact l_ent (hpc ▸ hy) hk)
    rw [hpv]
    clear hsome hnone hrd hbb hV hk hr hpc hpv
    go_wp2_with (first
      | (refine QB.wpList_alloc rfl 49 rfl zero_ent' ?_; intro X1 hx1 hy1; have HX1 := Lib.hid (show Row X1 w5.heap.size zen.cs 49 from hx1); have HY1 := Lib.hid hy1; clear hx1 hy1)
      | (refine wpList_storeRow rfl 49 (.tmp 7) (.tmp 32) rfl rfl (cs := pc) HPV.out HX1.out (by kernel_rfl) HPL.out (En.len zen_K) HPO.out ?_
         refine QB.name fun w6 hZ => ?_
         have hb6 : Below w5.heap.size w5 w6 := hZ ▸ below_setRow HY1.out (Nat.le_refl _) _
         have HR7 := Lib.hid (show Row w6 w5.heap.size pc 49 from hZ ▸ HX1.out.setRow _)
         have HKw6 := Lib.hid (show Below W.heap.size W w6 from nextB HK5.out (Nat.le_refl _) hb6)
         have HLD := Lib.hid (HPD.out w6 _ HR7.out)
         clear hZ hb6 HX1 HY1)
      | (refine QB.wpList_ld 49 rfl rfl HLD.out (by kernel_rfl) ?_; clear HLD)
      | fail)
    obtain ⟨g7, hg7⟩ : ∃ g, w5.heap.size = g := ⟨_, rfl⟩
    rw [hg7] at HR7 ⊢
    have HG7 := Lib.hid (show W.heap.size ≤ g7 by rw [← hg7]; exact HK5.out.size)
    refine (HPB.out w6).mono ?_
    rintro r w7 ⟨x, rfl, ho7, hb7⟩
    rw [HBB.out] at ho7
    have HK7 := Lib.hid (show Below W.heap.size W w7 from nextB HKw6.out (Nat.le_refl _) hb7)
    have HR7 := Lib.hid (HR7.out.below hb7 HR7.out.lt)
    have hr1 := run_str w7 ho7.bs
    have hr2 := run_str w7 (FB.out w7 HK7.out)
    obtain ⟨A8, c8, rfl⟩ := ho7.shape
    have hsg := str_guard .neq (.inr rfl) (.tmp 45) (.tmp 47) b b w7
    have hsn := str_neq b w7
    clear hb7 ho7 HPB HPD HPK HBB HPV HPO hg7
    go_wp2_with fail
    clear hr1 hr2 hsg hsn
    refine (Own_any _ b _ (FB.out w7 HK7.out) HLB.out).mono ?_
    rintro r w9 ⟨v9, rfl, ho9, hb9⟩
    have HO9 := Lib.hid ho9
    have HK9 := Lib.hid (show Below W.heap.size W w9 from nextB HK7.out (Nat.le_refl _) hb9)
    have HR7 := Lib.hid (HR7.out.below hb9 HR7.out.lt)
    clear ho9 hb9
    go_wp2_with fail
    refine (Wir.Read_any _ b _ HO9.out.bs HL4.out).mono ?_
    rintro r w10 ⟨hsome, hnone, hb10⟩
    have HK10 := Lib.hid (show Below W.heap.size W w10 from nextB HK9.out (Nat.le_refl _) hb10)
    have HR7 := Lib.hid (HR7.out.below hb10 HR7.out.lt)
    have HNE := Lib.hid (show g7 < w10.heap.size from HR7.out.lt)
    clear hb10 HO9
    cases hro : rdMsg b with
    | some q =>
      obtain ⟨ve, vb, he, hoe, hob⟩ := hsome q hro
      subst he
      obtain ⟨hbb, hV, hr, hk⟩ := rdMsg_bytes hro
      obtain ⟨qc, hqc⟩ : ∃ qc, q.cs ve vb = qc := ⟨_, rfl⟩
      have HQL := Lib.hid (show qc.length = 10 by rw [← hqc]; rfl)
      have HQ1 := Lib.hid (show ∀ u ∈ qc, u.oneCell' = true by
        rw [← hqc]
        obtain ⟨_, _, e1, _⟩ := hoe.tab.2.shape
        obtain ⟨_, _, e2⟩ := hob.shape
        rw [e1, e2]
        exact ms_one q _ _ _ _ _ _)
      have HQD := Lib.hid (fun (y : World) (g : Nat) (hy : Row y g qc 52) => show (loadVar 52 ⟨g, 0, none⟩).run Try.prog y = .ok (.agg qc.toArray) y by rw [← hqc] at hy ⊢; exact l_msg hy)
      have HQB := Lib.hid (fun (y : World) (hy : Below w10.heap.size w10 y) => by
        obtain ⟨v1, v2, v3, v4, v5⟩ := valid_range hV
        exact hqc ▸ Wir.Bytes_ok (w := y) (B := y.heap.size) (m := q) ⟨(ownE_below hoe hy).tab, (hob.below hy (Nat.le_refl _)).bs⟩ (Nat.le_refl _) hV hr ⟨by omega, v1.2, v2.1, v2.2⟩ ⟨v3, v4, v5⟩)
      have HBB := Lib.hid hbb
      rw [hqc]
      clear hsome hnone hro hbb hV hk hr hqc hoe hob
      go_wp2_with (first
        | (refine QB.wpList_alloc rfl 52 rfl zero_msg ?_; intro X1 hx1 hy1; have HX1 := Lib.hid (show Row X1 w10.heap.size zcs 52 from hx1); have HY1 := Lib.hid hy1; clear hx1 hy1)
        | (refine wpList_storeRow rfl 52 (.tmp 11) (.tmp 54) rfl rfl (cs := qc) rfl HX1.out (by kernel_rfl) HQL.out rfl HQ1.out ?_
           refine QB.name fun w11 hZ => ?_
           have hb6 : Below w10.heap.size w10 w11 := hZ ▸ below_setRow HY1.out (Nat.le_refl _) _
           have HR11 := Lib.hid (show Row w11 w10.heap.size qc 52 from hZ ▸ HX1.out.setRow _)
           have HKw11 := Lib.hid (show Below W.heap.size W w11 from nextB HK10.out (Nat.le_refl _) hb6)
           have HR7 := Lib.hid (HR7.out.below hb6 HR7.out.lt)
           have HBq := Lib.hid hb6
           have HLD := Lib.hid (HQD.out w11 _ HR11.out)
           clear hZ hb6 HX1 HY1)
        | (refine QB.wpList_ld 52 rfl rfl HLD.out (by kernel_rfl) ?_; clear HLD)
        | fail)
      obtain ⟨g11, hg11⟩ : ∃ g, w10.heap.size = g := ⟨_, rfl⟩
      have HQC := Lib.hid (HQB.out w11 HBq.out)
      rw [hg11] at HR11 HBq HNE ⊢
      have HG11 := Lib.hid (show W.heap.size ≤ g11 by rw [← hg11]; exact HK10.out.size)
      refine HQC.out.mono ?_
      rintro r w12 ⟨x, rfl, ho7, hb7⟩
      rw [HBB.out] at ho7
      have HK12 := Lib.hid (show Below W.heap.size W w12 from nextB HKw11.out (Nat.le_refl _) hb7)
      have HR7 := Lib.hid (HR7.out.below hb7 HR7.out.lt)
      have HR11 := Lib.hid (HR11.out.below hb7 HR11.out.lt)
      have hr1 := run_str w12 ho7.bs
      have hr2 := run_str w12 (FB.out w12 HK12.out)
      obtain ⟨A9, c9, rfl⟩ := ho7.shape
      have hsg := str_guard .neq (.inr rfl) (.tmp 67) (.tmp 69) b b w12
      have hsn := str_neq b w12
      have HLDe := Lib.hid (FE.out w12 HK12.out)
      clear hb7 ho7 HQC HQB HBB HQD HQ1 HBq hg11
      go_wp2_with (first
        | (refine QB.wpList_ld 49 rfl rfl HLDe.out (by kernel_rfl) ?_; clear HLDe)
        | fail)
      clear hr1 hr2 hsg hsn
      by_cases hV : okE e = true
      case pos =>
        have HRO := Lib.hid (rdEnt_own e HEK.out hV HER.out)
        have HRN := Lib.hid (rdEnt_more e HEK.out hV HER.out)
        have HLE := Lib.hid (En.enc_le HEK.out hV HER.out)
        have HOB := Lib.hid (fun (y : World) => show Calls Try.prog 23 #[ev] y _ from HEV.out ▸ EntryBytes_ok (w := y) HEK.out hV HER.out)
        have HBX := Lib.hid (show g7 < w12.heap.size ∧ g11 < w12.heap.size ∧ W.heap.size ≤ w12.heap.size from ⟨HR7.out.lt, HR11.out.lt, HK12.out.size⟩)
        clear hV
        refine (HOB.out _).mono ?_
        rintro r w13 ⟨x, rfl, ho, hb⟩
        have HSX := Lib.hid (show w12.heap.size ≤ w13.heap.size from hb.size)
        have HKw13 := Lib.hid (show Below W.heap.size W w13 from nextB HK12.out (Nat.le_refl _) hb)
        have HR7 := Lib.hid (HR7.out.below hb HR7.out.lt)
        have HR11 := Lib.hid (HR11.out.below hb HR11.out.lt)
        have HO := Lib.hid ho
        clear ho hb HOB
        go_wp2_with fail
        refine (Own_any _ e.enc _ HO.out.bs (by have := HLE.out; omega)).mono ?_
        rintro r w14 ⟨v14, rfl, ho, hb⟩
        have HKw14 := Lib.hid (show Below W.heap.size W w14 from nextB HKw13.out (Nat.le_refl _) hb)
        have HR7 := Lib.hid (HR7.out.below hb HR7.out.lt)
        have HR11 := Lib.hid (HR11.out.below hb HR11.out.lt)
        have HO := Lib.hid (HO.out.below hb (Nat.le_refl _))
        have HO14 := Lib.hid ho
        have HSX := Lib.hid (Nat.le_trans HSX.out hb.size)
        clear ho hb
        go_wp2_with fail
        refine (ReadEntry_any _ e.enc _ HO14.out.bs (by have := HLE.out; omega)).mono ?_
        rintro r w15 ⟨hsome, _, hb⟩
        have he := hsome e HRO.out
        subst he
        have HKw15 := Lib.hid (show Below W.heap.size W w15 from nextB HKw14.out (Nat.le_refl _) hb)
        have HR7 := Lib.hid (HR7.out.below hb HR7.out.lt)
        have HR11 := Lib.hid (HR11.out.below hb HR11.out.lt)
        have HO := Lib.hid (HO.out.below hb (Nat.le_refl _))
        have HSX := Lib.hid (Nat.le_trans HSX.out hb.size)
        have HECL := Lib.hid (show ec.length = 74 by rw [← HEC.out]; exact En.len HEK.out)
        have HEC1 := Lib.hid (show ∀ u ∈ ec, u.oneCell' = true by rw [← HEC.out]; exact e.one)
        have HEVA := Lib.hid (show ev = .agg ec.toArray by rw [← HEV.out, ← HEC.out]; rfl)
        rw [HEV.out]
        clear hb hsome HO14 HRO
        go_wp2_with (first
          | (refine wpList_storeRow rfl 49 (.tmp 7) (.tmp 83) rfl rfl (cs := ec) HEVA.out HR7.out (by kernel_rfl) HECL.out HPL.out HEC1.out ?_
             refine QB.name fun w16 hZ => ?_
             have hgr : w15.grownBy w16 (some g7) := hZ ▸ only_setRow _
             have HR7' := Lib.hid (show Row w16 g7 ec 49 from hZ ▸ HR7.out.setRow _)
             have HR11' := Lib.hid (row_grown HR11.out hgr (by have := HNE.out; omega))
             have HKw16 := Lib.hid (show Below W.heap.size W w16 from hZ ▸ below_setRow HKw15.out HG7.out _)
             have HO16 := Lib.hid (own_kept HO.out hgr HBX.out.1)
             have HS16 := Lib.hid (Nat.le_trans HSX.out hgr.size)
             have HZ1 := Lib.hid (run_zero w16)
             clear hZ hgr HO HR11)
          | (refine wpList_bs rfl 31 1 _ rfl (ps := #[(0, .int .u8 0)]) (by kernel_rfl) HZ1.out ?_
             refine QB.name fun w17 hW => ?_
             have hb : Below w16.heap.size w16 w17 := hW ▸ (Below.refl _ w16).alloc (Nat.le_refl _) _
             have HZ2 := Lib.hid (bs_zero hW)
             have HR7 := Lib.hid (HR7'.out.below hb HR7'.out.lt)
             have HR11 := Lib.hid (HR11'.out.below hb HR11'.out.lt)
             have HKw17 := Lib.hid (show Below W.heap.size W w17 from nextB HKw16.out (Nat.le_refl _) hb)
             have HO17 := Lib.hid (HO16.out.below hb (Nat.le_refl _))
             have HSZ := Lib.hid (show w12.heap.size ≤ w17.heap.size from Nat.le_trans HS16.out hb.size)
             clear hW hb HZ1 HR7' HR11' HO16)
          | (refine wpList_app_bytes _ rfl (.tmp 86) (.tmp 87) rfl rfl HO17.out rfl HZ2.out (by have := HLE.out; simp; omega) HSZ.out ?_
             intro v88 w18 ho18 hg18 _
             have HVL := Lib.hid (fun i (e : x.ownBlock = some i) => (HO17.out.block_ge e).1)
             have HR7 := Lib.hid (row_other HR7.out hg18 (fun e => by have := HVL.out _ e; have := HBX.out.1; omega))
             have HR11 := Lib.hid (row_other HR11.out hg18 (fun e => by have := HVL.out _ e; have := HBX.out.2.1; omega))
             have HKw18 := Lib.hid (show Below W.heap.size W w18 from HKw17.out.trans (below_grown hg18 (fun i e => by have := HVL.out _ e; have := HBX.out.2.2; omega) HKw17.out.size))
             have HO18 := Lib.hid ho18
             clear ho18 hg18 HO17 HZ2)
          | fail)
        refine (ReadEntry_any _ (e.enc ++ [0]) _ HO18.out.bs (by have := HLE.out; simp; omega)).mono ?_
        rintro r w19 ⟨_, hnone, hb⟩
        have he := hnone HRN.out
        subst he
        have HKw19 := Lib.hid (show Below W.heap.size W w19 from nextB HKw18.out (Nat.le_refl _) hb)
        have HR7 := Lib.hid (HR7.out.below hb HR7.out.lt)
        have HR11 := Lib.hid (HR11.out.below hb HR11.out.lt)
        have HL1 := Lib.hid (show (loadVar 49 ⟨g7, 0, none⟩).run Try.prog w19 = .ok ev w19 by rw [← HEV.out]; exact l_ent (HEC.out ▸ HR7.out) HEK.out)
        have HL2 := Lib.hid (FE.out w19 HKw19.out)
        have hgd : (eqGuard .neq 49 (.tmp 95) (.tmp 96) ev ev).run Try.prog w19 = .ok () w19 := by rw [HEVA.out]; exact guard_of g_ent _ _ _ _ _ _
        have hev : (binOp .neq 49 ev ev).run Try.prog w19 = .ok (.bool false) w19 := by have h := eq_ent (w := w19) e HEK.out; rw [HEV.out, HEVA.out] at h; rw [HEVA.out]; exact neq_of h
        have HLM := Lib.hid (FM.out w19 HKw19.out)
        obtain ⟨zv, hzv⟩ : ∃ zv, zen.val = zv := ⟨_, rfl⟩
        rw [hzv]
        clear hb hnone HO18 HRN hzv
        go_wp2_with (first
          | (refine QB.wpList_ld 49 rfl rfl HL1.out (by kernel_rfl) ?_; clear HL1)
          | (refine QB.wpList_ld 49 rfl rfl HL2.out (by kernel_rfl) ?_; clear HL2)
          | (refine QB.wpList_ld 52 rfl rfl HLM.out (by kernel_rfl) ?_; clear HLM)
          | fail)
        clear hgd hev
        by_cases hV : checkMZ m = 0
        case pos =>
          have hmk := (FMA.out w19 HKw19.out).es.1
          have HRO := Lib.hid (rdMsg_same m hV hmk HMR.out)
          have HRN := Lib.hid (rdMsg_more m hV hmk HMR.out)
          have HLE := Lib.hid (menc_le hV hmk HMR.out)
          have HOB := Lib.hid (by
            obtain ⟨v1, v2, v3, v4, v5⟩ := valid_range hV
            exact HMC.out ▸ Wir.Bytes_ok (w := w19) (FMA.out w19 HKw19.out) (FWW.out w19 HKw19.out).size hV HMR.out ⟨by omega, v1.2, v2.1, v2.2⟩ ⟨v3, v4, v5⟩)
          have HS11 := Lib.hid HR11.out.lt
          clear hV hmk
          refine HOB.out.mono ?_
          rintro r w20 ⟨x, rfl, ho, hb⟩
          have HKw20 := Lib.hid (show Below W.heap.size W w20 from nextB HKw19.out (Nat.le_refl _) hb)
          have HR11 := Lib.hid (HR11.out.below hb HR11.out.lt)
          have HO := Lib.hid ho
          have HS20 := Lib.hid (show w19.heap.size ≤ w20.heap.size from hb.size)
          clear ho hb HOB
          go_wp2_with fail
          refine (Own_any _ m.enc _ HO.out.bs (by have := HLE.out; omega)).mono ?_
          rintro r w21 ⟨v21, rfl, ho, hb⟩
          have HKw21 := Lib.hid (show Below W.heap.size W w21 from nextB HKw20.out (Nat.le_refl _) hb)
          have HR11 := Lib.hid (HR11.out.below hb HR11.out.lt)
          have HO := Lib.hid (HO.out.below hb (Nat.le_refl _))
          have HS21 := Lib.hid (show w19.heap.size ≤ w21.heap.size from Nat.le_trans HS20.out hb.size)
          have HO21 := Lib.hid ho
          have HVB := Lib.hid (fun i (e : x.ownBlock = some i) => (HO.out.block_ge e).2)
          clear ho hb
          go_wp2_with fail
          refine (Wir.Read_any _ m.enc _ HO21.out.bs (by have := HLE.out; omega)).mono ?_
          rintro r w22 ⟨hsome, _, hb⟩
          obtain ⟨ve, vb, he, hoe, hob⟩ := hsome m HRO.out
          subst he
          have HKw22 := Lib.hid (show Below W.heap.size W w22 from nextB HKw21.out (Nat.le_refl _) hb)
          have HR11 := Lib.hid (HR11.out.below hb HR11.out.lt)
          have HO := Lib.hid (HO.out.below hb (Nat.le_refl _))
          have HS22 := Lib.hid (show w21.heap.size ≤ w22.heap.size from hb.size)
          have HOE := Lib.hid hoe
          have HOBd := Lib.hid hob
          obtain ⟨qc, hqc⟩ : ∃ qc, m.cs ve vb = qc := ⟨_, rfl⟩
          have HQLn := Lib.hid (show qc.length = 10 by rw [← hqc]; rfl)
          have HQ1n := Lib.hid (show ∀ u ∈ qc, u.oneCell' = true by
            rw [← hqc]
            obtain ⟨_, _, e1, _⟩ := hoe.tab.2.shape
            obtain ⟨_, _, e2⟩ := hob.shape
            rw [e1, e2]
            exact ms_one m _ _ _ _ _ _)
          have HQD := Lib.hid (fun (y : World) (g : Nat) (hy : Row y g qc 52) => show (loadVar 52 ⟨g, 0, none⟩).run Try.prog y = .ok (.agg qc.toArray) y by rw [← hqc] at hy ⊢; exact l_msg hy)
          have HQC := Lib.hid hqc
          rw [hqc]
          clear hb hsome HO21 HRO hoe hob hqc
          go_wp2_with (first
            | (refine wpList_storeRow rfl 52 (.tmp 11) (.tmp 118) rfl rfl (cs := qc) rfl HR11.out (by kernel_rfl) HQLn.out HQL.out HQ1n.out ?_
               refine QB.name fun w23 hZ => ?_
               have hgr : w22.grownBy w23 (some g11) := hZ ▸ only_setRow _
               have HR11' := Lib.hid (show Row w23 g11 qc 52 from hZ ▸ HR11.out.setRow _)
               have HKw23 := Lib.hid (show Below W.heap.size W w23 from hZ ▸ below_setRow HKw22.out HG11.out _)
               have HO23 := Lib.hid (own_kept HO.out hgr HS11.out)
               have HOE23 := Lib.hid (ownE_grown HOE.out hgr (fun i e => by injection e with e; have := HS11.out; have := HS21.out; omega))
               have HOB23 := Lib.hid (own_kept HOBd.out hgr (by have := HS11.out; have := HS21.out; omega))
               have HS23 := Lib.hid (show w21.heap.size ≤ w23.heap.size from Nat.le_trans HS22.out hgr.size)
               have HZ1 := Lib.hid (run_zero w23)
               clear hZ hgr HO HOE HOBd)
            | (refine wpList_bs rfl 31 1 _ rfl (ps := #[(0, .int .u8 0)]) (by kernel_rfl) HZ1.out ?_
               refine QB.name fun w24 hW => ?_
               have hb : Below w23.heap.size w23 w24 := hW ▸ (Below.refl _ w23).alloc (Nat.le_refl _) _
               have HZ2 := Lib.hid (bs_zero hW)
               have HR11 := Lib.hid (HR11'.out.below hb HR11'.out.lt)
               have HKw24 := Lib.hid (show Below W.heap.size W w24 from nextB HKw23.out (Nat.le_refl _) hb)
               have HO24 := Lib.hid (HO23.out.below hb (Nat.le_refl _))
               have HOE24 := Lib.hid (ownE_below HOE23.out hb)
               have HOB24 := Lib.hid (HOB23.out.below hb (Nat.le_refl _))
               have HS24 := Lib.hid (show w21.heap.size ≤ w24.heap.size from Nat.le_trans HS23.out hb.size)
               clear hW hb HZ1 HR11' HO23 HOE23 HOB23)
            | (refine wpList_app_bytes _ rfl (.tmp 121) (.tmp 122) rfl rfl HO24.out rfl HZ2.out (by have := HLE.out; simp; omega) (by have := HS24.out; have := HS21.out; omega) ?_
               intro v123 w25 ho25 hg25 _
               have HVL := Lib.hid (fun i (e : x.ownBlock = some i) => (HO24.out.block_ge e).1)
               have HR11 := Lib.hid (row_other HR11.out hg25 (fun e => by have := HVL.out _ e; have := HS11.out; omega))
               have HKw25 := Lib.hid (show Below W.heap.size W w25 from HKw24.out.trans (below_grown hg25 (fun i e => by have := HVL.out _ e; have := HKw19.out.size; omega) HKw24.out.size))
               have HO25 := Lib.hid ho25
               have HOE25 := Lib.hid (ownE_apart HOE24.out hg25 (fun i e => HVB.out i e))
               have HOB25 := Lib.hid (own_apart HOB24.out HO24.out hg25 (fun i e => HVB.out i e))
               clear ho25 hg25 HO24 HZ2 HOE24 HOB24)
            | fail)
          refine (Wir.Read_any _ (m.enc ++ [0]) _ HO25.out.bs (by have := HLE.out; simp; omega)).mono ?_
          rintro r w26 ⟨_, hnone, hb⟩
          have he := hnone HRN.out
          subst he
          have HKw26 := Lib.hid (show Below W.heap.size W w26 from nextB HKw25.out (Nat.le_refl _) hb)
          have HR11 := Lib.hid (HR11.out.below hb HR11.out.lt)
          have HOE := Lib.hid (ownE_below HOE25.out hb)
          have HOBd := Lib.hid (HOB25.out.below hb (Nat.le_refl _))
          clear hb hnone HO25 HRN HOE25 HOB25
          go_wp2_with (first
            | (refine QB.wpList_alloc rfl 52 rfl zero_msg ?_; intro X1 hx1 hy1; have HX1 := Lib.hid (show Row X1 w26.heap.size zcs 52 from hx1); have HY1 := Lib.hid hy1; clear hx1 hy1)
            | (refine wpList_storeRow rfl 52 (.tmp 16) (.tmp 125) rfl rfl (cs := zcs) rfl HX1.out (by kernel_rfl) rfl rfl zcs_one ?_
               refine QB.name fun w27 hZ => ?_
               have hb6 : Below w26.heap.size w26 w27 := hZ ▸ below_setRow HY1.out (Nat.le_refl _) _
               have HKw27 := Lib.hid (show Below W.heap.size W w27 from nextB HKw26.out (Nat.le_refl _) hb6)
               have HR11 := Lib.hid (HR11.out.below hb6 HR11.out.lt)
               have HL1 := Lib.hid (HQD.out w27 _ HR11.out)
               have HL2 := Lib.hid (FM.out w27 HKw27.out)
               have HKT := Lib.hid (KMsg_any (w := w27) (B := w27.heap.size) (v1 := ve) (u1 := vb) (m := m) ⟨(ownE_below HOE.out hb6).tab, (HOBd.out.below hb6 (Nat.le_refl _)).bs⟩ ((FMA.out w27 HKw27.out).more (FWW.out w27 HKw27.out).size) (by have := HN.out; omega) (Nat.le_refl _))
               rw [HQC.out, HMC.out] at HKT
               clear hZ hb6 HX1 HY1)
            | (refine QB.wpList_ld 52 rfl rfl HL1.out (by kernel_rfl) ?_; clear HL1)
            | (refine QB.wpList_ld 52 rfl rfl HL2.out (by kernel_rfl) ?_; clear HL2)
            | fail)
          refine HKT.out.mono ?_
          rintro r w28 ⟨rfl, hb⟩
          have HKw28 := Lib.hid (show Below W.heap.size W w28 from nextB HKw27.out (Nat.le_refl _) hb)
          clear hb HKT
          go_wp2
          go_ret
          exact ⟨rfl, FWW.out w28 HKw28.out⟩
        case neg =>
          have HOB := Lib.hid (Wir.Bytes_no (FMA.out w19 HKw19.out) HMR.out.ix.1 (FWW.out w19 HKw19.out).size hV)
          have HCH := Lib.hid (fun (y : World) (h : Below W.heap.size W y) => Wir.Check_any (FMA.out y h) HMR.out.ix.1 (FWW.out y h).size)
          rw [HMC.out] at HOB
          rw [HMC.out] at HCH
          obtain ⟨z, hz⟩ : ∃ z, checkMZ m = z := ⟨_, rfl⟩
          rw [hz] at HOB HCH hV
          have hz1 : (z != 0) = true := by simpa using hV
          clear hV hz
          refine HOB.out.mono ?_
          rintro r w20 ⟨rfl, hb⟩
          have HKw20 := Lib.hid (show Below W.heap.size W w20 from nextB HKw19.out (Nat.le_refl _) hb)
          have HLM := Lib.hid (FM.out w20 HKw20.out)
          clear hb HOB
          go_wp2_with (first
            | (refine QB.wpList_ld 52 rfl rfl HLM.out (by kernel_rfl) ?_; clear HLM)
            | fail)
          refine (HCH.out w20 HKw20.out).mono ?_
          rintro r w21 ⟨rfl, hb⟩
          have HKw21 := Lib.hid (show Below W.heap.size W w21 from nextB HKw20.out (Nat.le_refl _) hb)
          clear hb HCH
          go_wp2
          go_ret
          exact ⟨rfl, FWW.out w21 HKw21.out⟩
      case neg =>
        have HOB := Lib.hid (fun (y : World) => show Calls Try.prog 23 #[ev] y _ from HEV.out ▸ EntryBytes_no (w := y) HEK.out hV)
        clear hV
        refine (HOB.out _).mono ?_
        rintro r w13 ⟨rfl, hb⟩
        have HKw13 := Lib.hid (show Below W.heap.size W w13 from nextB HK12.out (Nat.le_refl _) hb)
        have HR7 := Lib.hid (HR7.out.below hb HR7.out.lt)
        have HR11 := Lib.hid (HR11.out.below hb HR11.out.lt)
        have HLM := Lib.hid (FM.out w13 HKw13.out)
        clear hb HOB
        go_wp2_with (first
          | (refine QB.wpList_ld 52 rfl rfl HLM.out (by kernel_rfl) ?_; clear HLM)
          | fail)
        by_cases hV : checkMZ m = 0
        case pos =>
          have hmk := (FMA.out w13 HKw13.out).es.1
          have HRO := Lib.hid (rdMsg_same m hV hmk HMR.out)
          have HRN := Lib.hid (rdMsg_more m hV hmk HMR.out)
          have HLE := Lib.hid (menc_le hV hmk HMR.out)
          have HOB := Lib.hid (by
            obtain ⟨v1, v2, v3, v4, v5⟩ := valid_range hV
            exact HMC.out ▸ Wir.Bytes_ok (w := w13) (FMA.out w13 HKw13.out) (FWW.out w13 HKw13.out).size hV HMR.out ⟨by omega, v1.2, v2.1, v2.2⟩ ⟨v3, v4, v5⟩)
          have HS11 := Lib.hid HR11.out.lt
          clear hV hmk
          refine HOB.out.mono ?_
          rintro r w20 ⟨x, rfl, ho, hb⟩
          have HKw20 := Lib.hid (show Below W.heap.size W w20 from nextB HKw13.out (Nat.le_refl _) hb)
          have HR11 := Lib.hid (HR11.out.below hb HR11.out.lt)
          have HO := Lib.hid ho
          have HS20 := Lib.hid (show w13.heap.size ≤ w20.heap.size from hb.size)
          clear ho hb HOB
          go_wp2_with fail
          refine (Own_any _ m.enc _ HO.out.bs (by have := HLE.out; omega)).mono ?_
          rintro r w21 ⟨v21, rfl, ho, hb⟩
          have HKw21 := Lib.hid (show Below W.heap.size W w21 from nextB HKw20.out (Nat.le_refl _) hb)
          have HR11 := Lib.hid (HR11.out.below hb HR11.out.lt)
          have HO := Lib.hid (HO.out.below hb (Nat.le_refl _))
          have HS21 := Lib.hid (show w13.heap.size ≤ w21.heap.size from Nat.le_trans HS20.out hb.size)
          have HO21 := Lib.hid ho
          have HVB := Lib.hid (fun i (e : x.ownBlock = some i) => (HO.out.block_ge e).2)
          clear ho hb
          go_wp2_with fail
          refine (Wir.Read_any _ m.enc _ HO21.out.bs (by have := HLE.out; omega)).mono ?_
          rintro r w22 ⟨hsome, _, hb⟩
          obtain ⟨ve, vb, he, hoe, hob⟩ := hsome m HRO.out
          subst he
          have HKw22 := Lib.hid (show Below W.heap.size W w22 from nextB HKw21.out (Nat.le_refl _) hb)
          have HR11 := Lib.hid (HR11.out.below hb HR11.out.lt)
          have HO := Lib.hid (HO.out.below hb (Nat.le_refl _))
          have HS22 := Lib.hid (show w21.heap.size ≤ w22.heap.size from hb.size)
          have HOE := Lib.hid hoe
          have HOBd := Lib.hid hob
          obtain ⟨qc, hqc⟩ : ∃ qc, m.cs ve vb = qc := ⟨_, rfl⟩
          have HQLn := Lib.hid (show qc.length = 10 by rw [← hqc]; rfl)
          have HQ1n := Lib.hid (show ∀ u ∈ qc, u.oneCell' = true by
            rw [← hqc]
            obtain ⟨_, _, e1, _⟩ := hoe.tab.2.shape
            obtain ⟨_, _, e2⟩ := hob.shape
            rw [e1, e2]
            exact ms_one m _ _ _ _ _ _)
          have HQD := Lib.hid (fun (y : World) (g : Nat) (hy : Row y g qc 52) => show (loadVar 52 ⟨g, 0, none⟩).run Try.prog y = .ok (.agg qc.toArray) y by rw [← hqc] at hy ⊢; exact l_msg hy)
          have HQC := Lib.hid hqc
          rw [hqc]
          clear hb hsome HO21 HRO hoe hob hqc
          go_wp2_with (first
            | (refine wpList_storeRow rfl 52 (.tmp 11) (.tmp 118) rfl rfl (cs := qc) rfl HR11.out (by kernel_rfl) HQLn.out HQL.out HQ1n.out ?_
               refine QB.name fun w23 hZ => ?_
               have hgr : w22.grownBy w23 (some g11) := hZ ▸ only_setRow _
               have HR11' := Lib.hid (show Row w23 g11 qc 52 from hZ ▸ HR11.out.setRow _)
               have HKw23 := Lib.hid (show Below W.heap.size W w23 from hZ ▸ below_setRow HKw22.out HG11.out _)
               have HO23 := Lib.hid (own_kept HO.out hgr HS11.out)
               have HOE23 := Lib.hid (ownE_grown HOE.out hgr (fun i e => by injection e with e; have := HS11.out; have := HS21.out; omega))
               have HOB23 := Lib.hid (own_kept HOBd.out hgr (by have := HS11.out; have := HS21.out; omega))
               have HS23 := Lib.hid (show w21.heap.size ≤ w23.heap.size from Nat.le_trans HS22.out hgr.size)
               have HZ1 := Lib.hid (run_zero w23)
               clear hZ hgr HO HOE HOBd)
            | (refine wpList_bs rfl 31 1 _ rfl (ps := #[(0, .int .u8 0)]) (by kernel_rfl) HZ1.out ?_
               refine QB.name fun w24 hW => ?_
               have hb : Below w23.heap.size w23 w24 := hW ▸ (Below.refl _ w23).alloc (Nat.le_refl _) _
               have HZ2 := Lib.hid (bs_zero hW)
               have HR11 := Lib.hid (HR11'.out.below hb HR11'.out.lt)
               have HKw24 := Lib.hid (show Below W.heap.size W w24 from nextB HKw23.out (Nat.le_refl _) hb)
               have HO24 := Lib.hid (HO23.out.below hb (Nat.le_refl _))
               have HOE24 := Lib.hid (ownE_below HOE23.out hb)
               have HOB24 := Lib.hid (HOB23.out.below hb (Nat.le_refl _))
               have HS24 := Lib.hid (show w21.heap.size ≤ w24.heap.size from Nat.le_trans HS23.out hb.size)
               clear hW hb HZ1 HR11' HO23 HOE23 HOB23)
            | (refine wpList_app_bytes _ rfl (.tmp 121) (.tmp 122) rfl rfl HO24.out rfl HZ2.out (by have := HLE.out; simp; omega) (by have := HS24.out; have := HS21.out; omega) ?_
               intro v123 w25 ho25 hg25 _
               have HVL := Lib.hid (fun i (e : x.ownBlock = some i) => (HO24.out.block_ge e).1)
               have HR11 := Lib.hid (row_other HR11.out hg25 (fun e => by have := HVL.out _ e; have := HS11.out; omega))
               have HKw25 := Lib.hid (show Below W.heap.size W w25 from HKw24.out.trans (below_grown hg25 (fun i e => by have := HVL.out _ e; have := HKw13.out.size; omega) HKw24.out.size))
               have HO25 := Lib.hid ho25
               have HOE25 := Lib.hid (ownE_apart HOE24.out hg25 (fun i e => HVB.out i e))
               have HOB25 := Lib.hid (own_apart HOB24.out HO24.out hg25 (fun i e => HVB.out i e))
               clear ho25 hg25 HO24 HZ2 HOE24 HOB24)
            | fail)
          refine (Wir.Read_any _ (m.enc ++ [0]) _ HO25.out.bs (by have := HLE.out; simp; omega)).mono ?_
          rintro r w26 ⟨_, hnone, hb⟩
          have he := hnone HRN.out
          subst he
          have HKw26 := Lib.hid (show Below W.heap.size W w26 from nextB HKw25.out (Nat.le_refl _) hb)
          have HR11 := Lib.hid (HR11.out.below hb HR11.out.lt)
          have HOE := Lib.hid (ownE_below HOE25.out hb)
          have HOBd := Lib.hid (HOB25.out.below hb (Nat.le_refl _))
          clear hb hnone HO25 HRN HOE25 HOB25
          go_wp2_with (first
            | (refine QB.wpList_alloc rfl 52 rfl zero_msg ?_; intro X1 hx1 hy1; have HX1 := Lib.hid (show Row X1 w26.heap.size zcs 52 from hx1); have HY1 := Lib.hid hy1; clear hx1 hy1)
            | (refine wpList_storeRow rfl 52 (.tmp 16) (.tmp 125) rfl rfl (cs := zcs) rfl HX1.out (by kernel_rfl) rfl rfl zcs_one ?_
               refine QB.name fun w27 hZ => ?_
               have hb6 : Below w26.heap.size w26 w27 := hZ ▸ below_setRow HY1.out (Nat.le_refl _) _
               have HKw27 := Lib.hid (show Below W.heap.size W w27 from nextB HKw26.out (Nat.le_refl _) hb6)
               have HR11 := Lib.hid (HR11.out.below hb6 HR11.out.lt)
               have HL1 := Lib.hid (HQD.out w27 _ HR11.out)
               have HL2 := Lib.hid (FM.out w27 HKw27.out)
               have HKT := Lib.hid (KMsg_any (w := w27) (B := w27.heap.size) (v1 := ve) (u1 := vb) (m := m) ⟨(ownE_below HOE.out hb6).tab, (HOBd.out.below hb6 (Nat.le_refl _)).bs⟩ ((FMA.out w27 HKw27.out).more (FWW.out w27 HKw27.out).size) (by have := HN.out; omega) (Nat.le_refl _))
               rw [HQC.out, HMC.out] at HKT
               clear hZ hb6 HX1 HY1)
            | (refine QB.wpList_ld 52 rfl rfl HL1.out (by kernel_rfl) ?_; clear HL1)
            | (refine QB.wpList_ld 52 rfl rfl HL2.out (by kernel_rfl) ?_; clear HL2)
            | fail)
          refine HKT.out.mono ?_
          rintro r w28 ⟨rfl, hb⟩
          have HKw28 := Lib.hid (show Below W.heap.size W w28 from nextB HKw27.out (Nat.le_refl _) hb)
          clear hb HKT
          go_wp2
          go_ret
          exact ⟨rfl, FWW.out w28 HKw28.out⟩
        case neg =>
          have HOB := Lib.hid (Wir.Bytes_no (FMA.out w13 HKw13.out) HMR.out.ix.1 (FWW.out w13 HKw13.out).size hV)
          have HCH := Lib.hid (fun (y : World) (h : Below W.heap.size W y) => Wir.Check_any (FMA.out y h) HMR.out.ix.1 (FWW.out y h).size)
          rw [HMC.out] at HOB
          rw [HMC.out] at HCH
          obtain ⟨z, hz⟩ : ∃ z, checkMZ m = z := ⟨_, rfl⟩
          rw [hz] at HOB HCH hV
          have hz1 : (z != 0) = true := by simpa using hV
          clear hV hz
          refine HOB.out.mono ?_
          rintro r w20 ⟨rfl, hb⟩
          have HKw20 := Lib.hid (show Below W.heap.size W w20 from nextB HKw13.out (Nat.le_refl _) hb)
          have HLM := Lib.hid (FM.out w20 HKw20.out)
          clear hb HOB
          go_wp2_with (first
            | (refine QB.wpList_ld 52 rfl rfl HLM.out (by kernel_rfl) ?_; clear HLM)
            | fail)
          refine (HCH.out w20 HKw20.out).mono ?_
          rintro r w21 ⟨rfl, hb⟩
          have HKw21 := Lib.hid (show Below W.heap.size W w21 from nextB HKw20.out (Nat.le_refl _) hb)
          clear hb HCH
          go_wp2
          go_ret
          exact ⟨rfl, FWW.out w21 HKw21.out⟩
    | none =>
      have he := hnone hro
      subst he
      clear hsome hnone hro
      go_wp2_with (first
        | (refine QB.wpList_alloc rfl 52 rfl zero_msg ?_; intro X1 hx1 hy1; have HX1 := Lib.hid (show Row X1 w10.heap.size zcs 52 from hx1); have HY1 := Lib.hid hy1; clear hx1 hy1)
        | (refine wpList_storeRow rfl 52 (.tmp 11) (.tmp 54) rfl rfl (cs := zcs) rfl HX1.out (by kernel_rfl) rfl rfl zcs_one ?_
           refine QB.name fun w11 hZ => ?_
           have hb6 : Below w10.heap.size w10 w11 := hZ ▸ below_setRow HY1.out (Nat.le_refl _) _
           have HR11 := Lib.hid (show Row w11 w10.heap.size zcs 52 from hZ ▸ HX1.out.setRow _)
           have HKw11 := Lib.hid (show Below W.heap.size W w11 from nextB HK10.out (Nat.le_refl _) hb6)
           have HR7 := Lib.hid (HR7.out.below hb6 HR7.out.lt)
           have HLDe := Lib.hid (FE.out w11 HKw11.out)
           clear hZ hb6 HX1 HY1)
        | (refine QB.wpList_ld 49 rfl rfl HLDe.out (by kernel_rfl) ?_; clear HLDe)
        | fail)
      obtain ⟨g11, hg11⟩ : ∃ g, w10.heap.size = g := ⟨_, rfl⟩
      rw [hg11] at HR11 HNE ⊢
      have HG11 := Lib.hid (show W.heap.size ≤ g11 by rw [← hg11]; exact HK10.out.size)
      have HQL := Lib.hid (show zcs.length = 10 from rfl)
      clear hg11
      by_cases hV : okE e = true
      case pos =>
        have HRO := Lib.hid (rdEnt_own e HEK.out hV HER.out)
        have HRN := Lib.hid (rdEnt_more e HEK.out hV HER.out)
        have HLE := Lib.hid (En.enc_le HEK.out hV HER.out)
        have HOB := Lib.hid (fun (y : World) => show Calls Try.prog 23 #[ev] y _ from HEV.out ▸ EntryBytes_ok (w := y) HEK.out hV HER.out)
        have HBX := Lib.hid (show g7 < w11.heap.size ∧ g11 < w11.heap.size ∧ W.heap.size ≤ w11.heap.size from ⟨HR7.out.lt, HR11.out.lt, HKw11.out.size⟩)
        clear hV
        refine (HOB.out _).mono ?_
        rintro r w13 ⟨x, rfl, ho, hb⟩
        have HSX := Lib.hid (show w11.heap.size ≤ w13.heap.size from hb.size)
        have HKw13 := Lib.hid (show Below W.heap.size W w13 from nextB HKw11.out (Nat.le_refl _) hb)
        have HR7 := Lib.hid (HR7.out.below hb HR7.out.lt)
        have HR11 := Lib.hid (HR11.out.below hb HR11.out.lt)
        have HO := Lib.hid ho
        clear ho hb HOB
        go_wp2_with fail
        refine (Own_any _ e.enc _ HO.out.bs (by have := HLE.out; omega)).mono ?_
        rintro r w14 ⟨v14, rfl, ho, hb⟩
        have HKw14 := Lib.hid (show Below W.heap.size W w14 from nextB HKw13.out (Nat.le_refl _) hb)
        have HR7 := Lib.hid (HR7.out.below hb HR7.out.lt)
        have HR11 := Lib.hid (HR11.out.below hb HR11.out.lt)
        have HO := Lib.hid (HO.out.below hb (Nat.le_refl _))
        have HO14 := Lib.hid ho
        have HSX := Lib.hid (Nat.le_trans HSX.out hb.size)
        clear ho hb
        go_wp2_with fail
        refine (ReadEntry_any _ e.enc _ HO14.out.bs (by have := HLE.out; omega)).mono ?_
        rintro r w15 ⟨hsome, _, hb⟩
        have he := hsome e HRO.out
        subst he
        have HKw15 := Lib.hid (show Below W.heap.size W w15 from nextB HKw14.out (Nat.le_refl _) hb)
        have HR7 := Lib.hid (HR7.out.below hb HR7.out.lt)
        have HR11 := Lib.hid (HR11.out.below hb HR11.out.lt)
        have HO := Lib.hid (HO.out.below hb (Nat.le_refl _))
        have HSX := Lib.hid (Nat.le_trans HSX.out hb.size)
        have HECL := Lib.hid (show ec.length = 74 by rw [← HEC.out]; exact En.len HEK.out)
        have HEC1 := Lib.hid (show ∀ u ∈ ec, u.oneCell' = true by rw [← HEC.out]; exact e.one)
        have HEVA := Lib.hid (show ev = .agg ec.toArray by rw [← HEV.out, ← HEC.out]; rfl)
        rw [HEV.out]
        clear hb hsome HO14 HRO
        go_wp2_with (first
          | (refine wpList_storeRow rfl 49 (.tmp 7) (.tmp 83) rfl rfl (cs := ec) HEVA.out HR7.out (by kernel_rfl) HECL.out HPL.out HEC1.out ?_
             refine QB.name fun w16 hZ => ?_
             have hgr : w15.grownBy w16 (some g7) := hZ ▸ only_setRow _
             have HR7' := Lib.hid (show Row w16 g7 ec 49 from hZ ▸ HR7.out.setRow _)
             have HR11' := Lib.hid (row_grown HR11.out hgr (by have := HNE.out; omega))
             have HKw16 := Lib.hid (show Below W.heap.size W w16 from hZ ▸ below_setRow HKw15.out HG7.out _)
             have HO16 := Lib.hid (own_kept HO.out hgr HBX.out.1)
             have HS16 := Lib.hid (Nat.le_trans HSX.out hgr.size)
             have HZ1 := Lib.hid (run_zero w16)
             clear hZ hgr HO HR11)
          | (refine wpList_bs rfl 31 1 _ rfl (ps := #[(0, .int .u8 0)]) (by kernel_rfl) HZ1.out ?_
             refine QB.name fun w17 hW => ?_
             have hb : Below w16.heap.size w16 w17 := hW ▸ (Below.refl _ w16).alloc (Nat.le_refl _) _
             have HZ2 := Lib.hid (bs_zero hW)
             have HR7 := Lib.hid (HR7'.out.below hb HR7'.out.lt)
             have HR11 := Lib.hid (HR11'.out.below hb HR11'.out.lt)
             have HKw17 := Lib.hid (show Below W.heap.size W w17 from nextB HKw16.out (Nat.le_refl _) hb)
             have HO17 := Lib.hid (HO16.out.below hb (Nat.le_refl _))
             have HSZ := Lib.hid (show w11.heap.size ≤ w17.heap.size from Nat.le_trans HS16.out hb.size)
             clear hW hb HZ1 HR7' HR11' HO16)
          | (refine wpList_app_bytes _ rfl (.tmp 86) (.tmp 87) rfl rfl HO17.out rfl HZ2.out (by have := HLE.out; simp; omega) HSZ.out ?_
             intro v88 w18 ho18 hg18 _
             have HVL := Lib.hid (fun i (e : x.ownBlock = some i) => (HO17.out.block_ge e).1)
             have HR7 := Lib.hid (row_other HR7.out hg18 (fun e => by have := HVL.out _ e; have := HBX.out.1; omega))
             have HR11 := Lib.hid (row_other HR11.out hg18 (fun e => by have := HVL.out _ e; have := HBX.out.2.1; omega))
             have HKw18 := Lib.hid (show Below W.heap.size W w18 from HKw17.out.trans (below_grown hg18 (fun i e => by have := HVL.out _ e; have := HBX.out.2.2; omega) HKw17.out.size))
             have HO18 := Lib.hid ho18
             clear ho18 hg18 HO17 HZ2)
          | fail)
        refine (ReadEntry_any _ (e.enc ++ [0]) _ HO18.out.bs (by have := HLE.out; simp; omega)).mono ?_
        rintro r w19 ⟨_, hnone, hb⟩
        have he := hnone HRN.out
        subst he
        have HKw19 := Lib.hid (show Below W.heap.size W w19 from nextB HKw18.out (Nat.le_refl _) hb)
        have HR7 := Lib.hid (HR7.out.below hb HR7.out.lt)
        have HR11 := Lib.hid (HR11.out.below hb HR11.out.lt)
        have HL1 := Lib.hid (show (loadVar 49 ⟨g7, 0, none⟩).run Try.prog w19 = .ok ev w19 by rw [← HEV.out]; exact l_ent (HEC.out ▸ HR7.out) HEK.out)
        have HL2 := Lib.hid (FE.out w19 HKw19.out)
        have hgd : (eqGuard .neq 49 (.tmp 95) (.tmp 96) ev ev).run Try.prog w19 = .ok () w19 := by rw [HEVA.out]; exact guard_of g_ent _ _ _ _ _ _
        have hev : (binOp .neq 49 ev ev).run Try.prog w19 = .ok (.bool false) w19 := by have h := eq_ent (w := w19) e HEK.out; rw [HEV.out, HEVA.out] at h; rw [HEVA.out]; exact neq_of h
        have HLM := Lib.hid (FM.out w19 HKw19.out)
        obtain ⟨zv, hzv⟩ : ∃ zv, zen.val = zv := ⟨_, rfl⟩
        rw [hzv]
        clear hb hnone HO18 HRN hzv
        go_wp2_with (first
          | (refine QB.wpList_ld 49 rfl rfl HL1.out (by kernel_rfl) ?_; clear HL1)
          | (refine QB.wpList_ld 49 rfl rfl HL2.out (by kernel_rfl) ?_; clear HL2)
          | (refine QB.wpList_ld 52 rfl rfl HLM.out (by kernel_rfl) ?_; clear HLM)
          | fail)
        clear hgd hev
        by_cases hV : checkMZ m = 0
        case pos =>
          have hmk := (FMA.out w19 HKw19.out).es.1
          have HRO := Lib.hid (rdMsg_same m hV hmk HMR.out)
          have HRN := Lib.hid (rdMsg_more m hV hmk HMR.out)
          have HLE := Lib.hid (menc_le hV hmk HMR.out)
          have HOB := Lib.hid (by
            obtain ⟨v1, v2, v3, v4, v5⟩ := valid_range hV
            exact HMC.out ▸ Wir.Bytes_ok (w := w19) (FMA.out w19 HKw19.out) (FWW.out w19 HKw19.out).size hV HMR.out ⟨by omega, v1.2, v2.1, v2.2⟩ ⟨v3, v4, v5⟩)
          have HS11 := Lib.hid HR11.out.lt
          clear hV hmk
          refine HOB.out.mono ?_
          rintro r w20 ⟨x, rfl, ho, hb⟩
          have HKw20 := Lib.hid (show Below W.heap.size W w20 from nextB HKw19.out (Nat.le_refl _) hb)
          have HR11 := Lib.hid (HR11.out.below hb HR11.out.lt)
          have HO := Lib.hid ho
          have HS20 := Lib.hid (show w19.heap.size ≤ w20.heap.size from hb.size)
          clear ho hb HOB
          go_wp2_with fail
          refine (Own_any _ m.enc _ HO.out.bs (by have := HLE.out; omega)).mono ?_
          rintro r w21 ⟨v21, rfl, ho, hb⟩
          have HKw21 := Lib.hid (show Below W.heap.size W w21 from nextB HKw20.out (Nat.le_refl _) hb)
          have HR11 := Lib.hid (HR11.out.below hb HR11.out.lt)
          have HO := Lib.hid (HO.out.below hb (Nat.le_refl _))
          have HS21 := Lib.hid (show w19.heap.size ≤ w21.heap.size from Nat.le_trans HS20.out hb.size)
          have HO21 := Lib.hid ho
          have HVB := Lib.hid (fun i (e : x.ownBlock = some i) => (HO.out.block_ge e).2)
          clear ho hb
          go_wp2_with fail
          refine (Wir.Read_any _ m.enc _ HO21.out.bs (by have := HLE.out; omega)).mono ?_
          rintro r w22 ⟨hsome, _, hb⟩
          obtain ⟨ve, vb, he, hoe, hob⟩ := hsome m HRO.out
          subst he
          have HKw22 := Lib.hid (show Below W.heap.size W w22 from nextB HKw21.out (Nat.le_refl _) hb)
          have HR11 := Lib.hid (HR11.out.below hb HR11.out.lt)
          have HO := Lib.hid (HO.out.below hb (Nat.le_refl _))
          have HS22 := Lib.hid (show w21.heap.size ≤ w22.heap.size from hb.size)
          have HOE := Lib.hid hoe
          have HOBd := Lib.hid hob
          obtain ⟨qc, hqc⟩ : ∃ qc, m.cs ve vb = qc := ⟨_, rfl⟩
          have HQLn := Lib.hid (show qc.length = 10 by rw [← hqc]; rfl)
          have HQ1n := Lib.hid (show ∀ u ∈ qc, u.oneCell' = true by
            rw [← hqc]
            obtain ⟨_, _, e1, _⟩ := hoe.tab.2.shape
            obtain ⟨_, _, e2⟩ := hob.shape
            rw [e1, e2]
            exact ms_one m _ _ _ _ _ _)
          have HQD := Lib.hid (fun (y : World) (g : Nat) (hy : Row y g qc 52) => show (loadVar 52 ⟨g, 0, none⟩).run Try.prog y = .ok (.agg qc.toArray) y by rw [← hqc] at hy ⊢; exact l_msg hy)
          have HQC := Lib.hid hqc
          rw [hqc]
          clear hb hsome HO21 HRO hoe hob hqc
          go_wp2_with (first
            | (refine wpList_storeRow rfl 52 (.tmp 11) (.tmp 118) rfl rfl (cs := qc) rfl HR11.out (by kernel_rfl) HQLn.out HQL.out HQ1n.out ?_
               refine QB.name fun w23 hZ => ?_
               have hgr : w22.grownBy w23 (some g11) := hZ ▸ only_setRow _
               have HR11' := Lib.hid (show Row w23 g11 qc 52 from hZ ▸ HR11.out.setRow _)
               have HKw23 := Lib.hid (show Below W.heap.size W w23 from hZ ▸ below_setRow HKw22.out HG11.out _)
               have HO23 := Lib.hid (own_kept HO.out hgr HS11.out)
               have HOE23 := Lib.hid (ownE_grown HOE.out hgr (fun i e => by injection e with e; have := HS11.out; have := HS21.out; omega))
               have HOB23 := Lib.hid (own_kept HOBd.out hgr (by have := HS11.out; have := HS21.out; omega))
               have HS23 := Lib.hid (show w21.heap.size ≤ w23.heap.size from Nat.le_trans HS22.out hgr.size)
               have HZ1 := Lib.hid (run_zero w23)
               clear hZ hgr HO HOE HOBd)
            | (refine wpList_bs rfl 31 1 _ rfl (ps := #[(0, .int .u8 0)]) (by kernel_rfl) HZ1.out ?_
               refine QB.name fun w24 hW => ?_
               have hb : Below w23.heap.size w23 w24 := hW ▸ (Below.refl _ w23).alloc (Nat.le_refl _) _
               have HZ2 := Lib.hid (bs_zero hW)
               have HR11 := Lib.hid (HR11'.out.below hb HR11'.out.lt)
               have HKw24 := Lib.hid (show Below W.heap.size W w24 from nextB HKw23.out (Nat.le_refl _) hb)
               have HO24 := Lib.hid (HO23.out.below hb (Nat.le_refl _))
               have HOE24 := Lib.hid (ownE_below HOE23.out hb)
               have HOB24 := Lib.hid (HOB23.out.below hb (Nat.le_refl _))
               have HS24 := Lib.hid (show w21.heap.size ≤ w24.heap.size from Nat.le_trans HS23.out hb.size)
               clear hW hb HZ1 HR11' HO23 HOE23 HOB23)
            | (refine wpList_app_bytes _ rfl (.tmp 121) (.tmp 122) rfl rfl HO24.out rfl HZ2.out (by have := HLE.out; simp; omega) (by have := HS24.out; have := HS21.out; omega) ?_
               intro v123 w25 ho25 hg25 _
               have HVL := Lib.hid (fun i (e : x.ownBlock = some i) => (HO24.out.block_ge e).1)
               have HR11 := Lib.hid (row_other HR11.out hg25 (fun e => by have := HVL.out _ e; have := HS11.out; omega))
               have HKw25 := Lib.hid (show Below W.heap.size W w25 from HKw24.out.trans (below_grown hg25 (fun i e => by have := HVL.out _ e; have := HKw19.out.size; omega) HKw24.out.size))
               have HO25 := Lib.hid ho25
               have HOE25 := Lib.hid (ownE_apart HOE24.out hg25 (fun i e => HVB.out i e))
               have HOB25 := Lib.hid (own_apart HOB24.out HO24.out hg25 (fun i e => HVB.out i e))
               clear ho25 hg25 HO24 HZ2 HOE24 HOB24)
            | fail)
          refine (Wir.Read_any _ (m.enc ++ [0]) _ HO25.out.bs (by have := HLE.out; simp; omega)).mono ?_
          rintro r w26 ⟨_, hnone, hb⟩
          have he := hnone HRN.out
          subst he
          have HKw26 := Lib.hid (show Below W.heap.size W w26 from nextB HKw25.out (Nat.le_refl _) hb)
          have HR11 := Lib.hid (HR11.out.below hb HR11.out.lt)
          have HOE := Lib.hid (ownE_below HOE25.out hb)
          have HOBd := Lib.hid (HOB25.out.below hb (Nat.le_refl _))
          clear hb hnone HO25 HRN HOE25 HOB25
          go_wp2_with (first
            | (refine QB.wpList_alloc rfl 52 rfl zero_msg ?_; intro X1 hx1 hy1; have HX1 := Lib.hid (show Row X1 w26.heap.size zcs 52 from hx1); have HY1 := Lib.hid hy1; clear hx1 hy1)
            | (refine wpList_storeRow rfl 52 (.tmp 16) (.tmp 125) rfl rfl (cs := zcs) rfl HX1.out (by kernel_rfl) rfl rfl zcs_one ?_
               refine QB.name fun w27 hZ => ?_
               have hb6 : Below w26.heap.size w26 w27 := hZ ▸ below_setRow HY1.out (Nat.le_refl _) _
               have HKw27 := Lib.hid (show Below W.heap.size W w27 from nextB HKw26.out (Nat.le_refl _) hb6)
               have HR11 := Lib.hid (HR11.out.below hb6 HR11.out.lt)
               have HL1 := Lib.hid (HQD.out w27 _ HR11.out)
               have HL2 := Lib.hid (FM.out w27 HKw27.out)
               have HKT := Lib.hid (KMsg_any (w := w27) (B := w27.heap.size) (v1 := ve) (u1 := vb) (m := m) ⟨(ownE_below HOE.out hb6).tab, (HOBd.out.below hb6 (Nat.le_refl _)).bs⟩ ((FMA.out w27 HKw27.out).more (FWW.out w27 HKw27.out).size) (by have := HN.out; omega) (Nat.le_refl _))
               rw [HQC.out, HMC.out] at HKT
               clear hZ hb6 HX1 HY1)
            | (refine QB.wpList_ld 52 rfl rfl HL1.out (by kernel_rfl) ?_; clear HL1)
            | (refine QB.wpList_ld 52 rfl rfl HL2.out (by kernel_rfl) ?_; clear HL2)
            | fail)
          refine HKT.out.mono ?_
          rintro r w28 ⟨rfl, hb⟩
          have HKw28 := Lib.hid (show Below W.heap.size W w28 from nextB HKw27.out (Nat.le_refl _) hb)
          clear hb HKT
          go_wp2
          go_ret
          exact ⟨rfl, FWW.out w28 HKw28.out⟩
        case neg =>
          have HOB := Lib.hid (Wir.Bytes_no (FMA.out w19 HKw19.out) HMR.out.ix.1 (FWW.out w19 HKw19.out).size hV)
          have HCH := Lib.hid (fun (y : World) (h : Below W.heap.size W y) => Wir.Check_any (FMA.out y h) HMR.out.ix.1 (FWW.out y h).size)
          rw [HMC.out] at HOB
          rw [HMC.out] at HCH
          obtain ⟨z, hz⟩ : ∃ z, checkMZ m = z := ⟨_, rfl⟩
          rw [hz] at HOB HCH hV
          have hz1 : (z != 0) = true := by simpa using hV
          clear hV hz
          refine HOB.out.mono ?_
          rintro r w20 ⟨rfl, hb⟩
          have HKw20 := Lib.hid (show Below W.heap.size W w20 from nextB HKw19.out (Nat.le_refl _) hb)
          have HLM := Lib.hid (FM.out w20 HKw20.out)
          clear hb HOB
          go_wp2_with (first
            | (refine QB.wpList_ld 52 rfl rfl HLM.out (by kernel_rfl) ?_; clear HLM)
            | fail)
          refine (HCH.out w20 HKw20.out).mono ?_
          rintro r w21 ⟨rfl, hb⟩
          have HKw21 := Lib.hid (show Below W.heap.size W w21 from nextB HKw20.out (Nat.le_refl _) hb)
          clear hb HCH
          go_wp2
          go_ret
          exact ⟨rfl, FWW.out w21 HKw21.out⟩
      case neg =>
        have HOB := Lib.hid (fun (y : World) => show Calls Try.prog 23 #[ev] y _ from HEV.out ▸ EntryBytes_no (w := y) HEK.out hV)
        clear hV
        refine (HOB.out _).mono ?_
        rintro r w13 ⟨rfl, hb⟩
        have HKw13 := Lib.hid (show Below W.heap.size W w13 from nextB HKw11.out (Nat.le_refl _) hb)
        have HR7 := Lib.hid (HR7.out.below hb HR7.out.lt)
        have HR11 := Lib.hid (HR11.out.below hb HR11.out.lt)
        have HLM := Lib.hid (FM.out w13 HKw13.out)
        clear hb HOB
        go_wp2_with (first
          | (refine QB.wpList_ld 52 rfl rfl HLM.out (by kernel_rfl) ?_; clear HLM)
          | fail)
        by_cases hV : checkMZ m = 0
        case pos =>
          have hmk := (FMA.out w13 HKw13.out).es.1
          have HRO := Lib.hid (rdMsg_same m hV hmk HMR.out)
          have HRN := Lib.hid (rdMsg_more m hV hmk HMR.out)
          have HLE := Lib.hid (menc_le hV hmk HMR.out)
          have HOB := Lib.hid (by
            obtain ⟨v1, v2, v3, v4, v5⟩ := valid_range hV
            exact HMC.out ▸ Wir.Bytes_ok (w := w13) (FMA.out w13 HKw13.out) (FWW.out w13 HKw13.out).size hV HMR.out ⟨by omega, v1.2, v2.1, v2.2⟩ ⟨v3, v4, v5⟩)
          have HS11 := Lib.hid HR11.out.lt
          clear hV hmk
          refine HOB.out.mono ?_
          rintro r w20 ⟨x, rfl, ho, hb⟩
          have HKw20 := Lib.hid (show Below W.heap.size W w20 from nextB HKw13.out (Nat.le_refl _) hb)
          have HR11 := Lib.hid (HR11.out.below hb HR11.out.lt)
          have HO := Lib.hid ho
          have HS20 := Lib.hid (show w13.heap.size ≤ w20.heap.size from hb.size)
          clear ho hb HOB
          go_wp2_with fail
          refine (Own_any _ m.enc _ HO.out.bs (by have := HLE.out; omega)).mono ?_
          rintro r w21 ⟨v21, rfl, ho, hb⟩
          have HKw21 := Lib.hid (show Below W.heap.size W w21 from nextB HKw20.out (Nat.le_refl _) hb)
          have HR11 := Lib.hid (HR11.out.below hb HR11.out.lt)
          have HO := Lib.hid (HO.out.below hb (Nat.le_refl _))
          have HS21 := Lib.hid (show w13.heap.size ≤ w21.heap.size from Nat.le_trans HS20.out hb.size)
          have HO21 := Lib.hid ho
          have HVB := Lib.hid (fun i (e : x.ownBlock = some i) => (HO.out.block_ge e).2)
          clear ho hb
          go_wp2_with fail
          refine (Wir.Read_any _ m.enc _ HO21.out.bs (by have := HLE.out; omega)).mono ?_
          rintro r w22 ⟨hsome, _, hb⟩
          obtain ⟨ve, vb, he, hoe, hob⟩ := hsome m HRO.out
          subst he
          have HKw22 := Lib.hid (show Below W.heap.size W w22 from nextB HKw21.out (Nat.le_refl _) hb)
          have HR11 := Lib.hid (HR11.out.below hb HR11.out.lt)
          have HO := Lib.hid (HO.out.below hb (Nat.le_refl _))
          have HS22 := Lib.hid (show w21.heap.size ≤ w22.heap.size from hb.size)
          have HOE := Lib.hid hoe
          have HOBd := Lib.hid hob
          obtain ⟨qc, hqc⟩ : ∃ qc, m.cs ve vb = qc := ⟨_, rfl⟩
          have HQLn := Lib.hid (show qc.length = 10 by rw [← hqc]; rfl)
          have HQ1n := Lib.hid (show ∀ u ∈ qc, u.oneCell' = true by
            rw [← hqc]
            obtain ⟨_, _, e1, _⟩ := hoe.tab.2.shape
            obtain ⟨_, _, e2⟩ := hob.shape
            rw [e1, e2]
            exact ms_one m _ _ _ _ _ _)
          have HQD := Lib.hid (fun (y : World) (g : Nat) (hy : Row y g qc 52) => show (loadVar 52 ⟨g, 0, none⟩).run Try.prog y = .ok (.agg qc.toArray) y by rw [← hqc] at hy ⊢; exact l_msg hy)
          have HQC := Lib.hid hqc
          rw [hqc]
          clear hb hsome HO21 HRO hoe hob hqc
          go_wp2_with (first
            | (refine wpList_storeRow rfl 52 (.tmp 11) (.tmp 118) rfl rfl (cs := qc) rfl HR11.out (by kernel_rfl) HQLn.out HQL.out HQ1n.out ?_
               refine QB.name fun w23 hZ => ?_
               have hgr : w22.grownBy w23 (some g11) := hZ ▸ only_setRow _
               have HR11' := Lib.hid (show Row w23 g11 qc 52 from hZ ▸ HR11.out.setRow _)
               have HKw23 := Lib.hid (show Below W.heap.size W w23 from hZ ▸ below_setRow HKw22.out HG11.out _)
               have HO23 := Lib.hid (own_kept HO.out hgr HS11.out)
               have HOE23 := Lib.hid (ownE_grown HOE.out hgr (fun i e => by injection e with e; have := HS11.out; have := HS21.out; omega))
               have HOB23 := Lib.hid (own_kept HOBd.out hgr (by have := HS11.out; have := HS21.out; omega))
               have HS23 := Lib.hid (show w21.heap.size ≤ w23.heap.size from Nat.le_trans HS22.out hgr.size)
               have HZ1 := Lib.hid (run_zero w23)
               clear hZ hgr HO HOE HOBd)
            | (refine wpList_bs rfl 31 1 _ rfl (ps := #[(0, .int .u8 0)]) (by kernel_rfl) HZ1.out ?_
               refine QB.name fun w24 hW => ?_
               have hb : Below w23.heap.size w23 w24 := hW ▸ (Below.refl _ w23).alloc (Nat.le_refl _) _
               have HZ2 := Lib.hid (bs_zero hW)
               have HR11 := Lib.hid (HR11'.out.below hb HR11'.out.lt)
               have HKw24 := Lib.hid (show Below W.heap.size W w24 from nextB HKw23.out (Nat.le_refl _) hb)
               have HO24 := Lib.hid (HO23.out.below hb (Nat.le_refl _))
               have HOE24 := Lib.hid (ownE_below HOE23.out hb)
               have HOB24 := Lib.hid (HOB23.out.below hb (Nat.le_refl _))
               have HS24 := Lib.hid (show w21.heap.size ≤ w24.heap.size from Nat.le_trans HS23.out hb.size)
               clear hW hb HZ1 HR11' HO23 HOE23 HOB23)
            | (refine wpList_app_bytes _ rfl (.tmp 121) (.tmp 122) rfl rfl HO24.out rfl HZ2.out (by have := HLE.out; simp; omega) (by have := HS24.out; have := HS21.out; omega) ?_
               intro v123 w25 ho25 hg25 _
               have HVL := Lib.hid (fun i (e : x.ownBlock = some i) => (HO24.out.block_ge e).1)
               have HR11 := Lib.hid (row_other HR11.out hg25 (fun e => by have := HVL.out _ e; have := HS11.out; omega))
               have HKw25 := Lib.hid (show Below W.heap.size W w25 from HKw24.out.trans (below_grown hg25 (fun i e => by have := HVL.out _ e; have := HKw13.out.size; omega) HKw24.out.size))
               have HO25 := Lib.hid ho25
               have HOE25 := Lib.hid (ownE_apart HOE24.out hg25 (fun i e => HVB.out i e))
               have HOB25 := Lib.hid (own_apart HOB24.out HO24.out hg25 (fun i e => HVB.out i e))
               clear ho25 hg25 HO24 HZ2 HOE24 HOB24)
            | fail)
          refine (Wir.Read_any _ (m.enc ++ [0]) _ HO25.out.bs (by have := HLE.out; simp; omega)).mono ?_
          rintro r w26 ⟨_, hnone, hb⟩
          have he := hnone HRN.out
          subst he
          have HKw26 := Lib.hid (show Below W.heap.size W w26 from nextB HKw25.out (Nat.le_refl _) hb)
          have HR11 := Lib.hid (HR11.out.below hb HR11.out.lt)
          have HOE := Lib.hid (ownE_below HOE25.out hb)
          have HOBd := Lib.hid (HOB25.out.below hb (Nat.le_refl _))
          clear hb hnone HO25 HRN HOE25 HOB25
          go_wp2_with (first
            | (refine QB.wpList_alloc rfl 52 rfl zero_msg ?_; intro X1 hx1 hy1; have HX1 := Lib.hid (show Row X1 w26.heap.size zcs 52 from hx1); have HY1 := Lib.hid hy1; clear hx1 hy1)
            | (refine wpList_storeRow rfl 52 (.tmp 16) (.tmp 125) rfl rfl (cs := zcs) rfl HX1.out (by kernel_rfl) rfl rfl zcs_one ?_
               refine QB.name fun w27 hZ => ?_
               have hb6 : Below w26.heap.size w26 w27 := hZ ▸ below_setRow HY1.out (Nat.le_refl _) _
               have HKw27 := Lib.hid (show Below W.heap.size W w27 from nextB HKw26.out (Nat.le_refl _) hb6)
               have HR11 := Lib.hid (HR11.out.below hb6 HR11.out.lt)
               have HL1 := Lib.hid (HQD.out w27 _ HR11.out)
               have HL2 := Lib.hid (FM.out w27 HKw27.out)
               have HKT := Lib.hid (KMsg_any (w := w27) (B := w27.heap.size) (v1 := ve) (u1 := vb) (m := m) ⟨(ownE_below HOE.out hb6).tab, (HOBd.out.below hb6 (Nat.le_refl _)).bs⟩ ((FMA.out w27 HKw27.out).more (FWW.out w27 HKw27.out).size) (by have := HN.out; omega) (Nat.le_refl _))
               rw [HQC.out, HMC.out] at HKT
               clear hZ hb6 HX1 HY1)
            | (refine QB.wpList_ld 52 rfl rfl HL1.out (by kernel_rfl) ?_; clear HL1)
            | (refine QB.wpList_ld 52 rfl rfl HL2.out (by kernel_rfl) ?_; clear HL2)
            | fail)
          refine HKT.out.mono ?_
          rintro r w28 ⟨rfl, hb⟩
          have HKw28 := Lib.hid (show Below W.heap.size W w28 from nextB HKw27.out (Nat.le_refl _) hb)
          clear hb HKT
          go_wp2
          go_ret
          exact ⟨rfl, FWW.out w28 HKw28.out⟩
        case neg =>
          have HOB := Lib.hid (Wir.Bytes_no (FMA.out w13 HKw13.out) HMR.out.ix.1 (FWW.out w13 HKw13.out).size hV)
          have HCH := Lib.hid (fun (y : World) (h : Below W.heap.size W y) => Wir.Check_any (FMA.out y h) HMR.out.ix.1 (FWW.out y h).size)
          rw [HMC.out] at HOB
          rw [HMC.out] at HCH
          obtain ⟨z, hz⟩ : ∃ z, checkMZ m = z := ⟨_, rfl⟩
          rw [hz] at HOB HCH hV
          have hz1 : (z != 0) = true := by simpa using hV
          clear hV hz
          refine HOB.out.mono ?_
          rintro r w20 ⟨rfl, hb⟩
          have HKw20 := Lib.hid (show Below W.heap.size W w20 from nextB HKw13.out (Nat.le_refl _) hb)
          have HLM := Lib.hid (FM.out w20 HKw20.out)
          clear hb HOB
          go_wp2_with (first
            | (refine QB.wpList_ld 52 rfl rfl HLM.out (by kernel_rfl) ?_; clear HLM)
            | fail)
          refine (HCH.out w20 HKw20.out).mono ?_
          rintro r w21 ⟨rfl, hb⟩
          have HKw21 := Lib.hid (show Below W.heap.size W w21 from nextB HKw20.out (Nat.le_refl _) hb)
          clear hb HCH
          go_wp2
          go_ret
          exact ⟨rfl, FWW.out w21 HKw21.out⟩
  | none =>
    have he := hnone hrd
    subst he
    clear hsome hnone hrd
    obtain ⟨zv, hzv⟩ : ∃ zv, zen.val = zv := ⟨_, rfl⟩
    have HZV := Lib.hid (show zv = .agg zen.cs.toArray from hzv.symm)
    rw [hzv]
    clear hzv
    go_wp2_with (first
      | (refine QB.wpList_alloc rfl 49 rfl zero_ent' ?_; intro X1 hx1 hy1; have HX1 := Lib.hid (show Row X1 w5.heap.size zen.cs 49 from hx1); have HY1 := Lib.hid hy1; clear hx1 hy1)
      | (refine wpList_storeRow rfl 49 (.tmp 7) (.tmp 32) rfl rfl (cs := zen.cs) HZV.out HX1.out (by kernel_rfl) (En.len zen_K) (En.len zen_K) zen.one ?_
         refine QB.name fun w6 hZ => ?_
         have hb6 : Below w5.heap.size w5 w6 := hZ ▸ below_setRow HY1.out (Nat.le_refl _) _
         have HR7 := Lib.hid (show Row w6 w5.heap.size zen.cs 49 from hZ ▸ HX1.out.setRow _)
         have HKw6 := Lib.hid (show Below W.heap.size W w6 from nextB HK5.out (Nat.le_refl _) hb6)
         clear hZ hb6 HX1 HY1)
      | fail)
    obtain ⟨g7, hg7⟩ : ∃ g, w5.heap.size = g := ⟨_, rfl⟩
    rw [hg7] at HR7 ⊢
    have HG7 := Lib.hid (show W.heap.size ≤ g7 by rw [← hg7]; exact HK5.out.size)
    have HPL := Lib.hid (show zen.cs.length = 74 from En.len zen_K)
    clear hg7 HZV
    refine (Own_any _ b _ (FB.out w6 HKw6.out) HLB.out).mono ?_
    rintro r w9 ⟨v9, rfl, ho9, hb9⟩
    have HO9 := Lib.hid ho9
    have HK9 := Lib.hid (show Below W.heap.size W w9 from nextB HKw6.out (Nat.le_refl _) hb9)
    have HR7 := Lib.hid (HR7.out.below hb9 HR7.out.lt)
    clear ho9 hb9
    go_wp2_with fail
    refine (Wir.Read_any _ b _ HO9.out.bs HL4.out).mono ?_
    rintro r w10 ⟨hsome, hnone, hb10⟩
    have HK10 := Lib.hid (show Below W.heap.size W w10 from nextB HK9.out (Nat.le_refl _) hb10)
    have HR7 := Lib.hid (HR7.out.below hb10 HR7.out.lt)
    have HNE := Lib.hid (show g7 < w10.heap.size from HR7.out.lt)
    clear hb10 HO9
    cases hro : rdMsg b with
    | some q =>
      obtain ⟨ve, vb, he, hoe, hob⟩ := hsome q hro
      subst he
      obtain ⟨hbb, hV, hr, hk⟩ := rdMsg_bytes hro
      obtain ⟨qc, hqc⟩ : ∃ qc, q.cs ve vb = qc := ⟨_, rfl⟩
      have HQL := Lib.hid (show qc.length = 10 by rw [← hqc]; rfl)
      have HQ1 := Lib.hid (show ∀ u ∈ qc, u.oneCell' = true by
        rw [← hqc]
        obtain ⟨_, _, e1, _⟩ := hoe.tab.2.shape
        obtain ⟨_, _, e2⟩ := hob.shape
        rw [e1, e2]
        exact ms_one q _ _ _ _ _ _)
      have HQD := Lib.hid (fun (y : World) (g : Nat) (hy : Row y g qc 52) => show (loadVar 52 ⟨g, 0, none⟩).run Try.prog y = .ok (.agg qc.toArray) y by rw [← hqc] at hy ⊢; exact l_msg hy)
      have HQB := Lib.hid (fun (y : World) (hy : Below w10.heap.size w10 y) => by
        obtain ⟨v1, v2, v3, v4, v5⟩ := valid_range hV
        exact hqc ▸ Wir.Bytes_ok (w := y) (B := y.heap.size) (m := q) ⟨(ownE_below hoe hy).tab, (hob.below hy (Nat.le_refl _)).bs⟩ (Nat.le_refl _) hV hr ⟨by omega, v1.2, v2.1, v2.2⟩ ⟨v3, v4, v5⟩)
      have HBB := Lib.hid hbb
      rw [hqc]
      clear hsome hnone hro hbb hV hk hr hqc hoe hob
      go_wp2_with (first
        | (refine QB.wpList_alloc rfl 52 rfl zero_msg ?_; intro X1 hx1 hy1; have HX1 := Lib.hid (show Row X1 w10.heap.size zcs 52 from hx1); have HY1 := Lib.hid hy1; clear hx1 hy1)
        | (refine wpList_storeRow rfl 52 (.tmp 11) (.tmp 54) rfl rfl (cs := qc) rfl HX1.out (by kernel_rfl) HQL.out rfl HQ1.out ?_
           refine QB.name fun w11 hZ => ?_
           have hb6 : Below w10.heap.size w10 w11 := hZ ▸ below_setRow HY1.out (Nat.le_refl _) _
           have HR11 := Lib.hid (show Row w11 w10.heap.size qc 52 from hZ ▸ HX1.out.setRow _)
           have HKw11 := Lib.hid (show Below W.heap.size W w11 from nextB HK10.out (Nat.le_refl _) hb6)
           have HR7 := Lib.hid (HR7.out.below hb6 HR7.out.lt)
           have HBq := Lib.hid hb6
           have HLD := Lib.hid (HQD.out w11 _ HR11.out)
           clear hZ hb6 HX1 HY1)
        | (refine QB.wpList_ld 52 rfl rfl HLD.out (by kernel_rfl) ?_; clear HLD)
        | fail)
      obtain ⟨g11, hg11⟩ : ∃ g, w10.heap.size = g := ⟨_, rfl⟩
      have HQC := Lib.hid (HQB.out w11 HBq.out)
      rw [hg11] at HR11 HBq HNE ⊢
      have HG11 := Lib.hid (show W.heap.size ≤ g11 by rw [← hg11]; exact HK10.out.size)
      refine HQC.out.mono ?_
      rintro r w12 ⟨x, rfl, ho7, hb7⟩
      rw [HBB.out] at ho7
      have HK12 := Lib.hid (show Below W.heap.size W w12 from nextB HKw11.out (Nat.le_refl _) hb7)
      have HR7 := Lib.hid (HR7.out.below hb7 HR7.out.lt)
      have HR11 := Lib.hid (HR11.out.below hb7 HR11.out.lt)
      have hr1 := run_str w12 ho7.bs
      have hr2 := run_str w12 (FB.out w12 HK12.out)
      obtain ⟨A9, c9, rfl⟩ := ho7.shape
      have hsg := str_guard .neq (.inr rfl) (.tmp 67) (.tmp 69) b b w12
      have hsn := str_neq b w12
      have HLDe := Lib.hid (FE.out w12 HK12.out)
      clear hb7 ho7 HQC HQB HBB HQD HQ1 HBq hg11
      go_wp2_with (first
        | (refine QB.wpList_ld 49 rfl rfl HLDe.out (by kernel_rfl) ?_; clear HLDe)
        | fail)
      clear hr1 hr2 hsg hsn
      by_cases hV : okE e = true
      case pos =>
        have HRO := Lib.hid (rdEnt_own e HEK.out hV HER.out)
        have HRN := Lib.hid (rdEnt_more e HEK.out hV HER.out)
        have HLE := Lib.hid (En.enc_le HEK.out hV HER.out)
        have HOB := Lib.hid (fun (y : World) => show Calls Try.prog 23 #[ev] y _ from HEV.out ▸ EntryBytes_ok (w := y) HEK.out hV HER.out)
        have HBX := Lib.hid (show g7 < w12.heap.size ∧ g11 < w12.heap.size ∧ W.heap.size ≤ w12.heap.size from ⟨HR7.out.lt, HR11.out.lt, HK12.out.size⟩)
        clear hV
        refine (HOB.out _).mono ?_
        rintro r w13 ⟨x, rfl, ho, hb⟩
        have HSX := Lib.hid (show w12.heap.size ≤ w13.heap.size from hb.size)
        have HKw13 := Lib.hid (show Below W.heap.size W w13 from nextB HK12.out (Nat.le_refl _) hb)
        have HR7 := Lib.hid (HR7.out.below hb HR7.out.lt)
        have HR11 := Lib.hid (HR11.out.below hb HR11.out.lt)
        have HO := Lib.hid ho
        clear ho hb HOB
        go_wp2_with fail
        refine (Own_any _ e.enc _ HO.out.bs (by have := HLE.out; omega)).mono ?_
        rintro r w14 ⟨v14, rfl, ho, hb⟩
        have HKw14 := Lib.hid (show Below W.heap.size W w14 from nextB HKw13.out (Nat.le_refl _) hb)
        have HR7 := Lib.hid (HR7.out.below hb HR7.out.lt)
        have HR11 := Lib.hid (HR11.out.below hb HR11.out.lt)
        have HO := Lib.hid (HO.out.below hb (Nat.le_refl _))
        have HO14 := Lib.hid ho
        have HSX := Lib.hid (Nat.le_trans HSX.out hb.size)
        clear ho hb
        go_wp2_with fail
        refine (ReadEntry_any _ e.enc _ HO14.out.bs (by have := HLE.out; omega)).mono ?_
        rintro r w15 ⟨hsome, _, hb⟩
        have he := hsome e HRO.out
        subst he
        have HKw15 := Lib.hid (show Below W.heap.size W w15 from nextB HKw14.out (Nat.le_refl _) hb)
        have HR7 := Lib.hid (HR7.out.below hb HR7.out.lt)
        have HR11 := Lib.hid (HR11.out.below hb HR11.out.lt)
        have HO := Lib.hid (HO.out.below hb (Nat.le_refl _))
        have HSX := Lib.hid (Nat.le_trans HSX.out hb.size)
        have HECL := Lib.hid (show ec.length = 74 by rw [← HEC.out]; exact En.len HEK.out)
        have HEC1 := Lib.hid (show ∀ u ∈ ec, u.oneCell' = true by rw [← HEC.out]; exact e.one)
        have HEVA := Lib.hid (show ev = .agg ec.toArray by rw [← HEV.out, ← HEC.out]; rfl)
        rw [HEV.out]
        clear hb hsome HO14 HRO
        go_wp2_with (first
          | (refine wpList_storeRow rfl 49 (.tmp 7) (.tmp 83) rfl rfl (cs := ec) HEVA.out HR7.out (by kernel_rfl) HECL.out HPL.out HEC1.out ?_
             refine QB.name fun w16 hZ => ?_
             have hgr : w15.grownBy w16 (some g7) := hZ ▸ only_setRow _
             have HR7' := Lib.hid (show Row w16 g7 ec 49 from hZ ▸ HR7.out.setRow _)
             have HR11' := Lib.hid (row_grown HR11.out hgr (by have := HNE.out; omega))
             have HKw16 := Lib.hid (show Below W.heap.size W w16 from hZ ▸ below_setRow HKw15.out HG7.out _)
             have HO16 := Lib.hid (own_kept HO.out hgr HBX.out.1)
             have HS16 := Lib.hid (Nat.le_trans HSX.out hgr.size)
             have HZ1 := Lib.hid (run_zero w16)
             clear hZ hgr HO HR11)
          | (refine wpList_bs rfl 31 1 _ rfl (ps := #[(0, .int .u8 0)]) (by kernel_rfl) HZ1.out ?_
             refine QB.name fun w17 hW => ?_
             have hb : Below w16.heap.size w16 w17 := hW ▸ (Below.refl _ w16).alloc (Nat.le_refl _) _
             have HZ2 := Lib.hid (bs_zero hW)
             have HR7 := Lib.hid (HR7'.out.below hb HR7'.out.lt)
             have HR11 := Lib.hid (HR11'.out.below hb HR11'.out.lt)
             have HKw17 := Lib.hid (show Below W.heap.size W w17 from nextB HKw16.out (Nat.le_refl _) hb)
             have HO17 := Lib.hid (HO16.out.below hb (Nat.le_refl _))
             have HSZ := Lib.hid (show w12.heap.size ≤ w17.heap.size from Nat.le_trans HS16.out hb.size)
             clear hW hb HZ1 HR7' HR11' HO16)
          | (refine wpList_app_bytes _ rfl (.tmp 86) (.tmp 87) rfl rfl HO17.out rfl HZ2.out (by have := HLE.out; simp; omega) HSZ.out ?_
             intro v88 w18 ho18 hg18 _
             have HVL := Lib.hid (fun i (e : x.ownBlock = some i) => (HO17.out.block_ge e).1)
             have HR7 := Lib.hid (row_other HR7.out hg18 (fun e => by have := HVL.out _ e; have := HBX.out.1; omega))
             have HR11 := Lib.hid (row_other HR11.out hg18 (fun e => by have := HVL.out _ e; have := HBX.out.2.1; omega))
             have HKw18 := Lib.hid (show Below W.heap.size W w18 from HKw17.out.trans (below_grown hg18 (fun i e => by have := HVL.out _ e; have := HBX.out.2.2; omega) HKw17.out.size))
             have HO18 := Lib.hid ho18
             clear ho18 hg18 HO17 HZ2)
          | fail)
        refine (ReadEntry_any _ (e.enc ++ [0]) _ HO18.out.bs (by have := HLE.out; simp; omega)).mono ?_
        rintro r w19 ⟨_, hnone, hb⟩
        have he := hnone HRN.out
        subst he
        have HKw19 := Lib.hid (show Below W.heap.size W w19 from nextB HKw18.out (Nat.le_refl _) hb)
        have HR7 := Lib.hid (HR7.out.below hb HR7.out.lt)
        have HR11 := Lib.hid (HR11.out.below hb HR11.out.lt)
        have HL1 := Lib.hid (show (loadVar 49 ⟨g7, 0, none⟩).run Try.prog w19 = .ok ev w19 by rw [← HEV.out]; exact l_ent (HEC.out ▸ HR7.out) HEK.out)
        have HL2 := Lib.hid (FE.out w19 HKw19.out)
        have hgd : (eqGuard .neq 49 (.tmp 95) (.tmp 96) ev ev).run Try.prog w19 = .ok () w19 := by rw [HEVA.out]; exact guard_of g_ent _ _ _ _ _ _
        have hev : (binOp .neq 49 ev ev).run Try.prog w19 = .ok (.bool false) w19 := by have h := eq_ent (w := w19) e HEK.out; rw [HEV.out, HEVA.out] at h; rw [HEVA.out]; exact neq_of h
        have HLM := Lib.hid (FM.out w19 HKw19.out)
        obtain ⟨zv, hzv⟩ : ∃ zv, zen.val = zv := ⟨_, rfl⟩
        rw [hzv]
        clear hb hnone HO18 HRN hzv
        go_wp2_with (first
          | (refine QB.wpList_ld 49 rfl rfl HL1.out (by kernel_rfl) ?_; clear HL1)
          | (refine QB.wpList_ld 49 rfl rfl HL2.out (by kernel_rfl) ?_; clear HL2)
          | (refine QB.wpList_ld 52 rfl rfl HLM.out (by kernel_rfl) ?_; clear HLM)
          | fail)
        clear hgd hev
        by_cases hV : checkMZ m = 0
        case pos =>
          have hmk := (FMA.out w19 HKw19.out).es.1
          have HRO := Lib.hid (rdMsg_same m hV hmk HMR.out)
          have HRN := Lib.hid (rdMsg_more m hV hmk HMR.out)
          have HLE := Lib.hid (menc_le hV hmk HMR.out)
          have HOB := Lib.hid (by
            obtain ⟨v1, v2, v3, v4, v5⟩ := valid_range hV
            exact HMC.out ▸ Wir.Bytes_ok (w := w19) (FMA.out w19 HKw19.out) (FWW.out w19 HKw19.out).size hV HMR.out ⟨by omega, v1.2, v2.1, v2.2⟩ ⟨v3, v4, v5⟩)
          have HS11 := Lib.hid HR11.out.lt
          clear hV hmk
          refine HOB.out.mono ?_
          rintro r w20 ⟨x, rfl, ho, hb⟩
          have HKw20 := Lib.hid (show Below W.heap.size W w20 from nextB HKw19.out (Nat.le_refl _) hb)
          have HR11 := Lib.hid (HR11.out.below hb HR11.out.lt)
          have HO := Lib.hid ho
          have HS20 := Lib.hid (show w19.heap.size ≤ w20.heap.size from hb.size)
          clear ho hb HOB
          go_wp2_with fail
          refine (Own_any _ m.enc _ HO.out.bs (by have := HLE.out; omega)).mono ?_
          rintro r w21 ⟨v21, rfl, ho, hb⟩
          have HKw21 := Lib.hid (show Below W.heap.size W w21 from nextB HKw20.out (Nat.le_refl _) hb)
          have HR11 := Lib.hid (HR11.out.below hb HR11.out.lt)
          have HO := Lib.hid (HO.out.below hb (Nat.le_refl _))
          have HS21 := Lib.hid (show w19.heap.size ≤ w21.heap.size from Nat.le_trans HS20.out hb.size)
          have HO21 := Lib.hid ho
          have HVB := Lib.hid (fun i (e : x.ownBlock = some i) => (HO.out.block_ge e).2)
          clear ho hb
          go_wp2_with fail
          refine (Wir.Read_any _ m.enc _ HO21.out.bs (by have := HLE.out; omega)).mono ?_
          rintro r w22 ⟨hsome, _, hb⟩
          obtain ⟨ve, vb, he, hoe, hob⟩ := hsome m HRO.out
          subst he
          have HKw22 := Lib.hid (show Below W.heap.size W w22 from nextB HKw21.out (Nat.le_refl _) hb)
          have HR11 := Lib.hid (HR11.out.below hb HR11.out.lt)
          have HO := Lib.hid (HO.out.below hb (Nat.le_refl _))
          have HS22 := Lib.hid (show w21.heap.size ≤ w22.heap.size from hb.size)
          have HOE := Lib.hid hoe
          have HOBd := Lib.hid hob
          obtain ⟨qc, hqc⟩ : ∃ qc, m.cs ve vb = qc := ⟨_, rfl⟩
          have HQLn := Lib.hid (show qc.length = 10 by rw [← hqc]; rfl)
          have HQ1n := Lib.hid (show ∀ u ∈ qc, u.oneCell' = true by
            rw [← hqc]
            obtain ⟨_, _, e1, _⟩ := hoe.tab.2.shape
            obtain ⟨_, _, e2⟩ := hob.shape
            rw [e1, e2]
            exact ms_one m _ _ _ _ _ _)
          have HQD := Lib.hid (fun (y : World) (g : Nat) (hy : Row y g qc 52) => show (loadVar 52 ⟨g, 0, none⟩).run Try.prog y = .ok (.agg qc.toArray) y by rw [← hqc] at hy ⊢; exact l_msg hy)
          have HQC := Lib.hid hqc
          rw [hqc]
          clear hb hsome HO21 HRO hoe hob hqc
          go_wp2_with (first
            | (refine wpList_storeRow rfl 52 (.tmp 11) (.tmp 118) rfl rfl (cs := qc) rfl HR11.out (by kernel_rfl) HQLn.out HQL.out HQ1n.out ?_
               refine QB.name fun w23 hZ => ?_
               have hgr : w22.grownBy w23 (some g11) := hZ ▸ only_setRow _
               have HR11' := Lib.hid (show Row w23 g11 qc 52 from hZ ▸ HR11.out.setRow _)
               have HKw23 := Lib.hid (show Below W.heap.size W w23 from hZ ▸ below_setRow HKw22.out HG11.out _)
               have HO23 := Lib.hid (own_kept HO.out hgr HS11.out)
               have HOE23 := Lib.hid (ownE_grown HOE.out hgr (fun i e => by injection e with e; have := HS11.out; have := HS21.out; omega))
               have HOB23 := Lib.hid (own_kept HOBd.out hgr (by have := HS11.out; have := HS21.out; omega))
               have HS23 := Lib.hid (show w21.heap.size ≤ w23.heap.size from Nat.le_trans HS22.out hgr.size)
               have HZ1 := Lib.hid (run_zero w23)
               clear hZ hgr HO HOE HOBd)
            | (refine wpList_bs rfl 31 1 _ rfl (ps := #[(0, .int .u8 0)]) (by kernel_rfl) HZ1.out ?_
               refine QB.name fun w24 hW => ?_
               have hb : Below w23.heap.size w23 w24 := hW ▸ (Below.refl _ w23).alloc (Nat.le_refl _) _
               have HZ2 := Lib.hid (bs_zero hW)
               have HR11 := Lib.hid (HR11'.out.below hb HR11'.out.lt)
               have HKw24 := Lib.hid (show Below W.heap.size W w24 from nextB HKw23.out (Nat.le_refl _) hb)
               have HO24 := Lib.hid (HO23.out.below hb (Nat.le_refl _))
               have HOE24 := Lib.hid (ownE_below HOE23.out hb)
               have HOB24 := Lib.hid (HOB23.out.below hb (Nat.le_refl _))
               have HS24 := Lib.hid (show w21.heap.size ≤ w24.heap.size from Nat.le_trans HS23.out hb.size)
               clear hW hb HZ1 HR11' HO23 HOE23 HOB23)
            | (refine wpList_app_bytes _ rfl (.tmp 121) (.tmp 122) rfl rfl HO24.out rfl HZ2.out (by have := HLE.out; simp; omega) (by have := HS24.out; have := HS21.out; omega) ?_
               intro v123 w25 ho25 hg25 _
               have HVL := Lib.hid (fun i (e : x.ownBlock = some i) => (HO24.out.block_ge e).1)
               have HR11 := Lib.hid (row_other HR11.out hg25 (fun e => by have := HVL.out _ e; have := HS11.out; omega))
               have HKw25 := Lib.hid (show Below W.heap.size W w25 from HKw24.out.trans (below_grown hg25 (fun i e => by have := HVL.out _ e; have := HKw19.out.size; omega) HKw24.out.size))
               have HO25 := Lib.hid ho25
               have HOE25 := Lib.hid (ownE_apart HOE24.out hg25 (fun i e => HVB.out i e))
               have HOB25 := Lib.hid (own_apart HOB24.out HO24.out hg25 (fun i e => HVB.out i e))
               clear ho25 hg25 HO24 HZ2 HOE24 HOB24)
            | fail)
          refine (Wir.Read_any _ (m.enc ++ [0]) _ HO25.out.bs (by have := HLE.out; simp; omega)).mono ?_
          rintro r w26 ⟨_, hnone, hb⟩
          have he := hnone HRN.out
          subst he
          have HKw26 := Lib.hid (show Below W.heap.size W w26 from nextB HKw25.out (Nat.le_refl _) hb)
          have HR11 := Lib.hid (HR11.out.below hb HR11.out.lt)
          have HOE := Lib.hid (ownE_below HOE25.out hb)
          have HOBd := Lib.hid (HOB25.out.below hb (Nat.le_refl _))
          clear hb hnone HO25 HRN HOE25 HOB25
          go_wp2_with (first
            | (refine QB.wpList_alloc rfl 52 rfl zero_msg ?_; intro X1 hx1 hy1; have HX1 := Lib.hid (show Row X1 w26.heap.size zcs 52 from hx1); have HY1 := Lib.hid hy1; clear hx1 hy1)
            | (refine wpList_storeRow rfl 52 (.tmp 16) (.tmp 125) rfl rfl (cs := zcs) rfl HX1.out (by kernel_rfl) rfl rfl zcs_one ?_
               refine QB.name fun w27 hZ => ?_
               have hb6 : Below w26.heap.size w26 w27 := hZ ▸ below_setRow HY1.out (Nat.le_refl _) _
               have HKw27 := Lib.hid (show Below W.heap.size W w27 from nextB HKw26.out (Nat.le_refl _) hb6)
               have HR11 := Lib.hid (HR11.out.below hb6 HR11.out.lt)
               have HL1 := Lib.hid (HQD.out w27 _ HR11.out)
               have HL2 := Lib.hid (FM.out w27 HKw27.out)
               have HKT := Lib.hid (KMsg_any (w := w27) (B := w27.heap.size) (v1 := ve) (u1 := vb) (m := m) ⟨(ownE_below HOE.out hb6).tab, (HOBd.out.below hb6 (Nat.le_refl _)).bs⟩ ((FMA.out w27 HKw27.out).more (FWW.out w27 HKw27.out).size) (by have := HN.out; omega) (Nat.le_refl _))
               rw [HQC.out, HMC.out] at HKT
               clear hZ hb6 HX1 HY1)
            | (refine QB.wpList_ld 52 rfl rfl HL1.out (by kernel_rfl) ?_; clear HL1)
            | (refine QB.wpList_ld 52 rfl rfl HL2.out (by kernel_rfl) ?_; clear HL2)
            | fail)
          refine HKT.out.mono ?_
          rintro r w28 ⟨rfl, hb⟩
          have HKw28 := Lib.hid (show Below W.heap.size W w28 from nextB HKw27.out (Nat.le_refl _) hb)
          clear hb HKT
          go_wp2
          go_ret
          exact ⟨rfl, FWW.out w28 HKw28.out⟩
        case neg =>
          have HOB := Lib.hid (Wir.Bytes_no (FMA.out w19 HKw19.out) HMR.out.ix.1 (FWW.out w19 HKw19.out).size hV)
          have HCH := Lib.hid (fun (y : World) (h : Below W.heap.size W y) => Wir.Check_any (FMA.out y h) HMR.out.ix.1 (FWW.out y h).size)
          rw [HMC.out] at HOB
          rw [HMC.out] at HCH
          obtain ⟨z, hz⟩ : ∃ z, checkMZ m = z := ⟨_, rfl⟩
          rw [hz] at HOB HCH hV
          have hz1 : (z != 0) = true := by simpa using hV
          clear hV hz
          refine HOB.out.mono ?_
          rintro r w20 ⟨rfl, hb⟩
          have HKw20 := Lib.hid (show Below W.heap.size W w20 from nextB HKw19.out (Nat.le_refl _) hb)
          have HLM := Lib.hid (FM.out w20 HKw20.out)
          clear hb HOB
          go_wp2_with (first
            | (refine QB.wpList_ld 52 rfl rfl HLM.out (by kernel_rfl) ?_; clear HLM)
            | fail)
          refine (HCH.out w20 HKw20.out).mono ?_
          rintro r w21 ⟨rfl, hb⟩
          have HKw21 := Lib.hid (show Below W.heap.size W w21 from nextB HKw20.out (Nat.le_refl _) hb)
          clear hb HCH
          go_wp2
          go_ret
          exact ⟨rfl, FWW.out w21 HKw21.out⟩
      case neg =>
        have HOB := Lib.hid (fun (y : World) => show Calls Try.prog 23 #[ev] y _ from HEV.out ▸ EntryBytes_no (w := y) HEK.out hV)
        clear hV
        refine (HOB.out _).mono ?_
        rintro r w13 ⟨rfl, hb⟩
        have HKw13 := Lib.hid (show Below W.heap.size W w13 from nextB HK12.out (Nat.le_refl _) hb)
        have HR7 := Lib.hid (HR7.out.below hb HR7.out.lt)
        have HR11 := Lib.hid (HR11.out.below hb HR11.out.lt)
        have HLM := Lib.hid (FM.out w13 HKw13.out)
        clear hb HOB
        go_wp2_with (first
          | (refine QB.wpList_ld 52 rfl rfl HLM.out (by kernel_rfl) ?_; clear HLM)
          | fail)
        by_cases hV : checkMZ m = 0
        case pos =>
          have hmk := (FMA.out w13 HKw13.out).es.1
          have HRO := Lib.hid (rdMsg_same m hV hmk HMR.out)
          have HRN := Lib.hid (rdMsg_more m hV hmk HMR.out)
          have HLE := Lib.hid (menc_le hV hmk HMR.out)
          have HOB := Lib.hid (by
            obtain ⟨v1, v2, v3, v4, v5⟩ := valid_range hV
            exact HMC.out ▸ Wir.Bytes_ok (w := w13) (FMA.out w13 HKw13.out) (FWW.out w13 HKw13.out).size hV HMR.out ⟨by omega, v1.2, v2.1, v2.2⟩ ⟨v3, v4, v5⟩)
          have HS11 := Lib.hid HR11.out.lt
          clear hV hmk
          refine HOB.out.mono ?_
          rintro r w20 ⟨x, rfl, ho, hb⟩
          have HKw20 := Lib.hid (show Below W.heap.size W w20 from nextB HKw13.out (Nat.le_refl _) hb)
          have HR11 := Lib.hid (HR11.out.below hb HR11.out.lt)
          have HO := Lib.hid ho
          have HS20 := Lib.hid (show w13.heap.size ≤ w20.heap.size from hb.size)
          clear ho hb HOB
          go_wp2_with fail
          refine (Own_any _ m.enc _ HO.out.bs (by have := HLE.out; omega)).mono ?_
          rintro r w21 ⟨v21, rfl, ho, hb⟩
          have HKw21 := Lib.hid (show Below W.heap.size W w21 from nextB HKw20.out (Nat.le_refl _) hb)
          have HR11 := Lib.hid (HR11.out.below hb HR11.out.lt)
          have HO := Lib.hid (HO.out.below hb (Nat.le_refl _))
          have HS21 := Lib.hid (show w13.heap.size ≤ w21.heap.size from Nat.le_trans HS20.out hb.size)
          have HO21 := Lib.hid ho
          have HVB := Lib.hid (fun i (e : x.ownBlock = some i) => (HO.out.block_ge e).2)
          clear ho hb
          go_wp2_with fail
          refine (Wir.Read_any _ m.enc _ HO21.out.bs (by have := HLE.out; omega)).mono ?_
          rintro r w22 ⟨hsome, _, hb⟩
          obtain ⟨ve, vb, he, hoe, hob⟩ := hsome m HRO.out
          subst he
          have HKw22 := Lib.hid (show Below W.heap.size W w22 from nextB HKw21.out (Nat.le_refl _) hb)
          have HR11 := Lib.hid (HR11.out.below hb HR11.out.lt)
          have HO := Lib.hid (HO.out.below hb (Nat.le_refl _))
          have HS22 := Lib.hid (show w21.heap.size ≤ w22.heap.size from hb.size)
          have HOE := Lib.hid hoe
          have HOBd := Lib.hid hob
          obtain ⟨qc, hqc⟩ : ∃ qc, m.cs ve vb = qc := ⟨_, rfl⟩
          have HQLn := Lib.hid (show qc.length = 10 by rw [← hqc]; rfl)
          have HQ1n := Lib.hid (show ∀ u ∈ qc, u.oneCell' = true by
            rw [← hqc]
            obtain ⟨_, _, e1, _⟩ := hoe.tab.2.shape
            obtain ⟨_, _, e2⟩ := hob.shape
            rw [e1, e2]
            exact ms_one m _ _ _ _ _ _)
          have HQD := Lib.hid (fun (y : World) (g : Nat) (hy : Row y g qc 52) => show (loadVar 52 ⟨g, 0, none⟩).run Try.prog y = .ok (.agg qc.toArray) y by rw [← hqc] at hy ⊢; exact l_msg hy)
          have HQC := Lib.hid hqc
          rw [hqc]
          clear hb hsome HO21 HRO hoe hob hqc
          go_wp2_with (first
            | (refine wpList_storeRow rfl 52 (.tmp 11) (.tmp 118) rfl rfl (cs := qc) rfl HR11.out (by kernel_rfl) HQLn.out HQL.out HQ1n.out ?_
               refine QB.name fun w23 hZ => ?_
               have hgr : w22.grownBy w23 (some g11) := hZ ▸ only_setRow _
               have HR11' := Lib.hid (show Row w23 g11 qc 52 from hZ ▸ HR11.out.setRow _)
               have HKw23 := Lib.hid (show Below W.heap.size W w23 from hZ ▸ below_setRow HKw22.out HG11.out _)
               have HO23 := Lib.hid (own_kept HO.out hgr HS11.out)
               have HOE23 := Lib.hid (ownE_grown HOE.out hgr (fun i e => by injection e with e; have := HS11.out; have := HS21.out; omega))
               have HOB23 := Lib.hid (own_kept HOBd.out hgr (by have := HS11.out; have := HS21.out; omega))
               have HS23 := Lib.hid (show w21.heap.size ≤ w23.heap.size from Nat.le_trans HS22.out hgr.size)
               have HZ1 := Lib.hid (run_zero w23)
               clear hZ hgr HO HOE HOBd)
            | (refine wpList_bs rfl 31 1 _ rfl (ps := #[(0, .int .u8 0)]) (by kernel_rfl) HZ1.out ?_
               refine QB.name fun w24 hW => ?_
               have hb : Below w23.heap.size w23 w24 := hW ▸ (Below.refl _ w23).alloc (Nat.le_refl _) _
               have HZ2 := Lib.hid (bs_zero hW)
               have HR11 := Lib.hid (HR11'.out.below hb HR11'.out.lt)
               have HKw24 := Lib.hid (show Below W.heap.size W w24 from nextB HKw23.out (Nat.le_refl _) hb)
               have HO24 := Lib.hid (HO23.out.below hb (Nat.le_refl _))
               have HOE24 := Lib.hid (ownE_below HOE23.out hb)
               have HOB24 := Lib.hid (HOB23.out.below hb (Nat.le_refl _))
               have HS24 := Lib.hid (show w21.heap.size ≤ w24.heap.size from Nat.le_trans HS23.out hb.size)
               clear hW hb HZ1 HR11' HO23 HOE23 HOB23)
            | (refine wpList_app_bytes _ rfl (.tmp 121) (.tmp 122) rfl rfl HO24.out rfl HZ2.out (by have := HLE.out; simp; omega) (by have := HS24.out; have := HS21.out; omega) ?_
               intro v123 w25 ho25 hg25 _
               have HVL := Lib.hid (fun i (e : x.ownBlock = some i) => (HO24.out.block_ge e).1)
               have HR11 := Lib.hid (row_other HR11.out hg25 (fun e => by have := HVL.out _ e; have := HS11.out; omega))
               have HKw25 := Lib.hid (show Below W.heap.size W w25 from HKw24.out.trans (below_grown hg25 (fun i e => by have := HVL.out _ e; have := HKw13.out.size; omega) HKw24.out.size))
               have HO25 := Lib.hid ho25
               have HOE25 := Lib.hid (ownE_apart HOE24.out hg25 (fun i e => HVB.out i e))
               have HOB25 := Lib.hid (own_apart HOB24.out HO24.out hg25 (fun i e => HVB.out i e))
               clear ho25 hg25 HO24 HZ2 HOE24 HOB24)
            | fail)
          refine (Wir.Read_any _ (m.enc ++ [0]) _ HO25.out.bs (by have := HLE.out; simp; omega)).mono ?_
          rintro r w26 ⟨_, hnone, hb⟩
          have he := hnone HRN.out
          subst he
          have HKw26 := Lib.hid (show Below W.heap.size W w26 from nextB HKw25.out (Nat.le_refl _) hb)
          have HR11 := Lib.hid (HR11.out.below hb HR11.out.lt)
          have HOE := Lib.hid (ownE_below HOE25.out hb)
          have HOBd := Lib.hid (HOB25.out.below hb (Nat.le_refl _))
          clear hb hnone HO25 HRN HOE25 HOB25
          go_wp2_with (first
            | (refine QB.wpList_alloc rfl 52 rfl zero_msg ?_; intro X1 hx1 hy1; have HX1 := Lib.hid (show Row X1 w26.heap.size zcs 52 from hx1); have HY1 := Lib.hid hy1; clear hx1 hy1)
            | (refine wpList_storeRow rfl 52 (.tmp 16) (.tmp 125) rfl rfl (cs := zcs) rfl HX1.out (by kernel_rfl) rfl rfl zcs_one ?_
               refine QB.name fun w27 hZ => ?_
               have hb6 : Below w26.heap.size w26 w27 := hZ ▸ below_setRow HY1.out (Nat.le_refl _) _
               have HKw27 := Lib.hid (show Below W.heap.size W w27 from nextB HKw26.out (Nat.le_refl _) hb6)
               have HR11 := Lib.hid (HR11.out.below hb6 HR11.out.lt)
               have HL1 := Lib.hid (HQD.out w27 _ HR11.out)
               have HL2 := Lib.hid (FM.out w27 HKw27.out)
               have HKT := Lib.hid (KMsg_any (w := w27) (B := w27.heap.size) (v1 := ve) (u1 := vb) (m := m) ⟨(ownE_below HOE.out hb6).tab, (HOBd.out.below hb6 (Nat.le_refl _)).bs⟩ ((FMA.out w27 HKw27.out).more (FWW.out w27 HKw27.out).size) (by have := HN.out; omega) (Nat.le_refl _))
               rw [HQC.out, HMC.out] at HKT
               clear hZ hb6 HX1 HY1)
            | (refine QB.wpList_ld 52 rfl rfl HL1.out (by kernel_rfl) ?_; clear HL1)
            | (refine QB.wpList_ld 52 rfl rfl HL2.out (by kernel_rfl) ?_; clear HL2)
            | fail)
          refine HKT.out.mono ?_
          rintro r w28 ⟨rfl, hb⟩
          have HKw28 := Lib.hid (show Below W.heap.size W w28 from nextB HKw27.out (Nat.le_refl _) hb)
          clear hb HKT
          go_wp2
          go_ret
          exact ⟨rfl, FWW.out w28 HKw28.out⟩
        case neg =>
          have HOB := Lib.hid (Wir.Bytes_no (FMA.out w13 HKw13.out) HMR.out.ix.1 (FWW.out w13 HKw13.out).size hV)
          have HCH := Lib.hid (fun (y : World) (h : Below W.heap.size W y) => Wir.Check_any (FMA.out y h) HMR.out.ix.1 (FWW.out y h).size)
          rw [HMC.out] at HOB
          rw [HMC.out] at HCH
          obtain ⟨z, hz⟩ : ∃ z, checkMZ m = z := ⟨_, rfl⟩
          rw [hz] at HOB HCH hV
          have hz1 : (z != 0) = true := by simpa using hV
          clear hV hz
          refine HOB.out.mono ?_
          rintro r w20 ⟨rfl, hb⟩
          have HKw20 := Lib.hid (show Below W.heap.size W w20 from nextB HKw13.out (Nat.le_refl _) hb)
          have HLM := Lib.hid (FM.out w20 HKw20.out)
          clear hb HOB
          go_wp2_with (first
            | (refine QB.wpList_ld 52 rfl rfl HLM.out (by kernel_rfl) ?_; clear HLM)
            | fail)
          refine (HCH.out w20 HKw20.out).mono ?_
          rintro r w21 ⟨rfl, hb⟩
          have HKw21 := Lib.hid (show Below W.heap.size W w21 from nextB HKw20.out (Nat.le_refl _) hb)
          clear hb HCH
          go_wp2
          go_ret
          exact ⟨rfl, FWW.out w21 HKw21.out⟩
    | none =>
      have he := hnone hro
      subst he
      clear hsome hnone hro
      go_wp2_with (first
        | (refine QB.wpList_alloc rfl 52 rfl zero_msg ?_; intro X1 hx1 hy1; have HX1 := Lib.hid (show Row X1 w10.heap.size zcs 52 from hx1); have HY1 := Lib.hid hy1; clear hx1 hy1)
        | (refine wpList_storeRow rfl 52 (.tmp 11) (.tmp 54) rfl rfl (cs := zcs) rfl HX1.out (by kernel_rfl) rfl rfl zcs_one ?_
           refine QB.name fun w11 hZ => ?_
           have hb6 : Below w10.heap.size w10 w11 := hZ ▸ below_setRow HY1.out (Nat.le_refl _) _
           have HR11 := Lib.hid (show Row w11 w10.heap.size zcs 52 from hZ ▸ HX1.out.setRow _)
           have HKw11 := Lib.hid (show Below W.heap.size W w11 from nextB HK10.out (Nat.le_refl _) hb6)
           have HR7 := Lib.hid (HR7.out.below hb6 HR7.out.lt)
           have HLDe := Lib.hid (FE.out w11 HKw11.out)
           clear hZ hb6 HX1 HY1)
        | (refine QB.wpList_ld 49 rfl rfl HLDe.out (by kernel_rfl) ?_; clear HLDe)
        | fail)
      obtain ⟨g11, hg11⟩ : ∃ g, w10.heap.size = g := ⟨_, rfl⟩
      rw [hg11] at HR11 HNE ⊢
      have HG11 := Lib.hid (show W.heap.size ≤ g11 by rw [← hg11]; exact HK10.out.size)
      have HQL := Lib.hid (show zcs.length = 10 from rfl)
      clear hg11
      by_cases hV : okE e = true
      case pos =>
        have HRO := Lib.hid (rdEnt_own e HEK.out hV HER.out)
        have HRN := Lib.hid (rdEnt_more e HEK.out hV HER.out)
        have HLE := Lib.hid (En.enc_le HEK.out hV HER.out)
        have HOB := Lib.hid (fun (y : World) => show Calls Try.prog 23 #[ev] y _ from HEV.out ▸ EntryBytes_ok (w := y) HEK.out hV HER.out)
        have HBX := Lib.hid (show g7 < w11.heap.size ∧ g11 < w11.heap.size ∧ W.heap.size ≤ w11.heap.size from ⟨HR7.out.lt, HR11.out.lt, HKw11.out.size⟩)
        clear hV
        refine (HOB.out _).mono ?_
        rintro r w13 ⟨x, rfl, ho, hb⟩
        have HSX := Lib.hid (show w11.heap.size ≤ w13.heap.size from hb.size)
        have HKw13 := Lib.hid (show Below W.heap.size W w13 from nextB HKw11.out (Nat.le_refl _) hb)
        have HR7 := Lib.hid (HR7.out.below hb HR7.out.lt)
        have HR11 := Lib.hid (HR11.out.below hb HR11.out.lt)
        have HO := Lib.hid ho
        clear ho hb HOB
        go_wp2_with fail
        refine (Own_any _ e.enc _ HO.out.bs (by have := HLE.out; omega)).mono ?_
        rintro r w14 ⟨v14, rfl, ho, hb⟩
        have HKw14 := Lib.hid (show Below W.heap.size W w14 from nextB HKw13.out (Nat.le_refl _) hb)
        have HR7 := Lib.hid (HR7.out.below hb HR7.out.lt)
        have HR11 := Lib.hid (HR11.out.below hb HR11.out.lt)
        have HO := Lib.hid (HO.out.below hb (Nat.le_refl _))
        have HO14 := Lib.hid ho
        have HSX := Lib.hid (Nat.le_trans HSX.out hb.size)
        clear ho hb
        go_wp2_with fail
        refine (ReadEntry_any _ e.enc _ HO14.out.bs (by have := HLE.out; omega)).mono ?_
        rintro r w15 ⟨hsome, _, hb⟩
        have he := hsome e HRO.out
        subst he
        have HKw15 := Lib.hid (show Below W.heap.size W w15 from nextB HKw14.out (Nat.le_refl _) hb)
        have HR7 := Lib.hid (HR7.out.below hb HR7.out.lt)
        have HR11 := Lib.hid (HR11.out.below hb HR11.out.lt)
        have HO := Lib.hid (HO.out.below hb (Nat.le_refl _))
        have HSX := Lib.hid (Nat.le_trans HSX.out hb.size)
        have HECL := Lib.hid (show ec.length = 74 by rw [← HEC.out]; exact En.len HEK.out)
        have HEC1 := Lib.hid (show ∀ u ∈ ec, u.oneCell' = true by rw [← HEC.out]; exact e.one)
        have HEVA := Lib.hid (show ev = .agg ec.toArray by rw [← HEV.out, ← HEC.out]; rfl)
        rw [HEV.out]
        clear hb hsome HO14 HRO
        go_wp2_with (first
          | (refine wpList_storeRow rfl 49 (.tmp 7) (.tmp 83) rfl rfl (cs := ec) HEVA.out HR7.out (by kernel_rfl) HECL.out HPL.out HEC1.out ?_
             refine QB.name fun w16 hZ => ?_
             have hgr : w15.grownBy w16 (some g7) := hZ ▸ only_setRow _
             have HR7' := Lib.hid (show Row w16 g7 ec 49 from hZ ▸ HR7.out.setRow _)
             have HR11' := Lib.hid (row_grown HR11.out hgr (by have := HNE.out; omega))
             have HKw16 := Lib.hid (show Below W.heap.size W w16 from hZ ▸ below_setRow HKw15.out HG7.out _)
             have HO16 := Lib.hid (own_kept HO.out hgr HBX.out.1)
             have HS16 := Lib.hid (Nat.le_trans HSX.out hgr.size)
             have HZ1 := Lib.hid (run_zero w16)
             clear hZ hgr HO HR11)
          | (refine wpList_bs rfl 31 1 _ rfl (ps := #[(0, .int .u8 0)]) (by kernel_rfl) HZ1.out ?_
             refine QB.name fun w17 hW => ?_
             have hb : Below w16.heap.size w16 w17 := hW ▸ (Below.refl _ w16).alloc (Nat.le_refl _) _
             have HZ2 := Lib.hid (bs_zero hW)
             have HR7 := Lib.hid (HR7'.out.below hb HR7'.out.lt)
             have HR11 := Lib.hid (HR11'.out.below hb HR11'.out.lt)
             have HKw17 := Lib.hid (show Below W.heap.size W w17 from nextB HKw16.out (Nat.le_refl _) hb)
             have HO17 := Lib.hid (HO16.out.below hb (Nat.le_refl _))
             have HSZ := Lib.hid (show w11.heap.size ≤ w17.heap.size from Nat.le_trans HS16.out hb.size)
             clear hW hb HZ1 HR7' HR11' HO16)
          | (refine wpList_app_bytes _ rfl (.tmp 86) (.tmp 87) rfl rfl HO17.out rfl HZ2.out (by have := HLE.out; simp; omega) HSZ.out ?_
             intro v88 w18 ho18 hg18 _
             have HVL := Lib.hid (fun i (e : x.ownBlock = some i) => (HO17.out.block_ge e).1)
             have HR7 := Lib.hid (row_other HR7.out hg18 (fun e => by have := HVL.out _ e; have := HBX.out.1; omega))
             have HR11 := Lib.hid (row_other HR11.out hg18 (fun e => by have := HVL.out _ e; have := HBX.out.2.1; omega))
             have HKw18 := Lib.hid (show Below W.heap.size W w18 from HKw17.out.trans (below_grown hg18 (fun i e => by have := HVL.out _ e; have := HBX.out.2.2; omega) HKw17.out.size))
             have HO18 := Lib.hid ho18
             clear ho18 hg18 HO17 HZ2)
          | fail)
        refine (ReadEntry_any _ (e.enc ++ [0]) _ HO18.out.bs (by have := HLE.out; simp; omega)).mono ?_
        rintro r w19 ⟨_, hnone, hb⟩
        have he := hnone HRN.out
        subst he
        have HKw19 := Lib.hid (show Below W.heap.size W w19 from nextB HKw18.out (Nat.le_refl _) hb)
        have HR7 := Lib.hid (HR7.out.below hb HR7.out.lt)
        have HR11 := Lib.hid (HR11.out.below hb HR11.out.lt)
        have HL1 := Lib.hid (show (loadVar 49 ⟨g7, 0, none⟩).run Try.prog w19 = .ok ev w19 by rw [← HEV.out]; exact l_ent (HEC.out ▸ HR7.out) HEK.out)
        have HL2 := Lib.hid (FE.out w19 HKw19.out)
        have hgd : (eqGuard .neq 49 (.tmp 95) (.tmp 96) ev ev).run Try.prog w19 = .ok () w19 := by rw [HEVA.out]; exact guard_of g_ent _ _ _ _ _ _
        have hev : (binOp .neq 49 ev ev).run Try.prog w19 = .ok (.bool false) w19 := by have h := eq_ent (w := w19) e HEK.out; rw [HEV.out, HEVA.out] at h; rw [HEVA.out]; exact neq_of h
        have HLM := Lib.hid (FM.out w19 HKw19.out)
        obtain ⟨zv, hzv⟩ : ∃ zv, zen.val = zv := ⟨_, rfl⟩
        rw [hzv]
        clear hb hnone HO18 HRN hzv
        go_wp2_with (first
          | (refine QB.wpList_ld 49 rfl rfl HL1.out (by kernel_rfl) ?_; clear HL1)
          | (refine QB.wpList_ld 49 rfl rfl HL2.out (by kernel_rfl) ?_; clear HL2)
          | (refine QB.wpList_ld 52 rfl rfl HLM.out (by kernel_rfl) ?_; clear HLM)
          | fail)
        clear hgd hev
        by_cases hV : checkMZ m = 0
        case pos =>
          have hmk := (FMA.out w19 HKw19.out).es.1
          have HRO := Lib.hid (rdMsg_same m hV hmk HMR.out)
          have HRN := Lib.hid (rdMsg_more m hV hmk HMR.out)
          have HLE := Lib.hid (menc_le hV hmk HMR.out)
          have HOB := Lib.hid (by
            obtain ⟨v1, v2, v3, v4, v5⟩ := valid_range hV
            exact HMC.out ▸ Wir.Bytes_ok (w := w19) (FMA.out w19 HKw19.out) (FWW.out w19 HKw19.out).size hV HMR.out ⟨by omega, v1.2, v2.1, v2.2⟩ ⟨v3, v4, v5⟩)
          have HS11 := Lib.hid HR11.out.lt
          clear hV hmk
          refine HOB.out.mono ?_
          rintro r w20 ⟨x, rfl, ho, hb⟩
          have HKw20 := Lib.hid (show Below W.heap.size W w20 from nextB HKw19.out (Nat.le_refl _) hb)
          have HR11 := Lib.hid (HR11.out.below hb HR11.out.lt)
          have HO := Lib.hid ho
          have HS20 := Lib.hid (show w19.heap.size ≤ w20.heap.size from hb.size)
          clear ho hb HOB
          go_wp2_with fail
          refine (Own_any _ m.enc _ HO.out.bs (by have := HLE.out; omega)).mono ?_
          rintro r w21 ⟨v21, rfl, ho, hb⟩
          have HKw21 := Lib.hid (show Below W.heap.size W w21 from nextB HKw20.out (Nat.le_refl _) hb)
          have HR11 := Lib.hid (HR11.out.below hb HR11.out.lt)
          have HO := Lib.hid (HO.out.below hb (Nat.le_refl _))
          have HS21 := Lib.hid (show w19.heap.size ≤ w21.heap.size from Nat.le_trans HS20.out hb.size)
          have HO21 := Lib.hid ho
          have HVB := Lib.hid (fun i (e : x.ownBlock = some i) => (HO.out.block_ge e).2)
          clear ho hb
          go_wp2_with fail
          refine (Wir.Read_any _ m.enc _ HO21.out.bs (by have := HLE.out; omega)).mono ?_
          rintro r w22 ⟨hsome, _, hb⟩
          obtain ⟨ve, vb, he, hoe, hob⟩ := hsome m HRO.out
          subst he
          have HKw22 := Lib.hid (show Below W.heap.size W w22 from nextB HKw21.out (Nat.le_refl _) hb)
          have HR11 := Lib.hid (HR11.out.below hb HR11.out.lt)
          have HO := Lib.hid (HO.out.below hb (Nat.le_refl _))
          have HS22 := Lib.hid (show w21.heap.size ≤ w22.heap.size from hb.size)
          have HOE := Lib.hid hoe
          have HOBd := Lib.hid hob
          obtain ⟨qc, hqc⟩ : ∃ qc, m.cs ve vb = qc := ⟨_, rfl⟩
          have HQLn := Lib.hid (show qc.length = 10 by rw [← hqc]; rfl)
          have HQ1n := Lib.hid (show ∀ u ∈ qc, u.oneCell' = true by
            rw [← hqc]
            obtain ⟨_, _, e1, _⟩ := hoe.tab.2.shape
            obtain ⟨_, _, e2⟩ := hob.shape
            rw [e1, e2]
            exact ms_one m _ _ _ _ _ _)
          have HQD := Lib.hid (fun (y : World) (g : Nat) (hy : Row y g qc 52) => show (loadVar 52 ⟨g, 0, none⟩).run Try.prog y = .ok (.agg qc.toArray) y by rw [← hqc] at hy ⊢; exact l_msg hy)
          have HQC := Lib.hid hqc
          rw [hqc]
          clear hb hsome HO21 HRO hoe hob hqc
          go_wp2_with (first
            | (refine wpList_storeRow rfl 52 (.tmp 11) (.tmp 118) rfl rfl (cs := qc) rfl HR11.out (by kernel_rfl) HQLn.out HQL.out HQ1n.out ?_
               refine QB.name fun w23 hZ => ?_
               have hgr : w22.grownBy w23 (some g11) := hZ ▸ only_setRow _
               have HR11' := Lib.hid (show Row w23 g11 qc 52 from hZ ▸ HR11.out.setRow _)
               have HKw23 := Lib.hid (show Below W.heap.size W w23 from hZ ▸ below_setRow HKw22.out HG11.out _)
               have HO23 := Lib.hid (own_kept HO.out hgr HS11.out)
               have HOE23 := Lib.hid (ownE_grown HOE.out hgr (fun i e => by injection e with e; have := HS11.out; have := HS21.out; omega))
               have HOB23 := Lib.hid (own_kept HOBd.out hgr (by have := HS11.out; have := HS21.out; omega))
               have HS23 := Lib.hid (show w21.heap.size ≤ w23.heap.size from Nat.le_trans HS22.out hgr.size)
               have HZ1 := Lib.hid (run_zero w23)
               clear hZ hgr HO HOE HOBd)
            | (refine wpList_bs rfl 31 1 _ rfl (ps := #[(0, .int .u8 0)]) (by kernel_rfl) HZ1.out ?_
               refine QB.name fun w24 hW => ?_
               have hb : Below w23.heap.size w23 w24 := hW ▸ (Below.refl _ w23).alloc (Nat.le_refl _) _
               have HZ2 := Lib.hid (bs_zero hW)
               have HR11 := Lib.hid (HR11'.out.below hb HR11'.out.lt)
               have HKw24 := Lib.hid (show Below W.heap.size W w24 from nextB HKw23.out (Nat.le_refl _) hb)
               have HO24 := Lib.hid (HO23.out.below hb (Nat.le_refl _))
               have HOE24 := Lib.hid (ownE_below HOE23.out hb)
               have HOB24 := Lib.hid (HOB23.out.below hb (Nat.le_refl _))
               have HS24 := Lib.hid (show w21.heap.size ≤ w24.heap.size from Nat.le_trans HS23.out hb.size)
               clear hW hb HZ1 HR11' HO23 HOE23 HOB23)
            | (refine wpList_app_bytes _ rfl (.tmp 121) (.tmp 122) rfl rfl HO24.out rfl HZ2.out (by have := HLE.out; simp; omega) (by have := HS24.out; have := HS21.out; omega) ?_
               intro v123 w25 ho25 hg25 _
               have HVL := Lib.hid (fun i (e : x.ownBlock = some i) => (HO24.out.block_ge e).1)
               have HR11 := Lib.hid (row_other HR11.out hg25 (fun e => by have := HVL.out _ e; have := HS11.out; omega))
               have HKw25 := Lib.hid (show Below W.heap.size W w25 from HKw24.out.trans (below_grown hg25 (fun i e => by have := HVL.out _ e; have := HKw19.out.size; omega) HKw24.out.size))
               have HO25 := Lib.hid ho25
               have HOE25 := Lib.hid (ownE_apart HOE24.out hg25 (fun i e => HVB.out i e))
               have HOB25 := Lib.hid (own_apart HOB24.out HO24.out hg25 (fun i e => HVB.out i e))
               clear ho25 hg25 HO24 HZ2 HOE24 HOB24)
            | fail)
          refine (Wir.Read_any _ (m.enc ++ [0]) _ HO25.out.bs (by have := HLE.out; simp; omega)).mono ?_
          rintro r w26 ⟨_, hnone, hb⟩
          have he := hnone HRN.out
          subst he
          have HKw26 := Lib.hid (show Below W.heap.size W w26 from nextB HKw25.out (Nat.le_refl _) hb)
          have HR11 := Lib.hid (HR11.out.below hb HR11.out.lt)
          have HOE := Lib.hid (ownE_below HOE25.out hb)
          have HOBd := Lib.hid (HOB25.out.below hb (Nat.le_refl _))
          clear hb hnone HO25 HRN HOE25 HOB25
          go_wp2_with (first
            | (refine QB.wpList_alloc rfl 52 rfl zero_msg ?_; intro X1 hx1 hy1; have HX1 := Lib.hid (show Row X1 w26.heap.size zcs 52 from hx1); have HY1 := Lib.hid hy1; clear hx1 hy1)
            | (refine wpList_storeRow rfl 52 (.tmp 16) (.tmp 125) rfl rfl (cs := zcs) rfl HX1.out (by kernel_rfl) rfl rfl zcs_one ?_
               refine QB.name fun w27 hZ => ?_
               have hb6 : Below w26.heap.size w26 w27 := hZ ▸ below_setRow HY1.out (Nat.le_refl _) _
               have HKw27 := Lib.hid (show Below W.heap.size W w27 from nextB HKw26.out (Nat.le_refl _) hb6)
               have HR11 := Lib.hid (HR11.out.below hb6 HR11.out.lt)
               have HL1 := Lib.hid (HQD.out w27 _ HR11.out)
               have HL2 := Lib.hid (FM.out w27 HKw27.out)
               have HKT := Lib.hid (KMsg_any (w := w27) (B := w27.heap.size) (v1 := ve) (u1 := vb) (m := m) ⟨(ownE_below HOE.out hb6).tab, (HOBd.out.below hb6 (Nat.le_refl _)).bs⟩ ((FMA.out w27 HKw27.out).more (FWW.out w27 HKw27.out).size) (by have := HN.out; omega) (Nat.le_refl _))
               rw [HQC.out, HMC.out] at HKT
               clear hZ hb6 HX1 HY1)
            | (refine QB.wpList_ld 52 rfl rfl HL1.out (by kernel_rfl) ?_; clear HL1)
            | (refine QB.wpList_ld 52 rfl rfl HL2.out (by kernel_rfl) ?_; clear HL2)
            | fail)
          refine HKT.out.mono ?_
          rintro r w28 ⟨rfl, hb⟩
          have HKw28 := Lib.hid (show Below W.heap.size W w28 from nextB HKw27.out (Nat.le_refl _) hb)
          clear hb HKT
          go_wp2
          go_ret
          exact ⟨rfl, FWW.out w28 HKw28.out⟩
        case neg =>
          have HOB := Lib.hid (Wir.Bytes_no (FMA.out w19 HKw19.out) HMR.out.ix.1 (FWW.out w19 HKw19.out).size hV)
          have HCH := Lib.hid (fun (y : World) (h : Below W.heap.size W y) => Wir.Check_any (FMA.out y h) HMR.out.ix.1 (FWW.out y h).size)
          rw [HMC.out] at HOB
          rw [HMC.out] at HCH
          obtain ⟨z, hz⟩ : ∃ z, checkMZ m = z := ⟨_, rfl⟩
          rw [hz] at HOB HCH hV
          have hz1 : (z != 0) = true := by simpa using hV
          clear hV hz
          refine HOB.out.mono ?_
          rintro r w20 ⟨rfl, hb⟩
          have HKw20 := Lib.hid (show Below W.heap.size W w20 from nextB HKw19.out (Nat.le_refl _) hb)
          have HLM := Lib.hid (FM.out w20 HKw20.out)
          clear hb HOB
          go_wp2_with (first
            | (refine QB.wpList_ld 52 rfl rfl HLM.out (by kernel_rfl) ?_; clear HLM)
            | fail)
          refine (HCH.out w20 HKw20.out).mono ?_
          rintro r w21 ⟨rfl, hb⟩
          have HKw21 := Lib.hid (show Below W.heap.size W w21 from nextB HKw20.out (Nat.le_refl _) hb)
          clear hb HCH
          go_wp2
          go_ret
          exact ⟨rfl, FWW.out w21 HKw21.out⟩
      case neg =>
        have HOB := Lib.hid (fun (y : World) => show Calls Try.prog 23 #[ev] y _ from HEV.out ▸ EntryBytes_no (w := y) HEK.out hV)
        clear hV
        refine (HOB.out _).mono ?_
        rintro r w13 ⟨rfl, hb⟩
        have HKw13 := Lib.hid (show Below W.heap.size W w13 from nextB HKw11.out (Nat.le_refl _) hb)
        have HR7 := Lib.hid (HR7.out.below hb HR7.out.lt)
        have HR11 := Lib.hid (HR11.out.below hb HR11.out.lt)
        have HLM := Lib.hid (FM.out w13 HKw13.out)
        clear hb HOB
        go_wp2_with (first
          | (refine QB.wpList_ld 52 rfl rfl HLM.out (by kernel_rfl) ?_; clear HLM)
          | fail)
        by_cases hV : checkMZ m = 0
        case pos =>
          have hmk := (FMA.out w13 HKw13.out).es.1
          have HRO := Lib.hid (rdMsg_same m hV hmk HMR.out)
          have HRN := Lib.hid (rdMsg_more m hV hmk HMR.out)
          have HLE := Lib.hid (menc_le hV hmk HMR.out)
          have HOB := Lib.hid (by
            obtain ⟨v1, v2, v3, v4, v5⟩ := valid_range hV
            exact HMC.out ▸ Wir.Bytes_ok (w := w13) (FMA.out w13 HKw13.out) (FWW.out w13 HKw13.out).size hV HMR.out ⟨by omega, v1.2, v2.1, v2.2⟩ ⟨v3, v4, v5⟩)
          have HS11 := Lib.hid HR11.out.lt
          clear hV hmk
          refine HOB.out.mono ?_
          rintro r w20 ⟨x, rfl, ho, hb⟩
          have HKw20 := Lib.hid (show Below W.heap.size W w20 from nextB HKw13.out (Nat.le_refl _) hb)
          have HR11 := Lib.hid (HR11.out.below hb HR11.out.lt)
          have HO := Lib.hid ho
          have HS20 := Lib.hid (show w13.heap.size ≤ w20.heap.size from hb.size)
          clear ho hb HOB
          go_wp2_with fail
          refine (Own_any _ m.enc _ HO.out.bs (by have := HLE.out; omega)).mono ?_
          rintro r w21 ⟨v21, rfl, ho, hb⟩
          have HKw21 := Lib.hid (show Below W.heap.size W w21 from nextB HKw20.out (Nat.le_refl _) hb)
          have HR11 := Lib.hid (HR11.out.below hb HR11.out.lt)
          have HO := Lib.hid (HO.out.below hb (Nat.le_refl _))
          have HS21 := Lib.hid (show w13.heap.size ≤ w21.heap.size from Nat.le_trans HS20.out hb.size)
          have HO21 := Lib.hid ho
          have HVB := Lib.hid (fun i (e : x.ownBlock = some i) => (HO.out.block_ge e).2)
          clear ho hb
          go_wp2_with fail
          refine (Wir.Read_any _ m.enc _ HO21.out.bs (by have := HLE.out; omega)).mono ?_
          rintro r w22 ⟨hsome, _, hb⟩
          obtain ⟨ve, vb, he, hoe, hob⟩ := hsome m HRO.out
          subst he
          have HKw22 := Lib.hid (show Below W.heap.size W w22 from nextB HKw21.out (Nat.le_refl _) hb)
          have HR11 := Lib.hid (HR11.out.below hb HR11.out.lt)
          have HO := Lib.hid (HO.out.below hb (Nat.le_refl _))
          have HS22 := Lib.hid (show w21.heap.size ≤ w22.heap.size from hb.size)
          have HOE := Lib.hid hoe
          have HOBd := Lib.hid hob
          obtain ⟨qc, hqc⟩ : ∃ qc, m.cs ve vb = qc := ⟨_, rfl⟩
          have HQLn := Lib.hid (show qc.length = 10 by rw [← hqc]; rfl)
          have HQ1n := Lib.hid (show ∀ u ∈ qc, u.oneCell' = true by
            rw [← hqc]
            obtain ⟨_, _, e1, _⟩ := hoe.tab.2.shape
            obtain ⟨_, _, e2⟩ := hob.shape
            rw [e1, e2]
            exact ms_one m _ _ _ _ _ _)
          have HQD := Lib.hid (fun (y : World) (g : Nat) (hy : Row y g qc 52) => show (loadVar 52 ⟨g, 0, none⟩).run Try.prog y = .ok (.agg qc.toArray) y by rw [← hqc] at hy ⊢; exact l_msg hy)
          have HQC := Lib.hid hqc
          rw [hqc]
          clear hb hsome HO21 HRO hoe hob hqc
          go_wp2_with (first
            | (refine wpList_storeRow rfl 52 (.tmp 11) (.tmp 118) rfl rfl (cs := qc) rfl HR11.out (by kernel_rfl) HQLn.out HQL.out HQ1n.out ?_
               refine QB.name fun w23 hZ => ?_
               have hgr : w22.grownBy w23 (some g11) := hZ ▸ only_setRow _
               have HR11' := Lib.hid (show Row w23 g11 qc 52 from hZ ▸ HR11.out.setRow _)
               have HKw23 := Lib.hid (show Below W.heap.size W w23 from hZ ▸ below_setRow HKw22.out HG11.out _)
               have HO23 := Lib.hid (own_kept HO.out hgr HS11.out)
               have HOE23 := Lib.hid (ownE_grown HOE.out hgr (fun i e => by injection e with e; have := HS11.out; have := HS21.out; omega))
               have HOB23 := Lib.hid (own_kept HOBd.out hgr (by have := HS11.out; have := HS21.out; omega))
               have HS23 := Lib.hid (show w21.heap.size ≤ w23.heap.size from Nat.le_trans HS22.out hgr.size)
               have HZ1 := Lib.hid (run_zero w23)
               clear hZ hgr HO HOE HOBd)
            | (refine wpList_bs rfl 31 1 _ rfl (ps := #[(0, .int .u8 0)]) (by kernel_rfl) HZ1.out ?_
               refine QB.name fun w24 hW => ?_
               have hb : Below w23.heap.size w23 w24 := hW ▸ (Below.refl _ w23).alloc (Nat.le_refl _) _
               have HZ2 := Lib.hid (bs_zero hW)
               have HR11 := Lib.hid (HR11'.out.below hb HR11'.out.lt)
               have HKw24 := Lib.hid (show Below W.heap.size W w24 from nextB HKw23.out (Nat.le_refl _) hb)
               have HO24 := Lib.hid (HO23.out.below hb (Nat.le_refl _))
               have HOE24 := Lib.hid (ownE_below HOE23.out hb)
               have HOB24 := Lib.hid (HOB23.out.below hb (Nat.le_refl _))
               have HS24 := Lib.hid (show w21.heap.size ≤ w24.heap.size from Nat.le_trans HS23.out hb.size)
               clear hW hb HZ1 HR11' HO23 HOE23 HOB23)
            | (refine wpList_app_bytes _ rfl (.tmp 121) (.tmp 122) rfl rfl HO24.out rfl HZ2.out (by have := HLE.out; simp; omega) (by have := HS24.out; have := HS21.out; omega) ?_
               intro v123 w25 ho25 hg25 _
               have HVL := Lib.hid (fun i (e : x.ownBlock = some i) => (HO24.out.block_ge e).1)
               have HR11 := Lib.hid (row_other HR11.out hg25 (fun e => by have := HVL.out _ e; have := HS11.out; omega))
               have HKw25 := Lib.hid (show Below W.heap.size W w25 from HKw24.out.trans (below_grown hg25 (fun i e => by have := HVL.out _ e; have := HKw13.out.size; omega) HKw24.out.size))
               have HO25 := Lib.hid ho25
               have HOE25 := Lib.hid (ownE_apart HOE24.out hg25 (fun i e => HVB.out i e))
               have HOB25 := Lib.hid (own_apart HOB24.out HO24.out hg25 (fun i e => HVB.out i e))
               clear ho25 hg25 HO24 HZ2 HOE24 HOB24)
            | fail)
          refine (Wir.Read_any _ (m.enc ++ [0]) _ HO25.out.bs (by have := HLE.out; simp; omega)).mono ?_
          rintro r w26 ⟨_, hnone, hb⟩
          have he := hnone HRN.out
          subst he
          have HKw26 := Lib.hid (show Below W.heap.size W w26 from nextB HKw25.out (Nat.le_refl _) hb)
          have HR11 := Lib.hid (HR11.out.below hb HR11.out.lt)
          have HOE := Lib.hid (ownE_below HOE25.out hb)
          have HOBd := Lib.hid (HOB25.out.below hb (Nat.le_refl _))
          clear hb hnone HO25 HRN HOE25 HOB25
          go_wp2_with (first
            | (refine QB.wpList_alloc rfl 52 rfl zero_msg ?_; intro X1 hx1 hy1; have HX1 := Lib.hid (show Row X1 w26.heap.size zcs 52 from hx1); have HY1 := Lib.hid hy1; clear hx1 hy1)
            | (refine wpList_storeRow rfl 52 (.tmp 16) (.tmp 125) rfl rfl (cs := zcs) rfl HX1.out (by kernel_rfl) rfl rfl zcs_one ?_
               refine QB.name fun w27 hZ => ?_
               have hb6 : Below w26.heap.size w26 w27 := hZ ▸ below_setRow HY1.out (Nat.le_refl _) _
               have HKw27 := Lib.hid (show Below W.heap.size W w27 from nextB HKw26.out (Nat.le_refl _) hb6)
               have HR11 := Lib.hid (HR11.out.below hb6 HR11.out.lt)
               have HL1 := Lib.hid (HQD.out w27 _ HR11.out)
               have HL2 := Lib.hid (FM.out w27 HKw27.out)
               have HKT := Lib.hid (KMsg_any (w := w27) (B := w27.heap.size) (v1 := ve) (u1 := vb) (m := m) ⟨(ownE_below HOE.out hb6).tab, (HOBd.out.below hb6 (Nat.le_refl _)).bs⟩ ((FMA.out w27 HKw27.out).more (FWW.out w27 HKw27.out).size) (by have := HN.out; omega) (Nat.le_refl _))
               rw [HQC.out, HMC.out] at HKT
               clear hZ hb6 HX1 HY1)
            | (refine QB.wpList_ld 52 rfl rfl HL1.out (by kernel_rfl) ?_; clear HL1)
            | (refine QB.wpList_ld 52 rfl rfl HL2.out (by kernel_rfl) ?_; clear HL2)
            | fail)
          refine HKT.out.mono ?_
          rintro r w28 ⟨rfl, hb⟩
          have HKw28 := Lib.hid (show Below W.heap.size W w28 from nextB HKw27.out (Nat.le_refl _) hb)
          clear hb HKT
          go_wp2
          go_ret
          exact ⟨rfl, FWW.out w28 HKw28.out⟩
        case neg =>
          have HOB := Lib.hid (Wir.Bytes_no (FMA.out w13 HKw13.out) HMR.out.ix.1 (FWW.out w13 HKw13.out).size hV)
          have HCH := Lib.hid (fun (y : World) (h : Below W.heap.size W y) => Wir.Check_any (FMA.out y h) HMR.out.ix.1 (FWW.out y h).size)
          rw [HMC.out] at HOB
          rw [HMC.out] at HCH
          obtain ⟨z, hz⟩ : ∃ z, checkMZ m = z := ⟨_, rfl⟩
          rw [hz] at HOB HCH hV
          have hz1 : (z != 0) = true := by simpa using hV
          clear hV hz
          refine HOB.out.mono ?_
          rintro r w20 ⟨rfl, hb⟩
          have HKw20 := Lib.hid (show Below W.heap.size W w20 from nextB HKw13.out (Nat.le_refl _) hb)
          have HLM := Lib.hid (FM.out w20 HKw20.out)
          clear hb HOB
          go_wp2_with (first
            | (refine QB.wpList_ld 52 rfl rfl HLM.out (by kernel_rfl) ?_; clear HLM)
            | fail)
          refine (HCH.out w20 HKw20.out).mono ?_
          rintro r w21 ⟨rfl, hb⟩
          have HKw21 := Lib.hid (show Below W.heap.size W w21 from nextB HKw20.out (Nat.le_refl _) hb)
          clear hb HCH
          go_wp2
          go_ret
          exact ⟨rfl, FWW.out w21 HKw21.out⟩

set_option maxRecDepth 100000 in
theorem lift (os : Os) (started : os.Started) (H : Type) (enc : TypeId × Value → H) :
    ReturnsInHanded {} Try.checked os 4 .any (Rows.wireBackSpec.pre6 enc Try.prog Try.f4 Rows.wireBackRow.domain false) (Rows.wireBackSpec.post enc Try.prog Try.f4 false true false false) := by
  refine Law.lifted (C := Try.checked) 4 own started (by kernel_rfl) Try.func4 laid (by kernel_rfl) rfl Try.underlying4 rfl
    (fun ds hd => by
      have hd' : ds.length = 3 := hd
      match ds, hd' with
      | [d0, d1, d2], _ => rfl)
    (ChangeSpec.witness6 (enc := enc) (C := Try.checked) false ⟨#[], #[zen.val, .agg zcs.toArray, .slice none 0 0], []⟩ 8 (by kernel_rfl) (by kernel_rfl) (by kernel_rfl) (by kernel_rfl)) ?_
  intro W args ds ps hst
  have hA : DataW.TrodAll enc Try.prog W 0 (fun _ => true) true Try.f4.params.toList args.toList ds ps := hst.trod
  have hok := hst.okw
  have hlt := hst.lt
  rw [Try.params4] at hA hok
  obtain ⟨v0, v1, v2, d0, d1, d2, p0, p1, p2, rfl, rfl, rfl, h0, h1, h2⟩ := trodAll_three hA
  obtain ⟨_, hv0⟩ := hok 0 49 v0 rfl rfl
  obtain ⟨_, hv1⟩ := hok 1 52 v1 rfl rfl
  obtain ⟨_, hv2⟩ := hok 2 31 v2 rfl rfl
  obtain ⟨e, rfl, hek, her⟩ := ent_at hv0 h0
  obtain ⟨ve, vb, m, rfl, hm, hmr⟩ := msg_at hv1 h1 (fun x hx => hlt x (by simp [hx]))
  obtain ⟨b, hb, _⟩ := Law.bytes_at Try.underlying31 hv2 h2 (fun x hx => hlt x (by simp [hx]))
  have hb0 := hb
  obtain ⟨AB, cB, rfl, _, _⟩ := hb0
  exact walk hek her hm hmr hb

theorem over : Rows.wireBackRow.holds Try.pinned (OpenSpec.ofChange Rows.wireBackSpec) :=
  OpenClaim.holds_of_wide 4 Try.f4 rfl rfl rfl rfl rfl rfl rfl ⟨rfl, rfl, rfl, rfl, rfl⟩ rfl rfl rfl rfl rfl (by kernel_rfl) Try.func4 (by kernel_rfl)
    (of_decide_eq_true (by kernel_rfl)) (by unfold Func.isWrapper; first | (rw [if_pos (by decide +kernel)]; kernel_rfl) | (rw [if_neg (by decide +kernel)]; exact ⟨rfl, rfl⟩))
    (fun os started H enc _ => lift os started H enc)
theorem proved : Rows.WireBackSaid := over
#print axioms proved
end Go.Proofs.Ytedmogacklbcmaa.wireBack
