/- Texts that the proofs share: ShkRCh, ShkRHe, ShkRCa, ShkRAn. -/
import Derived.Test.YtbdpnpabpcidkaaDoorU30
import Derived.Test.YtbdpnpabpcidkaaDoorU46
import Derived.Test.YtbdpnpabpcidkaaDoorU47
import Derived.Test.YtbdpnpabpcidkaaDoorU48
namespace Go.Proofs.YtbdpnpabpcidkaaDoor.Shk
open Go.RowKit
open Pkt
theorem e16 (x y : List UInt8) (hx : x.length = 16) (hy : y.length = 16) (w : World) : (Op.equal 38 (arr8 x) (arr8 y)).run Tryd.prog w = .ok (decide (x = y)) w := run_eql_arr8 (P := Tryd.prog) Tryd.underlying38 Tryd.underlying5 (by kernel_rfl) x y hx hy w
set_option maxRecDepth 100000 in
set_option maxHeartbeats 4000000 in
theorem RCheckHello_any (key : List UInt8) (p : Pk) (hk : key.length = 32) (ho : p.Ok) (A : Option Addr) (n c : Nat) (hbo : p.bo = .slice A n c) (w : World) (ht : Tab w) :
 Calls Tryd.prog 34 #[arr8 key, p.val] w fun e w' => e = .returned (.int .i64 (ckH key p n)) ∧ Below w.heap.size w w' := by
 obtain ⟨M, hM⟩ : ∃ M, mark key (hello5 ++ (helloL p).flatten) = M := ⟨_, rfl⟩
 have HM := Lib.hid hM
 have HMl := Lib.hid (show M.length = 16 by rw [← hM]; exact mark_length _ _)
 have HB0 := Lib.hid (show Below w.heap.size w ((w.alloc (.cells (key.map bv).toArray 24)).alloc (.cells p.cells.toArray 40)) from ((Below.refl _ w).alloc (Nat.le_refl _) _).alloc (by simp) _)
 have HT0 := Lib.hid (ht.below HB0.out ht.1)
 have HK0 := Lib.hid (show Row ((w.alloc (.cells (key.map bv).toArray 24)).alloc (.cells p.cells.toArray 40)) w.heap.size (key.map bv) 24 from (Row.new rfl rfl).alloc _)
 have HP0 := Lib.hid (show Row ((w.alloc (.cells (key.map bv).toArray 24)).alloc (.cells p.cells.toArray 40)) (w.heap.size + 1) p.cells 40 from Row.new (by simp) rfl)
 have Hkl := Lib.hid hk
 have Ho := Lib.hid ho
 have Hbo := Lib.hid hbo
 have hres : ckH key p n = chkk p n 1 M := by rw [← hM]; rfl
 rw [hres]
 clear hM hk ho hbo ht hres
 unfold arr8 Pk.val
 go_enter Tryd.func34, Tryd.ntmps34
 have HL1 := Lib.hid (l_all HP0.out Ho.out)
 go_wp2_with (first
  | (refine wpList_ld 40 rfl rfl HL1.out rfl ?_)
  | fail)
 refine (RCheck_any p Ho.out A n c Hbo.out _).mono ?_
 rintro e w1 ⟨rfl, hb⟩
 have HB2 := Lib.hid (nextB HB0.out (Nat.le_refl _) hb)
 have HK2 := Lib.hid (HK0.out.below hb HK0.out.lt)
 have HP2 := Lib.hid (HP0.out.below hb HP0.out.lt)
 have HT2 := Lib.hid (HT0.out.below hb HT0.out.1)
 clear hb
 have ck := c_kind HP2.out
 by_cases h : Head p ∧ BodyOk p n
 case neg =>
  have hc : chk p n = 2 := if_neg h
  have hr : chkk p n 1 M = 2 := by rw [chkk, if_neg h]
  rw [hc]
  clear h hc
  go_wp2
  go_ret
  exact ⟨by rw [hr]; rfl, HB2.out⟩
 have hc : chk p n = 0 := if_pos h
 rw [hc]
 by_cases h2 : p.kind = 1
 case neg =>
  have hr : chkk p n 1 M = 2 := by rw [chkk, if_pos h, if_neg h2]
  have hkk : (p.kind != 1) = true := by simp [h2]
  clear h hc h2
  go_wp2
  go_ret
  exact ⟨by rw [hr]; rfl, HB2.out⟩
 have hr : chkk p n 1 M = if p.mrk = M then 0 else 12 := by rw [chkk, if_pos h, if_pos h2]
 have Hr := Lib.hid hr
 rw [h2] at ck
 clear hr h hc h2
 go_wp2_with fail
 clear ck
 refine By.marks Pol.mixed Grew [By.is (.pointer (some ⟨(w.heap.size + 1), 21, none⟩)),
  By.is (arr8 p.mrk),
  By.is (arr8 key),
  By.is (p.val),
  By.is (arr8 M),
  By.is (.bool (!decide (p.mrk = M)))]
  (Ev.masks _ []) (by kernel_rfl) rfl Grew.refl Grew.trans ⟨?_, ?_, ?_, ?_, ?_, ?_, trivial⟩ ?_
 · intro a w ht hs hg
   have h3 := By.same_get hs 3 (by decide) (by kernel_rfl)
   refine By.yes rfl ?_
   clear hs hg
   go_simp
   exact ⟨_, rfl, Grew.refl _, rfl⟩
 · intro a w ht hs hg
   have h13 : a.tmps.getD 13 undef = _ := By.given_get hg 0 rfl rfl (by kernel_rfl)
   refine By.yes rfl ?_
   clear hs hg
   have hr := l_mrk (Row.below (w := w1.drew) HP2.out ht HP2.out.lt) Ho.out
   refine wp_ld 38 _ rfl h13 hr ?_
   exact ⟨_, rfl, Grew.refl _, rfl⟩
 · intro a w ht hs hg
   have h2 := By.same_get hs 2 (by decide) (by kernel_rfl)
   refine By.yes rfl ?_
   clear hs hg
   have hr := l_a32 (Row.below (w := w1.drew) HK2.out ht HK2.out.lt) Hkl.out
   refine wp_ld 24 _ rfl h2 hr ?_
   exact ⟨_, rfl, Grew.refl _, rfl⟩
 · intro a w ht hs hg
   have h3 := By.same_get hs 3 (by decide) (by kernel_rfl)
   refine By.yes rfl ?_
   clear hs hg
   have hr := l_all (Row.below (w := w1.drew) HP2.out ht HP2.out.lt) Ho.out
   refine wp_ld 40 _ rfl h3 hr ?_
   exact ⟨_, rfl, Grew.refl _, rfl⟩
 · intro a w ht hs hg
   have h15 : a.tmps.getD 15 undef = _ := By.given_get hg 2 rfl rfl (by kernel_rfl)
   have h16 : a.tmps.getD 16 undef = _ := By.given_get hg 3 rfl rfl (by kernel_rfl)
   refine By.yes rfl ?_
   clear hs hg
   have HTw := Lib.hid (HT2.out.below (grew_below ht) HT2.out.1)
   clear ht
   unfold arr8 at h15
   unfold Pk.val at h16
   go_simp
   refine (RHelloMark_any key p Hkl.out Ho.out w HTw.out).mono ?_
   rintro x w8 ⟨rfl, hb8⟩
   exact ⟨_, rfl, hb8, congrArg arr8 HM.out⟩
 · intro a w ht hs hg
   have h14 : a.tmps.getD 14 undef = _ := By.given_get hg 1 rfl rfl (by kernel_rfl)
   have h17 : a.tmps.getD 17 undef = _ := By.given_get hg 4 rfl rfl (by kernel_rfl)
   refine By.yes rfl ?_
   clear hs hg
   refine wp_neqArr _ _ rfl (by kernel_rfl) h14 h17 (e16 p.mrk M Ho.out.m HMl.out w) ?_
   exact ⟨_, rfl, Grew.refl _, rfl⟩
 refine By.ends_is (By.ends_is (By.ends_is (By.ends_is (By.ends_is (By.ends_is (By.ends_nil fun w9 hw9 => ?_))))))
 simp only [Act.put, List.setIfInBounds_toArray, List.set_cons_succ, List.set_cons_zero]
 have HB9 := Lib.hid (nextB HB2.out (Nat.le_refl _) (grew_below hw9))
 clear hw9
 by_cases hd : p.mrk = M
 case pos =>
  have Hd := Lib.hid hd
  rw [decide_eq_true hd]
  clear hd
  go_wp2
  go_ret
  exact ⟨by rw [Hr.out, if_pos Hd.out]; rfl, HB9.out⟩
 case neg =>
  have Hd := Lib.hid hd
  rw [decide_eq_false hd]
  clear hd
  go_wp2
  go_ret
  exact ⟨by rw [Hr.out, if_neg Hd.out]; rfl, HB9.out⟩
end Go.Proofs.YtbdpnpabpcidkaaDoor.Shk
namespace Go.Proofs.YtbdpnpabpcidkaaDoor.Shk
open Go.RowKit
open Pkt (Pk code_name wpList_name wpList_ld l_all c_ses Head BodyOk chk Check_any nm z16)
set_option maxRecDepth 100000 in
set_option maxHeartbeats 2000000 in
theorem RHello_any (key : List UInt8) (z : Int) (r : List UInt8) (hk : key.length = 32) (hrl : r.length = 16) (w : World) (ht : Tab w) :
 Calls Tryd.prog 33 #[arr8 key, .int .i64 z, arr8 r] w fun e w' => e = .returned (if helloOk z then .tuple #[(helloP key z r).val, .int .i64 0] else .tuple #[(nm 0).val, .int .i64 2]) ∧ Below w.heap.size w w' := by
 have Hkl := Lib.hid hk
 have Hrl := Lib.hid hrl
 have Ht := Lib.hid ht
 obtain ⟨M, hM⟩ : ∃ M, mark key (hello5 ++ (helloL (hp z r z16)).flatten) = M := ⟨_, rfl⟩
 have HMl := Lib.hid (show M.length = 16 by rw [← hM]; exact mark_length _ _)
 have HM := Lib.hid hM
 have HX := Lib.hid (show helloP key z r = hp z r M by rw [helloP, hM])
 obtain ⟨R, hR⟩ : ∃ R, (if helloOk z then Value.tuple #[(helloP key z r).val, .int .i64 0] else .tuple #[(nm 0).val, .int .i64 2]) = R := ⟨_, rfl⟩
 have HRes := Lib.hid hR
 rw [hR]
 have HB0 := Lib.hid (show Below w.heap.size w (((w.alloc (.cells (key.map bv).toArray 24)).alloc (.cells (r.map bv).toArray 38)).alloc (.cells (nm 0).cells.toArray 40)) from (((Below.refl _ w).alloc (Nat.le_refl _) _).alloc (by simp) _).alloc (by simp; omega) _)
 have HK := Lib.hid (show Row (((w.alloc (.cells (key.map bv).toArray 24)).alloc (.cells (r.map bv).toArray 38)).alloc (.cells (nm 0).cells.toArray 40)) w.heap.size (key.map bv) 24 from ((Row.new rfl rfl).alloc _).alloc _)
 have HR := Lib.hid (show Row (((w.alloc (.cells (key.map bv).toArray 24)).alloc (.cells (r.map bv).toArray 38)).alloc (.cells (nm 0).cells.toArray 40)) (w.heap.size + 1) (r.map bv) 38 from (Row.new (by simp) rfl).alloc _)
 have HO := Lib.hid (show Row (((w.alloc (.cells (key.map bv).toArray 24)).alloc (.cells (r.map bv).toArray 38)).alloc (.cells (nm 0).cells.toArray 40)) (w.heap.size + 1 + 1) (nm 0).cells 40 from Row.new (by simp) rfl)
 have hrun := l_a16 HR.out hrl
 unfold arr8 at hrun
 have HRr := Lib.hid hrun
 have HHn := Lib.hid (show Row ((((w.alloc (.cells (key.map bv).toArray 24)).alloc (.cells (r.map bv).toArray 38)).alloc (.cells (nm 0).cells.toArray 40)).alloc (.cells (nm 0).cells.toArray 40)) (w.heap.size + 1 + 1 + 1) (nm 0).cells 40 from Row.new (by simp) rfl)
 clear hk hrl ht hM hR hrun
 unfold arr8
 go_enter Tryd.func33, Tryd.ntmps33
 go_wp2_with (first
  | (refine wpList_ld 38 rfl rfl HRr.out rfl ?_
     refine wpList_name fun W0 hW0 => ?_
     refine sstop ?_)
  | fail)
 unfold SStop
 have HK0 := Lib.hid (show Row W0 w.heap.size (key.map bv) 24 from hW0 ▸ HK.out)
 have HO0 := Lib.hid (show Row W0 (w.heap.size + 1 + 1) (nm 0).cells 40 from hW0 ▸ HO.out)
 have HBW := Lib.hid (show Below w.heap.size w W0 from hW0 ▸ HB0.out)
 have hs0 : W0.heap.size = w.heap.size + 1 + 1 + 1 := by rw [← hW0]; simp
 have Hs0 := Lib.hid hs0
 have Hg := Lib.hid (show Row (W0.alloc (.cells (nm 0).cells.toArray 40)) (w.heap.size + 1 + 1 + 1) (nm 0).cells 40 from Row.new hs0 rfl)
 clear hW0
 refine wpList_build rfl _ _ rfl (v := (hp z r z16).val) (Eq.trans (congrArg (fun q => (Instr.build 40 q).run Tryd.prog W0) (by kernel_rfl)) (build_hp z W0 r Hrl.out)) ?_
 go_wp2_with (first
  | (show wpList _ _ _ (⟨none, Op.store 40 _ _, _, _, _, _⟩ :: _) _ _
     refine wpList_storeRow (g := w.heap.size + 1 + 1 + 1) rfl 40 _ _ rfl rfl rfl (cs := (hp z r z16).cells) Hg.out (by kernel_rfl) (Pk.length (hp_ok Hrl.out rfl)) (Pk.length nm_ok) (Pk.one (hp_ok Hrl.out rfl)) ?_
     refine wpList_name fun V hV => ?_
     refine sstop ?_)
  | fail)
 unfold SStop
 have HKV := Lib.hid (show Row V w.heap.size (key.map bv) 24 by rw [← hV]; exact (HK0.out.alloc _).setOther _ _ (by omega))
 have HOV := Lib.hid (show Row V (w.heap.size + 1 + 1) (nm 0).cells 40 by rw [← hV]; exact (HO0.out.alloc _).setOther _ _ (by omega))
 have HHV := Lib.hid (show Row V (w.heap.size + 1 + 1 + 1) (hp z r z16).cells 40 by rw [← hV]; exact Hg.out.setRow _)
 have HBV := Lib.hid (show Below w.heap.size w V by rw [← hV]; exact below_setRow (HBW.out.alloc (by omega) _) (by omega) _)
 have HTV := Lib.hid (Ht.out.below HBV.out Ht.out.1)
 have HLd := Lib.hid (l_all HHV.out (hp_ok Hrl.out rfl))
 clear hV hs0
 go_wp2_with (first
  | (refine wpList_ld 40 rfl rfl HLd.out rfl ?_)
  | fail)
 refine (Pkt.RCheck_any (hp z r z16) (hp_ok Hrl.out rfl) none 0 0 rfl _).mono ?_
 rintro e w1 ⟨rfl, hb1⟩
 rw [chk_hp]
 have HB1 := Lib.hid (nextB HBV.out (Nat.le_refl _) hb1)
 have HK1 := Lib.hid (HKV.out.below hb1 HKV.out.lt)
 have HO1 := Lib.hid (HOV.out.below hb1 HOV.out.lt)
 have HH1 := Lib.hid (HHV.out.below hb1 HHV.out.lt)
 have HT1 := Lib.hid (HTV.out.below hb1 HTV.out.1)
 clear hb1
 by_cases h : helloOk z
 · rw [if_pos h]
   have Hh := Lib.hid h
   clear h
   have HLk := Lib.hid (l_a32 HK1.out Hkl.out)
   have HLp := Lib.hid (l_all HH1.out (hp_ok Hrl.out rfl))
   go_wp2_with (first
    | (refine wpList_ld 24 rfl rfl HLk.out rfl ?_)
    | (refine wpList_ld 40 rfl rfl HLp.out rfl ?_)
    | fail)
   refine (RHelloMark_any key (hp z r z16) Hkl.out (hp_ok Hrl.out rfl) w1 HT1.out).mono ?_
   rintro e w2 ⟨rfl, hb⟩
   rw [HM.out]
   have HB9 := Lib.hid (nextB HB1.out (Nat.le_refl _) hb)
   have HH9 := Lib.hid (HH1.out.below hb HH1.out.lt)
   have HO9 := Lib.hid (HO1.out.below hb HO1.out.lt)
   have HSp := Lib.hid (Pkt.sp_mrk (hp z r z16) (hp_ok Hrl.out rfl) M HMl.out)
   have HMm := Lib.hid (show (M.map bv).length = 16 by rw [List.length_map]; exact HMl.out)
   have HFi := Lib.hid (show 21 + (M.map bv).length ≤ (hp z r z16).cells.length by rw [HMm.out, Pk.length (hp_ok Hrl.out rfl)]; omega)
   clear hb
   go_wp2_with (first
    | (show wpList _ _ _ (⟨none, Op.store 38 _ _, _, _, _, _⟩ :: _) _ _
       refine Pol.wpList_storeSub (n := 16) rfl 38 (.tmp 19) (.tmp 18) rfl rfl rfl (cs := M.map bv) HH9.out (by kernel_rfl) HMm.out HFi.out (hbytes_one M) ?_
       rw [HSp.out]
       refine wpList_name fun V2 hV2 => ?_
       refine sstop ?_)
    | fail)
   unfold SStop
   obtain ⟨V, hV⟩ : ∃ V, V2 = V := ⟨_, rfl⟩
   rw [hV] at hV2 ⊢
   have HHV := Lib.hid (show Row V (w.heap.size + 1 + 1 + 1) (hp z r M).cells 40 by rw [← hV2]; exact HH9.out.setRow _)
   have HOV := Lib.hid (show Row V (w.heap.size + 1 + 1) (nm 0).cells 40 by rw [← hV2]; exact HO9.out.setOther _ _ (by omega))
   have HBV := Lib.hid (show Below w.heap.size w V by rw [← hV2]; exact below_setRow HB9.out (by omega) _)
   have HLd := Lib.hid (l_all HHV.out (hp_ok Hrl.out HMl.out))
   clear hV hV2
   go_wp2_with (first
    | (refine wpList_ld 40 rfl rfl HLd.out rfl ?_)
    | (show wpList _ _ _ (⟨none, Op.store 40 _ _, _, _, _, _⟩ :: _) _ _
       refine wpList_storeRow (g := w.heap.size + 1 + 1) rfl 40 _ _ rfl rfl rfl (cs := (hp z r M).cells) HOV.out (by kernel_rfl) (Pk.length (hp_ok Hrl.out HMl.out)) (Pk.length nm_ok) (Pk.one (hp_ok Hrl.out HMl.out)) ?_)
    | fail)
   refine bodyPost_ret (results_ct rfl rfl (HOV.out.setRow (hp z r M).cells) Tryd.underlying40 rfl (by kernel_rfl) (Pk.length (hp_ok Hrl.out HMl.out))) rfl ?_
   exact ⟨by rw [← HRes.out, if_pos Hh.out, HX.out]; rfl, below_setRow HBV.out (by omega) _⟩
 · rw [if_neg h]
   have Hh := Lib.hid h
   clear h
   go_wp2_with (first
    | (show wpList _ _ _ (⟨some 15, _, _, _, _, _⟩ :: _) _ _; refine wpList_build rfl _ _ rfl (v := (nm 0).val) (by kernel_rfl) ?_)
    | (show wpList _ _ _ (⟨none, Op.store 40 _ _, _, _, _, _⟩ :: _) _ _
       refine wpList_storeRow (g := w.heap.size + 1 + 1) rfl 40 _ _ rfl rfl rfl (cs := (nm 0).cells) HO1.out (by kernel_rfl) (Pk.length nm_ok) (Pk.length nm_ok) (Pk.one nm_ok) ?_)
    | fail)
   refine bodyPost_ret (results_ct rfl rfl (HO1.out.setRow (nm 0).cells) Tryd.underlying40 rfl (by kernel_rfl) (Pk.length nm_ok)) rfl ?_
   exact ⟨by rw [← HRes.out, if_neg Hh.out]; rfl, below_setRow HB1.out (by omega) _⟩
end Go.Proofs.YtbdpnpabpcidkaaDoor.Shk
namespace Go.Proofs.YtbdpnpabpcidkaaDoor.Shk
open Go.RowKit
open Pkt
set_option maxRecDepth 100000 in
set_option maxHeartbeats 4000000 in
theorem RCheckAnswer_any (key : List UInt8) (p q : Pk) (hk : key.length = 32) (ho : p.Ok) (hq : q.Ok) (hel : q.epo < 4294967296) (A A2 : Option Addr) (n m c c2 : Nat) (hbo : p.bo = .slice A n c) (hbq : q.bo = .slice A2 m c2) (w : World) (ht : Tab w) :
 Calls Tryd.prog 40 #[arr8 key, p.val, q.val] w fun x w' => x = .returned (cansV key p q n m) ∧ Below w.heap.size w w' := by
 obtain ⟨C, hC⟩ : ∃ C, ckH key p n = C := ⟨_, rfl⟩
 obtain ⟨M, hM⟩ : ∃ M, mark key (answer6 ++ (answerL p q).flatten) = M := ⟨_, rfl⟩
 obtain ⟨O, hO⟩ : ∃ O, secL key p q = O := ⟨_, rfl⟩
 have HOl := Lib.hid (show (O.map bv).length = 32 by rw [List.length_map, ← hO]; exact secL_length _ _ _)
 have HMl := Lib.hid (show M.length = 16 by rw [← hM]; exact mark_length _ _)
 have HC := Lib.hid hC
 have HM := Lib.hid hM
 have HO := Lib.hid hO
 have hD : ckA key p q m = chkk q m 2 M := by rw [← hM]; rfl
 obtain ⟨R, hR⟩ : ∃ R, cansV key p q n m = R := ⟨_, rfl⟩
 rw [hR]
 rw [cansV, hC, hD, hO] at hR
 have HRes := Lib.hid hR
 have HB0 := Lib.hid (show Below w.heap.size w ((((w.alloc (.cells (key.map bv).toArray 24)).alloc (.cells p.cells.toArray 40)).alloc (.cells q.cells.toArray 40)).alloc (.cells z32.toArray 24)) from ((((Below.refl _ w).alloc (Nat.le_refl _) _).alloc (by simp) _).alloc (by simp; omega) _).alloc (by simp; omega) _)
 have HT0 := Lib.hid (ht.below HB0.out ht.1)
 have HK0 := Lib.hid (show Row ((((w.alloc (.cells (key.map bv).toArray 24)).alloc (.cells p.cells.toArray 40)).alloc (.cells q.cells.toArray 40)).alloc (.cells z32.toArray 24)) w.heap.size (key.map bv) 24 from (((Row.new rfl rfl).alloc _).alloc _).alloc _)
 have HP0 := Lib.hid (show Row ((((w.alloc (.cells (key.map bv).toArray 24)).alloc (.cells p.cells.toArray 40)).alloc (.cells q.cells.toArray 40)).alloc (.cells z32.toArray 24)) (w.heap.size + 1) p.cells 40 from ((Row.new (by simp) rfl).alloc _).alloc _)
 have HQ0 := Lib.hid (show Row ((((w.alloc (.cells (key.map bv).toArray 24)).alloc (.cells p.cells.toArray 40)).alloc (.cells q.cells.toArray 40)).alloc (.cells z32.toArray 24)) (w.heap.size + 1 + 1) q.cells 40 from (Row.new (by simp) rfl).alloc _)
 have HZ0 := Lib.hid (show Row ((((w.alloc (.cells (key.map bv).toArray 24)).alloc (.cells p.cells.toArray 40)).alloc (.cells q.cells.toArray 40)).alloc (.cells z32.toArray 24)) (w.heap.size + 1 + 1 + 1) z32 24 from Row.new (by simp) rfl)
 have Hkl := Lib.hid hk
 have Ho := Lib.hid ho
 have Hq := Lib.hid hq
 have Hel := Lib.hid hel
 have Hbo := Lib.hid hbo
 have Hbq := Lib.hid hbq
 clear hk ho hq hel hbo hbq ht hR hC hM hO hD
 unfold arr8 Pk.val
 go_enter Tryd.func40, Tryd.ntmps40
 have HL1 := Lib.hid (l_a32 HK0.out Hkl.out)
 have HL2 := Lib.hid (l_all HP0.out Ho.out)
 go_wp2_with (first
  | (refine wpList_ld 24 rfl rfl HL1.out rfl ?_)
  | (refine wpList_ld 40 rfl rfl HL2.out rfl ?_)
  | fail)
 refine (RCheckHello_any key p Hkl.out Ho.out A n c Hbo.out _ HT0.out).mono ?_
 rintro e w1 ⟨rfl, hb⟩
 rw [HC.out]
 have HB3 := Lib.hid (nextB HB0.out (Nat.le_refl _) hb)
 have HK3 := Lib.hid (HK0.out.below hb HK0.out.lt)
 have HP3 := Lib.hid (HP0.out.below hb HP0.out.lt)
 have HQ3 := Lib.hid (HQ0.out.below hb HQ0.out.lt)
 have HZ3 := Lib.hid (HZ0.out.below hb HZ0.out.lt)
 have HT3 := Lib.hid (HT0.out.below hb HT0.out.1)
 clear hb
 by_cases hc : C = 0
 case neg =>
  have hce : (C == 0) = false := by simp [hc]
  have hcn : (C != 0) = true := by simp [hc]
  have Hc := Lib.hid hc
  clear hc
  go_wp2_with fail
  refine By.marks Pol.mixed Grew [By.is (.int .i64 C),
   By.is (.bool false),
   By.is (.bool false),
   By.is undef,
   By.is undef,
   By.is undef,
   By.is undef,
   By.is undef,
   By.is undef,
   By.is undef,
   By.is (.bool false)]
   (Ev.masks _ []) (by kernel_rfl) rfl Grew.refl Grew.trans ⟨?_, ?_, ?_, ?_, ?_, ?_, ?_, ?_, ?_, ?_, ?_, trivial⟩ ?_
  · intro a w ht hs hg
    have h8 := By.same_get hs 8 (by decide) (by kernel_rfl)
    refine By.yes rfl ?_
    clear hs hg
    go_simp
    exact ⟨_, rfl, Grew.refl _, rfl⟩
  · intro a w ht hs hg
    have h24 : a.tmps.getD 24 undef = _ := By.given_get hg 0 rfl rfl (by kernel_rfl)
    refine By.yes rfl ?_
    clear hs hg
    clear ht
    go_simp
    first | exact ⟨_, rfl, Grew.refl _, rfl⟩ | exact ⟨_, rfl, Grew.refl _, congrArg Value.bool hce⟩
  · intro a w ht hs hg
    have h25 : a.tmps.getD 25 undef = _ := By.given_get hg 1 rfl rfl (by kernel_rfl)
    refine By.yes rfl ?_
    clear hs hg
    go_simp
    exact ⟨_, rfl, Grew.refl _, rfl⟩
  · intro a w ht hs hg
    have hg26 := By.given_get hg 2 rfl rfl (by kernel_rfl)
    exact By.no (By.want_no rfl rfl hg26 (by decide)) rfl
  · intro a w ht hs hg
    have hg26 := By.given_get hg 2 rfl rfl (by kernel_rfl)
    exact By.no (By.want_no rfl rfl hg26 (by decide)) rfl
  · intro a w ht hs hg
    have hg26 := By.given_get hg 2 rfl rfl (by kernel_rfl)
    exact By.no (By.want_no rfl rfl hg26 (by decide)) rfl
  · intro a w ht hs hg
    have hg26 := By.given_get hg 2 rfl rfl (by kernel_rfl)
    exact By.no (By.want_no rfl rfl hg26 (by decide)) rfl
  · intro a w ht hs hg
    have hg26 := By.given_get hg 2 rfl rfl (by kernel_rfl)
    exact By.no (By.want_no rfl rfl hg26 (by decide)) rfl
  · intro a w ht hs hg
    have hg26 := By.given_get hg 2 rfl rfl (by kernel_rfl)
    exact By.no (By.want_no rfl rfl hg26 (by decide)) rfl
  · intro a w ht hs hg
    have hg26 := By.given_get hg 2 rfl rfl (by kernel_rfl)
    exact By.no (By.want_no rfl rfl hg26 (by decide)) rfl
  · intro a w ht hs hg
    have h26 : a.tmps.getD 26 undef = _ := By.given_get hg 2 rfl rfl (by kernel_rfl)
    refine By.yes rfl ?_
    clear hs hg
    clear ht
    go_simp
    exact ⟨_, rfl, Grew.refl _, rfl⟩
  refine By.ends_is (By.ends_is (By.ends_is (By.ends_skip fun v27 => (By.ends_skip fun v28 => (By.ends_skip fun v29 => (By.ends_skip fun v30 => (By.ends_skip fun v31 => (By.ends_skip fun v32 => (By.ends_skip fun v33 => (By.ends_is (By.ends_nil fun w9 hw9 => ?_)))))))))))
  simp only [Act.put, List.setIfInBounds_toArray, List.set_cons_succ, List.set_cons_zero]
  have hb := grew_below hw9
  have HB4 := Lib.hid (nextB HB3.out (Nat.le_refl _) hb)
  have HK4 := Lib.hid (HK3.out.below hb HK3.out.lt)
  have HP4 := Lib.hid (HP3.out.below hb HP3.out.lt)
  have HQ4 := Lib.hid (HQ3.out.below hb HQ3.out.lt)
  have HZ4 := Lib.hid (HZ3.out.below hb HZ3.out.lt)
  have HT4 := Lib.hid (HT3.out.below hb HT3.out.1)
  clear hb hw9
  go_wp2_with (first
   | (show wpList _ _ _ (⟨some 37, _, _, _, _, _⟩ :: _) _ _; refine Pkt.wpList_build rfl _ _ rfl (v := .agg z32.toArray) (by kernel_rfl) ?_)
   | (show wpList _ _ _ (⟨none, Op.store 24 _ _, _, _, _, _⟩ :: _) _ _
      refine wpList_storeRow (g := (w.heap.size + 1 + 1 + 1)) rfl 24 _ _ rfl rfl rfl (cs := z32) HZ4.out (by kernel_rfl) rfl rfl z32_one ?_)
   | fail)
  refine bodyPost_ret (results_ct rfl rfl (HZ4.out.setRow z32) Tryd.underlying24 rfl (by kernel_rfl) rfl) rfl ?_
  exact ⟨by rw [← HRes.out, if_neg Hc.out]; rfl, below_setRow HB4.out (by omega) _⟩
 subst hc
 have hce : True := trivial
 have HL5 := Lib.hid (l_all HQ3.out Hq.out)
 go_wp2_with (first
  | (refine wpList_ld 40 rfl rfl HL5.out rfl ?_)
  | fail)
 refine (RCheck_any q Hq.out A2 m c2 Hbq.out _).mono ?_
 rintro e w2 ⟨rfl, hb⟩
 have HB6 := Lib.hid (nextB HB3.out (Nat.le_refl _) hb)
 have HK6 := Lib.hid (HK3.out.below hb HK3.out.lt)
 have HP6 := Lib.hid (HP3.out.below hb HP3.out.lt)
 have HQ6 := Lib.hid (HQ3.out.below hb HQ3.out.lt)
 have HZ6 := Lib.hid (HZ3.out.below hb HZ3.out.lt)
 have HT6 := Lib.hid (HT3.out.below hb HT3.out.1)
 clear hb
 have ck := c_kind HQ6.out
 by_cases h : Head q ∧ BodyOk q m
 case neg =>
  have hcc : chk q m = 2 := if_neg h
  have hr : chkk q m 2 M = 2 := by rw [chkk, if_neg h]
  have Hr := Lib.hid hr
  rw [hcc]
  clear h hcc hr
  go_wp2_with fail
  refine By.marks Pol.mixed Grew [By.is (.int .i64 2),
   By.is (.bool false),
   By.is (.bool false),
   By.is undef,
   By.is undef,
   By.is undef,
   By.is undef,
   By.is undef,
   By.is undef,
   By.is undef,
   By.is (.bool false)]
   (Ev.masks _ []) (by kernel_rfl) rfl Grew.refl Grew.trans ⟨?_, ?_, ?_, ?_, ?_, ?_, ?_, ?_, ?_, ?_, ?_, trivial⟩ ?_
  · intro a w ht hs hg
    have h8 := By.same_get hs 8 (by decide) (by kernel_rfl)
    refine By.yes rfl ?_
    clear hs hg
    go_simp
    exact ⟨_, rfl, Grew.refl _, rfl⟩
  · intro a w ht hs hg
    have h24 : a.tmps.getD 24 undef = _ := By.given_get hg 0 rfl rfl (by kernel_rfl)
    refine By.yes rfl ?_
    clear hs hg
    clear ht
    go_simp
    first | exact ⟨_, rfl, Grew.refl _, rfl⟩ | exact ⟨_, rfl, Grew.refl _, congrArg Value.bool hce⟩
  · intro a w ht hs hg
    have h25 : a.tmps.getD 25 undef = _ := By.given_get hg 1 rfl rfl (by kernel_rfl)
    refine By.yes rfl ?_
    clear hs hg
    go_simp
    exact ⟨_, rfl, Grew.refl _, rfl⟩
  · intro a w ht hs hg
    have hg26 := By.given_get hg 2 rfl rfl (by kernel_rfl)
    exact By.no (By.want_no rfl rfl hg26 (by decide)) rfl
  · intro a w ht hs hg
    have hg26 := By.given_get hg 2 rfl rfl (by kernel_rfl)
    exact By.no (By.want_no rfl rfl hg26 (by decide)) rfl
  · intro a w ht hs hg
    have hg26 := By.given_get hg 2 rfl rfl (by kernel_rfl)
    exact By.no (By.want_no rfl rfl hg26 (by decide)) rfl
  · intro a w ht hs hg
    have hg26 := By.given_get hg 2 rfl rfl (by kernel_rfl)
    exact By.no (By.want_no rfl rfl hg26 (by decide)) rfl
  · intro a w ht hs hg
    have hg26 := By.given_get hg 2 rfl rfl (by kernel_rfl)
    exact By.no (By.want_no rfl rfl hg26 (by decide)) rfl
  · intro a w ht hs hg
    have hg26 := By.given_get hg 2 rfl rfl (by kernel_rfl)
    exact By.no (By.want_no rfl rfl hg26 (by decide)) rfl
  · intro a w ht hs hg
    have hg26 := By.given_get hg 2 rfl rfl (by kernel_rfl)
    exact By.no (By.want_no rfl rfl hg26 (by decide)) rfl
  · intro a w ht hs hg
    have h26 : a.tmps.getD 26 undef = _ := By.given_get hg 2 rfl rfl (by kernel_rfl)
    refine By.yes rfl ?_
    clear hs hg
    clear ht
    go_simp
    exact ⟨_, rfl, Grew.refl _, rfl⟩
  refine By.ends_is (By.ends_is (By.ends_is (By.ends_skip fun v27 => (By.ends_skip fun v28 => (By.ends_skip fun v29 => (By.ends_skip fun v30 => (By.ends_skip fun v31 => (By.ends_skip fun v32 => (By.ends_skip fun v33 => (By.ends_is (By.ends_nil fun w9 hw9 => ?_)))))))))))
  simp only [Act.put, List.setIfInBounds_toArray, List.set_cons_succ, List.set_cons_zero]
  have hb := grew_below hw9
  have HB7 := Lib.hid (nextB HB6.out (Nat.le_refl _) hb)
  have HK7 := Lib.hid (HK6.out.below hb HK6.out.lt)
  have HP7 := Lib.hid (HP6.out.below hb HP6.out.lt)
  have HQ7 := Lib.hid (HQ6.out.below hb HQ6.out.lt)
  have HZ7 := Lib.hid (HZ6.out.below hb HZ6.out.lt)
  have HT7 := Lib.hid (HT6.out.below hb HT6.out.1)
  clear hb hw9
  go_wp2_with (first
   | (show wpList _ _ _ (⟨some 37, _, _, _, _, _⟩ :: _) _ _; refine Pkt.wpList_build rfl _ _ rfl (v := .agg z32.toArray) (by kernel_rfl) ?_)
   | (show wpList _ _ _ (⟨none, Op.store 24 _ _, _, _, _, _⟩ :: _) _ _
      refine wpList_storeRow (g := (w.heap.size + 1 + 1 + 1)) rfl 24 _ _ rfl rfl rfl (cs := z32) HZ7.out (by kernel_rfl) rfl rfl z32_one ?_)
   | fail)
  refine bodyPost_ret (results_ct rfl rfl (HZ7.out.setRow z32) Tryd.underlying24 rfl (by kernel_rfl) rfl) rfl ?_
  exact ⟨by rw [← HRes.out, if_pos trivial, Hr.out, if_neg (by decide)]; rfl, below_setRow HB7.out (by omega) _⟩
 have hcc : chk q m = 0 := if_pos h
 rw [hcc]
 by_cases h2 : q.kind = 2
 case neg =>
  have hr : chkk q m 2 M = 2 := by rw [chkk, if_pos h, if_neg h2]
  have Hr := Lib.hid hr
  have hkk : (q.kind != 2) = true := by simp [h2]
  clear h hcc hr h2
  go_wp2_with fail
  refine By.marks Pol.mixed Grew [By.is (.int .i64 2),
   By.is (.bool false),
   By.is (.bool false),
   By.is undef,
   By.is undef,
   By.is undef,
   By.is undef,
   By.is undef,
   By.is undef,
   By.is undef,
   By.is (.bool false)]
   (Ev.masks _ []) (by kernel_rfl) rfl Grew.refl Grew.trans ⟨?_, ?_, ?_, ?_, ?_, ?_, ?_, ?_, ?_, ?_, ?_, trivial⟩ ?_
  · intro a w ht hs hg
    have h8 := By.same_get hs 8 (by decide) (by kernel_rfl)
    refine By.yes rfl ?_
    clear hs hg
    go_simp
    exact ⟨_, rfl, Grew.refl _, rfl⟩
  · intro a w ht hs hg
    have h24 : a.tmps.getD 24 undef = _ := By.given_get hg 0 rfl rfl (by kernel_rfl)
    refine By.yes rfl ?_
    clear hs hg
    clear ht
    go_simp
    first | exact ⟨_, rfl, Grew.refl _, rfl⟩ | exact ⟨_, rfl, Grew.refl _, congrArg Value.bool hce⟩
  · intro a w ht hs hg
    have h25 : a.tmps.getD 25 undef = _ := By.given_get hg 1 rfl rfl (by kernel_rfl)
    refine By.yes rfl ?_
    clear hs hg
    go_simp
    exact ⟨_, rfl, Grew.refl _, rfl⟩
  · intro a w ht hs hg
    have hg26 := By.given_get hg 2 rfl rfl (by kernel_rfl)
    exact By.no (By.want_no rfl rfl hg26 (by decide)) rfl
  · intro a w ht hs hg
    have hg26 := By.given_get hg 2 rfl rfl (by kernel_rfl)
    exact By.no (By.want_no rfl rfl hg26 (by decide)) rfl
  · intro a w ht hs hg
    have hg26 := By.given_get hg 2 rfl rfl (by kernel_rfl)
    exact By.no (By.want_no rfl rfl hg26 (by decide)) rfl
  · intro a w ht hs hg
    have hg26 := By.given_get hg 2 rfl rfl (by kernel_rfl)
    exact By.no (By.want_no rfl rfl hg26 (by decide)) rfl
  · intro a w ht hs hg
    have hg26 := By.given_get hg 2 rfl rfl (by kernel_rfl)
    exact By.no (By.want_no rfl rfl hg26 (by decide)) rfl
  · intro a w ht hs hg
    have hg26 := By.given_get hg 2 rfl rfl (by kernel_rfl)
    exact By.no (By.want_no rfl rfl hg26 (by decide)) rfl
  · intro a w ht hs hg
    have hg26 := By.given_get hg 2 rfl rfl (by kernel_rfl)
    exact By.no (By.want_no rfl rfl hg26 (by decide)) rfl
  · intro a w ht hs hg
    have h26 : a.tmps.getD 26 undef = _ := By.given_get hg 2 rfl rfl (by kernel_rfl)
    refine By.yes rfl ?_
    clear hs hg
    clear ht
    go_simp
    exact ⟨_, rfl, Grew.refl _, rfl⟩
  refine By.ends_is (By.ends_is (By.ends_is (By.ends_skip fun v27 => (By.ends_skip fun v28 => (By.ends_skip fun v29 => (By.ends_skip fun v30 => (By.ends_skip fun v31 => (By.ends_skip fun v32 => (By.ends_skip fun v33 => (By.ends_is (By.ends_nil fun w9 hw9 => ?_)))))))))))
  simp only [Act.put, List.setIfInBounds_toArray, List.set_cons_succ, List.set_cons_zero]
  have hb := grew_below hw9
  have HB8 := Lib.hid (nextB HB6.out (Nat.le_refl _) hb)
  have HK8 := Lib.hid (HK6.out.below hb HK6.out.lt)
  have HP8 := Lib.hid (HP6.out.below hb HP6.out.lt)
  have HQ8 := Lib.hid (HQ6.out.below hb HQ6.out.lt)
  have HZ8 := Lib.hid (HZ6.out.below hb HZ6.out.lt)
  have HT8 := Lib.hid (HT6.out.below hb HT6.out.1)
  clear hb hw9
  go_wp2_with (first
   | (show wpList _ _ _ (⟨some 37, _, _, _, _, _⟩ :: _) _ _; refine Pkt.wpList_build rfl _ _ rfl (v := .agg z32.toArray) (by kernel_rfl) ?_)
   | (show wpList _ _ _ (⟨none, Op.store 24 _ _, _, _, _, _⟩ :: _) _ _
      refine wpList_storeRow (g := (w.heap.size + 1 + 1 + 1)) rfl 24 _ _ rfl rfl rfl (cs := z32) HZ8.out (by kernel_rfl) rfl rfl z32_one ?_)
   | fail)
  refine bodyPost_ret (results_ct rfl rfl (HZ8.out.setRow z32) Tryd.underlying24 rfl (by kernel_rfl) rfl) rfl ?_
  exact ⟨by rw [← HRes.out, if_pos trivial, Hr.out, if_neg (by decide)]; rfl, below_setRow HB8.out (by omega) _⟩
 have hr : chkk q m 2 M = if q.mrk = M then 0 else 12 := by rw [chkk, if_pos h, if_pos h2]
 have Hr := Lib.hid hr
 rw [h2] at ck
 clear h hcc hr h2
 go_wp2_with fail
 clear ck
 refine By.marks Pol.mixed Grew [By.is (.int .i64 0),
  By.is (.bool true),
  By.is (.bool true),
  By.is (.pointer (some ⟨(w.heap.size + 1 + 1), 21, none⟩)),
  By.is (arr8 q.mrk),
  By.is (arr8 key),
  By.is (p.val),
  By.is (q.val),
  By.is (arr8 M),
  By.is (.bool (!decide (q.mrk = M))),
  By.is (.bool (!decide (q.mrk = M)))]
  (Ev.masks _ []) (by kernel_rfl) rfl Grew.refl Grew.trans ⟨?_, ?_, ?_, ?_, ?_, ?_, ?_, ?_, ?_, ?_, ?_, trivial⟩ ?_
 · intro a w ht hs hg
   have h8 := By.same_get hs 8 (by decide) (by kernel_rfl)
   refine By.yes rfl ?_
   clear hs hg
   go_simp
   exact ⟨_, rfl, Grew.refl _, rfl⟩
 · intro a w ht hs hg
   have h24 : a.tmps.getD 24 undef = _ := By.given_get hg 0 rfl rfl (by kernel_rfl)
   refine By.yes rfl ?_
   clear hs hg
   clear ht
   go_simp
   first | exact ⟨_, rfl, Grew.refl _, rfl⟩ | exact ⟨_, rfl, Grew.refl _, congrArg Value.bool hce⟩
 · intro a w ht hs hg
   have h25 : a.tmps.getD 25 undef = _ := By.given_get hg 1 rfl rfl (by kernel_rfl)
   refine By.yes rfl ?_
   clear hs hg
   go_simp
   exact ⟨_, rfl, Grew.refl _, rfl⟩
 · intro a w ht hs hg
   have h5 := By.same_get hs 5 (by decide) (by kernel_rfl)
   have hg26 := By.given_get hg 2 rfl rfl (by kernel_rfl)
   refine By.yes (By.want_yes rfl rfl hg26) ?_
   clear hg26
   clear hs hg
   go_simp
   exact ⟨_, rfl, Grew.refl _, rfl⟩
 · intro a w ht hs hg
   have h27 : a.tmps.getD 27 undef = _ := By.given_get hg 3 rfl rfl (by kernel_rfl)
   have hg26 := By.given_get hg 2 rfl rfl (by kernel_rfl)
   refine By.yes (By.want_yes rfl rfl hg26) ?_
   clear hg26
   clear hs hg
   have hr := l_mrk (Row.below (w := w2.drew) HQ6.out ht HQ6.out.lt) Hq.out
   refine wp_ld 38 _ rfl h27 hr ?_
   exact ⟨_, rfl, Grew.refl _, rfl⟩
 · intro a w ht hs hg
   have h3 := By.same_get hs 3 (by decide) (by kernel_rfl)
   have hg26 := By.given_get hg 2 rfl rfl (by kernel_rfl)
   refine By.yes (By.want_yes rfl rfl hg26) ?_
   clear hg26
   clear hs hg
   have hr := l_a32 (Row.below (w := w2.drew) HK6.out ht HK6.out.lt) Hkl.out
   refine wp_ld 24 _ rfl h3 hr ?_
   exact ⟨_, rfl, Grew.refl _, rfl⟩
 · intro a w ht hs hg
   have h4 := By.same_get hs 4 (by decide) (by kernel_rfl)
   have hg26 := By.given_get hg 2 rfl rfl (by kernel_rfl)
   refine By.yes (By.want_yes rfl rfl hg26) ?_
   clear hg26
   clear hs hg
   have hr := l_all (Row.below (w := w2.drew) HP6.out ht HP6.out.lt) Ho.out
   refine wp_ld 40 _ rfl h4 hr ?_
   exact ⟨_, rfl, Grew.refl _, rfl⟩
 · intro a w ht hs hg
   have h5 := By.same_get hs 5 (by decide) (by kernel_rfl)
   have hg26 := By.given_get hg 2 rfl rfl (by kernel_rfl)
   refine By.yes (By.want_yes rfl rfl hg26) ?_
   clear hg26
   clear hs hg
   have hr := l_all (Row.below (w := w2.drew) HQ6.out ht HQ6.out.lt) Hq.out
   refine wp_ld 40 _ rfl h5 hr ?_
   exact ⟨_, rfl, Grew.refl _, rfl⟩
 · intro a w ht hs hg
   have h29 : a.tmps.getD 29 undef = _ := By.given_get hg 5 rfl rfl (by kernel_rfl)
   have h30 : a.tmps.getD 30 undef = _ := By.given_get hg 6 rfl rfl (by kernel_rfl)
   have h31 : a.tmps.getD 31 undef = _ := By.given_get hg 7 rfl rfl (by kernel_rfl)
   have hg26 := By.given_get hg 2 rfl rfl (by kernel_rfl)
   refine By.yes (By.want_yes rfl rfl hg26) ?_
   clear hg26
   clear hs hg
   have HTw := Lib.hid (HT6.out.below (grew_below ht) HT6.out.1)
   clear ht
   unfold arr8 at h29
   unfold Pk.val at h30 h31
   go_simp
   refine (RAnswerMark_any key p q Hkl.out Ho.out Hq.out Hel.out w HTw.out).mono ?_
   rintro x w8 ⟨rfl, hb8⟩
   exact ⟨_, rfl, hb8, congrArg arr8 HM.out⟩
 · intro a w ht hs hg
   have h28 : a.tmps.getD 28 undef = _ := By.given_get hg 4 rfl rfl (by kernel_rfl)
   have h32 : a.tmps.getD 32 undef = _ := By.given_get hg 8 rfl rfl (by kernel_rfl)
   have hg26 := By.given_get hg 2 rfl rfl (by kernel_rfl)
   refine By.yes (By.want_yes rfl rfl hg26) ?_
   clear hg26
   clear hs hg
   refine wp_neqArr _ _ rfl (by kernel_rfl) h28 h32 (e16 q.mrk M Hq.out.m HMl.out w) ?_
   exact ⟨_, rfl, Grew.refl _, rfl⟩
 · intro a w ht hs hg
   have h26 : a.tmps.getD 26 undef = _ := By.given_get hg 2 rfl rfl (by kernel_rfl)
   have h33 : a.tmps.getD 33 undef = _ := By.given_get hg 9 rfl rfl (by kernel_rfl)
   refine By.yes rfl ?_
   clear hs hg
   clear ht
   go_simp
   exact ⟨_, rfl, Grew.refl _, rfl⟩
 refine By.ends_is (By.ends_is (By.ends_is (By.ends_is (By.ends_is (By.ends_is (By.ends_is (By.ends_is (By.ends_is (By.ends_is (By.ends_is (By.ends_nil fun w9 hw9 => ?_)))))))))))
 simp only [Act.put, List.setIfInBounds_toArray, List.set_cons_succ, List.set_cons_zero]
 have hb := grew_below hw9
 have HB9 := Lib.hid (nextB HB6.out (Nat.le_refl _) hb)
 have HK9 := Lib.hid (HK6.out.below hb HK6.out.lt)
 have HP9 := Lib.hid (HP6.out.below hb HP6.out.lt)
 have HQ9 := Lib.hid (HQ6.out.below hb HQ6.out.lt)
 have HZ9 := Lib.hid (HZ6.out.below hb HZ6.out.lt)
 have HT9 := Lib.hid (HT6.out.below hb HT6.out.1)
 clear hb hw9
 by_cases hd : q.mrk = M
 case neg =>
  have Hd := Lib.hid hd
  rw [decide_eq_false hd]
  clear hd
  go_wp2_with (first
   | (show wpList _ _ _ (⟨some 37, _, _, _, _, _⟩ :: _) _ _; refine Pkt.wpList_build rfl _ _ rfl (v := .agg z32.toArray) (by kernel_rfl) ?_)
   | (show wpList _ _ _ (⟨none, Op.store 24 _ _, _, _, _, _⟩ :: _) _ _
      refine wpList_storeRow (g := (w.heap.size + 1 + 1 + 1)) rfl 24 _ _ rfl rfl rfl (cs := z32) HZ9.out (by kernel_rfl) rfl rfl z32_one ?_)
   | fail)
  refine bodyPost_ret (results_ct rfl rfl (HZ9.out.setRow z32) Tryd.underlying24 rfl (by kernel_rfl) rfl) rfl ?_
  exact ⟨by rw [← HRes.out, if_pos trivial, Hr.out, if_neg Hd.out, if_neg (by decide)]; rfl, below_setRow HB9.out (by omega) _⟩
 have Hd := Lib.hid hd
 rw [decide_eq_true hd]
 clear hd
 have HL10 := Lib.hid (l_a32 HK9.out Hkl.out)
 have HL11 := Lib.hid (l_all HP9.out Ho.out)
 have HL12 := Lib.hid (l_all HQ9.out Hq.out)
 go_wp2_with (first
  | (refine wpList_ld 24 rfl rfl HL10.out rfl ?_)
  | (refine wpList_ld 40 rfl rfl HL11.out rfl ?_)
  | (refine wpList_ld 40 rfl rfl HL12.out rfl ?_)
  | fail)
 refine (RSecret_any key p q Hkl.out Ho.out Hq.out _ HT9.out).mono ?_
 rintro e w3 ⟨rfl, hb⟩
 rw [HO.out]
 have HB13 := Lib.hid (nextB HB9.out (Nat.le_refl _) hb)
 have HK13 := Lib.hid (HK9.out.below hb HK9.out.lt)
 have HP13 := Lib.hid (HP9.out.below hb HP9.out.lt)
 have HQ13 := Lib.hid (HQ9.out.below hb HQ9.out.lt)
 have HZ13 := Lib.hid (HZ9.out.below hb HZ9.out.lt)
 have HT13 := Lib.hid (HT9.out.below hb HT9.out.1)
 clear hb
 go_wp2_with (first
  | (show wpList _ _ _ (⟨none, Op.store 24 _ _, _, _, _, _⟩ :: _) _ _
     refine wpList_storeRow (g := (w.heap.size + 1 + 1 + 1)) rfl 24 _ _ rfl rfl rfl (cs := O.map bv) HZ13.out (by kernel_rfl) HOl.out rfl (hbytes_one O) ?_)
  | fail)
 refine bodyPost_ret (results_ct rfl rfl (HZ13.out.setRow (O.map bv)) Tryd.underlying24 rfl (by kernel_rfl) HOl.out) rfl ?_
 exact ⟨by rw [← HRes.out, if_pos trivial, Hr.out, if_pos Hd.out, if_pos rfl]; rfl, below_setRow HB13.out (by omega) _⟩
end Go.Proofs.YtbdpnpabpcidkaaDoor.Shk
namespace Go.Proofs.YtbdpnpabpcidkaaDoor.Shk
open Go.RowKit
open Pkt (Pk code_name wpList_name wpList_ld l_all c_ses Head BodyOk chk RCheck_any nm z16)
set_option maxRecDepth 100000 in
set_option maxHeartbeats 2000000 in
theorem RAnswer_any (key : List UInt8) (p : Pk) (s e : Nat) (r : List UInt8) (hk : key.length = 32) (ho : p.Ok) (A : Option Addr) (n c : Nat) (hbo : p.bo = .slice A n c) (hrl : r.length = 16) (hel : e < 4294967296) (w : World) (ht : Tab w) :
 Calls Tryd.prog 39 #[arr8 key, p.val, .int .u64 (s : Int), .int .u32 (e : Int), arr8 r] w fun x w' => x = .returned (ansV key p n s e r) ∧ Below w.heap.size w w' := by
 have Hkl := Lib.hid hk
 have Ho := Lib.hid ho
 have Hbo := Lib.hid hbo
 have Hrl := Lib.hid hrl
 have Hel := Lib.hid hel
 have Ht := Lib.hid ht
 obtain ⟨C, hC⟩ : ∃ C, ckH key p n = C := ⟨_, rfl⟩
 obtain ⟨M, hM⟩ : ∃ M, mark key (answer6 ++ (answerL p (ap s e r z16)).flatten) = M := ⟨_, rfl⟩
 have HMl := Lib.hid (show M.length = 16 by rw [← hM]; exact mark_length _ _)
 have HM := Lib.hid hM
 have HX := Lib.hid (show answerP key p s e r = ap s e r M by rw [answerP, hM])
 obtain ⟨O, hO⟩ : ∃ O, secL key p (ap s e r M) = O := ⟨_, rfl⟩
 have HOl := Lib.hid (show (O.map bv).length = 32 by rw [List.length_map, ← hO]; exact secL_length _ _ _)
 have HO := Lib.hid hO
 have HC := Lib.hid hC
 obtain ⟨R, hR⟩ : ∃ R, ansV key p n s e r = R := ⟨_, rfl⟩
 rw [hR]
 rw [ansV, hC, HX.out, HO.out] at hR
 have HRes := Lib.hid hR
 have HB0 := Lib.hid (show Below w.heap.size w (((((w.alloc (.cells (key.map bv).toArray 24)).alloc (.cells p.cells.toArray 40)).alloc (.cells (r.map bv).toArray 38)).alloc (.cells (nm 0).cells.toArray 40)).alloc (.cells z32.toArray 24)) from (((((Below.refl _ w).alloc (Nat.le_refl _) _).alloc (by simp) _).alloc (by simp; omega) _).alloc (by simp; omega) _).alloc (by simp; omega) _)
 have HK := Lib.hid (show Row (((((w.alloc (.cells (key.map bv).toArray 24)).alloc (.cells p.cells.toArray 40)).alloc (.cells (r.map bv).toArray 38)).alloc (.cells (nm 0).cells.toArray 40)).alloc (.cells z32.toArray 24)) (w.heap.size) (key.map bv) 24 from ((((Row.new rfl rfl).alloc _).alloc _).alloc _).alloc _)
 have HP := Lib.hid (show Row (((((w.alloc (.cells (key.map bv).toArray 24)).alloc (.cells p.cells.toArray 40)).alloc (.cells (r.map bv).toArray 38)).alloc (.cells (nm 0).cells.toArray 40)).alloc (.cells z32.toArray 24)) (w.heap.size + 1) p.cells 40 from (((Row.new (by simp) rfl).alloc _).alloc _).alloc _)
 have HR := Lib.hid (show Row (((((w.alloc (.cells (key.map bv).toArray 24)).alloc (.cells p.cells.toArray 40)).alloc (.cells (r.map bv).toArray 38)).alloc (.cells (nm 0).cells.toArray 40)).alloc (.cells z32.toArray 24)) (w.heap.size + 1 + 1) (r.map bv) 38 from ((Row.new (by simp) rfl).alloc _).alloc _)
 have HN := Lib.hid (show Row (((((w.alloc (.cells (key.map bv).toArray 24)).alloc (.cells p.cells.toArray 40)).alloc (.cells (r.map bv).toArray 38)).alloc (.cells (nm 0).cells.toArray 40)).alloc (.cells z32.toArray 24)) (w.heap.size + 1 + 1 + 1) (nm 0).cells 40 from (Row.new (by simp) rfl).alloc _)
 have HZ := Lib.hid (show Row (((((w.alloc (.cells (key.map bv).toArray 24)).alloc (.cells p.cells.toArray 40)).alloc (.cells (r.map bv).toArray 38)).alloc (.cells (nm 0).cells.toArray 40)).alloc (.cells z32.toArray 24)) (w.heap.size + 1 + 1 + 1 + 1) z32 24 from Row.new (by simp) rfl)
 have hrun := l_a32 HK.out hk
 unfold arr8 at hrun
 have HRr := Lib.hid hrun
 clear hk ho hbo hrl hel ht hM hR hrun hC hO
 unfold arr8 Pk.val
 go_enter Tryd.func39, Tryd.ntmps39
 go_wp2_with (first
  | (refine wpList_ld 24 rfl rfl HRr.out rfl ?_
     refine wpList_name fun W0 hW0 => ?_
     refine sstop ?_)
  | fail)
 unfold SStop
 have HK0 := Lib.hid (show Row W0 (w.heap.size) (key.map bv) 24 from hW0 ▸ HK.out)
 have HP0 := Lib.hid (show Row W0 (w.heap.size + 1) p.cells 40 from hW0 ▸ HP.out)
 have HR0 := Lib.hid (show Row W0 (w.heap.size + 1 + 1) (r.map bv) 38 from hW0 ▸ HR.out)
 have HN0 := Lib.hid (show Row W0 (w.heap.size + 1 + 1 + 1) (nm 0).cells 40 from hW0 ▸ HN.out)
 have HZ0 := Lib.hid (show Row W0 (w.heap.size + 1 + 1 + 1 + 1) z32 24 from hW0 ▸ HZ.out)
 have HBW := Lib.hid (show Below w.heap.size w W0 from hW0 ▸ HB0.out)
 have hs0 : W0.heap.size = w.heap.size + 1 + 1 + 1 + 1 + 1 := by rw [← hW0]; simp
 have Hs0 := Lib.hid hs0
 have HLd := Lib.hid (l_all HP0.out Ho.out)
 have HT0 := Lib.hid (Ht.out.below HBW.out Ht.out.1)
 clear hW0 hs0
 go_wp2_with (first
  | (refine wpList_ld 40 rfl rfl HLd.out rfl ?_)
  | fail)
 refine (RCheckHello_any key p Hkl.out Ho.out A n c Hbo.out W0 HT0.out).mono ?_
 rintro x w1 ⟨rfl, hb1⟩
 rw [HC.out]
 have HB1 := Lib.hid (nextB HBW.out (Nat.le_refl _) hb1)
 have HK1 := Lib.hid (HK0.out.below hb1 HK0.out.lt)
 have HP1 := Lib.hid (HP0.out.below hb1 HP0.out.lt)
 have HR1 := Lib.hid (HR0.out.below hb1 HR0.out.lt)
 have HN1 := Lib.hid (HN0.out.below hb1 HN0.out.lt)
 have HZ1 := Lib.hid (HZ0.out.below hb1 HZ0.out.lt)
 have HT1 := Lib.hid (HT0.out.below hb1 HT0.out.1)
 have Hs1 := Lib.hid (show w.heap.size + 1 + 1 + 1 + 1 + 1 ≤ w1.heap.size from Hs0.out ▸ hb1.size)
 clear hb1
 have hra := l_a16 HR1.out Hrl.out
 unfold arr8 at hra
 have HRa := Lib.hid hra
 clear hra
 go_wp2_with (first
  | (refine wpList_ld 38 rfl rfl HRa.out rfl ?_
     refine wpList_build rfl _ _ rfl (v := (ap s e r z16).val) (Eq.trans (congrArg (fun q => (Instr.build 40 q).run Tryd.prog w1) (by kernel_rfl)) (build_ap s e w1 r Hrl.out)) ?_)
  | (show wpList _ _ _ (⟨none, Op.store 40 _ _, _, _, _, _⟩ :: _) _ _
     refine wpList_storeRow (g := w1.heap.size) rfl 40 _ _ rfl rfl rfl (cs := (ap s e r z16).cells) (Row.new rfl rfl : Row (w1.alloc (.cells (nm 0).cells.toArray 40)) w1.heap.size (nm 0).cells 40) (by kernel_rfl) (Pk.length (ap_ok Hrl.out rfl)) (Pk.length nm_ok) (Pk.one (ap_ok Hrl.out rfl)) ?_
     refine wpList_name fun V hV => ?_
     refine sstop ?_)
  | fail)
 unfold SStop
 obtain ⟨ga, hga⟩ : ∃ g, w1.heap.size = g := ⟨_, rfl⟩
 have hge : w.heap.size + 1 + 1 + 1 + 1 + 1 ≤ ga := hga ▸ Hs1.out
 rw [hga] at hV ⊢
 have HKV := Lib.hid (show Row V (w.heap.size) (key.map bv) 24 by rw [← hV]; exact (HK1.out.alloc _).setOther _ _ (by omega))
 have HPV := Lib.hid (show Row V (w.heap.size + 1) p.cells 40 by rw [← hV]; exact (HP1.out.alloc _).setOther _ _ (by omega))
 have HNV := Lib.hid (show Row V (w.heap.size + 1 + 1 + 1) (nm 0).cells 40 by rw [← hV]; exact (HN1.out.alloc _).setOther _ _ (by omega))
 have HZV := Lib.hid (show Row V (w.heap.size + 1 + 1 + 1 + 1) z32 24 by rw [← hV]; exact (HZ1.out.alloc _).setOther _ _ (by omega))
 have HAV := Lib.hid (show Row V ga (ap s e r z16).cells 40 by rw [← hV, ← hga]; exact (Row.new rfl rfl : Row (w1.alloc (.cells (nm 0).cells.toArray 40)) w1.heap.size (nm 0).cells 40).setRow _)
 have HBV := Lib.hid (show Below w.heap.size w V by rw [← hV]; exact below_setRow (HB1.out.alloc (by omega) _) (by omega) _)
 have HTV := Lib.hid (Ht.out.below HBV.out Ht.out.1)
 have HLa := Lib.hid (l_all HAV.out (ap_ok Hrl.out rfl))
 have Hge := Lib.hid hge
 clear hV hga hge
 by_cases hc : C = 0
 · subst hc
   go_wp2_with (first
    | (refine wpList_ld 40 rfl rfl HLa.out rfl ?_)
    | fail)
   refine (RCheck_any (ap s e r z16) (ap_ok Hrl.out rfl) none 0 0 rfl _).mono ?_
   rintro x w2 ⟨rfl, hb2⟩
   rw [chk_ap]
   have HB2 := Lib.hid (nextB HBV.out (Nat.le_refl _) hb2)
   have HK2 := Lib.hid (HKV.out.below hb2 HKV.out.lt)
   have HP2 := Lib.hid (HPV.out.below hb2 HPV.out.lt)
   have HA2 := Lib.hid (HAV.out.below hb2 HAV.out.lt)
   have HN2 := Lib.hid (HNV.out.below hb2 HNV.out.lt)
   have HZ2 := Lib.hid (HZV.out.below hb2 HZV.out.lt)
   have HT2 := Lib.hid (HTV.out.below hb2 HTV.out.1)
   clear hb2
   by_cases ha : ansOk s e
   · rw [if_pos ha]
     have Ha := Lib.hid ha
     clear ha
     have HLk := Lib.hid (l_a32 HK2.out Hkl.out)
     have HLp := Lib.hid (l_all HP2.out Ho.out)
     have HLq := Lib.hid (l_all HA2.out (ap_ok Hrl.out rfl))
     go_wp2_with (first
      | (refine wpList_ld 24 rfl rfl HLk.out rfl ?_)
      | (refine wpList_ld 40 rfl rfl HLp.out rfl ?_)
      | (refine wpList_ld 40 rfl rfl HLq.out rfl ?_)
      | fail)
     refine (RAnswerMark_any key p (ap s e r z16) Hkl.out Ho.out (ap_ok Hrl.out rfl) Hel.out w2 HT2.out).mono ?_
     rintro x w3 ⟨rfl, hbw⟩
     rw [HM.out]
     have HB3 := Lib.hid (nextB HB2.out (Nat.le_refl _) hbw)
     have HK3 := Lib.hid (HK2.out.below hbw HK2.out.lt)
     have HP3 := Lib.hid (HP2.out.below hbw HP2.out.lt)
     have HA3 := Lib.hid (HA2.out.below hbw HA2.out.lt)
     have HN3 := Lib.hid (HN2.out.below hbw HN2.out.lt)
     have HZ3 := Lib.hid (HZ2.out.below hbw HZ2.out.lt)
     have HSp := Lib.hid (Pkt.sp_mrk (ap s e r z16) (ap_ok Hrl.out rfl) M HMl.out)
     have HMm := Lib.hid (show (M.map bv).length = 16 by rw [List.length_map]; exact HMl.out)
     have HFi := Lib.hid (show 21 + (M.map bv).length ≤ (ap s e r z16).cells.length by rw [HMm.out, Pk.length (ap_ok Hrl.out rfl)]; omega)
     clear hbw
     go_wp2_with (first
      | (show wpList _ _ _ (⟨none, Op.store 38 _ _, _, _, _, _⟩ :: _) _ _
         refine Pol.wpList_storeSub (n := 16) rfl 38 (.tmp 35) (.tmp 34) rfl rfl rfl (cs := M.map bv) HA3.out (by kernel_rfl) HMm.out HFi.out (hbytes_one M) ?_
         rw [HSp.out]
         refine wpList_name fun V2 hV2 => ?_
         refine sstop ?_)
      | fail)
     unfold SStop
     obtain ⟨W4, hV⟩ : ∃ V, V2 = V := ⟨_, rfl⟩
     rw [hV] at hV2 ⊢
     clear hV
     have hV := hV2
     clear hV2
     have hge := Hge.out
     have HK4 := Lib.hid (show Row W4 (w.heap.size) (key.map bv) 24 by rw [← hV]; exact HK3.out.setOther _ _ (by omega))
     have HP4 := Lib.hid (show Row W4 (w.heap.size + 1) p.cells 40 by rw [← hV]; exact HP3.out.setOther _ _ (by omega))
     have HN4 := Lib.hid (show Row W4 (w.heap.size + 1 + 1 + 1) (nm 0).cells 40 by rw [← hV]; exact HN3.out.setOther _ _ (by omega))
     have HZ4 := Lib.hid (show Row W4 (w.heap.size + 1 + 1 + 1 + 1) z32 24 by rw [← hV]; exact HZ3.out.setOther _ _ (by omega))
     have HA4 := Lib.hid (show Row W4 ga (ap s e r M).cells 40 by rw [← hV]; exact HA3.out.setRow _)
     have HB4 := Lib.hid (show Below w.heap.size w W4 by rw [← hV]; exact below_setRow HB3.out (by omega) _)
     have HT4 := Lib.hid (Ht.out.below HB4.out Ht.out.1)
     clear hV hge
     go_wp2_with fail
     refine Tail.marksAt Pol.mixed 5 Grew [By.is (ap s e r M).val,
      By.is (arr8 key),
      By.is p.val,
      By.is (ap s e r M).val,
      By.is (arr8 O)]
      (Ev.masks _ []) (Nat.zero_lt_succ _) (by kernel_rfl) (by kernel_rfl) rfl Grew.refl Grew.trans ⟨?_, ?_, ?_, ?_, ?_, trivial⟩ ?_
     · intro a w ht hs hg
       have h14 := By.same_get hs 14 (by decide) (by kernel_rfl)
       refine By.yes rfl ?_
       clear hs hg
       have hr := l_all (Row.below (w := W4.drew) HA4.out ht HA4.out.lt) (ap_ok Hrl.out HMl.out)
       refine wp_ld 40 _ rfl h14 hr ?_
       exact ⟨_, rfl, Grew.refl _, rfl⟩
     · intro a w ht hs hg
       have h5 := By.same_get hs 5 (by decide) (by kernel_rfl)
       refine By.yes rfl ?_
       clear hs hg
       have hr := l_a32 (Row.below (w := W4.drew) HK4.out ht HK4.out.lt) Hkl.out
       refine wp_ld 24 _ rfl h5 hr ?_
       exact ⟨_, rfl, Grew.refl _, rfl⟩
     · intro a w ht hs hg
       have h6 := By.same_get hs 6 (by decide) (by kernel_rfl)
       refine By.yes rfl ?_
       clear hs hg
       have hr := l_all (Row.below (w := W4.drew) HP4.out ht HP4.out.lt) Ho.out
       refine wp_ld 40 _ rfl h6 hr ?_
       exact ⟨_, rfl, Grew.refl _, rfl⟩
     · intro a w ht hs hg
       have h14 := By.same_get hs 14 (by decide) (by kernel_rfl)
       refine By.yes rfl ?_
       clear hs hg
       have hr := l_all (Row.below (w := W4.drew) HA4.out ht HA4.out.lt) (ap_ok Hrl.out HMl.out)
       refine wp_ld 40 _ rfl h14 hr ?_
       exact ⟨_, rfl, Grew.refl _, rfl⟩
     · intro a w ht hs hg
       have h37 : a.tmps.getD 37 undef = _ := By.given_get hg 1 rfl rfl (by kernel_rfl)
       have h38 : a.tmps.getD 38 undef = _ := By.given_get hg 2 rfl rfl (by kernel_rfl)
       have h39 : a.tmps.getD 39 undef = _ := By.given_get hg 3 rfl rfl (by kernel_rfl)
       refine By.yes rfl ?_
       clear hs hg
       have HTw := Lib.hid (HT4.out.below (grew_below ht) HT4.out.1)
       clear ht
       unfold arr8 at h37
       unfold Pk.val at h38 h39
       go_simp
       refine (RSecret_any key p (ap s e r M) Hkl.out Ho.out (ap_ok Hrl.out HMl.out) w HTw.out).mono ?_
       rintro x w8 ⟨rfl, hb8⟩
       exact ⟨_, rfl, hb8, congrArg arr8 HO.out⟩
     refine By.ends_is (By.ends_is (By.ends_is (By.ends_is (By.ends_is (By.ends_nil fun w5 hw5 => ?_)))))
     simp only [Act.put, List.setIfInBounds_toArray, List.set_cons_succ, List.set_cons_zero]
     simp only [List.drop_succ_cons, List.drop_zero]
     have hbw := grew_below hw5
     have HB5 := Lib.hid (nextB HB4.out (Nat.le_refl _) hbw)
     have HN5 := Lib.hid (HN4.out.below hbw HN4.out.lt)
     have HZ5 := Lib.hid (HZ4.out.below hbw HZ4.out.lt)
     clear hw5 hbw
     refine wpList_storeRow (g := w.heap.size + 1 + 1 + 1) rfl 40 (.tmp 10) (.tmp 36) rfl rfl rfl (cs := (ap s e r M).cells) HN5.out (by kernel_rfl) (Pk.length (ap_ok Hrl.out HMl.out)) (Pk.length nm_ok) (Pk.one (ap_ok Hrl.out HMl.out)) ?_
     refine wpList_storeRow (g := w.heap.size + 1 + 1 + 1 + 1) rfl 24 (.tmp 11) (.tmp 40) rfl rfl rfl (cs := O.map bv) (HZ5.out.setOther _ _ (by omega)) (by kernel_rfl) HOl.out rfl (hbytes_one O) ?_
     go_wp2_with fail
     have hrP := (HN5.out.setRow (ap s e r M).cells).setOther (w.heap.size + 1 + 1 + 1 + 1) (O.map bv).toArray (by omega)
     have hrA := (HZ5.out.setOther (w.heap.size + 1 + 1 + 1) (ap s e r M).cells.toArray (by omega)).setRow (O.map bv)
     refine bodyPost_ret (results_cct rfl rfl hrP Tryd.underlying40 rfl (by kernel_rfl) (Pk.length (ap_ok Hrl.out HMl.out)) rfl hrA Tryd.underlying24 rfl (by kernel_rfl) HOl.out) rfl ?_
     exact ⟨by rw [← HRes.out, if_pos trivial, if_pos Ha.out]; rfl, below_setRow (below_setRow HB5.out (by omega) _) (by omega) _⟩
   · rw [if_neg ha]
     have Ha := Lib.hid ha
     clear ha
     go_wp2_with (first
      | (show wpList _ _ _ (⟨some 28, _, _, _, _, _⟩ :: _) _ _; refine wpList_build rfl _ _ rfl (v := (nm 0).val) (by kernel_rfl) ?_)
      | (show wpList _ _ _ (⟨some 29, _, _, _, _, _⟩ :: _) _ _; refine wpList_build rfl _ _ rfl (v := .agg z32.toArray) (by kernel_rfl) ?_)
      | (show wpList _ _ _ (⟨none, Op.store 40 _ _, _, _, _, _⟩ :: _) _ _
         refine wpList_storeRow (g := w.heap.size + 1 + 1 + 1) rfl 40 _ _ rfl rfl rfl (cs := (nm 0).cells) HN2.out (by kernel_rfl) (Pk.length nm_ok) (Pk.length nm_ok) (Pk.one nm_ok) ?_)
      | (show wpList _ _ _ (⟨none, Op.store 24 _ _, _, _, _, _⟩ :: _) _ _
         refine wpList_storeRow (g := w.heap.size + 1 + 1 + 1 + 1) rfl 24 _ _ rfl rfl rfl (cs := z32) (HZ2.out.setOther _ _ (by omega)) (by kernel_rfl) rfl rfl z32_one ?_)
      | fail)
     have hrP := (HN2.out.setRow (nm 0).cells).setOther (w.heap.size + 1 + 1 + 1 + 1) z32.toArray (by omega)
     have hrA := (HZ2.out.setOther (w.heap.size + 1 + 1 + 1) (nm 0).cells.toArray (by omega)).setRow z32
     refine bodyPost_ret (results_cct rfl rfl hrP Tryd.underlying40 rfl (by kernel_rfl) (Pk.length nm_ok) rfl hrA Tryd.underlying24 rfl (by kernel_rfl) rfl) rfl ?_
     exact ⟨by rw [← HRes.out, if_pos trivial, if_neg Ha.out]; rfl, below_setRow (below_setRow HB2.out (by omega) _) (by omega) _⟩
 · have hcc : (C != 0) = true := by simp [hc]
   have hce : (C == 0) = false := by simp [hc]
   have Hc := Lib.hid hc
   clear hc
   go_wp2_with (first
    | (show wpList _ _ _ (⟨some 28, _, _, _, _, _⟩ :: _) _ _; refine wpList_build rfl _ _ rfl (v := (nm 0).val) (by kernel_rfl) ?_)
    | (show wpList _ _ _ (⟨some 29, _, _, _, _, _⟩ :: _) _ _; refine wpList_build rfl _ _ rfl (v := .agg z32.toArray) (by kernel_rfl) ?_)
    | (show wpList _ _ _ (⟨none, Op.store 40 _ _, _, _, _, _⟩ :: _) _ _
       refine wpList_storeRow (g := w.heap.size + 1 + 1 + 1) rfl 40 _ _ rfl rfl rfl (cs := (nm 0).cells) HNV.out (by kernel_rfl) (Pk.length nm_ok) (Pk.length nm_ok) (Pk.one nm_ok) ?_)
    | (show wpList _ _ _ (⟨none, Op.store 24 _ _, _, _, _, _⟩ :: _) _ _
       refine wpList_storeRow (g := w.heap.size + 1 + 1 + 1 + 1) rfl 24 _ _ rfl rfl rfl (cs := z32) (HZV.out.setOther _ _ (by omega)) (by kernel_rfl) rfl rfl z32_one ?_)
    | fail)
   have hrP := (HNV.out.setRow (nm 0).cells).setOther (w.heap.size + 1 + 1 + 1 + 1) z32.toArray (by omega)
   have hrA := (HZV.out.setOther (w.heap.size + 1 + 1 + 1) (nm 0).cells.toArray (by omega)).setRow z32
   refine bodyPost_ret (results_cct rfl rfl hrP Tryd.underlying40 rfl (by kernel_rfl) (Pk.length nm_ok) rfl hrA Tryd.underlying24 rfl (by kernel_rfl) rfl) rfl ?_
   exact ⟨by rw [← HRes.out, if_neg Hc.out]; rfl, below_setRow (below_setRow HBV.out (by omega) _) (by omega) _⟩
end Go.Proofs.YtbdpnpabpcidkaaDoor.Shk
