/- A key and the same followed by zero bytes have the same HMAC; that of a longer key is that of its sum: 'drawbridgelaw05.HkdfKeys'. -/
import Derived.Test.YtlebcdojlnopcaaDoorHkLives
import Derived.Test.YtlebcdojlnopcaaDoorHkKey
import Derived.Test.YtlebcdojlnopcaaDoorHkKeysPure
import Derived.Test.YtlebcdojlnopcaaDoorHkZeros
import Derived.Test.YtlebcdojlnopcaaDoorEqArr
import Derived.Test.YtlebcdojlnopcaaDoorKit
import Derived.Test.YtlebcdojlnopcaaDoorHkLaw
namespace Go.Proofs.YtlebcdojlnopcaaDoor.hkdfKeys
open Go.ChangeShapes Go.WideShapes Go.ChangeAt Go.RowKit
theorem Mac_one (u : Value) (K b : List UInt8) (A2 : Option Addr) (c2 : Nat) (O : List UInt8) (W : World) (ht : Tab W) (hk : Bs W W.heap.size u K) (hkl : K.length ≤ 1000000000) (hO : Sha.mac K b = O) (hb : Bs W W.heap.size (.slice A2 b.length c2) b) (hbl : b.length ≤ 1000000000) :
    Calls Tryd.prog 17 #[u, .slice (some ⟨W.heap.size, 0, none⟩) 1 1] (W.alloc (.cells #[.slice A2 b.length c2] 22)) fun e w' => e = .returned (arr8 O) ∧ Below W.heap.size W w' := by
  have hb1 := (Below.refl W.heap.size W).alloc (Nat.le_refl _) (.cells #[.slice A2 b.length c2] 22)
  have hss := bss_new (n := 1) (ls := [b]) (vs := [.slice A2 b.length c2]) (w := W) rfl rfl (.one hb)
  refine (Mac_any _ _ K [b] _ (ht.below hb1 ht.1) ((hk.below hb1).more hb1.size) hkl hss (by simp) (by intro l hl; simp at hl; subst hl; exact hbl) (by simp; omega)).mono ?_
  rintro e w' ⟨rfl, hb2⟩
  exact ⟨congrArg (fun x => Ending.returned (arr8 x)) (by rw [show [b].flatten = b by simp]; exact hO), nextB hb1 (Nat.le_refl _) hb2⟩
set_option maxRecDepth 8000 in
set_option maxHeartbeats 2000000 in
theorem walk (v vb : Value) (key b : List UInt8) (z : Int) (hz : -9223372036854775808 ≤ z ∧ z ≤ 9223372036854775807) (w : World) (ht : Tab w) (hk : Bs w w.heap.size v key) (hb : Bs w w.heap.size vb b) (hk63 : key.length < 9223372036854775808) (hb63 : b.length < 9223372036854775808) :
    Calls Tryd.prog 7 #[v, vb, .int .i64 z] w fun e w' => e = .returned (.bool true) ∧ Below w.heap.size w w' := by
  have Hlv := Lib.hid (lives_any w ht)
  have HT := Lib.hid ht
  have HK := Lib.hid hk
  have HB := Lib.hid hb
  obtain ⟨A1, c1, rfl, hc1, hx1⟩ := hk
  obtain ⟨A2, c2, rfl, hc2, hx2⟩ := hb
  clear ht hx1 hx2 hc1 hc2
  by_cases hk4 : 400 < key.length
  · have hk4' : (400 : Int) < (key.length : Int) := by omega
    go_enter Tryd.func7, Tryd.ntmps7
    go_wp2_with fail
    refine Hlv.out.mono ?_
    rintro e w1 ⟨rfl, hb1⟩
    have HB1 := Lib.hid hb1
    clear hb1
    go_wp2_with fail
    go_ret
    exact ⟨rfl, HB1.out⟩
  by_cases hb4 : 400 < b.length
  · have hk4' : ¬ (400 : Int) < (key.length : Int) := by omega
    have hb4' : (400 : Int) < (b.length : Int) := by omega
    go_enter Tryd.func7, Tryd.ntmps7
    go_wp2_with fail
    refine Hlv.out.mono ?_
    rintro e w1 ⟨rfl, hb1⟩
    have HB1 := Lib.hid hb1
    clear hb1
    go_wp2_with fail
    go_ret
    exact ⟨rfl, HB1.out⟩
  have hk4' : ¬ (400 : Int) < (key.length : Int) := by omega
  have hb4' : ¬ (400 : Int) < (b.length : Int) := by omega
  have HbL := Lib.hid (show b.length ≤ 1000000000 by omega)
  have HkL := Lib.hid (show key.length ≤ 1000000000 by omega)
  have HbM := Lib.hid (show ∀ l ∈ [b], l.length ≤ 1000000000 by intro l hl; simp at hl; subst hl; omega)
  have HbF := Lib.hid (show [b].flatten.length ≤ 100000000000 by simp; omega)
  obtain ⟨O, hO⟩ : ∃ O, Sha.mac key b = O := ⟨_, rfl⟩
  have HOl := Lib.hid (show O.length = 32 by rw [← hO]; exact Sha.sum_length _)
  have HO := Lib.hid hO
  have Hk4 := Lib.hid hk4
  clear hO hk4 hb4
  by_cases h64 : 64 < key.length
  · have h64' : (64 : Int) < (key.length : Int) := by omega
    obtain ⟨S, hS⟩ : ∃ S, Sha.sum key = S := ⟨_, rfl⟩
    have HSl := Lib.hid (show S.length = 32 by rw [← hS]; exact Sha.sum_length _)
    have HSm := Lib.hid (show (S.map bv).length = 32 by rw [List.length_map]; exact HSl.out)
    have HSL := Lib.hid (show S.length ≤ 1000000000 by rw [HSl.out]; omega)
    have HSO := Lib.hid (show Sha.mac S b = O by rw [← hS, Sha.mac_sum key b h64]; exact HO.out)
    have HS := Lib.hid hS
    clear hS h64
    go_enter Tryd.func7, Tryd.ntmps7
    go_wp2_with fail
    refine Hlv.out.mono ?_
    rintro e w1 ⟨rfl, hb1⟩
    have HB1 := Lib.hid hb1
    have hk1 := (HK.out.below hb1).more hb1.size
    have hss1 := bss_new (n := 1) (ls := [key]) (vs := [.slice A1 key.length c1]) (w := w1) rfl rfl (.one hk1)
    have hb2 := (Below.refl w1.heap.size w1).alloc (Nat.le_refl _) (.cells #[.slice A1 key.length c1] 22)
    have hbb2 := nextB hb1 (Nat.le_refl _) hb2
    have hsum := Sum_any _ [key] _ (HT.out.below hbb2 HT.out.1) hss1 (by simp) (by intro l hl; simp at hl; subst hl; exact HkL.out) (by simp; have := HkL.out; omega)
    rw [show [key].flatten = key by simp, HS.out] at hsum
    have Hsum := Lib.hid hsum
    have HBB2 := Lib.hid hbb2
    clear hb1 hk1 hss1 hb2 hbb2 hsum
    go_wp2_with fail
    refine Hsum.out.mono ?_
    rintro e w5 ⟨rfl, hb5⟩
    have HB5 := Lib.hid (nextB HBB2.out (Nat.le_refl _) hb5)
    clear hb5
    unfold arr8
    go_wp2_with (first
      | (show wpList _ _ _ (⟨none, Op.store 26 _ _, _, _, _, _⟩ :: _) _ _; refine wpList_storeRow (g := w5.heap.size) rfl 26 _ _ rfl rfl rfl (cs := S.map bv) (old := (List.replicate 32 (0 : UInt8)).map bv) (Row.new rfl rfl) (by kernel_rfl) HSm.out (by simp) (bytes_one S) ?_
         have hr3 : Row ((w5.alloc (.cells ((List.replicate 32 (0 : UInt8)).map bv).toArray 26)).setRow w5.heap.size (S.map bv).toArray) w5.heap.size (S.map bv) 26 := (Row.new (cs := (List.replicate 32 (0 : UInt8)).map bv) rfl rfl).setRow (S.map bv)
         have hb3 : Below w5.heap.size w5 ((w5.alloc (.cells ((List.replicate 32 (0 : UInt8)).map bv).toArray 26)).setRow w5.heap.size (S.map bv).toArray) := below_setRow ((Below.refl w5.heap.size w5).alloc (Nat.le_refl _) _) (Nat.le_refl _) _
         obtain ⟨V, hV⟩ : ∃ V, (w5.alloc (.cells ((List.replicate 32 (0 : UInt8)).map bv).toArray 26)).setRow w5.heap.size (S.map bv).toArray = V := ⟨_, rfl⟩
         refine wpList_in hV ?_
         rw [hV] at hr3 hb3
         have HBV9 := Lib.hid (nextB HB5.out (Nat.le_refl _) hb3)
         have HSV := Lib.hid (show Bs V V.heap.size (.slice (some ⟨w5.heap.size, 0, none⟩) 32 32) S by
           have h1 := hr3.bs (B := V.heap.size) hr3.lt
           rwa [HSl.out] at h1)
         have HKV := Lib.hid ((HK.out.below HBV9.out).more HBV9.out.size)
         have HBV := Lib.hid ((HB.out.below HBV9.out).more HBV9.out.size)
         have HTV := Lib.hid (HT.out.below HBV9.out HT.out.1)
         clear hr3 hb3 hV)
      | fail)
    refine By.marks Pol.mixed Grew [By.is (.slice A1 key.length c1),
      By.is (.slice A2 b.length c2),
      rdL [b] 1,
      By.is (arr8 O),
      By.is (.slice (some ⟨w5.heap.size, 0, none⟩) 32 32),
      By.is (.slice A2 b.length c2),
      rdL [b] 1,
      By.is (arr8 O),
      By.is (.bool true),
      By.is (.bool true)]
      (Ev.masks _ []) (by kernel_rfl) rfl Grew.refl Grew.trans ⟨?_, ?_, ?_, ?_, ?_, ?_, ?_, ?_, ?_, ?_, trivial⟩ ?_
    · intro a w ht hs hg
      have h0 := By.same_get hs 0 (by decide) (by kernel_rfl)
      refine By.yes rfl ?_
      clear hs hg
      go_simp
      exact ⟨_, rfl, Grew.refl _, rfl⟩
    · intro a w ht hs hg
      have h1 := By.same_get hs 1 (by decide) (by kernel_rfl)
      refine By.yes rfl ?_
      clear hs hg
      go_simp
      exact ⟨_, rfl, Grew.refl _, rfl⟩
    · intro a w ht hs hg
      have h26 : a.tmps.getD 26 undef = _ := By.given_get hg 1 rfl rfl (by kernel_rfl)
      refine By.yes rfl ?_
      clear hs hg
      have hb' := Lib.hid (grew_bs HBV.out ht)
      clear ht
      rw [Array.getD_eq_getD_getElem?] at h26
      go_simp
      exact ⟨_, rfl, (Below.refl _ w).alloc (Nat.le_refl _) _, w.heap.size, rfl, bss_new (n := 1) (ls := [b]) (vs := [.slice A2 b.length c2]) (w := w) rfl rfl (.one hb'.out)⟩
    · intro a w ht hs hg
      have h25 : a.tmps.getD 25 undef = _ := By.given_get hg 0 rfl rfl (by kernel_rfl)
      have h27 := By.given_get hg 2 rfl rfl (by kernel_rfl)
      refine By.yes rfl ?_
      clear hs hg
      obtain ⟨vL, hvL⟩ : ∃ v, a.tmps.getD 27 undef = v := ⟨_, rfl⟩
      replace h27 := (congrArg (fun v => (rdL [b] 1).on v w) hvL).mp h27
      have htab := Lib.hid (HTV.out.below (show Below V.heap.size V w from ⟨ht.os, ht.tape, ht.output, ht.size, ht.block⟩) HTV.out.1)
      have hkw := Lib.hid (grew_bs HKV.out ht)
      clear ht
      obtain ⟨g8, rfl, hs8⟩ := h27
      have Hs8 := Lib.hid hs8
      clear hs8
      go_simp
      refine (Mac_any _ _ key [b] w htab.out hkw.out HkL.out Hs8.out (by simp) HbM.out HbF.out).mono ?_
      rintro e w8 ⟨rfl, hb8⟩
      exact ⟨_, rfl, hb8, congrArg arr8 (by rw [show [b].flatten = b by simp]; exact HO.out)⟩
    · intro a w ht hs hg
      have h7 := By.same_get hs 7 (by decide) (by kernel_rfl)
      refine By.yes rfl ?_
      clear hs hg
      go_simp
      exact ⟨_, rfl, Grew.refl _, rfl⟩
    · intro a w ht hs hg
      have h1 := By.same_get hs 1 (by decide) (by kernel_rfl)
      refine By.yes rfl ?_
      clear hs hg
      go_simp
      exact ⟨_, rfl, Grew.refl _, rfl⟩
    · intro a w ht hs hg
      have h30 : a.tmps.getD 30 undef = _ := By.given_get hg 5 rfl rfl (by kernel_rfl)
      refine By.yes rfl ?_
      clear hs hg
      have hb' := Lib.hid (grew_bs HBV.out ht)
      clear ht
      rw [Array.getD_eq_getD_getElem?] at h30
      go_simp
      exact ⟨_, rfl, (Below.refl _ w).alloc (Nat.le_refl _) _, w.heap.size, rfl, bss_new (n := 1) (ls := [b]) (vs := [.slice A2 b.length c2]) (w := w) rfl rfl (.one hb'.out)⟩
    · intro a w ht hs hg
      have h29 : a.tmps.getD 29 undef = _ := By.given_get hg 4 rfl rfl (by kernel_rfl)
      have h31 := By.given_get hg 6 rfl rfl (by kernel_rfl)
      refine By.yes rfl ?_
      clear hs hg
      obtain ⟨vL, hvL⟩ : ∃ v, a.tmps.getD 31 undef = v := ⟨_, rfl⟩
      replace h31 := (congrArg (fun v => (rdL [b] 1).on v w) hvL).mp h31
      have htab := Lib.hid (HTV.out.below (show Below V.heap.size V w from ⟨ht.os, ht.tape, ht.output, ht.size, ht.block⟩) HTV.out.1)
      have hkw := Lib.hid (grew_bs HSV.out ht)
      clear ht
      obtain ⟨g8, rfl, hs8⟩ := h31
      have Hs8 := Lib.hid hs8
      clear hs8
      go_simp
      refine (Mac_any _ _ S [b] w htab.out hkw.out HSL.out Hs8.out (by simp) HbM.out HbF.out).mono ?_
      rintro e w8 ⟨rfl, hb8⟩
      exact ⟨_, rfl, hb8, congrArg arr8 (by rw [show [b].flatten = b by simp]; exact HSO.out)⟩
    · intro a w ht hs hg
      have h28 : a.tmps.getD 28 undef = _ := By.given_get hg 3 rfl rfl (by kernel_rfl)
      have h32 : a.tmps.getD 32 undef = _ := By.given_get hg 7 rfl rfl (by kernel_rfl)
      refine By.yes rfl ?_
      clear hs hg
      refine wp_eqArr _ _ rfl (by kernel_rfl) h28 h32 (run_eql_arr8 Tryd.underlying26 Tryd.underlying5 (by kernel_rfl) O O HOl.out HOl.out w) ?_
      exact ⟨_, rfl, Grew.refl _, congrArg Value.bool (by simp)⟩
    · intro a w ht hs hg
      have h33 : a.tmps.getD 33 undef = _ := By.given_get hg 8 rfl rfl (by kernel_rfl)
      refine By.yes rfl ?_
      clear hs hg
      go_simp
      exact ⟨_, rfl, Grew.refl _, rfl⟩
    refine By.ends_is ?_
    refine By.ends_is ?_
    refine By.ends_skip fun _ => ?_
    refine By.ends_is ?_
    refine By.ends_is ?_
    refine By.ends_is ?_
    refine By.ends_skip fun _ => ?_
    refine By.ends_is ?_
    refine By.ends_is ?_
    refine By.ends_is ?_
    refine By.ends_nil fun w9 hw9 => ?_
    have HB9 := Lib.hid (nextB HBV9.out (Nat.le_refl _) (show Below V.heap.size V w9 from ⟨hw9.os, hw9.tape, hw9.output, hw9.size, hw9.block⟩))
    clear hw9
    simp only [Act.put, List.setIfInBounds_toArray, List.set_cons_succ, List.set_cons_zero]
    go_wp2
    go_ret
    exact ⟨rfl, HB9.out⟩
  · have h64' : ¬ (64 : Int) < (key.length : Int) := by omega
    have Hk64 := Lib.hid (show key.length ≤ 64 by omega)
    have hwr : IntKind.i64.wrap (65 - (key.length : Int)) = 65 - (key.length : Int) := IntWalk.i64_in _ (by omega)
    clear h64
    obtain ⟨k, hpk, hkk⟩ : ∃ k : Nat, pick z (65 - (key.length : Int)) = (k : Int) ∧ key.length + k ≤ 64 := by
      have h := pick_in z (65 - (key.length : Int)) (by have := Hk64.out; omega)
      exact ⟨(pick z (65 - (key.length : Int))).toNat, by omega, by omega⟩
    have Hpk := Lib.hid hpk
    have Hkk := Lib.hid hkk
    clear hpk hkk
    go_enter Tryd.func7, Tryd.ntmps7
    go_wp2_with fail
    refine Hlv.out.mono ?_
    rintro e w1 ⟨rfl, hb1⟩
    have HB1 := Lib.hid hb1
    clear hb1
    go_wp2_with fail
    refine (Own_any _ key w1 ((HK.out.below HB1.out).more HB1.out.size) (by have := Hk64.out; omega)).mono ?_
    rintro e w2 ⟨vo, rfl, ho, hb2⟩
    have Ho := Lib.hid ho
    have Hb2 := Lib.hid hb2
    clear ho hb2
    go_wp2_with fail
    refine (Pick_any z (65 - (key.length : Int)) w2 hz (by have := Hk64.out; omega)).mono ?_
    rintro e w3 ⟨rfl, rfl⟩
    rw [Hpk.out]
    go_wp2_with (first
      | (show wpList _ _ _ (⟨some 41, _, _, _, _, _⟩ :: _) _ _
         refine wpList_app_zeros w2 rfl (.tmp 35) (.tmp 40) rfl rfl Ho.out (k := k) rfl (by have := Hkk.out; omega) Hb2.out.size ?_
         intro v8 V ho8 hg8
         have hgb : Below w1.heap.size w2 V := (Below.refl w1.heap.size w2).grown hg8 Hb2.out.size (fun j hj => (Ho.out.block_ge hj).1)
         have HBV9 := Lib.hid (nextB HB1.out (Nat.le_refl _) (Hb2.out.trans hgb))
         obtain ⟨Q, hQ⟩ : ∃ Q, key ++ List.replicate k 0 = Q := ⟨_, rfl⟩
         rw [hQ] at ho8
         have HMV := Lib.hid ho8.bs
         have HQL := Lib.hid (show Q.length ≤ 1000000000 by rw [← hQ]; have := Hkk.out; simp; omega)
         have HQO := Lib.hid (show Sha.mac Q b = O by rw [← hQ, Sha.mac_zeros key b k Hkk.out]; exact HO.out)
         have HKV := Lib.hid ((HK.out.below HBV9.out).more HBV9.out.size)
         have HBV := Lib.hid ((HB.out.below HBV9.out).more HBV9.out.size)
         have HTV := Lib.hid (HT.out.below HBV9.out HT.out.1)
         clear ho8 hg8 hgb hQ)
      | fail)
    refine (Mac_one _ Q b A2 c2 O V HTV.out HMV.out HQL.out HQO.out HBV.out HbL.out).mono ?_
    rintro e w4 ⟨rfl, hb4⟩
    have HK4 := Lib.hid ((HKV.out.below hb4).more hb4.size)
    have HM4 := Lib.hid ((HMV.out.below hb4).more hb4.size)
    have HB4 := Lib.hid ((HBV.out.below hb4).more hb4.size)
    have HT4 := Lib.hid (HTV.out.below hb4 HTV.out.1)
    have HW4 := Lib.hid (nextB HBV9.out (Nat.le_refl _) hb4)
    clear hb4
    go_wp2_with fail
    refine (Mac_one _ key b A2 c2 O w4 HT4.out HK4.out HkL.out HO.out HB4.out HbL.out).mono ?_
    rintro e w5 ⟨rfl, hb5⟩
    have HK5 := Lib.hid ((HK4.out.below hb5).more hb5.size)
    have HM5 := Lib.hid ((HM4.out.below hb5).more hb5.size)
    have HB5 := Lib.hid ((HB4.out.below hb5).more hb5.size)
    have HT5 := Lib.hid (HT4.out.below hb5 HT4.out.1)
    have HW5 := Lib.hid (nextB HW4.out (Nat.le_refl _) hb5)
    clear hb5
    go_wp2_with (first
      | (show wpList _ _ _ (⟨some 50, _, _, _, _, _⟩ :: _) _ _; refine wpList_plain rfl fun K hK => ?_; refine wp_eqArr _ _ rfl (by kernel_rfl) rfl rfl (run_eql_arr8 Tryd.underlying26 Tryd.underlying5 (by kernel_rfl) O O HOl.out HOl.out w5) ?_; refine hK _ _ ?_; rw [show decide (O = O) = true by simp])
      | fail)
    refine (Extract_any _ _ Q b w5 HT5.out HM5.out HQL.out HB5.out HbL.out).mono ?_
    rintro e w6 ⟨rfl, hb6⟩
    rw [HQO.out]
    have HK6 := Lib.hid ((HK5.out.below hb6).more hb6.size)
    have HB6 := Lib.hid ((HB5.out.below hb6).more hb6.size)
    have HT6 := Lib.hid (HT5.out.below hb6 HT5.out.1)
    have HW6 := Lib.hid (nextB HW5.out (Nat.le_refl _) hb6)
    clear hb6
    go_wp2_with fail
    refine (Mac_one _ key b A2 c2 O w6 HT6.out HK6.out HkL.out HO.out HB6.out HbL.out).mono ?_
    rintro e w7 ⟨rfl, hb7⟩
    have HW7 := Lib.hid (nextB HW6.out (Nat.le_refl _) hb7)
    clear hb7
    have hg7 : (eqGuard BinOp.eql 26 (.tmp 54) (.tmp 58) (arr8 O) (arr8 O)).run Tryd.prog w7 = .ok () w7 := by
      have hq : Tryd.prog.eqGuardType Tryd.prog.depth 26 = false := by kernel_rfl
      unfold arr8
      simp [eqGuard, Sem.run_bind, hq]
    have hb7 : (binOp BinOp.eql 26 (arr8 O) (arr8 O)).run Tryd.prog w7 = .ok (.bool true) w7 := by
      have h := run_eql_arr8 Tryd.underlying26 Tryd.underlying5 (by kernel_rfl) O O HOl.out HOl.out w7
      rw [show decide (O = O) = true by simp] at h
      unfold arr8 at h ⊢
      simp [binOp, Sem.run_bind, h]
    go_wp2
    go_ret
    exact ⟨rfl, HW7.out⟩

set_option maxRecDepth 100000 in
theorem lift (os : Os) (started : os.Started) (H : Type) (enc : TypeId × Value → H) :
    ReturnsInHanded {} Tryd.checked os 7 .any (fun w args => (Rows.hkdfKeysSpec.pre enc Tryd.prog Tryd.f7 Rows.hkdfKeysRow.domain false w args ∧ laidMetH Tryd.prog Hk.laidL w) ∧ sizedMet enc Tryd.prog Tryd.f7 (OpenSpec.ofChange Rows.hkdfKeysSpec) false w args) (Rows.hkdfKeysSpec.post enc Tryd.prog Tryd.f7 false true false false) := by
  refine Hk.lifted 4 Pol.own started (by kernel_rfl) Tryd.func7 Pol.laid (by kernel_rfl) rfl Tryd.underlying4 rfl
    (fun ds hd => by
      have hd' : ds.length = 3 := hd
      match ds, hd' with
      | [d0, d1, d2], _ => rfl)
    (ChangeSpec.witness_at (enc := enc) (C := Tryd.checked) (os := os) (X := fun w _ => laidMetH Tryd.prog Hk.laidL w) false (Hk.laidWorld os) #[.slice none 0 0, .slice none 0 0, .int .i64 0] 8 rfl (by kernel_rfl) (by kernel_rfl) (by kernel_rfl) (by kernel_rfl) (by kernel_rfl) (Hk.laid_metH os _)) ?_
  intro W args ds ps hst htab
  have hA : DataW.TrodAll enc Tryd.prog W 0 (fun _ => true) true Tryd.f7.params.toList args.toList ds ps := hst.trod
  have hok := hst.okw
  have hlt := hst.lt
  rw [Tryd.params7] at hA hok
  obtain ⟨v0, v1, v2, d0, d1, d2, p0, p1, p2, rfl, rfl, rfl, h0, h1, h2⟩ := trodAll_three hA
  obtain ⟨_, hv0⟩ := hok 0 22 v0 rfl rfl
  obtain ⟨_, hv1⟩ := hok 1 22 v1 rfl rfl
  obtain ⟨_, hv2⟩ := hok 2 3 v2 rfl rfl
  obtain ⟨key, hk, hk63⟩ := Law.bytes_at Tryd.underlying22 hv0 h0 (fun x hx => hlt x (by simp [hx]))
  obtain ⟨b, hb, hb63⟩ := Law.bytes_at Tryd.underlying22 hv1 h1 (fun x hx => hlt x (by simp [hx]))
  obtain ⟨z, rfl, hz1, hz2⟩ := Law.int_at Tryd.underlying3 hv2 h2
  exact walk _ _ key b z ⟨hz1, hz2⟩ W htab hk hb hk63 hb63

theorem over : Rows.hkdfKeysRow.holds Tryd.pinned (OpenSpec.ofChange Rows.hkdfKeysSpec) :=
  OpenClaim.holds_of_wide 7 Tryd.f7 rfl rfl rfl rfl rfl rfl rfl ⟨rfl, rfl, rfl, rfl, rfl⟩ rfl rfl rfl rfl rfl (by kernel_rfl) Tryd.func7 (by kernel_rfl)
    (of_decide_eq_true (by kernel_rfl)) (by unfold Func.isWrapper; first | (rw [if_pos (by decide +kernel)]; kernel_rfl) | (rw [if_neg (by decide +kernel)]; exact ⟨rfl, rfl⟩))
    (fun os started H enc _ => lift os started H enc)
theorem proved : Rows.HkdfKeysCardSaid :=
  Claim7.holds_tied_plain_at .later [] [.data] true Rows.hkdfKeysCard.stood.harness false over (fun _ h => by cases h) (by kernel_rfl) (fun _ h => by cases h) hkdfKeys_row_tie rfl ⟨rfl, rfl⟩ (by kernel_rfl) rfl
    (fun f fn hf hfn => by
      obtain rfl : f = 7 := (Option.some.inj ((show Tryd.prog.funcNamed Rows.hkdfKeysRow.func = some 7 by kernel_rfl).symm.trans hf)).symm
      obtain rfl : fn = Tryd.f7 := (Option.some.inj (Tryd.func7.symm.trans hfn)).symm
      refine ⟨by kernel_rfl, fun j t ht => ?_⟩
      have hall : (Tryd.f7.params.toList.all fun t => Tryd.prog.wantsStandIn t == false) = true := by kernel_rfl
      have h := List.all_eq_true.1 hall t (Array.mem_toList_iff.2 (Array.mem_of_getElem? ht))
      exact eq_of_beq h)
    (by kernel_rfl)
#print axioms proved
end Go.Proofs.YtlebcdojlnopcaaDoor.hkdfKeys
