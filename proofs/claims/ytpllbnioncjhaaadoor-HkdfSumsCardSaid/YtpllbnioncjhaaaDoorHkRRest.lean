/- The reference's Extract, Expand, Key. -/
import Derived.Test.YtpllbnioncjhaaaDoorHkRMac
import Derived.Test.YtpllbnioncjhaaaDoorHkExpand
import Derived.Test.YtpllbnioncjhaaaDoorKit
namespace Go.Proofs.YtpllbnioncjhaaaDoor
open Go.RowKit
set_option maxRecDepth 8000 in
set_option maxHeartbeats 1000000 in
theorem RExtract_any (v sv : Value) (key sec : List UInt8) (w : World) (ht : Tab w) (hk : Bs w w.heap.size v key) (hkl : key.length ≤ 1000000) (hs : Bs w w.heap.size sv sec) (hsl : sec.length ≤ 1000000) :
    Calls Tryd.prog 18 #[v, sv] w fun e w' => e = .returned (arr8 (Sha.mac key sec)) ∧ Below w.heap.size w w' := by
  have hr0 : Row (w.alloc (.cells ((List.replicate 32 (0 : UInt8)).map bv).toArray 23)) w.heap.size ((List.replicate 32 (0 : UInt8)).map bv) 23 := Row.new rfl rfl
  have hb0 := (Below.refl w.heap.size w).alloc (Nat.le_refl _) (.cells ((List.replicate 32 (0 : UInt8)).map bv).toArray 23)
  have hk0 := (hk.alloc (Nat.le_refl _) (.cells ((List.replicate 32 (0 : UInt8)).map bv).toArray 23)).more (B' := (w.alloc (.cells ((List.replicate 32 (0 : UInt8)).map bv).toArray 23)).heap.size) (by simp)
  have hs0 := (hs.alloc (Nat.le_refl _) (.cells ((List.replicate 32 (0 : UInt8)).map bv).toArray 23)).more (B' := (w.alloc (.cells ((List.replicate 32 (0 : UInt8)).map bv).toArray 23)).heap.size) (by simp)
  obtain ⟨W, hW⟩ : ∃ W, w.alloc (.cells ((List.replicate 32 (0 : UInt8)).map bv).toArray 23) = W := ⟨_, rfl⟩
  rw [hW] at hr0 hb0 hk0 hs0
  obtain ⟨A1, c1, rfl, _, _⟩ := hk
  obtain ⟨A2, c2, rfl, _, _⟩ := hs
  have hss := bss_new (n := 1) (ls := [sec]) (vs := [.slice A2 sec.length c2]) (w := W) rfl rfl (.one hs0)
  have hb1 := (Below.refl W.heap.size W).alloc (Nat.le_refl _) (.cells #[.slice A2 sec.length c2] 22)
  have htab : Tab (W.alloc (.cells #[.slice A2 sec.length c2] 22)) := (ht.below hb0 ht.1).below hb1 (by have := ht.1; have := hb0.size; omega)
  have hk1 := (hk0.alloc (Nat.le_refl _) (.cells #[.slice A2 sec.length c2] 22)).more (B' := (W.alloc (.cells #[.slice A2 sec.length c2] 22)).heap.size) (by simp)
  have hmac := RMac_any _ _ key [sec] _ htab hk1 hkl hss (by simp) (by simp; omega)
  rw [show [sec].flatten = sec by simp] at hmac
  have hWa : (w.alloc (.cells ((List.replicate 32 (0 : UInt8)).map bv).toArray 23)).alloc (.cells #[.slice A2 sec.length c2] 22) = W.alloc (.cells #[.slice A2 sec.length c2] 22) := by rw [hW]
  have hszW : w.heap.size + 1 = W.heap.size := by rw [← hW]; simp
  rw [← hszW] at hmac
  obtain ⟨O, hO⟩ : ∃ O, Sha.mac key sec = O := ⟨_, rfl⟩
  have hOl : O.length = 32 := by rw [← hO]; exact Sha.sum_length _
  rw [hO] at hmac ⊢
  have HOm := Lib.hid (show (O.map bv).length = 32 by rw [List.length_map]; exact hOl)
  have Hmac := Lib.hid hmac
  have HWa := Lib.hid hWa
  have HR := Lib.hid (hr0.alloc (.cells #[.slice A2 sec.length c2] 22))
  have HB := Lib.hid (nextB hb0 (Nat.le_refl _) hb1)
  clear hr0 hb0 hk0 hs0 hW hss hb1 htab hk1 hmac hWa hszW hO hOl ht hkl hsl
  go_enter Tryd.func18, Tryd.ntmps18
  go_wp2_with fail
  refine calls_in HWa.out ?_
  refine Hmac.out.mono ?_
  rintro e w1 ⟨rfl, hb2⟩
  have HB2 := Lib.hid (nextB HB.out (Nat.le_refl _) hb2)
  have hr9 := Lib.hid (HR.out.below hb2 HR.out.lt)
  clear hb2
  unfold arr8
  go_wp2_with (first
    | (show wpList _ _ _ (⟨none, Op.store 23 _ _, _, _, _, _⟩ :: _) _ _; refine wpList_storeRow (g := w.heap.size) rfl 23 _ _ rfl rfl rfl (cs := O.map bv) hr9.out (by kernel_rfl) HOm.out (by simp) (bytes_one O) ?_)
    | fail)
  refine bodyPost_ret (results_row rfl _ rfl (hr9.out.setRow (O.map bv)) Tryd.underlying23 rfl (by kernel_rfl) HOm.out) rfl ?_
  exact ⟨rfl, below_setRow HB2.out (Nat.le_refl _) _⟩
set_option maxRecDepth 8000 in
set_option maxHeartbeats 1000000 in
theorem RExpand_long (key : List UInt8) (A : Option Addr) (m c : Nat) (z : Int) (h : (8160 : Int) < z) (w : World) :
    Calls Tryd.prog 12 #[arr8 key, .slice A m c, .int .i64 z] w fun e w' => e = .returned (.tuple #[.slice none 0 0, .int .i64 3]) ∧ Below w.heap.size w w' := by
  unfold arr8
  go_enter Tryd.func12, Tryd.ntmps12
  go_wp2
  go_ret2
  exact ⟨rfl, (Below.refl _ w).alloc (Nat.le_refl _) _⟩
theorem own_apart {w w' : World} {b b' : Nat} {v v' : Value} {l l' : List UInt8} (h : Own w b v l) (h' : Own w' b' v' l') (hb : w'.heap.size ≤ b) : v.ownBlock = none ∨ v.ownBlock ≠ v'.ownBlock := by
  cases h1 : v.ownBlock with
  | none => exact .inl rfl
  | some k =>
    refine .inr fun h2 => ?_
    have e1 := (h.block_ge h1).1
    have e2 := (h'.block_ge h2.symm).2
    omega
theorem bs_take {w : World} {B n : Nat} {A : Option Addr} {c : Nat} {l : List UInt8} (h : Bs w B (.slice A l.length c) l) (hn : n ≤ l.length) : Bs w B (.slice A n c) (l.take n) := by
  obtain ⟨A', c', e, hc, hcs⟩ := h
  simp only [Value.slice.injEq] at e
  obtain ⟨rfl, _, rfl⟩ := e
  refine ⟨A, c, by rw [List.length_take, Nat.min_eq_left hn], by rw [List.length_take, Nat.min_eq_left hn]; omega, fun hne => ?_⟩
  obtain ⟨b, o, rfl, hb, hx⟩ := hcs (by rintro rfl; exact hne (by simp))
  refine ⟨b, o, rfl, hb, fun i u hu => hx i u ?_⟩
  rw [List.getElem?_take] at hu
  split at hu
  · exact hu
  · cases hu
set_option maxRecDepth 8000 in
set_option maxHeartbeats 2000000 in
theorem RExpand_ok (v : Value) (key info : List UInt8) (z : Int) (n : Nat) (hz : (z ≤ 0 ∧ n = 0) ∨ z = (n : Int)) (hn : n ≤ 8160) (hk : key.length = 32) (w : World) (ht : Tab w) (hi : Bs w w.heap.size v info) (hil : info.length ≤ 100000) :
    Calls Tryd.prog 12 #[arr8 key, v, .int .i64 z] w fun e w' => ∃ r, e = .returned (.tuple #[r, .int .i64 0]) ∧ Bs w' w'.heap.size r (Hk.outL key info n) ∧ Below w.heap.size w w' := by
  obtain ⟨W0, hW0⟩ : ∃ W0, w.alloc (.cells (key.map bv).toArray 23) = W0 := ⟨_, rfl⟩
  have HR0 := Lib.hid (show Row W0 w.heap.size (key.map bv) 23 from hW0 ▸ Row.new (by simp) rfl)
  have HB0 := Lib.hid (show Below w.heap.size w W0 from hW0 ▸ (Below.refl w.heap.size w).alloc (Nat.le_refl _) (.cells (key.map bv).toArray 23))
  have HszW := Lib.hid (show W0.heap.size = w.heap.size + 1 by rw [← hW0]; simp)
  have HI := Lib.hid hi
  obtain ⟨A, c, rfl, _, hxx⟩ := hi
  clear hxx
  have hz81 : ¬ (8160 : Int) < z := by omega
  have Hmx : Hid ((if z < (0 : Int) then (0 : Int) else z) = (n : Int)) := by
    show _ = _
    by_cases h : z < 0
    · rw [if_pos h]; omega
    · rw [if_neg h]; omega
  have Hcmp : Hid (∀ m : Nat, ((m : Int) < z ↔ m < n)) := by
    show ∀ m : Nat, _
    intro m
    omega
  have Hz := Lib.hid hz
  have Hn := Lib.hid hn
  have Hkl := Lib.hid hk
  have Hil := Lib.hid hil
  have HT := Lib.hid ht
  have HW0 := Lib.hid hW0
  clear hn hk hil ht hz hW0
  unfold arr8
  go_enter Tryd.func12, Tryd.ntmps12
  go_wp2_with fail
  refine code_world HW0.out ?_
  have hgo : ∀ (k : Nat), 32 * k ≤ n + 31 → k ≤ 255 := by have := Hn.out; omega
  have Hgo := Lib.hid hgo
  clear hgo hz81
  go_loopw [8, 9, 10] (fun ov lv iv wr => ∃ i : Nat, 32 * i ≤ n + 31 ∧ iv = .int .i64 ((i + 1 : Nat) : Int) ∧ Own wr W0.heap.size ov (Hk.catN key info i) ∧ Bs wr wr.heap.size lv (Hk.tN key info i) ∧ Row wr w.heap.size (key.map bv) 23 ∧ Below w.heap.size w wr) (fun _ _ iv _ => n + 64 - 32 * (intOf iv).toNat)
  case atStart => exact ⟨0, by omega, rfl, Own.nil _ _, ⟨none, 0, rfl, Nat.le_refl _, fun h => absurd rfl h⟩, HR0.out, HB0.out⟩
  case round =>
    obtain ⟨i, hpn, rfl, ho, hlv, hrk, hb⟩ := hrel
    have Hpn := Lib.hid hpn
    have HO := Lib.hid ho
    have Hlv := Lib.hid hlv
    have Hrk := Lib.hid hrk
    have Hb := Lib.hid hb
    clear hpn ho hrk hb
    have HCl := Lib.hid (Hk.catN_length key info i)
    by_cases hlt : 32 * i < n
    · obtain ⟨A3, c3, rfl, hlc, hx3⟩ := hlv
      clear hx3 hlc
      have hi255 : i + 1 ≤ 255 := Hgo.out (i + 1) (by omega)
      have hw8 : IntKind.u8.wrap ((i : Int) + 1) = (i : Int) + 1 := IntWalk.u8_in _ (by omega)
      have hib : (i : Int) ≤ 254 := by omega
      have hcmp : ((Hk.catN key info i).length : Int) < z := (Hcmp.out _).2 (by rw [HCl.out]; exact hlt)
      obtain ⟨x, hx⟩ : ∃ x : UInt8, UInt8.ofNat (i + 1) = x := ⟨_, rfl⟩
      have hbx : Value.int .u8 ((i : Int) + 1) = bv x := by
        rw [← hx]
        unfold bv
        rw [UInt8.toNat_ofNat']
        congr 1
        omega
      obtain ⟨W1, hW1⟩ : ∃ W1, wr.alloc (.cells #[.int .u8 ((i : Int) + 1)] 5) = W1 := ⟨_, rfl⟩
      have hb1 : Below wr.heap.size wr W1 := hW1 ▸ (Below.refl _ _).alloc (Nat.le_refl _) _
      have hrx : Row W1 wr.heap.size ([x].map bv) 5 := by rw [← hW1, hbx]; exact Row.new rfl rfl
      have hbsx : Bs W1 W1.heap.size (.slice (some ⟨wr.heap.size, 0, none⟩) 1 1) [x] := hrx.bs hrx.lt
      have hl1 := (Hlv.out.below hb1).more hb1.size
      have hi1 := (HI.out.below (nextB Hb.out (Nat.le_refl _) hb1)).more (nextB Hb.out (Nat.le_refl _) hb1).size
      have hss := bss_new (n := 3) (ls := [Hk.tN key info i, info, [x]]) (vs := [.slice A3 (Hk.tN key info i).length c3, .slice A info.length c, .slice (some ⟨wr.heap.size, 0, none⟩) 1 1]) (w := W1) rfl rfl (Reads.append (.one hl1) (Reads.append (.one hi1) (.one hbsx)))
      have hb2 := (Below.refl W1.heap.size W1).alloc (Nat.le_refl _) (.cells #[.slice A3 (Hk.tN key info i).length c3, .slice A info.length c, .slice (some ⟨wr.heap.size, 0, none⟩) 1 1] 22)
      have hbr2 := nextB hb1 (Nat.le_refl _) hb2
      have hbb2 := nextB Hb.out (Nat.le_refl _) hbr2
      have hks : Bs wr wr.heap.size (.slice (some ⟨w.heap.size, 0, none⟩) 32 32) key := by
        have h1 := Hrk.out.bs (B := wr.heap.size) Hrk.out.lt
        rwa [Hkl.out] at h1
      have hmac := RMac_any _ _ key [Hk.tN key info i, info, [x]] _ (HT.out.below hbb2 HT.out.1) ((hks.below hbr2).more hbr2.size) (by rw [Hkl.out]; omega) hss (by simp) (by
        have h1 := Hk.tN_le key info i
        have h2 := Hil.out
        simp
        omega)
      obtain ⟨T, hT⟩ : ∃ T, Hk.tN key info (i + 1) = T := ⟨_, rfl⟩
      have hTl : T.length = 32 := by rw [← hT]; exact Hk.tN_length _ _ _
      rw [show Sha.mac key [Hk.tN key info i, info, [x]].flatten = T by rw [← hT, ← hx]; rfl] at hmac
      have hWa : (wr.alloc (.cells #[.int .u8 ((i : Int) + 1)] 5)).alloc (.cells #[.slice A3 (Hk.tN key info i).length c3, .slice A info.length c, .slice (some ⟨wr.heap.size, 0, none⟩) 1 1] 22) = W1.alloc (.cells #[.slice A3 (Hk.tN key info i).length c3, .slice A info.length c, .slice (some ⟨wr.heap.size, 0, none⟩) 1 1] 22) := by rw [hW1]
      have hszW : wr.heap.size + 1 = W1.heap.size := by rw [← hW1]; simp
      rw [← hszW] at hmac
      have HWa := Lib.hid hWa
      have Hmac := Lib.hid hmac
      have HT1 := Lib.hid hT
      have HTl := Lib.hid hTl
      have HTm := Lib.hid (show (T.map bv).length = 32 by rw [List.length_map]; exact hTl)
      have Hbr2 := Lib.hid hbr2
      have HCat := Lib.hid (show Hk.catN key info i ++ T = Hk.catN key info (i + 1) by rw [← hT]; rfl)
      obtain ⟨A4, c4, rfl⟩ := HO.out.shape
      clear hW1 hb1 hrx hbsx hl1 hi1 hss hb2 hbr2 hbb2 hks hmac hT hTl hWa hszW hx hbx hi255
      go_wp2_with fail
      refine calls_in HWa.out ?_
      refine Hmac.out.mono ?_
      rintro e w5 ⟨rfl, hb5⟩
      have hb55 := nextB Hbr2.out (Nat.le_refl _) hb5
      have HB5 := Lib.hid (nextB Hb.out (Nat.le_refl _) hb55)
      have HO5 := Lib.hid (HO.out.below hb55 (Nat.le_refl _))
      have Hrk5 := Lib.hid (Hrk.out.below hb55 Hrk.out.lt)
      clear hb5 hb55
      unfold arr8
      go_wp2_with (first
        | (show wpList _ _ _ (⟨none, Op.store 23 _ _, _, _, _, _⟩ :: _) _ _; refine wpList_storeRow (g := w5.heap.size) rfl 23 _ _ rfl rfl rfl (cs := T.map bv) (old := ((List.replicate 32 (0 : UInt8)).map bv)) (Row.new rfl rfl) (by kernel_rfl) HTm.out (by simp) (bytes_one T) ?_
           have hr3 : Row ((w5.alloc (.cells (((List.replicate 32 (0 : UInt8)).map bv)).toArray 23)).setRow w5.heap.size (T.map bv).toArray) w5.heap.size (T.map bv) 23 := (Row.new (cs := ((List.replicate 32 (0 : UInt8)).map bv)) rfl rfl).setRow (T.map bv)
           have hb3 : Below w5.heap.size w5 ((w5.alloc (.cells (((List.replicate 32 (0 : UInt8)).map bv)).toArray 23)).setRow w5.heap.size (T.map bv).toArray) := below_setRow ((Below.refl w5.heap.size w5).alloc (Nat.le_refl _) _) (Nat.le_refl _) _
           obtain ⟨V3, hV3⟩ : ∃ V3, (w5.alloc (.cells (((List.replicate 32 (0 : UInt8)).map bv)).toArray 23)).setRow w5.heap.size (T.map bv).toArray = V3 := ⟨_, rfl⟩
           refine wpList_in hV3 ?_
           rw [hV3] at hr3 hb3
           have Hsrc3 := Lib.hid (show Bs V3 V3.heap.size (.slice (some ⟨w5.heap.size, 0, none⟩) 32 32) T by
             have h1 := hr3.bs (B := V3.heap.size) hr3.lt
             rwa [HTl.out] at h1)
           have HB3 := Lib.hid (nextB HB5.out (Nat.le_refl _) hb3)
           have HO3 := Lib.hid (HO5.out.below hb3 (Nat.le_refl _))
           have Hrk3 := Lib.hid (Hrk5.out.below hb3 Hrk5.out.lt)
           clear hr3 hb3 hV3)
        | (show wpList _ _ _ (⟨some 30, _, _, _, _, _⟩ :: _) _ _
           refine wpList_app_bytes _ rfl _ _ rfl rfl (l := []) (own_new V3) rfl (Hsrc3.out.alloc (Nat.le_refl _) _) (by rw [HTl.out]; simp) (by simp) ?_
           intro v6 w6 ho6 hg6 _
           have hb6 : Below V3.heap.size V3 w6 := ((Below.refl _ V3).alloc (Nat.le_refl _) _).grown hg6 (by simp) (fun k hk => by have hk' : some V3.heap.size = some k := hk; injection hk' with hk'; omega)
           rw [List.nil_append] at ho6
           have Ho6 := Lib.hid ho6.bs
           have HB6 := Lib.hid (nextB HB3.out (Nat.le_refl _) hb6)
           have HO6 := Lib.hid (HO3.out.below hb6 (Nat.le_refl _))
           have Hrk6 := Lib.hid (Hrk3.out.below hb6 Hrk3.out.lt)
           obtain ⟨A6, c6, rfl⟩ := ho6.shape
           have Ho6o := Lib.hid ho6
           have HszV := Lib.hid hb6.size
           clear ho6 hg6 hb6)
        | (show wpList _ _ _ (⟨some 33, _, _, _, _, _⟩ :: _) _ _
           refine wpList_app_bytes _ rfl _ _ rfl rfl HO6.out rfl Ho6.out (by rw [HTl.out, HCl.out]; omega) (by have := HB6.out.size; have := Hrk6.out.lt; have := HszW.out; omega) ?_
           intro v7 w7 ho7 hg7 _
           have hb7 : Below W0.heap.size w6 w7 := (Below.refl _ w6).grown hg7 (by have := Hrk6.out.lt; have := HszW.out; omega) (fun k hk => (HO6.out.block_ge hk).1)
           rw [HCat.out] at ho7
           have Ho7 := Lib.hid ho7
           have HB7 := Lib.hid (HB6.out.trans (hb7.mono (by have := HszW.out; omega)))
           have Hl7 := Lib.hid (Own.kept Ho6o.out hg7 (own_apart Ho6o.out HO3.out (Nat.le_refl _))).bs
           have Hrk7 := Lib.hid (Hrk6.out.below hb7 (by have := HszW.out; omega))
           clear ho7 hg7 hb7)
        | fail)
      go_wp2_with fail
      go_roundw
      case rel => exact ⟨i + 1, by omega, by go_num, Ho7.out, by rw [HT1.out]; exact Hl7, Hrk7.out, HB7.out⟩
      case measure => simp [intOf]; omega
    · have hcmp : ¬ ((Hk.catN key info i).length : Int) < z := fun h => hlt (by have := (Hcmp.out _).1 h; rwa [HCl.out] at this)
      obtain ⟨A4, c4, rfl, hc4, _⟩ := id HO.out.bs
      have hil : n ≤ (Hk.catN key info i).length := by rw [HCl.out]; omega
      have hout : (Hk.catN key info i).take n = Hk.outL key info n := by
        have h : i = (n + 31) / 32 := by have := Hpn.out; omega
        rw [h]; rfl
      have hend := bs_take HO.out.bs hil
      rw [hout] at hend
      have Hend := Lib.hid hend
      have hnc : (n : Int) ≤ (c4 : Int) := by omega
      clear hlv hout hend hil hc4
      rcases (show ((z ≤ 0 ∧ n = 0) ∨ (z = (n : Int) ∧ 0 < n)) by have := Hz.out; omega) with ⟨h0, rfl⟩ | ⟨rfl, hpos⟩
      · rcases (show z < 0 ∨ z = 0 by omega) with h00 | rfl
        · clear h0
          go_wp2
          go_ret2
          exact ⟨_, rfl, Hend.out, Hb.out⟩
        · go_wp2
          go_ret2
          exact ⟨_, rfl, Hend.out, Hb.out⟩
      · have h0 : ¬ (n : Int) < 0 := by omega
        have h1 : (0 : Int) < (n : Int) := by omega
        have h2 : ¬ (n : Int) ≤ 0 := by omega
        go_wp2
        go_ret2
        exact ⟨_, rfl, Hend.out, Hb.out⟩
set_option maxRecDepth 8000 in
set_option maxHeartbeats 1000000 in
theorem RKey_any (v sv iv : Value) (key sec info : List UInt8) (w : World) (ht : Tab w) (hk : Bs w w.heap.size v key) (hkl : key.length ≤ 100000) (hs : Bs w w.heap.size sv sec) (hsl : sec.length ≤ 100000) (hi : Bs w w.heap.size iv info) (hil : info.length ≤ 100000) :
    Calls Tryd.prog 20 #[v, sv, iv] w fun e w' => e = .returned (arr8 (Hk.outL (Sha.mac key sec) info 32)) ∧ Below w.heap.size w w' := by
  have hr0 : Row (w.alloc (.cells ((List.replicate 32 (0 : UInt8)).map bv).toArray 23)) w.heap.size ((List.replicate 32 (0 : UInt8)).map bv) 23 := Row.new rfl rfl
  have hb0 := (Below.refl w.heap.size w).alloc (Nat.le_refl _) (.cells ((List.replicate 32 (0 : UInt8)).map bv).toArray 23)
  have hsz : (w.alloc (.cells ((List.replicate 32 (0 : UInt8)).map bv).toArray 23)).heap.size = w.heap.size + 1 := by simp
  obtain ⟨W, hW⟩ : ∃ W, w.alloc (.cells ((List.replicate 32 (0 : UInt8)).map bv).toArray 23) = W := ⟨_, rfl⟩
  rw [hW] at hr0 hb0 hsz
  have hk0 := (hk.below hb0).more hb0.size
  have hs0 := (hs.below hb0).more hb0.size
  have hi0 := (hi.below hb0).more hb0.size
  have ht0 := ht.below hb0 ht.1
  have hext := RExtract_any v sv key sec W ht0 hk0 (Nat.le_trans hkl (by omega)) hs0 (Nat.le_trans hsl (by omega))
  obtain ⟨M, hM⟩ : ∃ M, Sha.mac key sec = M := ⟨_, rfl⟩
  have hMl : M.length = 32 := by rw [← hM]; exact Sha.sum_length _
  rw [hM] at hext ⊢
  obtain ⟨O, hO⟩ : ∃ O, Hk.outL M info 32 = O := ⟨_, rfl⟩
  have hOl : O.length = 32 := by rw [← hO, ← Hk.outN_end M info 32 1 (by omega) (by omega)]; exact Hk.outN_length _ _ _ _
  have HO := Lib.hid hO
  have hOn := hOl
  have HOn := Lib.hid hOl
  have HOm := Lib.hid (show (O.map bv).length = 32 by rw [List.length_map]; exact hOl)
  rw [hO]
  have HW := Lib.hid hW
  have Hext := Lib.hid hext
  have HR := Lib.hid hr0
  have HB := Lib.hid hb0
  have HI := Lib.hid hi0
  have HT := Lib.hid ht0
  have HMl := Lib.hid hMl
  have Hil := Lib.hid hil
  clear hr0 hb0 hsz hW hk0 hs0 hi0 ht0 hext hM hMl hO hOl hil hi hs hk ht hkl hsl
  go_enter Tryd.func20, Tryd.ntmps20
  go_wp2_with fail
  refine calls_in HW.out ?_
  refine Hext.out.mono ?_
  rintro e w1 ⟨rfl, hb1⟩
  have HI1 := Lib.hid ((HI.out.below hb1).more hb1.size)
  have HT1 := Lib.hid (HT.out.below hb1 HT.out.1)
  have HR1 := Lib.hid (HR.out.below hb1 HR.out.lt)
  have HB1 := Lib.hid (nextB HB.out (Nat.le_refl _) hb1)
  clear hb1
  go_wp2_with fail
  refine (RExpand_ok iv M info 32 32 (.inr rfl) (by omega) HMl.out w1 HT1.out HI1.out Hil.out).mono ?_
  rintro e w2 ⟨r, rfl, hr2, hb2⟩
  rw [HO.out] at hr2
  have HR2 := Lib.hid hr2
  have HR3 := Lib.hid (HR1.out.below hb2 HR1.out.lt)
  have HB2 := Lib.hid (nextB HB1.out (Nat.le_refl _) hb2)
  obtain ⟨A2, c2, rfl, _, hcs2⟩ := hr2
  obtain ⟨b2, o2, rfl, hlt2, hc2⟩ := hcs2 (by rintro rfl; simp at hOn)
  have HLt2 := Lib.hid hlt2
  have Hc2 := Lib.hid hc2
  clear hcs2 hb2 hlt2 hc2 hOn
  rw [HOn.out]
  obtain ⟨W3, hW3⟩ : ∃ W3, w2.alloc (.cells (((List.replicate 32 (0 : UInt8)).map bv)).toArray 23) = W3 := ⟨_, rfl⟩
  have HN3 := Lib.hid (show Row W3 w2.heap.size ((List.replicate 32 (0 : UInt8)).map bv) 23 from hW3 ▸ Row.new rfl rfl)
  have HB3 := Lib.hid (show Below w2.heap.size w2 W3 from hW3 ▸ (Below.refl _ w2).alloc (Nat.le_refl _) _)
  have HR3' := Lib.hid (HR3.out.below HB3.out HR3.out.lt)
  have HSrc := Lib.hid (show ∀ (j : Nat) (v : Value), (O.map bv)[j]? = some v → W3.cell? ((⟨b2, o2, none⟩ : Addr).add j) = some v from fun j v hj => by
    rw [List.getElem?_map, Option.map_eq_some_iff] at hj
    obtain ⟨u, hu, rfl⟩ := hj
    rw [show (⟨b2, o2, none⟩ : Addr).add j = ⟨b2, o2 + j, none⟩ by unfold Addr.add; split <;> simp_all]
    exact (HB3.out.cell (p := ⟨b2, o2 + j, none⟩) HLt2.out).trans (Hc2.out j u hu))
  have HBw3 := Lib.hid (nextB HB2.out (Nat.le_refl _) HB3.out)
  have HLtw := Lib.hid HR3.out.lt
  have HW3 := Lib.hid hW3
  have HN3a := Lib.hid (show Row (w2.alloc (.cells (((List.replicate 32 (0 : UInt8)).map bv)).toArray 23)) w2.heap.size ((List.replicate 32 (0 : UInt8)).map bv) 23 from hW3 ▸ HN3.out)
  have HSrca := Lib.hid (show ∀ (j : Nat) (v : Value), (O.map bv)[j]? = some v → (w2.alloc (.cells (((List.replicate 32 (0 : UInt8)).map bv)).toArray 23)).cell? ((⟨b2, o2, none⟩ : Addr).add j) = some v from hW3 ▸ HSrc.out)
  have HMin := Lib.hid (show (O.map bv).length = Nat.min 32 32 by rw [HOm.out]; rfl)
  have HFit := Lib.hid (show 0 + (O.map bv).length ≤ (((List.replicate 32 (0 : UInt8)).map bv)).length by rw [HOm.out]; simp)
  have HSp := Lib.hid (show splice ((List.replicate 32 (0 : UInt8)).map bv) 0 (O.map bv) = O.map bv by unfold splice; rw [List.take_zero, List.nil_append, List.drop_of_length_le (by rw [HOm.out]; simp), List.append_nil])
  clear hW3
  go_wp2_with (first
    | (show wpList _ _ _ (⟨some 20, _, _, _, _, _⟩ :: _) _ _
       refine wpList_copy_keep rfl (.tmp 18) (.tmp 19) 22 22 rfl 5 (by kernel_rfl) (by kernel_rfl) rfl rfl (w := w2.alloc (.cells (((List.replicate 32 (0 : UInt8)).map bv)).toArray 23)) HN3a.out (O.map bv) HMin.out HSrca.out HFit.out (bytes_one O) ?_
       intro W4 hc4 hk4
       rw [HSp.out] at hc4
       replace hk4 : Ev.Keep ⟨W3, fun k => k = w2.heap.size⟩ W4 := by rw [← HW3.out]; exact hk4
       have HC4 := Lib.hid hc4
       have HR4 := Lib.hid (HR3'.out.keep hk4 (by have := HLtw.out; omega))
       have HB4 := Lib.hid (Below.keep HBw3.out hk4 HBw3.out.size (by have := HLtw.out; omega))
       clear hc4 hk4)
    | (show wpList _ _ _ (⟨some 21, _, _, _, _, _⟩ :: _) _ _; refine wpList_loadRow rfl 23 _ rfl rfl HC4.out Tryd.underlying23 rfl (by kernel_rfl) HOm.out ?_)
    | (show wpList _ _ _ (⟨none, Op.store 23 _ _, _, _, _, _⟩ :: _) _ _; refine wpList_storeRow (g := w.heap.size) rfl 23 _ _ rfl rfl rfl (cs := O.map bv) HR4.out (by kernel_rfl) HOm.out (by simp) (bytes_one O) ?_)
    | fail)
  refine bodyPost_ret (results_row rfl _ rfl (HR4.out.setRow (O.map bv)) Tryd.underlying23 rfl (by kernel_rfl) HOm.out) rfl ?_
  exact ⟨rfl, below_setRow HB4.out (Nat.le_refl _) _⟩
end Go.Proofs.YtpllbnioncjhaaaDoor

