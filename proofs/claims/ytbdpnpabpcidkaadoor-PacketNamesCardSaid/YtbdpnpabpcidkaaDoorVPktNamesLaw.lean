/- The examples of chapter 9 have the results that it states: 'drawbridgelaw09.PacketNames'. -/
import Derived.Test.YtbdpnpabpcidkaaDoorV46
import Derived.Test.YtbdpnpabpcidkaaDoorV47
namespace Go.Proofs.YtbdpnpabpcidkaaDoor.packetNames
open Go.ChangeShapes Go.WideShapes Go.ChangeAt Go.RowKit
open Pkt
open Shk (sstop SStop)
theorem over_len (sec : List UInt8) (hs : sec.length = 32) (z : Int) (s e n m : Nat) (A : Option Addr) (c : Nat) (hm : 65536 < m) (w : World) : Calls Tryd.prog 18 #[arr8 sec, .int .i64 z, .int .u64 (s : Int), .int .u32 (e : Int), .int .u64 (n : Int), .slice A m c] w fun x w' => x = .returned (.tuple #[(nm 0).val, .int .i64 3]) ∧ Below w.heap.size w w' := by
  have h := Seal_over sec (List.replicate m 0) hs z s e n A c (by rw [List.length_replicate]; exact hm) w
  rwa [List.length_replicate] at h
theorem xor_one (u : UInt8) : u ^^^ 1 ≠ u := by
  intro h
  have k : u ^^^ (u ^^^ 1) = u ^^^ u := congrArg (u ^^^ ·) h
  rw [← UInt8.xor_assoc, UInt8.xor_self, UInt8.zero_xor] at k
  exact absurd k (by decide)
/-- With another last byte it isn't opened. -/
theorem open_changed {sec : List UInt8} {z : Int} {s e n : Nat} {plain : List UInt8} {b : Value} {w : World} {x : Ending} (hp : plain.length = 5) (u : UInt8) (hu : u ≠ (sealedL sec z s e n plain).getD 20 0) (h : OpenPost sec z (dp s e n b) ((sealedL sec z s e n plain).set 20 u) w x) (hd : dataOk s e n) : x = .returned (.tuple #[.slice none 0 0, .int .i64 12]) := by
  have hl : (sealedL sec z s e n plain).length = 21 := by rw [sealedL_length, hp]
  obtain ⟨h1, _⟩ := sealed_parts sec z s e n plain b
  obtain ⟨SL, hSL⟩ : ∃ SL, sealedL sec z s e n plain = SL := ⟨_, rfl⟩
  rw [hSL] at hl h1 h hu
  have hc : cOf (SL.set 20 u) = cOf SL := by
    rw [cOf, cOf, List.length_set, hl, List.take_set]
    exact List.set_eq_of_length_le (by rw [List.length_take, hl]; decide)
  have ht : tOf (SL.set 20 u) = (tOf SL).set 15 u := by
    rw [tOf, tOf, List.length_set, hl, List.drop_set]
    simp
  unfold OpenPost at h
  rw [if_pos ⟨by rw [List.length_set, hl]; exact chk_dp hd b _ (by omega) (by omega), rfl⟩] at h
  obtain ⟨v, rfl, h3⟩ := h
  unfold OpenR at h3
  rw [if_neg] at h3
  · rw [h3]
  · rw [hc, ht, ← h1]
    intro e
    have k := congrArg (fun l => l.getD 15 0) e
    simp only [List.getD_eq_getElem?_getD] at k
    rw [List.getElem?_set_self (by rw [tOf, List.length_drop, hl]; omega), tOf, List.getElem?_drop, hl] at k
    refine hu ?_
    rw [List.getD_eq_getElem?_getD]
    exact k
set_option maxRecDepth 100000 in
set_option maxHeartbeats 4000000 in
theorem walk (w : World) (ht : Tab w) : Calls Tryd.prog 4 #[] w fun e w' => e = .returned (.bool true) ∧ Below w.heap.size w w' := by
  have HB0 := Lib.hid (Below.refl w.heap.size w)
  have HT0 := Lib.hid ht
  obtain ⟨K, hK⟩ : ∃ K, b1 = K := ⟨_, rfl⟩
  have HKe := Lib.hid hK
  have HKl := Lib.hid (show K.length = 32 by rw [← hK]; rfl)
  obtain ⟨Z, hZ⟩ : ∃ Z, List.replicate 32 (0 : UInt8) = Z := ⟨_, rfl⟩
  have HZe := Lib.hid hZ
  have HZl := Lib.hid (show Z.length = 32 by rw [← hZ]; rfl)
  obtain ⟨E, hE⟩ : ∃ E, nm 0 = E := ⟨_, rfl⟩
  have HEe := Lib.hid hE
  have HEo := Lib.hid (show E.Ok by rw [← hE]; exact nm_ok 0)
  have HEb := Lib.hid (show E.bo = .slice none 0 0 by rw [← hE]; rfl)
  have HEc := Lib.hid (show chk E 0 = 2 by rw [← hE]; exact if_neg (fun h => by have := h.1; unfold Head nm at this; simp at this))
  have HLv := Lib.hid (fun w (ht : Tab w) => Pkt.lives_any w ht)
  clear ht hK hZ hE
  obtain ⟨m, hconv⟩ := Hk.conv_lit w hello5 5 rfl (by omega)
  obtain ⟨WF, hWF⟩ : ∃ WF, (w.alloc (.cells (hello5.map bv).toArray 5)).freeze ⟨w.heap.size, m, none⟩ 1 = WF := ⟨_, rfl⟩
  rw [hWF] at hconv
  have hconv' : (convert 23 23 (.slice (some ⟨w.heap.size, 0, none⟩) 5 5)).run Tryd.prog (w.alloc (.cells #[.int .u8 104, .int .u8 101, .int .u8 108, .int .u8 108, .int .u8 111] 5)) = .ok (.slice (some ⟨w.heap.size, 0, none⟩) 5 5) WF := hconv
  have hb : Below w.heap.size w WF := hWF ▸ Hk.below_frozen ((Below.refl _ w).alloc (Nat.le_refl _) _) (Nat.le_refl _) 1
  have HF := Lib.hid (show Bs WF WF.heap.size (.slice (some ⟨w.heap.size, 0, none⟩) hello5.length 5) hello5 from by
    have h := Hk.bs_lit w hello5 5 m rfl
    rw [hWF] at h
    exact h.more (by rw [← hWF, Hk.size_freeze]; simp))
  clear hconv hWF
  have HB1 := Lib.hid (nextB HB0.out (Nat.le_refl _) hb)
  have HT1 := Lib.hid (HT0.out.below hb HT0.out.1)
  clear hb
  go_enter Tryd.func4, Tryd.ntmps4
  go_wp2_with (first
    | (show wpList _ _ _ (⟨some 10, _, _, _, _, _⟩ :: _) _ _; refine wpList_bd _ _ rfl (v := arr8 K) (by rw [← HKe.out]; kernel_rfl) rfl ?_)
    | fail)
  refine (Seal_any K hello5 HKl.out 0 9 1 1 _ 5 (by decide) (by decide) (by decide) (by decide) WF HT1.out HF.out).mono ?_
  rintro e w2 ⟨⟨b, R, rfl, hgb, hrow⟩, hb⟩
  have HGb := Lib.hid hgb
  clear hgb
  obtain ⟨SL, hSL⟩ : ∃ SL, sealedL K 0 9 1 1 hello5 = SL := ⟨_, rfl⟩
  have hSl : SL.length = 21 := by rw [← hSL, sealedL_length]; rfl
  rw [hSL] at hrow
  obtain ⟨P, hP⟩ : ∃ P, dp 9 1 1 (.slice (some ⟨b, 0, none⟩) 21 21) = P := ⟨_, rfl⟩
  rw [show hello5.length + 16 = 21 from rfl, hP]
  have HPe := Lib.hid hP
  have HSe := Lib.hid hSL
  have HPi := Lib.hid (show P.In by rw [← hP]; exact ⟨dp_ok 9 1 1 rfl, by show (9 : Nat) < 18446744073709551616; decide, by show (1 : Nat) < 4294967296; decide, by show (1 : Nat) < 18446744073709551616; decide⟩)
  have HPo := Lib.hid HPi.out.ok
  have HPb := Lib.hid (show P.bo = .slice (some ⟨b, 0, none⟩) 21 21 by rw [← hP]; rfl)
  have HSl := Lib.hid hSl
  have HRw := Lib.hid hrow
  clear hrow hSL hSl hP
  have HB2 := Lib.hid (nextB HB1.out (Nat.le_refl _) hb)
  have HT2 := Lib.hid (HT1.out.below hb HT1.out.1)
  clear hb
  go_wp2_with (first
    | (show wpList _ _ _ (⟨none, Op.store 40 _ _, _, _, _, _⟩ :: _) _ _
       refine wpList_storeRow (g := w2.heap.size) rfl 40 _ _ rfl rfl rfl (cs := P.cells) (Row.new rfl rfl : Row (w2.alloc (.cells (nm 0).cells.toArray 40)) w2.heap.size (nm 0).cells 40) (by kernel_rfl) (Pk.length HPo.out) (Pk.length (nm_ok 0)) (Pk.one HPo.out) ?_
       refine wpList_name fun V hV => ?_
       refine sstop ?_)
    | fail)
  unfold SStop
  obtain ⟨W3, hV2⟩ : ∃ V2, V = V2 := ⟨V, rfl⟩
  rw [hV2] at hV ⊢
  clear hV2
  have hb : Below w2.heap.size w2 W3 := by rw [← hV]; exact (below_setRow ((Below.refl _ w2).alloc (Nat.le_refl _) _) (by omega) _)
  have HP3 := Lib.hid (show Row W3 w2.heap.size P.cells 40 by rw [← hV]; exact ((Row.new rfl rfl : Row (w2.alloc (.cells (nm 0).cells.toArray 40)) w2.heap.size (nm 0).cells 40).setRow _))
  have HB4 := Lib.hid (nextB HB2.out (Nat.le_refl _) hb)
  have Hbody4 := Lib.hid (HRw.out.below hb HRw.out.lt)
  have HT4 := Lib.hid (HT2.out.below hb HT2.out.1)
  clear hV hb
  go_wp2_with fail
  refine (HLv.out W3 HT4.out).mono ?_
  rintro e w5 ⟨rfl, hb⟩
  have HB6 := Lib.hid (nextB HB4.out (Nat.le_refl _) hb)
  have Hbody6 := Lib.hid (Hbody4.out.below hb Hbody4.out.lt)
  have HP6 := Lib.hid (HP3.out.below hb HP3.out.lt)
  have HT6 := Lib.hid (HT4.out.below hb HT4.out.1)
  clear hb
  have c37 := c_bo HP6.out HPo.out
  rw [HPb.out] at c37
  have h20 : (SL.map bv ++ R)[20]? = some (bv (SL.getD 20 0)) := by
    have := HSl.out
    rw [List.getElem?_append_left (by rw [List.length_map]; omega), hgetD_cell SL 20 (by omega)]
  have c20 : w5.cell? ⟨b, 20, none⟩ = some (.int .u8 ((SL.getD 20 0).toNat : Int)) := Hbody6.out.cell h20
  have f20 := frozen_row Hbody6.out 20
  obtain ⟨u, hu⟩ : ∃ u, SL.getD 20 0 = u := ⟨_, rfl⟩
  rw [hu] at c20
  have hx1 : bits .xor .u8 (u.toNat : Int) 1 = ((u ^^^ 1).toNat : Int) := w_xor8 u 1
  have hset := Hbody6.out.set 20 (bv (u ^^^ 1))
  rw [List.set_append_left _ _ (by rw [List.length_map, HSl.out]; omega), ← List.map_set] at hset
  have HSt := Lib.hid hset
  have HPt := Lib.hid (HP6.out.other ⟨b, 20, none⟩ (bv (u ^^^ 1)) (by
    intro e
    have h1 := HP6.out
    have h2 := Hbody6.out
    simp only [] at e
    rw [e] at h1
    unfold Row at h1 h2
    rw [h1] at h2
    simp only [Option.some.injEq, Obj.cells.injEq] at h2
    exact absurd h2.2.1 (by decide)))
  have HBt := Lib.hid (HB6.out.setCell (p := ⟨b, 20, none⟩) (show w.heap.size ≤ b from Nat.le_trans HB1.out.size HGb.out) (bv (u ^^^ 1)))
  have HTt := Lib.hid (HT6.out.below ((Below.refl WF.heap.size w5).setCell (p := ⟨b, 20, none⟩) HGb.out (bv (u ^^^ 1))) HT1.out.1)
  have HUe := Lib.hid hu
  have HLp := Lib.hid (l_all HPt.out HPo.out)
  clear h20 hset hu
  go_wp2_with (first
    | (refine wpList_ld 40 rfl rfl HLp.out rfl ?_)
    | (show wpList _ _ _ (⟨some 31, _, _, _, _, _⟩ :: _) _ _; refine wpList_bd _ _ rfl (v := arr8 K) (by rw [← HKe.out]; kernel_rfl) rfl ?_)
    | fail)
  refine (Open_any K HKl.out 0 P HPi.out (some ⟨b, 0, none⟩) (SL.set 20 (u ^^^ 1)) 21 (by rw [HPb.out, List.length_set, HSl.out]) (w5.setCell ⟨b, 20, none⟩ (bv (u ^^^ 1))) HTt.out (by rw [HPb.out]; exact bs_row HSt.out (by rw [List.length_set]; exact HSl.out))).mono ?_
  rintro e w9 ⟨hx, hb⟩
  rw [← HPe.out, ← HSe.out] at hx
  have hx2 := open_changed (plain := hello5) rfl (u ^^^ 1) (by rw [HSe.out, HUe.out]; exact xor_one u) hx (by decide)
  subst hx2
  clear hx c37 c20 f20 hx1
  have HB7 := Lib.hid (nextB HBt.out (Nat.le_refl _) hb)
  have HT7 := Lib.hid (HTt.out.below hb HTt.out.1)
  clear hb
  go_wp2_with (first
    | (show wpList _ _ _ (⟨some 37, _, _, _, _, _⟩ :: _) _ _; refine wpList_bd _ _ rfl (v := arr8 Z) (by rw [← HZe.out]; kernel_rfl) rfl ?_)
    | fail)
  refine (Seal_args Z [] HZl.out 0 0 1 1 none 0 (by decide) (by decide) w9).mono ?_
  rintro e w8 ⟨rfl, hb⟩
  rw [HEe.out]
  have HB9 := Lib.hid (nextB HB7.out (Nat.le_refl _) hb)
  have HT9 := Lib.hid (HT7.out.below hb HT7.out.1)
  clear hb
  go_wp2_with (first
    | (show wpList _ _ _ (⟨none, Op.store 40 _ _, _, _, _, _⟩ :: _) _ _
       refine wpList_storeRow (g := w8.heap.size) rfl 40 _ _ rfl rfl rfl (cs := E.cells) (Row.new rfl rfl : Row (w8.alloc (.cells (nm 0).cells.toArray 40)) w8.heap.size (nm 0).cells 40) (by kernel_rfl) (Pk.length HEo.out) (Pk.length (nm_ok 0)) (Pk.one HEo.out) ?_
       refine wpList_name fun V hV => ?_
       refine sstop ?_)
    | fail)
  unfold SStop
  obtain ⟨W10, hV2⟩ : ∃ V2, V = V2 := ⟨V, rfl⟩
  rw [hV2] at hV ⊢
  clear hV2
  have hb : Below w8.heap.size w8 W10 := by rw [← hV]; exact (below_setRow ((Below.refl _ w8).alloc (Nat.le_refl _) _) (by omega) _)
  have HE110 := Lib.hid (show Row W10 w8.heap.size E.cells 40 by rw [← hV]; exact ((Row.new rfl rfl : Row (w8.alloc (.cells (nm 0).cells.toArray 40)) w8.heap.size (nm 0).cells 40).setRow _))
  have HB11 := Lib.hid (nextB HB9.out (Nat.le_refl _) hb)
  have HT11 := Lib.hid (HT9.out.below hb HT9.out.1)
  clear hV hb
  go_wp2_with (first
    | (show wpList _ _ _ (⟨some 42, _, _, _, _, _⟩ :: _) _ _; refine wpList_bd _ _ rfl (v := arr8 Z) (by rw [← HZe.out]; kernel_rfl) rfl ?_)
    | (at_make; refine wpList_make_bytes _ rfl _ _ rfl 65537 rfl rfl (by omega) ?_; intro wm hrowm hgm; have HGm := Lib.hid hgm; clear hrowm hgm)
    | fail)
  have hbm : Below W10.heap.size W10 wm := (Below.refl W10.heap.size W10).grown HGm.out (Nat.le_refl _) (fun k hk => by cases hk)
  have HB12 := Lib.hid (nextB HB11.out (Nat.le_refl _) hbm)
  have HE112 := Lib.hid (HE110.out.below hbm HE110.out.lt)
  have HT12 := Lib.hid (HT11.out.below hbm HT11.out.1)
  clear hbm
  refine (over_len Z HZl.out 0 1 1 1 65537 _ 65537 (by decide) wm).mono ?_
  rintro e wo ⟨rfl, hb⟩
  rw [HEe.out]
  have HB13 := Lib.hid (nextB HB12.out (Nat.le_refl _) hb)
  have HE113 := Lib.hid (HE112.out.below hb HE112.out.lt)
  have HT13 := Lib.hid (HT12.out.below hb HT12.out.1)
  clear hb
  go_wp2_with (first
    | (show wpList _ _ _ (⟨none, Op.store 40 _ _, _, _, _, _⟩ :: _) _ _
       refine wpList_storeRow (g := wo.heap.size) rfl 40 _ _ rfl rfl rfl (cs := E.cells) (Row.new rfl rfl : Row (wo.alloc (.cells (nm 0).cells.toArray 40)) wo.heap.size (nm 0).cells 40) (by kernel_rfl) (Pk.length HEo.out) (Pk.length (nm_ok 0)) (Pk.one HEo.out) ?_
       refine wpList_name fun V hV => ?_
       refine sstop ?_)
    | fail)
  unfold SStop
  obtain ⟨W14, hV2⟩ : ∃ V2, V = V2 := ⟨V, rfl⟩
  rw [hV2] at hV ⊢
  clear hV2
  have hb : Below wo.heap.size wo W14 := by rw [← hV]; exact (below_setRow ((Below.refl _ wo).alloc (Nat.le_refl _) _) (by omega) _)
  have HE214 := Lib.hid (show Row W14 wo.heap.size E.cells 40 by rw [← hV]; exact ((Row.new rfl rfl : Row (wo.alloc (.cells (nm 0).cells.toArray 40)) wo.heap.size (nm 0).cells 40).setRow _))
  have HB15 := Lib.hid (nextB HB13.out (Nat.le_refl _) hb)
  have HE115 := Lib.hid (HE113.out.below hb HE113.out.lt)
  have HT15 := Lib.hid (HT13.out.below hb HT13.out.1)
  clear hV hb
  go_wp2_with fail
  refine (HLv.out W14 HT15.out).mono ?_
  rintro e w16 ⟨rfl, hb⟩
  have HB17 := Lib.hid (nextB HB15.out (Nat.le_refl _) hb)
  have HE117 := Lib.hid (HE115.out.below hb HE115.out.lt)
  have HE217 := Lib.hid (HE214.out.below hb HE214.out.lt)
  have HT17 := Lib.hid (HT15.out.below hb HT15.out.1)
  clear hb
  go_wp2_with (first
    | (show wpList _ _ _ (⟨some 61, _, _, _, _, _⟩ :: _) _ _; refine wpList_bd _ _ rfl (v := E.val) (by rw [← HEe.out]; kernel_rfl) rfl ?_)
    | fail)
  refine (Check_any E HEo.out none 0 0 HEb.out w16).mono ?_
  rintro e w18 ⟨rfl, hb⟩
  rw [HEc.out]
  have HB19 := Lib.hid (nextB HB17.out (Nat.le_refl _) hb)
  have HE119 := Lib.hid (HE117.out.below hb HE117.out.lt)
  have HE219 := Lib.hid (HE217.out.below hb HE217.out.lt)
  have HT19 := Lib.hid (HT17.out.below hb HT17.out.1)
  clear hb
  go_wp2
  go_ret
  exact ⟨rfl, HB19.out⟩

set_option maxRecDepth 100000 in
theorem lift (os : Os) (started : os.Started) (H : Type) (enc : TypeId × Value → H) :
    ReturnsInHanded {} Tryd.checked os 4 .any (fun w args => (Rows.packetNamesSpec.pre enc Tryd.prog Tryd.f4 Rows.packetNamesRow.domain false w args ∧ laidMetH Tryd.prog Hk.laidL w) ∧ sizedMet enc Tryd.prog Tryd.f4 (OpenSpec.ofChange Rows.packetNamesSpec) false w args) (Rows.packetNamesSpec.post enc Tryd.prog Tryd.f4 false true false false) := by
  refine Hk.lifted 4 Pol.own started (by kernel_rfl) Tryd.func4 Pol.laid (by kernel_rfl) rfl Tryd.underlying4 rfl
    (fun ds hd => by
      have hd' : ds.length = 0 := hd
      match ds, hd' with
      | [], _ => rfl)
    (ChangeSpec.witness_at (enc := enc) (C := Tryd.checked) (os := os) (X := fun w _ => laidMetH Tryd.prog Hk.laidL w) false (Hk.laidWorld os) #[] 8 rfl (by kernel_rfl) (by kernel_rfl) (by kernel_rfl) (by kernel_rfl) (by kernel_rfl) (Hk.laid_metH os _)) ?_
  intro W args ds ps hst htab
  have hA : DataW.TrodAll enc Tryd.prog W 0 (fun _ => true) true Tryd.f4.params.toList args.toList ds ps := hst.trod
  have hok := hst.okw
  have hlt := hst.lt
  rw [Tryd.params4] at hA hok
  obtain ⟨rfl, rfl, rfl⟩ := trodAll_none hA
  exact walk W htab

theorem over : Rows.packetNamesRow.holds Tryd.pinned (OpenSpec.ofChange Rows.packetNamesSpec) :=
  OpenClaim.holds_of_wide 4 Tryd.f4 rfl rfl rfl rfl rfl rfl rfl ⟨rfl, rfl, rfl, rfl, rfl⟩ rfl rfl rfl rfl rfl (by kernel_rfl) Tryd.func4 (by kernel_rfl)
    (of_decide_eq_true (by kernel_rfl)) (by unfold Func.isWrapper; first | (rw [if_pos (by decide +kernel)]; kernel_rfl) | (rw [if_neg (by decide +kernel)]; exact ⟨rfl, rfl⟩))
    (fun os started H enc _ => lift os started H enc)
theorem proved : Rows.PacketNamesCardSaid :=
  Claim7.holds_tied_plain_at .later [] [.data] true Rows.packetNamesCard.stood.harness false over (fun _ h => by cases h) (by kernel_rfl) (fun _ h => by cases h) packetNames_row_tie rfl ⟨rfl, rfl⟩ (by kernel_rfl) rfl
    (fun f fn hf hfn => by
      obtain rfl : f = 4 := (Option.some.inj ((show Tryd.prog.funcNamed Rows.packetNamesRow.func = some 4 by kernel_rfl).symm.trans hf)).symm
      obtain rfl : fn = Tryd.f4 := (Option.some.inj (Tryd.func4.symm.trans hfn)).symm
      refine ⟨by kernel_rfl, fun j t ht => ?_⟩
      have hall : (Tryd.f4.params.toList.all fun t => Tryd.prog.wantsStandIn t == false) = true := by kernel_rfl
      have h := List.all_eq_true.1 hall t (Array.mem_toList_iff.2 (Array.mem_of_getElem? ht))
      exact eq_of_beq h)
    (by kernel_rfl)
#print axioms proved
end Go.Proofs.YtbdpnpabpcidkaaDoor.packetNames
