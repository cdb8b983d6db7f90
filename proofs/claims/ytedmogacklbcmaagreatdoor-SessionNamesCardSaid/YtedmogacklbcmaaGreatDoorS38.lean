/- Texts that the proofs share: AeadCalls, AeadSeal, AeadOpen. -/
import Derived.Test.YtedmogacklbcmaaGreatDoorS35
import Derived.Test.YtedmogacklbcmaaGreatDoorS37
import Derived.Laws.Cover3
namespace Go.Proofs.YtedmogacklbcmaaGreatDoor
open Go.RowKit
namespace Aead
open Pol (own mixed laid MacAt rOf sOf tagK)
theorem lengths_any (n m : Nat) (hn : n < 18446744073709551616) (hm : m < 18446744073709551616) (w : World) : Calls Tryz.prog 72 #[.int .i64 (n : Int), .int .i64 (m : Int)] w fun e w' => e = .returned (arr8 (le8 n ++ le8 m)) ∧ Below w.heap.size w w' := by
 have h := lengths_ev (n : Int) (m : Int)
 rw [eight_is n hn, eight_is m hm, ← List.map_append] at h
 exact Ev.calls_ans (l := []) mixed (by decide) (by simp) (by simp) (Pol.flat_args rfl) h (Pol.flat2_bv _)
theorem sub_once {B O : List UInt8} (h : B.take 32 = O) : ((B.map bv).drop 0).take 32 = O.map bv := by
 rw [List.drop_zero, ← h, List.map_take]
set_option maxRecDepth 100000 in
set_option maxHeartbeats 300000 in
theorem Once_any (key nonce : List UInt8) (hk : key.length = 32) (hn : nonce.length = 12) (w : World) : Calls Tryz.prog 70 #[arr8 key, arr8 nonce] w fun e w' => e = .returned (arr8 (once key nonce)) ∧ Below w.heap.size w w' := by
 have Hk := Lib.hid hk
 have Hn := Lib.hid hn
 have Hkl := Lib.hid (show (key.map bv).length = 32 by rw [List.length_map]; exact hk)
 have Hnl := Lib.hid (show (nonce.map bv).length = 12 by rw [List.length_map]; exact hn)
 obtain ⟨B, hB⟩ : ∃ B, Cha.block key 0#32 nonce = B := ⟨_, rfl⟩
 obtain ⟨O, hO⟩ : ∃ O, once key nonce = O := ⟨_, rfl⟩
 have HB := Lib.hid hB
 have HO := Lib.hid (show B.take 32 = O by rw [← hB, ← hO]; rfl)
 have Hol := Lib.hid (show (O.map bv).length = 32 by rw [List.length_map, ← hO]; exact once_length key nonce)
 have Hbl := Lib.hid (show (B.map bv).length = 64 by rw [List.length_map, ← hB]; exact Cha.block_length key _ nonce)
 rw [hO]
 clear hB hO
 clear hk hn
 unfold arr8
 go_enter Tryz.func70, Tryz.ntmps70
 go_wp2_with (first
  | (refine wpList_loadRow (n := 32) (cs := key.map bv) rfl 23 _ rfl rfl (((Row.new rfl rfl).alloc _).alloc _) Tryz.underlying23 rfl (by kernel_rfl) Hkl.out ?_)
  | (refine wpList_loadRow (n := 12) (cs := nonce.map bv) rfl 118 _ rfl rfl ((Row.new (by simp) rfl).alloc _) Tryz.underlying118 rfl (by kernel_rfl) Hnl.out ?_)
  | fail)
 obtain ⟨W, hW⟩ : ∃ W, ((w.alloc (.cells (key.map bv).toArray 23)).alloc (.cells (nonce.map bv).toArray 118)).alloc (.cells ((List.replicate 32 (0 : UInt8)).map bv).toArray 23) = W := ⟨_, rfl⟩
 have hWb : Below w.heap.size w W := hW ▸ (((Below.refl _ w).alloc (Nat.le_refl _) _).alloc (by simp) _).alloc (by simp; omega) _
 have hWs : W.heap.size = w.heap.size + 3 := by rw [← hW]; simp
 have hWr : Row W (w.heap.size + 1 + 1) ((List.replicate 32 (0 : UInt8)).map bv) 23 := hW ▸ Row.new (by simp) rfl
 show Calls _ _ _ (((w.alloc (.cells (key.map bv).toArray 23)).alloc (.cells (nonce.map bv).toArray 118)).alloc (.cells ((List.replicate 32 (0 : UInt8)).map bv).toArray 23)) _
 rw [hW]
 clear hW
 refine (Block_any key nonce 0#32 Hk.out Hn.out W).mono ?_
 rintro e w1 ⟨he, hb1⟩
 rw [HB.out] at he
 subst he
 have Hr1 := Lib.hid (hWr.below hb1 (by omega))
 have Hb1 := Lib.hid (nextB hWb (Nat.le_refl _) hb1)
 have Hs1 := Lib.hid (show w.heap.size + 3 ≤ w1.heap.size by have := hb1.size; omega)
 clear hWr hWb hWs hb1
 unfold arr8
 go_wp2_with (first
  | (refine wpList_storeRow (n := 64) rfl 130 _ _ rfl rfl rfl (cs := B.map bv) (old := (List.replicate 64 (0 : UInt8)).map bv) (g := w1.heap.size) (Row.new rfl rfl) (by kernel_rfl) Hbl.out (by simp) (bytes_one _) ?_
     obtain ⟨w2, hw2⟩ : ∃ w2, (w1.alloc (.cells ((List.replicate 64 (0 : UInt8)).map bv).toArray 130)).setRow w1.heap.size (B.map bv).toArray = w2 := ⟨_, rfl⟩
     have HR2 := Lib.hid (show Row w2 w1.heap.size (B.map bv) 130 from hw2 ▸ (Row.new (cs := (List.replicate 64 (0 : UInt8)).map bv) rfl rfl).setRow _)
     have Hr2 := Lib.hid (show Row w2 (w.heap.size + 1 + 1) ((List.replicate 32 (0 : UInt8)).map bv) 23 from hw2 ▸ (Hr1.out.alloc _).setOther _ _ (by have := Hs1.out; omega))
     have Hb2 := Lib.hid (show Below w.heap.size w w2 from hw2 ▸ below_setRow (Hb1.out.alloc (by have := Hs1.out; omega) _) (by have := Hs1.out; omega) _)
     refine wpList_world hw2 ?_
     have har : (Instr.arrayAt 23 (.slice (some ⟨w1.heap.size, 0, none⟩) 32 64)).run Tryz.prog w2 = .ok (.pointer (some ⟨w1.heap.size, 0, none⟩)) w2 := run_arrayAt w2 23 5 32 _ _ _ Tryz.underlying23 (Nat.le_refl _)
     clear hw2)
  | (refine Pol.wpList_loadSub (n := 32) (off := 0) rfl 23 _ rfl rfl HR2.out Tryz.underlying23 rfl (by kernel_rfl) (by rw [Hbl.out]; decide) ?_
     rw [sub_once HO.out])
  | (refine wpList_storeRow (n := 32) rfl 23 _ _ rfl rfl rfl (cs := O.map bv) (old := (List.replicate 32 (0 : UInt8)).map bv) Hr2.out (by kernel_rfl) Hol.out (by simp) (bytes_one _) ?_)
  | fail)
 refine bodyPost_ret (results_row rfl _ rfl (Hr2.out.setRow _) Tryz.underlying23 rfl (by kernel_rfl) (n := 32) Hol.out) rfl ?_
 exact ⟨rfl, below_setRow Hb2.out (by omega) _⟩
theorem pad_lt {n k : Nat} (h : n % 16 = k) (hk : 0 < k) : (16 - n % 16) % 16 = 16 - k := by omega
theorem padB_some {l b : List UInt8} {k : Nat} (h : b.length % 16 = k) (hk : 0 < k) : (l ++ b) ++ List.replicate (16 - k) 0 = l ++ padB b := by
 unfold padB zpad
 rw [pad_lt h hk, List.append_assoc]
theorem padB_none {l b : List UInt8} (h : b.length % 16 = 0) : l ++ b = l ++ padB b := by
 unfold padB zpad
 rw [h]
 simp
theorem zeros_rest {w1 : World} {g k : Nat} (hg : g < w1.heap.size) (hk : k < 16) (hk0 : 0 < k) :
 Pol.Rest (w1.alloc (.cells ((List.replicate 16 (0 : UInt8)).map bv).toArray 37)) g (.slice (some ⟨w1.heap.size, k, none⟩) (16 - k) (16 - k)) (List.replicate (16 - k) 0) := by
 refine ⟨_, 16 - k, by rw [List.length_replicate], by simp, fun _ => ⟨w1.heap.size, k, rfl, by omega, by simp, fun i u hu => ?_⟩⟩
 have hrow : Row (w1.alloc (.cells ((List.replicate 16 (0 : UInt8)).map bv).toArray 37)) w1.heap.size ((List.replicate 16 (0 : UInt8)).map bv) 37 := Row.new rfl rfl
 refine hrow.cell ?_
 rw [List.getElem?_replicate] at hu
 split at hu
 · injection hu with hu
   subst hu
   rw [List.getElem?_map, List.getElem?_replicate, if_pos (by omega)]
   rfl
 · cases hu
theorem rest_old {w : World} {B g : Nat} {v : Value} {b : List UInt8} (h : Bs w B v b) (hg : B ≤ g) (hs : B ≤ w.heap.size) : Pol.Rest w g v b := by
 obtain ⟨A, c, rfl, hc, hcs⟩ := h
 refine ⟨A, c, rfl, hc, fun hne => ?_⟩
 obtain ⟨k, off, rfl, hk, hcell⟩ := hcs hne
 exact ⟨k, off, rfl, by omega, by omega, hcell⟩
theorem rest_row {w : World} {g k : Nat} {t : TypeId} {l : List UInt8} (hl : l.length = 16) (h : Row w k (l.map bv) t) (hne : g < k) : Pol.Rest w g (.slice (some ⟨k, 0, none⟩) 16 16) l :=
 ⟨_, 16, by rw [hl], by omega, fun _ => ⟨k, 0, rfl, by omega, h.lt, fun i u hu => h.cell (by rw [Nat.zero_add, List.getElem?_map, hu]; rfl)⟩⟩
theorem row_keep {w w1 : World} {g k : Nat} {t : TypeId} {cs : List Value} (h : Row w k cs t) (hk : Ev.Keep ⟨w, fun k => k = g⟩ w1) (hne : k ≠ g) : Row w1 k cs t := by
 have hlt := h.lt
 refine (hk.block k ?_).trans h
 rintro (e | e)
 · have e' : w.heap.size ≤ k := e
   omega
 · exact hne e
theorem mac_below {w w1 : World} {B g : Nat} {r s : Poly.L} {l : List UInt8} (h : MacAt w g r s l) (hb : Below B w w1) (hg : g < B) : MacAt w1 g r s l := by
 obtain ⟨rest, h1, h2, h3⟩ := h
 exact ⟨rest, h1, h2, h3.below hb hg⟩
theorem mac_lt {w : World} {g : Nat} {r s : Poly.L} {l : List UInt8} (h : MacAt w g r s l) : g < w.heap.size := by
 obtain ⟨rest, h1, h2, h3⟩ := h
 exact h3.lt
theorem keep_trans {w w1 w2 : World} {g : Nat} (h1 : Ev.Keep ⟨w, fun k => k = g⟩ w1) (h2 : Ev.Keep ⟨w1, fun k => k = g⟩ w2) : Ev.Keep ⟨w, fun k => k = g⟩ w2 := by
 have s1 : w.heap.size ≤ w1.heap.size := h1.size
 have s2 : w1.heap.size ≤ w2.heap.size := h2.size
 refine ⟨h2.os.trans h1.os, h2.tape.trans h1.tape, h2.output.trans h1.output, by show w.heap.size ≤ _; omega, fun k hk => ?_⟩
 have hk1 : k < w.heap.size := Nat.lt_of_not_le fun e => hk (.inl e)
 have hk2 : k ≠ g := fun e => hk (.inr e)
 refine (h2.block k ?_).trans (h1.block k hk)
 rintro (e | e)
 · have e' : w1.heap.size ≤ k := e
   omega
 · exact hk2 e
theorem keep_of_below {w w1 : World} {g : Nat} (h : Below w.heap.size w w1) : Ev.Keep ⟨w, fun k => k = g⟩ w1 :=
 ⟨h.os, h.tape, h.output, h.size, fun k hk => h.block k (Nat.lt_of_not_le fun e => hk (.inl e))⟩
set_option maxRecDepth 100000 in
set_option maxHeartbeats 1000000 in
theorem Pad_any {w : World} {g : Nat} {r s : Poly.L} {l b : List UInt8} {v : Value} (hr : Poly.Fit r) (h : MacAt w g r s l) (hb : Pol.Rest w g v b) (hsz : l.length + b.length < 4611686018427387000) :
 Calls Tryz.prog 71 #[.pointer (some ⟨g, 0, none⟩), v] w fun e w1 => e = .returned (.tuple #[]) ∧ MacAt w1 g r s (l ++ padB b) ∧ Ev.Keep ⟨w, fun k => k = g⟩ w1 := by
 obtain ⟨A, c, rfl, hc, hcs⟩ := id hb
 have H := Lib.hid h
 have Hb := Lib.hid hb
 have Hsz := Lib.hid hsz
 clear h hb hcs hsz
 go_enter Tryz.func71, Tryz.ntmps71
 go_wp2_with fail
 refine (Pol.Write_any hr H.out Hb.out (by have := Hsz.out; omega)).mono ?_
 rintro e w1 ⟨rfl, hm1, hk1⟩
 have Hm1 := Lib.hid hm1
 have Hk1 := Lib.hid hk1
 clear hm1 hk1
 obtain ⟨k, hk⟩ : ∃ k, b.length % 16 = k := ⟨_, rfl⟩
 have hki : (b.length : Int) % 16 = (k : Int) := by omega
 have hk16 : k < 16 := by omega
 have Hk := Lib.hid hk
 clear hk
 by_cases h0 : k = 0
 · subst h0
   have hki0 : ¬ (0 : Int) < ((0 : Nat) : Int) := by decide
   go_wp2
   go_end0
   exact ⟨rfl, padB_none Hk.out ▸ Hm1.out, Hk1.out⟩
 · have hki0 : (0 : Int) < (k : Int) := by omega
   have hk16i : (k : Int) ≤ 16 := by omega
   have hk16n : ¬ (16 : Int) = (k : Int) := by omega
   have hk16m : ¬ 16 = k := by omega
   go_wp2_with fail
   refine (Pol.Write_any (b := List.replicate (16 - k) 0) hr (mac_below Hm1.out ((Below.refl _ w1).alloc (Nat.le_refl _) _) (mac_lt Hm1.out)) (zeros_rest (mac_lt Hm1.out) hk16 (by omega)) (by have := Hsz.out; rw [List.length_append, List.length_replicate]; omega)).mono ?_
   rintro e w2 ⟨rfl, hm2, hk2⟩
   have Hm2 := Lib.hid hm2
   have Hk2 := Lib.hid hk2
   clear hm2 hk2
   go_wp2
   go_end0
   refine ⟨rfl, padB_some Hk.out (by omega) ▸ Hm2.out, keep_trans Hk1.out (keep_trans (keep_of_below ((Below.refl _ w1).alloc (Nat.le_refl _) _)) Hk2.out)⟩
set_option maxRecDepth 100000 in
set_option maxHeartbeats 1000000 in
theorem ATag_any (key nonce : List UInt8) (cipher along : List UInt8) (v1 v2 : Value) (hk : key.length = 32) (hn : nonce.length = 12) (w : World) (hc : Bs w w.heap.size v1 cipher) (ha : Bs w w.heap.size v2 along) (hcl : cipher.length ≤ 1000000000) (hal : along.length ≤ 1000000000) :
 Calls Tryz.prog 59 #[arr8 key, arr8 nonce, v1, v2] w fun e w' => e = .returned (arr8 (tag key nonce cipher along)) ∧ Below w.heap.size w w' := by
 obtain ⟨A1, c1, rfl, hc1, hcs1⟩ := id hc
 obtain ⟨A2, c2, rfl, hc2, hcs2⟩ := id ha
 have Hk := Lib.hid hk
 have Hn := Lib.hid hn
 have Hkl := Lib.hid (show (key.map bv).length = 32 by rw [List.length_map]; exact hk)
 have Hnl := Lib.hid (show (nonce.map bv).length = 12 by rw [List.length_map]; exact hn)
 have Hc := Lib.hid hc
 have Ha := Lib.hid ha
 have Hcl := Lib.hid hcl
 have Hal := Lib.hid hal
 obtain ⟨T, hT⟩ : ∃ T, tag key nonce cipher along = T := ⟨_, rfl⟩
 have HT := Lib.hid (show (T.map bv).length = 16 by rw [List.length_map, ← hT]; exact tag_length _ _ _ _)
 have HTe := Lib.hid hT
 rw [hT]
 clear hk hn hc ha hcs1 hcs2 hcl hal hT
 unfold arr8
 go_enter Tryz.func59, Tryz.ntmps59
 go_wp2_with (first
  | (refine wpList_loadRow (n := 32) (cs := key.map bv) rfl 23 _ rfl rfl (((Row.new rfl rfl).alloc _).alloc _) Tryz.underlying23 rfl (by kernel_rfl) Hkl.out ?_)
  | (refine wpList_loadRow (n := 12) (cs := nonce.map bv) rfl 118 _ rfl rfl ((Row.new (by simp) rfl).alloc _) Tryz.underlying118 rfl (by kernel_rfl) Hnl.out ?_)
  | fail)
 obtain ⟨W, hW⟩ : ∃ W, ((w.alloc (.cells (key.map bv).toArray 23)).alloc (.cells (nonce.map bv).toArray 118)).alloc (.cells ((List.replicate 16 (0 : UInt8)).map bv).toArray 37) = W := ⟨_, rfl⟩
 have hWb : Below w.heap.size w W := hW ▸ (((Below.refl _ w).alloc (Nat.le_refl _) _).alloc (by simp) _).alloc (by simp; omega) _
 have hWs : W.heap.size = w.heap.size + 3 := by rw [← hW]; simp
 have hWr : Row W (w.heap.size + 1 + 1) ((List.replicate 16 (0 : UInt8)).map bv) 37 := hW ▸ Row.new (by simp) rfl
 show Calls _ _ _ (((w.alloc (.cells (key.map bv).toArray 23)).alloc (.cells (nonce.map bv).toArray 118)).alloc (.cells ((List.replicate 16 (0 : UInt8)).map bv).toArray 37)) _
 rw [hW]
 clear hW
 refine (Once_any key nonce Hk.out Hn.out W).mono ?_
 obtain ⟨O, hO⟩ : ∃ O, once key nonce = O := ⟨_, rfl⟩
 rw [hO]
 have HO := Lib.hid hO
 have Hol := Lib.hid (show O.length = 32 by rw [← hO]; exact once_length key nonce)
 clear hO
 rintro e w1 ⟨rfl, hb1⟩
 have Hr1 := Lib.hid (hWr.below hb1 (by omega))
 have Hb1 := Lib.hid (nextB hWb (Nat.le_refl _) hb1)
 have Hs1 := Lib.hid (show w.heap.size + 3 ≤ w1.heap.size by have := hb1.size; omega)
 clear hWr hWb hWs hb1
 go_wp2_with fail
 refine (Pol.New_any Hol.out w1).mono ?_
 rintro e w2 ⟨g, rfl, hg, hrow, hb2⟩
 have Hm2 := Lib.hid (MacAt.new hrow)
 have Hg := Lib.hid (show w1.heap.size ≤ g from hg)
 have Hr2 := Lib.hid (Hr1.out.below hb2 Hr1.out.lt)
 have Hb2 := Lib.hid (nextB Hb1.out (Nat.le_refl _) hb2)
 have Hs2 := Lib.hid (Nat.le_trans Hs1.out hb2.size)
 have Ha2 := Lib.hid (rest_old (Ha.out.below Hb2.out) (Nat.le_trans Hb1.out.size hg) Hb2.out.size)
 clear hg hrow hb2
 go_wp2_with fail
 refine (Pad_any (l := []) (Pol.rOf_fit Hol.out) Hm2.out Ha2.out (by have := Hal.out; simp; omega)).mono ?_
 rintro e w3 ⟨rfl, hm3, hk3⟩
 have Hm3 := Lib.hid hm3
 have Hglt := Lib.hid (mac_lt Hm2.out)
 have Hb3 := Lib.hid (Hb2.out.trans (Pol.keep_below hk3 (lo := w.heap.size) (by rintro k rfl; exact Nat.le_trans Hb1.out.size Hg.out) Hb2.out.size))
 have Hr3 := Lib.hid (row_keep Hr2.out hk3 (by have := Hg.out; have := Hs1.out; omega))
 have Hs3 := Lib.hid (Nat.le_trans Hs2.out hk3.size)
 have Hc3 := Lib.hid (rest_old (Hc.out.below Hb3.out) (Nat.le_trans Hb1.out.size Hg.out) Hb3.out.size)
 clear hm3 hk3
 go_wp2_with fail
 refine (Pad_any (l := [] ++ padB along) (Pol.rOf_fit Hol.out) Hm3.out Hc3.out (by have := Hal.out; have := Hcl.out; have := padB_length along; rw [List.length_append]; simp; omega)).mono ?_
 rintro e w4 ⟨rfl, hm4, hk4⟩
 have Hm4 := Lib.hid hm4
 have Hb4 := Lib.hid (Hb3.out.trans (Pol.keep_below hk4 (lo := w.heap.size) (by rintro k rfl; exact Nat.le_trans Hb1.out.size Hg.out) Hb3.out.size))
 have Hr4 := Lib.hid (row_keep Hr3.out hk4 (by have := Hg.out; have := Hs1.out; omega))
 have Hs4 := Lib.hid (Nat.le_trans Hs3.out hk4.size)
 clear hm4 hk4
 go_wp2_with fail
 refine (lengths_any along.length cipher.length (by have := Hal.out; omega) (by have := Hcl.out; omega) w4).mono ?_
 rintro e w5 ⟨rfl, hb5⟩
 have Hm5 := Lib.hid (mac_below Hm4.out hb5 (mac_lt Hm4.out))
 have Hb5 := Lib.hid (nextB Hb4.out (Nat.le_refl _) hb5)
 have Hr5 := Lib.hid (Hr4.out.below hb5 Hr4.out.lt)
 have Hs5 := Lib.hid (Nat.le_trans Hs4.out hb5.size)
 clear hb5
 obtain ⟨Z, hZ⟩ : ∃ Z, le8 along.length ++ le8 cipher.length = Z := ⟨_, rfl⟩
 rw [hZ]
 have HZ := Lib.hid hZ
 have HZl := Lib.hid (show (Z.map bv).length = 16 by rw [List.length_map, ← hZ]; rfl)
 clear hZ
 unfold arr8
 go_wp2_with (first
  | (refine wpList_storeRow (n := 16) rfl 37 _ _ rfl rfl rfl (cs := Z.map bv) (old := (List.replicate 16 (0 : UInt8)).map bv) (g := w5.heap.size) (Row.new rfl rfl) (by kernel_rfl) HZl.out (by simp) (bytes_one _) ?_
     obtain ⟨w6, hw6⟩ : ∃ w6, (w5.alloc (.cells ((List.replicate 16 (0 : UInt8)).map bv).toArray 37)).setRow w5.heap.size (Z.map bv).toArray = w6 := ⟨_, rfl⟩
     have HR6 := Lib.hid (show Row w6 w5.heap.size (Z.map bv) 37 from hw6 ▸ (Row.new (cs := (List.replicate 16 (0 : UInt8)).map bv) rfl rfl).setRow _)
     have hb56 : Below w5.heap.size w5 w6 := hw6 ▸ below_setRow ((Below.refl _ w5).alloc (Nat.le_refl _) _) (Nat.le_refl _) _
     have Hb56 := Lib.hid hb56
     refine wpList_world hw6 ?_
     clear hw6 hb56)
  | fail)
 have Hm6 := Lib.hid (mac_below Hm5.out Hb56.out (mac_lt Hm5.out))
 have Hr6 := Lib.hid (Hr5.out.below Hb56.out Hr5.out.lt)
 have Hb6 := Lib.hid (nextB Hb5.out (Nat.le_refl _) Hb56.out)
 refine (Pol.Write_any (Pol.rOf_fit Hol.out) Hm6.out (rest_row (by have := HZl.out; rwa [List.length_map] at this) HR6.out (mac_lt Hm5.out)) (by have := HZl.out; have := Hal.out; have := Hcl.out; have := padB_length along; have := padB_length cipher; rw [List.length_map] at *; rw [List.length_append, List.length_append]; simp; omega)).mono ?_
 rintro e w7 ⟨rfl, hm7, hk7⟩
 have hbody : [] ++ padB along ++ padB cipher ++ Z = body cipher along := by rw [← HZ.out]; rfl
 rw [hbody] at hm7
 have Hm7 := Lib.hid hm7
 have Hb7 := Lib.hid (Hb6.out.trans (Pol.keep_below hk7 (lo := w.heap.size) (by rintro k rfl; exact Nat.le_trans Hb1.out.size Hg.out) Hb6.out.size))
 have Hr7 := Lib.hid (row_keep Hr6.out hk7 (by have := Hg.out; have := Hs1.out; omega))
 clear hm7 hk7 hbody
 go_wp2_with fail
 refine (Pol.MTag_any (Pol.rOf_fit Hol.out) (Pol.sOf_fit Hol.out) Hm7.out (by have := body_length cipher along; have := Hal.out; have := Hcl.out; omega)).mono ?_
 rintro e w8 ⟨he, hb8⟩
 have htag : Pol.tagL (rOf O) (sOf O) (body cipher along) = tag key nonce cipher along := by rw [← HO.out]; rfl
 rw [htag, HTe.out] at he
 subst he
 have Hr8 := Lib.hid (Hr7.out.below hb8 Hr7.out.lt)
 have Hb8 := Lib.hid (nextB Hb7.out (Nat.le_refl _) hb8)
 clear hb8 htag
 unfold arr8
 go_wp2_with (first
  | (refine wpList_storeRow (n := 16) rfl 37 _ _ rfl rfl rfl (cs := T.map bv) (old := (List.replicate 16 (0 : UInt8)).map bv) Hr8.out (by kernel_rfl) HT.out (by simp) (bytes_one _) ?_)
  | fail)
 refine bodyPost_ret (results_row rfl _ rfl (Hr8.out.setRow _) Tryz.underlying37 rfl (by kernel_rfl) (n := 16) HT.out) rfl ?_
 exact ⟨rfl, below_setRow Hb8.out (by omega) _⟩
end Aead
end Go.Proofs.YtedmogacklbcmaaGreatDoor
namespace Go.Proofs.YtedmogacklbcmaaGreatDoor
open Go.RowKit
namespace Aead
open Pol (own mixed laid)
theorem bs_row {w : World} {k n : Nat} {t : TypeId} {l : List UInt8} (hl : (l.map bv).length = n) (h : Row w k (l.map bv) t) : Bs w w.heap.size (.slice (some ⟨k, 0, none⟩) n n) l := by
 rw [List.length_map] at hl
 exact hl ▸ Row.bs h h.lt
set_option maxRecDepth 100000 in
set_option maxHeartbeats 1000000 in
theorem Seal_ok (key nonce plain along : List UInt8) (v1 v2 : Value) (hk : key.length = 32) (hn : nonce.length = 12) (w : World) (hp : Bs w w.heap.size v1 plain) (ha : Bs w w.heap.size v2 along) (hpl : plain.length ≤ 65536) (hal : along.length ≤ 65536) :
 Calls Tryz.prog 46 #[arr8 key, arr8 nonce, v1, v2] w fun e w' => ∃ v, e = .returned (.tuple #[v, .int .i64 0]) ∧ Own w' w.heap.size v (sealed key nonce plain along) ∧ Below w.heap.size w w' := by
 obtain ⟨A1, c1, rfl, hc1, hcs1⟩ := id hp
 obtain ⟨A2, c2, rfl, hc2, hcs2⟩ := id ha
 have Hk := Lib.hid hk
 have Hn := Lib.hid hn
 have Hkl := Lib.hid (show (key.map bv).length = 32 by rw [List.length_map]; exact hk)
 have Hnl := Lib.hid (show (nonce.map bv).length = 12 by rw [List.length_map]; exact hn)
 have Hp := Lib.hid hp
 have Ha := Lib.hid ha
 have Hpl := Lib.hid hpl
 have Hal := Lib.hid hal
 have h1' : ¬ (65536 : Int) < (plain.length : Int) := by omega
 have h2' : ¬ (65536 : Int) < (along.length : Int) := by omega
 obtain ⟨C, hC⟩ : ∃ C, Cha.xor key 1#32 nonce plain = C := ⟨_, rfl⟩
 obtain ⟨T, hT⟩ : ∃ T, tag key nonce C along = T := ⟨_, rfl⟩
 have HC := Lib.hid hC
 have HT := Lib.hid hT
 have HCl := Lib.hid (show C.length = plain.length by rw [← hC]; exact Cha.xor_length _ _ _ _)
 have HTl := Lib.hid (show (T.map bv).length = 16 by rw [List.length_map, ← hT]; exact tag_length _ _ _ _)
 have hS : sealed key nonce plain along = C ++ T := by unfold sealed; rw [hC, hT]
 rw [hS]
 clear hk hn hp ha hcs1 hcs2 hpl hal hC hT hS
 unfold arr8
 go_enter Tryz.func46, Tryz.ntmps46
 go_wp2_with (first
  | (refine wpList_loadRow (n := 32) (cs := key.map bv) rfl 23 _ rfl rfl ((Row.new rfl rfl).alloc _) Tryz.underlying23 rfl (by kernel_rfl) Hkl.out ?_)
  | (refine wpList_loadRow (n := 12) (cs := nonce.map bv) rfl 118 _ rfl rfl (Row.new (by simp) rfl) Tryz.underlying118 rfl (by kernel_rfl) Hnl.out ?_)
  | fail)
 obtain ⟨W, hW⟩ : ∃ W, (w.alloc (.cells (key.map bv).toArray 23)).alloc (.cells (nonce.map bv).toArray 118) = W := ⟨_, rfl⟩
 have hWb : Below w.heap.size w W := hW ▸ ((Below.refl _ w).alloc (Nat.le_refl _) _).alloc (by simp) _
 have hWs : W.heap.size = w.heap.size + 2 := by rw [← hW]; simp
 have hWk : Row W w.heap.size (key.map bv) 23 := hW ▸ (Row.new rfl rfl).alloc _
 have hWn : Row W (w.heap.size + 1) (nonce.map bv) 118 := hW ▸ Row.new (by simp) rfl
 show Calls _ _ _ ((w.alloc (.cells (key.map bv).toArray 23)).alloc (.cells (nonce.map bv).toArray 118)) _
 rw [hW]
 clear hW
 refine (Xor_ok key nonce plain (.slice A1 plain.length c1) 1#32 Hk.out Hn.out W ((Hp.out.below hWb).more hWb.size) (by have := Hpl.out; omega) (by have := Hpl.out; unfold Cha.long; show ¬ _ < _; simp; omega)).mono ?_
 rw [HC.out]
 rintro e w1 ⟨v1, rfl, ho1, hb1⟩
 have Ho1 := Lib.hid (ho1.less hWb.size)
 have HK1 := Lib.hid (hWk.below hb1 (by omega))
 have HN1 := Lib.hid (hWn.below hb1 (by omega))
 have Hb1 := Lib.hid (nextB hWb (Nat.le_refl _) hb1)
 have Hs1 := Lib.hid (show w.heap.size + 2 ≤ w1.heap.size by have := hb1.size; omega)
 clear hWb hWs hWk hWn hb1 ho1
 go_wp2_with (first
  | (refine wpList_loadRow (n := 32) (cs := key.map bv) rfl 23 _ rfl rfl HK1.out Tryz.underlying23 rfl (by kernel_rfl) Hkl.out ?_)
  | (refine wpList_loadRow (n := 12) (cs := nonce.map bv) rfl 118 _ rfl rfl HN1.out Tryz.underlying118 rfl (by kernel_rfl) Hnl.out ?_)
  | fail)
 refine (ATag_any key nonce C along v1 (.slice A2 along.length c2) Hk.out Hn.out w1 Ho1.out.bs ((Ha.out.below Hb1.out).more Hb1.out.size) (by have := HCl.out; have := Hpl.out; omega) (by have := Hal.out; omega)).mono ?_
 rw [HT.out]
 rintro e w2 ⟨rfl, hb2⟩
 have Ho2 := Lib.hid (Ho1.out.below hb2 (Nat.le_refl _))
 have Hb2 := Lib.hid (nextB Hb1.out (Nat.le_refl _) hb2)
 have Hs2 := Lib.hid (Nat.le_trans Hs1.out hb2.size)
 clear hb2
 unfold arr8
 go_wp2_with (first
  | (refine wpList_storeRow (n := 16) rfl 37 _ _ rfl rfl rfl (cs := T.map bv) (old := (List.replicate 16 (0 : UInt8)).map bv) (g := w2.heap.size) (Row.new rfl rfl) (by kernel_rfl) HTl.out (by simp) (bytes_one _) ?_
     obtain ⟨w3, hw3⟩ : ∃ w3, (w2.alloc (.cells ((List.replicate 16 (0 : UInt8)).map bv).toArray 37)).setRow w2.heap.size (T.map bv).toArray = w3 := ⟨_, rfl⟩
     have HR3 := Lib.hid (show Row w3 w2.heap.size (T.map bv) 37 from hw3 ▸ (Row.new (cs := (List.replicate 16 (0 : UInt8)).map bv) rfl rfl).setRow _)
     have hb23 : Below w2.heap.size w2 w3 := hw3 ▸ below_setRow ((Below.refl _ w2).alloc (Nat.le_refl _) _) (Nat.le_refl _) _
     have Hb23 := Lib.hid hb23
     refine wpList_world hw3 ?_
     clear hw3 hb23)
  | (at_builtin; refine wpList_app_bytes _ rfl _ _ rfl rfl (Ho2.out.below Hb23.out (Nat.le_refl _)) rfl (bs_row HTl.out HR3.out) (by have := HTl.out; have := HCl.out; have := Hpl.out; rw [List.length_map] at *; omega) (Nat.le_trans Hb2.out.size Hb23.out.size) ?_; intro v4 w4 ho4 hg4 _)
  | fail)
 go_ret2
 refine ⟨_, rfl, ho4, ?_⟩
 have hb3 := nextB Hb2.out (Nat.le_refl _) Hb23.out
 exact hb3.grown hg4 hb3.size (fun k hk => ((Ho2.out.below Hb23.out (Nat.le_refl _)).block_ge hk).1)
end Aead
end Go.Proofs.YtedmogacklbcmaaGreatDoor
namespace Go.Proofs.YtedmogacklbcmaaGreatDoor
open Go.RowKit
namespace Aead
open Pol (own mixed laid)
section
variable {P : Program}
theorem run_loadVar_cells (w : World) {g off n : Nat} {ty : TypeId} {cs : List Value} {d : TypeDesc} (h : ∀ j v, cs[j]? = some v → w.cell? ⟨g, off + j, none⟩ = some v) (hu : P.underlying ty = some d) (hd : (match d with | .struct _ | .array _ _ => true | _ => false) = true)
 (hi : (P.info? ty).map (·.size) = some n) (hn : cs.length = n) : (loadVar ty ⟨g, off, none⟩).run P w = .ok (.agg cs.toArray) w := by
 have hl : (loadCells ⟨g, off, none⟩ cs.length).run P w = .ok cs.toArray w :=
  run_loadCells_list (P := P) w ⟨g, off, none⟩ cs (fun j v hv => by
   have hadd : (⟨g, off, none⟩ : Addr).add j = ⟨g, off + j, none⟩ := by unfold Addr.add; split <;> simp_all
   rw [hadd]
   exact h j v hv)
 rw [hn] at hl
 cases hq : P.info? ty with
 | none => simp [hq] at hi
 | some i =>
   have hs : i.size = n := by simpa [hq] using hi
   have hagg : (isAgg ty).run P w = .ok true w := by
    unfold isAgg
    rw [Sem.run_bind, run_underlying hu w]
    cases d <;> simp_all
   simp [loadVar, Sem.run_bind, hagg, sizeOf, typeInfo, hq, hs, hl]
theorem wp_loadCells {o : Oper} {a : Act} {w : World} {K : Act → World → Prop} {Q : Exit → Act → World → Prop} (ty : TypeId) (x : Operand) (ho : o.op = .load ty x)
 {g off n : Nat} (hx : a.eval x = .pointer (some ⟨g, off, none⟩)) {cs : List Value} {d : TypeDesc} (h : ∀ j v, cs[j]? = some v → w.cell? ⟨g, off + j, none⟩ = some v) (hu : P.underlying ty = some d) (hd : (match d with | .struct _ | .array _ _ => true | _ => false) = true)
 (hi : (P.info? ty).map (·.size) = some n) (hn : cs.length = n) (hk : K (a.put o.dst (.agg cs.toArray)) w) : o.wp P a w K Q := by
 unfold Oper.wp execOp
 simp only [ho, hx, Instr.loadAt, Instr.sureAddr, Sem.run_bind, Sem.run_pure, Result.andThen_ok, run_loadVar_cells w h hu hd hi hn]
 exact hk
end
def zeroM (lo : Nat) : By.Mark Grew := ⟨fun v w => ∃ g, v = .pointer (some ⟨g, 0, none⟩) ∧ lo ≤ g ∧ Row w g ((List.replicate 16 (0 : UInt8)).map bv) 37, fun v x y h k => by
 obtain ⟨g, h1, h2, h3⟩ := h
 exact ⟨g, h1, h2, h3.below k h3.lt⟩⟩
def At (w : World) (kb o : Nat) (t : List UInt8) : Prop := kb < w.heap.size ∧ ∀ (i : Nat) (u : UInt8), t[i]? = some u → w.cell? ⟨kb, o + i, none⟩ = some (bv u)
theorem At.below {w w1 : World} {kb o : Nat} {t : List UInt8} (h : At w kb o t) (hb : Below w.heap.size w w1) : At w1 kb o t :=
 ⟨Nat.lt_of_lt_of_le h.1 hb.size, fun i u hu => (hb.cell (p := ⟨kb, o + i, none⟩) h.1).trans (h.2 i u hu)⟩
theorem cells_at {w : World} {kb o : Nat} {t : List UInt8} (h : At w kb o t) : ∀ j v, (t.map bv)[j]? = some v → w.cell? ⟨kb, o + j, none⟩ = some v := by
 intro j v hv
 rw [List.getElem?_map, Option.map_eq_some_iff] at hv
 obtain ⟨u, hu, rfl⟩ := hv
 exact h.2 j u hu
set_option maxRecDepth 100000 in
set_option maxHeartbeats 1000000 in
theorem Open_ok (key nonce c t along : List UInt8) (v1 v2 : Value) (hk : key.length = 32) (hn : nonce.length = 12) (ht : t.length = 16) (w : World) (hp : Bs w w.heap.size v1 (c ++ t)) (ha : Bs w w.heap.size v2 along) (hcl : c.length ≤ 65536) (hal : along.length ≤ 65536) :
 Calls Tryz.prog 53 #[arr8 key, arr8 nonce, v1, v2] w fun e w' => (if t = tag key nonce c along then ∃ v, e = .returned (.tuple #[v, .int .i64 0]) ∧ Own w' w.heap.size v (Cha.xor key 1#32 nonce c) else e = .returned (.tuple #[.slice none 0 0, .int .i64 12])) ∧ Below w.heap.size w w' := by
 have hlen : (c ++ t).length = c.length + 16 := by rw [List.length_append, ht]
 obtain ⟨A1, c1, rfl, hc1, hcs1⟩ := id hp
 obtain ⟨A2, c2, rfl, hc2, hcs2⟩ := id ha
 obtain ⟨kb, off, rfl, hkb, hcells⟩ := hcs1 (by intro h; rw [h] at hlen; simp at hlen)
 obtain ⟨m, hm⟩ : ∃ m, c.length = m := ⟨_, rfl⟩
 obtain ⟨n, hnn⟩ : ∃ n, m + 16 = n := ⟨_, rfl⟩
 have hcb : Bs w w.heap.size (.slice (some ⟨kb, off, none⟩) m c1) c := ⟨_, _, by rw [hm], by omega, fun _ => ⟨kb, off, rfl, hkb, fun i u hu => hcells i u (by rw [List.getElem?_append_left (List.getElem?_eq_some_iff.1 hu).1]; exact hu)⟩⟩
 have hat : At w kb (off + m) t := ⟨hkb, fun i u hu => by
  rw [Nat.add_assoc]
  exact hcells (m + i) u (by rw [List.getElem?_append_right (by omega), hm, Nat.add_sub_cancel_left]; exact hu)⟩
 rw [hlen, hm, hnn] at hp hc1 ⊢
 obtain ⟨T, hT⟩ : ∃ T, tag key nonce c along = T := ⟨_, rfl⟩
 obtain ⟨X, hX⟩ : ∃ X, Cha.xor key 1#32 nonce c = X := ⟨_, rfl⟩
 rw [hT, hX]
 have HT := Lib.hid hT
 have HX := Lib.hid hX
 have HTl := Lib.hid (show T.length = 16 by rw [← hT]; exact tag_length _ _ _ _)
 have Hk := Lib.hid hk
 have Hn := Lib.hid hn
 have Ht := Lib.hid ht
 have Hkl := Lib.hid (show (key.map bv).length = 32 by rw [List.length_map]; exact hk)
 have Hnl := Lib.hid (show (nonce.map bv).length = 12 by rw [List.length_map]; exact hn)
 have Htl := Lib.hid (show (t.map bv).length = 16 by rw [List.length_map]; exact ht)
 have Hc := Lib.hid hcb
 have Hat := Lib.hid hat
 have Ha := Lib.hid ha
 have Hcl := Lib.hid hcl
 have Hal := Lib.hid hal
 have Hm := Lib.hid hm
 have H16 := Lib.hid (show 16 ≤ n - m by omega)
 have h0' : ¬ (n : Int) < (16 : Int) := by omega
 have h1' : ¬ (65552 : Int) < (n : Int) := by omega
 have h2' : ¬ (65536 : Int) < (along.length : Int) := by omega
 have hsub : (n : Int) - 16 = (m : Int) := by omega
 have hmn : (m : Int) ≤ (n : Int) := by omega
 have hmc : (m : Int) ≤ (c1 : Int) := by omega
 have hnc : (n : Int) ≤ (c1 : Int) := by omega
 have hcm : ¬ c1 = m := by omega
 clear hk hn hp ha hcs1 hcs2 hcl hal hnn hlen hm ht hcells hcb hat hT hX
 unfold arr8
 go_enter Tryz.func53, Tryz.ntmps53
 go_wp2_with fail
 obtain ⟨W, hW⟩ : ∃ W, (w.alloc (.cells (key.map bv).toArray 23)).alloc (.cells (nonce.map bv).toArray 118) = W := ⟨_, rfl⟩
 have hWb : Below w.heap.size w W := hW ▸ ((Below.refl _ w).alloc (Nat.le_refl _) _).alloc (by simp) _
 have hWk : Row W w.heap.size (key.map bv) 23 := hW ▸ (Row.new rfl rfl).alloc _
 have hWn : Row W (w.heap.size + 1) (nonce.map bv) 118 := hW ▸ Row.new (by simp) rfl
 have HW := Lib.hid hWb
 have HWk := Lib.hid hWk
 have HWn := Lib.hid hWn
 have Hcells := Lib.hid (Hat.out.below hWb)
 obtain ⟨L0, hL0⟩ : ∃ L0, w.heap.size + 2 = L0 := ⟨_, rfl⟩
 have HL0e := Lib.hid hL0
 have HL0 := Lib.hid (show L0 ≤ W.heap.size by rw [← hL0, ← hW]; simp)
 clear hL0
 show Code.wp _ _ _ _ ((w.alloc (.cells (key.map bv).toArray 23)).alloc (.cells (nonce.map bv).toArray 118))
 rw [hW]
 clear hW hWb hWk hWn
 refine Tail.marksAt mixed 10 Grew [By.is (.slice (some ⟨kb, off, none⟩) n c1),
  By.is (.int .i64 (m : Int)),
  By.is (.slice (some ⟨kb, off, none⟩) m c1),
  By.is (.slice (some ⟨kb, off, none⟩) n c1),
  By.is (.int .i64 (m : Int)),
  By.is (.slice (some ⟨kb, off + m, none⟩) (n - m) (c1 - m)),
  By.is (.pointer (some ⟨kb, off + m, none⟩)),
  By.is (arr8 t),
  zeroM L0,
  By.is (.slice (some ⟨kb, off, none⟩) m c1)]
  (Ev.masks _ []) (Nat.zero_lt_succ _) (by kernel_rfl) (by kernel_rfl) rfl Grew.refl Grew.trans ⟨?_, ?_, ?_, ?_, ?_, ?_, ?_, ?_, ?_, ?_, trivial⟩ ?_
 · intro a w ht hs hg
   have h2 := By.same_get hs 2 (by decide) (by kernel_rfl)
   refine By.yes rfl ?_
   clear hs hg
   go_simp
   exact ⟨_, rfl, Grew.refl _, rfl⟩
 · intro a w ht hs hg
   have h10 := By.same_get hs 10 (by decide) (by kernel_rfl)
   refine By.yes rfl ?_
   clear hs hg
   go_simp
   exact ⟨_, rfl, Grew.refl _, rfl⟩
 · intro a w ht hs hg
   have h27 : a.tmps.getD 27 undef = _ := By.given_get hg 0 rfl rfl (by kernel_rfl)
   have h28 : a.tmps.getD 28 undef = _ := By.given_get hg 1 rfl rfl (by kernel_rfl)
   refine By.yes rfl ?_
   clear hs hg
   go_simp
   exact ⟨_, rfl, Grew.refl _, rfl⟩
 · intro a w ht hs hg
   have h2 := By.same_get hs 2 (by decide) (by kernel_rfl)
   refine By.yes rfl ?_
   clear hs hg
   go_simp
   exact ⟨_, rfl, Grew.refl _, rfl⟩
 · intro a w ht hs hg
   have h10 := By.same_get hs 10 (by decide) (by kernel_rfl)
   refine By.yes rfl ?_
   clear hs hg
   go_simp
   exact ⟨_, rfl, Grew.refl _, rfl⟩
 · intro a w ht hs hg
   have h30 : a.tmps.getD 30 undef = _ := By.given_get hg 3 rfl rfl (by kernel_rfl)
   have h31 : a.tmps.getD 31 undef = _ := By.given_get hg 4 rfl rfl (by kernel_rfl)
   refine By.yes rfl ?_
   clear hs hg
   go_simp
   exact ⟨_, rfl, Grew.refl _, rfl⟩
 · intro a w ht hs hg
   have h32 : a.tmps.getD 32 undef = _ := By.given_get hg 5 rfl rfl (by kernel_rfl)
   refine By.yes rfl ?_
   clear hs hg
   have har := run_arrayAt w 37 5 16 (some ⟨kb, off + m, none⟩) (n - m) (c1 - m) Tryz.underlying37 H16.out
   go_simp
   exact ⟨_, rfl, Grew.refl _, rfl⟩
 · intro a w ht hs hg
   have h33 : a.tmps.getD 33 undef = _ := By.given_get hg 6 rfl rfl (by kernel_rfl)
   refine By.yes rfl ?_
   clear hs hg
   refine wp_loadCells (n := 16) (cs := t.map bv) _ _ rfl h33 (cells_at (At.below (w := W.drew) Hcells.out ht)) Tryz.underlying37 rfl (by kernel_rfl) Htl.out ?_
   exact ⟨_, rfl, Grew.refl _, rfl⟩
 · intro a w ht hs hg
   refine By.yes rfl ?_
   clear hs hg
   have hlo : L0 ≤ w.heap.size := Nat.le_trans HL0.out (show W.heap.size ≤ w.heap.size from ht.size)
   go_simp
   exact ⟨_, rfl, (Below.refl _ w).alloc (Nat.le_refl _) _, _, rfl, hlo, Row.new rfl rfl⟩
 · intro a w ht hs hg
   have h29 : a.tmps.getD 29 undef = _ := By.given_get hg 2 rfl rfl (by kernel_rfl)
   refine By.yes rfl ?_
   clear hs hg
   go_simp
   exact ⟨_, rfl, Grew.refl _, rfl⟩
 refine By.ends_is (By.ends_is (By.ends_is (By.ends_is (By.ends_is (By.ends_is (By.ends_is (By.ends_is (By.ends_any fun v12 => (By.ends_is (By.ends_nil fun w1 hw1 => ?_))))))))))
 simp only [Act.put, List.setIfInBounds_toArray, List.set_cons_succ, List.set_cons_zero]
 simp only [List.drop_succ_cons, List.drop_zero]
 obtain ⟨hg1, g, rfl, hlo, hrow⟩ := hw1
 have hb1 : Below w.heap.size w w1 := nextB (b := W.drew) HW.out.drew (Nat.le_refl _) hg1
 have HB1 := Lib.hid hb1
 have HK1 := Lib.hid (Row.below (w := W.drew) HWk.out hg1 HWk.out.lt)
 have HN1 := Lib.hid (Row.below (w := W.drew) HWn.out hg1 HWn.out.lt)
 have HR1 := Lib.hid hrow
 have Hlo := Lib.hid (show w.heap.size + 2 ≤ g by rw [HL0e.out]; exact hlo)
 clear hg1 hlo hrow hb1
 unfold arr8
 go_wp2_with (first
  | (refine wpList_storeRow (n := 16) rfl 37 _ _ rfl rfl rfl (cs := t.map bv) (old := (List.replicate 16 (0 : UInt8)).map bv) (g := g) HR1.out (by kernel_rfl) Htl.out (by simp) (bytes_one _) ?_
     obtain ⟨w2, hw2⟩ : ∃ w2, w1.setRow g (t.map bv).toArray = w2 := ⟨_, rfl⟩
     have HT2 := Lib.hid (show Row w2 g (t.map bv) 37 from hw2 ▸ HR1.out.setRow _)
     have HK2 := Lib.hid (show Row w2 w.heap.size (key.map bv) 23 from hw2 ▸ HK1.out.setOther _ _ (by have := Hlo.out; omega))
     have HN2 := Lib.hid (show Row w2 (w.heap.size + 1) (nonce.map bv) 118 from hw2 ▸ HN1.out.setOther _ _ (by have := Hlo.out; omega))
     have HB2 := Lib.hid (show Below w.heap.size w w2 from hw2 ▸ below_setRow HB1.out (by have := Hlo.out; omega) _)
     refine wpList_world hw2 ?_
     clear hw2)
  | fail)
 refine By.marks mixed Grew [By.is (arr8 t),
  By.is (arr8 key),
  By.is (arr8 nonce),
  By.is (.slice (some ⟨kb, off, none⟩) m c1),
  By.is (.slice A2 along.length c2),
  By.is (arr8 T),
  By.is (.bool (decide (t = T))),
  By.is (.bool (!decide (t = T)))]
  (Ev.masks _ []) (by kernel_rfl) rfl Grew.refl Grew.trans ⟨?_, ?_, ?_, ?_, ?_, ?_, ?_, ?_, trivial⟩ ?_
 · intro a w ht hs hg
   have h12 := By.same_get hs 12 (by decide) (by kernel_rfl)
   refine By.yes rfl ?_
   clear hs hg
   refine wp_loadRow 37 _ rfl h12 (Row.below (w := w2.drew) HT2.out ht HT2.out.lt) Tryz.underlying37 rfl (by kernel_rfl) Htl.out ?_
   exact ⟨_, rfl, Grew.refl _, rfl⟩
 · intro a w ht hs hg
   have h4 := By.same_get hs 4 (by decide) (by kernel_rfl)
   refine By.yes rfl ?_
   clear hs hg
   refine wp_loadRow 23 _ rfl h4 (Row.below (w := w2.drew) HK2.out ht HK2.out.lt) Tryz.underlying23 rfl (by kernel_rfl) Hkl.out ?_
   exact ⟨_, rfl, Grew.refl _, rfl⟩
 · intro a w ht hs hg
   have h5 := By.same_get hs 5 (by decide) (by kernel_rfl)
   refine By.yes rfl ?_
   clear hs hg
   refine wp_loadRow 118 _ rfl h5 (Row.below (w := w2.drew) HN2.out ht HN2.out.lt) Tryz.underlying118 rfl (by kernel_rfl) Hnl.out ?_
   exact ⟨_, rfl, Grew.refl _, rfl⟩
 · intro a w ht hs hg
   have h11 := By.same_get hs 11 (by decide) (by kernel_rfl)
   refine By.yes rfl ?_
   clear hs hg
   go_simp
   exact ⟨_, rfl, Grew.refl _, rfl⟩
 · intro a w ht hs hg
   have h3 := By.same_get hs 3 (by decide) (by kernel_rfl)
   refine By.yes rfl ?_
   clear hs hg
   go_simp
   exact ⟨_, rfl, Grew.refl _, rfl⟩
 · intro a w ht hs hg
   have h36 : a.tmps.getD 36 undef = _ := By.given_get hg 1 rfl rfl (by kernel_rfl)
   have h37 : a.tmps.getD 37 undef = _ := By.given_get hg 2 rfl rfl (by kernel_rfl)
   have h38 : a.tmps.getD 38 undef = _ := By.given_get hg 3 rfl rfl (by kernel_rfl)
   have h39 : a.tmps.getD 39 undef = _ := By.given_get hg 4 rfl rfl (by kernel_rfl)
   refine By.yes rfl ?_
   clear hs hg
   have hc := ((Hc.out.below HB2.out).more HB2.out.size)
   have ha := ((Ha.out.below HB2.out).more HB2.out.size)
   have hc2 := (Bs.below (w := w2.drew) hc ht).more ht.size
   have ha2 := (Bs.below (w := w2.drew) ha ht).more ht.size
   clear hc ha
   have hc := Lib.hid hc2
   have ha := Lib.hid ha2
   clear hc2 ha2
   go_simp
   refine (ATag_any key nonce c along _ _ Hk.out Hn.out w hc.out ha.out (by have := Hcl.out; omega) (by have := Hal.out; omega)).mono ?_
   rw [HT.out]
   rintro e w' ⟨rfl, hb⟩
   exact ⟨_, rfl, hb, rfl⟩
 · intro a w ht hs hg
   have h35 : a.tmps.getD 35 undef = _ := By.given_get hg 0 rfl rfl (by kernel_rfl)
   have h40 : a.tmps.getD 40 undef = _ := By.given_get hg 5 rfl rfl (by kernel_rfl)
   refine By.yes rfl ?_
   clear hs hg
   go_simp
   refine (Equal_any Ht.out HTl.out w).mono ?_
   rintro e w' ⟨rfl, hb⟩
   exact ⟨_, rfl, hb, rfl⟩
 · intro a w ht hs hg
   have h41 : a.tmps.getD 41 undef = _ := By.given_get hg 6 rfl rfl (by kernel_rfl)
   refine By.yes rfl ?_
   clear hs hg
   go_simp
   exact ⟨_, rfl, Grew.refl _, rfl⟩
 refine By.ends_is (By.ends_is (By.ends_is (By.ends_is (By.ends_is (By.ends_is (By.ends_is (By.ends_is (By.ends_nil fun w3 hw3 => ?_))))))))
 simp only [Act.put, List.setIfInBounds_toArray, List.set_cons_succ, List.set_cons_zero]
 have HB3 := Lib.hid (nextB (b := w2.drew) HB2.out.drew (Nat.le_refl _) hw3)
 have HK3 := Lib.hid (Row.below (w := w2.drew) HK2.out hw3 HK2.out.lt)
 have HN3 := Lib.hid (Row.below (w := w2.drew) HN2.out hw3 HN2.out.lt)
 clear hw3
 by_cases htT : t = T
 · rw [show decide (t = T) = true from decide_eq_true htT]
   have HtT := Lib.hid htT
   clear htT
   go_wp2_with (first
    | (refine wpList_loadRow (n := 32) (cs := key.map bv) rfl 23 _ rfl rfl HK3.out Tryz.underlying23 rfl (by kernel_rfl) Hkl.out ?_)
    | (refine wpList_loadRow (n := 12) (cs := nonce.map bv) rfl 118 _ rfl rfl HN3.out Tryz.underlying118 rfl (by kernel_rfl) Hnl.out ?_)
    | fail)
   refine (Xor_ok key nonce c (.slice (some ⟨kb, off, none⟩) m c1) 1#32 Hk.out Hn.out w3 ((Hc.out.below HB3.out).more HB3.out.size) (by have := Hcl.out; omega) (by have := Hcl.out; unfold Cha.long; show ¬ _ < _; simp; omega)).mono ?_
   rw [HX.out]
   rintro e w4 ⟨v4, rfl, ho4, hb4⟩
   have Ho4 := Lib.hid ho4
   have Hb4 := Lib.hid hb4
   clear ho4 hb4
   go_wp2
   go_ret2
   try rw [if_pos HtT.out]
   exact ⟨⟨_, rfl, Ho4.out.less HB3.out.size⟩, nextB HB3.out (Nat.le_refl _) Hb4.out⟩
 · rw [show decide (t = T) = false from decide_eq_false htT]
   have HtT := Lib.hid htT
   clear htT
   go_wp2
   go_ret2
   try rw [if_neg HtT.out]
   exact ⟨rfl, HB3.out⟩
end Aead
end Go.Proofs.YtedmogacklbcmaaGreatDoor
