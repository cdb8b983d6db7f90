/- Sealing: the one-time key and the tag. -/
import Derived.Test.YtpllbnioncjhaaaAeadEqual
import Derived.Test.YtpllbnioncjhaaaChaXor
import Derived.Test.YtpllbnioncjhaaaEqKit
import Derived.Laws.Cover3
namespace Go.Proofs.Ytpllbnioncjhaaa
open Go.RowKit
namespace Aead
open Pol (own mixed laid MacAt rOf sOf tagK)
theorem lengths_any (n m : Nat) (hn : n < 18446744073709551616) (hm : m < 18446744073709551616) (w : World) : Calls Try.prog 43 #[.int .i64 (n : Int), .int .i64 (m : Int)] w fun e w' => e = .returned (arr8 (le8 n ++ le8 m)) ∧ Below w.heap.size w w' := by
  have h := lengths_ev (n : Int) (m : Int)
  rw [eight_is n hn, eight_is m hm, ← List.map_append] at h
  exact Ev.calls_ans (l := []) mixed (by decide) (by simp) (by simp) (Pol.flat_args rfl) h (Pol.flat2_bv _)
theorem sub_once {B O : List UInt8} (h : B.take 32 = O) : ((B.map bv).drop 0).take 32 = O.map bv := by
  rw [List.drop_zero, ← h, List.map_take]
set_option maxRecDepth 100000 in
set_option maxHeartbeats 300000 in
theorem Once_any (key nonce : List UInt8) (hk : key.length = 32) (hn : nonce.length = 12) (w : World) : Calls Try.prog 23 #[arr8 key, arr8 nonce] w fun e w' => e = .returned (arr8 (once key nonce)) ∧ Below w.heap.size w w' := by
  have Hk := Lib.hid hk
  have Hn := Lib.hid hn
  have Hkl := Lib.hid (show (key.map bv).length = 32 by rw [List.length_map]; exact hk)
  have Hnl := Lib.hid (show (nonce.map bv).length = 12 by rw [List.length_map]; exact hn)
  obtain ⟨B, hB⟩ : ∃ B, Cha.block key 0#32 nonce = B := ⟨_, rfl⟩
  obtain ⟨O, hO⟩ : ∃ O, once key nonce = O := ⟨_, rfl⟩
  have HB := Lib.hid hB
  have HO := Lib.hid (show B.take 32 = O by rw [← hB, ← hO]; rfl)
  have Hol := Lib.hid (show (O.map bv).length = 32 by rw [List.length_map, ← hO]; exact once_length key nonce)
  have Hbl := Lib.hid (show (B.map bv).length = 64 by rw [List.length_map, ← hB]; exact Cha.block_length key _ nonce)
  rw [hO]
  clear hB hO
  clear hk hn
  unfold arr8
  go_enter Try.func23, Try.ntmps23
  go_wp2_with (first
    | (refine wpList_loadRow (n := 32) (cs := key.map bv) rfl 24 _ rfl rfl (((Row.new rfl rfl).alloc _).alloc _) Try.underlying24 rfl (by kernel_rfl) Hkl.out ?_)
    | (refine wpList_loadRow (n := 12) (cs := nonce.map bv) rfl 25 _ rfl rfl ((Row.new (by simp) rfl).alloc _) Try.underlying25 rfl (by kernel_rfl) Hnl.out ?_)
    | fail)
  obtain ⟨W, hW⟩ : ∃ W, ((w.alloc (.cells (key.map bv).toArray 24)).alloc (.cells (nonce.map bv).toArray 25)).alloc (.cells ((List.replicate 32 (0 : UInt8)).map bv).toArray 24) = W := ⟨_, rfl⟩
  have hWb : Below w.heap.size w W := hW ▸ (((Below.refl _ w).alloc (Nat.le_refl _) _).alloc (by simp) _).alloc (by simp; omega) _
  have hWs : W.heap.size = w.heap.size + 3 := by rw [← hW]; simp
  have hWr : Row W (w.heap.size + 1 + 1) ((List.replicate 32 (0 : UInt8)).map bv) 24 := hW ▸ Row.new (by simp) rfl
  show Calls _ _ _ (((w.alloc (.cells (key.map bv).toArray 24)).alloc (.cells (nonce.map bv).toArray 25)).alloc (.cells ((List.replicate 32 (0 : UInt8)).map bv).toArray 24)) _
  rw [hW]
  clear hW
  refine (Block_any key nonce 0#32 Hk.out Hn.out W).mono ?_
  rintro e w1 ⟨he, hb1⟩
  rw [HB.out] at he
  subst he
  have Hr1 := Lib.hid (hWr.below hb1 (by omega))
  have Hb1 := Lib.hid (nextB hWb (Nat.le_refl _) hb1)
  have Hs1 := Lib.hid (show w.heap.size + 3 ≤ w1.heap.size by have := hb1.size; omega)
  clear hWr hWb hWs hb1
  unfold arr8
  go_wp2_with (first
    | (refine wpList_storeRow (n := 64) rfl 49 _ _ rfl rfl rfl (cs := B.map bv) (old := (List.replicate 64 (0 : UInt8)).map bv) (g := w1.heap.size) (Row.new rfl rfl) (by kernel_rfl) Hbl.out (by simp) (bytes_one _) ?_
       obtain ⟨w2, hw2⟩ : ∃ w2, (w1.alloc (.cells ((List.replicate 64 (0 : UInt8)).map bv).toArray 49)).setRow w1.heap.size (B.map bv).toArray = w2 := ⟨_, rfl⟩
       have HR2 := Lib.hid (show Row w2 w1.heap.size (B.map bv) 49 from hw2 ▸ (Row.new (cs := (List.replicate 64 (0 : UInt8)).map bv) rfl rfl).setRow _)
       have Hr2 := Lib.hid (show Row w2 (w.heap.size + 1 + 1) ((List.replicate 32 (0 : UInt8)).map bv) 24 from hw2 ▸ (Hr1.out.alloc _).setOther _ _ (by have := Hs1.out; omega))
       have Hb2 := Lib.hid (show Below w.heap.size w w2 from hw2 ▸ below_setRow (Hb1.out.alloc (by have := Hs1.out; omega) _) (by have := Hs1.out; omega) _)
       refine wpList_world hw2 ?_
       have har : (Instr.arrayAt 24 (.slice (some ⟨w1.heap.size, 0, none⟩) 32 64)).run Try.prog w2 = .ok (.pointer (some ⟨w1.heap.size, 0, none⟩)) w2 := run_arrayAt w2 24 5 32 _ _ _ Try.underlying24 (Nat.le_refl _)
       clear hw2)
    | (refine Pol.wpList_loadSub (n := 32) (off := 0) rfl 24 _ rfl rfl HR2.out Try.underlying24 rfl (by kernel_rfl) (by rw [Hbl.out]; decide) ?_
       rw [sub_once HO.out])
    | (refine wpList_storeRow (n := 32) rfl 24 _ _ rfl rfl rfl (cs := O.map bv) (old := (List.replicate 32 (0 : UInt8)).map bv) Hr2.out (by kernel_rfl) Hol.out (by simp) (bytes_one _) ?_)
    | fail)
  refine bodyPost_ret (results_row rfl _ rfl (Hr2.out.setRow _) Try.underlying24 rfl (by kernel_rfl) (n := 32) Hol.out) rfl ?_
  exact ⟨rfl, below_setRow Hb2.out (by omega) _⟩
theorem pad_lt {n k : Nat} (h : n % 16 = k) (hk : 0 < k) : (16 - n % 16) % 16 = 16 - k := by omega
theorem padB_some {l b : List UInt8} {k : Nat} (h : b.length % 16 = k) (hk : 0 < k) : (l ++ b) ++ List.replicate (16 - k) 0 = l ++ padB b := by
  unfold padB zpad
  rw [pad_lt h hk, List.append_assoc]
theorem padB_none {l b : List UInt8} (h : b.length % 16 = 0) : l ++ b = l ++ padB b := by
  unfold padB zpad
  rw [h]
  simp
theorem zeros_rest {w1 : World} {g k : Nat} (hg : g < w1.heap.size) (hk : k < 16) (hk0 : 0 < k) :
    Pol.Rest (w1.alloc (.cells ((List.replicate 16 (0 : UInt8)).map bv).toArray 35)) g (.slice (some ⟨w1.heap.size, k, none⟩) (16 - k) (16 - k)) (List.replicate (16 - k) 0) := by
  refine ⟨_, 16 - k, by rw [List.length_replicate], by simp, fun _ => ⟨w1.heap.size, k, rfl, by omega, by simp, fun i u hu => ?_⟩⟩
  have hrow : Row (w1.alloc (.cells ((List.replicate 16 (0 : UInt8)).map bv).toArray 35)) w1.heap.size ((List.replicate 16 (0 : UInt8)).map bv) 35 := Row.new rfl rfl
  refine hrow.cell ?_
  rw [List.getElem?_replicate] at hu
  split at hu
  · injection hu with hu
    subst hu
    rw [List.getElem?_map, List.getElem?_replicate, if_pos (by omega)]
    rfl
  · cases hu
theorem rest_old {w : World} {B g : Nat} {v : Value} {b : List UInt8} (h : Bs w B v b) (hg : B ≤ g) (hs : B ≤ w.heap.size) : Pol.Rest w g v b := by
  obtain ⟨A, c, rfl, hc, hcs⟩ := h
  refine ⟨A, c, rfl, hc, fun hne => ?_⟩
  obtain ⟨k, off, rfl, hk, hcell⟩ := hcs hne
  exact ⟨k, off, rfl, by omega, by omega, hcell⟩
theorem rest_row {w : World} {g k : Nat} {t : TypeId} {l : List UInt8} (hl : l.length = 16) (h : Row w k (l.map bv) t) (hne : g < k) : Pol.Rest w g (.slice (some ⟨k, 0, none⟩) 16 16) l :=
  ⟨_, 16, by rw [hl], by omega, fun _ => ⟨k, 0, rfl, by omega, h.lt, fun i u hu => h.cell (by rw [Nat.zero_add, List.getElem?_map, hu]; rfl)⟩⟩
theorem row_keep {w w1 : World} {g k : Nat} {t : TypeId} {cs : List Value} (h : Row w k cs t) (hk : Ev.Keep ⟨w, fun k => k = g⟩ w1) (hne : k ≠ g) : Row w1 k cs t := by
  have hlt := h.lt
  refine (hk.block k ?_).trans h
  rintro (e | e)
  · have e' : w.heap.size ≤ k := e
    omega
  · exact hne e
theorem mac_below {w w1 : World} {B g : Nat} {r s : Poly.L} {l : List UInt8} (h : MacAt w g r s l) (hb : Below B w w1) (hg : g < B) : MacAt w1 g r s l := by
  obtain ⟨rest, h1, h2, h3⟩ := h
  exact ⟨rest, h1, h2, h3.below hb hg⟩
theorem mac_lt {w : World} {g : Nat} {r s : Poly.L} {l : List UInt8} (h : MacAt w g r s l) : g < w.heap.size := by
  obtain ⟨rest, h1, h2, h3⟩ := h
  exact h3.lt
theorem keep_trans {w w1 w2 : World} {g : Nat} (h1 : Ev.Keep ⟨w, fun k => k = g⟩ w1) (h2 : Ev.Keep ⟨w1, fun k => k = g⟩ w2) : Ev.Keep ⟨w, fun k => k = g⟩ w2 := by
  have s1 : w.heap.size ≤ w1.heap.size := h1.size
  have s2 : w1.heap.size ≤ w2.heap.size := h2.size
  refine ⟨h2.os.trans h1.os, h2.tape.trans h1.tape, h2.output.trans h1.output, by show w.heap.size ≤ _; omega, fun k hk => ?_⟩
  have hk1 : k < w.heap.size := Nat.lt_of_not_le fun e => hk (.inl e)
  have hk2 : k ≠ g := fun e => hk (.inr e)
  refine (h2.block k ?_).trans (h1.block k hk)
  rintro (e | e)
  · have e' : w1.heap.size ≤ k := e
    omega
  · exact hk2 e
theorem keep_of_below {w w1 : World} {g : Nat} (h : Below w.heap.size w w1) : Ev.Keep ⟨w, fun k => k = g⟩ w1 :=
  ⟨h.os, h.tape, h.output, h.size, fun k hk => h.block k (Nat.lt_of_not_le fun e => hk (.inl e))⟩
set_option maxRecDepth 100000 in
set_option maxHeartbeats 1000000 in
/-- Bytes, and the zeros behind them. -/
theorem Pad_any {w : World} {g : Nat} {r s : Poly.L} {l b : List UInt8} {v : Value} (hr : Poly.Fit r) (h : MacAt w g r s l) (hb : Pol.Rest w g v b) (hsz : l.length + b.length < 4611686018427387000) :
    Calls Try.prog 42 #[.pointer (some ⟨g, 0, none⟩), v] w fun e w1 => e = .returned (.tuple #[]) ∧ MacAt w1 g r s (l ++ padB b) ∧ Ev.Keep ⟨w, fun k => k = g⟩ w1 := by
  obtain ⟨A, c, rfl, hc, hcs⟩ := id hb
  have H := Lib.hid h
  have Hb := Lib.hid hb
  have Hsz := Lib.hid hsz
  clear h hb hcs hsz
  go_enter Try.func42, Try.ntmps42
  go_wp2_with fail
  refine (Pol.Write_any hr H.out Hb.out (by have := Hsz.out; omega)).mono ?_
  rintro e w1 ⟨rfl, hm1, hk1⟩
  have Hm1 := Lib.hid hm1
  have Hk1 := Lib.hid hk1
  clear hm1 hk1
  obtain ⟨k, hk⟩ : ∃ k, b.length % 16 = k := ⟨_, rfl⟩
  have hki : (b.length : Int) % 16 = (k : Int) := by omega
  have hk16 : k < 16 := by omega
  have Hk := Lib.hid hk
  clear hk
  by_cases h0 : k = 0
  · subst h0
    have hki0 : ¬ (0 : Int) < ((0 : Nat) : Int) := by decide
    go_wp2
    go_end0
    exact ⟨rfl, padB_none Hk.out ▸ Hm1.out, Hk1.out⟩
  · have hki0 : (0 : Int) < (k : Int) := by omega
    have hk16i : (k : Int) ≤ 16 := by omega
    have hk16n : ¬ (16 : Int) = (k : Int) := by omega
    have hk16m : ¬ 16 = k := by omega
    go_wp2_with fail
    refine (Pol.Write_any (b := List.replicate (16 - k) 0) hr (mac_below Hm1.out ((Below.refl _ w1).alloc (Nat.le_refl _) _) (mac_lt Hm1.out)) (zeros_rest (mac_lt Hm1.out) hk16 (by omega)) (by have := Hsz.out; rw [List.length_append, List.length_replicate]; omega)).mono ?_
    rintro e w2 ⟨rfl, hm2, hk2⟩
    have Hm2 := Lib.hid hm2
    have Hk2 := Lib.hid hk2
    clear hm2 hk2
    go_wp2
    go_end0
    refine ⟨rfl, padB_some Hk.out (by omega) ▸ Hm2.out, keep_trans Hk1.out (keep_trans (keep_of_below ((Below.refl _ w1).alloc (Nat.le_refl _) _)) Hk2.out)⟩
set_option maxRecDepth 100000 in
set_option maxHeartbeats 1000000 in
theorem ATag_any (key nonce : List UInt8) (cipher along : List UInt8) (v1 v2 : Value) (hk : key.length = 32) (hn : nonce.length = 12) (w : World) (hc : Bs w w.heap.size v1 cipher) (ha : Bs w w.heap.size v2 along) (hcl : cipher.length ≤ 1000000000) (hal : along.length ≤ 1000000000) :
    Calls Try.prog 25 #[arr8 key, arr8 nonce, v1, v2] w fun e w' => e = .returned (arr8 (tag key nonce cipher along)) ∧ Below w.heap.size w w' := by
  obtain ⟨A1, c1, rfl, hc1, hcs1⟩ := id hc
  obtain ⟨A2, c2, rfl, hc2, hcs2⟩ := id ha
  have Hk := Lib.hid hk
  have Hn := Lib.hid hn
  have Hkl := Lib.hid (show (key.map bv).length = 32 by rw [List.length_map]; exact hk)
  have Hnl := Lib.hid (show (nonce.map bv).length = 12 by rw [List.length_map]; exact hn)
  have Hc := Lib.hid hc
  have Ha := Lib.hid ha
  have Hcl := Lib.hid hcl
  have Hal := Lib.hid hal
  obtain ⟨T, hT⟩ : ∃ T, tag key nonce cipher along = T := ⟨_, rfl⟩
  have HT := Lib.hid (show (T.map bv).length = 16 by rw [List.length_map, ← hT]; exact tag_length _ _ _ _)
  have HTe := Lib.hid hT
  rw [hT]
  clear hk hn hc ha hcs1 hcs2 hcl hal hT
  unfold arr8
  go_enter Try.func25, Try.ntmps25
  go_wp2_with (first
    | (refine wpList_loadRow (n := 32) (cs := key.map bv) rfl 24 _ rfl rfl (((Row.new rfl rfl).alloc _).alloc _) Try.underlying24 rfl (by kernel_rfl) Hkl.out ?_)
    | (refine wpList_loadRow (n := 12) (cs := nonce.map bv) rfl 25 _ rfl rfl ((Row.new (by simp) rfl).alloc _) Try.underlying25 rfl (by kernel_rfl) Hnl.out ?_)
    | fail)
  obtain ⟨W, hW⟩ : ∃ W, ((w.alloc (.cells (key.map bv).toArray 24)).alloc (.cells (nonce.map bv).toArray 25)).alloc (.cells ((List.replicate 16 (0 : UInt8)).map bv).toArray 35) = W := ⟨_, rfl⟩
  have hWb : Below w.heap.size w W := hW ▸ (((Below.refl _ w).alloc (Nat.le_refl _) _).alloc (by simp) _).alloc (by simp; omega) _
  have hWs : W.heap.size = w.heap.size + 3 := by rw [← hW]; simp
  have hWr : Row W (w.heap.size + 1 + 1) ((List.replicate 16 (0 : UInt8)).map bv) 35 := hW ▸ Row.new (by simp) rfl
  show Calls _ _ _ (((w.alloc (.cells (key.map bv).toArray 24)).alloc (.cells (nonce.map bv).toArray 25)).alloc (.cells ((List.replicate 16 (0 : UInt8)).map bv).toArray 35)) _
  rw [hW]
  clear hW
  refine (Once_any key nonce Hk.out Hn.out W).mono ?_
  obtain ⟨O, hO⟩ : ∃ O, once key nonce = O := ⟨_, rfl⟩
  rw [hO]
  have HO := Lib.hid hO
  have Hol := Lib.hid (show O.length = 32 by rw [← hO]; exact once_length key nonce)
  clear hO
  rintro e w1 ⟨rfl, hb1⟩
  have Hr1 := Lib.hid (hWr.below hb1 (by omega))
  have Hb1 := Lib.hid (nextB hWb (Nat.le_refl _) hb1)
  have Hs1 := Lib.hid (show w.heap.size + 3 ≤ w1.heap.size by have := hb1.size; omega)
  clear hWr hWb hWs hb1
  go_wp2_with fail
  refine (Pol.New_any Hol.out w1).mono ?_
  rintro e w2 ⟨g, rfl, hg, hrow, hb2⟩
  have Hm2 := Lib.hid (MacAt.new hrow)
  have Hg := Lib.hid (show w1.heap.size ≤ g from hg)
  have Hr2 := Lib.hid (Hr1.out.below hb2 Hr1.out.lt)
  have Hb2 := Lib.hid (nextB Hb1.out (Nat.le_refl _) hb2)
  have Hs2 := Lib.hid (Nat.le_trans Hs1.out hb2.size)
  have Ha2 := Lib.hid (rest_old (Ha.out.below Hb2.out) (Nat.le_trans Hb1.out.size hg) Hb2.out.size)
  clear hg hrow hb2
  go_wp2_with fail
  refine (Pad_any (l := []) (Pol.rOf_fit Hol.out) Hm2.out Ha2.out (by have := Hal.out; simp; omega)).mono ?_
  rintro e w3 ⟨rfl, hm3, hk3⟩
  have Hm3 := Lib.hid hm3
  have Hglt := Lib.hid (mac_lt Hm2.out)
  have Hb3 := Lib.hid (Hb2.out.trans (Pol.keep_below hk3 (lo := w.heap.size) (by rintro k rfl; exact Nat.le_trans Hb1.out.size Hg.out) Hb2.out.size))
  have Hr3 := Lib.hid (row_keep Hr2.out hk3 (by have := Hg.out; have := Hs1.out; omega))
  have Hs3 := Lib.hid (Nat.le_trans Hs2.out hk3.size)
  have Hc3 := Lib.hid (rest_old (Hc.out.below Hb3.out) (Nat.le_trans Hb1.out.size Hg.out) Hb3.out.size)
  clear hm3 hk3
  go_wp2_with fail
  refine (Pad_any (l := [] ++ padB along) (Pol.rOf_fit Hol.out) Hm3.out Hc3.out (by have := Hal.out; have := Hcl.out; have := padB_length along; rw [List.length_append]; simp; omega)).mono ?_
  rintro e w4 ⟨rfl, hm4, hk4⟩
  have Hm4 := Lib.hid hm4
  have Hb4 := Lib.hid (Hb3.out.trans (Pol.keep_below hk4 (lo := w.heap.size) (by rintro k rfl; exact Nat.le_trans Hb1.out.size Hg.out) Hb3.out.size))
  have Hr4 := Lib.hid (row_keep Hr3.out hk4 (by have := Hg.out; have := Hs1.out; omega))
  have Hs4 := Lib.hid (Nat.le_trans Hs3.out hk4.size)
  clear hm4 hk4
  go_wp2_with fail
  refine (lengths_any along.length cipher.length (by have := Hal.out; omega) (by have := Hcl.out; omega) w4).mono ?_
  rintro e w5 ⟨rfl, hb5⟩
  have Hm5 := Lib.hid (mac_below Hm4.out hb5 (mac_lt Hm4.out))
  have Hb5 := Lib.hid (nextB Hb4.out (Nat.le_refl _) hb5)
  have Hr5 := Lib.hid (Hr4.out.below hb5 Hr4.out.lt)
  have Hs5 := Lib.hid (Nat.le_trans Hs4.out hb5.size)
  clear hb5
  obtain ⟨Z, hZ⟩ : ∃ Z, le8 along.length ++ le8 cipher.length = Z := ⟨_, rfl⟩
  rw [hZ]
  have HZ := Lib.hid hZ
  have HZl := Lib.hid (show (Z.map bv).length = 16 by rw [List.length_map, ← hZ]; rfl)
  clear hZ
  unfold arr8
  go_wp2_with (first
    | (refine wpList_storeRow (n := 16) rfl 35 _ _ rfl rfl rfl (cs := Z.map bv) (old := (List.replicate 16 (0 : UInt8)).map bv) (g := w5.heap.size) (Row.new rfl rfl) (by kernel_rfl) HZl.out (by simp) (bytes_one _) ?_
       obtain ⟨w6, hw6⟩ : ∃ w6, (w5.alloc (.cells ((List.replicate 16 (0 : UInt8)).map bv).toArray 35)).setRow w5.heap.size (Z.map bv).toArray = w6 := ⟨_, rfl⟩
       have HR6 := Lib.hid (show Row w6 w5.heap.size (Z.map bv) 35 from hw6 ▸ (Row.new (cs := (List.replicate 16 (0 : UInt8)).map bv) rfl rfl).setRow _)
       have hb56 : Below w5.heap.size w5 w6 := hw6 ▸ below_setRow ((Below.refl _ w5).alloc (Nat.le_refl _) _) (Nat.le_refl _) _
       have Hb56 := Lib.hid hb56
       refine wpList_world hw6 ?_
       clear hw6 hb56)
    | fail)
  have Hm6 := Lib.hid (mac_below Hm5.out Hb56.out (mac_lt Hm5.out))
  have Hr6 := Lib.hid (Hr5.out.below Hb56.out Hr5.out.lt)
  have Hb6 := Lib.hid (nextB Hb5.out (Nat.le_refl _) Hb56.out)
  refine (Pol.Write_any (Pol.rOf_fit Hol.out) Hm6.out (rest_row (by have := HZl.out; rwa [List.length_map] at this) HR6.out (mac_lt Hm5.out)) (by have := HZl.out; have := Hal.out; have := Hcl.out; have := padB_length along; have := padB_length cipher; rw [List.length_map] at *; rw [List.length_append, List.length_append]; simp; omega)).mono ?_
  rintro e w7 ⟨rfl, hm7, hk7⟩
  have hbody : [] ++ padB along ++ padB cipher ++ Z = body cipher along := by rw [← HZ.out]; rfl
  rw [hbody] at hm7
  have Hm7 := Lib.hid hm7
  have Hb7 := Lib.hid (Hb6.out.trans (Pol.keep_below hk7 (lo := w.heap.size) (by rintro k rfl; exact Nat.le_trans Hb1.out.size Hg.out) Hb6.out.size))
  have Hr7 := Lib.hid (row_keep Hr6.out hk7 (by have := Hg.out; have := Hs1.out; omega))
  clear hm7 hk7 hbody
  go_wp2_with fail
  refine (Pol.MTag_any (Pol.rOf_fit Hol.out) (Pol.sOf_fit Hol.out) Hm7.out (by have := body_length cipher along; have := Hal.out; have := Hcl.out; omega)).mono ?_
  rintro e w8 ⟨he, hb8⟩
  have htag : Pol.tagL (rOf O) (sOf O) (body cipher along) = tag key nonce cipher along := by rw [← HO.out]; rfl
  rw [htag, HTe.out] at he
  subst he
  have Hr8 := Lib.hid (Hr7.out.below hb8 Hr7.out.lt)
  have Hb8 := Lib.hid (nextB Hb7.out (Nat.le_refl _) hb8)
  clear hb8 htag
  unfold arr8
  go_wp2_with (first
    | (refine wpList_storeRow (n := 16) rfl 35 _ _ rfl rfl rfl (cs := T.map bv) (old := (List.replicate 16 (0 : UInt8)).map bv) Hr8.out (by kernel_rfl) HT.out (by simp) (bytes_one _) ?_)
    | fail)
  refine bodyPost_ret (results_row rfl _ rfl (Hr8.out.setRow _) Try.underlying35 rfl (by kernel_rfl) (n := 16) HT.out) rfl ?_
  exact ⟨rfl, below_setRow Hb8.out (by omega) _⟩
end Aead
end Go.Proofs.Ytpllbnioncjhaaa
