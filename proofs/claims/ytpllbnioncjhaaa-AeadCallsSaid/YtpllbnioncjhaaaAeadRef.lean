/- The reference's sealing: padded bytes, lengths, the one-time key and the tag. -/
import Derived.Test.YtpllbnioncjhaaaAeadSeal
import Derived.Test.YtpllbnioncjhaaaChaRXor
import Derived.Test.YtpllbnioncjhaaaPolRTag
import Derived.Test.YtpllbnioncjhaaaKit
import Derived.StillTailTactics
import Derived.Deep.QuietTactic
import Derived.BigQuiet
namespace Go.Proofs.Ytpllbnioncjhaaa
open Go.RowKit
namespace Aead
open Pol (own mixed laid)
theorem Bs_one (w : World) (V : Value) (u : UInt8) (hV : V = bv u) : Bs (w.alloc (.cells #[V] 5)) (w.heap.size + 1) (.slice (some ⟨w.heap.size, 0, none⟩) 1 1) [u] :=
  hV ▸ Row.bs (l := [u]) (t := 5) (Row.new rfl rfl) (Nat.lt_succ_self _)
theorem grown_own {w wr w2 : World} {base : Nat} {v : Value} {l : List UInt8} {x : Obj} (hb : Below base w wr) (ho : Own wr base v l) (hg : (wr.alloc x).grownBy w2 v.ownBlock) (hw : base ≤ wr.heap.size) : Below base w w2 :=
  (hb.alloc hw x).grown hg (by simp; omega) (fun k hk => (ho.block_ge hk).1)
def lenOf : Value → Nat
  | .slice _ n _ => n
  | _ => 0
set_option maxRecDepth 100000 in
set_option maxHeartbeats 1000000 in
theorem full_any (b : Value) (l : List UInt8) (w : World) (hb : Bs w w.heap.size b l) (hl : l.length ≤ 1000000) :
    Calls Try.prog 44 #[b] w fun e w' => ∃ v, e = .returned v ∧ Own w' w.heap.size v (padB l) ∧ Below w.heap.size w w' := by
  have Hb := Lib.hid hb
  have Hl := Lib.hid hl
  clear hb hl
  have ho := own_new w
  have Ho := Lib.hid ho
  obtain ⟨z, hz⟩ : ∃ z, (16 - l.length % 16) % 16 = z := ⟨_, rfl⟩
  have hz16 : z < 16 := by omega
  have HPad := Lib.hid (show l ++ List.replicate z 0 = padB l by rw [← hz]; rfl)
  have Hz := Lib.hid hz
  clear ho hz
  go_enter Try.func44, Try.ntmps44
  go_wp2_with (first
    | (at_builtin; refine wpList_app_bytes _ rfl _ _ rfl rfl (l := []) Ho.out rfl (Hb.out.alloc (Nat.le_refl _) _) (by have := Hl.out; simp; omega) (by simp) ?_; intro v2 w2 hown2 hg2 hblk2
       refine PRef.stop ?_)
    | fail)
  unfold PRef.Stop
  have hB2 : Below w.heap.size w w2 := ((Below.refl _ w).alloc (Nat.le_refl _) _).grown hg2 (by simp) (fun k hk => by have hk' : some w.heap.size = some k := hk; injection hk' with hk'; omega)
  rw [List.nil_append] at hown2
  have Hown2 := Lib.hid hown2
  have HB2 := Lib.hid hB2
  clear hown2 hB2 hg2 hblk2
  go_wp2_with fail
  go_loopw [3] (fun ov wr => ∃ k : Nat, k ≤ z ∧ Own wr w.heap.size ov (l ++ List.replicate k 0) ∧ Below w.heap.size w wr) (fun ov _ => l.length + z + 1 - lenOf ov)
  case atStart => exact ⟨0, by omega, by rw [List.replicate_zero, List.append_nil]; exact Hown2.out, HB2.out⟩
  case round =>
    obtain ⟨k, hk, ho, hb⟩ := hrel
    have Ho := Lib.hid ho
    have HB := Lib.hid hb
    obtain ⟨A, c, rfl⟩ := ho.shape
    have hlen : (l ++ List.replicate k (0 : UInt8)).length = l.length + k := by simp
    obtain ⟨n, hn⟩ : ∃ n, l.length + k = n := ⟨_, rfl⟩
    rw [hn] at hlen
    rw [hlen] at Ho ⊢
    have Hlen := Lib.hid hlen
    have Hn := Lib.hid hn
    have hnb : (n : Int) ≤ 2000000 := by have := Hl.out; omega
    clear ho hb hlen hn
    by_cases h1 : k < z
    · have hc1 : (((n : Int) % 16) != 0) = true := by
        have := Hz.out
        have := Hn.out
        rw [bne_iff_ne]
        omega
      have hone := Lib.hid (Bs_one wr (.int .u8 0) 0 rfl)
      go_wp2_with (first
        | (at_builtin; refine wpList_app_bytes _ rfl _ _ rfl rfl (Ho.out.alloc _) rfl hone.out (by rw [Hlen.out]; simp; omega) (by have := HB.out.size; simp; omega) ?_; intro v2 w2 hown2 hg2 hblk2
           have Hown2 := Lib.hid hown2
           have HB2 := Lib.hid (grown_own HB.out Ho.out hg2 HB.out.size)
           obtain ⟨A2, c2, hs2⟩ := hown2.shape
           have Hs2 := Lib.hid hs2
           clear hown2 hg2 hblk2 hs2)
        | fail)
      go_roundw
      case rel => exact ⟨k + 1, h1, by rw [List.replicate_succ', ← List.append_assoc]; exact Hown2.out, HB2.out⟩
      case measure =>
        rw [Hs2.out]
        have := Hn.out
        simp [lenOf]
        omega
    · obtain rfl : k = z := by omega
      have hc1 : (((n : Int) % 16) != 0) = false := by
        have := Hz.out
        have := Hn.out
        rw [bne_eq_false_iff_eq]
        omega
      go_wp2
      go_ret
      exact ⟨_, rfl, by rw [← HPad.out]; exact Ho.out, HB.out⟩
theorem le8_at (n i : Nat) (h : i < 8) : (le8 n)[i]? = some (UInt8.ofNat (n / 256 ^ i)) := by
  match i, h with
  | 0, _ => show some (UInt8.ofNat n) = _; rw [Nat.pow_zero, Nat.div_one]
  | 1, _ => rfl
  | 2, _ => rfl
  | 3, _ => rfl
  | 4, _ => rfl
  | 5, _ => rfl
  | 6, _ => rfl
  | 7, _ => rfl
theorem le8_length (n : Nat) : (le8 n).length = 8 := rfl
set_option maxRecDepth 100000 in
set_option maxHeartbeats 1000000 in
theorem eight_any (n : Nat) (hn : n ≤ 1000000000) (w : World) :
    Calls Try.prog 45 #[.int .i64 (n : Int)] w fun e w' => ∃ v, e = .returned v ∧ Own w' w.heap.size v (le8 n) ∧ Below w.heap.size w w' := by
  have Hn := Lib.hid hn
  clear hn
  go_enter Try.func45, Try.ntmps45
  go_wp2_with fail
  go_loopw [0, 3, 4] (fun nv ov iv wr => ∃ i : Nat, i ≤ 8 ∧ iv = .int .i64 (i : Int) ∧ nv = .int .i64 ((n / 256 ^ i : Nat) : Int) ∧ Own wr w.heap.size ov ((le8 n).take i) ∧ Below w.heap.size w wr) (fun _ _ iv _ => 8 - (intOf iv).toNat)
  case atStart => exact ⟨0, by omega, rfl, by rw [Nat.pow_zero, Nat.div_one], Own.nil _ _, Below.refl _ _⟩
  case round =>
    obtain ⟨i, hi, rfl, rfl, ho, hb⟩ := hrel
    have Ho := Lib.hid ho
    have HB := Lib.hid hb
    have hib : (i : Int) ≤ 8 := by omega
    clear ho hb
    obtain ⟨q, hq⟩ : ∃ q, n / 256 ^ i = q := ⟨_, rfl⟩
    have Hq2 := Lib.hid (show n / 256 ^ (i + 1) = q / 256 by rw [← hq, Nat.pow_succ, Nat.div_div_eq_div_mul])
    have hqb : (q : Int) ≤ 1000000000 := by
      have h1 : q ≤ n := by rw [← hq]; exact Nat.div_le_self _ _
      have := Hn.out
      omega
    rw [hq]
    have Hq := Lib.hid hq
    clear hq
    by_cases h8 : i < 8
    · have h8' : (i : Int) < 8 := by omega
      have hone := Lib.hid (Bs_one wr (.int .u8 ((q : Int) % 256)) (UInt8.ofNat (n / 256 ^ i)) (by unfold bv; rw [Hq.out, UInt8.toNat_ofNat']; simp))
      have Htl := Lib.hid (show ((le8 n).take i).length = i by rw [List.length_take, le8_length]; omega)
      go_wp2_with (first
        | (at_builtin; refine wpList_app_bytes _ rfl _ _ rfl rfl (Ho.out.alloc _) rfl hone.out (by rw [Htl.out]; simp; omega) (by have := HB.out.size; simp; omega) ?_; intro v2 w2 hown2 hg2 hblk2
           have Hown2 := Lib.hid hown2
           have HB2 := Lib.hid (grown_own HB.out Ho.out hg2 HB.out.size)
           clear hown2 hg2 hblk2)
        | fail)
      go_roundw
      case rel => exact ⟨i + 1, h8, by go_num, by rw [Hq2.out]; exact congrArg (Value.int .i64) (by omega), by rw [List.take_add_one, le8_at n i h8]; exact Hown2.out, HB2.out⟩
      case measure => simp [intOf]; omega
    · obtain rfl : i = 8 := by omega
      go_wp2
      go_ret
      exact ⟨_, rfl, by have h := Ho.out; rwa [List.take_of_length_le (by rw [le8_length]; omega)] at h, HB.out⟩
theorem code_world {P : Program} {c : Code} {Q : Exit → Act → World → Prop} {a : Act} {w W : World} (h : w = W) (hk : Code.wp P c Q a W) : Code.wp P c Q a w := h ▸ hk
theorem splice_none {α : Type} (l p : List α) (h : l.length = p.length) : splice l 0 p = p := by
  unfold splice
  rw [List.take_zero, List.nil_append, List.drop_of_length_le (by omega), List.append_nil]
set_option maxRecDepth 100000 in
set_option maxHeartbeats 1000000 in
theorem ROnce_any (key nonce : List UInt8) (hk : key.length = 32) (hn : nonce.length = 12) (w : World) : Calls Try.prog 24 #[arr8 key, arr8 nonce] w fun e w' => e = .returned (arr8 (once key nonce)) ∧ Below w.heap.size w w' := by
  have Hk := Lib.hid hk
  have Hn := Lib.hid hn
  have Hkl := Lib.hid (show (key.map bv).length = 32 by rw [List.length_map]; exact hk)
  have Hnl := Lib.hid (show (nonce.map bv).length = 12 by rw [List.length_map]; exact hn)
  obtain ⟨B, hB⟩ : ∃ B, Cha.block key 0#32 nonce = B := ⟨_, rfl⟩
  obtain ⟨O, hO⟩ : ∃ O, once key nonce = O := ⟨_, rfl⟩
  have HB := Lib.hid hB
  have HO := Lib.hid (show B.take 32 = O by rw [← hB, ← hO]; rfl)
  have Hol := Lib.hid (show (O.map bv).length = 32 by rw [List.length_map, ← hO]; exact once_length key nonce)
  have Hbl := Lib.hid (show (B.map bv).length = 64 by rw [List.length_map, ← hB]; exact Cha.block_length key _ nonce)
  rw [hO]
  clear hB hO
  clear hk hn
  unfold arr8
  go_enter Try.func24, Try.ntmps24
  go_wp2_with (first
    | (refine wpList_loadRow (n := 32) (cs := key.map bv) rfl 24 (.tmp 2) rfl rfl (((Row.new rfl rfl).alloc _).alloc _) Try.underlying24 rfl (by kernel_rfl) Hkl.out ?_)
    | (refine wpList_loadRow (n := 12) (cs := nonce.map bv) rfl 25 (.tmp 3) rfl rfl ((Row.new (by simp) rfl).alloc _) Try.underlying25 rfl (by kernel_rfl) Hnl.out ?_)
    | fail)
  obtain ⟨W, hW⟩ : ∃ W, ((w.alloc (.cells (key.map bv).toArray 24)).alloc (.cells (nonce.map bv).toArray 25)).alloc (.cells ((List.replicate 32 (0 : UInt8)).map bv).toArray 24) = W := ⟨_, rfl⟩
  have hWb : Below w.heap.size w W := hW ▸ (((Below.refl _ w).alloc (Nat.le_refl _) _).alloc (by simp) _).alloc (by simp; omega) _
  have hWs : W.heap.size = w.heap.size + 3 := by rw [← hW]; simp
  have hWr : Row W (w.heap.size + 1 + 1) ((List.replicate 32 (0 : UInt8)).map bv) 24 := hW ▸ Row.new (by simp) rfl
  show Calls _ _ _ (((w.alloc (.cells (key.map bv).toArray 24)).alloc (.cells (nonce.map bv).toArray 25)).alloc (.cells ((List.replicate 32 (0 : UInt8)).map bv).toArray 24)) _
  rw [hW]
  clear hW
  refine (RBlock_any key nonce 0#32 Hk.out Hn.out W).mono ?_
  rintro e w1 ⟨he, hb1⟩
  rw [HB.out] at he
  subst he
  have Hr1 := Lib.hid (hWr.below hb1 (by omega))
  have Hb1 := Lib.hid (nextB hWb (Nat.le_refl _) hb1)
  have Hs1 := Lib.hid (show w.heap.size + 3 ≤ w1.heap.size by have := hb1.size; omega)
  clear hWr hWb hWs hb1
  unfold arr8
  go_wp2_with (first
    | (refine wpList_storeRow (n := 64) rfl 49 (.tmp 5) (.tmp 9) rfl rfl rfl (cs := B.map bv) (old := (List.replicate 64 (0 : UInt8)).map bv) (g := w1.heap.size) (Row.new rfl rfl) (by kernel_rfl) Hbl.out (by simp) (bytes_one _) ?_
       obtain ⟨w2, hw2⟩ : ∃ w2, (w1.alloc (.cells ((List.replicate 64 (0 : UInt8)).map bv).toArray 49)).setRow w1.heap.size (B.map bv).toArray = w2 := ⟨_, rfl⟩
       have HR2 := Lib.hid (show Row w2 w1.heap.size (B.map bv) 49 from hw2 ▸ (Row.new (cs := (List.replicate 64 (0 : UInt8)).map bv) rfl rfl).setRow _)
       have Hr2 := Lib.hid (show Row w2 (w.heap.size + 1 + 1) ((List.replicate 32 (0 : UInt8)).map bv) 24 from hw2 ▸ (Hr1.out.alloc _).setOther _ _ (by have := Hs1.out; omega))
       have Hb2 := Lib.hid (show Below w.heap.size w w2 from hw2 ▸ below_setRow (Hb1.out.alloc (by have := Hs1.out; omega) _) (by have := Hs1.out; omega) _)
       refine wpList_world hw2 ?_
       clear hw2)
    | fail)
  obtain ⟨w3, hw3⟩ : ∃ w3, w2.alloc (.cells ((List.replicate 32 (0 : UInt8)).map bv).toArray 24) = w3 := ⟨_, rfl⟩
  have HR3 := Lib.hid (show Row w3 w1.heap.size (B.map bv) 49 from hw3 ▸ HR2.out.alloc _)
  have Hr3 := Lib.hid (show Row w3 (w.heap.size + 1 + 1) ((List.replicate 32 (0 : UInt8)).map bv) 24 from hw3 ▸ Hr2.out.alloc _)
  have Hn3 := Lib.hid (show Row w3 w2.heap.size ((List.replicate 32 (0 : UInt8)).map bv) 24 from hw3 ▸ Row.new rfl rfl)
  have Hb3 := Lib.hid (show Below w.heap.size w w3 from hw3 ▸ Hb2.out.alloc Hb2.out.size _)
  have Hlt := Lib.hid (show w.heap.size + 1 + 1 < w2.heap.size from Hr2.out.lt)
  refine code_world hw3 ?_
  clear hw3
  go_still_tail 2, mixed
  change wpList _ _ _ _ _ w3.drew
  refine Pol.wpList_copy_keep rfl (.tmp 10) (.tmp 11) 34 34 rfl 5 (by kernel_rfl) (by kernel_rfl) rfl rfl (w := w3.drew) Hn3.out (O.map bv) (by rw [Hol.out]; rfl) (fun j v hj => by
         rw [show (⟨w1.heap.size, 0, none⟩ : Addr).add j = ⟨w1.heap.size, 0 + j, none⟩ by unfold Addr.add; split <;> simp_all]
         rw [Nat.zero_add]
         refine Row.cell (w := w3.drew) HR3.out ?_
         rw [← HO.out, List.map_take, List.getElem?_take] at hj
         split at hj
         · exact hj
         · cases hj) (by rw [Hol.out]; simp) (bytes_one _) ?_
  intro w4 hc4 hk4
  rw [splice_none _ _ (by rw [Hol.out]; simp)] at hc4
  have HC4 := Lib.hid hc4
  have Hr4 := Lib.hid (row_keep (w := w3.drew) Hr3.out hk4 (by have := Hlt.out; omega))
  have Hb4 := Lib.hid (Hb3.out.drew.trans (Pol.keep_below hk4 (lo := w.heap.size) (by rintro k rfl; exact Hb2.out.size) Hb3.out.size))
  clear hc4 hk4
  go_wp2_with (first
    | (refine wpList_loadRow (n := 32) (cs := O.map bv) rfl 24 (.tmp 6) rfl rfl HC4.out Try.underlying24 rfl (by kernel_rfl) Hol.out ?_)
    | (try simp only [Act.put, List.setIfInBounds_toArray, List.set_cons_succ, List.set_cons_zero]
       refine wpList_storeRow (n := 32) rfl 24 (.tmp 4) (.tmp 13) rfl rfl rfl (cs := O.map bv) (old := (List.replicate 32 (0 : UInt8)).map bv) Hr4.out (by kernel_rfl) Hol.out (by simp) (bytes_one _) ?_)
    | fail)
  refine bodyPost_ret (results_row rfl _ rfl (Hr4.out.setRow _) Try.underlying24 rfl (by kernel_rfl) (n := 32) Hol.out) rfl ?_
  exact ⟨rfl, below_setRow Hb4.out (by omega) _⟩
set_option maxRecDepth 100000 in
set_option maxHeartbeats 1000000 in
theorem RTag_any (key nonce : List UInt8) (cipher along : List UInt8) (v1 v2 : Value) (hk : key.length = 32) (hn : nonce.length = 12) (w : World) (hc : Bs w w.heap.size v1 cipher) (ha : Bs w w.heap.size v2 along) (hcl : cipher.length ≤ 300) (hal : along.length ≤ 300) :
    Calls Try.prog 26 #[arr8 key, arr8 nonce, v1, v2] w fun e w' => e = .returned (arr8 (tag key nonce cipher along)) ∧ Below w.heap.size w w' := by
  obtain ⟨A1, c1, rfl, hc1, hcs1⟩ := id hc
  obtain ⟨A2, c2, rfl, hc2, hcs2⟩ := id ha
  have Hk := Lib.hid hk
  have Hn := Lib.hid hn
  have Hkl := Lib.hid (show (key.map bv).length = 32 by rw [List.length_map]; exact hk)
  have Hnl := Lib.hid (show (nonce.map bv).length = 12 by rw [List.length_map]; exact hn)
  have Hc := Lib.hid hc
  have Ha := Lib.hid ha
  have Hcl := Lib.hid hcl
  have Hal := Lib.hid hal
  obtain ⟨T, hT⟩ : ∃ T, tag key nonce cipher along = T := ⟨_, rfl⟩
  have HT := Lib.hid (show (T.map bv).length = 16 by rw [List.length_map, ← hT]; exact tag_length _ _ _ _)
  have HTe := Lib.hid hT
  have hpa := padB_length along
  have hpc := padB_length cipher
  have HPa := Lib.hid (show (padB along).length ≤ 315 by omega)
  have HPc := Lib.hid (show (padB cipher).length ≤ 315 by omega)
  have HBody := Lib.hid (show padB along ++ padB cipher ++ le8 along.length ++ le8 cipher.length = body cipher along by unfold body; rw [List.append_assoc _ (le8 along.length)])
  have HBl := Lib.hid (show (body cipher along).length ≤ 650 by have := body_length cipher along; omega)
  rw [hT]
  clear hk hn hc ha hcs1 hcs2 hcl hal hT hpa hpc
  unfold arr8
  go_enter Try.func26, Try.ntmps26
  go_wp2_with fail
  obtain ⟨W, hW⟩ : ∃ W, ((w.alloc (.cells (key.map bv).toArray 24)).alloc (.cells (nonce.map bv).toArray 25)).alloc (.cells ((List.replicate 16 (0 : UInt8)).map bv).toArray 35) = W := ⟨_, rfl⟩
  have HW := Lib.hid (show Below w.heap.size w W from hW ▸ (((Below.refl _ w).alloc (Nat.le_refl _) _).alloc (by simp) _).alloc (by simp; omega) _)
  have HKW := Lib.hid (show Row W w.heap.size (key.map bv) 24 from hW ▸ ((Row.new rfl rfl).alloc _).alloc _)
  have HNW := Lib.hid (show Row W (w.heap.size + 1) (nonce.map bv) 25 from hW ▸ (Row.new (by simp) rfl).alloc _)
  have HTW := Lib.hid (show Row W (w.heap.size + 1 + 1) ((List.replicate 16 (0 : UInt8)).map bv) 35 from hW ▸ Row.new (by simp) rfl)
  show Calls _ _ _ (((w.alloc (.cells (key.map bv).toArray 24)).alloc (.cells (nonce.map bv).toArray 25)).alloc (.cells ((List.replicate 16 (0 : UInt8)).map bv).toArray 35)) _
  rw [hW]
  clear hW
  refine (full_any _ along W ((Ha.out.below HW.out).more HW.out.size) (by have := Hal.out; omega)).mono ?_
  rintro e w1 ⟨v1, rfl, ho1, hb1⟩
  have HO1 := Lib.hid ho1
  have HB1 := Lib.hid hb1
  have HWB1 := Lib.hid (nextB HW.out (Nat.le_refl _) hb1)
  clear ho1 hb1
  go_wp2_with fail
  refine (full_any _ cipher w1 ((Hc.out.below HWB1.out).more HWB1.out.size) (by have := Hcl.out; omega)).mono ?_
  rintro e w2 ⟨v2, rfl, ho2, hb2⟩
  have HO2 := Lib.hid ho2
  have HO12 := Lib.hid (HO1.out.below hb2 (Nat.le_refl _))
  have HB2 := Lib.hid (nextB HB1.out (Nat.le_refl _) hb2)
  clear ho2 hb2
  go_wp2_with (first
    | (at_builtin; refine wpList_app_bytes _ rfl _ _ rfl rfl HO12.out rfl HO2.out.bs (by have := HPa.out; have := HPc.out; omega) HB2.out.size ?_
       intro v3 w3 ho3 hg3 _
       refine PRef.stop ?_)
    | fail)
  unfold PRef.Stop
  have HO3 := Lib.hid ho3
  have HB3 := Lib.hid (HB2.out.grown hg3 HB2.out.size (fun k hk => (HO12.out.block_ge hk).1))
  clear ho3 hg3
  go_wp2_with fail
  refine (eight_any along.length (by have := Hal.out; omega) w3).mono ?_
  rintro e w4 ⟨v4, rfl, ho4, hb4⟩
  have HO4 := Lib.hid ho4
  have HO34 := Lib.hid (HO3.out.below hb4 (Nat.le_refl _))
  have HB4 := Lib.hid (nextB HB3.out (Nat.le_refl _) hb4)
  clear ho4 hb4
  go_wp2_with (first
    | (at_builtin; refine wpList_app_bytes _ rfl _ _ rfl rfl HO34.out rfl HO4.out.bs (by have := HPa.out; have := HPc.out; rw [List.length_append, le8_length]; omega) HB4.out.size ?_
       intro v5 w5 ho5 hg5 _
       refine PRef.stop ?_)
    | fail)
  unfold PRef.Stop
  have HO5 := Lib.hid ho5
  have HB5 := Lib.hid (HB4.out.grown hg5 HB4.out.size (fun k hk => (HO34.out.block_ge hk).1))
  clear ho5 hg5
  go_wp2_with fail
  refine (eight_any cipher.length (by have := Hcl.out; omega) w5).mono ?_
  rintro e w6 ⟨v6, rfl, ho6, hb6⟩
  have HO6 := Lib.hid ho6
  have HO56 := Lib.hid (HO5.out.below hb6 (Nat.le_refl _))
  have HB6 := Lib.hid (nextB HB5.out (Nat.le_refl _) hb6)
  clear ho6 hb6
  go_wp2_with (first
    | (at_builtin; refine wpList_app_bytes _ rfl _ _ rfl rfl HO56.out rfl HO6.out.bs (by have := HPa.out; have := HPc.out; rw [List.length_append, List.length_append, le8_length, le8_length]; omega) HB6.out.size ?_
       intro v7 w7 ho7 hg7 _
       refine PRef.stop ?_)
    | fail)
  unfold PRef.Stop
  rw [HBody.out] at ho7
  have HO7 := Lib.hid ho7
  have HB7 := Lib.hid (HB6.out.grown hg7 HB6.out.size (fun k hk => (HO56.out.block_ge hk).1))
  have HK7 := Lib.hid (HKW.out.below HB7.out HKW.out.lt)
  have HN7 := Lib.hid (HNW.out.below HB7.out HNW.out.lt)
  have HT7 := Lib.hid (HTW.out.below HB7.out HTW.out.lt)
  have HWB7 := Lib.hid (nextB HW.out (Nat.le_refl _) HB7.out)
  clear ho7 hg7
  go_wp2_with (first
    | (refine wpList_loadRow (n := 32) (cs := key.map bv) rfl 24 (.tmp 4) rfl rfl HK7.out Try.underlying24 rfl (by kernel_rfl) Hkl.out ?_)
    | (refine wpList_loadRow (n := 12) (cs := nonce.map bv) rfl 25 (.tmp 5) rfl rfl HN7.out Try.underlying25 rfl (by kernel_rfl) Hnl.out ?_)
    | fail)
  refine (ROnce_any key nonce Hk.out Hn.out w7).mono ?_
  rintro e w8 ⟨rfl, hb8⟩
  have HO8 := Lib.hid (HO7.out.below hb8 (Nat.le_refl _))
  have HT8 := Lib.hid (HT7.out.below hb8 HT7.out.lt)
  have HWB8 := Lib.hid (nextB HWB7.out (Nat.le_refl _) hb8)
  clear hb8
  go_wp2_with fail
  refine (PRef.RTag_any (once_length key nonce) w8 HO8.out.bs HBl.out).mono ?_
  rintro e w9 ⟨he, hb9⟩
  have htag : Pol.tagK (once key nonce) (body cipher along) = tag key nonce cipher along := rfl
  rw [htag, HTe.out] at he
  subst he
  have HT9 := Lib.hid (HT8.out.below hb9 HT8.out.lt)
  have HWB9 := Lib.hid (nextB HWB8.out (Nat.le_refl _) hb9)
  clear hb9 htag
  unfold arr8
  go_wp2_with (first
    | (try simp only [Act.put, List.setIfInBounds_toArray, List.set_cons_succ, List.set_cons_zero]
       refine wpList_storeRow (n := 16) rfl 35 (.tmp 8) (.tmp 28) rfl rfl rfl (cs := T.map bv) (old := (List.replicate 16 (0 : UInt8)).map bv) HT9.out (by kernel_rfl) HT.out (by simp) (bytes_one _) ?_)
    | fail)
  refine bodyPost_ret (results_row rfl _ rfl (HT9.out.setRow _) Try.underlying35 rfl (by kernel_rfl) (n := 16) HT.out) rfl ?_
  exact ⟨rfl, below_setRow HWB9.out (by omega) _⟩
set_option maxRecDepth 100000 in
set_option maxHeartbeats 1000000 in
theorem RSeal_any (key nonce plain along : List UInt8) (v1 v2 : Value) (hk : key.length = 32) (hn : nonce.length = 12) (w : World) (hp : Bs w w.heap.size v1 plain) (ha : Bs w w.heap.size v2 along) (hpl : plain.length ≤ 300) (hal : along.length ≤ 300) :
    Calls Try.prog 20 #[arr8 key, arr8 nonce, v1, v2] w fun e w' => ∃ v, e = .returned (.tuple #[v, .int .i64 0]) ∧ Own w' w.heap.size v (sealed key nonce plain along) ∧ Below w.heap.size w w' := by
  obtain ⟨A1, c1, rfl, hc1, hcs1⟩ := id hp
  obtain ⟨A2, c2, rfl, hc2, hcs2⟩ := id ha
  have Hk := Lib.hid hk
  have Hn := Lib.hid hn
  have Hkl := Lib.hid (show (key.map bv).length = 32 by rw [List.length_map]; exact hk)
  have Hnl := Lib.hid (show (nonce.map bv).length = 12 by rw [List.length_map]; exact hn)
  have Hp := Lib.hid hp
  have Ha := Lib.hid ha
  have Hpl := Lib.hid hpl
  have Hal := Lib.hid hal
  have h1' : ¬ (65536 : Int) < (plain.length : Int) := by omega
  have h2' : ¬ (65536 : Int) < (along.length : Int) := by omega
  clear hk hn hp ha hcs1 hcs2 hpl hal
  unfold arr8
  go_enter Try.func20, Try.ntmps20
  go_wp2_with (first
    | (refine wpList_loadRow (n := 32) (cs := key.map bv) rfl 24 (.tmp 4) rfl rfl ((Row.new rfl rfl).alloc _) Try.underlying24 rfl (by kernel_rfl) Hkl.out ?_)
    | (refine wpList_loadRow (n := 12) (cs := nonce.map bv) rfl 25 (.tmp 5) rfl rfl (Row.new (by simp) rfl) Try.underlying25 rfl (by kernel_rfl) Hnl.out ?_)
    | fail)
  obtain ⟨W, hW⟩ : ∃ W, (w.alloc (.cells (key.map bv).toArray 24)).alloc (.cells (nonce.map bv).toArray 25) = W := ⟨_, rfl⟩
  have HW := Lib.hid (show Below w.heap.size w W from hW ▸ ((Below.refl _ w).alloc (Nat.le_refl _) _).alloc (by simp) _)
  have HKW := Lib.hid (show Row W w.heap.size (key.map bv) 24 from hW ▸ (Row.new rfl rfl).alloc _)
  have HNW := Lib.hid (show Row W (w.heap.size + 1) (nonce.map bv) 25 from hW ▸ Row.new (by simp) rfl)
  show Calls _ _ _ ((w.alloc (.cells (key.map bv).toArray 24)).alloc (.cells (nonce.map bv).toArray 25)) _
  rw [hW]
  clear hW h1' h2'
  refine (RXor_ok key nonce plain _ 1#32 Hk.out Hn.out W ((Hp.out.below HW.out).more HW.out.size) (by have := Hpl.out; omega) (by have := Hpl.out; unfold Cha.long; simp; omega)).mono ?_
  rintro e w1 ⟨v1, rfl, ho1, hb1⟩
  obtain ⟨X, hX⟩ : ∃ X, Cha.xor key 1#32 nonce plain = X := ⟨_, rfl⟩
  have HX := Lib.hid hX
  have HXl := Lib.hid (show X.length ≤ 300 by rw [← hX, Cha.xor_length]; exact Hpl.out)
  rw [hX] at ho1
  have HO1 := Lib.hid ho1
  have HB1 := Lib.hid hb1
  have HK1 := Lib.hid (HKW.out.below hb1 HKW.out.lt)
  have HN1 := Lib.hid (HNW.out.below hb1 HNW.out.lt)
  have HWB1 := Lib.hid (nextB HW.out (Nat.le_refl _) hb1)
  clear hX ho1 hb1
  go_wp2_with (first
    | (refine wpList_loadRow (n := 32) (cs := key.map bv) rfl 24 (.tmp 4) rfl rfl HK1.out Try.underlying24 rfl (by kernel_rfl) Hkl.out ?_)
    | (refine wpList_loadRow (n := 12) (cs := nonce.map bv) rfl 25 (.tmp 5) rfl rfl HN1.out Try.underlying25 rfl (by kernel_rfl) Hnl.out ?_)
    | fail)
  refine (RTag_any key nonce X along v1 _ Hk.out Hn.out w1 HO1.out.bs ((Ha.out.below HWB1.out).more HWB1.out.size) HXl.out Hal.out).mono ?_
  rintro e w2 ⟨he, hb2⟩
  obtain ⟨T, hT⟩ : ∃ T, tag key nonce X along = T := ⟨_, rfl⟩
  have HT := Lib.hid (show (T.map bv).length = 16 by rw [List.length_map, ← hT]; exact tag_length _ _ _ _)
  have HTe := Lib.hid (show X ++ T = sealed key nonce plain along by rw [← hT, ← HX.out]; rfl)
  rw [hT] at he
  subst he
  have HO2 := Lib.hid (HO1.out.below hb2 (Nat.le_refl _))
  have HB2 := Lib.hid (nextB HB1.out (Nat.le_refl _) hb2)
  have HWB2 := Lib.hid (nextB HWB1.out (Nat.le_refl _) hb2)
  clear hb2 hT
  unfold arr8
  go_wp2_with (first
    | (try simp only [Act.put, List.setIfInBounds_toArray, List.set_cons_succ, List.set_cons_zero]
       refine wpList_storeRow (n := 16) rfl 35 (.tmp 12) (.tmp 32) rfl rfl rfl (cs := T.map bv) (old := (List.replicate 16 (0 : UInt8)).map bv) (g := w2.heap.size) (Row.new rfl rfl) (by kernel_rfl) HT.out (by simp) (bytes_one _) ?_
       obtain ⟨w3, hw3⟩ : ∃ w3, (w2.alloc (.cells ((List.replicate 16 (0 : UInt8)).map bv).toArray 35)).setRow w2.heap.size (T.map bv).toArray = w3 := ⟨_, rfl⟩
       have HR3 := Lib.hid (show Row w3 w2.heap.size (T.map bv) 35 from hw3 ▸ (Row.new (cs := (List.replicate 16 (0 : UInt8)).map bv) rfl rfl).setRow _)
       have hb23 : Below w2.heap.size w2 w3 := hw3 ▸ below_setRow ((Below.refl _ w2).alloc (Nat.le_refl _) _) (Nat.le_refl _) _
       have HO3 := Lib.hid (HO2.out.below hb23 (Nat.le_refl _))
       have HB3 := Lib.hid (nextB HB2.out (Nat.le_refl _) hb23)
       have HWB3 := Lib.hid (nextB HWB2.out (Nat.le_refl _) hb23)
       refine wpList_world hw3 ?_
       clear hw3 hb23)
    | (at_builtin; refine wpList_app_bytes _ rfl _ _ rfl rfl HO3.out rfl (bs_row HT.out HR3.out) (by have := HXl.out; have := HT.out; rw [List.length_map] at this; omega) HB3.out.size ?_
       intro v4 w4 ho4 hg4 _
       have HO4 := Lib.hid (ho4.less HW.out.size)
       have HWB4 := Lib.hid (HWB3.out.grown hg4 HWB3.out.size (fun k hk => Nat.le_trans HW.out.size (HO3.out.block_ge hk).1))
       clear ho4 hg4)
    | fail)
  go_ret2
  exact ⟨_, rfl, by rw [← HTe.out]; exact HO4.out, HWB4.out⟩
set_option maxRecDepth 100000 in
set_option maxHeartbeats 1000000 in
theorem ROpen_more (key nonce : List UInt8) (A1 : Option Addr) (v2 : Value) (n1 c1 : Nat) (h : n1 < 16) (w : World) :
    Calls Try.prog 22 #[arr8 key, arr8 nonce, .slice A1 n1 c1, v2] w fun e w' => e = .returned (.tuple #[.slice none 0 0, .int .i64 5]) ∧ Below w.heap.size w w' := by
  unfold arr8
  have h1' : (n1 : Int) < (16 : Int) := by omega
  go_enter Try.func22, Try.ntmps22
  go_wp2
  go_ret2
  exact ⟨rfl, ((Below.refl _ w).alloc (Nat.le_refl _) _).alloc (by simp) _⟩
set_option maxRecDepth 100000 in
set_option maxHeartbeats 1000000 in
theorem ROpen_ok (key nonce c t along : List UInt8) (v1 v2 : Value) (hk : key.length = 32) (hn : nonce.length = 12) (ht : t.length = 16) (w : World) (hp : Bs w w.heap.size v1 (c ++ t)) (ha : Bs w w.heap.size v2 along) (hcl : c.length ≤ 300) (hal : along.length ≤ 300) :
    Calls Try.prog 22 #[arr8 key, arr8 nonce, v1, v2] w fun e w' => (if t = tag key nonce c along then ∃ v, e = .returned (.tuple #[v, .int .i64 0]) ∧ Own w' w.heap.size v (Cha.xor key 1#32 nonce c) else e = .returned (.tuple #[.slice none 0 0, .int .i64 12])) ∧ Below w.heap.size w w' := by
  have hlen : (c ++ t).length = c.length + 16 := by rw [List.length_append, ht]
  obtain ⟨A1, c1, rfl, hc1, hcs1⟩ := id hp
  obtain ⟨A2, c2, rfl, hc2, hcs2⟩ := id ha
  obtain ⟨kb, off, rfl, hkb, hcells⟩ := hcs1 (by intro h; rw [h] at hlen; simp at hlen)
  obtain ⟨m, hm⟩ : ∃ m, c.length = m := ⟨_, rfl⟩
  obtain ⟨n, hnn⟩ : ∃ n, m + 16 = n := ⟨_, rfl⟩
  rw [hlen, hm, hnn] at hp hc1 ⊢
  have hcb : Bs w w.heap.size (.slice (some ⟨kb, off, none⟩) m c1) c := ⟨_, _, by rw [hm], by omega, fun _ => ⟨kb, off, rfl, hkb, fun i u hu => hcells i u (by rw [List.getElem?_append_left (List.getElem?_eq_some_iff.1 hu).1]; exact hu)⟩⟩
  have htb : Bs w w.heap.size (.slice (some ⟨kb, off + m, none⟩) (n - m) (c1 - m)) t := ⟨_, _, by rw [ht, ← hnn, Nat.add_sub_cancel_left], by omega, fun _ => ⟨kb, off + m, rfl, hkb, fun i u hu => by
    rw [Nat.add_assoc]
    exact hcells (m + i) u (by rw [List.getElem?_append_right (by omega), hm, Nat.add_sub_cancel_left]; exact hu)⟩⟩
  obtain ⟨T, hT⟩ : ∃ T, tag key nonce c along = T := ⟨_, rfl⟩
  obtain ⟨X, hX⟩ : ∃ X, Cha.xor key 1#32 nonce c = X := ⟨_, rfl⟩
  rw [hT, hX]
  have HT := Lib.hid hT
  have HX := Lib.hid hX
  have HTl := Lib.hid (show (T.map bv).length = 16 by rw [List.length_map, ← hT]; exact tag_length _ _ _ _)
  have Hk := Lib.hid hk
  have Hn := Lib.hid hn
  have Hkl := Lib.hid (show (key.map bv).length = 32 by rw [List.length_map]; exact hk)
  have Hnl := Lib.hid (show (nonce.map bv).length = 12 by rw [List.length_map]; exact hn)
  have Hc := Lib.hid hcb
  have Htb := Lib.hid htb
  have Ha := Lib.hid ha
  have Hcl := Lib.hid (show c.length ≤ 300 from hcl)
  have Hal := Lib.hid hal
  have h0' : ¬ (n : Int) < (16 : Int) := by omega
  have h1' : ¬ (65552 : Int) < (n : Int) := by omega
  have h2' : ¬ (65536 : Int) < (along.length : Int) := by omega
  have hsub : (n : Int) - 16 = (m : Int) := by omega
  have hmn : (m : Int) ≤ (n : Int) := by omega
  have hmc : (m : Int) ≤ (c1 : Int) := by omega
  have hnc : (n : Int) ≤ (c1 : Int) := by omega
  have hcm : ¬ c1 = m := by omega
  clear hk hn hp ha hcs1 hcs2 hcl hal hnn hlen hm ht hcells hcb htb hT hX
  unfold arr8
  go_enter Try.func22, Try.ntmps22
  go_wp2_with (first
    | (refine wpList_loadRow (n := 32) (cs := key.map bv) rfl 24 (.tmp 4) rfl rfl ((Row.new rfl rfl).alloc _) Try.underlying24 rfl (by kernel_rfl) Hkl.out ?_)
    | (refine wpList_loadRow (n := 12) (cs := nonce.map bv) rfl 25 (.tmp 5) rfl rfl (Row.new (by simp) rfl) Try.underlying25 rfl (by kernel_rfl) Hnl.out ?_)
    | fail)
  obtain ⟨W, hW⟩ : ∃ W, (w.alloc (.cells (key.map bv).toArray 24)).alloc (.cells (nonce.map bv).toArray 25) = W := ⟨_, rfl⟩
  have HW := Lib.hid (show Below w.heap.size w W from hW ▸ ((Below.refl _ w).alloc (Nat.le_refl _) _).alloc (by simp) _)
  have HKW := Lib.hid (show Row W w.heap.size (key.map bv) 24 from hW ▸ (Row.new rfl rfl).alloc _)
  have HNW := Lib.hid (show Row W (w.heap.size + 1) (nonce.map bv) 25 from hW ▸ Row.new (by simp) rfl)
  show Calls _ _ _ ((w.alloc (.cells (key.map bv).toArray 24)).alloc (.cells (nonce.map bv).toArray 25)) _
  rw [hW]
  clear hW
  refine (RTag_any key nonce c along _ _ Hk.out Hn.out W ((Hc.out.below HW.out).more HW.out.size) ((Ha.out.below HW.out).more HW.out.size) Hcl.out Hal.out).mono ?_
  rintro e w2 ⟨he, hb2⟩
  rw [HT.out] at he
  subst he
  have HB2 := Lib.hid hb2
  have HWB2 := Lib.hid (nextB HW.out (Nat.le_refl _) hb2)
  clear hb2
  unfold arr8
  go_wp2_with (first
    | (try simp only [Act.put, List.setIfInBounds_toArray, List.set_cons_succ, List.set_cons_zero]
       refine wpList_storeRow (n := 16) rfl 35 (.tmp 11) (.tmp 34) rfl rfl rfl (cs := T.map bv) (old := (List.replicate 16 (0 : UInt8)).map bv) (g := w2.heap.size) (Row.new rfl rfl) (by kernel_rfl) HTl.out (by simp) (bytes_one _) ?_
       obtain ⟨w3, hw3⟩ : ∃ w3, (w2.alloc (.cells ((List.replicate 16 (0 : UInt8)).map bv).toArray 35)).setRow w2.heap.size (T.map bv).toArray = w3 := ⟨_, rfl⟩
       have HR3 := Lib.hid (show Row w3 w2.heap.size (T.map bv) 35 from hw3 ▸ (Row.new (cs := (List.replicate 16 (0 : UInt8)).map bv) rfl rfl).setRow _)
       have hb23 : Below w2.heap.size w2 w3 := hw3 ▸ below_setRow ((Below.refl _ w2).alloc (Nat.le_refl _) _) (Nat.le_refl _) _
       have HB3 := Lib.hid (nextB HB2.out (Nat.le_refl _) hb23)
       have HWB3 := Lib.hid (nextB HWB2.out (Nat.le_refl _) hb23)
       refine wpList_world hw3 ?_
       clear hw3 hb23)
    | fail)
  have HT3 := Lib.hid (bs_row HTl.out HR3.out)
  have Ht3 := Lib.hid ((Htb.out.below HWB3.out).more HWB3.out.size)
  by_cases heq : t = T
  · have Heq := Lib.hid heq
    clear heq
    refine By.marks mixed Grew [By.is (.slice (some ⟨w2.heap.size, 0, none⟩) 16 16),
      By.is (strOf T),
      By.is (.slice (some ⟨kb, off, none⟩) n c1),
      By.is (.slice (some ⟨kb, off, none⟩) m c1),
      By.is (.int .i64 (m : Int)),
      By.is (.slice (some ⟨kb, off + m, none⟩) (n - m) (c1 - m)),
      By.is (strOf t),
      By.is (.bool false)]
      (Ev.masks _ []) (by kernel_rfl) rfl Grew.refl Grew.trans ⟨?_, ?_, ?_, ?_, ?_, ?_, ?_, ?_, trivial⟩ ?_
    · intro a w ht hs hg -- 35
      have h11 := By.same_get hs 11 (by decide) (by kernel_rfl)
      refine By.yes rfl ?_
      clear hs hg
      go_simp
      exact ⟨_, rfl, Grew.refl _, rfl⟩
    · intro a w ht hs hg -- 36
      have h35 : a.tmps.getD 35 undef = _ := By.given_get hg 0 rfl rfl (by kernel_rfl)
      refine By.yes rfl ?_
      clear hs hg
      have hr := run_str w (Bs.below (w := w3.drew) HT3.out ht)
      go_simp
      exact ⟨_, rfl, Grew.refl _, rfl⟩
    · intro a w ht hs hg -- 37
      have h2 := By.same_get hs 2 (by decide) (by kernel_rfl)
      refine By.yes rfl ?_
      clear hs hg
      go_simp
      exact ⟨_, rfl, Grew.refl _, rfl⟩
    · intro a w ht hs hg -- 38
      have h10 := By.same_get hs 10 (by decide) (by kernel_rfl)
      refine By.yes rfl ?_
      clear hs hg
      go_simp
      exact ⟨_, rfl, Grew.refl _, rfl⟩
    · intro a w ht hs hg -- 39
      have h38 : a.tmps.getD 38 undef = _ := By.given_get hg 3 rfl rfl (by kernel_rfl)
      refine By.yes rfl ?_
      clear hs hg
      go_simp
      exact ⟨_, rfl, Grew.refl _, rfl⟩
    · intro a w ht hs hg -- 40
      have h37 : a.tmps.getD 37 undef = _ := By.given_get hg 2 rfl rfl (by kernel_rfl)
      have h39 : a.tmps.getD 39 undef = _ := By.given_get hg 4 rfl rfl (by kernel_rfl)
      refine By.yes rfl ?_
      clear hs hg
      go_simp
      exact ⟨_, rfl, Grew.refl _, rfl⟩
    · intro a w ht hs hg -- 41
      have h40 : a.tmps.getD 40 undef = _ := By.given_get hg 5 rfl rfl (by kernel_rfl)
      refine By.yes rfl ?_
      clear hs hg
      have hr := run_str w (Bs.below (w := w3.drew) Ht3.out ht)
      go_simp
      exact ⟨_, rfl, Grew.refl _, rfl⟩
    · intro a w ht hs hg -- 42
      have h36 : a.tmps.getD 36 undef = _ := By.given_get hg 1 rfl rfl (by kernel_rfl)
      have h41 : a.tmps.getD 41 undef = _ := By.given_get hg 6 rfl rfl (by kernel_rfl)
      refine By.yes rfl ?_
      clear hs hg
      have he := Heq.out
      go_simp
      exact ⟨_, rfl, Grew.refl _, congrArg Value.bool (by simp [he])⟩
    refine By.ends_is (By.ends_is (By.ends_is (By.ends_is (By.ends_is (By.ends_is (By.ends_is (By.ends_is (By.ends_nil fun wz hz => ?_))))))))
    simp only [Act.put, List.setIfInBounds_toArray, List.set_cons_succ, List.set_cons_zero]
    have hz : Below w3.heap.size w3.drew wz := hz
    have HBz := Lib.hid (nextB (b := w3.drew) HB3.out.drew (Nat.le_refl _) hz)
    have HWBz := Lib.hid (nextB (b := w3.drew) HWB3.out.drew (Nat.le_refl _) hz)
    have HKz := Lib.hid (HKW.out.below HBz.out HKW.out.lt)
    have HNz := Lib.hid (HNW.out.below HBz.out HNW.out.lt)
    clear hz
    go_wp2_with (first
      | (refine wpList_loadRow (n := 32) (cs := key.map bv) rfl 24 (.tmp 4) rfl rfl HKz.out Try.underlying24 rfl (by kernel_rfl) Hkl.out ?_)
      | (refine wpList_loadRow (n := 12) (cs := nonce.map bv) rfl 25 (.tmp 5) rfl rfl HNz.out Try.underlying25 rfl (by kernel_rfl) Hnl.out ?_)
      | fail)
    refine (RXor_ok key nonce c _ 1#32 Hk.out Hn.out wz ((Hc.out.below HWBz.out).more HWBz.out.size) (by have := Hcl.out; omega) (by have := Hcl.out; unfold Cha.long; simp; omega)).mono ?_
    rintro e w5 ⟨v5, rfl, ho5, hb5⟩
    rw [HX.out] at ho5
    have HO5 := Lib.hid (ho5.less HWBz.out.size)
    have HWB5 := Lib.hid (nextB HWBz.out (Nat.le_refl _) hb5)
    clear ho5 hb5
    go_wp2
    go_ret2
    refine ⟨?_, HWB5.out⟩
    exact ⟨_, rfl, HO5.out⟩
  · have Heq := Lib.hid heq
    clear heq
    refine By.marks mixed Grew [By.is (.slice (some ⟨w2.heap.size, 0, none⟩) 16 16),
      By.is (strOf T),
      By.is (.slice (some ⟨kb, off, none⟩) n c1),
      By.is (.slice (some ⟨kb, off, none⟩) m c1),
      By.is (.int .i64 (m : Int)),
      By.is (.slice (some ⟨kb, off + m, none⟩) (n - m) (c1 - m)),
      By.is (strOf t),
      By.is (.bool true)]
      (Ev.masks _ []) (by kernel_rfl) rfl Grew.refl Grew.trans ⟨?_, ?_, ?_, ?_, ?_, ?_, ?_, ?_, trivial⟩ ?_
    · intro a w ht hs hg -- 35
      have h11 := By.same_get hs 11 (by decide) (by kernel_rfl)
      refine By.yes rfl ?_
      clear hs hg
      go_simp
      exact ⟨_, rfl, Grew.refl _, rfl⟩
    · intro a w ht hs hg -- 36
      have h35 : a.tmps.getD 35 undef = _ := By.given_get hg 0 rfl rfl (by kernel_rfl)
      refine By.yes rfl ?_
      clear hs hg
      have hr := run_str w (Bs.below (w := w3.drew) HT3.out ht)
      go_simp
      exact ⟨_, rfl, Grew.refl _, rfl⟩
    · intro a w ht hs hg -- 37
      have h2 := By.same_get hs 2 (by decide) (by kernel_rfl)
      refine By.yes rfl ?_
      clear hs hg
      go_simp
      exact ⟨_, rfl, Grew.refl _, rfl⟩
    · intro a w ht hs hg -- 38
      have h10 := By.same_get hs 10 (by decide) (by kernel_rfl)
      refine By.yes rfl ?_
      clear hs hg
      go_simp
      exact ⟨_, rfl, Grew.refl _, rfl⟩
    · intro a w ht hs hg -- 39
      have h38 : a.tmps.getD 38 undef = _ := By.given_get hg 3 rfl rfl (by kernel_rfl)
      refine By.yes rfl ?_
      clear hs hg
      go_simp
      exact ⟨_, rfl, Grew.refl _, rfl⟩
    · intro a w ht hs hg -- 40
      have h37 : a.tmps.getD 37 undef = _ := By.given_get hg 2 rfl rfl (by kernel_rfl)
      have h39 : a.tmps.getD 39 undef = _ := By.given_get hg 4 rfl rfl (by kernel_rfl)
      refine By.yes rfl ?_
      clear hs hg
      go_simp
      exact ⟨_, rfl, Grew.refl _, rfl⟩
    · intro a w ht hs hg -- 41
      have h40 : a.tmps.getD 40 undef = _ := By.given_get hg 5 rfl rfl (by kernel_rfl)
      refine By.yes rfl ?_
      clear hs hg
      have hr := run_str w (Bs.below (w := w3.drew) Ht3.out ht)
      go_simp
      exact ⟨_, rfl, Grew.refl _, rfl⟩
    · intro a w ht hs hg -- 42
      have h36 : a.tmps.getD 36 undef = _ := By.given_get hg 1 rfl rfl (by kernel_rfl)
      have h41 : a.tmps.getD 41 undef = _ := By.given_get hg 6 rfl rfl (by kernel_rfl)
      refine By.yes rfl ?_
      clear hs hg
      have he := Heq.out
      go_simp
      exact ⟨_, rfl, Grew.refl _, congrArg Value.bool (by simp; exact fun h => he h.symm)⟩
    refine By.ends_is (By.ends_is (By.ends_is (By.ends_is (By.ends_is (By.ends_is (By.ends_is (By.ends_is (By.ends_nil fun wz hz => ?_))))))))
    simp only [Act.put, List.setIfInBounds_toArray, List.set_cons_succ, List.set_cons_zero]
    have hz : Below w3.heap.size w3.drew wz := hz
    have HWBz := Lib.hid (nextB (b := w3.drew) HWB3.out.drew (Nat.le_refl _) hz)
    clear hz
    go_wp2
    go_ret2
    refine ⟨?_, HWBz.out⟩
    rfl
end Aead
end Go.Proofs.Ytpllbnioncjhaaa

