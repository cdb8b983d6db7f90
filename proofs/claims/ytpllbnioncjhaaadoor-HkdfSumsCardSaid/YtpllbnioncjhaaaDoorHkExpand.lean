/- 'hkdf.Expand': pieces of 32 bytes, each the HMAC of the one before, the info and its number. -/
import Derived.Test.YtpllbnioncjhaaaDoorHkMac
namespace Go.Proofs.YtpllbnioncjhaaaDoor
open Go.RowKit
namespace Hk
/-- The i-th piece, from 1 on; the 0th is empty. -/
def tN (key info : List UInt8) : Nat → List UInt8
  | 0 => []
  | i + 1 => Sha.mac key [tN key info i, info, [UInt8.ofNat (i + 1)]].flatten
def catN (key info : List UInt8) : Nat → List UInt8
  | 0 => []
  | i + 1 => catN key info i ++ tN key info (i + 1)
theorem tN_length (key info : List UInt8) (i : Nat) : (tN key info (i + 1)).length = 32 := Sha.sum_length _
theorem tN_le (key info : List UInt8) (i : Nat) : (tN key info i).length ≤ 32 := by
  cases i with
  | zero => simp [tN]
  | succ i => exact Nat.le_of_eq (tN_length _ _ _)
theorem catN_length (key info : List UInt8) (i : Nat) : (catN key info i).length = 32 * i := by
  induction i with
  | zero => rfl
  | succ i ih => rw [catN, List.length_append, ih, tN_length]; omega
/-- What stands in the answer's block when i pieces have been copied. -/
def outN (key info : List UInt8) (n i : Nat) : List UInt8 := (catN key info i).take n ++ List.replicate (n - 32 * i) 0
theorem outN_length (key info : List UInt8) (n i : Nat) : (outN key info n i).length = n := by
  rw [outN, List.length_append, List.length_take, catN_length, List.length_replicate]
  omega
/-- All n bytes. -/
def outL (key info : List UInt8) (n : Nat) : List UInt8 := (catN key info ((n + 31) / 32)).take n
theorem outN_end (key info : List UInt8) (n i : Nat) (h1 : n ≤ 32 * i) (h2 : 32 * i ≤ n + 31) : outN key info n i = outL key info n := by
  have : i = (n + 31) / 32 := by omega
  subst this
  rw [outN, outL, Nat.sub_eq_zero_of_le h1]
  simp
theorem outN_step (key info : List UInt8) (n i : Nat) (h : 32 * i < n) :
    splice ((outN key info n i).map bv) (32 * i) (((tN key info (i + 1)).take (n - 32 * i)).map bv) = (outN key info n (i + 1)).map bv := by
  have hc := catN_length key info i
  have ht := tN_length key info i
  have e1 : (catN key info i).take n = catN key info i := List.take_of_length_le (by omega)
  have e2 : (catN key info (i + 1)).take n = catN key info i ++ (tN key info (i + 1)).take (n - 32 * i) := by
    rw [catN, List.take_append, hc, e1]
  unfold splice
  rw [outN, outN, e1, e2, ← List.map_take, ← List.map_drop, ← List.map_append, ← List.map_append, List.take_append_of_le_length (by omega), List.take_of_length_le (by omega), List.drop_append, List.drop_of_length_le (by omega), List.nil_append, List.drop_replicate, List.length_map, List.length_take, hc, ht]
  rw [show n - 32 * i - (32 * i + min (n - 32 * i) 32 - 32 * i) = n - 32 * (i + 1) by omega]
  simp
end Hk
set_option maxRecDepth 8000 in
set_option maxHeartbeats 1000000 in
theorem Expand_long (key : List UInt8) (A : Option Addr) (m c : Nat) (z : Int) (h : (8160 : Int) < z) (w : World) :
    Calls Tryd.prog 10 #[arr8 key, .slice A m c, .int .i64 z] w fun e w' => e = .returned (.tuple #[.slice none 0 0, .int .i64 3]) ∧ Below w.heap.size w w' := by
  unfold arr8
  go_enter Tryd.func10, Tryd.ntmps10
  go_wp2
  go_ret2
  exact ⟨rfl, (Below.refl _ w).alloc (Nat.le_refl _) _⟩
set_option maxRecDepth 8000 in
set_option maxHeartbeats 2000000 in
theorem Expand_ok (v : Value) (key info : List UInt8) (z : Int) (n : Nat) (hz : (z ≤ 0 ∧ n = 0) ∨ z = (n : Int)) (hn : n ≤ 8160) (hk : key.length = 32) (w : World) (ht : Tab w) (hi : Bs w w.heap.size v info) (hil : info.length ≤ 1000000000) :
    Calls Tryd.prog 10 #[arr8 key, v, .int .i64 z] w fun e w' => ∃ g, e = .returned (.tuple #[.slice (some ⟨g, 0, none⟩) n n, .int .i64 0]) ∧ w.heap.size ≤ g ∧ Row w' g ((Hk.outL key info n).map bv) 5 ∧ Below w.heap.size w w' := by
  have hr0 : Row (w.alloc (.cells (key.map bv).toArray 23)) w.heap.size (key.map bv) 23 := Row.new (by simp) rfl
  have hb0 := (Below.refl w.heap.size w).alloc (Nat.le_refl _) (.cells (key.map bv).toArray 23)
  have hi0 := (hi.alloc (Nat.le_refl _) (.cells (key.map bv).toArray 23)).more (B' := (w.alloc (.cells (key.map bv).toArray 23)).heap.size) (by simp)
  have ht0 := ht.below hb0 ht.1
  obtain ⟨W0, hW0⟩ : ∃ W0, w.alloc (.cells (key.map bv).toArray 23) = W0 := ⟨_, rfl⟩
  rw [hW0] at hr0 hb0 hi0 ht0
  have HI := Lib.hid hi
  obtain ⟨A, c, rfl, _, hxx⟩ := hi
  clear hxx
  have hz81 : ¬ (8160 : Int) < z := by omega
  have hmx : (if z < (0 : Int) then (0 : Int) else z) = (n : Int) := by
    by_cases h : z < 0
    · rw [if_pos h]; omega
    · rw [if_neg h]; omega
  have HW0 := Lib.hid hW0
  have HR0 := Lib.hid hr0
  have HB0 := Lib.hid hb0
  have HI0 := Lib.hid hi0
  have HT0 := Lib.hid ht0
  have Hn := Lib.hid hn
  have Hkl := Lib.hid hk
  have Hil := Lib.hid hil
  have HT := Lib.hid ht
  clear hW0 hr0 hb0 hi0 ht0 hn hk hil ht hz
  unfold arr8
  go_enter Tryd.func10, Tryd.ntmps10
  go_wp2_with (first
    | (at_make; refine wpList_in HW0.out ?_; refine wpList_make_bytes _ rfl _ _ rfl n rfl rfl (by have := Hn.out; omega) ?_; intro w4 hrow4 hg4
       have hb34 : Below W0.heap.size W0 w4 := (Below.refl W0.heap.size W0).grown hg4 (Nat.le_refl _) (fun k hk => by cases hk)
       have HB4 := Lib.hid (nextB HB0.out (Nat.le_refl _) hb34)
       have HR4 := Lib.hid (HR0.out.below hb34 HR0.out.lt)
       have HI4 := Lib.hid ((HI0.out.below hb34).more hb34.size)
       have HO4 := Lib.hid hrow4
       clear hrow4 hg4 hb34)
    | fail)
  have hgo : ∀ (k : Nat), 32 * k ≤ n + 31 → k ≤ 255 := by have := Hn.out; omega
  have Hgo := Lib.hid hgo
  have HszW := Lib.hid (show W0.heap.size = w.heap.size + 1 by rw [← HW0.out]; simp)
  clear hgo hmx hz81
  go_loopw [9, 10] (fun lv iv wr => ∃ i p : Nat, p = 32 * i ∧ 32 * i ≤ n + 31 ∧ iv = .int .i64 (p : Int) ∧ Bs wr wr.heap.size lv (Hk.tN key info i) ∧ Row wr W0.heap.size ((Hk.outN key info n i).map bv) 5 ∧ Row wr w.heap.size (key.map bv) 23 ∧ Below w.heap.size w wr) (fun _ iv _ => n + 31 - (intOf iv).toNat)
  case atStart =>
    refine ⟨0, 0, rfl, by omega, rfl, ?_, ?_, HR4.out, HB4.out⟩
    · exact ⟨none, 0, rfl, Nat.le_refl _, fun h => absurd rfl h⟩
    · have h := HO4.out
      simpa [Hk.outN, Hk.catN] using h
  case round =>
    obtain ⟨i, p, hp, hpn, rfl, hlv, hro, hrk, hb⟩ := hrel
    have Hp := Lib.hid hp
    have Hpn := Lib.hid hpn
    have Hlv := Lib.hid hlv
    have Hro := Lib.hid hro
    have Hrk := Lib.hid hrk
    have Hb := Lib.hid hb
    clear hp hpn hrk hro hb
    by_cases hlt : p < n
    · have hlt' : (p : Int) < (n : Int) := by omega
      obtain ⟨A3, c3, rfl, hlc, hx3⟩ := hlv
      clear hx3 hlc
      have hi255 : i + 1 ≤ 255 := Hgo.out (i + 1) (by have := Hp.out; omega)
      have hpi := Hp.out
      have hq : (p : Int) / 32 = (i : Int) := by omega
      have hq2 : (p : Int).tdiv 32 = (i : Int) := by rw [Int.tdiv_eq_ediv_of_nonneg (by omega)]; omega
      have hw1 : IntKind.i64.wrap ((i : Int) + 1) = (i : Int) + 1 := IntWalk.i64_in _ (by omega)
      have hw8 : IntKind.u8.wrap ((i : Int) + 1) = (i : Int) + 1 := IntWalk.u8_in _ (by omega)
      have hib : (i : Int) ≤ 254 := by omega
      obtain ⟨x, hx⟩ : ∃ x : UInt8, UInt8.ofNat (i + 1) = x := ⟨_, rfl⟩
      have hbx : Value.int .u8 ((i : Int) + 1) = bv x := by
        rw [← hx]
        unfold bv
        rw [UInt8.toNat_ofNat']
        congr 1
        omega
      obtain ⟨W1, hW1⟩ : ∃ W1, wr.alloc (.cells #[.int .u8 ((i : Int) + 1)] 5) = W1 := ⟨_, rfl⟩
      have hb1 : Below wr.heap.size wr W1 := hW1 ▸ (Below.refl _ _).alloc (Nat.le_refl _) _
      have hrx : Row W1 wr.heap.size ([x].map bv) 5 := by rw [← hW1, hbx]; exact Row.new rfl rfl
      have hbsx : Bs W1 W1.heap.size (.slice (some ⟨wr.heap.size, 0, none⟩) 1 1) [x] := hrx.bs hrx.lt
      have hl1 := (Hlv.out.below hb1).more hb1.size
      have hi1 := (HI.out.below (nextB Hb.out (Nat.le_refl _) hb1)).more (nextB Hb.out (Nat.le_refl _) hb1).size
      have hss := bss_new (n := 3) (ls := [Hk.tN key info i, info, [x]]) (vs := [.slice A3 (Hk.tN key info i).length c3, .slice A info.length c, .slice (some ⟨wr.heap.size, 0, none⟩) 1 1]) (w := W1) rfl rfl (Reads.append (.one hl1) (Reads.append (.one hi1) (.one hbsx)))
      have hb2 := (Below.refl W1.heap.size W1).alloc (Nat.le_refl _) (.cells #[.slice A3 (Hk.tN key info i).length c3, .slice A info.length c, .slice (some ⟨wr.heap.size, 0, none⟩) 1 1] 22)
      have hbr2 := nextB hb1 (Nat.le_refl _) hb2
      have hbb2 := nextB Hb.out (Nat.le_refl _) hbr2
      have hks : Bs wr wr.heap.size (.slice (some ⟨w.heap.size, 0, none⟩) 32 32) key := by
        have h1 := Hrk.out.bs (B := wr.heap.size) Hrk.out.lt
        rwa [Hkl.out] at h1
      have hmac := Mac_any _ _ key [Hk.tN key info i, info, [x]] _ (HT.out.below hbb2 HT.out.1) ((hks.below hbr2).more hbr2.size) (by rw [Hkl.out]; omega) hss (by simp) (by
        intro l hl
        simp only [List.mem_cons, List.not_mem_nil, or_false] at hl
        rcases hl with rfl | rfl | rfl
        · exact Nat.le_trans (Hk.tN_le _ _ _) (by omega)
        · exact Hil.out
        · simp) (by
        have h1 := Hk.tN_le key info i
        have h2 := Hil.out
        simp
        omega)
      obtain ⟨T, hT⟩ : ∃ T, Hk.tN key info (i + 1) = T := ⟨_, rfl⟩
      have hTl : T.length = 32 := by rw [← hT]; exact Hk.tN_length _ _ _
      rw [show Sha.mac key [Hk.tN key info i, info, [x]].flatten = T by rw [← hT, ← hx]; rfl] at hmac
      have hWa : (wr.alloc (.cells #[.int .u8 ((i : Int) + 1)] 5)).alloc (.cells #[.slice A3 (Hk.tN key info i).length c3, .slice A info.length c, .slice (some ⟨wr.heap.size, 0, none⟩) 1 1] 22) = W1.alloc (.cells #[.slice A3 (Hk.tN key info i).length c3, .slice A info.length c, .slice (some ⟨wr.heap.size, 0, none⟩) 1 1] 22) := by rw [hW1]
      have hszW : wr.heap.size + 1 = W1.heap.size := by rw [← hW1]; simp
      rw [← hszW] at hmac
      have HWa := Lib.hid hWa
      have Hmac := Lib.hid hmac
      have HT1 := Lib.hid hT
      have HTl := Lib.hid hTl
      have HTm := Lib.hid (show (T.map bv).length = 32 by rw [List.length_map]; exact hTl)
      have Hbr2 := Lib.hid hbr2
      have HLen := Lib.hid (show ((T.take (n - p)).map bv).length = Nat.min 32 (n - p) by rw [List.length_map, List.length_take, hTl]; exact Nat.min_comm _ _)
      have HFit := Lib.hid (show p + ((T.take (n - p)).map bv).length ≤ ((Hk.outN key info n i).map bv).length by
        rw [List.length_map, List.length_take, hTl, List.length_map, Hk.outN_length]
        omega)
      have HSrc := Lib.hid (show ∀ (V : World) (g : Nat), Row V g (T.map bv) 23 → ∀ (j : Nat) (u : Value), ((T.take (n - p)).map bv)[j]? = some u → V.cell? ((⟨g, 0, none⟩ : Addr).add j) = some u from fun V g hr j u hj => by
        rw [show (⟨g, 0, none⟩ : Addr).add j = ⟨g, 0 + j, none⟩ by unfold Addr.add; split <;> simp_all]
        rw [Nat.zero_add]
        rw [List.map_take, List.getElem?_take] at hj
        split at hj
        · exact Row.cell hr hj
        · cases hj)
      have HStep := Lib.hid (show splice ((Hk.outN key info n i).map bv) p ((T.take (n - p)).map bv) = (Hk.outN key info n (i + 1)).map bv by
        have h := Hk.outN_step key info n i (by omega)
        rw [hT, ← hpi] at h
        exact h)
      have hpb : (p : Int) ≤ 8160 := by have := Hn.out; omega
      clear hW1 hb1 hrx hbsx hl1 hi1 hss hb2 hbr2 hbb2 hks hmac hT hTl hWa hszW hx hbx hpi hi255
      go_wp2_with fail
      refine calls_in HWa.out ?_
      refine Hmac.out.mono ?_
      rintro e w5 ⟨rfl, hb5⟩
      have hb55 := nextB Hbr2.out (Nat.le_refl _) hb5
      have Hb55 := Lib.hid hb55
      have HB5 := Lib.hid (nextB Hb.out (Nat.le_refl _) hb55)
      have Hro5 := Lib.hid (Hro.out.below hb55 Hro.out.lt)
      have Hrk5 := Lib.hid (Hrk.out.below hb55 Hrk.out.lt)
      clear hb5 hb55
      unfold arr8
      go_wp2_with (first
        | (show wpList _ _ _ (⟨none, Op.store 23 _ _, _, _, _, _⟩ :: _) _ _; refine wpList_storeRow (g := w5.heap.size) rfl 23 _ _ rfl rfl rfl (cs := T.map bv) (old := (List.replicate 32 (0 : UInt8)).map bv) (Row.new rfl rfl) (by kernel_rfl) HTm.out (by simp) (bytes_one T) ?_
           have hr3 : Row ((w5.alloc (.cells ((List.replicate 32 (0 : UInt8)).map bv).toArray 23)).setRow w5.heap.size (T.map bv).toArray) w5.heap.size (T.map bv) 23 := (Row.new (cs := (List.replicate 32 (0 : UInt8)).map bv) rfl rfl).setRow (T.map bv)
           have hb3 : Below w5.heap.size w5 ((w5.alloc (.cells ((List.replicate 32 (0 : UInt8)).map bv).toArray 23)).setRow w5.heap.size (T.map bv).toArray) := below_setRow ((Below.refl w5.heap.size w5).alloc (Nat.le_refl _) _) (Nat.le_refl _) _
           obtain ⟨V3, hV3⟩ : ∃ V3, (w5.alloc (.cells ((List.replicate 32 (0 : UInt8)).map bv).toArray 23)).setRow w5.heap.size (T.map bv).toArray = V3 := ⟨_, rfl⟩
           refine wpList_in hV3 ?_
           rw [hV3] at hr3 hb3
           have Hr3 := Lib.hid hr3
           have HB3 := Lib.hid (nextB HB5.out (Nat.le_refl _) hb3)
           have Hro3 := Lib.hid (Hro5.out.below hb3 Hro5.out.lt)
           have Hrk3 := Lib.hid (Hrk5.out.below hb3 Hrk5.out.lt)
           clear hr3 hb3 hV3)
        | (show wpList _ _ _ (⟨some 38, _, _, _, _, _⟩ :: _) _ _
           refine wpList_copy_keep rfl (.tmp 36) (.tmp 37) 22 22 rfl 5 (by kernel_rfl) (by kernel_rfl) rfl rfl (w := V3) Hro3.out ((T.take (n - p)).map bv) HLen.out (HSrc.out V3 w5.heap.size Hr3.out) HFit.out (bytes_one _) ?_
           intro W6 hc6 hk6
           have hszl := HszW.out
           have h5l := Hro5.out.lt
           have h3l := Hro3.out.lt
           have HR6 := Lib.hid (Row.keep (w := V3) Hr3.out hk6 (by omega))
           have Hrk6 := Lib.hid (Row.keep (w := V3) Hrk3.out hk6 (by omega))
           have HB6 := Lib.hid (Below.keep (w := V3) HB3.out hk6 (by omega) (by omega))
           have Hro6 := Lib.hid (show Row W6 W0.heap.size ((Hk.outN key info n (i + 1)).map bv) 5 from HStep.out ▸ hc6)
           clear hc6 hk6 hszl h5l h3l)
        | fail)
      go_roundw
      case rel =>
        refine ⟨i + 1, p + 32, by have := Hp.out; omega, by have := Hp.out; omega, by simp, ?_, Hro6.out, Hrk6.out, HB6.out⟩
        rw [HT1.out]
        have h1 := HR6.out.bs (B := W6.heap.size) HR6.out.lt
        rwa [HTl.out] at h1
      case measure => simp [intOf]; omega
    · have hlt' : ¬ (p : Int) < (n : Int) := by omega
      clear hlv
      go_wp2
      go_ret2
      refine ⟨_, rfl, by have := HszW.out; omega, ?_, Hb.out⟩
      have h := Hro.out
      rwa [Hk.outN_end key info n i (by have := Hp.out; omega) Hpn.out] at h
end Go.Proofs.YtpllbnioncjhaaaDoor
