/- Sum: the SHA-256 of all pieces. -/
import Derived.Test.YtpllbnioncjhaaaDoorHkPadded
namespace Go.Proofs.YtpllbnioncjhaaaDoor
open Go.RowKit
namespace Sha
/-- As many bytes as are written, then zeros, k in all. -/
def fillTo (k : Nat) (b : List UInt8) (n : Nat) : List UInt8 := b.take n ++ List.replicate (k - n) 0
theorem fillTo_length (k : Nat) (b : List UInt8) (n : Nat) (hb : b.length = k) (hn : n ≤ k) : (fillTo k b n).length = k := by
  rw [fillTo, List.length_append, List.length_take, List.length_replicate]
  omega
theorem fillTo_set (k : Nat) (b : List UInt8) (n : Nat) (u : UInt8) (hb : b.length = k) (hn : n < k) (hu : b[n]? = some u) : (fillTo k b n).set n u = fillTo k b (n + 1) := by
  apply List.ext_getElem?
  intro j
  rw [List.getElem?_set]
  unfold fillTo
  simp only [List.getElem?_append, List.length_append, List.length_take, List.length_replicate, List.getElem?_take, List.getElem?_replicate, hb]
  by_cases h1 : n = j
  · subst h1
    simp [show min n k = n by omega, show min (n + 1) k = n + 1 by omega, hu, show n < n + (k - n) by omega]
  · by_cases h2 : j < n
    · simp [h1, show min n k = n by omega, show min (n + 1) k = n + 1 by omega, h2, show j < n + 1 by omega]
    · simp [h1, show min n k = n by omega, show min (n + 1) k = n + 1 by omega, h2, show ¬ j < n + 1 by omega]
      by_cases h3 : j - n < k - n
      · simp [h3]
        omega
      · simp [h3]
        omega
theorem fillTo_all (k : Nat) (b : List UInt8) (hb : b.length = k) : fillTo k b k = b := by
  rw [fillTo, List.take_of_length_le (by omega), Nat.sub_self, List.replicate_zero, List.append_nil]
theorem full_64 (l : List UInt8) : 64 * ((full l).length / 64) = (full l).length := by
  have := (zerosOf_is l.length).1
  rw [full_length]
  omega
end Sha

theorem sbyte0 (x : BitVec 32) : Value.int .u8 ((x.toNat : Int) / 16777216) = .int .u8 (((x >>> (24 - 8 * 0)).toNat % 256 : Nat) : Int) := by
  rw [show 24 - 8 * 0 = 24 from rfl, BitVec.toNat_ushiftRight, Nat.shiftRight_eq_div_pow]
  have := x.isLt
  exact congrArg (Value.int .u8) (by omega)
theorem sbyte1 (x : BitVec 32) : Value.int .u8 ((x.toNat : Int) / 65536 % 256) = .int .u8 (((x >>> (24 - 8 * 1)).toNat % 256 : Nat) : Int) := by
  rw [w_shr16, show 24 - 8 * 1 = 16 from rfl]
  exact congrArg (Value.int .u8) (by omega)
theorem sbyte2 (x : BitVec 32) : Value.int .u8 ((x.toNat : Int) / 256 % 256) = .int .u8 (((x >>> (24 - 8 * 2)).toNat % 256 : Nat) : Int) := by
  rw [w_shr8, show 24 - 8 * 2 = 8 from rfl]
  exact congrArg (Value.int .u8) (by omega)
theorem sbyte3 (x : BitVec 32) : Value.int .u8 ((x.toNat : Int) % 256) = .int .u8 (((x >>> (24 - 8 * 3)).toNat % 256 : Nat) : Int) := by
  rw [show 24 - 8 * 3 = 0 from rfl, show x >>> 0 = x by simp]
  exact congrArg (Value.int .u8) (by omega)

set_option maxRecDepth 8000 in
set_option maxHeartbeats 1000000 in
theorem Sum_any (v : Value) (ls : List (List UInt8)) (w : World) (ht : Tab w) (hb : Bss w w.heap.size v ls) (hn : ls.length ≤ 100000) (hm : ∀ l ∈ ls, l.length ≤ 1000000000) (hf : ls.flatten.length ≤ 1000000000000) :
    Calls Tryd.prog 13 #[v] w fun e w' => e = .returned (arr8 (Sha.sum ls.flatten)) ∧ Below w.heap.size w w' := by
  have Ht := Lib.hid ht
  have Hb := Lib.hid hb
  have Hm := Lib.hid hm
  have Hf := Lib.hid hf
  clear ht hb hm hf
  go_enter Tryd.func13, Tryd.ntmps13
  go_wp2_with fail
  have hB0 := (Below.refl w.heap.size w).alloc (Nat.le_refl _) (.cells ((List.replicate 32 (0 : UInt8)).map bv).toArray 23)
  have hR0 : Row (w.alloc (.cells ((List.replicate 32 (0 : UInt8)).map bv).toArray 23)) w.heap.size ((List.replicate 32 (0 : UInt8)).map bv) 23 := Row.new rfl rfl
  have hss := (Hb.out.below hB0)
  refine (Padded_any v ls (w.alloc (.cells ((List.replicate 32 (0 : UInt8)).map bv).toArray 23)) (hss.more' (by simp)) hn Hm.out Hf.out).mono ?_
  rintro e w2 ⟨g, v2, rfl, hp2, hg2, hb2⟩
  have hsz0 : (w.alloc (.cells ((List.replicate 32 (0 : UInt8)).map bv).toArray 23)).heap.size = w.heap.size + 1 := by simp
  have hR2 := hR0.below hb2 (by rw [hsz0]; omega)
  have hB2 := nextB hB0 (Nat.le_refl _) hb2
  rw [hsz0] at hg2
  have hgl := hp2.lt
  clear hb2 hsz0 hB0 hR0 hss
  obtain ⟨N, hN⟩ : ∃ N, (Sha.full ls.flatten).length / 64 = N := ⟨_, rfl⟩
  have hfull : (ls ++ [Sha.pad ls.flatten.length]).flatten = Sha.full ls.flatten := by rw [List.flatten_append, Sha.full]; simp
  have h64 : 64 * N = (Sha.full ls.flatten).length := by rw [← hN]; exact Sha.full_64 _
  have hNb : N ≤ 1000000000000 := by
    have h1 := Hf.out
    have h2 := Sha.full_length ls.flatten
    have h3 := (Sha.zerosOf_is ls.flatten.length).2
    omega
  have hpm : ∀ l ∈ ls ++ [Sha.pad ls.flatten.length], l.length ≤ 1000000000 := by
    intro l hl
    rcases List.mem_append.1 hl with h | h
    · exact Hm.out l h
    · rw [List.mem_singleton] at h
      subst h
      rw [Sha.pad_length]
      have := (Sha.zerosOf_is ls.flatten.length).2
      omega
  rw [hN]
  obtain ⟨S, hS⟩ : ∃ S, Sha.blocks N Sha.start (Sha.full ls.flatten) = S := ⟨_, rfl⟩
  have hsum : Sha.sum ls.flatten = Sha.outOf S := by rw [Sha.sum, hN, hS]
  have hSl : S.length = 8 := by rw [← hS]; exact Sha.blocks_length _ _ _ rfl
  have Hp2 := Lib.hid hp2
  have HR2 := Lib.hid hR2
  have HB2 := Lib.hid hB2
  have Hg2 := Lib.hid hg2
  have Hgl := Lib.hid hgl
  have Hfull := Lib.hid hfull
  have H64 := Lib.hid h64
  have Hpm := Lib.hid hpm
  have Hsum := Lib.hid hsum
  have HS := Lib.hid hS
  have HSl := Lib.hid hSl
  clear hp2 hR2 hB2 hg2 hgl hfull h64 hpm hsum hS hSl hN
  go_wp2_with (first
    | (show wpList _ _ _ (⟨none, Op.store 56 _ _, _, _, _, _⟩ :: _) _ _; refine wpList_storeRow rfl 56 _ _ rfl rfl rfl (cs := Sha.start.map wv) (old := (List.replicate 8 0#32).map wv) (Row.new rfl rfl) (by kernel_rfl) rfl rfl (words_one _) ?_)
    | fail)
  have hr0 := (HR2.out.alloc (.cells ((List.replicate 8 0#32).map wv).toArray 56)).setOther w2.heap.size (Sha.start.map wv).toArray (Nat.ne_of_lt HR2.out.lt)
  have hr5 : Row ((w2.alloc (.cells ((List.replicate 8 0#32).map wv).toArray 56)).setRow w2.heap.size (Sha.start.map wv).toArray) w2.heap.size (Sha.start.map wv) 56 := (Row.new (cs := (List.replicate 8 0#32).map wv) rfl rfl).setRow (Sha.start.map wv)
  have hb5 := below_setRow (HB2.out.alloc HB2.out.size (.cells ((List.replicate 8 0#32).map wv).toArray 56)) (show w.heap.size ≤ w2.heap.size from HB2.out.size) (Sha.start.map wv).toArray
  have hp5 : Pcs ((w2.alloc (.cells ((List.replicate 8 0#32).map wv).toArray 56)).setRow w2.heap.size (Sha.start.map wv).toArray) g v2 (ls ++ [Sha.pad ls.flatten.length]) :=
    Hp2.out.below (below_setRow ((Below.refl w2.heap.size w2).alloc (Nat.le_refl _) (.cells ((List.replicate 8 0#32).map wv).toArray 56)) (Nat.le_refl _) (Sha.start.map wv).toArray) Hgl.out
  obtain ⟨V, hV⟩ : ∃ V, (w2.alloc (.cells ((List.replicate 8 0#32).map wv).toArray 56)).setRow w2.heap.size (Sha.start.map wv).toArray = V := ⟨_, rfl⟩
  refine code_world hV ?_
  rw [hV] at hr0 hr5 hb5 hp5
  obtain ⟨gs, hgs⟩ : ∃ gs, w2.heap.size = gs := ⟨_, rfl⟩
  have hggs : g < gs := by rw [← hgs]; exact Hgl.out
  have hwgs : w.heap.size < gs := by have := Hg2.out; omega
  rw [hgs] at hr5 ⊢
  have Hr0 := Lib.hid hr0
  have Hr5 := Lib.hid hr5
  have Hb5 := Lib.hid hb5
  have Hp5 := Lib.hid hp5
  clear hV hr0 hr5 hb5 hp5 hgs
  go_loopw [16, 3] (fun iv pv wr => ∃ (i : Nat) (st : List (BitVec 32)) (ps : List (List UInt8)), i ≤ N ∧ iv = .int .i64 (i : Int) ∧ st.length = 8 ∧ Sha.blocks (N - i) st ps.flatten = S ∧ 64 * (N - i) ≤ ps.flatten.length ∧ ps.length ≤ 100001 ∧ (∀ l ∈ ps, l.length ≤ 1000000000) ∧
    Pcs wr g pv ps ∧ Row wr w.heap.size ((List.replicate 32 (0 : UInt8)).map bv) 23 ∧ Row wr gs (st.map wv) 56 ∧ Below w.heap.size w wr) (fun iv _ _ => N - (intOf iv).toNat)
  case atStart => exact ⟨0, Sha.start, _, Nat.zero_le _, rfl, rfl, by rw [Hfull.out, Nat.sub_zero]; exact HS.out, by rw [Hfull.out, Nat.sub_zero, H64.out]; exact Nat.le_refl _, by simp; omega, Hpm.out, Hp5.out, Hr0.out, Hr5.out, Hb5.out⟩
  case round =>
    obtain ⟨i, st, ps, hi, rfl, hst, hblk, hlen, hpsl, hpsm, hp, hr0, hr5, hb⟩ := hrel
    have Hst := Lib.hid hst
    have Hblk := Lib.hid hblk
    have Hlen := Lib.hid hlen
    have Hpsm := Lib.hid hpsm
    have Hp := Lib.hid hp
    have Hr0 := Lib.hid hr0
    have Hr5 := Lib.hid hr5
    have Hb := Lib.hid hb
    clear hst hblk hlen hpsm hp hr0 hr5 hb
    by_cases hN : i < N
    · have hN' : (i : Int) < (N : Int) := by omega
      have hsub : N - i = (N - (i + 1)) + 1 := by omega
      have Hsub := Lib.hid hsub
      clear hsub
      go_wp2_with fail
      refine (Cut_any g u3 ps _ (Hp.out.below ((Below.refl wr.heap.size wr).alloc (Nat.le_refl _) _) Hp.out.lt) (by have := Hlen.out; have := Hsub.out; omega) (by omega) Hpsm.out).mono ?_
      rintro e w3 ⟨pv', ps', rfl, hp3, hfl3, hpl3, hpm3, hk3⟩
      have hka : Ev.Keep ⟨wr.alloc (.cells ((List.replicate 16 0#32).map wv).toArray 57), fun k => k = g⟩ w3 := hk3
      have hglt := Hp.out.lt
      have hne0 : w.heap.size ≠ g := by have := Hg2.out; omega
      have hneS : gs ≠ g := by omega
      have hgb := (Row.new (w := wr) (cs := (List.replicate 16 0#32).map wv) (t := 57) rfl rfl).keep hka (show wr.heap.size ≠ g by omega)
      have hr0 := (Hr0.out.alloc (.cells ((List.replicate 16 0#32).map wv).toArray 57)).keep hka hne0
      have hr5 := (Hr5.out.alloc (.cells ((List.replicate 16 0#32).map wv).toArray 57)).keep hka hneS
      have hb3 := Below.keep (Hb.out.alloc Hb.out.size (.cells ((List.replicate 16 0#32).map wv).toArray 57)) hka (by have := Hb.out.size; simp; omega) (by have := Hg2.out; omega)
      obtain ⟨gb, hgbe⟩ : ∃ gb, wr.heap.size = gb := ⟨_, rfl⟩
      rw [hgbe] at hgb hglt ⊢
      have hgsb : gs < gb := by rw [← hgbe]; exact Hr5.out.lt
      have hwb : w.heap.size < gb := by have := Hg2.out; omega
      obtain ⟨Wd, hWd⟩ : ∃ Wd, Sha.words ps.flatten = Wd := ⟨_, rfl⟩
      have hWl : Wd.length = 16 := by rw [← hWd]; exact Sha.words_length _
      rw [hWd]
      have Hp3 := Lib.hid hp3
      have Hfl3 := Lib.hid hfl3
      have Hpm3 := Lib.hid hpm3
      have Hgb := Lib.hid hgb
      have Hr0 := Lib.hid hr0
      have Hr5 := Lib.hid hr5
      have Hb3 := Lib.hid hb3
      have HWd := Lib.hid hWd
      have HWl := Lib.hid hWl
      have HWm := Lib.hid (show (Wd.map wv).length = 16 by rw [List.length_map]; exact hWl)
      have Hsm := Lib.hid (show (st.map wv).length = 8 by rw [List.length_map]; exact Hst.out)
      clear hk3 hka hp3 hfl3 hpm3 hgb hr0 hr5 hb3 hgbe hWd hWl
      unfold arr32
      go_wp2_with (first
        | (show wpList _ _ _ (⟨none, Op.store 57 _ _, _, _, _, _⟩ :: _) _ _; refine wpList_storeRow (g := gb) rfl 57 _ _ rfl rfl rfl (cs := Wd.map wv) Hgb.out (by kernel_rfl) HWm.out (by simp) (words_one Wd) ?_
           have hgb := Hgb.out.setRow (Wd.map wv)
           have hr0 := Hr0.out.setOther gb (Wd.map wv).toArray (Nat.ne_of_lt hwb)
           have hr5 := Hr5.out.setOther gb (Wd.map wv).toArray (Nat.ne_of_lt hgsb)
           have hb3 := below_setRow Hb3.out (Nat.le_of_lt hwb) (Wd.map wv).toArray
           have hp3 := Hp3.out.below (below_setRow (Below.refl gb w3) (Nat.le_refl _) (Wd.map wv).toArray) hglt
           obtain ⟨V4, hV4⟩ : ∃ V4, w3.setRow gb (Wd.map wv).toArray = V4 := ⟨_, rfl⟩
           rw [hV4] at hgb hr0 hr5 hb3 hp3
           refine wpList_in hV4 ?_
           have Hgb := Lib.hid hgb
           have Hr0 := Lib.hid hr0
           have Hr5 := Lib.hid hr5
           have Hb3 := Lib.hid hb3
           have Hp3 := Lib.hid hp3
           clear hV4 hgb hr0 hr5 hb3 hp3)
        | (show wpList _ _ _ (⟨some 23, _, _, _, _, _⟩ :: _) _ _; refine wpList_loadRow (g := gs) rfl 56 _ rfl rfl Hr5.out Tryd.underlying56 rfl (by kernel_rfl) Hsm.out ?_)
        | (show wpList _ _ _ (⟨some 24, _, _, _, _, _⟩ :: _) _ _; refine wpList_loadRow (g := gb) rfl 57 _ rfl rfl Hgb.out Tryd.underlying57 rfl (by kernel_rfl) HWm.out ?_)
        | fail)
      refine (Comp_any st Wd Hst.out HWl.out V4 (Ht.out.below Hb3.out Ht.out.1)).mono ?_
      rintro e w6 ⟨rfl, hb6⟩
      have hsb := Hb3.out.size
      have hr0l := Hr0.out.lt
      have hr5l := Hr5.out.lt
      have hgl4 := Hp3.out.lt
      have Hr0 := Lib.hid (Hr0.out.below hb6 hr0l)
      have Hr5 := Lib.hid (Hr5.out.below hb6 hr5l)
      have Hp3 := Lib.hid (Hp3.out.below hb6 hgl4)
      have Hb3 := Lib.hid (nextB Hb3.out (Nat.le_refl _) hb6)
      obtain ⟨S2, hS2⟩ : ∃ S2, Sha.comp st Wd = S2 := ⟨_, rfl⟩
      have hS2l : S2.length = 8 := by rw [← hS2]; exact Sha.comp_length _ _ Hst.out
      rw [hS2]
      have HS2 := Lib.hid hS2
      have HS2l := Lib.hid hS2l
      have HS2m := Lib.hid (show (S2.map wv).length = 8 by rw [List.length_map]; exact hS2l)
      clear hb6 hsb hr0l hr5l hgl4 hS2 hS2l
      unfold arr32
      go_wp2_with (first
        | (show wpList _ _ _ (⟨none, Op.store 56 _ _, _, _, _, _⟩ :: _) _ _; refine wpList_storeRow (g := gs) rfl 56 _ _ rfl rfl rfl (cs := S2.map wv) Hr5.out (by kernel_rfl) HS2m.out Hsm.out (words_one S2) ?_)
        | fail)
      go_roundw
      case rel =>
        refine ⟨i + 1, S2, ps', hN, by simp, HS2l.out, ?_, ?_, by omega, Hpm3.out, ?_, Hr0.out.setOther gs _ (by omega), Hr5.out.setRow _, below_setRow Hb3.out (by omega) _⟩
        · rw [Hfl3.out, ← HS2.out, ← HWd.out]
          have := Hblk.out
          rw [Hsub.out, Sha.blocks] at this
          exact this
        · rw [Hfl3.out, List.length_drop]
          have := Hlen.out
          have := Hsub.out
          omega
        · exact Hp3.out.below (below_setRow (Below.refl gs w6) (Nat.le_refl _) _) hggs
      case measure => simp [intOf]; omega
    · have hN' : ¬ (i : Int) < (N : Int) := by omega
      have : i = N := by omega
      subst this
      have hst2 : st = S := by have := Hblk.out; rw [Nat.sub_self, Sha.blocks] at this; exact this
      subst hst2
      obtain ⟨B, hB⟩ : ∃ B, Sha.outOf st = B := ⟨_, rfl⟩
      have hBl : B.length = 32 := by rw [← hB, Sha.outOf_length, HSl.out]
      have hat : ∀ q r, q < 8 → r < 4 → B[4 * q + r]? = some (Sha.byteOf (Sha.at_ st q) r) := by
        intro q r hq hr
        rw [← hB, Sha.outOf_at _ _ _ hr, List.getElem?_eq_getElem (by rw [HSl.out]; exact hq), Sha.at_, List.getD_eq_getElem?_getD, List.getElem?_eq_getElem (by rw [HSl.out]; exact hq)]
        rfl
      have HB := Lib.hid hB
      have HBl := Lib.hid hBl
      have Hat := Lib.hid hat
      clear hB hBl hat
      go_wp2_with fail
      have hsz := Hb.out.size
      have hr7 : Row (wr.alloc (.cells ((List.replicate 32 (0 : UInt8)).map bv).toArray 23)) wr.heap.size ((Sha.fillTo 32 B 0).map bv) 23 := Row.new rfl rfl
      obtain ⟨gm, hgm⟩ : ∃ gm, wr.heap.size = gm := ⟨_, rfl⟩
      have hr0 := Hr0.out.alloc (.cells ((List.replicate 32 (0 : UInt8)).map bv).toArray 23)
      have hr5 := Hr5.out.alloc (.cells ((List.replicate 32 (0 : UInt8)).map bv).toArray 23)
      have hb7 := Hb.out.alloc hsz (.cells ((List.replicate 32 (0 : UInt8)).map bv).toArray 23)
      obtain ⟨V7, hV7⟩ : ∃ V7, wr.alloc (.cells ((List.replicate 32 (0 : UInt8)).map bv).toArray 23) = V7 := ⟨_, rfl⟩
      refine code_world hV7 ?_
      rw [hV7] at hr7 hr0 hr5 hb7
      have hgsm : gs < gm := by rw [← hgm]; exact Hr5.out.lt
      rw [hgm] at hr7 ⊢
      have Hr7 := Lib.hid hr7
      have Hr0 := Lib.hid hr0
      have Hr5 := Lib.hid hr5
      have Hb := Lib.hid hb7
      clear hV7 hr7 hr0 hr5 hb7 hgm hsz
      have HiN := Lib.hid hi
      clear hi hN hN' hNb
      obtain ⟨N, hNN⟩ : ∃ N, i = N := ⟨_, rfl⟩
      go_loopw [27] (fun iv wq => ∃ i : Nat, i ≤ 32 ∧ iv = .int .i64 (i : Int) ∧ Row wq w.heap.size ((List.replicate 32 (0 : UInt8)).map bv) 23 ∧ Row wq gs (st.map wv) 56 ∧ Row wq gm ((Sha.fillTo 32 B i).map bv) 23 ∧ Below w.heap.size w wq) (fun iv _ => 32 - (intOf iv).toNat)
      case atStart => exact ⟨0, by omega, rfl, Hr0.out, Hr5.out, Hr7.out, Hb.out⟩
      case round =>
        obtain ⟨i, hi, rfl, hr0, hr5, hr7, hb⟩ := hrel
        have Hr0 := Lib.hid hr0
        have Hr5 := Lib.hid hr5
        have Hr7 := Lib.hid hr7
        have Hb := Lib.hid hb
        clear hr0 hr5 hr7 hb
        by_cases h32 : i < 32
        · have h32' : (i : Int) < 32 := by omega
          obtain ⟨q, hq⟩ : ∃ q, i / 4 = q := ⟨_, rfl⟩
          have hq8 : q < 8 := by omega
          have hqi : (i : Int) / 4 = (q : Int) := by omega
          have hwc := Hr5.out.cell (getD_word st q (by rw [HSl.out]; exact hq8))
          obtain ⟨x, hx⟩ : ∃ x, Sha.at_ st q = x := ⟨_, rfl⟩
          rw [hx] at hwc
          have hfl := Sha.fillTo_length 32 B i HBl.out (by omega)
          obtain ⟨v0, hv0⟩ : ∃ v0, wr.cell? ⟨gm, i, none⟩ = some v0 := ⟨_, Hr7.out.cell (getD_cell _ i (by rw [hfl]; exact h32))⟩
          have hfr := frozen_row Hr7.out i
          have hset : ∀ r, r < 4 → i % 4 = r → Row (wr.setCell ⟨gm, i, none⟩ (.int .u8 (((x >>> (24 - 8 * r)).toNat % 256 : Nat) : Int))) gm ((Sha.fillTo 32 B (i + 1)).map bv) 23 := by
            intro r hr hir
            have e : i = 4 * q + r := by omega
            have h1 := Hat.out q r hq8 hr
            rw [← e, hx] at h1
            have := Hr7.out.set i (bv (Sha.byteOf x r))
            rw [← List.map_set, Sha.fillTo_set 32 B i _ HBl.out h32 h1, Sha.byteOf_is] at this
            exact this
          have Hset4 := Lib.hid hset
          clear hset hfl hx
          have Hq := Lib.hid hq
          clear hq
          have h4 : i % 4 = 0 ∨ i % 4 = 1 ∨ i % 4 = 2 ∨ i % 4 = 3 := by omega
          rcases h4 with h4 | h4 | h4 | h4
          · have hr4 : (i : Int) % 4 = 0 := by omega
            have Hset := Lib.hid (Hset4.out 0 (by omega) h4)
            clear h4
            go_wp2
            rw [sbyte0]
            go_roundw
            case rel => exact ⟨i + 1, h32, by simp, Hr0.out.other _ _ (by dsimp only; omega), Hr5.out.other _ _ (by dsimp only; omega), Hset.out, Hb.out.setCell (by dsimp only; omega) _⟩
            case measure => simp [intOf]; omega
          · have hr4 : (i : Int) % 4 = 1 := by omega
            have Hset := Lib.hid (Hset4.out 1 (by omega) h4)
            clear h4
            go_wp2
            rw [sbyte1]
            go_roundw
            case rel => exact ⟨i + 1, h32, by simp, Hr0.out.other _ _ (by dsimp only; omega), Hr5.out.other _ _ (by dsimp only; omega), Hset.out, Hb.out.setCell (by dsimp only; omega) _⟩
            case measure => simp [intOf]; omega
          · have hr4 : (i : Int) % 4 = 2 := by omega
            have Hset := Lib.hid (Hset4.out 2 (by omega) h4)
            clear h4
            go_wp2
            rw [sbyte2]
            go_roundw
            case rel => exact ⟨i + 1, h32, by simp, Hr0.out.other _ _ (by dsimp only; omega), Hr5.out.other _ _ (by dsimp only; omega), Hset.out, Hb.out.setCell (by dsimp only; omega) _⟩
            case measure => simp [intOf]; omega
          · have hr4 : (i : Int) % 4 = 3 := by omega
            have Hset := Lib.hid (Hset4.out 3 (by omega) h4)
            clear h4
            go_wp2
            rw [sbyte3]
            go_roundw
            case rel => exact ⟨i + 1, h32, by simp, Hr0.out.other _ _ (by dsimp only; omega), Hr5.out.other _ _ (by dsimp only; omega), Hset.out, Hb.out.setCell (by dsimp only; omega) _⟩
            case measure => simp [intOf]; omega
        · have h32' : ¬ (i : Int) < 32 := by omega
          have : i = 32 := by omega
          subst this
          have hr7 := Hr7.out.same (cs' := B.map bv) (by rw [Sha.fillTo_all 32 B HBl.out])
          have Hr7 := Lib.hid hr7
          have Hlb := Lib.hid (show (B.map bv).length = 32 by rw [List.length_map]; exact HBl.out)
          clear hr7
          go_wp2_with (first
            | (refine wpList_loadRow rfl 23 _ rfl rfl Hr7.out Tryd.underlying23 rfl (by kernel_rfl) Hlb.out ?_)
            | (refine wpList_storeRow rfl 23 _ _ rfl rfl rfl Hr0.out (by kernel_rfl) Hlb.out (by simp) (bytes_one B) ?_))
          refine bodyPost_ret (results_row rfl _ rfl (Hr0.out.setRow (B.map bv)) Tryd.underlying23 rfl (by kernel_rfl) Hlb.out) rfl ?_
          exact ⟨by rw [Hsum.out, HB.out]; rfl, below_setRow Hb.out (by omega) _⟩
end Go.Proofs.YtpllbnioncjhaaaDoor
