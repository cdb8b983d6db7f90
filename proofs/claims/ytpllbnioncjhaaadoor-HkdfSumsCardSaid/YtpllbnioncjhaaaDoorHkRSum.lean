/- The reference's Sum. -/
import Derived.Test.YtpllbnioncjhaaaDoorHkSum
import Derived.Test.YtpllbnioncjhaaaDoorHkRefStep
import Derived.Test.YtpllbnioncjhaaaDoorHkPads
import Derived.Test.YtpllbnioncjhaaaDoorTail
import Derived.Test.YtpllbnioncjhaaaDoorKitBase
namespace Go.Proofs.YtpllbnioncjhaaaDoor
open Go.RowKit
def Stop (p : Prop) : Prop := p
theorem stop {p : Prop} (h : Stop p) : p := h
theorem len_cases (n : Nat) : ((n : Int) ≤ 0 ∧ n = 0) ∨ ((n : Int) = (n : Int) ∧ 0 < n) := by omega
theorem words_take (l : List UInt8) : Sha.words (l.take 64) = Sha.words l := by
  unfold Sha.words
  rw [List.take_take]
  rfl
theorem bs_sub {w : World} {B b off n cc : Nat} {l : List UInt8} (h : ∀ (i : Nat) (u : UInt8), l[i]? = some u → w.cell? ⟨b, off + i, none⟩ = some (bv u)) (hb : b < B) {j m : Nat} (hn : ((l.drop j).take m).length = n) (hc : n ≤ cc) :
    Bs w B (.slice (some ⟨b, off + j, none⟩) n cc) ((l.drop j).take m) := by
  refine ⟨_, cc, by rw [hn], by omega, fun _ => ⟨b, off + j, rfl, hb, fun i u hu => ?_⟩⟩
  rw [Nat.add_assoc]
  refine h _ _ ?_
  rw [List.getElem?_take] at hu
  split at hu
  · rwa [List.getElem?_drop] at hu
  · cases hu
set_option maxRecDepth 100000 in
set_option maxHeartbeats 2000000 in
theorem RSum_any (v : Value) (ls : List (List UInt8)) (w : World) (ht : Tab w) (hb : Bss w w.heap.size v ls) (hn : ls.length ≤ 1000) (hf : ls.flatten.length ≤ 100000000) :
    Calls Tryd.prog 14 #[v] w fun e w' => e = .returned (arr8 (Sha.sum ls.flatten)) ∧ Below w.heap.size w w' := by
  obtain ⟨SM, hSM⟩ : ∃ SM, Sha.sum ls.flatten = SM := ⟨_, rfl⟩
  rw [hSM]
  have HSM := Lib.hid hSM
  clear hSM
  obtain ⟨A, c, rfl, hlc, hcs⟩ := id hb
  have Ht := Lib.hid ht
  have Hcs := Lib.hid hcs
  have Hf := Lib.hid hf
  have Hn := Lib.hid hn
  clear ht hb hcs hf hlc
  go_enter Tryd.func14, Tryd.ntmps14
  go_wp2_with fail
  obtain ⟨w1, hw1⟩ : ∃ w1, w.alloc (.cells ((List.replicate 32 (0 : UInt8)).map bv).toArray 23) = w1 := ⟨_, rfl⟩
  have HB1 := Lib.hid (show Below w.heap.size w w1 from hw1 ▸ (Below.refl _ w).alloc (Nat.le_refl _) _)
  have HR1 := Lib.hid (show Row w1 w.heap.size ((List.replicate 32 (0 : UInt8)).map bv) 23 from hw1 ▸ Row.new rfl rfl)
  refine code_world hw1 ?_
  clear hw1
  go_loopw [3, 4] (fun vo vi wr => ∃ i : Nat, i ≤ ls.length ∧ vi = .int .i64 (i : Int) ∧ Own wr w1.heap.size vo (ls.take i).flatten ∧ Below w1.heap.size w1 wr) (fun _ vi _ => ls.length - (intOf vi).toNat)
  case atStart => exact ⟨0, Nat.zero_le _, rfl, by rw [List.take_zero]; exact Own.nil _ _, Below.refl _ _⟩
  case round =>
    obtain ⟨i, hi, rfl, ho, hb⟩ := hrel
    have Hi := Lib.hid hi
    have HO := Lib.hid ho
    have HB := Lib.hid hb
    have hib : (i : Int) ≤ 1000 := by have := Hn.out; omega
    clear hi ho hb
    by_cases h1 : i < ls.length
    · have h1' : (i : Int) < (ls.length : Int) := by omega
      obtain ⟨b, off, rfl, hlt, hcell⟩ := Hcs.out (by rintro rfl; simp at h1)
      obtain ⟨x, hx⟩ : ∃ x, ls[i]? = some x := ⟨_, List.getElem?_eq_getElem h1⟩
      obtain ⟨u, hu, hbu⟩ := hcell i x hx
      have HWB := Lib.hid (nextB HB1.out (Nat.le_refl _) HB.out)
      have hcw := (HWB.out.cell (p := ⟨b, off + i, none⟩) hlt).trans hu
      have Hbu := Lib.hid ((hbu.below HWB.out).more HWB.out.size)
      have Hx := Lib.hid (Sha.take_flat hx)
      have Hxl := Lib.hid (show (ls.take i).flatten.length + x.length ≤ 100000000 by
        have h2 := congrArg List.length (Sha.take_flat hx)
        have h3 : (ls.take (i + 1)).flatten.length ≤ ls.flatten.length := by
          conv => rhs; rw [← List.take_append_drop (i + 1) ls, List.flatten_append, List.length_append]
          omega
        rw [List.length_append] at h2
        have := Hf.out
        omega)
      clear hcell hlt hu hbu hx
      go_wp2_with (first
        | (at_builtin
           refine wpList_app_bytes _ rfl _ _ rfl rfl HO.out rfl Hbu.out (by have := Hxl.out; omega) HB.out.size ?_
           intro v2 w2 ho2 hg2 _
           refine stop ?_)
        | fail)
      unfold Stop
      have hb2 : Below w1.heap.size w1 w2 := HB.out.grown hg2 HB.out.size (fun k hk => (HO.out.block_ge hk).1)
      clear hg2
      go_wp2_with fail
      go_roundw
      case rel => exact ⟨i + 1, h1, by go_num, by rw [Hx.out]; exact ho2, hb2⟩
      case measure => simp [intOf]; omega
    · have h1' : ¬ (i : Int) < (ls.length : Int) := by omega
      obtain rfl : i = ls.length := by have := Hi.out; omega
      have ho1 := HO.out
      rw [List.take_length] at ho1
      obtain ⟨L, hL⟩ : ∃ L, ls.flatten = L := ⟨_, rfl⟩
      rw [hL] at ho1 Hf
      obtain ⟨A2, c2, rfl⟩ := ho1.shape
      have HO := Lib.hid ho1
      clear ho1
      go_wp2_with fail
      refine (RPad_at _ L.length (len_cases L.length) (by have := Hf.out; omega) wr).mono ?_
      rintro e w3 ⟨v3, rfl, ho3, hb3⟩
      have HO3 := Lib.hid ho3
      have HO13 := Lib.hid (HO.out.below hb3 (Nat.le_refl _))
      have HB3 := Lib.hid (nextB HB.out (Nat.le_refl _) hb3)
      have HPl := Lib.hid (show (Sha.pad L.length).length ≤ 80 by have := (Sha.zerosOf_is L.length).2; rw [Sha.pad_length]; omega)
      clear ho3 hb3
      go_wp2_with (first
        | (at_builtin
           refine wpList_app_bytes _ rfl _ _ rfl rfl HO13.out rfl HO3.out.bs (by have := Hf.out; have := HPl.out; omega) HB3.out.size ?_
           intro v4 w4 ho4 hg4 _
           refine stop ?_)
        | fail)
      unfold Stop
      have HB4 := Lib.hid (HB3.out.grown hg4 HB3.out.size (fun k hk => (HO13.out.block_ge hk).1))
      obtain ⟨F, hF⟩ : ∃ F, L ++ Sha.pad L.length = F := ⟨_, rfl⟩
      have HF := Lib.hid (show Sha.full L = F from hF)
      rw [hF] at ho4
      have HFl := Lib.hid (show F.length ≤ 100000100 by rw [← hF, List.length_append]; have := Hf.out; have := HPl.out; omega)
      obtain ⟨N, hN⟩ : ∃ N, F.length / 64 = N := ⟨_, rfl⟩
      have H64 := Lib.hid (show F.length = 64 * N by rw [← hN, ← HF.out]; exact (Sha.full_64 L).symm)
      have hF0 : 0 < F.length := by rw [← hF, List.length_append, Sha.pad_length]; omega
      obtain ⟨S, hS⟩ : ∃ S, Sha.blocks N Sha.start F = S := ⟨_, rfl⟩
      have Hsum := Lib.hid (show SM = Sha.outOf S by rw [← HSM.out, hL, Sha.sum, HF.out, hN, hS])
      have HS := Lib.hid hS
      have HSl := Lib.hid (show S.length = 8 by rw [← hS]; exact Sha.blocks_length _ _ _ rfl)
      obtain ⟨A4, c4, rfl⟩ := ho4.shape
      obtain ⟨A5, c5, hA5, hc5, hcs5⟩ := ho4.bs
      simp only [Value.slice.injEq] at hA5
      obtain ⟨rfl, _, rfl⟩ := hA5
      obtain ⟨kb, ko, rfl, hkb, hkc⟩ := hcs5 (by intro h; rw [h] at hF0; simp at hF0)
      have Hkb := Lib.hid hkb
      have Hkc := Lib.hid hkc
      have Hc4 := Lib.hid hc5
      have HR4 := Lib.hid (HR1.out.below HB4.out HR1.out.lt)
      have HWB4 := Lib.hid (nextB HB1.out (Nat.le_refl _) HB4.out)
      clear ho4 hg4 hF hS hN hL hcs5 hkb hkc hc5 hF0 h1 h1' hib
      go_wp2_with (first
        | (show wpList _ _ _ (⟨none, Op.store 56 _ _, _, _, _, _⟩ :: _) _ _; refine wpList_storeRow rfl 56 _ _ rfl rfl rfl (cs := Sha.start.map wv) (old := (List.replicate 8 0#32).map wv) (g := w4.heap.size) (Row.new rfl rfl) (by kernel_rfl) rfl rfl (words_one _) ?_)
        | fail)
      obtain ⟨V, hV⟩ : ∃ V, (w4.alloc (.cells ((List.replicate 8 0#32).map wv).toArray 56)).setRow w4.heap.size (Sha.start.map wv).toArray = V := ⟨_, rfl⟩
      have hbV : Below w4.heap.size w4 V := hV ▸ below_setRow ((Below.refl w4.heap.size w4).alloc (Nat.le_refl _) (.cells ((List.replicate 8 0#32).map wv).toArray 56)) (Nat.le_refl _) (Sha.start.map wv).toArray
      have HRV := Lib.hid (show Row V w4.heap.size (Sha.start.map wv) 56 from hV ▸ (Row.new (cs := (List.replicate 8 0#32).map wv) rfl rfl).setRow (Sha.start.map wv))
      refine code_world hV ?_
      clear hV
      obtain ⟨gs, hgs⟩ : ∃ gs, w4.heap.size = gs := ⟨_, rfl⟩
      have Hkg := Lib.hid (show kb < gs by have := Hkb.out; omega)
      have Hwg := Lib.hid (show w.heap.size < gs by have := HR4.out.lt; omega)
      rw [hgs] at HRV hbV ⊢
      have HbV := Lib.hid hbV
      have HcV := Lib.hid (show ∀ (i : Nat) (u : UInt8), F[i]? = some u → V.cell? ⟨kb, ko + i, none⟩ = some (bv u) from fun i u hu => (hbV.cell (p := ⟨kb, ko + i, none⟩) Hkg.out).trans (Hkc.out i u hu))
      have HR5 := Lib.hid (HR4.out.below hbV Hwg.out)
      have HWV := Lib.hid (HWB4.out.trans (hbV.mono (Nat.le_of_lt Hwg.out)))
      clear hbV hgs
      go_loopw [6] (fun iv wr => ∃ (i j : Nat) (st : List (BitVec 32)), i ≤ N ∧ j = 64 * i ∧ iv = .int .i64 (j : Int) ∧ st.length = 8 ∧ Sha.blocks (N - i) st (F.drop (64 * i)) = S ∧ Row wr gs (st.map wv) 56 ∧ Below gs V wr) (fun iv _ => F.length + 64 - (intOf iv).toNat)
      case atStart => exact ⟨0, 0, Sha.start, Nat.zero_le _, rfl, rfl, rfl, by rw [Nat.sub_zero, Nat.mul_zero, List.drop_zero]; exact HS.out, HRV.out, Below.refl _ _⟩
      case round =>
        obtain ⟨i, j, st, hi, hj, rfl, hst, hblk, hr, hb⟩ := hrel
        have Hi := Lib.hid hi
        have Hj := Lib.hid hj
        have Hst := Lib.hid hst
        have Hblk := Lib.hid hblk
        have Hr := Lib.hid hr
        have Hb := Lib.hid hb
        have Hstl := Lib.hid (show (st.map wv).length = 8 by rw [List.length_map]; exact hst)
        have hjb : (j : Int) ≤ 100000200 := by have := H64.out; have := HFl.out; omega
        clear hi hj hst hblk hr hb
        by_cases hN : i < N
        · have hN' : (j : Int) < (F.length : Int) := by have := H64.out; have := Hj.out; omega
          have hjl : (j : Int) + 64 ≤ (F.length : Int) := by have := H64.out; have := Hj.out; omega
          have hjc : (j : Int) + 64 ≤ (c4 : Int) := by have := Hc4.out; omega
          have Hcr := Lib.hid (show ∀ (i : Nat) (u : UInt8), F[i]? = some u → wr.cell? ⟨kb, ko + i, none⟩ = some (bv u) from fun i u hu => (Hb.out.cell (p := ⟨kb, ko + i, none⟩) Hkg.out).trans (HcV.out i u hu))
          have HLen := Lib.hid (show ((F.drop j).take 64).length = 64 by rw [List.length_take, List.length_drop]; omega)
          have Hbs := Lib.hid (bs_sub (cc := c4 - j) Hcr.out (B := wr.heap.size) (Nat.lt_trans Hkg.out Hr.out.lt) HLen.out (by have := Hc4.out; omega))
          have HTr := Lib.hid (Ht.out.below (HWV.out.trans (Hb.out.mono (Nat.le_of_lt Hwg.out))) Ht.out.1)
          obtain ⟨S2, hS2⟩ : ∃ S2, Sha.comp st (Sha.words ((F.drop j).take 64)) = S2 := ⟨_, rfl⟩
          have HS2 := Lib.hid hS2
          have HS2l := Lib.hid (show S2.length = 8 by rw [← hS2]; exact Sha.comp_length _ _ Hst.out)
          have HS2m := Lib.hid (show (S2.map wv).length = 8 by rw [List.length_map]; exact HS2l.out)
          clear hS2
          go_wp2_with fail
          refine Tail.marksAt Pol.mixed 7 Grew [By.is (arr32 st),
            By.is (.slice (some ⟨kb, ko, none⟩) F.length c4),
            By.is (.int .i64 (j : Int)),
            By.is (.int .i64 (j : Int)),
            By.is (.int .i64 ((j : Int) + 64)),
            By.is (.slice (some ⟨kb, ko + j, none⟩) 64 (c4 - j)),
            By.is (arr32 S2)]
            (Ev.masks _ []) (Nat.zero_lt_succ _) (by kernel_rfl) (by kernel_rfl) rfl Grew.refl Grew.trans ⟨?_, ?_, ?_, ?_, ?_, ?_, ?_, trivial⟩ ?_
          · intro a w ht hs hg -- 33
            have h5 := By.same_get hs 5 (by decide) (by kernel_rfl)
            refine By.yes rfl ?_
            clear hs hg
            refine wp_loadRow 56 _ rfl h5 (Row.below (w := wr.drew) Hr.out ht Hr.out.lt) Tryd.underlying56 rfl (by kernel_rfl) Hstl.out ?_
            exact ⟨_, rfl, Grew.refl _, rfl⟩
          · intro a w ht hs hg -- 34
            have h3 := By.same_get hs 3 (by decide) (by kernel_rfl)
            refine By.yes rfl ?_
            clear hs hg
            go_simp
            exact ⟨_, rfl, Grew.refl _, rfl⟩
          · intro a w ht hs hg -- 35
            have h6 := By.same_get hs 6 (by decide) (by kernel_rfl)
            refine By.yes rfl ?_
            clear hs hg
            go_simp
            exact ⟨_, rfl, Grew.refl _, rfl⟩
          · intro a w ht hs hg -- 36
            have h6 := By.same_get hs 6 (by decide) (by kernel_rfl)
            refine By.yes rfl ?_
            clear hs hg
            go_simp
            exact ⟨_, rfl, Grew.refl _, rfl⟩
          · intro a w ht hs hg -- 37
            have h36 : a.tmps.getD 36 undef = _ := By.given_get hg 3 rfl rfl (by kernel_rfl)
            refine By.yes rfl ?_
            clear hs hg
            have hjw : IntKind.i64.wrap ((j : Int) + 64) = (j : Int) + 64 := IntWalk.i64_in _ (by omega)
            go_simp
            exact ⟨_, rfl, Grew.refl _, rfl⟩
          · intro a w ht hs hg -- 38
            have h34 : a.tmps.getD 34 undef = _ := By.given_get hg 1 rfl rfl (by kernel_rfl)
            have h35 : a.tmps.getD 35 undef = _ := By.given_get hg 2 rfl rfl (by kernel_rfl)
            have h37 : a.tmps.getD 37 undef = _ := By.given_get hg 4 rfl rfl (by kernel_rfl)
            refine By.yes rfl ?_
            clear hs hg
            have hj0 : (0 : Int) ≤ (j : Int) + 64 := by omega
            have hj1 : ((j : Int) + 64).toNat = j + 64 := by omega
            have hj2 : j ≤ j + 64 := by omega
            have hj3 : j + 64 ≤ c4 := by omega
            have hj4 : ¬ c4 = j := by omega
            have hj5 : j + 64 - j = 64 := by omega
            go_simp
            exact ⟨_, rfl, Grew.refl _, rfl⟩
          · intro a w ht hs hg -- 39
            have h33 : a.tmps.getD 33 undef = _ := By.given_get hg 0 rfl rfl (by kernel_rfl)
            have h38 : a.tmps.getD 38 undef = _ := By.given_get hg 5 rfl rfl (by kernel_rfl)
            refine By.yes rfl ?_
            clear hs hg
            have hx := Lib.hid ((Bs.below (w := wr.drew) Hbs.out ht).more ht.size)
            have htab := Lib.hid (Tab.below (w := wr.drew) HTr.out ht (Nat.lt_of_lt_of_le Ht.out.1 (HWV.out.trans (Hb.out.mono (Nat.le_of_lt Hwg.out))).size))
            go_simp
            refine (RStep_any st Hst.out _ HLen.out _ w htab.out hx.out).mono ?_
            rintro e w' ⟨rfl, hb⟩
            exact ⟨_, rfl, hb, congrArg arr32 HS2.out⟩
          refine By.ends_is (By.ends_is (By.ends_is (By.ends_is (By.ends_is (By.ends_is (By.ends_is (By.ends_nil fun wz hz => ?_)))))))
          simp only [Act.put, List.setIfInBounds_toArray, List.set_cons_succ, List.set_cons_zero]
          simp only [List.drop_succ_cons, List.drop_zero]
          have hz : Below wr.heap.size wr.drew wz := hz
          have Hrz := Lib.hid (Row.below (w := wr.drew) Hr.out hz Hr.out.lt)
          have Hbz := Lib.hid (nextB (b := wr.drew) Hb.out.drew (Nat.le_of_lt HRV.out.lt) hz)
          clear hz
          unfold arr32
          go_wp2_with (first
            | (refine wpList_storeRow (g := gs) rfl 56 (.tmp 5) (.tmp 39) rfl rfl rfl (cs := S2.map wv) Hrz.out (by kernel_rfl) HS2m.out Hstl.out (words_one S2) ?_)
            | fail)
          go_roundw
          case rel =>
            refine ⟨i + 1, j + 64, S2, hN, by have := Hj.out; omega, by go_num, HS2l.out, ?_, Hrz.out.setRow _, below_setRow Hbz.out (Nat.le_refl _) _⟩
            have h := Hblk.out
            rw [show N - i = (N - (i + 1)) + 1 by omega, Sha.blocks, ← words_take, ← Hj.out, HS2.out, List.drop_drop, Hj.out] at h
            exact h
          case measure => simp [intOf]; omega
        · have hN' : ¬ (j : Int) < (F.length : Int) := by have := H64.out; have := Hj.out; omega
          obtain rfl : i = N := by have := Hi.out; omega
          have hst2 : st = S := by have := Hblk.out; rw [Nat.sub_self, Sha.blocks] at this; exact this
          subst hst2
          have Hr0 := Lib.hid (HR5.out.below Hb.out Hwg.out)
          have Hr5 := Hr
          have Hb := Lib.hid (HWV.out.trans (Hb.out.mono (Nat.le_of_lt Hwg.out)))
          have hi := Hi.out
          have hwgs : w.heap.size < gs := Hwg.out
          obtain ⟨B, hB⟩ : ∃ B, Sha.outOf st = B := ⟨_, rfl⟩
          have hBl : B.length = 32 := by rw [← hB, Sha.outOf_length, HSl.out]
          have hat : ∀ q r, q < 8 → r < 4 → B[4 * q + r]? = some (Sha.byteOf (Sha.at_ st q) r) := by
            intro q r hq hr
            rw [← hB, Sha.outOf_at _ _ _ hr, List.getElem?_eq_getElem (by rw [HSl.out]; exact hq), Sha.at_, List.getD_eq_getElem?_getD, List.getElem?_eq_getElem (by rw [HSl.out]; exact hq)]
            rfl
          have HB := Lib.hid hB
          have HBl := Lib.hid hBl
          have Hat := Lib.hid hat
          clear hB hBl hat
          go_wp2_with fail
          have hsz := Hb.out.size
          have hr7 : Row (wr.alloc (.cells ((List.replicate 32 (0 : UInt8)).map bv).toArray 23)) wr.heap.size ((Sha.fillTo 32 B 0).map bv) 23 := Row.new rfl rfl
          obtain ⟨gm, hgm⟩ : ∃ gm, wr.heap.size = gm := ⟨_, rfl⟩
          have hr0 := Hr0.out.alloc (.cells ((List.replicate 32 (0 : UInt8)).map bv).toArray 23)
          have hr5 := Hr5.out.alloc (.cells ((List.replicate 32 (0 : UInt8)).map bv).toArray 23)
          have hb7 := Hb.out.alloc hsz (.cells ((List.replicate 32 (0 : UInt8)).map bv).toArray 23)
          obtain ⟨V7, hV7⟩ : ∃ V7, wr.alloc (.cells ((List.replicate 32 (0 : UInt8)).map bv).toArray 23) = V7 := ⟨_, rfl⟩
          refine code_world hV7 ?_
          rw [hV7] at hr7 hr0 hr5 hb7
          have hgsm : gs < gm := by rw [← hgm]; exact Hr5.out.lt
          rw [hgm] at hr7 ⊢
          have Hr7 := Lib.hid hr7
          have Hr0 := Lib.hid hr0
          have Hr5 := Lib.hid hr5
          have Hb := Lib.hid hb7
          clear hV7 hr7 hr0 hr5 hb7 hgm hsz
          have HiN := Lib.hid hi
          clear hi hN hN'
          obtain ⟨N, hNN⟩ : ∃ N, i = N := ⟨_, rfl⟩
          go_loopw [8] (fun iv wq => ∃ i : Nat, i ≤ 32 ∧ iv = .int .i64 (i : Int) ∧ Row wq w.heap.size ((List.replicate 32 (0 : UInt8)).map bv) 23 ∧ Row wq gs (st.map wv) 56 ∧ Row wq gm ((Sha.fillTo 32 B i).map bv) 23 ∧ Below w.heap.size w wq) (fun iv _ => 32 - (intOf iv).toNat)
          case atStart => exact ⟨0, by omega, rfl, Hr0.out, Hr5.out, Hr7.out, Hb.out⟩
          case round =>
            obtain ⟨i, hi, rfl, hr0, hr5, hr7, hb⟩ := hrel
            have Hr0 := Lib.hid hr0
            have Hr5 := Lib.hid hr5
            have Hr7 := Lib.hid hr7
            have Hb := Lib.hid hb
            clear hr0 hr5 hr7 hb
            by_cases h32 : i < 32
            · have h32' : (i : Int) < 32 := by omega
              obtain ⟨q, hq⟩ : ∃ q, i / 4 = q := ⟨_, rfl⟩
              have hq8 : q < 8 := by omega
              have hqi : (i : Int) / 4 = (q : Int) := by omega
              have hwc := Hr5.out.cell (getD_word st q (by rw [HSl.out]; exact hq8))
              obtain ⟨x, hx⟩ : ∃ x, Sha.at_ st q = x := ⟨_, rfl⟩
              rw [hx] at hwc
              have hfl := Sha.fillTo_length 32 B i HBl.out (by omega)
              obtain ⟨v0, hv0⟩ : ∃ v0, wr.cell? ⟨gm, i, none⟩ = some v0 := ⟨_, Hr7.out.cell (getD_cell _ i (by rw [hfl]; exact h32))⟩
              have hfr := frozen_row Hr7.out i
              have hset : ∀ r, r < 4 → i % 4 = r → Row (wr.setCell ⟨gm, i, none⟩ (.int .u8 (((x >>> (24 - 8 * r)).toNat % 256 : Nat) : Int))) gm ((Sha.fillTo 32 B (i + 1)).map bv) 23 := by
                intro r hr hir
                have e : i = 4 * q + r := by omega
                have h1 := Hat.out q r hq8 hr
                rw [← e, hx] at h1
                have := Hr7.out.set i (bv (Sha.byteOf x r))
                rw [← List.map_set, Sha.fillTo_set 32 B i _ HBl.out h32 h1, Sha.byteOf_is] at this
                exact this
              have Hset4 := Lib.hid hset
              clear hset hfl hx
              have Hq := Lib.hid hq
              clear hq
              have h4 : i % 4 = 0 ∨ i % 4 = 1 ∨ i % 4 = 2 ∨ i % 4 = 3 := by omega
              rcases h4 with h4 | h4 | h4 | h4
              · have hr4 : (i : Int) % 4 = 0 := by omega
                have Hset := Lib.hid (Hset4.out 0 (by omega) h4)
                clear h4
                go_wp2
                rw [sbyte0]
                go_roundw
                case rel => exact ⟨i + 1, h32, by simp, Hr0.out.other _ _ (by dsimp only; omega), Hr5.out.other _ _ (by dsimp only; omega), Hset.out, Hb.out.setCell (by dsimp only; omega) _⟩
                case measure => simp [intOf]; omega
              · have hr4 : (i : Int) % 4 = 1 := by omega
                have Hset := Lib.hid (Hset4.out 1 (by omega) h4)
                clear h4
                go_wp2
                rw [sbyte1]
                go_roundw
                case rel => exact ⟨i + 1, h32, by simp, Hr0.out.other _ _ (by dsimp only; omega), Hr5.out.other _ _ (by dsimp only; omega), Hset.out, Hb.out.setCell (by dsimp only; omega) _⟩
                case measure => simp [intOf]; omega
              · have hr4 : (i : Int) % 4 = 2 := by omega
                have Hset := Lib.hid (Hset4.out 2 (by omega) h4)
                clear h4
                go_wp2
                rw [sbyte2]
                go_roundw
                case rel => exact ⟨i + 1, h32, by simp, Hr0.out.other _ _ (by dsimp only; omega), Hr5.out.other _ _ (by dsimp only; omega), Hset.out, Hb.out.setCell (by dsimp only; omega) _⟩
                case measure => simp [intOf]; omega
              · have hr4 : (i : Int) % 4 = 3 := by omega
                have Hset := Lib.hid (Hset4.out 3 (by omega) h4)
                clear h4
                go_wp2
                rw [sbyte3]
                go_roundw
                case rel => exact ⟨i + 1, h32, by simp, Hr0.out.other _ _ (by dsimp only; omega), Hr5.out.other _ _ (by dsimp only; omega), Hset.out, Hb.out.setCell (by dsimp only; omega) _⟩
                case measure => simp [intOf]; omega
            · have h32' : ¬ (i : Int) < 32 := by omega
              have : i = 32 := by omega
              subst this
              have hr7 := Hr7.out.same (cs' := B.map bv) (by rw [Sha.fillTo_all 32 B HBl.out])
              have Hr7 := Lib.hid hr7
              have Hlb := Lib.hid (show (B.map bv).length = 32 by rw [List.length_map]; exact HBl.out)
              clear hr7
              go_wp2_with (first
                | (refine wpList_loadRow rfl 23 _ rfl rfl Hr7.out Tryd.underlying23 rfl (by kernel_rfl) Hlb.out ?_)
                | (refine wpList_storeRow rfl 23 _ _ rfl rfl rfl Hr0.out (by kernel_rfl) Hlb.out (by simp) (bytes_one B) ?_))
              refine bodyPost_ret (results_row rfl _ rfl (Hr0.out.setRow (B.map bv)) Tryd.underlying23 rfl (by kernel_rfl) Hlb.out) rfl ?_
              exact ⟨by rw [Hsum.out, HB.out]; rfl, below_setRow Hb.out (by omega) _⟩
end Go.Proofs.YtpllbnioncjhaaaDoor

