/- The reference's bytes xor the key stream. -/
import Derived.Test.YtpldkkkenmdimaaChaRBlock
import Derived.Test.YtpldkkkenmdimaaChaXor
import Derived.Test.YtpldkkkenmdimaaTail
namespace Go.Proofs.Ytpldkkkenmdimaa
open Go.RowKit

set_option maxRecDepth 8000 in
set_option maxHeartbeats 2000000 in
theorem RXor_long (key nonce : List UInt8) (A : Option Addr) (cap : Nat) (c : BitVec 32) (n : Nat) (w : World) (hn : n ≤ 1000000000) (hlong : Cha.long c n) :
    Calls Try.prog 32 #[arr8 key, wv c, arr8 nonce, .slice A n cap] w fun e w' => e = .returned (.tuple #[.slice none 0 0, .int .i64 3]) ∧ Below w.heap.size w w' := by
  unfold Cha.long at hlong
  have hc := c.isLt
  have h1 : (4294967296 : Int) - (c.toNat : Int) < ((n : Int) + 63) / 64 := by omega
  unfold arr8
  go_enter Try.func32, Try.ntmps32
  go_wp2
  go_ret2
  exact ⟨rfl, ((Below.refl _ w).alloc (Nat.le_refl _) _).alloc (by simp) _⟩

theorem wp_byte1 {o : Oper} {a : Act} {w : World} {K : Act → World → Prop} {Q : Exit → Act → World → Prop} {u : UInt8} (x : Operand) (ho : o.op = .buildSlice 34 1 #[(0, x)]) (hx : a.eval x = bv u)
    (h : K (a.put o.dst (.slice (some ⟨w.heap.size, 0, none⟩) 1 1)) (w.alloc (.cells #[bv u] 5))) : o.wp Try.prog a w K Q := by
  obtain ⟨i, hi, hz, hs, _⟩ := info_u8
  refine wp_buildSlice 34 5 1 #[(0, x)] ho #[bv u] i _ Try.underlying34 hi hz (by rw [hs]; decide) (by rw [hs]; decide) ?_ h
  rw [hs, show Array.range (1 * 1) = #[0] from by kernel_rfl]
  simp [Instr.fill, hx, Value.cells, bv]
theorem ctr_add (c : BitVec 32) (n i : Nat) (h : ¬ Cha.long c n) (hi : i < n) (hn : n ≤ 1000000) : (c.toNat : Int) + (i : Int) / 64 = ((c + BitVec.ofNat 32 (i / 64)).toNat : Int) := by
  unfold Cha.long at h
  have hc := c.isLt
  rw [BitVec.toNat_add, BitVec.toNat_ofNat]
  omega
theorem xor_byte (key nonce l : List UInt8) (c : BitVec 32) (i : Nat) (u : UInt8) (hu : l[i]? = some u) : (Cha.xor key c nonce l)[i]? = some (u ^^^ (Cha.block key (c + BitVec.ofNat 32 (i / 64)) nonce).getD (i % 64) 0) := by
  have h := Cha.stream_at key c nonce (i / 64) (i % 64) (by omega)
  rw [show 64 * (i / 64) + i % 64 = i by omega] at h
  rw [Cha.xor_at _ _ _ _ _ _ hu, h]
set_option maxRecDepth 8000 in
set_option maxHeartbeats 800000 in
theorem RXor_ok (key nonce l : List UInt8) (v : Value) (c : BitVec 32) (hk : key.length = 32) (hn : nonce.length = 12) (w : World) (hb : Bs w w.heap.size v l) (hl : l.length ≤ 1000000) (hlong : ¬ Cha.long c l.length) :
    Calls Try.prog 32 #[arr8 key, wv c, arr8 nonce, v] w fun e w' => ∃ v, e = .returned (.tuple #[v, .int .i64 0]) ∧ Own w' w.heap.size v (Cha.xor key c nonce l) ∧ Below w.heap.size w w' := by
  have hlong0 := hlong
  unfold Cha.long at hlong
  have hc := c.isLt
  have h1 : ¬ (4294967296 : Int) - (c.toNat : Int) < ((l.length : Int) + 63) / 64 := by omega
  have Hb := Lib.hid hb
  obtain ⟨A, cap, rfl, hcap, hcs⟩ := hb
  have Hcs := Lib.hid hcs
  have Hkl := Lib.hid (show (key.map bv).length = 32 by simpa using hk)
  have Hnl := Lib.hid (show (nonce.map bv).length = 12 by simpa using hn)
  have Hk := Lib.hid hk
  have Hn := Lib.hid hn
  clear hk hn hcs hlong
  unfold arr8
  go_enter Try.func32, Try.ntmps32
  go_wp2
  have hb1 : Below w.heap.size w ((w.alloc (.cells (key.map bv).toArray 24)).alloc (.cells (nonce.map bv).toArray 25)) := ((Below.refl _ w).alloc (Nat.le_refl _) _).alloc (by simp) _
  have hk1 : Row ((w.alloc (.cells (key.map bv).toArray 24)).alloc (.cells (nonce.map bv).toArray 25)) w.heap.size (key.map bv) 24 := (Row.new rfl rfl).alloc _
  have hn1 : Row ((w.alloc (.cells (key.map bv).toArray 24)).alloc (.cells (nonce.map bv).toArray 25)) (w.heap.size + 1) (nonce.map bv) 25 := Row.new (by simp) rfl
  have HX := Lib.hid (Cha.xor_length key c nonce l)
  go_loopw [10, 11] (fun vo iv wr => ∃ i : Nat, i ≤ l.length ∧ iv = .int .i64 (i : Int) ∧ Own wr (w.heap.size + 2) vo ((Cha.xor key c nonce l).take i) ∧ Row wr w.heap.size (key.map bv) 24 ∧ Row wr (w.heap.size + 1) (nonce.map bv) 25 ∧ w.heap.size + 2 ≤ wr.heap.size ∧ Below w.heap.size w wr) (fun _ iv _ => l.length - (intOf iv).toNat)
  case atStart => exact ⟨0, by omega, rfl, by simpa using Own.nil _ _, hk1, hn1, by simp, hb1⟩
  case round =>
    obtain ⟨i, hi, rfl, ho, hrk, hrn, hsz, hbel⟩ := hrel
    have Ho := Lib.hid ho
    have Hrk := Lib.hid hrk
    have Hrn := Lib.hid hrn
    clear hrk hrn ho hk1 hn1 hb1
    by_cases hin : i < l.length
    · have hin' : (i : Int) < (l.length : Int) := by omega
      go_wp2_with (first
        | (refine wpList_loadRow rfl 24 _ rfl rfl Hrk.out Try.underlying24 rfl (by kernel_rfl) Hkl.out ?_)
        | (refine wpList_loadRow rfl 25 _ rfl rfl Hrn.out Try.underlying25 rfl (by kernel_rfl) Hnl.out ?_)
        | fail)
      have hctr := ctr_add c l.length i hlong0 hin hl
      rw [hctr]
      refine (RBlock_any key nonce (c + BitVec.ofNat 32 (i / 64)) Hk.out Hn.out wr).mono ?_
      rintro e w3 ⟨rfl, hb3⟩
      clear hctr
      obtain ⟨u, hu⟩ : ∃ u, l[i]? = some u := ⟨_, List.getElem?_eq_getElem hin⟩
      have hX := xor_byte key nonce l c i u hu
      have hBl := Cha.block_length key (c + BitVec.ofNat 32 (i / 64)) nonce
      obtain ⟨B, hB⟩ : ∃ B, Cha.block key (c + BitVec.ofNat 32 (i / 64)) nonce = B := ⟨_, rfl⟩
      rw [hB] at hX hBl ⊢
      obtain ⟨y, hy⟩ : ∃ y, B.getD (i % 64) 0 = y := ⟨_, rfl⟩
      rw [hy] at hX
      have HX1 := Lib.hid hX
      have Hlb := Lib.hid (show (B.map bv).length = 64 by rw [List.length_map]; exact hBl)
      have HBl := Lib.hid hBl
      have Hy := Lib.hid hy
      clear hB hX hBl hy
      unfold arr8
      obtain ⟨gx, hgx⟩ : ∃ gx, w3.heap.size = gx := ⟨_, rfl⟩
      have hgx2 : wr.heap.size ≤ gx := by have := hb3.size; omega
      obtain ⟨b, off, rfl, hltb, hcellb⟩ := Hcs.out (by intro h; subst h; simp at hin)
      have Hcellb := Lib.hid hcellb
      clear hcellb
      have hW0 := Row.new (w := w3) (cs := (List.replicate 64 (0 : UInt8)).map bv) (t := 56) hgx rfl
      go_wp2_with (first
        | (refine wpList_storeRow rfl 56 _ _ rfl rfl rfl (old := (List.replicate 64 (0 : UInt8)).map bv) hW0 (by kernel_rfl) Hlb.out (by simp) (bytes_one B) ?_
           have hWx := hW0.setRow (B.map bv)
           have hWb : Below wr.heap.size wr ((w3.alloc (.cells ((List.replicate 64 (0 : UInt8)).map bv).toArray 56)).setRow gx (B.map bv).toArray) := below_setRow (hb3.alloc (by omega) _) (by omega) _
           obtain ⟨W, hW⟩ : ∃ W, (w3.alloc (.cells ((List.replicate 64 (0 : UInt8)).map bv).toArray 56)).setRow gx (B.map bv).toArray = W := ⟨_, rfl⟩
           rw [hW] at hWx hWb
           refine wpList_world hW ?_
           clear hW)
        | fail)
      have hWo := Own.below Ho.out hWb (Nat.le_refl _)
      have hWk := Hrk.out.below hWb (by omega)
      have hWn := Hrn.out.below hWb (by omega)
      have hWw : Below w.heap.size w W := nextB hbel (Nat.le_refl _) hWb
      have hWs : w.heap.size + 2 ≤ W.heap.size := by have := hWb.size; omega
      have hcb : ∀ w', Grew W.drew w' → w'.cell? ⟨b, off + i, none⟩ = some (bv u) := by
        intro w' hw'
        have h1 : W.cell? ⟨b, off + i, none⟩ = some (bv u) := (hWw.cell (p := ⟨b, off + i, none⟩) hltb).trans (Hcellb.out _ _ hu)
        exact (Below.cell (w := W.drew) hw' (p := ⟨b, off + i, none⟩) (show b < W.heap.size by omega)).trans h1
      have hcx : ∀ w', Grew W.drew w' → w'.cell? ⟨gx, i % 64, none⟩ = some (bv y) := by
        intro w' hw'
        have h1 := hWx.cell (getD_cell B (i % 64) (by rw [HBl.out]; omega))
        rw [Hy.out] at h1
        exact (Below.cell (w := W.drew) hw' (p := ⟨gx, i % 64, none⟩) hWx.lt).trans h1
      have Hcb := Lib.hid hcb
      have Hcx := Lib.hid hcx
      have HWo := Lib.hid hWo
      have HWk := Lib.hid hWk
      have HWn := Lib.hid hWn
      have hshape := hWo.shape
      clear hcb hcx hWx hWo hWk hWn hW0 hb3
      refine Tail.marksAt Cha.mixed 11 Grew [By.is u10,
        By.is (.slice (some ⟨b, off, none⟩) l.length cap),
        By.is (.int .i64 (i : Int)),
        By.is (.pointer (some ⟨b, off + i, none⟩)),
        By.is (bv u),
        By.is (.int .i64 (i : Int)),
        By.is (.int .i64 ((i % 64 : Nat) : Int)),
        By.is (.pointer (some ⟨gx, i % 64, none⟩)),
        By.is (bv y),
        By.is (bv (u ^^^ y)),
        ownM W.heap.size [u ^^^ y]]
        (Ev.masks _ []) (Nat.zero_lt_succ _) (by kernel_rfl) (by kernel_rfl) rfl Grew.refl Grew.trans ⟨?_, ?_, ?_, ?_, ?_, ?_, ?_, ?_, ?_, ?_, ?_, trivial⟩ ?_
      · intro a w ht hs hg -- 36
        have h10 := By.same_get hs 10 (by decide) (by kernel_rfl)
        refine By.yes rfl ?_
        clear hs hg
        go_simp
        exact ⟨_, rfl, Grew.refl _, rfl⟩
      · intro a w ht hs hg -- 37
        have h3 := By.same_get hs 3 (by decide) (by kernel_rfl)
        refine By.yes rfl ?_
        clear hs hg
        go_simp
        exact ⟨_, rfl, Grew.refl _, rfl⟩
      · intro a w ht hs hg -- 38
        have h11 := By.same_get hs 11 (by decide) (by kernel_rfl)
        refine By.yes rfl ?_
        clear hs hg
        go_simp
        exact ⟨_, rfl, Grew.refl _, rfl⟩
      · intro a w ht hs hg -- 39
        have h37 : a.tmps.getD 37 undef = _ := By.given_get hg 1 rfl rfl (by kernel_rfl)
        have h38 : a.tmps.getD 38 undef = _ := By.given_get hg 2 rfl rfl (by kernel_rfl)
        refine By.yes rfl ?_
        clear hs hg
        go_simp
        exact ⟨_, rfl, Grew.refl _, rfl⟩
      · intro a w ht hs hg -- 40
        have h39 : a.tmps.getD 39 undef = _ := By.given_get hg 3 rfl rfl (by kernel_rfl)
        refine By.yes rfl ?_
        clear hs hg
        have hcb := Hcb.out w ht
        unfold bv at hcb
        go_simp
        exact ⟨_, rfl, Grew.refl _, rfl⟩
      · intro a w ht hs hg -- 41
        have h11 := By.same_get hs 11 (by decide) (by kernel_rfl)
        refine By.yes rfl ?_
        clear hs hg
        go_simp
        exact ⟨_, rfl, Grew.refl _, rfl⟩
      · intro a w ht hs hg -- 42
        have h41 : a.tmps.getD 41 undef = _ := By.given_get hg 5 rfl rfl (by kernel_rfl)
        refine By.yes rfl ?_
        clear hs hg
        go_simp
        exact ⟨_, rfl, Grew.refl _, congrArg (Value.int .i64) (by first | omega | (rw [IntWalk.i64_in _ (by rw [Int.tmod_eq_emod_of_nonneg (by omega)]; omega), Int.tmod_eq_emod_of_nonneg (by omega)]; omega) | (rw [Int.tmod_eq_emod_of_nonneg (by omega)]; omega) | rw [Int.tmod_eq_emod_of_nonneg (by omega)])⟩
      · intro a w ht hs hg -- 43
        have h42 : a.tmps.getD 42 undef = _ := By.given_get hg 6 rfl rfl (by kernel_rfl)
        have h12 := By.same_get hs 12 (by decide) (by kernel_rfl)
        refine By.yes rfl ?_
        clear hs hg
        have hm0 : (0 : Int) ≤ (i : Int) % 64 := by omega
        have hm1 : (i : Int) % 64 < 64 := by omega
        have hmn : ((i : Int) % 64).toNat = i % 64 := by omega
        go_simp
        exact ⟨_, rfl, Grew.refl _, rfl⟩
      · intro a w ht hs hg -- 44
        have h43 : a.tmps.getD 43 undef = _ := By.given_get hg 7 rfl rfl (by kernel_rfl)
        refine By.yes rfl ?_
        clear hs hg
        have hcx := Hcx.out w ht
        unfold bv at hcx
        go_simp
        exact ⟨_, rfl, Grew.refl _, rfl⟩
      · intro a w ht hs hg -- 45
        have h40 : a.tmps.getD 40 undef = _ := By.given_get hg 4 rfl rfl (by kernel_rfl)
        have h44 : a.tmps.getD 44 undef = _ := By.given_get hg 8 rfl rfl (by kernel_rfl)
        refine By.yes rfl ?_
        clear hs hg
        unfold bv at h40 h44
        go_simp
        exact ⟨_, rfl, Grew.refl _, by rw [w8_xor]; rfl⟩
      · intro a w ht hs hg -- 46
        have h45 : a.tmps.getD 45 undef = _ := By.given_get hg 9 rfl rfl (by kernel_rfl)
        refine By.yes rfl ?_
        clear hs hg
        have hsz2 : W.heap.size ≤ w.heap.size := (show Below W.drew.heap.size W.drew w from ht).size
        refine wp_byte1 (.tmp 45) rfl h45 ?_
        exact ⟨_, rfl, (Below.refl _ w).alloc (Nat.le_refl _) _, Row.own (l := [u ^^^ y]) (Row.new rfl rfl) hsz2 (by simp)⟩
      refine By.ends_is (By.ends_is (By.ends_is (By.ends_is (By.ends_is (By.ends_is (By.ends_is (By.ends_is (By.ends_is (By.ends_is (By.ends_any fun v46 => (By.ends_nil fun w9 hw9 => ?_)))))))))))
      simp only [Act.put, List.setIfInBounds_toArray, List.set_cons_succ, List.set_cons_zero]
      simp only [List.drop_succ_cons, List.drop_zero]

      obtain ⟨hgr9, ho9⟩ := hw9
      have hgb : Below W.heap.size W w9 := ⟨hgr9.os, hgr9.tape, hgr9.output, hgr9.size, hgr9.block⟩
      have hown9 := Own.below HWo.out hgb (Nat.le_refl _)
      have hwk9 := HWk.out.below hgb HWk.out.lt
      have hwn9 := HWn.out.below hgb HWn.out.lt
      have hbel9 := nextB hWw (Nat.le_refl _) hgb
      have hs9 : w.heap.size + 2 ≤ w9.heap.size := by have := hgb.size; omega
      have hbs9 := ho9.bs
      have hXt : (Cha.xor key c nonce l).take i ++ [u ^^^ y] = (Cha.xor key c nonce l).take (i + 1) := by
        rw [List.take_add_one, HX1.out]
        rfl
      have hXl : ((Cha.xor key c nonce l).take i).length = i := by rw [List.length_take, HX.out]; omega
      have HXt := Lib.hid hXt
      have Hown9 := Lib.hid hown9
      have Hbs9 := Lib.hid hbs9
      have HXl := Lib.hid hXl
      clear hXt hown9 hbs9 hXl ho9 hgr9 hgb
      go_wp2_with (at_builtin; refine wpList_app_bytes _ rfl _ _ rfl rfl (l := (Cha.xor key c nonce l).take i) Hown9.out rfl Hbs9.out (by rw [HXl.out]; simp; omega) hs9 ?_; intro v2 w2 hown2 hg2 hblk2)
      have hge : ∀ k, u10.ownBlock = some k → w.heap.size + 2 ≤ k := fun k hk => (Hown9.out.block_ge hk).1
      have hb2 : Below (w.heap.size + 2) w9 w2 := (Below.refl _ w9).grown hg2 hs9 hge
      go_roundw
      case rel =>
        refine ⟨i + 1, hin, by simp, ?_, hwk9.below hb2 (by omega), hwn9.below hb2 (by omega), by have := hb2.size; omega, hbel9.trans (hb2.mono (by omega))⟩
        rw [← HXt.out]
        exact hown2
      case measure => simp [intOf]; omega
    · have hin' : ¬ (i : Int) < (l.length : Int) := by omega
      have : i = l.length := by omega
      subst this
      go_wp2
      go_ret2
      refine ⟨_, rfl, ?_, hbel⟩
      have := Own.less Ho.out (show w.heap.size ≤ w.heap.size + 2 by omega)
      rwa [List.take_of_length_le (by rw [HX.out]; exact Nat.le_refl _)] at this
end Go.Proofs.Ytpldkkkenmdimaa
