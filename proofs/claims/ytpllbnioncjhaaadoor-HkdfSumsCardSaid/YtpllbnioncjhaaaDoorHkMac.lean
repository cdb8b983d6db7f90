/- HMAC. -/
import Derived.Test.YtpllbnioncjhaaaDoorHkRep
import Derived.Test.YtpllbnioncjhaaaDoorTail
namespace Go.Proofs.YtpllbnioncjhaaaDoor
open Go.RowKit
namespace Sha
/-- The first i bytes of the key xor the mask, then the mask. -/
def maskN (key : List UInt8) (m : UInt8) (i : Nat) : List UInt8 := (key.take i).map (m ^^^ ·) ++ List.replicate (64 - i) m
theorem maskN_length (key : List UInt8) (m : UInt8) (i : Nat) (h : i ≤ key.length) (hk : key.length ≤ 64) : (maskN key m i).length = 64 := by
  simp [maskN]
  omega
theorem maskN_at (key : List UInt8) (m : UInt8) (i : Nat) (h : i < key.length) (hk : key.length ≤ 64) : (maskN key m i).getD i 0 = m := by
  rw [List.getD_eq_getElem?_getD, maskN, List.getElem?_append_right (by simp; omega), List.getElem?_replicate, if_pos (by simp; omega)]
  rfl
theorem maskN_set (key : List UInt8) (m c : UInt8) (i : Nat) (hk : key.length ≤ 64) (hc : key[i]? = some c) : (maskN key m i).set i (m ^^^ c) = maskN key m (i + 1) := by
  have hi : i < key.length := (List.getElem?_eq_some_iff.1 hc).1
  have e1 : ((key.take i).map (m ^^^ ·)).length = i := by simp; omega
  have e2 : List.replicate (64 - i) m = m :: List.replicate (64 - (i + 1)) m := by rw [show 64 - i = (64 - (i + 1)) + 1 by omega, List.replicate_succ]
  unfold maskN
  rw [List.set_append_right _ _ (by omega), e1, Nat.sub_self, e2, List.set_cons_zero, List.take_add_one, hc]
  simp
theorem maskN_all (key : List UInt8) (m : UInt8) (hk : key.length ≤ 64) : maskN key m key.length = masked key m := by
  unfold maskN masked
  rw [List.take_length, List.map_append, List.map_replicate]
  simp
end Sha
theorem w_xor8 (x y : UInt8) : bits .xor .u8 (x.toNat : Int) (y.toNat : Int) = ((x ^^^ y).toNat : Int) := by
  have h : ∀ a b : BitVec 8, bits .xor .u8 (a.toNat : Int) (b.toNat : Int) = ((a ^^^ b).toNat : Int) := by
    intro a b
    show IntKind.u8.wrap ((BitVec.ofInt 8 (a.toNat : Int) ^^^ BitVec.ofInt 8 (b.toNat : Int)).toNat : Int) = _
    simp only [BitVec.ofInt_natCast, BitVec.ofNat_toNat, BitVec.setWidth_eq]
    have h := (a ^^^ b).isLt
    obtain ⟨c, hc⟩ : ∃ c, (a ^^^ b).toNat = c := ⟨_, rfl⟩
    rw [hc] at h ⊢
    simp only [IntKind.wrap, IntKind.bits, IntKind.signed]
    simp
    omega
  exact h x.toBitVec y.toBitVec

set_option maxRecDepth 8000 in
set_option maxHeartbeats 1000000 in
/-- A key, masked: a row of 64 bytes at a block of its own. -/
theorem Masked_any (v : Value) (key : List UInt8) (m : UInt8) (w : World) (hb : Bs w w.heap.size v key) (hk : key.length ≤ 64) :
    Calls Tryd.prog 37 #[v, .int .u8 (m.toNat : Int)] w fun e w' => ∃ g, e = .returned (.slice (some ⟨g, 0, none⟩) 64 64) ∧ w.heap.size ≤ g ∧ (∃ R, Row w' g ((Sha.masked key m).map bv ++ R) 5) ∧ Below w.heap.size w w' := by
  have Hb := Lib.hid hb
  obtain ⟨A, c, rfl, hc, hcs⟩ := hb
  have Hcs := Lib.hid hcs
  clear hc hcs
  go_enter Tryd.func37, Tryd.ntmps37
  go_wp2_with fail
  have hc0 : (w.alloc (.cells #[.int .u8 (m.toNat : Int)] 5)).cell? ⟨w.heap.size, 0, none⟩ = some (bv m) := Row.cell (cs := [bv m]) (t := 5) (Row.new rfl rfl) rfl
  refine (Rep_any m w.heap.size (w.alloc (.cells #[.int .u8 (m.toNat : Int)] 5)) hc0 (by simp)).mono ?_
  rintro e w2 ⟨g, R, rfl, hg2, hr2, hb2⟩
  have hsz : (w.alloc (.cells #[.int .u8 (m.toNat : Int)] 5)).heap.size = w.heap.size + 1 := by simp
  have hbw : Below w.heap.size w w2 := nextB ((Below.refl w.heap.size w).alloc (Nat.le_refl _) (.cells #[.int .u8 (m.toNat : Int)] 5)) (Nat.le_refl _) hb2
  rw [hsz] at hg2
  have hr0 : Row w2 g ((Sha.maskN key m 0).map bv ++ R) 5 := by simpa [Sha.maskN] using hr2
  have Hr0 := Lib.hid hr0
  have Hg2 := Lib.hid hg2
  have Hbw := Lib.hid hbw
  clear hb2 hsz hbw hr0 hr2 hg2 hc0
  go_wp2_with fail
  go_loopw [13] (fun iv wr => ∃ i : Nat, i ≤ key.length ∧ iv = .int .i64 (i : Int) ∧ Row wr g ((Sha.maskN key m i).map bv ++ R) 5 ∧ Below w.heap.size w wr) (fun iv _ => key.length - (intOf iv).toNat)
  case atStart => exact ⟨0, Nat.zero_le _, rfl, Hr0.out, Hbw.out⟩
  case round =>
    obtain ⟨i, hi, rfl, hr, hb⟩ := hrel
    have Hr := Lib.hid hr
    have Hbw := Lib.hid hb
    have Hl := Lib.hid (Sha.maskN_length key m i hi hk)
    clear hr hb
    by_cases h1 : i < key.length
    · have h1' : (i : Int) < (key.length : Int) := by omega
      have h64 : (i : Int) < 64 := by omega
      obtain ⟨c0, hc0⟩ : ∃ c0, key[i]? = some c0 := ⟨_, List.getElem?_eq_getElem h1⟩
      obtain ⟨b, off, rfl, hlt, hcell⟩ := Hcs.out (by intro h; subst h; simp at h1)
      have hcell0 : wr.cell? ⟨b, off + i, none⟩ = some (.int .u8 (c0.toNat : Int)) := (Hbw.out.cell (p := ⟨b, off + i, none⟩) hlt).trans (hcell i c0 hc0)
      have hcell1 : wr.cell? ⟨g, i, none⟩ = some (.int .u8 (m.toNat : Int)) := by
        refine Hr.out.cell ?_
        rw [List.getElem?_append_left (by rw [List.length_map, Hl.out]; omega), getD_cell _ i (by rw [Hl.out]; omega), Sha.maskN_at key m i h1 hk]
        rfl
      have hfr := frozen_row Hr.out i
      have hx := w_xor8 m c0
      have hset := Hr.out.set i (bv (m ^^^ c0))
      rw [List.set_append_left _ _ (by rw [List.length_map, Hl.out]; omega), ← List.map_set, Sha.maskN_set key m c0 i hk hc0] at hset
      have Hset := Lib.hid hset
      clear hset hcell hc0
      go_wp2
      go_roundw
      case rel => exact ⟨i + 1, h1, by simp, Hset.out, Hbw.out.setCell (by have := Hg2.out; dsimp only; omega) _⟩
      case measure => simp [intOf]; omega
    · have h1' : ¬ (i : Int) < (key.length : Int) := by omega
      have : i = key.length := by omega
      subst this
      have hr := Hr.out
      rw [Sha.maskN_all key m hk] at hr
      have Hr := Lib.hid hr
      clear hr
      go_wp2
      go_ret
      exact ⟨g, rfl, by have := Hg2.out; omega, ⟨R, Hr.out⟩, Hbw.out⟩
--@mac
theorem bs_row {w : World} {g n : Nat} {l : List UInt8} {R : List Value} (h : Row w g (l.map bv ++ R) 5) (hl : l.length = n) : Bs w w.heap.size (.slice (some ⟨g, 0, none⟩) n n) l := by
  subst hl
  exact ⟨_, _, rfl, Nat.le_refl _, fun _ => ⟨g, 0, rfl, h.lt, fun i u hu => h.cell (by rw [Nat.zero_add, List.getElem?_append_left (by rw [List.length_map]; exact (List.getElem?_eq_some_iff.1 hu).1), List.getElem?_map, hu]; rfl)⟩⟩
theorem grew_bs {w w' : World} {v : Value} {l : List UInt8} (h : Bs w w.heap.size v l) (hg : Grew w.drew w') : Bs w' w'.heap.size v l :=
  (Bs.below (w := w.drew) h hg).more hg.size
/-- Bytes that are read: a slice from a block's start. -/
def rdM (l : List UInt8) (n : Nat) : By.Mark Grew := ⟨fun v w => ∃ g, v = .slice (some ⟨g, 0, none⟩) n n ∧ Bs w w.heap.size v l, fun _ _ _ h k => by
  obtain ⟨g, h1, h2⟩ := h
  exact ⟨g, h1, (h2.below k).more k.size⟩⟩
def rdL (ls : List (List UInt8)) (n : Nat) : By.Mark Grew := ⟨fun v w => ∃ g, v = .slice (some ⟨g, 0, none⟩) n n ∧ Bss w w.heap.size v ls, fun _ _ _ h k => by
  obtain ⟨g, h1, h2⟩ := h
  exact ⟨g, h1, (h2.below k).more' k.size⟩⟩
theorem calls_in {P : Program} {f : FuncId} {args : Array Value} {w W : World} {Q : Ending → World → Prop} (h : w = W) (hk : Calls P f args W Q) : Calls P f args w Q := h ▸ hk
theorem Masked_at (v : Value) (key : List UInt8) (m : UInt8) (z : Int) (hz : z = (m.toNat : Int)) (w : World) (hb : Bs w w.heap.size v key) (hk : key.length ≤ 64) :
    Calls Tryd.prog 37 #[v, .int .u8 z] w fun e w' => ∃ g, e = .returned (.slice (some ⟨g, 0, none⟩) 64 64) ∧ w.heap.size ≤ g ∧ (∃ R, Row w' g ((Sha.masked key m).map bv ++ R) 5) ∧ Below w.heap.size w w' := by
  subst hz
  exact Masked_any v key m w hb hk
theorem bss_lt {w : World} {B : Nat} {v : Value} {ls : List (List UInt8)} {us : List Value} (h : Bss w B v ls) (hl : us.length = ls.length) : ∀ b off c, v = .slice (some ⟨b, off, none⟩) us.length c → us ≠ [] → b < B := by
  intro b off c e hne
  obtain ⟨A, c', rfl, _, hcs⟩ := h
  have hl0 : ls ≠ [] := by intro h; subst h; exact hne (List.eq_nil_of_length_eq_zero hl)
  obtain ⟨b', off', rfl, hlt, _⟩ := hcs hl0
  simp only [Value.slice.injEq, Option.some.injEq, Addr.mk.injEq] at e
  omega

set_option maxRecDepth 8000 in
set_option maxHeartbeats 1000000 in
theorem Mac_any (v lv : Value) (key : List UInt8) (ls : List (List UInt8)) (w : World) (ht : Tab w) (hk : Bs w w.heap.size v key) (hkl : key.length ≤ 1000000000) (hb : Bss w w.heap.size lv ls) (hn : ls.length ≤ 50000) (hm : ∀ l ∈ ls, l.length ≤ 1000000000) (hf : ls.flatten.length ≤ 100000000000) :
    Calls Tryd.prog 15 #[v, lv] w fun e w' => e = .returned (arr8 (Sha.mac key ls.flatten)) ∧ Below w.heap.size w w' := by
  have Ht := Lib.hid ht
  have Hk := Lib.hid hk
  have Hls := Lib.hid hb
  have Hm := Lib.hid hm
  have Hf := Lib.hid hf
  obtain ⟨A, c, rfl, _, _⟩ := hk
  clear ht hb hm hf
  have HR0 := Lib.hid (show Row (w.alloc (.cells ((List.replicate 32 (0 : UInt8)).map bv).toArray 23)) w.heap.size ((List.replicate 32 (0 : UInt8)).map bv) 23 from Row.new rfl rfl)
  have HB0 := Lib.hid ((Below.refl w.heap.size w).alloc (Nat.le_refl _) (.cells ((List.replicate 32 (0 : UInt8)).map bv).toArray 23))
  have HK0 := Lib.hid (((Hk.out.alloc (Nat.le_refl _) (.cells ((List.replicate 32 (0 : UInt8)).map bv).toArray 23))).more (B' := (w.alloc (.cells ((List.replicate 32 (0 : UInt8)).map bv).toArray 23)).heap.size) (by simp))
  by_cases h64 : 64 < key.length
  · have h64' : (64 : Int) < (key.length : Int) := by omega
    have hsh : Sha.short key = Sha.sum key := by rw [Sha.short, if_pos h64]
    have Hsh := Lib.hid hsh
    clear hsh
    go_enter Tryd.func15, Tryd.ntmps15
    go_wp2_with fail
    obtain ⟨W0, hW0⟩ : ∃ W0, w.alloc (.cells ((List.replicate 32 (0 : UInt8)).map bv).toArray 23) = W0 := ⟨_, rfl⟩
    rw [hW0] at HK0 HR0 HB0
    have hss0 := bss_new (n := 1) (ls := [key]) (vs := [.slice A key.length c]) (w := W0) rfl rfl (.one HK0.out)
    have htab0 : Tab (W0.alloc (.cells #[.slice A key.length c] 22)) := (Ht.out.below HB0.out Ht.out.1).below ((Below.refl W0.heap.size W0).alloc (Nat.le_refl _) _) (by have := Ht.out.1; have := HB0.out.size; omega)
    have hsum0 := Sum_any _ [key] (W0.alloc (.cells #[.slice A key.length c] 22)) htab0 hss0 (by simp) (by intro l hl; simp at hl; subst hl; exact hkl) (by simp; omega)
    have hWa : (w.alloc (.cells ((List.replicate 32 (0 : UInt8)).map bv).toArray 23)).alloc (.cells #[.slice A key.length c] 22) = W0.alloc (.cells #[.slice A key.length c] 22) := by rw [hW0]
    refine calls_in hWa ?_
    clear hWa
    have hszW : w.heap.size + 1 = W0.heap.size := by rw [← hW0]; simp
    rw [← hszW] at hsum0
    refine hsum0.mono ?_
    rintro e w1 ⟨rfl, hb1⟩
    have hb01 : Below w.heap.size w w1 := nextB (nextB HB0.out (Nat.le_refl _) ((Below.refl W0.heap.size W0).alloc (Nat.le_refl _) (.cells #[.slice A key.length c] 22))) (Nat.le_refl _) hb1
    have hr01 := (HR0.out.alloc (.cells #[.slice A key.length c] 22)).below hb1 (HR0.out.alloc (.cells #[.slice A key.length c] 22)).lt
    have HB1 := Lib.hid hb01
    have HR1 := Lib.hid hr01
    clear hb1 hb01 hr01 hsum0 hss0 htab0 hszW
    rw [show [key].flatten = key by simp]
    obtain ⟨K, hK⟩ : ∃ K, Sha.sum key = K := ⟨_, rfl⟩
    have hKl : K.length = 32 := by rw [← hK]; exact Sha.sum_length _
    rw [hK]
    have HKe := Lib.hid (show Sha.short key = K by rw [Hsh.out, hK])
    have HK32 := Lib.hid hKl
    have HKm := Lib.hid (show (K.map bv).length = 32 by rw [List.length_map]; exact hKl)
    have HKl := Lib.hid (show K.length ≤ 64 by omega)
    clear hK hKl hW0
    unfold arr8
    go_wp2_with (first
      | (show wpList _ _ _ (⟨none, Op.store 23 _ _, _, _, _, _⟩ :: _) _ _; refine wpList_storeRow (g := w1.heap.size) rfl 23 _ _ rfl rfl rfl (cs := K.map bv) (old := (List.replicate 32 (0 : UInt8)).map bv) (Row.new rfl rfl) (by kernel_rfl) HKm.out (by simp) (bytes_one K) ?_)
      | fail)
    have hr5 : Row ((w1.alloc (.cells ((List.replicate 32 (0 : UInt8)).map bv).toArray 23)).setRow w1.heap.size (K.map bv).toArray) w1.heap.size (K.map bv) 23 := (Row.new (cs := (List.replicate 32 (0 : UInt8)).map bv) rfl rfl).setRow (K.map bv)
    have hb5 : Below w1.heap.size w1 ((w1.alloc (.cells ((List.replicate 32 (0 : UInt8)).map bv).toArray 23)).setRow w1.heap.size (K.map bv).toArray) := below_setRow ((Below.refl w1.heap.size w1).alloc (Nat.le_refl _) _) (Nat.le_refl _) _
    obtain ⟨W, hW⟩ : ∃ W, (w1.alloc (.cells ((List.replicate 32 (0 : UInt8)).map bv).toArray 23)).setRow w1.heap.size (K.map bv).toArray = W := ⟨_, rfl⟩
    rw [hW] at hr5 hb5
    have HB := Lib.hid (nextB HB1.out (Nat.le_refl _) hb5)
    have HR := Lib.hid (HR1.out.below hb5 HR1.out.lt)
    have hkb : Bs W W.heap.size (.slice (some ⟨w1.heap.size, 0, none⟩) 32 32) K := by
      have h1 := hr5.bs (B := W.heap.size) hr5.lt
      rwa [HK32.out] at h1
    obtain ⟨kv, hkv⟩ : ∃ kv, Value.slice (some ⟨w1.heap.size, 0, none⟩) 32 32 = kv := ⟨_, rfl⟩
    rw [hkv] at hkb ⊢
    have HK := Lib.hid hkb
    clear hr5 hb5 hkb hkv
    have hkK := HKl.out
    refine calls_in hW ?_
    clear hW
    refine (Masked_at kv K 0x36 54 rfl W HK.out hkK).mono ?_
    rintro e w1 ⟨g1, rfl, hg1, hr1, hb1⟩
    obtain ⟨R1, hr1⟩ := hr1
    have hm1 : Bs w1 w1.heap.size (.slice (some ⟨g1, 0, none⟩) 64 64) (Sha.masked K 0x36) := bs_row hr1 (Sha.masked_length _ _ hkK)
    have HB1 := Lib.hid (nextB HB.out (Nat.le_refl _) hb1)
    have HR1 := Lib.hid (HR.out.below hb1 HR.out.lt)
    have HK1 := Lib.hid ((HK.out.below hb1).more hb1.size)
    have HM1 := Lib.hid hm1
    have Hls1 := Lib.hid (Hls.out.below HB1.out)
    clear hg1 hr1 hb1 hm1
    obtain ⟨us, hvals, hreads⟩ := bss_vals Hls1.out
    have hsz1 : w.heap.size ≤ w1.heap.size := HB1.out.size
    have hvals1 : Vals (w1.alloc (.cells #[.slice (some ⟨g1, 0, none⟩) 64 64] 22)) lv us := hvals.grown (B := w.heap.size) (bss_lt Hls1.out hreads.1) ((Below.refl w.heap.size w1).alloc hsz1 _)
    have Hvals1 := Lib.hid hvals1
    have Hone := Lib.hid hreads.one_cell
    have Hul := Lib.hid (show us.length = ls.length from hreads.1)
    have Hreads := Lib.hid hreads
    clear hvals hvals1 hreads
    go_wp2_with (first
      | (show wpList _ _ _ (⟨some 18, _, _, _, _, _⟩ :: _) _ _
         refine wpList_app_lists (w1.alloc (.cells #[.slice (some ⟨g1, 0, none⟩) 64 64] 22)) rfl _ _ rfl rfl rfl (ownVs_new w1 _) Hvals1.out Hone.out (by rw [Hul.out]; simp; omega) (by simp) ?_
         intro v2 w2 hown2 hg2
         have hbg : Below w1.heap.size w1 w2 := ((Below.refl w1.heap.size w1).alloc (Nat.le_refl _) (.cells #[.slice (some ⟨g1, 0, none⟩) 64 64] 22)).grown hg2 (by simp) (fun k hk => by have hk' : some w1.heap.size = some k := hk; injection hk' with hk'; omega)
         have hrd2 : Reads w2 w2.heap.size ([.slice (some ⟨g1, 0, none⟩) 64 64] ++ us) ([Sha.masked K 0x36] ++ ls) :=
           Reads.append (.one ((HM1.out.below hbg).more hbg.size)) ((Hreads.out.below (hbg.mono hsz1)).more (Nat.le_trans hsz1 hbg.size))
         have Hss2 := Lib.hid (bss_own hown2 hrd2)
         have HB2 := Lib.hid (nextB HB1.out (Nat.le_refl _) hbg)
         have HR2 := Lib.hid (HR1.out.below hbg HR1.out.lt)
         have HK2 := Lib.hid ((HK1.out.below hbg).more hbg.size)
         clear hown2 hg2 hbg hrd2)
      | fail)
    refine (Sum_any v2 ([Sha.masked K 0x36] ++ ls) w2 (Ht.out.below HB2.out Ht.out.1) Hss2.out (by simp; omega) (by
      intro l hl
      rcases List.mem_append.1 hl with h | h
      · rw [List.mem_singleton] at h; subst h; rw [Sha.masked_length _ _ hkK]; omega
      · exact Hm.out l h) (by rw [List.flatten_append, List.length_append]; simp only [List.flatten_cons, List.flatten_nil, List.append_nil]; rw [Sha.masked_length _ _ hkK]; have := Hf.out; omega)).mono ?_
    rintro e w3 ⟨rfl, hb3⟩
    have hfl : ([Sha.masked K 0x36] ++ ls).flatten = Sha.masked K 0x36 ++ ls.flatten := by simp
    rw [hfl]
    obtain ⟨I, hI⟩ : ∃ I, Sha.sum (Sha.masked K 0x36 ++ ls.flatten) = I := ⟨_, rfl⟩
    have hIl : I.length = 32 := by rw [← hI]; exact Sha.sum_length _
    rw [hI]
    have hsz2 : w.heap.size ≤ w2.heap.size := HB2.out.size
    have HB3 := Lib.hid (nextB HB2.out (Nat.le_refl _) hb3)
    have HR3 := Lib.hid (HR2.out.below hb3 HR2.out.lt)
    have HK3 := Lib.hid ((HK2.out.below hb3).more hb3.size)
    have HI := Lib.hid hI
    have HIl := Lib.hid (show (I.map bv).length = 32 by rw [List.length_map]; exact hIl)
    have HIn := Lib.hid hIl
    clear hb3 hfl hI hIl
    unfold arr8
    go_wp2_with (first
      | (show wpList _ _ _ (⟨none, Op.store 23 _ _, _, _, _, _⟩ :: _) _ _; refine wpList_storeRow (g := w3.heap.size) rfl 23 _ _ rfl rfl rfl (cs := I.map bv) (old := (List.replicate 32 (0 : UInt8)).map bv) (Row.new rfl rfl) (by kernel_rfl) HIl.out (by simp) (bytes_one I) ?_)
      | fail)
    have hr6 : Row ((w3.alloc (.cells ((List.replicate 32 (0 : UInt8)).map bv).toArray 23)).setRow w3.heap.size (I.map bv).toArray) w3.heap.size (I.map bv) 23 := (Row.new (cs := (List.replicate 32 (0 : UInt8)).map bv) rfl rfl).setRow (I.map bv)
    have hb36 : Below w3.heap.size w3 ((w3.alloc (.cells ((List.replicate 32 (0 : UInt8)).map bv).toArray 23)).setRow w3.heap.size (I.map bv).toArray) := below_setRow ((Below.refl w3.heap.size w3).alloc (Nat.le_refl _) _) (Nat.le_refl _) _
    obtain ⟨V, hV⟩ : ∃ V, (w3.alloc (.cells ((List.replicate 32 (0 : UInt8)).map bv).toArray 23)).setRow w3.heap.size (I.map bv).toArray = V := ⟨_, rfl⟩
    refine code_world hV ?_
    rw [hV] at hr6 hb36
    obtain ⟨g6, hg6⟩ : ∃ g6, w3.heap.size = g6 := ⟨_, rfl⟩
    rw [hg6] at hr6 ⊢
    have HR6 := Lib.hid hr6
    have HRV := Lib.hid (HR3.out.below hb36 HR3.out.lt)
    have HBV := Lib.hid (nextB HB3.out (Nat.le_refl _) hb36)
    have HKV := Lib.hid ((HK3.out.below hb36).more hb36.size)
    have hgw : w.heap.size < g6 := by rw [← hg6]; exact HR3.out.lt
    clear hr6 hb36 hV hg6
    have HTV := Lib.hid (Ht.out.below HBV.out Ht.out.1)
    have hI6 : ∀ w', Grew V.drew w' → Bs w' w'.heap.size (.slice (some ⟨g6, 0, none⟩) 32 32) I := by
      intro w' hw'
      have hr6 := Row.below (w := V.drew) HR6.out hw' HR6.out.lt
      have h1 := hr6.bs (B := w'.heap.size) hr6.lt
      rwa [HIn.out] at h1
    have HI6 := Lib.hid hI6
    have HM2 : Hid (∀ l ∈ [Sha.masked K 0x5c, I], l.length ≤ 1000000000) := by
      intro l hl
      simp only [List.mem_cons, List.not_mem_nil, or_false] at hl
      rcases hl with rfl | rfl
      · rw [Sha.masked_length _ _ hkK]; omega
      · rw [HIn.out]; omega
    have HF2 : Hid ([Sha.masked K 0x5c, I].flatten.length ≤ 1000000000000) := by
      show _ ≤ _
      simp only [List.flatten_cons, List.flatten_nil, List.append_nil, List.length_append]
      rw [Sha.masked_length _ _ hkK, HIn.out]
      omega
    clear hI6
    obtain ⟨O, hO⟩ : ∃ O, Sha.sum [Sha.masked K 0x5c, I].flatten = O := ⟨_, rfl⟩
    have hmac : Sha.mac key ls.flatten = O := by
      rw [← hO, Sha.mac, HKe.out, HI.out]
      simp
    have hOl : O.length = 32 := by rw [← hO]; exact Sha.sum_length _
    have HO := Lib.hid hO
    have Hmac := Lib.hid hmac
    have HOm := Lib.hid (show (O.map bv).length = 32 by rw [List.length_map]; exact hOl)
    clear hO hmac hOl
    refine Tail.marksAt Pol.mixed 5 Grew [By.is kv,
      rdM (Sha.masked K 0x5c) 64,
      By.is (.slice (some ⟨g6, 0, none⟩) 32 32),
      rdL [Sha.masked K 0x5c, I] 2,
      By.is (arr8 O)]
      (Ev.masks _ []) (Nat.zero_lt_succ _) (by kernel_rfl) (by kernel_rfl) rfl Grew.refl Grew.trans ⟨?_, ?_, ?_, ?_, ?_, trivial⟩ ?_
    · intro a w ht hs hg -- 20
      have h0 := By.same_get hs 0 (by decide) (by kernel_rfl)
      refine By.yes rfl ?_
      clear hs hg
      go_simp
      exact ⟨_, rfl, Grew.refl _, rfl⟩
    · intro a w ht hs hg -- 21
      have h20 : a.tmps.getD 20 undef = _ := By.given_get hg 0 rfl rfl (by kernel_rfl)
      refine By.yes rfl ?_
      clear hs hg
      have hkw := Lib.hid (grew_bs HKV.out ht)
      clear ht
      go_simp
      refine (Masked_at kv K 0x5c 92 rfl w hkw.out hkK).mono ?_
      rintro e w7 ⟨g7, rfl, hg7, hr7, hb7⟩
      obtain ⟨R7, hr7⟩ := hr7
      exact ⟨_, rfl, hb7, g7, rfl, bs_row hr7 (Sha.masked_length _ _ hkK)⟩
    · intro a w ht hs hg -- 22
      have h6 := By.same_get hs 6 (by decide) (by kernel_rfl)
      refine By.yes rfl ?_
      clear hs hg
      go_simp
      exact ⟨_, rfl, Grew.refl _, rfl⟩
    · intro a w ht hs hg -- 23
      have h21 := By.given_get hg 1 rfl rfl (by kernel_rfl)
      have h22 : a.tmps.getD 22 undef = _ := By.given_get hg 2 rfl rfl (by kernel_rfl)
      refine By.yes rfl ?_
      obtain ⟨v21, hv21⟩ : ∃ v, a.tmps.getD 21 undef = v := ⟨_, rfl⟩
      replace h21 := (congrArg (fun v => (rdM (Sha.masked K 0x5c) 64).on v w) hv21).mp h21
      clear hs hg
      have hi6 := Lib.hid (HI6.out w ht)
      clear ht
      obtain ⟨g7, rfl, hm7⟩ := h21
      have Hm7 := Lib.hid hm7
      clear hm7
      rw [Array.getD_eq_getD_getElem?] at hv21 h22
      go_simp
      exact ⟨_, rfl, (Below.refl _ w).alloc (Nat.le_refl _) _, w.heap.size, rfl, bss_new (n := 2) (ls := [Sha.masked K 0x5c, I]) (vs := [.slice (some ⟨g7, 0, none⟩) 64 64, .slice (some ⟨g6, 0, none⟩) 32 32]) (w := w) rfl rfl (Reads.append (.one Hm7.out) (.one hi6.out))⟩
    · intro a w ht hs hg -- 24
      have h23 := By.given_get hg 3 rfl rfl (by kernel_rfl)
      refine By.yes rfl ?_
      obtain ⟨v23, hv23⟩ : ∃ v, a.tmps.getD 23 undef = v := ⟨_, rfl⟩
      replace h23 := (congrArg (fun v => (rdL [Sha.masked K 0x5c, I] 2).on v w) hv23).mp h23
      clear hs hg
      have htab := Lib.hid (HTV.out.below (show Below V.heap.size V w from ⟨ht.os, ht.tape, ht.output, ht.size, ht.block⟩) HTV.out.1)
      clear ht
      obtain ⟨g8, rfl, hs8⟩ := h23
      have Hs8 := Lib.hid hs8
      clear hs8
      go_simp
      refine (Sum_any _ [Sha.masked K 0x5c, I] w htab.out Hs8.out (by simp) HM2.out HF2.out).mono ?_
      rintro e w8 ⟨rfl, hb8⟩
      exact ⟨_, rfl, hb8, congrArg arr8 HO.out⟩
    refine By.ends_is (By.ends_skip fun v21 => (By.ends_is (By.ends_skip fun v23 => (By.ends_is (By.ends_nil fun w9 hw9 => ?_)))))
    simp only [Act.put, List.setIfInBounds_toArray, List.set_cons_succ, List.set_cons_zero]
    simp only [List.drop_succ_cons, List.drop_zero]

    have hr9 := Lib.hid (Row.below (w := V.drew) HRV.out hw9 HRV.out.lt)
    have hb9 : Below w.heap.size w w9 := nextB HBV.out (Nat.le_refl _) (show Below V.heap.size V w9 from ⟨hw9.os, hw9.tape, hw9.output, hw9.size, hw9.block⟩)
    have HB9 := Lib.hid hb9
    clear hb9 hw9
    unfold arr8
    go_wp2_with (first
      | (show wpList _ _ _ (⟨none, Op.store 23 _ _, _, _, _, _⟩ :: _) _ _; refine wpList_storeRow (g := w.heap.size) rfl 23 _ _ rfl rfl rfl (cs := O.map bv) hr9.out (by kernel_rfl) HOm.out (by simp) (bytes_one O) ?_)
      | fail)
    refine bodyPost_ret (results_row rfl _ rfl (hr9.out.setRow (O.map bv)) Tryd.underlying23 rfl (by kernel_rfl) HOm.out) rfl ?_
    exact ⟨by rw [Hmac.out]; rfl, below_setRow HB9.out (Nat.le_refl _) _⟩
  · have h64' : ¬ (64 : Int) < (key.length : Int) := by omega
    have hsh : Sha.short key = key := by rw [Sha.short, if_neg h64]
    go_enter Tryd.func15, Tryd.ntmps15
    go_wp2_with fail
    obtain ⟨kv, hkv⟩ : ∃ kv, Value.slice A key.length c = kv := ⟨_, rfl⟩
    obtain ⟨W, hW⟩ : ∃ W, w.alloc (.cells ((List.replicate 32 (0 : UInt8)).map bv).toArray 23) = W := ⟨_, rfl⟩
    have HK := HK0
    have HB := HB0
    have HR := HR0
    rw [hW, hkv] at HK
    rw [← hsh] at HK
    rw [hW] at HB HR
    have HKl := Lib.hid (show (Sha.short key).length ≤ 64 by rw [hsh]; omega)
    rw [hkv]
    obtain ⟨K, hKe⟩ : ∃ K, Sha.short key = K := ⟨_, rfl⟩
    rw [hKe] at HK HKl
    have HKe := Lib.hid hKe
    clear hsh hKe
    have hkK := HKl.out
    refine calls_in hW ?_
    clear hW
    refine (Masked_at kv K 0x36 54 rfl W HK.out hkK).mono ?_
    rintro e w1 ⟨g1, rfl, hg1, hr1, hb1⟩
    obtain ⟨R1, hr1⟩ := hr1
    have hm1 : Bs w1 w1.heap.size (.slice (some ⟨g1, 0, none⟩) 64 64) (Sha.masked K 0x36) := bs_row hr1 (Sha.masked_length _ _ hkK)
    have HB1 := Lib.hid (nextB HB.out (Nat.le_refl _) hb1)
    have HR1 := Lib.hid (HR.out.below hb1 HR.out.lt)
    have HK1 := Lib.hid ((HK.out.below hb1).more hb1.size)
    have HM1 := Lib.hid hm1
    have Hls1 := Lib.hid (Hls.out.below HB1.out)
    clear hg1 hr1 hb1 hm1
    obtain ⟨us, hvals, hreads⟩ := bss_vals Hls1.out
    have hsz1 : w.heap.size ≤ w1.heap.size := HB1.out.size
    have hvals1 : Vals (w1.alloc (.cells #[.slice (some ⟨g1, 0, none⟩) 64 64] 22)) lv us := hvals.grown (B := w.heap.size) (bss_lt Hls1.out hreads.1) ((Below.refl w.heap.size w1).alloc hsz1 _)
    have Hvals1 := Lib.hid hvals1
    have Hone := Lib.hid hreads.one_cell
    have Hul := Lib.hid (show us.length = ls.length from hreads.1)
    have Hreads := Lib.hid hreads
    clear hvals hvals1 hreads
    go_wp2_with (first
      | (show wpList _ _ _ (⟨some 18, _, _, _, _, _⟩ :: _) _ _
         refine wpList_app_lists (w1.alloc (.cells #[.slice (some ⟨g1, 0, none⟩) 64 64] 22)) rfl _ _ rfl rfl rfl (ownVs_new w1 _) Hvals1.out Hone.out (by rw [Hul.out]; simp; omega) (by simp) ?_
         intro v2 w2 hown2 hg2
         have hbg : Below w1.heap.size w1 w2 := ((Below.refl w1.heap.size w1).alloc (Nat.le_refl _) (.cells #[.slice (some ⟨g1, 0, none⟩) 64 64] 22)).grown hg2 (by simp) (fun k hk => by have hk' : some w1.heap.size = some k := hk; injection hk' with hk'; omega)
         have hrd2 : Reads w2 w2.heap.size ([.slice (some ⟨g1, 0, none⟩) 64 64] ++ us) ([Sha.masked K 0x36] ++ ls) :=
           Reads.append (.one ((HM1.out.below hbg).more hbg.size)) ((Hreads.out.below (hbg.mono hsz1)).more (Nat.le_trans hsz1 hbg.size))
         have Hss2 := Lib.hid (bss_own hown2 hrd2)
         have HB2 := Lib.hid (nextB HB1.out (Nat.le_refl _) hbg)
         have HR2 := Lib.hid (HR1.out.below hbg HR1.out.lt)
         have HK2 := Lib.hid ((HK1.out.below hbg).more hbg.size)
         clear hown2 hg2 hbg hrd2)
      | fail)
    refine (Sum_any v2 ([Sha.masked K 0x36] ++ ls) w2 (Ht.out.below HB2.out Ht.out.1) Hss2.out (by simp; omega) (by
      intro l hl
      rcases List.mem_append.1 hl with h | h
      · rw [List.mem_singleton] at h; subst h; rw [Sha.masked_length _ _ hkK]; omega
      · exact Hm.out l h) (by rw [List.flatten_append, List.length_append]; simp only [List.flatten_cons, List.flatten_nil, List.append_nil]; rw [Sha.masked_length _ _ hkK]; have := Hf.out; omega)).mono ?_
    rintro e w3 ⟨rfl, hb3⟩
    have hfl : ([Sha.masked K 0x36] ++ ls).flatten = Sha.masked K 0x36 ++ ls.flatten := by simp
    rw [hfl]
    obtain ⟨I, hI⟩ : ∃ I, Sha.sum (Sha.masked K 0x36 ++ ls.flatten) = I := ⟨_, rfl⟩
    have hIl : I.length = 32 := by rw [← hI]; exact Sha.sum_length _
    rw [hI]
    have hsz2 : w.heap.size ≤ w2.heap.size := HB2.out.size
    have HB3 := Lib.hid (nextB HB2.out (Nat.le_refl _) hb3)
    have HR3 := Lib.hid (HR2.out.below hb3 HR2.out.lt)
    have HK3 := Lib.hid ((HK2.out.below hb3).more hb3.size)
    have HI := Lib.hid hI
    have HIl := Lib.hid (show (I.map bv).length = 32 by rw [List.length_map]; exact hIl)
    have HIn := Lib.hid hIl
    clear hb3 hfl hI hIl
    unfold arr8
    go_wp2_with (first
      | (show wpList _ _ _ (⟨none, Op.store 23 _ _, _, _, _, _⟩ :: _) _ _; refine wpList_storeRow (g := w3.heap.size) rfl 23 _ _ rfl rfl rfl (cs := I.map bv) (old := (List.replicate 32 (0 : UInt8)).map bv) (Row.new rfl rfl) (by kernel_rfl) HIl.out (by simp) (bytes_one I) ?_)
      | fail)
    have hr6 : Row ((w3.alloc (.cells ((List.replicate 32 (0 : UInt8)).map bv).toArray 23)).setRow w3.heap.size (I.map bv).toArray) w3.heap.size (I.map bv) 23 := (Row.new (cs := (List.replicate 32 (0 : UInt8)).map bv) rfl rfl).setRow (I.map bv)
    have hb36 : Below w3.heap.size w3 ((w3.alloc (.cells ((List.replicate 32 (0 : UInt8)).map bv).toArray 23)).setRow w3.heap.size (I.map bv).toArray) := below_setRow ((Below.refl w3.heap.size w3).alloc (Nat.le_refl _) _) (Nat.le_refl _) _
    obtain ⟨V, hV⟩ : ∃ V, (w3.alloc (.cells ((List.replicate 32 (0 : UInt8)).map bv).toArray 23)).setRow w3.heap.size (I.map bv).toArray = V := ⟨_, rfl⟩
    refine code_world hV ?_
    rw [hV] at hr6 hb36
    obtain ⟨g6, hg6⟩ : ∃ g6, w3.heap.size = g6 := ⟨_, rfl⟩
    rw [hg6] at hr6 ⊢
    have HR6 := Lib.hid hr6
    have HRV := Lib.hid (HR3.out.below hb36 HR3.out.lt)
    have HBV := Lib.hid (nextB HB3.out (Nat.le_refl _) hb36)
    have HKV := Lib.hid ((HK3.out.below hb36).more hb36.size)
    have hgw : w.heap.size < g6 := by rw [← hg6]; exact HR3.out.lt
    clear hr6 hb36 hV hg6
    have HTV := Lib.hid (Ht.out.below HBV.out Ht.out.1)
    have hI6 : ∀ w', Grew V.drew w' → Bs w' w'.heap.size (.slice (some ⟨g6, 0, none⟩) 32 32) I := by
      intro w' hw'
      have hr6 := Row.below (w := V.drew) HR6.out hw' HR6.out.lt
      have h1 := hr6.bs (B := w'.heap.size) hr6.lt
      rwa [HIn.out] at h1
    have HI6 := Lib.hid hI6
    have HM2 : Hid (∀ l ∈ [Sha.masked K 0x5c, I], l.length ≤ 1000000000) := by
      intro l hl
      simp only [List.mem_cons, List.not_mem_nil, or_false] at hl
      rcases hl with rfl | rfl
      · rw [Sha.masked_length _ _ hkK]; omega
      · rw [HIn.out]; omega
    have HF2 : Hid ([Sha.masked K 0x5c, I].flatten.length ≤ 1000000000000) := by
      show _ ≤ _
      simp only [List.flatten_cons, List.flatten_nil, List.append_nil, List.length_append]
      rw [Sha.masked_length _ _ hkK, HIn.out]
      omega
    clear hI6
    obtain ⟨O, hO⟩ : ∃ O, Sha.sum [Sha.masked K 0x5c, I].flatten = O := ⟨_, rfl⟩
    have hmac : Sha.mac key ls.flatten = O := by
      rw [← hO, Sha.mac, HKe.out, HI.out]
      simp
    have hOl : O.length = 32 := by rw [← hO]; exact Sha.sum_length _
    have HO := Lib.hid hO
    have Hmac := Lib.hid hmac
    have HOm := Lib.hid (show (O.map bv).length = 32 by rw [List.length_map]; exact hOl)
    clear hO hmac hOl
    refine Tail.marksAt Pol.mixed 5 Grew [By.is kv,
      rdM (Sha.masked K 0x5c) 64,
      By.is (.slice (some ⟨g6, 0, none⟩) 32 32),
      rdL [Sha.masked K 0x5c, I] 2,
      By.is (arr8 O)]
      (Ev.masks _ []) (Nat.zero_lt_succ _) (by kernel_rfl) (by kernel_rfl) rfl Grew.refl Grew.trans ⟨?_, ?_, ?_, ?_, ?_, trivial⟩ ?_
    · intro a w ht hs hg -- 20
      have h0 := By.same_get hs 0 (by decide) (by kernel_rfl)
      refine By.yes rfl ?_
      clear hs hg
      go_simp
      exact ⟨_, rfl, Grew.refl _, rfl⟩
    · intro a w ht hs hg -- 21
      have h20 : a.tmps.getD 20 undef = _ := By.given_get hg 0 rfl rfl (by kernel_rfl)
      refine By.yes rfl ?_
      clear hs hg
      have hkw := Lib.hid (grew_bs HKV.out ht)
      clear ht
      go_simp
      refine (Masked_at kv K 0x5c 92 rfl w hkw.out hkK).mono ?_
      rintro e w7 ⟨g7, rfl, hg7, hr7, hb7⟩
      obtain ⟨R7, hr7⟩ := hr7
      exact ⟨_, rfl, hb7, g7, rfl, bs_row hr7 (Sha.masked_length _ _ hkK)⟩
    · intro a w ht hs hg -- 22
      have h6 := By.same_get hs 6 (by decide) (by kernel_rfl)
      refine By.yes rfl ?_
      clear hs hg
      go_simp
      exact ⟨_, rfl, Grew.refl _, rfl⟩
    · intro a w ht hs hg -- 23
      have h21 := By.given_get hg 1 rfl rfl (by kernel_rfl)
      have h22 : a.tmps.getD 22 undef = _ := By.given_get hg 2 rfl rfl (by kernel_rfl)
      refine By.yes rfl ?_
      obtain ⟨v21, hv21⟩ : ∃ v, a.tmps.getD 21 undef = v := ⟨_, rfl⟩
      replace h21 := (congrArg (fun v => (rdM (Sha.masked K 0x5c) 64).on v w) hv21).mp h21
      clear hs hg
      have hi6 := Lib.hid (HI6.out w ht)
      clear ht
      obtain ⟨g7, rfl, hm7⟩ := h21
      have Hm7 := Lib.hid hm7
      clear hm7
      rw [Array.getD_eq_getD_getElem?] at hv21 h22
      go_simp
      exact ⟨_, rfl, (Below.refl _ w).alloc (Nat.le_refl _) _, w.heap.size, rfl, bss_new (n := 2) (ls := [Sha.masked K 0x5c, I]) (vs := [.slice (some ⟨g7, 0, none⟩) 64 64, .slice (some ⟨g6, 0, none⟩) 32 32]) (w := w) rfl rfl (Reads.append (.one Hm7.out) (.one hi6.out))⟩
    · intro a w ht hs hg -- 24
      have h23 := By.given_get hg 3 rfl rfl (by kernel_rfl)
      refine By.yes rfl ?_
      obtain ⟨v23, hv23⟩ : ∃ v, a.tmps.getD 23 undef = v := ⟨_, rfl⟩
      replace h23 := (congrArg (fun v => (rdL [Sha.masked K 0x5c, I] 2).on v w) hv23).mp h23
      clear hs hg
      have htab := Lib.hid (HTV.out.below (show Below V.heap.size V w from ⟨ht.os, ht.tape, ht.output, ht.size, ht.block⟩) HTV.out.1)
      clear ht
      obtain ⟨g8, rfl, hs8⟩ := h23
      have Hs8 := Lib.hid hs8
      clear hs8
      go_simp
      refine (Sum_any _ [Sha.masked K 0x5c, I] w htab.out Hs8.out (by simp) HM2.out HF2.out).mono ?_
      rintro e w8 ⟨rfl, hb8⟩
      exact ⟨_, rfl, hb8, congrArg arr8 HO.out⟩
    refine By.ends_is (By.ends_skip fun v21 => (By.ends_is (By.ends_skip fun v23 => (By.ends_is (By.ends_nil fun w9 hw9 => ?_)))))
    simp only [Act.put, List.setIfInBounds_toArray, List.set_cons_succ, List.set_cons_zero]
    simp only [List.drop_succ_cons, List.drop_zero]

    have hr9 := Lib.hid (Row.below (w := V.drew) HRV.out hw9 HRV.out.lt)
    have hb9 : Below w.heap.size w w9 := nextB HBV.out (Nat.le_refl _) (show Below V.heap.size V w9 from ⟨hw9.os, hw9.tape, hw9.output, hw9.size, hw9.block⟩)
    have HB9 := Lib.hid hb9
    clear hb9 hw9
    unfold arr8
    go_wp2_with (first
      | (show wpList _ _ _ (⟨none, Op.store 23 _ _, _, _, _, _⟩ :: _) _ _; refine wpList_storeRow (g := w.heap.size) rfl 23 _ _ rfl rfl rfl (cs := O.map bv) hr9.out (by kernel_rfl) HOm.out (by simp) (bytes_one O) ?_)
      | fail)
    refine bodyPost_ret (results_row rfl _ rfl (hr9.out.setRow (O.map bv)) Tryd.underlying23 rfl (by kernel_rfl) HOm.out) rfl ?_
    exact ⟨by rw [Hmac.out]; rfl, below_setRow HB9.out (Nat.le_refl _) _⟩
end Go.Proofs.YtpllbnioncjhaaaDoor
