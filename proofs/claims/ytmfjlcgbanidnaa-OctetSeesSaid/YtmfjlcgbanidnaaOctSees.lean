/- A checksum detects each change within 32 consecutive bits, and does not depend on how bytes are split: 'drawbridgelaw01.OctetSees', for every argument. -/
import Derived.Test.YtmfjlcgbanidnaaCrcPure
import Derived.Test.YtmfjlcgbanidnaaKit
import Derived.Test.YtmfjlcgbanidnaaBs
import Derived.Test.YtmfjlcgbanidnaaArr
import Derived.Test.YtmfjlcgbanidnaaRow
import Derived.Test.YtmfjlcgbanidnaaOctLives
import Derived.Test.YtmfjlcgbanidnaaBy
import Derived.Test.YtmfjlcgbanidnaaChaStream
import Derived.Great.BuildSlice
namespace Go.Proofs.Ytmfjlcgbanidnaa.octetSees
open Go.ChangeShapes Go.WideShapes Go.ChangeAt Go.RowKit

/-- Bytes that can be read; lists of them. -/
def bsM (l : List UInt8) : By.Mark Grew := ⟨fun v w => Bs w w.heap.size v l, fun _ _ _ h k => (h.below k).more k.size⟩
theorem Bss.more {w : World} {B B' : Nat} {v : Value} {ls : List (List UInt8)} (h : Bss w B v ls) (hB : B ≤ B') : Bss w B' v ls := by
  obtain ⟨A, c, h1, h2, h3⟩ := h
  refine ⟨A, c, h1, h2, fun hne => ?_⟩
  obtain ⟨b, off, e, hlt, h4⟩ := h3 hne
  exact ⟨b, off, e, by omega, fun i l hl => by
    obtain ⟨u, h5, h6⟩ := h4 i l hl
    exact ⟨u, h5, h6.more hB⟩⟩
def bssM (ls : List (List UInt8)) : By.Mark Grew := ⟨fun v w => Bss w w.heap.size v ls, fun _ _ _ h k => Bss.more (h.below k) k.size⟩
theorem info_bs : ∃ i, Try.prog.info? 24 = some i ∧ i.zero = some (.slice none 0 0) ∧ i.size = 1 := ⟨_, rfl, by kernel_rfl, by kernel_rfl⟩
theorem bss_new {w : World} {vs : List Value} {ls : List (List UInt8)} (hl : vs.length = ls.length) (h : ∀ (i : Nat) (v : Value) (l : List UInt8), vs[i]? = some v → ls[i]? = some l → Bs w w.heap.size v l) :
    Bss (w.alloc (.cells vs.toArray 24)) (w.alloc (.cells vs.toArray 24)).heap.size (.slice (some ⟨w.heap.size, 0, none⟩) ls.length ls.length) ls := by
  have hr : Row (w.alloc (.cells vs.toArray 24)) w.heap.size vs 24 := Row.new rfl rfl
  refine ⟨_, _, rfl, Nat.le_refl _, fun _ => ⟨w.heap.size, 0, rfl, by simp, fun i l hi => ?_⟩⟩
  have hlt : i < vs.length := by rw [hl]; exact (List.getElem?_eq_some_iff.1 hi).1
  refine ⟨vs[i], hr.cell (by rw [Nat.zero_add]; exact List.getElem?_eq_getElem hlt), ?_⟩
  exact ((h i _ l (List.getElem?_eq_getElem hlt) hi).alloc (Nat.le_refl _) _).more (by simp)
theorem wp_bss1 {o : Oper} {a : Act} {w : World} {K : Act → World → Prop} {Q : Exit → Act → World → Prop} {v : Value} {l : List UInt8} (x : Operand) (ho : o.op = .buildSlice 43 1 #[(0, x)]) (hx : a.eval x = v) (hb : Bs w w.heap.size v l)
    (h : ∀ v' w', Bss w' w'.heap.size v' [l] → Below w.heap.size w w' → K (a.put o.dst v') w') : o.wp Try.prog a w K Q := by
  obtain ⟨i, hi, hz, hs⟩ := info_bs
  have hone : v.oneCell' = true := by obtain ⟨A, c, rfl, _⟩ := hb; rfl
  refine wp_buildSlice 43 24 1 #[(0, x)] ho #[v] i _ Try.underlying43 hi hz (by rw [hs]; decide) (by rw [hs]; decide) ?_ ?_
  · rw [hs, show Array.range (1 * 1) = #[0] from by kernel_rfl]
    obtain ⟨A, c, rfl, _⟩ := hb
    simp [Instr.fill, hx, Value.cells]
  · exact h _ _ (bss_new (w := w) (vs := [v]) (ls := [l]) rfl (fun i v' l' h1 h2 => by
      cases i with
      | zero => simp at h1 h2; subst h1; subst h2; exact hb
      | succ i => simp at h1)) ((Below.refl _ w).alloc (Nat.le_refl _) _)
theorem wp_bss2 {o : Oper} {a : Act} {w : World} {K : Act → World → Prop} {Q : Exit → Act → World → Prop} {v v2 : Value} {l l2 : List UInt8} (x : Operand) {y : Operand} (ho : o.op = .buildSlice 43 2 #[(0, x), (1, y)]) (hx : a.eval x = v) (hb : Bs w w.heap.size v l) (hy : a.eval y = v2) (hb2 : Bs w w.heap.size v2 l2)
    (h : ∀ v' w', Bss w' w'.heap.size v' [l, l2] → Below w.heap.size w w' → K (a.put o.dst v') w') : o.wp Try.prog a w K Q := by
  obtain ⟨i, hi, hz, hs⟩ := info_bs
  refine wp_buildSlice 43 24 2 #[(0, x), (1, y)] ho #[v, v2] i _ Try.underlying43 hi hz (by rw [hs]; decide) (by rw [hs]; decide) ?_ ?_
  · rw [hs, show Array.range (2 * 1) = #[0, 1] from by kernel_rfl]
    obtain ⟨A, c, rfl, _⟩ := hb
    obtain ⟨A2, c2, rfl, _⟩ := hb2
    simp [Instr.fill, hx, hy, Value.cells]
  · exact h _ _ (bss_new (w := w) (vs := [v, v2]) (ls := [l, l2]) rfl (fun i v' l' h1 h2 => by
      match i with
      | 0 => simp at h1 h2; subst h1; subst h2; exact hb
      | 1 => simp at h1 h2; subst h1; subst h2; exact hb2
      | i + 2 => simp at h1)) ((Below.refl _ w).alloc (Nat.le_refl _) _)

theorem short (A : Option Addr) (c n : Nat) (a1 a3 : Int) (ch : BitVec 32) (w : World) (h : 3000 < n ∨ n < 5 ∨ ch = 0#32) : Calls Try.prog 8 #[.slice A n c, .int .i64 a1, wv ch, .int .i64 a3] w fun e w' => e = .returned (.bool true) ∧ Below w.heap.size w w' := by
  by_cases h1 : 3000 < n
  · have h1' : (3000 : Int) < (n : Int) := by omega
    go_enter Try.func8, Try.ntmps8
    go_wp2_with (go_at_call 16; refine (lives_any _).mono ?_; rintro e w1 ⟨rfl, hb1⟩)
    go_ret
    exact ⟨rfl, hb1⟩
  · have h1' : ¬ (3000 : Int) < (n : Int) := by omega
    by_cases h2 : n < 5
    · have h2' : (n : Int) < 5 := by omega
      go_enter Try.func8, Try.ntmps8
      go_wp2_with (go_at_call 16; refine (lives_any _).mono ?_; rintro e w1 ⟨rfl, hb1⟩)
      go_ret
      exact ⟨rfl, hb1⟩
    · have h2' : ¬ (n : Int) < 5 := by omega
      have h3 : ch = 0#32 := by rcases h with h | h | h <;> first | exact absurd h (by omega) | exact h
      subst h3
      go_enter Try.func8, Try.ntmps8
      go_wp2_with (go_at_call 16; refine (lives_any _).mono ?_; rintro e w1 ⟨rfl, hb1⟩)
      go_ret
      exact ⟨rfl, hb1⟩

theorem bit_test (ch : BitVec 32) (i : Nat) : (((ch.toNat : Int) / 2 ^ i).tmod 2 == 1) = ch.getLsbD i := by
  have e : ((ch.toNat : Int) / 2 ^ i) = ((ch.toNat / 2 ^ i : Nat) : Int) := by
    rw [Int.natCast_ediv]
    congr 1
  rw [e, Int.tmod_eq_emod_of_nonneg (Int.natCast_nonneg _), BitVec.getLsbD, Nat.testBit_eq_decide_div_mod_eq]
  generalize ch.toNat / 2 ^ i = x
  rw [Bool.eq_iff_iff, beq_iff_eq, decide_eq_true_iff]
  omega

set_option maxRecDepth 8000 in
set_option maxHeartbeats 4000000 in
theorem walk (l : List UInt8) (A : Option Addr) (cap : Nat) (a1 a3 : Int) (ch : BitVec 32) (w : World) (hb : Bs w w.heap.size (.slice A l.length cap) l) (h1 : l.length ≤ 3000) (h2 : 5 ≤ l.length) (h3 : ch ≠ 0#32)
    (hr1 : -9223372036854775808 ≤ a1 ∧ a1 ≤ 9223372036854775807) (hr3 : -9223372036854775808 ≤ a3 ∧ a3 ≤ 9223372036854775807) :
    Calls Try.prog 8 #[.slice A l.length cap, .int .i64 a1, wv ch, .int .i64 a3] w fun e w' => e = .returned (.bool true) ∧ Below w.heap.size w w' := by
  have h1' : ¬ (3000 : Int) < (l.length : Int) := by omega
  have h2' : ¬ (l.length : Int) < 5 := by omega
  have h3' : ((ch.toNat : Int) == 0) = false := by
    rw [beq_eq_false_iff_ne]
    intro h
    exact h3 (BitVec.eq_of_toNat_eq (by simp; omega))
  have hcap : l.length ≤ cap := by
    obtain ⟨_, _, q, k, _⟩ := hb
    simp only [Value.slice.injEq] at q
    omega
  have Hb := Lib.hid hb
  have Hr1 := Lib.hid hr1
  have Hr3 := Lib.hid hr3
  have H3 := Lib.hid h3
  clear hb hr1 hr3 h3
  go_enter Try.func8, Try.ntmps8
  go_wp2_with fail
  refine (lives_any _).mono ?_
  rintro e w1 ⟨rfl, hb1⟩
  go_wp2_with fail
  refine (Own_any _ l w1 ((Hb.out.below hb1).more hb1.size) (by omega)).mono ?_
  rintro e w2 ⟨v9, rfl, ho2, hb2⟩
  have hb02 := nextB hb1 (Nat.le_refl _) hb2
  have hs2 : w.heap.size ≤ w1.heap.size := hb1.size
  clear hb1 hb2
  go_wp2_with fail
  refine (Pick_any a1 (((l.length : Int) - 4) * 8) w2 Hr1.out (by omega)).mono ?_
  rintro e w' ⟨rfl, rfl⟩
  obtain ⟨k, hm, hk3⟩ : ∃ k : Nat, pick a1 (((l.length : Int) - 4) * 8) = (k : Int) ∧ k + 32 < 8 * l.length := by
    have := pick_in a1 (((l.length : Int) - 4) * 8) (by omega)
    exact ⟨(pick a1 (((l.length : Int) - 4) * 8)).toNat, by omega, by omega⟩
  rw [hm]
  clear hm
  obtain ⟨g, c9, rfl, hg9⟩ : ∃ g c9, v9 = .slice (some ⟨g, 0, none⟩) l.length c9 ∧ w1.heap.size ≤ g := by
    rcases ho2.2 with ⟨_, h0⟩ | ⟨g, cap9, cur, e9, hge, _⟩
    · omega
    · exact ⟨g, cap9, e9, hge⟩
  go_wp2
  go_loopw [11] (fun iv wr => ∃ i : Nat, i ≤ 32 ∧ iv = .int .i64 (i : Int) ∧ Own wr w1.heap.size (.slice (some ⟨g, 0, none⟩) l.length c9) (Crc.flips l k ch i) ∧ g < wr.heap.size ∧ Below w.heap.size w wr) (fun iv _ => 32 - (intOf iv).toNat)
  case atStart => exact ⟨0, by omega, rfl, ho2, (ho2.block_ge rfl).2, hb02⟩
  case round =>
    obtain ⟨i, hi, rfl, ho, hlt, hbel⟩ := hrel
    have Ho := Lib.hid ho
    clear ho
    by_cases h32 : i < 32
    · have h32' : (i : Int) < 32 := by omega
      have hbit := bit_test ch i
      have hsucc : Crc.flips l k ch (i + 1) = if ch.getLsbD i = true then Crc.flip (Crc.flips l k ch i) (k + i) else Crc.flips l k ch i := rfl
      have hfl := Crc.flips_length l k ch i
      obtain ⟨L, hL⟩ : ∃ L, Crc.flips l k ch i = L := ⟨_, rfl⟩
      rw [hL] at Ho hsucc hfl
      have Hsucc := Lib.hid hsucc
      clear hsucc hL
      cases hc : ch.getLsbD i with
      | true =>
        rw [hc] at hbit Hsucc
        have Hs := Lib.hid (Hsucc.out.trans (if_pos rfl))
        obtain ⟨q, hq⟩ : ∃ q, (k + i) / 8 = q := ⟨_, rfl⟩
        obtain ⟨r, hr⟩ : ∃ r, (k + i) % 8 = r := ⟨_, rfl⟩
        have hqI : ((k : Int) + (i : Int)) / 8 = (q : Int) := by omega
        have hrI : ((k : Int) + (i : Int)) % 8 = (r : Int) := by omega
        have hql : (q : Int) < (l.length : Int) := by omega
        have hr8 : (r : Int) < 8 := by omega
        obtain ⟨u, hu⟩ : ∃ u, L[q]? = some u := ⟨_, List.getElem?_eq_getElem (by omega)⟩
        have hcell : wr.cell? ⟨g, q, none⟩ = some (.int .u8 (u.toNat : Int)) := by
          obtain ⟨_, _, e9, _, hcs⟩ := Ho.out.bs
          obtain ⟨b, off, e8, _, h8⟩ := hcs (by intro h; subst h; simp at hu)
          simp only [Value.slice.injEq] at e9
          rw [← e9.1] at e8
          injection e8 with e8
          injection e8 with e1 e2
          subst e1; subst e2
          have := h8 q u hu
          rwa [Nat.zero_add] at this
        have hO : Own wr w1.heap.size (.slice (some ⟨g, 0, none⟩) L.length c9) L := by rw [hfl]; exact Ho.out
        have HO := Lib.hid hO
        have hfr : wr.frozen? ⟨g, q, none⟩ = false := World.ownsRow.frozenAt hO q
        have Hq := Lib.hid hq
        have Hrr := Lib.hid hr
        have Hu := Lib.hid hu
        have Hfl := Lib.hid hfl
        clear hO
        clear hc hq hr hu hfl Hsucc
        go_wp2
        have hv : Value.int .u8 (bits .xor .u8 (u.toNat : Int) (2 ^ r % 256)) = bv (u ^^^ UInt8.ofNat (2 ^ r)) := by
          have e : ((2 : Int) ^ r % 256) = ((UInt8.ofNat (2 ^ r)).toNat : Int) := by
            rw [UInt8.toNat_ofNat', Int.natCast_emod, Int.natCast_pow]
            rfl
          rw [e, w8_xor]
          rfl
        rw [hv]
        have hst := (World.ownsRow.stored HO.out q (bv (u ^^^ UInt8.ofNat (2 ^ r)))).1
        go_roundw
        case rel =>
          refine ⟨i + 1, h32, by simp, ?_, by simpa using hlt, hbel.setCell (by dsimp only; omega) _⟩
          have hf : Crc.flip L (k + i) = L.set q (u ^^^ UInt8.ofNat (2 ^ r)) := by
            rw [Crc.flip, Hq.out, Hrr.out, List.getD_eq_getElem?_getD, Hu.out]
            rfl
          rw [Hs.out, hf]
          unfold Own
          rw [List.length_set, List.map_set, ← Hfl.out]
          exact hst
        case measure => simp [intOf]; omega
      | false =>
        rw [hc] at hbit Hsucc
        have Hs := Lib.hid (Hsucc.out.trans (if_neg (by decide)))
        clear hc hfl Hsucc
        go_wp2
        go_roundw
        case rel => exact ⟨i + 1, h32, by simp, by rw [Hs.out]; exact Ho.out, hlt, hbel⟩
        case measure => simp [intOf]; omega
    · have h32' : ¬ (i : Int) < 32 := by omega
      have : i = 32 := by omega
      subst this
      go_wp2_with fail
      refine (Pick_any a3 ((l.length : Int) + 1) _ Hr3.out (by omega)).mono ?_
      rintro e w' ⟨rfl, rfl⟩
      obtain ⟨n, hm, hnl⟩ : ∃ n : Nat, pick a3 ((l.length : Int) + 1) = (n : Int) ∧ n ≤ l.length := by
        have := pick_in a3 ((l.length : Int) + 1) (by omega)
        exact ⟨(pick a3 ((l.length : Int) + 1)).toNat, by omega, by omega⟩
      rw [hm]
      clear hm
      go_wp2_with fail
      have hi0 : (0 : Int) ≤ (n : Int) := by omega
      have hic : (n : Int) ≤ (cap : Int) := by omega
      have hil : (n : Int) ≤ (l.length : Int) := by omega
      have hC : ∀ W, Grew wr.drew W → Bs W W.heap.size (.slice (some ⟨g, 0, none⟩) l.length c9) (Crc.flips l k ch 32) := fun W hW => (Own.below (w := wr.drew) Ho.out.drew hW (Nat.le_refl _)).bs
      have hB : ∀ W, Grew wr.drew W → Bs W W.heap.size (.slice A l.length cap) l := fun W hW => (Bs.below (w := wr.drew) (Bs.drew (Hb.out.below hbel)) (hW.mono hbel.size)).more (Nat.le_trans hbel.size hW.size)
      have HC := Lib.hid hC
      have HB := Lib.hid hB
      have hne : (((Crc.sum [Crc.flips l k ch 32]).toNat : Int) != ((Crc.sum [l]).toNat : Int)) = true := by
        rw [bne_iff_ne]
        intro h
        have h' : Crc.sum [Crc.flips l k ch 32] = Crc.sum [l] := BitVec.eq_of_toNat_eq (by omega)
        unfold Crc.sum at h'
        rw [Crc.all_one, Crc.all_one] at h'
        have h4 := congrArg (fun z => 0xffffffff#32 ^^^ z) h'
        simp only [← BitVec.xor_assoc, BitVec.xor_self, BitVec.zero_xor] at h4
        exact Crc.sees l (Crc.flips l k ch 32) k ch (Crc.flips_length _ _ _ _) (by omega) H3.out (fun m _ => Crc.flips_bits l k ch 32 (by omega) m) h4
      have hsp : Crc.sum [l.take n, l.drop n] = Crc.sum [l] := by
        unfold Crc.sum
        rw [Crc.all_cut, Crc.all_one, List.take_append_drop]
      have Hne := Lib.hid hne
      have Hsp := Lib.hid hsp
      clear hC hB hne hsp
      -- behind the loop
      refine By.marks mixed Grew [By.is (.slice (some ⟨g, 0, none⟩) l.length c9),
        bssM [(Crc.flips l k ch 32)],
        By.is (wv (Crc.sum [(Crc.flips l k ch 32)])),
        By.is (.slice A l.length cap),
        bssM [l],
        By.is (wv (Crc.sum [l])),
        By.is (.bool true),
        By.is (.bool true),
        By.is (.slice A l.length cap),
        By.is (.int .i64 (n : Int)),
        By.is (.slice A n cap),
        By.is (.slice A l.length cap),
        By.is (.int .i64 (n : Int)),
        bsM (l.drop n),
        bssM [l.take n, l.drop n],
        By.is (wv (Crc.sum [l.take n, l.drop n])),
        By.is (.slice A l.length cap),
        bssM [l],
        By.is (wv (Crc.sum [l])),
        By.is (.bool true),
        By.is (.bool true),
        By.is (.bool true)]
        (Ev.masks _ []) (by kernel_rfl) rfl Grew.refl Grew.trans ⟨?_, ?_, ?_, ?_, ?_, ?_, ?_, ?_, ?_, ?_, ?_, ?_, ?_, ?_, ?_, ?_, ?_, ?_, ?_, ?_, ?_, ?_, trivial⟩ ?_
      · intro a w ht hs hg -- 70
        have h9 := By.same_get hs 9 (by decide) (by kernel_rfl)
        refine By.yes rfl ?_
        clear hs hg
        go_simp
        exact ⟨_, rfl, Grew.refl _, rfl⟩
      · intro a w ht hs hg -- 71
        have h70 : a.tmps.getD 70 undef = _ := By.given_get hg 0 rfl rfl (by kernel_rfl)
        refine By.yes rfl ?_
        clear hs hg
        refine wp_bss1 _ rfl h70 (HC.out w ht) ?_
        intro v w' hbs hb
        exact ⟨_, rfl, hb, hbs⟩
      · intro a w ht hs hg -- 72
        have h71 := By.given_get hg 1 rfl rfl (by kernel_rfl)
        refine By.yes rfl ?_
        obtain ⟨v71, hv71⟩ : ∃ v, a.tmps.getD 71 undef = v := ⟨_, rfl⟩
        replace h71 := (congrArg (fun v => (bssM [(Crc.flips l k ch 32)]).on v w) hv71).mp h71
        clear hs hg
        have Hx := Lib.hid h71
        clear h71
        go_simp
        refine (Sum_any _ _ _ Hx.out (by simp) (by intro x hx; simp at hx; subst hx; rw [Crc.flips_length]; omega)).mono ?_
        rintro e w' ⟨rfl, rfl⟩
        exact ⟨_, rfl, Grew.refl _, rfl⟩
      · intro a w ht hs hg -- 73
        have h0 := By.same_get hs 0 (by decide) (by kernel_rfl)
        refine By.yes rfl ?_
        clear hs hg
        go_simp
        exact ⟨_, rfl, Grew.refl _, rfl⟩
      · intro a w ht hs hg -- 74
        have h73 : a.tmps.getD 73 undef = _ := By.given_get hg 3 rfl rfl (by kernel_rfl)
        refine By.yes rfl ?_
        clear hs hg
        refine wp_bss1 _ rfl h73 (HB.out w ht) ?_
        intro v w' hbs hb
        exact ⟨_, rfl, hb, hbs⟩
      · intro a w ht hs hg -- 75
        have h74 := By.given_get hg 4 rfl rfl (by kernel_rfl)
        refine By.yes rfl ?_
        obtain ⟨v74, hv74⟩ : ∃ v, a.tmps.getD 74 undef = v := ⟨_, rfl⟩
        replace h74 := (congrArg (fun v => (bssM [l]).on v w) hv74).mp h74
        clear hs hg
        have Hx := Lib.hid h74
        clear h74
        go_simp
        refine (Sum_any _ _ _ Hx.out (by simp) (by intro x hx; simp at hx; subst hx; omega)).mono ?_
        rintro e w' ⟨rfl, rfl⟩
        exact ⟨_, rfl, Grew.refl _, rfl⟩
      · intro a w ht hs hg -- 76
        have h72 : a.tmps.getD 72 undef = _ := By.given_get hg 2 rfl rfl (by kernel_rfl)
        have h75 : a.tmps.getD 75 undef = _ := By.given_get hg 5 rfl rfl (by kernel_rfl)
        refine By.yes rfl ?_
        clear hs hg
        go_simp
        exact ⟨_, rfl, Grew.refl _, congrArg Value.bool Hne.out⟩
      · intro a w ht hs hg -- 77
        have h76 : a.tmps.getD 76 undef = _ := By.given_get hg 6 rfl rfl (by kernel_rfl)
        refine By.yes rfl ?_
        clear hs hg
        go_simp
        exact ⟨_, rfl, Grew.refl _, rfl⟩
      · intro a w ht hs hg -- 78
        have h0 := By.same_get hs 0 (by decide) (by kernel_rfl)
        have hg77 := By.given_get hg 7 rfl rfl (by kernel_rfl)
        refine By.yes (By.want_yes rfl rfl hg77) ?_
        clear hg77
        clear hs hg
        go_simp
        exact ⟨_, rfl, Grew.refl _, rfl⟩
      · intro a w ht hs hg -- 79
        have h12 := By.same_get hs 12 (by decide) (by kernel_rfl)
        have hg77 := By.given_get hg 7 rfl rfl (by kernel_rfl)
        refine By.yes (By.want_yes rfl rfl hg77) ?_
        clear hg77
        clear hs hg
        go_simp
        exact ⟨_, rfl, Grew.refl _, rfl⟩
      · intro a w ht hs hg -- 80
        have h78 : a.tmps.getD 78 undef = _ := By.given_get hg 8 rfl rfl (by kernel_rfl)
        have h79 : a.tmps.getD 79 undef = _ := By.given_get hg 9 rfl rfl (by kernel_rfl)
        have hg77 := By.given_get hg 7 rfl rfl (by kernel_rfl)
        refine By.yes (By.want_yes rfl rfl hg77) ?_
        clear hg77
        clear hs hg
        go_simp
        exact ⟨_, rfl, Grew.refl _, rfl⟩
      · intro a w ht hs hg -- 81
        have h0 := By.same_get hs 0 (by decide) (by kernel_rfl)
        have hg77 := By.given_get hg 7 rfl rfl (by kernel_rfl)
        refine By.yes (By.want_yes rfl rfl hg77) ?_
        clear hg77
        clear hs hg
        go_simp
        exact ⟨_, rfl, Grew.refl _, rfl⟩
      · intro a w ht hs hg -- 82
        have h12 := By.same_get hs 12 (by decide) (by kernel_rfl)
        have hg77 := By.given_get hg 7 rfl rfl (by kernel_rfl)
        refine By.yes (By.want_yes rfl rfl hg77) ?_
        clear hg77
        clear hs hg
        go_simp
        exact ⟨_, rfl, Grew.refl _, rfl⟩
      · intro a w ht hs hg -- 83
        have h81 : a.tmps.getD 81 undef = _ := By.given_get hg 11 rfl rfl (by kernel_rfl)
        have h82 : a.tmps.getD 82 undef = _ := By.given_get hg 12 rfl rfl (by kernel_rfl)
        have hg77 := By.given_get hg 7 rfl rfl (by kernel_rfl)
        refine By.yes (By.want_yes rfl rfl hg77) ?_
        clear hg77
        clear hs hg
        have hbt := (HB.out w ht).cut hnl
        have Hbt := Lib.hid hbt
        clear hbt
        go_simp
        exact ⟨_, rfl, Grew.refl _, Hbt.out⟩
      · intro a w ht hs hg -- 84
        have h80 : a.tmps.getD 80 undef = _ := By.given_get hg 10 rfl rfl (by kernel_rfl)
        have h83 := By.given_get hg 13 rfl rfl (by kernel_rfl)
        have hg77 := By.given_get hg 7 rfl rfl (by kernel_rfl)
        refine By.yes (By.want_yes rfl rfl hg77) ?_
        clear hg77
        obtain ⟨v83, hv83⟩ : ∃ v, a.tmps.getD 83 undef = v := ⟨_, rfl⟩
        replace h83 := (congrArg (fun v => (bsM (l.drop n)).on v w) hv83).mp h83
        clear hs hg
        refine wp_bss2 _ rfl h80 ((HB.out w ht).take rfl hnl) (v2 := v83) hv83 h83 ?_
        intro v w' hbs hb
        exact ⟨_, rfl, hb, hbs⟩
      · intro a w ht hs hg -- 85
        have h84 := By.given_get hg 14 rfl rfl (by kernel_rfl)
        have hg77 := By.given_get hg 7 rfl rfl (by kernel_rfl)
        refine By.yes (By.want_yes rfl rfl hg77) ?_
        clear hg77
        obtain ⟨v84, hv84⟩ : ∃ v, a.tmps.getD 84 undef = v := ⟨_, rfl⟩
        replace h84 := (congrArg (fun v => (bssM [l.take n, l.drop n]).on v w) hv84).mp h84
        clear hs hg
        have Hx := Lib.hid h84
        clear h84
        go_simp
        refine (Sum_any _ _ _ Hx.out (by simp) (by intro x hx; simp at hx; rcases hx with rfl | rfl <;> simp <;> omega)).mono ?_
        rintro e w' ⟨rfl, rfl⟩
        exact ⟨_, rfl, Grew.refl _, rfl⟩
      · intro a w ht hs hg -- 86
        have h0 := By.same_get hs 0 (by decide) (by kernel_rfl)
        have hg77 := By.given_get hg 7 rfl rfl (by kernel_rfl)
        refine By.yes (By.want_yes rfl rfl hg77) ?_
        clear hg77
        clear hs hg
        go_simp
        exact ⟨_, rfl, Grew.refl _, rfl⟩
      · intro a w ht hs hg -- 87
        have h86 : a.tmps.getD 86 undef = _ := By.given_get hg 16 rfl rfl (by kernel_rfl)
        have hg77 := By.given_get hg 7 rfl rfl (by kernel_rfl)
        refine By.yes (By.want_yes rfl rfl hg77) ?_
        clear hg77
        clear hs hg
        refine wp_bss1 _ rfl h86 (HB.out w ht) ?_
        intro v w' hbs hb
        exact ⟨_, rfl, hb, hbs⟩
      · intro a w ht hs hg -- 88
        have h87 := By.given_get hg 17 rfl rfl (by kernel_rfl)
        have hg77 := By.given_get hg 7 rfl rfl (by kernel_rfl)
        refine By.yes (By.want_yes rfl rfl hg77) ?_
        clear hg77
        obtain ⟨v87, hv87⟩ : ∃ v, a.tmps.getD 87 undef = v := ⟨_, rfl⟩
        replace h87 := (congrArg (fun v => (bssM [l]).on v w) hv87).mp h87
        clear hs hg
        have Hx := Lib.hid h87
        clear h87
        go_simp
        refine (Sum_any _ _ _ Hx.out (by simp) (by intro x hx; simp at hx; subst hx; omega)).mono ?_
        rintro e w' ⟨rfl, rfl⟩
        exact ⟨_, rfl, Grew.refl _, rfl⟩
      · intro a w ht hs hg -- 89
        have h85 : a.tmps.getD 85 undef = _ := By.given_get hg 15 rfl rfl (by kernel_rfl)
        have h88 : a.tmps.getD 88 undef = _ := By.given_get hg 18 rfl rfl (by kernel_rfl)
        have hg77 := By.given_get hg 7 rfl rfl (by kernel_rfl)
        refine By.yes (By.want_yes rfl rfl hg77) ?_
        clear hg77
        clear hs hg
        rw [Hsp.out] at h85
        go_simp
        exact ⟨_, rfl, Grew.refl _, congrArg Value.bool (by simp)⟩
      · intro a w ht hs hg -- 90
        have h77 : a.tmps.getD 77 undef = _ := By.given_get hg 7 rfl rfl (by kernel_rfl)
        have h89 : a.tmps.getD 89 undef = _ := By.given_get hg 19 rfl rfl (by kernel_rfl)
        refine By.yes rfl ?_
        clear hs hg
        go_simp
        exact ⟨_, rfl, Grew.refl _, rfl⟩
      · intro a w ht hs hg -- 8
        have h90 : a.tmps.getD 90 undef = _ := By.given_get hg 20 rfl rfl (by kernel_rfl)
        refine By.yes rfl ?_
        clear hs hg
        go_simp
        exact ⟨_, rfl, Grew.refl _, rfl⟩
      refine By.ends_is (By.ends_skip fun v71 => (By.ends_is (By.ends_is (By.ends_skip fun v74 => (By.ends_is (By.ends_is (By.ends_is (By.ends_is (By.ends_is (By.ends_is (By.ends_is (By.ends_is (By.ends_skip fun v83 => (By.ends_skip fun v84 => (By.ends_is (By.ends_is (By.ends_skip fun v87 => (By.ends_is (By.ends_is (By.ends_is (By.ends_is (By.ends_nil fun w5 hw5 => ?_))))))))))))))))))))))
      simp only [Act.put, List.setIfInBounds_toArray, List.set_cons_succ, List.set_cons_zero]

      have hg5 : Below wr.heap.size wr.drew w5 := hw5
      have hb05 : Below w.heap.size w w5 := hbel.drew.trans (hg5.mono (by show w.heap.size ≤ wr.heap.size; exact hbel.size))
      go_wp2
      go_ret
      exact ⟨rfl, hb05⟩

set_option maxRecDepth 100000 in
theorem lift (os : Os) (started : os.Started) (H : Type) (enc : TypeId × Value → H) :
    ReturnsInHanded {} Try.checked os 8 .any (Rows.octetSeesSpec.pre6 enc Try.prog Try.f8 Rows.octetSeesRow.domain false) (Rows.octetSeesSpec.post enc Try.prog Try.f8 false true false false) := by
  refine Law.lifted (C := Try.checked) 4 own started (by kernel_rfl) Try.func8 laid (by kernel_rfl) rfl Try.underlying4 rfl
    (fun ds hd => by
      have hd' : ds.length = 4 := hd
      match ds, hd' with
      | [d0, d1, d2, d3], _ => rfl)
    (ChangeSpec.witness6 (enc := enc) (C := Try.checked) false ⟨#[], #[.slice none 0 0, .int .i64 0, .int .u32 0, .int .i64 0], []⟩ 8 (by kernel_rfl) (by kernel_rfl) (by kernel_rfl) (by kernel_rfl)) ?_
  intro W args ds ps hst
  have hA : DataW.TrodAll enc Try.prog W 0 (fun _ => true) true Try.f8.params.toList args.toList ds ps := hst.trod
  have hok := hst.okw
  have hlt := hst.lt
  rw [Try.params8] at hA hok
  obtain ⟨v0, v1, v2, v3, d0, d1, d2, d3, p0, p1, p2, p3, rfl, rfl, rfl, h0, h1, h2, h3⟩ := trodAll_four hA
  obtain ⟨_, hv0⟩ := hok 0 24 v0 rfl rfl
  obtain ⟨_, hv1⟩ := hok 1 3 v1 rfl rfl
  obtain ⟨_, hv2⟩ := hok 2 34 v2 rfl rfl
  obtain ⟨_, hv3⟩ := hok 3 3 v3 rfl rfl
  obtain ⟨l, hb, hl⟩ := Law.bytes_at Try.underlying24 hv0 h0 (fun x hx => hlt x (by simp [hx]))
  obtain ⟨a1, rfl, ha1, ha2⟩ := Law.int_at Try.underlying3 hv1 h1
  obtain ⟨ch, rfl⟩ := word_at Try.underlying34 hv2
  obtain ⟨a3, rfl, ha3, ha4⟩ := Law.int_at Try.underlying3 hv3 h3
  obtain ⟨A, cap, rfl, _⟩ := id hb
  by_cases hs : 3000 < l.length ∨ l.length < 5 ∨ ch = 0#32
  · exact short A cap l.length a1 a3 ch W hs
  · exact walk l A cap a1 a3 ch W hb (by omega) (by omega) (fun h => hs (.inr (.inr h))) ⟨ha1, ha2⟩ ⟨ha3, ha4⟩

theorem over : Rows.octetSeesRow.holds Try.pinned (OpenSpec.ofChange Rows.octetSeesSpec) :=
  OpenClaim.holds_of_wide 8 Try.f8 rfl rfl rfl rfl rfl rfl rfl ⟨rfl, rfl, rfl, rfl, rfl⟩ rfl rfl rfl rfl rfl (by kernel_rfl) Try.func8 (by kernel_rfl)
    (of_decide_eq_true (by kernel_rfl)) (by unfold Func.isWrapper; first | (rw [if_pos (by decide +kernel)]; kernel_rfl) | (rw [if_neg (by decide +kernel)]; exact ⟨rfl, rfl⟩))
    (fun os started H enc _ => lift os started H enc)
theorem proved : Rows.OctetSeesSaid := over
#print axioms proved
end Go.Proofs.Ytmfjlcgbanidnaa.octetSees
