/- The reference's bytes xor the key stream. -/
import Derived.Test.YtpllbnioncjhaaaChaBlock
import Derived.Test.YtpllbnioncjhaaaChaRefEv
import Derived.Test.YtpllbnioncjhaaaChaXor
import Derived.Test.YtpllbnioncjhaaaTail
namespace Go.Proofs.Ytpllbnioncjhaaa
open Go.RowKit

set_option maxRecDepth 8000 in
set_option maxHeartbeats 2000000 in
theorem RBlock_any (key nonce : List UInt8) (c : BitVec 32) (hk : key.length = 32) (hn : nonce.length = 12) (w : World) : Calls Try.prog 41 #[arr8 key, wv c, arr8 nonce] w fun e w' => e = .returned (arr8 (Cha.block key c nonce)) ∧ Below w.heap.size w w' := by
  have Hkl := Lib.hid (show (key.map bv).length = 32 by simpa using hk)
  have Hnl := Lib.hid (show (nonce.map bv).length = 12 by simpa using hn)
  have Hk := Lib.hid hk
  have Hn := Lib.hid hn
  clear hk hn
  unfold arr8
  go_enter Try.func41, Try.ntmps41
  go_wp2_with (first
    | (refine wpList_loadRow rfl 24 _ rfl rfl (((Row.new rfl rfl).alloc _).alloc _) Try.underlying24 rfl (by kernel_rfl) Hkl.out ?_)
    | (refine wpList_loadRow rfl 25 _ rfl rfl ((Row.new (by simp) rfl).alloc _) Try.underlying25 rfl (by kernel_rfl) Hnl.out ?_)
    | fail)
  have hz : Row ((((w.alloc (.cells (key.map bv).toArray 24)).alloc (.cells (nonce.map bv).toArray 25)).alloc (.cells ((List.replicate 64 (0 : UInt8)).map bv).toArray 49))) (w.heap.size + 1 + 1) ((List.replicate 64 (0 : UInt8)).map bv) 49 := Row.new (by simp) rfl
  have hb1 : Below w.heap.size w (((w.alloc (.cells (key.map bv).toArray 24)).alloc (.cells (nonce.map bv).toArray 25)).alloc (.cells ((List.replicate 64 (0 : UInt8)).map bv).toArray 49)) :=
    (((Below.refl _ w).alloc (Nat.le_refl _) _).alloc (by simp) _).alloc (by simp; omega) _
  have Hz := Lib.hid hz
  have Hb1 := Lib.hid hb1
  clear hz hb1
  refine (RState_any key nonce c Hk.out Hn.out _).mono ?_
  rintro e w2 ⟨rfl, hb2⟩
  have hz2 : Row w2 (w.heap.size + 1 + 1) ((List.replicate 64 (0 : UInt8)).map bv) 49 := Hz.out.below hb2 (by simp)
  have hb02 : Below w.heap.size w w2 := nextB Hb1.out (Nat.le_refl _) hb2
  have hsz2 : w.heap.size + 3 ≤ w2.heap.size := by have := hb2.size; simp at this; omega
  have Hz2 := Lib.hid hz2
  clear hz2 hb2 Hz Hb1
  have hlen := Cha.state_length key c nonce
  obtain ⟨s, hs⟩ : ∃ s, Cha.state key c nonce = s := ⟨_, rfl⟩
  rw [hs] at hlen ⊢
  have Hs := Lib.hid hs
  have Hlen := Lib.hid (show (s.map wv).length = 16 by simpa using hlen)
  clear hs
  have Hsl := Lib.hid hlen
  clear hlen
  unfold arr32
  go_wp2_with (first
    | (refine wpList_storeRow rfl 23 _ _ rfl rfl rfl (old := (List.replicate 16 0#32).map wv) (Row.new rfl rfl) (by kernel_rfl) Hlen.out (by simp) (words_one s) ?_)
    | (refine wpList_loadRow rfl 23 _ rfl rfl (cs := s.map wv) ((Row.new rfl rfl).setRow (s.map wv)) Try.underlying23 rfl (by kernel_rfl) Hlen.out ?_)
    | (refine wpList_storeRow rfl 23 _ _ rfl rfl rfl (old := (List.replicate 16 0#32).map wv) (Row.new (by simp) rfl) (by kernel_rfl) Hlen.out (by simp) (words_one s) ?_))
  go_loopw [9] (fun iv wr => ∃ i : Nat, i ≤ 10 ∧ iv = .int .i64 (i : Int) ∧ Row wr (w.heap.size + 1 + 1) ((List.replicate 64 (0 : UInt8)).map bv) 49 ∧ Row wr w2.heap.size (s.map wv) 23 ∧ Row wr (w2.heap.size + 1) ((Cha.rounds i s).map wv) 23 ∧ w2.heap.size + 2 ≤ wr.heap.size ∧ Below w.heap.size w wr) (fun iv _ => 10 - (intOf iv).toNat)
  case atStart =>
    refine ⟨0, by omega, rfl, ?_, ?_, ?_, by simp, ?_⟩
    · exact (((Hz2.out.alloc _).setOther _ _ (by omega)).alloc _).setOther _ _ (by omega)
    · exact ((((Row.new rfl rfl).setRow (s.map wv)).alloc _).setOther _ _ (by omega))
    · exact (Row.new (cs := (List.replicate 16 0#32).map wv) (by simp) rfl).setRow (s.map wv)
    · exact below_setRow ((below_setRow (hb02.alloc (by omega) _) (by omega) _).alloc (by simp; omega) _) (by omega) _
  case round =>
    obtain ⟨i, hi, rfl, hr6, hr7, hr8, hsz, hbel⟩ := hrel
    have Hr6 := Lib.hid hr6
    have Hr7 := Lib.hid hr7
    have Hr8 := Lib.hid hr8
    have hl8 : (Cha.rounds i s).length = 16 := by rw [Cha.rounds_length, Hsl.out]
    have Hl8 := Lib.hid hl8
    have Hm8 := Lib.hid (show ((Cha.rounds i s).map wv).length = 16 by simpa using hl8)
    clear hr6 hr7 hr8 hl8
    by_cases h8 : i < 10
    · have h8' : (i : Int) < 10 := by omega
      go_wp2_with (first
        | (refine wpList_loadRow rfl 23 _ rfl rfl Hr8.out Try.underlying23 rfl (by kernel_rfl) Hm8.out ?_)
        | fail)
      refine (RRound_any (Cha.rounds i s) Hl8.out wr).mono ?_
      rintro e w3 ⟨rfl, hb3⟩
      have Hrow := Lib.hid (Hr8.out.below hb3 (by omega))
      have Hr6 := Lib.hid (Hr6.out.below hb3 (by omega))
      have Hr7 := Lib.hid (Hr7.out.below hb3 (by omega))
      have Hm9 := Lib.hid (show ((Cha.round (Cha.rounds i s)).map wv).length = 16 by rw [List.length_map, Cha.round_length]; exact Hl8.out)
      have hbel := nextB hbel (Nat.le_refl _) hb3
      have hsz3 := hb3.size
      unfold arr32
      go_wp2_with (first
        | (refine wpList_storeRow rfl 23 _ _ rfl rfl rfl Hrow.out (by kernel_rfl) Hm9.out Hm8.out (words_one _) ?_)
        | fail)
      go_roundw
      case rel => exact ⟨i + 1, h8, by simp, Hr6.out.setOther _ _ (by omega), Hr7.out.setOther _ _ (by omega), Hrow.out.setRow _, by rw [size_setRow]; omega, below_setRow hbel (by omega) _⟩
      case measure => simp [intOf]; omega
    · have h8' : ¬ (i : Int) < 10 := by omega
      have : i = 10 := by omega
      subst this
      obtain ⟨r, hr⟩ : ∃ r, Cha.rounds 10 s = r := ⟨_, rfl⟩
      rw [hr] at Hr8 Hl8 Hm8
      have Hr := Lib.hid hr
      clear hr
      obtain ⟨B, hB⟩ : ∃ B, Cha.block key c nonce = B := ⟨_, rfl⟩
      have hB2 : (Cha.sums r s).flatMap Cha.bytesOf = B := by rw [← hB, Cha.block, Hs.out, Hr.out]
      have HB2 := Lib.hid hB2
      have HBl := Lib.hid (show B.length = 64 by rw [← hB]; exact Cha.block_length _ _ _)
      have HB := Lib.hid hB
      clear hB hB2
      go_wp2
      obtain ⟨gb, hgb⟩ : ∃ gb, wr.heap.size = gb := ⟨_, rfl⟩
      rw [hgb]
      go_loopw [11] (fun iv wq => ∃ i : Nat, i ≤ 16 ∧ iv = .int .i64 (i : Int) ∧ Row wq (w.heap.size + 1 + 1) ((List.replicate 64 (0 : UInt8)).map bv) 49 ∧ Row wq w2.heap.size (s.map wv) 23 ∧ Row wq (w2.heap.size + 1) (r.map wv) 23 ∧ Row wq gb ((Cha.fill B (4 * i)).map bv) 49 ∧ Below w.heap.size w wq) (fun iv _ => 16 - (intOf iv).toNat)
      case atStart => exact ⟨0, by omega, rfl, Hr6.out.alloc _, Hr7.out.alloc _, Hr8.out.alloc _, Row.new hgb rfl, hbel.alloc (by omega) _⟩
      case round =>
        obtain ⟨i, hi, rfl, hr6, hr7, hr8, hr9, hbel⟩ := hrel
        have Hr6 := Lib.hid hr6
        have Hr7 := Lib.hid hr7
        have Hr8 := Lib.hid hr8
        have Hr9 := Lib.hid hr9
        clear hr6 hr7 hr8 hr9
        by_cases h16 : i < 16
        · have h16' : (i : Int) < 16 := by omega
          have hcell := Hr7.out.cell (getD_word s i (by rw [Hsl.out]; omega))
          have hcell8 := Hr8.out.cell (getD_word r i (by rw [Hl8.out]; omega))
          go_wp2_with fail
          go_quiet (fail)
          go_wp2
          rename_i nq
          have hbel := below_drewN hbel nq
          have Hr6 := Lib.hid (Hr6.out.drewN nq)
          have Hr7 := Lib.hid (Hr7.out.drewN nq)
          have Hr8 := Lib.hid (Hr8.out.drewN nq)
          have Hr9 := Lib.hid (Hr9.out.drewN nq)
          rw [w_add]
          obtain ⟨x, hx⟩ : ∃ x, Cha.at_ r i + Cha.at_ s i = x := ⟨_, rfl⟩
          rw [hx]
          have hat : ∀ j, j < 4 → B[4 * i + j]? = some (Cha.byteOf x j) := by
            intro j hj
            rw [← HB2.out, Cha.flat_at _ i j hj, Cha.sums_at r s i (by rw [Hl8.out]; exact h16) (by rw [Hsl.out]; exact h16), hx]
            rfl
          have Hat := Lib.hid hat
          clear hat hx hcell hcell8
          go_loopw [13] (fun jv wq => ∃ j : Nat, j ≤ 4 ∧ jv = .int .i64 (j : Int) ∧ Row wq (w.heap.size + 1 + 1) ((List.replicate 64 (0 : UInt8)).map bv) 49 ∧ Row wq w2.heap.size (s.map wv) 23 ∧ Row wq (w2.heap.size + 1) (r.map wv) 23 ∧ Row wq gb ((Cha.fill B (4 * i + j)).map bv) 49 ∧ Below w.heap.size w wq) (fun jv _ => 4 - (intOf jv).toNat)
          case atStart => exact ⟨0, by omega, rfl, Hr6.out, Hr7.out, Hr8.out, Hr9.out, hbel⟩
          case round =>
            obtain ⟨j, hj, rfl, hr6, hr7, hr8, hr9, hbel⟩ := hrel
            have Hr6 := Lib.hid hr6
            have Hr7 := Lib.hid hr7
            have Hr8 := Lib.hid hr8
            have Hr9 := Lib.hid hr9
            clear hr6 hr7 hr8 hr9
            by_cases h4 : j < 4
            · have h4' : (j : Int) < 4 := by omega
              have hfl := Cha.fill_length B (4 * i + j) HBl.out (by omega)
              have Hcell := Lib.hid (show ∃ v, wr.cell? ⟨gb, 4 * i + j, none⟩ = some v from ⟨_, Hr9.out.cell (getD_cell _ (4 * i + j) (by rw [hfl]; omega))⟩)
              have Hfr := Lib.hid (frozen_row Hr9.out (4 * i + j))
              have hset := Hr9.out.set (4 * i + j) (bv (Cha.byteOf x j))
              rw [← List.map_set, Cha.fill_set B (4 * i + j) _ HBl.out (by omega) (Hat.out j h4), Cha.byteOf_is] at hset
              have Hset := Lib.hid hset
              clear hset hfl
              obtain rfl | rfl | rfl | rfl : j = 0 ∨ j = 1 ∨ j = 2 ∨ j = 3 := by omega
              · obtain ⟨v, hcell⟩ := Hcell.out
                have hfr := Hfr.out
                simp only [Nat.add_zero] at hcell hfr
                have hset := Hset.out
                simp only [Nat.add_zero] at hset
                have Hset := Lib.hid hset
                clear hset
                go_wp2
                rw [byte0]
                go_roundw
                case rel => exact ⟨1, by omega, rfl, Hr6.out.other _ _ (by dsimp only; omega), Hr7.out.other _ _ (by dsimp only; omega), Hr8.out.other _ _ (by dsimp only; omega), Hset.out, hbel.setCell (by dsimp only; omega) _⟩
                case measure => simp [intOf]
              · obtain ⟨v, hcell⟩ := Hcell.out
                have hfr := Hfr.out
                have hset := Hset.out
                have Hset := Lib.hid hset
                clear hset
                go_wp2
                rw [byte1]
                go_roundw
                case rel => exact ⟨2, by omega, rfl, Hr6.out.other _ _ (by dsimp only; omega), Hr7.out.other _ _ (by dsimp only; omega), Hr8.out.other _ _ (by dsimp only; omega), Hset.out, hbel.setCell (by dsimp only; omega) _⟩
                case measure => simp [intOf]
              · obtain ⟨v, hcell⟩ := Hcell.out
                have hfr := Hfr.out
                have hset := Hset.out
                have Hset := Lib.hid hset
                clear hset
                go_wp2
                rw [byte2]
                go_roundw
                case rel => exact ⟨3, by omega, rfl, Hr6.out.other _ _ (by dsimp only; omega), Hr7.out.other _ _ (by dsimp only; omega), Hr8.out.other _ _ (by dsimp only; omega), Hset.out, hbel.setCell (by dsimp only; omega) _⟩
                case measure => simp [intOf]
              · obtain ⟨v, hcell⟩ := Hcell.out
                have hfr := Hfr.out
                have hset := Hset.out
                have Hset := Lib.hid hset
                clear hset
                go_wp2
                rw [byte3]
                go_roundw
                case rel => exact ⟨4, by omega, rfl, Hr6.out.other _ _ (by dsimp only; omega), Hr7.out.other _ _ (by dsimp only; omega), Hr8.out.other _ _ (by dsimp only; omega), Hset.out, hbel.setCell (by dsimp only; omega) _⟩
                case measure => simp [intOf]
            · have h4' : ¬ (j : Int) < 4 := by omega
              have : j = 4 := by omega
              subst this
              go_wp2
              go_roundw
              case rel => exact ⟨i + 1, h16, by simp, Hr6.out, Hr7.out, Hr8.out, Hr9.out, hbel⟩
              case measure => simp [intOf]; omega
        · have h16' : ¬ (i : Int) < 16 := by omega
          have : i = 16 := by omega
          subst this
          have hm9 := Hr9.out.same (cs' := B.map bv) (by rw [Cha.fill_all B HBl.out])
          have Hm9 := Lib.hid hm9
          have Hlb := Lib.hid (show (B.map bv).length = 64 by rw [List.length_map]; exact HBl.out)
          clear hm9
          go_wp2_with (first
            | (refine wpList_loadRow rfl 49 _ rfl rfl Hm9.out Try.underlying49 rfl (by kernel_rfl) Hlb.out ?_)
            | (refine wpList_storeRow rfl 49 _ _ rfl rfl rfl Hr6.out (by kernel_rfl) Hlb.out (by simp) (bytes_one B) ?_))
          refine bodyPost_ret (results_row rfl _ rfl (Hr6.out.setRow (B.map bv)) Try.underlying49 rfl (by kernel_rfl) Hlb.out) rfl ?_
          exact ⟨by rw [HB.out], below_setRow hbel (by omega) _⟩
end Go.Proofs.Ytpllbnioncjhaaa
namespace Go.Proofs.Ytpllbnioncjhaaa
open Go.RowKit

set_option maxRecDepth 8000 in
set_option maxHeartbeats 2000000 in
theorem RXor_long (key nonce : List UInt8) (A : Option Addr) (cap : Nat) (c : BitVec 32) (n : Nat) (w : World) (hn : n ≤ 1000000000) (hlong : Cha.long c n) :
    Calls Try.prog 40 #[arr8 key, wv c, arr8 nonce, .slice A n cap] w fun e w' => e = .returned (.tuple #[.slice none 0 0, .int .i64 3]) ∧ Below w.heap.size w w' := by
  unfold Cha.long at hlong
  have hc := c.isLt
  have h1 : (4294967296 : Int) - (c.toNat : Int) < ((n : Int) + 63) / 64 := by omega
  unfold arr8
  go_enter Try.func40, Try.ntmps40
  go_wp2
  go_ret2
  exact ⟨rfl, ((Below.refl _ w).alloc (Nat.le_refl _) _).alloc (by simp) _⟩

theorem wp_byte1 {o : Oper} {a : Act} {w : World} {K : Act → World → Prop} {Q : Exit → Act → World → Prop} {u : UInt8} (x : Operand) (ho : o.op = .buildSlice 34 1 #[(0, x)]) (hx : a.eval x = bv u)
    (h : K (a.put o.dst (.slice (some ⟨w.heap.size, 0, none⟩) 1 1)) (w.alloc (.cells #[bv u] 5))) : o.wp Try.prog a w K Q := by
  obtain ⟨i, hi, hz, hs, _⟩ := info_u8
  refine wp_buildSlice 34 5 1 #[(0, x)] ho #[bv u] i _ Try.underlying34 hi hz (by rw [hs]; decide) (by rw [hs]; decide) ?_ h
  rw [hs, show Array.range (1 * 1) = #[0] from by kernel_rfl]
  simp [Instr.fill, hx, Value.cells, bv]
theorem ctr_add (c : BitVec 32) (n i : Nat) (h : ¬ Cha.long c n) (hi : i < n) (hn : n ≤ 1000000) : (c.toNat : Int) + (i : Int) / 64 = ((c + BitVec.ofNat 32 (i / 64)).toNat : Int) := by
  unfold Cha.long at h
  have hc := c.isLt
  rw [BitVec.toNat_add, BitVec.toNat_ofNat]
  omega
theorem xor_byte (key nonce l : List UInt8) (c : BitVec 32) (i : Nat) (u : UInt8) (hu : l[i]? = some u) : (Cha.xor key c nonce l)[i]? = some (u ^^^ (Cha.block key (c + BitVec.ofNat 32 (i / 64)) nonce).getD (i % 64) 0) := by
  have h := Cha.stream_at key c nonce (i / 64) (i % 64) (by omega)
  rw [show 64 * (i / 64) + i % 64 = i by omega] at h
  rw [Cha.xor_at _ _ _ _ _ _ hu, h]
set_option maxRecDepth 8000 in
set_option maxHeartbeats 800000 in
theorem RXor_ok (key nonce l : List UInt8) (v : Value) (c : BitVec 32) (hk : key.length = 32) (hn : nonce.length = 12) (w : World) (hb : Bs w w.heap.size v l) (hl : l.length ≤ 1000000) (hlong : ¬ Cha.long c l.length) :
    Calls Try.prog 40 #[arr8 key, wv c, arr8 nonce, v] w fun e w' => ∃ v, e = .returned (.tuple #[v, .int .i64 0]) ∧ Own w' w.heap.size v (Cha.xor key c nonce l) ∧ Below w.heap.size w w' := by
  have hlong0 := hlong
  unfold Cha.long at hlong
  have hc := c.isLt
  have h1 : ¬ (4294967296 : Int) - (c.toNat : Int) < ((l.length : Int) + 63) / 64 := by omega
  have Hb := Lib.hid hb
  obtain ⟨A, cap, rfl, hcap, hcs⟩ := hb
  have Hcs := Lib.hid hcs
  have Hkl := Lib.hid (show (key.map bv).length = 32 by simpa using hk)
  have Hnl := Lib.hid (show (nonce.map bv).length = 12 by simpa using hn)
  have Hk := Lib.hid hk
  have Hn := Lib.hid hn
  clear hk hn hcs hlong
  unfold arr8
  go_enter Try.func40, Try.ntmps40
  go_wp2
  have hb1 : Below w.heap.size w ((w.alloc (.cells (key.map bv).toArray 24)).alloc (.cells (nonce.map bv).toArray 25)) := ((Below.refl _ w).alloc (Nat.le_refl _) _).alloc (by simp) _
  have hk1 : Row ((w.alloc (.cells (key.map bv).toArray 24)).alloc (.cells (nonce.map bv).toArray 25)) w.heap.size (key.map bv) 24 := (Row.new rfl rfl).alloc _
  have hn1 : Row ((w.alloc (.cells (key.map bv).toArray 24)).alloc (.cells (nonce.map bv).toArray 25)) (w.heap.size + 1) (nonce.map bv) 25 := Row.new (by simp) rfl
  have HX := Lib.hid (Cha.xor_length key c nonce l)
  go_loopw [10, 11] (fun vo iv wr => ∃ i : Nat, i ≤ l.length ∧ iv = .int .i64 (i : Int) ∧ Own wr (w.heap.size + 2) vo ((Cha.xor key c nonce l).take i) ∧ Row wr w.heap.size (key.map bv) 24 ∧ Row wr (w.heap.size + 1) (nonce.map bv) 25 ∧ w.heap.size + 2 ≤ wr.heap.size ∧ Below w.heap.size w wr) (fun _ iv _ => l.length - (intOf iv).toNat)
  case atStart => exact ⟨0, by omega, rfl, by simpa using Own.nil _ _, hk1, hn1, by simp, hb1⟩
  case round =>
    obtain ⟨i, hi, rfl, ho, hrk, hrn, hsz, hbel⟩ := hrel
    have Ho := Lib.hid ho
    have Hrk := Lib.hid hrk
    have Hrn := Lib.hid hrn
    clear hrk hrn ho hk1 hn1 hb1
    by_cases hin : i < l.length
    · have hin' : (i : Int) < (l.length : Int) := by omega
      go_wp2_with (first
        | (refine wpList_loadRow rfl 24 _ rfl rfl Hrk.out Try.underlying24 rfl (by kernel_rfl) Hkl.out ?_)
        | (refine wpList_loadRow rfl 25 _ rfl rfl Hrn.out Try.underlying25 rfl (by kernel_rfl) Hnl.out ?_)
        | fail)
      have hctr := ctr_add c l.length i hlong0 hin hl
      rw [hctr]
      refine (RBlock_any key nonce (c + BitVec.ofNat 32 (i / 64)) Hk.out Hn.out wr).mono ?_
      rintro e w3 ⟨rfl, hb3⟩
      clear hctr
      obtain ⟨u, hu⟩ : ∃ u, l[i]? = some u := ⟨_, List.getElem?_eq_getElem hin⟩
      have hX := xor_byte key nonce l c i u hu
      have hBl := Cha.block_length key (c + BitVec.ofNat 32 (i / 64)) nonce
      obtain ⟨B, hB⟩ : ∃ B, Cha.block key (c + BitVec.ofNat 32 (i / 64)) nonce = B := ⟨_, rfl⟩
      rw [hB] at hX hBl ⊢
      obtain ⟨y, hy⟩ : ∃ y, B.getD (i % 64) 0 = y := ⟨_, rfl⟩
      rw [hy] at hX
      have HX1 := Lib.hid hX
      have Hlb := Lib.hid (show (B.map bv).length = 64 by rw [List.length_map]; exact hBl)
      have HBl := Lib.hid hBl
      have Hy := Lib.hid hy
      clear hB hX hBl hy
      unfold arr8
      obtain ⟨gx, hgx⟩ : ∃ gx, w3.heap.size = gx := ⟨_, rfl⟩
      have hgx2 : wr.heap.size ≤ gx := by have := hb3.size; omega
      obtain ⟨b, off, rfl, hltb, hcellb⟩ := Hcs.out (by intro h; subst h; simp at hin)
      have Hcellb := Lib.hid hcellb
      clear hcellb
      have hW0 := Row.new (w := w3) (cs := (List.replicate 64 (0 : UInt8)).map bv) (t := 49) hgx rfl
      go_wp2_with (first
        | (refine wpList_storeRow rfl 49 _ _ rfl rfl rfl (old := (List.replicate 64 (0 : UInt8)).map bv) hW0 (by kernel_rfl) Hlb.out (by simp) (bytes_one B) ?_
           have hWx := hW0.setRow (B.map bv)
           have hWb : Below wr.heap.size wr ((w3.alloc (.cells ((List.replicate 64 (0 : UInt8)).map bv).toArray 49)).setRow gx (B.map bv).toArray) := below_setRow (hb3.alloc (by omega) _) (by omega) _
           obtain ⟨W, hW⟩ : ∃ W, (w3.alloc (.cells ((List.replicate 64 (0 : UInt8)).map bv).toArray 49)).setRow gx (B.map bv).toArray = W := ⟨_, rfl⟩
           rw [hW] at hWx hWb
           refine wpList_world hW ?_
           clear hW)
        | fail)
      have hWo := Own.below Ho.out hWb (Nat.le_refl _)
      have hWk := Hrk.out.below hWb (by omega)
      have hWn := Hrn.out.below hWb (by omega)
      have hWw : Below w.heap.size w W := nextB hbel (Nat.le_refl _) hWb
      have hWs : w.heap.size + 2 ≤ W.heap.size := by have := hWb.size; omega
      have hcb : ∀ w', Grew W.drew w' → w'.cell? ⟨b, off + i, none⟩ = some (bv u) := by
        intro w' hw'
        have h1 : W.cell? ⟨b, off + i, none⟩ = some (bv u) := (hWw.cell (p := ⟨b, off + i, none⟩) hltb).trans (Hcellb.out _ _ hu)
        exact (Below.cell (w := W.drew) hw' (p := ⟨b, off + i, none⟩) (show b < W.heap.size by omega)).trans h1
      have hcx : ∀ w', Grew W.drew w' → w'.cell? ⟨gx, i % 64, none⟩ = some (bv y) := by
        intro w' hw'
        have h1 := hWx.cell (getD_cell B (i % 64) (by rw [HBl.out]; omega))
        rw [Hy.out] at h1
        exact (Below.cell (w := W.drew) hw' (p := ⟨gx, i % 64, none⟩) hWx.lt).trans h1
      have Hcb := Lib.hid hcb
      have Hcx := Lib.hid hcx
      have HWo := Lib.hid hWo
      have HWk := Lib.hid hWk
      have HWn := Lib.hid hWn
      have hshape := hWo.shape
      clear hcb hcx hWx hWo hWk hWn hW0 hb3
      refine Tail.marksAt Cha.mixed 11 Grew [By.is u10,
        By.is (.slice (some ⟨b, off, none⟩) l.length cap),
        By.is (.int .i64 (i : Int)),
        By.is (.pointer (some ⟨b, off + i, none⟩)),
        By.is (bv u),
        By.is (.int .i64 (i : Int)),
        By.is (.int .i64 ((i % 64 : Nat) : Int)),
        By.is (.pointer (some ⟨gx, i % 64, none⟩)),
        By.is (bv y),
        By.is (bv (u ^^^ y)),
        ownM W.heap.size [u ^^^ y]]
        (Ev.masks _ []) (Nat.zero_lt_succ _) (by kernel_rfl) (by kernel_rfl) rfl Grew.refl Grew.trans ⟨?_, ?_, ?_, ?_, ?_, ?_, ?_, ?_, ?_, ?_, ?_, trivial⟩ ?_
      · intro a w ht hs hg -- 36
        have h10 := By.same_get hs 10 (by decide) (by kernel_rfl)
        refine By.yes rfl ?_
        clear hs hg
        go_simp
        exact ⟨_, rfl, Grew.refl _, rfl⟩
      · intro a w ht hs hg -- 37
        have h3 := By.same_get hs 3 (by decide) (by kernel_rfl)
        refine By.yes rfl ?_
        clear hs hg
        go_simp
        exact ⟨_, rfl, Grew.refl _, rfl⟩
      · intro a w ht hs hg -- 38
        have h11 := By.same_get hs 11 (by decide) (by kernel_rfl)
        refine By.yes rfl ?_
        clear hs hg
        go_simp
        exact ⟨_, rfl, Grew.refl _, rfl⟩
      · intro a w ht hs hg -- 39
        have h37 : a.tmps.getD 37 undef = _ := By.given_get hg 1 rfl rfl (by kernel_rfl)
        have h38 : a.tmps.getD 38 undef = _ := By.given_get hg 2 rfl rfl (by kernel_rfl)
        refine By.yes rfl ?_
        clear hs hg
        go_simp
        exact ⟨_, rfl, Grew.refl _, rfl⟩
      · intro a w ht hs hg -- 40
        have h39 : a.tmps.getD 39 undef = _ := By.given_get hg 3 rfl rfl (by kernel_rfl)
        refine By.yes rfl ?_
        clear hs hg
        have hcb := Hcb.out w ht
        unfold bv at hcb
        go_simp
        exact ⟨_, rfl, Grew.refl _, rfl⟩
      · intro a w ht hs hg -- 41
        have h11 := By.same_get hs 11 (by decide) (by kernel_rfl)
        refine By.yes rfl ?_
        clear hs hg
        go_simp
        exact ⟨_, rfl, Grew.refl _, rfl⟩
      · intro a w ht hs hg -- 42
        have h41 : a.tmps.getD 41 undef = _ := By.given_get hg 5 rfl rfl (by kernel_rfl)
        refine By.yes rfl ?_
        clear hs hg
        go_simp
        exact ⟨_, rfl, Grew.refl _, congrArg (Value.int .i64) (by first | omega | (rw [IntWalk.i64_in _ (by rw [Int.tmod_eq_emod_of_nonneg (by omega)]; omega), Int.tmod_eq_emod_of_nonneg (by omega)]; omega) | (rw [Int.tmod_eq_emod_of_nonneg (by omega)]; omega) | rw [Int.tmod_eq_emod_of_nonneg (by omega)])⟩
      · intro a w ht hs hg -- 43
        have h42 : a.tmps.getD 42 undef = _ := By.given_get hg 6 rfl rfl (by kernel_rfl)
        have h12 := By.same_get hs 12 (by decide) (by kernel_rfl)
        refine By.yes rfl ?_
        clear hs hg
        have hm0 : (0 : Int) ≤ (i : Int) % 64 := by omega
        have hm1 : (i : Int) % 64 < 64 := by omega
        have hmn : ((i : Int) % 64).toNat = i % 64 := by omega
        go_simp
        exact ⟨_, rfl, Grew.refl _, rfl⟩
      · intro a w ht hs hg -- 44
        have h43 : a.tmps.getD 43 undef = _ := By.given_get hg 7 rfl rfl (by kernel_rfl)
        refine By.yes rfl ?_
        clear hs hg
        have hcx := Hcx.out w ht
        unfold bv at hcx
        go_simp
        exact ⟨_, rfl, Grew.refl _, rfl⟩
      · intro a w ht hs hg -- 45
        have h40 : a.tmps.getD 40 undef = _ := By.given_get hg 4 rfl rfl (by kernel_rfl)
        have h44 : a.tmps.getD 44 undef = _ := By.given_get hg 8 rfl rfl (by kernel_rfl)
        refine By.yes rfl ?_
        clear hs hg
        unfold bv at h40 h44
        go_simp
        exact ⟨_, rfl, Grew.refl _, by rw [w8_xor]; rfl⟩
      · intro a w ht hs hg -- 46
        have h45 : a.tmps.getD 45 undef = _ := By.given_get hg 9 rfl rfl (by kernel_rfl)
        refine By.yes rfl ?_
        clear hs hg
        have hsz2 : W.heap.size ≤ w.heap.size := (show Below W.drew.heap.size W.drew w from ht).size
        refine wp_byte1 (.tmp 45) rfl h45 ?_
        exact ⟨_, rfl, (Below.refl _ w).alloc (Nat.le_refl _) _, Row.own (l := [u ^^^ y]) (Row.new rfl rfl) hsz2 (by simp)⟩
      refine By.ends_is (By.ends_is (By.ends_is (By.ends_is (By.ends_is (By.ends_is (By.ends_is (By.ends_is (By.ends_is (By.ends_is (By.ends_any fun v46 => (By.ends_nil fun w9 hw9 => ?_)))))))))))
      simp only [Act.put, List.setIfInBounds_toArray, List.set_cons_succ, List.set_cons_zero]
      simp only [List.drop_succ_cons, List.drop_zero]

      obtain ⟨hgr9, ho9⟩ := hw9
      have hgb : Below W.heap.size W w9 := ⟨hgr9.os, hgr9.tape, hgr9.output, hgr9.size, hgr9.block⟩
      have hown9 := Own.below HWo.out hgb (Nat.le_refl _)
      have hwk9 := HWk.out.below hgb HWk.out.lt
      have hwn9 := HWn.out.below hgb HWn.out.lt
      have hbel9 := nextB hWw (Nat.le_refl _) hgb
      have hs9 : w.heap.size + 2 ≤ w9.heap.size := by have := hgb.size; omega
      have hbs9 := ho9.bs
      have hXt : (Cha.xor key c nonce l).take i ++ [u ^^^ y] = (Cha.xor key c nonce l).take (i + 1) := by
        rw [List.take_add_one, HX1.out]
        rfl
      have hXl : ((Cha.xor key c nonce l).take i).length = i := by rw [List.length_take, HX.out]; omega
      have HXt := Lib.hid hXt
      have Hown9 := Lib.hid hown9
      have Hbs9 := Lib.hid hbs9
      have HXl := Lib.hid hXl
      clear hXt hown9 hbs9 hXl ho9 hgr9 hgb
      go_wp2_with (at_builtin; refine wpList_app_bytes _ rfl _ _ rfl rfl (l := (Cha.xor key c nonce l).take i) Hown9.out rfl Hbs9.out (by rw [HXl.out]; simp; omega) hs9 ?_; intro v2 w2 hown2 hg2 hblk2)
      have hge : ∀ k, u10.ownBlock = some k → w.heap.size + 2 ≤ k := fun k hk => (Hown9.out.block_ge hk).1
      have hb2 : Below (w.heap.size + 2) w9 w2 := (Below.refl _ w9).grown hg2 hs9 hge
      go_roundw
      case rel =>
        refine ⟨i + 1, hin, by simp, ?_, hwk9.below hb2 (by omega), hwn9.below hb2 (by omega), by have := hb2.size; omega, hbel9.trans (hb2.mono (by omega))⟩
        rw [← HXt.out]
        exact hown2
      case measure => simp [intOf]; omega
    · have hin' : ¬ (i : Int) < (l.length : Int) := by omega
      have : i = l.length := by omega
      subst this
      go_wp2
      go_ret2
      refine ⟨_, rfl, ?_, hbel⟩
      have := Own.less Ho.out (show w.heap.size ≤ w.heap.size + 2 by omega)
      rwa [List.take_of_length_le (by rw [HX.out]; exact Nat.le_refl _)] at this
end Go.Proofs.Ytpllbnioncjhaaa
