/- A block of the key stream. -/
import Derived.Test.YtpllbnioncjhaaaChaState
namespace Go.Proofs.Ytpllbnioncjhaaa
open Go.RowKit

theorem words_one (s : List (BitVec 32)) : ∀ v ∈ s.map wv, v.oneCell' = true := by
  intro v hv
  rw [List.mem_map] at hv
  obtain ⟨x, _, rfl⟩ := hv
  rfl
theorem bytes_one (s : List UInt8) : ∀ v ∈ s.map bv, v.oneCell' = true := by
  intro v hv
  rw [List.mem_map] at hv
  obtain ⟨x, _, rfl⟩ := hv
  rfl

theorem byte0 (x : BitVec 32) : Value.int .u8 ((x.toNat : Int) % 256) = .int .u8 (((x >>> (8 * 0)).toNat % 256 : Nat) : Int) := by
  have h : x >>> (8 * 0) = x := by simp
  rw [h]
  exact congrArg (Value.int .u8) (by omega)
theorem byte1 (x : BitVec 32) : Value.int .u8 ((x.toNat : Int) / 256 % 256) = .int .u8 (((x >>> (8 * 1)).toNat % 256 : Nat) : Int) := by
  rw [w_shr8, show 8 * 1 = 8 from rfl]
  exact congrArg (Value.int .u8) (by omega)
theorem byte2 (x : BitVec 32) : Value.int .u8 ((x.toNat : Int) / 65536 % 256) = .int .u8 (((x >>> (8 * 2)).toNat % 256 : Nat) : Int) := by
  rw [w_shr16, show 8 * 2 = 16 from rfl]
  exact congrArg (Value.int .u8) (by omega)
theorem byte3 (x : BitVec 32) : Value.int .u8 ((x.toNat : Int) / 16777216) = .int .u8 (((x >>> (8 * 3)).toNat % 256 : Nat) : Int) := by
  rw [show 8 * 3 = 24 from rfl, BitVec.toNat_ushiftRight, Nat.shiftRight_eq_div_pow]
  have := x.isLt
  exact congrArg (Value.int .u8) (by omega)

set_option maxRecDepth 8000 in
set_option maxHeartbeats 2000000 in
theorem Block_any (key nonce : List UInt8) (c : BitVec 32) (hk : key.length = 32) (hn : nonce.length = 12) (w : World) : Calls Try.prog 28 #[arr8 key, wv c, arr8 nonce] w fun e w' => e = .returned (arr8 (Cha.block key c nonce)) ∧ Below w.heap.size w w' := by
  have Hkl := Lib.hid (show (key.map bv).length = 32 by simpa using hk)
  have Hnl := Lib.hid (show (nonce.map bv).length = 12 by simpa using hn)
  have Hk := Lib.hid hk
  have Hn := Lib.hid hn
  clear hk hn
  unfold arr8
  go_enter Try.func28, Try.ntmps28
  go_wp2_with (first
    | (refine wpList_loadRow rfl 24 _ rfl rfl (((Row.new rfl rfl).alloc _).alloc _) Try.underlying24 rfl (by kernel_rfl) Hkl.out ?_)
    | (refine wpList_loadRow rfl 25 _ rfl rfl ((Row.new (by simp) rfl).alloc _) Try.underlying25 rfl (by kernel_rfl) Hnl.out ?_)
    | fail)
  have hz : Row ((((w.alloc (.cells (key.map bv).toArray 24)).alloc (.cells (nonce.map bv).toArray 25)).alloc (.cells ((List.replicate 64 (0 : UInt8)).map bv).toArray 49))) (w.heap.size + 1 + 1) ((List.replicate 64 (0 : UInt8)).map bv) 49 := Row.new (by simp) rfl
  have hb1 : Below w.heap.size w (((w.alloc (.cells (key.map bv).toArray 24)).alloc (.cells (nonce.map bv).toArray 25)).alloc (.cells ((List.replicate 64 (0 : UInt8)).map bv).toArray 49)) :=
    (((Below.refl _ w).alloc (Nat.le_refl _) _).alloc (by simp) _).alloc (by simp; omega) _
  have Hz := Lib.hid hz
  have Hb1 := Lib.hid hb1
  clear hz hb1
  refine (State_any key nonce c Hk.out Hn.out _).mono ?_
  rintro e w2 ⟨rfl, hb2⟩
  have hz2 : Row w2 (w.heap.size + 1 + 1) ((List.replicate 64 (0 : UInt8)).map bv) 49 := Hz.out.below hb2 (by simp)
  have hb02 : Below w.heap.size w w2 := nextB Hb1.out (Nat.le_refl _) hb2
  have hsz2 : w.heap.size + 3 ≤ w2.heap.size := by have := hb2.size; simp at this; omega
  have Hz2 := Lib.hid hz2
  clear hz2 hb2 Hz Hb1
  have hlen := Cha.state_length key c nonce
  obtain ⟨s, hs⟩ : ∃ s, Cha.state key c nonce = s := ⟨_, rfl⟩
  rw [hs] at hlen ⊢
  have Hs := Lib.hid hs
  have Hlen := Lib.hid (show (s.map wv).length = 16 by simpa using hlen)
  clear hs
  have Hsl := Lib.hid hlen
  clear hlen
  unfold arr32
  go_wp2_with (first
    | (refine wpList_storeRow rfl 23 _ _ rfl rfl rfl (old := (List.replicate 16 0#32).map wv) (Row.new rfl rfl) (by kernel_rfl) Hlen.out (by simp) (words_one s) ?_)
    | (refine wpList_loadRow rfl 23 _ rfl rfl (cs := s.map wv) ((Row.new rfl rfl).setRow (s.map wv)) Try.underlying23 rfl (by kernel_rfl) Hlen.out ?_)
    | (refine wpList_storeRow rfl 23 _ _ rfl rfl rfl (old := (List.replicate 16 0#32).map wv) (Row.new (by simp) rfl) (by kernel_rfl) Hlen.out (by simp) (words_one s) ?_))
  go_loopw [18] (fun iv wr => ∃ i : Nat, i ≤ 10 ∧ iv = .int .i64 (i : Int) ∧ Row wr (w.heap.size + 1 + 1) ((List.replicate 64 (0 : UInt8)).map bv) 49 ∧ Row wr w2.heap.size (s.map wv) 23 ∧ Row wr (w2.heap.size + 1) ((Cha.rounds i s).map wv) 23 ∧ w2.heap.size + 2 ≤ wr.heap.size ∧ Below w.heap.size w wr) (fun iv _ => 10 - (intOf iv).toNat)
  case atStart =>
    refine ⟨0, by omega, rfl, ?_, ?_, ?_, by simp, ?_⟩
    · exact (((Hz2.out.alloc _).setOther _ _ (by omega)).alloc _).setOther _ _ (by omega)
    · exact ((((Row.new rfl rfl).setRow (s.map wv)).alloc _).setOther _ _ (by omega))
    · exact (Row.new (cs := (List.replicate 16 0#32).map wv) (by simp) rfl).setRow (s.map wv)
    · exact below_setRow ((below_setRow (hb02.alloc (by omega) _) (by omega) _).alloc (by simp; omega) _) (by omega) _
  case round =>
    obtain ⟨i, hi, rfl, hr6, hr7, hr8, hsz, hbel⟩ := hrel
    have Hr6 := Lib.hid hr6
    have Hr7 := Lib.hid hr7
    have Hr8 := Lib.hid hr8
    have hl8 : (Cha.rounds i s).length = 16 := by rw [Cha.rounds_length, Hsl.out]
    have Hl8 := Lib.hid hl8
    have Hm8 := Lib.hid (show ((Cha.rounds i s).map wv).length = 16 by simpa using hl8)
    clear hr6 hr7 hr8 hl8
    by_cases h8 : i < 10
    · have h8' : (i : Int) < 10 := by omega
      go_wp2_with (first
        | (refine wpList_loadRow rfl 23 _ rfl rfl Hr8.out Try.underlying23 rfl (by kernel_rfl) Hm8.out ?_)
        | fail)
      refine (Round_any (Cha.rounds i s) Hl8.out wr).mono ?_
      rintro e w3 ⟨rfl, hb3⟩
      have Hrow := Lib.hid (Hr8.out.below hb3 (by omega))
      have Hr6 := Lib.hid (Hr6.out.below hb3 (by omega))
      have Hr7 := Lib.hid (Hr7.out.below hb3 (by omega))
      have Hm9 := Lib.hid (show ((Cha.round (Cha.rounds i s)).map wv).length = 16 by rw [List.length_map, Cha.round_length]; exact Hl8.out)
      have hbel := nextB hbel (Nat.le_refl _) hb3
      have hsz3 := hb3.size
      unfold arr32
      go_wp2_with (first
        | (refine wpList_storeRow rfl 23 _ _ rfl rfl rfl Hrow.out (by kernel_rfl) Hm9.out Hm8.out (words_one _) ?_)
        | fail)
      go_roundw
      case rel => exact ⟨i + 1, h8, by simp, Hr6.out.setOther _ _ (by omega), Hr7.out.setOther _ _ (by omega), Hrow.out.setRow _, by rw [size_setRow]; omega, below_setRow hbel (by omega) _⟩
      case measure => simp [intOf]; omega
    · have h8' : ¬ (i : Int) < 10 := by omega
      have : i = 10 := by omega
      subst this
      obtain ⟨r, hr⟩ : ∃ r, Cha.rounds 10 s = r := ⟨_, rfl⟩
      rw [hr] at Hr8 Hl8 Hm8
      have Hr := Lib.hid hr
      clear hr
      obtain ⟨B, hB⟩ : ∃ B, Cha.block key c nonce = B := ⟨_, rfl⟩
      have hB2 : (Cha.sums r s).flatMap Cha.bytesOf = B := by rw [← hB, Cha.block, Hs.out, Hr.out]
      have HB2 := Lib.hid hB2
      have HBl := Lib.hid (show B.length = 64 by rw [← hB]; exact Cha.block_length _ _ _)
      have HB := Lib.hid hB
      clear hB hB2
      go_wp2_with (first
        | (refine wpList_loadRow rfl 23 _ rfl rfl (Hr8.out.alloc _) Try.underlying23 rfl (by kernel_rfl) Hm8.out ?_)
        | fail)
      obtain ⟨gb, hgb⟩ : ∃ gb, wr.heap.size = gb := ⟨_, rfl⟩
      rw [hgb]
      go_loopw [24] (fun iv wq => ∃ i : Nat, i ≤ 16 ∧ iv = .int .i64 (i : Int) ∧ Row wq (w.heap.size + 1 + 1) ((List.replicate 64 (0 : UInt8)).map bv) 49 ∧ Row wq w2.heap.size (s.map wv) 23 ∧ Row wq gb ((Cha.fill B (4 * i)).map bv) 49 ∧ Below w.heap.size w wq) (fun iv _ => 16 - (intOf iv).toNat)
      case atStart => exact ⟨0, by omega, rfl, Hr6.out.alloc _, Hr7.out.alloc _, Row.new hgb rfl, hbel.alloc (by omega) _⟩
      case round =>
        obtain ⟨i, hi, rfl, hr6, hr7, hr9, hbel⟩ := hrel
        have Hr6 := Lib.hid hr6
        have Hr7 := Lib.hid hr7
        have Hr9 := Lib.hid hr9
        clear hr6 hr7 hr9
        by_cases h16 : i < 16
        · have h16' : (i : Int) < 16 := by omega
          have hix := run_index_one wr Try.underlying23 Try.underlying22 rfl (by kernel_rfl) h16 (getD_word r i (by rw [Hl8.out]; omega))
          have hcell := Hr7.out.cell (getD_word s i (by rw [Hsl.out]; omega))
          go_wp2
          rw [w_add]
          obtain ⟨x, hx⟩ : ∃ x, Cha.at_ r i + Cha.at_ s i = x := ⟨_, rfl⟩
          rw [hx]
          have hat : ∀ j, j < 4 → B[4 * i + j]? = some (Cha.byteOf x j) := by
            intro j hj
            rw [← HB2.out, Cha.flat_at _ i j hj, Cha.sums_at r s i (by rw [Hl8.out]; exact h16) (by rw [Hsl.out]; exact h16), hx]
            rfl
          have Hat := Lib.hid hat
          clear hat hx hix hcell
          go_loopw [33] (fun jv wq => ∃ j : Nat, j ≤ 4 ∧ jv = .int .i64 (j : Int) ∧ Row wq (w.heap.size + 1 + 1) ((List.replicate 64 (0 : UInt8)).map bv) 49 ∧ Row wq w2.heap.size (s.map wv) 23 ∧ Row wq gb ((Cha.fill B (4 * i + j)).map bv) 49 ∧ Below w.heap.size w wq) (fun jv _ => 4 - (intOf jv).toNat)
          case atStart => exact ⟨0, by omega, rfl, Hr6.out, Hr7.out, Hr9.out, hbel⟩
          case round =>
            obtain ⟨j, hj, rfl, hr6, hr7, hr9, hbel⟩ := hrel
            have Hr6 := Lib.hid hr6
            have Hr7 := Lib.hid hr7
            have Hr9 := Lib.hid hr9
            clear hr6 hr7 hr9
            by_cases h4 : j < 4
            · have h4' : (j : Int) < 4 := by omega
              have hfl := Cha.fill_length B (4 * i + j) HBl.out (by omega)
              have Hcell := Lib.hid (show ∃ v, wr.cell? ⟨gb, 4 * i + j, none⟩ = some v from ⟨_, Hr9.out.cell (getD_cell _ (4 * i + j) (by rw [hfl]; omega))⟩)
              have Hfr := Lib.hid (frozen_row Hr9.out (4 * i + j))
              have hset := Hr9.out.set (4 * i + j) (bv (Cha.byteOf x j))
              rw [← List.map_set, Cha.fill_set B (4 * i + j) _ HBl.out (by omega) (Hat.out j h4), Cha.byteOf_is] at hset
              have Hset := Lib.hid hset
              clear hset hfl
              obtain rfl | rfl | rfl | rfl : j = 0 ∨ j = 1 ∨ j = 2 ∨ j = 3 := by omega
              · obtain ⟨v, hcell⟩ := Hcell.out
                have hfr := Hfr.out
                simp only [Nat.add_zero] at hcell hfr
                have hset := Hset.out
                simp only [Nat.add_zero] at hset
                have Hset := Lib.hid hset
                clear hset
                go_wp2
                rw [byte0]
                go_roundw
                case rel => exact ⟨1, by omega, rfl, Hr6.out.other _ _ (by dsimp only; omega), Hr7.out.other _ _ (by dsimp only; omega), Hset.out, hbel.setCell (by dsimp only; omega) _⟩
                case measure => simp [intOf]
              · obtain ⟨v, hcell⟩ := Hcell.out
                have hfr := Hfr.out
                have hset := Hset.out
                have Hset := Lib.hid hset
                clear hset
                go_wp2
                rw [byte1]
                go_roundw
                case rel => exact ⟨2, by omega, rfl, Hr6.out.other _ _ (by dsimp only; omega), Hr7.out.other _ _ (by dsimp only; omega), Hset.out, hbel.setCell (by dsimp only; omega) _⟩
                case measure => simp [intOf]
              · obtain ⟨v, hcell⟩ := Hcell.out
                have hfr := Hfr.out
                have hset := Hset.out
                have Hset := Lib.hid hset
                clear hset
                go_wp2
                rw [byte2]
                go_roundw
                case rel => exact ⟨3, by omega, rfl, Hr6.out.other _ _ (by dsimp only; omega), Hr7.out.other _ _ (by dsimp only; omega), Hset.out, hbel.setCell (by dsimp only; omega) _⟩
                case measure => simp [intOf]
              · obtain ⟨v, hcell⟩ := Hcell.out
                have hfr := Hfr.out
                have hset := Hset.out
                have Hset := Lib.hid hset
                clear hset
                go_wp2
                rw [byte3]
                go_roundw
                case rel => exact ⟨4, by omega, rfl, Hr6.out.other _ _ (by dsimp only; omega), Hr7.out.other _ _ (by dsimp only; omega), Hset.out, hbel.setCell (by dsimp only; omega) _⟩
                case measure => simp [intOf]
            · have h4' : ¬ (j : Int) < 4 := by omega
              have : j = 4 := by omega
              subst this
              go_wp2
              go_roundw
              case rel => exact ⟨i + 1, h16, by simp, Hr6.out, Hr7.out, Hr9.out, hbel⟩
              case measure => simp [intOf]; omega
        · have h16' : ¬ (i : Int) < 16 := by omega
          have : i = 16 := by omega
          subst this
          have hm9 := Hr9.out.same (cs' := B.map bv) (by rw [Cha.fill_all B HBl.out])
          have Hm9 := Lib.hid hm9
          have Hlb := Lib.hid (show (B.map bv).length = 64 by rw [List.length_map]; exact HBl.out)
          clear hm9
          go_wp2_with (first
            | (refine wpList_loadRow rfl 49 _ rfl rfl Hm9.out Try.underlying49 rfl (by kernel_rfl) Hlb.out ?_)
            | (refine wpList_storeRow rfl 49 _ _ rfl rfl rfl Hr6.out (by kernel_rfl) Hlb.out (by simp) (bytes_one B) ?_))
          refine bodyPost_ret (results_row rfl _ rfl (Hr6.out.setRow (B.map bv)) Try.underlying49 rfl (by kernel_rfl) Hlb.out) rfl ?_
          exact ⟨by rw [HB.out], below_setRow hbel (by omega) _⟩
end Go.Proofs.Ytpllbnioncjhaaa
