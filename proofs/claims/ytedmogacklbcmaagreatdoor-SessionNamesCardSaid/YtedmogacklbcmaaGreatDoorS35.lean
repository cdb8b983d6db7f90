/- Texts that the proofs share: ChaState, ChaBlock, ChaXor. -/
import Derived.Test.YtedmogacklbcmaaGreatDoorS19
import Derived.Test.YtedmogacklbcmaaGreatDoorS26
import Derived.Test.YtedmogacklbcmaaGreatDoorS30
import Derived.ArgAppend
namespace Go.Proofs.YtedmogacklbcmaaGreatDoor
open Go.RowKit
theorem getD_cell (l : List UInt8) (k : Nat) (h : k < l.length) : (l.map bv)[k]? = some (bv (l.getD k 0)) := by
 rw [List.getElem?_map, List.getElem?_eq_getElem h, List.getD_eq_getElem?_getD, List.getElem?_eq_getElem h]
 rfl
theorem Row.word {w : World} {g : Nat} {l : List UInt8} {t : TypeId} (h : Row w g (l.map bv) t) (i n c : Nat) (hi : i + 4 ≤ l.length) (hn : 4 ≤ n) :
 Calls Tryz.prog 100 #[.slice (some ⟨g, i, none⟩) n c] w fun e w' => e = .returned (wv (Cha.word l i)) ∧ ∃ m, w' = w.drewN m :=
 word_any g i n c _ _ _ _ w (h.cell (getD_cell l i (by omega))) (h.cell (getD_cell l (i + 1) (by omega))) (h.cell (getD_cell l (i + 2) (by omega))) (h.cell (getD_cell l (i + 3) (by omega))) hn
theorem getD_word (s : List (BitVec 32)) (k : Nat) (h : k < s.length) : (s.map wv)[k]? = some (wv (Cha.at_ s k)) := by
 rw [List.getElem?_map, List.getElem?_eq_getElem h, Cha.at_, List.getD_eq_getElem?_getD, List.getElem?_eq_getElem h]
 rfl
set_option maxRecDepth 8000 in
set_option maxHeartbeats 4000000 in
theorem State_any (key nonce : List UInt8) (c : BitVec 32) (hk : key.length = 32) (hn : nonce.length = 12) (w : World) : Calls Tryz.prog 80 #[arr8 key, wv c, arr8 nonce] w fun e w' => e = .returned (arr32 (Cha.state key c nonce)) ∧ Below w.heap.size w w' := by
 unfold arr8
 go_enter Tryz.func80, Tryz.ntmps80
 go_wp2
 go_loopw [12] (fun iv wr => ∃ i : Nat, i ≤ 8 ∧ iv = .int .i64 (i : Int) ∧ Row wr w.heap.size (key.map bv) 23 ∧ Row wr (w.heap.size + 1) (nonce.map bv) 118 ∧ Row wr (w.heap.size + 1 + 1) ((List.replicate 16 0#32).map wv) 147 ∧ Row wr (w.heap.size + 1 + 1 + 1) ((Cha.stKey key (Cha.state0 c) i).map wv) 147 ∧ wr.heap.size = w.heap.size + 4 ∧ Below w.heap.size w wr) (fun iv _ => 8 - (intOf iv).toNat)
 case atStart =>
  refine ⟨0, by omega, rfl, (((Row.new rfl rfl).alloc _).alloc _).alloc _, ((Row.new (by simp) rfl).alloc _).alloc _, (Row.new (by simp) (by rfl)).alloc _, Row.new (by simp) (by rfl), by simp, ?_⟩
  exact ((((Below.refl _ w).alloc (Nat.le_refl _) _).alloc (by simp) _).alloc (by simp; omega) _).alloc (by simp; omega) _
 case round =>
  obtain ⟨i, hi, rfl, hr1, hr2, hr3, hr4, hsz, hbel⟩ := hrel
  have Hr1 := Lib.hid hr1
  have Hr2 := Lib.hid hr2
  have Hr3 := Lib.hid hr3
  have Hr4 := Lib.hid hr4
  clear hr1 hr2 hr3 hr4
  by_cases h8 : i < 8
  · have h8' : (i : Int) < 8 := by omega
    have hlo : (0 : Int) ≤ 4 * (i : Int) := by omega
    have hle : 4 * (i : Int) ≤ 32 := by omega
    go_wp2_with fail
    refine (Hr1.out.word (4 * i) _ _ (by omega) (by omega)).mono ?_
    rintro e w' ⟨rfl, m, rfl⟩
    have hcell := (Hr4.out.drewN m).cell (getD_word _ (4 + i) (by rw [Cha.stKey_length]; simp [Cha.state0]; omega))
    have hfr := frozen_row (Hr4.out.drewN m) (4 + i)
    go_wp2
    go_roundw
    case rel =>
     refine ⟨i + 1, h8, by simp, (Hr1.out.drewN m).other _ _ (by dsimp only; omega), (Hr2.out.drewN m).other _ _ (by dsimp only; omega), (Hr3.out.drewN m).other _ _ (by dsimp only; omega), ?_, by simpa using hsz, ?_⟩
     · have := (Hr4.out.drewN m).set (4 + i) (wv (Cha.word key (4 * i)))
       rw [← List.map_set] at this
       exact this
     · exact (below_drewN hbel m).setCell (by dsimp only; omega) _
    case measure => simp [intOf]; omega
  · have h8' : ¬ (i : Int) < 8 := by omega
    have : i = 8 := by omega
    subst this
    go_wp2
    go_loopw [23] (fun iv wr => ∃ i : Nat, i ≤ 3 ∧ iv = .int .i64 (i : Int) ∧ Row wr (w.heap.size + 1) (nonce.map bv) 118 ∧ Row wr (w.heap.size + 1 + 1) ((List.replicate 16 0#32).map wv) 147 ∧ Row wr (w.heap.size + 1 + 1 + 1) ((Cha.stNonce nonce (Cha.stKey key (Cha.state0 c) 8) i).map wv) 147 ∧ wr.heap.size = w.heap.size + 4 ∧ Below w.heap.size w wr) (fun iv _ => 3 - (intOf iv).toNat)
    case atStart => exact ⟨0, by omega, rfl, Hr2.out, Hr3.out, Hr4.out, hsz, hbel⟩
    case round =>
     obtain ⟨i, hi, rfl, hr2, hr3, hr4, hsz, hbel⟩ := hrel
     have Hr2 := Lib.hid hr2
     have Hr3 := Lib.hid hr3
     have Hr4 := Lib.hid hr4
     clear hr2 hr3 hr4
     by_cases h3 : i < 3
     · have h3' : (i : Int) < 3 := by omega
       have hlo : (0 : Int) ≤ 4 * (i : Int) := by omega
       have hle : 4 * (i : Int) ≤ 12 := by omega
       go_wp2_with fail
       refine (Hr2.out.word (4 * i) _ _ (by omega) (by omega)).mono ?_
       rintro e w' ⟨rfl, m, rfl⟩
       have hcell := (Hr4.out.drewN m).cell (getD_word _ (13 + i) (by rw [Cha.stNonce_length, Cha.stKey_length]; simp [Cha.state0]; omega))
       have hfr := frozen_row (Hr4.out.drewN m) (13 + i)
       go_wp2
       go_roundw
       case rel =>
        refine ⟨i + 1, h3, by simp, (Hr2.out.drewN m).other _ _ (by dsimp only; omega), (Hr3.out.drewN m).other _ _ (by dsimp only; omega), ?_, by simpa using hsz, ?_⟩
        · have := (Hr4.out.drewN m).set (13 + i) (wv (Cha.word nonce (4 * i)))
          rw [← List.map_set] at this
          exact this
        · exact (below_drewN hbel m).setCell (by dsimp only; omega) _
       case measure => simp [intOf]; omega
     · have h3' : ¬ (i : Int) < 3 := by omega
       have : i = 3 := by omega
       subst this
       have hlen := Cha.state_length key c nonce
       obtain ⟨s, hs⟩ : ∃ s, Cha.state key c nonce = s := ⟨_, rfl⟩
       have hs2 : Cha.stNonce nonce (Cha.stKey key (Cha.state0 c) 8) 3 = s := hs
       have Hs := Lib.hid hs
       rw [hs2] at Hr4
       rw [hs] at hlen
       clear hs hs2
       have hone : ∀ v ∈ s.map wv, v.oneCell' = true := by
        intro v hv
        rw [List.mem_map] at hv
        obtain ⟨x, _, rfl⟩ := hv
        rfl
       have Hlen := Lib.hid (show (s.map wv).length = 16 by simpa using hlen)
       have Hone := Lib.hid hone
       clear hlen hone
       go_wp2_with (first
        | (refine wpList_loadRow rfl 147 _ rfl rfl Hr4.out Tryz.underlying147 rfl (by kernel_rfl) Hlen.out ?_)
        | (refine wpList_storeRow rfl 147 _ _ rfl rfl rfl Hr3.out (by kernel_rfl) Hlen.out (by simp) Hone.out ?_))
       refine bodyPost_ret (results_row rfl _ rfl (Hr3.out.setRow (s.map wv)) Tryz.underlying147 rfl (by kernel_rfl) Hlen.out) rfl ?_
       exact ⟨by rw [Hs.out]; rfl, below_setRow hbel (by omega) _⟩
end Go.Proofs.YtedmogacklbcmaaGreatDoor
namespace Go.Proofs.YtedmogacklbcmaaGreatDoor
open Go.RowKit
theorem words_one (s : List (BitVec 32)) : ∀ v ∈ s.map wv, v.oneCell' = true := by
 intro v hv
 rw [List.mem_map] at hv
 obtain ⟨x, _, rfl⟩ := hv
 rfl
theorem bytes_one (s : List UInt8) : ∀ v ∈ s.map bv, v.oneCell' = true := by
 intro v hv
 rw [List.mem_map] at hv
 obtain ⟨x, _, rfl⟩ := hv
 rfl
theorem byte0 (x : BitVec 32) : Value.int .u8 ((x.toNat : Int) % 256) = .int .u8 (((x >>> (8 * 0)).toNat % 256 : Nat) : Int) := by
 have h : x >>> (8 * 0) = x := by simp
 rw [h]
 exact congrArg (Value.int .u8) (by omega)
theorem byte1 (x : BitVec 32) : Value.int .u8 ((x.toNat : Int) / 256 % 256) = .int .u8 (((x >>> (8 * 1)).toNat % 256 : Nat) : Int) := by
 rw [w_shr8, show 8 * 1 = 8 from rfl]
 exact congrArg (Value.int .u8) (by omega)
theorem byte2 (x : BitVec 32) : Value.int .u8 ((x.toNat : Int) / 65536 % 256) = .int .u8 (((x >>> (8 * 2)).toNat % 256 : Nat) : Int) := by
 rw [w_shr16, show 8 * 2 = 16 from rfl]
 exact congrArg (Value.int .u8) (by omega)
theorem byte3 (x : BitVec 32) : Value.int .u8 ((x.toNat : Int) / 16777216) = .int .u8 (((x >>> (8 * 3)).toNat % 256 : Nat) : Int) := by
 rw [show 8 * 3 = 24 from rfl, BitVec.toNat_ushiftRight, Nat.shiftRight_eq_div_pow]
 have := x.isLt
 exact congrArg (Value.int .u8) (by omega)
set_option maxRecDepth 8000 in
set_option maxHeartbeats 2000000 in
theorem Block_any (key nonce : List UInt8) (c : BitVec 32) (hk : key.length = 32) (hn : nonce.length = 12) (w : World) : Calls Tryz.prog 68 #[arr8 key, wv c, arr8 nonce] w fun e w' => e = .returned (arr8 (Cha.block key c nonce)) ∧ Below w.heap.size w w' := by
 have Hkl := Lib.hid (show (key.map bv).length = 32 by simpa using hk)
 have Hnl := Lib.hid (show (nonce.map bv).length = 12 by simpa using hn)
 have Hk := Lib.hid hk
 have Hn := Lib.hid hn
 clear hk hn
 unfold arr8
 go_enter Tryz.func68, Tryz.ntmps68
 go_wp2_with (first
  | (refine wpList_loadRow rfl 23 _ rfl rfl (((Row.new rfl rfl).alloc _).alloc _) Tryz.underlying23 rfl (by kernel_rfl) Hkl.out ?_)
  | (refine wpList_loadRow rfl 118 _ rfl rfl ((Row.new (by simp) rfl).alloc _) Tryz.underlying118 rfl (by kernel_rfl) Hnl.out ?_)
  | fail)
 have hz : Row ((((w.alloc (.cells (key.map bv).toArray 23)).alloc (.cells (nonce.map bv).toArray 118)).alloc (.cells ((List.replicate 64 (0 : UInt8)).map bv).toArray 130))) (w.heap.size + 1 + 1) ((List.replicate 64 (0 : UInt8)).map bv) 130 := Row.new (by simp) rfl
 have hb1 : Below w.heap.size w (((w.alloc (.cells (key.map bv).toArray 23)).alloc (.cells (nonce.map bv).toArray 118)).alloc (.cells ((List.replicate 64 (0 : UInt8)).map bv).toArray 130)) :=
  (((Below.refl _ w).alloc (Nat.le_refl _) _).alloc (by simp) _).alloc (by simp; omega) _
 have Hz := Lib.hid hz
 have Hb1 := Lib.hid hb1
 clear hz hb1
 refine (State_any key nonce c Hk.out Hn.out _).mono ?_
 rintro e w2 ⟨rfl, hb2⟩
 have hz2 : Row w2 (w.heap.size + 1 + 1) ((List.replicate 64 (0 : UInt8)).map bv) 130 := Hz.out.below hb2 (by simp)
 have hb02 : Below w.heap.size w w2 := nextB Hb1.out (Nat.le_refl _) hb2
 have hsz2 : w.heap.size + 3 ≤ w2.heap.size := by have := hb2.size; simp at this; omega
 have Hz2 := Lib.hid hz2
 clear hz2 hb2 Hz Hb1
 have hlen := Cha.state_length key c nonce
 obtain ⟨s, hs⟩ : ∃ s, Cha.state key c nonce = s := ⟨_, rfl⟩
 rw [hs] at hlen ⊢
 have Hs := Lib.hid hs
 have Hlen := Lib.hid (show (s.map wv).length = 16 by simpa using hlen)
 clear hs
 have Hsl := Lib.hid hlen
 clear hlen
 unfold arr32
 go_wp2_with (first
  | (refine wpList_storeRow rfl 147 _ _ rfl rfl rfl (old := (List.replicate 16 0#32).map wv) (Row.new rfl rfl) (by kernel_rfl) Hlen.out (by simp) (words_one s) ?_)
  | (refine wpList_loadRow rfl 147 _ rfl rfl (cs := s.map wv) ((Row.new rfl rfl).setRow (s.map wv)) Tryz.underlying147 rfl (by kernel_rfl) Hlen.out ?_)
  | (refine wpList_storeRow rfl 147 _ _ rfl rfl rfl (old := (List.replicate 16 0#32).map wv) (Row.new (by simp) rfl) (by kernel_rfl) Hlen.out (by simp) (words_one s) ?_))
 go_loopw [18] (fun iv wr => ∃ i : Nat, i ≤ 10 ∧ iv = .int .i64 (i : Int) ∧ Row wr (w.heap.size + 1 + 1) ((List.replicate 64 (0 : UInt8)).map bv) 130 ∧ Row wr w2.heap.size (s.map wv) 147 ∧ Row wr (w2.heap.size + 1) ((Cha.rounds i s).map wv) 147 ∧ w2.heap.size + 2 ≤ wr.heap.size ∧ Below w.heap.size w wr) (fun iv _ => 10 - (intOf iv).toNat)
 case atStart =>
  refine ⟨0, by omega, rfl, ?_, ?_, ?_, by simp, ?_⟩
  · exact (((Hz2.out.alloc _).setOther _ _ (by omega)).alloc _).setOther _ _ (by omega)
  · exact ((((Row.new rfl rfl).setRow (s.map wv)).alloc _).setOther _ _ (by omega))
  · exact (Row.new (cs := (List.replicate 16 0#32).map wv) (by simp) rfl).setRow (s.map wv)
  · exact below_setRow ((below_setRow (hb02.alloc (by omega) _) (by omega) _).alloc (by simp; omega) _) (by omega) _
 case round =>
  obtain ⟨i, hi, rfl, hr6, hr7, hr8, hsz, hbel⟩ := hrel
  have Hr6 := Lib.hid hr6
  have Hr7 := Lib.hid hr7
  have Hr8 := Lib.hid hr8
  have hl8 : (Cha.rounds i s).length = 16 := by rw [Cha.rounds_length, Hsl.out]
  have Hl8 := Lib.hid hl8
  have Hm8 := Lib.hid (show ((Cha.rounds i s).map wv).length = 16 by simpa using hl8)
  clear hr6 hr7 hr8 hl8
  by_cases h8 : i < 10
  · have h8' : (i : Int) < 10 := by omega
    go_wp2_with (first
     | (refine wpList_loadRow rfl 147 _ rfl rfl Hr8.out Tryz.underlying147 rfl (by kernel_rfl) Hm8.out ?_)
     | fail)
    refine (Round_any (Cha.rounds i s) Hl8.out wr).mono ?_
    rintro e w3 ⟨rfl, hb3⟩
    have Hrow := Lib.hid (Hr8.out.below hb3 (by omega))
    have Hr6 := Lib.hid (Hr6.out.below hb3 (by omega))
    have Hr7 := Lib.hid (Hr7.out.below hb3 (by omega))
    have Hm9 := Lib.hid (show ((Cha.round (Cha.rounds i s)).map wv).length = 16 by rw [List.length_map, Cha.round_length]; exact Hl8.out)
    have hbel := nextB hbel (Nat.le_refl _) hb3
    have hsz3 := hb3.size
    unfold arr32
    go_wp2_with (first
     | (refine wpList_storeRow rfl 147 _ _ rfl rfl rfl Hrow.out (by kernel_rfl) Hm9.out Hm8.out (words_one _) ?_)
     | fail)
    go_roundw
    case rel => exact ⟨i + 1, h8, by simp, Hr6.out.setOther _ _ (by omega), Hr7.out.setOther _ _ (by omega), Hrow.out.setRow _, by rw [size_setRow]; omega, below_setRow hbel (by omega) _⟩
    case measure => simp [intOf]; omega
  · have h8' : ¬ (i : Int) < 10 := by omega
    have : i = 10 := by omega
    subst this
    obtain ⟨r, hr⟩ : ∃ r, Cha.rounds 10 s = r := ⟨_, rfl⟩
    rw [hr] at Hr8 Hl8 Hm8
    have Hr := Lib.hid hr
    clear hr
    obtain ⟨B, hB⟩ : ∃ B, Cha.block key c nonce = B := ⟨_, rfl⟩
    have hB2 : (Cha.sums r s).flatMap Cha.bytesOf = B := by rw [← hB, Cha.block, Hs.out, Hr.out]
    have HB2 := Lib.hid hB2
    have HBl := Lib.hid (show B.length = 64 by rw [← hB]; exact Cha.block_length _ _ _)
    have HB := Lib.hid hB
    clear hB hB2
    go_wp2_with (first
     | (refine wpList_loadRow rfl 147 _ rfl rfl (Hr8.out.alloc _) Tryz.underlying147 rfl (by kernel_rfl) Hm8.out ?_)
     | fail)
    obtain ⟨gb, hgb⟩ : ∃ gb, wr.heap.size = gb := ⟨_, rfl⟩
    rw [hgb]
    go_loopw [24] (fun iv wq => ∃ i : Nat, i ≤ 16 ∧ iv = .int .i64 (i : Int) ∧ Row wq (w.heap.size + 1 + 1) ((List.replicate 64 (0 : UInt8)).map bv) 130 ∧ Row wq w2.heap.size (s.map wv) 147 ∧ Row wq gb ((Cha.fill B (4 * i)).map bv) 130 ∧ Below w.heap.size w wq) (fun iv _ => 16 - (intOf iv).toNat)
    case atStart => exact ⟨0, by omega, rfl, Hr6.out.alloc _, Hr7.out.alloc _, Row.new hgb rfl, hbel.alloc (by omega) _⟩
    case round =>
     obtain ⟨i, hi, rfl, hr6, hr7, hr9, hbel⟩ := hrel
     have Hr6 := Lib.hid hr6
     have Hr7 := Lib.hid hr7
     have Hr9 := Lib.hid hr9
     clear hr6 hr7 hr9
     by_cases h16 : i < 16
     · have h16' : (i : Int) < 16 := by omega
       have hix := run_index_one wr Tryz.underlying147 Tryz.underlying26 rfl (by kernel_rfl) h16 (getD_word r i (by rw [Hl8.out]; omega))
       have hcell := Hr7.out.cell (getD_word s i (by rw [Hsl.out]; omega))
       go_wp2
       rw [w_add]
       obtain ⟨x, hx⟩ : ∃ x, Cha.at_ r i + Cha.at_ s i = x := ⟨_, rfl⟩
       rw [hx]
       have hat : ∀ j, j < 4 → B[4 * i + j]? = some (Cha.byteOf x j) := by
        intro j hj
        rw [← HB2.out, Cha.flat_at _ i j hj, Cha.sums_at r s i (by rw [Hl8.out]; exact h16) (by rw [Hsl.out]; exact h16), hx]
        rfl
       have Hat := Lib.hid hat
       clear hat hx hix hcell
       go_loopw [33] (fun jv wq => ∃ j : Nat, j ≤ 4 ∧ jv = .int .i64 (j : Int) ∧ Row wq (w.heap.size + 1 + 1) ((List.replicate 64 (0 : UInt8)).map bv) 130 ∧ Row wq w2.heap.size (s.map wv) 147 ∧ Row wq gb ((Cha.fill B (4 * i + j)).map bv) 130 ∧ Below w.heap.size w wq) (fun jv _ => 4 - (intOf jv).toNat)
       case atStart => exact ⟨0, by omega, rfl, Hr6.out, Hr7.out, Hr9.out, hbel⟩
       case round =>
        obtain ⟨j, hj, rfl, hr6, hr7, hr9, hbel⟩ := hrel
        have Hr6 := Lib.hid hr6
        have Hr7 := Lib.hid hr7
        have Hr9 := Lib.hid hr9
        clear hr6 hr7 hr9
        by_cases h4 : j < 4
        · have h4' : (j : Int) < 4 := by omega
          have hfl := Cha.fill_length B (4 * i + j) HBl.out (by omega)
          have Hcell := Lib.hid (show ∃ v, wr.cell? ⟨gb, 4 * i + j, none⟩ = some v from ⟨_, Hr9.out.cell (getD_cell _ (4 * i + j) (by rw [hfl]; omega))⟩)
          have Hfr := Lib.hid (frozen_row Hr9.out (4 * i + j))
          have hset := Hr9.out.set (4 * i + j) (bv (Cha.byteOf x j))
          rw [← List.map_set, Cha.fill_set B (4 * i + j) _ HBl.out (by omega) (Hat.out j h4), Cha.byteOf_is] at hset
          have Hset := Lib.hid hset
          clear hset hfl
          obtain rfl | rfl | rfl | rfl : j = 0 ∨ j = 1 ∨ j = 2 ∨ j = 3 := by omega
          · obtain ⟨v, hcell⟩ := Hcell.out
            have hfr := Hfr.out
            simp only [Nat.add_zero] at hcell hfr
            have hset := Hset.out
            simp only [Nat.add_zero] at hset
            have Hset := Lib.hid hset
            clear hset
            go_wp2
            rw [byte0]
            go_roundw
            case rel => exact ⟨1, by omega, rfl, Hr6.out.other _ _ (by dsimp only; omega), Hr7.out.other _ _ (by dsimp only; omega), Hset.out, hbel.setCell (by dsimp only; omega) _⟩
            case measure => simp [intOf]
          · obtain ⟨v, hcell⟩ := Hcell.out
            have hfr := Hfr.out
            have hset := Hset.out
            have Hset := Lib.hid hset
            clear hset
            go_wp2
            rw [byte1]
            go_roundw
            case rel => exact ⟨2, by omega, rfl, Hr6.out.other _ _ (by dsimp only; omega), Hr7.out.other _ _ (by dsimp only; omega), Hset.out, hbel.setCell (by dsimp only; omega) _⟩
            case measure => simp [intOf]
          · obtain ⟨v, hcell⟩ := Hcell.out
            have hfr := Hfr.out
            have hset := Hset.out
            have Hset := Lib.hid hset
            clear hset
            go_wp2
            rw [byte2]
            go_roundw
            case rel => exact ⟨3, by omega, rfl, Hr6.out.other _ _ (by dsimp only; omega), Hr7.out.other _ _ (by dsimp only; omega), Hset.out, hbel.setCell (by dsimp only; omega) _⟩
            case measure => simp [intOf]
          · obtain ⟨v, hcell⟩ := Hcell.out
            have hfr := Hfr.out
            have hset := Hset.out
            have Hset := Lib.hid hset
            clear hset
            go_wp2
            rw [byte3]
            go_roundw
            case rel => exact ⟨4, by omega, rfl, Hr6.out.other _ _ (by dsimp only; omega), Hr7.out.other _ _ (by dsimp only; omega), Hset.out, hbel.setCell (by dsimp only; omega) _⟩
            case measure => simp [intOf]
        · have h4' : ¬ (j : Int) < 4 := by omega
          have : j = 4 := by omega
          subst this
          go_wp2
          go_roundw
          case rel => exact ⟨i + 1, h16, by simp, Hr6.out, Hr7.out, Hr9.out, hbel⟩
          case measure => simp [intOf]; omega
     · have h16' : ¬ (i : Int) < 16 := by omega
       have : i = 16 := by omega
       subst this
       have hm9 := Hr9.out.same (cs' := B.map bv) (by rw [Cha.fill_all B HBl.out])
       have Hm9 := Lib.hid hm9
       have Hlb := Lib.hid (show (B.map bv).length = 64 by rw [List.length_map]; exact HBl.out)
       clear hm9
       go_wp2_with (first
        | (refine wpList_loadRow rfl 130 _ rfl rfl Hm9.out Tryz.underlying130 rfl (by kernel_rfl) Hlb.out ?_)
        | (refine wpList_storeRow rfl 130 _ _ rfl rfl rfl Hr6.out (by kernel_rfl) Hlb.out (by simp) (bytes_one B) ?_))
       refine bodyPost_ret (results_row rfl _ rfl (Hr6.out.setRow (B.map bv)) Tryz.underlying130 rfl (by kernel_rfl) Hlb.out) rfl ?_
       exact ⟨by rw [HB.out], below_setRow hbel (by omega) _⟩
end Go.Proofs.YtedmogacklbcmaaGreatDoor
namespace Go.Proofs.YtedmogacklbcmaaGreatDoor
open Go.RowKit
def Full (v : Value) : Prop := ∃ A n, v = .slice A n n
set_option maxRecDepth 8000 in
set_option maxHeartbeats 2000000 in
theorem Xor_okf (key nonce l : List UInt8) (v : Value) (c : BitVec 32) (hk : key.length = 32) (hn : nonce.length = 12) (w : World) (hb : Bs w w.heap.size v l) (hl : l.length ≤ 1000000000) (hlong : ¬ Cha.long c l.length) :
 Calls Tryz.prog 58 #[arr8 key, wv c, arr8 nonce, v] w fun e w' => ∃ v, e = .returned (.tuple #[v, .int .i64 0]) ∧ Own w' w.heap.size v (Cha.xor key c nonce l) ∧ Below w.heap.size w w' ∧ Full v := by
 have hlong0 := hlong
 unfold Cha.long at hlong
 have hc := c.isLt
 have h1 : ¬ (4294967296 : Int) - (c.toNat : Int) < ((l.length : Int) + 64 - 1) / 64 := by omega
 have Hb := Lib.hid hb
 obtain ⟨A, cap, rfl, hcap, hcs⟩ := hb
 have Hcs := Lib.hid hcs
 have Hkl := Lib.hid (show (key.map bv).length = 32 by simpa using hk)
 have Hnl := Lib.hid (show (nonce.map bv).length = 12 by simpa using hn)
 have Hk := Lib.hid hk
 have Hn := Lib.hid hn
 clear hk hn hcs hlong
 unfold arr8
 go_enter Tryz.func58, Tryz.ntmps58
 go_wp2_with (at_make; refine wpList_make_bytes _ rfl _ _ rfl l.length rfl rfl (by omega) ?_; intro w1 hrow1 hg1)
 have hb1 : Below w.heap.size w ((w.alloc (.cells (key.map bv).toArray 23)).alloc (.cells (nonce.map bv).toArray 118)) := ((Below.refl _ w).alloc (Nat.le_refl _) _).alloc (by simp) _
 have hk1 : Row ((w.alloc (.cells (key.map bv).toArray 23)).alloc (.cells (nonce.map bv).toArray 118)) w.heap.size (key.map bv) 23 := (Row.new rfl rfl).alloc _
 have hn1 : Row ((w.alloc (.cells (key.map bv).toArray 23)).alloc (.cells (nonce.map bv).toArray 118)) (w.heap.size + 1) (nonce.map bv) 118 := Row.new (by simp) rfl
 have hsz : ((w.alloc (.cells (key.map bv).toArray 23)).alloc (.cells (nonce.map bv).toArray 118)).heap.size = w.heap.size + 2 := by simp
 obtain ⟨W, hW⟩ : ∃ W, (w.alloc (.cells (key.map bv).toArray 23)).alloc (.cells (nonce.map bv).toArray 118) = W := ⟨_, rfl⟩
 rw [hW] at hb1 hk1 hn1 hsz hrow1 hg1
 have hbg : Below W.heap.size W w1 := (Below.refl _ W).grown hg1 (Nat.le_refl _) (fun k hk => by cases hk)
 have hk2 := hk1.below hbg (by omega)
 have hn2 := hn1.below hbg (by omega)
 have hb2 := nextB hb1 (by omega) hbg
 have hlt1 := hrow1.lt
 have hrow2 := hrow1.same (cs' := (Cha.fillN (Cha.xor key c nonce l) 0).map bv) (by rw [Cha.fillN_zero, Cha.xor_length])
 obtain ⟨X, hX⟩ : ∃ X, Cha.xor key c nonce l = X := ⟨_, rfl⟩
 have hXl : X.length = l.length := by rw [← hX, Cha.xor_length]
 rw [hX] at hrow2
 have HX := Lib.hid hX
 have Hrow2 := Lib.hid hrow2
 have Hk2 := Lib.hid hk2
 have Hn2 := Lib.hid hn2
 have hgb : w.heap.size + 2 = W.heap.size := hsz.symm
 clear hW hX hk1 hn1 hsz hrow1 hrow2 hg1 hbg hk2 hn2 hb1
 obtain ⟨gb, hgb2⟩ : ∃ gb, W.heap.size = gb := ⟨_, rfl⟩
 rw [hgb2] at hgb hlt1 Hrow2
 rw [show w.heap.size + 1 + 1 = gb from hgb]
 clear hgb2
 go_loopw [1, 12] (fun cv iv wr => ∃ k : Nat, 64 * k < l.length + 64 ∧ cv = wv (c + BitVec.ofNat 32 k) ∧ iv = .int .i64 ((64 * k : Nat) : Int) ∧ Row wr w.heap.size (key.map bv) 23 ∧ Row wr (w.heap.size + 1) (nonce.map bv) 118 ∧ Row wr gb ((Cha.fillN X (64 * k)).map bv) 5 ∧ gb < wr.heap.size ∧ Below w.heap.size w wr) (fun _ iv _ => l.length + 64 - (intOf iv).toNat)
 case atStart => exact ⟨0, by omega, by simp, rfl, Hk2.out, Hn2.out, Hrow2.out, hlt1, hb2⟩
 case round =>
  obtain ⟨k, hk, rfl, rfl, hrk, hrn, hro, hlt, hbel⟩ := hrel
  have Hrk := Lib.hid hrk
  have Hrn := Lib.hid hrn
  have Hro := Lib.hid hro
  clear hrk hrn hro
  by_cases hin : 64 * k < l.length
  · have hin' : ((64 * k : Nat) : Int) < (l.length : Int) := by omega
    go_wp2_with (first
     | (refine wpList_loadRow rfl 23 _ rfl rfl Hrk.out Tryz.underlying23 rfl (by kernel_rfl) Hkl.out ?_)
     | (refine wpList_loadRow rfl 118 _ rfl rfl Hrn.out Tryz.underlying118 rfl (by kernel_rfl) Hnl.out ?_)
     | fail)
    refine (Block_any key nonce (c + BitVec.ofNat 32 k) Hk.out Hn.out _).mono ?_
    rintro e w3 ⟨rfl, hb3⟩
    obtain ⟨B, hB⟩ : ∃ B, Cha.block key (c + BitVec.ofNat 32 k) nonce = B := ⟨_, rfl⟩
    have hst : ∀ i, i < 64 → Cha.stream key c nonce (64 * k + i) = B.getD i 0 := fun i hi => by rw [Cha.stream_at _ _ _ _ _ hi, hB]
    have hBl : B.length = 64 := by rw [← hB]; exact Cha.block_length _ _ _
    have HBl := Lib.hid hBl
    have Hst := Lib.hid hst
    have Hlb := Lib.hid (show (B.map bv).length = 64 by rw [List.length_map]; exact hBl)
    rw [hB]
    have Hrk := Lib.hid (Hrk.out.below hb3 (by omega))
    have Hrn := Lib.hid (Hrn.out.below hb3 (by omega))
    have Hro := Lib.hid (Hro.out.below hb3 (by omega))
    have hb03 := nextB hbel (Nat.le_refl _) hb3
    have hlt3 : gb < w3.heap.size := by have := hb3.size; omega
    clear hB hst hb3 hBl hbel
    unfold arr8
    obtain ⟨cc, hcc⟩ : ∃ cc, c + BitVec.ofNat 32 k = cc := ⟨_, rfl⟩
    rw [hcc]
    have Hcc := Lib.hid hcc
    clear hcc
    obtain ⟨gx, hgx⟩ : ∃ gx, w3.heap.size = gx := ⟨_, rfl⟩
    obtain ⟨b, off, rfl, hltb, hcellb⟩ := Hcs.out (by intro h; subst h; simp at hin)
    have Hcellb := Lib.hid hcellb
    clear hcellb
    by_cases hmin : l.length < 64 * k + 64
    · have hmin' : (l.length : Int) < 64 * (k : Int) + 64 := by omega
      have hlo : (0 : Int) ≤ 64 * (k : Int) := by omega
      have hle : 64 * (k : Int) ≤ (l.length : Int) := by omega
      have hcap2 : (l.length : Int) ≤ (cap : Int) := by omega
      clear hin'
      go_wp2_with (first
       | (refine wpList_storeRow rfl 130 _ _ rfl rfl rfl (old := (List.replicate 64 (0 : UInt8)).map bv) (Row.new hgx rfl) (by kernel_rfl) Hlb.out (by simp) (bytes_one B) ?_)
       | fail)
      obtain ⟨m, hm⟩ : ∃ m, l.length - 64 * k = m := ⟨_, rfl⟩
      rw [hm]
      have hx0 : Row (w3.alloc (.cells ((List.replicate 64 (0 : UInt8)).map bv).toArray 130)) gx ((List.replicate 64 (0 : UInt8)).map bv) 130 := Row.new hgx rfl
      have hx1 := hx0.setRow (B.map bv)
      go_loopw [49] (fun jv wr => ∃ j : Nat, j ≤ m ∧ jv = .int .i64 (j : Int) ∧ Row wr w.heap.size (key.map bv) 23 ∧ Row wr (w.heap.size + 1) (nonce.map bv) 118 ∧ Row wr gb ((Cha.fillN X (64 * k + j)).map bv) 5 ∧ Row wr gx (B.map bv) 130 ∧ gb < wr.heap.size ∧ Below w.heap.size w wr) (fun jv _ => m - (intOf jv).toNat)
      case atStart =>
       exact ⟨0, Nat.zero_le _, rfl, (Hrk.out.alloc _).setOther _ _ (by omega), (Hrn.out.alloc _).setOther _ _ (by omega), (Hro.out.alloc _).setOther _ _ (by omega), hx1, by rw [size_setRow]; simp; omega, below_setRow (hb03.alloc (by omega) _) (by omega) _⟩
      case round =>
       obtain ⟨j, hj, rfl, hrk, hrn, hro, hrx, hlt, hbel⟩ := hrel
       have Hrk := Lib.hid hrk
       have Hrn := Lib.hid hrn
       have Hro := Lib.hid hro
       have Hrx := Lib.hid hrx
       clear hrk hrn hro hrx hx0 hx1
       by_cases hjm : j < m
       · have hjm' : (j : Int) < ((m : Nat) : Int) := by omega
         obtain ⟨u, hu⟩ : ∃ u, l[64 * k + j]? = some u := ⟨_, List.getElem?_eq_getElem (show 64 * k + j < l.length by omega)⟩
         have hX : X[64 * k + j]? = some (u ^^^ B.getD j 0) := by rw [← HX.out, Cha.xor_at _ _ _ _ _ _ hu, Hst.out j (by omega)]
         have hcb : wr.cell? ⟨b, off + 64 * k + j, none⟩ = some (bv u) := by
          rw [Nat.add_assoc]
          exact (hbel.cell (p := ⟨b, off + (64 * k + j), none⟩) hltb).trans (Hcellb.out _ _ hu)
         have hcx : wr.cell? ⟨gx, j, none⟩ = some (bv (B.getD j 0)) := Hrx.out.cell (getD_cell B j (by rw [HBl.out]; omega))
         obtain ⟨y, hy⟩ : ∃ y, B.getD j 0 = y := ⟨_, rfl⟩
         rw [hy] at hX hcx
         obtain ⟨v, hco⟩ : ∃ v, wr.cell? ⟨gb, 64 * k + j, none⟩ = some v := ⟨_, Hro.out.cell (getD_cell _ _ (by rw [Cha.fillN_length, hXl]; omega))⟩
         have hfr := frozen_row Hro.out (64 * k + j)
         have Hset := Lib.hid (Hro.out.set (64 * k + j) (bv (u ^^^ y)))
         have HXj := Lib.hid hX
         unfold bv at hcb hcx
         have hi1 : 64 * (k : Int) + (j : Int) < (l.length : Int) := by omega
         have hi2 : (0 : Int) ≤ 64 * (k : Int) + (j : Int) := by omega
         have hi3 : (j : Int) < 64 := by omega
         clear hX hy hu
         go_wp2
         rw [w8_xor]
         go_roundw
         case rel =>
          refine ⟨j + 1, hjm, by simp, Hrk.out.other _ _ (by dsimp only; omega), Hrn.out.other _ _ (by dsimp only; omega), ?_, Hrx.out.other _ _ (by dsimp only; omega), by simpa using hlt, hbel.setCell (by dsimp only; omega) _⟩
          have := Hset.out
          rw [← List.map_set, Cha.fillN_set _ _ _ HXj.out] at this
          exact this
         case measure => simp [intOf]; omega
       · have hjm' : ¬ (j : Int) < ((m : Nat) : Int) := by omega
         have : j = m := by omega
         subst this
         go_wp2
         go_roundw
         case rel =>
          rw [w_add1]
          refine ⟨k + 1, by omega, ?_, by simp; omega, Hrk.out, Hrn.out, ?_, hlt, hbel⟩
          · rw [← Hcc.out, BitVec.add_assoc, BitVec.ofNat_add]
          · exact Hro.out.same (by rw [Cha.fillN_all _ _ (by rw [hXl]; omega), Cha.fillN_all _ _ (by rw [hXl]; omega)])
         case measure => simp [intOf]; omega
    · have hmin' : ¬ (l.length : Int) < 64 * (k : Int) + 64 := by omega
      have hlo : (0 : Int) ≤ 64 * (k : Int) := by omega
      have hle : 64 * (k : Int) + 64 ≤ (l.length : Int) := by omega
      have hcap2 : 64 * (k : Int) + 64 ≤ (cap : Int) := by omega
      clear hin'
      go_wp2_with (first
       | (refine wpList_storeRow rfl 130 _ _ rfl rfl rfl (old := (List.replicate 64 (0 : UInt8)).map bv) (Row.new hgx rfl) (by kernel_rfl) Hlb.out (by simp) (bytes_one B) ?_)
       | fail)
      have hx0 : Row (w3.alloc (.cells ((List.replicate 64 (0 : UInt8)).map bv).toArray 130)) gx ((List.replicate 64 (0 : UInt8)).map bv) 130 := Row.new hgx rfl
      have hx1 := hx0.setRow (B.map bv)
      go_loopw [49] (fun jv wr => ∃ j : Nat, j ≤ 64 ∧ jv = .int .i64 (j : Int) ∧ Row wr w.heap.size (key.map bv) 23 ∧ Row wr (w.heap.size + 1) (nonce.map bv) 118 ∧ Row wr gb ((Cha.fillN X (64 * k + j)).map bv) 5 ∧ Row wr gx (B.map bv) 130 ∧ gb < wr.heap.size ∧ Below w.heap.size w wr) (fun jv _ => 64 - (intOf jv).toNat)
      case atStart =>
       exact ⟨0, Nat.zero_le _, rfl, (Hrk.out.alloc _).setOther _ _ (by omega), (Hrn.out.alloc _).setOther _ _ (by omega), (Hro.out.alloc _).setOther _ _ (by omega), hx1, by rw [size_setRow]; simp; omega, below_setRow (hb03.alloc (by omega) _) (by omega) _⟩
      case round =>
       obtain ⟨j, hj, rfl, hrk, hrn, hro, hrx, hlt, hbel⟩ := hrel
       have Hrk := Lib.hid hrk
       have Hrn := Lib.hid hrn
       have Hro := Lib.hid hro
       have Hrx := Lib.hid hrx
       clear hrk hrn hro hrx hx0 hx1
       by_cases hjm : j < 64
       · have hjm' : (j : Int) < ((64 : Nat) : Int) := by omega
         obtain ⟨u, hu⟩ : ∃ u, l[64 * k + j]? = some u := ⟨_, List.getElem?_eq_getElem (show 64 * k + j < l.length by omega)⟩
         have hX : X[64 * k + j]? = some (u ^^^ B.getD j 0) := by rw [← HX.out, Cha.xor_at _ _ _ _ _ _ hu, Hst.out j (by omega)]
         have hcb : wr.cell? ⟨b, off + 64 * k + j, none⟩ = some (bv u) := by
          rw [Nat.add_assoc]
          exact (hbel.cell (p := ⟨b, off + (64 * k + j), none⟩) hltb).trans (Hcellb.out _ _ hu)
         have hcx : wr.cell? ⟨gx, j, none⟩ = some (bv (B.getD j 0)) := Hrx.out.cell (getD_cell B j (by rw [HBl.out]; omega))
         obtain ⟨y, hy⟩ : ∃ y, B.getD j 0 = y := ⟨_, rfl⟩
         rw [hy] at hX hcx
         obtain ⟨v, hco⟩ : ∃ v, wr.cell? ⟨gb, 64 * k + j, none⟩ = some v := ⟨_, Hro.out.cell (getD_cell _ _ (by rw [Cha.fillN_length, hXl]; omega))⟩
         have hfr := frozen_row Hro.out (64 * k + j)
         have Hset := Lib.hid (Hro.out.set (64 * k + j) (bv (u ^^^ y)))
         have HXj := Lib.hid hX
         unfold bv at hcb hcx
         have hi1 : 64 * (k : Int) + (j : Int) < (l.length : Int) := by omega
         have hi2 : (0 : Int) ≤ 64 * (k : Int) + (j : Int) := by omega
         have hi3 : (j : Int) < 64 := by omega
         clear hX hy hu
         go_wp2
         rw [w8_xor]
         go_roundw
         case rel =>
          refine ⟨j + 1, hjm, by simp, Hrk.out.other _ _ (by dsimp only; omega), Hrn.out.other _ _ (by dsimp only; omega), ?_, Hrx.out.other _ _ (by dsimp only; omega), by simpa using hlt, hbel.setCell (by dsimp only; omega) _⟩
          have := Hset.out
          rw [← List.map_set, Cha.fillN_set _ _ _ HXj.out] at this
          exact this
         case measure => simp [intOf]; omega
       · have hjm' : ¬ (j : Int) < ((64 : Nat) : Int) := by omega
         have : j = 64 := by omega
         subst this
         go_wp2
         go_roundw
         case rel =>
          rw [w_add1]
          refine ⟨k + 1, by omega, ?_, by simp; omega, Hrk.out, Hrn.out, ?_, hlt, hbel⟩
          · rw [← Hcc.out, BitVec.add_assoc, BitVec.ofNat_add]
          · exact Hro.out.same (by rw [show 64 * (k + 1) = 64 * k + 64 by omega])
         case measure => simp [intOf]; omega
  · have hin' : ¬ ((64 * k : Nat) : Int) < (l.length : Int) := by omega
    go_wp2
    go_ret2
    refine ⟨_, rfl, ?_, hbel, ⟨_, _, rfl⟩⟩
    have := Hro.out.same (cs' := X.map bv) (by rw [Cha.fillN_all _ _ (by rw [hXl]; omega)])
    have h2 := this.own (base := w.heap.size) (by omega) (by omega)
    rw [hXl] at h2
    rw [HX.out]
    exact h2
theorem Xor_ok (key nonce l : List UInt8) (v : Value) (c : BitVec 32) (hk : key.length = 32) (hn : nonce.length = 12) (w : World) (hb : Bs w w.heap.size v l) (hl : l.length ≤ 1000000000) (hlong : ¬ Cha.long c l.length) :
 Calls Tryz.prog 58 #[arr8 key, wv c, arr8 nonce, v] w fun e w' => ∃ v, e = .returned (.tuple #[v, .int .i64 0]) ∧ Own w' w.heap.size v (Cha.xor key c nonce l) ∧ Below w.heap.size w w' :=
 (Xor_okf key nonce l v c hk hn w hb hl hlong).mono fun _ _ ⟨v, h1, h2, h3, _⟩ => ⟨v, h1, h2, h3⟩
end Go.Proofs.YtedmogacklbcmaaGreatDoor
