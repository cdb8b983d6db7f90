/- What follows no bytes, and what the reference says. -/
import Derived.Test.YtpllbnioncjhaaaDoorHkLives
namespace Go.Proofs.YtpllbnioncjhaaaDoor
open Go.RowKit
namespace Hk
def lenOf : Value → Nat
  | .slice _ n _ => n
  | _ => 0
theorem pad_zero : Sha.pad 0 = 0x80 :: List.replicate 63 0 := by decide
end Hk
set_option maxRecDepth 8000 in
set_option maxHeartbeats 1000000 in
theorem Pad_neg (z : Int) (hz : z < 0) (w : World) : Calls Tryd.prog 52 #[.int .i64 z] w fun e w' => e = .returned (.slice (some ⟨w.heap.size, 0, none⟩) 64 64) ∧ Row w' w.heap.size ((Sha.pad 0).map bv) 5 ∧ Below w.heap.size w w' := by
  have hz2 : ¬ 0 < z := by omega
  have hz3 : z ≤ 0 := by omega
  go_enter Tryd.func52, Tryd.ntmps52
  go_wp2_with (first
    | (at_make; refine wpList_make_bytes _ rfl _ _ rfl 64 rfl rfl (by omega) ?_; intro w1 hrow1 hg1
       have hb1 := Lib.hid ((Below.refl w.heap.size w).grown hg1 (Nat.le_refl _) (fun k hk => by cases hk))
       have Hrow1 := Lib.hid hrow1
       have hc0 : w1.cell? ⟨w.heap.size, 0, none⟩ = some (bv 0) := Hrow1.out.cell rfl
       have hf0 := frozen_row Hrow1.out 0
       clear hrow1 hg1)
    | fail)
  have hr2 : Row (w1.setCell ⟨w.heap.size, 0, none⟩ (.int .u8 128)) w.heap.size ((Sha.pad 0).map bv) 5 := by
    have := Hrow1.out.set 0 (.int .u8 128)
    rw [Hk.pad_zero]
    exact this
  have hb2 := hb1.out.setCell (p := ⟨w.heap.size, 0, none⟩) (Nat.le_refl _) (.int .u8 128)
  obtain ⟨V, hV⟩ : ∃ V, w1.setCell ⟨w.heap.size, 0, none⟩ (.int .u8 128) = V := ⟨_, rfl⟩
  rw [hV] at hr2 hb2
  refine code_world hV ?_
  have Hr2 := Lib.hid hr2
  have Hb2 := Lib.hid hb2
  clear hV hr2 hb2 hc0 hf0
  go_loopw [22] (fun iv wr => ∃ i : Nat, i ≤ 8 ∧ iv = .int .i64 (i : Int) ∧ Row wr w.heap.size ((Sha.pad 0).map bv) 5 ∧ Below w.heap.size w wr) (fun iv _ => 8 - (intOf iv).toNat)
  case atStart => exact ⟨0, by omega, rfl, Hr2.out, Hb2.out⟩
  case round =>
    obtain ⟨i, hi, rfl, hr, hb⟩ := hrel
    have Hr := Lib.hid hr
    have Hb := Lib.hid hb
    clear hr hb
    by_cases h8 : i < 8
    · have h8' : (i : Int) < 8 := by omega
      have hcell : ∀ k, k < 8 → wr.cell? ⟨w.heap.size, 63 - k, none⟩ = some (bv 0) ∧ wr.frozen? ⟨w.heap.size, 63 - k, none⟩ = false := fun k hk => ⟨Hr.out.cell (by
        rw [Hk.pad_zero, List.getElem?_map, List.getElem?_cons, if_neg (by omega), List.getElem?_replicate, if_pos (by omega)]
        rfl), frozen_row Hr.out _⟩
      have hset : ∀ k, k < 8 → Row (wr.setCell ⟨w.heap.size, 63 - k, none⟩ (.int .u8 0)) w.heap.size ((Sha.pad 0).map bv) 5 := by
        intro k hk
        refine (Hr.out.set (63 - k) (.int .u8 0)).same ?_
        rw [Hk.pad_zero, show (Value.int IntKind.u8 0) = bv 0 from rfl, ← List.map_set, show 63 - k = (62 - k) + 1 by omega, List.set_cons_succ]
        rw [List.set_replicate_self]
      have Hcell := Lib.hid hcell
      have Hset := Lib.hid hset
      clear hcell hset
      obtain rfl | rfl | rfl | rfl | rfl | rfl | rfl | rfl : i = 0 ∨ i = 1 ∨ i = 2 ∨ i = 3 ∨ i = 4 ∨ i = 5 ∨ i = 6 ∨ i = 7 := by omega
      · have hset := Hset.out 0 (by omega)
        obtain ⟨hc, hf⟩ := Hcell.out 0 (by omega)
        have Hset := Lib.hid hset
        clear hset
        go_wp2
        go_roundw
        case rel => exact ⟨0 + 1, by omega, rfl, Hset.out, Hb.out.setCell (by dsimp only; omega) _⟩
        case measure => simp [intOf]
      · have hset := Hset.out 1 (by omega)
        obtain ⟨hc, hf⟩ := Hcell.out 1 (by omega)
        have Hset := Lib.hid hset
        clear hset
        go_wp2
        go_roundw
        case rel => exact ⟨1 + 1, by omega, rfl, Hset.out, Hb.out.setCell (by dsimp only; omega) _⟩
        case measure => simp [intOf]
      · have hset := Hset.out 2 (by omega)
        obtain ⟨hc, hf⟩ := Hcell.out 2 (by omega)
        have Hset := Lib.hid hset
        clear hset
        go_wp2
        go_roundw
        case rel => exact ⟨2 + 1, by omega, rfl, Hset.out, Hb.out.setCell (by dsimp only; omega) _⟩
        case measure => simp [intOf]
      · have hset := Hset.out 3 (by omega)
        obtain ⟨hc, hf⟩ := Hcell.out 3 (by omega)
        have Hset := Lib.hid hset
        clear hset
        go_wp2
        go_roundw
        case rel => exact ⟨3 + 1, by omega, rfl, Hset.out, Hb.out.setCell (by dsimp only; omega) _⟩
        case measure => simp [intOf]
      · have hset := Hset.out 4 (by omega)
        obtain ⟨hc, hf⟩ := Hcell.out 4 (by omega)
        have Hset := Lib.hid hset
        clear hset
        go_wp2
        go_roundw
        case rel => exact ⟨4 + 1, by omega, rfl, Hset.out, Hb.out.setCell (by dsimp only; omega) _⟩
        case measure => simp [intOf]
      · have hset := Hset.out 5 (by omega)
        obtain ⟨hc, hf⟩ := Hcell.out 5 (by omega)
        have Hset := Lib.hid hset
        clear hset
        go_wp2
        go_roundw
        case rel => exact ⟨5 + 1, by omega, rfl, Hset.out, Hb.out.setCell (by dsimp only; omega) _⟩
        case measure => simp [intOf]
      · have hset := Hset.out 6 (by omega)
        obtain ⟨hc, hf⟩ := Hcell.out 6 (by omega)
        have Hset := Lib.hid hset
        clear hset
        go_wp2
        go_roundw
        case rel => exact ⟨6 + 1, by omega, rfl, Hset.out, Hb.out.setCell (by dsimp only; omega) _⟩
        case measure => simp [intOf]
      · have hset := Hset.out 7 (by omega)
        obtain ⟨hc, hf⟩ := Hcell.out 7 (by omega)
        have Hset := Lib.hid hset
        clear hset
        go_wp2
        go_roundw
        case rel => exact ⟨7 + 1, by omega, rfl, Hset.out, Hb.out.setCell (by dsimp only; omega) _⟩
        case measure => simp [intOf]
    · have h8' : ¬ (i : Int) < 8 := by omega
      have : i = 8 := by omega
      subst this
      go_wp2
      go_ret
      exact ⟨rfl, Hr.out, Hb.out⟩

theorem own_one (w : World) (x : UInt8) : Own (w.alloc (.cells #[bv x] 5)) w.heap.size (.slice (some ⟨w.heap.size, 0, none⟩) 1 1) [x] :=
  ⟨rfl, .inr ⟨w.heap.size, 1, #[bv x], rfl, Nat.le_refl _, heap_alloc_new w _, Nat.le_refl _, by decide, rfl, by simp⟩⟩
theorem bs_one (w : World) (x : UInt8) : Bs (w.alloc (.cells #[bv x] 5)) (w.heap.size + 1) (.slice (some ⟨w.heap.size, 0, none⟩) 1 1) [x] :=
  Row.bs (l := [x]) (Row.new rfl rfl) (by omega)
--@rpad
namespace Sha
/-- The last k bytes of what follows are still to come. -/
def padTo (n k : Nat) : List UInt8 := 0x80 :: (List.replicate (zerosOf n) 0 ++ ([lenByte n 7, lenByte n 6, lenByte n 5, lenByte n 4, lenByte n 3, lenByte n 2, lenByte n 1, lenByte n 0].take k))
theorem padTo_all (n : Nat) : padTo n 8 = pad n := rfl
theorem padTo_zero (n : Nat) : padTo n 0 = 0x80 :: List.replicate (zerosOf n) 0 := by simp [padTo]
theorem padTo_length (n k : Nat) (h : k ≤ 8) : (padTo n k).length = zerosOf n + 1 + k := by simp [padTo]; omega
theorem padTo_1 (n : Nat) : padTo n 0 ++ [lenByte n 7] = padTo n 1 := by simp [padTo]
theorem padTo_2 (n : Nat) : padTo n 1 ++ [lenByte n 6] = padTo n 2 := by simp [padTo]
theorem padTo_3 (n : Nat) : padTo n 2 ++ [lenByte n 5] = padTo n 3 := by simp [padTo]
theorem padTo_4 (n : Nat) : padTo n 3 ++ [lenByte n 4] = padTo n 4 := by simp [padTo]
theorem padTo_5 (n : Nat) : padTo n 4 ++ [lenByte n 3] = padTo n 5 := by simp [padTo]
theorem padTo_6 (n : Nat) : padTo n 5 ++ [lenByte n 2] = padTo n 6 := by simp [padTo]
theorem padTo_7 (n : Nat) : padTo n 6 ++ [lenByte n 1] = padTo n 7 := by simp [padTo]
theorem padTo_8 (n : Nat) : padTo n 7 ++ [lenByte n 0] = padTo n 8 := by simp [padTo]
end Sha
theorem grown_own {w wr w2 : World} {base : Nat} {v : Value} {l : List UInt8} {x : Obj} (hb : Below base w wr) (ho : Own wr base v l) (hg : (wr.alloc x).grownBy w2 v.ownBlock) (hw : base ≤ wr.heap.size := by first | omega | exact Below.size ‹_›) : Below base w w2 :=
  (hb.alloc hw x).grown hg (by simp; omega) (fun k hk => (ho.block_ge hk).1)
set_option maxRecDepth 8000 in
set_option maxHeartbeats 1000000 in
theorem RPad_at (z0 : Int) (n : Nat) (hz0 : (z0 ≤ 0 ∧ n = 0) ∨ (z0 = (n : Int) ∧ 0 < n)) (hn : n ≤ 1125899906842624) (w : World) : Calls Tryd.prog 35 #[.int .i64 z0] w fun e w' => ∃ v, e = .returned v ∧ Own w' w.heap.size v (Sha.pad n) ∧ Below w.heap.size w w' := by
  obtain ⟨z, hzz⟩ : ∃ z, Sha.zerosOf n = z := ⟨_, rfl⟩
  have hz64 : z < 64 := by rw [← hzz]; exact (Sha.zerosOf_is n).2
  have Hzz := Lib.hid (show (119 - n % 64) % 64 = z from hzz)
  have Hz := Lib.hid hzz
  have Hn := Lib.hid hn
  clear hzz
  have ho := own_one w 0x80
  have Ho := Lib.hid ho
  have HB := Lib.hid ((Below.refl w.heap.size w).alloc (Nat.le_refl _) (.cells #[bv 0x80] 5))
  clear ho
  rcases hz0 with ⟨hneg, rfl⟩ | ⟨rfl, hpos⟩
  · go_enter Tryd.func35, Tryd.ntmps35
    go_wp2_with fail
    go_loopw [3] (fun ov wr => ∃ k : Nat, k ≤ z ∧ Own wr w.heap.size ov (0x80 :: List.replicate k 0) ∧ Below w.heap.size w wr) (fun ov _ => z + 1 - Hk.lenOf ov)
    case atStart => exact ⟨0, by omega, Ho.out, HB.out⟩
    case round =>
      obtain ⟨k, hk, ho, hb⟩ := hrel
      have Ho := Lib.hid ho
      have HB := Lib.hid hb
      obtain ⟨A, c, rfl⟩ := ho.shape
      have hlen : (0x80 :: List.replicate k (0 : UInt8)).length = k + 1 := by simp
      rw [hlen] at Ho ⊢
      have Hlen := Lib.hid hlen
      clear ho hb hlen
      by_cases h1 : k < z
      · have hc1 : ¬ ((0 : Int) % 64 + ((k : Int) + 1)) % 64 = 56 := by have := Hzz.out; omega
        have hw1 : IntKind.i64.wrap ((0 : Int) % 64 + ((k : Int) + 1)) = (0 : Int) % 64 + ((k : Int) + 1) := IntWalk.i64_in _ (by omega)
        have hone := Lib.hid (bs_one wr 0)
        go_wp2_with (first
          | (at_builtin; refine wpList_app_bytes _ rfl _ _ rfl rfl (Ho.out.alloc _) rfl hone.out (by simp; omega) (by have := HB.out.size; simp; omega) ?_; intro v2 w2 hown2 hg2 hblk2
             have Hown2 := Lib.hid hown2
             have HB2 := Lib.hid (grown_own HB.out Ho.out hg2)
             obtain ⟨A2, c2, hs2⟩ := hown2.shape
             have Hs2 := Lib.hid hs2
             clear hown2 hg2 hblk2 hs2)
          | fail)
        go_roundw
        case rel => exact ⟨k + 1, h1, by rw [List.replicate_succ']; exact Hown2.out, HB2.out⟩
        case measure => rw [Hs2.out]; simp [Hk.lenOf]; omega
      · have hkz : k = z := by omega
        subst hkz
        have hc1 : (((0 : Int) % 64 + ((k : Int) + 1)) % 64 != 56) = false := by have := Hzz.out; rw [show ((0 : Int) % 64 + ((k : Int) + 1)) % 64 = 56 by omega]; rfl
        have hc2 : ((((0 : Int) + ((k : Int) + 1))) % 64 != 56) = false := by have := Hzz.out; rw [show ((0 : Int) + ((k : Int) + 1)) % 64 = 56 by omega]; rfl
        have hc3 : (((k : Int) + 1) % 64 != 56) = false := by have := Hzz.out; rw [show ((k : Int) + 1) % 64 = 56 by omega]; rfl
        have hw1 : IntKind.i64.wrap ((0 : Int) % 64 + ((k : Int) + 1)) = (0 : Int) % 64 + ((k : Int) + 1) := IntWalk.i64_in _ (by omega)
        have hn8 : (0 : Int) * 8 < 18446744073709551616 := by have := Hn.out; omega
        have ho2 := Ho.out
        rw [show 0x80 :: List.replicate k (0 : UInt8) = Sha.padTo (0 : Nat) 0 by rw [Sha.padTo_zero, Hz.out]] at ho2
        have Ho2 := Lib.hid ho2
        clear ho2
        go_wp2_with fail
        clear hc1 hc2 hc3 hw1 hn8
        go_loopw [5, 3] (fun iv ov wr => ∃ j : Nat, j ≤ 8 ∧ iv = .int .i64 (7 - (j : Int)) ∧ Own wr w.heap.size ov (Sha.padTo (0 : Nat) j) ∧ Below w.heap.size w wr) (fun iv _ _ => (1 + intOf iv).toNat)
        case atStart => exact ⟨0, by omega, rfl, Ho2.out, HB.out⟩
        case round =>
          obtain ⟨j, hj, rfl, ho, hb⟩ := hrel
          have Ho := Lib.hid ho
          have HB := Lib.hid hb
          clear ho hb
          obtain rfl | rfl | rfl | rfl | rfl | rfl | rfl | rfl | rfl : j = 0 ∨ j = 1 ∨ j = 2 ∨ j = 3 ∨ j = 4 ∨ j = 5 ∨ j = 6 ∨ j = 7 ∨ j = 8 := by omega
          · have e1 : Value.int .u8 ((0 : Int)) = bv (Sha.lenByte (0 : Nat) 7) := by
              rw [Sha.lenByte_is]
              refine congrArg (Value.int .u8) ?_
              rw [show 2 ^ (8 * 7) = 72057594037927936 from rfl]
              omega
            have hone := bs_one wr (Sha.lenByte (0 : Nat) 7)
            rw [← e1] at hone
            have Hone := Lib.hid hone
            clear hone
            go_wp2_with (first
              | (at_builtin; refine wpList_app_bytes _ rfl _ _ rfl rfl (Ho.out.alloc _) rfl Hone.out (by rw [Sha.padTo_length _ _ (by omega), Hz.out]; simp; omega) (by have := HB.out.size; simp; omega) ?_; intro v2 w2 hown2 hg2 hblk2
                 have Hown2 := Lib.hid hown2
                 have HB2 := Lib.hid (grown_own HB.out Ho.out hg2)
                 clear hown2 hg2 hblk2)
              | fail)
            go_roundw
            case rel => exact ⟨0 + 1, by omega, by first | rfl | omega, by rw [← Sha.padTo_1]; exact Hown2.out, HB2.out⟩
            case measure => simp [intOf]
          · have e1 : Value.int .u8 ((0 : Int)) = bv (Sha.lenByte (0 : Nat) 6) := by
              rw [Sha.lenByte_is]
              refine congrArg (Value.int .u8) ?_
              rw [show 2 ^ (8 * 6) = 281474976710656 from rfl]
              omega
            have hone := bs_one wr (Sha.lenByte (0 : Nat) 6)
            rw [← e1] at hone
            have Hone := Lib.hid hone
            clear hone
            go_wp2_with (first
              | (at_builtin; refine wpList_app_bytes _ rfl _ _ rfl rfl (Ho.out.alloc _) rfl Hone.out (by rw [Sha.padTo_length _ _ (by omega), Hz.out]; simp; omega) (by have := HB.out.size; simp; omega) ?_; intro v2 w2 hown2 hg2 hblk2
                 have Hown2 := Lib.hid hown2
                 have HB2 := Lib.hid (grown_own HB.out Ho.out hg2)
                 clear hown2 hg2 hblk2)
              | fail)
            go_roundw
            case rel => exact ⟨1 + 1, by omega, by first | rfl | omega, by rw [← Sha.padTo_2]; exact Hown2.out, HB2.out⟩
            case measure => simp [intOf]
          · have e1 : Value.int .u8 ((0 : Int)) = bv (Sha.lenByte (0 : Nat) 5) := by
              rw [Sha.lenByte_is]
              refine congrArg (Value.int .u8) ?_
              rw [show 2 ^ (8 * 5) = 1099511627776 from rfl]
              omega
            have hone := bs_one wr (Sha.lenByte (0 : Nat) 5)
            rw [← e1] at hone
            have Hone := Lib.hid hone
            clear hone
            go_wp2_with (first
              | (at_builtin; refine wpList_app_bytes _ rfl _ _ rfl rfl (Ho.out.alloc _) rfl Hone.out (by rw [Sha.padTo_length _ _ (by omega), Hz.out]; simp; omega) (by have := HB.out.size; simp; omega) ?_; intro v2 w2 hown2 hg2 hblk2
                 have Hown2 := Lib.hid hown2
                 have HB2 := Lib.hid (grown_own HB.out Ho.out hg2)
                 clear hown2 hg2 hblk2)
              | fail)
            go_roundw
            case rel => exact ⟨2 + 1, by omega, by first | rfl | omega, by rw [← Sha.padTo_3]; exact Hown2.out, HB2.out⟩
            case measure => simp [intOf]
          · have e1 : Value.int .u8 ((0 : Int)) = bv (Sha.lenByte (0 : Nat) 4) := by
              rw [Sha.lenByte_is]
              refine congrArg (Value.int .u8) ?_
              rw [show 2 ^ (8 * 4) = 4294967296 from rfl]
              omega
            have hone := bs_one wr (Sha.lenByte (0 : Nat) 4)
            rw [← e1] at hone
            have Hone := Lib.hid hone
            clear hone
            go_wp2_with (first
              | (at_builtin; refine wpList_app_bytes _ rfl _ _ rfl rfl (Ho.out.alloc _) rfl Hone.out (by rw [Sha.padTo_length _ _ (by omega), Hz.out]; simp; omega) (by have := HB.out.size; simp; omega) ?_; intro v2 w2 hown2 hg2 hblk2
                 have Hown2 := Lib.hid hown2
                 have HB2 := Lib.hid (grown_own HB.out Ho.out hg2)
                 clear hown2 hg2 hblk2)
              | fail)
            go_roundw
            case rel => exact ⟨3 + 1, by omega, by first | rfl | omega, by rw [← Sha.padTo_4]; exact Hown2.out, HB2.out⟩
            case measure => simp [intOf]
          · have e1 : Value.int .u8 ((0 : Int)) = bv (Sha.lenByte (0 : Nat) 3) := by
              rw [Sha.lenByte_is]
              refine congrArg (Value.int .u8) ?_
              rw [show 2 ^ (8 * 3) = 16777216 from rfl]
              omega
            have hone := bs_one wr (Sha.lenByte (0 : Nat) 3)
            rw [← e1] at hone
            have Hone := Lib.hid hone
            clear hone
            go_wp2_with (first
              | (at_builtin; refine wpList_app_bytes _ rfl _ _ rfl rfl (Ho.out.alloc _) rfl Hone.out (by rw [Sha.padTo_length _ _ (by omega), Hz.out]; simp; omega) (by have := HB.out.size; simp; omega) ?_; intro v2 w2 hown2 hg2 hblk2
                 have Hown2 := Lib.hid hown2
                 have HB2 := Lib.hid (grown_own HB.out Ho.out hg2)
                 clear hown2 hg2 hblk2)
              | fail)
            go_roundw
            case rel => exact ⟨4 + 1, by omega, by first | rfl | omega, by rw [← Sha.padTo_5]; exact Hown2.out, HB2.out⟩
            case measure => simp [intOf]
          · have e1 : Value.int .u8 ((0 : Int)) = bv (Sha.lenByte (0 : Nat) 2) := by
              rw [Sha.lenByte_is]
              refine congrArg (Value.int .u8) ?_
              rw [show 2 ^ (8 * 2) = 65536 from rfl]
              omega
            have hone := bs_one wr (Sha.lenByte (0 : Nat) 2)
            rw [← e1] at hone
            have Hone := Lib.hid hone
            clear hone
            go_wp2_with (first
              | (at_builtin; refine wpList_app_bytes _ rfl _ _ rfl rfl (Ho.out.alloc _) rfl Hone.out (by rw [Sha.padTo_length _ _ (by omega), Hz.out]; simp; omega) (by have := HB.out.size; simp; omega) ?_; intro v2 w2 hown2 hg2 hblk2
                 have Hown2 := Lib.hid hown2
                 have HB2 := Lib.hid (grown_own HB.out Ho.out hg2)
                 clear hown2 hg2 hblk2)
              | fail)
            go_roundw
            case rel => exact ⟨5 + 1, by omega, by first | rfl | omega, by rw [← Sha.padTo_6]; exact Hown2.out, HB2.out⟩
            case measure => simp [intOf]
          · have e1 : Value.int .u8 ((0 : Int)) = bv (Sha.lenByte (0 : Nat) 1) := by
              rw [Sha.lenByte_is]
              refine congrArg (Value.int .u8) ?_
              rw [show 2 ^ (8 * 1) = 256 from rfl]
              omega
            have hone := bs_one wr (Sha.lenByte (0 : Nat) 1)
            rw [← e1] at hone
            have Hone := Lib.hid hone
            clear hone
            go_wp2_with (first
              | (at_builtin; refine wpList_app_bytes _ rfl _ _ rfl rfl (Ho.out.alloc _) rfl Hone.out (by rw [Sha.padTo_length _ _ (by omega), Hz.out]; simp; omega) (by have := HB.out.size; simp; omega) ?_; intro v2 w2 hown2 hg2 hblk2
                 have Hown2 := Lib.hid hown2
                 have HB2 := Lib.hid (grown_own HB.out Ho.out hg2)
                 clear hown2 hg2 hblk2)
              | fail)
            go_roundw
            case rel => exact ⟨6 + 1, by omega, by first | rfl | omega, by rw [← Sha.padTo_7]; exact Hown2.out, HB2.out⟩
            case measure => simp [intOf]
          · have e1 : Value.int .u8 ((0 : Int)) = bv (Sha.lenByte (0 : Nat) 0) := by
              rw [Sha.lenByte_is]
              refine congrArg (Value.int .u8) ?_
              rw [show 2 ^ (8 * 0) = 1 from rfl]
              omega
            have hone := bs_one wr (Sha.lenByte (0 : Nat) 0)
            rw [← e1] at hone
            have Hone := Lib.hid hone
            clear hone
            go_wp2_with (first
              | (at_builtin; refine wpList_app_bytes _ rfl _ _ rfl rfl (Ho.out.alloc _) rfl Hone.out (by rw [Sha.padTo_length _ _ (by omega), Hz.out]; simp; omega) (by have := HB.out.size; simp; omega) ?_; intro v2 w2 hown2 hg2 hblk2
                 have Hown2 := Lib.hid hown2
                 have HB2 := Lib.hid (grown_own HB.out Ho.out hg2)
                 clear hown2 hg2 hblk2)
              | fail)
            go_roundw
            case rel => exact ⟨7 + 1, by omega, by first | rfl | omega, by rw [← Sha.padTo_8]; exact Hown2.out, HB2.out⟩
            case measure => simp [intOf]
          · go_wp2
            go_ret
            exact ⟨_, rfl, by rw [← Sha.padTo_all]; exact Ho.out, HB.out⟩
  · have hpos2 : (0 : Int) < (n : Int) := by omega
    go_enter Tryd.func35, Tryd.ntmps35
    go_wp2_with fail
    go_loopw [3] (fun ov wr => ∃ k : Nat, k ≤ z ∧ Own wr w.heap.size ov (0x80 :: List.replicate k 0) ∧ Below w.heap.size w wr) (fun ov _ => z + 1 - Hk.lenOf ov)
    case atStart => exact ⟨0, by omega, Ho.out, HB.out⟩
    case round =>
      obtain ⟨k, hk, ho, hb⟩ := hrel
      have Ho := Lib.hid ho
      have HB := Lib.hid hb
      obtain ⟨A, c, rfl⟩ := ho.shape
      have hlen : (0x80 :: List.replicate k (0 : UInt8)).length = k + 1 := by simp
      rw [hlen] at Ho ⊢
      have Hlen := Lib.hid hlen
      clear ho hb hlen
      by_cases h1 : k < z
      · have hc1 : ¬ ((n : Int) % 64 + ((k : Int) + 1)) % 64 = 56 := by have := Hzz.out; omega
        have hw1 : IntKind.i64.wrap ((n : Int) % 64 + ((k : Int) + 1)) = (n : Int) % 64 + ((k : Int) + 1) := IntWalk.i64_in _ (by omega)
        have hone := Lib.hid (bs_one wr 0)
        go_wp2_with (first
          | (at_builtin; refine wpList_app_bytes _ rfl _ _ rfl rfl (Ho.out.alloc _) rfl hone.out (by simp; omega) (by have := HB.out.size; simp; omega) ?_; intro v2 w2 hown2 hg2 hblk2
             have Hown2 := Lib.hid hown2
             have HB2 := Lib.hid (grown_own HB.out Ho.out hg2)
             obtain ⟨A2, c2, hs2⟩ := hown2.shape
             have Hs2 := Lib.hid hs2
             clear hown2 hg2 hblk2 hs2)
          | fail)
        go_roundw
        case rel => exact ⟨k + 1, h1, by rw [List.replicate_succ']; exact Hown2.out, HB2.out⟩
        case measure => rw [Hs2.out]; simp [Hk.lenOf]; omega
      · have hkz : k = z := by omega
        subst hkz
        have hc1 : (((n : Int) % 64 + ((k : Int) + 1)) % 64 != 56) = false := by have := Hzz.out; rw [show ((n : Int) % 64 + ((k : Int) + 1)) % 64 = 56 by omega]; rfl
        have hc2 : ((((n : Int) + ((k : Int) + 1))) % 64 != 56) = false := by have := Hzz.out; rw [show ((n : Int) + ((k : Int) + 1)) % 64 = 56 by omega]; rfl
        have hc3 : (((k : Int) + 1) % 64 != 56) = (((k : Int) + 1) % 64 != 56) := rfl
        have hw1 : IntKind.i64.wrap ((n : Int) % 64 + ((k : Int) + 1)) = (n : Int) % 64 + ((k : Int) + 1) := IntWalk.i64_in _ (by omega)
        have hn8 : (n : Int) * 8 < 18446744073709551616 := by have := Hn.out; omega
        have ho2 := Ho.out
        rw [show 0x80 :: List.replicate k (0 : UInt8) = Sha.padTo n 0 by rw [Sha.padTo_zero, Hz.out]] at ho2
        have Ho2 := Lib.hid ho2
        clear ho2
        go_wp2_with fail
        clear hc1 hc2 hc3 hw1 hn8
        go_loopw [5, 3] (fun iv ov wr => ∃ j : Nat, j ≤ 8 ∧ iv = .int .i64 (7 - (j : Int)) ∧ Own wr w.heap.size ov (Sha.padTo n j) ∧ Below w.heap.size w wr) (fun iv _ _ => (1 + intOf iv).toNat)
        case atStart => exact ⟨0, by omega, rfl, Ho2.out, HB.out⟩
        case round =>
          obtain ⟨j, hj, rfl, ho, hb⟩ := hrel
          have Ho := Lib.hid ho
          have HB := Lib.hid hb
          clear ho hb
          obtain rfl | rfl | rfl | rfl | rfl | rfl | rfl | rfl | rfl : j = 0 ∨ j = 1 ∨ j = 2 ∨ j = 3 ∨ j = 4 ∨ j = 5 ∨ j = 6 ∨ j = 7 ∨ j = 8 := by omega
          · have e1 : (n : Int) * 8 / 72057594037927936 = ((Sha.lenByte n 7).toNat : Int) := by
              have h := Sha.lenByte_is n 7
              unfold bv at h
              injection h with _ h
              rw [h, show 2 ^ (8 * 7) = 72057594037927936 from rfl]
              omega
            have hone := bs_one wr (Sha.lenByte n 7)
            have Hone := Lib.hid hone
            clear hone
            go_wp2_with (first
              | (at_builtin; refine wpList_app_bytes _ rfl _ _ rfl rfl (Ho.out.alloc _) rfl Hone.out (by rw [Sha.padTo_length _ _ (by omega), Hz.out]; simp; omega) (by have := HB.out.size; simp; omega) ?_; intro v2 w2 hown2 hg2 hblk2
                 have Hown2 := Lib.hid hown2
                 have HB2 := Lib.hid (grown_own HB.out Ho.out hg2)
                 clear hown2 hg2 hblk2)
              | fail)
            go_roundw
            case rel => exact ⟨0 + 1, by omega, by first | rfl | omega, by rw [← Sha.padTo_1]; exact Hown2.out, HB2.out⟩
            case measure => simp [intOf]
          · have e1 : (n : Int) * 8 / 281474976710656 = ((Sha.lenByte n 6).toNat : Int) := by
              have h := Sha.lenByte_is n 6
              unfold bv at h
              injection h with _ h
              rw [h, show 2 ^ (8 * 6) = 281474976710656 from rfl]
              omega
            have hone := bs_one wr (Sha.lenByte n 6)
            have Hone := Lib.hid hone
            clear hone
            go_wp2_with (first
              | (at_builtin; refine wpList_app_bytes _ rfl _ _ rfl rfl (Ho.out.alloc _) rfl Hone.out (by rw [Sha.padTo_length _ _ (by omega), Hz.out]; simp; omega) (by have := HB.out.size; simp; omega) ?_; intro v2 w2 hown2 hg2 hblk2
                 have Hown2 := Lib.hid hown2
                 have HB2 := Lib.hid (grown_own HB.out Ho.out hg2)
                 clear hown2 hg2 hblk2)
              | fail)
            go_roundw
            case rel => exact ⟨1 + 1, by omega, by first | rfl | omega, by rw [← Sha.padTo_2]; exact Hown2.out, HB2.out⟩
            case measure => simp [intOf]
          · have e1 : (n : Int) * 8 / 1099511627776 % 256 = ((Sha.lenByte n 5).toNat : Int) := by
              have h := Sha.lenByte_is n 5
              unfold bv at h
              injection h with _ h
              rw [h, show 2 ^ (8 * 5) = 1099511627776 from rfl]
              omega
            have hone := bs_one wr (Sha.lenByte n 5)
            have Hone := Lib.hid hone
            clear hone
            go_wp2_with (first
              | (at_builtin; refine wpList_app_bytes _ rfl _ _ rfl rfl (Ho.out.alloc _) rfl Hone.out (by rw [Sha.padTo_length _ _ (by omega), Hz.out]; simp; omega) (by have := HB.out.size; simp; omega) ?_; intro v2 w2 hown2 hg2 hblk2
                 have Hown2 := Lib.hid hown2
                 have HB2 := Lib.hid (grown_own HB.out Ho.out hg2)
                 clear hown2 hg2 hblk2)
              | fail)
            go_roundw
            case rel => exact ⟨2 + 1, by omega, by first | rfl | omega, by rw [← Sha.padTo_3]; exact Hown2.out, HB2.out⟩
            case measure => simp [intOf]
          · have e1 : (n : Int) * 8 / 4294967296 % 256 = ((Sha.lenByte n 4).toNat : Int) := by
              have h := Sha.lenByte_is n 4
              unfold bv at h
              injection h with _ h
              rw [h, show 2 ^ (8 * 4) = 4294967296 from rfl]
              omega
            have hone := bs_one wr (Sha.lenByte n 4)
            have Hone := Lib.hid hone
            clear hone
            go_wp2_with (first
              | (at_builtin; refine wpList_app_bytes _ rfl _ _ rfl rfl (Ho.out.alloc _) rfl Hone.out (by rw [Sha.padTo_length _ _ (by omega), Hz.out]; simp; omega) (by have := HB.out.size; simp; omega) ?_; intro v2 w2 hown2 hg2 hblk2
                 have Hown2 := Lib.hid hown2
                 have HB2 := Lib.hid (grown_own HB.out Ho.out hg2)
                 clear hown2 hg2 hblk2)
              | fail)
            go_roundw
            case rel => exact ⟨3 + 1, by omega, by first | rfl | omega, by rw [← Sha.padTo_4]; exact Hown2.out, HB2.out⟩
            case measure => simp [intOf]
          · have e1 : (n : Int) * 8 / 16777216 % 256 = ((Sha.lenByte n 3).toNat : Int) := by
              have h := Sha.lenByte_is n 3
              unfold bv at h
              injection h with _ h
              rw [h, show 2 ^ (8 * 3) = 16777216 from rfl]
              omega
            have hone := bs_one wr (Sha.lenByte n 3)
            have Hone := Lib.hid hone
            clear hone
            go_wp2_with (first
              | (at_builtin; refine wpList_app_bytes _ rfl _ _ rfl rfl (Ho.out.alloc _) rfl Hone.out (by rw [Sha.padTo_length _ _ (by omega), Hz.out]; simp; omega) (by have := HB.out.size; simp; omega) ?_; intro v2 w2 hown2 hg2 hblk2
                 have Hown2 := Lib.hid hown2
                 have HB2 := Lib.hid (grown_own HB.out Ho.out hg2)
                 clear hown2 hg2 hblk2)
              | fail)
            go_roundw
            case rel => exact ⟨4 + 1, by omega, by first | rfl | omega, by rw [← Sha.padTo_5]; exact Hown2.out, HB2.out⟩
            case measure => simp [intOf]
          · have e1 : (n : Int) * 8 / 65536 % 256 = ((Sha.lenByte n 2).toNat : Int) := by
              have h := Sha.lenByte_is n 2
              unfold bv at h
              injection h with _ h
              rw [h, show 2 ^ (8 * 2) = 65536 from rfl]
              omega
            have hone := bs_one wr (Sha.lenByte n 2)
            have Hone := Lib.hid hone
            clear hone
            go_wp2_with (first
              | (at_builtin; refine wpList_app_bytes _ rfl _ _ rfl rfl (Ho.out.alloc _) rfl Hone.out (by rw [Sha.padTo_length _ _ (by omega), Hz.out]; simp; omega) (by have := HB.out.size; simp; omega) ?_; intro v2 w2 hown2 hg2 hblk2
                 have Hown2 := Lib.hid hown2
                 have HB2 := Lib.hid (grown_own HB.out Ho.out hg2)
                 clear hown2 hg2 hblk2)
              | fail)
            go_roundw
            case rel => exact ⟨5 + 1, by omega, by first | rfl | omega, by rw [← Sha.padTo_6]; exact Hown2.out, HB2.out⟩
            case measure => simp [intOf]
          · have e1 : (n : Int) * 8 / 256 % 256 = ((Sha.lenByte n 1).toNat : Int) := by
              have h := Sha.lenByte_is n 1
              unfold bv at h
              injection h with _ h
              rw [h, show 2 ^ (8 * 1) = 256 from rfl]
              omega
            have hone := bs_one wr (Sha.lenByte n 1)
            have Hone := Lib.hid hone
            clear hone
            go_wp2_with (first
              | (at_builtin; refine wpList_app_bytes _ rfl _ _ rfl rfl (Ho.out.alloc _) rfl Hone.out (by rw [Sha.padTo_length _ _ (by omega), Hz.out]; simp; omega) (by have := HB.out.size; simp; omega) ?_; intro v2 w2 hown2 hg2 hblk2
                 have Hown2 := Lib.hid hown2
                 have HB2 := Lib.hid (grown_own HB.out Ho.out hg2)
                 clear hown2 hg2 hblk2)
              | fail)
            go_roundw
            case rel => exact ⟨6 + 1, by omega, by first | rfl | omega, by rw [← Sha.padTo_7]; exact Hown2.out, HB2.out⟩
            case measure => simp [intOf]
          · have e1 : (n : Int) * 8 % 256 = ((Sha.lenByte n 0).toNat : Int) := by
              have h := Sha.lenByte_is n 0
              unfold bv at h
              injection h with _ h
              rw [h, show 2 ^ (8 * 0) = 1 from rfl]
              omega
            have hone := bs_one wr (Sha.lenByte n 0)
            have Hone := Lib.hid hone
            clear hone
            go_wp2_with (first
              | (at_builtin; refine wpList_app_bytes _ rfl _ _ rfl rfl (Ho.out.alloc _) rfl Hone.out (by rw [Sha.padTo_length _ _ (by omega), Hz.out]; simp; omega) (by have := HB.out.size; simp; omega) ?_; intro v2 w2 hown2 hg2 hblk2
                 have Hown2 := Lib.hid hown2
                 have HB2 := Lib.hid (grown_own HB.out Ho.out hg2)
                 clear hown2 hg2 hblk2)
              | fail)
            go_roundw
            case rel => exact ⟨7 + 1, by omega, by first | rfl | omega, by rw [← Sha.padTo_8]; exact Hown2.out, HB2.out⟩
            case measure => simp [intOf]
          · go_wp2
            go_ret
            exact ⟨_, rfl, by rw [← Sha.padTo_all]; exact Ho.out, HB.out⟩
end Go.Proofs.YtpllbnioncjhaaaDoor
