/- What follows some bytes. -/
import Derived.Test.YtpllbnioncjhaaaDoorHkCut
namespace Go.Proofs.YtpllbnioncjhaaaDoor
open Go.RowKit
namespace Sha
def padRow (n : Nat) : Nat → List UInt8
  | 0 => 0x80 :: (List.replicate (zerosOf n) 0 ++ [0, 0, 0, 0, 0, 0, 0, 0])
  | i + 1 => (padRow n i).set (zerosOf n + 8 - i) (lenByte n i)
theorem padRow_length (n i : Nat) : (padRow n i).length = zerosOf n + 9 := by
  induction i with
  | zero => simp [padRow]
  | succ i ih => rw [padRow, List.length_set, ih]
theorem set_in (z k : Nat) (a x : UInt8) (t : List UInt8) : (a :: (List.replicate z 0 ++ t)).set (z + 1 + k) x = a :: (List.replicate z 0 ++ t.set k x) := by
  rw [show z + 1 + k = (z + k) + 1 by omega, List.set_cons_succ, List.set_append_right _ _ (by simp)]
  simp
theorem padRow_all (n : Nat) : padRow n 8 = pad n := by
  obtain ⟨z, hz⟩ : ∃ z, zerosOf n = z := ⟨_, rfl⟩
  simp only [padRow, pad, hz]
  rw [show z + 8 - 0 = z + 1 + 7 by omega, set_in, show z + 8 - 1 = z + 1 + 6 by omega, set_in, show z + 8 - 2 = z + 1 + 5 by omega, set_in, show z + 8 - 3 = z + 1 + 4 by omega, set_in,
    show z + 8 - 4 = z + 1 + 3 by omega, set_in, show z + 8 - 5 = z + 1 + 2 by omega, set_in, show z + 8 - 6 = z + 1 + 1 by omega, set_in, show z + 8 - 7 = z + 1 + 0 by omega, set_in]
  rfl
theorem lenByte_is (n i : Nat) : bv (lenByte n i) = .int .u8 ((n * 8 / 2 ^ (8 * i) % 256 : Nat) : Int) := by
  unfold bv lenByte
  rw [UInt8.toNat_ofNat']
  congr 2
  omega
end Sha

set_option maxRecDepth 8000 in
set_option maxHeartbeats 1000000 in
theorem Pad_any (n : Nat) (hn : n ≤ 1125899906842624) (w : World) : Calls Tryd.prog 52 #[.int .i64 (n : Int)] w fun e w' => e = .returned (.slice (some ⟨w.heap.size, 0, none⟩) (Sha.zerosOf n + 9) (Sha.zerosOf n + 9)) ∧ Row w' w.heap.size ((Sha.pad n).map bv) 5 ∧ Below w.heap.size w w' := by
  obtain ⟨z, hz⟩ : ∃ z, Sha.zerosOf n = z := ⟨_, rfl⟩
  have hz64 : z < 64 := by rw [← hz]; exact (Sha.zerosOf_is n).2
  have hzi : (119 - (n : Int) % 64) % 64 = (z : Int) := by rw [← hz, Sha.zerosOf]; omega
  have Hz := Lib.hid hz
  obtain ⟨L, hL⟩ : ∃ L, z + 9 = L := ⟨_, rfl⟩
  have hLi : 1 + (z : Int) + 8 = (L : Int) := by omega
  have HL := Lib.hid hL
  have hzero : (List.replicate L (0 : UInt8)).map bv = ((0 : UInt8) :: (List.replicate z 0 ++ [0, 0, 0, 0, 0, 0, 0, 0])).map bv := by
    rw [← hL, List.replicate_succ, show [(0 : UInt8), 0, 0, 0, 0, 0, 0, 0] = List.replicate 8 0 from rfl, List.replicate_append_replicate]
  have Hzero := Lib.hid hzero
  rw [hz]
  clear hz hL hzero
  go_enter Tryd.func52, Tryd.ntmps52
  go_wp2_with (first
    | (at_make; refine wpList_make_bytes _ rfl _ _ rfl L rfl rfl (by omega) ?_; intro w1 hrow1 hg1
       have hb1 := Lib.hid ((Below.refl w.heap.size w).grown hg1 (Nat.le_refl _) (fun k hk => by cases hk))
       have Hrow1 := Lib.hid (hrow1.same Hzero.out.symm)
       have hL0 : (0 : Int) < (L : Int) := by omega
       have hc0 : w1.cell? ⟨w.heap.size, 0, none⟩ = some (bv 0) := Hrow1.out.cell rfl
       have hf0 := frozen_row Hrow1.out 0
       clear hrow1 hg1)
    | fail)
  have hr2 : Row (w1.setCell ⟨w.heap.size, 0, none⟩ (.int .u8 128)) w.heap.size ((Sha.padRow n 0).map bv) 5 := by
    have := Hrow1.out.set 0 (.int .u8 128)
    rw [Sha.padRow, Hz.out]
    exact this
  have hb2 := hb1.out.setCell (p := ⟨w.heap.size, 0, none⟩) (Nat.le_refl _) (.int .u8 128)
  obtain ⟨V, hV⟩ : ∃ V, w1.setCell ⟨w.heap.size, 0, none⟩ (.int .u8 128) = V := ⟨_, rfl⟩
  rw [hV] at hr2 hb2
  refine code_world hV ?_
  have Hr2 := Lib.hid hr2
  have Hb2 := Lib.hid hb2
  clear hV hr2 hb2 hc0 hf0 hL0 hLi
  go_loopw [22] (fun iv wr => ∃ i : Nat, i ≤ 8 ∧ iv = .int .i64 (i : Int) ∧ Row wr w.heap.size ((Sha.padRow n i).map bv) 5 ∧ Below w.heap.size w wr) (fun iv _ => 8 - (intOf iv).toNat)
  case atStart => exact ⟨0, by omega, rfl, Hr2.out, Hb2.out⟩
  case round =>
    obtain ⟨i, hi, rfl, hr, hb⟩ := hrel
    have Hr := Lib.hid hr
    have Hb := Lib.hid hb
    have Hl := Lib.hid (show (Sha.padRow n i).length = L by rw [Sha.padRow_length, Hz.out, HL.out])
    clear hr hb
    by_cases h8 : i < 8
    · have h8' : (i : Int) < 8 := by omega
      have hcell : ∀ k, k < 8 → (∃ v, wr.cell? ⟨w.heap.size, L - 1 - k, none⟩ = some v) ∧ wr.frozen? ⟨w.heap.size, L - 1 - k, none⟩ = false := fun k hk => ⟨⟨_, Hr.out.cell (getD_cell _ (L - 1 - k) (by rw [Hl.out]; have := HL.out; omega))⟩, frozen_row Hr.out _⟩
      have hset : ∀ k, i = k → Row (wr.setCell ⟨w.heap.size, L - 1 - k, none⟩ (.int .u8 ((n * 8 / 2 ^ (8 * k) % 256 : Nat) : Int))) w.heap.size ((Sha.padRow n (i + 1)).map bv) 5 := by
        intro k hk
        subst hk
        have := Hr.out.set (L - 1 - i) (bv (Sha.lenByte n i))
        rw [← List.map_set, Sha.lenByte_is] at this
        rw [Sha.padRow, Hz.out, show z + 8 - i = L - 1 - i by have := HL.out; omega]
        exact this
      have Hcell := Lib.hid hcell
      have Hset := Lib.hid hset
      clear hcell hset
      have hz64 := hz64
      obtain rfl | rfl | rfl | rfl | rfl | rfl | rfl | rfl : i = 0 ∨ i = 1 ∨ i = 2 ∨ i = 3 ∨ i = 4 ∨ i = 5 ∨ i = 6 ∨ i = 7 := by omega
      · have hset := Hset.out 0 rfl
        have hL1 : (L : Int) - 1 = ((L - 1 - 0 : Nat) : Int) := by have := HL.out; omega
        have hcl := Hcell.out 0 (by omega)
        obtain ⟨q, hq⟩ : ∃ q, L - 1 - 0 = q := ⟨_, rfl⟩
        rw [hq] at hset hL1 hcl
        have hwq : IntKind.i64.wrap (q : Int) = (q : Int) := IntWalk.i64_in _ (by have := HL.out; omega)
        have hql : (q : Int) < (L : Int) := by have := HL.out; omega
        have Hset := Lib.hid hset
        obtain ⟨⟨v, hcv⟩, hfr⟩ := hcl
        have Hne := Lib.hid hq
        clear hset hq
        go_wp2
        have e1 : (n : Int) * 8 % 256 = ((n * 8 / 2 ^ (8 * 0) % 256 : Nat) : Int) := by
          rw [show 2 ^ (8 * 0) = 1 from rfl]
          omega
        rw [e1]
        go_roundw
        case rel => exact ⟨0 + 1, by omega, rfl, Hset.out, Hb.out.setCell (by dsimp only; omega) _⟩
        case measure => simp [intOf]
      · have hset := Hset.out 1 rfl
        have hw1 : IntKind.i64.wrap ((L : Int) - 1) = (L : Int) - 1 := IntWalk.i64_in _ (by have := HL.out; omega)
        have hL1 : IntKind.i64.wrap ((L : Int) - 1 - 1) = ((L - 1 - 1 : Nat) : Int) := (IntWalk.i64_in _ (by have := HL.out; omega)).trans (by have := HL.out; omega)
        have hcl := Hcell.out 1 (by omega)
        obtain ⟨q, hq⟩ : ∃ q, L - 1 - 1 = q := ⟨_, rfl⟩
        rw [hq] at hset hL1 hcl
        have hql : (q : Int) < (L : Int) := by have := HL.out; omega
        have Hset := Lib.hid hset
        obtain ⟨⟨v, hcv⟩, hfr⟩ := hcl
        have Hne := Lib.hid hq
        clear hset hq
        go_wp2
        have e1 : (n : Int) * 8 / 256 % 256 = ((n * 8 / 2 ^ (8 * 1) % 256 : Nat) : Int) := by
          rw [show 2 ^ (8 * 1) = 256 from rfl]
          omega
        rw [e1]
        go_roundw
        case rel => exact ⟨1 + 1, by omega, rfl, Hset.out, Hb.out.setCell (by dsimp only; omega) _⟩
        case measure => simp [intOf]
      · have hset := Hset.out 2 rfl
        have hw1 : IntKind.i64.wrap ((L : Int) - 1) = (L : Int) - 1 := IntWalk.i64_in _ (by have := HL.out; omega)
        have hL1 : IntKind.i64.wrap ((L : Int) - 1 - 2) = ((L - 1 - 2 : Nat) : Int) := (IntWalk.i64_in _ (by have := HL.out; omega)).trans (by have := HL.out; omega)
        have hcl := Hcell.out 2 (by omega)
        obtain ⟨q, hq⟩ : ∃ q, L - 1 - 2 = q := ⟨_, rfl⟩
        rw [hq] at hset hL1 hcl
        have hql : (q : Int) < (L : Int) := by have := HL.out; omega
        have Hset := Lib.hid hset
        obtain ⟨⟨v, hcv⟩, hfr⟩ := hcl
        have Hne := Lib.hid hq
        clear hset hq
        go_wp2
        have e1 : (n : Int) * 8 / 65536 % 256 = ((n * 8 / 2 ^ (8 * 2) % 256 : Nat) : Int) := by
          rw [show 2 ^ (8 * 2) = 65536 from rfl]
          omega
        rw [e1]
        go_roundw
        case rel => exact ⟨2 + 1, by omega, rfl, Hset.out, Hb.out.setCell (by dsimp only; omega) _⟩
        case measure => simp [intOf]
      · have hset := Hset.out 3 rfl
        have hw1 : IntKind.i64.wrap ((L : Int) - 1) = (L : Int) - 1 := IntWalk.i64_in _ (by have := HL.out; omega)
        have hL1 : IntKind.i64.wrap ((L : Int) - 1 - 3) = ((L - 1 - 3 : Nat) : Int) := (IntWalk.i64_in _ (by have := HL.out; omega)).trans (by have := HL.out; omega)
        have hcl := Hcell.out 3 (by omega)
        obtain ⟨q, hq⟩ : ∃ q, L - 1 - 3 = q := ⟨_, rfl⟩
        rw [hq] at hset hL1 hcl
        have hql : (q : Int) < (L : Int) := by have := HL.out; omega
        have Hset := Lib.hid hset
        obtain ⟨⟨v, hcv⟩, hfr⟩ := hcl
        have Hne := Lib.hid hq
        clear hset hq
        go_wp2
        have e1 : (n : Int) * 8 / 16777216 % 256 = ((n * 8 / 2 ^ (8 * 3) % 256 : Nat) : Int) := by
          rw [show 2 ^ (8 * 3) = 16777216 from rfl]
          omega
        rw [e1]
        go_roundw
        case rel => exact ⟨3 + 1, by omega, rfl, Hset.out, Hb.out.setCell (by dsimp only; omega) _⟩
        case measure => simp [intOf]
      · have hset := Hset.out 4 rfl
        have hw1 : IntKind.i64.wrap ((L : Int) - 1) = (L : Int) - 1 := IntWalk.i64_in _ (by have := HL.out; omega)
        have hL1 : IntKind.i64.wrap ((L : Int) - 1 - 4) = ((L - 1 - 4 : Nat) : Int) := (IntWalk.i64_in _ (by have := HL.out; omega)).trans (by have := HL.out; omega)
        have hcl := Hcell.out 4 (by omega)
        obtain ⟨q, hq⟩ : ∃ q, L - 1 - 4 = q := ⟨_, rfl⟩
        rw [hq] at hset hL1 hcl
        have hql : (q : Int) < (L : Int) := by have := HL.out; omega
        have Hset := Lib.hid hset
        obtain ⟨⟨v, hcv⟩, hfr⟩ := hcl
        have Hne := Lib.hid hq
        clear hset hq
        go_wp2
        have e1 : (n : Int) * 8 / 4294967296 % 256 = ((n * 8 / 2 ^ (8 * 4) % 256 : Nat) : Int) := by
          rw [show 2 ^ (8 * 4) = 4294967296 from rfl]
          omega
        rw [e1]
        go_roundw
        case rel => exact ⟨4 + 1, by omega, rfl, Hset.out, Hb.out.setCell (by dsimp only; omega) _⟩
        case measure => simp [intOf]
      · have hset := Hset.out 5 rfl
        have hw1 : IntKind.i64.wrap ((L : Int) - 1) = (L : Int) - 1 := IntWalk.i64_in _ (by have := HL.out; omega)
        have hL1 : IntKind.i64.wrap ((L : Int) - 1 - 5) = ((L - 1 - 5 : Nat) : Int) := (IntWalk.i64_in _ (by have := HL.out; omega)).trans (by have := HL.out; omega)
        have hcl := Hcell.out 5 (by omega)
        obtain ⟨q, hq⟩ : ∃ q, L - 1 - 5 = q := ⟨_, rfl⟩
        rw [hq] at hset hL1 hcl
        have hql : (q : Int) < (L : Int) := by have := HL.out; omega
        have Hset := Lib.hid hset
        obtain ⟨⟨v, hcv⟩, hfr⟩ := hcl
        have Hne := Lib.hid hq
        clear hset hq
        go_wp2
        have e1 : (n : Int) * 8 / 1099511627776 % 256 = ((n * 8 / 2 ^ (8 * 5) % 256 : Nat) : Int) := by
          rw [show 2 ^ (8 * 5) = 1099511627776 from rfl]
          omega
        rw [e1]
        go_roundw
        case rel => exact ⟨5 + 1, by omega, rfl, Hset.out, Hb.out.setCell (by dsimp only; omega) _⟩
        case measure => simp [intOf]
      · have hset := Hset.out 6 rfl
        have hw1 : IntKind.i64.wrap ((L : Int) - 1) = (L : Int) - 1 := IntWalk.i64_in _ (by have := HL.out; omega)
        have hL1 : IntKind.i64.wrap ((L : Int) - 1 - 6) = ((L - 1 - 6 : Nat) : Int) := (IntWalk.i64_in _ (by have := HL.out; omega)).trans (by have := HL.out; omega)
        have hcl := Hcell.out 6 (by omega)
        obtain ⟨q, hq⟩ : ∃ q, L - 1 - 6 = q := ⟨_, rfl⟩
        rw [hq] at hset hL1 hcl
        have hql : (q : Int) < (L : Int) := by have := HL.out; omega
        have Hset := Lib.hid hset
        obtain ⟨⟨v, hcv⟩, hfr⟩ := hcl
        have Hne := Lib.hid hq
        clear hset hq
        go_wp2
        have e1 : (n : Int) * 8 / 281474976710656 = ((n * 8 / 2 ^ (8 * 6) % 256 : Nat) : Int) := by
          rw [show 2 ^ (8 * 6) = 281474976710656 from rfl]
          omega
        rw [e1]
        go_roundw
        case rel => exact ⟨6 + 1, by omega, rfl, Hset.out, Hb.out.setCell (by dsimp only; omega) _⟩
        case measure => simp [intOf]
      · have hset := Hset.out 7 rfl
        have hw1 : IntKind.i64.wrap ((L : Int) - 1) = (L : Int) - 1 := IntWalk.i64_in _ (by have := HL.out; omega)
        have hL1 : IntKind.i64.wrap ((L : Int) - 1 - 7) = ((L - 1 - 7 : Nat) : Int) := (IntWalk.i64_in _ (by have := HL.out; omega)).trans (by have := HL.out; omega)
        have hcl := Hcell.out 7 (by omega)
        obtain ⟨q, hq⟩ : ∃ q, L - 1 - 7 = q := ⟨_, rfl⟩
        rw [hq] at hset hL1 hcl
        have hql : (q : Int) < (L : Int) := by have := HL.out; omega
        have Hset := Lib.hid hset
        obtain ⟨⟨v, hcv⟩, hfr⟩ := hcl
        have Hne := Lib.hid hq
        clear hset hq
        go_wp2
        have e1 : (n : Int) * 8 / 72057594037927936 = ((n * 8 / 2 ^ (8 * 7) % 256 : Nat) : Int) := by
          rw [show 2 ^ (8 * 7) = 72057594037927936 from rfl]
          omega
        rw [e1]
        go_roundw
        case rel => exact ⟨7 + 1, by omega, rfl, Hset.out, Hb.out.setCell (by dsimp only; omega) _⟩
        case measure => simp [intOf]
    · have h8' : ¬ (i : Int) < 8 := by omega
      have : i = 8 := by omega
      subst this
      have hr := Hr.out
      rw [Sha.padRow_all] at hr
      have Hr := Lib.hid hr
      clear hr
      go_wp2
      go_ret
      exact ⟨by rw [HL.out]; rfl, Hr.out, Hb.out⟩
end Go.Proofs.YtpllbnioncjhaaaDoor
