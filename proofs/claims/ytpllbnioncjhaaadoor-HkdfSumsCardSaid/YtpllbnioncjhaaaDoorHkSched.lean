/- The words of all rounds. -/
import Derived.Test.YtpllbnioncjhaaaDoorHkBase
namespace Go.Proofs.YtpllbnioncjhaaaDoor
open Go.RowKit

theorem sched_cut (m : List (BitVec 32)) (hm : m.length = 16) : splice ((List.replicate 64 0#32).map wv) 0 (m.map wv) = (Sha.sched m 0).map wv := by
  unfold splice Sha.sched
  simp [hm]

theorem w_shr3 (x : BitVec 32) : (x.toNat : Int) / (8 : Int) = ((x >>> 3).toNat : Int) := w_shr x 3
theorem w_shr10 (x : BitVec 32) : (x.toNat : Int) / (1024 : Int) = ((x >>> 10).toNat : Int) := w_shr x 10
theorem s0_is (x : BitVec 32) : bits .xor .u32 (bits .xor .u32 ((Sha.rotr x 7).toNat : Int) ((Sha.rotr x 18).toNat : Int)) ((x.toNat : Int) / 8) = ((Sha.s0 x).toNat : Int) := by
  rw [w_xor, w_shr3, w_xor]; rfl
theorem s1_is (x : BitVec 32) : bits .xor .u32 (bits .xor .u32 ((Sha.rotr x 17).toNat : Int) ((Sha.rotr x 19).toNat : Int)) ((x.toNat : Int) / 1024) = ((Sha.s1 x).toNat : Int) := by
  rw [w_xor, w_shr10, w_xor]; rfl
theorem sum4_is (a b c d : BitVec 32) : ((a.toNat : Int) + (b.toNat : Int) + (c.toNat : Int) + (d.toNat : Int)) % 4294967296 = ((a + b + c + d).toNat : Int) := by
  simp only [BitVec.toNat_add]
  omega

set_option maxRecDepth 8000 in
set_option maxHeartbeats 2000000 in
theorem Sched_any (m : List (BitVec 32)) (hm : m.length = 16) (w : World) : Calls Tryd.prog 53 #[arr32 m] w fun e w' => e = .returned (arr32 (Sha.sched m 48)) ∧ Below w.heap.size w w' := by
  have Hm := Lib.hid hm
  have Hml := Lib.hid (show (m.map wv).length = 16 by simpa using hm)
  clear hm
  unfold arr32
  go_enter Tryd.func53, Tryd.ntmps53
  go_wp2_with fail
  obtain ⟨W, hW⟩ : ∃ W, ((w.alloc (.cells (m.map wv).toArray 57)).alloc (.cells ((List.replicate 64 0#32).map wv).toArray 78)).alloc (.cells ((List.replicate 64 0#32).map wv).toArray 78) = W := ⟨_, rfl⟩
  have hr0 : Row W w.heap.size (m.map wv) 57 := hW ▸ ((Row.new rfl rfl).alloc _).alloc _
  have hr1 : Row W (w.heap.size + 1) ((List.replicate 64 0#32).map wv) 78 := hW ▸ (Row.new (by simp) rfl).alloc _
  have hr2 : Row W (w.heap.size + 1 + 1) ((List.replicate 64 0#32).map wv) 78 := hW ▸ Row.new (by simp) rfl
  have hb : Below w.heap.size w W := hW ▸ (((Below.refl _ w).alloc (Nat.le_refl _) _).alloc (by simp) _).alloc (by simp; omega) _
  refine code_world hW ?_
  clear hW
  have Hr0 := Lib.hid hr0
  have Hr1 := Lib.hid hr1
  have Hr2 := Lib.hid hr2
  have Hb := Lib.hid hb
  clear hr0 hr1 hr2 hb
  go_still_tail 2, Pol.mixed
  change wpList _ _ _ _ _ W.drew
  go_wp2_with (first
    | (refine wpList_copy_keep rfl (.tmp 8) (.tmp 9) 99 99 rfl 39 (by kernel_rfl) (by kernel_rfl) rfl rfl (w := W.drew) Hr2.out (m.map wv) (by rw [Hml.out]; rfl) (fun j v hj => by rw [show (⟨w.heap.size, 0, none⟩ : Addr).add j = ⟨w.heap.size, 0 + j, none⟩ by unfold Addr.add; split <;> simp_all]; rw [Nat.zero_add]; exact Row.cell (w := W.drew) Hr0.out hj) (by rw [Hml.out]; simp) (words_one _) ?_
       intro W2 hc2 hk2
       rw [Hml.out])
    | fail)
  have hz : Row W2 (w.heap.size + 1) ((List.replicate 64 0#32).map wv) 78 := Row.keep (w := W.drew) Hr1.out hk2 (by omega)
  have hs : Row W2 (w.heap.size + 1 + 1) ((Sha.sched m 0).map wv) 78 := hc2.same (sched_cut m Hm.out).symm
  have hsz0 : w.heap.size + 1 + 1 < W2.heap.size := hc2.lt
  have hb2 : Below w.heap.size w W2 := Below.keep (w := W.drew) Hb.out.drew hk2 (by have := Hr0.out.lt; show w.heap.size ≤ W.heap.size; omega) (by omega)
  have Hz := Lib.hid hz
  have Hs := Lib.hid hs
  have Hb2 := Lib.hid hb2
  have Hsz := Lib.hid hsz0
  clear hz hs hb2 hsz0 hc2 hk2
  go_loopw [13] (fun iv wr => ∃ i : Nat, i ≤ 48 ∧ iv = .int .i64 (i : Int) ∧ Row wr (w.heap.size + 1) ((List.replicate 64 0#32).map wv) 78 ∧ Row wr (w.heap.size + 1 + 1) ((Sha.sched m i).map wv) 78 ∧ Below w.heap.size w wr) (fun iv _ => 48 - (intOf iv).toNat)
  case atStart => exact ⟨0, by omega, rfl, Hz.out, Hs.out, Hb2.out⟩
  case round =>
    obtain ⟨i, hi, rfl, hr1, hr2, hbel⟩ := hrel
    have Hr1 := Lib.hid hr1
    have Hr2 := Lib.hid hr2
    have Hbel := Lib.hid hbel
    have Hl := Lib.hid (show (Sha.sched m i).length = 64 by rw [Sha.sched_length, Hm.out])
    clear hr1 hr2 hbel
    by_cases h48 : i < 48
    · have h48' : (i : Int) < 48 := by omega
      have hx0 := Hr2.out.cell (getD_word (Sha.sched m i) i (by rw [Hl.out]; omega))
      have hx1 := Hr2.out.cell (getD_word (Sha.sched m i) (i + 1) (by rw [Hl.out]; omega))
      have hx9 := Hr2.out.cell (getD_word (Sha.sched m i) (i + 9) (by rw [Hl.out]; omega))
      have hx14 := Hr2.out.cell (getD_word (Sha.sched m i) (i + 14) (by rw [Hl.out]; omega))
      have hw9 : IntKind.i64.wrap ((i : Int) + 9) = (i : Int) + 9 := IntWalk.i64_in _ (by omega)
      have hw14 : IntKind.i64.wrap ((i : Int) + 14) = (i : Int) + 14 := IntWalk.i64_in _ (by omega)
      have hw16 : IntKind.i64.wrap (16 + (i : Int)) = 16 + (i : Int) := IntWalk.i64_in _ (by omega)
      have hb9 : 0 ≤ (i : Int) + 9 ∧ (i : Int) + 9 < 64 := by omega
      have hb14 : 0 ≤ (i : Int) + 14 ∧ (i : Int) + 14 < 64 := by omega
      have hb16 : 0 ≤ 16 + (i : Int) ∧ 16 + (i : Int) < 64 := by omega
      have hb0 : 0 ≤ (i : Int) ∧ (i : Int) < 64 := by omega
      have ht9 : ((i : Int) + 9).toNat = i + 9 := by omega
      have ht14 : ((i : Int) + 14).toNat = i + 14 := by omega
      have ht16 : (16 + (i : Int)).toNat = 16 + i := by omega
      have he0 := s0_is (Sha.at_ (Sha.sched m i) (i + 1))
      have he1 := s1_is (Sha.at_ (Sha.sched m i) (i + 14))
      go_wp2_with fail
      go_quiet ((go_at_call 54; exact quiet_same fun W hW => right_any _ _ (by decide) W))
      obtain ⟨W5, hW5⟩ : ∃ W5, wr.drewN nq = W5 := ⟨_, rfl⟩
      have Hr1 := Lib.hid (Hr1.out.drewN nq)
      have Hr2 := Lib.hid (Hr2.out.drewN nq)
      have Hbel := Lib.hid (below_drewN Hbel.out nq)
      rw [hW5] at Hr1 Hr2 Hbel
      rw [hW5]
      clear hW5 hx0 hx1 hx9 hx14 he0
      have hx0 := Hr2.out.cell (getD_word (Sha.sched m i) i (by rw [Hl.out]; omega))
      have hx9 := Hr2.out.cell (getD_word (Sha.sched m i) (i + 9) (by rw [Hl.out]; omega))
      have hx14 := Hr2.out.cell (getD_word (Sha.sched m i) (i + 14) (by rw [Hl.out]; omega))
      go_wp2_with fail
      go_quiet ((go_at_call 54; exact quiet_same fun W hW => right_any _ _ (by decide) W))
      obtain ⟨W6, hW6⟩ : ∃ W6, W5.drewN nq = W6 := ⟨_, rfl⟩
      have Hr1 := Lib.hid (Hr1.out.drewN nq)
      have Hr2 := Lib.hid (Hr2.out.drewN nq)
      have Hbel := Lib.hid (below_drewN Hbel.out nq)
      rw [hW6] at Hr1 Hr2 Hbel
      rw [hW6]
      clear hW6 hx0 hx9 hx14 he1
      have hx0 := Hr2.out.cell (getD_word (Sha.sched m i) i (by rw [Hl.out]; omega))
      have hx9 := Hr2.out.cell (getD_word (Sha.sched m i) (i + 9) (by rw [Hl.out]; omega))
      have hx16 := Hr2.out.cell (getD_word (Sha.sched m i) (16 + i) (by rw [Hl.out]; omega))
      have hfr := frozen_row Hr2.out (16 + i)
      go_wp2_with fail
      go_still_tail 15, Pol.mixed
      change wpList _ _ _ _ _ W6.drew
      go_wp2
      rw [sum4_is]
      go_roundw
      case rel =>
        refine ⟨i + 1, by omega, by simp, (Hr1.out.other _ _ (by dsimp only; omega)).drewN 1, ?_, (Hbel.out.setCell (by dsimp only; omega) _).drew⟩
        have := (Hr2.out.set (16 + i) (wv (Sha.next (Sha.sched m i) i))).drewN 1
        rw [← List.map_set] at this
        exact this
      case measure => simp [intOf]; omega
    · have h48' : ¬ (i : Int) < 48 := by omega
      have : i = 48 := by omega
      subst this
      obtain ⟨s, hs⟩ : ∃ s, Sha.sched m 48 = s := ⟨_, rfl⟩
      rw [hs] at Hr2 Hl
      have Hml := Lib.hid (show (s.map wv).length = 64 by rw [List.length_map]; exact Hl.out)
      have HS := Lib.hid hs
      clear hs
      go_wp2_with (first
        | (refine wpList_loadRow rfl 78 _ rfl rfl Hr2.out Tryd.underlying78 rfl (by kernel_rfl) Hml.out ?_)
        | (refine wpList_storeRow rfl 78 _ _ rfl rfl rfl Hr1.out (by kernel_rfl) Hml.out (by simp) (words_one s) ?_))
      refine bodyPost_ret (results_row rfl _ rfl (Hr1.out.setRow (s.map wv)) Tryd.underlying78 rfl (by kernel_rfl) Hml.out) rfl ?_
      exact ⟨by rw [HS.out], below_setRow Hbel.out (by omega) _⟩
end Go.Proofs.YtpllbnioncjhaaaDoor
