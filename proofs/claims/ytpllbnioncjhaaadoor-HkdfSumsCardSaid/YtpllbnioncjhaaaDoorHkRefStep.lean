/- The reference's state behind a block. -/
import Derived.Test.YtpllbnioncjhaaaDoorHkComp
namespace Go.Proofs.YtpllbnioncjhaaaDoor
open Go.RowKit
namespace Sha
theorem or_add (X : Wd) (u : UInt8) : X <<< 8 ||| wb u = X <<< 8 + wb u := by
  apply BitVec.eq_of_toNat_eq
  have hu : (wb u).toNat = u.toNat := by have := w_byte u; omega
  have h := u.toNat_lt
  rw [BitVec.toNat_or, BitVec.toNat_add, BitVec.toNat_shiftLeft, hu, Nat.shiftLeft_eq]
  rw [show X.toNat * 2 ^ 8 % 2 ^ 32 = 2 ^ 8 * (X.toNat % 2 ^ 24) by omega, ← Nat.two_pow_add_eq_or_of_lt (by omega)]
  omega
/-- The i-th word of a block: its first byte is the highest. -/
def be (l : List UInt8) (i : Nat) : Wd := wb (l.getD (4 * i) 0) <<< 24 + wb (l.getD (4 * i + 1) 0) <<< 16 + wb (l.getD (4 * i + 2) 0) <<< 8 + wb (l.getD (4 * i + 3) 0)
theorem be_is (a b c d : UInt8) : (((0#32 <<< 8 ||| wb a) <<< 8 ||| wb b) <<< 8 ||| wb c) <<< 8 ||| wb d = wb a <<< 24 + wb b <<< 16 + wb c <<< 8 + wb d := by
  rw [or_add, or_add, or_add, or_add]
  apply BitVec.eq_of_toNat_eq
  simp only [BitVec.toNat_add, BitVec.toNat_shiftLeft, Nat.shiftLeft_eq, BitVec.toNat_ofNat]
  omega
/-- The words of a block as far as they are read. -/
def rw_ (l : List UInt8) : Nat → List Wd
  | 0 => List.replicate 64 0#32
  | i + 1 => (rw_ l i).set i (be l i)
theorem rw_length (l : List UInt8) (i : Nat) : (rw_ l i).length = 64 := by
  induction i with
  | zero => rfl
  | succ i ih => rw [rw_, List.length_set, ih]
theorem rw_zero (l : List UInt8) (i j : Nat) (h : i ≤ j) : at_ (rw_ l i) j = 0#32 := by
  induction i with
  | zero => rw [rw_, at_, List.getD_eq_getElem?_getD, List.getElem?_replicate]; split <;> rfl
  | succ i ih =>
    have := ih (by omega)
    rw [at_, List.getD_eq_getElem?_getD] at this ⊢
    rw [rw_, List.getElem?_set_ne (by omega)]
    exact this
theorem put_at (B : List Wd) (k j : Nat) (X : Wd) (c : UInt8) (hj : j < 4) (hk : k < B.length) : put (B.set k X) (4 * k + j) c = B.set k (X <<< 8 ||| wb c) := by
  rw [put, show (4 * k + j) / 4 = k by omega, List.set_set, at_, List.getD_eq_getElem?_getD, List.getElem?_set_self hk]
  rfl
theorem feed_rw (l : List UInt8) (h : l.length = 64) : ∀ k, k ≤ 16 → feed zeros16 0 (l.take (4 * k)) ++ List.replicate 48 0#32 = rw_ l k := by
  intro k
  induction k with
  | zero => intro _; rfl
  | succ k ih =>
    intro hk
    have hi := ih (by omega)
    have hg : ∀ j, j < 64 → l[j]? = some (l.getD j 0) := fun j hj => by rw [List.getD_eq_getElem?_getD, List.getElem?_eq_getElem (by omega)]; rfl
    have e : l.take (4 * (k + 1)) = l.take (4 * k) ++ [l.getD (4 * k) 0, l.getD (4 * k + 1) 0, l.getD (4 * k + 2) 0, l.getD (4 * k + 3) 0] := by
      rw [show 4 * (k + 1) = 4 * k + 1 + 1 + 1 + 1 by omega, List.take_add_one, List.take_add_one, List.take_add_one, List.take_add_one, hg _ (by omega), hg _ (by omega), hg _ (by omega), hg _ (by omega)]
      simp
    have hl : (l.take (4 * k)).length = 4 * k := by rw [List.length_take]; omega
    obtain ⟨B, hB⟩ : ∃ B, feed zeros16 0 (l.take (4 * k)) = B := ⟨_, rfl⟩
    have hBl : B.length = 16 := by rw [← hB, feed_length]; rfl
    have hz := rw_zero l k k (by omega)
    rw [hB] at hi
    rw [← hi, at_, List.getD_eq_getElem?_getD, List.getElem?_append_left (by omega)] at hz
    have hself : B = B.set k 0#32 := by
      apply List.ext_getElem?
      intro j
      rw [List.getElem?_set]
      split
      · next hkj =>
        subst hkj
        rw [List.getElem?_eq_getElem (by omega)] at hz ⊢
        rw [if_pos (by omega)]
        exact congrArg some hz
      · rfl
    rw [e, feed_append, hB, hl, Nat.zero_add, rw_, ← hi]
    rw [List.set_append_left _ _ (by omega)]
    congr 1
    rw [feed, feed, feed, feed, feed]
    conv => lhs; rw [hself]
    rw [show 4 * k + 1 + 1 = 4 * k + 2 by omega, show 4 * k + 2 + 1 = 4 * k + 3 by omega]
    have e0 := put_at B k 0 0#32 (l.getD (4 * k) 0) (by omega) (by omega)
    rw [Nat.add_zero] at e0
    rw [e0, put_at _ _ _ _ _ (by omega) (by omega), put_at _ _ _ _ _ (by omega) (by omega), put_at _ _ _ _ _ (by omega) (by omega), be_is]
    rfl
theorem rw_all (l : List UInt8) (h : l.length = 64) : rw_ l 16 = sched (words l) 0 := by
  rw [← feed_rw l h 16 (by omega), sched, words]
theorem ofList_toList : ∀ s : List Wd, s.length = 8 → (ofList s).toList = s
  | [_, _, _, _, _, _, _, _], _ => rfl
theorem rotr_or (x : Wd) (n : Nat) : x >>> n ||| x <<< (32 - n) = rotr x n := by rw [rotr, BitVec.or_comm]
end Sha

theorem turn_any (x : BitVec 32) (n : Nat) (hn : n ∈ rights) (w : World) : Calls Tryd.prog 55 #[wv x, .int .u64 (n : Int)] w fun e w' => e = .returned (wv (Sha.rotr x n)) ∧ w = w' := by
  obtain ⟨_, hlt⟩ := rights_bits n hn
  obtain ⟨m, hm⟩ : ∃ m, 32 - n = m := ⟨_, rfl⟩
  have hu : IntKind.u64.wrap (32 - (n : Int)) = (m : Int) := by rw [show (32 : Int) - (n : Int) = (m : Int) by omega]; exact IntWalk.u64_in _ (by omega)
  have hu' : 32 - (n : Int) = (m : Int) := by omega
  have e1 : (x.toNat : Int) * 2 ^ m % 4294967296 = ((x <<< m).toNat : Int) := by rw [← w_shl x m, Int.natCast_pow]; rfl
  have e2 : (x.toNat : Int) / 2 ^ n = ((x >>> n).toNat : Int) := by rw [← w_shr x n, Int.natCast_pow]; rfl
  have E1 := Lib.hid e1
  have E2 := Lib.hid e2
  have Hm := Lib.hid hm
  clear e1 e2 hm hn
  go_enter Tryd.func55, Tryd.ntmps55
  go_wp2
  rw [E1.out, E2.out, w_or]
  go_ret
  exact ⟨by rw [← Sha.rotr_or, Hm.out]; rfl, rfl⟩

theorem turn_same (x : BitVec 32) (n : Nat) (hn : n ∈ rights) (w : World) : Calls Tryd.prog 55 #[wv x, .int .u64 (n : Int)] w fun e w' => e = .returned (wv (Sha.rotr x n)) ∧ w' = w :=
  (turn_any x n hn w).mono fun _ _ h => ⟨h.1, h.2.symm⟩
theorem be_val (a b c d : UInt8) : ((a.toNat : Int) * (16777216 : Int) % (4294967296 : Int) + (b.toNat : Int) * (65536 : Int) % (4294967296 : Int) + (c.toNat : Int) * (256 : Int) % (4294967296 : Int) + (d.toNat : Int)) % (4294967296 : Int) = ((wb a <<< 24 + wb b <<< 16 + wb c <<< 8 + wb d).toNat : Int) := by
  rw [w_byte a, w_byte b, w_byte c, w_byte d, w_shl24, w_shl16, w_shl8, sum4_is]
theorem be_flat (a b c d : UInt8) : ((a.toNat : Int) * (16777216 : Int) + (b.toNat : Int) * (65536 : Int) + (c.toNat : Int) * (256 : Int) + (d.toNat : Int)) % (4294967296 : Int) = ((wb a <<< 24 + wb b <<< 16 + wb c <<< 8 + wb d).toNat : Int) := by
  rw [← be_val]
  omega

theorem wrap_add (x y : BitVec 32) : IntKind.u32.wrap ((x.toNat : Int) + (y.toNat : Int)) = ((x + y).toNat : Int) := by
  rw [← w_add]
  unfold IntKind.wrap
  simp [IntKind.bits, IntKind.signed]
section
variable {P : Program} {ops : Array Oper} {Q : Exit → Act → World → Prop}
theorem wpList_still {w : World} {r : List Oper} : ∀ (l : List Oper) (a : Act), wpStill P ops w (fun a' => wpList P ops Q r a' w) l a → wpList P ops Q (l ++ r) a w
  | [], _, h => h
  | o :: l, a, h => by
    have h' : if Region.wanted o (yielded ops a.tmps) then o.still P a w (wpStill P ops w (fun a' => wpList P ops Q r a' w) l) else wpStill P ops w (fun a' => wpList P ops Q r a' w) l (a.put o.dst undef) := h
    show if Region.wanted o (yielded ops a.tmps) then o.wp P a w (wpList P ops Q (l ++ r)) Q ∨ (o.asks P a w ∧ LetsOut Q) else wpList P ops Q (l ++ r) (a.put o.dst undef) w
    split at h'
    · rename_i hw
      rw [if_pos hw]
      exact .inl (Oper.wp_of_still (fun a' => wpList_still l a') h')
    · rename_i hw
      rw [if_neg hw]
      exact wpList_still l _ h'
/-- A region that does not draw: quiet operations, then the rest. -/
theorem wp_region_plain_tail {id : Nat} {l : List Oper} {a : Act} {w : World} (n : Nat) (h : wpStill P l.toArray w (fun a' => wpList P l.toArray Q (l.drop n) a' w) (l.take n) a) : (Code.region id l.toArray false).wp P Q a w := by
  have h' := wpList_still _ _ h
  rw [List.take_append_drop] at h'
  exact wp_region_lit h'
end
set_option maxRecDepth 8000 in
set_option maxHeartbeats 1500000 in
theorem RStep_any (s : List (BitVec 32)) (hs : s.length = 8) (l : List UInt8) (hl : l.length = 64) (v : Value) (w : World) (ht : Tab w) (hv : Bs w w.heap.size v l) :
    Calls Tryd.prog 36 #[arr32 s, v] w fun e w' => e = .returned (arr32 (Sha.comp s (Sha.words l))) ∧ Below w.heap.size w w' := by
  have Hs := Lib.hid hs
  have Hl := Lib.hid hl
  have Ht := Lib.hid ht
  have Hsl := Lib.hid (show (s.map wv).length = 8 by simpa using hs)
  have Hv := Lib.hid hv
  obtain ⟨A, c, rfl, hc, hcs⟩ := hv
  obtain ⟨pb, po, rfl, hpb, hcell0⟩ := hcs (by intro h; rw [h] at hl; simp at hl)
  have Hcell := Lib.hid hcell0
  have Hpb := Lib.hid hpb
  have hc64 : 64 ≤ c := by omega
  rw [hl]
  clear hs hl ht hcell0 hpb hc hcs Hv
  unfold arr32
  go_enter Tryd.func36, Tryd.ntmps36
  go_wp2_with fail
  obtain ⟨W, hW⟩ : ∃ W, ((w.alloc (.cells (s.map wv).toArray 56)).alloc (.cells ((List.replicate 8 0#32).map wv).toArray 56)).alloc (.cells ((List.replicate 64 0#32).map wv).toArray 78) = W := ⟨_, rfl⟩
  have hr0 : Row W w.heap.size (s.map wv) 56 := hW ▸ ((Row.new rfl rfl).alloc _).alloc _
  have hr1 : Row W (w.heap.size + 1) ((List.replicate 8 0#32).map wv) 56 := hW ▸ (Row.new (by simp) rfl).alloc _
  have hr2 : Row W (w.heap.size + 1 + 1) ((List.replicate 64 0#32).map wv) 78 := hW ▸ Row.new (by simp) rfl
  have hb : Below w.heap.size w W := hW ▸ (((Below.refl _ w).alloc (Nat.le_refl _) _).alloc (by simp) _).alloc (by simp; omega) _
  refine code_world hW ?_
  clear hW
  have Hr0 := Lib.hid hr0
  have Hr1 := Lib.hid hr1
  have Hr2 := Lib.hid hr2
  have Hb := Lib.hid hb
  clear hr0 hr1 hr2 hb
  go_loopw [6] (fun iv wr => ∃ i : Nat, i ≤ 16 ∧ iv = .int .i64 (i : Int) ∧ Row wr w.heap.size (s.map wv) 56 ∧ Row wr (w.heap.size + 1) ((List.replicate 8 0#32).map wv) 56 ∧ Row wr (w.heap.size + 1 + 1) ((Sha.rw_ l i).map wv) 78 ∧ Below w.heap.size w wr) (fun iv _ => 16 - (intOf iv).toNat)
  case atStart => exact ⟨0, by omega, rfl, Hr0.out, Hr1.out, Hr2.out, Hb.out⟩
  case round =>
    obtain ⟨i, hi, rfl, hr0, hr1, hr2, hb⟩ := hrel
    have Hr0 := Lib.hid hr0
    have Hr1 := Lib.hid hr1
    have Hr2 := Lib.hid hr2
    have Hb := Lib.hid hb
    clear hr0 hr1 hr2 hb
    by_cases h16 : i < 16
    · have h16' : (i : Int) < 16 := by omega
      have hg : ∀ j, j < 64 → wr.cell? ⟨pb, po + j, none⟩ = some (.int .u8 ((l.getD j 0).toNat : Int)) := fun j hj => by
        refine (Hb.out.cell (p := ⟨pb, po + j, none⟩) Hpb.out).trans (Hcell.out j _ ?_)
        rw [List.getD_eq_getElem?_getD, List.getElem?_eq_getElem (by rw [Hl.out]; omega)]; rfl
      have hx0 := hg (4 * i) (by omega)
      have hx1 := hg (4 * i + 1) (by omega)
      have hx2 := hg (4 * i + 2) (by omega)
      have hx3 := hg (4 * i + 3) (by omega)
      have hu : ∀ x : UInt8, IntKind.u32.wrap (x.toNat : Int) = (x.toNat : Int) := fun x => wrap_u32_lt _ (by have := x.toNat_lt; omega)
      have Hu := Lib.hid hu
      have hw0 : IntKind.i64.wrap (4 * (i : Int)) = 4 * (i : Int) := IntWalk.i64_in _ (by omega)
      have hw1 : IntKind.i64.wrap (4 * (i : Int) + 1) = 4 * (i : Int) + 1 := IntWalk.i64_in _ (by omega)
      have hw2 : IntKind.i64.wrap (4 * (i : Int) + 2) = 4 * (i : Int) + 2 := IntWalk.i64_in _ (by omega)
      have hw3 : IntKind.i64.wrap (4 * (i : Int) + 3) = 4 * (i : Int) + 3 := IntWalk.i64_in _ (by omega)
      have hb0 : 0 ≤ 4 * (i : Int) ∧ 4 * (i : Int) < 64 := by omega
      have hb1 : 0 ≤ 4 * (i : Int) + 1 ∧ 4 * (i : Int) + 1 < 64 := by omega
      have hb2 : 0 ≤ 4 * (i : Int) + 2 ∧ 4 * (i : Int) + 2 < 64 := by omega
      have hb3 : 0 ≤ 4 * (i : Int) + 3 ∧ 4 * (i : Int) + 3 < 64 := by omega
      have hb4 : 0 ≤ (i : Int) ∧ (i : Int) < 64 := by omega
      have ht0 : (4 * (i : Int)).toNat = 4 * i := by omega
      have ht1 : (4 * (i : Int) + 1).toNat = 4 * i + 1 := by omega
      have ht2 : (4 * (i : Int) + 2).toNat = 4 * i + 2 := by omega
      have ht3 : (4 * (i : Int) + 3).toNat = 4 * i + 3 := by omega
      have hbe : Sha.be l i = wb (l.getD (4 * i) 0) <<< 24 + wb (l.getD (4 * i + 1) 0) <<< 16 + wb (l.getD (4 * i + 2) 0) <<< 8 + wb (l.getD (4 * i + 3) 0) := rfl
      have hbe2 := be_flat (l.getD (4 * i) 0) (l.getD (4 * i + 1) 0) (l.getD (4 * i + 2) 0) (l.getD (4 * i + 3) 0)
      rw [← hbe] at hbe2
      have Hbe := Lib.hid hbe2
      clear hg hu hbe hbe2
      generalize l.getD (4 * i) 0 = x0 at hx0 Hbe
      generalize l.getD (4 * i + 1) 0 = x1 at hx1 Hbe
      generalize l.getD (4 * i + 2) 0 = x2 at hx2 Hbe
      generalize l.getD (4 * i + 3) 0 = x3 at hx3 Hbe
      have hu0 := Hu.out x0
      have hu1 := Hu.out x1
      have hu2 := Hu.out x2
      have hu3 := Hu.out x3
      have hfr := frozen_row Hr2.out i
      have hcw := Hr2.out.cell (getD_word (Sha.rw_ l i) i (by rw [Sha.rw_length]; omega))
      go_wp2_with fail
      go_still_tail 34, Pol.mixed
      change wpList _ _ _ _ _ wr.drew
      go_wp2
      rw [Hbe.out]
      go_roundw
      case rel =>
        refine ⟨i + 1, by omega, by simp, (Hr0.out.other _ _ (by dsimp only; omega)).drewN 1, (Hr1.out.other _ _ (by dsimp only; omega)).drewN 1, ?_, (Hb.out.setCell (by dsimp only; omega) _).drew⟩
        have := (Hr2.out.set i (wv (Sha.be l i))).drewN 1
        rw [← List.map_set] at this
        rw [Sha.rw_]
        exact this
      case measure => simp [intOf]; omega
    · have h16' : ¬ (i : Int) < 16 := by omega
      have : i = 16 := by omega
      subst this
      have Hr2 := Lib.hid (show Row wr (w.heap.size + 1 + 1) ((Sha.sched (Sha.words l) 0).map wv) 78 by have := Hr2.out; rw [Sha.rw_all l Hl.out] at this; exact this)
      obtain ⟨m, hm⟩ : ∃ m, Sha.words l = m := ⟨_, rfl⟩
      have Hml := Lib.hid (show m.length = 16 by rw [← hm]; exact Sha.words_length l)
      rw [hm] at Hr2
      have HM := Lib.hid hm
      clear hm Hl Hcell Hpb
      go_wp2_with fail
      go_loopw [7] (fun iv wr => ∃ i : Nat, i ≤ 48 ∧ iv = .int .i64 ((16 + i : Nat) : Int) ∧ Row wr w.heap.size (s.map wv) 56 ∧ Row wr (w.heap.size + 1) ((List.replicate 8 0#32).map wv) 56 ∧ Row wr (w.heap.size + 1 + 1) ((Sha.sched m i).map wv) 78 ∧ Below w.heap.size w wr) (fun iv _ => 64 - (intOf iv).toNat)
      case atStart => exact ⟨0, by omega, rfl, Hr0.out, Hr1.out, Hr2.out, Hb.out⟩
      case round =>
        obtain ⟨i, hi, rfl, hr0, hr1, hr2, hb⟩ := hrel
        have Hr0 := Lib.hid hr0
        have Hr1 := Lib.hid hr1
        have Hr2 := Lib.hid hr2
        have Hb := Lib.hid hb
        have Hln := Lib.hid (show (Sha.sched m i).length = 64 by rw [Sha.sched_length, Hml.out])
        clear hr0 hr1 hr2 hb
        obtain ⟨n, hn⟩ : ∃ n, 16 + i = n := ⟨_, rfl⟩
        rw [hn]
        by_cases h48 : i < 48
        · have h64' : (n : Int) < 64 := by omega
          have hx0 := Hr2.out.cell (getD_word (Sha.sched m i) i (by rw [Hln.out]; omega))
          have hx1 := Hr2.out.cell (getD_word (Sha.sched m i) (i + 1) (by rw [Hln.out]; omega))
          have hx9 := Hr2.out.cell (getD_word (Sha.sched m i) (i + 9) (by rw [Hln.out]; omega))
          have hx14 := Hr2.out.cell (getD_word (Sha.sched m i) (i + 14) (by rw [Hln.out]; omega))
          have hw15 : IntKind.i64.wrap ((n : Int) - 15) = (n : Int) - 15 := IntWalk.i64_in _ (by omega)
          have hw2 : IntKind.i64.wrap ((n : Int) - 2) = (n : Int) - 2 := IntWalk.i64_in _ (by omega)
          have hb15 : 0 ≤ (n : Int) - 15 ∧ (n : Int) - 15 < 64 := by omega
          have hb2 : 0 ≤ (n : Int) - 2 ∧ (n : Int) - 2 < 64 := by omega
          have ht15 : ((n : Int) - 15).toNat = i + 1 := by omega
          have ht2 : ((n : Int) - 2).toNat = i + 14 := by omega
          go_wp2_with fail
          go_quiet (fail)
          obtain ⟨W5, hW5⟩ : ∃ W5, wr.drewN nq = W5 := ⟨_, rfl⟩
          have Hr0 := Lib.hid (Hr0.out.drewN nq)
          have Hr1 := Lib.hid (Hr1.out.drewN nq)
          have Hr2 := Lib.hid (Hr2.out.drewN nq)
          have Hb := Lib.hid (below_drewN Hb.out nq)
          rw [hW5] at Hr0 Hr1 Hr2 Hb
          rw [hW5]
          clear hW5 hx0 hx1 hx9 hx14 hw15 hw2 hb15 hb2 ht15 ht2
          have hx0 := Hr2.out.cell (getD_word (Sha.sched m i) i (by rw [Hln.out]; omega))
          have hx9 := Hr2.out.cell (getD_word (Sha.sched m i) (i + 9) (by rw [Hln.out]; omega))
          have hx16 := Hr2.out.cell (getD_word (Sha.sched m i) n (by rw [Hln.out]; omega))
          have hfr := frozen_row Hr2.out n
          have hw7 : IntKind.i64.wrap ((n : Int) - 7) = (n : Int) - 7 := IntWalk.i64_in _ (by omega)
          have hw16 : IntKind.i64.wrap ((n : Int) - 16) = (n : Int) - 16 := IntWalk.i64_in _ (by omega)
          have hb7 : 0 ≤ (n : Int) - 7 ∧ (n : Int) - 7 < 64 := by omega
          have hb16 : 0 ≤ (n : Int) - 16 ∧ (n : Int) - 16 < 64 := by omega
          have hbn : 0 ≤ (n : Int) ∧ (n : Int) < 64 := by omega
          have hq7 : (7 : Int) ≤ (n : Int) := by omega
          have hq16 : (16 : Int) ≤ (n : Int) := by omega
          have hq7' : 7 ≤ n := by omega
          have hq16' : 16 ≤ n := by omega
          have hm7 : (n : Int) - 7 < 64 := by omega
          have hm16 : (n : Int) - 16 < 64 := by omega
          have ht7 : ((n : Int) - 7).toNat = i + 9 := by omega
          have ht16 : ((n : Int) - 16).toNat = i := by omega
          obtain ⟨x, hx⟩ : ∃ x, Sha.at_ (Sha.sched m i) (i + 1) = x := ⟨_, rfl⟩
          obtain ⟨y, hy⟩ : ∃ y, Sha.at_ (Sha.sched m i) (i + 14) = y := ⟨_, rfl⟩
          have hnx := Lib.hid (show Sha.next (Sha.sched m i) i = Sha.s1 y + Sha.at_ (Sha.sched m i) (i + 9) + Sha.s0 x + Sha.at_ (Sha.sched m i) i by rw [Sha.next, hx, hy])
          rw [hx, hy]
          clear hx hy
          have he0 := s0_is x
          have he1 := s1_is y
          go_wp2_with fail
          refine wp_region_still_tail 28 Pol.mixed (by kernel_rfl) ?_
          simp only [List.take_succ_cons, List.take_zero, List.drop_succ_cons, List.drop_zero]
          repeat (first | still_step | still_call (turn_same _ _ (by decide) _))
          try refine wpStill_nil ?_
          change wpList _ _ _ _ _ W5.drew
          go_wp2
          rw [sum4_is]
          go_roundw
          case rel =>
            refine ⟨i + 1, by omega, by rw [← hn]; exact congrArg (Value.int .i64) (by omega), (Hr0.out.other _ _ (by dsimp only; omega)).drewN 1, (Hr1.out.other _ _ (by dsimp only; omega)).drewN 1, ?_, (Hb.out.setCell (by dsimp only; omega) _).drew⟩
            have := (Hr2.out.set n (wv (Sha.next (Sha.sched m i) i))).drewN 1
            rw [← List.map_set, hnx.out] at this
            rw [Sha.sched, hn, hnx.out]
            exact this
          case measure => simp [intOf]; omega
        · have : i = 48 := by omega
          subst this
          have : n = 64 := by omega
          subst this
          clear hn
          obtain ⟨ws, hws⟩ : ∃ ws, Sha.sched m 48 = ws := ⟨_, rfl⟩
          rw [hws] at Hr2 Hln
          have HWS := Lib.hid hws
          clear hws
          go_wp2_with (first
            | (refine wpList_loadRow rfl 56 _ rfl rfl Hr0.out Tryd.underlying56 rfl (by kernel_rfl) Hsl.out ?_)
            | (refine wpList_storeRow rfl 56 _ _ rfl rfl rfl (old := (List.replicate 8 0#32).map wv) (Row.new rfl rfl) (by kernel_rfl) Hsl.out (by simp) (words_one s) ?_)
            | fail)
          have hr0 := (Hr0.out.alloc (.cells ((List.replicate 8 0#32).map wv).toArray 56)).setOther wr.heap.size (s.map wv).toArray (by have := Hr0.out.lt; omega)
          have hr1 := (Hr1.out.alloc (.cells ((List.replicate 8 0#32).map wv).toArray 56)).setOther wr.heap.size (s.map wv).toArray (by have := Hr1.out.lt; omega)
          have hr2 := (Hr2.out.alloc (.cells ((List.replicate 8 0#32).map wv).toArray 56)).setOther wr.heap.size (s.map wv).toArray (by have := Hr2.out.lt; omega)
          have hr3 : Row ((wr.alloc (.cells ((List.replicate 8 0#32).map wv).toArray 56)).setRow wr.heap.size (s.map wv).toArray) wr.heap.size (s.map wv) 56 := (Row.new (cs := (List.replicate 8 0#32).map wv) rfl rfl).setRow (s.map wv)
          have hb5 := below_setRow (Hb.out.alloc (by have := Hr2.out.lt; omega) (.cells ((List.replicate 8 0#32).map wv).toArray 56)) (show w.heap.size ≤ wr.heap.size by have := Hr2.out.lt; omega) (s.map wv).toArray
          have hlt := Hr2.out.lt
          obtain ⟨V, hV⟩ : ∃ V, (wr.alloc (.cells ((List.replicate 8 0#32).map wv).toArray 56)).setRow wr.heap.size (s.map wv).toArray = V := ⟨_, rfl⟩
          refine code_world hV ?_
          rw [hV] at hr0 hr1 hr2 hr3 hb5
          obtain ⟨g, hg⟩ : ∃ g, wr.heap.size = g := ⟨_, rfl⟩
          rw [hg] at hr3 hlt ⊢
          have Hg := Lib.hid hlt
          have Hr0 := Lib.hid hr0
          have Hr1 := Lib.hid hr1
          have Hr2 := Lib.hid hr2
          have Hr3 := Lib.hid (show Row V g ((Sha.ofList s).toList.map wv) 56 by rw [Sha.ofList_toList s Hs.out]; exact hr3)
          have Hb := Lib.hid hb5
          clear hV hr0 hr1 hr2 hr3 hb5 hg hlt
          go_loopw [11] (fun iv wr => ∃ (i : Nat) (t : Sha.St), i ≤ 64 ∧ iv = .int .i64 (i : Int) ∧ Sha.rnds ws (Sha.ofList s) i = t ∧ Row wr w.heap.size (s.map wv) 56 ∧ Row wr (w.heap.size + 1) ((List.replicate 8 0#32).map wv) 56 ∧ Row wr (w.heap.size + 1 + 1) (ws.map wv) 78 ∧ Row wr g (t.toList.map wv) 56 ∧ Below w.heap.size w wr) (fun iv _ => 64 - (intOf iv).toNat)
          case atStart => exact ⟨0, Sha.ofList s, by omega, rfl, rfl, Hr0.out, Hr1.out, Hr2.out, Hr3.out, Hb.out⟩
          case round =>
            obtain ⟨i, t, hi, rfl, ht, hr0, hr1, hr2, hr3, hb⟩ := hrel
            have Hr0 := Lib.hid hr0
            have Hr1 := Lib.hid hr1
            have Hr2 := Lib.hid hr2
            have Hr3 := Lib.hid hr3
            have Hb := Lib.hid hb
            have HT := Lib.hid ht
            clear hr0 hr1 hr2 hr3 hb ht
            by_cases h64 : i < 64
            · have h64' : (i : Int) < 64 := by omega
              have hc0 := Hr3.out.cell (show (t.toList.map wv)[0]? = some (wv t.a) from rfl)
              have hc4 := Hr3.out.cell (show (t.toList.map wv)[4]? = some (wv t.e) from rfl)
              go_wp2_with fail
              go_quiet (fail)
              obtain ⟨W5, hW5⟩ : ∃ W5, wr.drewN nq = W5 := ⟨_, rfl⟩
              have Hr0 := Lib.hid (Hr0.out.drewN nq)
              have Hr1 := Lib.hid (Hr1.out.drewN nq)
              have Hr2 := Lib.hid (Hr2.out.drewN nq)
              have Hr3 := Lib.hid (Hr3.out.drewN nq)
              have Hb := Lib.hid (below_drewN Hb.out nq)
              rw [hW5] at Hr0 Hr1 Hr2 Hr3 Hb
              rw [hW5]
              clear hW5 hc0 hc4
              have hc5 := Hr3.out.cell (show (t.toList.map wv)[5]? = some (wv t.f) from rfl)
              have hc6 := Hr3.out.cell (show (t.toList.map wv)[6]? = some (wv t.g) from rfl)
              have hc7 := Hr3.out.cell (show (t.toList.map wv)[7]? = some (wv t.h) from rfl)
              have hk := (Ht.out.below Hb.out Ht.out.1).2 i h64
              have hw := Hr2.out.cell (getD_word ws i (by rw [Hln.out]; omega))
              have hS1 := S1_is t.e
              go_wp2_with fail
              go_quiet ((go_at_call 55; exact quiet_same fun W hW => turn_any _ _ (by decide) W))
              rw [tOf_is]
              obtain ⟨V3, hV3⟩ : ∃ V3, W5.drewN nq = V3 := ⟨_, rfl⟩
              have Hr0 := Lib.hid (Hr0.out.drewN nq)
              have Hr1 := Lib.hid (Hr1.out.drewN nq)
              have Hr2 := Lib.hid (Hr2.out.drewN nq)
              have Hr3 := Lib.hid (Hr3.out.drewN nq)
              have Hb := Lib.hid (below_drewN Hb.out nq)
              rw [hV3] at Hr0 Hr1 Hr2 Hr3 Hb
              rw [hV3]
              clear hV3 hc5 hc6 hc7 hk hw hS1
              obtain ⟨T, hT⟩ : ∃ T, Sha.tOf t (Sha.at_ Sha.K i) (Sha.at_ ws i) = T := ⟨_, rfl⟩
              obtain ⟨U, hU⟩ : ∃ U, Sha.uOf t = U := ⟨_, rfl⟩
              rw [hT]
              have HTT := Lib.hid hT
              have HUU := Lib.hid hU
              clear hT hU
              rename_i hK
              simp only [Exit.then]
              refine hK _ _ ?_
              clear hK
              have hc1 := Hr3.out.cell (show (t.toList.map wv)[1]? = some (wv t.b) from rfl)
              have hc2 := Hr3.out.cell (show (t.toList.map wv)[2]? = some (wv t.c) from rfl)
              have hS0 := S0_is t.a
              refine wp_seq_k fun K2 hK2 => ?_
              go_quiet ((go_at_call 55; exact quiet_same fun W hW => turn_any _ _ (by decide) W))
              obtain ⟨V4, hV4⟩ : ∃ V4, V3.drewN nq = V4 := ⟨_, rfl⟩
              have Hr0 := Lib.hid (Hr0.out.drewN nq)
              have Hr1 := Lib.hid (Hr1.out.drewN nq)
              have Hr2 := Lib.hid (Hr2.out.drewN nq)
              have Hr3 := Lib.hid (Hr3.out.drewN nq)
              have Hb := Lib.hid (below_drewN Hb.out nq)
              rw [hV4] at Hr0 Hr1 Hr2 Hr3 Hb
              rw [hV4]
              clear hV4 hc1 hc2 hS0
              rw [uOf_is, HUU.out]
              simp only [Exit.then]
              refine hK2 _ _ ?_
              clear hK2
              have hc0 := Hr3.out.cell (show (t.toList.map wv)[0]? = some (wv t.a) from rfl)
              have hc1 := Hr3.out.cell (show (t.toList.map wv)[1]? = some (wv t.b) from rfl)
              have hc2 := Hr3.out.cell (show (t.toList.map wv)[2]? = some (wv t.c) from rfl)
              have hc3 := Hr3.out.cell (show (t.toList.map wv)[3]? = some (wv t.d) from rfl)
              have hc4 := Hr3.out.cell (show (t.toList.map wv)[4]? = some (wv t.e) from rfl)
              have hc5 := Hr3.out.cell (show (t.toList.map wv)[5]? = some (wv t.f) from rfl)
              have hc6 := Hr3.out.cell (show (t.toList.map wv)[6]? = some (wv t.g) from rfl)
              refine wp_region_plain_tail 20 ?_
              simp only [List.take_succ_cons, List.take_zero, List.drop_succ_cons, List.drop_zero]
              repeat still_step
              refine wpStill_nil ?_
              rw [wrap_add T U, wrap_add t.d T]
              refine wpList_storeRow (n := 8) rfl 56 (.tmp 10) (.tmp 179) rfl rfl rfl (cs := [T + U, t.a, t.b, t.c, t.d + T, t.e, t.f, t.g].map wv) (old := t.toList.map wv) Hr3.out (by kernel_rfl) rfl rfl (words_one _) ?_
              have hgne : w.heap.size + 1 + 1 < g := Hg.out
              go_wp2
              go_roundw
              case rel =>
                refine ⟨i + 1, _, h64, by simp, rnd_eq HT.out, Hr0.out.setOther g _ (by omega), Hr1.out.setOther g _ (by omega), Hr2.out.setOther g _ (by omega), ?_, below_setRow Hb.out (by omega) _⟩
                have := Hr3.out.setRow ([T + U, t.a, t.b, t.c, t.d + T, t.e, t.f, t.g].map wv)
                rw [Sha.rnd, HTT.out, HUU.out]
                exact this
              case measure => simp [intOf]; omega
            · have h64' : ¬ (i : Int) < 64 := by omega
              have : i = 64 := by omega
              subst this
              obtain ⟨B, hB⟩ : ∃ B, Sha.comp s m = B := ⟨_, rfl⟩
              have hB2 : Sha.upd s t.toList 8 = B := by rw [← hB, Sha.upd_all _ _ Hs.out rfl, Sha.comp, HWS.out, HT.out]
              have hBl : B.length = 8 := by rw [← hB]; exact Sha.comp_length _ _ Hs.out
              have HB := Lib.hid hB
              have HB2 := Lib.hid hB2
              have HBl := Lib.hid hBl
              clear hB hB2 hBl
              go_wp2_with fail
              go_loopw [16] (fun iv wq => ∃ i : Nat, i ≤ 8 ∧ iv = .int .i64 (i : Int) ∧ Row wq w.heap.size ((Sha.upd s t.toList i).map wv) 56 ∧ Row wq (w.heap.size + 1) ((List.replicate 8 0#32).map wv) 56 ∧ Row wq g (t.toList.map wv) 56 ∧ Below w.heap.size w wq) (fun iv _ => 8 - (intOf iv).toNat)
              case atStart => exact ⟨0, by omega, rfl, Hr0.out, Hr1.out, Hr3.out, Hb.out⟩
              case round =>
                obtain ⟨i, hi, rfl, hr0, hr1, hr3, hb⟩ := hrel
                have Hr0 := Lib.hid hr0
                have Hr1 := Lib.hid hr1
                have Hr3 := Lib.hid hr3
                have Hb := Lib.hid hb
                have Hl8 := Lib.hid (show (Sha.upd s t.toList i).length = 8 by rw [Sha.upd_length, Hs.out])
                clear hr0 hr1 hr3 hb
                have hgne : w.heap.size + 1 + 1 < g := Hg.out
                by_cases h8 : i < 8
                · have h8' : (i : Int) < 8 := by omega
                  have hb8 : 0 ≤ (i : Int) ∧ (i : Int) < 8 := by omega
                  have hcell := Hr0.out.cell (getD_word (Sha.upd s t.toList i) i (by rw [Hl8.out]; exact h8))
                  have hcell2 := Hr3.out.cell (getD_word t.toList i h8)
                  have hfr := frozen_row Hr0.out i
                  have Hgn := Lib.hid hgne
                  clear hgne
                  go_wp2_with fail
                  go_still_tail 8, Pol.mixed
                  change wpList _ _ _ _ _ wr.drew
                  go_wp2
                  rw [w_add]
                  have hgne := Hgn.out
                  go_roundw
                  case rel =>
                    refine ⟨i + 1, h8, by simp, ?_, (Hr1.out.other _ _ (by dsimp only; omega)).drewN 1, (Hr3.out.other _ _ (by dsimp only; omega)).drewN 1, (Hb.out.setCell (by dsimp only; omega) _).drew⟩
                    have := (Hr0.out.set i (wv (Sha.at_ (Sha.upd s t.toList i) i + Sha.at_ t.toList i))).drewN 1
                    rw [← List.map_set] at this
                    rw [Sha.upd]
                    exact this
                  case measure => simp [intOf]; omega
                · have h8' : ¬ (i : Int) < 8 := by omega
                  have : i = 8 := by omega
                  subst this
                  have hr0 := Hr0.out
                  rw [HB2.out] at hr0
                  have Hr0 := Lib.hid hr0
                  have Hml := Lib.hid (show (B.map wv).length = 8 by rw [List.length_map]; exact HBl.out)
                  clear hr0
                  go_wp2_with (first
                    | (refine wpList_loadRow rfl 56 _ rfl rfl Hr0.out Tryd.underlying56 rfl (by kernel_rfl) Hml.out ?_)
                    | (refine wpList_storeRow rfl 56 _ _ rfl rfl rfl Hr1.out (by kernel_rfl) Hml.out (by simp) (words_one B) ?_))
                  refine bodyPost_ret (results_row rfl _ rfl (Hr1.out.setRow (B.map wv)) Tryd.underlying56 rfl (by kernel_rfl) Hml.out) rfl ?_
                  exact ⟨by rw [HM.out, HB.out], below_setRow Hb.out (by omega) _⟩
end Go.Proofs.YtpllbnioncjhaaaDoor
