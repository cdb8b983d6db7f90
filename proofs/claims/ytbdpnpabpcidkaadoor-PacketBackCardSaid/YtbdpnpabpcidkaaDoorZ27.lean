/- Texts that the proofs share: OctEnd, OctRest, RdPure. -/
import Derived.Test.YtbdpnpabpcidkaaDoorZ25
import Derived.StillTailTactics
import Derived.IntWalk
namespace Go.Proofs.YtbdpnpabpcidkaaDoor
open Go.RowKit
def rdEnd (l : List UInt8) (a e : Nat) : Nat := if e = 0 ∧ a < l.length then 4 else e
theorem dec_lt (l : List UInt8) : (Oct.dec l).1 < 2 ^ 64 := by
 cases l with
 | nil => simp [Oct.dec]
 | cons h t =>
   simp only [Oct.dec]
   repeat' split
   all_goals try (simp; done)
   have h1 := Oct.be_lt (t.take h.toNat)
   have h2 : 256 ^ (t.take h.toNat).length ≤ 256 ^ 8 := Nat.pow_le_pow_right (by omega) (by rw [List.length_take]; omega)
   have h3 : (256 : Nat) ^ 8 = 2 ^ 64 := by decide
   simp only
   omega
theorem rdNumber_lt (l : List UInt8) (a e : Nat) : (rdNumber l a e).1 < 2 ^ 64 := by
 unfold rdNumber
 split
 · simp
 · exact dec_lt _
theorem only_of_below {a w : World} (h : Below a.heap.size a w) (row : Option Nat) : a.grownBy w row := ⟨h.os, h.tape, h.output, h.size, fun i hi _ => h.block i hi⟩
theorem only_drew (w : World) (row : Option Nat) : w.grownBy w.drew row := ⟨rfl, rfl, rfl, Nat.le_refl _, fun _ _ _ => rfl⟩
theorem Rd.below {w w' : World} {lo g : Nat} {l : List UInt8} {a e B : Nat} (h : Rd w lo g l a e) (hb : Below B w w') (hg : g < B) : Rd w' lo g l a e := by
 obtain ⟨v, h1, h2, h3, h4⟩ := h
 exact ⟨v, by rw [hb.block g hg]; exact h1, h2.keep fun b o hbg => hb.cell (p := ⟨b, o, none⟩) (by simp only; omega), h3, h4⟩
theorem Rd.grown {w w' : World} {lo g : Nat} {l : List UInt8} {a e : Nat} {row : Option Nat} (h : Rd w lo g l a e) (hg : w.grownBy w' row) (hr : ∀ k, row = some k → g < k ∨ k < lo ∧ k < g) : Rd w' lo g l a e := by
 obtain ⟨v, h1, h2, h3, h4, h5⟩ := h
 have hlt : g < w.heap.size := (Array.getElem?_eq_some_iff.1 h1).1
 refine ⟨v, by rw [hg.block g hlt (fun e => by have := hr g e.symm; omega)]; exact h1, ?_, h3, h4, h5⟩
 obtain ⟨A, c, rfl, hc, hcs⟩ := h2
 refine ⟨A, c, rfl, hc, fun hne => ?_⟩
 obtain ⟨b, off, rfl, k1, k2⟩ := hcs hne
 have hlo := h5 b rfl
 exact ⟨b, off, rfl, k1, fun i u hu => (World.cell?_of_block (a := ⟨b, off + i, none⟩) (hg.block b (by omega) (fun e => by have := hr b e.symm; omega))).trans (k2 i u hu)⟩
theorem Left_keep {w : World} {lo g : Nat} {l : List UInt8} {at_ err : Nat} (h : Rd w lo g l at_ err) : Calls Tryd.prog 83 #[.pointer (some ⟨g, 0, none⟩)] w fun e w' => e = .returned (.int .i64 ((l.length - at_ : Nat) : Int)) ∧ Rd w' lo g l at_ err ∧ ∀ row, w.grownBy w' row :=
 (Left_any h).mono fun e w' ⟨he, n, hw⟩ => ⟨he, by rw [hw]; exact h.drewN n, fun row => by rw [hw]; exact only_drewN w n row⟩
set_option maxHeartbeats 400000 in
theorem End_any {w : World} {lo g : Nat} {l : List UInt8} {at_ err : Nat} (h : Rd w lo g l at_ err) : Calls Tryd.prog 57 #[.pointer (some ⟨g, 0, none⟩)] w fun e w' =>
 e = .returned (.int .i64 (rdEnd l at_ err : Nat)) ∧ Rd w' lo g l at_ (rdEnd l at_ err) ∧ w.grownBy w' (some g) := by
 have Hr := Lib.hid h
 have hat : at_ ≤ l.length := h.choose_spec.2.2.1
 clear h
 unfold rdEnd
 by_cases he : err = 0
 · subst he
   by_cases hlt : at_ < l.length
   · rw [if_pos ⟨rfl, hlt⟩]
     have hl : (0 : Int) < ((l.length - at_ : Nat) : Int) := by omega
     go_enter Tryd.func57, Tryd.ntmps57
     go_wp2_with fail
     refine (Err_any Hr.out).mono ?_
     rintro e w' ⟨rfl, rfl⟩
     go_wp2_with fail
     refine (Left_keep Hr.out).mono ?_
     rintro e w1 ⟨rfl, hr1, hg1⟩
     obtain ⟨A, c, _, _, _, k3, _, k5, _⟩ := hr1.cells
     have Hr1 := Lib.hid hr1
     have Hg1 := Lib.hid hg1
     clear hr1 hg1
     have hr2 := Hr1.out.putErr 4
     have Hr2 := Lib.hid hr2
     clear hr2
     go_wp2_with fail
     refine (Err_any Hr2.out).mono ?_
     rintro e w' ⟨rfl, rfl⟩
     go_wp2
     go_ret
     exact ⟨rfl, Hr2.out, only_trans (Hg1.out _) (only_put1 3 _)⟩
   · rw [if_neg (by rintro ⟨_, h⟩; exact hlt h)]
     have hl : ¬ (0 : Int) < ((l.length - at_ : Nat) : Int) := by omega
     go_enter Tryd.func57, Tryd.ntmps57
     go_wp2_with fail
     refine (Err_any Hr.out).mono ?_
     rintro e w' ⟨rfl, rfl⟩
     go_wp2_with fail
     refine (Left_keep Hr.out).mono ?_
     rintro e w1 ⟨rfl, hr1, hg1⟩
     have Hr1 := Lib.hid hr1
     have Hg1 := Lib.hid hg1
     clear hr1 hg1
     go_wp2_with fail
     refine (Err_any Hr1.out).mono ?_
     rintro e w' ⟨rfl, rfl⟩
     go_wp2
     go_ret
     exact ⟨rfl, Hr1.out, Hg1.out _⟩
 · rw [if_neg (by rintro ⟨h, _⟩; exact he h)]
   have he' : ((err : Int) == 0) = false := by simpa using he
   go_enter Tryd.func57, Tryd.ntmps57
   go_wp2_with (go_at_call 81; refine (Err_any Hr.out).mono ?_; rintro e w' ⟨rfl, rfl⟩)
   go_ret
   exact ⟨rfl, Hr.out, only_refl _ _⟩
set_option maxHeartbeats 400000 in
theorem New_any (b : Value) (l : List UInt8) (w : World) (hb : Bs w w.heap.size b l) (hl : l.length ≤ 35184372088832) : Calls Tryd.prog 51 #[b] w fun e w' =>
 ∃ g, e = .returned (.pointer (some ⟨g, 0, none⟩)) ∧ w.heap.size ≤ g ∧ g < w'.heap.size ∧ Rd w' w.heap.size g l 0 0 ∧ Below w.heap.size w w' := by
 have Hb := Lib.hid hb
 clear hb
 go_enter Tryd.func51, Tryd.ntmps51
 go_wp2_with (go_at_call 79; refine (withRoom_any _ l 0 _ Hb.out (by omega) (by omega) hl).mono ?_; rintro e w1 ⟨v, rfl, hown, hb1⟩; obtain ⟨A1, c1, rfl⟩ := hown.shape)
 go_ret
 have hsz := hb1.size
 refine ⟨w1.heap.size, rfl, hsz, by simp, ⟨.slice A1 l.length c1, ?_, ?_, Nat.zero_le _, hl, fun k hk => (hown.block_ge hk).1⟩, hb1.alloc hsz _⟩
 · exact heap_alloc_new w1 _
 · exact (hown.bs).alloc (Nat.le_refl _) _
end Go.Proofs.YtbdpnpabpcidkaaDoor
namespace Go.Proofs.YtbdpnpabpcidkaaDoor
open Go.RowKit
def rdUpto (l : List UInt8) (a e most : Nat) : Nat × Nat × Nat := if most < (rdNumber l a e).1 then (0, (rdNumber l a e).2.1, 3) else rdNumber l a e
def rdFixed (l : List UInt8) (a e : Nat) (n : Int) : List UInt8 × Nat × Nat :=
 if e ≠ 0 ∨ n ≤ 0 then ([], a, e) else if (l.length - a : Nat) < n.toNat then ([], a, 5) else ((l.drop a).take n.toNat, a + n.toNat, 0)
def rdBlock (l : List UInt8) (a e : Nat) : List UInt8 × Nat × Nat := rdFixed l (rdUpto l a e 1048576).2.1 (rdUpto l a e 1048576).2.2 (rdUpto l a e 1048576).1
theorem Upto_over {w : World} {lo g : Nat} {l : List UInt8} {at_ err : Nat} (most : Nat) (h : Rd w lo g l at_ err) (hm : most < (rdNumber l at_ err).1) : Calls Tryd.prog 52 #[.pointer (some ⟨g, 0, none⟩), .int .u64 most] w fun e w' =>
 e = .returned (.int .u64 0) ∧ Rd w' lo g l (rdNumber l at_ err).2.1 3 ∧ w.grownBy w' (some g) := by
 have Hr := Lib.hid h
 clear h
 have hm' : (most : Int) < ((rdNumber l at_ err).1 : Int) := by omega
 go_enter Tryd.func52, Tryd.ntmps52
 go_wp2_with fail
 refine (RNumber_any Hr.out).mono ?_
 rintro e w1 ⟨rfl, hr1, hg1⟩
 obtain ⟨A, c, _, _, _, h3, _, h5, _⟩ := hr1.cells
 have Hr1 := Lib.hid hr1
 have Hg1 := Lib.hid hg1
 clear hr1 hg1
 go_wp2
 go_ret
 exact ⟨rfl, Hr1.out.putErr 3, only_trans Hg1.out (only_put1 3 _)⟩
theorem Upto_fine {w : World} {lo g : Nat} {l : List UInt8} {at_ err : Nat} (most : Nat) (h : Rd w lo g l at_ err) (hm : ¬ most < (rdNumber l at_ err).1) : Calls Tryd.prog 52 #[.pointer (some ⟨g, 0, none⟩), .int .u64 most] w fun e w' =>
 e = .returned (.int .u64 ((rdNumber l at_ err).1 : Nat)) ∧ Rd w' lo g l (rdNumber l at_ err).2.1 (rdNumber l at_ err).2.2 ∧ w.grownBy w' (some g) := by
 have Hr := Lib.hid h
 clear h
 have hm' : ¬ (most : Int) < ((rdNumber l at_ err).1 : Int) := by omega
 go_enter Tryd.func52, Tryd.ntmps52
 go_wp2_with fail
 refine (RNumber_any Hr.out).mono ?_
 rintro e w1 ⟨rfl, hr1, hg1⟩
 have Hr1 := Lib.hid hr1
 have Hg1 := Lib.hid hg1
 clear hr1 hg1
 go_wp2
 go_ret
 exact ⟨rfl, Hr1.out, Hg1.out⟩
theorem Upto_any {w : World} {lo g : Nat} {l : List UInt8} {at_ err : Nat} (most : Nat) (h : Rd w lo g l at_ err) : Calls Tryd.prog 52 #[.pointer (some ⟨g, 0, none⟩), .int .u64 most] w fun e w' =>
 e = .returned (.int .u64 ((rdUpto l at_ err most).1 : Nat)) ∧ Rd w' lo g l (rdUpto l at_ err most).2.1 (rdUpto l at_ err most).2.2 ∧ w.grownBy w' (some g) := by
 by_cases hm : most < (rdNumber l at_ err).1
 · rw [show rdUpto l at_ err most = (0, (rdNumber l at_ err).2.1, 3) by simp [rdUpto, hm]]
   exact Upto_over most h hm
 · rw [show rdUpto l at_ err most = rdNumber l at_ err by simp [rdUpto, hm]]
   exact Upto_fine most h hm
theorem Fixed_none {w : World} {lo g : Nat} {l : List UInt8} {at_ err : Nat} (n : Int) (h : Rd w lo g l at_ err) (hn : err ≠ 0 ∨ n ≤ 0) : Calls Tryd.prog 80 #[.pointer (some ⟨g, 0, none⟩), .int .i64 n] w fun e w' =>
 e = .returned (.slice none 0 0) ∧ w = w' := by
 have Hr := Lib.hid h
 clear h
 by_cases he : err = 0
 · subst he
   have hn' : n ≤ 0 := hn.resolve_left (by simp)
   clear hn
   go_enter Tryd.func80, Tryd.ntmps80
   go_wp2_with (go_at_call 81; refine (Err_any Hr.out).mono ?_; rintro e w' ⟨rfl, rfl⟩)
   go_ret
   exact ⟨rfl, rfl⟩
 · clear hn
   have he' : ((err : Int) == 0) = false := by simpa using he
   have he2 : ((err : Int) != 0) = true := by simpa using he
   go_enter Tryd.func80, Tryd.ntmps80
   go_wp2_with (go_at_call 81; refine (Err_any Hr.out).mono ?_; rintro e w' ⟨rfl, rfl⟩)
   go_ret
   exact ⟨rfl, rfl⟩
theorem Fixed_more {w : World} {lo g : Nat} {l : List UInt8} {at_ : Nat} (n : Nat) (h : Rd w lo g l at_ 0) (h0 : 0 < n) (hn : l.length - at_ < n) : Calls Tryd.prog 80 #[.pointer (some ⟨g, 0, none⟩), .int .i64 n] w fun e w' =>
 e = .returned (.slice none 0 0) ∧ Rd w' lo g l at_ 5 ∧ w.grownBy w' (some g) := by
 obtain ⟨A, c, _, _, _, h3, _, h5, _⟩ := h.cells
 have Hr := Lib.hid h
 clear h
 have h0' : ¬ (n : Int) ≤ 0 := by omega
 have hn' : ((l.length - at_ : Nat) : Int) < (n : Int) := by omega
 go_enter Tryd.func80, Tryd.ntmps80
 go_wp2_with (first
  | (go_at_call 81; refine (Err_any Hr.out).mono ?_; rintro e w' ⟨rfl, rfl⟩)
  | (go_at_call 83; refine (Left_any Hr.out).mono ?_; rintro e w' ⟨rfl, nq, rfl⟩))
 go_ret
 exact ⟨rfl, (Hr.out.drewN nq).putErr 5, only_trans (only_drewN _ nq _) (only_put1 3 _)⟩
set_option maxRecDepth 100000 in
set_option maxHeartbeats 800000 in
theorem Fixed_ok {w : World} {lo g : Nat} {l : List UInt8} {at_ : Nat} (n : Nat) (h : Rd w lo g l at_ 0) (h0 : 0 < n) (hn : n ≤ l.length - at_) : Calls Tryd.prog 80 #[.pointer (some ⟨g, 0, none⟩), .int .i64 n] w fun e w' =>
 ∃ v, e = .returned v ∧ Own w' w.heap.size v ((l.drop at_).take n) ∧ Rd w' lo g l (at_ + n) 0 ∧ w.grownBy w' (some g) := by
 obtain ⟨A, c, _, h1, h2, _, h4, _, h6, hc, hat, hl, hg⟩ := h.cells
 have Hr := Lib.hid h
 have H6 := Lib.hid h6
 clear h h6
 have h0' : ¬ (n : Int) ≤ 0 := by omega
 have hn' : ¬ ((l.length - at_ : Nat) : Int) < (n : Int) := by omega
 go_enter Tryd.func80, Tryd.ntmps80
 go_wp2_with (first
  | (go_at_call 81; refine (Err_any Hr.out).mono ?_; rintro e w' ⟨rfl, rfl⟩)
  | (go_at_call 83; refine (Left_keep Hr.out).mono ?_; rintro e w1 ⟨rfl, hr1, hg1⟩))
 have Hr1 := Lib.hid hr1
 have Hg1 := Lib.hid hg1
 clear hr1 hg1 h1 h2 h4 H6
 obtain ⟨A, c, _, h1, h2, _, h4, _, h6, hc, hat, hl, hg⟩ := Hr1.out.cells
 have H6 := Lib.hid h6
 clear h6
 have q1 : (World.mk w1.heap w1.tape (w1.drawn + 1) w1.os w1.output).cell? ⟨g, 1, none⟩ = some (.slice A l.length c) := h1
 have q2 : (World.mk w1.heap w1.tape (w1.drawn + 1) w1.os w1.output).cell? ⟨g, 2, none⟩ = some (.int .i64 (at_ : Nat)) := h2
 have b1 : (0 : Int) ≤ (at_ : Int) + n := by omega
 have b2 : (at_ : Int) + n ≤ c := by omega
 have b3 : (at_ : Int) ≤ (at_ : Int) + n := by omega
 have b4 : IntKind.i64.wrap ((at_ : Int) + n) = (at_ : Int) + n := IntWalk.i64_in _ (by omega)
 have b5 : ((at_ : Int) + n).toNat = at_ + n := by omega
 have b6 : ¬ c = at_ := by omega
 have H7 : Hid (Bs w1 g (.slice (A.map (fun x => x.add at_)) n (c - at_)) ((l.drop at_).take n)) := by
  have := H6.out.cut hat
  rw [if_neg b6] at this
  exact this.take (by rw [List.length_drop]) (by rw [List.length_drop]; omega)
 have hlen : ((l.drop at_).take n).length ≤ 35184372088832 := by rw [List.length_take, List.length_drop]; omega
 go_still_tail 15, (by kernel_rfl)
 change wpList _ _ _ _ _ w1.drew
 clear q1 q2 b1 b2 b3 b4 b5 b6 h1 h2 h4
 go_wp2_with fail
 refine (withRoom_any _ ((l.drop at_).take n) 0 _ ((H7.out.drew).more (Nat.le_of_lt hg)) (by omega) (by omega) hlen).mono ?_
 rintro e w2 ⟨v, rfl, hown, hb⟩
 have hr2 : Rd w2 lo g l at_ 0 := (Hr1.out.drew).below hb hg
 obtain ⟨A2, c2, _, _, k2, _, k4, _⟩ := hr2.cells
 have Hr2 := Lib.hid hr2
 have Hown := Lib.hid hown
 have Hb := Lib.hid hb
 clear hr2 hown hb
 have b4 : IntKind.i64.wrap ((at_ : Int) + n) = (at_ : Int) + n := IntWalk.i64_in _ (by omega)
 go_wp2
 go_ret
 have hput := Hr2.out.putAt (at_ + n) (by omega)
 obtain ⟨_, _, _, _, _, _, _, _, _, _, _, _, hgw⟩ := Hr.out.cells
 have hsz : w.heap.size ≤ w1.heap.size := (Hg1.out none).size
 have hsz2 : w1.heap.size ≤ w2.heap.size := Hb.out.size
 refine ⟨v, rfl, ?_, ?_, ?_⟩
 · exact ownsRow_setCell_below (Hown.out.less hsz) (a := ⟨g, 2, none⟩) hgw _
 · have e : ((at_ : Int) + n) = ((at_ + n : Nat) : Int) := by omega
   rw [e]; exact hput
 · exact only_trans (only_trans (only_trans (Hg1.out _) (only_drew w1 _)) (only_of_below Hb.out _)) (only_put1 2 _)
theorem Fixed_any {w : World} {lo g : Nat} {l : List UInt8} {at_ err : Nat} (n : Int) (h : Rd w lo g l at_ err) : Calls Tryd.prog 80 #[.pointer (some ⟨g, 0, none⟩), .int .i64 n] w fun e w' =>
 ∃ v, e = .returned v ∧ Own w' w.heap.size v (rdFixed l at_ err n).1 ∧ Rd w' lo g l (rdFixed l at_ err n).2.1 (rdFixed l at_ err n).2.2 ∧ w.grownBy w' (some g) := by
 by_cases hn : err ≠ 0 ∨ n ≤ 0
 · rw [show rdFixed l at_ err n = ([], at_, err) by simp only [rdFixed, if_pos hn]]
   refine (Fixed_none n h hn).mono ?_
   rintro e w' ⟨rfl, rfl⟩
   exact ⟨_, rfl, Own.nil _ _, h, only_refl _ _⟩
 · have h0 : err = 0 := by
    rcases Nat.eq_zero_or_pos err with h | h
    · exact h
    · exact absurd (.inl (by omega)) hn
   subst h0
   have hpos : 0 < n := by
    rcases Int.lt_or_le 0 n with h | h
    · exact h
    · exact absurd (.inr h) hn
   obtain ⟨m, rfl⟩ := Int.eq_ofNat_of_zero_le (Int.le_of_lt hpos)
   by_cases hm : l.length - at_ < m
   · rw [show rdFixed l at_ 0 (m : Int) = ([], at_, 5) by simp only [rdFixed, if_neg hn, Int.toNat_natCast, if_pos hm]]
     refine (Fixed_more m h (by omega) hm).mono ?_
     rintro e w' ⟨rfl, h1, h2⟩
     exact ⟨_, rfl, Own.nil _ _, h1, h2⟩
   · rw [show rdFixed l at_ 0 (m : Int) = ((l.drop at_).take m, at_ + m, 0) by simp only [rdFixed, if_neg hn, Int.toNat_natCast, if_neg hm]]
     exact Fixed_ok m h (by omega) (by omega)
set_option maxHeartbeats 400000 in
theorem RBlock_any {w : World} {lo g : Nat} {l : List UInt8} {at_ err : Nat} (h : Rd w lo g l at_ err) : Calls Tryd.prog 56 #[.pointer (some ⟨g, 0, none⟩)] w fun e w' =>
 ∃ v, e = .returned v ∧ Own w' w.heap.size v (rdBlock l at_ err).1 ∧ Rd w' lo g l (rdBlock l at_ err).2.1 (rdBlock l at_ err).2.2 ∧ w.grownBy w' (some g) := by
 have Hr := Lib.hid h
 clear h
 have hle : ((rdUpto l at_ err 1048576).1 : Int) ≤ 1048576 := by
  unfold rdUpto
  split
  · simp
  · omega
 unfold rdBlock
 go_enter Tryd.func56, Tryd.ntmps56
 go_wp2_with fail
 refine (Upto_any 1048576 Hr.out).mono ?_
 rintro e w1 ⟨rfl, hr1, hg1⟩
 have Hr1 := Lib.hid hr1
 have Hg1 := Lib.hid hg1
 clear hr1 hg1
 go_wp2_with fail
 refine (Fixed_any _ Hr1.out).mono ?_
 rintro e w2 ⟨v, rfl, hown, hr2, hg2⟩
 have Hown := Lib.hid hown
 have Hr2 := Lib.hid hr2
 have Hg2 := Lib.hid hg2
 clear hown hr2 hg2
 go_wp2
 go_ret
 exact ⟨v, rfl, Hown.out.less Hg1.out.size, Hr2.out, only_trans Hg1.out Hg2.out⟩
set_option maxHeartbeats 400000 in
theorem Block_ok (b : Value) (p : Value) (l m : List UInt8) (w : World) (hb : Bs w w.heap.size b l) (hp : Bs w w.heap.size p m) (hm : m.length ≤ 1048576) (hl : l.length ≤ 35184372088832) : Calls Tryd.prog 127 #[b, p] w fun e w' =>
 ∃ v, e = .returned (.tuple #[v, .int .i64 0]) ∧ Own w' w.heap.size v (l ++ Oct.enc m.length ++ m) ∧ Below w.heap.size w w' := by
 have Hp := Lib.hid hp
 obtain ⟨A, c, rfl, hc, hcs⟩ := hp
 clear hcs
 have hm' : ¬ (1048576 : Int) < (m.length : Int) := by omega
 have Hb := Lib.hid hb
 clear hb
 go_enter Tryd.func127, Tryd.ntmps127
 go_wp2_with (first
  | (go_at_call 79; refine (withRoom_any _ l _ _ Hb.out (by omega) (by omega) hl).mono ?_; rintro e w1 ⟨v1, rfl, hown1, hb1⟩)
  | (go_at_call 135; refine (appendNumber_any _ l m.length w.heap.size _ hown1 (by omega) (by omega) hb1.size).mono ?_; rintro e w2 ⟨v2, rfl, hown2, hb2⟩)
  | (at_builtin; refine wpList_app_bytes _ rfl _ _ rfl rfl hown2 rfl (Hp.out.below (hb1.trans hb2)) (by rw [List.length_append, Oct.enc_length]; have := (Oct.nsize_spec m.length (by omega)).1; omega) (hb1.trans hb2).size ?_; intro v3 w3 hown3 hg3 hblk3))
 go_ret2
 exact ⟨v3, rfl, hown3, (hb1.trans hb2).grown hg3 (hb1.trans hb2).size (fun k hk => (hown2.block_ge hk).1)⟩
end Go.Proofs.YtbdpnpabpcidkaaDoor
namespace Go.Proofs.YtbdpnpabpcidkaaDoor.RdP
open Go.RowKit
theorem num_own (x : Nat) (hx : x < 18446744073709551616) (p r : List UInt8) : rdNumber (p ++ (Oct.enc x ++ r)) p.length 0 = (x, (p ++ Oct.enc x).length, 0) := by
 have h := Oct.dec_enc x hx r
 unfold rdNumber
 rw [if_neg (by omega), List.drop_left, h, List.length_append, Oct.enc_length]
 show (x, p.length + (1 + Oct.nsize x), 0) = _
 rw [Nat.add_comm 1]
theorem upto_own (x most : Nat) (hx : x < 18446744073709551616) (hm : x ≤ most) (p r : List UInt8) : rdUpto (p ++ (Oct.enc x ++ r)) p.length 0 most = (x, (p ++ Oct.enc x).length, 0) := by
 unfold rdUpto
 rw [num_own x hx]
 exact if_neg (by show ¬ most < x; omega)
theorem fixed_own (l : List UInt8) (n : Int) (hn : (l.length : Int) = n) (h0 : 0 < n) (p r : List UInt8) : rdFixed (p ++ (l ++ r)) p.length 0 n = (l, (p ++ l).length, 0) := by
 subst hn
 unfold rdFixed
 rw [if_neg (by omega), if_neg (by simp), List.drop_left, Int.toNat_natCast, List.take_left, List.length_append]
theorem block_own (m : List UInt8) (hm : m.length ≤ 1048576) (p r : List UInt8) : rdBlock (p ++ (Oct.enc m.length ++ (m ++ r))) p.length 0 = (m, (p ++ (Oct.enc m.length ++ m)).length, 0) := by
 unfold rdBlock
 rw [upto_own m.length 1048576 (by omega) hm]
 show rdFixed _ (p ++ Oct.enc m.length).length 0 (m.length : Int) = _
 rcases Nat.eq_zero_or_pos m.length with h | h
 · have e : m = [] := List.eq_nil_of_length_eq_zero h
   subst e
   unfold rdFixed
   rw [if_pos (.inr (by simp))]
   simp
 · rw [← List.append_assoc p, fixed_own m m.length rfl (by omega), ← List.append_assoc]
theorem end_own (b : List UInt8) : rdEnd b b.length 0 = 0 := if_neg (by omega)
theorem end_zero {b : List UInt8} {a e : Nat} (h : rdEnd b a e = 0) : e = 0 ∧ b.drop a = [] := by
 unfold rdEnd at h
 split at h
 · cases h
 · rename_i hn
   subst h
   refine ⟨rfl, List.drop_eq_nil_of_le ?_⟩
   rcases Nat.lt_or_ge a b.length with h | h
   · exact absurd ⟨rfl, h⟩ hn
   · exact h
theorem num_zero {b : List UInt8} {a e x a' : Nat} (h : rdNumber b a e = (x, a', 0)) : e = 0 ∧ b.drop a = Oct.enc x ++ b.drop a' ∧ x < 18446744073709551616 := by
 unfold rdNumber at h
 split at h
 · simp only [Prod.mk.injEq] at h
   omega
 · simp only [Prod.mk.injEq] at h
   have d := Oct.enc_dec (b.drop a) x (Oct.dec (b.drop a)).2.1 (by rw [← h.1, ← h.2.2])
   refine ⟨by omega, ?_, d.2.2⟩
   rw [d.2.1, ← h.2.1, ← List.drop_drop, List.take_append_drop]
theorem upto_zero {b : List UInt8} {a e most x a' : Nat} (h : rdUpto b a e most = (x, a', 0)) : e = 0 ∧ b.drop a = Oct.enc x ++ b.drop a' ∧ x ≤ most ∧ x < 18446744073709551616 := by
 unfold rdUpto at h
 split at h
 · simp only [Prod.mk.injEq] at h
   omega
 · rename_i hm
   rw [h] at hm
   obtain ⟨h1, h2, h3⟩ := num_zero h
   exact ⟨h1, h2, by simpa using hm, h3⟩
theorem upto_le (b : List UInt8) (a e most : Nat) : (rdUpto b a e most).1 ≤ most := by
 unfold rdUpto
 split
 · exact Nat.zero_le _
 · omega
theorem fixed_zero {b : List UInt8} {a e a' : Nat} {n : Int} {l : List UInt8} (h : rdFixed b a e n = (l, a', 0)) : e = 0 ∧ b.drop a = l ++ b.drop a' ∧ (l.length : Int) = max n 0 := by
 unfold rdFixed at h
 split at h
 · rename_i h1
   simp only [Prod.mk.injEq] at h
   obtain ⟨rfl, rfl, rfl⟩ := h
   refine ⟨rfl, rfl, ?_⟩
   simp
   omega
 · split at h
   · simp only [Prod.mk.injEq] at h
     omega
   · rename_i h1 h2
     simp only [Prod.mk.injEq] at h
     obtain ⟨rfl, rfl, _⟩ := h
     refine ⟨by omega, by rw [← List.drop_drop, List.take_append_drop], ?_⟩
     rw [List.length_take, List.length_drop]
     omega
theorem block_zero {b : List UInt8} {a e a' : Nat} {l : List UInt8} (h : rdBlock b a e = (l, a', 0)) : e = 0 ∧ b.drop a = Oct.enc l.length ++ (l ++ b.drop a') ∧ l.length ≤ 1048576 := by
 unfold rdBlock at h
 obtain ⟨x, a1, e1, hu⟩ : ∃ x a1 e1, rdUpto b a e 1048576 = (x, a1, e1) := ⟨_, _, _, rfl⟩
 rw [hu] at h
 obtain ⟨h1, h2, h3⟩ := fixed_zero h
 simp only at h1 h2 h3
 subst h1
 obtain ⟨k1, k2, k3, k4⟩ := upto_zero hu
 have hx : x = l.length := by omega
 subst hx
 exact ⟨k1, by rw [k2, h2], k3⟩
theorem fixed_len (b : List UInt8) (a e : Nat) (n : Nat) : (rdFixed b a e n).1.length ≤ n := by
 unfold rdFixed
 split
 · simp
 · split
   · simp
   · simp [List.length_take]; omega
end Go.Proofs.YtbdpnpabpcidkaaDoor.RdP
