/- octet: the other calls of a reader. -/
import Derived.Test.YtedmogacklbcmaaOctEnd
import Derived.StillTailTactics
import Derived.IntWalk
namespace Go.Proofs.Ytedmogacklbcmaa
open Go.RowKit

def rdUpto (l : List UInt8) (a e most : Nat) : Nat × Nat × Nat := if most < (rdNumber l a e).1 then (0, (rdNumber l a e).2.1, 3) else rdNumber l a e
theorem rdUpto_le (l : List UInt8) (a e most : Nat) (h : a ≤ l.length) : (rdUpto l a e most).2.1 ≤ l.length := by
  unfold rdUpto
  split
  · exact rdNumber_le l a e h
  · exact rdNumber_le l a e h
def rdFixed (l : List UInt8) (a e : Nat) (n : Int) : List UInt8 × Nat × Nat :=
  if e ≠ 0 ∨ n ≤ 0 then ([], a, e) else if (l.length - a : Nat) < n.toNat then ([], a, 5) else ((l.drop a).take n.toNat, a + n.toNat, 0)
def rdBlock (l : List UInt8) (a e : Nat) : List UInt8 × Nat × Nat := rdFixed l (rdUpto l a e 1048576).2.1 (rdUpto l a e 1048576).2.2 (rdUpto l a e 1048576).1
theorem Upto_over {w : World} {lo g : Nat} {l : List UInt8} {at_ err : Nat} (most : Nat) (h : Rd w lo g l at_ err) (hm : most < (rdNumber l at_ err).1) : Calls Try.prog 44 #[.pointer (some ⟨g, 0, none⟩), .int .u64 most] w fun e w' =>
    e = .returned (.int .u64 0) ∧ Rd w' lo g l (rdNumber l at_ err).2.1 3 ∧ w.grownBy w' (some g) := by
  have Hr := Lib.hid h
  clear h
  have hm' : (most : Int) < ((rdNumber l at_ err).1 : Int) := by omega
  go_enter Try.func44, Try.ntmps44
  go_wp2_with fail
  refine (RNumber_any Hr.out).mono ?_
  rintro e w1 ⟨rfl, hr1, hg1⟩
  obtain ⟨A, c, _, _, _, h3, _, h5, _⟩ := hr1.cells
  have Hr1 := Lib.hid hr1
  have Hg1 := Lib.hid hg1
  clear hr1 hg1
  go_wp2
  go_ret
  exact ⟨rfl, Hr1.out.putErr 3, only_trans Hg1.out (only_put1 3 _)⟩
theorem Upto_fine {w : World} {lo g : Nat} {l : List UInt8} {at_ err : Nat} (most : Nat) (h : Rd w lo g l at_ err) (hm : ¬ most < (rdNumber l at_ err).1) : Calls Try.prog 44 #[.pointer (some ⟨g, 0, none⟩), .int .u64 most] w fun e w' =>
    e = .returned (.int .u64 ((rdNumber l at_ err).1 : Nat)) ∧ Rd w' lo g l (rdNumber l at_ err).2.1 (rdNumber l at_ err).2.2 ∧ w.grownBy w' (some g) := by
  have Hr := Lib.hid h
  clear h
  have hm' : ¬ (most : Int) < ((rdNumber l at_ err).1 : Int) := by omega
  go_enter Try.func44, Try.ntmps44
  go_wp2_with fail
  refine (RNumber_any Hr.out).mono ?_
  rintro e w1 ⟨rfl, hr1, hg1⟩
  have Hr1 := Lib.hid hr1
  have Hg1 := Lib.hid hg1
  clear hr1 hg1
  go_wp2
  go_ret
  exact ⟨rfl, Hr1.out, Hg1.out⟩
theorem Upto_any {w : World} {lo g : Nat} {l : List UInt8} {at_ err : Nat} (most : Nat) (h : Rd w lo g l at_ err) : Calls Try.prog 44 #[.pointer (some ⟨g, 0, none⟩), .int .u64 most] w fun e w' =>
    e = .returned (.int .u64 ((rdUpto l at_ err most).1 : Nat)) ∧ Rd w' lo g l (rdUpto l at_ err most).2.1 (rdUpto l at_ err most).2.2 ∧ w.grownBy w' (some g) := by
  by_cases hm : most < (rdNumber l at_ err).1
  · rw [show rdUpto l at_ err most = (0, (rdNumber l at_ err).2.1, 3) by simp [rdUpto, hm]]
    exact Upto_over most h hm
  · rw [show rdUpto l at_ err most = rdNumber l at_ err by simp [rdUpto, hm]]
    exact Upto_fine most h hm

theorem Fixed_none {w : World} {lo g : Nat} {l : List UInt8} {at_ err : Nat} (n : Int) (h : Rd w lo g l at_ err) (hn : err ≠ 0 ∨ n ≤ 0) : Calls Try.prog 63 #[.pointer (some ⟨g, 0, none⟩), .int .i64 n] w fun e w' =>
    e = .returned (.slice none 0 0) ∧ w = w' := by
  have Hr := Lib.hid h
  clear h
  by_cases he : err = 0
  · subst he
    have hn' : n ≤ 0 := hn.resolve_left (by simp)
    clear hn
    go_enter Try.func63, Try.ntmps63
    go_wp2_with (go_at_call 98; refine (Err_any Hr.out).mono ?_; rintro e w' ⟨rfl, rfl⟩)
    go_ret
    exact ⟨rfl, rfl⟩
  · clear hn
    have he' : ((err : Int) == 0) = false := by simpa using he
    have he2 : ((err : Int) != 0) = true := by simpa using he
    go_enter Try.func63, Try.ntmps63
    go_wp2_with (go_at_call 98; refine (Err_any Hr.out).mono ?_; rintro e w' ⟨rfl, rfl⟩)
    go_ret
    exact ⟨rfl, rfl⟩
theorem Fixed_more {w : World} {lo g : Nat} {l : List UInt8} {at_ : Nat} (n : Nat) (h : Rd w lo g l at_ 0) (h0 : 0 < n) (hn : l.length - at_ < n) : Calls Try.prog 63 #[.pointer (some ⟨g, 0, none⟩), .int .i64 n] w fun e w' =>
    e = .returned (.slice none 0 0) ∧ Rd w' lo g l at_ 5 ∧ w.grownBy w' (some g) := by
  obtain ⟨A, c, _, _, _, h3, _, h5, _⟩ := h.cells
  have Hr := Lib.hid h
  clear h
  have h0' : ¬ (n : Int) ≤ 0 := by omega
  have hn' : ((l.length - at_ : Nat) : Int) < (n : Int) := by omega
  go_enter Try.func63, Try.ntmps63
  go_wp2_with (first
    | (go_at_call 98; refine (Err_any Hr.out).mono ?_; rintro e w' ⟨rfl, rfl⟩)
    | (go_at_call 99; refine (Left_any Hr.out).mono ?_; rintro e w' ⟨rfl, nq, rfl⟩))
  go_ret
  exact ⟨rfl, (Hr.out.drewN nq).putErr 5, only_trans (only_drewN _ nq _) (only_put1 3 _)⟩


set_option maxRecDepth 100000 in
set_option maxHeartbeats 800000 in
theorem Fixed_ok {w : World} {lo g : Nat} {l : List UInt8} {at_ : Nat} (n : Nat) (h : Rd w lo g l at_ 0) (h0 : 0 < n) (hn : n ≤ l.length - at_) : Calls Try.prog 63 #[.pointer (some ⟨g, 0, none⟩), .int .i64 n] w fun e w' =>
    ∃ v, e = .returned v ∧ Own w' w.heap.size v ((l.drop at_).take n) ∧ Rd w' lo g l (at_ + n) 0 ∧ w.grownBy w' (some g) := by
  obtain ⟨A, c, _, h1, h2, _, h4, _, h6, hc, hat, hl, hg⟩ := h.cells
  have Hr := Lib.hid h
  have H6 := Lib.hid h6
  clear h h6
  have h0' : ¬ (n : Int) ≤ 0 := by omega
  have hn' : ¬ ((l.length - at_ : Nat) : Int) < (n : Int) := by omega
  go_enter Try.func63, Try.ntmps63
  go_wp2_with (first
    | (go_at_call 98; refine (Err_any Hr.out).mono ?_; rintro e w' ⟨rfl, rfl⟩)
    | (go_at_call 99; refine (Left_keep Hr.out).mono ?_; rintro e w1 ⟨rfl, hr1, hg1⟩))
  have Hr1 := Lib.hid hr1
  have Hg1 := Lib.hid hg1
  clear hr1 hg1 h1 h2 h4 H6
  obtain ⟨A, c, _, h1, h2, _, h4, _, h6, hc, hat, hl, hg⟩ := Hr1.out.cells
  have H6 := Lib.hid h6
  clear h6
  have q1 : (World.mk w1.heap w1.tape (w1.drawn + 1) w1.os w1.output).cell? ⟨g, 1, none⟩ = some (.slice A l.length c) := h1
  have q2 : (World.mk w1.heap w1.tape (w1.drawn + 1) w1.os w1.output).cell? ⟨g, 2, none⟩ = some (.int .i64 (at_ : Nat)) := h2
  have b1 : (0 : Int) ≤ (at_ : Int) + n := by omega
  have b2 : (at_ : Int) + n ≤ c := by omega
  have b3 : (at_ : Int) ≤ (at_ : Int) + n := by omega
  have b4 : IntKind.i64.wrap ((at_ : Int) + n) = (at_ : Int) + n := IntWalk.i64_in _ (by omega)
  have b5 : ((at_ : Int) + n).toNat = at_ + n := by omega
  have b6 : ¬ c = at_ := by omega
  have H7 : Hid (Bs w1 g (.slice (A.map (fun x => x.add at_)) n (c - at_)) ((l.drop at_).take n)) := by
    have := H6.out.cut hat
    rw [if_neg b6] at this
    exact this.take (by rw [List.length_drop]) (by rw [List.length_drop]; omega)
  have hlen : ((l.drop at_).take n).length ≤ 35184372088832 := by rw [List.length_take, List.length_drop]; omega
  go_still_tail 15, (by kernel_rfl)
  change wpList _ _ _ _ _ w1.drew
  clear q1 q2 b1 b2 b3 b4 b5 b6 h1 h2 h4
  go_wp2_with fail
  refine (withRoom_any _ ((l.drop at_).take n) 0 _ ((H7.out.drew).more (Nat.le_of_lt hg)) (by omega) (by omega) hlen).mono ?_
  rintro e w2 ⟨v, rfl, hown, hb⟩
  have hr2 : Rd w2 lo g l at_ 0 := (Hr1.out.drew).below hb hg
  obtain ⟨A2, c2, _, _, k2, _, k4, _⟩ := hr2.cells
  have Hr2 := Lib.hid hr2
  have Hown := Lib.hid hown
  have Hb := Lib.hid hb
  clear hr2 hown hb
  have b4 : IntKind.i64.wrap ((at_ : Int) + n) = (at_ : Int) + n := IntWalk.i64_in _ (by omega)
  go_wp2
  go_ret
  have hput := Hr2.out.putAt (at_ + n) (by omega)
  obtain ⟨_, _, _, _, _, _, _, _, _, _, _, _, hgw⟩ := Hr.out.cells
  have hsz : w.heap.size ≤ w1.heap.size := (Hg1.out none).size
  have hsz2 : w1.heap.size ≤ w2.heap.size := Hb.out.size
  refine ⟨v, rfl, ?_, ?_, ?_⟩
  · exact ownsRow_setCell_below (Hown.out.less hsz) (a := ⟨g, 2, none⟩) hgw _
  · have e : ((at_ : Int) + n) = ((at_ + n : Nat) : Int) := by omega
    rw [e]; exact hput
  · exact only_trans (only_trans (only_trans (Hg1.out _) (only_drew w1 _)) (only_of_below Hb.out _)) (only_put1 2 _)

theorem Fixed_any {w : World} {lo g : Nat} {l : List UInt8} {at_ err : Nat} (n : Int) (h : Rd w lo g l at_ err) : Calls Try.prog 63 #[.pointer (some ⟨g, 0, none⟩), .int .i64 n] w fun e w' =>
    ∃ v, e = .returned v ∧ Own w' w.heap.size v (rdFixed l at_ err n).1 ∧ Rd w' lo g l (rdFixed l at_ err n).2.1 (rdFixed l at_ err n).2.2 ∧ w.grownBy w' (some g) := by
  by_cases hn : err ≠ 0 ∨ n ≤ 0
  · rw [show rdFixed l at_ err n = ([], at_, err) by simp only [rdFixed, if_pos hn]]
    refine (Fixed_none n h hn).mono ?_
    rintro e w' ⟨rfl, rfl⟩
    exact ⟨_, rfl, Own.nil _ _, h, only_refl _ _⟩
  · have h0 : err = 0 := by
      rcases Nat.eq_zero_or_pos err with h | h
      · exact h
      · exact absurd (.inl (by omega)) hn
    subst h0
    have hpos : 0 < n := by
      rcases Int.lt_or_le 0 n with h | h
      · exact h
      · exact absurd (.inr h) hn
    obtain ⟨m, rfl⟩ := Int.eq_ofNat_of_zero_le (Int.le_of_lt hpos)
    by_cases hm : l.length - at_ < m
    · rw [show rdFixed l at_ 0 (m : Int) = ([], at_, 5) by simp only [rdFixed, if_neg hn, Int.toNat_natCast, if_pos hm]]
      refine (Fixed_more m h (by omega) hm).mono ?_
      rintro e w' ⟨rfl, h1, h2⟩
      exact ⟨_, rfl, Own.nil _ _, h1, h2⟩
    · rw [show rdFixed l at_ 0 (m : Int) = ((l.drop at_).take m, at_ + m, 0) by simp only [rdFixed, if_neg hn, Int.toNat_natCast, if_neg hm]]
      exact Fixed_ok m h (by omega) (by omega)
end Go.Proofs.Ytedmogacklbcmaa
