/- octet: a new reader, its end. -/
import Derived.Test.YtedmogacklbcmaaOctRead
import Derived.StillTailTactics
import Derived.IntWalk
namespace Go.Proofs.Ytedmogacklbcmaa
open Go.RowKit

def rdEnd (l : List UInt8) (a e : Nat) : Nat := if e = 0 ∧ a < l.length then 4 else e

theorem dec_lt (l : List UInt8) : (Oct.dec l).1 < 2 ^ 64 := by
  cases l with
  | nil => simp [Oct.dec]
  | cons h t =>
    simp only [Oct.dec]
    repeat' split
    all_goals try (simp; done)
    have h1 := Oct.be_lt (t.take h.toNat)
    have h2 : 256 ^ (t.take h.toNat).length ≤ 256 ^ 8 := Nat.pow_le_pow_right (by omega) (by rw [List.length_take]; omega)
    have h3 : (256 : Nat) ^ 8 = 2 ^ 64 := by decide
    simp only
    omega
theorem rdNumber_lt (l : List UInt8) (a e : Nat) : (rdNumber l a e).1 < 2 ^ 64 := by
  unfold rdNumber
  split
  · simp
  · exact dec_lt _

theorem only_of_below {a w : World} (h : Below a.heap.size a w) (row : Option Nat) : a.grownBy w row := ⟨h.os, h.tape, h.output, h.size, fun i hi _ => h.block i hi⟩
theorem only_drew (w : World) (row : Option Nat) : w.grownBy w.drew row := ⟨rfl, rfl, rfl, Nat.le_refl _, fun _ _ _ => rfl⟩
theorem Rd.below {w w' : World} {lo g : Nat} {l : List UInt8} {a e B : Nat} (h : Rd w lo g l a e) (hb : Below B w w') (hg : g < B) : Rd w' lo g l a e := by
  obtain ⟨v, h1, h2, h3, h4⟩ := h
  exact ⟨v, by rw [hb.block g hg]; exact h1, h2.keep fun b o hbg => hb.cell (p := ⟨b, o, none⟩) (by simp only; omega), h3, h4⟩
theorem Rd.grown {w w' : World} {lo g : Nat} {l : List UInt8} {a e : Nat} {row : Option Nat} (h : Rd w lo g l a e) (hg : w.grownBy w' row) (hr : ∀ k, row = some k → g < k ∨ k < lo ∧ k < g) : Rd w' lo g l a e := by
  obtain ⟨v, h1, h2, h3, h4, h5⟩ := h
  have hlt : g < w.heap.size := (Array.getElem?_eq_some_iff.1 h1).1
  refine ⟨v, by rw [hg.block g hlt (fun e => by have := hr g e.symm; omega)]; exact h1, ?_, h3, h4, h5⟩
  obtain ⟨A, c, rfl, hc, hcs⟩ := h2
  refine ⟨A, c, rfl, hc, fun hne => ?_⟩
  obtain ⟨b, off, rfl, k1, k2⟩ := hcs hne
  have hlo := h5 b rfl
  exact ⟨b, off, rfl, k1, fun i u hu => (World.cell?_of_block (a := ⟨b, off + i, none⟩) (hg.block b (by omega) (fun e => by have := hr b e.symm; omega))).trans (k2 i u hu)⟩

theorem Left_keep {w : World} {lo g : Nat} {l : List UInt8} {at_ err : Nat} (h : Rd w lo g l at_ err) : Calls Try.prog 99 #[.pointer (some ⟨g, 0, none⟩)] w fun e w' => e = .returned (.int .i64 ((l.length - at_ : Nat) : Int)) ∧ Rd w' lo g l at_ err ∧ ∀ row, w.grownBy w' row :=
  (Left_any h).mono fun e w' ⟨he, n, hw⟩ => ⟨he, by rw [hw]; exact h.drewN n, fun row => by rw [hw]; exact only_drewN w n row⟩

theorem End_nil (w : World) : Calls Try.prog 47 #[.pointer none] w fun e w' => e = .returned (.int .i64 1) ∧ w = w' := by
  go_enter Try.func47, Try.ntmps47
  go_wp2_with (go_at_call 98; refine (Err_nil _).mono ?_; rintro e w' ⟨rfl, rfl⟩)
  go_ret
  exact ⟨rfl, rfl⟩
set_option maxHeartbeats 400000 in
theorem End_any {w : World} {lo g : Nat} {l : List UInt8} {at_ err : Nat} (h : Rd w lo g l at_ err) : Calls Try.prog 47 #[.pointer (some ⟨g, 0, none⟩)] w fun e w' =>
    e = .returned (.int .i64 (rdEnd l at_ err : Nat)) ∧ Rd w' lo g l at_ (rdEnd l at_ err) ∧ w.grownBy w' (some g) := by
  have Hr := Lib.hid h
  have hat : at_ ≤ l.length := h.choose_spec.2.2.1
  clear h
  unfold rdEnd
  by_cases he : err = 0
  · subst he
    by_cases hlt : at_ < l.length
    · rw [if_pos ⟨rfl, hlt⟩]
      have hl : (0 : Int) < ((l.length - at_ : Nat) : Int) := by omega
      go_enter Try.func47, Try.ntmps47
      go_wp2_with fail
      refine (Err_any Hr.out).mono ?_
      rintro e w' ⟨rfl, rfl⟩
      go_wp2_with fail
      refine (Left_keep Hr.out).mono ?_
      rintro e w1 ⟨rfl, hr1, hg1⟩
      obtain ⟨A, c, _, _, _, k3, _, k5, _⟩ := hr1.cells
      have Hr1 := Lib.hid hr1
      have Hg1 := Lib.hid hg1
      clear hr1 hg1
      have hr2 := Hr1.out.putErr 4
      have Hr2 := Lib.hid hr2
      clear hr2
      go_wp2_with fail
      refine (Err_any Hr2.out).mono ?_
      rintro e w' ⟨rfl, rfl⟩
      go_wp2
      go_ret
      exact ⟨rfl, Hr2.out, only_trans (Hg1.out _) (only_put1 3 _)⟩
    · rw [if_neg (by rintro ⟨_, h⟩; exact hlt h)]
      have hl : ¬ (0 : Int) < ((l.length - at_ : Nat) : Int) := by omega
      go_enter Try.func47, Try.ntmps47
      go_wp2_with fail
      refine (Err_any Hr.out).mono ?_
      rintro e w' ⟨rfl, rfl⟩
      go_wp2_with fail
      refine (Left_keep Hr.out).mono ?_
      rintro e w1 ⟨rfl, hr1, hg1⟩
      have Hr1 := Lib.hid hr1
      have Hg1 := Lib.hid hg1
      clear hr1 hg1
      go_wp2_with fail
      refine (Err_any Hr1.out).mono ?_
      rintro e w' ⟨rfl, rfl⟩
      go_wp2
      go_ret
      exact ⟨rfl, Hr1.out, Hg1.out _⟩
  · rw [if_neg (by rintro ⟨h, _⟩; exact he h)]
    have he' : ((err : Int) == 0) = false := by simpa using he
    go_enter Try.func47, Try.ntmps47
    go_wp2_with (go_at_call 98; refine (Err_any Hr.out).mono ?_; rintro e w' ⟨rfl, rfl⟩)
    go_ret
    exact ⟨rfl, Hr.out, only_refl _ _⟩

set_option maxHeartbeats 400000 in
theorem New_any (b : Value) (l : List UInt8) (w : World) (hb : Bs w w.heap.size b l) (hl : l.length ≤ 35184372088832) : Calls Try.prog 43 #[b] w fun e w' =>
    ∃ g, e = .returned (.pointer (some ⟨g, 0, none⟩)) ∧ w.heap.size ≤ g ∧ g < w'.heap.size ∧ Rd w' w.heap.size g l 0 0 ∧ Below w.heap.size w w' := by
  have Hb := Lib.hid hb
  clear hb
  go_enter Try.func43, Try.ntmps43
  go_wp2_with (go_at_call 97; refine (withRoom_any _ l 0 _ Hb.out (by omega) (by omega) hl).mono ?_; rintro e w1 ⟨v, rfl, hown, hb1⟩; obtain ⟨A1, c1, rfl⟩ := hown.shape)
  go_ret
  have hsz := hb1.size
  refine ⟨w1.heap.size, rfl, hsz, by simp, ⟨.slice A1 l.length c1, ?_, ?_, Nat.zero_le _, hl, fun k hk => (hown.block_ge hk).1⟩, hb1.alloc hsz _⟩
  · exact heap_alloc_new w1 _
  · exact (hown.bs).alloc (Nat.le_refl _) _

end Go.Proofs.Ytedmogacklbcmaa
