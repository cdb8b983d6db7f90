/- config: put, set of routes. -/
import Derived.Test.YtlphmbefcbhhpaaCfgSet
namespace Go.Proofs.Ytlphmbefcbhhpaa.Cfg
open Go.RowKit
theorem RTab.take {w : World} {B : Nat} {A : Option Addr} {n c a : Nat} {l : List Rt} (h : RTab w B (.slice A n c) l) (ha : a ≤ l.length) : RTab w B (.slice A a c) (l.take a) := by
  have ht : Tab 3 w B (.slice A n c) l.length (rcs l) := h
  unfold RTab
  have hc : a ≤ c := by obtain ⟨A', c', e, h2, _⟩ := ht; simp only [Value.slice.injEq] at e; omega
  have hn : n = l.length := by obtain ⟨_, _, e, _⟩ := ht; simp only [Value.slice.injEq] at e; exact e.2.1
  subst hn
  rw [List.length_take, Nat.min_eq_left ha]
  refine ⟨A, c, rfl, hc, by unfold rcs; rw [flat_len Rt.cs 3 _ (fun _ _ => rfl), List.length_take, Nat.min_eq_left ha], fun hne => ?_⟩
  obtain ⟨b, off, e, hb, hx⟩ := ht.piece (i := 0) (m := a) (by omega) hne
  refine ⟨b, off, e, hb, fun j x hj => ?_⟩
  have := hx j x (by unfold rcs; rw [Nat.zero_mul, List.drop_zero, flat_take Rt.cs 3 l a (fun _ _ => rfl)]; exact hj)
  simpa using this
theorem RTab.drop {w : World} {B : Nat} {A : Option Addr} {n c i c' : Nat} {l : List Rt} (h : RTab w B (.slice A n c) l) (hi : i ≤ l.length) {A' : Option Addr} (hA : ∀ b off, A = some ⟨b, off, none⟩ → i < l.length → A' = some ⟨b, off + i * 3, none⟩) (hc' : l.length - i ≤ c') : RTab w B (.slice A' (l.length - i) c') (l.drop i) := by
  have ht : Tab 3 w B (.slice A n c) l.length (rcs l) := h
  unfold RTab
  have hn : n = l.length := by obtain ⟨_, _, e, _⟩ := ht; simp only [Value.slice.injEq] at e; exact e.2.1
  subst hn
  rw [List.length_drop]
  refine ⟨A', c', rfl, hc', by unfold rcs; rw [flat_len Rt.cs 3 _ (fun _ _ => rfl), List.length_drop], fun hne => ?_⟩
  obtain ⟨b, off, e, hb, hx⟩ := ht.piece (i := i) (m := l.length - i) (by omega) hne
  refine ⟨b, off + i * 3, hA b off e (by omega), hb, fun j x hj => hx j x ?_⟩
  unfold rcs
  rw [flat_drop Rt.cs 3 l i (fun _ _ => rfl), List.take_of_length_le]
  · exact hj
  · rw [flat_len Rt.cs 3 _ (fun _ _ => rfl), List.length_drop]
    exact Nat.le_refl _
set_option maxRecDepth 100000 in
set_option maxHeartbeats 2000000 in
theorem put2_any {w : World} {B : Nat} {v vx : Value} {l x : List Rt} {a b : Nat} (ht : RTab w B v l) (hx : RTab w B vx x) (hN : l.length ≤ 100000) (hNx : x.length ≤ 100000) (hab : a ≤ b) (hb : b ≤ l.length) (hB : B ≤ w.heap.size) :
    Calls Try.prog 174 #[v, .int .i64 (a : Int), .int .i64 (b : Int), vx] w fun e w' => ∃ v', e = .returned v' ∧ OwnR w' w.heap.size v' (l.take a ++ x ++ l.drop b) ∧ Below w.heap.size w w' := by
  obtain ⟨A, c, rfl, hc⟩ := (show Tab 3 w B v l.length (rcs l) from ht).shape
  have hac : (a : Int) ≤ (c : Int) := by omega
  have hbc : (b : Int) ≤ (l.length : Int) := by omega
  have ha0 : 0 ≤ (a : Int) := by omega
  have hb0 : 0 ≤ (b : Int) := by omega
  have HT := Lib.hid (RTab.take ht (a := a) (by omega))
  have HX := Lib.hid hx
  have HD := Lib.hid (fun (A' : Option Addr) (c' : Nat) => RTab.drop ht (i := b) (c' := c') (A' := A') hb)
  have HN := Lib.hid (show (l.take a).length ≤ 100000 ∧ (l.drop b).length ≤ 100000 ∧ x.length ≤ 100000 by simp; omega)
  have HB := Lib.hid hB
  have Hc := Lib.hid (show l.length - b ≤ c - b by omega)
  have Hl1 := Lib.hid (show ([] : List Rt).length + (l.take a).length ≤ 1000000 by have := HN.out; rw [List.length_nil]; omega)
  have Hl2 := Lib.hid (show (l.take a).length + x.length ≤ 1000000 by have := HN.out; omega)
  have Hl3 := Lib.hid (show (l.take a ++ x).length + (l.drop b).length ≤ 1000000 by have := HN.out; rw [List.length_append]; omega)
  by_cases hl : l = []
  · subst hl
    obtain rfl : a = 0 := by simp at hb; omega
    obtain rfl : b = 0 := by simpa using hb
    have HE : Hid (∀ W A c, RTab W B (.slice A 0 c) []) := Lib.hid fun W A c => (show RTab W B _ [] from Tab.nil 3 W B _ _)
    clear ht hx hN hNx hB HT HD
    cases A
    all_goals
      go_enter Try.func174, Try.ntmps174
      go_wp2_with (first
        | (refine wp_appR w (base := w.heap.size) rfl (.const (.slice none 0 0)) (.tmp 13) rfl rfl (ownR_nil _ _) rfl (HE.out _ _ _) Hl1.out (Nat.le_refl _) ?_
           intro v1 w1 h1 h2
           have HO1 := Lib.hid (show OwnR w1 w.heap.size v1 [] from h1)
           have HB1 := Lib.hid h2
           clear h1 h2 Hl1)
        | (refine wp_appR w1 (base := w.heap.size) rfl (.tmp 15) (.tmp 16) rfl rfl HO1.out rfl (HX.out.below (HB1.out.mono HB.out)) Hl2.out HB1.out.size ?_
           intro v2 w2 h1 h2
           have HO2 := Lib.hid h1
           have HB2 := Lib.hid (HB1.out.trans h2)
           clear h1 h2 HO1 HX)
        | (refine wp_appR w2 (base := w.heap.size) rfl (.tmp 18) (.tmp 21) rfl rfl HO2.out rfl (HE.out _ _ _) Hl3.out HB2.out.size ?_
           intro v3 w3 h1 h2
           have HO3 := Lib.hid h1
           have HB3 := Lib.hid (HB2.out.trans h2)
           clear h1 h2 HO2)
        | fail)
      go_ret
      exact ⟨v3, rfl, HO3.out, HB3.out⟩
  · obtain ⟨b0, off, rfl, _, _⟩ : ∃ b off, A = some ⟨b, off, none⟩ ∧ b < B ∧ True := by
      obtain ⟨_, _, e, _, _, h⟩ := (show Tab 3 w B _ l.length (rcs l) from ht)
      cases e
      obtain ⟨b, off, e, hb, _⟩ := h (by simpa using hl)
      exact ⟨b, off, e, hb, trivial⟩
    by_cases hcb : b = c
    · have HDA : Hid (∀ (b1 off1 : Nat), some (⟨b0, off, none⟩ : Addr) = some ⟨b1, off1, none⟩ → b < l.length → some (⟨b0, off, none⟩ : Addr) = some ⟨b1, off1 + b * 3, none⟩) := Lib.hid fun _ _ e h => by omega
      have HD0 : Hid (∀ W, RTab W B (.slice (some ⟨b0, off, none⟩) 0 0) (l.drop b)) := Lib.hid fun W => by
        rw [List.drop_of_length_le (by omega)]
        exact (show RTab W B _ [] from Tab.nil 3 W B _ _)
      clear HDA
      subst hcb
      clear HD
      clear ht hx hN hNx hB
      go_enter Try.func174, Try.ntmps174
      go_wp2_with (first
        | (refine wp_appR w (base := w.heap.size) rfl (.const (.slice none 0 0)) (.tmp 13) rfl rfl (ownR_nil _ _) rfl HT.out Hl1.out (Nat.le_refl _) ?_
           intro v1 w1 h1 h2
           have HO1 := Lib.hid (show OwnR w1 w.heap.size v1 (l.take a) from h1)
           have HB1 := Lib.hid h2
           clear h1 h2 HT)
        | (refine wp_appR w1 (base := w.heap.size) rfl (.tmp 15) (.tmp 16) rfl rfl HO1.out rfl (HX.out.below (HB1.out.mono HB.out)) Hl2.out HB1.out.size ?_
           intro v2 w2 h1 h2
           have HO2 := Lib.hid h1
           have HB2 := Lib.hid (HB1.out.trans h2)
           clear h1 h2 HO1 HX)
        | (refine wp_appR w2 (base := w.heap.size) rfl (.tmp 18) (.tmp 21) rfl rfl HO2.out rfl (HD0.out _) Hl3.out HB2.out.size ?_
           intro v3 w3 h1 h2
           have HO3 := Lib.hid h1
           have HB3 := Lib.hid (HB2.out.trans h2)
           clear h1 h2 HO2 HD0)
        | fail)
      go_ret
      exact ⟨v3, rfl, HO3.out, HB3.out⟩
    · have hcb1 : ¬ c - b = 0 := by omega
      have hcb2 : ¬ c ≤ b := by omega
      have HDA : Hid (∀ (b1 off1 : Nat), some (⟨b0, off, none⟩ : Addr) = some ⟨b1, off1, none⟩ → b < l.length → some (⟨b0, off + b * 3, none⟩ : Addr) = some ⟨b1, off1 + b * 3, none⟩) := Lib.hid fun _ _ e _ => by cases e; rfl
      clear ht hx hN hNx hB
      go_enter Try.func174, Try.ntmps174
      go_wp2_with (first
        | (refine wp_appR w (base := w.heap.size) rfl (.const (.slice none 0 0)) (.tmp 13) rfl rfl (ownR_nil _ _) rfl HT.out Hl1.out (Nat.le_refl _) ?_
           intro v1 w1 h1 h2
           have HO1 := Lib.hid (show OwnR w1 w.heap.size v1 (l.take a) from h1)
           have HB1 := Lib.hid h2
           clear h1 h2 HT)
        | (refine wp_appR w1 (base := w.heap.size) rfl (.tmp 15) (.tmp 16) rfl rfl HO1.out rfl (HX.out.below (HB1.out.mono HB.out)) Hl2.out HB1.out.size ?_
           intro v2 w2 h1 h2
           have HO2 := Lib.hid h1
           have HB2 := Lib.hid (HB1.out.trans h2)
           clear h1 h2 HO1 HX)
        | (refine wp_appR w2 (base := w.heap.size) rfl (.tmp 18) (.tmp 21) rfl rfl HO2.out rfl (RTab.below (HD.out _ _ HDA.out Hc.out) (HB2.out.mono HB.out)) Hl3.out HB2.out.size ?_
           intro v3 w3 h1 h2
           have HO3 := Lib.hid h1
           have HB3 := Lib.hid (HB2.out.trans h2)
           clear h1 h2 HO2 HD)
        | fail)
      go_ret
      exact ⟨v3, rfl, HO3.out, HB3.out⟩
theorem RTab.one {w : World} {g B : Nat} {m : Rt} (h : Row w g m.cs 87) (hB : g < B) : RTab w B (.slice (some ⟨g, 0, none⟩) 1 1) [m] :=
  ⟨_, 1, rfl, Nat.le_refl _, by simp [rcs, Rt.cs], fun _ => ⟨g, 0, rfl, hB, fun j x hx => by rw [Nat.zero_add]; exact h.cell (by simpa [rcs] using hx)⟩⟩
set_option maxRecDepth 100000 in
set_option maxHeartbeats 2000000 in
theorem set2_any {w : World} {B : Nat} {v : Value} {l : List Rt} {x : Rt} {a : Nat} (th : Bool) (ht : RTab w B v l) (hN : l.length ≤ 10000) (hab : a + (if th = true then 1 else 0) ≤ l.length) (hB : B ≤ w.heap.size) :
    Calls Try.prog 173 #[v, .int .i64 (a : Int), .bool th, x.val] w fun e w' => ∃ v', e = .returned v' ∧ OwnR w' w.heap.size v' (l.take a ++ [x] ++ l.drop (a + (if th = true then 1 else 0))) ∧ Below w.heap.size w w' := by
  obtain ⟨i, z, hi, hz, hs, _, hzs⟩ := info_rt
  have hr : Row (w.alloc (.cells x.cs.toArray 87)) w.heap.size x.cs 87 := Row.new rfl rfl
  have hl := run_loadVar_cells (P := Try.prog) (w.alloc (.cells x.cs.toArray 87)) (b := w.heap.size) (off := 0) (n := 3) Try.underlying87 rfl (by kernel_rfl) rfl (fun j y hx => by rw [Nat.zero_add]; exact hr.cell hx)
  have hb : Below w.heap.size w (w.alloc (.cells x.cs.toArray 87)) := (Below.refl _ w).alloc (Nat.le_refl _) _
  have HBS := Lib.hid (run_bs_one (P := Try.prog) Try.underlying25 hi hz hs hzs (by decide) (by decide) x.cs rfl (w.alloc (.cells x.cs.toArray 87)))
  have hb2 : Below w.heap.size w ((w.alloc (.cells x.cs.toArray 87)).alloc (.cells x.cs.toArray 87)) := hb.alloc (by simp) _
  have hr2 : Row ((w.alloc (.cells x.cs.toArray 87)).alloc (.cells x.cs.toArray 87)) (w.alloc (.cells x.cs.toArray 87)).heap.size x.cs 87 := Row.new rfl rfl
  have HP := Lib.hid (put2_any (w := (w.alloc (.cells x.cs.toArray 87)).alloc (.cells x.cs.toArray 87)) (B := (w.alloc (.cells x.cs.toArray 87)).heap.size + 1) (v := v) (vx := .slice (some ⟨(w.alloc (.cells x.cs.toArray 87)).heap.size, 0, none⟩) 1 1) (l := l) (x := [x]) (a := a) (b := a + (if th = true then 1 else 0))
    (RTab.more (RTab.below ht (hb2.mono hB)) (by simp; omega)) (RTab.one hr2 (Nat.lt_succ_self _)) (by omega) (by simp) (by omega) hab (by simp))
  have HL := Lib.hid hl
  have HB := Lib.hid hb2
  rw [show (w.alloc (.cells x.cs.toArray 87)).heap.size = w.heap.size + 1 by simp] at HP
  have ha1 : (a : Int) ≤ 10000 := by omega
  have ha2 : 0 ≤ (a : Int) := by omega
  clear hi hz hs hzs hr hl hb hb2 hr2 ht hN hab hB
  unfold Rt.val
  cases th
  · simp only [Bool.false_eq_true, if_false, Nat.add_zero] at HP ⊢
    go_enter Try.func173, Try.ntmps173
    go_wp2_with (first
      | (show wpList _ _ _ (⟨some 17, _, _, _, _, _⟩ :: _) _ _; refine QB.wpList_ld 87 rfl rfl HL.out rfl ?_; clear HL; refine stop2 ?_)
      | (go_at_call 174; refine HP.out.mono ?_; rintro e w2 ⟨v2, rfl, h1, h2⟩; have HO := Lib.hid h1; have HB2 := Lib.hid (nextB HB.out (Nat.le_refl _) h2); clear h1 h2)
      | fail)
    unfold Stop2
    refine wpList_bs rfl 25 1 #[(0, .tmp 17)] rfl (ps := #[(0, .agg x.cs.toArray)]) (by kernel_rfl) HBS.out ?_
    clear HBS
    go_wp2_with fail
    refine HP.out.mono ?_
    rintro e w2 ⟨v2, rfl, h1, h2⟩
    have HO := Lib.hid h1
    have HB2 := Lib.hid (nextB HB.out (Nat.le_refl _) h2)
    clear h1 h2
    go_wp2
    go_ret
    exact ⟨v2, rfl, own_less (show World.ownsRow _ _ _ _ _ _ _ from HO.out) (by simp; omega), HB2.out⟩
  · simp only [if_true] at HP ⊢
    have ha3 : ((a + 1 : Nat) : Int) = (a : Int) + 1 := by omega
    rw [ha3] at HP
    clear ha3
    go_enter Try.func173, Try.ntmps173
    go_wp2_with (first
      | (show wpList _ _ _ (⟨some 17, _, _, _, _, _⟩ :: _) _ _; refine QB.wpList_ld 87 rfl rfl HL.out rfl ?_; clear HL; refine stop2 ?_)
      | (go_at_call 174; refine HP.out.mono ?_; rintro e w2 ⟨v2, rfl, h1, h2⟩; have HO := Lib.hid h1; have HB2 := Lib.hid (nextB HB.out (Nat.le_refl _) h2); clear h1 h2)
      | fail)
    unfold Stop2
    refine wpList_bs rfl 25 1 #[(0, .tmp 17)] rfl (ps := #[(0, .agg x.cs.toArray)]) (by kernel_rfl) HBS.out ?_
    clear HBS
    go_wp2_with fail
    refine HP.out.mono ?_
    rintro e w2 ⟨v2, rfl, h1, h2⟩
    have HO := Lib.hid h1
    have HB2 := Lib.hid (nextB HB.out (Nat.le_refl _) h2)
    clear h1 h2
    go_wp2
    go_ret
    exact ⟨v2, rfl, own_less (show World.ownsRow _ _ _ _ _ _ _ from HO.out) (by simp; omega), HB2.out⟩
end Go.Proofs.Ytlphmbefcbhhpaa.Cfg
