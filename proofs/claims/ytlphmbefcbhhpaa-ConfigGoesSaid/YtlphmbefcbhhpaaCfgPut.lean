/- config: clone, put. -/
import Derived.Test.YtlphmbefcbhhpaaCfgCmp
import Derived.Test.YtlphmbefcbhhpaaQuietB
namespace Go.Proofs.Ytlphmbefcbhhpaa.Cfg
open Go.RowKit
def OwnM (w : World) (base : Nat) (v : Value) (l : List Mb) : Prop := K32 l ∧ w.ownsRow base 83 34 v l.length (mcs l)
def OwnR (w : World) (base : Nat) (v : Value) (l : List Rt) : Prop := w.ownsRow base 87 3 v l.length (rcs l)
theorem OwnM.tab {w : World} {base : Nat} {v : Value} {l : List Mb} (h : OwnM w base v l) : MTab w w.heap.size v l := ⟨h.1, Tab.of_own h.2⟩
theorem OwnR.tab {w : World} {base : Nat} {v : Value} {l : List Rt} (h : OwnR w base v l) : RTab w w.heap.size v l := Tab.of_own h
set_option maxRecDepth 100000 in
theorem info_mb : ∃ i z, Try.prog.info? 83 = some i ∧ i.zero = some z ∧ i.size = 34 ∧ i.bytes = 48 ∧ z.cells.size = 34 := ⟨_, .agg (Mb.cs ⟨0, zkey, false⟩).toArray, rfl, by kernel_rfl, by kernel_rfl, by kernel_rfl, by kernel_rfl⟩
set_option maxRecDepth 100000 in
theorem info_rt : ∃ i z, Try.prog.info? 87 = some i ∧ i.zero = some z ∧ i.size = 3 ∧ i.bytes = 24 ∧ z.cells.size = 3 := ⟨_, .agg (Rt.cs ⟨0, 0, 0⟩).toArray, rfl, by kernel_rfl, by kernel_rfl, by kernel_rfl, by kernel_rfl⟩
section
variable {ops : Array Oper} {rest : List Oper} {o : Oper} {a : Act} {Q : Exit → Act → World → Prop}
theorem wp_appM (w : World) {base B : Nat} (hgd : o.guard = none) (so xo : Operand) (ho : o.op = .call { callee := .builtin .append, args := #[so, xo], argTypes := #[24, 24] })
    {v y : Value} {l m : List Mb} (hsv : a.eval so = v) (hown : OwnM w base v l) (hyv : a.eval xo = y) (hy : MTab w B y m) (hlen : l.length + m.length ≤ 1000000) (hbase : base ≤ w.heap.size)
    (h : ∀ v' w', OwnM w' base v' (l ++ m) → Below base w w' → wpList Try.prog ops Q rest (a.put o.dst v') w') : wpList Try.prog ops Q (o :: rest) a w := by
  obtain ⟨i, z, hi, hz, hs, hb, hzs⟩ := info_mb
  refine wpList_app_tab (P := Try.prog) w Try.underlying24 hi hz hs hb hzs (by decide) hgd so xo ho hsv hown.2 hyv hy.2 (mcs_one m) hlen (by decide) hbase fun v' w' h1 h2 => h v' w' ⟨fun x hx => ?_, ?_⟩ h2
  · rcases List.mem_append.1 hx with hx | hx
    · exact hown.1 x hx
    · exact hy.1 x hx
  · rw [List.length_append]
    have e : mcs (l ++ m) = mcs l ++ mcs m := List.flatMap_append
    rw [e]
    exact h1
theorem wp_appR (w : World) {base B : Nat} (hgd : o.guard = none) (so xo : Operand) (ho : o.op = .call { callee := .builtin .append, args := #[so, xo], argTypes := #[25, 25] })
    {v y : Value} {l m : List Rt} (hsv : a.eval so = v) (hown : OwnR w base v l) (hyv : a.eval xo = y) (hy : RTab w B y m) (hlen : l.length + m.length ≤ 1000000) (hbase : base ≤ w.heap.size)
    (h : ∀ v' w', OwnR w' base v' (l ++ m) → Below base w w' → wpList Try.prog ops Q rest (a.put o.dst v') w') : wpList Try.prog ops Q (o :: rest) a w := by
  obtain ⟨i, z, hi, hz, hs, hb, hzs⟩ := info_rt
  refine wpList_app_tab (P := Try.prog) w Try.underlying25 hi hz hs hb hzs (by decide) hgd so xo ho hsv hown hyv hy (rcs_one m) hlen (by decide) hbase fun v' w' h1 h2 => h v' w' ?_ h2
  unfold OwnR
  rw [List.length_append]
  have e : rcs (l ++ m) = rcs l ++ rcs m := List.flatMap_append
  rw [e]
  exact h1
end
theorem ownM_nil (w : World) (base : Nat) : OwnM w base (.slice none 0 0) [] := ⟨fun _ h => by simp at h, World.ownsRow_nil w base 83 34⟩
theorem ownR_nil (w : World) (base : Nat) : OwnR w base (.slice none 0 0) [] := World.ownsRow_nil w base 87 3
set_option maxRecDepth 100000 in
theorem clone1_any {w : World} {B : Nat} {v : Value} {l : List Mb} (ht : MTab w B v l) (hN : l.length ≤ 100000) : Calls Try.prog 75 #[v] w fun e w' => ∃ v', e = .returned v' ∧ OwnM w' w.heap.size v' l ∧ Below w.heap.size w w' := by
  have HT := Lib.hid ht
  have HN := Lib.hid hN
  clear ht hN
  go_enter Try.func75, Try.ntmps75
  go_wp2_with (first
    | (refine wp_appM w (base := w.heap.size) rfl (.const (.slice none 0 0)) (.tmp 3) rfl rfl (ownM_nil _ _) rfl HT.out (by have := HN.out; simp; omega) (Nat.le_refl _) ?_
       intro v' w' h1 h2
       have HO := Lib.hid h1
       have HB := Lib.hid h2
       clear h1 h2)
    | fail)
  go_ret
  exact ⟨v', rfl, HO.out, HB.out⟩
set_option maxRecDepth 100000 in
theorem clone2_any {w : World} {B : Nat} {v : Value} {l : List Rt} (ht : RTab w B v l) (hN : l.length ≤ 100000) : Calls Try.prog 76 #[v] w fun e w' => ∃ v', e = .returned v' ∧ OwnR w' w.heap.size v' l ∧ Below w.heap.size w w' := by
  have HT := Lib.hid ht
  have HN := Lib.hid hN
  clear ht hN
  go_enter Try.func76, Try.ntmps76
  go_wp2_with (first
    | (refine wp_appR w (base := w.heap.size) rfl (.const (.slice none 0 0)) (.tmp 3) rfl rfl (ownR_nil _ _) rfl HT.out (by have := HN.out; simp; omega) (Nat.le_refl _) ?_
       intro v' w' h1 h2
       have HO := Lib.hid h1
       have HB := Lib.hid h2
       clear h1 h2)
    | fail)
  go_ret
  exact ⟨v', rfl, HO.out, HB.out⟩
theorem MTab.take {w : World} {B : Nat} {A : Option Addr} {n c a : Nat} {l : List Mb} (h : MTab w B (.slice A n c) l) (ha : a ≤ l.length) : MTab w B (.slice A a c) (l.take a) := by
  obtain ⟨hk, ht⟩ := h
  refine ⟨fun m hm => hk m (List.mem_of_mem_take hm), ?_⟩
  have hc : a ≤ c := by obtain ⟨A', c', e, h2, _⟩ := ht; simp only [Value.slice.injEq] at e; omega
  have hn : n = l.length := by obtain ⟨_, _, e, _⟩ := ht; simp only [Value.slice.injEq] at e; exact e.2.1
  subst hn
  rw [List.length_take, Nat.min_eq_left ha]
  refine ⟨A, c, rfl, hc, by unfold mcs; rw [flat_len Mb.cs 34 _ (fun m hm => hk.cs m (List.mem_of_mem_take hm)), List.length_take, Nat.min_eq_left ha], fun hne => ?_⟩
  obtain ⟨b, off, e, hb, hx⟩ := ht.piece (i := 0) (m := a) (by omega) hne
  refine ⟨b, off, e, hb, fun j x hj => ?_⟩
  have := hx j x (by unfold mcs; rw [Nat.zero_mul, List.drop_zero, flat_take Mb.cs 34 l a hk.cs]; exact hj)
  simpa using this
theorem MTab.drop {w : World} {B : Nat} {A : Option Addr} {n c i c' : Nat} {l : List Mb} (h : MTab w B (.slice A n c) l) (hi : i ≤ l.length) {A' : Option Addr} (hA : ∀ b off, A = some ⟨b, off, none⟩ → i < l.length → A' = some ⟨b, off + i * 34, none⟩) (hc' : l.length - i ≤ c') : MTab w B (.slice A' (l.length - i) c') (l.drop i) := by
  obtain ⟨hk, ht⟩ := h
  refine ⟨fun m hm => hk m (List.mem_of_mem_drop hm), ?_⟩
  have hn : n = l.length := by obtain ⟨_, _, e, _⟩ := ht; simp only [Value.slice.injEq] at e; exact e.2.1
  subst hn
  rw [List.length_drop]
  refine ⟨A', c', rfl, hc', by unfold mcs; rw [flat_len Mb.cs 34 _ (fun m hm => hk.cs m (List.mem_of_mem_drop hm)), List.length_drop], fun hne => ?_⟩
  obtain ⟨b, off, e, hb, hx⟩ := ht.piece (i := i) (m := l.length - i) (by omega) hne
  refine ⟨b, off + i * 34, hA b off e (by omega), hb, fun j x hj => hx j x ?_⟩
  unfold mcs
  rw [flat_drop Mb.cs 34 l i hk.cs, List.take_of_length_le]
  · exact hj
  · rw [flat_len Mb.cs 34 _ (fun m hm => hk.cs m (List.mem_of_mem_drop hm)), List.length_drop]
    exact Nat.le_refl _
set_option maxRecDepth 100000 in
set_option maxHeartbeats 2000000 in
theorem put1_any {w : World} {B : Nat} {v vx : Value} {l x : List Mb} {a b : Nat} (ht : MTab w B v l) (hx : MTab w B vx x) (hN : l.length ≤ 100000) (hNx : x.length ≤ 100000) (hab : a ≤ b) (hb : b ≤ l.length) (hB : B ≤ w.heap.size) :
    Calls Try.prog 170 #[v, .int .i64 (a : Int), .int .i64 (b : Int), vx] w fun e w' => ∃ v', e = .returned v' ∧ OwnM w' w.heap.size v' (l.take a ++ x ++ l.drop b) ∧ Below w.heap.size w w' := by
  obtain ⟨A, c, rfl, hc⟩ := ht.2.shape
  have hac : (a : Int) ≤ (c : Int) := by omega
  have hbc : (b : Int) ≤ (l.length : Int) := by omega
  have ha0 : 0 ≤ (a : Int) := by omega
  have hb0 : 0 ≤ (b : Int) := by omega
  have HT := Lib.hid (ht.take (a := a) (by omega))
  have HX := Lib.hid hx
  have HD := Lib.hid (fun (A' : Option Addr) (c' : Nat) => ht.drop (i := b) (c' := c') (A' := A') hb)
  have HN := Lib.hid (show (l.take a).length ≤ 100000 ∧ (l.drop b).length ≤ 100000 ∧ x.length ≤ 100000 by simp; omega)
  have HB := Lib.hid hB
  have Hc := Lib.hid (show l.length - b ≤ c - b by omega)
  have Hl1 := Lib.hid (show ([] : List Mb).length + (l.take a).length ≤ 1000000 by have := HN.out; rw [List.length_nil]; omega)
  have Hl2 := Lib.hid (show (l.take a).length + x.length ≤ 1000000 by have := HN.out; omega)
  have Hl3 := Lib.hid (show (l.take a ++ x).length + (l.drop b).length ≤ 1000000 by have := HN.out; rw [List.length_append]; omega)
  by_cases hl : l = []
  · subst hl
    obtain rfl : a = 0 := by simp at hb; omega
    obtain rfl : b = 0 := by simpa using hb
    have HE : Hid (∀ W A c, MTab W B (.slice A 0 c) []) := Lib.hid fun W A c => ⟨fun _ h => by simp at h, Tab.nil 34 W B _ _⟩
    clear ht hx hN hNx hB HT HD
    cases A
    all_goals
      go_enter Try.func170, Try.ntmps170
      go_wp2_with (first
        | (refine wp_appM w (base := w.heap.size) rfl (.const (.slice none 0 0)) (.tmp 13) rfl rfl (ownM_nil _ _) rfl (HE.out _ _ _) Hl1.out (Nat.le_refl _) ?_
           intro v1 w1 h1 h2
           have HO1 := Lib.hid (show OwnM w1 w.heap.size v1 [] from h1)
           have HB1 := Lib.hid h2
           clear h1 h2 Hl1)
        | (refine wp_appM w1 (base := w.heap.size) rfl (.tmp 15) (.tmp 16) rfl rfl HO1.out rfl (HX.out.below (HB1.out.mono HB.out)) Hl2.out HB1.out.size ?_
           intro v2 w2 h1 h2
           have HO2 := Lib.hid h1
           have HB2 := Lib.hid (HB1.out.trans h2)
           clear h1 h2 HO1 HX)
        | (refine wp_appM w2 (base := w.heap.size) rfl (.tmp 18) (.tmp 21) rfl rfl HO2.out rfl (HE.out _ _ _) Hl3.out HB2.out.size ?_
           intro v3 w3 h1 h2
           have HO3 := Lib.hid h1
           have HB3 := Lib.hid (HB2.out.trans h2)
           clear h1 h2 HO2)
        | fail)
      go_ret
      exact ⟨v3, rfl, HO3.out, HB3.out⟩
  · obtain ⟨b0, off, rfl, _, _⟩ : ∃ b off, A = some ⟨b, off, none⟩ ∧ b < B ∧ True := by
      obtain ⟨_, _, e, _, _, h⟩ := ht.2
      cases e
      obtain ⟨b, off, e, hb, _⟩ := h (by simpa using hl)
      exact ⟨b, off, e, hb, trivial⟩
    by_cases hcb : b = c
    · have HDA : Hid (∀ (b1 off1 : Nat), some (⟨b0, off, none⟩ : Addr) = some ⟨b1, off1, none⟩ → b < l.length → some (⟨b0, off, none⟩ : Addr) = some ⟨b1, off1 + b * 34, none⟩) := Lib.hid fun _ _ e h => by omega
      have HD0 : Hid (∀ W, MTab W B (.slice (some ⟨b0, off, none⟩) 0 0) (l.drop b)) := Lib.hid fun W => by
        rw [List.drop_of_length_le (by omega)]
        exact ⟨fun _ h => by simp at h, Tab.nil 34 W B _ _⟩
      clear HDA
      subst hcb
      clear HD
      clear ht hx hN hNx hB
      go_enter Try.func170, Try.ntmps170
      go_wp2_with (first
        | (refine wp_appM w (base := w.heap.size) rfl (.const (.slice none 0 0)) (.tmp 13) rfl rfl (ownM_nil _ _) rfl HT.out Hl1.out (Nat.le_refl _) ?_
           intro v1 w1 h1 h2
           have HO1 := Lib.hid (show OwnM w1 w.heap.size v1 (l.take a) from h1)
           have HB1 := Lib.hid h2
           clear h1 h2 HT)
        | (refine wp_appM w1 (base := w.heap.size) rfl (.tmp 15) (.tmp 16) rfl rfl HO1.out rfl (HX.out.below (HB1.out.mono HB.out)) Hl2.out HB1.out.size ?_
           intro v2 w2 h1 h2
           have HO2 := Lib.hid h1
           have HB2 := Lib.hid (HB1.out.trans h2)
           clear h1 h2 HO1 HX)
        | (refine wp_appM w2 (base := w.heap.size) rfl (.tmp 18) (.tmp 21) rfl rfl HO2.out rfl (HD0.out _) Hl3.out HB2.out.size ?_
           intro v3 w3 h1 h2
           have HO3 := Lib.hid h1
           have HB3 := Lib.hid (HB2.out.trans h2)
           clear h1 h2 HO2 HD0)
        | fail)
      go_ret
      exact ⟨v3, rfl, HO3.out, HB3.out⟩
    · have hcb1 : ¬ c - b = 0 := by omega
      have hcb2 : ¬ c ≤ b := by omega
      have HDA : Hid (∀ (b1 off1 : Nat), some (⟨b0, off, none⟩ : Addr) = some ⟨b1, off1, none⟩ → b < l.length → some (⟨b0, off + b * 34, none⟩ : Addr) = some ⟨b1, off1 + b * 34, none⟩) := Lib.hid fun _ _ e _ => by cases e; rfl
      clear ht hx hN hNx hB
      go_enter Try.func170, Try.ntmps170
      go_wp2_with (first
        | (refine wp_appM w (base := w.heap.size) rfl (.const (.slice none 0 0)) (.tmp 13) rfl rfl (ownM_nil _ _) rfl HT.out Hl1.out (Nat.le_refl _) ?_
           intro v1 w1 h1 h2
           have HO1 := Lib.hid (show OwnM w1 w.heap.size v1 (l.take a) from h1)
           have HB1 := Lib.hid h2
           clear h1 h2 HT)
        | (refine wp_appM w1 (base := w.heap.size) rfl (.tmp 15) (.tmp 16) rfl rfl HO1.out rfl (HX.out.below (HB1.out.mono HB.out)) Hl2.out HB1.out.size ?_
           intro v2 w2 h1 h2
           have HO2 := Lib.hid h1
           have HB2 := Lib.hid (HB1.out.trans h2)
           clear h1 h2 HO1 HX)
        | (refine wp_appM w2 (base := w.heap.size) rfl (.tmp 18) (.tmp 21) rfl rfl HO2.out rfl (MTab.below (HD.out _ _ HDA.out Hc.out) (HB2.out.mono HB.out)) Hl3.out HB2.out.size ?_
           intro v3 w3 h1 h2
           have HO3 := Lib.hid h1
           have HB3 := Lib.hid (HB2.out.trans h2)
           clear h1 h2 HO2 HD)
        | fail)
      go_ret
      exact ⟨v3, rfl, HO3.out, HB3.out⟩
end Go.Proofs.Ytlphmbefcbhhpaa.Cfg
