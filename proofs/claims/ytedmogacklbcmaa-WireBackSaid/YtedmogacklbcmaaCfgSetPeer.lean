/- config: setPeer. -/
import Derived.Test.YtedmogacklbcmaaCfgFind
import Derived.Test.YtedmogacklbcmaaQuietB
import Derived.Test.YtedmogacklbcmaaCfgCheckOp
import Derived.Test.YtedmogacklbcmaaStr
namespace Go.Proofs.Ytedmogacklbcmaa.Cfg
open Go.RowKit
def OwnM (w : World) (base : Nat) (v : Value) (l : List Mb) : Prop := K32 l ∧ w.ownsRow base 95 34 v l.length (mcs l)
def OwnR (w : World) (base : Nat) (v : Value) (l : List Rt) : Prop := w.ownsRow base 98 3 v l.length (rcs l)
theorem OwnM.tab {w : World} {base : Nat} {v : Value} {l : List Mb} (h : OwnM w base v l) : MTab w w.heap.size v l := ⟨h.1, Tab.of_own h.2⟩
theorem OwnR.tab {w : World} {base : Nat} {v : Value} {l : List Rt} (h : OwnR w base v l) : RTab w w.heap.size v l := Tab.of_own h
set_option maxRecDepth 100000 in
theorem info_mb : ∃ i z, Try.prog.info? 95 = some i ∧ i.zero = some z ∧ i.size = 34 ∧ i.bytes = 48 ∧ z.cells.size = 34 := ⟨_, .agg (Mb.cs ⟨0, zkey, false⟩).toArray, rfl, by kernel_rfl, by kernel_rfl, by kernel_rfl, by kernel_rfl⟩
set_option maxRecDepth 100000 in
theorem info_rt : ∃ i z, Try.prog.info? 98 = some i ∧ i.zero = some z ∧ i.size = 3 ∧ i.bytes = 24 ∧ z.cells.size = 3 := ⟨_, .agg (Rt.cs ⟨0, 0, 0⟩).toArray, rfl, by kernel_rfl, by kernel_rfl, by kernel_rfl, by kernel_rfl⟩
section
variable {ops : Array Oper} {rest : List Oper} {o : Oper} {a : Act} {Q : Exit → Act → World → Prop}
theorem wp_appM (w : World) {base B : Nat} (hgd : o.guard = none) (so xo : Operand) (ho : o.op = .call { callee := .builtin .append, args := #[so, xo], argTypes := #[22, 22] })
    {v y : Value} {l m : List Mb} (hsv : a.eval so = v) (hown : OwnM w base v l) (hyv : a.eval xo = y) (hy : MTab w B y m) (hlen : l.length + m.length ≤ 1000000) (hbase : base ≤ w.heap.size)
    (h : ∀ v' w', OwnM w' base v' (l ++ m) → Below base w w' → wpList Try.prog ops Q rest (a.put o.dst v') w') : wpList Try.prog ops Q (o :: rest) a w := by
  obtain ⟨i, z, hi, hz, hs, hb, hzs⟩ := info_mb
  refine wpList_app_tab (P := Try.prog) w Try.underlying22 hi hz hs hb hzs (by decide) hgd so xo ho hsv hown.2 hyv hy.2 (mcs_one m) hlen (by decide) hbase fun v' w' h1 h2 => h v' w' ⟨fun x hx => ?_, ?_⟩ h2
  · rcases List.mem_append.1 hx with hx | hx
    · exact hown.1 x hx
    · exact hy.1 x hx
  · rw [List.length_append]
    have e : mcs (l ++ m) = mcs l ++ mcs m := List.flatMap_append
    rw [e]
    exact h1
theorem wp_appR (w : World) {base B : Nat} (hgd : o.guard = none) (so xo : Operand) (ho : o.op = .call { callee := .builtin .append, args := #[so, xo], argTypes := #[23, 23] })
    {v y : Value} {l m : List Rt} (hsv : a.eval so = v) (hown : OwnR w base v l) (hyv : a.eval xo = y) (hy : RTab w B y m) (hlen : l.length + m.length ≤ 1000000) (hbase : base ≤ w.heap.size)
    (h : ∀ v' w', OwnR w' base v' (l ++ m) → Below base w w' → wpList Try.prog ops Q rest (a.put o.dst v') w') : wpList Try.prog ops Q (o :: rest) a w := by
  obtain ⟨i, z, hi, hz, hs, hb, hzs⟩ := info_rt
  refine wpList_app_tab (P := Try.prog) w Try.underlying23 hi hz hs hb hzs (by decide) hgd so xo ho hsv hown hyv hy (rcs_one m) hlen (by decide) hbase fun v' w' h1 h2 => h v' w' ?_ h2
  unfold OwnR
  rw [List.length_append]
  have e : rcs (l ++ m) = rcs l ++ rcs m := List.flatMap_append
  rw [e]
  exact h1
end
theorem ownM_nil (w : World) (base : Nat) : OwnM w base (.slice none 0 0) [] := ⟨fun _ h => by simp at h, World.ownsRow_nil w base 95 34⟩
theorem ownR_nil (w : World) (base : Nat) : OwnR w base (.slice none 0 0) [] := World.ownsRow_nil w base 98 3
set_option maxRecDepth 100000 in
theorem clone1_any {w : World} {B : Nat} {v : Value} {l : List Mb} (ht : MTab w B v l) (hN : l.length ≤ 100000) : Calls Try.prog 54 #[v] w fun e w' => ∃ v', e = .returned v' ∧ OwnM w' w.heap.size v' l ∧ Below w.heap.size w w' := by
  have HT := Lib.hid ht
  have HN := Lib.hid hN
  clear ht hN
  go_enter Try.func54, Try.ntmps54
  go_wp2_with (first
    | (refine wp_appM w (base := w.heap.size) rfl (.const (.slice none 0 0)) (.tmp 3) rfl rfl (ownM_nil _ _) rfl HT.out (by have := HN.out; simp; omega) (Nat.le_refl _) ?_
       intro v' w' h1 h2
       have HO := Lib.hid h1
       have HB := Lib.hid h2
       clear h1 h2)
    | fail)
  go_ret
  exact ⟨v', rfl, HO.out, HB.out⟩
set_option maxRecDepth 100000 in
theorem clone2_any {w : World} {B : Nat} {v : Value} {l : List Rt} (ht : RTab w B v l) (hN : l.length ≤ 100000) : Calls Try.prog 55 #[v] w fun e w' => ∃ v', e = .returned v' ∧ OwnR w' w.heap.size v' l ∧ Below w.heap.size w w' := by
  have HT := Lib.hid ht
  have HN := Lib.hid hN
  clear ht hN
  go_enter Try.func55, Try.ntmps55
  go_wp2_with (first
    | (refine wp_appR w (base := w.heap.size) rfl (.const (.slice none 0 0)) (.tmp 3) rfl rfl (ownR_nil _ _) rfl HT.out (by have := HN.out; simp; omega) (Nat.le_refl _) ?_
       intro v' w' h1 h2
       have HO := Lib.hid h1
       have HB := Lib.hid h2
       clear h1 h2)
    | fail)
  go_ret
  exact ⟨v', rfl, HO.out, HB.out⟩
theorem MTab.take {w : World} {B : Nat} {A : Option Addr} {n c a : Nat} {l : List Mb} (h : MTab w B (.slice A n c) l) (ha : a ≤ l.length) : MTab w B (.slice A a c) (l.take a) := by
  obtain ⟨hk, ht⟩ := h
  refine ⟨fun m hm => hk m (List.mem_of_mem_take hm), ?_⟩
  have hc : a ≤ c := by obtain ⟨A', c', e, h2, _⟩ := ht; simp only [Value.slice.injEq] at e; omega
  have hn : n = l.length := by obtain ⟨_, _, e, _⟩ := ht; simp only [Value.slice.injEq] at e; exact e.2.1
  subst hn
  rw [List.length_take, Nat.min_eq_left ha]
  refine ⟨A, c, rfl, hc, by unfold mcs; rw [flat_len Mb.cs 34 _ (fun m hm => hk.cs m (List.mem_of_mem_take hm)), List.length_take, Nat.min_eq_left ha], fun hne => ?_⟩
  obtain ⟨b, off, e, hb, hx⟩ := ht.piece (i := 0) (m := a) (by omega) hne
  refine ⟨b, off, e, hb, fun j x hj => ?_⟩
  have := hx j x (by unfold mcs; rw [Nat.zero_mul, List.drop_zero, flat_take Mb.cs 34 l a hk.cs]; exact hj)
  simpa using this
theorem MTab.drop {w : World} {B : Nat} {A : Option Addr} {n c i c' : Nat} {l : List Mb} (h : MTab w B (.slice A n c) l) (hi : i ≤ l.length) {A' : Option Addr} (hA : ∀ b off, A = some ⟨b, off, none⟩ → i < l.length → A' = some ⟨b, off + i * 34, none⟩) (hc' : l.length - i ≤ c') : MTab w B (.slice A' (l.length - i) c') (l.drop i) := by
  obtain ⟨hk, ht⟩ := h
  refine ⟨fun m hm => hk m (List.mem_of_mem_drop hm), ?_⟩
  have hn : n = l.length := by obtain ⟨_, _, e, _⟩ := ht; simp only [Value.slice.injEq] at e; exact e.2.1
  subst hn
  rw [List.length_drop]
  refine ⟨A', c', rfl, hc', by unfold mcs; rw [flat_len Mb.cs 34 _ (fun m hm => hk.cs m (List.mem_of_mem_drop hm)), List.length_drop], fun hne => ?_⟩
  obtain ⟨b, off, e, hb, hx⟩ := ht.piece (i := i) (m := l.length - i) (by omega) hne
  refine ⟨b, off + i * 34, hA b off e (by omega), hb, fun j x hj => hx j x ?_⟩
  unfold mcs
  rw [flat_drop Mb.cs 34 l i hk.cs, List.take_of_length_le]
  · exact hj
  · rw [flat_len Mb.cs 34 _ (fun m hm => hk.cs m (List.mem_of_mem_drop hm)), List.length_drop]
    exact Nat.le_refl _
set_option maxRecDepth 100000 in
set_option maxHeartbeats 2000000 in
theorem put1_any {w : World} {B : Nat} {v vx : Value} {l x : List Mb} {a b : Nat} (ht : MTab w B v l) (hx : MTab w B vx x) (hN : l.length ≤ 100000) (hNx : x.length ≤ 100000) (hab : a ≤ b) (hb : b ≤ l.length) (hB : B ≤ w.heap.size) :
    Calls Try.prog 160 #[v, .int .i64 (a : Int), .int .i64 (b : Int), vx] w fun e w' => ∃ v', e = .returned v' ∧ OwnM w' w.heap.size v' (l.take a ++ x ++ l.drop b) ∧ Below w.heap.size w w' := by
  obtain ⟨A, c, rfl, hc⟩ := ht.2.shape
  have hac : (a : Int) ≤ (c : Int) := by omega
  have hbc : (b : Int) ≤ (l.length : Int) := by omega
  have ha0 : 0 ≤ (a : Int) := by omega
  have hb0 : 0 ≤ (b : Int) := by omega
  have HT := Lib.hid (ht.take (a := a) (by omega))
  have HX := Lib.hid hx
  have HD := Lib.hid (fun (A' : Option Addr) (c' : Nat) => ht.drop (i := b) (c' := c') (A' := A') hb)
  have HN := Lib.hid (show (l.take a).length ≤ 100000 ∧ (l.drop b).length ≤ 100000 ∧ x.length ≤ 100000 by simp; omega)
  have HB := Lib.hid hB
  have Hc := Lib.hid (show l.length - b ≤ c - b by omega)
  have Hl1 := Lib.hid (show ([] : List Mb).length + (l.take a).length ≤ 1000000 by have := HN.out; rw [List.length_nil]; omega)
  have Hl2 := Lib.hid (show (l.take a).length + x.length ≤ 1000000 by have := HN.out; omega)
  have Hl3 := Lib.hid (show (l.take a ++ x).length + (l.drop b).length ≤ 1000000 by have := HN.out; rw [List.length_append]; omega)
  by_cases hl : l = []
  · subst hl
    obtain rfl : a = 0 := by simp at hb; omega
    obtain rfl : b = 0 := by simpa using hb
    have HE : Hid (∀ W A c, MTab W B (.slice A 0 c) []) := Lib.hid fun W A c => ⟨fun _ h => by simp at h, Tab.nil 34 W B _ _⟩
    clear ht hx hN hNx hB HT HD
    cases A
    all_goals
      go_enter Try.func160, Try.ntmps160
      go_wp2_with (first
        | (refine wp_appM w (base := w.heap.size) rfl (.const (.slice none 0 0)) (.tmp 13) rfl rfl (ownM_nil _ _) rfl (HE.out _ _ _) Hl1.out (Nat.le_refl _) ?_
           intro v1 w1 h1 h2
           have HO1 := Lib.hid (show OwnM w1 w.heap.size v1 [] from h1)
           have HB1 := Lib.hid h2
           clear h1 h2 Hl1)
        | (refine wp_appM w1 (base := w.heap.size) rfl (.tmp 15) (.tmp 16) rfl rfl HO1.out rfl (HX.out.below (HB1.out.mono HB.out)) Hl2.out HB1.out.size ?_
           intro v2 w2 h1 h2
           have HO2 := Lib.hid h1
           have HB2 := Lib.hid (HB1.out.trans h2)
           clear h1 h2 HO1 HX)
        | (refine wp_appM w2 (base := w.heap.size) rfl (.tmp 18) (.tmp 21) rfl rfl HO2.out rfl (HE.out _ _ _) Hl3.out HB2.out.size ?_
           intro v3 w3 h1 h2
           have HO3 := Lib.hid h1
           have HB3 := Lib.hid (HB2.out.trans h2)
           clear h1 h2 HO2)
        | fail)
      go_ret
      exact ⟨v3, rfl, HO3.out, HB3.out⟩
  · obtain ⟨b0, off, rfl, _, _⟩ : ∃ b off, A = some ⟨b, off, none⟩ ∧ b < B ∧ True := by
      obtain ⟨_, _, e, _, _, h⟩ := ht.2
      cases e
      obtain ⟨b, off, e, hb, _⟩ := h (by simpa using hl)
      exact ⟨b, off, e, hb, trivial⟩
    by_cases hcb : b = c
    · have HDA : Hid (∀ (b1 off1 : Nat), some (⟨b0, off, none⟩ : Addr) = some ⟨b1, off1, none⟩ → b < l.length → some (⟨b0, off, none⟩ : Addr) = some ⟨b1, off1 + b * 34, none⟩) := Lib.hid fun _ _ e h => by omega
      have HD0 : Hid (∀ W, MTab W B (.slice (some ⟨b0, off, none⟩) 0 0) (l.drop b)) := Lib.hid fun W => by
        rw [List.drop_of_length_le (by omega)]
        exact ⟨fun _ h => by simp at h, Tab.nil 34 W B _ _⟩
      clear HDA
      subst hcb
      clear HD
      clear ht hx hN hNx hB
      go_enter Try.func160, Try.ntmps160
      go_wp2_with (first
        | (refine wp_appM w (base := w.heap.size) rfl (.const (.slice none 0 0)) (.tmp 13) rfl rfl (ownM_nil _ _) rfl HT.out Hl1.out (Nat.le_refl _) ?_
           intro v1 w1 h1 h2
           have HO1 := Lib.hid (show OwnM w1 w.heap.size v1 (l.take a) from h1)
           have HB1 := Lib.hid h2
           clear h1 h2 HT)
        | (refine wp_appM w1 (base := w.heap.size) rfl (.tmp 15) (.tmp 16) rfl rfl HO1.out rfl (HX.out.below (HB1.out.mono HB.out)) Hl2.out HB1.out.size ?_
           intro v2 w2 h1 h2
           have HO2 := Lib.hid h1
           have HB2 := Lib.hid (HB1.out.trans h2)
           clear h1 h2 HO1 HX)
        | (refine wp_appM w2 (base := w.heap.size) rfl (.tmp 18) (.tmp 21) rfl rfl HO2.out rfl (HD0.out _) Hl3.out HB2.out.size ?_
           intro v3 w3 h1 h2
           have HO3 := Lib.hid h1
           have HB3 := Lib.hid (HB2.out.trans h2)
           clear h1 h2 HO2 HD0)
        | fail)
      go_ret
      exact ⟨v3, rfl, HO3.out, HB3.out⟩
    · have hcb1 : ¬ c - b = 0 := by omega
      have hcb2 : ¬ c ≤ b := by omega
      have HDA : Hid (∀ (b1 off1 : Nat), some (⟨b0, off, none⟩ : Addr) = some ⟨b1, off1, none⟩ → b < l.length → some (⟨b0, off + b * 34, none⟩ : Addr) = some ⟨b1, off1 + b * 34, none⟩) := Lib.hid fun _ _ e _ => by cases e; rfl
      clear ht hx hN hNx hB
      go_enter Try.func160, Try.ntmps160
      go_wp2_with (first
        | (refine wp_appM w (base := w.heap.size) rfl (.const (.slice none 0 0)) (.tmp 13) rfl rfl (ownM_nil _ _) rfl HT.out Hl1.out (Nat.le_refl _) ?_
           intro v1 w1 h1 h2
           have HO1 := Lib.hid (show OwnM w1 w.heap.size v1 (l.take a) from h1)
           have HB1 := Lib.hid h2
           clear h1 h2 HT)
        | (refine wp_appM w1 (base := w.heap.size) rfl (.tmp 15) (.tmp 16) rfl rfl HO1.out rfl (HX.out.below (HB1.out.mono HB.out)) Hl2.out HB1.out.size ?_
           intro v2 w2 h1 h2
           have HO2 := Lib.hid h1
           have HB2 := Lib.hid (HB1.out.trans h2)
           clear h1 h2 HO1 HX)
        | (refine wp_appM w2 (base := w.heap.size) rfl (.tmp 18) (.tmp 21) rfl rfl HO2.out rfl (MTab.below (HD.out _ _ HDA.out Hc.out) (HB2.out.mono HB.out)) Hl3.out HB2.out.size ?_
           intro v3 w3 h1 h2
           have HO3 := Lib.hid h1
           have HB3 := Lib.hid (HB2.out.trans h2)
           clear h1 h2 HO2 HD)
        | fail)
      go_ret
      exact ⟨v3, rfl, HO3.out, HB3.out⟩
end Go.Proofs.Ytedmogacklbcmaa.Cfg
namespace Go.Proofs.Ytedmogacklbcmaa.Cfg
open Go.RowKit
def Stop2 (p : Prop) : Prop := p
theorem stop2 {p : Prop} (h : Stop2 p) : p := h
theorem own_less {w : World} {base base' : Nat} {e : TypeId} {k : Nat} {v : Value} {n : Nat} {xs : List Value} (h : w.ownsRow base e k v n xs) (hb : base' ≤ base) : w.ownsRow base' e k v n xs := by
  refine ⟨h.1, ?_⟩
  rcases h.2 with h2 | ⟨g, cap, cur, e', hg, r⟩
  · exact .inl h2
  · exact .inr ⟨g, cap, cur, e', by omega, r⟩
theorem foldset : ∀ (l : List Value) (k : Nat) (base : Array Value), k + l.length ≤ base.size → ((l.zipIdx k).foldl (fun (cs : Array Value) (x : Value × Nat) => cs.setIfInBounds x.2 x.1) base).toList = base.toList.take k ++ l ++ base.toList.drop (k + l.length)
  | [], k, base, _ => by simp
  | c :: r, k, base, h => by
    rw [List.zipIdx_cons, List.foldl_cons]
    have h' : k + 1 + r.length ≤ base.size := by simp at h; omega
    rw [foldset r (k + 1) _ (by simpa using h'), Array.toList_setIfInBounds]
    have hlt : k < base.toList.length := by simp; omega
    have e1 : (base.toList.set k c).take (k + 1) = base.toList.take k ++ [c] := by
      rw [List.set_eq_take_append_cons_drop, if_pos hlt, List.take_append, List.length_take, Nat.min_eq_left (by omega), List.take_take, Nat.min_eq_right (by omega), show k + 1 - k = 1 by omega]
      rfl
    have e2 : (base.toList.set k c).drop (k + 1 + r.length) = base.toList.drop (k + (c :: r).length) := by
      rw [List.drop_set_of_lt (by omega), List.length_cons, show k + 1 + r.length = k + (r.length + 1) by omega]
    rw [e1, e2]
    simp
section
variable {P : Program}
/-- A slice of one element, built. -/
theorem run_bs_one {t e : TypeId} {k : Nat} {z : Value} {i : TypeInfo} (hu : P.underlying t = some (.slice e)) (hi : P.info? e = some i) (hz : i.zero = some z) (hs : i.size = k) (hzs : z.cells.size = k) (hk : 0 < k) (hk2 : k ≤ 1000) (cs : List Value) (hcs : cs.length = k) (w : World) :
    (Instr.buildSlice t 1 #[(0, .agg cs.toArray)]).run P w = .ok (.slice (some ⟨w.heap.size, 0, none⟩) 1 1) (w.alloc (.cells cs.toArray e)) := by
  have h1 : (sizeOf e).run P w = .ok k w := by simp [sizeOf, typeInfo, hi, hs]
  have h2 : (zeroValue e).run P w = .ok z w := by simp [zeroValue, typeInfo, hi, hz]
  have h3 : ∀ base : Array Value, base.size = k → Instr.fill (fun i => some (i * k, k)) base [(0, .agg cs.toArray)] = some cs.toArray := by
    intro base hb
    have e1 : (cs.toArray.zipIdx.foldl (fun (cs : Array Value) (x : Value × Nat) => cs.setIfInBounds (0 * k + x.2) x.1) base) = cs.toArray := by
      apply Array.ext'
      rw [← Array.foldl_toList, Array.toList_zipIdx]
      simp only [Nat.zero_mul, Nat.zero_add]
      rw [foldset cs 0 base (by omega)]
      have : base.toList.drop (0 + cs.length) = [] := List.drop_of_length_le (by simp; omega)
      rw [this]
      simp
    unfold Instr.fill
    simp only [Value.cells, List.size_toArray, hcs, hb]
    rw [if_neg (by simp)]
    unfold Instr.fill
    exact congrArg some e1
  have h4 : ¬ 1 * k > 2 ^ 24 := by omega
  have h5 : ¬ 1 * k = 0 := by omega
  unfold Instr.buildSlice
  simp only [Sem.run_bind, run_underlying hu w, Result.andThen_ok, h1, if_neg h4, if_neg h5, h2, Sem.run_pure]
  rw [h3 _ (by simp)]
  simp [newRow]
theorem wpList_bs {ops : Array Oper} {rest : List Oper} {o : Oper} {a : Act} {w w' : World} {Q : Exit → Act → World → Prop} (hgd : o.guard = none) (t : TypeId) (n : Nat) (parts : Array (Nat × Operand)) (ho : o.op = .buildSlice t n parts) {v : Value}
    {ps : Array (Nat × Value)} (hp : (parts.map fun (i, x) => (i, a.eval x)) = ps) (hrun : (Instr.buildSlice t n ps).run P w = .ok v w') (hk : wpList P ops Q rest (a.put o.dst v) w') : wpList P ops Q (o :: rest) a w := by
  refine wpList_plain hgd fun K hK => ?_
  unfold Oper.wp execOp
  simp only [ho, hp, Sem.run_bind, Sem.run_pure, Result.andThen_ok, hrun]
  exact hK _ _ hk
end
theorem MTab.one {w : World} {g B : Nat} {m : Mb} (hk : m.ky.length = 32) (h : Row w g m.cs 95) (hB : g < B) : MTab w B (.slice (some ⟨g, 0, none⟩) 1 1) [m] :=
  ⟨fun x hx => by simp at hx; subst hx; exact hk, _, 1, rfl, Nat.le_refl _, by simp [mcs, Mb.len hk], fun _ => ⟨g, 0, rfl, hB, fun j x hx => by rw [Nat.zero_add]; exact h.cell (by simpa [mcs] using hx)⟩⟩
set_option maxRecDepth 100000 in
set_option maxHeartbeats 2000000 in
theorem set1_any {w : World} {B : Nat} {v : Value} {l : List Mb} {x : Mb} {a : Nat} (th : Bool) (ht : MTab w B v l) (hk : x.ky.length = 32) (hN : l.length ≤ 10000) (hab : a + (if th = true then 1 else 0) ≤ l.length) (hB : B ≤ w.heap.size) :
    Calls Try.prog 158 #[v, .int .i64 (a : Int), .bool th, x.val] w fun e w' => ∃ v', e = .returned v' ∧ OwnM w' w.heap.size v' (l.take a ++ [x] ++ l.drop (a + (if th = true then 1 else 0))) ∧ Below w.heap.size w w' := by
  obtain ⟨i, z, hi, hz, hs, _, hzs⟩ := info_mb
  have hr : Row (w.alloc (.cells x.cs.toArray 95)) w.heap.size x.cs 95 := Row.new rfl rfl
  have hl := run_loadVar_cells (P := Try.prog) (w.alloc (.cells x.cs.toArray 95)) (b := w.heap.size) (off := 0) (n := 34) Try.underlying95 rfl (by kernel_rfl) (Mb.len hk) (fun j y hx => by rw [Nat.zero_add]; exact hr.cell hx)
  have hb : Below w.heap.size w (w.alloc (.cells x.cs.toArray 95)) := (Below.refl _ w).alloc (Nat.le_refl _) _
  have HBS := Lib.hid (run_bs_one (P := Try.prog) Try.underlying22 hi hz hs hzs (by decide) (by decide) x.cs (Mb.len hk) (w.alloc (.cells x.cs.toArray 95)))
  have hb2 : Below w.heap.size w ((w.alloc (.cells x.cs.toArray 95)).alloc (.cells x.cs.toArray 95)) := hb.alloc (by simp) _
  have hr2 : Row ((w.alloc (.cells x.cs.toArray 95)).alloc (.cells x.cs.toArray 95)) (w.alloc (.cells x.cs.toArray 95)).heap.size x.cs 95 := Row.new rfl rfl
  have HP := Lib.hid (put1_any (w := (w.alloc (.cells x.cs.toArray 95)).alloc (.cells x.cs.toArray 95)) (B := (w.alloc (.cells x.cs.toArray 95)).heap.size + 1) (v := v) (vx := .slice (some ⟨(w.alloc (.cells x.cs.toArray 95)).heap.size, 0, none⟩) 1 1) (l := l) (x := [x]) (a := a) (b := a + (if th = true then 1 else 0))
    ((ht.below (hb2.mono hB)).more (by simp; omega)) (MTab.one hk hr2 (Nat.lt_succ_self _)) (by omega) (by simp) (by omega) hab (by simp))
  have HL := Lib.hid hl
  have HB := Lib.hid hb2
  rw [show (w.alloc (.cells x.cs.toArray 95)).heap.size = w.heap.size + 1 by simp] at HP
  have ha1 : (a : Int) ≤ 10000 := by omega
  have ha2 : 0 ≤ (a : Int) := by omega
  clear hi hz hs hzs hr hl hb hb2 hr2 ht hN hab hB
  unfold Mb.val
  cases th
  · simp only [Bool.false_eq_true, if_false, Nat.add_zero] at HP ⊢
    go_enter Try.func158, Try.ntmps158
    go_wp2_with (first
      | (show wpList _ _ _ (⟨some 17, _, _, _, _, _⟩ :: _) _ _; refine QB.wpList_ld 95 rfl rfl HL.out rfl ?_; clear HL; refine stop2 ?_)
      | (go_at_call 160; refine HP.out.mono ?_; rintro e w2 ⟨v2, rfl, h1, h2⟩; have HO := Lib.hid h1; have HB2 := Lib.hid (nextB HB.out (Nat.le_refl _) h2); clear h1 h2)
      | fail)
    unfold Stop2
    refine wpList_bs rfl 22 1 #[(0, .tmp 17)] rfl (ps := #[(0, .agg x.cs.toArray)]) (by kernel_rfl) HBS.out ?_
    clear HBS
    go_wp2_with fail
    refine HP.out.mono ?_
    rintro e w2 ⟨v2, rfl, h1, h2⟩
    have HO := Lib.hid h1
    have HB2 := Lib.hid (nextB HB.out (Nat.le_refl _) h2)
    clear h1 h2
    go_wp2
    go_ret
    exact ⟨v2, rfl, ⟨HO.out.1, own_less HO.out.2 (by simp; omega)⟩, HB2.out⟩
  · simp only [if_true] at HP ⊢
    have ha3 : ((a + 1 : Nat) : Int) = (a : Int) + 1 := by omega
    rw [ha3] at HP
    clear ha3
    go_enter Try.func158, Try.ntmps158
    go_wp2_with (first
      | (show wpList _ _ _ (⟨some 17, _, _, _, _, _⟩ :: _) _ _; refine QB.wpList_ld 95 rfl rfl HL.out rfl ?_; clear HL; refine stop2 ?_)
      | (go_at_call 160; refine HP.out.mono ?_; rintro e w2 ⟨v2, rfl, h1, h2⟩; have HO := Lib.hid h1; have HB2 := Lib.hid (nextB HB.out (Nat.le_refl _) h2); clear h1 h2)
      | fail)
    unfold Stop2
    refine wpList_bs rfl 22 1 #[(0, .tmp 17)] rfl (ps := #[(0, .agg x.cs.toArray)]) (by kernel_rfl) HBS.out ?_
    clear HBS
    go_wp2_with fail
    refine HP.out.mono ?_
    rintro e w2 ⟨v2, rfl, h1, h2⟩
    have HO := Lib.hid h1
    have HB2 := Lib.hid (nextB HB.out (Nat.le_refl _) h2)
    clear h1 h2
    go_wp2
    go_ret
    exact ⟨v2, rfl, ⟨HO.out.1, own_less HO.out.2 (by simp; omega)⟩, HB2.out⟩
end Go.Proofs.Ytedmogacklbcmaa.Cfg
namespace Go.Proofs.Ytedmogacklbcmaa.Cfg
open Go.RowKit
set_option maxRecDepth 100000 in
theorem build_mb (id : Int) (ky : List UInt8) (h : ky.length = 32) (w : World) : (Instr.build 95 #[(0, .int .i64 id), (1, arr8 ky)]).run Try.prog w = .ok (Mb.val ⟨id, ky, false⟩) w := by
  match ky, h with
  | [k0, k1, k2, k3, k4, k5, k6, k7, k8, k9, k10, k11, k12, k13, k14, k15, k16, k17, k18, k19, k20, k21, k22, k23, k24, k25, k26, k27, k28, k29, k30, k31], _ =>
    show _ = _
    kernel_rfl
/-- Arms that need the parts evaluated. -/
theorem wpList_bp {P : Program} {ops : Array Oper} {rest : List Oper} {o : Oper} {a : Act} {w : World} {Q : Exit → Act → World → Prop} (hgd : o.guard = none) (t : TypeId) (parts : Array (Nat × Operand)) (ho : o.op = .build t parts) {ps : Array (Nat × Value)} (hp : (parts.map fun (i, x) => (i, a.eval x)) = ps) {v : Value}
    (hrun : (Instr.build t ps).run P w = .ok v w) (hk : wpList P ops Q rest (a.put o.dst v) w) : wpList P ops Q (o :: rest) a w := by
  refine wpList_plain hgd fun K hK => ?_
  unfold Oper.wp execOp
  simp only [ho, hp, Sem.run_bind, Sem.run_pure, Result.andThen_ok, hrun]
  exact hK _ _ hk
theorem owns_below {w w' : World} {base : Nat} {e : TypeId} {k : Nat} {v : Value} {n : Nat} {xs : List Value} (h : w.ownsRow base e k v n xs) (hb : Below w.heap.size w w') : w'.ownsRow base e k v n xs := by
  refine ⟨h.1, ?_⟩
  rcases h.2 with h2 | ⟨g, cap, cur, e', hg, hgg, r⟩
  · exact .inl h2
  · exact .inr ⟨g, cap, cur, e', hg, by rw [hb.block g (Array.getElem?_eq_some_iff.1 hgg).1]; exact hgg, r⟩
theorem owns_setCell {w : World} {base : Nat} {e : TypeId} {k : Nat} {v : Value} {n : Nat} {xs : List Value} (h : w.ownsRow base e k v n xs) (p : Addr) (hp : p.block < base) (u : Value) : (w.setCell p u).ownsRow base e k v n xs := by
  refine ⟨h.1, ?_⟩
  rcases h.2 with h2 | ⟨g, cap, cur, e', hg, hgg, r⟩
  · exact .inl h2
  · exact .inr ⟨g, cap, cur, e', hg, by rw [heap_setCell_other w p g u (by omega)]; exact hgg, r⟩
/-- Two tables of one's own, from block 'base' on. -/
structure CNew (w : World) (base : Nat) (v1 v2 : Value) (c : Cf) : Prop where
  ps : OwnM w base v1 c.ps
  rs : OwnR w base v2 c.rs
theorem CNew.at {w : World} {base : Nat} {v1 v2 : Value} {c : Cf} (h : CNew w base v1 v2 c) : CAt w w.heap.size v1 v2 c := ⟨h.ps.tab, h.rs.tab⟩
theorem CNew.below {w w' : World} {base : Nat} {v1 v2 : Value} {c : Cf} (h : CNew w base v1 v2 c) (hb : Below w.heap.size w w') : CNew w' base v1 v2 c := ⟨⟨h.ps.1, owns_below h.ps.2 hb⟩, owns_below h.rs hb⟩
theorem CNew.less {w : World} {base base' : Nat} {v1 v2 : Value} {c : Cf} (h : CNew w base v1 v2 c) (hb : base' ≤ base) : CNew w base' v1 v2 c := ⟨⟨h.ps.1, own_less h.ps.2 hb⟩, own_less h.rs hb⟩
theorem owns_setRow {w : World} {base : Nat} {e : TypeId} {k : Nat} {v : Value} {n : Nat} {xs : List Value} (h : w.ownsRow base e k v n xs) (g : Nat) (hp : g < base) (cs : Array Value) : (w.setRow g cs).ownsRow base e k v n xs := by
  refine ⟨h.1, ?_⟩
  rcases h.2 with h2 | ⟨g', cap, cur, e', hg, hgg, r⟩
  · exact .inl h2
  · exact .inr ⟨g', cap, cur, e', hg, by rw [setRow_other w g g' cs (by omega)]; exact hgg, r⟩
theorem CNew.setRow {w : World} {base g : Nat} {v1 v2 : Value} {c : Cf} (h : CNew w base v1 v2 c) (hg : g < base) (cs : Array Value) : CNew (w.setRow g cs) base v1 v2 c := ⟨⟨h.ps.1, owns_setRow h.ps.2 g hg cs⟩, owns_setRow h.rs g hg cs⟩
theorem CNew.setCell {w : World} {base : Nat} {v1 v2 : Value} {c : Cf} (h : CNew w base v1 v2 c) (p : Addr) (hg : p.block < base) (u : Value) : CNew (w.setCell p u) base v1 v2 c := ⟨⟨h.ps.1, owns_setCell h.ps.2 p hg u⟩, owns_setCell h.rs p hg u⟩
theorem CNew.one {w : World} {base : Nat} {v1 v2 : Value} {c : Cf} (h : CNew w base v1 v2 c) : v1.oneCell' = true ∧ v2.oneCell' = true := by
  obtain ⟨_, _, _, _, rfl, rfl⟩ := h.at.shape
  exact ⟨rfl, rfl⟩
def setL (l : List Mb) (x : Mb) : List Mb := lo Mb.key x.key l ++ x :: hi Mb.key x.key l
theorem setL_is {l : List Mb} (hO : Ord Mb.key l) (x : Mb) (hk : x.key = (x.id, 0)) : l.take (pos Mb.key (x.id, 0) l) ++ [x] ++ l.drop (pos Mb.key (x.id, 0) l + (if has Mb.key (x.id, 0) l = true then 1 else 0)) = setL l x := by
  unfold setL
  rw [hk, take_pos _ hO, drop_pos _ hO, List.append_assoc]
  rfl
theorem pos_fit {l : List Mb} (hO : Ord Mb.key l) (k : Ky) : pos Mb.key k l + (if has Mb.key k l = true then 1 else 0) ≤ l.length := by
  cases hh : has Mb.key k l with
  | false => simpa using pos_le k l
  | true =>
    obtain ⟨x, hx, _⟩ := at_pos k hO hh
    have := (List.getElem?_eq_some_iff.1 hx).1
    simp
    omega
set_option maxRecDepth 100000 in
set_option maxHeartbeats 2000000 in
theorem setPeer_ok {w : World} {B : Nat} {vp vr : Value} {c : Cf} {o : Opn} (h : CAt w B vp vr c) (hV : Val c) (hk : o.ky.length = 32) (hfull : has Mb.key (o.id, 0) c.ps = true ∨ c.ps.length ≠ 64) (hB : B ≤ w.heap.size) :
    Calls Try.prog 133 #[.agg #[vp, vr], o.val] w fun e w' => ∃ v1 v2, e = .returned (.tuple #[.agg #[v1, v2], .int .i64 0]) ∧ CNew w' w.heap.size v1 v2 ⟨setL c.ps ⟨o.id, o.ky, false⟩, c.rs⟩ ∧ Below w.heap.size w w' := by
  obtain ⟨A1, n1, A2, n2, rfl, rfl⟩ := h.shape
  obtain ⟨W1, hW1⟩ : ∃ W1, ((w.alloc (.cells #[.slice A1 c.ps.length n1, .slice A2 c.rs.length n2] 25)).alloc (.cells o.cs.toArray 30)).alloc (.cells #[.slice none 0 0, .slice none 0 0] 25) = W1 := ⟨_, rfl⟩
  have hb1 : Below w.heap.size w W1 := hW1 ▸ (((Below.refl _ w).alloc (Nat.le_refl _) _).alloc (by simp) _).alloc (by simp; omega) _
  have hr0 : Row W1 w.heap.size [.slice A1 c.ps.length n1, .slice A2 c.rs.length n2] 25 := hW1 ▸ ((Row.new rfl rfl : Row (w.alloc (.cells #[.slice A1 c.ps.length n1, .slice A2 c.rs.length n2] 25)) w.heap.size [.slice A1 c.ps.length n1, .slice A2 c.rs.length n2] 25).alloc _).alloc _
  have hr1 : Row W1 (w.heap.size + 1) o.cs 30 := hW1 ▸ (Row.new (by simp) rfl : Row ((w.alloc (.cells #[.slice A1 c.ps.length n1, .slice A2 c.rs.length n2] 25)).alloc (.cells o.cs.toArray 30)) (w.heap.size + 1) o.cs 30).alloc _
  have hr2 : Row W1 (w.heap.size + 1 + 1) [.slice none 0 0, .slice none 0 0] 25 := hW1 ▸ Row.new (by simp) rfl
  have c0 := hr0.cell (i := 0) rfl
  have c1 := hr0.cell (i := 1) rfl
  have ci := hr1.cell (i := 2) rfl
  have HR0 := Lib.hid hr0
  have HR1 := Lib.hid hr1
  have HR2 := Lib.hid hr2
  have HB1 := Lib.hid hb1
  have HC := Lib.hid h
  have Hk := Lib.hid hk
  have HV := Lib.hid hV
  have HBw := Lib.hid hB
  have HAt := Lib.hid (At1_any (w := W1) (B := B) (vp := .slice A1 c.ps.length n1) (vr := .slice A2 c.rs.length n2) (h.1.below (hb1.mono hB)) (by have := hV.1; omega) hV.2.2.2.1 rfl rfl o.id (Nat.le_trans hB hb1.size))
  obtain ⟨p, hp⟩ : ∃ p, pos Mb.key (o.id, 0) c.ps = p := ⟨_, rfl⟩
  obtain ⟨th, hth⟩ : ∃ th, has Mb.key (o.id, 0) c.ps = th := ⟨_, rfl⟩
  rw [hp, hth] at HAt
  rw [hth] at hfull
  have Hp := Lib.hid hp
  have Hth := Lib.hid hth
  have Hfull := Lib.hid hfull
  clear h hV hk hB hb1 hr0 hr1 hr2 hp hth hfull
  unfold Opn.val
  go_enter Try.func133, Try.ntmps133
  go_wp2_with fail
  refine HAt.out.mono ?_
  rintro e W2 ⟨rfl, hb⟩
  have HB2 := Lib.hid hb
  have HR0' := Lib.hid (HR0.out.below hb HR0.out.lt)
  have HR1' := Lib.hid (HR1.out.below hb HR1.out.lt)
  have HR2' := Lib.hid (HR2.out.below hb HR2.out.lt)
  have d0 := HR0'.out.cell (i := 0) rfl
  have d1 := HR0'.out.cell (i := 1) rfl
  have di := HR1'.out.cell (i := 2) rfl
  have HLK := Lib.hid (l_key HR1'.out Hk.out)
  have HBM := Lib.hid (build_mb o.id o.ky Hk.out W2)
  have HB12 := Lib.hid (show Below w.heap.size w W2 from nextB HB1.out (Nat.le_refl _) hb)
  have HS := Lib.hid (set1_any (w := W2) (B := B) (v := .slice A1 c.ps.length n1) (l := c.ps) (x := ⟨o.id, o.ky, false⟩) (a := p) th (HC.out.1.below (HB12.out.mono HBw.out)) Hk.out (by have := HV.out.1; omega) (by have := pos_fit HV.out.2.2.2.1 (o.id, 0); rw [Hp.out, Hth.out] at this; exact this) (Nat.le_trans HBw.out HB12.out.size))
  clear hb c0 c1 ci hW1
  cases th
  · have hf : ((c.ps.length : Int) == 64) = false := by have := Hfull.out; simp at this ⊢; omega
    simp only [Bool.false_eq_true, if_false, Nat.add_zero] at HS
    go_wp2_with (first
      | (show wpList _ _ _ (⟨some 32, _, _, _, _, _⟩ :: _) _ _
         refine QB.wpList_ld 27 rfl rfl HLK.out rfl ?_
         clear HLK
         refine wpList_bp rfl 95 #[(0, .tmp 30), (1, .tmp 32)] rfl (ps := #[(0, .int .i64 o.id), (1, arr8 o.ky)]) (by kernel_rfl) HBM.out ?_
         clear HBM)
      | fail)
    refine HS.out.mono ?_
    rintro e W3 ⟨v1, rfl, ho, hb3⟩
    obtain ⟨l', hl'⟩ : ∃ l', c.ps.take p ++ [⟨o.id, o.ky, false⟩] ++ c.ps.drop p = l' := ⟨_, rfl⟩
    rw [hl'] at ho
    have Hl' := Lib.hid hl'
    clear hl'
    obtain ⟨A3, n3, rfl, _⟩ := ho.tab.2.shape
    have HO := Lib.hid ho
    have HB3 := Lib.hid hb3
    have e1 := (HR0'.out.below hb3 HR0'.out.lt).cell (i := 1) rfl
    have HR2b := Lib.hid (HR2'.out.below hb3 HR2'.out.lt)
    have HB13 := Lib.hid (show Below w.heap.size w W3 from nextB HB12.out (Nat.le_refl _) hb3)
    have HCl := Lib.hid (clone2_any (w := W3) (B := B) (HC.out.2.below (HB13.out.mono HBw.out)) (by have := HV.out.2.1; omega))
    clear ho hb3 d0 d1 di hf HS
    go_wp2_with fail
    refine HCl.out.mono ?_
    rintro e W4 ⟨v2, rfl, ho4, hb4⟩
    obtain ⟨A4, n4, rfl, _⟩ := (show Tab 3 W4 W4.heap.size v2 c.rs.length (rcs c.rs) from ho4.tab).shape
    have HO4 := Lib.hid ho4
    have HB4 := Lib.hid hb4
    have HR2c := Lib.hid (HR2b.out.below hb4 HR2b.out.lt)
    have f0 := frozen_row HR2c.out 0
    have f1 := frozen_row HR2c.out 1
    have g0 := HR2c.out.cell (i := 0) rfl
    have g1 := HR2c.out.cell (i := 1) rfl
    clear ho4 hb4 e1 HCl
    go_wp2_with fail
    have HX := Lib.hid ((((⟨⟨HO.out.1, own_less (owns_below HO.out.2 HB4.out) (show w.heap.size + 1 + 1 + 1 ≤ W2.heap.size from HR2'.out.lt)⟩, own_less HO4.out (show w.heap.size + 1 + 1 + 1 ≤ W3.heap.size from HR2b.out.lt)⟩ : CNew W4 (w.heap.size + 1 + 1 + 1) (.slice A3 l'.length n3) (.slice A4 c.rs.length n4) ⟨l', c.rs⟩).setCell ⟨w.heap.size + 1 + 1, 0, none⟩ (Nat.lt_succ_self _) (.slice A3 l'.length n3)).setCell ⟨w.heap.size + 1 + 1, 1, none⟩ (Nat.lt_succ_self _) (.slice A4 c.rs.length n4)).less (base' := w.heap.size) (by omega))
    refine bodyPost_ret (results_ct rfl rfl ((HR2c.out.set 0 _).set 1 _) Try.underlying25 rfl (by kernel_rfl) rfl) rfl ?_
    refine ⟨_, _, rfl, ?_, ((nextB HB13.out (Nat.le_refl _) HB4.out).setCell (by simp; omega) _).setCell (by simp; omega) _⟩
    have e2 := setL_is HV.out.2.2.2.1 ⟨o.id, o.ky, false⟩ rfl
    rw [show (⟨o.id, o.ky, false⟩ : Mb).id = o.id from rfl, Hp.out, Hth.out] at e2
    rw [← e2]
    simp only [Bool.false_eq_true, if_false, Nat.add_zero, if_true]
    rw [Hl'.out]
    exact HX.out
  · simp only [if_true] at HS
    go_wp2_with (first
      | (show wpList _ _ _ (⟨some 32, _, _, _, _, _⟩ :: _) _ _
         refine QB.wpList_ld 27 rfl rfl HLK.out rfl ?_
         clear HLK
         refine wpList_bp rfl 95 #[(0, .tmp 30), (1, .tmp 32)] rfl (ps := #[(0, .int .i64 o.id), (1, arr8 o.ky)]) (by kernel_rfl) HBM.out ?_
         clear HBM)
      | fail)
    refine HS.out.mono ?_
    rintro e W3 ⟨v1, rfl, ho, hb3⟩
    obtain ⟨l', hl'⟩ : ∃ l', c.ps.take p ++ [⟨o.id, o.ky, false⟩] ++ c.ps.drop (p + 1) = l' := ⟨_, rfl⟩
    rw [hl'] at ho
    have Hl' := Lib.hid hl'
    clear hl'
    obtain ⟨A3, n3, rfl, _⟩ := ho.tab.2.shape
    have HO := Lib.hid ho
    have HB3 := Lib.hid hb3
    have e1 := (HR0'.out.below hb3 HR0'.out.lt).cell (i := 1) rfl
    have HR2b := Lib.hid (HR2'.out.below hb3 HR2'.out.lt)
    have HB13 := Lib.hid (show Below w.heap.size w W3 from nextB HB12.out (Nat.le_refl _) hb3)
    have HCl := Lib.hid (clone2_any (w := W3) (B := B) (HC.out.2.below (HB13.out.mono HBw.out)) (by have := HV.out.2.1; omega))
    clear ho hb3 d0 d1 di HS
    go_wp2_with fail
    refine HCl.out.mono ?_
    rintro e W4 ⟨v2, rfl, ho4, hb4⟩
    obtain ⟨A4, n4, rfl, _⟩ := (show Tab 3 W4 W4.heap.size v2 c.rs.length (rcs c.rs) from ho4.tab).shape
    have HO4 := Lib.hid ho4
    have HB4 := Lib.hid hb4
    have HR2c := Lib.hid (HR2b.out.below hb4 HR2b.out.lt)
    have f0 := frozen_row HR2c.out 0
    have f1 := frozen_row HR2c.out 1
    have g0 := HR2c.out.cell (i := 0) rfl
    have g1 := HR2c.out.cell (i := 1) rfl
    clear ho4 hb4 e1 HCl
    go_wp2_with fail
    have HX := Lib.hid ((((⟨⟨HO.out.1, own_less (owns_below HO.out.2 HB4.out) (show w.heap.size + 1 + 1 + 1 ≤ W2.heap.size from HR2'.out.lt)⟩, own_less HO4.out (show w.heap.size + 1 + 1 + 1 ≤ W3.heap.size from HR2b.out.lt)⟩ : CNew W4 (w.heap.size + 1 + 1 + 1) (.slice A3 l'.length n3) (.slice A4 c.rs.length n4) ⟨l', c.rs⟩).setCell ⟨w.heap.size + 1 + 1, 0, none⟩ (Nat.lt_succ_self _) (.slice A3 l'.length n3)).setCell ⟨w.heap.size + 1 + 1, 1, none⟩ (Nat.lt_succ_self _) (.slice A4 c.rs.length n4)).less (base' := w.heap.size) (by omega))
    refine bodyPost_ret (results_ct rfl rfl ((HR2c.out.set 0 _).set 1 _) Try.underlying25 rfl (by kernel_rfl) rfl) rfl ?_
    refine ⟨_, _, rfl, ?_, ((nextB HB13.out (Nat.le_refl _) HB4.out).setCell (by simp; omega) _).setCell (by simp; omega) _⟩
    have e2 := setL_is HV.out.2.2.2.1 ⟨o.id, o.ky, false⟩ rfl
    rw [show (⟨o.id, o.ky, false⟩ : Mb).id = o.id from rfl, Hp.out, Hth.out] at e2
    rw [← e2]
    simp only [Bool.false_eq_true, if_false, Nat.add_zero, if_true]
    rw [Hl'.out]
    exact HX.out
end Go.Proofs.Ytedmogacklbcmaa.Cfg
