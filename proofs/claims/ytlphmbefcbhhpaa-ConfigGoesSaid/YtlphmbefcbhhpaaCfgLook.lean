/- config: Lookup. -/
import Derived.Test.YtlphmbefcbhhpaaCfgMember
import Derived.Test.YtlphmbefcbhhpaaCfgCheck
import Derived.Test.YtlphmbefcbhhpaaCfgDo
namespace Go.Proofs.Ytlphmbefcbhhpaa.Cfg
open Go.RowKit
theorem wp_alloc {P : Program} {o : Oper} {a : Act} {w : World} {K : Act → World → Prop} {Q : Exit → Act → World → Prop} (ty : TypeId) (ho : o.op = .alloc ty) {z : Value} (hz : (P.info? ty).bind (·.zero) = some z)
    (hk : ∀ W, Row W w.heap.size z.cells.toList ty → Below w.heap.size w W → K (a.put o.dst (.pointer (some ⟨w.heap.size, 0, none⟩))) W) : o.wp P a w K Q := by
  cases hi : P.info? ty with
  | none => simp [hi] at hz
  | some i =>
    have hz' : i.zero = some z := by simpa [hi] using hz
    have hrun : (Instr.alloc ty true (.tuple #[])).run P w = .ok (.pointer (some ⟨w.heap.size, 0, none⟩)) (w.alloc (.cells z.cells ty)) := by simp [Instr.alloc, zeroValue, typeInfo, hi, hz', newVar, newRow]
    unfold Oper.wp execOp
    simp only [ho, Sem.run_bind, Sem.run_pure, Result.andThen_ok, hrun]
    exact hk _ (Row.new rfl (by simp)) ((Below.refl _ w).alloc (Nat.le_refl _) _)
/-- A new peer's variable. -/
def newM (B : Nat) : By.Mark Grew := ⟨fun v w => ∃ g, v = .pointer (some ⟨g, 0, none⟩) ∧ B ≤ g ∧ Row w g (Mb.cs ⟨0, zkey, false⟩) 83, fun _ _ _ ⟨g, h1, h2, h3⟩ k => ⟨g, h1, h2, h3.below k h3.lt⟩⟩
/-- Does the address begin with the route's prefix? -/
def leadB (r : Rt) (a : Int) : Bool := bits .and .u32 (bits .xor .u32 r.addr a) (maskZ r.bits) == 0
set_option maxRecDepth 100000 in
theorem lead_any (r : Rt) (a : Int) {w : World} {g : Nat} (hg : w.cell? ⟨g, 0, none⟩ = some (.int .u32 a)) : Calls Try.prog 88 #[r.val, .pointer (some ⟨g, 0, none⟩)] w fun e w' => e = .returned (.bool (leadB r a)) ∧ Below w.heap.size w w' := by
  obtain ⟨W1, hW1⟩ : ∃ W1, w.alloc (.cells r.cs.toArray 87) = W1 := ⟨_, rfl⟩
  have hr : Row W1 w.heap.size r.cs 87 := hW1 ▸ Row.new rfl rfl
  have hb : Below w.heap.size w W1 := hW1 ▸ (Below.refl _ w).alloc (Nat.le_refl _) _
  have FX0 := Lib.hid (fun w' (h : Below W1.heap.size W1 w') => (hr.below h hr.lt).cell (i := 0) rfl)
  have FX1 := Lib.hid (fun w' (h : Below W1.heap.size W1 w') => (hr.below h hr.lt).cell (i := 1) rfl)
  have FG := Lib.hid (fun w' (h : Below W1.heap.size W1 w') => ((nextB hb (Nat.le_refl _) h).cell (p := ⟨g, 0, none⟩) (World.block_lt_of_cell? _ _ hg)).trans hg)
  have HB := Lib.hid hb
  clear hr hb hg
  unfold Rt.val
  go_enter Try.func88, Try.ntmps88
  go_wp2_with fail
  refine QB.region' mixed (by kernel_rfl) ?_
  refine QB.val' (v := ?_) (a' := ?_) (by kernel_rfl) (fun w' hw' => ?_) ?_ ?_
  rotate_left 2
  · go_simp <;> rfl
  · simp only [Act.put, List.setIfInBounds_toArray, List.set_cons_succ, List.set_cons_zero]; rfl
  refine QB.val' (v := ?_) (a' := ?_) (by kernel_rfl) (fun w' hw' => ?_) ?_ ?_
  rotate_left 2
  · have c := FX0.out w' hw'; go_simp <;> rfl
  · simp only [Act.put, List.setIfInBounds_toArray, List.set_cons_succ, List.set_cons_zero]; rfl
  refine QB.val' (v := ?_) (a' := ?_) (by kernel_rfl) (fun w' hw' => ?_) ?_ ?_
  rotate_left 2
  · have c := FG.out w' hw'; go_simp <;> rfl
  · simp only [Act.put, List.setIfInBounds_toArray, List.set_cons_succ, List.set_cons_zero]; rfl
  refine QB.val' (v := ?_) (a' := ?_) (by kernel_rfl) (fun w' hw' => ?_) ?_ ?_
  rotate_left 2
  · go_simp <;> rfl
  · simp only [Act.put, List.setIfInBounds_toArray, List.set_cons_succ, List.set_cons_zero]; rfl
  refine QB.val' (v := ?_) (a' := ?_) (by kernel_rfl) (fun w' hw' => ?_) ?_ ?_
  rotate_left 2
  · go_simp <;> rfl
  · simp only [Act.put, List.setIfInBounds_toArray, List.set_cons_succ, List.set_cons_zero]; rfl
  refine QB.val' (v := ?_) (a' := ?_) (by kernel_rfl) (fun w' hw' => ?_) ?_ ?_
  rotate_left 2
  · have c := FX1.out w' hw'; go_simp <;> rfl
  · simp only [Act.put, List.setIfInBounds_toArray, List.set_cons_succ, List.set_cons_zero]; rfl
  refine QB.call' (f := 37) (args := #[.int .i64 r.bits]) (v := .int .u32 (maskZ r.bits)) (a' := ?_) (by kernel_rfl) (fun w' hw' => ?_) (fun w' hw' => (Mask_any r.bits w').mono fun _ _ ⟨h1, h2⟩ => ⟨h1, h2 ▸ hw'⟩) ?_ ?_
  rotate_left
  · go_simp <;> rfl
  · simp only [Act.put, List.setIfInBounds_toArray, List.set_cons_succ, List.set_cons_zero]; rfl
  refine QB.val' (v := ?_) (a' := ?_) (by kernel_rfl) (fun w' hw' => ?_) ?_ ?_
  rotate_left 2
  · go_simp <;> rfl
  · simp only [Act.put, List.setIfInBounds_toArray, List.set_cons_succ, List.set_cons_zero]; rfl
  refine QB.val' (v := ?_) (a' := ?_) (by kernel_rfl) (fun w' hw' => ?_) ?_ ?_
  rotate_left 2
  · go_simp <;> rfl
  · simp only [Act.put, List.setIfInBounds_toArray, List.set_cons_succ, List.set_cons_zero]; rfl
  refine QB.val' (v := ?_) (a' := ?_) (by kernel_rfl) (fun w' hw' => ?_) ?_ ?_
  rotate_left 2
  · go_simp <;> rfl
  · simp only [Act.put, List.setIfInBounds_toArray, List.set_cons_succ, List.set_cons_zero]; rfl
  refine QB.nil' fun w' hw' => ?_
  have HW := Lib.hid (nextB HB.out (Nat.le_refl _) hw')
  clear hw'
  go_wp2
  go_ret
  exact ⟨rfl, HW.out⟩
/-- The route that an address goes by. -/
def BestOf (l : List Rt) (a : Int) : Option Rt → Prop
  | none => ∀ x ∈ l, leadB x a = false
  | some r => r ∈ l ∧ leadB r a = true ∧ ∀ x ∈ l, leadB x a = true → x.bits ≤ r.bits
/-- .. among the first ones, and where it stands. -/
def BestAt (l : List Rt) (a : Int) (i : Nat) : Option (Nat × Rt) → Prop
  | none => ∀ t x, t < i → l[t]? = some x → leadB x a = false
  | some (k, r) => k < i ∧ l[k]? = some r ∧ leadB r a = true ∧ ∀ t x, t < i → l[t]? = some x → leadB x a = true → x.bits ≤ r.bits
def atZ : Option (Nat × Rt) → Int
  | none => -1
  | some (k, _) => (k : Int)
theorem BestAt.done {l : List Rt} {a : Int} {b : Option (Nat × Rt)} (h : BestAt l a l.length b) : BestOf l a (b.map (·.2)) := by
  cases b with
  | none =>
    intro x hx
    obtain ⟨t, ht, e⟩ := List.getElem_of_mem hx
    exact h t x ht (by rw [List.getElem?_eq_getElem ht, e])
  | some q =>
    obtain ⟨k, r⟩ := q
    obtain ⟨h1, h2, h3, h4⟩ := h
    refine ⟨List.mem_of_getElem? h2, h3, fun x hx => ?_⟩
    obtain ⟨t, ht, e⟩ := List.getElem_of_mem hx
    exact h4 t x ht (by rw [List.getElem?_eq_getElem ht, e])
theorem BestAt.skip {l : List Rt} {a : Int} {i : Nat} {x : Rt} {b : Option (Nat × Rt)} (h : BestAt l a i b) (hx : l[i]? = some x) (hl : leadB x a = false ∨ ∃ k r, b = some (k, r) ∧ x.bits ≤ r.bits) : BestAt l a (i + 1) b := by
  cases b with
  | none =>
    intro t y ht hy
    rcases Nat.lt_or_ge t i with h1 | h1
    · exact h t y h1 hy
    · obtain rfl : t = i := by omega
      rw [hx] at hy; injection hy with hy; subst hy
      rcases hl with hl | ⟨_, _, e, _⟩
      · exact hl
      · cases e
  | some q =>
    obtain ⟨k, r⟩ := q
    obtain ⟨h1, h2, h3, h4⟩ := h
    refine ⟨by omega, h2, h3, fun t y ht hy hly => ?_⟩
    rcases Nat.lt_or_ge t i with h5 | h5
    · exact h4 t y h5 hy hly
    · obtain rfl : t = i := by omega
      rw [hx] at hy; injection hy with hy; subst hy
      rcases hl with hl | ⟨k', r', e, hle⟩
      · rw [hl] at hly; cases hly
      · injection e with e; cases e; exact hle
theorem BestAt.take {l : List Rt} {a : Int} {i : Nat} {x : Rt} {b : Option (Nat × Rt)} (h : BestAt l a i b) (hx : l[i]? = some x) (hl : leadB x a = true) (hb : ∀ k r, b = some (k, r) → r.bits < x.bits) : BestAt l a (i + 1) (some (i, x)) := by
  refine ⟨Nat.lt_succ_self _, hx, hl, fun t y ht hy hly => ?_⟩
  rcases Nat.lt_or_ge t i with h5 | h5
  · cases b with
    | none => have := h t y h5 hy; rw [this] at hly; cases hly
    | some q =>
      obtain ⟨k, r⟩ := q
      have := h.2.2.2 t y h5 hy hly
      have := hb k r rfl
      omega
  · obtain rfl : t = i := by omega
    rw [hx] at hy; injection hy with hy; subst hy; exact Int.le_refl _
/-- What Lookup answers. -/
def lookM (ps : List Mb) (b : Option Rt) : Option Mb := match b with
  | none => none
  | some r => (mem1 ps r.peer).bind fun m => if m.off = true then none else some m
def lookV (m : Option Mb) : Value := match m with
  | none => .tuple #[.int .i64 0, .bool false]
  | some m => .tuple #[.int .i64 m.id, .bool true]
set_option maxRecDepth 100000 in
set_option maxHeartbeats 4000000 in
theorem Lookup_any {w : World} {B : Nat} {vp vr : Value} {c : Cf} (h : CAt w B vp vr c) (h1 : c.ps.length ≤ 1000) (h2 : c.rs.length ≤ 1000) (a : Int) (hB : B ≤ w.heap.size) :
    Calls Try.prog 38 #[.agg #[vp, vr], .int .u32 a] w fun e w' => ∃ b, BestOf c.rs a b ∧ e = .returned (lookV (lookM c.ps b)) ∧ Below w.heap.size w w' := by
  obtain ⟨A1, n1, A2, n2, rfl, rfl⟩ := h.shape
  obtain ⟨W1, hW1⟩ : ∃ W1, (w.alloc (.cells #[.slice A1 c.ps.length n1, .slice A2 c.rs.length n2] 27)).alloc (.cells #[.int .u32 a] 22) = W1 := ⟨_, rfl⟩
  have hb1 : Below w.heap.size w W1 := hW1 ▸ ((Below.refl _ w).alloc (Nat.le_refl _) _).alloc (by simp) _
  have hr0 : Row W1 w.heap.size [.slice A1 c.ps.length n1, .slice A2 c.rs.length n2] 27 := hW1 ▸ (Row.new rfl rfl : Row (w.alloc (.cells #[.slice A1 c.ps.length n1, .slice A2 c.rs.length n2] 27)) w.heap.size [.slice A1 c.ps.length n1, .slice A2 c.rs.length n2] 27).alloc _
  have hr1 : Row W1 (w.heap.size + 1) [.int .u32 a] 22 := hW1 ▸ Row.new (by simp) rfl
  have FP := Lib.hid (fun w' (h : Below W1.heap.size W1 w') => (hr0.below h hr0.lt).cell (i := 0) rfl)
  have FR := Lib.hid (fun w' (h : Below W1.heap.size W1 w') => (hr0.below h hr0.lt).cell (i := 1) rfl)
  have FA := Lib.hid (fun w' (h : Below W1.heap.size W1 w') => (hr1.below h hr1.lt).cell (i := 0) rfl)
  have HR0 := Lib.hid hr0
  have HC := Lib.hid h
  have HN1 := Lib.hid h1
  have HN2 := Lib.hid h2
  have HBw := Lib.hid hB
  have HB1 := Lib.hid hb1
  have c1 := hr0.cell (i := 1) rfl
  clear h h1 h2 hB hb1 hr0 hr1
  go_enter Try.func38, Try.ntmps38
  go_wp2_with fail
  clear hW1 c1
  go_loopw [7, 16] (fun bv iv wr => ∃ (i : Nat) (b : Option (Nat × Rt)), i ≤ c.rs.length ∧ iv = .int .i64 (i : Int) ∧ bv = .int .i64 (atZ b) ∧ Below W1.heap.size W1 wr ∧ Hid (BestAt c.rs a i b)) (fun _ iv _ => c.rs.length - (intOf iv).toNat)
  case atStart => exact ⟨0, none, Nat.zero_le _, rfl, rfl, Below.refl _ _, Lib.hid fun t x ht => absurd ht (Nat.not_lt_zero _)⟩
  case round =>
    obtain ⟨i, b, hi, rfl, rfl, hb, I⟩ := hrel
    have HB := Lib.hid hb
    clear hb
    have hi2 : (i : Int) ≤ 1000 := by have := HN2.out; omega
    by_cases hlt : i < c.rs.length
    · have hlt' : (i : Int) < (c.rs.length : Int) := by omega
      obtain ⟨r, hr⟩ : ∃ r, c.rs[i]? = some r := ⟨_, List.getElem?_eq_getElem hlt⟩
      have HM := Lib.hid hr
      have HBr := Lib.hid (show Below w.heap.size w wr from nextB HB1.out (Nat.le_refl _) HB.out)
      have FT := Lib.hid (fun (t : Nat) (y : Rt) (hy : c.rs[t]? = some y) w' (h : Below wr.heap.size wr w') => RTab.at (RTab.below HC.out.2 ((nextB HBr.out (Nat.le_refl _) h).mono HBw.out)) hy)
      obtain ⟨b0, off, e, _, _, hl⟩ := FT.out i r hr wr (Below.refl _ _)
      subst e
      have hld := Lib.hid hl
      have FC := Lib.hid (fun (t : Nat) (y : Rt) (hy : c.rs[t]? = some y) w' (h : Below wr.heap.size wr w') => by
        obtain ⟨b', off', e, _, hc, _⟩ := FT.out t y hy w' h
        cases e
        exact hc 1 (.int .i64 y.bits) rfl)
      clear hr hl FT
      go_wp2_with (first
        | (refine QB.wpList_ld 87 rfl rfl hld.out rfl ?_)
        | (refine QB.wpList_alloc rfl 87 rfl zero_rt ?_; intro W2 hr1 hb1; have HR1 := Lib.hid (show Row W2 wr.heap.size (Rt.cs ⟨0, 0, 0⟩) 87 from hr1); have HB2 := Lib.hid hb1; clear hr1 hb1)
        | (refine wpList_storeRow rfl 87 (.tmp 9) (.tmp 20) rfl rfl (cs := r.cs) rfl HR1.out (by kernel_rfl) rfl rfl r.one ?_)
        | fail)
      refine QB.code_name fun W hW => ?_
      have hRW : Row W wr.heap.size r.cs 87 := hW ▸ HR1.out.setRow r.cs
      have HBW := Lib.hid (show Below wr.heap.size wr W from hW ▸ below_setRow HB2.out (Nat.le_refl _) _)
      have HRW := Lib.hid hRW
      have FX1 := Lib.hid (fun w' (h : Below W.heap.size W w') => (HRW.out.below h HRW.out.lt).cell (i := 1) rfl)
      have FX := Lib.hid (fun w' (h : Below W.heap.size W w') => show (loadVar 87 ⟨wr.heap.size, 0, none⟩).run Try.prog w' = .ok r.val w' from Pol.run_loadVar_sub (P := Try.prog) (off := 0) (n := 3) w' (HRW.out.below h HRW.out.lt) Try.underlying87 rfl (by kernel_rfl) (by simp [Rt.cs]))
      have FS := Lib.hid (fun w' (h : Below W.heap.size W w') => FR.out w' (nextB HB.out (Nat.le_refl _) (nextB HBW.out (Nat.le_refl _) h)))
      have FL := Lib.hid (fun w' (h : Below W.heap.size W w') => (lead_any r a (w := w') (g := w.heap.size + 1) (FA.out w' (nextB HB.out (Nat.le_refl _) (nextB HBW.out (Nat.le_refl _) h)))))
      have HBx := Lib.hid (fun w' (h : Below W.heap.size W w') => show Below W1.heap.size W1 w' from nextB HB.out (Nat.le_refl _) (nextB HBW.out (Nat.le_refl _) h))
      clear hW hRW HR1 HB2
      cases hL : leadB r a with
      | false =>
        have HL := Lib.hid hL
        clear hL
        refine QB.region' mixed (by kernel_rfl) ?_
        refine QB.val' (v := ?_) (a' := ?_) (by kernel_rfl) (fun w' hw' => ?_) ?_ ?_
        rotate_left 2
        · go_simp <;> rfl
        · simp only [Act.put, List.setIfInBounds_toArray, List.set_cons_succ, List.set_cons_zero]; rfl
        refine QB.ld' (a' := ?_) (by kernel_rfl) 87 rfl rfl (fun w' hw' => FX.out w' hw') ?_ ?_
        rotate_left
        · simp only [Act.put, List.setIfInBounds_toArray, List.set_cons_succ, List.set_cons_zero]; rfl
        refine QB.call' (f := 88) (args := #[r.val, .pointer (some ⟨w.heap.size + 1, 0, none⟩)]) (v := .bool false) (a' := ?_) (by kernel_rfl) (fun w' hw' => ?_) (fun w' hw' => (FL.out w' hw').mono fun _ w2 ⟨h1, h2⟩ => ⟨h1.trans (by rw [HL.out]), hw'.trans (h2.mono hw'.size)⟩) ?_ ?_
        rotate_left
        · go_simp <;> rfl
        · simp only [Act.put, List.setIfInBounds_toArray, List.set_cons_succ, List.set_cons_zero]; rfl
        refine QB.val' (v := ?_) (a' := ?_) (by kernel_rfl) (fun w' hw' => ?_) ?_ ?_
        rotate_left 2
        · go_simp <;> rfl
        · simp only [Act.put, List.setIfInBounds_toArray, List.set_cons_succ, List.set_cons_zero]; rfl
        refine QB.no' (a' := ?_) (by kernel_rfl) ?_ ?_
        rotate_left
        · simp only [Act.put, List.setIfInBounds_toArray, List.set_cons_succ, List.set_cons_zero]; rfl
        refine QB.no' (a' := ?_) (by kernel_rfl) ?_ ?_
        rotate_left
        · simp only [Act.put, List.setIfInBounds_toArray, List.set_cons_succ, List.set_cons_zero]; rfl
        refine QB.no' (a' := ?_) (by kernel_rfl) ?_ ?_
        rotate_left
        · simp only [Act.put, List.setIfInBounds_toArray, List.set_cons_succ, List.set_cons_zero]; rfl
        refine QB.no' (a' := ?_) (by kernel_rfl) ?_ ?_
        rotate_left
        · simp only [Act.put, List.setIfInBounds_toArray, List.set_cons_succ, List.set_cons_zero]; rfl
        refine QB.no' (a' := ?_) (by kernel_rfl) ?_ ?_
        rotate_left
        · simp only [Act.put, List.setIfInBounds_toArray, List.set_cons_succ, List.set_cons_zero]; rfl
        refine QB.no' (a' := ?_) (by kernel_rfl) ?_ ?_
        rotate_left
        · simp only [Act.put, List.setIfInBounds_toArray, List.set_cons_succ, List.set_cons_zero]; rfl
        refine QB.no' (a' := ?_) (by kernel_rfl) ?_ ?_
        rotate_left
        · simp only [Act.put, List.setIfInBounds_toArray, List.set_cons_succ, List.set_cons_zero]; rfl
        refine QB.no' (a' := ?_) (by kernel_rfl) ?_ ?_
        rotate_left
        · simp only [Act.put, List.setIfInBounds_toArray, List.set_cons_succ, List.set_cons_zero]; rfl
        refine QB.no' (a' := ?_) (by kernel_rfl) ?_ ?_
        rotate_left
        · simp only [Act.put, List.setIfInBounds_toArray, List.set_cons_succ, List.set_cons_zero]; rfl
        refine QB.no' (a' := ?_) (by kernel_rfl) ?_ ?_
        rotate_left
        · simp only [Act.put, List.setIfInBounds_toArray, List.set_cons_succ, List.set_cons_zero]; rfl
        refine QB.no' (a' := ?_) (by kernel_rfl) ?_ ?_
        rotate_left
        · simp only [Act.put, List.setIfInBounds_toArray, List.set_cons_succ, List.set_cons_zero]; rfl
        refine QB.no' (a' := ?_) (by kernel_rfl) ?_ ?_
        rotate_left
        · simp only [Act.put, List.setIfInBounds_toArray, List.set_cons_succ, List.set_cons_zero]; rfl
        refine QB.no' (a' := ?_) (by kernel_rfl) ?_ ?_
        rotate_left
        · simp only [Act.put, List.setIfInBounds_toArray, List.set_cons_succ, List.set_cons_zero]; rfl
        refine QB.val' (v := ?_) (a' := ?_) (by kernel_rfl) (fun w' hw' => ?_) ?_ ?_
        rotate_left 2
        · go_simp <;> rfl
        · simp only [Act.put, List.setIfInBounds_toArray, List.set_cons_succ, List.set_cons_zero]; rfl
        refine QB.nil' fun w' hw' => ?_
        have HW := Lib.hid hw'
        clear hw'
        go_wp2
        go_roundw
        case rel => exact ⟨i + 1, b, by omega, by simp, rfl, HBx.out _ HW.out, Lib.hid (I.out.skip HM.out (.inl HL.out))⟩
        case measure => simp [intOf]; omega
      | true =>
        have HL := Lib.hid hL
        clear hL
        cases b with
        | none =>
          have hz : atZ none = -1 := rfl
          rw [hz]
          clear hz
          refine QB.region' mixed (by kernel_rfl) ?_
          refine QB.val' (v := ?_) (a' := ?_) (by kernel_rfl) (fun w' hw' => ?_) ?_ ?_
          rotate_left 2
          · go_simp <;> rfl
          · simp only [Act.put, List.setIfInBounds_toArray, List.set_cons_succ, List.set_cons_zero]; rfl
          refine QB.ld' (a' := ?_) (by kernel_rfl) 87 rfl rfl (fun w' hw' => FX.out w' hw') ?_ ?_
          rotate_left
          · simp only [Act.put, List.setIfInBounds_toArray, List.set_cons_succ, List.set_cons_zero]; rfl
          refine QB.call' (f := 88) (args := #[r.val, .pointer (some ⟨w.heap.size + 1, 0, none⟩)]) (v := .bool true) (a' := ?_) (by kernel_rfl) (fun w' hw' => ?_) (fun w' hw' => (FL.out w' hw').mono fun _ w2 ⟨h1, h2⟩ => ⟨h1.trans (by rw [HL.out]), hw'.trans (h2.mono hw'.size)⟩) ?_ ?_
          rotate_left
          · go_simp <;> rfl
          · simp only [Act.put, List.setIfInBounds_toArray, List.set_cons_succ, List.set_cons_zero]; rfl
          refine QB.val' (v := ?_) (a' := ?_) (by kernel_rfl) (fun w' hw' => ?_) ?_ ?_
          rotate_left 2
          · go_simp <;> rfl
          · simp only [Act.put, List.setIfInBounds_toArray, List.set_cons_succ, List.set_cons_zero]; rfl
          refine QB.val' (v := ?_) (a' := ?_) (by kernel_rfl) (fun w' hw' => ?_) ?_ ?_
          rotate_left 2
          · go_simp <;> rfl
          · simp only [Act.put, List.setIfInBounds_toArray, List.set_cons_succ, List.set_cons_zero]; rfl
          refine QB.val' (v := ?_) (a' := ?_) (by kernel_rfl) (fun w' hw' => ?_) ?_ ?_
          rotate_left 2
          · go_simp <;> rfl
          · simp only [Act.put, List.setIfInBounds_toArray, List.set_cons_succ, List.set_cons_zero]; rfl
          refine QB.val' (v := ?_) (a' := ?_) (by kernel_rfl) (fun w' hw' => ?_) ?_ ?_
          rotate_left 2
          · go_simp <;> rfl
          · simp only [Act.put, List.setIfInBounds_toArray, List.set_cons_succ, List.set_cons_zero]; rfl
          refine QB.no' (a' := ?_) (by kernel_rfl) ?_ ?_
          rotate_left
          · simp only [Act.put, List.setIfInBounds_toArray, List.set_cons_succ, List.set_cons_zero]; rfl
          refine QB.no' (a' := ?_) (by kernel_rfl) ?_ ?_
          rotate_left
          · simp only [Act.put, List.setIfInBounds_toArray, List.set_cons_succ, List.set_cons_zero]; rfl
          refine QB.no' (a' := ?_) (by kernel_rfl) ?_ ?_
          rotate_left
          · simp only [Act.put, List.setIfInBounds_toArray, List.set_cons_succ, List.set_cons_zero]; rfl
          refine QB.no' (a' := ?_) (by kernel_rfl) ?_ ?_
          rotate_left
          · simp only [Act.put, List.setIfInBounds_toArray, List.set_cons_succ, List.set_cons_zero]; rfl
          refine QB.no' (a' := ?_) (by kernel_rfl) ?_ ?_
          rotate_left
          · simp only [Act.put, List.setIfInBounds_toArray, List.set_cons_succ, List.set_cons_zero]; rfl
          refine QB.no' (a' := ?_) (by kernel_rfl) ?_ ?_
          rotate_left
          · simp only [Act.put, List.setIfInBounds_toArray, List.set_cons_succ, List.set_cons_zero]; rfl
          refine QB.no' (a' := ?_) (by kernel_rfl) ?_ ?_
          rotate_left
          · simp only [Act.put, List.setIfInBounds_toArray, List.set_cons_succ, List.set_cons_zero]; rfl
          refine QB.no' (a' := ?_) (by kernel_rfl) ?_ ?_
          rotate_left
          · simp only [Act.put, List.setIfInBounds_toArray, List.set_cons_succ, List.set_cons_zero]; rfl
          refine QB.no' (a' := ?_) (by kernel_rfl) ?_ ?_
          rotate_left
          · simp only [Act.put, List.setIfInBounds_toArray, List.set_cons_succ, List.set_cons_zero]; rfl
          refine QB.val' (v := ?_) (a' := ?_) (by kernel_rfl) (fun w' hw' => ?_) ?_ ?_
          rotate_left 2
          · go_simp <;> rfl
          · simp only [Act.put, List.setIfInBounds_toArray, List.set_cons_succ, List.set_cons_zero]; rfl
          refine QB.val' (v := ?_) (a' := ?_) (by kernel_rfl) (fun w' hw' => ?_) ?_ ?_
          rotate_left 2
          · go_simp <;> rfl
          · simp only [Act.put, List.setIfInBounds_toArray, List.set_cons_succ, List.set_cons_zero]; rfl
          refine QB.nil' fun w' hw' => ?_
          have HW := Lib.hid hw'
          clear hw'
          go_wp2
          go_roundw
          case rel => exact ⟨i + 1, some (i, r), by omega, by simp, rfl, HBx.out _ HW.out, Lib.hid (I.out.take HM.out HL.out (fun _ _ e => by cases e))⟩
          case measure => simp [intOf]; omega
        | some q =>
          obtain ⟨k, y⟩ := q
          have hz : atZ (some (k, y)) = (k : Int) := rfl
          rw [hz]
          clear hz
          have hki : k < i := I.out.1
          have FY := Lib.hid (fun w' (h : Below W.heap.size W w') => FC.out k y I.out.2.1 w' (nextB HBW.out (Nat.le_refl _) h))
          have hk0 : 0 ≤ (k : Int) := by omega
          have hk1 : (k : Int) < (c.rs.length : Int) := by omega
          have hk2 : ¬ (k : Int) < 0 := by omega
          clear hki
          rcases Int.lt_or_le y.bits r.bits with hbt | hbt
          · have HT := Lib.hid hbt
            refine QB.region' mixed (by kernel_rfl) ?_
            refine QB.val' (v := ?_) (a' := ?_) (by kernel_rfl) (fun w' hw' => ?_) ?_ ?_
            rotate_left 2
            · go_simp <;> rfl
            · simp only [Act.put, List.setIfInBounds_toArray, List.set_cons_succ, List.set_cons_zero]; rfl
            refine QB.ld' (a' := ?_) (by kernel_rfl) 87 rfl rfl (fun w' hw' => FX.out w' hw') ?_ ?_
            rotate_left
            · simp only [Act.put, List.setIfInBounds_toArray, List.set_cons_succ, List.set_cons_zero]; rfl
            refine QB.call' (f := 88) (args := #[r.val, .pointer (some ⟨w.heap.size + 1, 0, none⟩)]) (v := .bool true) (a' := ?_) (by kernel_rfl) (fun w' hw' => ?_) (fun w' hw' => (FL.out w' hw').mono fun _ w2 ⟨h1, h2⟩ => ⟨h1.trans (by rw [HL.out]), hw'.trans (h2.mono hw'.size)⟩) ?_ ?_
            rotate_left
            · go_simp <;> rfl
            · simp only [Act.put, List.setIfInBounds_toArray, List.set_cons_succ, List.set_cons_zero]; rfl
            refine QB.val' (v := ?_) (a' := ?_) (by kernel_rfl) (fun w' hw' => ?_) ?_ ?_
            rotate_left 2
            · go_simp <;> rfl
            · simp only [Act.put, List.setIfInBounds_toArray, List.set_cons_succ, List.set_cons_zero]; rfl
            refine QB.val' (v := ?_) (a' := ?_) (by kernel_rfl) (fun w' hw' => ?_) ?_ ?_
            rotate_left 2
            · go_simp <;> rfl
            · simp only [Act.put, List.setIfInBounds_toArray, List.set_cons_succ, List.set_cons_zero]; rfl
            refine QB.val' (v := ?_) (a' := ?_) (by kernel_rfl) (fun w' hw' => ?_) ?_ ?_
            rotate_left 2
            · go_simp <;> rfl
            · simp only [Act.put, List.setIfInBounds_toArray, List.set_cons_succ, List.set_cons_zero]; rfl
            refine QB.val' (v := ?_) (a' := ?_) (by kernel_rfl) (fun w' hw' => ?_) ?_ ?_
            rotate_left 2
            · go_simp <;> rfl
            · simp only [Act.put, List.setIfInBounds_toArray, List.set_cons_succ, List.set_cons_zero]; rfl
            refine QB.val' (v := ?_) (a' := ?_) (by kernel_rfl) (fun w' hw' => ?_) ?_ ?_
            rotate_left 2
            · go_simp <;> rfl
            · simp only [Act.put, List.setIfInBounds_toArray, List.set_cons_succ, List.set_cons_zero]; rfl
            refine QB.val' (v := ?_) (a' := ?_) (by kernel_rfl) (fun w' hw' => ?_) ?_ ?_
            rotate_left 2
            · have cx := FX1.out w' hw'; go_simp <;> rfl
            · simp only [Act.put, List.setIfInBounds_toArray, List.set_cons_succ, List.set_cons_zero]; rfl
            refine QB.val' (v := ?_) (a' := ?_) (by kernel_rfl) (fun w' hw' => ?_) ?_ ?_
            rotate_left 2
            · go_simp <;> rfl
            · simp only [Act.put, List.setIfInBounds_toArray, List.set_cons_succ, List.set_cons_zero]; rfl
            refine QB.val' (v := ?_) (a' := ?_) (by kernel_rfl) (fun w' hw' => ?_) ?_ ?_
            rotate_left 2
            · have cs := FS.out w' hw'; go_simp <;> rfl
            · simp only [Act.put, List.setIfInBounds_toArray, List.set_cons_succ, List.set_cons_zero]; rfl
            refine QB.val' (v := ?_) (a' := ?_) (by kernel_rfl) (fun w' hw' => ?_) ?_ ?_
            rotate_left 2
            · go_simp <;> rfl
            · simp only [Act.put, List.setIfInBounds_toArray, List.set_cons_succ, List.set_cons_zero]; rfl
            refine QB.val' (v := ?_) (a' := ?_) (by kernel_rfl) (fun w' hw' => ?_) ?_ ?_
            rotate_left 2
            · go_simp <;> rfl
            · simp only [Act.put, List.setIfInBounds_toArray, List.set_cons_succ, List.set_cons_zero]; rfl
            refine QB.val' (v := ?_) (a' := ?_) (by kernel_rfl) (fun w' hw' => ?_) ?_ ?_
            rotate_left 2
            · go_simp <;> rfl
            · simp only [Act.put, List.setIfInBounds_toArray, List.set_cons_succ, List.set_cons_zero]; rfl
            refine QB.val' (v := ?_) (a' := ?_) (by kernel_rfl) (fun w' hw' => ?_) ?_ ?_
            rotate_left 2
            · have cy := FY.out w' hw'; go_simp <;> rfl
            · simp only [Act.put, List.setIfInBounds_toArray, List.set_cons_succ, List.set_cons_zero]; rfl
            refine QB.val' (v := ?_) (a' := ?_) (by kernel_rfl) (fun w' hw' => ?_) ?_ ?_
            rotate_left 2
            · go_simp <;> rfl
            · simp only [Act.put, List.setIfInBounds_toArray, List.set_cons_succ, List.set_cons_zero]; rfl
            refine QB.val' (v := ?_) (a' := ?_) (by kernel_rfl) (fun w' hw' => ?_) ?_ ?_
            rotate_left 2
            · go_simp <;> rfl
            · simp only [Act.put, List.setIfInBounds_toArray, List.set_cons_succ, List.set_cons_zero]; rfl
            refine QB.val' (v := ?_) (a' := ?_) (by kernel_rfl) (fun w' hw' => ?_) ?_ ?_
            rotate_left 2
            · go_simp <;> rfl
            · simp only [Act.put, List.setIfInBounds_toArray, List.set_cons_succ, List.set_cons_zero]; rfl
            refine QB.nil' fun w' hw' => ?_
            have HW := Lib.hid hw'
            clear hw'
            go_wp2
            go_roundw
            case rel => exact ⟨i + 1, some (i, r), by omega, by simp, rfl, HBx.out _ HW.out, Lib.hid (I.out.take HM.out HL.out (fun _ _ e => by cases e; exact HT.out))⟩
            case measure => simp [intOf]; omega
          · have hbt' : ¬ y.bits < r.bits := by omega
            have HT := Lib.hid hbt
            clear hbt
            refine QB.region' mixed (by kernel_rfl) ?_
            refine QB.val' (v := ?_) (a' := ?_) (by kernel_rfl) (fun w' hw' => ?_) ?_ ?_
            rotate_left 2
            · go_simp <;> rfl
            · simp only [Act.put, List.setIfInBounds_toArray, List.set_cons_succ, List.set_cons_zero]; rfl
            refine QB.ld' (a' := ?_) (by kernel_rfl) 87 rfl rfl (fun w' hw' => FX.out w' hw') ?_ ?_
            rotate_left
            · simp only [Act.put, List.setIfInBounds_toArray, List.set_cons_succ, List.set_cons_zero]; rfl
            refine QB.call' (f := 88) (args := #[r.val, .pointer (some ⟨w.heap.size + 1, 0, none⟩)]) (v := .bool true) (a' := ?_) (by kernel_rfl) (fun w' hw' => ?_) (fun w' hw' => (FL.out w' hw').mono fun _ w2 ⟨h1, h2⟩ => ⟨h1.trans (by rw [HL.out]), hw'.trans (h2.mono hw'.size)⟩) ?_ ?_
            rotate_left
            · go_simp <;> rfl
            · simp only [Act.put, List.setIfInBounds_toArray, List.set_cons_succ, List.set_cons_zero]; rfl
            refine QB.val' (v := ?_) (a' := ?_) (by kernel_rfl) (fun w' hw' => ?_) ?_ ?_
            rotate_left 2
            · go_simp <;> rfl
            · simp only [Act.put, List.setIfInBounds_toArray, List.set_cons_succ, List.set_cons_zero]; rfl
            refine QB.val' (v := ?_) (a' := ?_) (by kernel_rfl) (fun w' hw' => ?_) ?_ ?_
            rotate_left 2
            · go_simp <;> rfl
            · simp only [Act.put, List.setIfInBounds_toArray, List.set_cons_succ, List.set_cons_zero]; rfl
            refine QB.val' (v := ?_) (a' := ?_) (by kernel_rfl) (fun w' hw' => ?_) ?_ ?_
            rotate_left 2
            · go_simp <;> rfl
            · simp only [Act.put, List.setIfInBounds_toArray, List.set_cons_succ, List.set_cons_zero]; rfl
            refine QB.val' (v := ?_) (a' := ?_) (by kernel_rfl) (fun w' hw' => ?_) ?_ ?_
            rotate_left 2
            · go_simp <;> rfl
            · simp only [Act.put, List.setIfInBounds_toArray, List.set_cons_succ, List.set_cons_zero]; rfl
            refine QB.val' (v := ?_) (a' := ?_) (by kernel_rfl) (fun w' hw' => ?_) ?_ ?_
            rotate_left 2
            · go_simp <;> rfl
            · simp only [Act.put, List.setIfInBounds_toArray, List.set_cons_succ, List.set_cons_zero]; rfl
            refine QB.val' (v := ?_) (a' := ?_) (by kernel_rfl) (fun w' hw' => ?_) ?_ ?_
            rotate_left 2
            · have cx := FX1.out w' hw'; go_simp <;> rfl
            · simp only [Act.put, List.setIfInBounds_toArray, List.set_cons_succ, List.set_cons_zero]; rfl
            refine QB.val' (v := ?_) (a' := ?_) (by kernel_rfl) (fun w' hw' => ?_) ?_ ?_
            rotate_left 2
            · go_simp <;> rfl
            · simp only [Act.put, List.setIfInBounds_toArray, List.set_cons_succ, List.set_cons_zero]; rfl
            refine QB.val' (v := ?_) (a' := ?_) (by kernel_rfl) (fun w' hw' => ?_) ?_ ?_
            rotate_left 2
            · have cs := FS.out w' hw'; go_simp <;> rfl
            · simp only [Act.put, List.setIfInBounds_toArray, List.set_cons_succ, List.set_cons_zero]; rfl
            refine QB.val' (v := ?_) (a' := ?_) (by kernel_rfl) (fun w' hw' => ?_) ?_ ?_
            rotate_left 2
            · go_simp <;> rfl
            · simp only [Act.put, List.setIfInBounds_toArray, List.set_cons_succ, List.set_cons_zero]; rfl
            refine QB.val' (v := ?_) (a' := ?_) (by kernel_rfl) (fun w' hw' => ?_) ?_ ?_
            rotate_left 2
            · go_simp <;> rfl
            · simp only [Act.put, List.setIfInBounds_toArray, List.set_cons_succ, List.set_cons_zero]; rfl
            refine QB.val' (v := ?_) (a' := ?_) (by kernel_rfl) (fun w' hw' => ?_) ?_ ?_
            rotate_left 2
            · go_simp <;> rfl
            · simp only [Act.put, List.setIfInBounds_toArray, List.set_cons_succ, List.set_cons_zero]; rfl
            refine QB.val' (v := ?_) (a' := ?_) (by kernel_rfl) (fun w' hw' => ?_) ?_ ?_
            rotate_left 2
            · have cy := FY.out w' hw'; go_simp <;> rfl
            · simp only [Act.put, List.setIfInBounds_toArray, List.set_cons_succ, List.set_cons_zero]; rfl
            refine QB.val' (v := ?_) (a' := ?_) (by kernel_rfl) (fun w' hw' => ?_) ?_ ?_
            rotate_left 2
            · go_simp <;> rfl
            · simp only [Act.put, List.setIfInBounds_toArray, List.set_cons_succ, List.set_cons_zero]; rfl
            refine QB.val' (v := ?_) (a' := ?_) (by kernel_rfl) (fun w' hw' => ?_) ?_ ?_
            rotate_left 2
            · go_simp <;> rfl
            · simp only [Act.put, List.setIfInBounds_toArray, List.set_cons_succ, List.set_cons_zero]; rfl
            refine QB.val' (v := ?_) (a' := ?_) (by kernel_rfl) (fun w' hw' => ?_) ?_ ?_
            rotate_left 2
            · go_simp <;> rfl
            · simp only [Act.put, List.setIfInBounds_toArray, List.set_cons_succ, List.set_cons_zero]; rfl
            refine QB.nil' fun w' hw' => ?_
            have HW := Lib.hid hw'
            clear hw'
            go_wp2
            go_roundw
            case rel => exact ⟨i + 1, some (k, y), by omega, by simp, rfl, HBx.out _ HW.out, Lib.hid (I.out.skip HM.out (.inr ⟨k, y, rfl, HT.out⟩))⟩
            case measure => simp [intOf]; omega
    · have hlt' : ¬ (i : Int) < (c.rs.length : Int) := by omega
      obtain rfl : i = c.rs.length := by omega
      have HBest := Lib.hid I.out.done
      cases b with
      | none =>
        have hz : atZ none = -1 := rfl
        rw [hz]
        clear hz
        go_wp2
        go_ret2
        exact ⟨none, HBest.out, rfl, nextB HB1.out (Nat.le_refl _) HB.out⟩
      | some q =>
        obtain ⟨k, y⟩ := q
        have hz : atZ (some (k, y)) = (k : Int) := rfl
        rw [hz]
        clear hz
        have hks := (show BestOf c.rs a (some y) from HBest.out)
        have HY := Lib.hid hks
        have HBr := Lib.hid (show Below w.heap.size w wr from nextB HB1.out (Nat.le_refl _) HB.out)
        have hy : c.rs[k]? = some y := I.out.2.1
        have hkl := (List.getElem?_eq_some_iff.1 hy).1
        have hk0 : 0 ≤ (k : Int) := by omega
        have hk1 : (k : Int) < (c.rs.length : Int) := by omega
        have hk2 : ¬ (k : Int) < 0 := by omega
        have FT := Lib.hid (fun w' (h : Below wr.heap.size wr w') => RTab.at (RTab.below HC.out.2 ((nextB HBr.out (Nat.le_refl _) h).mono HBw.out)) hy)
        obtain ⟨b0, off, e, _, _, hl⟩ := FT.out wr (Below.refl _ _)
        subst e
        have FC := Lib.hid (fun w' (h : Below wr.heap.size wr w') => by
          obtain ⟨b', off', e, _, hc, _⟩ := FT.out w' h
          cases e
          exact hc 2 (.int .i64 y.peer) rfl)
        obtain ⟨mm, hmm⟩ : ∃ mm, mem1 c.ps y.peer = mm := ⟨_, rfl⟩
        obtain ⟨x, hx⟩ : ∃ x, mm.getD zmb = x := ⟨_, rfl⟩
        have Hxk := Lib.hid (show x.ky.length = 32 by
          rw [← hx]
          cases mm with
          | none => show zkey.length = 32; simp [zkey]
          | some m => exact HC.out.1.1 m (List.mem_of_find?_eq_some hmm))
        have FMem := Lib.hid (fun w' (h : Below wr.heap.size wr w') => show Calls Try.prog 36 #[.agg #[.slice A1 c.ps.length n1, .slice (some ⟨b0, off, none⟩) c.rs.length n2], .int .i64 y.peer] w' fun e w2 => e = .returned (.tuple #[x.val, .bool mm.isSome]) ∧ Below w'.heap.size w' w2 from by
          have := Member_any (w := w') (B := B) (vr := .slice (some ⟨b0, off, none⟩) c.rs.length n2) (HC.out.1.below ((nextB HBr.out (Nat.le_refl _) h).mono HBw.out)) (by have := HN1.out; omega) rfl y.peer (Nat.le_trans HBw.out (nextB HBr.out (Nat.le_refl _) h).size)
          rw [hmm, hx] at this
          exact this)
        have FR' := Lib.hid (fun w' (h : Below wr.heap.size wr w') => FR.out w' (nextB HB.out (Nat.le_refl _) h))
        have FC0 := Lib.hid (fun w' (h : Below wr.heap.size wr w') => show (loadVar 27 ⟨w.heap.size, 0, none⟩).run Try.prog w' = .ok (.agg #[.slice A1 c.ps.length n1, .slice (some ⟨b0, off, none⟩) c.rs.length n2]) w' from Pol.run_loadVar_sub (P := Try.prog) (off := 0) (n := 2) w' (HR0.out.below (nextB HB.out (Nat.le_refl _) h) HR0.out.lt) Try.underlying27 rfl (by kernel_rfl) (by simp))
        have HLk := Lib.hid (show lookM c.ps (some y) = mm.bind fun m => if m.off = true then none else some m from by rw [← hmm]; rfl)
        have HX := Lib.hid hx
        have Hz34 := Lib.hid (show (Mb.cs ⟨0, zkey, false⟩).length = 34 from Mb.len (by simp [zkey]))
        clear hks hy hkl hl FT hmm hx
        go_wp2_with fail
        refine Tail.marksF mixed 12 10 53 Grew [By.is (.agg #[.slice A1 c.ps.length n1, .slice (some ⟨b0, off, none⟩) c.rs.length n2]),
          By.is (.pointer (some ⟨w.heap.size, 1, none⟩)),
          By.is (.slice (some ⟨b0, off, none⟩) c.rs.length n2),
          By.is (.int .i64 (k : Int)),
          By.is (.pointer (some ⟨b0, off + k * 3, none⟩)),
          By.is (.pointer (some ⟨b0, off + k * 3 + 2, none⟩)),
          By.is (.int .i64 y.peer),
          By.is (.tuple #[x.val, .bool mm.isSome]),
          By.is (.tuple #[x.val, .bool mm.isSome]),
          By.is x.val,
          By.is (.bool mm.isSome),
          newM wr.heap.size]
          (Ev.masks _ []) (Nat.zero_lt_succ _) rfl (by kernel_rfl) (by kernel_rfl) rfl Grew.refl Grew.trans ⟨?_, ?_, ?_, ?_, ?_, ?_, ?_, ?_, ?_, ?_, ?_, ?_, trivial⟩ [_, _, _] (by rfl) ?_ ?_
        · intro a' w' ht hs hg -- 44
          have h2 := By.same_get hs 2 (by decide) (by kernel_rfl)
          refine By.yes rfl ?_
          clear hs hg
          refine wp_ld 27 rfl h2 (FC0.out w' ⟨ht.os, ht.tape, ht.output, ht.size, ht.block⟩) ?_
          exact ⟨_, rfl, Grew.refl _, rfl⟩
        · intro a' w' ht hs hg -- 45
          have h2 := By.same_get hs 2 (by decide) (by kernel_rfl)
          refine By.yes rfl ?_
          clear hs hg
          go_simp
          exact ⟨_, rfl, Grew.refl _, rfl⟩
        · intro a' w' ht hs hg -- 46
          have h45 : a'.tmps.getD 45 undef = _ := By.given_get hg 1 rfl rfl (by kernel_rfl)
          refine By.yes rfl ?_
          clear hs hg
          have hc := FR'.out w' ⟨ht.os, ht.tape, ht.output, ht.size, ht.block⟩
          go_simp
          exact ⟨_, rfl, Grew.refl _, rfl⟩
        · intro a' w' ht hs hg -- 47
          have h7 := By.same_get hs 7 (by decide) (by kernel_rfl)
          refine By.yes rfl ?_
          clear hs hg
          go_simp
          exact ⟨_, rfl, Grew.refl _, rfl⟩
        · intro a' w' ht hs hg -- 48
          have h46 : a'.tmps.getD 46 undef = _ := By.given_get hg 2 rfl rfl (by kernel_rfl)
          have h47 : a'.tmps.getD 47 undef = _ := By.given_get hg 3 rfl rfl (by kernel_rfl)
          refine By.yes rfl ?_
          clear hs hg
          go_simp
          exact ⟨_, rfl, Grew.refl _, rfl⟩
        · intro a' w' ht hs hg -- 49
          have h48 : a'.tmps.getD 48 undef = _ := By.given_get hg 4 rfl rfl (by kernel_rfl)
          refine By.yes rfl ?_
          clear hs hg
          go_simp
          exact ⟨_, rfl, Grew.refl _, rfl⟩
        · intro a' w' ht hs hg -- 50
          have h49 : a'.tmps.getD 49 undef = _ := By.given_get hg 5 rfl rfl (by kernel_rfl)
          refine By.yes rfl ?_
          clear hs hg
          have hc := FC.out w' ⟨ht.os, ht.tape, ht.output, ht.size, ht.block⟩
          go_simp
          exact ⟨_, rfl, Grew.refl _, rfl⟩
        · intro a' w' ht hs hg -- 51
          have h44 : a'.tmps.getD 44 undef = _ := By.given_get hg 0 rfl rfl (by kernel_rfl)
          have h50 : a'.tmps.getD 50 undef = _ := By.given_get hg 6 rfl rfl (by kernel_rfl)
          refine By.yes rfl ?_
          clear hs hg
          have hd := Lib.hid (FMem.out w' ⟨ht.os, ht.tape, ht.output, ht.size, ht.block⟩)
          go_simp
          refine hd.out.mono ?_
          rintro e w2 ⟨rfl, hb2⟩
          exact ⟨_, rfl, hb2, rfl⟩
        · intro a' w' ht hs hg -- 43
          have h51 : a'.tmps.getD 51 undef = _ := By.given_get hg 7 rfl rfl (by kernel_rfl)
          refine By.yes rfl ?_
          clear hs hg
          go_simp
          exact ⟨_, rfl, Grew.refl _, rfl⟩
        · intro a' w' ht hs hg -- 52
          have h43 : a'.tmps.getD 43 undef = _ := By.given_get hg 8 rfl rfl (by kernel_rfl)
          refine By.yes rfl ?_
          clear hs hg
          go_simp
          exact ⟨_, rfl, Grew.refl _, rfl⟩
        · intro a' w' ht hs hg -- 53
          have h43 : a'.tmps.getD 43 undef = _ := By.given_get hg 8 rfl rfl (by kernel_rfl)
          refine By.yes rfl ?_
          clear hs hg
          go_simp
          exact ⟨_, rfl, Grew.refl _, rfl⟩
        · intro a' w' ht hs hg -- 10
          refine By.yes rfl ?_
          clear hs hg
          refine wp_alloc 83 rfl zero_mb fun W5 hr5 hb5 => ?_
          exact ⟨_, rfl, hb5, _, rfl, ht.size, hr5⟩
        all_goals
          refine By.ends_is (By.ends_is (By.ends_is (By.ends_is (By.ends_is (By.ends_is (By.ends_is (By.ends_is (By.ends_is (By.ends_is (By.ends_is (By.ends_any fun v10 => (By.ends_nil fun W9 hw9 => ?_))))))))))))
          try simp only [Act.put, List.setIfInBounds_toArray, List.set_cons_succ, List.set_cons_zero]
          try simp only [List.drop_succ_cons, List.drop_zero]
          obtain ⟨hw9, hl9⟩ := hw9
          obtain ⟨g, rfl, hg1, hg2⟩ := (show ∃ g, v10 = .pointer (some ⟨g, 0, none⟩) ∧ wr.heap.size ≤ g ∧ Row W9 g (Mb.cs ⟨0, zkey, false⟩) 83 from hl9)
          have hb9 : Below wr.heap.size wr W9 := ⟨hw9.os, hw9.tape, hw9.output, hw9.size, hw9.block⟩
          have HB9 := Lib.hid (show Below w.heap.size w W9 from nextB HBr.out (Nat.le_refl _) hb9)
          have HR9 := Lib.hid hg2
          have HG := Lib.hid (Nat.le_trans HBr.out.size hg1)
          clear hw9 hl9 hb9 hg1 hg2
          refine wpList_storeRow rfl 83 (.tmp 10) (.tmp 52) rfl rfl (cs := x.cs) rfl HR9.out (by kernel_rfl) (Mb.len Hxk.out) Hz34.out x.one ?_
          refine QB.name fun W3 hW3 => ?_
          have hrx : Row W3 g x.cs 83 := hW3 ▸ HR9.out.setRow x.cs
          have HB3 := Lib.hid (show Below w.heap.size w W3 from hW3 ▸ below_setRow HB9.out HG.out _)
          have d0 := hrx.cell (i := 0) rfl
          have d33 := hrx.cell (i := 33) (show x.cs[33]? = some (.bool x.off) by simp [Mb.cs, Hxk.out])
          clear hW3 hrx
          cases mm with
          | none =>
            have hb : (none : Option Mb).isSome = false := rfl
            rw [hb]
            clear hb
            go_wp2
            go_ret2
            exact ⟨some y, HY.out, by rw [HLk.out]; rfl, HB3.out⟩
          | some m =>
            have hb : (some m).isSome = true := rfl
            rw [hb]
            clear hb
            obtain rfl : m = x := HX.out
            cases ho : m.off with
            | true =>
              rw [ho] at d33
              have HO := Lib.hid ho
              clear ho
              go_wp2
              go_ret2
              exact ⟨some y, HY.out, by rw [HLk.out]; simp only [Option.bind_some, HO.out, if_true]; rfl, HB3.out⟩
            | false =>
              rw [ho] at d33
              have HO := Lib.hid ho
              clear ho
              go_wp2
              go_ret2
              exact ⟨some y, HY.out, by rw [HLk.out]; simp only [Option.bind_some, HO.out, Bool.false_eq_true, if_false]; rfl, HB3.out⟩
end Go.Proofs.Ytlphmbefcbhhpaa.Cfg
