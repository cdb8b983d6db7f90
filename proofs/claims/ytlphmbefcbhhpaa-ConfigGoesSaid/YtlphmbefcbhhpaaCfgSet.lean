/- config: set. -/
import Derived.Test.YtlphmbefcbhhpaaCfgPut
namespace Go.Proofs.Ytlphmbefcbhhpaa.Cfg
open Go.RowKit
def Stop2 (p : Prop) : Prop := p
theorem stop2 {p : Prop} (h : Stop2 p) : p := h
theorem own_less {w : World} {base base' : Nat} {e : TypeId} {k : Nat} {v : Value} {n : Nat} {xs : List Value} (h : w.ownsRow base e k v n xs) (hb : base' ≤ base) : w.ownsRow base' e k v n xs := by
  refine ⟨h.1, ?_⟩
  rcases h.2 with h2 | ⟨g, cap, cur, e', hg, r⟩
  · exact .inl h2
  · exact .inr ⟨g, cap, cur, e', by omega, r⟩
theorem foldset : ∀ (l : List Value) (k : Nat) (base : Array Value), k + l.length ≤ base.size → ((l.zipIdx k).foldl (fun (cs : Array Value) (x : Value × Nat) => cs.setIfInBounds x.2 x.1) base).toList = base.toList.take k ++ l ++ base.toList.drop (k + l.length)
  | [], k, base, _ => by simp
  | c :: r, k, base, h => by
    rw [List.zipIdx_cons, List.foldl_cons]
    have h' : k + 1 + r.length ≤ base.size := by simp at h; omega
    rw [foldset r (k + 1) _ (by simpa using h'), Array.toList_setIfInBounds]
    have hlt : k < base.toList.length := by simp; omega
    have e1 : (base.toList.set k c).take (k + 1) = base.toList.take k ++ [c] := by
      rw [List.set_eq_take_append_cons_drop, if_pos hlt, List.take_append, List.length_take, Nat.min_eq_left (by omega), List.take_take, Nat.min_eq_right (by omega), show k + 1 - k = 1 by omega]
      rfl
    have e2 : (base.toList.set k c).drop (k + 1 + r.length) = base.toList.drop (k + (c :: r).length) := by
      rw [List.drop_set_of_lt (by omega), List.length_cons, show k + 1 + r.length = k + (r.length + 1) by omega]
    rw [e1, e2]
    simp
section
variable {P : Program}
/-- A slice of one element, built. -/
theorem run_bs_one {t e : TypeId} {k : Nat} {z : Value} {i : TypeInfo} (hu : P.underlying t = some (.slice e)) (hi : P.info? e = some i) (hz : i.zero = some z) (hs : i.size = k) (hzs : z.cells.size = k) (hk : 0 < k) (hk2 : k ≤ 1000) (cs : List Value) (hcs : cs.length = k) (w : World) :
    (Instr.buildSlice t 1 #[(0, .agg cs.toArray)]).run P w = .ok (.slice (some ⟨w.heap.size, 0, none⟩) 1 1) (w.alloc (.cells cs.toArray e)) := by
  have h1 : (sizeOf e).run P w = .ok k w := by simp [sizeOf, typeInfo, hi, hs]
  have h2 : (zeroValue e).run P w = .ok z w := by simp [zeroValue, typeInfo, hi, hz]
  have h3 : ∀ base : Array Value, base.size = k → Instr.fill (fun i => some (i * k, k)) base [(0, .agg cs.toArray)] = some cs.toArray := by
    intro base hb
    have e1 : (cs.toArray.zipIdx.foldl (fun (cs : Array Value) (x : Value × Nat) => cs.setIfInBounds (0 * k + x.2) x.1) base) = cs.toArray := by
      apply Array.ext'
      rw [← Array.foldl_toList, Array.toList_zipIdx]
      simp only [Nat.zero_mul, Nat.zero_add]
      rw [foldset cs 0 base (by omega)]
      have : base.toList.drop (0 + cs.length) = [] := List.drop_of_length_le (by simp; omega)
      rw [this]
      simp
    unfold Instr.fill
    simp only [Value.cells, List.size_toArray, hcs, hb]
    rw [if_neg (by simp)]
    unfold Instr.fill
    exact congrArg some e1
  have h4 : ¬ 1 * k > 2 ^ 24 := by omega
  have h5 : ¬ 1 * k = 0 := by omega
  unfold Instr.buildSlice
  simp only [Sem.run_bind, run_underlying hu w, Result.andThen_ok, h1, if_neg h4, if_neg h5, h2, Sem.run_pure]
  rw [h3 _ (by simp)]
  simp [newRow]
theorem wpList_bs {ops : Array Oper} {rest : List Oper} {o : Oper} {a : Act} {w w' : World} {Q : Exit → Act → World → Prop} (hgd : o.guard = none) (t : TypeId) (n : Nat) (parts : Array (Nat × Operand)) (ho : o.op = .buildSlice t n parts) {v : Value}
    {ps : Array (Nat × Value)} (hp : (parts.map fun (i, x) => (i, a.eval x)) = ps) (hrun : (Instr.buildSlice t n ps).run P w = .ok v w') (hk : wpList P ops Q rest (a.put o.dst v) w') : wpList P ops Q (o :: rest) a w := by
  refine wpList_plain hgd fun K hK => ?_
  unfold Oper.wp execOp
  simp only [ho, hp, Sem.run_bind, Sem.run_pure, Result.andThen_ok, hrun]
  exact hK _ _ hk
end
theorem MTab.one {w : World} {g B : Nat} {m : Mb} (hk : m.ky.length = 32) (h : Row w g m.cs 83) (hB : g < B) : MTab w B (.slice (some ⟨g, 0, none⟩) 1 1) [m] :=
  ⟨fun x hx => by simp at hx; subst hx; exact hk, _, 1, rfl, Nat.le_refl _, by simp [mcs, Mb.len hk], fun _ => ⟨g, 0, rfl, hB, fun j x hx => by rw [Nat.zero_add]; exact h.cell (by simpa [mcs] using hx)⟩⟩
set_option maxRecDepth 100000 in
set_option maxHeartbeats 2000000 in
theorem set1_any {w : World} {B : Nat} {v : Value} {l : List Mb} {x : Mb} {a : Nat} (th : Bool) (ht : MTab w B v l) (hk : x.ky.length = 32) (hN : l.length ≤ 10000) (hab : a + (if th = true then 1 else 0) ≤ l.length) (hB : B ≤ w.heap.size) :
    Calls Try.prog 168 #[v, .int .i64 (a : Int), .bool th, x.val] w fun e w' => ∃ v', e = .returned v' ∧ OwnM w' w.heap.size v' (l.take a ++ [x] ++ l.drop (a + (if th = true then 1 else 0))) ∧ Below w.heap.size w w' := by
  obtain ⟨i, z, hi, hz, hs, _, hzs⟩ := info_mb
  have hr : Row (w.alloc (.cells x.cs.toArray 83)) w.heap.size x.cs 83 := Row.new rfl rfl
  have hl := run_loadVar_cells (P := Try.prog) (w.alloc (.cells x.cs.toArray 83)) (b := w.heap.size) (off := 0) (n := 34) Try.underlying83 rfl (by kernel_rfl) (Mb.len hk) (fun j y hx => by rw [Nat.zero_add]; exact hr.cell hx)
  have hb : Below w.heap.size w (w.alloc (.cells x.cs.toArray 83)) := (Below.refl _ w).alloc (Nat.le_refl _) _
  have HBS := Lib.hid (run_bs_one (P := Try.prog) Try.underlying24 hi hz hs hzs (by decide) (by decide) x.cs (Mb.len hk) (w.alloc (.cells x.cs.toArray 83)))
  have hb2 : Below w.heap.size w ((w.alloc (.cells x.cs.toArray 83)).alloc (.cells x.cs.toArray 83)) := hb.alloc (by simp) _
  have hr2 : Row ((w.alloc (.cells x.cs.toArray 83)).alloc (.cells x.cs.toArray 83)) (w.alloc (.cells x.cs.toArray 83)).heap.size x.cs 83 := Row.new rfl rfl
  have HP := Lib.hid (put1_any (w := (w.alloc (.cells x.cs.toArray 83)).alloc (.cells x.cs.toArray 83)) (B := (w.alloc (.cells x.cs.toArray 83)).heap.size + 1) (v := v) (vx := .slice (some ⟨(w.alloc (.cells x.cs.toArray 83)).heap.size, 0, none⟩) 1 1) (l := l) (x := [x]) (a := a) (b := a + (if th = true then 1 else 0))
    ((ht.below (hb2.mono hB)).more (by simp; omega)) (MTab.one hk hr2 (Nat.lt_succ_self _)) (by omega) (by simp) (by omega) hab (by simp))
  have HL := Lib.hid hl
  have HB := Lib.hid hb2
  rw [show (w.alloc (.cells x.cs.toArray 83)).heap.size = w.heap.size + 1 by simp] at HP
  have ha1 : (a : Int) ≤ 10000 := by omega
  have ha2 : 0 ≤ (a : Int) := by omega
  clear hi hz hs hzs hr hl hb hb2 hr2 ht hN hab hB
  unfold Mb.val
  cases th
  · simp only [Bool.false_eq_true, if_false, Nat.add_zero] at HP ⊢
    go_enter Try.func168, Try.ntmps168
    go_wp2_with (first
      | (show wpList _ _ _ (⟨some 17, _, _, _, _, _⟩ :: _) _ _; refine QB.wpList_ld 83 rfl rfl HL.out rfl ?_; clear HL; refine stop2 ?_)
      | (go_at_call 170; refine HP.out.mono ?_; rintro e w2 ⟨v2, rfl, h1, h2⟩; have HO := Lib.hid h1; have HB2 := Lib.hid (nextB HB.out (Nat.le_refl _) h2); clear h1 h2)
      | fail)
    unfold Stop2
    refine wpList_bs rfl 24 1 #[(0, .tmp 17)] rfl (ps := #[(0, .agg x.cs.toArray)]) (by kernel_rfl) HBS.out ?_
    clear HBS
    go_wp2_with fail
    refine HP.out.mono ?_
    rintro e w2 ⟨v2, rfl, h1, h2⟩
    have HO := Lib.hid h1
    have HB2 := Lib.hid (nextB HB.out (Nat.le_refl _) h2)
    clear h1 h2
    go_wp2
    go_ret
    exact ⟨v2, rfl, ⟨HO.out.1, own_less HO.out.2 (by simp; omega)⟩, HB2.out⟩
  · simp only [if_true] at HP ⊢
    have ha3 : ((a + 1 : Nat) : Int) = (a : Int) + 1 := by omega
    rw [ha3] at HP
    clear ha3
    go_enter Try.func168, Try.ntmps168
    go_wp2_with (first
      | (show wpList _ _ _ (⟨some 17, _, _, _, _, _⟩ :: _) _ _; refine QB.wpList_ld 83 rfl rfl HL.out rfl ?_; clear HL; refine stop2 ?_)
      | (go_at_call 170; refine HP.out.mono ?_; rintro e w2 ⟨v2, rfl, h1, h2⟩; have HO := Lib.hid h1; have HB2 := Lib.hid (nextB HB.out (Nat.le_refl _) h2); clear h1 h2)
      | fail)
    unfold Stop2
    refine wpList_bs rfl 24 1 #[(0, .tmp 17)] rfl (ps := #[(0, .agg x.cs.toArray)]) (by kernel_rfl) HBS.out ?_
    clear HBS
    go_wp2_with fail
    refine HP.out.mono ?_
    rintro e w2 ⟨v2, rfl, h1, h2⟩
    have HO := Lib.hid h1
    have HB2 := Lib.hid (nextB HB.out (Nat.le_refl _) h2)
    clear h1 h2
    go_wp2
    go_ret
    exact ⟨v2, rfl, ⟨HO.out.1, own_less HO.out.2 (by simp; omega)⟩, HB2.out⟩
end Go.Proofs.Ytlphmbefcbhhpaa.Cfg
