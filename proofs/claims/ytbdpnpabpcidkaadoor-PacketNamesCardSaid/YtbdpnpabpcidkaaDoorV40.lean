/- Texts that the proofs share: ShkKit. -/
import Derived.Test.YtbdpnpabpcidkaaDoorV21
import Derived.Test.YtbdpnpabpcidkaaDoorV35
import Derived.Test.YtbdpnpabpcidkaaDoorV38
import Derived.Test.YtbdpnpabpcidkaaDoorV39
namespace Go.Proofs.YtbdpnpabpcidkaaDoor.Shk
open Go.RowKit
def SStop (p : Prop) : Prop := p
theorem sstop {p : Prop} (h : SStop p) : p := h
/-- A list of byte slices that fills its row. -/
def FullL (w : World) (v : Value) (ls : List (List UInt8)) : Prop := ∃ g vs, v = .slice (some ⟨g, 0, none⟩) vs.length vs.length ∧ vs ≠ [] ∧ g < w.heap.size ∧ (∀ (i : Nat) (u : Value), vs[i]? = some u → w.cell? ⟨g, i, none⟩ = some u) ∧ Reads w w.heap.size vs ls
theorem FullL.below {w w' : World} {v : Value} {ls : List (List UInt8)} (h : FullL w v ls) (hb : Below w.heap.size w w') : FullL w' v ls := by
  obtain ⟨g, vs, h1, h2, h3, h4, h5⟩ := h
  exact ⟨g, vs, h1, h2, Nat.lt_of_lt_of_le h3 hb.size, fun i u hu => (hb.cell (p := ⟨g, i, none⟩) h3).trans (h4 i u hu), (h5.below hb).more hb.size⟩
theorem FullL.bss {w : World} {v : Value} {ls : List (List UInt8)} (h : FullL w v ls) : Bss w w.heap.size v ls := by
  obtain ⟨g, vs, rfl, h2, h3, h4, h5⟩ := h
  refine ⟨_, vs.length, by rw [h5.1], by rw [h5.1]; exact Nat.le_refl _, fun _ => ⟨g, 0, rfl, h3, fun i l hl => ?_⟩⟩
  obtain ⟨u, k1, k2⟩ := h5.2 i l hl
  exact ⟨u, by rw [Nat.zero_add]; exact h4 i u k1, k2⟩
def fullM (ls : List (List UInt8)) : By.Mark Grew := ⟨fun v w => FullL w v ls, fun _ _ _ h k => h.below k⟩
def bsM (l : List UInt8) : By.Mark Grew := ⟨fun v w => Bs w w.heap.size v l, fun _ _ _ h k => (h.below k).more k.size⟩
def bssM (ls : List (List UInt8)) : By.Mark Grew := ⟨fun v w => Bss w w.heap.size v ls, fun _ _ _ h k => Bss.more' (h.below k) k.size⟩
theorem fullL_lit (w : World) {vs : List Value} {ls : List (List UInt8)} (hne : vs ≠ []) (hr : Reads w w.heap.size vs ls) : FullL (w.alloc (.cells vs.toArray 23)) (.slice (some ⟨w.heap.size, 0, none⟩) vs.length vs.length) ls :=
  ⟨w.heap.size, vs, rfl, hne, by simp, fun i u hu => Row.cell (cs := vs) (t := 23) (Row.new rfl rfl) hu, (hr.below ((Below.refl w.heap.size w).alloc (Nat.le_refl _) _)).more (by simp)⟩
theorem wp_list1 {o : Oper} {a : Act} {w : World} {K : Act → World → Prop} {Q : Exit → Act → World → Prop} {v : Value} {l : List UInt8} (x : Operand) (ho : o.op = .buildSlice 22 1 #[(0, x)]) (hx : a.eval x = v) (hb : Bs w w.heap.size v l)
    (h : ∀ v' w', FullL w' v' [l] → Below w.heap.size w w' → K (a.put o.dst v') w') : o.wp Tryd.prog a w K Q := by
  obtain ⟨i, hi, hz, hs, _⟩ := info_bs
  obtain ⟨A, c, hA, _⟩ := id hb
  refine wp_buildSlice 22 23 1 #[(0, x)] ho #[v] i _ Tryd.underlying22 hi hz (by rw [hs]; decide) (by rw [hs]; decide) ?_ ?_
  · rw [hs, show Array.range (1 * 1) = #[0] from by kernel_rfl]
    subst hA
    simp [Instr.fill, hx, Value.cells]
  · exact h _ _ (fullL_lit w (hne := by simp) (vs := [v]) (.one hb)) ((Below.refl _ w).alloc (Nat.le_refl _) _)
theorem wp_list2 {o : Oper} {a : Act} {w : World} {K : Act → World → Prop} {Q : Exit → Act → World → Prop} {v v2 : Value} {l l2 : List UInt8} (x y : Operand) (ho : o.op = .buildSlice 22 2 #[(0, x), (1, y)]) (hx : a.eval x = v) (hb : Bs w w.heap.size v l) (hy : a.eval y = v2) (hb2 : Bs w w.heap.size v2 l2)
    (h : ∀ v' w', FullL w' v' [l, l2] → Below w.heap.size w w' → K (a.put o.dst v') w') : o.wp Tryd.prog a w K Q := by
  obtain ⟨i, hi, hz, hs, _⟩ := info_bs
  obtain ⟨A, c, hA, _⟩ := id hb
  obtain ⟨A2, c2, hA2, _⟩ := id hb2
  refine wp_buildSlice 22 23 2 #[(0, x), (1, y)] ho #[v, v2] i _ Tryd.underlying22 hi hz (by rw [hs]; decide) (by rw [hs]; decide) ?_ ?_
  · rw [hs, show Array.range (2 * 1) = #[0, 1] from by kernel_rfl]
    subst hA hA2
    simp [Instr.fill, hx, hy, Value.cells]
  · exact h _ _ (fullL_lit w (hne := by simp) (vs := [v, v2]) (Reads.append (.one hb) (.one hb2))) ((Below.refl _ w).alloc (Nat.le_refl _) _)
theorem wp_list3 {o : Oper} {a : Act} {w : World} {K : Act → World → Prop} {Q : Exit → Act → World → Prop} {v v2 v3 : Value} {l l2 l3 : List UInt8} (x y z : Operand) (ho : o.op = .buildSlice 22 3 #[(0, x), (1, y), (2, z)]) (hx : a.eval x = v) (hb : Bs w w.heap.size v l) (hy : a.eval y = v2) (hb2 : Bs w w.heap.size v2 l2) (hz' : a.eval z = v3) (hb3 : Bs w w.heap.size v3 l3)
    (h : ∀ v' w', FullL w' v' [l, l2, l3] → Below w.heap.size w w' → K (a.put o.dst v') w') : o.wp Tryd.prog a w K Q := by
  obtain ⟨i, hi, hz, hs, _⟩ := info_bs
  obtain ⟨A, c, hA, _⟩ := id hb
  obtain ⟨A2, c2, hA2, _⟩ := id hb2
  obtain ⟨A3, c3, hA3, _⟩ := id hb3
  refine wp_buildSlice 22 23 3 #[(0, x), (1, y), (2, z)] ho #[v, v2, v3] i _ Tryd.underlying22 hi hz (by rw [hs]; decide) (by rw [hs]; decide) ?_ ?_
  · rw [hs, show Array.range (3 * 1) = #[0, 1, 2] from by kernel_rfl]
    subst hA hA2 hA3
    simp [Instr.fill, hx, hy, hz', Value.cells]
  · exact h _ _ (fullL_lit w (hne := by simp) (vs := [v, v2, v3]) (Reads.append (.one hb) (Reads.append (.one hb2) (.one hb3)))) ((Below.refl _ w).alloc (Nat.le_refl _) _)
set_option maxRecDepth 100000 in
theorem run_app_fullL (w : World) (ty : TypeId) {v y : Value} {ls ms : List (List UInt8)} (hv : FullL w v ls) (hy : Bss w w.heap.size y ms) (hlen : ls.length + ms.length ≤ 1000000) :
    ∃ v' w', (Builtin.append_ #[22, 22] ty #[v, y]).run Tryd.prog w = .ok v' w' ∧ Bss w' w'.heap.size v' (ls ++ ms) ∧ Below w.heap.size w w' := by
  obtain ⟨i, hi, hz, hs, hbb⟩ := info_bs
  obtain ⟨us, k1, k2⟩ := bss_vals hy
  obtain ⟨A, c, rfl, hc, hcell⟩ := k1
  by_cases hm : us = []
  · subst hm
    have hms : ms = [] := List.eq_nil_of_length_eq_zero (by rw [← k2.1]; rfl)
    subst hms
    have hb := hv.bss
    obtain ⟨g, vs, rfl, h2, h3, h4, h5⟩ := hv
    refine ⟨_, w, ?_, by rw [List.append_nil]; exact hb, Below.refl _ _⟩
    have hrun := Ev.run_append_fit (P := Tryd.prog) (ty := ty) (base := some ⟨g, 0, none⟩) (m := vs.length) (n := 0) (c := vs.length) (x := .slice A 0 c) (w := w) (new := #[]) Tryd.underlying22 Tryd.underlying22 (.inr ⟨_, rfl⟩) hi rfl (by cases A <;> simp [Builtin.firstCells, loadCells, loadCellsFrom]) (by omega)
    rw [List.length_nil, hrun]
    simp [storeCells]
  · obtain ⟨g, vs, rfl, h2, h3, h4, h5⟩ := hv
    obtain ⟨b2, off2, rfl, h6⟩ := hcell hm
    have h0 : 0 < us.length := List.length_pos_iff.2 hm
    have hl1 := h5.1
    have hl2 := k2.1
    obtain ⟨v', w', hr, h7, h8⟩ := run_append_arg_grows (P := Tryd.prog) w 22 ty 23 i (.slice none 0 0) 1 24 Tryd.underlying22 hi hz hs hbb rfl (by decide) ⟨g, 0, none⟩ vs.length vs.length vs (by simp) (fun j u hj => by
      rw [show (⟨g, 0, none⟩ : Addr).add j = ⟨g, j, none⟩ by unfold Addr.add; split <;> simp_all]
      exact h4 j u hj) ⟨b2, off2, none⟩ us.length c us (by simp) (fun j u hj => by
      rw [show (⟨b2, off2, none⟩ : Addr).add j = ⟨b2, off2 + j, none⟩ by unfold Addr.add; split <;> simp_all]
      exact h6 j u hj) (by omega) (by unfold maxLen; omega) (by omega)
    have hb : Below w.heap.size w w' := (Below.refl _ w).grown h8 (Nat.le_refl _) (fun k hk => by cases hk)
    have hown : OwnVs w' w.heap.size v' (vs ++ us) := by
      unfold OwnVs
      rw [List.length_append]
      exact h7
    exact ⟨v', w', hr, bss_own hown (Reads.append ((h5.below hb).more hb.size) ((k2.below hb).more hb.size)), hb⟩
theorem wp_app_l {o : Oper} {a : Act} {w : World} {K : Act → World → Prop} {Q : Exit → Act → World → Prop} (s x : Operand) (ho : o.op = .call { callee := .builtin .append, args := #[s, x], argTypes := #[22, 22] }) {v y : Value} {ls ms : List (List UInt8)}
    (hs : a.eval s = v) (hx : a.eval x = y) (hv : FullL w v ls) (hy : Bss w w.heap.size y ms) (hlen : ls.length + ms.length ≤ 1000000)
    (h : ∀ v' w', Bss w' w'.heap.size v' (ls ++ ms) → Below w.heap.size w w' → K (a.put o.dst v') w') : o.wp Tryd.prog a w K Q := by
  obtain ⟨v', w', hr, h5, h6⟩ := run_app_fullL w o.type hv hy hlen
  unfold Oper.wp execOp
  simp only [ho, resolve, invoke, builtin, Sem.run_bind, Sem.run_pure, Result.andThen_ok, List.map_toArray, List.map_cons, List.map_nil, hs, hx, hr]
  exact h v' w' h5 h6
/-- An operation whose run is known. -/
theorem wp_conv {o : Oper} {a : Act} {w : World} {K : Act → World → Prop} {Q : Exit → Act → World → Prop} (s t : TypeId) (x : Operand) (ho : o.op = .convert s t x) {v v' : Value} {w' : World} (hx : a.eval x = v) (hr : (convert s t v).run Tryd.prog w = .ok v' w')
    (h : K (a.put o.dst v') w') : o.wp Tryd.prog a w K Q := by
  unfold Oper.wp execOp
  simp only [ho, Sem.run_bind, Sem.run_pure, Result.andThen_ok, hx, hr]
  exact h
/-- A load whose run is known. -/
theorem wp_ld {P : Program} {o : Oper} {a : Act} {w : World} {K : Act → World → Prop} {Q : Exit → Act → World → Prop} (ty : TypeId) (x : Operand) (ho : o.op = .load ty x) {ad : Addr} {v : Value} (hx : a.eval x = .pointer (some ad)) (hrun : (loadVar ty ad).run P w = .ok v w)
    (h : K (a.put o.dst v) w) : o.wp P a w K Q := by
  unfold Oper.wp execOp
  simp only [ho, hx, Instr.loadAt, Instr.sureAddr, Sem.run_bind, Sem.run_pure, Result.andThen_ok, hrun]
  exact h
theorem grew_below {w x : World} (h : Grew w.drew x) : Below w.heap.size w x := ⟨h.os, h.tape, h.output, h.size, h.block⟩
end Go.Proofs.YtbdpnpabpcidkaaDoor.Shk
