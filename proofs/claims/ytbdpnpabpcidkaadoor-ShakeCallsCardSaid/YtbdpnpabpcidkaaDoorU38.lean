/- Texts that the proofs share: ShkKit, ShkConv. -/
import Derived.Test.YtbdpnpabpcidkaaDoorU22
import Derived.Test.YtbdpnpabpcidkaaDoorU34
import Derived.Test.YtbdpnpabpcidkaaDoorU36
import Derived.Test.YtbdpnpabpcidkaaDoorU37
namespace Go.Proofs.YtbdpnpabpcidkaaDoor.Shk
open Go.RowKit
def SStop (p : Prop) : Prop := p
theorem sstop {p : Prop} (h : SStop p) : p := h
def FullL (w : World) (v : Value) (ls : List (List UInt8)) : Prop := ∃ g vs, v = .slice (some ⟨g, 0, none⟩) vs.length vs.length ∧ vs ≠ [] ∧ g < w.heap.size ∧ (∀ (i : Nat) (u : Value), vs[i]? = some u → w.cell? ⟨g, i, none⟩ = some u) ∧ Reads w w.heap.size vs ls
theorem FullL.below {w w' : World} {v : Value} {ls : List (List UInt8)} (h : FullL w v ls) (hb : Below w.heap.size w w') : FullL w' v ls := by
 obtain ⟨g, vs, h1, h2, h3, h4, h5⟩ := h
 exact ⟨g, vs, h1, h2, Nat.lt_of_lt_of_le h3 hb.size, fun i u hu => (hb.cell (p := ⟨g, i, none⟩) h3).trans (h4 i u hu), (h5.below hb).more hb.size⟩
theorem FullL.bss {w : World} {v : Value} {ls : List (List UInt8)} (h : FullL w v ls) : Bss w w.heap.size v ls := by
 obtain ⟨g, vs, rfl, h2, h3, h4, h5⟩ := h
 refine ⟨_, vs.length, by rw [h5.1], by rw [h5.1]; exact Nat.le_refl _, fun _ => ⟨g, 0, rfl, h3, fun i l hl => ?_⟩⟩
 obtain ⟨u, k1, k2⟩ := h5.2 i l hl
 exact ⟨u, by rw [Nat.zero_add]; exact h4 i u k1, k2⟩
def fullM (ls : List (List UInt8)) : By.Mark Grew := ⟨fun v w => FullL w v ls, fun _ _ _ h k => h.below k⟩
def bsM (l : List UInt8) : By.Mark Grew := ⟨fun v w => Bs w w.heap.size v l, fun _ _ _ h k => (h.below k).more k.size⟩
def bssM (ls : List (List UInt8)) : By.Mark Grew := ⟨fun v w => Bss w w.heap.size v ls, fun _ _ _ h k => Bss.more' (h.below k) k.size⟩
theorem fullL_lit (w : World) {vs : List Value} {ls : List (List UInt8)} (hne : vs ≠ []) (hr : Reads w w.heap.size vs ls) : FullL (w.alloc (.cells vs.toArray 23)) (.slice (some ⟨w.heap.size, 0, none⟩) vs.length vs.length) ls :=
 ⟨w.heap.size, vs, rfl, hne, by simp, fun i u hu => Row.cell (cs := vs) (t := 23) (Row.new rfl rfl) hu, (hr.below ((Below.refl w.heap.size w).alloc (Nat.le_refl _) _)).more (by simp)⟩
theorem wp_list1 {o : Oper} {a : Act} {w : World} {K : Act → World → Prop} {Q : Exit → Act → World → Prop} {v : Value} {l : List UInt8} (x : Operand) (ho : o.op = .buildSlice 22 1 #[(0, x)]) (hx : a.eval x = v) (hb : Bs w w.heap.size v l)
 (h : ∀ v' w', FullL w' v' [l] → Below w.heap.size w w' → K (a.put o.dst v') w') : o.wp Tryd.prog a w K Q := by
 obtain ⟨i, hi, hz, hs, _⟩ := info_bs
 obtain ⟨A, c, hA, _⟩ := id hb
 refine wp_buildSlice 22 23 1 #[(0, x)] ho #[v] i _ Tryd.underlying22 hi hz (by rw [hs]; decide) (by rw [hs]; decide) ?_ ?_
 · rw [hs, show Array.range (1 * 1) = #[0] from by kernel_rfl]
   subst hA
   simp [Instr.fill, hx, Value.cells]
 · exact h _ _ (fullL_lit w (hne := by simp) (vs := [v]) (.one hb)) ((Below.refl _ w).alloc (Nat.le_refl _) _)
theorem wp_list2 {o : Oper} {a : Act} {w : World} {K : Act → World → Prop} {Q : Exit → Act → World → Prop} {v v2 : Value} {l l2 : List UInt8} (x y : Operand) (ho : o.op = .buildSlice 22 2 #[(0, x), (1, y)]) (hx : a.eval x = v) (hb : Bs w w.heap.size v l) (hy : a.eval y = v2) (hb2 : Bs w w.heap.size v2 l2)
 (h : ∀ v' w', FullL w' v' [l, l2] → Below w.heap.size w w' → K (a.put o.dst v') w') : o.wp Tryd.prog a w K Q := by
 obtain ⟨i, hi, hz, hs, _⟩ := info_bs
 obtain ⟨A, c, hA, _⟩ := id hb
 obtain ⟨A2, c2, hA2, _⟩ := id hb2
 refine wp_buildSlice 22 23 2 #[(0, x), (1, y)] ho #[v, v2] i _ Tryd.underlying22 hi hz (by rw [hs]; decide) (by rw [hs]; decide) ?_ ?_
 · rw [hs, show Array.range (2 * 1) = #[0, 1] from by kernel_rfl]
   subst hA hA2
   simp [Instr.fill, hx, hy, Value.cells]
 · exact h _ _ (fullL_lit w (hne := by simp) (vs := [v, v2]) (Reads.append (.one hb) (.one hb2))) ((Below.refl _ w).alloc (Nat.le_refl _) _)
theorem wp_list3 {o : Oper} {a : Act} {w : World} {K : Act → World → Prop} {Q : Exit → Act → World → Prop} {v v2 v3 : Value} {l l2 l3 : List UInt8} (x y z : Operand) (ho : o.op = .buildSlice 22 3 #[(0, x), (1, y), (2, z)]) (hx : a.eval x = v) (hb : Bs w w.heap.size v l) (hy : a.eval y = v2) (hb2 : Bs w w.heap.size v2 l2) (hz' : a.eval z = v3) (hb3 : Bs w w.heap.size v3 l3)
 (h : ∀ v' w', FullL w' v' [l, l2, l3] → Below w.heap.size w w' → K (a.put o.dst v') w') : o.wp Tryd.prog a w K Q := by
 obtain ⟨i, hi, hz, hs, _⟩ := info_bs
 obtain ⟨A, c, hA, _⟩ := id hb
 obtain ⟨A2, c2, hA2, _⟩ := id hb2
 obtain ⟨A3, c3, hA3, _⟩ := id hb3
 refine wp_buildSlice 22 23 3 #[(0, x), (1, y), (2, z)] ho #[v, v2, v3] i _ Tryd.underlying22 hi hz (by rw [hs]; decide) (by rw [hs]; decide) ?_ ?_
 · rw [hs, show Array.range (3 * 1) = #[0, 1, 2] from by kernel_rfl]
   subst hA hA2 hA3
   simp [Instr.fill, hx, hy, hz', Value.cells]
 · exact h _ _ (fullL_lit w (hne := by simp) (vs := [v, v2, v3]) (Reads.append (.one hb) (Reads.append (.one hb2) (.one hb3)))) ((Below.refl _ w).alloc (Nat.le_refl _) _)
set_option maxRecDepth 100000 in
theorem run_app_fullL (w : World) (ty : TypeId) {v y : Value} {ls ms : List (List UInt8)} (hv : FullL w v ls) (hy : Bss w w.heap.size y ms) (hlen : ls.length + ms.length ≤ 1000000) :
 ∃ v' w', (Builtin.append_ #[22, 22] ty #[v, y]).run Tryd.prog w = .ok v' w' ∧ Bss w' w'.heap.size v' (ls ++ ms) ∧ Below w.heap.size w w' := by
 obtain ⟨i, hi, hz, hs, hbb⟩ := info_bs
 obtain ⟨us, k1, k2⟩ := bss_vals hy
 obtain ⟨A, c, rfl, hc, hcell⟩ := k1
 by_cases hm : us = []
 · subst hm
   have hms : ms = [] := List.eq_nil_of_length_eq_zero (by rw [← k2.1]; rfl)
   subst hms
   have hb := hv.bss
   obtain ⟨g, vs, rfl, h2, h3, h4, h5⟩ := hv
   refine ⟨_, w, ?_, by rw [List.append_nil]; exact hb, Below.refl _ _⟩
   have hrun := Ev.run_append_fit (P := Tryd.prog) (ty := ty) (base := some ⟨g, 0, none⟩) (m := vs.length) (n := 0) (c := vs.length) (x := .slice A 0 c) (w := w) (new := #[]) Tryd.underlying22 Tryd.underlying22 (.inr ⟨_, rfl⟩) hi rfl (by cases A <;> simp [Builtin.firstCells, loadCells, loadCellsFrom]) (by omega)
   rw [List.length_nil, hrun]
   simp [storeCells]
 · obtain ⟨g, vs, rfl, h2, h3, h4, h5⟩ := hv
   obtain ⟨b2, off2, rfl, h6⟩ := hcell hm
   have h0 : 0 < us.length := List.length_pos_iff.2 hm
   have hl1 := h5.1
   have hl2 := k2.1
   obtain ⟨v', w', hr, h7, h8⟩ := run_append_arg_grows (P := Tryd.prog) w 22 ty 23 i (.slice none 0 0) 1 24 Tryd.underlying22 hi hz hs hbb rfl (by decide) ⟨g, 0, none⟩ vs.length vs.length vs (by simp) (fun j u hj => by
    rw [show (⟨g, 0, none⟩ : Addr).add j = ⟨g, j, none⟩ by unfold Addr.add; split <;> simp_all]
    exact h4 j u hj) ⟨b2, off2, none⟩ us.length c us (by simp) (fun j u hj => by
    rw [show (⟨b2, off2, none⟩ : Addr).add j = ⟨b2, off2 + j, none⟩ by unfold Addr.add; split <;> simp_all]
    exact h6 j u hj) (by omega) (by unfold maxLen; omega) (by omega)
   have hb : Below w.heap.size w w' := (Below.refl _ w).grown h8 (Nat.le_refl _) (fun k hk => by cases hk)
   have hown : OwnVs w' w.heap.size v' (vs ++ us) := by
    unfold OwnVs
    rw [List.length_append]
    exact h7
   exact ⟨v', w', hr, bss_own hown (Reads.append ((h5.below hb).more hb.size) ((k2.below hb).more hb.size)), hb⟩
theorem wp_app_l {o : Oper} {a : Act} {w : World} {K : Act → World → Prop} {Q : Exit → Act → World → Prop} (s x : Operand) (ho : o.op = .call { callee := .builtin .append, args := #[s, x], argTypes := #[22, 22] }) {v y : Value} {ls ms : List (List UInt8)}
 (hs : a.eval s = v) (hx : a.eval x = y) (hv : FullL w v ls) (hy : Bss w w.heap.size y ms) (hlen : ls.length + ms.length ≤ 1000000)
 (h : ∀ v' w', Bss w' w'.heap.size v' (ls ++ ms) → Below w.heap.size w w' → K (a.put o.dst v') w') : o.wp Tryd.prog a w K Q := by
 obtain ⟨v', w', hr, h5, h6⟩ := run_app_fullL w o.type hv hy hlen
 unfold Oper.wp execOp
 simp only [ho, resolve, invoke, builtin, Sem.run_bind, Sem.run_pure, Result.andThen_ok, List.map_toArray, List.map_cons, List.map_nil, hs, hx, hr]
 exact h v' w' h5 h6
theorem wp_conv {o : Oper} {a : Act} {w : World} {K : Act → World → Prop} {Q : Exit → Act → World → Prop} (s t : TypeId) (x : Operand) (ho : o.op = .convert s t x) {v v' : Value} {w' : World} (hx : a.eval x = v) (hr : (convert s t v).run Tryd.prog w = .ok v' w')
 (h : K (a.put o.dst v') w') : o.wp Tryd.prog a w K Q := by
 unfold Oper.wp execOp
 simp only [ho, Sem.run_bind, Sem.run_pure, Result.andThen_ok, hx, hr]
 exact h
theorem wp_ld {P : Program} {o : Oper} {a : Act} {w : World} {K : Act → World → Prop} {Q : Exit → Act → World → Prop} (ty : TypeId) (x : Operand) (ho : o.op = .load ty x) {ad : Addr} {v : Value} (hx : a.eval x = .pointer (some ad)) (hrun : (loadVar ty ad).run P w = .ok v w)
 (h : K (a.put o.dst v) w) : o.wp P a w K Q := by
 unfold Oper.wp execOp
 simp only [ho, hx, Instr.loadAt, Instr.sureAddr, Sem.run_bind, Sem.run_pure, Result.andThen_ok, hrun]
 exact h
theorem grew_below {w x : World} (h : Grew w.drew x) : Below w.heap.size w x := ⟨h.os, h.tape, h.output, h.size, h.block⟩
end Go.Proofs.YtbdpnpabpcidkaaDoor.Shk
namespace Go.Proofs.YtbdpnpabpcidkaaDoor.Shk
open Go.RowKit
def OwnC (w : World) (base : Nat) (v : Value) (l : List UInt8) : Prop := ∃ g cap, v = .slice (some ⟨g, 0, none⟩) l.length cap ∧ base ≤ g ∧ g < w.heap.size ∧ l.length ≤ cap ∧
 (∀ (i : Nat) (u : UInt8), l[i]? = some u → w.cell? ⟨g, i, none⟩ = some (bv u)) ∧ ∀ j, j < cap → (w.cell? ⟨g, j, none⟩).isSome = true ∧ w.frozen? ⟨g, j, none⟩ = false
theorem OwnC.bs {w : World} {base : Nat} {v : Value} {l : List UInt8} (h : OwnC w base v l) : Bs w w.heap.size v l := by
 obtain ⟨g, cap, rfl, _, hg, hc, hl, _⟩ := h
 exact ⟨_, cap, rfl, hc, fun _ => ⟨g, 0, rfl, hg, fun i u hu => by rw [Nat.zero_add]; exact hl i u hu⟩⟩
theorem OwnC.shape {w : World} {base : Nat} {v : Value} {l : List UInt8} (h : OwnC w base v l) : ∃ A c, v = .slice A l.length c := by
 obtain ⟨g, cap, rfl, _⟩ := h
 exact ⟨_, cap, rfl⟩
theorem OwnC.below {w w' : World} {base B : Nat} {v : Value} {l : List UInt8} (h : OwnC w base v l) (hb : Below B w w') (hB : w.heap.size ≤ B) : OwnC w' base v l := by
 obtain ⟨g, cap, rfl, h1, hg, hc, hl, hr⟩ := h
 refine ⟨g, cap, rfl, h1, Nat.lt_of_lt_of_le hg hb.size, hc, fun i u hu => (hb.cell (p := ⟨g, i, none⟩) (Nat.lt_of_lt_of_le hg hB)).trans (hl i u hu), fun j hj => ?_⟩
 rw [hb.cell (p := ⟨g, j, none⟩) (Nat.lt_of_lt_of_le hg hB), hb.frozen (p := ⟨g, j, none⟩) (Nat.lt_of_lt_of_le hg hB)]
 exact hr j hj
theorem ownC_of {w : World} {base : Nat} {v : Value} {l : List UInt8} (h : Own w base v l) (hl : l ≠ []) : OwnC w base v l := by
 rcases h.2 with ⟨rfl, hl2⟩ | ⟨g, cap, cur, rfl, h1, hg, hnc, _, hsz, htake⟩
 · exact absurd (List.eq_nil_of_length_eq_zero hl2) hl
 · have hlt := (Array.getElem?_eq_some_iff.1 hg).1
   refine ⟨g, cap, rfl, h1, hlt, hnc, fun i u hu => ?_, fun j hj => ?_⟩
   · have := h.cells (g := g) rfl i (bv u) (by rw [List.getElem?_map, hu]; rfl)
     rwa [show (⟨g, 0, none⟩ : Addr).add i = ⟨g, i, none⟩ by unfold Addr.add; split <;> simp_all] at this
   · have hj' : j < cur.size := by omega
     refine ⟨by simp [World.cell?, hg, hj'], by simp [World.frozen?, hg]⟩
theorem run_bytes_own (w : World) (l : List UInt8) : ∃ v W, (convert 9 23 (strOf l)).run Tryd.prog w = .ok v W ∧ OwnC W w.heap.size v l ∧ Below w.heap.size w W := by
 refine ⟨_, _, Lib.run_convert_string_bytes w 9 23 5 ⟨l.toArray⟩ Tryd.underlying9 Tryd.underlying23 Tryd.underlying5, ?_, bytesWorld_below w l⟩
 have hs : (⟨l.toArray⟩ : ByteArray).size = l.length := rfl
 have hge : l.length ≤ grownCap w l.length 0 5 := grownCap_ge w l.length 0 5
 have hsz : (Lib.bytesCells w 5 ⟨l.toArray⟩).size = grownCap w l.length 0 5 := by
  simp only [Lib.bytesCells, Array.size_append, Array.size_map, Array.size_replicate, hs]
  rw [show l.toArray.size = l.length from rfl]
  omega
 refine ⟨w.heap.size, grownCap w l.length 0 5, rfl, Nat.le_refl _, by rw [Lib.bytesWorld_size]; omega, hge, fun i u hu => ?_, fun j hj => ?_⟩
 · have hi : i < l.length := (List.getElem?_eq_some_iff.1 hu).1
   rw [Lib.bytesWorld_cell w 5 _ i (by rw [hs]; exact hi), List.getD_eq_getElem?_getD, hu]
   rfl
 · have hat := Lib.bytesWorld_at_new w 5 ⟨l.toArray⟩
   have hj' : j < (Lib.bytesCells w 5 ⟨l.toArray⟩).size := by rw [hsz]; exact hj
   refine ⟨by simp [World.cell?, hat, hj'], ?_⟩
   simp only [World.frozen?, hat, Bool.and_eq_false_iff, decide_eq_false_iff_not]
   left
   omega
theorem size_setCells (b : Nat) : ∀ (vs : List Value) (o : Nat) (w : World), (w.setCells b o vs).heap.size = w.heap.size
 | [], _, _ => rfl
 | v :: vs, o, w => by
   rw [World.setCells, size_setCells b vs (o + 1)]
   exact World.size_setCell w _ v
theorem below_setCells (b B : Nat) (hB : B ≤ b) : ∀ (vs : List Value) (o : Nat) (a w : World), Below B a w → Below B a (w.setCells b o vs)
 | [], _, _, _, h => h
 | v :: vs, o, a, w, h => below_setCells b B hB vs (o + 1) a _ (h.setCell (p := ⟨b, o, none⟩) hB v)
set_option maxRecDepth 100000 in
theorem run_app_conv (w : World) {base B : Nat} {v y : Value} {l m : List UInt8} (ty : TypeId) (hown : OwnC w base v l) (hy : Bs w B y m) (hlen : l.length + m.length ≤ 1000000000) (hbase : base ≤ w.heap.size) :
 ∃ v' w', (Builtin.append_ #[23, 23] ty #[v, y]).run Tryd.prog w = .ok v' w' ∧ OwnC w' base v' (l ++ m) ∧ Below base w w' := by
 obtain ⟨i, hi, hz, hs, hb⟩ := info_u8
 obtain ⟨A, c, rfl, hc, hcell⟩ := hy
 by_cases hm : m = []
 · subst hm
   refine ⟨v, w, ?_, by simpa using hown, Below.refl _ _⟩
   obtain ⟨g, cap, rfl, _, _, hcap, _, _⟩ := hown
   have hrun := Ev.run_append_fit (P := Tryd.prog) (ty := ty) (base := some ⟨g, 0, none⟩) (m := l.length) (n := 0) (c := cap) (x := .slice A 0 c) (w := w) (new := #[]) Tryd.underlying23 Tryd.underlying23 (.inr ⟨_, rfl⟩) hi rfl (by cases A <;> simp [Builtin.firstCells, loadCells, loadCellsFrom]) (by omega)
   rw [List.length_nil, hrun]
   simp [storeCells]
 · obtain ⟨b, off, rfl, hlt, hcs⟩ := hcell hm
   obtain ⟨g, cap, rfl, h1, hg, hcap, hl, hr⟩ := hown
   have hnews : ∀ j u, (m.map bv)[j]? = some u → w.cell? ((⟨b, off, none⟩ : Addr).add j) = some u := by
    intro j u hj
    rw [List.getElem?_map, Option.map_eq_some_iff] at hj
    obtain ⟨x, hx2, rfl⟩ := hj
    rw [show (⟨b, off, none⟩ : Addr).add j = ⟨b, off + j, none⟩ by unfold Addr.add; split <;> simp_all]
    exact hcs j x hx2
   by_cases hroom : l.length + m.length ≤ cap
   · have hrun := run_append_room_cells (P := Tryd.prog) w 23 ty 5 i Tryd.underlying23 hi g 0 l.length cap ⟨b, off, none⟩ m.length c (m.map bv) (by rw [List.length_map, hs, Nat.mul_one]) hnews (by intro u hu; simp only [List.mem_map] at hu; obtain ⟨x, _, rfl⟩ := hu; rfl) hroom
      (fun j hj => by rw [hs, Nat.mul_one, Nat.zero_add]; exact (hr (l.length + j) (by rw [List.length_map] at hj; omega)).1)
      (fun j hj => by rw [hs, Nat.mul_one, Nat.zero_add]; exact (hr (l.length + j) (by rw [List.length_map] at hj; omega)).2)
     rw [hs, Nat.mul_one, Nat.zero_add] at hrun
     refine ⟨_, _, hrun, ⟨g, cap, by rw [List.length_append], h1, by rw [size_setCells]; exact hg, by rw [List.length_append]; exact hroom, fun k u hu => ?_, fun j hj => ?_⟩, below_setCells g base h1 _ _ _ _ (Below.refl _ _)⟩
     · by_cases hk : k < l.length
       · rw [World.cell?_setCells_out g _ _ _ _ (fun _ _ => .inl hk)]
         rw [List.getElem?_append_left hk] at hu
         exact hl k u hu
       · rw [List.getElem?_append_right (by omega)] at hu
         have hkm : k - l.length < m.length := (List.getElem?_eq_some_iff.1 hu).1
         have h5 := World.cell?_setCells_in g (m.map bv) l.length w (fun j hj => (hr (l.length + j) (by rw [List.length_map] at hj; omega)).1) (k - l.length) (by rw [List.length_map]; exact hkm)
         rw [show l.length + (k - l.length) = k by omega] at h5
         rw [h5, List.getElem_map]
         rw [List.getElem?_eq_getElem hkm] at hu
         injection hu with hu
         rw [hu]
     · rw [World.frozen?_setCells]
       refine ⟨?_, (hr j hj).2⟩
       by_cases hin : l.length ≤ j ∧ j < l.length + m.length
       · have h5 := World.cell?_setCells_in g (m.map bv) l.length w (fun j hj => (hr (l.length + j) (by rw [List.length_map] at hj; omega)).1) (j - l.length) (by rw [List.length_map]; omega)
         rw [show l.length + (j - l.length) = j by omega] at h5
         rw [h5]
         rfl
       · rw [World.cell?_setCells_out g _ _ _ _ (fun _ _ => by rw [List.length_map]; simp only; omega)]
         exact (hr j hj).1
   · obtain ⟨v', w', hrun, h2, h3⟩ := run_append_arg_grows (P := Tryd.prog) w 23 ty 5 i (.int .u8 0) 1 1 Tryd.underlying23 hi hz hs hb rfl (by decide) ⟨g, 0, none⟩ l.length cap (l.map bv) (by simp) (fun j u hj => by
      rw [List.getElem?_map, Option.map_eq_some_iff] at hj
      obtain ⟨x, hx2, rfl⟩ := hj
      rw [show (⟨g, 0, none⟩ : Addr).add j = ⟨g, j, none⟩ by unfold Addr.add; split <;> simp_all]
      exact hl j x hx2) ⟨b, off, none⟩ m.length c (m.map bv) (by simp) hnews (by omega) (by unfold maxLen; omega) (by omega)
     have hown : Own w' w.heap.size v' (l ++ m) := by
      unfold Own
      rw [List.length_append, List.map_append]
      exact h2
     exact ⟨v', w', hrun, ownC_of (hown.less hbase) (by intro h; exact hm (List.append_eq_nil_iff.1 h).2), (Below.refl _ w).grown h3 hbase (fun k hk => by cases hk)⟩
theorem wpList_app_conv (w : World) {ops : Array Oper} {rest : List Oper} {o : Oper} {a : Act} {Q : Exit → Act → World → Prop} (hgd : o.guard = none) (s x : Operand)
 (ho : o.op = .call { callee := .builtin .append, args := #[s, x], argTypes := #[23, 23] }) {base B : Nat} {v y : Value} {l m : List UInt8} (hs : a.eval s = v) (hown : OwnC w base v l) (hx : a.eval x = y) (hy : Bs w B y m)
 (hlen : l.length + m.length ≤ 1000000000) (hbase : base ≤ w.heap.size)
 (h : ∀ v' w', OwnC w' base v' (l ++ m) → Below base w w' → wpList Tryd.prog ops Q rest (a.put o.dst v') w') : wpList Tryd.prog ops Q (o :: rest) a w := by
 refine wpList_plain hgd fun K hK => ?_
 obtain ⟨v', w', hr, h2, h3⟩ := run_app_conv w o.type hown hy hlen hbase
 unfold Oper.wp execOp
 simp only [ho, resolve, invoke, builtin, Sem.run_bind, Sem.run_pure, Result.andThen_ok, List.map_toArray, List.map_cons, List.map_nil, hs, hx, hr]
 exact hK _ _ (h v' w' h2 h3)
theorem wpList_conv_own (w : World) {ops : Array Oper} {rest : List Oper} {o : Oper} {a : Act} {Q : Exit → Act → World → Prop} (hgd : o.guard = none) (s : Operand) (ho : o.op = .convert 9 23 s) {l : List UInt8} (hs : a.eval s = strOf l)
 (h : ∀ v' w', OwnC w' w.heap.size v' l → Below w.heap.size w w' → wpList Tryd.prog ops Q rest (a.put o.dst v') w') : wpList Tryd.prog ops Q (o :: rest) a w := by
 refine wpList_plain hgd fun K hK => ?_
 obtain ⟨v', w', hr, h2, h3⟩ := run_bytes_own w l
 unfold Oper.wp execOp
 simp only [ho, Sem.run_bind, Sem.run_pure, Result.andThen_ok, hs, hr]
 exact hK _ _ (h v' w' h2 h3)
end Go.Proofs.YtbdpnpabpcidkaaDoor.Shk
