/- append onto a row of the call's own: in place or not; what that leaves of each block. -/
import Derived.Test.YtmfjlcgbanidnaaOctRef
import Derived.Test.YtmfjlcgbanidnaaBy
namespace Go.Proofs.Ytmfjlcgbanidnaa.Ref
open Go.RowKit

def Keeps (L : List UInt8) (cx cy : Array Value) : Prop := cx.toList.take (L.length * 1) = L.map bv → cy.toList.take (L.length * 1) = L.map bv
/-- Each block stays, or is a row of bytes from lo on that keeps its length and, where they are its first ones, these bytes. -/
structure TP (lo : Nat) (l L : List UInt8) (x y : World) : Prop where
  os : y.os = x.os
  tape : y.tape = x.tape
  output : y.output = x.output
  size : x.heap.size ≤ y.heap.size
  block : ∀ k, k < x.heap.size → y.heap[k]? = x.heap[k]? ∨ (lo ≤ k ∧ ∃ cx cy, x.heap[k]? = some (.cells cx 5 (0, 0)) ∧ y.heap[k]? = some (.cells cy 5 (0, 0)) ∧ cx.size = cy.size ∧ Keeps l cx cy ∧ Keeps L cx cy)
theorem TP.refl {lo : Nat} {l L : List UInt8} (x : World) : TP lo l L x x := ⟨rfl, rfl, rfl, Nat.le_refl _, fun _ _ => .inl rfl⟩
theorem TP.of_grew {lo : Nat} {l L : List UInt8} (x y : World) (h : Grew x y) : TP lo l L x y := ⟨h.os, h.tape, h.output, h.size, fun k hk => .inl (h.block k hk)⟩
theorem TP.trans {lo : Nat} {l L : List UInt8} (x y z : World) (h : TP lo l L x y) (g : TP lo l L y z) : TP lo l L x z := by
  refine ⟨g.os.trans h.os, g.tape.trans h.tape, g.output.trans h.output, Nat.le_trans h.size g.size, fun k hk => ?_⟩
  rcases h.block k hk with h1 | ⟨hlo, cx, cy, h1, h2, h3, h4, h5⟩
  · rcases g.block k (Nat.lt_of_lt_of_le hk h.size) with g1 | ⟨glo, dx, dy, g1, g2, g3, g4, g5⟩
    · exact .inl (g1.trans h1)
    · exact .inr ⟨glo, dx, dy, h1.symm.trans g1, g2, g3, g4, g5⟩
  · rcases g.block k (Nat.lt_of_lt_of_le hk h.size) with g1 | ⟨glo, dx, dy, g1, g2, g3, g4, g5⟩
    · exact .inr ⟨hlo, cx, cy, h1, g1.trans h2, h3, h4, h5⟩
    · rw [h2] at g1
      injection g1 with g1
      injection g1 with g1
      subst g1
      exact .inr ⟨hlo, cx, dy, h1, g2, h3.trans g3, fun q => g4 (h4 q), fun q => g5 (h5 q)⟩
theorem TP.weak {lo : Nat} {l L : List UInt8} {x y : World} (h : TP lo l L x y) : TP lo l l x y := by
  refine ⟨h.os, h.tape, h.output, h.size, fun k hk => ?_⟩
  rcases h.block k hk with h1 | ⟨hlo, cx, cy, h1, h2, h3, h4, _⟩
  · exact .inl h1
  · exact .inr ⟨hlo, cx, cy, h1, h2, h3, h4, h4⟩
theorem TP.below {lo : Nat} {l L : List UInt8} {x y : World} (h : TP lo l L x y) (hlo : lo ≤ x.heap.size) : Below lo x y :=
  ⟨h.os, h.tape, h.output, h.size, fun k hk => (h.block k (by omega)).resolve_right (by rintro ⟨h1, _⟩; omega)⟩
theorem own_tp {lo : Nat} {l L : List UInt8} {x y : World} (h : TP lo l L x y) {v : Value} {m : List UInt8} (ho : Own x lo v m) (hm : m = l ∨ m = L) : Own y lo v m := by
  refine ⟨ho.1, ?_⟩
  rcases ho.2 with h2 | ⟨g, cap, cur, e, hg, hgg, hn, hc, hs, ht⟩
  · exact .inl h2
  · rcases h.block g (Array.getElem?_eq_some_iff.1 hgg).1 with h1 | ⟨_, cx, cy, h1, h2, h3, h4, h5⟩
    · exact .inr ⟨g, cap, cur, e, hg, h1.trans hgg, hn, hc, hs, ht⟩
    · rw [hgg] at h1
      injection h1 with h1
      injection h1 with h1
      subst h1
      refine .inr ⟨g, cap, cy, e, hg, h2, hn, hc, h3.symm.trans hs, ?_⟩
      rcases hm with rfl | rfl
      · exact h4 ht
      · exact h5 ht

theorem app_where (w : World) {base B : Nat} {v y v' : Value} {w' : World} {l m : List UInt8} (ty : TypeId) {g cap : Nat} (hv : v = .slice (some ⟨g, 0, none⟩) l.length cap) (hown : Own w base v l) (hy : Bs w B y m) (hlen : l.length + m.length ≤ 1000000)
    (hr : (Builtin.append_ #[24, 24] ty #[v, y]).run Try.prog w = .ok v' w') :
    (l.length + m.length ≤ cap ∧ v' = .slice (some ⟨g, 0, none⟩) (l.length + m.length) cap) ∨ (cap < l.length + m.length ∧ w'.heap[g]? = w.heap[g]? ∧ v'.ownBlock = some w.heap.size) := by
  obtain ⟨i, hi, hz, hs, hb⟩ := info_u8
  obtain ⟨A, c, rfl, hc, hcell⟩ := hy
  subst hv
  rcases hown.2 with ⟨h0, _⟩ | ⟨g', cap', cur, e, _, hgg, hnc, hcm, hcs, ht⟩
  · cases h0
  · simp only [Value.slice.injEq, Option.some.injEq, Addr.mk.injEq] at e
    obtain ⟨⟨rfl, _, _⟩, _, rfl⟩ := e
    have hg : g < w.heap.size := (Array.getElem?_eq_some_iff.1 hgg).1
    by_cases hm : m = []
    · subst hm
      have hrun := Ev.run_append_fit (P := Try.prog) (ty := ty) (base := some ⟨g, 0, none⟩) (m := l.length) (n := 0) (c := cap) (x := .slice A 0 c) (w := w) (new := #[]) Try.underlying24 Try.underlying24 (.inr ⟨_, rfl⟩) hi rfl (by cases A <;> simp [Builtin.firstCells, loadCells, loadCellsFrom]) (by omega)
      rw [List.length_nil, hrun] at hr
      simp [storeCells] at hr
      exact .inl ⟨by simpa using hnc, by rw [← hr.1]; simp⟩
    · obtain ⟨b2, off2, rfl, _, h2⟩ := hcell hm
      have hnews : ∀ j u, (m.map bv)[j]? = some u → w.cell? ((⟨b2, off2, none⟩ : Addr).add j) = some u := by
        intro j u hj
        rw [List.getElem?_map, Option.map_eq_some_iff] at hj
        obtain ⟨x, hx, rfl⟩ := hj
        rw [show (⟨b2, off2, none⟩ : Addr).add j = ⟨b2, off2 + j, none⟩ by unfold Addr.add; split <;> simp_all]
        exact h2 j x hx
      by_cases hroom : l.length + m.length ≤ cap
      · have hq := run_append_room (P := Try.prog) w 24 ty 5 i Try.underlying24 hi g l.length cap cur hgg ⟨b2, off2, none⟩ m.length c (m.map bv) (by simp [hs]) hnews (by intro u hu; simp only [List.mem_map] at hu; obtain ⟨x, _, rfl⟩ := hu; rfl) hroom (by rw [hs, hcs]; simp; omega)
        rw [hq] at hr
        injection hr with h1 _
        exact .inl ⟨hroom, h1.symm⟩
      · have hq := run_append_grow (P := Try.prog) w 24 ty 5 i (.int .u8 0) Try.underlying24 hi hz ⟨g, 0, none⟩ l.length cap (l.map bv) (by simp [hs]) (hown.cells (g := g) rfl) ⟨b2, off2, none⟩ m.length c (m.map bv) (by simp [hs]) hnews (by omega) (by omega) (growslice_fits (by omega) (by rw [hb]; omega))
        rw [hq] at hr
        injection hr with h1 h2
        subst h1
        subst h2
        exact .inr ⟨by omega, ((Below.refl _ w.drew).alloc (Nat.le_refl _) _).block g hg, rfl⟩

/-- 'b = append(b, x...)' in a walk; where the result lies. -/
theorem wpList_app_row (w : World) {ops : Array Oper} {rest : List Oper} {o : Oper} {a : Act} {Q : Exit → Act → World → Prop} (hgd : o.guard = none) (s x : Operand)
    (ho : o.op = .call { callee := .builtin .append, args := #[s, x], argTypes := #[24, 24] }) {base B : Nat} {v y : Value} {l m : List UInt8} (hs : a.eval s = v) (hown : Own w base v l) (hx : a.eval x = y) (hy : Bs w B y m)
    (hlen : l.length + m.length ≤ 1000000) (hbase : base ≤ w.heap.size)
    (h : ∀ v' w', Own w' base v' (l ++ m) → w.grownBy w' v.ownBlock → (v'.ownBlock = v.ownBlock ∨ v'.ownBlock = some w.heap.size) →
      (∀ g cap, v = .slice (some ⟨g, 0, none⟩) l.length cap → (l.length + m.length ≤ cap ∧ v' = .slice (some ⟨g, 0, none⟩) (l.length + m.length) cap) ∨ (cap < l.length + m.length ∧ w'.heap[g]? = w.heap[g]? ∧ v'.ownBlock = some w.heap.size)) →
      wpList Try.prog ops Q rest (a.put o.dst v') w') : wpList Try.prog ops Q (o :: rest) a w := by
  refine wpList_plain hgd fun K hK => ?_
  obtain ⟨v', w', hr, h2, h3, h4⟩ := run_app_bytes w o.type hown hy (by omega) hbase
  have hw := fun g cap hv => app_where w (g := g) (cap := cap) o.type hv hown hy hlen hr
  unfold Oper.wp execOp
  simp only [ho, resolve, invoke, builtin, Sem.run_bind, Sem.run_pure, Result.andThen_ok, List.map_toArray, List.map_cons, List.map_nil, hs, hx, hr]
  exact hK _ _ (h v' w' h2 h3 h4 hw)

theorem take_less {c : Array Value} {l L : List UInt8} (h : c.toList.take (L.length * 1) = L.map bv) (hp : l <+: L) : c.toList.take (l.length * 1) = l.map bv := by
  obtain ⟨r, rfl⟩ := hp
  have h1 := congrArg (List.take (l.length * 1)) h
  rw [List.take_take] at h1
  rw [show min (l.length * 1) ((l ++ r).length * 1) = l.length * 1 by simp] at h1
  rw [h1, List.map_append, List.take_left' (by simp)]

/-- What one append onto a row of the call's own leaves. -/
theorem app_tp {w w' : World} {base : Nat} {v v' : Value} {l L m : List UInt8} (hown : Own w base v L) (hown' : Own w' base v' (L ++ m)) (hp : l <+: L) (hg : w.grownBy w' v.ownBlock)
    (hw : ∀ g cap, v = .slice (some ⟨g, 0, none⟩) L.length cap → (L.length + m.length ≤ cap ∧ v' = .slice (some ⟨g, 0, none⟩) (L.length + m.length) cap) ∨ (cap < L.length + m.length ∧ w'.heap[g]? = w.heap[g]? ∧ v'.ownBlock = some w.heap.size)) : TP base l l w w' := by
  refine ⟨hg.os, hg.tape, hg.output, hg.size, fun k hk => ?_⟩
  by_cases hkb : some k = v.ownBlock
  · rcases hown.2 with ⟨rfl, _⟩ | ⟨g, cap, cur, rfl, hge, hgg, hn, hc, hs, ht⟩
    · cases hkb
    · injection hkb with hkb
      subst hkb
      rcases hw _ _ rfl with ⟨hfit, rfl⟩ | ⟨_, h1, _⟩
      · rcases hown'.2 with ⟨h0, _⟩ | ⟨g', cap', cur', e', _, hgg', _, _, hs', ht'⟩
        · cases h0
        · simp only [Value.slice.injEq, Option.some.injEq, Addr.mk.injEq] at e'
          obtain ⟨⟨rfl, _, _⟩, _, rfl⟩ := e'
          have hk : Keeps l cur cur' := fun _ => take_less ht' (hp.trans (List.prefix_append _ _))
          exact .inr ⟨hge, cur, cur', hgg, hgg', hs.trans hs'.symm, hk, hk⟩
      · exact .inl h1
  · exact .inl (hg.block k hk hkb)
set_option maxHeartbeats 400000 in
theorem Number_row (b : Value) (l : List UInt8) (x : Nat) (base : Nat) (w : World) (hb : Own w base b l) (hx : x < 2 ^ 64) (hl : l.length ≤ 3000) (hbase : base ≤ w.heap.size) :
    Calls Try.prog 23 #[b, .int .u64 x] w fun e w' => ∃ v, e = .returned v ∧ Own w' base v (l ++ Oct.enc x) ∧ Below base w w' ∧ TP base l (l ++ Oct.enc x) w w' := by
  obtain ⟨hn8, hxn, hx0⟩ := Oct.nsize_spec x hx
  have Hb := Lib.hid hb
  clear hb
  go_enter Try.func23, Try.ntmps23
  go_wp2
  go_loopw [5, 6] (fun v y wr => ∃ j yn : Nat, j ≤ Oct.nsize x ∧ yn = x / 256 ^ j ∧ y = .int .u64 (yn : Int) ∧ Own wr w.heap.size v (Oct.bytesBE j x) ∧ Below w.heap.size w wr) (fun _ y _ => (intOf y).toNat)
  case atStart => exact ⟨0, x, Nat.zero_le _, by simp, rfl, Own.nil _ _, Below.refl _ _⟩
  case round =>
    obtain ⟨j, yn, hj, hyn, hy, hown, hbel⟩ := hrel
    subst hy
    have Hyn := Lib.hid hyn
    have hyx : yn ≤ x := by rw [hyn]; exact Nat.div_le_self _ _
    have Hown := Lib.hid hown
    clear hown
    by_cases h0 : yn = 0
    · have hjn : j = Oct.nsize x := by
        rw [h0] at hyn
        rcases Nat.lt_or_ge j (Oct.nsize x) with h | h
        · have hne : x ≠ 0 := by rintro rfl; simp [Oct.nsize_zero] at h
          have h1 := (hx0 hne).2
          have h2 : 256 ^ j ≤ 256 ^ (Oct.nsize x - 1) := Nat.pow_le_pow_right (by decide) (by omega)
          have := (Nat.div_eq_zero_iff_lt (Nat.pow_pos (by decide : 0 < 256))).1 hyn.symm
          omega
        · omega
      have Hjn := Lib.hid hjn
      have hj8 : j ≤ 8 := by omega
      clear hyn hjn Hyn hj hyx
      subst h0
      have hlen : (Oct.bytesBE j x).length = j := Oct.bytesBE_length _ _
      obtain ⟨A5, c5, h5⟩ := Hown.out.shape
      rw [hlen] at h5
      subst h5
      have Hlen := Lib.hid hlen
      clear hlen
      have hb1 := Hb.out.below hbel (Nat.le_refl _)
      have Hb1 := Lib.hid hb1
      clear hb1
      have HV : Hid (Value.int .u8 (j : Int) = bv (UInt8.ofNat j)) := by
        unfold Hid bv
        rw [UInt8.toNat_ofNat']
        congr 1
        omega
      have hap : (Value.slice A5 j c5).ownBlock = none ∨ (Value.slice A5 j c5).ownBlock ≠ b.ownBlock := by
        cases hk : (Value.slice A5 j c5).ownBlock with
        | none => exact .inl rfl
        | some k =>
          refine .inr fun he => ?_
          have h1 := (Hown.out.block_ge hk).1
          have h2 := (Hb.out.block_ge he.symm).2
          omega
      have Hap := Lib.hid hap
      clear hap
      go_wp2_with (first
        | (at_builtin; refine wpList_app_row _ rfl _ _ rfl rfl (Hb1.out.alloc _) rfl (Bs.one _ _ _ HV.out) (by simp; omega) (by have := hbel.size; simp; omega) ?_; intro v1 w1 hown1 hg1 hblk1 hw1; have Hw1 := Lib.hid hw1; clear hw1)
        | (at_builtin; refine wpList_app_row _ rfl _ _ rfl rfl hown1 rfl (((Hown.out.alloc _).kept hg1 Hap.out).bs) (by simp [Hlen.out]; omega) (by have := hbel.size; have := hg1.size; simp at this; omega) ?_; intro v2 w2 hown2 hg2 hblk2 hw2; have Hw2 := Lib.hid hw2; clear hw2))
      go_ret
      have hL2 : l ++ [UInt8.ofNat j] ++ Oct.bytesBE j x = l ++ Oct.enc x := by simp [Oct.enc, ← Hjn.out]
      have hB2 : Below base w w2 := by
        have h1 : Below base w w1 := ((hbel.mono hbase).alloc (by have := hbel.size; omega) _).grown hg1 (by have := hbel.size; simp; omega) (fun k hk => (Hb.out.block_ge hk).1)
        refine h1.grown hg2 (by have := h1.size; omega) (fun k hk => ?_)
        exact (hown1.block_ge hk).1
      have hO2 : Own w2 base v2 (l ++ Oct.enc x) := by rw [← hL2]; exact hown2
      refine ⟨v2, rfl, hO2, hB2, hB2.os, hB2.tape, hB2.output, hB2.size, fun k hk => ?_⟩
      have hsz := hbel.size
      have hs1 := hg1.size
      have e0 : ∀ V : Obj, (wr.alloc V).heap[k]? = w.heap[k]? := fun V => (((Below.refl _ wr).alloc (Nat.le_refl _) V).block k (by omega)).trans (hbel.block k hk)
      by_cases hkb : some k = b.ownBlock
      · rcases Hb.out.2 with ⟨rfl, _⟩ | ⟨g, cap, cur, rfl, hge, hgg, hn, hc, hs, ht⟩
        · cases hkb
        · injection hkb with hkb
          subst hkb
          rcases Hw1.out _ _ rfl with ⟨hfit, rfl⟩ | ⟨_, h1, h1'⟩
          · rcases Hw2.out k cap (by show Value.slice _ _ _ = Value.slice _ _ _; rw [List.length_append]) with ⟨hfit2, rfl⟩ | ⟨hno, h2, _⟩
            · rcases hO2.2 with ⟨h0, _⟩ | ⟨g', cap', cur', e', _, hgg', _, _, hs', ht'⟩
              · cases h0
              · simp only [Value.slice.injEq, Option.some.injEq, Addr.mk.injEq] at e'
                obtain ⟨⟨rfl, _, _⟩, _, rfl⟩ := e'
                exact .inr ⟨hge, cur, cur', hgg, hgg', hs.trans hs'.symm, fun _ => take_less ht' (List.prefix_append _ _), fun _ => ht'⟩
            · rcases hown1.2 with ⟨h0, _⟩ | ⟨g', cap', cur', e', _, hgg', _, _, hs', ht'⟩
              · cases h0
              · simp only [Value.slice.injEq, Option.some.injEq, Addr.mk.injEq] at e'
                obtain ⟨⟨rfl, _, _⟩, _, rfl⟩ := e'
                refine .inr ⟨hge, cur, cur', hgg, h2.trans hgg', hs.trans hs'.symm, fun _ => take_less ht' (List.prefix_append _ _), fun q => ?_⟩
                have q1 := congrArg List.length q
                have q2 : cur.toList.length = cap * 1 := by rw [Array.length_toList]; exact hs
                rw [List.length_take, List.length_map, q2, ← hL2] at q1
                simp only [List.length_append] at q1 hno
                omega
          · refine .inl ?_
            rw [hg2.block k (by simp at hs1; omega) (by show some k ≠ v1.ownBlock; rw [h1']; simp; omega), h1]
            exact e0 _
      · refine .inl ?_
        rw [hg2.block k (by simp at hs1; omega) (by
          show some k ≠ v1.ownBlock
          rcases hblk1 with h | h
          · rw [h]; exact hkb
          · rw [h]; simp; omega), hg1.block k (by simp; omega) hkb]
        exact e0 _
    · have hpos : (0 : Int) < (yn : Int) := by omega
      clear hyn
      go_wp2_with (at_builtin; refine wpList_app_bytes _ rfl _ _ rfl rfl (own_one _ _ (UInt8.ofNat (yn % 256)) (by unfold bv; rw [UInt8.toNat_ofNat']; congr 1; omega)) rfl (Hown.out.bs.alloc (Nat.le_refl _) _) (by simp [Oct.bytesBE_length]; omega) (by simp) ?_; intro v1 w1 hown1 hg1 hblk1)
      go_roundw
      case rel =>
        refine ⟨j + 1, yn / 256, ?_, ?_, ?_, ?_, ?_⟩
        · rcases Nat.lt_or_ge j (Oct.nsize x) with h | h
          · exact h
          · have hjn : j = Oct.nsize x := by omega
            have := Hyn.out
            rw [hjn, Nat.div_eq_of_lt hxn] at this
            exact absurd this h0
        · rw [Hyn.out, Nat.div_div_eq_div_mul, ← Nat.pow_succ]
        · congr 1
        · rw [bytesBE_cons, ← Hyn.out]
          exact hown1.less hbel.size
        · exact (hbel.alloc hbel.size _).grown hg1 (by have := hbel.size; simp; omega) (fun k hk => by have hk' : some wr.heap.size = some k := hk; injection hk' with hk'; have := hbel.size; omega)
      case measure =>
        simp [intOf]
        omega

set_option maxHeartbeats 400000 in
theorem Block_row (b p : Value) (l m : List UInt8) (base : Nat) (w : World) (hb : Own w base b l) (hp : Bs w base p m) (hm : m.length ≤ 3000) (hl : l.length ≤ 3000) (hbase : base ≤ w.heap.size) : Calls Try.prog 22 #[b, p] w fun e w' =>
    ∃ v, e = .returned (.tuple #[v, .int .i64 0]) ∧ Own w' base v (l ++ Oct.enc m.length ++ m) ∧ Below base w w' ∧ TP base l l w w' := by
  have Hp := Lib.hid hp
  obtain ⟨A, c, rfl, hc, hcs⟩ := hp
  clear hcs
  have hm' : ¬ (1048576 : Int) < (m.length : Int) := by omega
  have Hb := Lib.hid hb
  clear hb
  go_enter Try.func22, Try.ntmps22
  go_wp2_with (first
    | (go_at_call 23; refine (Number_row _ l m.length base _ Hb.out (by omega) (by omega) hbase).mono ?_; rintro e w2 ⟨v2, rfl, hown2, hb2, htp2⟩)
    | (at_builtin; refine wpList_app_row _ rfl _ _ rfl rfl hown2 rfl (Hp.out.below hb2) (by rw [List.length_append, Oct.enc_length]; have := (Oct.nsize_spec m.length (by omega)).1; omega) (by have := hb2.size; omega) ?_; intro v3 w3 hown3 hg3 hblk3 hw3; have Hw3 := Lib.hid hw3; clear hw3))
  go_ret2
  exact ⟨v3, rfl, hown3, hb2.grown hg3 (by have := hb2.size; omega) (fun k hk => (hown2.block_ge hk).1), (TP.weak htp2).trans _ _ _ (app_tp hown2 hown3 (List.prefix_append _ _) hg3 Hw3.out)⟩
end Go.Proofs.Ytmfjlcgbanidnaa.Ref
