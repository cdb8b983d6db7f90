/- config: setPeer. -/
import Derived.Test.YtlphmbefcbhhpaaCfgSet
import Derived.Test.YtlphmbefcbhhpaaCfgCheckOp
import Derived.Test.YtlphmbefcbhhpaaStr
namespace Go.Proofs.Ytlphmbefcbhhpaa.Cfg
open Go.RowKit
set_option maxRecDepth 100000 in
theorem build_mb (id : Int) (ky : List UInt8) (h : ky.length = 32) (w : World) : (Instr.build 83 #[(0, .int .i64 id), (1, arr8 ky)]).run Try.prog w = .ok (Mb.val ⟨id, ky, false⟩) w := by
  match ky, h with
  | [k0, k1, k2, k3, k4, k5, k6, k7, k8, k9, k10, k11, k12, k13, k14, k15, k16, k17, k18, k19, k20, k21, k22, k23, k24, k25, k26, k27, k28, k29, k30, k31], _ =>
    show _ = _
    kernel_rfl
/-- Arms that need the parts evaluated. -/
theorem wpList_bp {P : Program} {ops : Array Oper} {rest : List Oper} {o : Oper} {a : Act} {w : World} {Q : Exit → Act → World → Prop} (hgd : o.guard = none) (t : TypeId) (parts : Array (Nat × Operand)) (ho : o.op = .build t parts) {ps : Array (Nat × Value)} (hp : (parts.map fun (i, x) => (i, a.eval x)) = ps) {v : Value}
    (hrun : (Instr.build t ps).run P w = .ok v w) (hk : wpList P ops Q rest (a.put o.dst v) w) : wpList P ops Q (o :: rest) a w := by
  refine wpList_plain hgd fun K hK => ?_
  unfold Oper.wp execOp
  simp only [ho, hp, Sem.run_bind, Sem.run_pure, Result.andThen_ok, hrun]
  exact hK _ _ hk
theorem owns_below {w w' : World} {base : Nat} {e : TypeId} {k : Nat} {v : Value} {n : Nat} {xs : List Value} (h : w.ownsRow base e k v n xs) (hb : Below w.heap.size w w') : w'.ownsRow base e k v n xs := by
  refine ⟨h.1, ?_⟩
  rcases h.2 with h2 | ⟨g, cap, cur, e', hg, hgg, r⟩
  · exact .inl h2
  · exact .inr ⟨g, cap, cur, e', hg, by rw [hb.block g (Array.getElem?_eq_some_iff.1 hgg).1]; exact hgg, r⟩
theorem owns_setCell {w : World} {base : Nat} {e : TypeId} {k : Nat} {v : Value} {n : Nat} {xs : List Value} (h : w.ownsRow base e k v n xs) (p : Addr) (hp : p.block < base) (u : Value) : (w.setCell p u).ownsRow base e k v n xs := by
  refine ⟨h.1, ?_⟩
  rcases h.2 with h2 | ⟨g, cap, cur, e', hg, hgg, r⟩
  · exact .inl h2
  · exact .inr ⟨g, cap, cur, e', hg, by rw [heap_setCell_other w p g u (by omega)]; exact hgg, r⟩
/-- Two tables of one's own, from block 'base' on. -/
structure CNew (w : World) (base : Nat) (v1 v2 : Value) (c : Cf) : Prop where
  ps : OwnM w base v1 c.ps
  rs : OwnR w base v2 c.rs
theorem CNew.at {w : World} {base : Nat} {v1 v2 : Value} {c : Cf} (h : CNew w base v1 v2 c) : CAt w w.heap.size v1 v2 c := ⟨h.ps.tab, h.rs.tab⟩
theorem CNew.below {w w' : World} {base : Nat} {v1 v2 : Value} {c : Cf} (h : CNew w base v1 v2 c) (hb : Below w.heap.size w w') : CNew w' base v1 v2 c := ⟨⟨h.ps.1, owns_below h.ps.2 hb⟩, owns_below h.rs hb⟩
theorem CNew.less {w : World} {base base' : Nat} {v1 v2 : Value} {c : Cf} (h : CNew w base v1 v2 c) (hb : base' ≤ base) : CNew w base' v1 v2 c := ⟨⟨h.ps.1, own_less h.ps.2 hb⟩, own_less h.rs hb⟩
theorem owns_setRow {w : World} {base : Nat} {e : TypeId} {k : Nat} {v : Value} {n : Nat} {xs : List Value} (h : w.ownsRow base e k v n xs) (g : Nat) (hp : g < base) (cs : Array Value) : (w.setRow g cs).ownsRow base e k v n xs := by
  refine ⟨h.1, ?_⟩
  rcases h.2 with h2 | ⟨g', cap, cur, e', hg, hgg, r⟩
  · exact .inl h2
  · exact .inr ⟨g', cap, cur, e', hg, by rw [setRow_other w g g' cs (by omega)]; exact hgg, r⟩
theorem CNew.setRow {w : World} {base g : Nat} {v1 v2 : Value} {c : Cf} (h : CNew w base v1 v2 c) (hg : g < base) (cs : Array Value) : CNew (w.setRow g cs) base v1 v2 c := ⟨⟨h.ps.1, owns_setRow h.ps.2 g hg cs⟩, owns_setRow h.rs g hg cs⟩
theorem CNew.setCell {w : World} {base : Nat} {v1 v2 : Value} {c : Cf} (h : CNew w base v1 v2 c) (p : Addr) (hg : p.block < base) (u : Value) : CNew (w.setCell p u) base v1 v2 c := ⟨⟨h.ps.1, owns_setCell h.ps.2 p hg u⟩, owns_setCell h.rs p hg u⟩
theorem CNew.one {w : World} {base : Nat} {v1 v2 : Value} {c : Cf} (h : CNew w base v1 v2 c) : v1.oneCell' = true ∧ v2.oneCell' = true := by
  obtain ⟨_, _, _, _, rfl, rfl⟩ := h.at.shape
  exact ⟨rfl, rfl⟩
def setL (l : List Mb) (x : Mb) : List Mb := lo Mb.key x.key l ++ x :: hi Mb.key x.key l
theorem setL_is {l : List Mb} (hO : Ord Mb.key l) (x : Mb) (hk : x.key = (x.id, 0)) : l.take (pos Mb.key (x.id, 0) l) ++ [x] ++ l.drop (pos Mb.key (x.id, 0) l + (if has Mb.key (x.id, 0) l = true then 1 else 0)) = setL l x := by
  unfold setL
  rw [hk, take_pos _ hO, drop_pos _ hO, List.append_assoc]
  rfl
theorem pos_fit {l : List Mb} (hO : Ord Mb.key l) (k : Ky) : pos Mb.key k l + (if has Mb.key k l = true then 1 else 0) ≤ l.length := by
  cases hh : has Mb.key k l with
  | false => simpa using pos_le k l
  | true =>
    obtain ⟨x, hx, _⟩ := at_pos k hO hh
    have := (List.getElem?_eq_some_iff.1 hx).1
    simp
    omega
set_option maxRecDepth 100000 in
set_option maxHeartbeats 2000000 in
theorem setPeer_ok {w : World} {B : Nat} {vp vr : Value} {c : Cf} {o : Opn} (h : CAt w B vp vr c) (hV : Val c) (hk : o.ky.length = 32) (hfull : has Mb.key (o.id, 0) c.ps = true ∨ c.ps.length ≠ 64) (hB : B ≤ w.heap.size) :
    Calls Try.prog 141 #[.agg #[vp, vr], o.val] w fun e w' => ∃ v1 v2, e = .returned (.tuple #[.agg #[v1, v2], .int .i64 0]) ∧ CNew w' w.heap.size v1 v2 ⟨setL c.ps ⟨o.id, o.ky, false⟩, c.rs⟩ ∧ Below w.heap.size w w' := by
  obtain ⟨A1, n1, A2, n2, rfl, rfl⟩ := h.shape
  obtain ⟨W1, hW1⟩ : ∃ W1, ((w.alloc (.cells #[.slice A1 c.ps.length n1, .slice A2 c.rs.length n2] 27)).alloc (.cells o.cs.toArray 45)).alloc (.cells #[.slice none 0 0, .slice none 0 0] 27) = W1 := ⟨_, rfl⟩
  have hb1 : Below w.heap.size w W1 := hW1 ▸ (((Below.refl _ w).alloc (Nat.le_refl _) _).alloc (by simp) _).alloc (by simp; omega) _
  have hr0 : Row W1 w.heap.size [.slice A1 c.ps.length n1, .slice A2 c.rs.length n2] 27 := hW1 ▸ ((Row.new rfl rfl : Row (w.alloc (.cells #[.slice A1 c.ps.length n1, .slice A2 c.rs.length n2] 27)) w.heap.size [.slice A1 c.ps.length n1, .slice A2 c.rs.length n2] 27).alloc _).alloc _
  have hr1 : Row W1 (w.heap.size + 1) o.cs 45 := hW1 ▸ (Row.new (by simp) rfl : Row ((w.alloc (.cells #[.slice A1 c.ps.length n1, .slice A2 c.rs.length n2] 27)).alloc (.cells o.cs.toArray 45)) (w.heap.size + 1) o.cs 45).alloc _
  have hr2 : Row W1 (w.heap.size + 1 + 1) [.slice none 0 0, .slice none 0 0] 27 := hW1 ▸ Row.new (by simp) rfl
  have c0 := hr0.cell (i := 0) rfl
  have c1 := hr0.cell (i := 1) rfl
  have ci := hr1.cell (i := 2) rfl
  have HR0 := Lib.hid hr0
  have HR1 := Lib.hid hr1
  have HR2 := Lib.hid hr2
  have HB1 := Lib.hid hb1
  have HC := Lib.hid h
  have Hk := Lib.hid hk
  have HV := Lib.hid hV
  have HBw := Lib.hid hB
  have HAt := Lib.hid (At1_any (w := W1) (B := B) (vp := .slice A1 c.ps.length n1) (vr := .slice A2 c.rs.length n2) (h.1.below (hb1.mono hB)) (by have := hV.1; omega) hV.2.2.2.1 rfl rfl o.id (Nat.le_trans hB hb1.size))
  obtain ⟨p, hp⟩ : ∃ p, pos Mb.key (o.id, 0) c.ps = p := ⟨_, rfl⟩
  obtain ⟨th, hth⟩ : ∃ th, has Mb.key (o.id, 0) c.ps = th := ⟨_, rfl⟩
  rw [hp, hth] at HAt
  rw [hth] at hfull
  have Hp := Lib.hid hp
  have Hth := Lib.hid hth
  have Hfull := Lib.hid hfull
  clear h hV hk hB hb1 hr0 hr1 hr2 hp hth hfull
  unfold Opn.val
  go_enter Try.func141, Try.ntmps141
  go_wp2_with fail
  refine HAt.out.mono ?_
  rintro e W2 ⟨rfl, hb⟩
  have HB2 := Lib.hid hb
  have HR0' := Lib.hid (HR0.out.below hb HR0.out.lt)
  have HR1' := Lib.hid (HR1.out.below hb HR1.out.lt)
  have HR2' := Lib.hid (HR2.out.below hb HR2.out.lt)
  have d0 := HR0'.out.cell (i := 0) rfl
  have d1 := HR0'.out.cell (i := 1) rfl
  have di := HR1'.out.cell (i := 2) rfl
  have HLK := Lib.hid (l_key HR1'.out Hk.out)
  have HBM := Lib.hid (build_mb o.id o.ky Hk.out W2)
  have HB12 := Lib.hid (show Below w.heap.size w W2 from nextB HB1.out (Nat.le_refl _) hb)
  have HS := Lib.hid (set1_any (w := W2) (B := B) (v := .slice A1 c.ps.length n1) (l := c.ps) (x := ⟨o.id, o.ky, false⟩) (a := p) th (HC.out.1.below (HB12.out.mono HBw.out)) Hk.out (by have := HV.out.1; omega) (by have := pos_fit HV.out.2.2.2.1 (o.id, 0); rw [Hp.out, Hth.out] at this; exact this) (Nat.le_trans HBw.out HB12.out.size))
  clear hb c0 c1 ci hW1
  cases th
  · have hf : ((c.ps.length : Int) == 64) = false := by have := Hfull.out; simp at this ⊢; omega
    simp only [Bool.false_eq_true, if_false, Nat.add_zero] at HS
    go_wp2_with (first
      | (show wpList _ _ _ (⟨some 32, _, _, _, _, _⟩ :: _) _ _
         refine QB.wpList_ld 43 rfl rfl HLK.out rfl ?_
         clear HLK
         refine wpList_bp rfl 83 #[(0, .tmp 30), (1, .tmp 32)] rfl (ps := #[(0, .int .i64 o.id), (1, arr8 o.ky)]) (by kernel_rfl) HBM.out ?_
         clear HBM)
      | fail)
    refine HS.out.mono ?_
    rintro e W3 ⟨v1, rfl, ho, hb3⟩
    obtain ⟨l', hl'⟩ : ∃ l', c.ps.take p ++ [⟨o.id, o.ky, false⟩] ++ c.ps.drop p = l' := ⟨_, rfl⟩
    rw [hl'] at ho
    have Hl' := Lib.hid hl'
    clear hl'
    obtain ⟨A3, n3, rfl, _⟩ := ho.tab.2.shape
    have HO := Lib.hid ho
    have HB3 := Lib.hid hb3
    have e1 := (HR0'.out.below hb3 HR0'.out.lt).cell (i := 1) rfl
    have HR2b := Lib.hid (HR2'.out.below hb3 HR2'.out.lt)
    have HB13 := Lib.hid (show Below w.heap.size w W3 from nextB HB12.out (Nat.le_refl _) hb3)
    have HCl := Lib.hid (clone2_any (w := W3) (B := B) (HC.out.2.below (HB13.out.mono HBw.out)) (by have := HV.out.2.1; omega))
    clear ho hb3 d0 d1 di hf HS
    go_wp2_with fail
    refine HCl.out.mono ?_
    rintro e W4 ⟨v2, rfl, ho4, hb4⟩
    obtain ⟨A4, n4, rfl, _⟩ := (show Tab 3 W4 W4.heap.size v2 c.rs.length (rcs c.rs) from ho4.tab).shape
    have HO4 := Lib.hid ho4
    have HB4 := Lib.hid hb4
    have HR2c := Lib.hid (HR2b.out.below hb4 HR2b.out.lt)
    have f0 := frozen_row HR2c.out 0
    have f1 := frozen_row HR2c.out 1
    have g0 := HR2c.out.cell (i := 0) rfl
    have g1 := HR2c.out.cell (i := 1) rfl
    clear ho4 hb4 e1 HCl
    go_wp2_with fail
    have HX := Lib.hid ((((⟨⟨HO.out.1, own_less (owns_below HO.out.2 HB4.out) (show w.heap.size + 1 + 1 + 1 ≤ W2.heap.size from HR2'.out.lt)⟩, own_less HO4.out (show w.heap.size + 1 + 1 + 1 ≤ W3.heap.size from HR2b.out.lt)⟩ : CNew W4 (w.heap.size + 1 + 1 + 1) (.slice A3 l'.length n3) (.slice A4 c.rs.length n4) ⟨l', c.rs⟩).setCell ⟨w.heap.size + 1 + 1, 0, none⟩ (Nat.lt_succ_self _) (.slice A3 l'.length n3)).setCell ⟨w.heap.size + 1 + 1, 1, none⟩ (Nat.lt_succ_self _) (.slice A4 c.rs.length n4)).less (base' := w.heap.size) (by omega))
    refine bodyPost_ret (results_ct rfl rfl ((HR2c.out.set 0 _).set 1 _) Try.underlying27 rfl (by kernel_rfl) rfl) rfl ?_
    refine ⟨_, _, rfl, ?_, ((nextB HB13.out (Nat.le_refl _) HB4.out).setCell (by simp; omega) _).setCell (by simp; omega) _⟩
    have e2 := setL_is HV.out.2.2.2.1 ⟨o.id, o.ky, false⟩ rfl
    rw [show (⟨o.id, o.ky, false⟩ : Mb).id = o.id from rfl, Hp.out, Hth.out] at e2
    rw [← e2]
    simp only [Bool.false_eq_true, if_false, Nat.add_zero, if_true]
    rw [Hl'.out]
    exact HX.out
  · simp only [if_true] at HS
    go_wp2_with (first
      | (show wpList _ _ _ (⟨some 32, _, _, _, _, _⟩ :: _) _ _
         refine QB.wpList_ld 43 rfl rfl HLK.out rfl ?_
         clear HLK
         refine wpList_bp rfl 83 #[(0, .tmp 30), (1, .tmp 32)] rfl (ps := #[(0, .int .i64 o.id), (1, arr8 o.ky)]) (by kernel_rfl) HBM.out ?_
         clear HBM)
      | fail)
    refine HS.out.mono ?_
    rintro e W3 ⟨v1, rfl, ho, hb3⟩
    obtain ⟨l', hl'⟩ : ∃ l', c.ps.take p ++ [⟨o.id, o.ky, false⟩] ++ c.ps.drop (p + 1) = l' := ⟨_, rfl⟩
    rw [hl'] at ho
    have Hl' := Lib.hid hl'
    clear hl'
    obtain ⟨A3, n3, rfl, _⟩ := ho.tab.2.shape
    have HO := Lib.hid ho
    have HB3 := Lib.hid hb3
    have e1 := (HR0'.out.below hb3 HR0'.out.lt).cell (i := 1) rfl
    have HR2b := Lib.hid (HR2'.out.below hb3 HR2'.out.lt)
    have HB13 := Lib.hid (show Below w.heap.size w W3 from nextB HB12.out (Nat.le_refl _) hb3)
    have HCl := Lib.hid (clone2_any (w := W3) (B := B) (HC.out.2.below (HB13.out.mono HBw.out)) (by have := HV.out.2.1; omega))
    clear ho hb3 d0 d1 di HS
    go_wp2_with fail
    refine HCl.out.mono ?_
    rintro e W4 ⟨v2, rfl, ho4, hb4⟩
    obtain ⟨A4, n4, rfl, _⟩ := (show Tab 3 W4 W4.heap.size v2 c.rs.length (rcs c.rs) from ho4.tab).shape
    have HO4 := Lib.hid ho4
    have HB4 := Lib.hid hb4
    have HR2c := Lib.hid (HR2b.out.below hb4 HR2b.out.lt)
    have f0 := frozen_row HR2c.out 0
    have f1 := frozen_row HR2c.out 1
    have g0 := HR2c.out.cell (i := 0) rfl
    have g1 := HR2c.out.cell (i := 1) rfl
    clear ho4 hb4 e1 HCl
    go_wp2_with fail
    have HX := Lib.hid ((((⟨⟨HO.out.1, own_less (owns_below HO.out.2 HB4.out) (show w.heap.size + 1 + 1 + 1 ≤ W2.heap.size from HR2'.out.lt)⟩, own_less HO4.out (show w.heap.size + 1 + 1 + 1 ≤ W3.heap.size from HR2b.out.lt)⟩ : CNew W4 (w.heap.size + 1 + 1 + 1) (.slice A3 l'.length n3) (.slice A4 c.rs.length n4) ⟨l', c.rs⟩).setCell ⟨w.heap.size + 1 + 1, 0, none⟩ (Nat.lt_succ_self _) (.slice A3 l'.length n3)).setCell ⟨w.heap.size + 1 + 1, 1, none⟩ (Nat.lt_succ_self _) (.slice A4 c.rs.length n4)).less (base' := w.heap.size) (by omega))
    refine bodyPost_ret (results_ct rfl rfl ((HR2c.out.set 0 _).set 1 _) Try.underlying27 rfl (by kernel_rfl) rfl) rfl ?_
    refine ⟨_, _, rfl, ?_, ((nextB HB13.out (Nat.le_refl _) HB4.out).setCell (by simp; omega) _).setCell (by simp; omega) _⟩
    have e2 := setL_is HV.out.2.2.2.1 ⟨o.id, o.ky, false⟩ rfl
    rw [show (⟨o.id, o.ky, false⟩ : Mb).id = o.id from rfl, Hp.out, Hth.out] at e2
    rw [← e2]
    simp only [Bool.false_eq_true, if_false, Nat.add_zero, if_true]
    rw [Hl'.out]
    exact HX.out
end Go.Proofs.Ytlphmbefcbhhpaa.Cfg
