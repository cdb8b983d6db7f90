/- config: block. -/
import Derived.Test.YtlphmbefcbhhpaaCfgSetRoute
import Derived.Test.YtlphmbefcbhhpaaCfgDo
namespace Go.Proofs.Ytlphmbefcbhhpaa.Cfg
open Go.RowKit
def ownMM (base : Nat) (l : List Mb) : By.Mark Grew := ⟨fun v w => OwnM w base v l, fun _ _ _ h k => ⟨h.1, owns_below h.2 k⟩⟩
def ownRM (base : Nat) (l : List Rt) : By.Mark Grew := ⟨fun v w => OwnR w base v l, fun _ _ _ h k => owns_below (show World.ownsRow _ _ _ _ _ _ _ from h) k⟩
theorem OwnR.shape {w : World} {base : Nat} {v : Value} {l : List Rt} (h : OwnR w base v l) : ∃ A n, v = .slice A l.length n := by
  obtain ⟨A, n, e, _⟩ := (show Tab 3 w w.heap.size v l.length (rcs l) from h.tab).shape
  exact ⟨A, n, e⟩
theorem OwnM.shape {w : World} {base : Nat} {v : Value} {l : List Mb} (h : OwnM w base v l) : ∃ A n, v = .slice A l.length n := by
  obtain ⟨A, n, e, _⟩ := h.tab.2.shape
  exact ⟨A, n, e⟩
theorem OwnR.less {w : World} {base base' : Nat} {v : Value} {l : List Rt} (h : OwnR w base v l) (hb : base' ≤ base) : OwnR w base' v l := own_less (show World.ownsRow _ _ _ _ _ _ _ from h) hb
theorem OwnM.less {w : World} {base base' : Nat} {v : Value} {l : List Mb} (h : OwnM w base v l) (hb : base' ≤ base) : OwnM w base' v l := ⟨h.1, own_less h.2 hb⟩
def delR (l : List Rt) (k : Ky) : List Rt := lo Rt.key k l ++ hi Rt.key k l
theorem delR_is {l : List Rt} (hO : Ord Rt.key l) {k : Ky} (hh : has Rt.key k l = true) : l.take (pos Rt.key k l) ++ [] ++ l.drop (pos Rt.key k l + 1) = delR l k := by
  unfold delR
  have := drop_pos (key := Rt.key) k hO
  rw [hh, if_pos rfl] at this
  rw [take_pos _ hO, this, List.append_nil]
def delM (l : List Mb) (k : Ky) : List Mb := lo Mb.key k l ++ hi Mb.key k l
theorem delM_is {l : List Mb} (hO : Ord Mb.key l) {k : Ky} (hh : has Mb.key k l = true) : l.take (pos Mb.key k l) ++ [] ++ l.drop (pos Mb.key k l + 1) = delM l k := by
  unfold delM
  have := drop_pos (key := Mb.key) k hO
  rw [hh, if_pos rfl] at this
  rw [take_pos _ hO, this, List.append_nil]
set_option maxRecDepth 100000 in
set_option maxHeartbeats 2000000 in
theorem block_none {w : World} {B : Nat} {vp vr : Value} {c : Cf} {o : Opn} (h : CAt w B vp vr c) (hV : Val c) (hk : o.ky.length = 32) (hth : has Rt.key (o.addr, o.bits) c.rs = false) (hB : B ≤ w.heap.size) :
    Calls Try.prog 145 #[.agg #[vp, vr], o.val] w fun e w' => e = .returned (.tuple #[zcfg, .int .i64 6]) ∧ Below w.heap.size w w' := by
  obtain ⟨A1, n1, A2, n2, rfl, rfl⟩ := h.shape
  obtain ⟨W1, hW1⟩ : ∃ W1, ((w.alloc (.cells #[.slice A1 c.ps.length n1, .slice A2 c.rs.length n2] 27)).alloc (.cells o.cs.toArray 45)).alloc (.cells #[.slice none 0 0, .slice none 0 0] 27) = W1 := ⟨_, rfl⟩
  have hb1 : Below w.heap.size w W1 := hW1 ▸ (((Below.refl _ w).alloc (Nat.le_refl _) _).alloc (by simp) _).alloc (by simp; omega) _
  have hr0 : Row W1 w.heap.size [.slice A1 c.ps.length n1, .slice A2 c.rs.length n2] 27 := hW1 ▸ ((Row.new rfl rfl : Row (w.alloc (.cells #[.slice A1 c.ps.length n1, .slice A2 c.rs.length n2] 27)) w.heap.size [.slice A1 c.ps.length n1, .slice A2 c.rs.length n2] 27).alloc _).alloc _
  have hr1 : Row W1 (w.heap.size + 1) o.cs 45 := hW1 ▸ (Row.new (by simp) rfl : Row ((w.alloc (.cells #[.slice A1 c.ps.length n1, .slice A2 c.rs.length n2] 27)).alloc (.cells o.cs.toArray 45)) (w.heap.size + 1) o.cs 45).alloc _
  have hr2 : Row W1 (w.heap.size + 1 + 1) [.slice none 0 0, .slice none 0 0] 27 := hW1 ▸ Row.new (by simp) rfl
  have c0 := hr0.cell (i := 0) rfl
  have c1 := hr0.cell (i := 1) rfl
  have ci := hr1.cell (i := 2) rfl
  have ca := hr1.cell (i := 35) (Opn.at35 hk)
  have cb := hr1.cell (i := 36) (Opn.at36 hk)
  have HR0 := Lib.hid hr0
  have HR1 := Lib.hid hr1
  have HR2 := Lib.hid hr2
  have HB1 := Lib.hid hb1
  have HC := Lib.hid h
  have Hk := Lib.hid hk
  have HV := Lib.hid hV
  have HBw := Lib.hid hB
  have HAt := Lib.hid (At2_any (w := W1) (B := B) (vp := .slice A1 c.ps.length n1) (vr := .slice A2 c.rs.length n2) (RTab.below h.2 (hb1.mono hB)) (by have := hV.2.1; omega) hV.2.2.2.2.2 rfl rfl o.addr o.bits (Nat.le_trans hB hb1.size))
  obtain ⟨p, hp⟩ : ∃ p, pos Rt.key (o.addr, o.bits) c.rs = p := ⟨_, rfl⟩
  rw [hp, hth] at HAt
  clear h hV hk hB hb1 hr0 hr1 hr2 hp hth
  unfold Opn.val
  go_enter Try.func145, Try.ntmps145
  go_wp2_with fail
  refine HAt.out.mono ?_
  rintro e W2 ⟨rfl, hb⟩
  have HR0' := Lib.hid (HR0.out.below hb HR0.out.lt)
  have HR1' := Lib.hid (HR1.out.below hb HR1.out.lt)
  have HR2' := Lib.hid (HR2.out.below hb HR2.out.lt)
  have HB12 := Lib.hid (show Below w.heap.size w W2 from nextB HB1.out (Nat.le_refl _) hb)
  have d0 := HR0'.out.cell (i := 0) rfl
  have d1 := HR0'.out.cell (i := 1) rfl
  have di := HR1'.out.cell (i := 2) rfl
  have da := HR1'.out.cell (i := 35) (Opn.at35 Hk.out)
  have db := HR1'.out.cell (i := 36) (Opn.at36 Hk.out)
  clear hb c0 c1 ci ca cb hW1
  clear HAt HC HV Hk
  have f0 := frozen_row HR2'.out 0
  have f1 := frozen_row HR2'.out 1
  have g0 := HR2'.out.cell (i := 0) rfl
  have g1 := HR2'.out.cell (i := 1) rfl
  go_wp2_with fail
  refine bodyPost_ret (results_ct rfl rfl ((HR2'.out.set 0 _).set 1 _) Try.underlying27 rfl (by kernel_rfl) rfl) rfl ?_
  exact ⟨rfl, (HB12.out.setCell (by simp; omega) _).setCell (by simp; omega) _⟩
set_option maxRecDepth 100000 in
set_option maxHeartbeats 4000000 in
theorem block_ok {w : World} {B : Nat} {vp vr : Value} {c : Cf} {o : Opn} (h : CAt w B vp vr c) (hV : Val c) (hk : o.ky.length = 32) (hth : has Rt.key (o.addr, o.bits) c.rs = true) (hB : B ≤ w.heap.size) :
    Calls Try.prog 145 #[.agg #[vp, vr], o.val] w fun e w' => ∃ v1 v2, e = .returned (.tuple #[.agg #[v1, v2], .int .i64 0]) ∧ CNew w' w.heap.size v1 v2 ⟨c.ps, delR c.rs (o.addr, o.bits)⟩ ∧ Below w.heap.size w w' := by
  rw [← delR_is hV.2.2.2.2.2 hth]
  obtain ⟨A1, n1, A2, n2, rfl, rfl⟩ := h.shape
  obtain ⟨W1, hW1⟩ : ∃ W1, ((w.alloc (.cells #[.slice A1 c.ps.length n1, .slice A2 c.rs.length n2] 27)).alloc (.cells o.cs.toArray 45)).alloc (.cells #[.slice none 0 0, .slice none 0 0] 27) = W1 := ⟨_, rfl⟩
  have hb1 : Below w.heap.size w W1 := hW1 ▸ (((Below.refl _ w).alloc (Nat.le_refl _) _).alloc (by simp) _).alloc (by simp; omega) _
  have hr0 : Row W1 w.heap.size [.slice A1 c.ps.length n1, .slice A2 c.rs.length n2] 27 := hW1 ▸ ((Row.new rfl rfl : Row (w.alloc (.cells #[.slice A1 c.ps.length n1, .slice A2 c.rs.length n2] 27)) w.heap.size [.slice A1 c.ps.length n1, .slice A2 c.rs.length n2] 27).alloc _).alloc _
  have hr1 : Row W1 (w.heap.size + 1) o.cs 45 := hW1 ▸ (Row.new (by simp) rfl : Row ((w.alloc (.cells #[.slice A1 c.ps.length n1, .slice A2 c.rs.length n2] 27)).alloc (.cells o.cs.toArray 45)) (w.heap.size + 1) o.cs 45).alloc _
  have hr2 : Row W1 (w.heap.size + 1 + 1) [.slice none 0 0, .slice none 0 0] 27 := hW1 ▸ Row.new (by simp) rfl
  have c0 := hr0.cell (i := 0) rfl
  have c1 := hr0.cell (i := 1) rfl
  have ci := hr1.cell (i := 2) rfl
  have ca := hr1.cell (i := 35) (Opn.at35 hk)
  have cb := hr1.cell (i := 36) (Opn.at36 hk)
  have HR0 := Lib.hid hr0
  have HR1 := Lib.hid hr1
  have HR2 := Lib.hid hr2
  have HB1 := Lib.hid hb1
  have HC := Lib.hid h
  have Hk := Lib.hid hk
  have HV := Lib.hid hV
  have HBw := Lib.hid hB
  have HAt := Lib.hid (At2_any (w := W1) (B := B) (vp := .slice A1 c.ps.length n1) (vr := .slice A2 c.rs.length n2) (RTab.below h.2 (hb1.mono hB)) (by have := hV.2.1; omega) hV.2.2.2.2.2 rfl rfl o.addr o.bits (Nat.le_trans hB hb1.size))
  obtain ⟨p, hp⟩ : ∃ p, pos Rt.key (o.addr, o.bits) c.rs = p := ⟨_, rfl⟩
  rw [hp, hth] at HAt
  have HPL := Lib.hid (show p + 1 ≤ c.rs.length by have := pos_fitR hV.2.2.2.2.2 (o.addr, o.bits); rw [hp, hth, if_pos rfl] at this; exact this)
  rw [hp]
  obtain ⟨L', hL'⟩ : ∃ L', c.rs.take p ++ [] ++ c.rs.drop (p + 1) = L' := ⟨_, rfl⟩
  rw [hL']
  have HL' := Lib.hid hL'
  clear h hV hk hB hb1 hr0 hr1 hr2 hp hth hL'
  unfold Opn.val
  go_enter Try.func145, Try.ntmps145
  go_wp2_with fail
  refine HAt.out.mono ?_
  rintro e W2 ⟨rfl, hb⟩
  have HR0' := Lib.hid (HR0.out.below hb HR0.out.lt)
  have HR1' := Lib.hid (HR1.out.below hb HR1.out.lt)
  have HR2' := Lib.hid (HR2.out.below hb HR2.out.lt)
  have HB12 := Lib.hid (show Below w.heap.size w W2 from nextB HB1.out (Nat.le_refl _) hb)
  have d0 := HR0'.out.cell (i := 0) rfl
  have d1 := HR0'.out.cell (i := 1) rfl
  have di := HR1'.out.cell (i := 2) rfl
  have da := HR1'.out.cell (i := 35) (Opn.at35 Hk.out)
  have db := HR1'.out.cell (i := 36) (Opn.at36 Hk.out)
  clear hb c0 c1 ci ca cb hW1
  go_wp2_with fail
  obtain ⟨g0, hg0⟩ : ∃ g, w.heap.size = g := ⟨_, rfl⟩
  obtain ⟨g1, hg1⟩ : ∃ g, w.heap.size + 1 = g := ⟨_, rfl⟩
  obtain ⟨g2, hg2⟩ : ∃ g, w.heap.size + 1 + 1 = g := ⟨_, rfl⟩
  have HG2 := Lib.hid hg2
  have HRo := Lib.hid (show Row W2 g1 o.cs 45 from hg1 ▸ HR1'.out)
  have HRc := Lib.hid (show Row W2 g0 [.slice A1 c.ps.length n1, .slice A2 c.rs.length n2] 27 from hg0 ▸ HR0'.out)
  have HRr := Lib.hid (show Row W2 g2 [.slice none 0 0, .slice none 0 0] 27 from hg2 ▸ HR2'.out)
  have F0 := Lib.hid (fun w' (h : Below W2.heap.size W2 w') => (HRc.out.below h HRc.out.lt).cell (i := 0) rfl)
  have F1 := Lib.hid (fun w' (h : Below W2.heap.size W2 w') => (HRc.out.below h HRc.out.lt).cell (i := 1) rfl)
  have HT := Lib.hid (fun w' (h : Below W2.heap.size W2 w') => show CAt w' B (.slice A1 c.ps.length n1) (.slice A2 c.rs.length n2) c from HC.out.below ((nextB HB12.out (Nat.le_refl _) h).mono HBw.out))
  have HN := Lib.hid (show c.ps.length ≤ 64 ∧ c.rs.length ≤ 256 ∧ p + 1 ≤ c.rs.length from ⟨HV.out.1, HV.out.2.1, HPL.out⟩)
  have HBs := Lib.hid (Nat.le_trans HBw.out HB12.out.size)
  have hw1 : IntKind.i64.wrap ((p : Int) + 1) = ((p + 1 : Nat) : Int) := by rw [IntWalk.i64_in _ (by have := HN.out; omega)]; omega
  rw [hg2, hg1, hg0]
  clear hg0 hg1 hg2 d0 d1 di da db HAt
  refine Tail.marksAt mixed 10 Grew [By.is (.pointer (some ⟨g0, 0, none⟩)),
    By.is (.slice A1 c.ps.length n1),
    ownMM W2.heap.size c.ps,
    By.is (.pointer (some ⟨g0, 1, none⟩)),
    By.is (.slice A2 c.rs.length n2),
    By.is (.int .i64 (p : Int)),
    By.is (.int .i64 (p : Int)),
    By.is (.int .i64 ((p + 1 : Nat) : Int)),
    ownRM W2.heap.size L',
    aggM (fun w v1 v2 => CNew w W2.heap.size v1 v2 ⟨c.ps, L'⟩) (res_new _ _)]
    (Ev.masks _ []) (Nat.zero_lt_succ _) (by kernel_rfl) (by kernel_rfl) rfl Grew.refl Grew.trans ⟨?_, ?_, ?_, ?_, ?_, ?_, ?_, ?_, ?_, ?_, trivial⟩ ?_
  · intro a w' ht hs hg -- 20
    have h2 := By.same_get hs 2 (by decide) (by kernel_rfl)
    refine By.yes rfl ?_
    clear hs hg
    go_simp
    exact ⟨_, rfl, Grew.refl _, rfl⟩
  · intro a w' ht hs hg -- 21
    have h0 : a.tmps.getD 20 undef = _ := By.given_get hg 0 rfl rfl (by kernel_rfl)
    refine By.yes rfl ?_
    clear hs hg
    have hc := F0.out w' ⟨ht.os, ht.tape, ht.output, ht.size, ht.block⟩
    go_simp
    exact ⟨_, rfl, Grew.refl _, rfl⟩
  · intro a w' ht hs hg -- 22
    have h21 : a.tmps.getD 21 undef = _ := By.given_get hg 1 rfl rfl (by kernel_rfl)
    refine By.yes rfl ?_
    clear hs hg
    have hb : Below W2.heap.size W2 w' := ⟨ht.os, ht.tape, ht.output, ht.size, ht.block⟩
    have HCl := Lib.hid (clone1_any (w := w') (B := B) (HT.out w' hb).1 (by have := HN.out; omega))
    have Hs := Lib.hid hb.size
    clear hb
    go_simp
    refine HCl.out.mono ?_
    rintro e w2 ⟨v', rfl, ho, hb2⟩
    exact ⟨_, rfl, hb2, ho.less Hs.out⟩
  · intro a w' ht hs hg -- 23
    have h2 := By.same_get hs 2 (by decide) (by kernel_rfl)
    refine By.yes rfl ?_
    clear hs hg
    go_simp
    exact ⟨_, rfl, Grew.refl _, rfl⟩
  · intro a w' ht hs hg -- 24
    have h0 : a.tmps.getD 23 undef = _ := By.given_get hg 3 rfl rfl (by kernel_rfl)
    refine By.yes rfl ?_
    clear hs hg
    have hc := F1.out w' ⟨ht.os, ht.tape, ht.output, ht.size, ht.block⟩
    go_simp
    exact ⟨_, rfl, Grew.refl _, rfl⟩
  · intro a w' ht hs hg -- 25
    have h6 := By.same_get hs 6 (by decide) (by kernel_rfl)
    refine By.yes rfl ?_
    clear hs hg
    go_simp
    exact ⟨_, rfl, Grew.refl _, rfl⟩
  · intro a w' ht hs hg -- 26
    have h6 := By.same_get hs 6 (by decide) (by kernel_rfl)
    refine By.yes rfl ?_
    clear hs hg
    go_simp
    exact ⟨_, rfl, Grew.refl _, rfl⟩
  · intro a w' ht hs hg -- 27
    have h26 : a.tmps.getD 26 undef = _ := By.given_get hg 6 rfl rfl (by kernel_rfl)
    refine By.yes rfl ?_
    clear hs hg
    go_simp
    first
      | exact ⟨_, rfl, Grew.refl _, rfl⟩
      | (rw [hw1]; exact ⟨_, rfl, Grew.refl _, rfl⟩)
  · intro a w' ht hs hg -- 28
    have h24 : a.tmps.getD 24 undef = _ := By.given_get hg 4 rfl rfl (by kernel_rfl)
    have h25 : a.tmps.getD 25 undef = _ := By.given_get hg 5 rfl rfl (by kernel_rfl)
    have h27 : a.tmps.getD 27 undef = _ := By.given_get hg 7 rfl rfl (by kernel_rfl)
    refine By.yes rfl ?_
    clear hs hg
    have hb : Below W2.heap.size W2 w' := ⟨ht.os, ht.tape, ht.output, ht.size, ht.block⟩
    have HP := Lib.hid (put2_any (w := w') (B := B) (vx := .slice none 0 0) (x := []) (a := p) (b := p + 1) (HT.out w' hb).2 (show RTab w' B (.slice none 0 0) [] from Tab.nil 3 w' B _ _) (by have := HN.out; omega) (by simp) (by omega) (by have := HN.out; omega) (Nat.le_trans HBs.out hb.size))
    have Hs := Lib.hid hb.size
    clear hb
    go_simp
    refine HP.out.mono ?_
    rintro e w2 ⟨v', rfl, ho, hb2⟩
    rw [HL'.out] at ho
    exact ⟨_, rfl, hb2, ho.less Hs.out⟩
  · intro a w' ht hs hg -- 29
    have h22 := By.given_get hg 2 rfl rfl (by kernel_rfl)
    obtain ⟨v22, hv22⟩ : ∃ v, a.tmps.getD 22 undef = v := ⟨_, rfl⟩
    replace h22 := (congrArg (fun v => ((ownMM W2.heap.size c.ps)).on v w') hv22).mp h22
    have h28 := By.given_get hg 8 rfl rfl (by kernel_rfl)
    obtain ⟨v28, hv28⟩ : ∃ v, a.tmps.getD 28 undef = v := ⟨_, rfl⟩
    replace h28 := (congrArg (fun v => ((ownRM W2.heap.size L')).on v w') hv28).mp h28
    refine By.yes rfl ?_
    clear hs hg
    have h22' : OwnM w' W2.heap.size v22 c.ps := h22
    have h28' : OwnR w' W2.heap.size v28 L' := h28
    clear h22 h28
    obtain ⟨A3, n3, rfl⟩ := h22'.shape
    obtain ⟨A4, n4, rfl⟩ := h28'.shape
    have HM := Lib.hid h22'
    have HR := Lib.hid h28'
    clear h22' h28'
    have e22 := (Array.getD_eq_getD_getElem? ..).symm.trans hv22
    have e28 := (Array.getD_eq_getD_getElem? ..).symm.trans hv28
    go_simp
    exact ⟨_, rfl, Grew.refl _, ⟨_, _, rfl, ⟨HM.out, HR.out⟩⟩⟩
  refine By.ends_is (By.ends_is (By.ends_skip fun v22 => (By.ends_is (By.ends_is (By.ends_is (By.ends_is (By.ends_is (By.ends_skip fun v28 => (By.ends_any fun v29 => (By.ends_nil fun W9 hw9 => ?_))))))))))
  simp only [Act.put, List.setIfInBounds_toArray, List.set_cons_succ, List.set_cons_zero]
  simp only [List.drop_succ_cons, List.drop_zero]
  obtain ⟨hw9, hl9⟩ := hw9
  obtain ⟨v1, v2, rfl, hr⟩ := (show ∃ v1 v2, v29 = .agg #[v1, v2] ∧ CNew W9 W2.heap.size v1 v2 ⟨c.ps, L'⟩ from hl9)
  have hb9 : Below W2.heap.size W2 W9 := ⟨hw9.os, hw9.tape, hw9.output, hw9.size, hw9.block⟩
  have HB9 := Lib.hid (show Below w.heap.size w W9 from nextB HB12.out (Nat.le_refl _) hb9)
  have HR9 := Lib.hid (HRr.out.below hb9 HRr.out.lt)
  have Hres := Lib.hid ((hr.setRow (g := g2) (show g2 < W2.heap.size from HRr.out.lt) #[v1, v2]).less (base' := w.heap.size) HB12.out.size)
  have H1 := Lib.hid hr.one
  clear hw9 hl9 hr hb9
  refine wpList_storeRow rfl 27 (.tmp 4) (.tmp 29) rfl rfl (cs := [v1, v2]) rfl HR9.out (by kernel_rfl) rfl rfl (by intro v hv; simp only [List.mem_cons, List.not_mem_nil, or_false] at hv; rcases hv with rfl | rfl; exact H1.out.1; exact H1.out.2) ?_
  go_wp2
  refine bodyPost_ret (results_ct rfl rfl (HR9.out.setRow [v1, v2]) Try.underlying27 rfl (by kernel_rfl) rfl) rfl ?_
  exact ⟨v1, v2, rfl, Hres.out, below_setRow HB9.out (by have := HG2.out; omega) _⟩
end Go.Proofs.Ytlphmbefcbhhpaa.Cfg
