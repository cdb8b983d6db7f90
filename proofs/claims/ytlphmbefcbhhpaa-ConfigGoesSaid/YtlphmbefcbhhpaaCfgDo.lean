/- config: Do. -/
import Derived.Test.YtlphmbefcbhhpaaCfgSetPeer
import Derived.Test.YtlphmbefcbhhpaaCfgDeeds
import Derived.Test.YtlphmbefcbhhpaaTail
namespace Go.Proofs.Ytlphmbefcbhhpaa.Cfg
open Go.RowKit
theorem wp_ld {P : Program} {o : Oper} {a : Act} {w : World} {K : Act → World → Prop} {Q : Exit → Act → World → Prop} (ty : TypeId) {x : Operand} {ad : Addr} {v : Value} (ho : o.op = .load ty x) (hx : a.eval x = .pointer (some ad)) (hrun : (loadVar ty ad).run P w = .ok v w) (hk : K (a.put o.dst v) w) : o.wp P a w K Q := by
  unfold Oper.wp execOp
  simp only [ho, hx, Instr.loadAt, Instr.sureAddr, Sem.run_bind, Sem.run_pure, Result.andThen_ok, hrun]
  exact hk
def mapM (B : Nat) : By.Mark Grew := ⟨fun v w => ∃ r, v = .map (some r) ∧ B ≤ r ∧ w.heap[r]? = some deedsObj, fun _ _ _ ⟨r, h1, h2, h3⟩ k => ⟨r, h1, h2, by rw [k.block r (Array.getElem?_eq_some_iff.1 h3).1]; exact h3⟩⟩
/-- What a deed answers: stays as the memory grows. -/
structure Res (R : World → Value → Value → Prop) : Prop where
  grew : ∀ x y v1 v2, R x v1 v2 → Grew x y → R y v1 v2
  one : ∀ x v1 v2, R x v1 v2 → v1.oneCell' = true ∧ v2.oneCell' = true
def resM (R : World → Value → Value → Prop) (hR : Res R) (E : Int) : By.Mark Grew := ⟨fun v w => ∃ v1 v2, v = .tuple #[.agg #[v1, v2], .int .i64 E] ∧ R w v1 v2, fun _ _ _ ⟨v1, v2, h1, h2⟩ k => ⟨v1, v2, h1, hR.grew _ _ _ _ h2 k⟩⟩
def aggM (R : World → Value → Value → Prop) (hR : Res R) : By.Mark Grew := ⟨fun v w => ∃ v1 v2, v = .agg #[v1, v2] ∧ R w v1 v2, fun _ _ _ ⟨v1, v2, h1, h2⟩ k => ⟨v1, v2, h1, hR.grew _ _ _ _ h2 k⟩⟩

set_option maxRecDepth 100000 in
set_option maxHeartbeats 4000000 in
theorem Do_1 {w : World} {B : Nat} {vp vr : Value} {c : Cf} {o : Opn} (h : CAt w B vp vr c) (hV : Val c) (hk : o.ky.length = 32) (hkind : o.kind = 1) (hok : okO o = true) (hB : B ≤ w.heap.size) (E : Int) (R : World → Value → Value → Prop) (hR : Res R)
    (hst : ∀ (x : World) (u1 u2 v1 v2 : Value), R x v1 v2 → R (x.setRow (w.heap.size + 1 + 1) #[u1, u2]) v1 v2)
    (hd : ∀ W, Below w.heap.size w W → w.heap.size + 1 + 1 < W.heap.size → Calls Try.prog 141 #[.agg #[vp, vr], o.val] W fun e w' => ∃ v1 v2, e = .returned (.tuple #[.agg #[v1, v2], .int .i64 E]) ∧ R w' v1 v2 ∧ Below W.heap.size W w') :
    Calls Try.prog 34 #[.agg #[vp, vr], o.val] w fun e w' => ∃ v1 v2, e = .returned (.tuple #[.agg #[v1, v2], .int .i64 E]) ∧ R w' v1 v2 ∧ Below w.heap.size w w' := by
  obtain ⟨A1, n1, A2, n2, rfl, rfl⟩ := h.shape
  obtain ⟨W1, hW1⟩ : ∃ W1, ((w.alloc (.cells #[.slice A1 c.ps.length n1, .slice A2 c.rs.length n2] 27)).alloc (.cells o.cs.toArray 45)).alloc (.cells #[.slice none 0 0, .slice none 0 0] 27) = W1 := ⟨_, rfl⟩
  have hb1 : Below w.heap.size w W1 := hW1 ▸ (((Below.refl _ w).alloc (Nat.le_refl _) _).alloc (by simp) _).alloc (by simp; omega) _
  have hr0 : Row W1 w.heap.size [.slice A1 c.ps.length n1, .slice A2 c.rs.length n2] 27 := hW1 ▸ ((Row.new rfl rfl : Row (w.alloc (.cells #[.slice A1 c.ps.length n1, .slice A2 c.rs.length n2] 27)) w.heap.size [.slice A1 c.ps.length n1, .slice A2 c.rs.length n2] 27).alloc _).alloc _
  have hr1 : Row W1 (w.heap.size + 1) o.cs 45 := hW1 ▸ (Row.new (by simp) rfl : Row ((w.alloc (.cells #[.slice A1 c.ps.length n1, .slice A2 c.rs.length n2] 27)).alloc (.cells o.cs.toArray 45)) (w.heap.size + 1) o.cs 45).alloc _
  have hr2 : Row W1 (w.heap.size + 1 + 1) [.slice none 0 0, .slice none 0 0] 27 := hW1 ▸ Row.new (by simp) rfl
  have c0 := hr0.cell (i := 0) rfl
  have c1 := hr0.cell (i := 1) rfl
  have HR0 := Lib.hid hr0
  have HR1 := Lib.hid hr1
  have HR2 := Lib.hid hr2
  have HB1 := Lib.hid hb1
  have HC := Lib.hid h
  have Hk := Lib.hid hk
  have HBw := Lib.hid hB
  have HCh := Lib.hid (Check_any (w := W1) (B := B) (h.below (hb1.mono hB)) (Nat.le_trans hB hb1.size))
  have HD0 := Lib.hid hd
  have Hst := Lib.hid hst
  have HKIND := Lib.hid hkind
  have Hok := Lib.hid (show checkOpZ o = 0 from if_pos hok)
  rw [show checkZ c = 0 from if_pos hV] at HCh
  clear h hV hk hB hb1 hr0 hr1 hr2 hd hst hkind hok
  unfold Opn.val
  go_enter Try.func34, Try.ntmps34
  go_wp2_with fail
  refine HCh.out.mono ?_
  rintro e W2 ⟨rfl, hb⟩
  have HB12 := Lib.hid (show Below w.heap.size w W2 from nextB HB1.out (Nat.le_refl _) hb)
  have HR0' := Lib.hid (HR0.out.below hb HR0.out.lt)
  have HR1' := Lib.hid (HR1.out.below hb HR1.out.lt)
  have HR2' := Lib.hid (HR2.out.below hb HR2.out.lt)
  have HLO := Lib.hid (l_op HR1'.out Hk.out)
  have HCO := Lib.hid (CheckOp_any o Hk.out W2)
  rw [Hok.out] at HCO
  clear hb c0 c1 hW1 HCh
  go_wp2_with (first
    | (show wpList _ _ _ (⟨some 14, _, _, _, _, _⟩ :: _) _ _
       refine QB.wpList_ld 45 rfl rfl HLO.out rfl ?_
       clear HLO)
    | fail)
  refine HCO.out.mono ?_
  rintro e W3 ⟨rfl, hb⟩
  have HB13 := Lib.hid (show Below w.heap.size w W3 from nextB HB12.out (Nat.le_refl _) hb)
  have HR0b := Lib.hid (HR0'.out.below hb HR0'.out.lt)
  have HR1b := Lib.hid (HR1'.out.below hb HR1'.out.lt)
  have HR2b := Lib.hid (HR2'.out.below hb HR2'.out.lt)
  clear hb HCO
  go_wp2_with fail
  obtain ⟨g0, hg0⟩ : ∃ g, w.heap.size = g := ⟨_, rfl⟩
  obtain ⟨g1, hg1⟩ : ∃ g, w.heap.size + 1 = g := ⟨_, rfl⟩
  obtain ⟨g2, hg2⟩ : ∃ g, w.heap.size + 1 + 1 = g := ⟨_, rfl⟩
  have HG2 := Lib.hid hg2
  have HRo := Lib.hid (show Row W3 g1 o.cs 45 from hg1 ▸ HR1b.out)
  have HRc := Lib.hid (show Row W3 g0 [.slice A1 c.ps.length n1, .slice A2 c.rs.length n2] 27 from hg0 ▸ HR0b.out)
  have HRr := Lib.hid (show Row W3 g2 [.slice none 0 0, .slice none 0 0] 27 from hg2 ▸ HR2b.out)
  have FK := Lib.hid (fun w' (h : Below W3.heap.size W3 w') => (h.cell (p := ⟨g1, 0, none⟩) HRo.out.lt).trans ((HRo.out.cell (i := 0) rfl).trans (by rw [HKIND.out])))
  have FO := Lib.hid (fun w' (h : Below W3.heap.size W3 w') => l_op (HRo.out.below h HRo.out.lt) Hk.out)
  have FC := Lib.hid (fun w' (h : Below W3.heap.size W3 w') => show (loadVar 27 ⟨g0, 0, none⟩).run Try.prog w' = .ok (.agg #[.slice A1 c.ps.length n1, .slice A2 c.rs.length n2]) w' from Pol.run_loadVar_sub (P := Try.prog) (off := 0) (n := 2) w' (HRc.out.below h HRc.out.lt) Try.underlying27 rfl (by kernel_rfl) (by simp))
  have HD := Lib.hid (fun w' (h : Below W3.heap.size W3 w') => HD0.out w' (nextB HB13.out (Nat.le_refl _) h) (by have := HRr.out.lt; have := h.size; omega))
  rw [hg2, hg1, hg0]
  clear hg0 hg1 hg2
  refine Tail.marksAt mixed 9 Grew [mapM W3.heap.size,
    By.is (.pointer (some ⟨g1, 0, none⟩)),
    By.is (.int .i64 1),
    By.is (.func (.func 141) #[] #[]),
    By.is (.agg #[.slice A1 c.ps.length n1, .slice A2 c.rs.length n2]),
    By.is o.val,
    resM R hR E,
    aggM R hR,
    By.is (.int .i64 E)]
    (Ev.masks _ []) (Nat.zero_lt_succ _) (by kernel_rfl) (by kernel_rfl) rfl Grew.refl Grew.trans ⟨?_, ?_, ?_, ?_, ?_, ?_, ?_, ?_, ?_, trivial⟩ ?_
  · intro a w ht hs hg -- 20
    refine By.yes rfl ?_
    clear hs hg
    have hs : W3.heap.size ≤ w.heap.size := ht.size
    go_simp
    refine (deeds_any w).mono ?_
    rintro e w' ⟨r, rfl, h1, h2, hb⟩
    exact ⟨_, rfl, hb, ⟨r, rfl, Nat.le_trans hs h1, h2⟩⟩
  · intro a w ht hs hg -- 21
    have h3 := By.same_get hs 3 (by decide) (by kernel_rfl)
    refine By.yes rfl ?_
    clear hs hg
    go_simp
    exact ⟨_, rfl, Grew.refl _, rfl⟩
  · intro a w ht hs hg -- 22
    have h21 : a.tmps.getD 21 undef = _ := By.given_get hg 1 rfl rfl (by kernel_rfl)
    refine By.yes rfl ?_
    clear hs hg
    have hc := FK.out w ⟨ht.os, ht.tape, ht.output, ht.size, ht.block⟩
    go_simp
    exact ⟨_, rfl, Grew.refl _, rfl⟩
  · intro a w ht hs hg -- 23
    have h20 := By.given_get hg 0 rfl rfl (by kernel_rfl)
    have h22 : a.tmps.getD 22 undef = _ := By.given_get hg 2 rfl rfl (by kernel_rfl)
    refine By.yes rfl ?_
    obtain ⟨v20, hv20⟩ : ∃ v, a.tmps.getD 20 undef = v := ⟨_, rfl⟩
    replace h20 := (congrArg (fun v => (mapM W3.heap.size).on v w) hv20).mp h20
    clear hs hg
    obtain ⟨r, rfl, _, hm⟩ := h20
    have hl := (deeds_get hm).1
    go_simp
    exact ⟨_, rfl, Grew.refl _, rfl⟩
  · intro a w ht hs hg -- 24
    have h2 := By.same_get hs 2 (by decide) (by kernel_rfl)
    refine By.yes rfl ?_
    clear hs hg
    refine wp_ld 27 rfl h2 (FC.out w ⟨ht.os, ht.tape, ht.output, ht.size, ht.block⟩) ?_
    exact ⟨_, rfl, Grew.refl _, rfl⟩
  · intro a w ht hs hg -- 25
    have h3 := By.same_get hs 3 (by decide) (by kernel_rfl)
    refine By.yes rfl ?_
    clear hs hg
    refine wp_ld 45 rfl h3 (FO.out w ⟨ht.os, ht.tape, ht.output, ht.size, ht.block⟩) ?_
    exact ⟨_, rfl, Grew.refl _, rfl⟩
  · intro a w ht hs hg -- 26
    have h23 : a.tmps.getD 23 undef = _ := By.given_get hg 3 rfl rfl (by kernel_rfl)
    have h24 : a.tmps.getD 24 undef = _ := By.given_get hg 4 rfl rfl (by kernel_rfl)
    have h25 : a.tmps.getD 25 undef = _ := By.given_get hg 5 rfl rfl (by kernel_rfl)
    refine By.yes rfl ?_
    clear hs hg
    have hd := HD.out w ⟨ht.os, ht.tape, ht.output, ht.size, ht.block⟩
    go_simp
    refine hd.mono ?_
    rintro e w' ⟨v1, v2, rfl, hr, hb⟩
    exact ⟨_, rfl, hb, ⟨v1, v2, rfl, hr⟩⟩
  · intro a w ht hs hg -- 27
    have h26 := By.given_get hg 6 rfl rfl (by kernel_rfl)
    refine By.yes rfl ?_
    obtain ⟨v26, hv26⟩ : ∃ v, a.tmps.getD 26 undef = v := ⟨_, rfl⟩
    replace h26 := (congrArg (fun v => (resM R hR E).on v w) hv26).mp h26
    clear hs hg
    obtain ⟨v1, v2, rfl, hr⟩ := h26
    have Hr := Lib.hid hr
    clear hr
    go_simp
    exact ⟨_, rfl, Grew.refl _, ⟨v1, v2, rfl, Hr.out⟩⟩
  · intro a w ht hs hg -- 28
    have h26 := By.given_get hg 6 rfl rfl (by kernel_rfl)
    refine By.yes rfl ?_
    obtain ⟨v26, hv26⟩ : ∃ v, a.tmps.getD 26 undef = v := ⟨_, rfl⟩
    replace h26 := (congrArg (fun v => (resM R hR E).on v w) hv26).mp h26
    clear hs hg
    obtain ⟨v1, v2, rfl, hr⟩ := h26
    clear hr
    go_simp
    exact ⟨_, rfl, Grew.refl _, rfl⟩
  refine By.ends_skip fun v20 => (By.ends_is (By.ends_is (By.ends_is (By.ends_is (By.ends_is (By.ends_skip fun v26 => (By.ends_any fun v27 => (By.ends_is (By.ends_nil fun W9 hw9 => ?_)))))))))
  simp only [Act.put, List.setIfInBounds_toArray, List.set_cons_succ, List.set_cons_zero]
  simp only [List.drop_succ_cons, List.drop_zero]
  obtain ⟨hw9, hl9⟩ := hw9
  obtain ⟨v1, v2, rfl, hr⟩ := (show ∃ v1 v2, v27 = .agg #[v1, v2] ∧ R W9 v1 v2 from hl9)
  have hb9 : Below W3.heap.size W3 W9 := ⟨hw9.os, hw9.tape, hw9.output, hw9.size, hw9.block⟩
  have HB9 := Lib.hid (show Below w.heap.size w W9 from nextB HB13.out (Nat.le_refl _) hb9)
  have HR9 := Lib.hid (HRr.out.below hb9 HRr.out.lt)
  have Hres := Lib.hid (Hst.out W9 v1 v2 v1 v2 hr)
  have H1 := Lib.hid (hR.one _ _ _ hr)
  rw [HG2.out] at Hres
  clear hw9 hl9 hr hb9
  refine wpList_storeRow rfl 27 (.tmp 4) (.tmp 27) rfl rfl (cs := [v1, v2]) rfl HR9.out (by kernel_rfl) rfl rfl (by intro v hv; simp only [List.mem_cons, List.not_mem_nil, or_false] at hv; rcases hv with rfl | rfl; exact H1.out.1; exact H1.out.2) ?_
  go_wp2
  refine bodyPost_ret (results_ct rfl rfl (HR9.out.setRow [v1, v2]) Try.underlying27 rfl (by kernel_rfl) rfl) rfl ?_
  exact ⟨v1, v2, rfl, Hres.out, below_setRow HB9.out (by have := HG2.out; omega) _⟩

set_option maxRecDepth 100000 in
set_option maxHeartbeats 4000000 in
theorem Do_2 {w : World} {B : Nat} {vp vr : Value} {c : Cf} {o : Opn} (h : CAt w B vp vr c) (hV : Val c) (hk : o.ky.length = 32) (hkind : o.kind = 2) (hok : okO o = true) (hB : B ≤ w.heap.size) (E : Int) (R : World → Value → Value → Prop) (hR : Res R)
    (hst : ∀ (x : World) (u1 u2 v1 v2 : Value), R x v1 v2 → R (x.setRow (w.heap.size + 1 + 1) #[u1, u2]) v1 v2)
    (hd : ∀ W, Below w.heap.size w W → w.heap.size + 1 + 1 < W.heap.size → Calls Try.prog 142 #[.agg #[vp, vr], o.val] W fun e w' => ∃ v1 v2, e = .returned (.tuple #[.agg #[v1, v2], .int .i64 E]) ∧ R w' v1 v2 ∧ Below W.heap.size W w') :
    Calls Try.prog 34 #[.agg #[vp, vr], o.val] w fun e w' => ∃ v1 v2, e = .returned (.tuple #[.agg #[v1, v2], .int .i64 E]) ∧ R w' v1 v2 ∧ Below w.heap.size w w' := by
  obtain ⟨A1, n1, A2, n2, rfl, rfl⟩ := h.shape
  obtain ⟨W1, hW1⟩ : ∃ W1, ((w.alloc (.cells #[.slice A1 c.ps.length n1, .slice A2 c.rs.length n2] 27)).alloc (.cells o.cs.toArray 45)).alloc (.cells #[.slice none 0 0, .slice none 0 0] 27) = W1 := ⟨_, rfl⟩
  have hb1 : Below w.heap.size w W1 := hW1 ▸ (((Below.refl _ w).alloc (Nat.le_refl _) _).alloc (by simp) _).alloc (by simp; omega) _
  have hr0 : Row W1 w.heap.size [.slice A1 c.ps.length n1, .slice A2 c.rs.length n2] 27 := hW1 ▸ ((Row.new rfl rfl : Row (w.alloc (.cells #[.slice A1 c.ps.length n1, .slice A2 c.rs.length n2] 27)) w.heap.size [.slice A1 c.ps.length n1, .slice A2 c.rs.length n2] 27).alloc _).alloc _
  have hr1 : Row W1 (w.heap.size + 1) o.cs 45 := hW1 ▸ (Row.new (by simp) rfl : Row ((w.alloc (.cells #[.slice A1 c.ps.length n1, .slice A2 c.rs.length n2] 27)).alloc (.cells o.cs.toArray 45)) (w.heap.size + 1) o.cs 45).alloc _
  have hr2 : Row W1 (w.heap.size + 1 + 1) [.slice none 0 0, .slice none 0 0] 27 := hW1 ▸ Row.new (by simp) rfl
  have c0 := hr0.cell (i := 0) rfl
  have c1 := hr0.cell (i := 1) rfl
  have HR0 := Lib.hid hr0
  have HR1 := Lib.hid hr1
  have HR2 := Lib.hid hr2
  have HB1 := Lib.hid hb1
  have HC := Lib.hid h
  have Hk := Lib.hid hk
  have HBw := Lib.hid hB
  have HCh := Lib.hid (Check_any (w := W1) (B := B) (h.below (hb1.mono hB)) (Nat.le_trans hB hb1.size))
  have HD0 := Lib.hid hd
  have Hst := Lib.hid hst
  have HKIND := Lib.hid hkind
  have Hok := Lib.hid (show checkOpZ o = 0 from if_pos hok)
  rw [show checkZ c = 0 from if_pos hV] at HCh
  clear h hV hk hB hb1 hr0 hr1 hr2 hd hst hkind hok
  unfold Opn.val
  go_enter Try.func34, Try.ntmps34
  go_wp2_with fail
  refine HCh.out.mono ?_
  rintro e W2 ⟨rfl, hb⟩
  have HB12 := Lib.hid (show Below w.heap.size w W2 from nextB HB1.out (Nat.le_refl _) hb)
  have HR0' := Lib.hid (HR0.out.below hb HR0.out.lt)
  have HR1' := Lib.hid (HR1.out.below hb HR1.out.lt)
  have HR2' := Lib.hid (HR2.out.below hb HR2.out.lt)
  have HLO := Lib.hid (l_op HR1'.out Hk.out)
  have HCO := Lib.hid (CheckOp_any o Hk.out W2)
  rw [Hok.out] at HCO
  clear hb c0 c1 hW1 HCh
  go_wp2_with (first
    | (show wpList _ _ _ (⟨some 14, _, _, _, _, _⟩ :: _) _ _
       refine QB.wpList_ld 45 rfl rfl HLO.out rfl ?_
       clear HLO)
    | fail)
  refine HCO.out.mono ?_
  rintro e W3 ⟨rfl, hb⟩
  have HB13 := Lib.hid (show Below w.heap.size w W3 from nextB HB12.out (Nat.le_refl _) hb)
  have HR0b := Lib.hid (HR0'.out.below hb HR0'.out.lt)
  have HR1b := Lib.hid (HR1'.out.below hb HR1'.out.lt)
  have HR2b := Lib.hid (HR2'.out.below hb HR2'.out.lt)
  clear hb HCO
  go_wp2_with fail
  obtain ⟨g0, hg0⟩ : ∃ g, w.heap.size = g := ⟨_, rfl⟩
  obtain ⟨g1, hg1⟩ : ∃ g, w.heap.size + 1 = g := ⟨_, rfl⟩
  obtain ⟨g2, hg2⟩ : ∃ g, w.heap.size + 1 + 1 = g := ⟨_, rfl⟩
  have HG2 := Lib.hid hg2
  have HRo := Lib.hid (show Row W3 g1 o.cs 45 from hg1 ▸ HR1b.out)
  have HRc := Lib.hid (show Row W3 g0 [.slice A1 c.ps.length n1, .slice A2 c.rs.length n2] 27 from hg0 ▸ HR0b.out)
  have HRr := Lib.hid (show Row W3 g2 [.slice none 0 0, .slice none 0 0] 27 from hg2 ▸ HR2b.out)
  have FK := Lib.hid (fun w' (h : Below W3.heap.size W3 w') => (h.cell (p := ⟨g1, 0, none⟩) HRo.out.lt).trans ((HRo.out.cell (i := 0) rfl).trans (by rw [HKIND.out])))
  have FO := Lib.hid (fun w' (h : Below W3.heap.size W3 w') => l_op (HRo.out.below h HRo.out.lt) Hk.out)
  have FC := Lib.hid (fun w' (h : Below W3.heap.size W3 w') => show (loadVar 27 ⟨g0, 0, none⟩).run Try.prog w' = .ok (.agg #[.slice A1 c.ps.length n1, .slice A2 c.rs.length n2]) w' from Pol.run_loadVar_sub (P := Try.prog) (off := 0) (n := 2) w' (HRc.out.below h HRc.out.lt) Try.underlying27 rfl (by kernel_rfl) (by simp))
  have HD := Lib.hid (fun w' (h : Below W3.heap.size W3 w') => HD0.out w' (nextB HB13.out (Nat.le_refl _) h) (by have := HRr.out.lt; have := h.size; omega))
  rw [hg2, hg1, hg0]
  clear hg0 hg1 hg2
  refine Tail.marksAt mixed 9 Grew [mapM W3.heap.size,
    By.is (.pointer (some ⟨g1, 0, none⟩)),
    By.is (.int .i64 2),
    By.is (.func (.func 142) #[] #[]),
    By.is (.agg #[.slice A1 c.ps.length n1, .slice A2 c.rs.length n2]),
    By.is o.val,
    resM R hR E,
    aggM R hR,
    By.is (.int .i64 E)]
    (Ev.masks _ []) (Nat.zero_lt_succ _) (by kernel_rfl) (by kernel_rfl) rfl Grew.refl Grew.trans ⟨?_, ?_, ?_, ?_, ?_, ?_, ?_, ?_, ?_, trivial⟩ ?_
  · intro a w ht hs hg -- 20
    refine By.yes rfl ?_
    clear hs hg
    have hs : W3.heap.size ≤ w.heap.size := ht.size
    go_simp
    refine (deeds_any w).mono ?_
    rintro e w' ⟨r, rfl, h1, h2, hb⟩
    exact ⟨_, rfl, hb, ⟨r, rfl, Nat.le_trans hs h1, h2⟩⟩
  · intro a w ht hs hg -- 21
    have h3 := By.same_get hs 3 (by decide) (by kernel_rfl)
    refine By.yes rfl ?_
    clear hs hg
    go_simp
    exact ⟨_, rfl, Grew.refl _, rfl⟩
  · intro a w ht hs hg -- 22
    have h21 : a.tmps.getD 21 undef = _ := By.given_get hg 1 rfl rfl (by kernel_rfl)
    refine By.yes rfl ?_
    clear hs hg
    have hc := FK.out w ⟨ht.os, ht.tape, ht.output, ht.size, ht.block⟩
    go_simp
    exact ⟨_, rfl, Grew.refl _, rfl⟩
  · intro a w ht hs hg -- 23
    have h20 := By.given_get hg 0 rfl rfl (by kernel_rfl)
    have h22 : a.tmps.getD 22 undef = _ := By.given_get hg 2 rfl rfl (by kernel_rfl)
    refine By.yes rfl ?_
    obtain ⟨v20, hv20⟩ : ∃ v, a.tmps.getD 20 undef = v := ⟨_, rfl⟩
    replace h20 := (congrArg (fun v => (mapM W3.heap.size).on v w) hv20).mp h20
    clear hs hg
    obtain ⟨r, rfl, _, hm⟩ := h20
    have hl := (deeds_get hm).2.1
    go_simp
    exact ⟨_, rfl, Grew.refl _, rfl⟩
  · intro a w ht hs hg -- 24
    have h2 := By.same_get hs 2 (by decide) (by kernel_rfl)
    refine By.yes rfl ?_
    clear hs hg
    refine wp_ld 27 rfl h2 (FC.out w ⟨ht.os, ht.tape, ht.output, ht.size, ht.block⟩) ?_
    exact ⟨_, rfl, Grew.refl _, rfl⟩
  · intro a w ht hs hg -- 25
    have h3 := By.same_get hs 3 (by decide) (by kernel_rfl)
    refine By.yes rfl ?_
    clear hs hg
    refine wp_ld 45 rfl h3 (FO.out w ⟨ht.os, ht.tape, ht.output, ht.size, ht.block⟩) ?_
    exact ⟨_, rfl, Grew.refl _, rfl⟩
  · intro a w ht hs hg -- 26
    have h23 : a.tmps.getD 23 undef = _ := By.given_get hg 3 rfl rfl (by kernel_rfl)
    have h24 : a.tmps.getD 24 undef = _ := By.given_get hg 4 rfl rfl (by kernel_rfl)
    have h25 : a.tmps.getD 25 undef = _ := By.given_get hg 5 rfl rfl (by kernel_rfl)
    refine By.yes rfl ?_
    clear hs hg
    have hd := HD.out w ⟨ht.os, ht.tape, ht.output, ht.size, ht.block⟩
    go_simp
    refine hd.mono ?_
    rintro e w' ⟨v1, v2, rfl, hr, hb⟩
    exact ⟨_, rfl, hb, ⟨v1, v2, rfl, hr⟩⟩
  · intro a w ht hs hg -- 27
    have h26 := By.given_get hg 6 rfl rfl (by kernel_rfl)
    refine By.yes rfl ?_
    obtain ⟨v26, hv26⟩ : ∃ v, a.tmps.getD 26 undef = v := ⟨_, rfl⟩
    replace h26 := (congrArg (fun v => (resM R hR E).on v w) hv26).mp h26
    clear hs hg
    obtain ⟨v1, v2, rfl, hr⟩ := h26
    have Hr := Lib.hid hr
    clear hr
    go_simp
    exact ⟨_, rfl, Grew.refl _, ⟨v1, v2, rfl, Hr.out⟩⟩
  · intro a w ht hs hg -- 28
    have h26 := By.given_get hg 6 rfl rfl (by kernel_rfl)
    refine By.yes rfl ?_
    obtain ⟨v26, hv26⟩ : ∃ v, a.tmps.getD 26 undef = v := ⟨_, rfl⟩
    replace h26 := (congrArg (fun v => (resM R hR E).on v w) hv26).mp h26
    clear hs hg
    obtain ⟨v1, v2, rfl, hr⟩ := h26
    clear hr
    go_simp
    exact ⟨_, rfl, Grew.refl _, rfl⟩
  refine By.ends_skip fun v20 => (By.ends_is (By.ends_is (By.ends_is (By.ends_is (By.ends_is (By.ends_skip fun v26 => (By.ends_any fun v27 => (By.ends_is (By.ends_nil fun W9 hw9 => ?_)))))))))
  simp only [Act.put, List.setIfInBounds_toArray, List.set_cons_succ, List.set_cons_zero]
  simp only [List.drop_succ_cons, List.drop_zero]
  obtain ⟨hw9, hl9⟩ := hw9
  obtain ⟨v1, v2, rfl, hr⟩ := (show ∃ v1 v2, v27 = .agg #[v1, v2] ∧ R W9 v1 v2 from hl9)
  have hb9 : Below W3.heap.size W3 W9 := ⟨hw9.os, hw9.tape, hw9.output, hw9.size, hw9.block⟩
  have HB9 := Lib.hid (show Below w.heap.size w W9 from nextB HB13.out (Nat.le_refl _) hb9)
  have HR9 := Lib.hid (HRr.out.below hb9 HRr.out.lt)
  have Hres := Lib.hid (Hst.out W9 v1 v2 v1 v2 hr)
  have H1 := Lib.hid (hR.one _ _ _ hr)
  rw [HG2.out] at Hres
  clear hw9 hl9 hr hb9
  refine wpList_storeRow rfl 27 (.tmp 4) (.tmp 27) rfl rfl (cs := [v1, v2]) rfl HR9.out (by kernel_rfl) rfl rfl (by intro v hv; simp only [List.mem_cons, List.not_mem_nil, or_false] at hv; rcases hv with rfl | rfl; exact H1.out.1; exact H1.out.2) ?_
  go_wp2
  refine bodyPost_ret (results_ct rfl rfl (HR9.out.setRow [v1, v2]) Try.underlying27 rfl (by kernel_rfl) rfl) rfl ?_
  exact ⟨v1, v2, rfl, Hres.out, below_setRow HB9.out (by have := HG2.out; omega) _⟩

set_option maxRecDepth 100000 in
set_option maxHeartbeats 4000000 in
theorem Do_3 {w : World} {B : Nat} {vp vr : Value} {c : Cf} {o : Opn} (h : CAt w B vp vr c) (hV : Val c) (hk : o.ky.length = 32) (hkind : o.kind = 3) (hok : okO o = true) (hB : B ≤ w.heap.size) (E : Int) (R : World → Value → Value → Prop) (hR : Res R)
    (hst : ∀ (x : World) (u1 u2 v1 v2 : Value), R x v1 v2 → R (x.setRow (w.heap.size + 1 + 1) #[u1, u2]) v1 v2)
    (hd : ∀ W, Below w.heap.size w W → w.heap.size + 1 + 1 < W.heap.size → Calls Try.prog 143 #[.agg #[vp, vr], o.val] W fun e w' => ∃ v1 v2, e = .returned (.tuple #[.agg #[v1, v2], .int .i64 E]) ∧ R w' v1 v2 ∧ Below W.heap.size W w') :
    Calls Try.prog 34 #[.agg #[vp, vr], o.val] w fun e w' => ∃ v1 v2, e = .returned (.tuple #[.agg #[v1, v2], .int .i64 E]) ∧ R w' v1 v2 ∧ Below w.heap.size w w' := by
  obtain ⟨A1, n1, A2, n2, rfl, rfl⟩ := h.shape
  obtain ⟨W1, hW1⟩ : ∃ W1, ((w.alloc (.cells #[.slice A1 c.ps.length n1, .slice A2 c.rs.length n2] 27)).alloc (.cells o.cs.toArray 45)).alloc (.cells #[.slice none 0 0, .slice none 0 0] 27) = W1 := ⟨_, rfl⟩
  have hb1 : Below w.heap.size w W1 := hW1 ▸ (((Below.refl _ w).alloc (Nat.le_refl _) _).alloc (by simp) _).alloc (by simp; omega) _
  have hr0 : Row W1 w.heap.size [.slice A1 c.ps.length n1, .slice A2 c.rs.length n2] 27 := hW1 ▸ ((Row.new rfl rfl : Row (w.alloc (.cells #[.slice A1 c.ps.length n1, .slice A2 c.rs.length n2] 27)) w.heap.size [.slice A1 c.ps.length n1, .slice A2 c.rs.length n2] 27).alloc _).alloc _
  have hr1 : Row W1 (w.heap.size + 1) o.cs 45 := hW1 ▸ (Row.new (by simp) rfl : Row ((w.alloc (.cells #[.slice A1 c.ps.length n1, .slice A2 c.rs.length n2] 27)).alloc (.cells o.cs.toArray 45)) (w.heap.size + 1) o.cs 45).alloc _
  have hr2 : Row W1 (w.heap.size + 1 + 1) [.slice none 0 0, .slice none 0 0] 27 := hW1 ▸ Row.new (by simp) rfl
  have c0 := hr0.cell (i := 0) rfl
  have c1 := hr0.cell (i := 1) rfl
  have HR0 := Lib.hid hr0
  have HR1 := Lib.hid hr1
  have HR2 := Lib.hid hr2
  have HB1 := Lib.hid hb1
  have HC := Lib.hid h
  have Hk := Lib.hid hk
  have HBw := Lib.hid hB
  have HCh := Lib.hid (Check_any (w := W1) (B := B) (h.below (hb1.mono hB)) (Nat.le_trans hB hb1.size))
  have HD0 := Lib.hid hd
  have Hst := Lib.hid hst
  have HKIND := Lib.hid hkind
  have Hok := Lib.hid (show checkOpZ o = 0 from if_pos hok)
  rw [show checkZ c = 0 from if_pos hV] at HCh
  clear h hV hk hB hb1 hr0 hr1 hr2 hd hst hkind hok
  unfold Opn.val
  go_enter Try.func34, Try.ntmps34
  go_wp2_with fail
  refine HCh.out.mono ?_
  rintro e W2 ⟨rfl, hb⟩
  have HB12 := Lib.hid (show Below w.heap.size w W2 from nextB HB1.out (Nat.le_refl _) hb)
  have HR0' := Lib.hid (HR0.out.below hb HR0.out.lt)
  have HR1' := Lib.hid (HR1.out.below hb HR1.out.lt)
  have HR2' := Lib.hid (HR2.out.below hb HR2.out.lt)
  have HLO := Lib.hid (l_op HR1'.out Hk.out)
  have HCO := Lib.hid (CheckOp_any o Hk.out W2)
  rw [Hok.out] at HCO
  clear hb c0 c1 hW1 HCh
  go_wp2_with (first
    | (show wpList _ _ _ (⟨some 14, _, _, _, _, _⟩ :: _) _ _
       refine QB.wpList_ld 45 rfl rfl HLO.out rfl ?_
       clear HLO)
    | fail)
  refine HCO.out.mono ?_
  rintro e W3 ⟨rfl, hb⟩
  have HB13 := Lib.hid (show Below w.heap.size w W3 from nextB HB12.out (Nat.le_refl _) hb)
  have HR0b := Lib.hid (HR0'.out.below hb HR0'.out.lt)
  have HR1b := Lib.hid (HR1'.out.below hb HR1'.out.lt)
  have HR2b := Lib.hid (HR2'.out.below hb HR2'.out.lt)
  clear hb HCO
  go_wp2_with fail
  obtain ⟨g0, hg0⟩ : ∃ g, w.heap.size = g := ⟨_, rfl⟩
  obtain ⟨g1, hg1⟩ : ∃ g, w.heap.size + 1 = g := ⟨_, rfl⟩
  obtain ⟨g2, hg2⟩ : ∃ g, w.heap.size + 1 + 1 = g := ⟨_, rfl⟩
  have HG2 := Lib.hid hg2
  have HRo := Lib.hid (show Row W3 g1 o.cs 45 from hg1 ▸ HR1b.out)
  have HRc := Lib.hid (show Row W3 g0 [.slice A1 c.ps.length n1, .slice A2 c.rs.length n2] 27 from hg0 ▸ HR0b.out)
  have HRr := Lib.hid (show Row W3 g2 [.slice none 0 0, .slice none 0 0] 27 from hg2 ▸ HR2b.out)
  have FK := Lib.hid (fun w' (h : Below W3.heap.size W3 w') => (h.cell (p := ⟨g1, 0, none⟩) HRo.out.lt).trans ((HRo.out.cell (i := 0) rfl).trans (by rw [HKIND.out])))
  have FO := Lib.hid (fun w' (h : Below W3.heap.size W3 w') => l_op (HRo.out.below h HRo.out.lt) Hk.out)
  have FC := Lib.hid (fun w' (h : Below W3.heap.size W3 w') => show (loadVar 27 ⟨g0, 0, none⟩).run Try.prog w' = .ok (.agg #[.slice A1 c.ps.length n1, .slice A2 c.rs.length n2]) w' from Pol.run_loadVar_sub (P := Try.prog) (off := 0) (n := 2) w' (HRc.out.below h HRc.out.lt) Try.underlying27 rfl (by kernel_rfl) (by simp))
  have HD := Lib.hid (fun w' (h : Below W3.heap.size W3 w') => HD0.out w' (nextB HB13.out (Nat.le_refl _) h) (by have := HRr.out.lt; have := h.size; omega))
  rw [hg2, hg1, hg0]
  clear hg0 hg1 hg2
  refine Tail.marksAt mixed 9 Grew [mapM W3.heap.size,
    By.is (.pointer (some ⟨g1, 0, none⟩)),
    By.is (.int .i64 3),
    By.is (.func (.func 143) #[] #[]),
    By.is (.agg #[.slice A1 c.ps.length n1, .slice A2 c.rs.length n2]),
    By.is o.val,
    resM R hR E,
    aggM R hR,
    By.is (.int .i64 E)]
    (Ev.masks _ []) (Nat.zero_lt_succ _) (by kernel_rfl) (by kernel_rfl) rfl Grew.refl Grew.trans ⟨?_, ?_, ?_, ?_, ?_, ?_, ?_, ?_, ?_, trivial⟩ ?_
  · intro a w ht hs hg -- 20
    refine By.yes rfl ?_
    clear hs hg
    have hs : W3.heap.size ≤ w.heap.size := ht.size
    go_simp
    refine (deeds_any w).mono ?_
    rintro e w' ⟨r, rfl, h1, h2, hb⟩
    exact ⟨_, rfl, hb, ⟨r, rfl, Nat.le_trans hs h1, h2⟩⟩
  · intro a w ht hs hg -- 21
    have h3 := By.same_get hs 3 (by decide) (by kernel_rfl)
    refine By.yes rfl ?_
    clear hs hg
    go_simp
    exact ⟨_, rfl, Grew.refl _, rfl⟩
  · intro a w ht hs hg -- 22
    have h21 : a.tmps.getD 21 undef = _ := By.given_get hg 1 rfl rfl (by kernel_rfl)
    refine By.yes rfl ?_
    clear hs hg
    have hc := FK.out w ⟨ht.os, ht.tape, ht.output, ht.size, ht.block⟩
    go_simp
    exact ⟨_, rfl, Grew.refl _, rfl⟩
  · intro a w ht hs hg -- 23
    have h20 := By.given_get hg 0 rfl rfl (by kernel_rfl)
    have h22 : a.tmps.getD 22 undef = _ := By.given_get hg 2 rfl rfl (by kernel_rfl)
    refine By.yes rfl ?_
    obtain ⟨v20, hv20⟩ : ∃ v, a.tmps.getD 20 undef = v := ⟨_, rfl⟩
    replace h20 := (congrArg (fun v => (mapM W3.heap.size).on v w) hv20).mp h20
    clear hs hg
    obtain ⟨r, rfl, _, hm⟩ := h20
    have hl := (deeds_get hm).2.2.1
    go_simp
    exact ⟨_, rfl, Grew.refl _, rfl⟩
  · intro a w ht hs hg -- 24
    have h2 := By.same_get hs 2 (by decide) (by kernel_rfl)
    refine By.yes rfl ?_
    clear hs hg
    refine wp_ld 27 rfl h2 (FC.out w ⟨ht.os, ht.tape, ht.output, ht.size, ht.block⟩) ?_
    exact ⟨_, rfl, Grew.refl _, rfl⟩
  · intro a w ht hs hg -- 25
    have h3 := By.same_get hs 3 (by decide) (by kernel_rfl)
    refine By.yes rfl ?_
    clear hs hg
    refine wp_ld 45 rfl h3 (FO.out w ⟨ht.os, ht.tape, ht.output, ht.size, ht.block⟩) ?_
    exact ⟨_, rfl, Grew.refl _, rfl⟩
  · intro a w ht hs hg -- 26
    have h23 : a.tmps.getD 23 undef = _ := By.given_get hg 3 rfl rfl (by kernel_rfl)
    have h24 : a.tmps.getD 24 undef = _ := By.given_get hg 4 rfl rfl (by kernel_rfl)
    have h25 : a.tmps.getD 25 undef = _ := By.given_get hg 5 rfl rfl (by kernel_rfl)
    refine By.yes rfl ?_
    clear hs hg
    have hd := HD.out w ⟨ht.os, ht.tape, ht.output, ht.size, ht.block⟩
    go_simp
    refine hd.mono ?_
    rintro e w' ⟨v1, v2, rfl, hr, hb⟩
    exact ⟨_, rfl, hb, ⟨v1, v2, rfl, hr⟩⟩
  · intro a w ht hs hg -- 27
    have h26 := By.given_get hg 6 rfl rfl (by kernel_rfl)
    refine By.yes rfl ?_
    obtain ⟨v26, hv26⟩ : ∃ v, a.tmps.getD 26 undef = v := ⟨_, rfl⟩
    replace h26 := (congrArg (fun v => (resM R hR E).on v w) hv26).mp h26
    clear hs hg
    obtain ⟨v1, v2, rfl, hr⟩ := h26
    have Hr := Lib.hid hr
    clear hr
    go_simp
    exact ⟨_, rfl, Grew.refl _, ⟨v1, v2, rfl, Hr.out⟩⟩
  · intro a w ht hs hg -- 28
    have h26 := By.given_get hg 6 rfl rfl (by kernel_rfl)
    refine By.yes rfl ?_
    obtain ⟨v26, hv26⟩ : ∃ v, a.tmps.getD 26 undef = v := ⟨_, rfl⟩
    replace h26 := (congrArg (fun v => (resM R hR E).on v w) hv26).mp h26
    clear hs hg
    obtain ⟨v1, v2, rfl, hr⟩ := h26
    clear hr
    go_simp
    exact ⟨_, rfl, Grew.refl _, rfl⟩
  refine By.ends_skip fun v20 => (By.ends_is (By.ends_is (By.ends_is (By.ends_is (By.ends_is (By.ends_skip fun v26 => (By.ends_any fun v27 => (By.ends_is (By.ends_nil fun W9 hw9 => ?_)))))))))
  simp only [Act.put, List.setIfInBounds_toArray, List.set_cons_succ, List.set_cons_zero]
  simp only [List.drop_succ_cons, List.drop_zero]
  obtain ⟨hw9, hl9⟩ := hw9
  obtain ⟨v1, v2, rfl, hr⟩ := (show ∃ v1 v2, v27 = .agg #[v1, v2] ∧ R W9 v1 v2 from hl9)
  have hb9 : Below W3.heap.size W3 W9 := ⟨hw9.os, hw9.tape, hw9.output, hw9.size, hw9.block⟩
  have HB9 := Lib.hid (show Below w.heap.size w W9 from nextB HB13.out (Nat.le_refl _) hb9)
  have HR9 := Lib.hid (HRr.out.below hb9 HRr.out.lt)
  have Hres := Lib.hid (Hst.out W9 v1 v2 v1 v2 hr)
  have H1 := Lib.hid (hR.one _ _ _ hr)
  rw [HG2.out] at Hres
  clear hw9 hl9 hr hb9
  refine wpList_storeRow rfl 27 (.tmp 4) (.tmp 27) rfl rfl (cs := [v1, v2]) rfl HR9.out (by kernel_rfl) rfl rfl (by intro v hv; simp only [List.mem_cons, List.not_mem_nil, or_false] at hv; rcases hv with rfl | rfl; exact H1.out.1; exact H1.out.2) ?_
  go_wp2
  refine bodyPost_ret (results_ct rfl rfl (HR9.out.setRow [v1, v2]) Try.underlying27 rfl (by kernel_rfl) rfl) rfl ?_
  exact ⟨v1, v2, rfl, Hres.out, below_setRow HB9.out (by have := HG2.out; omega) _⟩

set_option maxRecDepth 100000 in
set_option maxHeartbeats 4000000 in
theorem Do_4 {w : World} {B : Nat} {vp vr : Value} {c : Cf} {o : Opn} (h : CAt w B vp vr c) (hV : Val c) (hk : o.ky.length = 32) (hkind : o.kind = 4) (hok : okO o = true) (hB : B ≤ w.heap.size) (E : Int) (R : World → Value → Value → Prop) (hR : Res R)
    (hst : ∀ (x : World) (u1 u2 v1 v2 : Value), R x v1 v2 → R (x.setRow (w.heap.size + 1 + 1) #[u1, u2]) v1 v2)
    (hd : ∀ W, Below w.heap.size w W → w.heap.size + 1 + 1 < W.heap.size → Calls Try.prog 144 #[.agg #[vp, vr], o.val] W fun e w' => ∃ v1 v2, e = .returned (.tuple #[.agg #[v1, v2], .int .i64 E]) ∧ R w' v1 v2 ∧ Below W.heap.size W w') :
    Calls Try.prog 34 #[.agg #[vp, vr], o.val] w fun e w' => ∃ v1 v2, e = .returned (.tuple #[.agg #[v1, v2], .int .i64 E]) ∧ R w' v1 v2 ∧ Below w.heap.size w w' := by
  obtain ⟨A1, n1, A2, n2, rfl, rfl⟩ := h.shape
  obtain ⟨W1, hW1⟩ : ∃ W1, ((w.alloc (.cells #[.slice A1 c.ps.length n1, .slice A2 c.rs.length n2] 27)).alloc (.cells o.cs.toArray 45)).alloc (.cells #[.slice none 0 0, .slice none 0 0] 27) = W1 := ⟨_, rfl⟩
  have hb1 : Below w.heap.size w W1 := hW1 ▸ (((Below.refl _ w).alloc (Nat.le_refl _) _).alloc (by simp) _).alloc (by simp; omega) _
  have hr0 : Row W1 w.heap.size [.slice A1 c.ps.length n1, .slice A2 c.rs.length n2] 27 := hW1 ▸ ((Row.new rfl rfl : Row (w.alloc (.cells #[.slice A1 c.ps.length n1, .slice A2 c.rs.length n2] 27)) w.heap.size [.slice A1 c.ps.length n1, .slice A2 c.rs.length n2] 27).alloc _).alloc _
  have hr1 : Row W1 (w.heap.size + 1) o.cs 45 := hW1 ▸ (Row.new (by simp) rfl : Row ((w.alloc (.cells #[.slice A1 c.ps.length n1, .slice A2 c.rs.length n2] 27)).alloc (.cells o.cs.toArray 45)) (w.heap.size + 1) o.cs 45).alloc _
  have hr2 : Row W1 (w.heap.size + 1 + 1) [.slice none 0 0, .slice none 0 0] 27 := hW1 ▸ Row.new (by simp) rfl
  have c0 := hr0.cell (i := 0) rfl
  have c1 := hr0.cell (i := 1) rfl
  have HR0 := Lib.hid hr0
  have HR1 := Lib.hid hr1
  have HR2 := Lib.hid hr2
  have HB1 := Lib.hid hb1
  have HC := Lib.hid h
  have Hk := Lib.hid hk
  have HBw := Lib.hid hB
  have HCh := Lib.hid (Check_any (w := W1) (B := B) (h.below (hb1.mono hB)) (Nat.le_trans hB hb1.size))
  have HD0 := Lib.hid hd
  have Hst := Lib.hid hst
  have HKIND := Lib.hid hkind
  have Hok := Lib.hid (show checkOpZ o = 0 from if_pos hok)
  rw [show checkZ c = 0 from if_pos hV] at HCh
  clear h hV hk hB hb1 hr0 hr1 hr2 hd hst hkind hok
  unfold Opn.val
  go_enter Try.func34, Try.ntmps34
  go_wp2_with fail
  refine HCh.out.mono ?_
  rintro e W2 ⟨rfl, hb⟩
  have HB12 := Lib.hid (show Below w.heap.size w W2 from nextB HB1.out (Nat.le_refl _) hb)
  have HR0' := Lib.hid (HR0.out.below hb HR0.out.lt)
  have HR1' := Lib.hid (HR1.out.below hb HR1.out.lt)
  have HR2' := Lib.hid (HR2.out.below hb HR2.out.lt)
  have HLO := Lib.hid (l_op HR1'.out Hk.out)
  have HCO := Lib.hid (CheckOp_any o Hk.out W2)
  rw [Hok.out] at HCO
  clear hb c0 c1 hW1 HCh
  go_wp2_with (first
    | (show wpList _ _ _ (⟨some 14, _, _, _, _, _⟩ :: _) _ _
       refine QB.wpList_ld 45 rfl rfl HLO.out rfl ?_
       clear HLO)
    | fail)
  refine HCO.out.mono ?_
  rintro e W3 ⟨rfl, hb⟩
  have HB13 := Lib.hid (show Below w.heap.size w W3 from nextB HB12.out (Nat.le_refl _) hb)
  have HR0b := Lib.hid (HR0'.out.below hb HR0'.out.lt)
  have HR1b := Lib.hid (HR1'.out.below hb HR1'.out.lt)
  have HR2b := Lib.hid (HR2'.out.below hb HR2'.out.lt)
  clear hb HCO
  go_wp2_with fail
  obtain ⟨g0, hg0⟩ : ∃ g, w.heap.size = g := ⟨_, rfl⟩
  obtain ⟨g1, hg1⟩ : ∃ g, w.heap.size + 1 = g := ⟨_, rfl⟩
  obtain ⟨g2, hg2⟩ : ∃ g, w.heap.size + 1 + 1 = g := ⟨_, rfl⟩
  have HG2 := Lib.hid hg2
  have HRo := Lib.hid (show Row W3 g1 o.cs 45 from hg1 ▸ HR1b.out)
  have HRc := Lib.hid (show Row W3 g0 [.slice A1 c.ps.length n1, .slice A2 c.rs.length n2] 27 from hg0 ▸ HR0b.out)
  have HRr := Lib.hid (show Row W3 g2 [.slice none 0 0, .slice none 0 0] 27 from hg2 ▸ HR2b.out)
  have FK := Lib.hid (fun w' (h : Below W3.heap.size W3 w') => (h.cell (p := ⟨g1, 0, none⟩) HRo.out.lt).trans ((HRo.out.cell (i := 0) rfl).trans (by rw [HKIND.out])))
  have FO := Lib.hid (fun w' (h : Below W3.heap.size W3 w') => l_op (HRo.out.below h HRo.out.lt) Hk.out)
  have FC := Lib.hid (fun w' (h : Below W3.heap.size W3 w') => show (loadVar 27 ⟨g0, 0, none⟩).run Try.prog w' = .ok (.agg #[.slice A1 c.ps.length n1, .slice A2 c.rs.length n2]) w' from Pol.run_loadVar_sub (P := Try.prog) (off := 0) (n := 2) w' (HRc.out.below h HRc.out.lt) Try.underlying27 rfl (by kernel_rfl) (by simp))
  have HD := Lib.hid (fun w' (h : Below W3.heap.size W3 w') => HD0.out w' (nextB HB13.out (Nat.le_refl _) h) (by have := HRr.out.lt; have := h.size; omega))
  rw [hg2, hg1, hg0]
  clear hg0 hg1 hg2
  refine Tail.marksAt mixed 9 Grew [mapM W3.heap.size,
    By.is (.pointer (some ⟨g1, 0, none⟩)),
    By.is (.int .i64 4),
    By.is (.func (.func 144) #[] #[]),
    By.is (.agg #[.slice A1 c.ps.length n1, .slice A2 c.rs.length n2]),
    By.is o.val,
    resM R hR E,
    aggM R hR,
    By.is (.int .i64 E)]
    (Ev.masks _ []) (Nat.zero_lt_succ _) (by kernel_rfl) (by kernel_rfl) rfl Grew.refl Grew.trans ⟨?_, ?_, ?_, ?_, ?_, ?_, ?_, ?_, ?_, trivial⟩ ?_
  · intro a w ht hs hg -- 20
    refine By.yes rfl ?_
    clear hs hg
    have hs : W3.heap.size ≤ w.heap.size := ht.size
    go_simp
    refine (deeds_any w).mono ?_
    rintro e w' ⟨r, rfl, h1, h2, hb⟩
    exact ⟨_, rfl, hb, ⟨r, rfl, Nat.le_trans hs h1, h2⟩⟩
  · intro a w ht hs hg -- 21
    have h3 := By.same_get hs 3 (by decide) (by kernel_rfl)
    refine By.yes rfl ?_
    clear hs hg
    go_simp
    exact ⟨_, rfl, Grew.refl _, rfl⟩
  · intro a w ht hs hg -- 22
    have h21 : a.tmps.getD 21 undef = _ := By.given_get hg 1 rfl rfl (by kernel_rfl)
    refine By.yes rfl ?_
    clear hs hg
    have hc := FK.out w ⟨ht.os, ht.tape, ht.output, ht.size, ht.block⟩
    go_simp
    exact ⟨_, rfl, Grew.refl _, rfl⟩
  · intro a w ht hs hg -- 23
    have h20 := By.given_get hg 0 rfl rfl (by kernel_rfl)
    have h22 : a.tmps.getD 22 undef = _ := By.given_get hg 2 rfl rfl (by kernel_rfl)
    refine By.yes rfl ?_
    obtain ⟨v20, hv20⟩ : ∃ v, a.tmps.getD 20 undef = v := ⟨_, rfl⟩
    replace h20 := (congrArg (fun v => (mapM W3.heap.size).on v w) hv20).mp h20
    clear hs hg
    obtain ⟨r, rfl, _, hm⟩ := h20
    have hl := (deeds_get hm).2.2.2.1
    go_simp
    exact ⟨_, rfl, Grew.refl _, rfl⟩
  · intro a w ht hs hg -- 24
    have h2 := By.same_get hs 2 (by decide) (by kernel_rfl)
    refine By.yes rfl ?_
    clear hs hg
    refine wp_ld 27 rfl h2 (FC.out w ⟨ht.os, ht.tape, ht.output, ht.size, ht.block⟩) ?_
    exact ⟨_, rfl, Grew.refl _, rfl⟩
  · intro a w ht hs hg -- 25
    have h3 := By.same_get hs 3 (by decide) (by kernel_rfl)
    refine By.yes rfl ?_
    clear hs hg
    refine wp_ld 45 rfl h3 (FO.out w ⟨ht.os, ht.tape, ht.output, ht.size, ht.block⟩) ?_
    exact ⟨_, rfl, Grew.refl _, rfl⟩
  · intro a w ht hs hg -- 26
    have h23 : a.tmps.getD 23 undef = _ := By.given_get hg 3 rfl rfl (by kernel_rfl)
    have h24 : a.tmps.getD 24 undef = _ := By.given_get hg 4 rfl rfl (by kernel_rfl)
    have h25 : a.tmps.getD 25 undef = _ := By.given_get hg 5 rfl rfl (by kernel_rfl)
    refine By.yes rfl ?_
    clear hs hg
    have hd := HD.out w ⟨ht.os, ht.tape, ht.output, ht.size, ht.block⟩
    go_simp
    refine hd.mono ?_
    rintro e w' ⟨v1, v2, rfl, hr, hb⟩
    exact ⟨_, rfl, hb, ⟨v1, v2, rfl, hr⟩⟩
  · intro a w ht hs hg -- 27
    have h26 := By.given_get hg 6 rfl rfl (by kernel_rfl)
    refine By.yes rfl ?_
    obtain ⟨v26, hv26⟩ : ∃ v, a.tmps.getD 26 undef = v := ⟨_, rfl⟩
    replace h26 := (congrArg (fun v => (resM R hR E).on v w) hv26).mp h26
    clear hs hg
    obtain ⟨v1, v2, rfl, hr⟩ := h26
    have Hr := Lib.hid hr
    clear hr
    go_simp
    exact ⟨_, rfl, Grew.refl _, ⟨v1, v2, rfl, Hr.out⟩⟩
  · intro a w ht hs hg -- 28
    have h26 := By.given_get hg 6 rfl rfl (by kernel_rfl)
    refine By.yes rfl ?_
    obtain ⟨v26, hv26⟩ : ∃ v, a.tmps.getD 26 undef = v := ⟨_, rfl⟩
    replace h26 := (congrArg (fun v => (resM R hR E).on v w) hv26).mp h26
    clear hs hg
    obtain ⟨v1, v2, rfl, hr⟩ := h26
    clear hr
    go_simp
    exact ⟨_, rfl, Grew.refl _, rfl⟩
  refine By.ends_skip fun v20 => (By.ends_is (By.ends_is (By.ends_is (By.ends_is (By.ends_is (By.ends_skip fun v26 => (By.ends_any fun v27 => (By.ends_is (By.ends_nil fun W9 hw9 => ?_)))))))))
  simp only [Act.put, List.setIfInBounds_toArray, List.set_cons_succ, List.set_cons_zero]
  simp only [List.drop_succ_cons, List.drop_zero]
  obtain ⟨hw9, hl9⟩ := hw9
  obtain ⟨v1, v2, rfl, hr⟩ := (show ∃ v1 v2, v27 = .agg #[v1, v2] ∧ R W9 v1 v2 from hl9)
  have hb9 : Below W3.heap.size W3 W9 := ⟨hw9.os, hw9.tape, hw9.output, hw9.size, hw9.block⟩
  have HB9 := Lib.hid (show Below w.heap.size w W9 from nextB HB13.out (Nat.le_refl _) hb9)
  have HR9 := Lib.hid (HRr.out.below hb9 HRr.out.lt)
  have Hres := Lib.hid (Hst.out W9 v1 v2 v1 v2 hr)
  have H1 := Lib.hid (hR.one _ _ _ hr)
  rw [HG2.out] at Hres
  clear hw9 hl9 hr hb9
  refine wpList_storeRow rfl 27 (.tmp 4) (.tmp 27) rfl rfl (cs := [v1, v2]) rfl HR9.out (by kernel_rfl) rfl rfl (by intro v hv; simp only [List.mem_cons, List.not_mem_nil, or_false] at hv; rcases hv with rfl | rfl; exact H1.out.1; exact H1.out.2) ?_
  go_wp2
  refine bodyPost_ret (results_ct rfl rfl (HR9.out.setRow [v1, v2]) Try.underlying27 rfl (by kernel_rfl) rfl) rfl ?_
  exact ⟨v1, v2, rfl, Hres.out, below_setRow HB9.out (by have := HG2.out; omega) _⟩

set_option maxRecDepth 100000 in
set_option maxHeartbeats 4000000 in
theorem Do_5 {w : World} {B : Nat} {vp vr : Value} {c : Cf} {o : Opn} (h : CAt w B vp vr c) (hV : Val c) (hk : o.ky.length = 32) (hkind : o.kind = 5) (hok : okO o = true) (hB : B ≤ w.heap.size) (E : Int) (R : World → Value → Value → Prop) (hR : Res R)
    (hst : ∀ (x : World) (u1 u2 v1 v2 : Value), R x v1 v2 → R (x.setRow (w.heap.size + 1 + 1) #[u1, u2]) v1 v2)
    (hd : ∀ W, Below w.heap.size w W → w.heap.size + 1 + 1 < W.heap.size → Calls Try.prog 145 #[.agg #[vp, vr], o.val] W fun e w' => ∃ v1 v2, e = .returned (.tuple #[.agg #[v1, v2], .int .i64 E]) ∧ R w' v1 v2 ∧ Below W.heap.size W w') :
    Calls Try.prog 34 #[.agg #[vp, vr], o.val] w fun e w' => ∃ v1 v2, e = .returned (.tuple #[.agg #[v1, v2], .int .i64 E]) ∧ R w' v1 v2 ∧ Below w.heap.size w w' := by
  obtain ⟨A1, n1, A2, n2, rfl, rfl⟩ := h.shape
  obtain ⟨W1, hW1⟩ : ∃ W1, ((w.alloc (.cells #[.slice A1 c.ps.length n1, .slice A2 c.rs.length n2] 27)).alloc (.cells o.cs.toArray 45)).alloc (.cells #[.slice none 0 0, .slice none 0 0] 27) = W1 := ⟨_, rfl⟩
  have hb1 : Below w.heap.size w W1 := hW1 ▸ (((Below.refl _ w).alloc (Nat.le_refl _) _).alloc (by simp) _).alloc (by simp; omega) _
  have hr0 : Row W1 w.heap.size [.slice A1 c.ps.length n1, .slice A2 c.rs.length n2] 27 := hW1 ▸ ((Row.new rfl rfl : Row (w.alloc (.cells #[.slice A1 c.ps.length n1, .slice A2 c.rs.length n2] 27)) w.heap.size [.slice A1 c.ps.length n1, .slice A2 c.rs.length n2] 27).alloc _).alloc _
  have hr1 : Row W1 (w.heap.size + 1) o.cs 45 := hW1 ▸ (Row.new (by simp) rfl : Row ((w.alloc (.cells #[.slice A1 c.ps.length n1, .slice A2 c.rs.length n2] 27)).alloc (.cells o.cs.toArray 45)) (w.heap.size + 1) o.cs 45).alloc _
  have hr2 : Row W1 (w.heap.size + 1 + 1) [.slice none 0 0, .slice none 0 0] 27 := hW1 ▸ Row.new (by simp) rfl
  have c0 := hr0.cell (i := 0) rfl
  have c1 := hr0.cell (i := 1) rfl
  have HR0 := Lib.hid hr0
  have HR1 := Lib.hid hr1
  have HR2 := Lib.hid hr2
  have HB1 := Lib.hid hb1
  have HC := Lib.hid h
  have Hk := Lib.hid hk
  have HBw := Lib.hid hB
  have HCh := Lib.hid (Check_any (w := W1) (B := B) (h.below (hb1.mono hB)) (Nat.le_trans hB hb1.size))
  have HD0 := Lib.hid hd
  have Hst := Lib.hid hst
  have HKIND := Lib.hid hkind
  have Hok := Lib.hid (show checkOpZ o = 0 from if_pos hok)
  rw [show checkZ c = 0 from if_pos hV] at HCh
  clear h hV hk hB hb1 hr0 hr1 hr2 hd hst hkind hok
  unfold Opn.val
  go_enter Try.func34, Try.ntmps34
  go_wp2_with fail
  refine HCh.out.mono ?_
  rintro e W2 ⟨rfl, hb⟩
  have HB12 := Lib.hid (show Below w.heap.size w W2 from nextB HB1.out (Nat.le_refl _) hb)
  have HR0' := Lib.hid (HR0.out.below hb HR0.out.lt)
  have HR1' := Lib.hid (HR1.out.below hb HR1.out.lt)
  have HR2' := Lib.hid (HR2.out.below hb HR2.out.lt)
  have HLO := Lib.hid (l_op HR1'.out Hk.out)
  have HCO := Lib.hid (CheckOp_any o Hk.out W2)
  rw [Hok.out] at HCO
  clear hb c0 c1 hW1 HCh
  go_wp2_with (first
    | (show wpList _ _ _ (⟨some 14, _, _, _, _, _⟩ :: _) _ _
       refine QB.wpList_ld 45 rfl rfl HLO.out rfl ?_
       clear HLO)
    | fail)
  refine HCO.out.mono ?_
  rintro e W3 ⟨rfl, hb⟩
  have HB13 := Lib.hid (show Below w.heap.size w W3 from nextB HB12.out (Nat.le_refl _) hb)
  have HR0b := Lib.hid (HR0'.out.below hb HR0'.out.lt)
  have HR1b := Lib.hid (HR1'.out.below hb HR1'.out.lt)
  have HR2b := Lib.hid (HR2'.out.below hb HR2'.out.lt)
  clear hb HCO
  go_wp2_with fail
  obtain ⟨g0, hg0⟩ : ∃ g, w.heap.size = g := ⟨_, rfl⟩
  obtain ⟨g1, hg1⟩ : ∃ g, w.heap.size + 1 = g := ⟨_, rfl⟩
  obtain ⟨g2, hg2⟩ : ∃ g, w.heap.size + 1 + 1 = g := ⟨_, rfl⟩
  have HG2 := Lib.hid hg2
  have HRo := Lib.hid (show Row W3 g1 o.cs 45 from hg1 ▸ HR1b.out)
  have HRc := Lib.hid (show Row W3 g0 [.slice A1 c.ps.length n1, .slice A2 c.rs.length n2] 27 from hg0 ▸ HR0b.out)
  have HRr := Lib.hid (show Row W3 g2 [.slice none 0 0, .slice none 0 0] 27 from hg2 ▸ HR2b.out)
  have FK := Lib.hid (fun w' (h : Below W3.heap.size W3 w') => (h.cell (p := ⟨g1, 0, none⟩) HRo.out.lt).trans ((HRo.out.cell (i := 0) rfl).trans (by rw [HKIND.out])))
  have FO := Lib.hid (fun w' (h : Below W3.heap.size W3 w') => l_op (HRo.out.below h HRo.out.lt) Hk.out)
  have FC := Lib.hid (fun w' (h : Below W3.heap.size W3 w') => show (loadVar 27 ⟨g0, 0, none⟩).run Try.prog w' = .ok (.agg #[.slice A1 c.ps.length n1, .slice A2 c.rs.length n2]) w' from Pol.run_loadVar_sub (P := Try.prog) (off := 0) (n := 2) w' (HRc.out.below h HRc.out.lt) Try.underlying27 rfl (by kernel_rfl) (by simp))
  have HD := Lib.hid (fun w' (h : Below W3.heap.size W3 w') => HD0.out w' (nextB HB13.out (Nat.le_refl _) h) (by have := HRr.out.lt; have := h.size; omega))
  rw [hg2, hg1, hg0]
  clear hg0 hg1 hg2
  refine Tail.marksAt mixed 9 Grew [mapM W3.heap.size,
    By.is (.pointer (some ⟨g1, 0, none⟩)),
    By.is (.int .i64 5),
    By.is (.func (.func 145) #[] #[]),
    By.is (.agg #[.slice A1 c.ps.length n1, .slice A2 c.rs.length n2]),
    By.is o.val,
    resM R hR E,
    aggM R hR,
    By.is (.int .i64 E)]
    (Ev.masks _ []) (Nat.zero_lt_succ _) (by kernel_rfl) (by kernel_rfl) rfl Grew.refl Grew.trans ⟨?_, ?_, ?_, ?_, ?_, ?_, ?_, ?_, ?_, trivial⟩ ?_
  · intro a w ht hs hg -- 20
    refine By.yes rfl ?_
    clear hs hg
    have hs : W3.heap.size ≤ w.heap.size := ht.size
    go_simp
    refine (deeds_any w).mono ?_
    rintro e w' ⟨r, rfl, h1, h2, hb⟩
    exact ⟨_, rfl, hb, ⟨r, rfl, Nat.le_trans hs h1, h2⟩⟩
  · intro a w ht hs hg -- 21
    have h3 := By.same_get hs 3 (by decide) (by kernel_rfl)
    refine By.yes rfl ?_
    clear hs hg
    go_simp
    exact ⟨_, rfl, Grew.refl _, rfl⟩
  · intro a w ht hs hg -- 22
    have h21 : a.tmps.getD 21 undef = _ := By.given_get hg 1 rfl rfl (by kernel_rfl)
    refine By.yes rfl ?_
    clear hs hg
    have hc := FK.out w ⟨ht.os, ht.tape, ht.output, ht.size, ht.block⟩
    go_simp
    exact ⟨_, rfl, Grew.refl _, rfl⟩
  · intro a w ht hs hg -- 23
    have h20 := By.given_get hg 0 rfl rfl (by kernel_rfl)
    have h22 : a.tmps.getD 22 undef = _ := By.given_get hg 2 rfl rfl (by kernel_rfl)
    refine By.yes rfl ?_
    obtain ⟨v20, hv20⟩ : ∃ v, a.tmps.getD 20 undef = v := ⟨_, rfl⟩
    replace h20 := (congrArg (fun v => (mapM W3.heap.size).on v w) hv20).mp h20
    clear hs hg
    obtain ⟨r, rfl, _, hm⟩ := h20
    have hl := (deeds_get hm).2.2.2.2
    go_simp
    exact ⟨_, rfl, Grew.refl _, rfl⟩
  · intro a w ht hs hg -- 24
    have h2 := By.same_get hs 2 (by decide) (by kernel_rfl)
    refine By.yes rfl ?_
    clear hs hg
    refine wp_ld 27 rfl h2 (FC.out w ⟨ht.os, ht.tape, ht.output, ht.size, ht.block⟩) ?_
    exact ⟨_, rfl, Grew.refl _, rfl⟩
  · intro a w ht hs hg -- 25
    have h3 := By.same_get hs 3 (by decide) (by kernel_rfl)
    refine By.yes rfl ?_
    clear hs hg
    refine wp_ld 45 rfl h3 (FO.out w ⟨ht.os, ht.tape, ht.output, ht.size, ht.block⟩) ?_
    exact ⟨_, rfl, Grew.refl _, rfl⟩
  · intro a w ht hs hg -- 26
    have h23 : a.tmps.getD 23 undef = _ := By.given_get hg 3 rfl rfl (by kernel_rfl)
    have h24 : a.tmps.getD 24 undef = _ := By.given_get hg 4 rfl rfl (by kernel_rfl)
    have h25 : a.tmps.getD 25 undef = _ := By.given_get hg 5 rfl rfl (by kernel_rfl)
    refine By.yes rfl ?_
    clear hs hg
    have hd := HD.out w ⟨ht.os, ht.tape, ht.output, ht.size, ht.block⟩
    go_simp
    refine hd.mono ?_
    rintro e w' ⟨v1, v2, rfl, hr, hb⟩
    exact ⟨_, rfl, hb, ⟨v1, v2, rfl, hr⟩⟩
  · intro a w ht hs hg -- 27
    have h26 := By.given_get hg 6 rfl rfl (by kernel_rfl)
    refine By.yes rfl ?_
    obtain ⟨v26, hv26⟩ : ∃ v, a.tmps.getD 26 undef = v := ⟨_, rfl⟩
    replace h26 := (congrArg (fun v => (resM R hR E).on v w) hv26).mp h26
    clear hs hg
    obtain ⟨v1, v2, rfl, hr⟩ := h26
    have Hr := Lib.hid hr
    clear hr
    go_simp
    exact ⟨_, rfl, Grew.refl _, ⟨v1, v2, rfl, Hr.out⟩⟩
  · intro a w ht hs hg -- 28
    have h26 := By.given_get hg 6 rfl rfl (by kernel_rfl)
    refine By.yes rfl ?_
    obtain ⟨v26, hv26⟩ : ∃ v, a.tmps.getD 26 undef = v := ⟨_, rfl⟩
    replace h26 := (congrArg (fun v => (resM R hR E).on v w) hv26).mp h26
    clear hs hg
    obtain ⟨v1, v2, rfl, hr⟩ := h26
    clear hr
    go_simp
    exact ⟨_, rfl, Grew.refl _, rfl⟩
  refine By.ends_skip fun v20 => (By.ends_is (By.ends_is (By.ends_is (By.ends_is (By.ends_is (By.ends_skip fun v26 => (By.ends_any fun v27 => (By.ends_is (By.ends_nil fun W9 hw9 => ?_)))))))))
  simp only [Act.put, List.setIfInBounds_toArray, List.set_cons_succ, List.set_cons_zero]
  simp only [List.drop_succ_cons, List.drop_zero]
  obtain ⟨hw9, hl9⟩ := hw9
  obtain ⟨v1, v2, rfl, hr⟩ := (show ∃ v1 v2, v27 = .agg #[v1, v2] ∧ R W9 v1 v2 from hl9)
  have hb9 : Below W3.heap.size W3 W9 := ⟨hw9.os, hw9.tape, hw9.output, hw9.size, hw9.block⟩
  have HB9 := Lib.hid (show Below w.heap.size w W9 from nextB HB13.out (Nat.le_refl _) hb9)
  have HR9 := Lib.hid (HRr.out.below hb9 HRr.out.lt)
  have Hres := Lib.hid (Hst.out W9 v1 v2 v1 v2 hr)
  have H1 := Lib.hid (hR.one _ _ _ hr)
  rw [HG2.out] at Hres
  clear hw9 hl9 hr hb9
  refine wpList_storeRow rfl 27 (.tmp 4) (.tmp 27) rfl rfl (cs := [v1, v2]) rfl HR9.out (by kernel_rfl) rfl rfl (by intro v hv; simp only [List.mem_cons, List.not_mem_nil, or_false] at hv; rcases hv with rfl | rfl; exact H1.out.1; exact H1.out.2) ?_
  go_wp2
  refine bodyPost_ret (results_ct rfl rfl (HR9.out.setRow [v1, v2]) Try.underlying27 rfl (by kernel_rfl) rfl) rfl ?_
  exact ⟨v1, v2, rfl, Hres.out, below_setRow HB9.out (by have := HG2.out; omega) _⟩

theorem res_new (base : Nat) (c : Cf) : Res (fun w v1 v2 => CNew w base v1 v2 c) := ⟨fun _ _ _ _ h hb => h.below hb, fun _ _ _ h => h.one⟩
/-- A peer is set. -/
theorem DoPeer {w : World} {B : Nat} {vp vr : Value} {c : Cf} {o : Opn} (h : CAt w B vp vr c) (hV : Val c) (hk : o.ky.length = 32) (hkind : o.kind = 1) (hok : okO o = true) (hfull : has Mb.key (o.id, 0) c.ps = true ∨ c.ps.length ≠ 64) (hB : B ≤ w.heap.size) :
    Calls Try.prog 34 #[.agg #[vp, vr], o.val] w fun e w' => ∃ v1 v2, e = .returned (.tuple #[.agg #[v1, v2], .int .i64 0]) ∧ CNew w' w.heap.size v1 v2 ⟨setL c.ps ⟨o.id, o.ky, false⟩, c.rs⟩ ∧ Below w.heap.size w w' :=
  (Do_1 h hV hk hkind hok hB 0 (fun w' v1 v2 => CNew w' (w.heap.size + 1 + 1 + 1) v1 v2 ⟨setL c.ps ⟨o.id, o.ky, false⟩, c.rs⟩) (res_new _ _) (fun _ _ _ _ _ hr => hr.setRow (Nat.lt_succ_self _) _)
    (fun W hb hlt => (setPeer_ok (h.below (hb.mono hB)) hV hk hfull (Nat.le_trans hB hb.size)).mono fun _ _ ⟨v1, v2, h1, h2, h3⟩ => ⟨v1, v2, h1, h2.less hlt, h3⟩)).mono fun _ _ ⟨v1, v2, h1, h2, h3⟩ => ⟨v1, v2, h1, h2.less (by omega), h3⟩

end Go.Proofs.Ytlphmbefcbhhpaa.Cfg
