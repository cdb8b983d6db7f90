/- config: Copy, setOff. -/
import Derived.Test.YtlphmbefcbhhpaaCfgBlock
namespace Go.Proofs.Ytlphmbefcbhhpaa.Cfg
open Go.RowKit
theorem results_c {P : Program} {fn : Func} {tmps : Array Value} {w : World} {p : Tmp} {ty : TypeId} (hr : fn.results = #[.cell p ty]) {g : Nat} {t' : TypeId} {cs : List Value} {d : TypeDesc}
    (hp : tmps.getD p undef = .pointer (some ⟨g, 0, none⟩)) (h : Row w g cs t') (hu : P.underlying ty = some d) (hd : (match d with | .struct _ | .array _ _ => true | _ => false) = true) {n : Nat}
    (hi : (P.info? ty).map (·.size) = some n) (hn : cs.length = n) : (results fn tmps).run P w = .ok (.agg cs.toArray) w := by
  have hp' : tmps[p]?.getD undef = .pointer (some ⟨g, 0, none⟩) := by simpa using hp
  simp [results, hr, hp', asAddr, run_loadVar_row w g t' ty cs.toArray (0, 0) d h hu hd (by rw [hi]; simp [hn])]
theorem flat_set {α : Type} (f : α → List Value) (k : Nat) {j : Nat} {v : Value} {x x' : α} (hj : j < k) (hx' : f x' = (f x).set j v) : ∀ (l : List α) (p : Nat), (∀ y ∈ l, (f y).length = k) → l[p]? = some x → (l.flatMap f).set (p * k + j) v = (l.set p x').flatMap f
  | [], p, _, h => by simp at h
  | y :: l, 0, hl, h => by
    simp only [List.getElem?_cons_zero, Option.some.injEq] at h
    subst h
    have hy := hl y (by simp)
    rw [List.set_cons_zero, List.flatMap_cons, List.flatMap_cons, hx', Nat.zero_mul, Nat.zero_add, List.set_append_left _ _ (by omega)]
  | y :: l, p + 1, hl, h => by
    simp only [List.getElem?_cons_succ] at h
    have hy := hl y (by simp)
    rw [List.set_cons_succ, List.flatMap_cons, List.flatMap_cons, List.set_append_right _ _ (by rw [hy, Nat.add_mul]; omega), hy, show (p + 1) * k + j - k = p * k + j by rw [Nat.add_mul]; omega, flat_set f k hj hx' l p (fun z hz => hl z (by simp [hz])) h]
theorem Mb.set_off {m : Mb} (h : m.ky.length = 32) : Mb.cs { m with off := true } = m.cs.set 33 (.bool true) := by
  unfold Mb.cs
  rw [List.set_cons_succ, List.set_append_right _ _ (by simp [h])]
  simp [h]
/-- A peer of one's own table is put off. -/
theorem OwnM.off {w : World} {base g n cap p : Nat} {l : List Mb} {m : Mb} (h : OwnM w base (.slice (some ⟨g, 0, none⟩) n cap) l) (hm : l[p]? = some m) :
    w.cell? ⟨g, p * 34 + 33, none⟩ = some (.bool m.off) ∧ w.frozen? ⟨g, p * 34 + 33, none⟩ = false ∧ base ≤ g ∧ OwnM (w.setCell ⟨g, p * 34 + 33, none⟩ (.bool true)) base (.slice (some ⟨g, 0, none⟩) n cap) (l.set p { m with off := true }) := by
  obtain ⟨hk, hl, hr⟩ := h
  have hlt := (List.getElem?_eq_some_iff.1 hm).1
  rcases hr with ⟨e, _⟩ | ⟨g', cap', cur, e, hb, hg, hnc, hcm, hsz, htk⟩
  · cases e
  · simp only [Value.slice.injEq, Option.some.injEq, Addr.mk.injEq, and_true] at e
    obtain ⟨rfl, en, rfl⟩ := e
    have hmk := hk m (List.mem_of_getElem? hm)
    have hat : (mcs l)[p * 34 + 33]? = some (.bool m.off) := by
      have h1 := flat_at Mb.cs 34 (fun x hx => Mb.len (hk x hx)) hm
      have h2 : (m.cs)[33]? = some (.bool m.off) := by simp [Mb.cs, hmk]
      rw [← h1, List.getElem?_take, if_pos (by omega), List.getElem?_drop] at h2
      exact h2
    have hcur : cur[p * 34 + 33]? = some (.bool m.off) := by
      rw [← htk, List.getElem?_take] at hat
      split at hat
      · simpa using hat
      · cases hat
    refine ⟨?_, ?_, hb, fun y hy => ?_, ?_, ?_⟩
    · simp [World.cell?, hg, hcur]
    · simp [World.frozen?, hg]
    · rcases List.mem_or_eq_of_mem_set hy with hy | rfl
      · exact hk y hy
      · exact hmk
    · rw [List.length_set]; rw [show mcs (l.set p { m with off := true }) = (mcs l).set (p * 34 + 33) (.bool true) from (flat_set Mb.cs 34 (by decide) (Mb.set_off hmk) l p (fun x hx => Mb.len (hk x hx)) hm).symm, List.length_set]; exact hl
    · refine .inr ⟨g, cap, cur.setIfInBounds (p * 34 + 33) (.bool true), by rw [List.length_set, en], hb, ?_, by rw [List.length_set]; exact hnc, hcm, by simpa using hsz, ?_⟩
      · simp [World.setCell, Array.getElem?_modify, hg]
      · rw [List.length_set, Array.toList_setIfInBounds, List.take_set, htk]
        exact flat_set Mb.cs 34 (by decide) (Mb.set_off hmk) l p (fun x hx => Mb.len (hk x hx)) hm
/-- A store into one's own peers leaves one's own routes. -/
theorem OwnR.setM {w : World} {base g i n cap : Nat} {v : Value} {l : List Mb} {r : List Rt} (h : OwnR w base v r) (hm : OwnM w base (.slice (some ⟨g, 0, none⟩) n cap) l) (u : Value) : OwnR (w.setCell ⟨g, i, none⟩ u) base v r := by
  rcases hm.2.2 with ⟨e, _⟩ | ⟨g1, cap1, cur1, e, _, hg, _⟩
  · cases e
  · simp only [Value.slice.injEq, Option.some.injEq, Addr.mk.injEq, and_true] at e
    obtain ⟨rfl, _, rfl⟩ := e
    refine ⟨h.1, ?_⟩
    rcases h.2 with h2 | ⟨g', cap, cur, e', hb, hgg, rr⟩
    · exact .inl h2
    · refine .inr ⟨g', cap, cur, e', hb, ?_, rr⟩
      have hne : g' ≠ g := by
        rintro rfl
        rw [hg] at hgg
        injection hgg with hgg
        injection hgg with _ ht _
        exact absurd ht (by decide)
      rw [heap_setCell_other w ⟨g, i, none⟩ g' u hne]
      exact hgg
set_option maxRecDepth 100000 in
set_option maxHeartbeats 4000000 in
theorem Copy_any {w : World} {B : Nat} {vp vr : Value} {c : Cf} (h : CAt w B vp vr c) (h1 : c.ps.length ≤ 1000) (h2 : c.rs.length ≤ 1000) (hB : B ≤ w.heap.size) :
    Calls Try.prog 27 #[.agg #[vp, vr]] w fun e w' => ∃ v1 v2, e = .returned (.agg #[v1, v2]) ∧ CNew w' w.heap.size v1 v2 c ∧ Below w.heap.size w w' := by
  obtain ⟨A1, n1, A2, n2, rfl, rfl⟩ := h.shape
  obtain ⟨W1, hW1⟩ : ∃ W1, (w.alloc (.cells #[.slice A1 c.ps.length n1, .slice A2 c.rs.length n2] 27)).alloc (.cells #[.slice none 0 0, .slice none 0 0] 27) = W1 := ⟨_, rfl⟩
  have hb1 : Below w.heap.size w W1 := hW1 ▸ ((Below.refl _ w).alloc (Nat.le_refl _) _).alloc (by simp) _
  have hr0 : Row W1 w.heap.size [.slice A1 c.ps.length n1, .slice A2 c.rs.length n2] 27 := hW1 ▸ (Row.new rfl rfl : Row (w.alloc (.cells #[.slice A1 c.ps.length n1, .slice A2 c.rs.length n2] 27)) w.heap.size [.slice A1 c.ps.length n1, .slice A2 c.rs.length n2] 27).alloc _
  have hr2 : Row W1 (w.heap.size + 1) [.slice none 0 0, .slice none 0 0] 27 := hW1 ▸ Row.new (by simp) rfl
  obtain ⟨g0, hg0⟩ : ∃ g, w.heap.size = g := ⟨_, rfl⟩
  obtain ⟨g2, hg2⟩ : ∃ g, w.heap.size + 1 = g := ⟨_, rfl⟩
  have HG2 := Lib.hid hg2
  have HB12 := Lib.hid hb1
  have HRc := Lib.hid (show Row W1 g0 [.slice A1 c.ps.length n1, .slice A2 c.rs.length n2] 27 from hg0 ▸ hr0)
  have HRr := Lib.hid (show Row W1 g2 [.slice none 0 0, .slice none 0 0] 27 from hg2 ▸ hr2)
  have F0 := Lib.hid (fun w' (h : Below W1.heap.size W1 w') => (HRc.out.below h HRc.out.lt).cell (i := 0) rfl)
  have F1 := Lib.hid (fun w' (h : Below W1.heap.size W1 w') => (HRc.out.below h HRc.out.lt).cell (i := 1) rfl)
  have HC := Lib.hid h
  have HT := Lib.hid (fun w' (hh : Below W1.heap.size W1 w') => show CAt w' B (.slice A1 c.ps.length n1) (.slice A2 c.rs.length n2) c from HC.out.below ((nextB HB12.out (Nat.le_refl _) hh).mono hB))
  have HN := Lib.hid (And.intro h1 h2)
  clear h h1 h2 hb1 hr0 hr2
  go_enter Try.func27, Try.ntmps27
  go_wp2_with fail
  rw [hg0] at hg2
  rw [hg2]
  clear hg0 hg2 hW1
  refine Tail.marksAt mixed 7 Grew [By.is (.pointer (some ⟨g0, 0, none⟩)),
    By.is (.slice A1 c.ps.length n1),
    ownMM W1.heap.size c.ps,
    By.is (.pointer (some ⟨g0, 1, none⟩)),
    By.is (.slice A2 c.rs.length n2),
    ownRM W1.heap.size c.rs,
    aggM (fun w v1 v2 => CNew w W1.heap.size v1 v2 c) (res_new _ _)]
    (Ev.masks _ []) (Nat.zero_lt_succ _) (by kernel_rfl) (by kernel_rfl) rfl Grew.refl Grew.trans ⟨?_, ?_, ?_, ?_, ?_, ?_, ?_, trivial⟩ ?_
  · intro a w' ht hs hg -- 3
    have h2 := By.same_get hs 1 (by decide) (by kernel_rfl)
    refine By.yes rfl ?_
    clear hs hg
    go_simp
    exact ⟨_, rfl, Grew.refl _, rfl⟩
  · intro a w' ht hs hg -- 4
    have h0 : a.tmps.getD 3 undef = _ := By.given_get hg 0 rfl rfl (by kernel_rfl)
    refine By.yes rfl ?_
    clear hs hg
    have hc := F0.out w' ⟨ht.os, ht.tape, ht.output, ht.size, ht.block⟩
    go_simp
    exact ⟨_, rfl, Grew.refl _, rfl⟩
  · intro a w' ht hs hg -- 5
    have h21 : a.tmps.getD 4 undef = _ := By.given_get hg 1 rfl rfl (by kernel_rfl)
    refine By.yes rfl ?_
    clear hs hg
    have hb : Below W1.heap.size W1 w' := ⟨ht.os, ht.tape, ht.output, ht.size, ht.block⟩
    have HCl := Lib.hid (clone1_any (w := w') (B := B) (HT.out w' hb).1 (by have := HN.out; omega))
    have Hs := Lib.hid hb.size
    clear hb
    go_simp
    refine HCl.out.mono ?_
    rintro e w2 ⟨v', rfl, ho, hb2⟩
    exact ⟨_, rfl, hb2, ho.less Hs.out⟩
  · intro a w' ht hs hg -- 6
    have h2 := By.same_get hs 1 (by decide) (by kernel_rfl)
    refine By.yes rfl ?_
    clear hs hg
    go_simp
    exact ⟨_, rfl, Grew.refl _, rfl⟩
  · intro a w' ht hs hg -- 7
    have h0 : a.tmps.getD 6 undef = _ := By.given_get hg 3 rfl rfl (by kernel_rfl)
    refine By.yes rfl ?_
    clear hs hg
    have hc := F1.out w' ⟨ht.os, ht.tape, ht.output, ht.size, ht.block⟩
    go_simp
    exact ⟨_, rfl, Grew.refl _, rfl⟩
  · intro a w' ht hs hg -- 8
    have h21 : a.tmps.getD 7 undef = _ := By.given_get hg 4 rfl rfl (by kernel_rfl)
    refine By.yes rfl ?_
    clear hs hg
    have hb : Below W1.heap.size W1 w' := ⟨ht.os, ht.tape, ht.output, ht.size, ht.block⟩
    have HCl := Lib.hid (clone2_any (w := w') (B := B) (HT.out w' hb).2 (by have := HN.out; omega))
    have Hs := Lib.hid hb.size
    clear hb
    go_simp
    refine HCl.out.mono ?_
    rintro e w2 ⟨v', rfl, ho, hb2⟩
    exact ⟨_, rfl, hb2, ho.less Hs.out⟩
  · intro a w' ht hs hg -- 9
    have h22 := By.given_get hg 2 rfl rfl (by kernel_rfl)
    obtain ⟨v5, hv5⟩ : ∃ v, a.tmps.getD 5 undef = v := ⟨_, rfl⟩
    replace h22 := (congrArg (fun v => ((ownMM W1.heap.size c.ps)).on v w') hv5).mp h22
    have h28 := By.given_get hg 5 rfl rfl (by kernel_rfl)
    obtain ⟨v8, hv8⟩ : ∃ v, a.tmps.getD 8 undef = v := ⟨_, rfl⟩
    replace h28 := (congrArg (fun v => ((ownRM W1.heap.size c.rs)).on v w') hv8).mp h28
    refine By.yes rfl ?_
    clear hs hg
    have h22' : OwnM w' W1.heap.size v5 c.ps := h22
    have h28' : OwnR w' W1.heap.size v8 c.rs := h28
    clear h22 h28
    obtain ⟨A3, n3, rfl⟩ := h22'.shape
    obtain ⟨A4, n4, rfl⟩ := h28'.shape
    have HM := Lib.hid h22'
    have HR := Lib.hid h28'
    clear h22' h28'
    have e22 := (Array.getD_eq_getD_getElem? ..).symm.trans hv5
    have e28 := (Array.getD_eq_getD_getElem? ..).symm.trans hv8
    go_simp
    exact ⟨_, rfl, Grew.refl _, ⟨_, _, rfl, ⟨HM.out, HR.out⟩⟩⟩
  refine By.ends_is (By.ends_is (By.ends_skip fun v5 => (By.ends_is (By.ends_is (By.ends_skip fun v8 => (By.ends_any fun v9 => (By.ends_nil fun W9 hw9 => ?_)))))))
  simp only [Act.put, List.setIfInBounds_toArray, List.set_cons_succ, List.set_cons_zero]
  simp only [List.drop_succ_cons, List.drop_zero]
  obtain ⟨hw9, hl9⟩ := hw9
  obtain ⟨v1, v2, rfl, hr⟩ := (show ∃ v1 v2, v9 = .agg #[v1, v2] ∧ CNew W9 W1.heap.size v1 v2 c from hl9)
  have hb9 : Below W1.heap.size W1 W9 := ⟨hw9.os, hw9.tape, hw9.output, hw9.size, hw9.block⟩
  have HB9 := Lib.hid (show Below w.heap.size w W9 from nextB HB12.out (Nat.le_refl _) hb9)
  have HR9 := Lib.hid (HRr.out.below hb9 HRr.out.lt)
  have Hres := Lib.hid ((hr.setRow (g := g2) (show g2 < W1.heap.size from HRr.out.lt) #[v1, v2]).less (base' := w.heap.size) HB12.out.size)
  have H1 := Lib.hid hr.one
  clear hw9 hl9 hr hb9
  refine wpList_storeRow rfl 27 (.tmp 2) (.tmp 9) rfl rfl (cs := [v1, v2]) rfl HR9.out (by kernel_rfl) rfl rfl (by intro v hv; simp only [List.mem_cons, List.not_mem_nil, or_false] at hv; rcases hv with rfl | rfl; exact H1.out.1; exact H1.out.2) ?_
  go_wp2
  refine bodyPost_ret (results_c rfl rfl (HR9.out.setRow [v1, v2]) Try.underlying27 rfl (by kernel_rfl) rfl) rfl ?_
  exact ⟨v1, v2, rfl, Hres.out, below_setRow HB9.out (by have := HG2.out; omega) _⟩
set_option maxRecDepth 100000 in
set_option maxHeartbeats 2000000 in
theorem setOff_none {w : World} {B : Nat} {vp vr : Value} {c : Cf} {o : Opn} (h : CAt w B vp vr c) (hV : Val c) (hk : o.ky.length = 32) (hpeer : has Mb.key (o.id, 0) c.ps = false) (hB : B ≤ w.heap.size) :
    Calls Try.prog 142 #[.agg #[vp, vr], o.val] w fun e w' => e = .returned (.tuple #[zcfg, .int .i64 6]) ∧ Below w.heap.size w w' := by
  obtain ⟨A1, n1, A2, n2, rfl, rfl⟩ := h.shape
  obtain ⟨W1, hW1⟩ : ∃ W1, ((w.alloc (.cells #[.slice A1 c.ps.length n1, .slice A2 c.rs.length n2] 27)).alloc (.cells o.cs.toArray 45)).alloc (.cells #[.slice none 0 0, .slice none 0 0] 27) = W1 := ⟨_, rfl⟩
  have hb1 : Below w.heap.size w W1 := hW1 ▸ (((Below.refl _ w).alloc (Nat.le_refl _) _).alloc (by simp) _).alloc (by simp; omega) _
  have hr0 : Row W1 w.heap.size [.slice A1 c.ps.length n1, .slice A2 c.rs.length n2] 27 := hW1 ▸ ((Row.new rfl rfl : Row (w.alloc (.cells #[.slice A1 c.ps.length n1, .slice A2 c.rs.length n2] 27)) w.heap.size [.slice A1 c.ps.length n1, .slice A2 c.rs.length n2] 27).alloc _).alloc _
  have hr1 : Row W1 (w.heap.size + 1) o.cs 45 := hW1 ▸ (Row.new (by simp) rfl : Row ((w.alloc (.cells #[.slice A1 c.ps.length n1, .slice A2 c.rs.length n2] 27)).alloc (.cells o.cs.toArray 45)) (w.heap.size + 1) o.cs 45).alloc _
  have hr2 : Row W1 (w.heap.size + 1 + 1) [.slice none 0 0, .slice none 0 0] 27 := hW1 ▸ Row.new (by simp) rfl
  have c0 := hr0.cell (i := 0) rfl
  have c1 := hr0.cell (i := 1) rfl
  have ci := hr1.cell (i := 2) rfl
  have ca := hr1.cell (i := 35) (Opn.at35 hk)
  have cb := hr1.cell (i := 36) (Opn.at36 hk)
  have HR0 := Lib.hid hr0
  have HR1 := Lib.hid hr1
  have HR2 := Lib.hid hr2
  have HB1 := Lib.hid hb1
  have HC := Lib.hid h
  have Hk := Lib.hid hk
  have HV := Lib.hid hV
  have HBw := Lib.hid hB
  have HAt := Lib.hid (At1_any (w := W1) (B := B) (vp := .slice A1 c.ps.length n1) (vr := .slice A2 c.rs.length n2) (h.1.below (hb1.mono hB)) (by have := hV.1; omega) hV.2.2.2.1 rfl rfl o.id (Nat.le_trans hB hb1.size))
  obtain ⟨p, hp⟩ : ∃ p, pos Mb.key (o.id, 0) c.ps = p := ⟨_, rfl⟩
  rw [hp, hpeer] at HAt
  clear h hV hk hB hb1 hr0 hr1 hr2 hp hpeer
  unfold Opn.val
  go_enter Try.func142, Try.ntmps142
  go_wp2_with fail
  refine HAt.out.mono ?_
  rintro e W2 ⟨rfl, hb⟩
  have HR0' := Lib.hid (HR0.out.below hb HR0.out.lt)
  have HR1' := Lib.hid (HR1.out.below hb HR1.out.lt)
  have HR2' := Lib.hid (HR2.out.below hb HR2.out.lt)
  have HB12 := Lib.hid (show Below w.heap.size w W2 from nextB HB1.out (Nat.le_refl _) hb)
  have d0 := HR0'.out.cell (i := 0) rfl
  have d1 := HR0'.out.cell (i := 1) rfl
  have di := HR1'.out.cell (i := 2) rfl
  have da := HR1'.out.cell (i := 35) (Opn.at35 Hk.out)
  have db := HR1'.out.cell (i := 36) (Opn.at36 Hk.out)
  clear hb c0 c1 ci ca cb hW1
  clear HAt HC HV Hk
  have f0 := frozen_row HR2'.out 0
  have f1 := frozen_row HR2'.out 1
  have g0 := HR2'.out.cell (i := 0) rfl
  have g1 := HR2'.out.cell (i := 1) rfl
  go_wp2_with fail
  refine bodyPost_ret (results_ct rfl rfl ((HR2'.out.set 0 _).set 1 _) Try.underlying27 rfl (by kernel_rfl) rfl) rfl ?_
  exact ⟨rfl, (HB12.out.setCell (by simp; omega) _).setCell (by simp; omega) _⟩
set_option maxRecDepth 100000 in
set_option maxHeartbeats 4000000 in
theorem setOff_ok {w : World} {B : Nat} {vp vr : Value} {c : Cf} {o : Opn} (h : CAt w B vp vr c) (hV : Val c) (hk : o.ky.length = 32) (hpeer : has Mb.key (o.id, 0) c.ps = true) (hB : B ≤ w.heap.size) :
    ∃ m, m ∈ c.ps ∧ m.id = o.id ∧ Calls Try.prog 142 #[.agg #[vp, vr], o.val] w fun e w' => ∃ v1 v2, e = .returned (.tuple #[.agg #[v1, v2], .int .i64 0]) ∧ CNew w' w.heap.size v1 v2 ⟨setL c.ps { m with off := true }, c.rs⟩ ∧ Below w.heap.size w w' := by
  obtain ⟨m, hm, hmk⟩ := at_pos (key := Mb.key) (o.id, 0) hV.2.2.2.1 hpeer
  have hmid : m.id = o.id := by have : (m.id, (0 : Int)) = (o.id, 0) := hmk; simpa using this
  refine ⟨m, List.mem_of_getElem? hm, hmid, ?_⟩
  have hset : setL c.ps { m with off := true } = c.ps.set (pos Mb.key (o.id, 0) c.ps) { m with off := true } := by
    have e := setL_is hV.2.2.2.1 ({ m with off := true } : Mb) rfl
    rw [← hmid] at hpeer hm ⊢
    rw [show ({ m with off := true } : Mb).id = m.id from rfl, hpeer, if_pos rfl] at e
    rw [← e, List.set_eq_take_append_cons_drop, if_pos (List.getElem?_eq_some_iff.1 hm).1, List.append_assoc]
    rfl
  rw [hset]
  clear hset hmk hmid
  obtain ⟨A1, n1, A2, n2, rfl, rfl⟩ := h.shape
  obtain ⟨W1, hW1⟩ : ∃ W1, ((w.alloc (.cells #[.slice A1 c.ps.length n1, .slice A2 c.rs.length n2] 27)).alloc (.cells o.cs.toArray 45)).alloc (.cells #[.slice none 0 0, .slice none 0 0] 27) = W1 := ⟨_, rfl⟩
  have hb1 : Below w.heap.size w W1 := hW1 ▸ (((Below.refl _ w).alloc (Nat.le_refl _) _).alloc (by simp) _).alloc (by simp; omega) _
  have hr0 : Row W1 w.heap.size [.slice A1 c.ps.length n1, .slice A2 c.rs.length n2] 27 := hW1 ▸ ((Row.new rfl rfl : Row (w.alloc (.cells #[.slice A1 c.ps.length n1, .slice A2 c.rs.length n2] 27)) w.heap.size [.slice A1 c.ps.length n1, .slice A2 c.rs.length n2] 27).alloc _).alloc _
  have hr1 : Row W1 (w.heap.size + 1) o.cs 45 := hW1 ▸ (Row.new (by simp) rfl : Row ((w.alloc (.cells #[.slice A1 c.ps.length n1, .slice A2 c.rs.length n2] 27)).alloc (.cells o.cs.toArray 45)) (w.heap.size + 1) o.cs 45).alloc _
  have hr2 : Row W1 (w.heap.size + 1 + 1) [.slice none 0 0, .slice none 0 0] 27 := hW1 ▸ Row.new (by simp) rfl
  have c0 := hr0.cell (i := 0) rfl
  have c1 := hr0.cell (i := 1) rfl
  have ci := hr1.cell (i := 2) rfl
  have ca := hr1.cell (i := 35) (Opn.at35 hk)
  have cb := hr1.cell (i := 36) (Opn.at36 hk)
  have HR0 := Lib.hid hr0
  have HR1 := Lib.hid hr1
  have HR2 := Lib.hid hr2
  have HB1 := Lib.hid hb1
  have HC := Lib.hid h
  have Hk := Lib.hid hk
  have HV := Lib.hid hV
  have HBw := Lib.hid hB
  have HAt := Lib.hid (At1_any (w := W1) (B := B) (vp := .slice A1 c.ps.length n1) (vr := .slice A2 c.rs.length n2) (h.1.below (hb1.mono hB)) (by have := hV.1; omega) hV.2.2.2.1 rfl rfl o.id (Nat.le_trans hB hb1.size))
  obtain ⟨p, hp⟩ : ∃ p, pos Mb.key (o.id, 0) c.ps = p := ⟨_, rfl⟩
  rw [hp, hpeer] at HAt
  rw [hp] at hm ⊢
  have HM := Lib.hid hm
  clear h hV hk hB hb1 hr0 hr1 hr2 hp hpeer hm
  unfold Opn.val
  go_enter Try.func142, Try.ntmps142
  go_wp2_with fail
  refine HAt.out.mono ?_
  rintro e W2 ⟨rfl, hb⟩
  have HR0' := Lib.hid (HR0.out.below hb HR0.out.lt)
  have HR1' := Lib.hid (HR1.out.below hb HR1.out.lt)
  have HR2' := Lib.hid (HR2.out.below hb HR2.out.lt)
  have HB12 := Lib.hid (show Below w.heap.size w W2 from nextB HB1.out (Nat.le_refl _) hb)
  have d0 := HR0'.out.cell (i := 0) rfl
  have d1 := HR0'.out.cell (i := 1) rfl
  have di := HR1'.out.cell (i := 2) rfl
  have da := HR1'.out.cell (i := 35) (Opn.at35 Hk.out)
  have db := HR1'.out.cell (i := 36) (Opn.at36 Hk.out)
  clear hb c0 c1 ci ca cb hW1
  have HCp := Lib.hid (Copy_any (w := W2) (B := B) (HC.out.below (HB12.out.mono HBw.out)) (by have := HV.out.1; omega) (by have := HV.out.2.1; omega) (Nat.le_trans HBw.out HB12.out.size))
  clear HAt
  go_wp2_with fail
  refine HCp.out.mono ?_
  rintro e W3 ⟨v1, v2, rfl, hn, hb3⟩
  have hlt := (List.getElem?_eq_some_iff.1 HM.out).1
  obtain ⟨g5, n5, rfl⟩ : ∃ g n, v1 = .slice (some ⟨g, 0, none⟩) c.ps.length n := by
    rcases hn.ps.2.2 with ⟨_, e0⟩ | ⟨g, cap, _, e, _⟩
    · omega
    · exact ⟨g, cap, e⟩
  obtain ⟨A6, n6, rfl⟩ := hn.rs.shape
  have HNw := Lib.hid hn
  have HB13 := Lib.hid (show Below w.heap.size w W3 from nextB HB12.out (Nat.le_refl _) hb3)
  have K2 := Lib.hid (HR2'.out.below hb3 HR2'.out.lt)
  have HS23 := Lib.hid (show w.heap.size + 1 + 1 + 1 ≤ W2.heap.size from HR2'.out.lt)
  obtain ⟨W4, hW4⟩ : ∃ W4, W3.alloc (.cells #[.slice (some ⟨g5, 0, none⟩) c.ps.length n5, .slice A6 c.rs.length n6] 27) = W4 := ⟨_, rfl⟩
  have hb34 : Below W3.heap.size W3 W4 := hW4 ▸ (Below.refl _ W3).alloc (Nat.le_refl _) _
  have HR8 := Lib.hid (show Row W4 W3.heap.size [.slice (some ⟨g5, 0, none⟩) c.ps.length n5, .slice A6 c.rs.length n6] 27 from hW4 ▸ Row.new rfl rfl)
  have HN4 := Lib.hid (HNw.out.below hb34)
  have HB14 := Lib.hid (show Below w.heap.size w W4 from nextB HB13.out (Nat.le_refl _) hb34)
  have L2 := Lib.hid (K2.out.below hb34 K2.out.lt)
  have HOff := Lib.hid (OwnM.off HN4.out.ps HM.out)
  have q0 := HOff.out.1
  have q1 := HOff.out.2.1
  have s0 := HR8.out.cell (i := 0) rfl
  have s1 := HR8.out.cell (i := 1) rfl
  have hp0 : 0 ≤ (p : Int) := by omega
  have hp1 : (p : Int) < (c.ps.length : Int) := by omega
  have hg5 : g5 < W3.heap.size := by
    have h := HNw.out.ps.2.2
    rcases h with ⟨e, _⟩ | ⟨g, cap, cur, e, _, hg, _⟩
    · cases e
    · simp only [Value.slice.injEq, Option.some.injEq, Addr.mk.injEq, and_true] at e
      rw [e.1]; exact (Array.getElem?_eq_some_iff.1 hg).1
  have HG5 := Lib.hid hg5
  have f0 := frozen_row L2.out 0
  have f1 := frozen_row L2.out 1
  have g0 := L2.out.cell (i := 0) rfl
  have g1 := L2.out.cell (i := 1) rfl
  have hne : ¬ g5 = w.heap.size + 1 + 1 := by have := HOff.out.2.2.1; have := HS23.out; omega
  have hne' : ¬ w.heap.size + 1 + 1 = g5 := fun e => hne e.symm
  have hne3 : ¬ g5 = W3.heap.size := by omega
  have hne3' : ¬ W3.heap.size = g5 := fun e => hne3 e.symm
  clear hn hb3 hb34 d0 d1 di da db HCp hlt hg5
  go_wp2_with fail
  have HX := Lib.hid ((((⟨HOff.out.2.2.2, HN4.out.rs.setM HN4.out.ps _⟩ : CNew (W4.setCell ⟨g5, p * 34 + 33, none⟩ (.bool true)) W2.heap.size (.slice (some ⟨g5, 0, none⟩) c.ps.length n5) (.slice A6 c.rs.length n6) ⟨c.ps.set p { m with off := true }, c.rs⟩).setCell ⟨w.heap.size + 1 + 1, 0, none⟩ HS23.out (.slice (some ⟨g5, 0, none⟩) c.ps.length n5)).setCell ⟨w.heap.size + 1 + 1, 1, none⟩ HS23.out (.slice A6 c.rs.length n6)).less (base' := w.heap.size) (by have := HS23.out; omega))
  refine bodyPost_ret (results_ct rfl rfl (((L2.out.other ⟨g5, p * 34 + 33, none⟩ (.bool true) (fun e => hne e.symm)).set 0 _).set 1 _) Try.underlying27 rfl (by kernel_rfl) rfl) rfl ?_
  exact ⟨_, _, rfl, HX.out, ((HB14.out.setCell (by have := HOff.out.2.2.1; have := HS23.out; simp; omega) _).setCell (by simp; omega) _).setCell (by simp; omega) _⟩
end Go.Proofs.Ytlphmbefcbhhpaa.Cfg
