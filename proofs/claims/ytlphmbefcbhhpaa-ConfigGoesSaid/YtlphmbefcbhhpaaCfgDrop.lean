/- config: slices.DeleteFunc of routes; drop. -/
import Derived.Test.YtlphmbefcbhhpaaCfgBlock
namespace Go.Proofs.Ytlphmbefcbhhpaa.Cfg
open Go.RowKit
theorem results_c {P : Program} {fn : Func} {tmps : Array Value} {w : World} {p : Tmp} {ty : TypeId} (hr : fn.results = #[.cell p ty]) {g : Nat} {t' : TypeId} {cs : List Value} {d : TypeDesc}
    (hp : tmps.getD p undef = .pointer (some ⟨g, 0, none⟩)) (h : Row w g cs t') (hu : P.underlying ty = some d) (hd : (match d with | .struct _ | .array _ _ => true | _ => false) = true) {n : Nat}
    (hi : (P.info? ty).map (·.size) = some n) (hn : cs.length = n) : (results fn tmps).run P w = .ok (.agg cs.toArray) w := by
  have hp' : tmps[p]?.getD undef = .pointer (some ⟨g, 0, none⟩) := by simpa using hp
  simp [results, hr, hp', asAddr, run_loadVar_row w g t' ty cs.toArray (0, 0) d h hu hd (by rw [hi]; simp [hn])]
theorem flat_set {α : Type} (f : α → List Value) (k : Nat) {j : Nat} {v : Value} {x x' : α} (hj : j < k) (hx' : f x' = (f x).set j v) : ∀ (l : List α) (p : Nat), (∀ y ∈ l, (f y).length = k) → l[p]? = some x → (l.flatMap f).set (p * k + j) v = (l.set p x').flatMap f
  | [], p, _, h => by simp at h
  | y :: l, 0, hl, h => by
    simp only [List.getElem?_cons_zero, Option.some.injEq] at h
    subst h
    have hy := hl y (by simp)
    rw [List.set_cons_zero, List.flatMap_cons, List.flatMap_cons, hx', Nat.zero_mul, Nat.zero_add, List.set_append_left _ _ (by omega)]
  | y :: l, p + 1, hl, h => by
    simp only [List.getElem?_cons_succ] at h
    have hy := hl y (by simp)
    rw [List.set_cons_succ, List.flatMap_cons, List.flatMap_cons, List.set_append_right _ _ (by rw [hy, Nat.add_mul]; omega), hy, show (p + 1) * k + j - k = p * k + j by rw [Nat.add_mul]; omega, flat_set f k hj hx' l p (fun z hz => hl z (by simp [hz])) h]
theorem Mb.set_off {m : Mb} (h : m.ky.length = 32) : Mb.cs { m with off := true } = m.cs.set 33 (.bool true) := by
  unfold Mb.cs
  rw [List.set_cons_succ, List.set_append_right _ _ (by simp [h])]
  simp [h]
/-- A peer of one's own table is put off. -/
theorem OwnM.off {w : World} {base g n cap p : Nat} {l : List Mb} {m : Mb} (h : OwnM w base (.slice (some ⟨g, 0, none⟩) n cap) l) (hm : l[p]? = some m) :
    w.cell? ⟨g, p * 34 + 33, none⟩ = some (.bool m.off) ∧ w.frozen? ⟨g, p * 34 + 33, none⟩ = false ∧ base ≤ g ∧ OwnM (w.setCell ⟨g, p * 34 + 33, none⟩ (.bool true)) base (.slice (some ⟨g, 0, none⟩) n cap) (l.set p { m with off := true }) := by
  obtain ⟨hk, hl, hr⟩ := h
  have hlt := (List.getElem?_eq_some_iff.1 hm).1
  rcases hr with ⟨e, _⟩ | ⟨g', cap', cur, e, hb, hg, hnc, hcm, hsz, htk⟩
  · cases e
  · simp only [Value.slice.injEq, Option.some.injEq, Addr.mk.injEq, and_true] at e
    obtain ⟨rfl, en, rfl⟩ := e
    have hmk := hk m (List.mem_of_getElem? hm)
    have hat : (mcs l)[p * 34 + 33]? = some (.bool m.off) := by
      have h1 := flat_at Mb.cs 34 (fun x hx => Mb.len (hk x hx)) hm
      have h2 : (m.cs)[33]? = some (.bool m.off) := by simp [Mb.cs, hmk]
      rw [← h1, List.getElem?_take, if_pos (by omega), List.getElem?_drop] at h2
      exact h2
    have hcur : cur[p * 34 + 33]? = some (.bool m.off) := by
      rw [← htk, List.getElem?_take] at hat
      split at hat
      · simpa using hat
      · cases hat
    refine ⟨?_, ?_, hb, fun y hy => ?_, ?_, ?_⟩
    · simp [World.cell?, hg, hcur]
    · simp [World.frozen?, hg]
    · rcases List.mem_or_eq_of_mem_set hy with hy | rfl
      · exact hk y hy
      · exact hmk
    · rw [List.length_set]; rw [show mcs (l.set p { m with off := true }) = (mcs l).set (p * 34 + 33) (.bool true) from (flat_set Mb.cs 34 (by decide) (Mb.set_off hmk) l p (fun x hx => Mb.len (hk x hx)) hm).symm, List.length_set]; exact hl
    · refine .inr ⟨g, cap, cur.setIfInBounds (p * 34 + 33) (.bool true), by rw [List.length_set, en], hb, ?_, by rw [List.length_set]; exact hnc, hcm, by simpa using hsz, ?_⟩
      · simp [World.setCell, Array.getElem?_modify, hg]
      · rw [List.length_set, Array.toList_setIfInBounds, List.take_set, htk]
        exact flat_set Mb.cs 34 (by decide) (Mb.set_off hmk) l p (fun x hx => Mb.len (hk x hx)) hm
/-- A store into one's own peers leaves one's own routes. -/
theorem OwnR.setM {w : World} {base g i n cap : Nat} {v : Value} {l : List Mb} {r : List Rt} (h : OwnR w base v r) (hm : OwnM w base (.slice (some ⟨g, 0, none⟩) n cap) l) (u : Value) : OwnR (w.setCell ⟨g, i, none⟩ u) base v r := by
  rcases hm.2.2 with ⟨e, _⟩ | ⟨g1, cap1, cur1, e, _, hg, _⟩
  · cases e
  · simp only [Value.slice.injEq, Option.some.injEq, Addr.mk.injEq, and_true] at e
    obtain ⟨rfl, _, rfl⟩ := e
    refine ⟨h.1, ?_⟩
    rcases h.2 with h2 | ⟨g', cap, cur, e', hb, hgg, rr⟩
    · exact .inl h2
    · refine .inr ⟨g', cap, cur, e', hb, ?_, rr⟩
      have hne : g' ≠ g := by
        rintro rfl
        rw [hg] at hgg
        injection hgg with hgg
        injection hgg with _ ht _
        exact absurd ht (by decide)
      rw [heap_setCell_other w ⟨g, i, none⟩ g' u hne]
      exact hgg
set_option maxRecDepth 100000 in
set_option maxHeartbeats 4000000 in
theorem Copy_any {w : World} {B : Nat} {vp vr : Value} {c : Cf} (h : CAt w B vp vr c) (h1 : c.ps.length ≤ 1000) (h2 : c.rs.length ≤ 1000) (hB : B ≤ w.heap.size) :
    Calls Try.prog 27 #[.agg #[vp, vr]] w fun e w' => ∃ v1 v2, e = .returned (.agg #[v1, v2]) ∧ CNew w' w.heap.size v1 v2 c ∧ Below w.heap.size w w' := by
  obtain ⟨A1, n1, A2, n2, rfl, rfl⟩ := h.shape
  obtain ⟨W1, hW1⟩ : ∃ W1, (w.alloc (.cells #[.slice A1 c.ps.length n1, .slice A2 c.rs.length n2] 27)).alloc (.cells #[.slice none 0 0, .slice none 0 0] 27) = W1 := ⟨_, rfl⟩
  have hb1 : Below w.heap.size w W1 := hW1 ▸ ((Below.refl _ w).alloc (Nat.le_refl _) _).alloc (by simp) _
  have hr0 : Row W1 w.heap.size [.slice A1 c.ps.length n1, .slice A2 c.rs.length n2] 27 := hW1 ▸ (Row.new rfl rfl : Row (w.alloc (.cells #[.slice A1 c.ps.length n1, .slice A2 c.rs.length n2] 27)) w.heap.size [.slice A1 c.ps.length n1, .slice A2 c.rs.length n2] 27).alloc _
  have hr2 : Row W1 (w.heap.size + 1) [.slice none 0 0, .slice none 0 0] 27 := hW1 ▸ Row.new (by simp) rfl
  obtain ⟨g0, hg0⟩ : ∃ g, w.heap.size = g := ⟨_, rfl⟩
  obtain ⟨g2, hg2⟩ : ∃ g, w.heap.size + 1 = g := ⟨_, rfl⟩
  have HG2 := Lib.hid hg2
  have HB12 := Lib.hid hb1
  have HRc := Lib.hid (show Row W1 g0 [.slice A1 c.ps.length n1, .slice A2 c.rs.length n2] 27 from hg0 ▸ hr0)
  have HRr := Lib.hid (show Row W1 g2 [.slice none 0 0, .slice none 0 0] 27 from hg2 ▸ hr2)
  have F0 := Lib.hid (fun w' (h : Below W1.heap.size W1 w') => (HRc.out.below h HRc.out.lt).cell (i := 0) rfl)
  have F1 := Lib.hid (fun w' (h : Below W1.heap.size W1 w') => (HRc.out.below h HRc.out.lt).cell (i := 1) rfl)
  have HC := Lib.hid h
  have HT := Lib.hid (fun w' (hh : Below W1.heap.size W1 w') => show CAt w' B (.slice A1 c.ps.length n1) (.slice A2 c.rs.length n2) c from HC.out.below ((nextB HB12.out (Nat.le_refl _) hh).mono hB))
  have HN := Lib.hid (And.intro h1 h2)
  clear h h1 h2 hb1 hr0 hr2
  go_enter Try.func27, Try.ntmps27
  go_wp2_with fail
  rw [hg0] at hg2
  rw [hg2]
  clear hg0 hg2 hW1
  refine Tail.marksAt mixed 7 Grew [By.is (.pointer (some ⟨g0, 0, none⟩)),
    By.is (.slice A1 c.ps.length n1),
    ownMM W1.heap.size c.ps,
    By.is (.pointer (some ⟨g0, 1, none⟩)),
    By.is (.slice A2 c.rs.length n2),
    ownRM W1.heap.size c.rs,
    aggM (fun w v1 v2 => CNew w W1.heap.size v1 v2 c) (res_new _ _)]
    (Ev.masks _ []) (Nat.zero_lt_succ _) (by kernel_rfl) (by kernel_rfl) rfl Grew.refl Grew.trans ⟨?_, ?_, ?_, ?_, ?_, ?_, ?_, trivial⟩ ?_
  · intro a w' ht hs hg -- 3
    have h2 := By.same_get hs 1 (by decide) (by kernel_rfl)
    refine By.yes rfl ?_
    clear hs hg
    go_simp
    exact ⟨_, rfl, Grew.refl _, rfl⟩
  · intro a w' ht hs hg -- 4
    have h0 : a.tmps.getD 3 undef = _ := By.given_get hg 0 rfl rfl (by kernel_rfl)
    refine By.yes rfl ?_
    clear hs hg
    have hc := F0.out w' ⟨ht.os, ht.tape, ht.output, ht.size, ht.block⟩
    go_simp
    exact ⟨_, rfl, Grew.refl _, rfl⟩
  · intro a w' ht hs hg -- 5
    have h21 : a.tmps.getD 4 undef = _ := By.given_get hg 1 rfl rfl (by kernel_rfl)
    refine By.yes rfl ?_
    clear hs hg
    have hb : Below W1.heap.size W1 w' := ⟨ht.os, ht.tape, ht.output, ht.size, ht.block⟩
    have HCl := Lib.hid (clone1_any (w := w') (B := B) (HT.out w' hb).1 (by have := HN.out; omega))
    have Hs := Lib.hid hb.size
    clear hb
    go_simp
    refine HCl.out.mono ?_
    rintro e w2 ⟨v', rfl, ho, hb2⟩
    exact ⟨_, rfl, hb2, ho.less Hs.out⟩
  · intro a w' ht hs hg -- 6
    have h2 := By.same_get hs 1 (by decide) (by kernel_rfl)
    refine By.yes rfl ?_
    clear hs hg
    go_simp
    exact ⟨_, rfl, Grew.refl _, rfl⟩
  · intro a w' ht hs hg -- 7
    have h0 : a.tmps.getD 6 undef = _ := By.given_get hg 3 rfl rfl (by kernel_rfl)
    refine By.yes rfl ?_
    clear hs hg
    have hc := F1.out w' ⟨ht.os, ht.tape, ht.output, ht.size, ht.block⟩
    go_simp
    exact ⟨_, rfl, Grew.refl _, rfl⟩
  · intro a w' ht hs hg -- 8
    have h21 : a.tmps.getD 7 undef = _ := By.given_get hg 4 rfl rfl (by kernel_rfl)
    refine By.yes rfl ?_
    clear hs hg
    have hb : Below W1.heap.size W1 w' := ⟨ht.os, ht.tape, ht.output, ht.size, ht.block⟩
    have HCl := Lib.hid (clone2_any (w := w') (B := B) (HT.out w' hb).2 (by have := HN.out; omega))
    have Hs := Lib.hid hb.size
    clear hb
    go_simp
    refine HCl.out.mono ?_
    rintro e w2 ⟨v', rfl, ho, hb2⟩
    exact ⟨_, rfl, hb2, ho.less Hs.out⟩
  · intro a w' ht hs hg -- 9
    have h22 := By.given_get hg 2 rfl rfl (by kernel_rfl)
    obtain ⟨v5, hv5⟩ : ∃ v, a.tmps.getD 5 undef = v := ⟨_, rfl⟩
    replace h22 := (congrArg (fun v => ((ownMM W1.heap.size c.ps)).on v w') hv5).mp h22
    have h28 := By.given_get hg 5 rfl rfl (by kernel_rfl)
    obtain ⟨v8, hv8⟩ : ∃ v, a.tmps.getD 8 undef = v := ⟨_, rfl⟩
    replace h28 := (congrArg (fun v => ((ownRM W1.heap.size c.rs)).on v w') hv8).mp h28
    refine By.yes rfl ?_
    clear hs hg
    have h22' : OwnM w' W1.heap.size v5 c.ps := h22
    have h28' : OwnR w' W1.heap.size v8 c.rs := h28
    clear h22 h28
    obtain ⟨A3, n3, rfl⟩ := h22'.shape
    obtain ⟨A4, n4, rfl⟩ := h28'.shape
    have HM := Lib.hid h22'
    have HR := Lib.hid h28'
    clear h22' h28'
    have e22 := (Array.getD_eq_getD_getElem? ..).symm.trans hv5
    have e28 := (Array.getD_eq_getD_getElem? ..).symm.trans hv8
    go_simp
    exact ⟨_, rfl, Grew.refl _, ⟨_, _, rfl, ⟨HM.out, HR.out⟩⟩⟩
  refine By.ends_is (By.ends_is (By.ends_skip fun v5 => (By.ends_is (By.ends_is (By.ends_skip fun v8 => (By.ends_any fun v9 => (By.ends_nil fun W9 hw9 => ?_)))))))
  simp only [Act.put, List.setIfInBounds_toArray, List.set_cons_succ, List.set_cons_zero]
  simp only [List.drop_succ_cons, List.drop_zero]
  obtain ⟨hw9, hl9⟩ := hw9
  obtain ⟨v1, v2, rfl, hr⟩ := (show ∃ v1 v2, v9 = .agg #[v1, v2] ∧ CNew W9 W1.heap.size v1 v2 c from hl9)
  have hb9 : Below W1.heap.size W1 W9 := ⟨hw9.os, hw9.tape, hw9.output, hw9.size, hw9.block⟩
  have HB9 := Lib.hid (show Below w.heap.size w W9 from nextB HB12.out (Nat.le_refl _) hb9)
  have HR9 := Lib.hid (HRr.out.below hb9 HRr.out.lt)
  have Hres := Lib.hid ((hr.setRow (g := g2) (show g2 < W1.heap.size from HRr.out.lt) #[v1, v2]).less (base' := w.heap.size) HB12.out.size)
  have H1 := Lib.hid hr.one
  clear hw9 hl9 hr hb9
  refine wpList_storeRow rfl 27 (.tmp 2) (.tmp 9) rfl rfl (cs := [v1, v2]) rfl HR9.out (by kernel_rfl) rfl rfl (by intro v hv; simp only [List.mem_cons, List.not_mem_nil, or_false] at hv; rcases hv with rfl | rfl; exact H1.out.1; exact H1.out.2) ?_
  go_wp2
  refine bodyPost_ret (results_c rfl rfl (HR9.out.setRow [v1, v2]) Try.underlying27 rfl (by kernel_rfl) rfl) rfl ?_
  exact ⟨v1, v2, rfl, Hres.out, below_setRow HB9.out (by have := HG2.out; omega) _⟩
set_option maxRecDepth 100000 in
set_option maxHeartbeats 2000000 in
theorem setOff_none {w : World} {B : Nat} {vp vr : Value} {c : Cf} {o : Opn} (h : CAt w B vp vr c) (hV : Val c) (hk : o.ky.length = 32) (hpeer : has Mb.key (o.id, 0) c.ps = false) (hB : B ≤ w.heap.size) :
    Calls Try.prog 142 #[.agg #[vp, vr], o.val] w fun e w' => e = .returned (.tuple #[zcfg, .int .i64 6]) ∧ Below w.heap.size w w' := by
  obtain ⟨A1, n1, A2, n2, rfl, rfl⟩ := h.shape
  obtain ⟨W1, hW1⟩ : ∃ W1, ((w.alloc (.cells #[.slice A1 c.ps.length n1, .slice A2 c.rs.length n2] 27)).alloc (.cells o.cs.toArray 45)).alloc (.cells #[.slice none 0 0, .slice none 0 0] 27) = W1 := ⟨_, rfl⟩
  have hb1 : Below w.heap.size w W1 := hW1 ▸ (((Below.refl _ w).alloc (Nat.le_refl _) _).alloc (by simp) _).alloc (by simp; omega) _
  have hr0 : Row W1 w.heap.size [.slice A1 c.ps.length n1, .slice A2 c.rs.length n2] 27 := hW1 ▸ ((Row.new rfl rfl : Row (w.alloc (.cells #[.slice A1 c.ps.length n1, .slice A2 c.rs.length n2] 27)) w.heap.size [.slice A1 c.ps.length n1, .slice A2 c.rs.length n2] 27).alloc _).alloc _
  have hr1 : Row W1 (w.heap.size + 1) o.cs 45 := hW1 ▸ (Row.new (by simp) rfl : Row ((w.alloc (.cells #[.slice A1 c.ps.length n1, .slice A2 c.rs.length n2] 27)).alloc (.cells o.cs.toArray 45)) (w.heap.size + 1) o.cs 45).alloc _
  have hr2 : Row W1 (w.heap.size + 1 + 1) [.slice none 0 0, .slice none 0 0] 27 := hW1 ▸ Row.new (by simp) rfl
  have c0 := hr0.cell (i := 0) rfl
  have c1 := hr0.cell (i := 1) rfl
  have ci := hr1.cell (i := 2) rfl
  have ca := hr1.cell (i := 35) (Opn.at35 hk)
  have cb := hr1.cell (i := 36) (Opn.at36 hk)
  have HR0 := Lib.hid hr0
  have HR1 := Lib.hid hr1
  have HR2 := Lib.hid hr2
  have HB1 := Lib.hid hb1
  have HC := Lib.hid h
  have Hk := Lib.hid hk
  have HV := Lib.hid hV
  have HBw := Lib.hid hB
  have HAt := Lib.hid (At1_any (w := W1) (B := B) (vp := .slice A1 c.ps.length n1) (vr := .slice A2 c.rs.length n2) (h.1.below (hb1.mono hB)) (by have := hV.1; omega) hV.2.2.2.1 rfl rfl o.id (Nat.le_trans hB hb1.size))
  obtain ⟨p, hp⟩ : ∃ p, pos Mb.key (o.id, 0) c.ps = p := ⟨_, rfl⟩
  rw [hp, hpeer] at HAt
  clear h hV hk hB hb1 hr0 hr1 hr2 hp hpeer
  unfold Opn.val
  go_enter Try.func142, Try.ntmps142
  go_wp2_with fail
  refine HAt.out.mono ?_
  rintro e W2 ⟨rfl, hb⟩
  have HR0' := Lib.hid (HR0.out.below hb HR0.out.lt)
  have HR1' := Lib.hid (HR1.out.below hb HR1.out.lt)
  have HR2' := Lib.hid (HR2.out.below hb HR2.out.lt)
  have HB12 := Lib.hid (show Below w.heap.size w W2 from nextB HB1.out (Nat.le_refl _) hb)
  have d0 := HR0'.out.cell (i := 0) rfl
  have d1 := HR0'.out.cell (i := 1) rfl
  have di := HR1'.out.cell (i := 2) rfl
  have da := HR1'.out.cell (i := 35) (Opn.at35 Hk.out)
  have db := HR1'.out.cell (i := 36) (Opn.at36 Hk.out)
  clear hb c0 c1 ci ca cb hW1
  clear HAt HC HV Hk
  have f0 := frozen_row HR2'.out 0
  have f1 := frozen_row HR2'.out 1
  have g0 := HR2'.out.cell (i := 0) rfl
  have g1 := HR2'.out.cell (i := 1) rfl
  go_wp2_with fail
  refine bodyPost_ret (results_ct rfl rfl ((HR2'.out.set 0 _).set 1 _) Try.underlying27 rfl (by kernel_rfl) rfl) rfl ?_
  exact ⟨rfl, (HB12.out.setCell (by simp; omega) _).setCell (by simp; omega) _⟩
set_option maxRecDepth 100000 in
set_option maxHeartbeats 4000000 in
theorem setOff_ok {w : World} {B : Nat} {vp vr : Value} {c : Cf} {o : Opn} (h : CAt w B vp vr c) (hV : Val c) (hk : o.ky.length = 32) (hpeer : has Mb.key (o.id, 0) c.ps = true) (hB : B ≤ w.heap.size) :
    ∃ m, m ∈ c.ps ∧ m.id = o.id ∧ Calls Try.prog 142 #[.agg #[vp, vr], o.val] w fun e w' => ∃ v1 v2, e = .returned (.tuple #[.agg #[v1, v2], .int .i64 0]) ∧ CNew w' w.heap.size v1 v2 ⟨setL c.ps { m with off := true }, c.rs⟩ ∧ Below w.heap.size w w' := by
  obtain ⟨m, hm, hmk⟩ := at_pos (key := Mb.key) (o.id, 0) hV.2.2.2.1 hpeer
  have hmid : m.id = o.id := by have : (m.id, (0 : Int)) = (o.id, 0) := hmk; simpa using this
  refine ⟨m, List.mem_of_getElem? hm, hmid, ?_⟩
  have hset : setL c.ps { m with off := true } = c.ps.set (pos Mb.key (o.id, 0) c.ps) { m with off := true } := by
    have e := setL_is hV.2.2.2.1 ({ m with off := true } : Mb) rfl
    rw [← hmid] at hpeer hm ⊢
    rw [show ({ m with off := true } : Mb).id = m.id from rfl, hpeer, if_pos rfl] at e
    rw [← e, List.set_eq_take_append_cons_drop, if_pos (List.getElem?_eq_some_iff.1 hm).1, List.append_assoc]
    rfl
  rw [hset]
  clear hset hmk hmid
  obtain ⟨A1, n1, A2, n2, rfl, rfl⟩ := h.shape
  obtain ⟨W1, hW1⟩ : ∃ W1, ((w.alloc (.cells #[.slice A1 c.ps.length n1, .slice A2 c.rs.length n2] 27)).alloc (.cells o.cs.toArray 45)).alloc (.cells #[.slice none 0 0, .slice none 0 0] 27) = W1 := ⟨_, rfl⟩
  have hb1 : Below w.heap.size w W1 := hW1 ▸ (((Below.refl _ w).alloc (Nat.le_refl _) _).alloc (by simp) _).alloc (by simp; omega) _
  have hr0 : Row W1 w.heap.size [.slice A1 c.ps.length n1, .slice A2 c.rs.length n2] 27 := hW1 ▸ ((Row.new rfl rfl : Row (w.alloc (.cells #[.slice A1 c.ps.length n1, .slice A2 c.rs.length n2] 27)) w.heap.size [.slice A1 c.ps.length n1, .slice A2 c.rs.length n2] 27).alloc _).alloc _
  have hr1 : Row W1 (w.heap.size + 1) o.cs 45 := hW1 ▸ (Row.new (by simp) rfl : Row ((w.alloc (.cells #[.slice A1 c.ps.length n1, .slice A2 c.rs.length n2] 27)).alloc (.cells o.cs.toArray 45)) (w.heap.size + 1) o.cs 45).alloc _
  have hr2 : Row W1 (w.heap.size + 1 + 1) [.slice none 0 0, .slice none 0 0] 27 := hW1 ▸ Row.new (by simp) rfl
  have c0 := hr0.cell (i := 0) rfl
  have c1 := hr0.cell (i := 1) rfl
  have ci := hr1.cell (i := 2) rfl
  have ca := hr1.cell (i := 35) (Opn.at35 hk)
  have cb := hr1.cell (i := 36) (Opn.at36 hk)
  have HR0 := Lib.hid hr0
  have HR1 := Lib.hid hr1
  have HR2 := Lib.hid hr2
  have HB1 := Lib.hid hb1
  have HC := Lib.hid h
  have Hk := Lib.hid hk
  have HV := Lib.hid hV
  have HBw := Lib.hid hB
  have HAt := Lib.hid (At1_any (w := W1) (B := B) (vp := .slice A1 c.ps.length n1) (vr := .slice A2 c.rs.length n2) (h.1.below (hb1.mono hB)) (by have := hV.1; omega) hV.2.2.2.1 rfl rfl o.id (Nat.le_trans hB hb1.size))
  obtain ⟨p, hp⟩ : ∃ p, pos Mb.key (o.id, 0) c.ps = p := ⟨_, rfl⟩
  rw [hp, hpeer] at HAt
  rw [hp] at hm ⊢
  have HM := Lib.hid hm
  clear h hV hk hB hb1 hr0 hr1 hr2 hp hpeer hm
  unfold Opn.val
  go_enter Try.func142, Try.ntmps142
  go_wp2_with fail
  refine HAt.out.mono ?_
  rintro e W2 ⟨rfl, hb⟩
  have HR0' := Lib.hid (HR0.out.below hb HR0.out.lt)
  have HR1' := Lib.hid (HR1.out.below hb HR1.out.lt)
  have HR2' := Lib.hid (HR2.out.below hb HR2.out.lt)
  have HB12 := Lib.hid (show Below w.heap.size w W2 from nextB HB1.out (Nat.le_refl _) hb)
  have d0 := HR0'.out.cell (i := 0) rfl
  have d1 := HR0'.out.cell (i := 1) rfl
  have di := HR1'.out.cell (i := 2) rfl
  have da := HR1'.out.cell (i := 35) (Opn.at35 Hk.out)
  have db := HR1'.out.cell (i := 36) (Opn.at36 Hk.out)
  clear hb c0 c1 ci ca cb hW1
  have HCp := Lib.hid (Copy_any (w := W2) (B := B) (HC.out.below (HB12.out.mono HBw.out)) (by have := HV.out.1; omega) (by have := HV.out.2.1; omega) (Nat.le_trans HBw.out HB12.out.size))
  clear HAt
  go_wp2_with fail
  refine HCp.out.mono ?_
  rintro e W3 ⟨v1, v2, rfl, hn, hb3⟩
  have hlt := (List.getElem?_eq_some_iff.1 HM.out).1
  obtain ⟨g5, n5, rfl⟩ : ∃ g n, v1 = .slice (some ⟨g, 0, none⟩) c.ps.length n := by
    rcases hn.ps.2.2 with ⟨_, e0⟩ | ⟨g, cap, _, e, _⟩
    · omega
    · exact ⟨g, cap, e⟩
  obtain ⟨A6, n6, rfl⟩ := hn.rs.shape
  have HNw := Lib.hid hn
  have HB13 := Lib.hid (show Below w.heap.size w W3 from nextB HB12.out (Nat.le_refl _) hb3)
  have K2 := Lib.hid (HR2'.out.below hb3 HR2'.out.lt)
  have HS23 := Lib.hid (show w.heap.size + 1 + 1 + 1 ≤ W2.heap.size from HR2'.out.lt)
  obtain ⟨W4, hW4⟩ : ∃ W4, W3.alloc (.cells #[.slice (some ⟨g5, 0, none⟩) c.ps.length n5, .slice A6 c.rs.length n6] 27) = W4 := ⟨_, rfl⟩
  have hb34 : Below W3.heap.size W3 W4 := hW4 ▸ (Below.refl _ W3).alloc (Nat.le_refl _) _
  have HR8 := Lib.hid (show Row W4 W3.heap.size [.slice (some ⟨g5, 0, none⟩) c.ps.length n5, .slice A6 c.rs.length n6] 27 from hW4 ▸ Row.new rfl rfl)
  have HN4 := Lib.hid (HNw.out.below hb34)
  have HB14 := Lib.hid (show Below w.heap.size w W4 from nextB HB13.out (Nat.le_refl _) hb34)
  have L2 := Lib.hid (K2.out.below hb34 K2.out.lt)
  have HOff := Lib.hid (OwnM.off HN4.out.ps HM.out)
  have q0 := HOff.out.1
  have q1 := HOff.out.2.1
  have s0 := HR8.out.cell (i := 0) rfl
  have s1 := HR8.out.cell (i := 1) rfl
  have hp0 : 0 ≤ (p : Int) := by omega
  have hp1 : (p : Int) < (c.ps.length : Int) := by omega
  have hg5 : g5 < W3.heap.size := by
    have h := HNw.out.ps.2.2
    rcases h with ⟨e, _⟩ | ⟨g, cap, cur, e, _, hg, _⟩
    · cases e
    · simp only [Value.slice.injEq, Option.some.injEq, Addr.mk.injEq, and_true] at e
      rw [e.1]; exact (Array.getElem?_eq_some_iff.1 hg).1
  have HG5 := Lib.hid hg5
  have f0 := frozen_row L2.out 0
  have f1 := frozen_row L2.out 1
  have g0 := L2.out.cell (i := 0) rfl
  have g1 := L2.out.cell (i := 1) rfl
  have hne : ¬ g5 = w.heap.size + 1 + 1 := by have := HOff.out.2.2.1; have := HS23.out; omega
  have hne' : ¬ w.heap.size + 1 + 1 = g5 := fun e => hne e.symm
  have hne3 : ¬ g5 = W3.heap.size := by omega
  have hne3' : ¬ W3.heap.size = g5 := fun e => hne3 e.symm
  clear hn hb3 hb34 d0 d1 di da db HCp hlt hg5
  go_wp2_with fail
  have HX := Lib.hid ((((⟨HOff.out.2.2.2, HN4.out.rs.setM HN4.out.ps _⟩ : CNew (W4.setCell ⟨g5, p * 34 + 33, none⟩ (.bool true)) W2.heap.size (.slice (some ⟨g5, 0, none⟩) c.ps.length n5) (.slice A6 c.rs.length n6) ⟨c.ps.set p { m with off := true }, c.rs⟩).setCell ⟨w.heap.size + 1 + 1, 0, none⟩ HS23.out (.slice (some ⟨g5, 0, none⟩) c.ps.length n5)).setCell ⟨w.heap.size + 1 + 1, 1, none⟩ HS23.out (.slice A6 c.rs.length n6)).less (base' := w.heap.size) (by have := HS23.out; omega))
  refine bodyPost_ret (results_ct rfl rfl (((L2.out.other ⟨g5, p * 34 + 33, none⟩ (.bool true) (fun e => hne e.symm)).set 0 _).set 1 _) Try.underlying27 rfl (by kernel_rfl) rfl) rfl ?_
  exact ⟨_, _, rfl, HX.out, ((HB14.out.setCell (by have := HOff.out.2.2.1; have := HS23.out; simp; omega) _).setCell (by simp; omega) _).setCell (by simp; omega) _⟩
end Go.Proofs.Ytlphmbefcbhhpaa.Cfg
namespace Go.Proofs.Ytlphmbefcbhhpaa.Cfg
open Go.RowKit
set_option maxRecDepth 100000 in
theorem dc_any (m : Rt) (id : Int) {w : World} {g : Nat} (hg : w.cell? ⟨g, 2, none⟩ = some (.int .i64 id)) : Calls Try.prog 169 #[m.val, .pointer (some ⟨g, 0, none⟩)] w fun e w' => e = .returned (.bool (m.peer == id)) ∧ Below w.heap.size w w' := by
  obtain ⟨W1, hW1⟩ : ∃ W1, w.alloc (.cells m.cs.toArray 87) = W1 := ⟨_, rfl⟩
  have hr : Row W1 w.heap.size m.cs 87 := hW1 ▸ Row.new rfl rfl
  have hb : Below w.heap.size w W1 := hW1 ▸ (Below.refl _ w).alloc (Nat.le_refl _) _
  have c0 := hr.cell (i := 2) rfl
  have c1 := (hb.cell (p := ⟨g, 2, none⟩) (World.block_lt_of_cell? _ _ hg)).trans hg
  have HB := Lib.hid hb
  obtain ⟨z, hz⟩ : ∃ z, (m.peer == id) = z := ⟨_, rfl⟩
  rw [hz]
  clear hr hb hg
  unfold Rt.val
  go_enter Try.func169, Try.ntmps169
  go_wp2_with fail
  go_ret
  exact ⟨rfl, HB.out⟩
/-- Where the first route to that peer is, or -1. -/
def fst2 (l : List Rt) (id : Int) : Int := match l.findIdx? (fun m => m.peer == id) with
  | some i => (i : Int)
  | none => -1
theorem fst2_hit {l : List Rt} {id : Int} {i : Nat} {m : Rt} (hm : l[i]? = some m) (he : (m.peer == id) = true) (hn : ∀ t x, t < i → l[t]? = some x → (x.peer == id) = false) : fst2 l id = (i : Int) := by
  have : l.findIdx? (fun m => m.peer == id) = some i := by
    rw [List.findIdx?_eq_some_iff_getElem]
    have hlt := (List.getElem?_eq_some_iff.1 hm).1
    refine ⟨hlt, ?_, fun j hj => ?_⟩
    · rw [List.getElem?_eq_getElem hlt] at hm; injection hm with hm; rw [hm]; exact he
    · have := hn j _ hj (List.getElem?_eq_getElem (by omega))
      simpa using this
  unfold fst2
  rw [this]
theorem fst2_none {l : List Rt} {id : Int} (hn : ∀ t x, t < l.length → l[t]? = some x → (x.peer == id) = false) : fst2 l id = -1 := by
  have : l.findIdx? (fun m => m.peer == id) = none := by
    rw [List.findIdx?_eq_none_iff]
    intro x hx
    obtain ⟨t, ht, e⟩ := List.getElem_of_mem hx
    exact hn t x ht (by rw [List.getElem?_eq_getElem ht, e])
  unfold fst2
  rw [this]
set_option maxRecDepth 100000 in
set_option maxHeartbeats 2000000 in
theorem IndexFunc2_any {w : World} {B : Nat} {v : Value} {l : List Rt} (ht : RTab w B v l) (hN : l.length ≤ 100000) (id : Int) (hB : B ≤ w.heap.size) {g : Nat} (hg : w.cell? ⟨g, 2, none⟩ = some (.int .i64 id)) :
    Calls Try.prog 180 #[v, .func (.func 169) #[] #[.pointer (some ⟨g, 0, none⟩)]] w fun e w' => e = .returned (.int .i64 (fst2 l id)) ∧ Below w.heap.size w w' := by
  obtain ⟨A1, n1, rfl, _⟩ := (show Tab 3 w B v l.length (rcs l) from ht).shape
  have HT := Lib.hid ht
  have HN := Lib.hid hN
  have HBw := Lib.hid hB
  have HG := Lib.hid hg
  obtain ⟨z, hz⟩ : ∃ z, fst2 l id = z := ⟨_, rfl⟩
  rw [hz]
  have Hz := Lib.hid hz
  clear ht hN hB hg hz
  go_enter Try.func180, Try.ntmps180
  go_wp2
  go_loopw [8] (fun iv wr => ∃ i : Nat, i ≤ l.length ∧ iv = .int .i64 (i : Int) ∧ Below w.heap.size w wr ∧ Hid (∀ t x, t < i → l[t]? = some x → (x.peer == id) = false)) (fun iv _ => l.length - (intOf iv).toNat)
  case atStart => exact ⟨0, Nat.zero_le _, rfl, Below.refl _ _, Lib.hid fun t x ht => absurd ht (Nat.not_lt_zero _)⟩
  case round =>
    obtain ⟨i, hi, rfl, hb, I⟩ := hrel
    have HB := Lib.hid hb
    clear hb
    have hi2 : (i : Int) ≤ 100000 := by have := HN.out; omega
    by_cases hlt : i < l.length
    · have hlt' : (i : Int) < (l.length : Int) := by omega
      obtain ⟨m, hm⟩ : ∃ m, l[i]? = some m := ⟨_, List.getElem?_eq_getElem hlt⟩
      have HM := Lib.hid hm
      obtain ⟨b0, off, e, _, _, hl⟩ := (RTab.below HT.out (HB.out.mono HBw.out)).at hm
      subst e
      have hld := Lib.hid hl
      have HC := Lib.hid (dc_any m id (w := wr) (g := g) ((HB.out.cell (p := ⟨g, 2, none⟩) (World.block_lt_of_cell? _ _ HG.out)).trans HG.out))
      clear hm hl
      cases hq : (m.peer == id) with
      | false =>
        rw [hq] at HC
        have HQ := Lib.hid hq
        clear hq
        go_wp2_with (first
          | (refine QB.wpList_ld 87 rfl rfl hld.out rfl ?_)
          | (go_at_call 169; refine HC.out.mono ?_; rintro e w' ⟨rfl, hb⟩; have HB2 := Lib.hid (nextB HB.out (Nat.le_refl _) hb); clear hb)
          | fail)
        go_roundw
        case rel =>
          refine ⟨i + 1, by omega, by simp, HB2.out, Lib.hid fun t x ht hx => ?_⟩
          rcases Nat.lt_or_ge t i with h | h
          · exact I.out t x h hx
          · obtain rfl : t = i := by omega
            rw [HM.out] at hx; injection hx with hx; subst hx; exact HQ.out
        case measure => simp [intOf]; omega
      | true =>
        rw [hq] at HC
        obtain rfl : z = (i : Int) := by rw [← Hz.out]; exact fst2_hit HM.out hq I.out
        clear hq
        go_wp2_with (first
          | (refine QB.wpList_ld 87 rfl rfl hld.out rfl ?_)
          | (go_at_call 169; refine HC.out.mono ?_; rintro e w' ⟨rfl, hb⟩; have HB2 := Lib.hid (nextB HB.out (Nat.le_refl _) hb); clear hb)
          | fail)
        go_ret
        exact ⟨rfl, HB2.out⟩
    · have hlt' : ¬ (i : Int) < (l.length : Int) := by omega
      obtain rfl : i = l.length := by omega
      obtain rfl : z = -1 := by rw [← Hz.out]; exact fst2_none I.out
      go_wp2
      go_ret
      exact ⟨rfl, HB.out⟩
theorem fst2_cases (l : List Rt) (id : Int) : (fst2 l id = -1 ∧ l.filter (fun r => !(r.peer == id)) = l) ∨ ∃ (i : Nat), fst2 l id = (i : Int) ∧ i < l.length ∧ (l.take (i + 1)).filter (fun r => !(r.peer == id)) = l.take i := by
  unfold fst2
  cases hq : l.findIdx? (fun m => m.peer == id) with
  | none =>
    refine .inl ⟨rfl, ?_⟩
    rw [List.findIdx?_eq_none_iff] at hq
    rw [List.filter_eq_self]
    intro x hx
    simpa using hq x hx
  | some i =>
    rw [List.findIdx?_eq_some_iff_getElem] at hq
    obtain ⟨hlt, h1, h2⟩ := hq
    refine .inr ⟨i, rfl, hlt, ?_⟩
    rw [List.take_add_one, List.getElem?_eq_getElem hlt, Option.toList_some, List.filter_append, List.filter_cons_of_neg (by simpa using h1), List.filter_nil, List.append_nil, List.filter_eq_self]
    intro x hx
    obtain ⟨t, ht, e⟩ := List.getElem_of_mem hx
    rw [List.length_take] at ht
    have := h2 t (by omega)
    rw [List.getElem_take] at e
    rw [← e]
    simpa using this
theorem Row.setCells {t : TypeId} {g : Nat} : ∀ (vs : List Value) (o : Nat) {w : World} {cs : List Value}, Row w g cs t → ∃ cs', Row (w.setCells g o vs) g cs' t ∧ cs'.length = cs.length ∧ cs'.take o = cs.take o
  | [], _, _, cs, h => ⟨cs, h, rfl, rfl⟩
  | v :: vs, o, w, cs, h => by
    obtain ⟨cs', h1, h2, h3⟩ := Row.setCells vs (o + 1) (h.set o v)
    refine ⟨cs', h1, by rw [h2, List.length_set], ?_⟩
    have e := congrArg (List.take o) h3
    rw [List.take_take, List.take_take, Nat.min_eq_left (Nat.le_succ o), List.take_set_of_le (Nat.le_refl o)] at e
    exact e
theorem below_cells (g B : Nat) (hB : B ≤ g) : ∀ (vs : List Value) (o : Nat) (a w : World), Below B a w → Below B a (w.setCells g o vs)
  | [], _, _, _, h => h
  | v :: vs, o, a, w, h => below_cells g B hB vs (o + 1) a _ (h.setCell (p := ⟨g, o, none⟩) hB v)
theorem rcs_take (l : List Rt) (i : Nat) (hi : i ≤ l.length) : (rcs l).take (i * 3) = rcs (l.take i) := by
  have e : rcs l = rcs (l.take i) ++ rcs (l.drop i) := by unfold rcs; rw [← List.flatMap_append, List.take_append_drop]
  have hlen : (rcs (l.take i)).length = i * 3 := by
    have : ∀ l : List Rt, (rcs l).length = l.length * 3 := by
      intro l
      induction l with
      | nil => rfl
      | cons x l ih => show ((x.cs ++ rcs l).length) = _; rw [List.length_append, ih, List.length_cons, show x.cs.length = 3 from rfl]; omega
    rw [this, List.length_take, Nat.min_eq_left hi]
  rw [e, List.take_append_of_le_length (by omega), List.take_of_length_le (by omega)]
theorem rcs_len (l : List Rt) : (rcs l).length = l.length * 3 := by
  induction l with
  | nil => rfl
  | cons x l ih => show ((x.cs ++ rcs l).length) = _; rw [List.length_append, ih, List.length_cons, show x.cs.length = 3 from rfl]; omega
/-- One's own routes: the block. -/
theorem OwnR.row {w : World} {base g n cap : Nat} {l : List Rt} (h : OwnR w base (.slice (some ⟨g, 0, none⟩) n cap) l) : ∃ cs, Row w g cs 87 ∧ base ≤ g ∧ n = l.length ∧ n ≤ cap ∧ cap ≤ maxLen ∧ cs.length = cap * 3 ∧ cs.take (n * 3) = rcs l := by
  rcases h.2 with ⟨e, _⟩ | ⟨g', cap', cur, e, hb, hg, hnc, hcm, hsz, htk⟩
  · cases e
  · simp only [Value.slice.injEq, Option.some.injEq, Addr.mk.injEq, and_true] at e
    obtain ⟨rfl, rfl, rfl⟩ := e
    exact ⟨cur.toList, by unfold Row; simpa using hg, hb, rfl, hnc, hcm, by simpa using hsz, htk⟩
theorem OwnR.of_row {w : World} {base g n cap : Nat} {l : List Rt} {cs : List Value} (h : Row w g cs 87) (hb : base ≤ g) (hn : n = l.length) (h1 : n ≤ cap) (h2 : cap ≤ maxLen) (h3 : cs.length = cap * 3) (h4 : cs.take (n * 3) = rcs l) : OwnR w base (.slice (some ⟨g, 0, none⟩) n cap) l := by
  subst hn
  exact ⟨rcs_len l, .inr ⟨g, cap, cs.toArray, rfl, hb, h, h1, h2, by simpa using h3, by simpa using h4⟩⟩
/-- A route is put in its place. -/
theorem OwnR.put3 {w : World} {base g n cap i : Nat} {l : List Rt} (h : OwnR w base (.slice (some ⟨g, 0, none⟩) n cap) l) (hi : i < l.length) (x : Rt) :
    OwnR (((w.setCell ⟨g, i * 3, none⟩ (.int .u32 x.addr)).setCell ⟨g, i * 3 + 1, none⟩ (.int .i64 x.bits)).setCell ⟨g, i * 3 + 2, none⟩ (.int .i64 x.peer)) base (.slice (some ⟨g, 0, none⟩) n cap) (l.set i x) := by
  obtain ⟨cs, hr, hb, hn, h1, h2, h3, h4⟩ := h.row
  obtain ⟨y, hy⟩ : ∃ y, l[i]? = some y := ⟨_, List.getElem?_eq_getElem hi⟩
  refine OwnR.of_row (((hr.set _ _).set _ _).set _ _) hb (by rw [List.length_set]; exact hn) h1 h2 (by simpa using h3) ?_
  rw [List.take_set, List.take_set, List.take_set, h4]
  have k1 := flat_set Rt.cs 3 (j := 0) (v := .int .u32 x.addr) (x := y) (x' := ⟨x.addr, y.bits, y.peer⟩) (by decide) rfl l i (fun _ _ => rfl) hy
  have k2 := flat_set Rt.cs 3 (j := 1) (v := .int .i64 x.bits) (x := ⟨x.addr, y.bits, y.peer⟩) (x' := ⟨x.addr, x.bits, y.peer⟩) (by decide) rfl (l.set i ⟨x.addr, y.bits, y.peer⟩) i (fun _ _ => rfl) (by rw [List.getElem?_set_self hi])
  have k3 := flat_set Rt.cs 3 (j := 2) (v := .int .i64 x.peer) (x := ⟨x.addr, x.bits, y.peer⟩) (x' := x) (by decide) rfl (l.set i ⟨x.addr, x.bits, y.peer⟩) i (fun _ _ => rfl) (by rw [List.getElem?_set_self hi])
  rw [List.set_set] at k2 k3
  unfold rcs
  rw [Nat.add_zero] at k1
  rw [k1, k2, k3]
/-- Its cells can be written. -/
theorem OwnR.cells3 {w : World} {base g n cap : Nat} {l : List Rt} (h : OwnR w base (.slice (some ⟨g, 0, none⟩) n cap) l) : base ≤ g ∧ g < w.heap.size ∧ (∀ j, w.frozen? ⟨g, j, none⟩ = false) ∧ ∀ j, j < l.length * 3 → (w.cell? ⟨g, j, none⟩).isSome = true := by
  obtain ⟨cs, hr, hb, hn, h1, _, h3, _⟩ := h.row
  refine ⟨hb, hr.lt, fun j => frozen_row hr j, fun j hj => ?_⟩
  have hlt : j < cs.length := by have := Nat.mul_le_mul_right 3 h1; omega
  rw [hr.cell (List.getElem?_eq_getElem hlt)]
  rfl
/-- The rest is zeroed, the table cut. -/
theorem OwnR.cut {w : World} {base g n cap i : Nat} {l : List Rt} (h : OwnR w base (.slice (some ⟨g, 0, none⟩) n cap) l) (hi : i ≤ l.length) (vs : List Value) : OwnR (w.setCells g (i * 3) vs) base (.slice (some ⟨g, 0, none⟩) i cap) (l.take i) := by
  obtain ⟨cs, hr, hb, hn, h1, h2, h3, h4⟩ := h.row
  obtain ⟨cs', r1, r2, r3⟩ := Row.setCells vs (i * 3) hr
  refine OwnR.of_row r1 hb (by rw [List.length_take]; omega) (by omega) h2 (by rw [r2]; exact h3) ?_
  rw [r3, ← rcs_take l i hi, ← h4, List.take_take, Nat.min_eq_left (by have := Nat.mul_le_mul_right 3 hi; omega)]
theorem run_clear_rt (w : World) {g o n c : Nat} (hn : 0 < n) (hc : ∀ j, j < n * 3 → (w.cell? ⟨g, o + j, none⟩).isSome = true) (hf : ∀ j, w.frozen? ⟨g, j, none⟩ = false) (ty : TypeId) :
    (Builtin.clear_ #[25] ty #[.slice (some ⟨g, o, none⟩) n c]).run Try.prog w = .ok (.tuple #[]) (w.setCells g o (Builtin.zeroCells (Rt.cs ⟨0, 0, 0⟩).toArray n).toList) := by
  cases hi : Try.prog.info? 87 with
  | none => have := zero_rt; rw [hi] at this; cases this
  | some inf =>
    have hz : inf.zero = some (.agg (Rt.cs ⟨0, 0, 0⟩).toArray) := by have := zero_rt; rw [hi] at this; exact this
    have hmem : ∀ v ∈ (Builtin.zeroCells (Rt.cs ⟨0, 0, 0⟩).toArray n).toList, v ∈ Rt.cs ⟨0, 0, 0⟩ := by
      intro v hv
      simp only [Builtin.zeroCells, Array.toList_map, List.mem_map] at hv
      obtain ⟨i, _, rfl⟩ := hv
      have hs : 0 < (Rt.cs ⟨0, 0, 0⟩).toArray.size := by decide
      have hlt := Nat.mod_lt i hs
      rw [getElem!_pos (Rt.cs ⟨0, 0, 0⟩).toArray _ hlt]
      exact Array.mem_toList_iff.2 (Array.getElem_mem _)
    have hlen : (Builtin.zeroCells (Rt.cs ⟨0, 0, 0⟩).toArray n).toList.length = n * 3 := by simp [Builtin.zeroCells, Rt.cs]
    have hst := run_storeCells_cells (P := Try.prog) g o (Builtin.zeroCells (Rt.cs ⟨0, 0, 0⟩).toArray n).toList 0 w (by rw [hlen]; simpa using hc) (fun j _ => by simpa using hf (o + j)) (fun v hv => Rt.one ⟨0, 0, 0⟩ v (hmem v hv))
    simp only [Nat.add_zero] at hst
    obtain ⟨m, rfl⟩ : ∃ m, n = m + 1 := ⟨n - 1, by omega⟩
    simp [Builtin.clear_, run_underlying Try.underlying25, zeroValue, typeInfo, hi, hz, Value.cells, hst]
/-- All old blocks but one are as they were. -/
def Others (w w' : World) (g : Nat) : Prop := ∀ q, q ≠ g → q < w.heap.size → w'.heap[q]? = w.heap[q]?
theorem Others.grew {w w1 w2 : World} {g : Nat} (h : Others w w1 g) (hs : w.heap.size ≤ w1.heap.size) (hb : Below w1.heap.size w1 w2) : Others w w2 g := fun q h1 h2 => (hb.block q (by omega)).trans (h q h1 h2)
theorem Others.setCell {w w1 : World} {g : Nat} (h : Others w w1 g) (o : Nat) (v : Value) : Others w (w1.setCell ⟨g, o, none⟩ v) g := fun q h1 h2 => by
  rw [heap_setCell_other w1 ⟨g, o, none⟩ q v h1]
  exact h q h1 h2
theorem Others.setCells {w : World} {g : Nat} : ∀ (vs : List Value) (o : Nat) {w1 : World}, Others w w1 g → Others w (w1.setCells g o vs) g
  | [], _, _, h => h
  | v :: vs, o, _, h => Others.setCells vs (o + 1) (h.setCell o v)
theorem keepM {w w' : World} {g : Nat} {cs : List Value} (hr : Row w g cs 87) (hk : Others w w' g) : ∀ b u m, OwnM w b u m → OwnM w' b u m := by
  rintro b u m ⟨h1, h2, h3⟩
  refine ⟨h1, h2, ?_⟩
  rcases h3 with h | ⟨q, cap, cur, e, hb, hg, rest⟩
  · exact .inl h
  · refine .inr ⟨q, cap, cur, e, hb, ?_, rest⟩
    rw [hk q _ (Array.getElem?_eq_some_iff.1 hg).1]
    · exact hg
    · rintro rfl
      unfold Row at hr
      rw [hg] at hr
      injection hr with hr
      injection hr with _ ht _
      exact absurd ht (by decide)
/-- As far as the search has come. -/
structure Came (l : List Rt) (id : Int) (i j : Nat) (l' : List Rt) : Prop where
  len : l'.length = l.length
  ij : i < j
  jn : j ≤ l.length
  pre : l'.take i = (l.take j).filter (fun r => !(r.peer == id))
  suf : l'.drop j = l.drop j
theorem Came.at {l l' : List Rt} {id : Int} {i j : Nat} (h : Came l id i j l') : l'[j]? = l[j]? := by
  have := congrArg (fun x => x[0]?) h.suf
  simpa [List.getElem?_drop] using this
theorem Came.skip {l l' : List Rt} {id : Int} {i j : Nat} {r : Rt} (h : Came l id i j l') (hr : l[j]? = some r) (hq : (r.peer == id) = true) : Came l id i (j + 1) l' := by
  have hlt := (List.getElem?_eq_some_iff.1 hr).1
  refine ⟨h.len, by have := h.ij; omega, hlt, ?_, ?_⟩
  · rw [h.pre, List.take_add_one, hr, Option.toList_some, List.filter_append, List.filter_cons_of_neg (by simp [hq]), List.filter_nil, List.append_nil]
  · have := congrArg (List.drop 1) h.suf
    rw [List.drop_drop, List.drop_drop] at this
    exact this
theorem Came.keep {l l' : List Rt} {id : Int} {i j : Nat} {r : Rt} (h : Came l id i j l') (hr : l[j]? = some r) (hq : (r.peer == id) = false) : Came l id (i + 1) (j + 1) (l'.set i r) := by
  have hlt := (List.getElem?_eq_some_iff.1 hr).1
  have hi : i < l'.length := by have := h.len; have := h.ij; omega
  refine ⟨by rw [List.length_set]; exact h.len, by have := h.ij; omega, hlt, ?_, ?_⟩
  · rw [List.take_add_one, List.getElem?_set_self hi, Option.toList_some, List.take_set_of_le (Nat.le_refl i), h.pre, List.take_add_one, hr, Option.toList_some, List.filter_append, List.filter_cons_of_pos (by simp [hq]), List.filter_nil]
  · rw [List.drop_set_of_lt (by have := h.ij; omega)]
    have := congrArg (List.drop 1) h.suf
    rw [List.drop_drop, List.drop_drop] at this
    exact this
theorem Came.done {l l' : List Rt} {id : Int} {i : Nat} (h : Came l id i l.length l') : l'.take i = l.filter (fun r => !(r.peer == id)) := by
  have := h.pre
  rwa [List.take_length] at this
set_option maxRecDepth 100000 in
set_option maxHeartbeats 4000000 in
theorem Delete_any {w : World} {base : Nat} {v : Value} {l : List Rt} (h : OwnR w base v l) (hN : l.length ≤ 100000) (id : Int) {gop : Nat} (hgop : gop < base) (hop : w.cell? ⟨gop, 2, none⟩ = some (.int .i64 id)) (hbs : base ≤ w.heap.size) :
    Calls Try.prog 171 #[v, .func (.func 169) #[] #[.pointer (some ⟨gop, 0, none⟩)]] w fun e w' => ∃ v', e = .returned v' ∧ OwnR w' base v' (l.filter fun r => !(r.peer == id)) ∧ Below base w w' ∧ ∀ b u m, OwnM w b u m → OwnM w' b u m := by
  obtain ⟨A1, n1, rfl⟩ := h.shape
  have HI := Lib.hid (IndexFunc2_any (w := w) (B := w.heap.size) h.tab hN id (Nat.le_refl _) (g := gop) hop)
  rcases fst2_cases l id with ⟨e1, e2⟩ | ⟨i0, e1, hi0, e2⟩
  · rw [e1] at HI
    rw [e2]
    have HO := Lib.hid h
    have HS := Lib.hid hbs
    clear h hN hgop hop hbs e1 e2
    go_enter Try.func171, Try.ntmps171
    go_wp2_with fail
    refine HI.out.mono ?_
    rintro e w1 ⟨rfl, hb⟩
    have HB := Lib.hid hb
    clear hb HI
    go_wp2
    go_ret
    exact ⟨_, rfl, owns_below (show World.ownsRow _ _ _ _ _ _ _ from HO.out) HB.out, HB.out.mono HS.out, fun _ _ _ hm => ⟨hm.1, owns_below hm.2 HB.out⟩⟩
  · rw [e1] at HI
    obtain ⟨g, rfl⟩ : ∃ g, A1 = some ⟨g, 0, none⟩ := by
      rcases h.2 with ⟨e, h0⟩ | ⟨g, cap, cur, e, _⟩
      · omega
      · simp only [Value.slice.injEq] at e; exact ⟨g, e.1⟩
    have hcap : l.length ≤ n1 := by obtain ⟨_, _, _, _, h1, _⟩ := h.row; exact h1
    have HO := Lib.hid h
    have HS := Lib.hid hbs
    have HN := Lib.hid hN
    have HGop := Lib.hid (And.intro hgop hop)
    have HE := Lib.hid (show Came l id i0 (i0 + 1) l from ⟨rfl, Nat.lt_succ_self _, hi0, e2.symm, rfl⟩)
    have hi0' : (i0 : Int) ≤ 100000 := by omega
    have hi1 : ((i0 : Int) == -1) = false := by simp
    clear h hN hgop hop hbs e1 e2 hi0
    go_enter Try.func171, Try.ntmps171
    go_wp2_with fail
    refine HI.out.mono ?_
    rintro e w1 ⟨rfl, hb⟩
    have HB1 := Lib.hid hb
    clear hb HI
    go_wp2
    go_loopw [5, 6] (fun iv jv wr => ∃ (i j : Nat) (l' : List Rt), iv = .int .i64 (i : Int) ∧ jv = .int .i64 (j : Int) ∧ Hid (Came l id i j l') ∧ Hid (OwnR wr base (.slice (some ⟨g, 0, none⟩) l.length n1) l') ∧ Hid (Below base w wr) ∧ Hid (Others w wr g)) (fun _ jv _ => l.length - (intOf jv).toNat)
    case atStart => exact ⟨i0, i0 + 1, l, rfl, by simp, HE, Lib.hid (owns_below (show World.ownsRow _ _ _ _ _ _ _ from HO.out) HB1.out), Lib.hid (HB1.out.mono HS.out), Lib.hid fun q _ hq => HB1.out.block q hq⟩
    case round =>
      obtain ⟨i, j, l', rfl, rfl, I, HOr, HBr, HOt⟩ := hrel
      have hj2 : (j : Int) ≤ 100000 := by have := HN.out; have := I.out.jn; omega
      have hi2 : (i : Int) ≤ 100000 := by have := I.out.ij; omega
      have hii0 : 0 ≤ (i : Int) := by omega
      have hil : (i : Int) < (l.length : Int) := by have := I.out.ij; have := I.out.jn; omega
      clear hi0' hi1
      by_cases hlt : j < l.length
      · have hlt' : (j : Int) < (l.length : Int) := by omega
        obtain ⟨r, hr⟩ : ∃ r, l[j]? = some r := ⟨_, List.getElem?_eq_getElem hlt⟩
        have HM := Lib.hid hr
        obtain ⟨b0, off, e, _, _, hl⟩ := RTab.at (HOr.out.tab) (I.out.at.trans hr)
        cases e
        rw [Nat.zero_add] at hl
        have hld := Lib.hid hl
        clear hr hl
        have FLD := Lib.hid (fun (W : World) (q : Nat) (h : Row W q r.cs 87) => show (loadVar 87 ⟨q, 0, none⟩).run Try.prog W = .ok r.val W from Pol.run_loadVar_sub (P := Try.prog) (off := 0) (n := 3) W h Try.underlying87 rfl (by kernel_rfl) (by simp [Rt.cs]))
        cases hq : (r.peer == id) with
        | true =>
          have HQ := Lib.hid hq
          clear hq
          go_wp2_with (first
            | (refine QB.wpList_ld 87 rfl rfl hld.out rfl ?_)
            | (refine QB.wpList_alloc rfl 87 rfl zero_rt ?_; intro W2 hr1 hb1; have HR1 := Lib.hid (show Row W2 wr.heap.size (Rt.cs ⟨0, 0, 0⟩) 87 from hr1); have HB2 := Lib.hid hb1; clear hr1 hb1)
            | (refine wpList_storeRow rfl 87 (.tmp 7) (.tmp 25) rfl rfl (cs := r.cs) rfl HR1.out (by kernel_rfl) rfl rfl r.one ?_
               refine QB.name fun W hW => ?_
               have HBW := Lib.hid (show Below wr.heap.size wr W from hW ▸ below_setRow HB2.out (Nat.le_refl _) _)
               have HRW := Lib.hid (show Row W wr.heap.size r.cs 87 from hW ▸ HR1.out.setRow r.cs)
               have HBx := Lib.hid (show Below base w W from HBr.out.trans (HBW.out.mono (Nat.le_trans HS.out HBr.out.size)))
               have HC := Lib.hid (dc_any r id (w := W) (g := gop) ((HBx.out.cell (p := ⟨gop, 2, none⟩) HGop.out.1).trans HGop.out.2))
               rw [HQ.out] at HC
               have hl7 := Lib.hid (FLD.out W wr.heap.size HRW.out)
               clear hW hld HR1 HB2)
            | (refine QB.wpList_ld 87 rfl rfl hl7.out rfl ?_)
            | (go_at_call 169; refine HC.out.mono ?_; rintro e w' ⟨rfl, hb⟩; have HB2 := Lib.hid hb; clear hb HC )
            | fail)
          go_roundw
          case rel => exact ⟨i, j + 1, l', rfl, by simp, Lib.hid (I.out.skip HM.out HQ.out), Lib.hid (owns_below (show World.ownsRow _ _ _ _ _ _ _ from HOr.out) (HBW.out.trans (HB2.out.mono HBW.out.size))), Lib.hid (HBx.out.trans (HB2.out.mono (Nat.le_trans HS.out HBx.out.size))), Lib.hid (HOt.out.grew HBr.out.size (HBW.out.trans (HB2.out.mono HBW.out.size)))⟩
          case measure => simp [intOf]; omega
        | false =>
          have HQ := Lib.hid hq
          clear hq
          have FLD8 := Lib.hid (fun (W : World) (q : Nat) (h : Row W q r.cs 87) => show (loadVar 87 ⟨q, 0, none⟩).run Try.prog W = .ok (.agg #[.int .u32 r.addr, .int .i64 r.bits, .int .i64 r.peer]) W from Pol.run_loadVar_sub (P := Try.prog) (off := 0) (n := 3) W h Try.underlying87 rfl (by kernel_rfl) (by simp [Rt.cs]))
          have HLI := Lib.hid (show i < l'.length by have := I.out.len; have := I.out.ij; omega)
          go_wp2_with (first
            | (refine QB.wpList_ld 87 rfl rfl hld.out rfl ?_)
            | (refine QB.wpList_alloc rfl 87 rfl zero_rt ?_; intro W2 hr1 hb1; have HR1 := Lib.hid (show Row W2 wr.heap.size (Rt.cs ⟨0, 0, 0⟩) 87 from hr1); have HB2 := Lib.hid hb1; clear hr1 hb1)
            | (refine wpList_storeRow rfl 87 (.tmp 7) (.tmp 25) rfl rfl (cs := r.cs) rfl HR1.out (by kernel_rfl) rfl rfl r.one ?_
               refine QB.name fun W hW => ?_
               have HBW := Lib.hid (show Below wr.heap.size wr W from hW ▸ below_setRow HB2.out (Nat.le_refl _) _)
               have HRW := Lib.hid (show Row W wr.heap.size r.cs 87 from hW ▸ HR1.out.setRow r.cs)
               have HBx := Lib.hid (show Below base w W from HBr.out.trans (HBW.out.mono (Nat.le_trans HS.out HBr.out.size)))
               have HC := Lib.hid (dc_any r id (w := W) (g := gop) ((HBx.out.cell (p := ⟨gop, 2, none⟩) HGop.out.1).trans HGop.out.2))
               rw [HQ.out] at HC
               have hl7 := Lib.hid (FLD.out W wr.heap.size HRW.out)
               clear hW hld HR1 HB2)
            | (refine QB.wpList_ld 87 rfl rfl hl7.out rfl ?_)
            | (go_at_call 169; refine HC.out.mono ?_; rintro e w' ⟨rfl, hb⟩; have HB2 := Lib.hid hb; have HRV := Lib.hid (HRW.out.below hb HRW.out.lt)
               have hl8 := Lib.hid (FLD8.out w' wr.heap.size HRV.out)
               have HO8 := Lib.hid (show OwnR w' base (.slice (some ⟨g, 0, none⟩) l.length n1) l' from owns_below (show World.ownsRow _ _ _ _ _ _ _ from HOr.out) (HBW.out.trans (hb.mono HBW.out.size)))
               have HC8 := Lib.hid (HO8.out.cells3)
               have k0 := (HC8.out.2.2.1 (i * 3))
               have k1 := (HC8.out.2.2.1 (i * 3 + 1))
               have k2 := (HC8.out.2.2.1 (i * 3 + 2))
               obtain ⟨y0, m0⟩ := Option.isSome_iff_exists.1 (HC8.out.2.2.2 (i * 3) (by have := HLI.out; omega))
               obtain ⟨y1, m1⟩ := Option.isSome_iff_exists.1 (HC8.out.2.2.2 (i * 3 + 1) (by have := HLI.out; omega))
               obtain ⟨y2, m2⟩ := Option.isSome_iff_exists.1 (HC8.out.2.2.2 (i * 3 + 2) (by have := HLI.out; omega))
               clear hb HC hl7)
            | (refine QB.wpList_ld 87 rfl rfl hl8.out rfl ?_; clear hl8)
            | fail)
          go_roundw
          case rel =>
            exact ⟨i + 1, j + 1, l'.set i r, by simp, by simp, Lib.hid (I.out.keep HM.out HQ.out), Lib.hid (HO8.out.put3 HLI.out r),
              Lib.hid ((((HBx.out.trans (HB2.out.mono (Nat.le_trans HS.out HBx.out.size))).setCell (p := ⟨g, i * 3, none⟩) HC8.out.1 _).setCell (p := ⟨g, i * 3 + 1, none⟩) HC8.out.1 _).setCell (p := ⟨g, i * 3 + 2, none⟩) HC8.out.1 _),
              Lib.hid ((((HOt.out.grew HBr.out.size (HBW.out.trans (HB2.out.mono HBW.out.size))).setCell _ _).setCell _ _).setCell _ _)⟩
          case measure => simp [intOf]; omega
      · have hlt' : ¬ (j : Int) < (l.length : Int) := by omega
        obtain rfl : j = l.length := by have := I.out.jn; omega
        have hic : (i : Int) ≤ (n1 : Int) := by omega
        have hil' : (i : Int) ≤ (l.length : Int) := by omega
        have hcb1 : ¬ n1 - i = 0 := by omega
        have hcb2 : ¬ n1 ≤ i := by omega
        have hln : l.length - i ≠ 0 := by omega
        have HC8 := Lib.hid (HOr.out.cells3)
        have hcl : ∀ ty, (Builtin.clear_ #[25] ty #[.slice (some ⟨g, i * 3, none⟩) (l.length - i) (n1 - i)]).run Try.prog wr = .ok (.tuple #[]) (wr.setCells g (i * 3) (Builtin.zeroCells (Rt.cs ⟨0, 0, 0⟩).toArray (l.length - i)).toList) :=
          fun ty => run_clear_rt wr (by omega) (fun q hq => HC8.out.2.2.2 _ (by have := I.out.len; omega)) HC8.out.2.2.1 ty
        obtain ⟨zs, hzs⟩ : ∃ zs, (Builtin.zeroCells (Rt.cs ⟨0, 0, 0⟩).toArray (l.length - i)).toList = zs := ⟨_, rfl⟩
        rw [hzs] at hcl
        clear hzs
        go_wp2
        go_ret
        refine ⟨_, rfl, ?_, below_cells g base HC8.out.1 _ _ _ _ HBr.out, ?_⟩
        rotate_left
        · obtain ⟨cs0, hr0, _⟩ := HO.out.row
          exact keepM hr0 (HOt.out.setCells _ _)
        rw [← I.out.done]
        exact HOr.out.cut (by have := I.out.len; omega) _
set_option maxRecDepth 100000 in
set_option maxHeartbeats 2000000 in
theorem drop_none {w : World} {B : Nat} {vp vr : Value} {c : Cf} {o : Opn} (h : CAt w B vp vr c) (hV : Val c) (hk : o.ky.length = 32) (hpeer : has Mb.key (o.id, 0) c.ps = false) (hB : B ≤ w.heap.size) :
    Calls Try.prog 143 #[.agg #[vp, vr], o.val] w fun e w' => e = .returned (.tuple #[zcfg, .int .i64 6]) ∧ Below w.heap.size w w' := by
  obtain ⟨A1, n1, A2, n2, rfl, rfl⟩ := h.shape
  obtain ⟨W1, hW1⟩ : ∃ W1, ((w.alloc (.cells #[.slice A1 c.ps.length n1, .slice A2 c.rs.length n2] 27)).alloc (.cells o.cs.toArray 45)).alloc (.cells #[.slice none 0 0, .slice none 0 0] 27) = W1 := ⟨_, rfl⟩
  have hb1 : Below w.heap.size w W1 := hW1 ▸ (((Below.refl _ w).alloc (Nat.le_refl _) _).alloc (by simp) _).alloc (by simp; omega) _
  have hr0 : Row W1 w.heap.size [.slice A1 c.ps.length n1, .slice A2 c.rs.length n2] 27 := hW1 ▸ ((Row.new rfl rfl : Row (w.alloc (.cells #[.slice A1 c.ps.length n1, .slice A2 c.rs.length n2] 27)) w.heap.size [.slice A1 c.ps.length n1, .slice A2 c.rs.length n2] 27).alloc _).alloc _
  have hr1 : Row W1 (w.heap.size + 1) o.cs 45 := hW1 ▸ (Row.new (by simp) rfl : Row ((w.alloc (.cells #[.slice A1 c.ps.length n1, .slice A2 c.rs.length n2] 27)).alloc (.cells o.cs.toArray 45)) (w.heap.size + 1) o.cs 45).alloc _
  have hr2 : Row W1 (w.heap.size + 1 + 1) [.slice none 0 0, .slice none 0 0] 27 := hW1 ▸ Row.new (by simp) rfl
  have c0 := hr0.cell (i := 0) rfl
  have c1 := hr0.cell (i := 1) rfl
  have ci := hr1.cell (i := 2) rfl
  have ca := hr1.cell (i := 35) (Opn.at35 hk)
  have cb := hr1.cell (i := 36) (Opn.at36 hk)
  have HR0 := Lib.hid hr0
  have HR1 := Lib.hid hr1
  have HR2 := Lib.hid hr2
  have HB1 := Lib.hid hb1
  have HC := Lib.hid h
  have Hk := Lib.hid hk
  have HV := Lib.hid hV
  have HBw := Lib.hid hB
  have HAt := Lib.hid (At1_any (w := W1) (B := B) (vp := .slice A1 c.ps.length n1) (vr := .slice A2 c.rs.length n2) (h.1.below (hb1.mono hB)) (by have := hV.1; omega) hV.2.2.2.1 rfl rfl o.id (Nat.le_trans hB hb1.size))
  obtain ⟨p, hp⟩ : ∃ p, pos Mb.key (o.id, 0) c.ps = p := ⟨_, rfl⟩
  rw [hp, hpeer] at HAt
  clear h hV hk hB hb1 hr0 hr1 hr2 hp hpeer
  unfold Opn.val
  go_enter Try.func143, Try.ntmps143
  go_wp2_with fail
  refine HAt.out.mono ?_
  rintro e W2 ⟨rfl, hb⟩
  have HR0' := Lib.hid (HR0.out.below hb HR0.out.lt)
  have HR1' := Lib.hid (HR1.out.below hb HR1.out.lt)
  have HR2' := Lib.hid (HR2.out.below hb HR2.out.lt)
  have HB12 := Lib.hid (show Below w.heap.size w W2 from nextB HB1.out (Nat.le_refl _) hb)
  have d0 := HR0'.out.cell (i := 0) rfl
  have d1 := HR0'.out.cell (i := 1) rfl
  have di := HR1'.out.cell (i := 2) rfl
  have da := HR1'.out.cell (i := 35) (Opn.at35 Hk.out)
  have db := HR1'.out.cell (i := 36) (Opn.at36 Hk.out)
  clear hb c0 c1 ci ca cb hW1
  clear HAt HC HV Hk
  have f0 := frozen_row HR2'.out 0
  have f1 := frozen_row HR2'.out 1
  have g0 := HR2'.out.cell (i := 0) rfl
  have g1 := HR2'.out.cell (i := 1) rfl
  go_wp2_with fail
  refine bodyPost_ret (results_ct rfl rfl ((HR2'.out.set 0 _).set 1 _) Try.underlying27 rfl (by kernel_rfl) rfl) rfl ?_
  exact ⟨rfl, (HB12.out.setCell (by simp; omega) _).setCell (by simp; omega) _⟩
set_option maxRecDepth 100000 in
set_option maxHeartbeats 4000000 in
theorem drop_ok {w : World} {B : Nat} {vp vr : Value} {c : Cf} {o : Opn} (h : CAt w B vp vr c) (hV : Val c) (hk : o.ky.length = 32) (hpeer : has Mb.key (o.id, 0) c.ps = true) (hB : B ≤ w.heap.size) :
    Calls Try.prog 143 #[.agg #[vp, vr], o.val] w fun e w' => ∃ v1 v2, e = .returned (.tuple #[.agg #[v1, v2], .int .i64 0]) ∧ CNew w' w.heap.size v1 v2 ⟨delM c.ps (o.id, 0), c.rs.filter fun r => !(r.peer == o.id)⟩ ∧ Below w.heap.size w w' := by
  rw [← delM_is hV.2.2.2.1 hpeer]
  obtain ⟨A1, n1, A2, n2, rfl, rfl⟩ := h.shape
  obtain ⟨W1, hW1⟩ : ∃ W1, ((w.alloc (.cells #[.slice A1 c.ps.length n1, .slice A2 c.rs.length n2] 27)).alloc (.cells o.cs.toArray 45)).alloc (.cells #[.slice none 0 0, .slice none 0 0] 27) = W1 := ⟨_, rfl⟩
  have hb1 : Below w.heap.size w W1 := hW1 ▸ (((Below.refl _ w).alloc (Nat.le_refl _) _).alloc (by simp) _).alloc (by simp; omega) _
  have hr0 : Row W1 w.heap.size [.slice A1 c.ps.length n1, .slice A2 c.rs.length n2] 27 := hW1 ▸ ((Row.new rfl rfl : Row (w.alloc (.cells #[.slice A1 c.ps.length n1, .slice A2 c.rs.length n2] 27)) w.heap.size [.slice A1 c.ps.length n1, .slice A2 c.rs.length n2] 27).alloc _).alloc _
  have hr1 : Row W1 (w.heap.size + 1) o.cs 45 := hW1 ▸ (Row.new (by simp) rfl : Row ((w.alloc (.cells #[.slice A1 c.ps.length n1, .slice A2 c.rs.length n2] 27)).alloc (.cells o.cs.toArray 45)) (w.heap.size + 1) o.cs 45).alloc _
  have hr2 : Row W1 (w.heap.size + 1 + 1) [.slice none 0 0, .slice none 0 0] 27 := hW1 ▸ Row.new (by simp) rfl
  have c0 := hr0.cell (i := 0) rfl
  have c1 := hr0.cell (i := 1) rfl
  have ci := hr1.cell (i := 2) rfl
  have ca := hr1.cell (i := 35) (Opn.at35 hk)
  have cb := hr1.cell (i := 36) (Opn.at36 hk)
  have HR0 := Lib.hid hr0
  have HR1 := Lib.hid hr1
  have HR2 := Lib.hid hr2
  have HB1 := Lib.hid hb1
  have HC := Lib.hid h
  have Hk := Lib.hid hk
  have HV := Lib.hid hV
  have HBw := Lib.hid hB
  have HAt := Lib.hid (At1_any (w := W1) (B := B) (vp := .slice A1 c.ps.length n1) (vr := .slice A2 c.rs.length n2) (h.1.below (hb1.mono hB)) (by have := hV.1; omega) hV.2.2.2.1 rfl rfl o.id (Nat.le_trans hB hb1.size))
  obtain ⟨p, hp⟩ : ∃ p, pos Mb.key (o.id, 0) c.ps = p := ⟨_, rfl⟩
  rw [hp, hpeer] at HAt
  have HPL := Lib.hid (show p + 1 ≤ c.ps.length by have := pos_fit hV.2.2.2.1 (o.id, 0); rw [hp, hpeer, if_pos rfl] at this; exact this)
  rw [hp]
  obtain ⟨L', hL'⟩ : ∃ L', c.ps.take p ++ [] ++ c.ps.drop (p + 1) = L' := ⟨_, rfl⟩
  obtain ⟨F', hF'⟩ : ∃ F', (c.rs.filter fun r => !(r.peer == o.id)) = F' := ⟨_, rfl⟩
  rw [hL', hF']
  have HL' := Lib.hid hL'
  have HF' := Lib.hid hF'
  clear h hV hk hB hb1 hr0 hr1 hr2 hp hpeer hL' hF'
  unfold Opn.val
  go_enter Try.func143, Try.ntmps143
  go_wp2_with fail
  refine HAt.out.mono ?_
  rintro e W2 ⟨rfl, hb⟩
  have HR0' := Lib.hid (HR0.out.below hb HR0.out.lt)
  have HR1' := Lib.hid (HR1.out.below hb HR1.out.lt)
  have HR2' := Lib.hid (HR2.out.below hb HR2.out.lt)
  have HB12 := Lib.hid (show Below w.heap.size w W2 from nextB HB1.out (Nat.le_refl _) hb)
  have d0 := HR0'.out.cell (i := 0) rfl
  have d1 := HR0'.out.cell (i := 1) rfl
  have di := HR1'.out.cell (i := 2) rfl
  have da := HR1'.out.cell (i := 35) (Opn.at35 Hk.out)
  have db := HR1'.out.cell (i := 36) (Opn.at36 Hk.out)
  clear hb c0 c1 ci ca cb hW1
  go_wp2_with fail
  obtain ⟨g0, hg0⟩ : ∃ g, w.heap.size = g := ⟨_, rfl⟩
  obtain ⟨g1, hg1⟩ : ∃ g, w.heap.size + 1 = g := ⟨_, rfl⟩
  obtain ⟨g2, hg2⟩ : ∃ g, w.heap.size + 1 + 1 = g := ⟨_, rfl⟩
  have HG2 := Lib.hid hg2
  have HRo := Lib.hid (show Row W2 g1 o.cs 45 from hg1 ▸ HR1'.out)
  have HRc := Lib.hid (show Row W2 g0 [.slice A1 c.ps.length n1, .slice A2 c.rs.length n2] 27 from hg0 ▸ HR0'.out)
  have HRr := Lib.hid (show Row W2 g2 [.slice none 0 0, .slice none 0 0] 27 from hg2 ▸ HR2'.out)
  have F0 := Lib.hid (fun w' (h : Below W2.heap.size W2 w') => (HRc.out.below h HRc.out.lt).cell (i := 0) rfl)
  have F1 := Lib.hid (fun w' (h : Below W2.heap.size W2 w') => (HRc.out.below h HRc.out.lt).cell (i := 1) rfl)
  have HT := Lib.hid (fun w' (h : Below W2.heap.size W2 w') => show CAt w' B (.slice A1 c.ps.length n1) (.slice A2 c.rs.length n2) c from HC.out.below ((nextB HB12.out (Nat.le_refl _) h).mono HBw.out))
  have HN := Lib.hid (show c.ps.length ≤ 64 ∧ c.rs.length ≤ 256 ∧ p + 1 ≤ c.ps.length from ⟨HV.out.1, HV.out.2.1, HPL.out⟩)
  have HBs := Lib.hid (Nat.le_trans HBw.out HB12.out.size)
  have hw1 : IntKind.i64.wrap ((p : Int) + 1) = ((p + 1 : Nat) : Int) := by rw [IntWalk.i64_in _ (by have := HN.out; omega)]; omega
  rw [hg2, hg1, hg0]
  clear hg0 hg1 hg2 d0 d1 di da db HAt
  refine Tail.marksAt mixed 10 Grew [By.is (.pointer (some ⟨g0, 0, none⟩)),
    By.is (.slice A1 c.ps.length n1),
    By.is (.int .i64 (p : Int)),
    By.is (.int .i64 (p : Int)),
    By.is (.int .i64 ((p + 1 : Nat) : Int)),
    ownMM W2.heap.size L',
    By.is (.pointer (some ⟨g0, 1, none⟩)),
    By.is (.slice A2 c.rs.length n2),
    ownRM W2.heap.size c.rs,
    By.is (.func (.func 169) #[] #[.pointer (some ⟨g1, 0, none⟩)])]
    (Ev.masks _ []) (Nat.zero_lt_succ _) (by kernel_rfl) (by kernel_rfl) rfl Grew.refl Grew.trans ⟨?_, ?_, ?_, ?_, ?_, ?_, ?_, ?_, ?_, ?_, trivial⟩ ?_
  · intro a w' ht hs hg -- 20
    have h2 := By.same_get hs 2 (by decide) (by kernel_rfl)
    refine By.yes rfl ?_
    clear hs hg
    go_simp
    exact ⟨_, rfl, Grew.refl _, rfl⟩
  · intro a w' ht hs hg -- 21
    have h0 : a.tmps.getD 20 undef = _ := By.given_get hg 0 rfl rfl (by kernel_rfl)
    refine By.yes rfl ?_
    clear hs hg
    have hc := F0.out w' ⟨ht.os, ht.tape, ht.output, ht.size, ht.block⟩
    go_simp
    exact ⟨_, rfl, Grew.refl _, rfl⟩
  · intro a w' ht hs hg -- 22
    have h6 := By.same_get hs 6 (by decide) (by kernel_rfl)
    refine By.yes rfl ?_
    clear hs hg
    go_simp
    exact ⟨_, rfl, Grew.refl _, rfl⟩
  · intro a w' ht hs hg -- 23
    have h6 := By.same_get hs 6 (by decide) (by kernel_rfl)
    refine By.yes rfl ?_
    clear hs hg
    go_simp
    exact ⟨_, rfl, Grew.refl _, rfl⟩
  · intro a w' ht hs hg -- 24
    have h23 : a.tmps.getD 23 undef = _ := By.given_get hg 3 rfl rfl (by kernel_rfl)
    refine By.yes rfl ?_
    clear hs hg
    go_simp
    first
      | exact ⟨_, rfl, Grew.refl _, rfl⟩
      | (rw [hw1]; exact ⟨_, rfl, Grew.refl _, rfl⟩)
  · intro a w' ht hs hg -- 25
    have h21 : a.tmps.getD 21 undef = _ := By.given_get hg 1 rfl rfl (by kernel_rfl)
    have h22 : a.tmps.getD 22 undef = _ := By.given_get hg 2 rfl rfl (by kernel_rfl)
    have h24 : a.tmps.getD 24 undef = _ := By.given_get hg 4 rfl rfl (by kernel_rfl)
    refine By.yes rfl ?_
    clear hs hg
    have hb : Below W2.heap.size W2 w' := ⟨ht.os, ht.tape, ht.output, ht.size, ht.block⟩
    have HP := Lib.hid (put1_any (w := w') (B := B) (vx := .slice none 0 0) (x := []) (a := p) (b := p + 1) (HT.out w' hb).1 (show MTab w' B (.slice none 0 0) [] from ⟨fun _ h => by simp at h, Tab.nil 34 w' B _ _⟩) (by have := HN.out; omega) (by simp) (by omega) (by have := HN.out; omega) (Nat.le_trans HBs.out hb.size))
    have Hs := Lib.hid hb.size
    clear hb
    go_simp
    refine HP.out.mono ?_
    rintro e w2 ⟨v', rfl, ho, hb2⟩
    rw [HL'.out] at ho
    exact ⟨_, rfl, hb2, ho.less Hs.out⟩
  · intro a w' ht hs hg -- 26
    have h2 := By.same_get hs 2 (by decide) (by kernel_rfl)
    refine By.yes rfl ?_
    clear hs hg
    go_simp
    exact ⟨_, rfl, Grew.refl _, rfl⟩
  · intro a w' ht hs hg -- 27
    have h0 : a.tmps.getD 26 undef = _ := By.given_get hg 6 rfl rfl (by kernel_rfl)
    refine By.yes rfl ?_
    clear hs hg
    have hc := F1.out w' ⟨ht.os, ht.tape, ht.output, ht.size, ht.block⟩
    go_simp
    exact ⟨_, rfl, Grew.refl _, rfl⟩
  · intro a w' ht hs hg -- 28
    have h27 : a.tmps.getD 27 undef = _ := By.given_get hg 7 rfl rfl (by kernel_rfl)
    refine By.yes rfl ?_
    clear hs hg
    have hb : Below W2.heap.size W2 w' := ⟨ht.os, ht.tape, ht.output, ht.size, ht.block⟩
    have HCl := Lib.hid (clone2_any (w := w') (B := B) (HT.out w' hb).2 (by have := HN.out; omega))
    have Hs := Lib.hid hb.size
    clear hb
    go_simp
    refine HCl.out.mono ?_
    rintro e w2 ⟨v', rfl, ho, hb2⟩
    exact ⟨_, rfl, hb2, ho.less Hs.out⟩
  · intro a w' ht hs hg -- 29
    have h8 := By.same_get hs 8 (by decide) (by kernel_rfl)
    refine By.yes rfl ?_
    clear hs hg
    go_simp
    exact ⟨_, rfl, Grew.refl _, rfl⟩
  refine By.ends_is (By.ends_is (By.ends_is (By.ends_is (By.ends_is (By.ends_any fun v25 => (By.ends_is (By.ends_is (By.ends_any fun v28 => (By.ends_is (By.ends_nil fun W9 hw9 => ?_))))))))))
  simp only [Act.put, List.setIfInBounds_toArray, List.set_cons_succ, List.set_cons_zero]
  simp only [List.drop_succ_cons, List.drop_zero]
  obtain ⟨⟨hw9, h25⟩, h28⟩ := hw9
  have h25' : OwnM W9 W2.heap.size v25 L' := h25
  have h28' : OwnR W9 W2.heap.size v28 c.rs := h28
  obtain ⟨A3, n3, rfl⟩ := h25'.shape
  obtain ⟨A4, n4, rfl⟩ := h28'.shape
  have hb9 : Below W2.heap.size W2 W9 := ⟨hw9.os, hw9.tape, hw9.output, hw9.size, hw9.block⟩
  have HD := Lib.hid (Delete_any h28' (by have := HN.out; omega) o.id (gop := g1) HRo.out.lt ((HRo.out.below hb9 HRo.out.lt).cell (i := 2) rfl) hb9.size)
  have HM9 := Lib.hid h25'
  have HB9 := Lib.hid hb9
  have HR9 := Lib.hid (HRr.out.below hb9 HRr.out.lt)
  clear hw9 h25 h28 h25' h28' hb9
  go_wp2_with (first
    | (go_at_call 171
       refine HD.out.mono ?_
       rintro e w10 ⟨v', rfl, ho, hb, hkeep⟩
       rw [HF'.out] at ho
       obtain ⟨A5, n5, rfl⟩ := ho.shape
       have HN10 := Lib.hid (show CNew w10 W2.heap.size (.slice A3 L'.length n3) (.slice A5 F'.length n5) ⟨L', F'⟩ from ⟨hkeep _ _ _ HM9.out, ho⟩)
       have HB10 := Lib.hid (HB9.out.trans hb)
       have HR10 := Lib.hid (HRr.out.below HB10.out HRr.out.lt)
       have f0 := frozen_row HR10.out 0
       have f1 := frozen_row HR10.out 1
       have q0 := HR10.out.cell (i := 0) rfl
       have q1 := HR10.out.cell (i := 1) rfl
       clear ho hb hkeep HD)
    | fail)
  have hg2 : g2 < W2.heap.size := HRr.out.lt
  have HX := Lib.hid (((HN10.out.setCell ⟨g2, 0, none⟩ hg2 (.slice A3 L'.length n3)).setCell ⟨g2, 1, none⟩ hg2 (.slice A5 F'.length n5)).less (base' := w.heap.size) HB12.out.size)
  refine bodyPost_ret (results_ct rfl rfl ((HR10.out.set 0 _).set 1 _) Try.underlying27 rfl (by kernel_rfl) rfl) rfl ?_
  exact ⟨_, _, rfl, HX.out, ((nextB HB12.out (Nat.le_refl _) HB10.out).setCell (by have := HG2.out; simp; omega) _).setCell (by have := HG2.out; simp; omega) _⟩
end Go.Proofs.Ytlphmbefcbhhpaa.Cfg
