/- An address leads where its longest prefix says; a longer prefix changes nothing for other addresses: 'drawbridgelaw08.ConfigLeads', for every argument. -/
import Derived.Test.YtlphmbefcbhhpaaCfgLeadPure
import Derived.Test.YtlphmbefcbhhpaaCfgArgs
import Derived.Test.YtlphmbefcbhhpaaCfgDo4
import Derived.Test.YtlphmbefcbhhpaaCfgLives
import Derived.Test.YtlphmbefcbhhpaaLaw
namespace Go.Proofs.Ytlphmbefcbhhpaa.cfgLeads
open Go.ChangeShapes Go.WideShapes Go.ChangeAt Go.RowKit Go.Maps
open Cfg
theorem own : ownKnob Try.checked.prog.godebug = none := by kernel_rfl
theorem laid : laidOutB Try.checked.prog = true := by kernel_rfl
def lookI (m : Option Mb) : Int := match m with | none => 0 | some m => m.id
theorem lookV_is (m : Option Mb) : lookV m = .tuple #[.int .i64 (lookI m), .bool m.isSome] := by cases m <;> rfl
/-- The operation that the law does. -/
def rop (o : Opn) : Opn := ⟨4, 0, o.id, zkey, bits .and .u32 o.addr (maskZ o.bits), o.bits⟩
set_option maxRecDepth 100000 in
theorem build_op (i a b : Int) (w : World) : (Instr.build 45 #[(0, .int .i64 4), (2, .int .i64 i), (4, .int .u32 a), (5, .int .i64 b)]).run Try.prog w = .ok (Opn.val ⟨4, 0, i, zkey, a, b⟩) w := by
  show _ = _
  kernel_rfl
theorem wp_bd {P : Program} {o : Oper} {a : Act} {w : World} {K : Act → World → Prop} {Q : Exit → Act → World → Prop} (t : TypeId) (parts : Array (Nat × Operand)) (ho : o.op = .build t parts) {ps : Array (Nat × Value)} (hp : (parts.map fun (i, x) => (i, a.eval x)) = ps) {v : Value}
    (hrun : (Instr.build t ps).run P w = .ok v w) (hk : K (a.put o.dst v) w) : o.wp P a w K Q := by
  unfold Oper.wp execOp
  simp only [ho, hp, Sem.run_bind, Sem.run_pure, Result.andThen_ok, hrun]
  exact hk
theorem mem_has {l : List Mb} {id : Int} (h : has Mb.key (id, 0) l = true) : ∃ m, mem1 l id = some m ∧ m.id = id := by
  obtain ⟨m, hm, hk⟩ := has_iff.1 h
  have hid : m.id = id := by have : (m.id, (0 : Int)) = (id, 0) := hk; simpa using this
  cases hq : mem1 l id with
  | none =>
    unfold mem1 at hq
    rw [List.find?_eq_none] at hq
    have := hq m hm
    simp [hid] at this
  | some x =>
    refine ⟨x, rfl, ?_⟩
    unfold mem1 at hq
    have := List.find?_some hq
    simpa using this
set_option maxRecDepth 100000 in
set_option maxHeartbeats 8000000 in
theorem walk {w : World} {vp vr : Value} {c : Cf} {o : Opn} (hc : CAt w w.heap.size vp vr c) (hcr : ∀ r ∈ c.rs, 0 ≤ r.addr ∧ r.addr ≤ 4294967295) (hk : o.ky.length = 32) (x : Int) (hx : 0 ≤ x ∧ x ≤ 4294967295) : Calls Try.prog 7 #[.agg #[vp, vr], o.val, .int .u32 x] w fun e w' => e = .returned (.bool true) ∧ Below w.heap.size w w' := by
  obtain ⟨A1, n1, A2, n2, rfl, rfl⟩ := hc.shape
  obtain ⟨W0, hW0⟩ : ∃ W0, (w.alloc (.cells #[.slice A1 c.ps.length n1, .slice A2 c.rs.length n2] 27)).alloc (.cells o.cs.toArray 45) = W0 := ⟨_, rfl⟩
  have hb0 : Below w.heap.size w W0 := hW0 ▸ ((Below.refl _ w).alloc (Nat.le_refl _) _).alloc (by simp) _
  have hr0 : Row W0 w.heap.size [.slice A1 c.ps.length n1, .slice A2 c.rs.length n2] 27 := hW0 ▸ (Row.new rfl rfl : Row (w.alloc (.cells #[.slice A1 c.ps.length n1, .slice A2 c.rs.length n2] 27)) w.heap.size [.slice A1 c.ps.length n1, .slice A2 c.rs.length n2] 27).alloc _
  have hr1 : Row W0 (w.heap.size + 1) o.cs 45 := hW0 ▸ Row.new (by simp) rfl
  have HR0 := Lib.hid hr0
  have HR1 := Lib.hid hr1
  have HB0 := Lib.hid hb0
  have HC := Lib.hid hc
  have HCR := Lib.hid hcr
  have Hk := Lib.hid hk
  have HX := Lib.hid hx
  clear hc hcr hk hx hr0 hr1 hb0
  unfold Opn.val
  go_enter Try.func7, Try.ntmps7
  go_wp2_with (first
    | (go_at_call 18; refine (lives_any _).mono ?_; rintro e w1 ⟨rfl, hb⟩; have HB := Lib.hid hb; clear hb)
    | fail)
  clear hW0
  have HB1 := Lib.hid (show Below w.heap.size w w1 from nextB HB0.out (Nat.le_refl _) HB.out)
  have KR0 := Lib.hid (HR0.out.below HB.out HR0.out.lt)
  have KR1 := Lib.hid (HR1.out.below HB.out HR1.out.lt)
  obtain ⟨g0, hg0⟩ : ∃ g, w.heap.size = g := ⟨_, rfl⟩
  obtain ⟨g1, hg1⟩ : ∃ g, w.heap.size + 1 = g := ⟨_, rfl⟩
  have HG1 := Lib.hid hg1
  have HG0 := Lib.hid hg0
  have HRc := Lib.hid (show Row w1 g0 [.slice A1 c.ps.length n1, .slice A2 c.rs.length n2] 27 from hg0 ▸ KR0.out)
  have HRo := Lib.hid (show Row w1 g1 o.cs 45 from hg1 ▸ KR1.out)
  have F2 := Lib.hid (fun w' (h : Below w1.heap.size w1 w') => (HRo.out.below h HRo.out.lt).cell (i := 2) rfl)
  have F35 := Lib.hid (fun w' (h : Below w1.heap.size w1 w') => (HRo.out.below h HRo.out.lt).cell (i := 35) (Opn.at35 Hk.out))
  have F36 := Lib.hid (fun w' (h : Below w1.heap.size w1 w') => (HRo.out.below h HRo.out.lt).cell (i := 36) (Opn.at36 Hk.out))
  rw [hg1, hg0]
  clear hg0 hg1 HR0 HR1 KR0 KR1 HB
  refine Tail.marksAt mixed 11 Grew [By.is (.pointer (some ⟨g1, 2, none⟩)),
    By.is (.int .i64 o.id),
    By.is (.pointer (some ⟨g1, 35, none⟩)),
    By.is (.int .u32 o.addr),
    By.is (.pointer (some ⟨g1, 36, none⟩)),
    By.is (.int .i64 o.bits),
    By.is (.int .u32 (maskZ o.bits)),
    By.is (.int .u32 (bits .and .u32 o.addr (maskZ o.bits))),
    By.is (.pointer (some ⟨g1, 36, none⟩)),
    By.is (.int .i64 o.bits),
    By.is (rop o).val]
    (Ev.masks _ []) (Nat.zero_lt_succ _) (by kernel_rfl) (by kernel_rfl) rfl Grew.refl Grew.trans ⟨?_, ?_, ?_, ?_, ?_, ?_, ?_, ?_, ?_, ?_, ?_, trivial⟩ ?_
  · intro a w' ht hs hg -- 18
    have h4 := By.same_get hs 4 (by decide) (by kernel_rfl)
    refine By.yes rfl ?_
    clear hs hg
    go_simp
    exact ⟨_, rfl, Grew.refl _, rfl⟩
  · intro a w' ht hs hg -- 19
    have h0 : a.tmps.getD 18 undef = _ := By.given_get hg 0 rfl rfl (by kernel_rfl)
    refine By.yes rfl ?_
    clear hs hg
    have hc := F2.out w' ⟨ht.os, ht.tape, ht.output, ht.size, ht.block⟩
    go_simp
    exact ⟨_, rfl, Grew.refl _, rfl⟩
  · intro a w' ht hs hg -- 20
    have h4 := By.same_get hs 4 (by decide) (by kernel_rfl)
    refine By.yes rfl ?_
    clear hs hg
    go_simp
    exact ⟨_, rfl, Grew.refl _, rfl⟩
  · intro a w' ht hs hg -- 21
    have h0 : a.tmps.getD 20 undef = _ := By.given_get hg 2 rfl rfl (by kernel_rfl)
    refine By.yes rfl ?_
    clear hs hg
    have hc := F35.out w' ⟨ht.os, ht.tape, ht.output, ht.size, ht.block⟩
    go_simp
    exact ⟨_, rfl, Grew.refl _, rfl⟩
  · intro a w' ht hs hg -- 22
    have h4 := By.same_get hs 4 (by decide) (by kernel_rfl)
    refine By.yes rfl ?_
    clear hs hg
    go_simp
    exact ⟨_, rfl, Grew.refl _, rfl⟩
  · intro a w' ht hs hg -- 23
    have h0 : a.tmps.getD 22 undef = _ := By.given_get hg 4 rfl rfl (by kernel_rfl)
    refine By.yes rfl ?_
    clear hs hg
    have hc := F36.out w' ⟨ht.os, ht.tape, ht.output, ht.size, ht.block⟩
    go_simp
    exact ⟨_, rfl, Grew.refl _, rfl⟩
  · intro a w' ht hs hg -- 24
    have h0 : a.tmps.getD 23 undef = _ := By.given_get hg 5 rfl rfl (by kernel_rfl)
    refine By.yes rfl ?_
    clear hs hg
    go_simp
    refine (Mask_any o.bits w').mono ?_
    rintro e w2 ⟨rfl, rfl⟩
    exact ⟨_, rfl, Grew.refl _, rfl⟩
  · intro a w' ht hs hg -- 25
    have h0 : a.tmps.getD 21 undef = _ := By.given_get hg 3 rfl rfl (by kernel_rfl)
    have h1 : a.tmps.getD 24 undef = _ := By.given_get hg 6 rfl rfl (by kernel_rfl)
    refine By.yes rfl ?_
    clear hs hg
    go_simp
    exact ⟨_, rfl, Grew.refl _, rfl⟩
  · intro a w' ht hs hg -- 26
    have h4 := By.same_get hs 4 (by decide) (by kernel_rfl)
    refine By.yes rfl ?_
    clear hs hg
    go_simp
    exact ⟨_, rfl, Grew.refl _, rfl⟩
  · intro a w' ht hs hg -- 27
    have h0 : a.tmps.getD 26 undef = _ := By.given_get hg 8 rfl rfl (by kernel_rfl)
    refine By.yes rfl ?_
    clear hs hg
    have hc := F36.out w' ⟨ht.os, ht.tape, ht.output, ht.size, ht.block⟩
    go_simp
    exact ⟨_, rfl, Grew.refl _, rfl⟩
  · intro a w' ht hs hg -- 28
    have h19 : a.tmps.getD 19 undef = _ := By.given_get hg 1 rfl rfl (by kernel_rfl)
    have h25 : a.tmps.getD 25 undef = _ := By.given_get hg 7 rfl rfl (by kernel_rfl)
    have h27 : a.tmps.getD 27 undef = _ := By.given_get hg 9 rfl rfl (by kernel_rfl)
    refine By.yes rfl ?_
    clear hs hg
    refine wp_bd 45 #[(0, .const (.int .i64 4)), (2, .tmp 19), (4, .tmp 25), (5, .tmp 27)] rfl (ps := #[(0, .int .i64 4), (2, .int .i64 o.id), (4, .int .u32 (bits .and .u32 o.addr (maskZ o.bits))), (5, .int .i64 o.bits)]) ?_ (build_op _ _ _ w') ?_
    · simp only [List.map_toArray, List.map_cons, List.map_nil]
      show #[(0, Value.int .i64 4), (2, a.tmps.getD 19 undef), (4, a.tmps.getD 25 undef), (5, a.tmps.getD 27 undef)] = _
      rw [h19, h25, h27]
    · exact ⟨_, rfl, Grew.refl _, rfl⟩
  refine By.ends_is (By.ends_is (By.ends_is (By.ends_is (By.ends_is (By.ends_is (By.ends_is (By.ends_is (By.ends_is (By.ends_is (By.ends_is (By.ends_nil fun W2 hw2 => ?_)))))))))))
  simp only [Act.put, List.setIfInBounds_toArray, List.set_cons_succ, List.set_cons_zero]
  simp only [List.drop_succ_cons, List.drop_zero]
  have hb2 : Below w1.heap.size w1 W2 := ⟨hw2.os, hw2.tape, hw2.output, hw2.size, hw2.block⟩
  have HB2 := Lib.hid (show Below w.heap.size w W2 from nextB HB1.out (Nat.le_refl _) hb2)
  have KRc := Lib.hid (HRc.out.below hb2 HRc.out.lt)
  have KRo := Lib.hid (HRo.out.below hb2 HRo.out.lt)
  have Hzk := Lib.hid (show (rop o).ky.length = 32 from zkey_len)
  clear hw2 hb2 F2 F35 F36 HRc HRo
  refine wpList_storeRow rfl 45 (.tmp 4) (.tmp 28) rfl rfl (cs := (rop o).cs) rfl KRo.out (by kernel_rfl) (Opn.len Hzk.out) (Opn.len Hk.out) (rop o).one ?_
  refine QB.name fun W hW => ?_
  have HRc := Lib.hid (show Row W g0 [.slice A1 c.ps.length n1, .slice A2 c.rs.length n2] 27 from hW ▸ KRc.out.setOther _ _ (by have := HG0.out; have := HG1.out; omega))
  have HRo := Lib.hid (show Row W g1 (rop o).cs 45 from hW ▸ KRo.out.setRow _)
  have HBW := Lib.hid (show Below w.heap.size w W from hW ▸ below_setRow HB2.out (by have := HG1.out; omega) _)
  clear hW KRc KRo HB1 HB2 Hk
  obtain ⟨q, hq⟩ : ∃ q, rop o = q := ⟨_, rfl⟩
  have hqk : q.kind = 4 := hq ▸ rfl
  have Hqk := Lib.hid hqk
  have Hql := Lib.hid (show q.ky.length = 32 from hq ▸ Hzk.out)
  have Hqa := Lib.hid (show 0 ≤ q.addr ∧ q.addr ≤ 4294967295 from by
    rw [← hq]
    show 0 ≤ bits .and .u32 o.addr (maskZ o.bits) ∧ bits .and .u32 o.addr (maskZ o.bits) ≤ 4294967295
    have h := wf_bits .and .u32 o.addr (maskZ o.bits)
    simp only [Lit.wf, Bool.and_eq_true, decide_eq_true_eq, show IntKind.u32.min = 0 from rfl, show IntKind.u32.max = 4294967295 from rfl] at h
    exact h)
  rw [hq] at HRo
  clear hq hqk Hzk
  have FP := Lib.hid (fun w' (h : Below W.heap.size W w') => (HRc.out.below h HRc.out.lt).cell (i := 0) rfl)
  have FR := Lib.hid (fun w' (h : Below W.heap.size W w') => (HRc.out.below h HRc.out.lt).cell (i := 1) rfl)
  have F2 := Lib.hid (fun w' (h : Below W.heap.size W w') => (HRo.out.below h HRo.out.lt).cell (i := 2) rfl)
  have F35 := Lib.hid (fun w' (h : Below W.heap.size W w') => (HRo.out.below h HRo.out.lt).cell (i := 35) (Opn.at35 Hql.out))
  have F36 := Lib.hid (fun w' (h : Below W.heap.size W w') => (HRo.out.below h HRo.out.lt).cell (i := 36) (Opn.at36 Hql.out))
  have FO := Lib.hid (fun w' (h : Below W.heap.size W w') => l_op (HRo.out.below h HRo.out.lt) Hql.out)
  have FCA := Lib.hid (fun w' (h : Below W.heap.size W w') => show CAt w' w.heap.size (.slice A1 c.ps.length n1) (.slice A2 c.rs.length n2) c from HC.out.below (nextB HBW.out (Nat.le_refl _) h))
  have c0 := FP.out W (Below.refl _ _)
  have c1 := FR.out W (Below.refl _ _)
  have HLi := Lib.hid (Light_any A1 A2 c.ps.length n1 c.rs.length n2 W)
  obtain ⟨li, hli⟩ : ∃ li, (decide (c.ps.length ≤ 40) && decide (c.rs.length ≤ 40)) = li := ⟨_, rfl⟩
  rw [hli] at HLi
  have HLI := Lib.hid hli
  clear hli
  go_wp2_with fail
  refine HLi.out.mono ?_
  rintro e W3 ⟨rfl, hb3⟩
  have HB3 := Lib.hid hb3
  have HBW3 := Lib.hid (show Below w.heap.size w W3 from nextB HBW.out (Nat.le_refl _) hb3)
  clear hb3 c0 c1 HLi
  have c0 := FP.out W3 HB3.out
  have c1 := FR.out W3 HB3.out
  cases li with
  | false =>
    go_wp2
    go_ret
    exact ⟨rfl, HBW3.out⟩
  | true =>
  have HN := Lib.hid (show c.ps.length ≤ 40 ∧ c.rs.length ≤ 40 by have := HLI.out; simp only [Bool.and_eq_true, decide_eq_true_eq] at this; exact this)
  have HCh := Lib.hid (Check_any (w := W3) (B := w.heap.size) (FCA.out W3 HB3.out) HBW3.out.size)
  clear HLI
  go_wp2_with fail
  refine HCh.out.mono ?_
  rintro e W4 ⟨rfl, hb4⟩
  have HB4 := Lib.hid (show Below W.heap.size W W4 from nextB HB3.out (Nat.le_refl _) hb4)
  have HBW4 := Lib.hid (show Below w.heap.size w W4 from nextB HBW3.out (Nat.le_refl _) hb4)
  clear hb4 c0 c1 HCh
  by_cases hV : Val c
  case neg =>
    rw [show checkZ c = 2 from if_neg hV]
    clear hV
    go_wp2
    go_ret
    exact ⟨rfl, HBW4.out⟩
  case pos =>
  rw [show checkZ c = 0 from if_pos hV]
  have HV := Lib.hid hV
  clear hV
  have c0 := FP.out W4 HB4.out
  have c1 := FR.out W4 HB4.out
  have HLO := Lib.hid (FO.out W4 HB4.out)
  have HDo := Lib.hid (DoRoute (w := W4) (B := w.heap.size) (FCA.out W4 HB4.out) HV.out Hql.out Hqk.out HBW4.out.size)
  go_wp2_with (first
    | (show wpList _ _ _ (⟨some 39, _, _, _, _, _⟩ :: _) _ _
       refine QB.wpList_ld 45 rfl rfl HLO.out rfl ?_
       clear HLO)
    | fail)
  rcases HDo.out with ⟨E, hE, hC⟩ | ⟨hok, hp, hfull, hC⟩
  · have hE' : (E == 0) = false := by simpa using hE
    have hE2 : (E != 0) = true := by simpa using hE
    have HE := Lib.hid hE
    clear HDo c0 c1
    refine hC.mono ?_
    rintro e W5 ⟨rfl, hb5⟩
    have HBW5 := Lib.hid (show Below w.heap.size w W5 from nextB HBW4.out (Nat.le_refl _) hb5)
    clear hb5 hC
    unfold zcfg
    go_wp2
    go_ret
    exact ⟨rfl, (HBW5.out.alloc HBW5.out.size _)⟩
  have HOK := Lib.hid hok
  have HP := Lib.hid hp
  clear HDo hok hp hfull c0 c1
  refine hC.mono ?_
  rintro e W5 ⟨v1, v2, rfl, hn, hb5⟩
  have HB5 := Lib.hid (show Below W.heap.size W W5 from nextB HB4.out (Nat.le_refl _) hb5)
  have HBW5 := Lib.hid (show Below w.heap.size w W5 from nextB HBW4.out (Nat.le_refl _) hb5)
  obtain ⟨D, hD⟩ : ∃ D : Cf, (⟨c.ps, setR c.rs ⟨q.addr, q.bits, q.id⟩⟩ : Cf) = D := ⟨_, rfl⟩
  rw [hD] at hn
  have HD := Lib.hid hD
  have HDl := Lib.hid (show D.ps = c.ps ∧ D.rs.length ≤ 1000 by
    rw [← hD]
    refine ⟨rfl, ?_⟩
    have := len_put HV.out.2.2.2.2.2 (q.addr, q.bits) (⟨q.addr, q.bits, q.id⟩ : Rt)
    show (setR c.rs ⟨q.addr, q.bits, q.id⟩).length ≤ 1000
    unfold setR
    rw [show (⟨q.addr, q.bits, q.id⟩ : Rt).key = (q.addr, q.bits) from rfl, this]
    have := HN.out.2
    split <;> omega)
  obtain ⟨A3, n3, A4, n4, rfl, rfl⟩ := hn.at.shape
  have HCD := Lib.hid hn.at
  clear hb5 hn hD hC
  have e6 : Below W.heap.size W (W5.alloc (.cells #[.slice A3 D.ps.length n3, .slice A4 D.rs.length n4] 27)) := HB5.out.alloc HB5.out.size _
  have c0 := FP.out _ e6
  have c1 := FR.out _ e6
  go_wp2_with fail
  obtain ⟨W6, hW6⟩ : ∃ W6, W5.alloc (.cells #[.slice A3 D.ps.length n3, .slice A4 D.rs.length n4] 27) = W6 := ⟨_, rfl⟩
  obtain ⟨gd, hgd⟩ : ∃ g, W5.heap.size = g := ⟨_, rfl⟩
  have hrd : Row W6 gd [.slice A3 D.ps.length n3, .slice A4 D.rs.length n4] 27 := by rw [← hW6, ← hgd]; exact Row.new rfl rfl
  have hb56 : Below W5.heap.size W5 W6 := hW6 ▸ (Below.refl _ W5).alloc (Nat.le_refl _) _
  rw [hW6] at e6
  rw [hW6, hgd]
  have HRD := Lib.hid hrd
  have HBW6 := Lib.hid e6
  have HB6 := Lib.hid (show Below w.heap.size w W6 from nextB HBW5.out (Nat.le_refl _) hb56)
  have HCD6 := Lib.hid ((HCD.out.below hb56).more hb56.size)
  clear hW6 hgd hrd hb56 e6 c0 c1 HCD
  refine (Lookup_any (w := W6) (B := w.heap.size) (FCA.out W6 HBW6.out) (by have := HN.out.1; omega) (by have := HN.out.2; omega) x HB6.out.size).mono ?_
  rintro e W7 ⟨b1, hbe1, rfl, hb7⟩
  have HBe1 := Lib.hid hbe1
  have HB67 := Lib.hid hb7
  have HBW7 := Lib.hid (show Below W.heap.size W W7 from nextB HBW6.out (Nat.le_refl _) hb7)
  have HB7 := Lib.hid (show Below w.heap.size w W7 from nextB HB6.out (Nat.le_refl _) hb7)
  have HRD7 := Lib.hid (HRD.out.below hb7 HRD.out.lt)
  have HCD7 := Lib.hid ((HCD6.out.below hb7).more hb7.size)
  clear hbe1 hb7 HRD HCD6
  rw [lookV_is]
  have c0 := HRD7.out.cell (i := 0) rfl
  have c1 := HRD7.out.cell (i := 1) rfl
  go_wp2_with fail
  refine (Lookup_any (w := W7) (B := W7.heap.size) HCD7.out (by have := HN.out.1; have := HDl.out.1; rw [this]; omega) HDl.out.2 x (Nat.le_refl _)).mono ?_
  rintro e W8 ⟨b2, hbe2, rfl, hb8⟩
  have HBe2 := Lib.hid hbe2
  have HBW8 := Lib.hid (show Below W.heap.size W W8 from nextB HBW7.out (Nat.le_refl _) hb8)
  have HB8 := Lib.hid (show Below w.heap.size w W8 from nextB HB7.out (Nat.le_refl _) hb8)
  have HRD8 := Lib.hid (HRD7.out.below hb8 HRD7.out.lt)
  have HCD8 := Lib.hid ((HCD7.out.below hb8).more hb8.size)
  clear hbe2 hb8 HRD7 HCD7 c0 c1
  rw [lookV_is]
  have HRts := Lib.hid (show Rts c.rs from ⟨HV.out.2.2.2.2.2, fun r hr => (HV.out.2.2.2.2.1 r hr).1, HCR.out⟩)
  have HPre := Lib.hid (show prefB q.addr q.bits = true by
    have h := HOK.out
    unfold okO at h
    simp only [Bool.and_eq_true] at h
    exact h.2.2.2)
  have HLd := Lib.hid (lead_iff (r := ⟨q.addr, q.bits, q.id⟩) HPre.out Hqa.out HX.out)
  have HDD := Lib.hid (show D.ps = c.ps ∧ D.rs = setR c.rs ⟨q.addr, q.bits, q.id⟩ from ⟨by rw [← HD.out], by rw [← HD.out]⟩)
  go_wp2_with fail
  by_cases hA : bits .and .u32 x (maskZ q.bits) = q.addr
  case neg =>
    have h12 : lookM c.ps b1 = lookM D.ps b2 := by
      have hl : leadB ⟨q.addr, q.bits, q.id⟩ x = false := by
        cases h : leadB ⟨q.addr, q.bits, q.id⟩ x with
        | false => rfl
        | true => exact absurd (HLd.out.1 h) hA
      have h2 := HBe2.out
      rw [HDD.out.2] at h2
      rw [HDD.out.1, best_other HRts.out HX.out hl HBe1.out h2]
    rw [← h12]
    clear h12
    have M1 : (bits .and .u32 x (maskZ q.bits) == q.addr) = false := by simpa using hA
    have M2 : (bits .and .u32 x (maskZ q.bits) != q.addr) = true := by simpa using hA
    have FS := Lib.hid (fun w' (h : Below W8.heap.size W8 w') => FR.out w' (nextB HBW8.out (Nat.le_refl _) h))
    have G35 := Lib.hid (fun w' (h : Below W8.heap.size W8 w') => F35.out w' (nextB HBW8.out (Nat.le_refl _) h))
    have G36 := Lib.hid (fun w' (h : Below W8.heap.size W8 w') => F36.out w' (nextB HBW8.out (Nat.le_refl _) h))
    refine QB.region' mixed (by kernel_rfl) ?_
    refine QB.val' (v := ?_) (a' := ?_) (by kernel_rfl) (fun w' hw' => ?_) ?_ ?_
    rotate_left 2
    · go_simp <;> rfl
    · simp only [Act.put, List.setIfInBounds_toArray, List.set_cons_succ, List.set_cons_zero]; rfl
    refine QB.val' (v := ?_) (a' := ?_) (by kernel_rfl) (fun w' hw' => ?_) ?_ ?_
    rotate_left 2
    · go_simp <;> rfl
    · simp only [Act.put, List.setIfInBounds_toArray, List.set_cons_succ, List.set_cons_zero]; rfl
    refine QB.val' (v := ?_) (a' := ?_) (by kernel_rfl) (fun w' hw' => ?_) ?_ ?_
    rotate_left 2
    · have c := G36.out w' hw'; go_simp <;> rfl
    · simp only [Act.put, List.setIfInBounds_toArray, List.set_cons_succ, List.set_cons_zero]; rfl
    refine QB.call' (f := 37) (args := #[.int .i64 q.bits]) (v := .int .u32 (maskZ q.bits)) (a' := ?_) (by kernel_rfl) (fun w' hw' => ?_) (fun w' hw' => (Mask_any q.bits w').mono fun _ _ ⟨h1, h2⟩ => ⟨h1, h2 ▸ hw'⟩) ?_ ?_
    rotate_left
    · go_simp <;> rfl
    · simp only [Act.put, List.setIfInBounds_toArray, List.set_cons_succ, List.set_cons_zero]; rfl
    refine QB.val' (v := ?_) (a' := ?_) (by kernel_rfl) (fun w' hw' => ?_) ?_ ?_
    rotate_left 2
    · go_simp <;> rfl
    · simp only [Act.put, List.setIfInBounds_toArray, List.set_cons_succ, List.set_cons_zero]; rfl
    refine QB.val' (v := ?_) (a' := ?_) (by kernel_rfl) (fun w' hw' => ?_) ?_ ?_
    rotate_left 2
    · go_simp <;> rfl
    · simp only [Act.put, List.setIfInBounds_toArray, List.set_cons_succ, List.set_cons_zero]; rfl
    refine QB.val' (v := ?_) (a' := ?_) (by kernel_rfl) (fun w' hw' => ?_) ?_ ?_
    rotate_left 2
    · have c := G35.out w' hw'; go_simp <;> rfl
    · simp only [Act.put, List.setIfInBounds_toArray, List.set_cons_succ, List.set_cons_zero]; rfl
    refine QB.val' (v := ?_) (a' := ?_) (by kernel_rfl) (fun w' hw' => ?_) ?_ ?_
    rotate_left 2
    · go_simp <;> rfl
    · simp only [Act.put, List.setIfInBounds_toArray, List.set_cons_succ, List.set_cons_zero]; rfl
    refine QB.nil' fun w' hw' => ?_
    have HW9 := Lib.hid hw'
    obtain ⟨W9, hW9⟩ : ∃ W9, w' = W9 := ⟨_, rfl⟩
    rw [hW9] at HW9 ⊢
    clear hw' hW9 FS G35 G36
    have HBW9 := Lib.hid (show Below W.heap.size W W9 from nextB HBW8.out (Nat.le_refl _) HW9.out)
    have HB9 := Lib.hid (show Below w.heap.size w W9 from nextB HB8.out (Nat.le_refl _) HW9.out)
    go_wp2
    go_ret
    exact ⟨rfl, HB9.out⟩
  case pos =>
  by_cases hEx : ∃ r ∈ c.rs, q.bits < r.bits ∧ bits .and .u32 x (maskZ r.bits) = r.addr
  · have h12 : lookM c.ps b1 = lookM D.ps b2 := by
      obtain ⟨r, hr, hb, hm⟩ := hEx
      have h2 := HBe2.out
      rw [HDD.out.2] at h2
      rw [HDD.out.1, best_longer HRts.out HX.out hr ((lead_iff (HRts.out.pre r hr) (HRts.out.inn r hr) HX.out).2 hm) (n := ⟨q.addr, q.bits, q.id⟩) hb HBe1.out h2]
    rw [← h12]
    have HEx := Lib.hid hEx
    clear h12 hEx
    have M1 : (bits .and .u32 x (maskZ q.bits) == q.addr) = true := by simpa using hA
    have M2 : (bits .and .u32 x (maskZ q.bits) != q.addr) = false := by simpa using hA
    have HA := Lib.hid hA
    have FS := Lib.hid (fun w' (h : Below W8.heap.size W8 w') => FR.out w' (nextB HBW8.out (Nat.le_refl _) h))
    have G35 := Lib.hid (fun w' (h : Below W8.heap.size W8 w') => F35.out w' (nextB HBW8.out (Nat.le_refl _) h))
    have G36 := Lib.hid (fun w' (h : Below W8.heap.size W8 w') => F36.out w' (nextB HBW8.out (Nat.le_refl _) h))
    refine QB.region' mixed (by kernel_rfl) ?_
    refine QB.val' (v := ?_) (a' := ?_) (by kernel_rfl) (fun w' hw' => ?_) ?_ ?_
    rotate_left 2
    · go_simp <;> rfl
    · simp only [Act.put, List.setIfInBounds_toArray, List.set_cons_succ, List.set_cons_zero]; rfl
    refine QB.val' (v := ?_) (a' := ?_) (by kernel_rfl) (fun w' hw' => ?_) ?_ ?_
    rotate_left 2
    · go_simp <;> rfl
    · simp only [Act.put, List.setIfInBounds_toArray, List.set_cons_succ, List.set_cons_zero]; rfl
    refine QB.val' (v := ?_) (a' := ?_) (by kernel_rfl) (fun w' hw' => ?_) ?_ ?_
    rotate_left 2
    · have c := G36.out w' hw'; go_simp <;> rfl
    · simp only [Act.put, List.setIfInBounds_toArray, List.set_cons_succ, List.set_cons_zero]; rfl
    refine QB.call' (f := 37) (args := #[.int .i64 q.bits]) (v := .int .u32 (maskZ q.bits)) (a' := ?_) (by kernel_rfl) (fun w' hw' => ?_) (fun w' hw' => (Mask_any q.bits w').mono fun _ _ ⟨h1, h2⟩ => ⟨h1, h2 ▸ hw'⟩) ?_ ?_
    rotate_left
    · go_simp <;> rfl
    · simp only [Act.put, List.setIfInBounds_toArray, List.set_cons_succ, List.set_cons_zero]; rfl
    refine QB.val' (v := ?_) (a' := ?_) (by kernel_rfl) (fun w' hw' => ?_) ?_ ?_
    rotate_left 2
    · go_simp <;> rfl
    · simp only [Act.put, List.setIfInBounds_toArray, List.set_cons_succ, List.set_cons_zero]; rfl
    refine QB.val' (v := ?_) (a' := ?_) (by kernel_rfl) (fun w' hw' => ?_) ?_ ?_
    rotate_left 2
    · go_simp <;> rfl
    · simp only [Act.put, List.setIfInBounds_toArray, List.set_cons_succ, List.set_cons_zero]; rfl
    refine QB.val' (v := ?_) (a' := ?_) (by kernel_rfl) (fun w' hw' => ?_) ?_ ?_
    rotate_left 2
    · have c := G35.out w' hw'; go_simp <;> rfl
    · simp only [Act.put, List.setIfInBounds_toArray, List.set_cons_succ, List.set_cons_zero]; rfl
    refine QB.val' (v := ?_) (a' := ?_) (by kernel_rfl) (fun w' hw' => ?_) ?_ ?_
    rotate_left 2
    · go_simp <;> rfl
    · simp only [Act.put, List.setIfInBounds_toArray, List.set_cons_succ, List.set_cons_zero]; rfl
    refine QB.nil' fun w' hw' => ?_
    have HW9 := Lib.hid hw'
    obtain ⟨W9, hW9⟩ : ∃ W9, w' = W9 := ⟨_, rfl⟩
    rw [hW9] at HW9 ⊢
    clear hw' hW9 FS G35 G36
    have HBW9 := Lib.hid (show Below W.heap.size W W9 from nextB HBW8.out (Nat.le_refl _) HW9.out)
    have HB9 := Lib.hid (show Below w.heap.size w W9 from nextB HB8.out (Nat.le_refl _) HW9.out)
    go_wp2_with fail
    clear M1 M2
    go_loopw [13] (fun iv wr => ∃ i : Nat, i ≤ c.rs.length ∧ iv = .int .i64 (i : Int) ∧ Below W9.heap.size W9 wr ∧ Hid (∀ t y, t < i → c.rs[t]? = some y → ¬ (q.bits < y.bits ∧ bits .and .u32 x (maskZ y.bits) = y.addr))) (fun iv _ => c.rs.length - (intOf iv).toNat)
    case atStart => exact ⟨0, Nat.zero_le _, rfl, Below.refl _ _, Lib.hid fun t y ht => absurd ht (Nat.not_lt_zero _)⟩
    case round =>
      obtain ⟨i, hi, rfl, hb, I⟩ := hrel
      have HBr := Lib.hid hb
      clear hb
      have HBwr := Lib.hid (show Below W.heap.size W wr from nextB HBW9.out (Nat.le_refl _) HBr.out)
      have HBxr := Lib.hid (show Below w.heap.size w wr from nextB HB9.out (Nat.le_refl _) HBr.out)
      have hi2 : (i : Int) ≤ 40 := by have := HN.out.2; omega
      have k0 := FP.out wr HBwr.out
      have k1 := FR.out wr HBwr.out
      by_cases hlt : i < c.rs.length
      · have hlt' : (i : Int) < (c.rs.length : Int) := by omega
        obtain ⟨y, hy⟩ : ∃ y, c.rs[i]? = some y := ⟨_, List.getElem?_eq_getElem hlt⟩
        have HY := Lib.hid hy
        have FT := Lib.hid (fun w' (h : Below wr.heap.size wr w') => RTab.at ((FCA.out w' (nextB HBwr.out (Nat.le_refl _) h)).2) hy)
        obtain ⟨b0, off, e, _, _, _⟩ := FT.out wr (Below.refl _ _)
        subst e
        have FA := Lib.hid (fun w' (h : Below wr.heap.size wr w') => show w'.cell? ⟨b0, off + i * 3, none⟩ = some (.int .u32 y.addr) from by
          obtain ⟨_, _, e, _, hc, _⟩ := FT.out w' h
          cases e
          exact hc 0 (.int .u32 y.addr) rfl)
        have FB := Lib.hid (fun w' (h : Below wr.heap.size wr w') => by
          obtain ⟨_, _, e, _, hc, _⟩ := FT.out w' h
          cases e
          exact hc 1 (.int .i64 y.bits) rfl)
        have FS := Lib.hid (fun w' (h : Below wr.heap.size wr w') => FR.out w' (nextB HBwr.out (Nat.le_refl _) h))
        have G36 := Lib.hid (fun w' (h : Below wr.heap.size wr w') => F36.out w' (nextB HBwr.out (Nat.le_refl _) h))
        clear hy FT
        by_cases hgt : q.bits < y.bits
        · by_cases hm : bits .and .u32 x (maskZ y.bits) = y.addr
          · have HM := Lib.hid (And.intro hgt hm)
            have hm1 : (bits .and .u32 x (maskZ y.bits) == y.addr) = true := by simpa using hm
            go_wp2_with fail
            refine QB.region' mixed (by kernel_rfl) ?_
            refine QB.val' (v := ?_) (a' := ?_) (by kernel_rfl) (fun w' hw' => ?_) ?_ ?_
            rotate_left 2
            · go_simp <;> rfl
            · simp only [Act.put, List.setIfInBounds_toArray, List.set_cons_succ, List.set_cons_zero]; rfl
            refine QB.val' (v := ?_) (a' := ?_) (by kernel_rfl) (fun w' hw' => ?_) ?_ ?_
            rotate_left 2
            · have c := FS.out w' hw'; go_simp <;> rfl
            · simp only [Act.put, List.setIfInBounds_toArray, List.set_cons_succ, List.set_cons_zero]; rfl
            refine QB.val' (v := ?_) (a' := ?_) (by kernel_rfl) (fun w' hw' => ?_) ?_ ?_
            rotate_left 2
            · go_simp <;> rfl
            · simp only [Act.put, List.setIfInBounds_toArray, List.set_cons_succ, List.set_cons_zero]; rfl
            refine QB.val' (v := ?_) (a' := ?_) (by kernel_rfl) (fun w' hw' => ?_) ?_ ?_
            rotate_left 2
            · go_simp <;> rfl
            · simp only [Act.put, List.setIfInBounds_toArray, List.set_cons_succ, List.set_cons_zero]; rfl
            refine QB.val' (v := ?_) (a' := ?_) (by kernel_rfl) (fun w' hw' => ?_) ?_ ?_
            rotate_left 2
            · go_simp <;> rfl
            · simp only [Act.put, List.setIfInBounds_toArray, List.set_cons_succ, List.set_cons_zero]; rfl
            refine QB.val' (v := ?_) (a' := ?_) (by kernel_rfl) (fun w' hw' => ?_) ?_ ?_
            rotate_left 2
            · have c := FB.out w' hw'; go_simp <;> rfl
            · simp only [Act.put, List.setIfInBounds_toArray, List.set_cons_succ, List.set_cons_zero]; rfl
            refine QB.val' (v := ?_) (a' := ?_) (by kernel_rfl) (fun w' hw' => ?_) ?_ ?_
            rotate_left 2
            · go_simp <;> rfl
            · simp only [Act.put, List.setIfInBounds_toArray, List.set_cons_succ, List.set_cons_zero]; rfl
            refine QB.val' (v := ?_) (a' := ?_) (by kernel_rfl) (fun w' hw' => ?_) ?_ ?_
            rotate_left 2
            · have c := G36.out w' hw'; go_simp <;> rfl
            · simp only [Act.put, List.setIfInBounds_toArray, List.set_cons_succ, List.set_cons_zero]; rfl
            refine QB.val' (v := ?_) (a' := ?_) (by kernel_rfl) (fun w' hw' => ?_) ?_ ?_
            rotate_left 2
            · go_simp <;> rfl
            · simp only [Act.put, List.setIfInBounds_toArray, List.set_cons_succ, List.set_cons_zero]; rfl
            refine QB.val' (v := ?_) (a' := ?_) (by kernel_rfl) (fun w' hw' => ?_) ?_ ?_
            rotate_left 2
            · go_simp <;> rfl
            · simp only [Act.put, List.setIfInBounds_toArray, List.set_cons_succ, List.set_cons_zero]; rfl
            refine QB.val' (v := ?_) (a' := ?_) (by kernel_rfl) (fun w' hw' => ?_) ?_ ?_
            rotate_left 2
            · go_simp <;> rfl
            · simp only [Act.put, List.setIfInBounds_toArray, List.set_cons_succ, List.set_cons_zero]; rfl
            refine QB.val' (v := ?_) (a' := ?_) (by kernel_rfl) (fun w' hw' => ?_) ?_ ?_
            rotate_left 2
            · go_simp <;> rfl
            · simp only [Act.put, List.setIfInBounds_toArray, List.set_cons_succ, List.set_cons_zero]; rfl
            refine QB.val' (v := ?_) (a' := ?_) (by kernel_rfl) (fun w' hw' => ?_) ?_ ?_
            rotate_left 2
            · have c := FS.out w' hw'; go_simp <;> rfl
            · simp only [Act.put, List.setIfInBounds_toArray, List.set_cons_succ, List.set_cons_zero]; rfl
            refine QB.val' (v := ?_) (a' := ?_) (by kernel_rfl) (fun w' hw' => ?_) ?_ ?_
            rotate_left 2
            · go_simp <;> rfl
            · simp only [Act.put, List.setIfInBounds_toArray, List.set_cons_succ, List.set_cons_zero]; rfl
            refine QB.val' (v := ?_) (a' := ?_) (by kernel_rfl) (fun w' hw' => ?_) ?_ ?_
            rotate_left 2
            · go_simp <;> rfl
            · simp only [Act.put, List.setIfInBounds_toArray, List.set_cons_succ, List.set_cons_zero]; rfl
            refine QB.val' (v := ?_) (a' := ?_) (by kernel_rfl) (fun w' hw' => ?_) ?_ ?_
            rotate_left 2
            · go_simp <;> rfl
            · simp only [Act.put, List.setIfInBounds_toArray, List.set_cons_succ, List.set_cons_zero]; rfl
            refine QB.val' (v := ?_) (a' := ?_) (by kernel_rfl) (fun w' hw' => ?_) ?_ ?_
            rotate_left 2
            · have c := FB.out w' hw'; go_simp <;> rfl
            · simp only [Act.put, List.setIfInBounds_toArray, List.set_cons_succ, List.set_cons_zero]; rfl
            refine QB.call' (f := 37) (args := #[.int .i64 y.bits]) (v := .int .u32 (maskZ y.bits)) (a' := ?_) (by kernel_rfl) (fun w' hw' => ?_) (fun w' hw' => (Mask_any y.bits w').mono fun _ _ ⟨h1, h2⟩ => ⟨h1, h2 ▸ hw'⟩) ?_ ?_
            rotate_left
            · go_simp <;> rfl
            · simp only [Act.put, List.setIfInBounds_toArray, List.set_cons_succ, List.set_cons_zero]; rfl
            refine QB.val' (v := ?_) (a' := ?_) (by kernel_rfl) (fun w' hw' => ?_) ?_ ?_
            rotate_left 2
            · go_simp <;> rfl
            · simp only [Act.put, List.setIfInBounds_toArray, List.set_cons_succ, List.set_cons_zero]; rfl
            refine QB.val' (v := ?_) (a' := ?_) (by kernel_rfl) (fun w' hw' => ?_) ?_ ?_
            rotate_left 2
            · go_simp <;> rfl
            · simp only [Act.put, List.setIfInBounds_toArray, List.set_cons_succ, List.set_cons_zero]; rfl
            refine QB.val' (v := ?_) (a' := ?_) (by kernel_rfl) (fun w' hw' => ?_) ?_ ?_
            rotate_left 2
            · have c := FS.out w' hw'; go_simp <;> rfl
            · simp only [Act.put, List.setIfInBounds_toArray, List.set_cons_succ, List.set_cons_zero]; rfl
            refine QB.val' (v := ?_) (a' := ?_) (by kernel_rfl) (fun w' hw' => ?_) ?_ ?_
            rotate_left 2
            · go_simp <;> rfl
            · simp only [Act.put, List.setIfInBounds_toArray, List.set_cons_succ, List.set_cons_zero]; rfl
            refine QB.val' (v := ?_) (a' := ?_) (by kernel_rfl) (fun w' hw' => ?_) ?_ ?_
            rotate_left 2
            · go_simp <;> rfl
            · simp only [Act.put, List.setIfInBounds_toArray, List.set_cons_succ, List.set_cons_zero]; rfl
            refine QB.val' (v := ?_) (a' := ?_) (by kernel_rfl) (fun w' hw' => ?_) ?_ ?_
            rotate_left 2
            · go_simp <;> rfl
            · simp only [Act.put, List.setIfInBounds_toArray, List.set_cons_succ, List.set_cons_zero]; rfl
            refine QB.val' (v := ?_) (a' := ?_) (by kernel_rfl) (fun w' hw' => ?_) ?_ ?_
            rotate_left 2
            · have c := FA.out w' hw'; go_simp <;> rfl
            · simp only [Act.put, List.setIfInBounds_toArray, List.set_cons_succ, List.set_cons_zero]; rfl
            refine QB.val' (v := ?_) (a' := ?_) (by kernel_rfl) (fun w' hw' => ?_) ?_ ?_
            rotate_left 2
            · go_simp <;> rfl
            · simp only [Act.put, List.setIfInBounds_toArray, List.set_cons_succ, List.set_cons_zero]; rfl
            refine QB.val' (v := ?_) (a' := ?_) (by kernel_rfl) (fun w' hw' => ?_) ?_ ?_
            rotate_left 2
            · go_simp <;> rfl
            · simp only [Act.put, List.setIfInBounds_toArray, List.set_cons_succ, List.set_cons_zero]; rfl
            refine QB.nil' fun w' hw' => ?_
            have HW := Lib.hid (show Below w.heap.size w w' from nextB HBxr.out (Nat.le_refl _) hw')
            clear hw'
            go_wp2
            go_ret
            exact ⟨rfl, HW.out⟩
          · have HM := Lib.hid (show ¬ (q.bits < y.bits ∧ bits .and .u32 x (maskZ y.bits) = y.addr) from fun h => hm h.2)
            have hm1 : (bits .and .u32 x (maskZ y.bits) == y.addr) = false := by simpa using hm
            go_wp2_with fail
            refine QB.region' mixed (by kernel_rfl) ?_
            refine QB.val' (v := ?_) (a' := ?_) (by kernel_rfl) (fun w' hw' => ?_) ?_ ?_
            rotate_left 2
            · go_simp <;> rfl
            · simp only [Act.put, List.setIfInBounds_toArray, List.set_cons_succ, List.set_cons_zero]; rfl
            refine QB.val' (v := ?_) (a' := ?_) (by kernel_rfl) (fun w' hw' => ?_) ?_ ?_
            rotate_left 2
            · have c := FS.out w' hw'; go_simp <;> rfl
            · simp only [Act.put, List.setIfInBounds_toArray, List.set_cons_succ, List.set_cons_zero]; rfl
            refine QB.val' (v := ?_) (a' := ?_) (by kernel_rfl) (fun w' hw' => ?_) ?_ ?_
            rotate_left 2
            · go_simp <;> rfl
            · simp only [Act.put, List.setIfInBounds_toArray, List.set_cons_succ, List.set_cons_zero]; rfl
            refine QB.val' (v := ?_) (a' := ?_) (by kernel_rfl) (fun w' hw' => ?_) ?_ ?_
            rotate_left 2
            · go_simp <;> rfl
            · simp only [Act.put, List.setIfInBounds_toArray, List.set_cons_succ, List.set_cons_zero]; rfl
            refine QB.val' (v := ?_) (a' := ?_) (by kernel_rfl) (fun w' hw' => ?_) ?_ ?_
            rotate_left 2
            · go_simp <;> rfl
            · simp only [Act.put, List.setIfInBounds_toArray, List.set_cons_succ, List.set_cons_zero]; rfl
            refine QB.val' (v := ?_) (a' := ?_) (by kernel_rfl) (fun w' hw' => ?_) ?_ ?_
            rotate_left 2
            · have c := FB.out w' hw'; go_simp <;> rfl
            · simp only [Act.put, List.setIfInBounds_toArray, List.set_cons_succ, List.set_cons_zero]; rfl
            refine QB.val' (v := ?_) (a' := ?_) (by kernel_rfl) (fun w' hw' => ?_) ?_ ?_
            rotate_left 2
            · go_simp <;> rfl
            · simp only [Act.put, List.setIfInBounds_toArray, List.set_cons_succ, List.set_cons_zero]; rfl
            refine QB.val' (v := ?_) (a' := ?_) (by kernel_rfl) (fun w' hw' => ?_) ?_ ?_
            rotate_left 2
            · have c := G36.out w' hw'; go_simp <;> rfl
            · simp only [Act.put, List.setIfInBounds_toArray, List.set_cons_succ, List.set_cons_zero]; rfl
            refine QB.val' (v := ?_) (a' := ?_) (by kernel_rfl) (fun w' hw' => ?_) ?_ ?_
            rotate_left 2
            · go_simp <;> rfl
            · simp only [Act.put, List.setIfInBounds_toArray, List.set_cons_succ, List.set_cons_zero]; rfl
            refine QB.val' (v := ?_) (a' := ?_) (by kernel_rfl) (fun w' hw' => ?_) ?_ ?_
            rotate_left 2
            · go_simp <;> rfl
            · simp only [Act.put, List.setIfInBounds_toArray, List.set_cons_succ, List.set_cons_zero]; rfl
            refine QB.val' (v := ?_) (a' := ?_) (by kernel_rfl) (fun w' hw' => ?_) ?_ ?_
            rotate_left 2
            · go_simp <;> rfl
            · simp only [Act.put, List.setIfInBounds_toArray, List.set_cons_succ, List.set_cons_zero]; rfl
            refine QB.val' (v := ?_) (a' := ?_) (by kernel_rfl) (fun w' hw' => ?_) ?_ ?_
            rotate_left 2
            · go_simp <;> rfl
            · simp only [Act.put, List.setIfInBounds_toArray, List.set_cons_succ, List.set_cons_zero]; rfl
            refine QB.val' (v := ?_) (a' := ?_) (by kernel_rfl) (fun w' hw' => ?_) ?_ ?_
            rotate_left 2
            · have c := FS.out w' hw'; go_simp <;> rfl
            · simp only [Act.put, List.setIfInBounds_toArray, List.set_cons_succ, List.set_cons_zero]; rfl
            refine QB.val' (v := ?_) (a' := ?_) (by kernel_rfl) (fun w' hw' => ?_) ?_ ?_
            rotate_left 2
            · go_simp <;> rfl
            · simp only [Act.put, List.setIfInBounds_toArray, List.set_cons_succ, List.set_cons_zero]; rfl
            refine QB.val' (v := ?_) (a' := ?_) (by kernel_rfl) (fun w' hw' => ?_) ?_ ?_
            rotate_left 2
            · go_simp <;> rfl
            · simp only [Act.put, List.setIfInBounds_toArray, List.set_cons_succ, List.set_cons_zero]; rfl
            refine QB.val' (v := ?_) (a' := ?_) (by kernel_rfl) (fun w' hw' => ?_) ?_ ?_
            rotate_left 2
            · go_simp <;> rfl
            · simp only [Act.put, List.setIfInBounds_toArray, List.set_cons_succ, List.set_cons_zero]; rfl
            refine QB.val' (v := ?_) (a' := ?_) (by kernel_rfl) (fun w' hw' => ?_) ?_ ?_
            rotate_left 2
            · have c := FB.out w' hw'; go_simp <;> rfl
            · simp only [Act.put, List.setIfInBounds_toArray, List.set_cons_succ, List.set_cons_zero]; rfl
            refine QB.call' (f := 37) (args := #[.int .i64 y.bits]) (v := .int .u32 (maskZ y.bits)) (a' := ?_) (by kernel_rfl) (fun w' hw' => ?_) (fun w' hw' => (Mask_any y.bits w').mono fun _ _ ⟨h1, h2⟩ => ⟨h1, h2 ▸ hw'⟩) ?_ ?_
            rotate_left
            · go_simp <;> rfl
            · simp only [Act.put, List.setIfInBounds_toArray, List.set_cons_succ, List.set_cons_zero]; rfl
            refine QB.val' (v := ?_) (a' := ?_) (by kernel_rfl) (fun w' hw' => ?_) ?_ ?_
            rotate_left 2
            · go_simp <;> rfl
            · simp only [Act.put, List.setIfInBounds_toArray, List.set_cons_succ, List.set_cons_zero]; rfl
            refine QB.val' (v := ?_) (a' := ?_) (by kernel_rfl) (fun w' hw' => ?_) ?_ ?_
            rotate_left 2
            · go_simp <;> rfl
            · simp only [Act.put, List.setIfInBounds_toArray, List.set_cons_succ, List.set_cons_zero]; rfl
            refine QB.val' (v := ?_) (a' := ?_) (by kernel_rfl) (fun w' hw' => ?_) ?_ ?_
            rotate_left 2
            · have c := FS.out w' hw'; go_simp <;> rfl
            · simp only [Act.put, List.setIfInBounds_toArray, List.set_cons_succ, List.set_cons_zero]; rfl
            refine QB.val' (v := ?_) (a' := ?_) (by kernel_rfl) (fun w' hw' => ?_) ?_ ?_
            rotate_left 2
            · go_simp <;> rfl
            · simp only [Act.put, List.setIfInBounds_toArray, List.set_cons_succ, List.set_cons_zero]; rfl
            refine QB.val' (v := ?_) (a' := ?_) (by kernel_rfl) (fun w' hw' => ?_) ?_ ?_
            rotate_left 2
            · go_simp <;> rfl
            · simp only [Act.put, List.setIfInBounds_toArray, List.set_cons_succ, List.set_cons_zero]; rfl
            refine QB.val' (v := ?_) (a' := ?_) (by kernel_rfl) (fun w' hw' => ?_) ?_ ?_
            rotate_left 2
            · go_simp <;> rfl
            · simp only [Act.put, List.setIfInBounds_toArray, List.set_cons_succ, List.set_cons_zero]; rfl
            refine QB.val' (v := ?_) (a' := ?_) (by kernel_rfl) (fun w' hw' => ?_) ?_ ?_
            rotate_left 2
            · have c := FA.out w' hw'; go_simp <;> rfl
            · simp only [Act.put, List.setIfInBounds_toArray, List.set_cons_succ, List.set_cons_zero]; rfl
            refine QB.val' (v := ?_) (a' := ?_) (by kernel_rfl) (fun w' hw' => ?_) ?_ ?_
            rotate_left 2
            · go_simp <;> rfl
            · simp only [Act.put, List.setIfInBounds_toArray, List.set_cons_succ, List.set_cons_zero]; rfl
            refine QB.val' (v := ?_) (a' := ?_) (by kernel_rfl) (fun w' hw' => ?_) ?_ ?_
            rotate_left 2
            · go_simp <;> rfl
            · simp only [Act.put, List.setIfInBounds_toArray, List.set_cons_succ, List.set_cons_zero]; rfl
            refine QB.nil' fun w' hw' => ?_
            have HW := Lib.hid (show Below W9.heap.size W9 w' from nextB HBr.out (Nat.le_refl _) hw')
            clear hw'
            go_wp2
            go_roundw
            case rel =>
              refine ⟨i + 1, by omega, by simp, HW.out, Lib.hid fun t z ht hz => ?_⟩
              rcases Nat.lt_or_ge t i with h | h
              · exact I.out t z h hz
              · obtain rfl : t = i := by omega
                rw [HY.out] at hz; injection hz with hz; subst hz
                exact HM.out
            case measure => simp [intOf]; omega
        · have HM := Lib.hid (show ¬ (q.bits < y.bits ∧ bits .and .u32 x (maskZ y.bits) = y.addr) from fun h => hgt h.1)
          have hgf : decide (q.bits < y.bits) = false := decide_eq_false hgt
          go_wp2_with fail
          refine QB.region' mixed (by kernel_rfl) ?_
          refine QB.val' (v := ?_) (a' := ?_) (by kernel_rfl) (fun w' hw' => ?_) ?_ ?_
          rotate_left 2
          · go_simp <;> rfl
          · simp only [Act.put, List.setIfInBounds_toArray, List.set_cons_succ, List.set_cons_zero]; rfl
          refine QB.val' (v := ?_) (a' := ?_) (by kernel_rfl) (fun w' hw' => ?_) ?_ ?_
          rotate_left 2
          · have c := FS.out w' hw'; go_simp <;> rfl
          · simp only [Act.put, List.setIfInBounds_toArray, List.set_cons_succ, List.set_cons_zero]; rfl
          refine QB.val' (v := ?_) (a' := ?_) (by kernel_rfl) (fun w' hw' => ?_) ?_ ?_
          rotate_left 2
          · go_simp <;> rfl
          · simp only [Act.put, List.setIfInBounds_toArray, List.set_cons_succ, List.set_cons_zero]; rfl
          refine QB.val' (v := ?_) (a' := ?_) (by kernel_rfl) (fun w' hw' => ?_) ?_ ?_
          rotate_left 2
          · go_simp <;> rfl
          · simp only [Act.put, List.setIfInBounds_toArray, List.set_cons_succ, List.set_cons_zero]; rfl
          refine QB.val' (v := ?_) (a' := ?_) (by kernel_rfl) (fun w' hw' => ?_) ?_ ?_
          rotate_left 2
          · go_simp <;> rfl
          · simp only [Act.put, List.setIfInBounds_toArray, List.set_cons_succ, List.set_cons_zero]; rfl
          refine QB.val' (v := ?_) (a' := ?_) (by kernel_rfl) (fun w' hw' => ?_) ?_ ?_
          rotate_left 2
          · have c := FB.out w' hw'; go_simp <;> rfl
          · simp only [Act.put, List.setIfInBounds_toArray, List.set_cons_succ, List.set_cons_zero]; rfl
          refine QB.val' (v := ?_) (a' := ?_) (by kernel_rfl) (fun w' hw' => ?_) ?_ ?_
          rotate_left 2
          · go_simp <;> rfl
          · simp only [Act.put, List.setIfInBounds_toArray, List.set_cons_succ, List.set_cons_zero]; rfl
          refine QB.val' (v := ?_) (a' := ?_) (by kernel_rfl) (fun w' hw' => ?_) ?_ ?_
          rotate_left 2
          · have c := G36.out w' hw'; go_simp <;> rfl
          · simp only [Act.put, List.setIfInBounds_toArray, List.set_cons_succ, List.set_cons_zero]; rfl
          refine QB.val' (v := ?_) (a' := ?_) (by kernel_rfl) (fun w' hw' => ?_) ?_ ?_
          rotate_left 2
          · go_simp <;> rfl
          · simp only [Act.put, List.setIfInBounds_toArray, List.set_cons_succ, List.set_cons_zero]; rfl
          refine QB.val' (v := ?_) (a' := ?_) (by kernel_rfl) (fun w' hw' => ?_) ?_ ?_
          rotate_left 2
          · go_simp <;> rfl
          · simp only [Act.put, List.setIfInBounds_toArray, List.set_cons_succ, List.set_cons_zero]; rfl
          refine QB.no' (a' := ?_) (by kernel_rfl) ?_ ?_
          rotate_left
          · simp only [Act.put, List.setIfInBounds_toArray, List.set_cons_succ, List.set_cons_zero]; rfl
          refine QB.no' (a' := ?_) (by kernel_rfl) ?_ ?_
          rotate_left
          · simp only [Act.put, List.setIfInBounds_toArray, List.set_cons_succ, List.set_cons_zero]; rfl
          refine QB.no' (a' := ?_) (by kernel_rfl) ?_ ?_
          rotate_left
          · simp only [Act.put, List.setIfInBounds_toArray, List.set_cons_succ, List.set_cons_zero]; rfl
          refine QB.no' (a' := ?_) (by kernel_rfl) ?_ ?_
          rotate_left
          · simp only [Act.put, List.setIfInBounds_toArray, List.set_cons_succ, List.set_cons_zero]; rfl
          refine QB.no' (a' := ?_) (by kernel_rfl) ?_ ?_
          rotate_left
          · simp only [Act.put, List.setIfInBounds_toArray, List.set_cons_succ, List.set_cons_zero]; rfl
          refine QB.no' (a' := ?_) (by kernel_rfl) ?_ ?_
          rotate_left
          · simp only [Act.put, List.setIfInBounds_toArray, List.set_cons_succ, List.set_cons_zero]; rfl
          refine QB.no' (a' := ?_) (by kernel_rfl) ?_ ?_
          rotate_left
          · simp only [Act.put, List.setIfInBounds_toArray, List.set_cons_succ, List.set_cons_zero]; rfl
          refine QB.no' (a' := ?_) (by kernel_rfl) ?_ ?_
          rotate_left
          · simp only [Act.put, List.setIfInBounds_toArray, List.set_cons_succ, List.set_cons_zero]; rfl
          refine QB.no' (a' := ?_) (by kernel_rfl) ?_ ?_
          rotate_left
          · simp only [Act.put, List.setIfInBounds_toArray, List.set_cons_succ, List.set_cons_zero]; rfl
          refine QB.no' (a' := ?_) (by kernel_rfl) ?_ ?_
          rotate_left
          · simp only [Act.put, List.setIfInBounds_toArray, List.set_cons_succ, List.set_cons_zero]; rfl
          refine QB.no' (a' := ?_) (by kernel_rfl) ?_ ?_
          rotate_left
          · simp only [Act.put, List.setIfInBounds_toArray, List.set_cons_succ, List.set_cons_zero]; rfl
          refine QB.no' (a' := ?_) (by kernel_rfl) ?_ ?_
          rotate_left
          · simp only [Act.put, List.setIfInBounds_toArray, List.set_cons_succ, List.set_cons_zero]; rfl
          refine QB.no' (a' := ?_) (by kernel_rfl) ?_ ?_
          rotate_left
          · simp only [Act.put, List.setIfInBounds_toArray, List.set_cons_succ, List.set_cons_zero]; rfl
          refine QB.no' (a' := ?_) (by kernel_rfl) ?_ ?_
          rotate_left
          · simp only [Act.put, List.setIfInBounds_toArray, List.set_cons_succ, List.set_cons_zero]; rfl
          refine QB.no' (a' := ?_) (by kernel_rfl) ?_ ?_
          rotate_left
          · simp only [Act.put, List.setIfInBounds_toArray, List.set_cons_succ, List.set_cons_zero]; rfl
          refine QB.no' (a' := ?_) (by kernel_rfl) ?_ ?_
          rotate_left
          · simp only [Act.put, List.setIfInBounds_toArray, List.set_cons_succ, List.set_cons_zero]; rfl
          refine QB.val' (v := ?_) (a' := ?_) (by kernel_rfl) (fun w' hw' => ?_) ?_ ?_
          rotate_left 2
          · go_simp <;> rfl
          · simp only [Act.put, List.setIfInBounds_toArray, List.set_cons_succ, List.set_cons_zero]; rfl
          refine QB.nil' fun w' hw' => ?_
          have HW := Lib.hid (show Below W9.heap.size W9 w' from nextB HBr.out (Nat.le_refl _) hw')
          clear hw'
          go_wp2
          go_roundw
          case rel =>
            refine ⟨i + 1, by omega, by simp, HW.out, Lib.hid fun t z ht hz => ?_⟩
            rcases Nat.lt_or_ge t i with h | h
            · exact I.out t z h hz
            · obtain rfl : t = i := by omega
              rw [HY.out] at hz; injection hz with hz; subst hz
              exact HM.out
          case measure => simp [intOf]; omega
      · have hlt' : ¬ (i : Int) < (c.rs.length : Int) := by omega
        obtain rfl : i = c.rs.length := by omega
        exfalso
        obtain ⟨r, hr, hb, hm⟩ := HEx.out
        obtain ⟨t, ht, e⟩ := List.getElem_of_mem hr
        exact I.out t r ht (by rw [List.getElem?_eq_getElem ht, e]) ⟨hb, hm⟩
  · have hlead : leadB ⟨q.addr, q.bits, q.id⟩ x = true := HLd.out.2 hA
    have h2 := HBe2.out
    rw [HDD.out.2] at h2
    have hb2 : b2 = some ⟨q.addr, q.bits, q.id⟩ := best_new HRts.out HX.out HPre.out Hqa.out hlead (fun y hy hly => by
      rcases Int.lt_or_le q.bits y.bits with h | h
      · exact absurd ⟨y, hy, h, (lead_iff (HRts.out.pre y hy) (HRts.out.inn y hy) HX.out).1 hly⟩ hEx
      · exact h) h2
    obtain ⟨m, hm, hmid⟩ := mem_has HP.out
    have hL2 : lookM D.ps b2 = if m.off = true then none else some m := by
      rw [hb2, HDD.out.1]
      show (mem1 c.ps q.id).bind _ = _
      rw [hm]
      rfl
    rw [hL2]
    have HEx := Lib.hid hEx
    have HMm := Lib.hid hm
    have HMid := Lib.hid hmid
    have HMk := Lib.hid (HC.out.1.1 m (List.mem_of_find?_eq_some hm))
    clear hlead h2 hb2 hL2 hEx hm hmid
    have M1 : (bits .and .u32 x (maskZ q.bits) == q.addr) = true := by simpa using hA
    have M2 : (bits .and .u32 x (maskZ q.bits) != q.addr) = false := by simpa using hA
    have HA := Lib.hid hA
    obtain ⟨lv, hlv⟩ : ∃ lv, lookI (if m.off = true then none else some m) = lv := ⟨_, rfl⟩
    obtain ⟨lb, hlb⟩ : ∃ lb, (if m.off = true then none else some m).isSome = lb := ⟨_, rfl⟩
    rw [hlv, hlb]
    have HLV := Lib.hid hlv
    have HLB := Lib.hid hlb
    clear hlv hlb
    have FS := Lib.hid (fun w' (h : Below W8.heap.size W8 w') => FR.out w' (nextB HBW8.out (Nat.le_refl _) h))
    have G35 := Lib.hid (fun w' (h : Below W8.heap.size W8 w') => F35.out w' (nextB HBW8.out (Nat.le_refl _) h))
    have G36 := Lib.hid (fun w' (h : Below W8.heap.size W8 w') => F36.out w' (nextB HBW8.out (Nat.le_refl _) h))
    refine QB.region' mixed (by kernel_rfl) ?_
    refine QB.val' (v := ?_) (a' := ?_) (by kernel_rfl) (fun w' hw' => ?_) ?_ ?_
    rotate_left 2
    · go_simp <;> rfl
    · simp only [Act.put, List.setIfInBounds_toArray, List.set_cons_succ, List.set_cons_zero]; rfl
    refine QB.val' (v := ?_) (a' := ?_) (by kernel_rfl) (fun w' hw' => ?_) ?_ ?_
    rotate_left 2
    · go_simp <;> rfl
    · simp only [Act.put, List.setIfInBounds_toArray, List.set_cons_succ, List.set_cons_zero]; rfl
    refine QB.val' (v := ?_) (a' := ?_) (by kernel_rfl) (fun w' hw' => ?_) ?_ ?_
    rotate_left 2
    · have c := G36.out w' hw'; go_simp <;> rfl
    · simp only [Act.put, List.setIfInBounds_toArray, List.set_cons_succ, List.set_cons_zero]; rfl
    refine QB.call' (f := 37) (args := #[.int .i64 q.bits]) (v := .int .u32 (maskZ q.bits)) (a' := ?_) (by kernel_rfl) (fun w' hw' => ?_) (fun w' hw' => (Mask_any q.bits w').mono fun _ _ ⟨h1, h2⟩ => ⟨h1, h2 ▸ hw'⟩) ?_ ?_
    rotate_left
    · go_simp <;> rfl
    · simp only [Act.put, List.setIfInBounds_toArray, List.set_cons_succ, List.set_cons_zero]; rfl
    refine QB.val' (v := ?_) (a' := ?_) (by kernel_rfl) (fun w' hw' => ?_) ?_ ?_
    rotate_left 2
    · go_simp <;> rfl
    · simp only [Act.put, List.setIfInBounds_toArray, List.set_cons_succ, List.set_cons_zero]; rfl
    refine QB.val' (v := ?_) (a' := ?_) (by kernel_rfl) (fun w' hw' => ?_) ?_ ?_
    rotate_left 2
    · go_simp <;> rfl
    · simp only [Act.put, List.setIfInBounds_toArray, List.set_cons_succ, List.set_cons_zero]; rfl
    refine QB.val' (v := ?_) (a' := ?_) (by kernel_rfl) (fun w' hw' => ?_) ?_ ?_
    rotate_left 2
    · have c := G35.out w' hw'; go_simp <;> rfl
    · simp only [Act.put, List.setIfInBounds_toArray, List.set_cons_succ, List.set_cons_zero]; rfl
    refine QB.val' (v := ?_) (a' := ?_) (by kernel_rfl) (fun w' hw' => ?_) ?_ ?_
    rotate_left 2
    · go_simp <;> rfl
    · simp only [Act.put, List.setIfInBounds_toArray, List.set_cons_succ, List.set_cons_zero]; rfl
    refine QB.nil' fun w' hw' => ?_
    have HW9 := Lib.hid hw'
    obtain ⟨W9, hW9⟩ : ∃ W9, w' = W9 := ⟨_, rfl⟩
    rw [hW9] at HW9 ⊢
    clear hw' hW9 FS G35 G36
    have HBW9 := Lib.hid (show Below W.heap.size W W9 from nextB HBW8.out (Nat.le_refl _) HW9.out)
    have HB9 := Lib.hid (show Below w.heap.size w W9 from nextB HB8.out (Nat.le_refl _) HW9.out)
    go_wp2_with fail
    clear M1 M2
    go_loopw [13] (fun iv wr => ∃ i : Nat, i ≤ c.rs.length ∧ iv = .int .i64 (i : Int) ∧ Below W9.heap.size W9 wr ∧ Hid (∀ t y, t < i → c.rs[t]? = some y → ¬ (q.bits < y.bits ∧ bits .and .u32 x (maskZ y.bits) = y.addr))) (fun iv _ => c.rs.length - (intOf iv).toNat)
    case atStart => exact ⟨0, Nat.zero_le _, rfl, Below.refl _ _, Lib.hid fun t y ht => absurd ht (Nat.not_lt_zero _)⟩
    case round =>
      obtain ⟨i, hi, rfl, hb, I⟩ := hrel
      have HBr := Lib.hid hb
      clear hb
      have HBwr := Lib.hid (show Below W.heap.size W wr from nextB HBW9.out (Nat.le_refl _) HBr.out)
      have HBxr := Lib.hid (show Below w.heap.size w wr from nextB HB9.out (Nat.le_refl _) HBr.out)
      have hi2 : (i : Int) ≤ 40 := by have := HN.out.2; omega
      have k0 := FP.out wr HBwr.out
      have k1 := FR.out wr HBwr.out
      by_cases hlt : i < c.rs.length
      · have hlt' : (i : Int) < (c.rs.length : Int) := by omega
        obtain ⟨y, hy⟩ : ∃ y, c.rs[i]? = some y := ⟨_, List.getElem?_eq_getElem hlt⟩
        have HY := Lib.hid hy
        have FT := Lib.hid (fun w' (h : Below wr.heap.size wr w') => RTab.at ((FCA.out w' (nextB HBwr.out (Nat.le_refl _) h)).2) hy)
        obtain ⟨b0, off, e, _, _, _⟩ := FT.out wr (Below.refl _ _)
        subst e
        have FA := Lib.hid (fun w' (h : Below wr.heap.size wr w') => show w'.cell? ⟨b0, off + i * 3, none⟩ = some (.int .u32 y.addr) from by
          obtain ⟨_, _, e, _, hc, _⟩ := FT.out w' h
          cases e
          exact hc 0 (.int .u32 y.addr) rfl)
        have FB := Lib.hid (fun w' (h : Below wr.heap.size wr w') => by
          obtain ⟨_, _, e, _, hc, _⟩ := FT.out w' h
          cases e
          exact hc 1 (.int .i64 y.bits) rfl)
        have FS := Lib.hid (fun w' (h : Below wr.heap.size wr w') => FR.out w' (nextB HBwr.out (Nat.le_refl _) h))
        have G36 := Lib.hid (fun w' (h : Below wr.heap.size wr w') => F36.out w' (nextB HBwr.out (Nat.le_refl _) h))
        clear hy FT
        by_cases hgt : q.bits < y.bits
        · by_cases hm : bits .and .u32 x (maskZ y.bits) = y.addr
          · have HM := Lib.hid (And.intro hgt hm)
            have hm1 : (bits .and .u32 x (maskZ y.bits) == y.addr) = true := by simpa using hm
            exact absurd ⟨y, List.mem_of_getElem? HY.out, HM.out.1, HM.out.2⟩ HEx.out
          · have HM := Lib.hid (show ¬ (q.bits < y.bits ∧ bits .and .u32 x (maskZ y.bits) = y.addr) from fun h => hm h.2)
            have hm1 : (bits .and .u32 x (maskZ y.bits) == y.addr) = false := by simpa using hm
            go_wp2_with fail
            refine QB.region' mixed (by kernel_rfl) ?_
            refine QB.val' (v := ?_) (a' := ?_) (by kernel_rfl) (fun w' hw' => ?_) ?_ ?_
            rotate_left 2
            · go_simp <;> rfl
            · simp only [Act.put, List.setIfInBounds_toArray, List.set_cons_succ, List.set_cons_zero]; rfl
            refine QB.val' (v := ?_) (a' := ?_) (by kernel_rfl) (fun w' hw' => ?_) ?_ ?_
            rotate_left 2
            · have c := FS.out w' hw'; go_simp <;> rfl
            · simp only [Act.put, List.setIfInBounds_toArray, List.set_cons_succ, List.set_cons_zero]; rfl
            refine QB.val' (v := ?_) (a' := ?_) (by kernel_rfl) (fun w' hw' => ?_) ?_ ?_
            rotate_left 2
            · go_simp <;> rfl
            · simp only [Act.put, List.setIfInBounds_toArray, List.set_cons_succ, List.set_cons_zero]; rfl
            refine QB.val' (v := ?_) (a' := ?_) (by kernel_rfl) (fun w' hw' => ?_) ?_ ?_
            rotate_left 2
            · go_simp <;> rfl
            · simp only [Act.put, List.setIfInBounds_toArray, List.set_cons_succ, List.set_cons_zero]; rfl
            refine QB.val' (v := ?_) (a' := ?_) (by kernel_rfl) (fun w' hw' => ?_) ?_ ?_
            rotate_left 2
            · go_simp <;> rfl
            · simp only [Act.put, List.setIfInBounds_toArray, List.set_cons_succ, List.set_cons_zero]; rfl
            refine QB.val' (v := ?_) (a' := ?_) (by kernel_rfl) (fun w' hw' => ?_) ?_ ?_
            rotate_left 2
            · have c := FB.out w' hw'; go_simp <;> rfl
            · simp only [Act.put, List.setIfInBounds_toArray, List.set_cons_succ, List.set_cons_zero]; rfl
            refine QB.val' (v := ?_) (a' := ?_) (by kernel_rfl) (fun w' hw' => ?_) ?_ ?_
            rotate_left 2
            · go_simp <;> rfl
            · simp only [Act.put, List.setIfInBounds_toArray, List.set_cons_succ, List.set_cons_zero]; rfl
            refine QB.val' (v := ?_) (a' := ?_) (by kernel_rfl) (fun w' hw' => ?_) ?_ ?_
            rotate_left 2
            · have c := G36.out w' hw'; go_simp <;> rfl
            · simp only [Act.put, List.setIfInBounds_toArray, List.set_cons_succ, List.set_cons_zero]; rfl
            refine QB.val' (v := ?_) (a' := ?_) (by kernel_rfl) (fun w' hw' => ?_) ?_ ?_
            rotate_left 2
            · go_simp <;> rfl
            · simp only [Act.put, List.setIfInBounds_toArray, List.set_cons_succ, List.set_cons_zero]; rfl
            refine QB.val' (v := ?_) (a' := ?_) (by kernel_rfl) (fun w' hw' => ?_) ?_ ?_
            rotate_left 2
            · go_simp <;> rfl
            · simp only [Act.put, List.setIfInBounds_toArray, List.set_cons_succ, List.set_cons_zero]; rfl
            refine QB.val' (v := ?_) (a' := ?_) (by kernel_rfl) (fun w' hw' => ?_) ?_ ?_
            rotate_left 2
            · go_simp <;> rfl
            · simp only [Act.put, List.setIfInBounds_toArray, List.set_cons_succ, List.set_cons_zero]; rfl
            refine QB.val' (v := ?_) (a' := ?_) (by kernel_rfl) (fun w' hw' => ?_) ?_ ?_
            rotate_left 2
            · go_simp <;> rfl
            · simp only [Act.put, List.setIfInBounds_toArray, List.set_cons_succ, List.set_cons_zero]; rfl
            refine QB.val' (v := ?_) (a' := ?_) (by kernel_rfl) (fun w' hw' => ?_) ?_ ?_
            rotate_left 2
            · have c := FS.out w' hw'; go_simp <;> rfl
            · simp only [Act.put, List.setIfInBounds_toArray, List.set_cons_succ, List.set_cons_zero]; rfl
            refine QB.val' (v := ?_) (a' := ?_) (by kernel_rfl) (fun w' hw' => ?_) ?_ ?_
            rotate_left 2
            · go_simp <;> rfl
            · simp only [Act.put, List.setIfInBounds_toArray, List.set_cons_succ, List.set_cons_zero]; rfl
            refine QB.val' (v := ?_) (a' := ?_) (by kernel_rfl) (fun w' hw' => ?_) ?_ ?_
            rotate_left 2
            · go_simp <;> rfl
            · simp only [Act.put, List.setIfInBounds_toArray, List.set_cons_succ, List.set_cons_zero]; rfl
            refine QB.val' (v := ?_) (a' := ?_) (by kernel_rfl) (fun w' hw' => ?_) ?_ ?_
            rotate_left 2
            · go_simp <;> rfl
            · simp only [Act.put, List.setIfInBounds_toArray, List.set_cons_succ, List.set_cons_zero]; rfl
            refine QB.val' (v := ?_) (a' := ?_) (by kernel_rfl) (fun w' hw' => ?_) ?_ ?_
            rotate_left 2
            · have c := FB.out w' hw'; go_simp <;> rfl
            · simp only [Act.put, List.setIfInBounds_toArray, List.set_cons_succ, List.set_cons_zero]; rfl
            refine QB.call' (f := 37) (args := #[.int .i64 y.bits]) (v := .int .u32 (maskZ y.bits)) (a' := ?_) (by kernel_rfl) (fun w' hw' => ?_) (fun w' hw' => (Mask_any y.bits w').mono fun _ _ ⟨h1, h2⟩ => ⟨h1, h2 ▸ hw'⟩) ?_ ?_
            rotate_left
            · go_simp <;> rfl
            · simp only [Act.put, List.setIfInBounds_toArray, List.set_cons_succ, List.set_cons_zero]; rfl
            refine QB.val' (v := ?_) (a' := ?_) (by kernel_rfl) (fun w' hw' => ?_) ?_ ?_
            rotate_left 2
            · go_simp <;> rfl
            · simp only [Act.put, List.setIfInBounds_toArray, List.set_cons_succ, List.set_cons_zero]; rfl
            refine QB.val' (v := ?_) (a' := ?_) (by kernel_rfl) (fun w' hw' => ?_) ?_ ?_
            rotate_left 2
            · go_simp <;> rfl
            · simp only [Act.put, List.setIfInBounds_toArray, List.set_cons_succ, List.set_cons_zero]; rfl
            refine QB.val' (v := ?_) (a' := ?_) (by kernel_rfl) (fun w' hw' => ?_) ?_ ?_
            rotate_left 2
            · have c := FS.out w' hw'; go_simp <;> rfl
            · simp only [Act.put, List.setIfInBounds_toArray, List.set_cons_succ, List.set_cons_zero]; rfl
            refine QB.val' (v := ?_) (a' := ?_) (by kernel_rfl) (fun w' hw' => ?_) ?_ ?_
            rotate_left 2
            · go_simp <;> rfl
            · simp only [Act.put, List.setIfInBounds_toArray, List.set_cons_succ, List.set_cons_zero]; rfl
            refine QB.val' (v := ?_) (a' := ?_) (by kernel_rfl) (fun w' hw' => ?_) ?_ ?_
            rotate_left 2
            · go_simp <;> rfl
            · simp only [Act.put, List.setIfInBounds_toArray, List.set_cons_succ, List.set_cons_zero]; rfl
            refine QB.val' (v := ?_) (a' := ?_) (by kernel_rfl) (fun w' hw' => ?_) ?_ ?_
            rotate_left 2
            · go_simp <;> rfl
            · simp only [Act.put, List.setIfInBounds_toArray, List.set_cons_succ, List.set_cons_zero]; rfl
            refine QB.val' (v := ?_) (a' := ?_) (by kernel_rfl) (fun w' hw' => ?_) ?_ ?_
            rotate_left 2
            · have c := FA.out w' hw'; go_simp <;> rfl
            · simp only [Act.put, List.setIfInBounds_toArray, List.set_cons_succ, List.set_cons_zero]; rfl
            refine QB.val' (v := ?_) (a' := ?_) (by kernel_rfl) (fun w' hw' => ?_) ?_ ?_
            rotate_left 2
            · go_simp <;> rfl
            · simp only [Act.put, List.setIfInBounds_toArray, List.set_cons_succ, List.set_cons_zero]; rfl
            refine QB.val' (v := ?_) (a' := ?_) (by kernel_rfl) (fun w' hw' => ?_) ?_ ?_
            rotate_left 2
            · go_simp <;> rfl
            · simp only [Act.put, List.setIfInBounds_toArray, List.set_cons_succ, List.set_cons_zero]; rfl
            refine QB.nil' fun w' hw' => ?_
            have HW := Lib.hid (show Below W9.heap.size W9 w' from nextB HBr.out (Nat.le_refl _) hw')
            clear hw'
            go_wp2
            go_roundw
            case rel =>
              refine ⟨i + 1, by omega, by simp, HW.out, Lib.hid fun t z ht hz => ?_⟩
              rcases Nat.lt_or_ge t i with h | h
              · exact I.out t z h hz
              · obtain rfl : t = i := by omega
                rw [HY.out] at hz; injection hz with hz; subst hz
                exact HM.out
            case measure => simp [intOf]; omega
        · have HM := Lib.hid (show ¬ (q.bits < y.bits ∧ bits .and .u32 x (maskZ y.bits) = y.addr) from fun h => hgt h.1)
          have hgf : decide (q.bits < y.bits) = false := decide_eq_false hgt
          go_wp2_with fail
          refine QB.region' mixed (by kernel_rfl) ?_
          refine QB.val' (v := ?_) (a' := ?_) (by kernel_rfl) (fun w' hw' => ?_) ?_ ?_
          rotate_left 2
          · go_simp <;> rfl
          · simp only [Act.put, List.setIfInBounds_toArray, List.set_cons_succ, List.set_cons_zero]; rfl
          refine QB.val' (v := ?_) (a' := ?_) (by kernel_rfl) (fun w' hw' => ?_) ?_ ?_
          rotate_left 2
          · have c := FS.out w' hw'; go_simp <;> rfl
          · simp only [Act.put, List.setIfInBounds_toArray, List.set_cons_succ, List.set_cons_zero]; rfl
          refine QB.val' (v := ?_) (a' := ?_) (by kernel_rfl) (fun w' hw' => ?_) ?_ ?_
          rotate_left 2
          · go_simp <;> rfl
          · simp only [Act.put, List.setIfInBounds_toArray, List.set_cons_succ, List.set_cons_zero]; rfl
          refine QB.val' (v := ?_) (a' := ?_) (by kernel_rfl) (fun w' hw' => ?_) ?_ ?_
          rotate_left 2
          · go_simp <;> rfl
          · simp only [Act.put, List.setIfInBounds_toArray, List.set_cons_succ, List.set_cons_zero]; rfl
          refine QB.val' (v := ?_) (a' := ?_) (by kernel_rfl) (fun w' hw' => ?_) ?_ ?_
          rotate_left 2
          · go_simp <;> rfl
          · simp only [Act.put, List.setIfInBounds_toArray, List.set_cons_succ, List.set_cons_zero]; rfl
          refine QB.val' (v := ?_) (a' := ?_) (by kernel_rfl) (fun w' hw' => ?_) ?_ ?_
          rotate_left 2
          · have c := FB.out w' hw'; go_simp <;> rfl
          · simp only [Act.put, List.setIfInBounds_toArray, List.set_cons_succ, List.set_cons_zero]; rfl
          refine QB.val' (v := ?_) (a' := ?_) (by kernel_rfl) (fun w' hw' => ?_) ?_ ?_
          rotate_left 2
          · go_simp <;> rfl
          · simp only [Act.put, List.setIfInBounds_toArray, List.set_cons_succ, List.set_cons_zero]; rfl
          refine QB.val' (v := ?_) (a' := ?_) (by kernel_rfl) (fun w' hw' => ?_) ?_ ?_
          rotate_left 2
          · have c := G36.out w' hw'; go_simp <;> rfl
          · simp only [Act.put, List.setIfInBounds_toArray, List.set_cons_succ, List.set_cons_zero]; rfl
          refine QB.val' (v := ?_) (a' := ?_) (by kernel_rfl) (fun w' hw' => ?_) ?_ ?_
          rotate_left 2
          · go_simp <;> rfl
          · simp only [Act.put, List.setIfInBounds_toArray, List.set_cons_succ, List.set_cons_zero]; rfl
          refine QB.val' (v := ?_) (a' := ?_) (by kernel_rfl) (fun w' hw' => ?_) ?_ ?_
          rotate_left 2
          · go_simp <;> rfl
          · simp only [Act.put, List.setIfInBounds_toArray, List.set_cons_succ, List.set_cons_zero]; rfl
          refine QB.no' (a' := ?_) (by kernel_rfl) ?_ ?_
          rotate_left
          · simp only [Act.put, List.setIfInBounds_toArray, List.set_cons_succ, List.set_cons_zero]; rfl
          refine QB.no' (a' := ?_) (by kernel_rfl) ?_ ?_
          rotate_left
          · simp only [Act.put, List.setIfInBounds_toArray, List.set_cons_succ, List.set_cons_zero]; rfl
          refine QB.no' (a' := ?_) (by kernel_rfl) ?_ ?_
          rotate_left
          · simp only [Act.put, List.setIfInBounds_toArray, List.set_cons_succ, List.set_cons_zero]; rfl
          refine QB.no' (a' := ?_) (by kernel_rfl) ?_ ?_
          rotate_left
          · simp only [Act.put, List.setIfInBounds_toArray, List.set_cons_succ, List.set_cons_zero]; rfl
          refine QB.no' (a' := ?_) (by kernel_rfl) ?_ ?_
          rotate_left
          · simp only [Act.put, List.setIfInBounds_toArray, List.set_cons_succ, List.set_cons_zero]; rfl
          refine QB.no' (a' := ?_) (by kernel_rfl) ?_ ?_
          rotate_left
          · simp only [Act.put, List.setIfInBounds_toArray, List.set_cons_succ, List.set_cons_zero]; rfl
          refine QB.no' (a' := ?_) (by kernel_rfl) ?_ ?_
          rotate_left
          · simp only [Act.put, List.setIfInBounds_toArray, List.set_cons_succ, List.set_cons_zero]; rfl
          refine QB.no' (a' := ?_) (by kernel_rfl) ?_ ?_
          rotate_left
          · simp only [Act.put, List.setIfInBounds_toArray, List.set_cons_succ, List.set_cons_zero]; rfl
          refine QB.no' (a' := ?_) (by kernel_rfl) ?_ ?_
          rotate_left
          · simp only [Act.put, List.setIfInBounds_toArray, List.set_cons_succ, List.set_cons_zero]; rfl
          refine QB.no' (a' := ?_) (by kernel_rfl) ?_ ?_
          rotate_left
          · simp only [Act.put, List.setIfInBounds_toArray, List.set_cons_succ, List.set_cons_zero]; rfl
          refine QB.no' (a' := ?_) (by kernel_rfl) ?_ ?_
          rotate_left
          · simp only [Act.put, List.setIfInBounds_toArray, List.set_cons_succ, List.set_cons_zero]; rfl
          refine QB.no' (a' := ?_) (by kernel_rfl) ?_ ?_
          rotate_left
          · simp only [Act.put, List.setIfInBounds_toArray, List.set_cons_succ, List.set_cons_zero]; rfl
          refine QB.no' (a' := ?_) (by kernel_rfl) ?_ ?_
          rotate_left
          · simp only [Act.put, List.setIfInBounds_toArray, List.set_cons_succ, List.set_cons_zero]; rfl
          refine QB.no' (a' := ?_) (by kernel_rfl) ?_ ?_
          rotate_left
          · simp only [Act.put, List.setIfInBounds_toArray, List.set_cons_succ, List.set_cons_zero]; rfl
          refine QB.no' (a' := ?_) (by kernel_rfl) ?_ ?_
          rotate_left
          · simp only [Act.put, List.setIfInBounds_toArray, List.set_cons_succ, List.set_cons_zero]; rfl
          refine QB.no' (a' := ?_) (by kernel_rfl) ?_ ?_
          rotate_left
          · simp only [Act.put, List.setIfInBounds_toArray, List.set_cons_succ, List.set_cons_zero]; rfl
          refine QB.val' (v := ?_) (a' := ?_) (by kernel_rfl) (fun w' hw' => ?_) ?_ ?_
          rotate_left 2
          · go_simp <;> rfl
          · simp only [Act.put, List.setIfInBounds_toArray, List.set_cons_succ, List.set_cons_zero]; rfl
          refine QB.nil' fun w' hw' => ?_
          have HW := Lib.hid (show Below W9.heap.size W9 w' from nextB HBr.out (Nat.le_refl _) hw')
          clear hw'
          go_wp2
          go_roundw
          case rel =>
            refine ⟨i + 1, by omega, by simp, HW.out, Lib.hid fun t z ht hz => ?_⟩
            rcases Nat.lt_or_ge t i with h | h
            · exact I.out t z h hz
            · obtain rfl : t = i := by omega
              rw [HY.out] at hz; injection hz with hz; subst hz
              exact HM.out
          case measure => simp [intOf]; omega
      · have hlt' : ¬ (i : Int) < (c.rs.length : Int) := by omega
        obtain rfl : i = c.rs.length := by omega
        have hb8r : Below W8.heap.size W8 wr := nextB HW9.out (Nat.le_refl _) HBr.out
        have HCDr := Lib.hid ((HCD8.out.below hb8r))
        have d0 := (HRD8.out.below hb8r HRD8.out.lt).cell (i := 0) rfl
        have d1 := (HRD8.out.below hb8r HRD8.out.lt).cell (i := 1) rfl
        have k2 := F2.out wr HBwr.out
        have HMem := Lib.hid (show Calls Try.prog 36 #[.agg #[.slice A3 D.ps.length n3, .slice A4 D.rs.length n4], .int .i64 q.id] wr fun e w' => e = .returned (.tuple #[m.val, .bool true]) ∧ Below wr.heap.size wr w' from by
          have h1 := Member_any (w := wr) (B := W8.heap.size) (vr := .slice A4 D.rs.length n4) HCDr.out.1 (by have := HN.out.1; have := HDl.out.1; rw [this]; omega) rfl q.id hb8r.size
          have h2 : mem1 D.ps q.id = some m := by rw [HDD.out.1]; exact HMm.out
          rw [h2] at h1
          exact h1)
        have Hz34 := Lib.hid (show (Mb.cs ⟨0, zkey, false⟩).length = 34 from Mb.len (by simp [zkey]))
        clear hb8r HCDr
        cases ho : m.off with
        | true =>
          have HO := Lib.hid ho
          obtain rfl : lv = 0 := by rw [← HLV.out, ho]; rfl
          obtain rfl : lb = false := by rw [← HLB.out, ho]; rfl
          clear ho
          go_wp2_with fail
          refine HMem.out.mono ?_
          rintro e W10 ⟨rfl, hb10⟩
          have HBW10 := Lib.hid (show Below W.heap.size W W10 from nextB HBwr.out (Nat.le_refl _) hb10)
          have HB10 := Lib.hid (show Below w.heap.size w W10 from nextB HBxr.out (Nat.le_refl _) hb10)
          clear hb10 d0 d1 k2 HMem k0 k1
          go_wp2_with (first
            | (refine QB.wpList_alloc rfl 83 rfl zero_mb ?_; intro W11 hr1 hb1; have HR14 := Lib.hid (show Row W11 W10.heap.size (Mb.cs ⟨0, zkey, false⟩) 83 from hr1); have HB11 := Lib.hid hb1; clear hr1 hb1)
            | (refine wpList_storeRow rfl 83 (.tmp 14) (.tmp 120) rfl rfl (cs := m.cs) rfl HR14.out (by kernel_rfl) (Mb.len HMk.out) Hz34.out m.one ?_
               refine QB.name fun W12 hW12 => ?_
               have hr14 : Row W12 W10.heap.size m.cs 83 := hW12 ▸ HR14.out.setRow m.cs
               have hb12 : Below W10.heap.size W10 W12 := hW12 ▸ below_setRow HB11.out (Nat.le_refl _) _
               have d33 := hr14.cell (i := 33) (show m.cs[33]? = some (.bool m.off) by simp [Mb.cs, HMk.out])
               rw [HO.out] at d33
               have k2 := F2.out W12 (nextB HBW10.out (Nat.le_refl _) hb12)
               have HB12 := Lib.hid (show Below w.heap.size w W12 from nextB HB10.out (Nat.le_refl _) hb12)
               clear hW12 hr14 hb12 HR14 HB11)
            | fail)
          go_ret
          exact ⟨rfl, HB12.out⟩
        | false =>
          have HO := Lib.hid ho
          obtain rfl : lv = q.id := by rw [← HLV.out, ho]; exact HMid.out
          obtain rfl : lb = true := by rw [← HLB.out, ho]; rfl
          clear ho
          go_wp2_with fail
          refine HMem.out.mono ?_
          rintro e W10 ⟨rfl, hb10⟩
          have HBW10 := Lib.hid (show Below W.heap.size W W10 from nextB HBwr.out (Nat.le_refl _) hb10)
          have HB10 := Lib.hid (show Below w.heap.size w W10 from nextB HBxr.out (Nat.le_refl _) hb10)
          clear hb10 d0 d1 k2 HMem k0 k1
          go_wp2_with (first
            | (refine QB.wpList_alloc rfl 83 rfl zero_mb ?_; intro W11 hr1 hb1; have HR14 := Lib.hid (show Row W11 W10.heap.size (Mb.cs ⟨0, zkey, false⟩) 83 from hr1); have HB11 := Lib.hid hb1; clear hr1 hb1)
            | (refine wpList_storeRow rfl 83 (.tmp 14) (.tmp 120) rfl rfl (cs := m.cs) rfl HR14.out (by kernel_rfl) (Mb.len HMk.out) Hz34.out m.one ?_
               refine QB.name fun W12 hW12 => ?_
               have hr14 : Row W12 W10.heap.size m.cs 83 := hW12 ▸ HR14.out.setRow m.cs
               have hb12 : Below W10.heap.size W10 W12 := hW12 ▸ below_setRow HB11.out (Nat.le_refl _) _
               have d33 := hr14.cell (i := 33) (show m.cs[33]? = some (.bool m.off) by simp [Mb.cs, HMk.out])
               rw [HO.out] at d33
               have k2 := F2.out W12 (nextB HBW10.out (Nat.le_refl _) hb12)
               have HB12 := Lib.hid (show Below w.heap.size w W12 from nextB HB10.out (Nat.le_refl _) hb12)
               clear hW12 hr14 hb12 HR14 HB11)
            | fail)
          go_ret
          exact ⟨rfl, HB12.out⟩

set_option maxRecDepth 100000 in
theorem lift (os : Os) (started : os.Started) (H : Type) (enc : TypeId × Value → H) :
    ReturnsInHanded {} Try.checked os 7 .any (Rows.configLeadsSpec.pre6 enc Try.prog Try.f7 Rows.configLeadsRow.domain false) (Rows.configLeadsSpec.post enc Try.prog Try.f7 false true false false) := by
  refine Law.lifted (C := Try.checked) 4 own started (by kernel_rfl) Try.func7 laid (by kernel_rfl) rfl Try.underlying4 rfl
    (fun ds hd => by
      have hd' : ds.length = 3 := hd
      match ds, hd' with
      | [d0, d1, d2], _ => rfl)
    (ChangeSpec.witness6 (enc := enc) (C := Try.checked) false ⟨#[], #[.agg #[.slice none 0 0, .slice none 0 0], (Opn.val ⟨0, 0, 0, zkey, 0, 0⟩), .int .u32 0], []⟩ 8 (by kernel_rfl) (by kernel_rfl) (by kernel_rfl) (by kernel_rfl)) ?_
  intro W args ds ps hst
  have hA : DataW.TrodAll enc Try.prog W 0 (fun _ => true) true Try.f7.params.toList args.toList ds ps := hst.trod
  have hok := hst.okw
  have hlt := hst.lt
  rw [Try.params7] at hA hok
  obtain ⟨v0, v1, v2, d0, d1, d2, p0, p1, p2, rfl, rfl, rfl, h0, h1, h2⟩ := trodAll_three hA
  obtain ⟨_, hv0⟩ := hok 0 27 v0 rfl rfl
  obtain ⟨_, hv1⟩ := hok 1 45 v1 rfl rfl
  obtain ⟨_, hv2⟩ := hok 2 22 v2 rfl rfl
  obtain ⟨vp, vr, c, rfl, hc, hcr⟩ := cfg_at hv0 h0 (fun x hx => hlt x (by simp [hx]))
  obtain ⟨o, rfl, hk, _⟩ := op_at hv1
  obtain ⟨x, rfl, hx0, hx1⟩ := Law.int_at Try.underlying22 hv2 h2
  exact walk hc hcr hk x ⟨hx0, hx1⟩

theorem over : Rows.configLeadsRow.holds Try.pinned (OpenSpec.ofChange Rows.configLeadsSpec) :=
  OpenClaim.holds_of_wide 7 Try.f7 rfl rfl rfl rfl rfl rfl rfl ⟨rfl, rfl, rfl, rfl, rfl⟩ rfl rfl rfl rfl rfl (by kernel_rfl) Try.func7 (by kernel_rfl)
    (of_decide_eq_true (by kernel_rfl)) (by unfold Func.isWrapper; first | (rw [if_pos (by decide +kernel)]; kernel_rfl) | (rw [if_neg (by decide +kernel)]; exact ⟨rfl, rfl⟩))
    (fun os started H enc _ => lift os started H enc)
theorem proved : Rows.ConfigLeadsSaid := over
#print axioms proved
end Go.Proofs.Ytlphmbefcbhhpaa.cfgLeads
