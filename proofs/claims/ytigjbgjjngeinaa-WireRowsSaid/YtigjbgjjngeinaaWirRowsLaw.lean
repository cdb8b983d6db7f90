/- The entries of a message continue from its Index; the first ones of them are a valid message, too: 'drawbridgelaw11.WireRows', for every argument. -/
import Derived.Test.YtigjbgjjngeinaaWirTab
import Derived.Test.YtigjbgjjngeinaaWirLives
import Derived.Test.YtigjbgjjngeinaaKitPick
import Derived.Test.YtigjbgjjngeinaaByDF
import Derived.Test.YtigjbgjjngeinaaLaw
import Derived.Test.YtigjbgjjngeinaaWirArgs
namespace Go.Proofs.Ytigjbgjjngeinaa.wireRows
open Go.ChangeShapes Go.WideShapes Go.ChangeAt Go.RowKit Go.Maps
open Wir Cfg
theorem own : ownKnob Try.checked.prog.godebug = none := by kernel_rfl
theorem laid : laidOutB Try.checked.prog = true := by kernel_rfl
def freeF (_ : Nat) (_ _ : World) : Prop := True
theorem op_ld {P : Program} {o : Oper} {a : Act} {w : World} {K : Act → World → Prop} {Q : Exit → Act → World → Prop} (ty : TypeId) {x : Operand} {ad : Addr} {v : Value} (ho : o.op = .load ty x) (hx : a.eval x = .pointer (some ad)) (hrun : (loadVar ty ad).run P w = .ok v w) (h : K (a.put o.dst v) w) : o.wp P a w K Q := by
  unfold Oper.wp execOp
  simp only [ho, hx, Instr.loadAt, Instr.sureAddr, Sem.run_bind, Sem.run_pure, Result.andThen_ok, hrun]
  exact h
theorem op_alloc {P : Program} {o : Oper} {a : Act} {w : World} {K : Act → World → Prop} {Q : Exit → Act → World → Prop} (ty : TypeId) (ho : o.op = .alloc ty) {cs : Array Value} (hz : (P.info? ty).bind (·.zero) = some (.agg cs)) (h : K (a.put o.dst (.pointer (some ⟨w.heap.size, 0, none⟩))) (w.alloc (.cells cs ty))) : o.wp P a w K Q := by
  cases hi : P.info? ty with
  | none => simp [hi] at hz
  | some i =>
    have hz' : i.zero = some (.agg cs) := by simpa [hi] using hz
    have hrun : (Instr.alloc ty true (.tuple #[])).run P w = .ok (.pointer (some ⟨w.heap.size, 0, none⟩)) (w.alloc (.cells cs ty)) := by simp [Instr.alloc, zeroValue, typeInfo, hi, hz', newVar, newRow, Value.cells]
    unfold Oper.wp execOp
    simp only [ho, Sem.run_bind, Sem.run_pure, Result.andThen_ok, hrun]
    exact h
set_option maxRecDepth 100000 in
set_option maxHeartbeats 20000000 in
theorem walk {w : World} {ve vb : Value} {m : Ms} {nn : Int} (hm : MAt w w.heap.size ve vb m) (hix : 0 ≤ m.ix) (hnn : -9223372036854775808 ≤ nn ∧ nn ≤ 9223372036854775807) :
    Calls Try.prog 5 #[.agg (m.cs ve vb).toArray, .int .i64 nn] w fun e w' => e = .returned (.bool true) ∧ Below w.heap.size w w' := by
  obtain ⟨A1, n1, A2, n2, rfl, rfl, hl1, hl2⟩ := hm.shape
  obtain ⟨cs, hcs⟩ : ∃ cs, m.cs (.slice A1 m.es.length n1) (.slice A2 m.body.length n2) = cs := ⟨_, rfl⟩
  obtain ⟨W0, hW0⟩ : ∃ W, w.alloc (.cells cs.toArray 52) = W := ⟨_, rfl⟩
  have hr0 : Row W0 w.heap.size cs 52 := hW0 ▸ Row.new rfl rfl
  have hb0 : Below w.heap.size w W0 := hW0 ▸ (Below.refl _ w).alloc (Nat.le_refl _) _
  have HR0 := Lib.hid hr0
  have HB0 := Lib.hid hb0
  have HM := Lib.hid hm
  have HIX := Lib.hid hix
  have HNN := Lib.hid hnn
  have HL1 := Lib.hid hl1
  clear hm hix hnn hr0 hb0 hl1 hl2
  rw [hcs]
  go_enter Try.func5, Try.ntmps5
  go_wp2_with fail
  refine (lives_any _).mono ?_
  rintro e W ⟨rfl, hbw⟩
  have HBW := Lib.hid (show Below w.heap.size w W from nextB HB0.out (Nat.le_refl _) hbw)
  have hrW := HR0.out.below hbw HR0.out.lt
  rw [← hcs] at hrW
  have HRW := Lib.hid hrW
  clear hbw hW0 HR0 HB0 hrW
  obtain ⟨mv, hmv⟩ : ∃ mv, Value.agg cs.toArray = mv := ⟨_, rfl⟩
  obtain ⟨gm, hgm⟩ : ∃ g, w.heap.size = g := ⟨_, rfl⟩
  have FR := Lib.hid (fun w' (h : Below W.heap.size W w') => show Row w' gm (m.cs (.slice A1 m.es.length n1) (.slice A2 m.body.length n2)) 52 from hgm ▸ HRW.out.below h HRW.out.lt)
  have FL := Lib.hid (fun w' (h : Below W.heap.size W w') => show (loadVar 52 ⟨gm, 0, none⟩).run Try.prog w' = .ok mv w' by
    have h1 := l_msg (FR.out w' h)
    rw [hcs, hmv] at h1
    exact h1)
  have FM := Lib.hid (fun w' (h : Below W.heap.size W w') => show MAt w' w.heap.size (.slice A1 m.es.length n1) (.slice A2 m.body.length n2) m from HM.out.below (nextB HBW.out (Nat.le_refl _) h))
  have FB := Lib.hid (fun w' (h : Below W.heap.size W w') => show Below w.heap.size w w' from nextB HBW.out (Nat.le_refl _) h)
  have HLi := Lib.hid (fun (y : World) => show Calls Try.prog 22 #[mv, .int .i64 40] y _ from hmv ▸ hcs ▸ Light_any m A1 A2 n1 n2 y)
  have HCk := Lib.hid (fun (y : World) (hy : Below W.heap.size W y) => show Calls Try.prog 27 #[mv] y _ from hmv ▸ hcs ▸ Check_any (FM.out y hy) HIX.out (nextB HBW.out (Nat.le_refl _) hy).size)
  have HGM := Lib.hid (show gm < W.heap.size from hgm ▸ HRW.out.lt)
  rw [hgm]
  have HLx := Lib.hid (FL.out W (Below.refl _ _))
  clear HRW hgm hcs
  go_wp2_with (first | (show wpList _ _ _ (⟨some 11, _, _, _, _, _⟩ :: _) _ _; refine QB.wpList_ld 52 rfl rfl HLx.out rfl ?_; clear HLx) | fail)
  refine (HLi.out W).mono ?_
  rintro e W3 ⟨rfl, hb3⟩
  have HB3 := Lib.hid hb3
  have c0 := (FR.out W3 hb3).cell (i := 0) rfl
  have HL3 := Lib.hid (FL.out W3 hb3)
  obtain ⟨li, hli⟩ : ∃ li, (decide (m.es.length ≤ 40) && decide (m.body.length ≤ 4000)) = li := ⟨_, rfl⟩
  rw [hli]
  clear hb3 HLi hli
  cases li with
  | false =>
    clear HL3
    go_wp2
    go_ret
    exact ⟨rfl, FB.out W3 HB3.out⟩
  | true =>
  by_cases hk2 : m.kind = 2
  case neg =>
    have hk3 : (m.kind != 2) = true := by simpa using hk2
    have hk4 : (m.kind == 2) = false := by simpa using hk2
    clear HL3 hk2
    go_wp2
    go_ret
    exact ⟨rfl, FB.out W3 HB3.out⟩
  case pos =>
  have HK2 := Lib.hid hk2
  rw [hk2] at c0
  clear hk2
  go_wp2_with (first | (show wpList _ _ _ (⟨some 20, _, _, _, _, _⟩ :: _) _ _; refine QB.wpList_ld 52 rfl rfl HL3.out (by kernel_rfl) ?_; clear HL3) | fail)
  refine (HCk.out W3 HB3.out).mono ?_
  rintro e W4 ⟨rfl, hb4⟩
  have HB4 := Lib.hid (show Below W.heap.size W W4 from nextB HB3.out (Nat.le_refl _) hb4)
  clear hb4 c0 HCk
  obtain ⟨z, hz⟩ : ∃ z, checkMZ m = z := ⟨_, rfl⟩
  rw [hz]
  by_cases hz0 : z = 0
  case neg =>
    have hz1 : (z != 0) = true := by simpa using hz0
    have hz2 : (z == 0) = false := by simpa using hz0
    clear hz0 hz
    go_wp2
    go_ret
    exact ⟨rfl, FB.out W4 HB4.out⟩
  case pos =>
  subst hz0
  have HCZ := Lib.hid hz
  clear hz
  have c2 := (FR.out W4 HB4.out).cell (i := 2) rfl
  by_cases hbig : 2305843009213693952 < m.ix
  case pos =>
    go_wp2
    go_ret
    exact ⟨rfl, FB.out W4 HB4.out⟩
  case neg =>
  have HBIG := Lib.hid (show m.ix ≤ 2305843009213693952 by omega)
  have c8 := (FR.out W4 HB4.out).cell (i := 8) rfl
  have HN := Lib.hid (show m.es.length ≤ 32 from (check_zero HK2.out HCZ.out).1)
  have hn32 : (m.es.length : Int) ≤ 32 := by have := HN.out; omega
  go_wp2_with fail
  clear c2 c8 hbig
  refine (Pick_any nn ((m.es.length : Int) + 1) W4 HNN.out (by omega)).mono ?_
  rintro e W5 ⟨rfl, rfl⟩
  obtain ⟨k, hk⟩ : ∃ k : Nat, pick nn ((m.es.length : Int) + 1) = (k : Int) := ⟨(pick nn ((m.es.length : Int) + 1)).toNat, by have := (pick_in nn ((m.es.length : Int) + 1) (by omega)).1; omega⟩
  have hkn : k ≤ m.es.length := by have := (pick_in nn ((m.es.length : Int) + 1) (by omega)).2; omega
  rw [hk]
  have HKN := Lib.hid hkn
  clear hk hkn hn32
  go_wp2_with fail
  refine ByD.marksF Wir.mixed 4 1 2 3 36 (fun v x => v ≠ x) (by decide) (by decide) (by decide) Grew [By.is mv, By.is mv, newR W4.heap.size, newR W4.heap.size]
    (Ev.masks _ []) (Nat.zero_lt_succ _) rfl (by kernel_rfl) (by kernel_rfl) rfl Grew.refl Grew.trans rfl rfl rfl rfl rfl rfl ⟨?_, ?_, ?_, ?_, trivial⟩ [_, _, _] (by rfl) ?_ ?_
  · intro a w9 ht hs hg
    have h2 : a.tmps.getD 2 undef = .pointer (some ⟨gm, 0, none⟩) := By.same_get hs 2 (by decide) (by kernel_rfl)
    refine By.yes rfl ?_
    clear hs hg
    have hr := FL.out w9 (nextB HB4.out (Nat.le_refl _) (show Below W4.heap.size W4 w9 from ⟨ht.os, ht.tape, ht.output, ht.size, ht.block⟩))
    refine op_ld 52 (x := .tmp 2) rfl h2 hr ?_
    exact ⟨_, rfl, Grew.refl _, rfl, fun h => absurd h (by decide), fun h => absurd h (by decide)⟩
  · intro a w9 ht hs hg
    have h2 : a.tmps.getD 2 undef = .pointer (some ⟨gm, 0, none⟩) := By.same_get hs 2 (by decide) (by kernel_rfl)
    refine By.yes rfl ?_
    clear hs hg
    have hr := FL.out w9 (nextB HB4.out (Nat.le_refl _) (show Below W4.heap.size W4 w9 from ⟨ht.os, ht.tape, ht.output, ht.size, ht.block⟩))
    refine op_ld 52 (x := .tmp 2) rfl h2 hr ?_
    exact ⟨_, rfl, Grew.refl _, rfl, fun h => absurd h (by decide), fun h => absurd h (by decide)⟩
  · intro a w9 ht hs hg
    refine By.yes rfl ?_
    clear hs hg
    have hBw : W4.heap.size ≤ w9.heap.size := (show W4.drew.heap.size ≤ w9.heap.size from ht.size)
    refine op_alloc 52 rfl zero_msg ?_
    exact ⟨_, rfl, (Below.refl _ w9).alloc (Nat.le_refl _) _, newR_at w9 hBw, fun _ x hx => newR_ne hx, fun h => absurd h (by decide)⟩
  · intro a w9 ht hs hg
    refine By.yes rfl ?_
    clear hs hg
    have hBw : W4.heap.size ≤ w9.heap.size := (show W4.drew.heap.size ≤ w9.heap.size from ht.size)
    refine op_alloc 52 rfl zero_msg ?_
    exact ⟨_, rfl, (Below.refl _ w9).alloc (Nat.le_refl _) _, newR_at w9 hBw, fun h => absurd h (by decide), fun _ x hx e => newR_ne hx e.symm⟩
  all_goals
    refine By.ends_is ?_
    refine By.ends_is ?_
    refine By.ends_any fun _ => ?_
    refine By.ends_any fun _ => ?_
    refine By.ends_nil fun w9 hw9 => ?_
    intro hD
    obtain ⟨⟨hw9, hn1⟩, hn2⟩ := hw9
    obtain ⟨g1, hv1, hlt1, hge1, hr1⟩ := hn1
    obtain ⟨g2, hv2, hlt2, hge2, hr2⟩ := hn2
    subst hv1
    subst hv2
    have hne : g1 ≠ g2 := by
      intro e
      subst e
      refine hD ?_
      kernel_rfl
    have HR1 := Lib.hid hr1
    have HR2 := Lib.hid hr2
    have HNx := Lib.hid (show g1 ≠ g2 ∧ W4.heap.size ≤ g1 ∧ W4.heap.size ≤ g2 from ⟨hne, hge1, hge2⟩)
    have HBx := Lib.hid (show Below W4.heap.size W4 w9 from ⟨hw9.os, hw9.tape, hw9.output, hw9.size, hw9.block⟩)
    have hmg : gm < W4.heap.size := Nat.lt_of_lt_of_le HGM.out HB4.out.size
    clear hD hw9 hlt1 hlt2 hr1 hr2
    have HMV := Lib.hid (show mv = .agg (m.cs (.slice A1 m.es.length n1) (.slice A2 m.body.length n2)).toArray by have := FL.out W4 HB4.out; rw [l_msg (FR.out W4 HB4.out)] at this; injection this with h1 _; exact h1.symm)
    simp only [Act.put, List.setIfInBounds_toArray, List.set_cons_succ, List.set_cons_zero, List.drop_succ_cons, List.drop_zero]
    refine wpList_storeRow (g := g1) rfl 52 (.tmp 6) (.tmp 35) rfl rfl (cs := m.cs (.slice A1 m.es.length n1) (.slice A2 m.body.length n2)) HMV.out HR1.out (by kernel_rfl) rfl rfl (ms_one m _ _ _ _ _ _) ?_
    refine QB.name fun V1 hV1 => ?_
    have HX1 := Lib.hid (show Row V1 g1 (m.cs (.slice A1 m.es.length n1) (.slice A2 m.body.length n2)) 52 from hV1 ▸ HR1.out.setRow _)
    have HY1 := Lib.hid (show Row V1 g2 zcs 52 from hV1 ▸ HR2.out.setOther g1 _ HNx.out.1.symm)
    have HB1w := Lib.hid (show Below W4.heap.size W4 V1 from hV1 ▸ below_setRow HBx.out HNx.out.2.1 _)
    have HLm := Lib.hid (FL.out V1 (nextB HB4.out (Nat.le_refl _) HB1w.out))
    clear hV1
    try (show wpList _ _ _ (⟨some 36, _, _, _, _, _⟩ :: _) _ _; refine QB.wpList_ld 52 rfl rfl HLm.out rfl ?_)
    try simp only [Act.put, List.setIfInBounds_toArray]
    refine wpList_storeRow (g := g2) rfl 52 (.tmp 7) (.tmp 36) rfl rfl (cs := m.cs (.slice A1 m.es.length n1) (.slice A2 m.body.length n2)) HMV.out HY1.out (by kernel_rfl) rfl rfl (ms_one m _ _ _ _ _ _) ?_
    refine QB.name fun V2 hV2 => ?_
    have hRX : Row V2 g1 (m.cs (.slice A1 m.es.length n1) (.slice A2 m.body.length n2)) 52 := hV2 ▸ HX1.out.setOther g2 _ HNx.out.1
    have hRY : Row V2 g2 (m.cs (.slice A1 m.es.length n1) (.slice A2 m.body.length n2)) 52 := hV2 ▸ HY1.out.setRow _
    have HB2w := Lib.hid (nextB HB4.out (Nat.le_refl _) (show Below W4.heap.size W4 V2 from hV2 ▸ below_setRow HB1w.out HNx.out.2.2 _))
    have HRX := Lib.hid hRX
    have HRY := Lib.hid hRY
    clear hV2 hRX hRY HX1 HY1 HB1w HBx HR1 HR2 HLm
    go_wp2_with fail
  all_goals
    obtain ⟨A', hA'⟩ : ∃ A', loP A1 n1 k = A' := ⟨_, rfl⟩
    have HA' := Lib.hid hA'
    clear hA'
    have HNy := Lib.hid (show g1 ≠ g2 ∧ W.heap.size ≤ g1 ∧ W.heap.size ≤ g2 from ⟨HNx.out.1, Nat.le_trans HB4.out.size HNx.out.2.1, Nat.le_trans HB4.out.size HNx.out.2.2⟩)
    obtain ⟨ws, HW0, HS1, HS2⟩ : ∃ ws : Nat → World, Hid (ws 0 = V2.drew) ∧ Hid ((ws 0).setCell ⟨g1, 8, none⟩ (.slice A1 k n1) = ws 1) ∧ Hid ((ws 1).setCell ⟨g2, 8, none⟩ (.slice A' (m.es.length - k) (n1 - k)) = ws 2) :=
      ⟨fun s => if s = 0 then V2.drew else if s = 1 then V2.drew.setCell ⟨g1, 8, none⟩ (.slice A1 k n1) else (V2.drew.setCell ⟨g1, 8, none⟩ (.slice A1 k n1)).setCell ⟨g2, 8, none⟩ (.slice A' (m.es.length - k) (n1 - k)), Lib.hid rfl, Lib.hid rfl, Lib.hid rfl⟩
    have X0 := Lib.hid (show Row (ws 0) g1 (m.cs (.slice A1 m.es.length n1) (.slice A2 m.body.length n2)) 52 from HW0.out ▸ HRX.out)
    have Y0 := Lib.hid (show Row (ws 0) g2 (m.cs (.slice A1 m.es.length n1) (.slice A2 m.body.length n2)) 52 from HW0.out ▸ HRY.out)
    have B0 := Lib.hid (show Below W.heap.size W (ws 0) from HW0.out ▸ HB2w.out.drew)
    have X1 := Lib.hid (show Row (ws 1) g1 ((m.wee (m.es.take k)).cs (.slice A1 k n1) (.slice A2 m.body.length n2)) 52 from HS1.out ▸ X0.out.set 8 _)
    have Y1 := Lib.hid (show Row (ws 1) g2 (m.cs (.slice A1 m.es.length n1) (.slice A2 m.body.length n2)) 52 from HS1.out ▸ Y0.out.other _ _ HNy.out.1.symm)
    have B1 := Lib.hid (show Below W.heap.size W (ws 1) from HS1.out ▸ B0.out.setCell (p := ⟨g1, 8, none⟩) HNy.out.2.1 _)
    have X2 := Lib.hid (show Row (ws 2) g1 ((m.wee (m.es.take k)).cs (.slice A1 k n1) (.slice A2 m.body.length n2)) 52 from HS2.out ▸ X1.out.other _ _ HNy.out.1)
    have Y2 := Lib.hid (show Row (ws 2) g2 ((m.wes (m.es.drop k) m.ix m.prev).cs (.slice A' (m.es.length - k) (n1 - k)) (.slice A2 m.body.length n2)) 52 from HS2.out ▸ Y1.out.set 8 _)
    have B2 := Lib.hid (show Below W.heap.size W (ws 2) from HS2.out ▸ B1.out.setCell (p := ⟨g2, 8, none⟩) HNy.out.2.2 _)
    have C8 := Lib.hid (fun (s : Nat) (y : World) (h : s ≤ 2) (e : y = ws s) => show y.cell? ⟨gm, 8, none⟩ = some (.slice A1 m.es.length n1) from by
      subst e
      match s, h with
      | 0, _ => exact (FR.out _ B0.out).cell (i := 8) rfl
      | 1, _ => exact (FR.out _ B1.out).cell (i := 8) rfl
      | 2, _ => exact (FR.out _ B2.out).cell (i := 8) rfl)
    clear HRX HRY HB2w HNx hmg
    refine ByL.marks Wir.mixed RdL.TT freeF (fun s y => s ≤ 2 ∧ y = ws s) 2 [
        ByL.is (.pointer (some ⟨gm, 8, none⟩)) none,
        ByL.is (.slice A1 m.es.length n1) none,
        ByL.is (.int .i64 (k : Int)) none,
        ByL.is (.slice A1 k n1) none,
        ByL.is (.pointer (some ⟨gm, 8, none⟩)) none,
        ByL.is (.slice A1 m.es.length n1) none,
        ByL.is (.int .i64 (k : Int)) none,
        ByL.is (.slice A' (m.es.length - k) (n1 - k)) none,
        ByL.is (.pointer (some ⟨g1, 8, none⟩)) none,
        ByL.isN (some 0),
        ByL.is (.pointer (some ⟨g2, 8, none⟩)) none,
        ByL.isN (some 1)]
        (Ev.masks _ []) (by kernel_rfl) rfl (by kernel_rfl) (fun _ => trivial) (fun _ _ _ _ _ => trivial) (fun _ _ => trivial) ⟨by decide, HW0.out.symm⟩ ⟨?_, ?_, ?_, ?_, ?_, ?_, ?_, ?_, ?_, ?_, ?_, ?_, trivial⟩ ?_
    · intro a w9 s ht hR hk1 hk2 hs hg
      have h2 : a.tmps.getD 2 undef = .pointer (some ⟨gm, 0, none⟩) := By.same_get hs 2 (by decide) (by kernel_rfl)
      refine ByL.yes rfl ?_
      clear hs hg hk1 hk2
      have HR := Lib.hid hR
      clear hR
      go_simp
      exact ⟨_, rfl, trivial, trivial, HR.out, rfl⟩
    · intro a w9 s ht hR hk1 hk2 hs hg
      have h37 : a.tmps.getD 37 undef = _ := ByN.given_get hg 0 rfl rfl (by kernel_rfl)
      refine ByL.yes rfl ?_
      have hc := C8.out s w9 hR.1 hR.2
      clear hs hg hk1 hk2
      have HR := Lib.hid hR
      clear hR
      go_simp
      exact ⟨_, rfl, trivial, trivial, HR.out, rfl⟩
    · intro a w9 s ht hR hk1 hk2 hs hg
      have h5 : a.tmps.getD 5 undef = .int .i64 (k : Int) := By.same_get hs 5 (by decide) (by kernel_rfl)
      refine ByL.yes rfl ?_
      clear hs hg hk1 hk2
      have HR := Lib.hid hR
      clear hR
      go_simp
      exact ⟨_, rfl, trivial, trivial, HR.out, rfl⟩
    · intro a w9 s ht hR hk1 hk2 hs hg
      have h38 : a.tmps.getD 38 undef = _ := ByN.given_get hg 1 rfl rfl (by kernel_rfl)
      have h39 : a.tmps.getD 39 undef = _ := ByN.given_get hg 2 rfl rfl (by kernel_rfl)
      refine ByL.yes rfl ?_
      clear hs hg hk1 hk2
      have HR := Lib.hid hR
      clear hR
      exact op_slhi 38 39 rfl h38 h39 HKN.out HL1.out ⟨_, rfl, trivial, trivial, HR.out, rfl⟩
    · intro a w9 s ht hR hk1 hk2 hs hg
      have h2 : a.tmps.getD 2 undef = .pointer (some ⟨gm, 0, none⟩) := By.same_get hs 2 (by decide) (by kernel_rfl)
      refine ByL.yes rfl ?_
      clear hs hg hk1 hk2
      have HR := Lib.hid hR
      clear hR
      go_simp
      exact ⟨_, rfl, trivial, trivial, HR.out, rfl⟩
    · intro a w9 s ht hR hk1 hk2 hs hg
      have h41 : a.tmps.getD 41 undef = _ := ByN.given_get hg 4 rfl rfl (by kernel_rfl)
      refine ByL.yes rfl ?_
      have hc := C8.out s w9 hR.1 hR.2
      clear hs hg hk1 hk2
      have HR := Lib.hid hR
      clear hR
      go_simp
      exact ⟨_, rfl, trivial, trivial, HR.out, rfl⟩
    · intro a w9 s ht hR hk1 hk2 hs hg
      have h5 : a.tmps.getD 5 undef = .int .i64 (k : Int) := By.same_get hs 5 (by decide) (by kernel_rfl)
      refine ByL.yes rfl ?_
      clear hs hg hk1 hk2
      have HR := Lib.hid hR
      clear hR
      go_simp
      exact ⟨_, rfl, trivial, trivial, HR.out, rfl⟩
    · intro a w9 s ht hR hk1 hk2 hs hg
      have h42 : a.tmps.getD 42 undef = _ := ByN.given_get hg 5 rfl rfl (by kernel_rfl)
      have h43 : a.tmps.getD 43 undef = _ := ByN.given_get hg 6 rfl rfl (by kernel_rfl)
      refine ByL.yes rfl ?_
      clear hs hg hk1 hk2
      have HR := Lib.hid hR
      clear hR
      exact op_sllo 42 43 rfl h42 h43 HKN.out ⟨_, rfl, trivial, trivial, HR.out, by rw [HA'.out]; rfl⟩
    · intro a w9 s ht hR hk1 hk2 hs hg
      have h6 : a.tmps.getD 6 undef = .pointer (some ⟨g1, 0, none⟩) := By.same_get hs 6 (by decide) (by kernel_rfl)
      refine ByL.yes rfl ?_
      clear hs hg hk1 hk2
      have HR := Lib.hid hR
      clear hR
      go_simp
      exact ⟨_, rfl, trivial, trivial, HR.out, rfl⟩
    · intro a w9 s ht hR hk1 hk2 hs hg
      obtain rfl := hk1 0 rfl
      obtain ⟨_, rfl⟩ : _ ∧ w9 = ws 0 := hR
      have h0 : a.tmps.getD 45 undef = _ := ByN.given_get hg 8 rfl rfl (by kernel_rfl)
      have h1 : a.tmps.getD 40 undef = _ := ByN.given_get hg 3 rfl rfl (by kernel_rfl)
      refine ByL.yes rfl ?_
      clear hs hg hk1 hk2
      have q0 := X0.out.cell (i := 8) rfl
      have f0 := frozen_row X0.out 8
      go_simp
      exact ⟨trivial, trivial, ⟨(show 1 ≤ 2 by decide), HS1.out⟩, ⟨undef, trivial⟩⟩
    · intro a w9 s ht hR hk1 hk2 hs hg
      have h7 : a.tmps.getD 7 undef = .pointer (some ⟨g2, 0, none⟩) := By.same_get hs 7 (by decide) (by kernel_rfl)
      refine ByL.yes rfl ?_
      clear hs hg hk1 hk2
      have HR := Lib.hid hR
      clear hR
      go_simp
      exact ⟨_, rfl, trivial, trivial, HR.out, rfl⟩
    · intro a w9 s ht hR hk1 hk2 hs hg
      obtain rfl := hk1 1 rfl
      obtain ⟨_, rfl⟩ : _ ∧ w9 = ws 1 := hR
      have h0 : a.tmps.getD 46 undef = _ := ByN.given_get hg 10 rfl rfl (by kernel_rfl)
      have h1 : a.tmps.getD 44 undef = _ := ByN.given_get hg 7 rfl rfl (by kernel_rfl)
      refine ByL.yes rfl ?_
      clear hs hg hk1 hk2
      have q0 := Y1.out.cell (i := 8) rfl
      have f0 := frozen_row Y1.out 8
      go_simp
      exact ⟨trivial, trivial, ⟨(show 2 ≤ 2 by decide), HS2.out⟩, ⟨undef, trivial⟩⟩
    refine ByL.ends_is (ByL.ends_is (ByL.ends_is (ByL.ends_is (ByL.ends_is (ByL.ends_is (ByL.ends_is (ByL.ends_is (ByL.ends_is (ByL.ends_skip fun v45 => (ByL.ends_is (ByL.ends_skip fun v46 => ByL.ends_nil fun V5 hV5 => ?_)))))))))))
    try simp only [Act.put, List.setIfInBounds_toArray, List.set_cons_succ, List.set_cons_zero]
    try simp only [List.drop_succ_cons, List.drop_zero]
    obtain ⟨_, _, hV5⟩ := hV5
    have LRX := X2
    have HRY := Y2
    have HB5w := B2
    rw [← hV5] at LRX HRY HB5w
    clear hV5 C8 X0 X1 X2 Y0 Y1 Y2 B0 B1 B2 HS1 HS2 HW0
    have c2 := (FR.out V5 HB5w.out).cell (i := 2) rfl
    have q0 := HRY.out.cell (i := 2) rfl
    have f0 := frozen_row HRY.out 2
    have hwk : IntKind.u64.wrap (k : Int) = (k : Int) := by have := HKN.out; have := HN.out; simp [IntKind.wrap, IntKind.bits, IntKind.signed]; omega
    have hwi : IntKind.u64.wrap (m.ix + (k : Int)) = m.ix + (k : Int) := by have := HKN.out; have := HN.out; have := HIX.out; have := HBIG.out; simp [IntKind.wrap, IntKind.bits, IntKind.signed]; omega
    have THIRD := Lib.hid True.intro
    rcases Nat.eq_zero_or_pos k with hk0 | hk0
    · have HKZ := Lib.hid (show k = 0 by omega)
      have hkd : ¬ 0 < k := by omega
      clear hk0
      go_wp2_with (first
        | (show wpList _ _ _ (⟨some 63, _, _, _, _, _⟩ :: _) _ _
           clear THIRD
           refine QB.name fun V6 hV6 => ?_
           have LRY := Lib.hid (show Row V6 g2 ((m.wes (m.es.drop k) (m.ix + (k : Int)) m.prev).cs (.slice A' (m.es.length - k) (n1 - k)) (.slice A2 m.body.length n2)) 52 from hV6 ▸ HRY.out.set 2 _)
           have HRX := Lib.hid (show Row V6 g1 ((m.wee (m.es.take k)).cs (.slice A1 k n1) (.slice A2 m.body.length n2)) 52 from hV6 ▸ LRX.out.other _ _ HNy.out.1)
           have HB6w := Lib.hid (show Below W.heap.size W V6 from hV6 ▸ HB5w.out.setCell (p := ⟨g2, 2, none⟩) HNy.out.2.2 _)
           clear hV6 LRX HRY HB5w q0 f0 c2 hwk hwi
           
           have HLa := Lib.hid (l_msg HRX.out)
           refine QB.wpList_ld 52 rfl rfl HLa.out rfl ?_
           clear HLa
           have FOURTH := Lib.hid True.intro)
        | fail)
      clear FOURTH hkd
      have HRZ := Lib.hid (show Row V6 g2 ((m.wes (m.es.drop k) (m.ix + (k : Int)) m.prev).cs (.slice A' (m.es.length - k) (n1 - k)) (.slice A2 m.body.length n2)) 52 from LRY.out)
      have HZb := Lib.hid (show checkMZ (m.wes (m.es.drop k) (m.ix + (k : Int)) m.prev) = 0 from by
        rw [HKZ.out]
        exact check_b0 HCZ.out)
      have HZa := Lib.hid (check_a HK2.out HCZ.out k)
      have HMa := Lib.hid (fun (y : World) (hy : Below W.heap.size W y) => Check_any (w := y) (B := w.heap.size) (ve := .slice A1 k n1) (vb := .slice A2 m.body.length n2) (m := m.wee (m.es.take k)) ⟨(FM.out y hy).es.take HKN.out, (FM.out y hy).body⟩ HIX.out (FB.out y hy).size)
      have HMb := Lib.hid (fun (y : World) (hy : Below W.heap.size W y) => Check_any (w := y) (B := w.heap.size) (ve := .slice A' (m.es.length - k) (n1 - k)) (vb := .slice A2 m.body.length n2) (m := m.wes (m.es.drop k) (m.ix + (k : Int)) m.prev) ⟨(FM.out y hy).es.drop HKN.out (fun b o e hlt => by rw [← HA'.out]; exact loP_at e (by have := HL1.out; omega)) (by have := HL1.out; omega), (FM.out y hy).body⟩ (show 0 ≤ m.ix + (k : Int) by have := HIX.out; omega) (FB.out y hy).size)
      refine (HMa.out V6 HB6w.out).mono ?_
      rintro e W8 ⟨rfl, hb8⟩
      have HB8 := Lib.hid (show Below W.heap.size W W8 from nextB HB6w.out (Nat.le_refl _) hb8)
      have HLb := Lib.hid (l_msg (HRZ.out.below hb8 HRZ.out.lt))
      rw [HZa.out]
      clear hb8 HMa HZa
      go_wp2_with (first
        | (show wpList _ _ _ (⟨some 67, _, _, _, _, _⟩ :: _) _ _
           refine QB.wpList_ld 52 rfl rfl HLb.out (by kernel_rfl) ?_
           clear HLb)
        | fail)
      refine (HMb.out W8 HB8.out).mono ?_
      rintro e W9 ⟨rfl, hb9⟩
      have HB9 := Lib.hid (show Below W.heap.size W W9 from nextB HB8.out (Nat.le_refl _) hb9)
      rw [HZb.out]
      clear hb9 HMb HZb
      have c8 := (FR.out W9 HB9.out).cell (i := 8) rfl
      have hw1 : IntKind.i64.wrap ((k : Int) + 1) = (k : Int) + 1 := by have := HKN.out; have := HN.out; simp [IntKind.wrap, IntKind.bits, IntKind.signed]; omega
      have HLm := Lib.hid (FL.out W9 HB9.out)
      by_cases hge : (m.es.length : Int) ≤ (k : Int) + 1
      case pos =>
        go_wp2
        go_ret
        exact ⟨rfl, FB.out W9 HB9.out⟩
      case neg =>
      have HLT := Lib.hid (show k + 1 < m.es.length by omega)
      have SIXTH := Lib.hid True.intro
      go_wp2_with (first
        | (show wpList _ _ _ (⟨some 77, _, _, _, _, _⟩ :: _) _ _
           refine QB.wpList_ld 52 rfl rfl HLm.out rfl ?_
           clear HLm)
        | (show wpList _ _ _ (⟨none, .store 52 (.tmp 8) (.tmp 77), _, _, _, _⟩ :: _) _ _
           refine QB.name fun V9 hV9 => ?_
           have HZ := Lib.hid (show Row V9 W9.heap.size zcs 52 from hV9 ▸ Row.new rfl rfl)
           have HB9z := Lib.hid (show Below W.heap.size W V9 from hV9 ▸ HB9.out.alloc HB9.out.size _)
           refine wpList_storeRow (g := W9.heap.size) rfl 52 (.tmp 8) (.tmp 77) rfl rfl (cs := (m.cs (.slice A1 m.es.length n1) (.slice A2 m.body.length n2))) HMV.out HZ.out (by kernel_rfl) rfl rfl (ms_one m _ _ _ _ _ _) ?_
           refine QB.name fun V10 hV10 => ?_
           have HX := Lib.hid (show Row V10 W9.heap.size (m.cs (.slice A1 m.es.length n1) (.slice A2 m.body.length n2)) 52 from hV10 ▸ HZ.out.setRow _)
           have HB10 := Lib.hid (show Below W.heap.size W V10 from hV10 ▸ below_setRow HB9z.out HB9.out.size _)
           have HGC := Lib.hid HB9.out.size
           clear hV9 hV10 HZ HB9z c8 hw1 hge SIXTH)
        | fail)
      obtain ⟨gc, hgc⟩ : ∃ g, W9.heap.size = g := ⟨_, rfl⟩
      rw [hgc] at HX HGC ⊢
      clear hgc
      obtain ⟨A9, hA9⟩ : ∃ A, loP A1 n1 (k + 1) = A := ⟨_, rfl⟩
      have HA9 := Lib.hid hA9
      obtain ⟨ls, hls⟩ : ∃ l, m.es.take k ++ m.es.drop (k + 1) = l := ⟨_, rfl⟩
      have HLS := Lib.hid hls
      clear hls
      have K16 : ∃ (us : Nat → World) (v83 : Value) (A8 : Option Addr) (n8 : Nat), Hid (us 0 = V10.drew) ∧ Hid (us 1 = (us 0).alloc (.cells #[] 49)) ∧
          Hid ((Builtin.append_ #[50, 50] 50 #[.slice (some ⟨V10.heap.size, 0, none⟩) 0 0, .slice A1 k n1]).run Try.prog (us 1) = .ok v83 (us 2)) ∧
          Hid ((Builtin.append_ #[50, 50] 50 #[v83, .slice A9 (m.es.length - (k + 1)) (n1 - (k + 1))]).run Try.prog (us 2) = .ok (.slice A8 ls.length n8) (us 3)) ∧
          Hid ((us 3).setCell ⟨gc, 8, none⟩ (.slice A8 ls.length n8) = us 4) ∧
          Hid (∀ s, s ≤ 3 → Below V10.heap.size V10 (us s)) ∧ Hid (OwnE (us 3) V10.heap.size (.slice A8 ls.length n8) ls) := by
        have D0 : Below V10.heap.size V10 V10.drew := (Below.refl _ V10).drew
        have D1 : Below V10.heap.size V10 (V10.drew.alloc (.cells #[] 49)) := D0.alloc (Nat.le_refl _) _
        have M1 := FM.out _ (nextB HB10.out (Nat.le_refl _) D1)
        obtain ⟨v83, U2, r1, o1, gr1, _⟩ := run_appE (V10.drew.alloc (.cells #[] 49)) (ownE_new V10.drew) (M1.es.take HKN.out) (by have := HN.out; simp only [List.length_nil, List.length_take]; omega) (by show V10.heap.size ≤ _; simp)
        have D2 : Below V10.heap.size V10 U2 := D1.grown gr1 D1.size (fun j e => ((ownE_new V10.drew).2.lt j e).1)
        have M2 := FM.out _ (nextB HB10.out (Nat.le_refl _) D2)
        obtain ⟨v89, U3, r2, o2, gr2, _⟩ := run_appE U2 o1 (M2.es.drop (i := k + 1) (A' := A9) (c' := n1 - (k + 1)) (by have := HLT.out; omega) (fun b o e hlt => by rw [← HA9.out]; exact loP_at e (by have := HL1.out; omega)) (by have := HL1.out; omega)) (by have := HN.out; simp only [List.nil_append, List.length_drop, List.length_take]; omega) D2.size
        have D3 : Below V10.heap.size V10 U3 := D2.grown gr2 D2.size (fun j e => (o1.2.lt j e).1)
        rw [List.nil_append, HLS.out] at o2
        obtain ⟨A8, n8, e8, _⟩ := o2.tab.2.shape
        subst e8
        exact ⟨fun s => if s = 0 then V10.drew else if s = 1 then V10.drew.alloc (.cells #[] 49) else if s = 2 then U2 else if s = 3 then U3 else U3.setCell ⟨gc, 8, none⟩ (.slice A8 ls.length n8), v83, A8, n8, Lib.hid rfl, Lib.hid rfl, Lib.hid r1, Lib.hid r2, Lib.hid rfl, Lib.hid (fun s hs => by
          match s, hs with
          | 0, _ => exact D0
          | 1, _ => exact D1
          | 2, _ => exact D2
          | 3, _ => exact D3), Lib.hid o2⟩
      obtain ⟨us, v83, A8, n8, U0, U1, R1, R2, US, UB, UO⟩ := K16
      have HXs := Lib.hid (fun s (hs : s ≤ 3) => show Row (us s) gc (m.cs (.slice A1 m.es.length n1) (.slice A2 m.body.length n2)) 52 from HX.out.below (UB.out s hs) HX.out.lt)
      have X4 := Lib.hid (show Row (us 4) gc ((m.wee ls).cs (.slice A8 ls.length n8) (.slice A2 m.body.length n2)) 52 from US.out ▸ (HXs.out 3 (by decide)).set 8 _)
      have UB4 := Lib.hid (show Below W.heap.size W (us 4) from US.out ▸ (nextB HB10.out (Nat.le_refl _) (UB.out 3 (by decide))).setCell (p := ⟨gc, 8, none⟩) HGC.out _)
      have UO4 := Lib.hid (show OwnE (us 4) V10.heap.size (.slice A8 ls.length n8) ls from US.out ▸ ⟨UO.out.1, owns_setCell UO.out.2 _ HX.out.lt _⟩)
      have C8 := Lib.hid (fun (s : Nat) (y : World) (h : s ≤ 4) (e : y = us s) => show y.cell? ⟨gm, 8, none⟩ = some (.slice A1 m.es.length n1) from by
        subst e
        by_cases h4 : s = 4
        · subst h4; exact (FR.out _ UB4.out).cell (i := 8) rfl
        · exact (FR.out _ (nextB HB10.out (Nat.le_refl _) (UB.out s (by omega)))).cell (i := 8) rfl)
      have HK1n := Lib.hid (show k + 1 ≤ m.es.length by have := HLT.out; omega)
      have HKw := Lib.hid (show IntKind.i64.wrap ((k : Int) + 1) = (k : Int) + 1 by have := HKN.out; have := HN.out; simp [IntKind.wrap, IntKind.bits, IntKind.signed]; omega)
      clear hA9
      refine ByL.marks Wir.mixed RdL.TT freeF (fun s y => s ≤ 4 ∧ y = us s) 4 [
          ByL.is (.slice (some ⟨V10.heap.size, 0, none⟩) 0 0) (some 0),
          ByL.is (.pointer (some ⟨gm, 8, none⟩)) none,
          ByL.is (.slice A1 m.es.length n1) none,
          ByL.is (.int .i64 (k : Int)) none,
          ByL.is (.slice A1 k n1) none,
          ByL.is v83 (some 1),
          ByL.is (.pointer (some ⟨gm, 8, none⟩)) none,
          ByL.is (.slice A1 m.es.length n1) none,
          ByL.is (.int .i64 (k : Int)) none,
          ByL.is (.int .i64 ((k + 1 : Nat) : Int)) none,
          ByL.is (.slice A9 (m.es.length - (k + 1)) (n1 - (k + 1))) none,
          ByL.is (.slice A8 ls.length n8) (some 2),
          ByL.is (.pointer (some ⟨gc, 8, none⟩)) none,
          ByL.isN (some 3)]
          (Ev.masks _ []) (by kernel_rfl) rfl (by kernel_rfl) (fun _ => trivial) (fun _ _ _ _ _ => trivial) (fun _ _ => trivial) ⟨by decide, U0.out.symm⟩ ⟨?_, ?_, ?_, ?_, ?_, ?_, ?_, ?_, ?_, ?_, ?_, ?_, ?_, ?_, trivial⟩ ?_
      · intro a w9 s ht hR hk1 hk2 hs hg
        obtain rfl := hk1 0 rfl
        obtain ⟨_, rfl⟩ : _ ∧ w9 = us 0 := hR
        refine ByL.yes rfl ?_
        clear hs hg hk1 hk2
        refine RdL.op_bs 50 0 #[] rfl (ps := #[]) Array.map_empty (run_bs_nil _) ?_
        rw [show (us 0).heap.size = V10.heap.size from by rw [U0.out]; rfl]
        exact ⟨_, rfl, trivial, trivial, ⟨(show 1 ≤ 4 by decide), U1.out.symm⟩, rfl⟩
      · intro a w9 s ht hR hk1 hk2 hs hg
        have h2 : a.tmps.getD 2 undef = .pointer (some ⟨gm, 0, none⟩) := By.same_get hs 2 (by decide) (by kernel_rfl)
        refine ByL.yes rfl ?_
        clear hs hg hk1 hk2
        have HR := Lib.hid hR
        clear hR
        go_simp
        exact ⟨_, rfl, trivial, trivial, HR.out, rfl⟩
      · intro a w9 s ht hR hk1 hk2 hs hg
        have h79 : a.tmps.getD 79 undef = _ := ByN.given_get hg 1 rfl rfl (by kernel_rfl)
        refine ByL.yes rfl ?_
        have hc := C8.out s w9 hR.1 hR.2
        clear hs hg hk1 hk2
        have HR := Lib.hid hR
        clear hR
        go_simp
        exact ⟨_, rfl, trivial, trivial, HR.out, rfl⟩
      · intro a w9 s ht hR hk1 hk2 hs hg
        have h5 : a.tmps.getD 5 undef = .int .i64 (k : Int) := By.same_get hs 5 (by decide) (by kernel_rfl)
        refine ByL.yes rfl ?_
        clear hs hg hk1 hk2
        have HR := Lib.hid hR
        clear hR
        go_simp
        exact ⟨_, rfl, trivial, trivial, HR.out, rfl⟩
      · intro a w9 s ht hR hk1 hk2 hs hg
        have h80 : a.tmps.getD 80 undef = _ := ByN.given_get hg 2 rfl rfl (by kernel_rfl)
        have h81 : a.tmps.getD 81 undef = _ := ByN.given_get hg 3 rfl rfl (by kernel_rfl)
        refine ByL.yes rfl ?_
        clear hs hg hk1 hk2
        have HR := Lib.hid hR
        clear hR
        exact op_slhi 80 81 rfl h80 h81 HKN.out HL1.out ⟨_, rfl, trivial, trivial, HR.out, rfl⟩
      · intro a w9 s ht hR hk1 hk2 hs hg
        obtain rfl := hk1 1 rfl
        obtain ⟨_, rfl⟩ : _ ∧ w9 = us 1 := hR
        have h78 : a.tmps.getD 78 undef = _ := ByN.given_get hg 0 rfl rfl (by kernel_rfl)
        have h82 : a.tmps.getD 82 undef = _ := ByN.given_get hg 4 rfl rfl (by kernel_rfl)
        refine ByL.yes rfl ?_
        clear hs hg hk1 hk2
        exact RdL.op_app (.tmp 78) (.tmp 82) rfl rfl h78 h82 R1.out ⟨_, rfl, trivial, trivial, ⟨(show 2 ≤ 4 by decide), rfl⟩, rfl⟩
      · intro a w9 s ht hR hk1 hk2 hs hg
        have h2 : a.tmps.getD 2 undef = .pointer (some ⟨gm, 0, none⟩) := By.same_get hs 2 (by decide) (by kernel_rfl)
        refine ByL.yes rfl ?_
        clear hs hg hk1 hk2
        have HR := Lib.hid hR
        clear hR
        go_simp
        exact ⟨_, rfl, trivial, trivial, HR.out, rfl⟩
      · intro a w9 s ht hR hk1 hk2 hs hg
        have h84 : a.tmps.getD 84 undef = _ := ByN.given_get hg 6 rfl rfl (by kernel_rfl)
        refine ByL.yes rfl ?_
        have hc := C8.out s w9 hR.1 hR.2
        clear hs hg hk1 hk2
        have HR := Lib.hid hR
        clear hR
        go_simp
        exact ⟨_, rfl, trivial, trivial, HR.out, rfl⟩
      · intro a w9 s ht hR hk1 hk2 hs hg
        have h5 : a.tmps.getD 5 undef = .int .i64 (k : Int) := By.same_get hs 5 (by decide) (by kernel_rfl)
        refine ByL.yes rfl ?_
        clear hs hg hk1 hk2
        have HR := Lib.hid hR
        clear hR
        go_simp
        exact ⟨_, rfl, trivial, trivial, HR.out, rfl⟩
      · intro a w9 s ht hR hk1 hk2 hs hg
        have h86 : a.tmps.getD 86 undef = _ := ByN.given_get hg 8 rfl rfl (by kernel_rfl)
        refine ByL.yes rfl ?_
        clear hs hg hk1 hk2
        have HR := Lib.hid hR
        clear hR
        have hkw := HKw.out
        go_simp
        exact ⟨_, rfl, trivial, trivial, HR.out, rfl⟩
      · intro a w9 s ht hR hk1 hk2 hs hg
        have h85 : a.tmps.getD 85 undef = _ := ByN.given_get hg 7 rfl rfl (by kernel_rfl)
        have h87 : a.tmps.getD 87 undef = _ := ByN.given_get hg 9 rfl rfl (by kernel_rfl)
        refine ByL.yes rfl ?_
        clear hs hg hk1 hk2
        have HR := Lib.hid hR
        clear hR
        exact op_sllo 85 87 rfl h85 h87 HK1n.out ⟨_, rfl, trivial, trivial, HR.out, by rw [HA9.out]; rfl⟩
      · intro a w9 s ht hR hk1 hk2 hs hg
        obtain rfl := hk1 2 rfl
        obtain ⟨_, rfl⟩ : _ ∧ w9 = us 2 := hR
        have h83 : a.tmps.getD 83 undef = _ := ByN.given_get hg 5 rfl rfl (by kernel_rfl)
        have h88 : a.tmps.getD 88 undef = _ := ByN.given_get hg 10 rfl rfl (by kernel_rfl)
        refine ByL.yes rfl ?_
        clear hs hg hk1 hk2
        exact RdL.op_app (.tmp 83) (.tmp 88) rfl rfl h83 h88 R2.out ⟨_, rfl, trivial, trivial, ⟨(show 3 ≤ 4 by decide), rfl⟩, rfl⟩
      · intro a w9 s ht hR hk1 hk2 hs hg
        have h8 : a.tmps.getD 8 undef = .pointer (some ⟨gc, 0, none⟩) := By.same_get hs 8 (by decide) (by kernel_rfl)
        refine ByL.yes rfl ?_
        clear hs hg hk1 hk2
        have HR := Lib.hid hR
        clear hR
        go_simp
        exact ⟨_, rfl, trivial, trivial, HR.out, rfl⟩
      · intro a w9 s ht hR hk1 hk2 hs hg
        obtain rfl := hk1 3 rfl
        obtain ⟨_, rfl⟩ : _ ∧ w9 = us 3 := hR
        have h90 : a.tmps.getD 90 undef = _ := ByN.given_get hg 12 rfl rfl (by kernel_rfl)
        have h89 : a.tmps.getD 89 undef = _ := ByN.given_get hg 11 rfl rfl (by kernel_rfl)
        refine ByL.yes rfl ?_
        clear hs hg hk1 hk2
        have q0 := (HXs.out 3 (by decide)).cell (i := 8) rfl
        have f0 := frozen_row (HXs.out 3 (by decide)) 8
        go_simp
        exact ⟨trivial, trivial, ⟨(show 4 ≤ 4 by decide), US.out⟩, ⟨undef, trivial⟩⟩
      refine ByL.ends_is (ByL.ends_is (ByL.ends_is (ByL.ends_is (ByL.ends_is (ByL.ends_is (ByL.ends_is (ByL.ends_is (ByL.ends_is (ByL.ends_is (ByL.ends_is (ByL.ends_is (ByL.ends_is (ByL.ends_skip fun v90 => ByL.ends_nil fun V11 hV11 => ?_)))))))))))))
      try simp only [Act.put, List.setIfInBounds_toArray, List.set_cons_succ, List.set_cons_zero]
      try simp only [List.drop_succ_cons, List.drop_zero]
      obtain ⟨_, _, hV11⟩ := hV11
      subst hV11
      have HLc := Lib.hid (l_msg X4.out)
      have HMc := Lib.hid (Check_any (w := us 4) (B := (us 4).heap.size) (m := m.wee ls) ⟨UO4.out.tab, (FM.out _ UB4.out).body.more (FB.out _ UB4.out).size⟩ HIX.out (Nat.le_refl _))
      have HZc := Lib.hid (show checkMZ (m.wee ls) = 2 from HLS.out ▸ check_c HK2.out HCZ.out k HLT.out)
      go_wp2_with (first
        | (show wpList _ _ _ (⟨some 91, _, _, _, _, _⟩ :: _) _ _
           refine QB.wpList_ld 52 rfl rfl HLc.out rfl ?_
           clear HLc)
        | fail)
      refine HMc.out.mono ?_
      rintro e W12 ⟨rfl, hb12⟩
      have HB12 := Lib.hid (nextB UB4.out (Nat.le_refl _) hb12)
      rw [HZc.out]
      clear hb12 HMc HZc
      go_wp2
      go_ret
      exact ⟨rfl, FB.out W12 HB12.out⟩
    · have HKP := Lib.hid hk0
      obtain ⟨en, hen⟩ : ∃ en, m.es[k - 1]? = some en := ⟨_, List.getElem?_eq_getElem (by have := HKN.out; omega)⟩
      have HEN := Lib.hid (show k - 1 < m.es.length ∧ m.es[k - 1]? = some en from ⟨(List.getElem?_eq_some_iff.1 hen).1, hen⟩)
      have hkd : 0 < k := HKP.out
      have hkd1 : ¬ k = 0 := by have := HKP.out; omega
      have hkd2 : (0 : Int) < (k : Int) := by have := HKP.out; omega
      have hkd3 : decide ((0 : Int) < (k : Int)) = true := by simpa using HKP.out
      obtain ⟨bl, off, hA1, _, _, _⟩ := (FM.out V5 HB5w.out).es.at hen
      have HA1 := Lib.hid hA1
      clear hk0 hen hA1
      go_wp2_with (first
        | (show wpList _ _ _ (⟨some 55, _, _, _, _, _⟩ :: _) _ _
           clear THIRD
           refine QB.name fun V6 hV6 => ?_
           have LRY := Lib.hid (show Row V6 g2 ((m.wes (m.es.drop k) (m.ix + (k : Int)) m.prev).cs (.slice A' (m.es.length - k) (n1 - k)) (.slice A2 m.body.length n2)) 52 from hV6 ▸ HRY.out.set 2 _)
           have HRX := Lib.hid (show Row V6 g1 ((m.wee (m.es.take k)).cs (.slice A1 k n1) (.slice A2 m.body.length n2)) 52 from hV6 ▸ LRX.out.other _ _ HNy.out.1)
           have HB6w := Lib.hid (show Below W.heap.size W V6 from hV6 ▸ HB5w.out.setCell (p := ⟨g2, 2, none⟩) HNy.out.2.2 _)
           clear hV6 LRX HRY HB5w q0 f0 c2 hwk hwi
           
           obtain ⟨b', off', e', _, hc', _⟩ := (FM.out V6 HB6w.out).es.at HEN.out.2
           rw [HA1.out] at e'
           simp only [Option.some.injEq, Addr.mk.injEq, and_true] at e'
           obtain ⟨rfl, rfl⟩ := e'
           have hkw : IntKind.i64.wrap ((k : Int) - 1) = (k : Int) - 1 := by have := HKN.out; have := HN.out; simp [IntKind.wrap, IntKind.bits, IntKind.signed]; omega
           have c8 := (FR.out V6 HB6w.out).cell (i := 8) rfl
           rw [HA1.out] at c8
           have c61 := hc' 1 _ rfl
           have q0 := LRY.out.cell (i := 3) rfl
           have f0 := frozen_row LRY.out 3
           have hki : ((k : Int) - 1).toNat = k - 1 := by omega
           have hk0 : (0 : Int) ≤ (k : Int) - 1 := by omega
           have hkl' : (k : Int) - 1 < (m.es.length : Int) := by have := HEN.out.1; omega
           clear hc'
           have FOURTH := Lib.hid True.intro)
        | (show wpList _ _ _ (⟨some 63, _, _, _, _, _⟩ :: _) _ _
           clear FOURTH
           refine QB.name fun V7 hV7 => ?_
           have HRZ := Lib.hid (show Row V7 g2 ((m.wes (m.es.drop k) (m.ix + (k : Int)) en.ep).cs (.slice A' (m.es.length - k) (n1 - k)) (.slice A2 m.body.length n2)) 52 from hV7 ▸ LRY.out.set 3 _)
           have LRX := Lib.hid (show Row V7 g1 ((m.wee (m.es.take k)).cs (.slice A1 k n1) (.slice A2 m.body.length n2)) 52 from hV7 ▸ HRX.out.other _ _ HNy.out.1)
           have HB7w := Lib.hid (show Below W.heap.size W V7 from hV7 ▸ HB6w.out.setCell (p := ⟨g2, 3, none⟩) HNy.out.2.2 _)
           clear hV7 HRX LRY HB6w q0 f0 c8 c61 hkw hki hk0 hkl'
           have HLa := Lib.hid (l_msg LRX.out)
           refine QB.wpList_ld 52 rfl rfl HLa.out rfl ?_
           clear HLa
           have FIFTH := Lib.hid True.intro)
        | fail)
      clear FIFTH hkd hkd1 hkd2 hkd3
      have HZb := Lib.hid (show checkMZ (m.wes (m.es.drop k) (m.ix + (k : Int)) en.ep) = 0 from by
        have e : k - 1 + 1 = k := by have := HKP.out; omega
        have := check_b HK2.out HCZ.out (k - 1) en HEN.out.2 HBIG.out
        rw [e] at this
        exact this)
      have HZa := Lib.hid (check_a HK2.out HCZ.out k)
      have HMa := Lib.hid (fun (y : World) (hy : Below W.heap.size W y) => Check_any (w := y) (B := w.heap.size) (ve := .slice A1 k n1) (vb := .slice A2 m.body.length n2) (m := m.wee (m.es.take k)) ⟨(FM.out y hy).es.take HKN.out, (FM.out y hy).body⟩ HIX.out (FB.out y hy).size)
      have HMb := Lib.hid (fun (y : World) (hy : Below W.heap.size W y) => Check_any (w := y) (B := w.heap.size) (ve := .slice A' (m.es.length - k) (n1 - k)) (vb := .slice A2 m.body.length n2) (m := m.wes (m.es.drop k) (m.ix + (k : Int)) en.ep) ⟨(FM.out y hy).es.drop HKN.out (fun b o e hlt => by rw [← HA'.out]; exact loP_at e (by have := HL1.out; omega)) (by have := HL1.out; omega), (FM.out y hy).body⟩ (show 0 ≤ m.ix + (k : Int) by have := HIX.out; omega) (FB.out y hy).size)
      refine (HMa.out V7 HB7w.out).mono ?_
      rintro e W8 ⟨rfl, hb8⟩
      have HB8 := Lib.hid (show Below W.heap.size W W8 from nextB HB7w.out (Nat.le_refl _) hb8)
      have HLb := Lib.hid (l_msg (HRZ.out.below hb8 HRZ.out.lt))
      rw [HZa.out]
      clear hb8 HMa HZa
      go_wp2_with (first
        | (show wpList _ _ _ (⟨some 67, _, _, _, _, _⟩ :: _) _ _
           refine QB.wpList_ld 52 rfl rfl HLb.out (by kernel_rfl) ?_
           clear HLb)
        | fail)
      refine (HMb.out W8 HB8.out).mono ?_
      rintro e W9 ⟨rfl, hb9⟩
      have HB9 := Lib.hid (show Below W.heap.size W W9 from nextB HB8.out (Nat.le_refl _) hb9)
      rw [HZb.out]
      clear hb9 HMb HZb
      have c8 := (FR.out W9 HB9.out).cell (i := 8) rfl
      have hw1 : IntKind.i64.wrap ((k : Int) + 1) = (k : Int) + 1 := by have := HKN.out; have := HN.out; simp [IntKind.wrap, IntKind.bits, IntKind.signed]; omega
      have HLm := Lib.hid (FL.out W9 HB9.out)
      by_cases hge : (m.es.length : Int) ≤ (k : Int) + 1
      case pos =>
        go_wp2
        go_ret
        exact ⟨rfl, FB.out W9 HB9.out⟩
      case neg =>
      have HLT := Lib.hid (show k + 1 < m.es.length by omega)
      have SIXTH := Lib.hid True.intro
      go_wp2_with (first
        | (show wpList _ _ _ (⟨some 77, _, _, _, _, _⟩ :: _) _ _
           refine QB.wpList_ld 52 rfl rfl HLm.out rfl ?_
           clear HLm)
        | (show wpList _ _ _ (⟨none, .store 52 (.tmp 8) (.tmp 77), _, _, _, _⟩ :: _) _ _
           refine QB.name fun V9 hV9 => ?_
           have HZ := Lib.hid (show Row V9 W9.heap.size zcs 52 from hV9 ▸ Row.new rfl rfl)
           have HB9z := Lib.hid (show Below W.heap.size W V9 from hV9 ▸ HB9.out.alloc HB9.out.size _)
           refine wpList_storeRow (g := W9.heap.size) rfl 52 (.tmp 8) (.tmp 77) rfl rfl (cs := (m.cs (.slice A1 m.es.length n1) (.slice A2 m.body.length n2))) HMV.out HZ.out (by kernel_rfl) rfl rfl (ms_one m _ _ _ _ _ _) ?_
           refine QB.name fun V10 hV10 => ?_
           have HX := Lib.hid (show Row V10 W9.heap.size (m.cs (.slice A1 m.es.length n1) (.slice A2 m.body.length n2)) 52 from hV10 ▸ HZ.out.setRow _)
           have HB10 := Lib.hid (show Below W.heap.size W V10 from hV10 ▸ below_setRow HB9z.out HB9.out.size _)
           have HGC := Lib.hid HB9.out.size
           clear hV9 hV10 HZ HB9z c8 hw1 hge SIXTH)
        | fail)
      obtain ⟨gc, hgc⟩ : ∃ g, W9.heap.size = g := ⟨_, rfl⟩
      rw [hgc] at HX HGC ⊢
      clear hgc
      obtain ⟨A9, hA9⟩ : ∃ A, loP A1 n1 (k + 1) = A := ⟨_, rfl⟩
      have HA9 := Lib.hid hA9
      obtain ⟨ls, hls⟩ : ∃ l, m.es.take k ++ m.es.drop (k + 1) = l := ⟨_, rfl⟩
      have HLS := Lib.hid hls
      clear hls
      have K16 : ∃ (us : Nat → World) (v83 : Value) (A8 : Option Addr) (n8 : Nat), Hid (us 0 = V10.drew) ∧ Hid (us 1 = (us 0).alloc (.cells #[] 49)) ∧
          Hid ((Builtin.append_ #[50, 50] 50 #[.slice (some ⟨V10.heap.size, 0, none⟩) 0 0, .slice A1 k n1]).run Try.prog (us 1) = .ok v83 (us 2)) ∧
          Hid ((Builtin.append_ #[50, 50] 50 #[v83, .slice A9 (m.es.length - (k + 1)) (n1 - (k + 1))]).run Try.prog (us 2) = .ok (.slice A8 ls.length n8) (us 3)) ∧
          Hid ((us 3).setCell ⟨gc, 8, none⟩ (.slice A8 ls.length n8) = us 4) ∧
          Hid (∀ s, s ≤ 3 → Below V10.heap.size V10 (us s)) ∧ Hid (OwnE (us 3) V10.heap.size (.slice A8 ls.length n8) ls) := by
        have D0 : Below V10.heap.size V10 V10.drew := (Below.refl _ V10).drew
        have D1 : Below V10.heap.size V10 (V10.drew.alloc (.cells #[] 49)) := D0.alloc (Nat.le_refl _) _
        have M1 := FM.out _ (nextB HB10.out (Nat.le_refl _) D1)
        obtain ⟨v83, U2, r1, o1, gr1, _⟩ := run_appE (V10.drew.alloc (.cells #[] 49)) (ownE_new V10.drew) (M1.es.take HKN.out) (by have := HN.out; simp only [List.length_nil, List.length_take]; omega) (by show V10.heap.size ≤ _; simp)
        have D2 : Below V10.heap.size V10 U2 := D1.grown gr1 D1.size (fun j e => ((ownE_new V10.drew).2.lt j e).1)
        have M2 := FM.out _ (nextB HB10.out (Nat.le_refl _) D2)
        obtain ⟨v89, U3, r2, o2, gr2, _⟩ := run_appE U2 o1 (M2.es.drop (i := k + 1) (A' := A9) (c' := n1 - (k + 1)) (by have := HLT.out; omega) (fun b o e hlt => by rw [← HA9.out]; exact loP_at e (by have := HL1.out; omega)) (by have := HL1.out; omega)) (by have := HN.out; simp only [List.nil_append, List.length_drop, List.length_take]; omega) D2.size
        have D3 : Below V10.heap.size V10 U3 := D2.grown gr2 D2.size (fun j e => (o1.2.lt j e).1)
        rw [List.nil_append, HLS.out] at o2
        obtain ⟨A8, n8, e8, _⟩ := o2.tab.2.shape
        subst e8
        exact ⟨fun s => if s = 0 then V10.drew else if s = 1 then V10.drew.alloc (.cells #[] 49) else if s = 2 then U2 else if s = 3 then U3 else U3.setCell ⟨gc, 8, none⟩ (.slice A8 ls.length n8), v83, A8, n8, Lib.hid rfl, Lib.hid rfl, Lib.hid r1, Lib.hid r2, Lib.hid rfl, Lib.hid (fun s hs => by
          match s, hs with
          | 0, _ => exact D0
          | 1, _ => exact D1
          | 2, _ => exact D2
          | 3, _ => exact D3), Lib.hid o2⟩
      obtain ⟨us, v83, A8, n8, U0, U1, R1, R2, US, UB, UO⟩ := K16
      have HXs := Lib.hid (fun s (hs : s ≤ 3) => show Row (us s) gc (m.cs (.slice A1 m.es.length n1) (.slice A2 m.body.length n2)) 52 from HX.out.below (UB.out s hs) HX.out.lt)
      have X4 := Lib.hid (show Row (us 4) gc ((m.wee ls).cs (.slice A8 ls.length n8) (.slice A2 m.body.length n2)) 52 from US.out ▸ (HXs.out 3 (by decide)).set 8 _)
      have UB4 := Lib.hid (show Below W.heap.size W (us 4) from US.out ▸ (nextB HB10.out (Nat.le_refl _) (UB.out 3 (by decide))).setCell (p := ⟨gc, 8, none⟩) HGC.out _)
      have UO4 := Lib.hid (show OwnE (us 4) V10.heap.size (.slice A8 ls.length n8) ls from US.out ▸ ⟨UO.out.1, owns_setCell UO.out.2 _ HX.out.lt _⟩)
      have C8 := Lib.hid (fun (s : Nat) (y : World) (h : s ≤ 4) (e : y = us s) => show y.cell? ⟨gm, 8, none⟩ = some (.slice A1 m.es.length n1) from by
        subst e
        by_cases h4 : s = 4
        · subst h4; exact (FR.out _ UB4.out).cell (i := 8) rfl
        · exact (FR.out _ (nextB HB10.out (Nat.le_refl _) (UB.out s (by omega)))).cell (i := 8) rfl)
      have HK1n := Lib.hid (show k + 1 ≤ m.es.length by have := HLT.out; omega)
      have HKw := Lib.hid (show IntKind.i64.wrap ((k : Int) + 1) = (k : Int) + 1 by have := HKN.out; have := HN.out; simp [IntKind.wrap, IntKind.bits, IntKind.signed]; omega)
      clear hA9
      refine ByL.marks Wir.mixed RdL.TT freeF (fun s y => s ≤ 4 ∧ y = us s) 4 [
          ByL.is (.slice (some ⟨V10.heap.size, 0, none⟩) 0 0) (some 0),
          ByL.is (.pointer (some ⟨gm, 8, none⟩)) none,
          ByL.is (.slice A1 m.es.length n1) none,
          ByL.is (.int .i64 (k : Int)) none,
          ByL.is (.slice A1 k n1) none,
          ByL.is v83 (some 1),
          ByL.is (.pointer (some ⟨gm, 8, none⟩)) none,
          ByL.is (.slice A1 m.es.length n1) none,
          ByL.is (.int .i64 (k : Int)) none,
          ByL.is (.int .i64 ((k + 1 : Nat) : Int)) none,
          ByL.is (.slice A9 (m.es.length - (k + 1)) (n1 - (k + 1))) none,
          ByL.is (.slice A8 ls.length n8) (some 2),
          ByL.is (.pointer (some ⟨gc, 8, none⟩)) none,
          ByL.isN (some 3)]
          (Ev.masks _ []) (by kernel_rfl) rfl (by kernel_rfl) (fun _ => trivial) (fun _ _ _ _ _ => trivial) (fun _ _ => trivial) ⟨by decide, U0.out.symm⟩ ⟨?_, ?_, ?_, ?_, ?_, ?_, ?_, ?_, ?_, ?_, ?_, ?_, ?_, ?_, trivial⟩ ?_
      · intro a w9 s ht hR hk1 hk2 hs hg
        obtain rfl := hk1 0 rfl
        obtain ⟨_, rfl⟩ : _ ∧ w9 = us 0 := hR
        refine ByL.yes rfl ?_
        clear hs hg hk1 hk2
        refine RdL.op_bs 50 0 #[] rfl (ps := #[]) Array.map_empty (run_bs_nil _) ?_
        rw [show (us 0).heap.size = V10.heap.size from by rw [U0.out]; rfl]
        exact ⟨_, rfl, trivial, trivial, ⟨(show 1 ≤ 4 by decide), U1.out.symm⟩, rfl⟩
      · intro a w9 s ht hR hk1 hk2 hs hg
        have h2 : a.tmps.getD 2 undef = .pointer (some ⟨gm, 0, none⟩) := By.same_get hs 2 (by decide) (by kernel_rfl)
        refine ByL.yes rfl ?_
        clear hs hg hk1 hk2
        have HR := Lib.hid hR
        clear hR
        go_simp
        exact ⟨_, rfl, trivial, trivial, HR.out, rfl⟩
      · intro a w9 s ht hR hk1 hk2 hs hg
        have h79 : a.tmps.getD 79 undef = _ := ByN.given_get hg 1 rfl rfl (by kernel_rfl)
        refine ByL.yes rfl ?_
        have hc := C8.out s w9 hR.1 hR.2
        clear hs hg hk1 hk2
        have HR := Lib.hid hR
        clear hR
        go_simp
        exact ⟨_, rfl, trivial, trivial, HR.out, rfl⟩
      · intro a w9 s ht hR hk1 hk2 hs hg
        have h5 : a.tmps.getD 5 undef = .int .i64 (k : Int) := By.same_get hs 5 (by decide) (by kernel_rfl)
        refine ByL.yes rfl ?_
        clear hs hg hk1 hk2
        have HR := Lib.hid hR
        clear hR
        go_simp
        exact ⟨_, rfl, trivial, trivial, HR.out, rfl⟩
      · intro a w9 s ht hR hk1 hk2 hs hg
        have h80 : a.tmps.getD 80 undef = _ := ByN.given_get hg 2 rfl rfl (by kernel_rfl)
        have h81 : a.tmps.getD 81 undef = _ := ByN.given_get hg 3 rfl rfl (by kernel_rfl)
        refine ByL.yes rfl ?_
        clear hs hg hk1 hk2
        have HR := Lib.hid hR
        clear hR
        exact op_slhi 80 81 rfl h80 h81 HKN.out HL1.out ⟨_, rfl, trivial, trivial, HR.out, rfl⟩
      · intro a w9 s ht hR hk1 hk2 hs hg
        obtain rfl := hk1 1 rfl
        obtain ⟨_, rfl⟩ : _ ∧ w9 = us 1 := hR
        have h78 : a.tmps.getD 78 undef = _ := ByN.given_get hg 0 rfl rfl (by kernel_rfl)
        have h82 : a.tmps.getD 82 undef = _ := ByN.given_get hg 4 rfl rfl (by kernel_rfl)
        refine ByL.yes rfl ?_
        clear hs hg hk1 hk2
        exact RdL.op_app (.tmp 78) (.tmp 82) rfl rfl h78 h82 R1.out ⟨_, rfl, trivial, trivial, ⟨(show 2 ≤ 4 by decide), rfl⟩, rfl⟩
      · intro a w9 s ht hR hk1 hk2 hs hg
        have h2 : a.tmps.getD 2 undef = .pointer (some ⟨gm, 0, none⟩) := By.same_get hs 2 (by decide) (by kernel_rfl)
        refine ByL.yes rfl ?_
        clear hs hg hk1 hk2
        have HR := Lib.hid hR
        clear hR
        go_simp
        exact ⟨_, rfl, trivial, trivial, HR.out, rfl⟩
      · intro a w9 s ht hR hk1 hk2 hs hg
        have h84 : a.tmps.getD 84 undef = _ := ByN.given_get hg 6 rfl rfl (by kernel_rfl)
        refine ByL.yes rfl ?_
        have hc := C8.out s w9 hR.1 hR.2
        clear hs hg hk1 hk2
        have HR := Lib.hid hR
        clear hR
        go_simp
        exact ⟨_, rfl, trivial, trivial, HR.out, rfl⟩
      · intro a w9 s ht hR hk1 hk2 hs hg
        have h5 : a.tmps.getD 5 undef = .int .i64 (k : Int) := By.same_get hs 5 (by decide) (by kernel_rfl)
        refine ByL.yes rfl ?_
        clear hs hg hk1 hk2
        have HR := Lib.hid hR
        clear hR
        go_simp
        exact ⟨_, rfl, trivial, trivial, HR.out, rfl⟩
      · intro a w9 s ht hR hk1 hk2 hs hg
        have h86 : a.tmps.getD 86 undef = _ := ByN.given_get hg 8 rfl rfl (by kernel_rfl)
        refine ByL.yes rfl ?_
        clear hs hg hk1 hk2
        have HR := Lib.hid hR
        clear hR
        have hkw := HKw.out
        go_simp
        exact ⟨_, rfl, trivial, trivial, HR.out, rfl⟩
      · intro a w9 s ht hR hk1 hk2 hs hg
        have h85 : a.tmps.getD 85 undef = _ := ByN.given_get hg 7 rfl rfl (by kernel_rfl)
        have h87 : a.tmps.getD 87 undef = _ := ByN.given_get hg 9 rfl rfl (by kernel_rfl)
        refine ByL.yes rfl ?_
        clear hs hg hk1 hk2
        have HR := Lib.hid hR
        clear hR
        exact op_sllo 85 87 rfl h85 h87 HK1n.out ⟨_, rfl, trivial, trivial, HR.out, by rw [HA9.out]; rfl⟩
      · intro a w9 s ht hR hk1 hk2 hs hg
        obtain rfl := hk1 2 rfl
        obtain ⟨_, rfl⟩ : _ ∧ w9 = us 2 := hR
        have h83 : a.tmps.getD 83 undef = _ := ByN.given_get hg 5 rfl rfl (by kernel_rfl)
        have h88 : a.tmps.getD 88 undef = _ := ByN.given_get hg 10 rfl rfl (by kernel_rfl)
        refine ByL.yes rfl ?_
        clear hs hg hk1 hk2
        exact RdL.op_app (.tmp 83) (.tmp 88) rfl rfl h83 h88 R2.out ⟨_, rfl, trivial, trivial, ⟨(show 3 ≤ 4 by decide), rfl⟩, rfl⟩
      · intro a w9 s ht hR hk1 hk2 hs hg
        have h8 : a.tmps.getD 8 undef = .pointer (some ⟨gc, 0, none⟩) := By.same_get hs 8 (by decide) (by kernel_rfl)
        refine ByL.yes rfl ?_
        clear hs hg hk1 hk2
        have HR := Lib.hid hR
        clear hR
        go_simp
        exact ⟨_, rfl, trivial, trivial, HR.out, rfl⟩
      · intro a w9 s ht hR hk1 hk2 hs hg
        obtain rfl := hk1 3 rfl
        obtain ⟨_, rfl⟩ : _ ∧ w9 = us 3 := hR
        have h90 : a.tmps.getD 90 undef = _ := ByN.given_get hg 12 rfl rfl (by kernel_rfl)
        have h89 : a.tmps.getD 89 undef = _ := ByN.given_get hg 11 rfl rfl (by kernel_rfl)
        refine ByL.yes rfl ?_
        clear hs hg hk1 hk2
        have q0 := (HXs.out 3 (by decide)).cell (i := 8) rfl
        have f0 := frozen_row (HXs.out 3 (by decide)) 8
        go_simp
        exact ⟨trivial, trivial, ⟨(show 4 ≤ 4 by decide), US.out⟩, ⟨undef, trivial⟩⟩
      refine ByL.ends_is (ByL.ends_is (ByL.ends_is (ByL.ends_is (ByL.ends_is (ByL.ends_is (ByL.ends_is (ByL.ends_is (ByL.ends_is (ByL.ends_is (ByL.ends_is (ByL.ends_is (ByL.ends_is (ByL.ends_skip fun v90 => ByL.ends_nil fun V11 hV11 => ?_)))))))))))))
      try simp only [Act.put, List.setIfInBounds_toArray, List.set_cons_succ, List.set_cons_zero]
      try simp only [List.drop_succ_cons, List.drop_zero]
      obtain ⟨_, _, hV11⟩ := hV11
      subst hV11
      have HLc := Lib.hid (l_msg X4.out)
      have HMc := Lib.hid (Check_any (w := us 4) (B := (us 4).heap.size) (m := m.wee ls) ⟨UO4.out.tab, (FM.out _ UB4.out).body.more (FB.out _ UB4.out).size⟩ HIX.out (Nat.le_refl _))
      have HZc := Lib.hid (show checkMZ (m.wee ls) = 2 from HLS.out ▸ check_c HK2.out HCZ.out k HLT.out)
      go_wp2_with (first
        | (show wpList _ _ _ (⟨some 91, _, _, _, _, _⟩ :: _) _ _
           refine QB.wpList_ld 52 rfl rfl HLc.out rfl ?_
           clear HLc)
        | fail)
      refine HMc.out.mono ?_
      rintro e W12 ⟨rfl, hb12⟩
      have HB12 := Lib.hid (nextB UB4.out (Nat.le_refl _) hb12)
      rw [HZc.out]
      clear hb12 HMc HZc
      go_wp2
      go_ret
      exact ⟨rfl, FB.out W12 HB12.out⟩
def zms : Ms := ⟨0, 0, 0, 0, 0, 0, 0, false, [], []⟩
set_option maxRecDepth 100000 in
theorem lift (os : Os) (started : os.Started) (H : Type) (enc : TypeId × Value → H) :
    ReturnsInHanded {} Try.checked os 5 .any (Rows.wireRowsSpec.pre6 enc Try.prog Try.f5 Rows.wireRowsRow.domain false) (Rows.wireRowsSpec.post enc Try.prog Try.f5 false true false false) := by
  refine Law.lifted (C := Try.checked) 4 own started (by kernel_rfl) Try.func5 laid (by kernel_rfl) rfl Try.underlying4 rfl
    (fun ds hd => by
      have hd' : ds.length = 2 := hd
      match ds, hd' with
      | [d0, d1], _ => rfl)
    (ChangeSpec.witness6 (enc := enc) (C := Try.checked) false ⟨#[], #[.agg (zms.cs (.slice none 0 0) (.slice none 0 0)).toArray, .int .i64 0], []⟩ 8 (by kernel_rfl) (by kernel_rfl) (by kernel_rfl) (by kernel_rfl)) ?_
  intro W args ds ps hst
  have hA : DataW.TrodAll enc Try.prog W 0 (fun _ => true) true Try.f5.params.toList args.toList ds ps := hst.trod
  have hok := hst.okw
  have hlt := hst.lt
  rw [Try.params5] at hA hok
  obtain ⟨v0, v1, d0, d1, p0, p1, rfl, rfl, rfl, h0, h1⟩ := trodAll_two hA
  obtain ⟨_, hv0⟩ := hok 0 52 v0 rfl rfl
  obtain ⟨_, hv1⟩ := hok 1 3 v1 rfl rfl
  obtain ⟨ve, vb, m, rfl, hm, hix⟩ := msg_at hv0 h0 (fun x hx => hlt x (by simp [hx]))
  obtain ⟨z, rfl, hz⟩ := Law.int_at Try.underlying3 hv1 h1
  exact walk hm hix hz

theorem over : Rows.wireRowsRow.holds Try.pinned (OpenSpec.ofChange Rows.wireRowsSpec) :=
  OpenClaim.holds_of_wide 5 Try.f5 rfl rfl rfl rfl rfl rfl rfl ⟨rfl, rfl, rfl, rfl, rfl⟩ rfl rfl rfl rfl rfl (by kernel_rfl) Try.func5 (by kernel_rfl)
    (of_decide_eq_true (by kernel_rfl)) (by unfold Func.isWrapper; first | (rw [if_pos (by decide +kernel)]; kernel_rfl) | (rw [if_neg (by decide +kernel)]; exact ⟨rfl, rfl⟩))
    (fun os started H enc _ => lift os started H enc)
theorem proved : Rows.WireRowsSaid := over
#print axioms proved
end Go.Proofs.Ytigjbgjjngeinaa.wireRows
