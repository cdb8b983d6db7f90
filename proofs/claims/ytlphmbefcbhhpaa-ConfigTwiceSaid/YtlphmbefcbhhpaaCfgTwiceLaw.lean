/- An operation, done twice, is done once or impossible; two peers go in either order: 'drawbridgelaw08.ConfigTwice', for every argument. -/
import Derived.Test.YtlphmbefcbhhpaaCfgStep
import Derived.Test.YtlphmbefcbhhpaaCfgKit
import Derived.Test.YtlphmbefcbhhpaaCfgMember
import Derived.Test.YtlphmbefcbhhpaaCfgArgs
import Derived.Test.YtlphmbefcbhhpaaCfgLives
import Derived.Test.YtlphmbefcbhhpaaLaw
namespace Go.Proofs.Ytlphmbefcbhhpaa.cfgTwice
open Go.ChangeShapes Go.WideShapes Go.ChangeAt Go.RowKit Go.Maps
open Cfg
theorem own : ownKnob Try.checked.prog.godebug = none := by kernel_rfl
theorem laid : laidOutB Try.checked.prog = true := by kernel_rfl
set_option maxRecDepth 100000 in
set_option maxHeartbeats 8000000 in
theorem walk {w : World} {vp vr : Value} {c : Cf} {o p : Opn} (hc : CAt w w.heap.size vp vr c) (hk : o.ky.length = 32) (hkp : p.ky.length = 32) : Calls Try.prog 8 #[.agg #[vp, vr], o.val, p.val] w fun e w' => e = .returned (.bool true) ∧ Below w.heap.size w w' := by
  obtain ⟨A1, n1, A2, n2, rfl, rfl⟩ := hc.shape
  obtain ⟨W0, hW0⟩ : ∃ W0, ((w.alloc (.cells #[.slice A1 c.ps.length n1, .slice A2 c.rs.length n2] 27)).alloc (.cells o.cs.toArray 45)).alloc (.cells p.cs.toArray 45) = W0 := ⟨_, rfl⟩
  have hb0 : Below w.heap.size w W0 := hW0 ▸ (((Below.refl _ w).alloc (Nat.le_refl _) _).alloc (by simp) _).alloc (by simp; omega) _
  have hr0 : Row W0 w.heap.size [.slice A1 c.ps.length n1, .slice A2 c.rs.length n2] 27 := hW0 ▸ ((Row.new rfl rfl : Row (w.alloc (.cells #[.slice A1 c.ps.length n1, .slice A2 c.rs.length n2] 27)) w.heap.size [.slice A1 c.ps.length n1, .slice A2 c.rs.length n2] 27).alloc _).alloc _
  have hr1 : Row W0 (w.heap.size + 1) o.cs 45 := hW0 ▸ (Row.new (by simp) rfl : Row ((w.alloc (.cells #[.slice A1 c.ps.length n1, .slice A2 c.rs.length n2] 27)).alloc (.cells o.cs.toArray 45)) (w.heap.size + 1) o.cs 45).alloc _
  have hr2 : Row W0 (w.heap.size + 1 + 1) p.cs 45 := hW0 ▸ Row.new (by simp) rfl
  have HR0 := Lib.hid hr0
  have HR1 := Lib.hid hr1
  have HR2 := Lib.hid hr2
  have HB0 := Lib.hid hb0
  have HC := Lib.hid hc
  have Hko := Lib.hid hk
  have Hkp := Lib.hid hkp
  clear hc hk hkp hr0 hr1 hr2 hb0
  unfold Opn.val
  go_enter Try.func8, Try.ntmps8
  go_wp2_with fail
  refine (lives_any _).mono ?_
  rintro e W ⟨rfl, hb⟩
  have HB := Lib.hid hb
  have HL := Lib.hid (Light_any A1 A2 c.ps.length n1 c.rs.length n2 W)
  clear hb
  clear hW0
  have HBW := Lib.hid (show Below w.heap.size w W from nextB HB0.out (Nat.le_refl _) HB.out)
  have KR0 := Lib.hid (HR0.out.below HB.out HR0.out.lt)
  have KR1 := Lib.hid (HR1.out.below HB.out HR1.out.lt)
  have KR2 := Lib.hid (HR2.out.below HB.out HR2.out.lt)
  obtain ⟨g0, hg0⟩ : ∃ g, w.heap.size = g := ⟨_, rfl⟩
  obtain ⟨g1, hg1⟩ : ∃ g, w.heap.size + 1 = g := ⟨_, rfl⟩
  obtain ⟨g2, hg2⟩ : ∃ g, w.heap.size + 1 + 1 = g := ⟨_, rfl⟩
  have HRc := Lib.hid (show Row W g0 [.slice A1 c.ps.length n1, .slice A2 c.rs.length n2] 27 from hg0 ▸ KR0.out)
  have HRo := Lib.hid (show Row W g1 o.cs 45 from hg1 ▸ KR1.out)
  have HRp := Lib.hid (show Row W g2 p.cs 45 from hg2 ▸ KR2.out)
  have FP := Lib.hid (fun w' (h : Below W.heap.size W w') => (HRc.out.below h HRc.out.lt).cell (i := 0) rfl)
  have FR := Lib.hid (fun w' (h : Below W.heap.size W w') => (HRc.out.below h HRc.out.lt).cell (i := 1) rfl)
  have FKo := Lib.hid (fun w' (h : Below W.heap.size W w') => (HRo.out.below h HRo.out.lt).cell (i := 0) rfl)
  have FIo := Lib.hid (fun w' (h : Below W.heap.size W w') => (HRo.out.below h HRo.out.lt).cell (i := 2) rfl)
  have FKp := Lib.hid (fun w' (h : Below W.heap.size W w') => (HRp.out.below h HRp.out.lt).cell (i := 0) rfl)
  have FIp := Lib.hid (fun w' (h : Below W.heap.size W w') => (HRp.out.below h HRp.out.lt).cell (i := 2) rfl)
  have FO := Lib.hid (fun w' (h : Below W.heap.size W w') => l_op (HRo.out.below h HRo.out.lt) Hko.out)
  have FQ := Lib.hid (fun w' (h : Below W.heap.size W w') => l_op (HRp.out.below h HRp.out.lt) Hkp.out)
  have FCA := Lib.hid (fun w' (h : Below W.heap.size W w') => show CAt w' w.heap.size (.slice A1 c.ps.length n1) (.slice A2 c.rs.length n2) c from HC.out.below (nextB HBW.out (Nat.le_refl _) h))
  obtain ⟨li, hli⟩ : ∃ li, (decide (c.ps.length ≤ 40) && decide (c.rs.length ≤ 40)) = li := ⟨_, rfl⟩
  rw [hli] at HL
  have HLI := Lib.hid hli
  rw [hg2, hg1, hg0]
  clear hli hg0 hg1 hg2 HR0 HR1 HR2 KR0 KR1 KR2 HB HB0 HRc HRo HRp
  have c0 := FP.out W (Below.refl _ _)
  have c1 := FR.out W (Below.refl _ _)
  go_wp2_with fail
  refine HL.out.mono ?_
  rintro e W3 ⟨rfl, hb3⟩
  have HB3 := Lib.hid hb3
  have HBw3 := Lib.hid (show Below w.heap.size w W3 from nextB HBW.out (Nat.le_refl _) hb3)
  clear hb3 HL c0 c1
  have c0 := FP.out W3 HB3.out
  have c1 := FR.out W3 HB3.out
  cases li with
  | false =>
    go_wp2
    go_ret
    exact ⟨rfl, HBw3.out⟩
  | true =>
  have HN := Lib.hid (show c.ps.length ≤ 40 ∧ c.rs.length ≤ 40 by have := HLI.out; simp only [Bool.and_eq_true, decide_eq_true_eq] at this; exact this)
  have HCh := Lib.hid (Check_any (w := W3) (B := w.heap.size) (FCA.out W3 HB3.out) HBw3.out.size)
  clear HLI
  go_wp2_with fail
  refine HCh.out.mono ?_
  rintro e W4 ⟨rfl, hb4⟩
  have HBW4 := Lib.hid (show Below W.heap.size W W4 from nextB HB3.out (Nat.le_refl _) hb4)
  have HBw4 := Lib.hid (show Below w.heap.size w W4 from nextB HBw3.out (Nat.le_refl _) hb4)
  clear hb4 c0 c1 HCh HB3 HBw3
  by_cases hV : Val c
  case neg =>
    rw [show checkZ c = 2 from if_neg hV]
    clear hV
    go_wp2
    go_ret
    exact ⟨rfl, HBw4.out⟩
  case pos =>
  rw [show checkZ c = 0 from if_pos hV]
  have HV := Lib.hid hV
  clear hV
  have k0 := FP.out W4 HBW4.out
  have k1 := FR.out W4 HBW4.out
  obtain ⟨D1, E1, hS1, hC1⟩ := DoAny (w := W4) (B := w.heap.size) (FCA.out W4 HBW4.out) HV.out Hko.out (by have := HN.out.1; omega) (by have := HN.out.2; omega) HBw4.out.size
  have HS1 := Lib.hid hS1
  have HC1 := Lib.hid hC1
  have HLO := Lib.hid (FO.out W4 HBW4.out)
  clear hS1 hC1
  go_wp2_with (first
    | (show wpList _ _ _ (⟨some 29, _, _, _, _, _⟩ :: _) _ _
       refine QB.wpList_ld 45 rfl rfl HLO.out rfl ?_
       clear HLO)
    | fail)
  refine HC1.out.mono ?_
  rintro e Y1 ⟨v1, v2, rfl, hn, hb⟩
  obtain ⟨P1, a1, Q1, b1, rfl, rfl⟩ := hn.at.shape
  obtain ⟨Z1, hZ1⟩ : ∃ Z, Y1.alloc (.cells #[.slice P1 D1.ps.length a1, .slice Q1 D1.rs.length b1] 27) = Z := ⟨_, rfl⟩
  have hrd : Row Z1 Y1.heap.size [.slice P1 D1.ps.length a1, .slice Q1 D1.rs.length b1] 27 := hZ1 ▸ Row.new rfl rfl
  have hbz : Below Y1.heap.size Y1 Z1 := hZ1 ▸ (Below.refl _ Y1).alloc (Nat.le_refl _) _
  have hbx : Below W4.heap.size W4 Z1 := nextB hb (Nat.le_refl _) hbz
  have HRD := Lib.hid hrd
  have HCD := Lib.hid (show CAt Z1 Z1.heap.size (.slice P1 D1.ps.length a1) (.slice Q1 D1.rs.length b1) D1 from (hn.at.below hbz).more hbz.size)
  have GD1 := Lib.hid (fun w' (h : Below Z1.heap.size Z1 w') => (show Row w' Y1.heap.size [.slice P1 D1.ps.length a1, .slice Q1 D1.rs.length b1] 27 from HRD.out.below h HRD.out.lt))
  have CD1 := Lib.hid (fun w' (h : Below Z1.heap.size Z1 w') => (show CAt w' Z1.heap.size (.slice P1 D1.ps.length a1) (.slice Q1 D1.rs.length b1) D1 from HCD.out.below h))
  have HBWZ1 := Lib.hid (show Below W.heap.size W Z1 from nextB HBW4.out (Nat.le_refl _) hbx)
  have HBwZ1 := Lib.hid (show Below w.heap.size w Z1 from nextB HBw4.out (Nat.le_refl _) hbx)
  clear hrd hbz hbx hn hb HC1 HRD HCD k0 k1
  have HL1 := Lib.hid (show D1.ps.length ≤ 41 ∧ D1.rs.length ≤ 41 by have := HS1.out.len HV.out; have := HN.out; omega)
  have HV1 := Lib.hid (HS1.out.val HV.out (by have := HN.out.1; omega) (by have := HN.out.2; omega))
  by_cases hE : E1 = 0
  case neg =>
    have hE1 : (E1 == 0) = false := by simpa using hE
    have hE2 : (E1 != 0) = true := by simpa using hE
    clear hE
    go_wp2
    go_ret
    exact ⟨rfl, HBwZ1.out⟩
  case pos =>
  subst hE
  have k0 := (GD1.out Z1 (Below.refl _ _)).cell (i := 0) rfl
  have k1 := (GD1.out Z1 (Below.refl _ _)).cell (i := 1) rfl
  obtain ⟨D2, E2, hS2, hC2⟩ := DoAny (w := Z1) (B := Z1.heap.size) (CD1.out Z1 (Below.refl _ _)) HV1.out Hko.out (by have := HL1.out.1; omega) (by have := HL1.out.2; omega) (Nat.le_refl _)
  have HS2 := Lib.hid hS2
  have HC2 := Lib.hid hC2
  have HLO := Lib.hid (FO.out Z1 HBWZ1.out)
  clear hS2 hC2
  go_wp2_with (first
    | (show wpList _ _ _ (⟨some 37, _, _, _, _, _⟩ :: _) _ _
       refine QB.wpList_ld 45 rfl rfl HLO.out rfl ?_
       clear HLO)
    | fail)
  refine HC2.out.mono ?_
  rintro e Y2 ⟨v1, v2, rfl, hn, hb⟩
  obtain ⟨P2, a2, Q2, b2, rfl, rfl⟩ := hn.at.shape
  obtain ⟨Z2, hZ2⟩ : ∃ Z, Y2.alloc (.cells #[.slice P2 D2.ps.length a2, .slice Q2 D2.rs.length b2] 27) = Z := ⟨_, rfl⟩
  have hrd : Row Z2 Y2.heap.size [.slice P2 D2.ps.length a2, .slice Q2 D2.rs.length b2] 27 := hZ2 ▸ Row.new rfl rfl
  have hbz : Below Y2.heap.size Y2 Z2 := hZ2 ▸ (Below.refl _ Y2).alloc (Nat.le_refl _) _
  have hbx : Below Z1.heap.size Z1 Z2 := nextB hb (Nat.le_refl _) hbz
  have HRD := Lib.hid hrd
  have HCD := Lib.hid (show CAt Z2 Z2.heap.size (.slice P2 D2.ps.length a2) (.slice Q2 D2.rs.length b2) D2 from (hn.at.below hbz).more hbz.size)
  have GD2 := Lib.hid (fun w' (h : Below Z2.heap.size Z2 w') => (show Row w' Y2.heap.size [.slice P2 D2.ps.length a2, .slice Q2 D2.rs.length b2] 27 from HRD.out.below h HRD.out.lt))
  have CD2 := Lib.hid (fun w' (h : Below Z2.heap.size Z2 w') => (show CAt w' Z2.heap.size (.slice P2 D2.ps.length a2) (.slice Q2 D2.rs.length b2) D2 from HCD.out.below h))
  have HBWZ2 := Lib.hid (show Below W.heap.size W Z2 from nextB HBWZ1.out (Nat.le_refl _) hbx)
  have HBwZ2 := Lib.hid (show Below w.heap.size w Z2 from nextB HBwZ1.out (Nat.le_refl _) hbx)
  have HB1Z2 := Lib.hid (show Below Z1.heap.size Z1 Z2 from nextB (Below.refl _ _) (Nat.le_refl _) hbx)
  clear hZ1
  clear hrd hbz hbx hn hb HC2 HRD HCD k0 k1
  rcases HS1.out.twice HV.out HS2.out with ⟨hk3, rfl⟩ | ⟨hk3, rfl, e1, e2⟩
  · have hk1 : (o.kind == 1) = false := by simp; omega
    have hk11 : (o.kind != 1) = true := by simp; omega
    have ko := FKo.out Z2 HBWZ2.out
    rcases hk3 with hk3 | hk3
    all_goals
      rw [hk3] at ko
      clear hk3 hk1 hk11
      go_wp2
      go_ret
      exact ⟨rfl, HBwZ2.out⟩
  have hk33 : (o.kind == 3) = false := by simp; omega
  have hk35 : (o.kind == 5) = false := by simp; omega
  have ko := FKo.out Z2 HBWZ2.out
  have k0 := (GD1.out Z2 HB1Z2.out).cell (i := 0) rfl
  have k1 := (GD1.out Z2 HB1Z2.out).cell (i := 1) rfl
  have k2 := (GD2.out Z2 (Below.refl _ _)).cell (i := 0) rfl
  have k3 := (GD2.out Z2 (Below.refl _ _)).cell (i := 1) rfl
  have HKt := Lib.hid (Kit_any (w := Z2) (B := Z2.heap.size) ((CD1.out Z2 HB1Z2.out).more HB1Z2.out.size) (CD2.out Z2 (Below.refl _ _)) (by have := HL1.out.1; omega) (by have := HL1.out.2; omega) (Nat.le_refl _))
  rw [decide_eq_true e1, decide_eq_true e2, Bool.and_true] at HKt
  clear hk3 e1 e2
  go_wp2_with fail
  refine HKt.out.mono ?_
  rintro e K ⟨rfl, hbk⟩
  have HBWK := Lib.hid (show Below W.heap.size W K from nextB HBWZ2.out (Nat.le_refl _) hbk)
  have HBwK := Lib.hid (show Below w.heap.size w K from nextB HBwZ2.out (Nat.le_refl _) hbk)
  have HB1K := Lib.hid (show Below Z1.heap.size Z1 K from nextB HB1Z2.out (Nat.le_refl _) hbk)
  clear hbk k0 k1 k2 k3 ko hk33 hk35 HKt hZ2
  have ko := FKo.out K HBWK.out
  have kp := FKp.out K HBWK.out
  have io := FIo.out K HBWK.out
  have ip := FIp.out K HBWK.out
  by_cases h1 : o.kind = 1
  case neg =>
    have hk1 : (o.kind == 1) = false := by simpa using h1
    have hk11 : (o.kind != 1) = true := by simpa using h1
    clear h1
    go_wp2
    go_ret
    exact ⟨rfl, HBwK.out⟩
  case pos =>
  by_cases h2 : p.kind = 1
  case neg =>
    have hk1 : (p.kind == 1) = false := by simpa using h2
    have hk11 : (p.kind != 1) = true := by simpa using h2
    rw [h1] at ko
    clear h1 h2
    go_wp2
    go_ret
    exact ⟨rfl, HBwK.out⟩
  case pos =>
  rw [h1] at ko
  rw [h2] at kp
  have H12 := Lib.hid (And.intro h1 h2)
  clear h1 h2
  by_cases h3 : o.id = p.id
  case pos =>
    rw [h3] at io
    clear h3
    go_wp2
    go_ret
    exact ⟨rfl, HBwK.out⟩
  case neg =>
  have hi3 : (o.id == p.id) = false := by simpa using h3
  have H3 := Lib.hid h3
  clear h3
  have k0 := (GD1.out K HB1K.out).cell (i := 0) rfl
  have k1 := (GD1.out K HB1K.out).cell (i := 1) rfl
  obtain ⟨D3, E3, hS3, hC3⟩ := DoAny (w := K) (B := K.heap.size) ((CD1.out K HB1K.out).more HB1K.out.size) HV1.out Hkp.out (by have := HL1.out.1; omega) (by have := HL1.out.2; omega) (Nat.le_refl _)
  have HS3 := Lib.hid hS3
  have HC3 := Lib.hid hC3
  have HLO := Lib.hid (FQ.out K HBWK.out)
  clear hS3 hC3
  go_wp2_with (first
    | (show wpList _ _ _ (⟨some 85, _, _, _, _, _⟩ :: _) _ _
       refine QB.wpList_ld 45 rfl rfl HLO.out rfl ?_
       clear HLO)
    | fail)
  refine HC3.out.mono ?_
  rintro e Y3 ⟨v1, v2, rfl, hn, hb⟩
  obtain ⟨P3, a3, Q3, b3, rfl, rfl⟩ := hn.at.shape
  obtain ⟨Z3, hZ3⟩ : ∃ Z, Y3.alloc (.cells #[.slice P3 D3.ps.length a3, .slice Q3 D3.rs.length b3] 27) = Z := ⟨_, rfl⟩
  have hrd : Row Z3 Y3.heap.size [.slice P3 D3.ps.length a3, .slice Q3 D3.rs.length b3] 27 := hZ3 ▸ Row.new rfl rfl
  have hbz : Below Y3.heap.size Y3 Z3 := hZ3 ▸ (Below.refl _ Y3).alloc (Nat.le_refl _) _
  have hbx : Below K.heap.size K Z3 := nextB hb (Nat.le_refl _) hbz
  have HRD := Lib.hid hrd
  have HCD := Lib.hid (show CAt Z3 Z3.heap.size (.slice P3 D3.ps.length a3) (.slice Q3 D3.rs.length b3) D3 from (hn.at.below hbz).more hbz.size)
  have GD3 := Lib.hid (fun w' (h : Below Z3.heap.size Z3 w') => (show Row w' Y3.heap.size [.slice P3 D3.ps.length a3, .slice Q3 D3.rs.length b3] 27 from HRD.out.below h HRD.out.lt))
  have CD3 := Lib.hid (fun w' (h : Below Z3.heap.size Z3 w') => (show CAt w' Z3.heap.size (.slice P3 D3.ps.length a3) (.slice Q3 D3.rs.length b3) D3 from HCD.out.below h))
  have HBWZ3 := Lib.hid (show Below W.heap.size W Z3 from nextB HBWK.out (Nat.le_refl _) hbx)
  have HBwZ3 := Lib.hid (show Below w.heap.size w Z3 from nextB HBwK.out (Nat.le_refl _) hbx)
  clear ko kp io ip hi3
  clear hrd hbz hbx hn hb HC3 HRD HCD k0 k1
  have k0 := FP.out Z3 HBWZ3.out
  have k1 := FR.out Z3 HBWZ3.out
  obtain ⟨D4, E4, hS4, hC4⟩ := DoAny (w := Z3) (B := w.heap.size) (FCA.out Z3 HBWZ3.out) HV.out Hkp.out (by have := HN.out.1; omega) (by have := HN.out.2; omega) HBwZ3.out.size
  have HS4 := Lib.hid hS4
  have HC4 := Lib.hid hC4
  have HLO := Lib.hid (FQ.out Z3 HBWZ3.out)
  clear hS4 hC4
  go_wp2_with (first
    | (show wpList _ _ _ (⟨some 91, _, _, _, _, _⟩ :: _) _ _
       refine QB.wpList_ld 45 rfl rfl HLO.out rfl ?_
       clear HLO)
    | fail)
  refine HC4.out.mono ?_
  rintro e Y4 ⟨v1, v2, rfl, hn, hb⟩
  obtain ⟨P4, a4, Q4, b4, rfl, rfl⟩ := hn.at.shape
  obtain ⟨Z4, hZ4⟩ : ∃ Z, Y4.alloc (.cells #[.slice P4 D4.ps.length a4, .slice Q4 D4.rs.length b4] 27) = Z := ⟨_, rfl⟩
  have hrd : Row Z4 Y4.heap.size [.slice P4 D4.ps.length a4, .slice Q4 D4.rs.length b4] 27 := hZ4 ▸ Row.new rfl rfl
  have hbz : Below Y4.heap.size Y4 Z4 := hZ4 ▸ (Below.refl _ Y4).alloc (Nat.le_refl _) _
  have hbx : Below Z3.heap.size Z3 Z4 := nextB hb (Nat.le_refl _) hbz
  have HRD := Lib.hid hrd
  have HCD := Lib.hid (show CAt Z4 Z4.heap.size (.slice P4 D4.ps.length a4) (.slice Q4 D4.rs.length b4) D4 from (hn.at.below hbz).more hbz.size)
  have GD4 := Lib.hid (fun w' (h : Below Z4.heap.size Z4 w') => (show Row w' Y4.heap.size [.slice P4 D4.ps.length a4, .slice Q4 D4.rs.length b4] 27 from HRD.out.below h HRD.out.lt))
  have CD4 := Lib.hid (fun w' (h : Below Z4.heap.size Z4 w') => (show CAt w' Z4.heap.size (.slice P4 D4.ps.length a4) (.slice Q4 D4.rs.length b4) D4 from HCD.out.below h))
  have HBWZ4 := Lib.hid (show Below W.heap.size W Z4 from nextB HBWZ3.out (Nat.le_refl _) hbx)
  have HBwZ4 := Lib.hid (show Below w.heap.size w Z4 from nextB HBwZ3.out (Nat.le_refl _) hbx)
  have HB3Z4 := Lib.hid (show Below Z3.heap.size Z3 Z4 from nextB (Below.refl _ _) (Nat.le_refl _) hbx)
  clear hZ3
  clear hrd hbz hbx hn hb HC4 HRD HCD k0 k1
  have HL4 := Lib.hid (show D4.ps.length ≤ 41 ∧ D4.rs.length ≤ 41 by have := HS4.out.len HV.out; have := HN.out; omega)
  have HV4 := Lib.hid (HS4.out.val HV.out (by have := HN.out.1; omega) (by have := HN.out.2; omega))
  have k0 := (GD4.out Z4 (Below.refl _ _)).cell (i := 0) rfl
  have k1 := (GD4.out Z4 (Below.refl _ _)).cell (i := 1) rfl
  obtain ⟨D5, E5, hS5, hC5⟩ := DoAny (w := Z4) (B := Z4.heap.size) (CD4.out Z4 (Below.refl _ _)) HV4.out Hko.out (by have := HL4.out.1; omega) (by have := HL4.out.2; omega) (Nat.le_refl _)
  have HS5 := Lib.hid hS5
  have HC5 := Lib.hid hC5
  have HLO := Lib.hid (FO.out Z4 HBWZ4.out)
  clear hS5 hC5
  go_wp2_with (first
    | (show wpList _ _ _ (⟨some 97, _, _, _, _, _⟩ :: _) _ _
       refine QB.wpList_ld 45 rfl rfl HLO.out rfl ?_
       clear HLO)
    | fail)
  refine HC5.out.mono ?_
  rintro e Y5 ⟨v1, v2, rfl, hn, hb⟩
  obtain ⟨P5, a5, Q5, b5, rfl, rfl⟩ := hn.at.shape
  obtain ⟨Z5, hZ5⟩ : ∃ Z, Y5.alloc (.cells #[.slice P5 D5.ps.length a5, .slice Q5 D5.rs.length b5] 27) = Z := ⟨_, rfl⟩
  have hrd : Row Z5 Y5.heap.size [.slice P5 D5.ps.length a5, .slice Q5 D5.rs.length b5] 27 := hZ5 ▸ Row.new rfl rfl
  have hbz : Below Y5.heap.size Y5 Z5 := hZ5 ▸ (Below.refl _ Y5).alloc (Nat.le_refl _) _
  have hbx : Below Z4.heap.size Z4 Z5 := nextB hb (Nat.le_refl _) hbz
  have HRD := Lib.hid hrd
  have HCD := Lib.hid (show CAt Z5 Z5.heap.size (.slice P5 D5.ps.length a5) (.slice Q5 D5.rs.length b5) D5 from (hn.at.below hbz).more hbz.size)
  have GD5 := Lib.hid (fun w' (h : Below Z5.heap.size Z5 w') => (show Row w' Y5.heap.size [.slice P5 D5.ps.length a5, .slice Q5 D5.rs.length b5] 27 from HRD.out.below h HRD.out.lt))
  have CD5 := Lib.hid (fun w' (h : Below Z5.heap.size Z5 w') => (show CAt w' Z5.heap.size (.slice P5 D5.ps.length a5) (.slice Q5 D5.rs.length b5) D5 from HCD.out.below h))
  have HBWZ5 := Lib.hid (show Below W.heap.size W Z5 from nextB HBWZ4.out (Nat.le_refl _) hbx)
  have HBwZ5 := Lib.hid (show Below w.heap.size w Z5 from nextB HBwZ4.out (Nat.le_refl _) hbx)
  have HB3Z5 := Lib.hid (show Below Z3.heap.size Z3 Z5 from nextB HB3Z4.out (Nat.le_refl _) hbx)
  clear hZ4
  clear hrd hbz hbx hn hb HC5 HRD HCD k0 k1
  by_cases h3 : E3 = 0
  case neg =>
    have hE1 : (E3 == 0) = false := by simpa using h3
    have hE2 : (E3 != 0) = true := by simpa using h3
    clear h3
    go_wp2
    go_ret
    exact ⟨rfl, HBwZ5.out⟩
  case pos =>
  by_cases h4 : E4 = 0
  case neg =>
    have hE1 : (E4 == 0) = false := by simpa using h4
    have hE2 : (E4 != 0) = true := by simpa using h4
    subst h3
    clear h4
    go_wp2
    go_ret
    exact ⟨rfl, HBwZ5.out⟩
  case pos =>
  by_cases h5 : E5 = 0
  case neg =>
    have hE1 : (E5 == 0) = false := by simpa using h5
    have hE2 : (E5 != 0) = true := by simpa using h5
    subst h3 h4
    clear h5
    go_wp2
    go_ret
    exact ⟨rfl, HBwZ5.out⟩
  case pos =>
  subst h3 h4 h5
  have hsw := Step.swap HV.out H12.out.1 H12.out.2 H3.out HS1.out HS3.out HS4.out HS5.out
  have k0 := (GD3.out Z5 HB3Z5.out).cell (i := 0) rfl
  have k1 := (GD3.out Z5 HB3Z5.out).cell (i := 1) rfl
  have k2 := (GD5.out Z5 (Below.refl _ _)).cell (i := 0) rfl
  have k3 := (GD5.out Z5 (Below.refl _ _)).cell (i := 1) rfl
  have HKt := Lib.hid (Kit_any (w := Z5) (B := Z5.heap.size) ((CD3.out Z5 HB3Z5.out).more HB3Z5.out.size) (CD5.out Z5 (Below.refl _ _)) (by have := HS3.out.len HV1.out; have := HL1.out; omega) (by have := HS3.out.len HV1.out; have := HL1.out; omega) (Nat.le_refl _))
  rw [decide_eq_true hsw.1, decide_eq_true hsw.2, Bool.and_true] at HKt
  clear hsw
  go_wp2_with fail
  refine HKt.out.mono ?_
  rintro e K2 ⟨rfl, hbk⟩
  have HBwK2 := Lib.hid (show Below w.heap.size w K2 from nextB HBwZ5.out (Nat.le_refl _) hbk)
  clear hbk k0 k1 k2 k3 HKt hZ5
  go_wp2
  go_ret
  exact ⟨rfl, HBwK2.out⟩

set_option maxRecDepth 100000 in
theorem lift (os : Os) (started : os.Started) (H : Type) (enc : TypeId × Value → H) :
    ReturnsInHanded {} Try.checked os 8 .any (Rows.configTwiceSpec.pre6 enc Try.prog Try.f8 Rows.configTwiceRow.domain false) (Rows.configTwiceSpec.post enc Try.prog Try.f8 false true false false) := by
  refine Law.lifted (C := Try.checked) 4 own started (by kernel_rfl) Try.func8 laid (by kernel_rfl) rfl Try.underlying4 rfl
    (fun ds hd => by
      have hd' : ds.length = 3 := hd
      match ds, hd' with
      | [d0, d1, d2], _ => rfl)
    (ChangeSpec.witness6 (enc := enc) (C := Try.checked) false ⟨#[], #[.agg #[.slice none 0 0, .slice none 0 0], (Opn.val ⟨0, 0, 0, zkey, 0, 0⟩), (Opn.val ⟨0, 0, 0, zkey, 0, 0⟩)], []⟩ 8 (by kernel_rfl) (by kernel_rfl) (by kernel_rfl) (by kernel_rfl)) ?_
  intro W args ds ps hst
  have hA : DataW.TrodAll enc Try.prog W 0 (fun _ => true) true Try.f8.params.toList args.toList ds ps := hst.trod
  have hok := hst.okw
  have hlt := hst.lt
  rw [Try.params8] at hA hok
  obtain ⟨v0, v1, v2, d0, d1, d2, p0, p1, p2, rfl, rfl, rfl, h0, h1, h2⟩ := trodAll_three hA
  obtain ⟨_, hv0⟩ := hok 0 27 v0 rfl rfl
  obtain ⟨_, hv1⟩ := hok 1 45 v1 rfl rfl
  obtain ⟨_, hv2⟩ := hok 2 45 v2 rfl rfl
  obtain ⟨vp, vr, c, rfl, hc, _⟩ := cfg_at hv0 h0 (fun x hx => hlt x (by simp [hx]))
  obtain ⟨o, rfl, hk, _⟩ := op_at hv1
  obtain ⟨p, rfl, hkp, _⟩ := op_at hv2
  exact walk hc hk hkp

theorem over : Rows.configTwiceRow.holds Try.pinned (OpenSpec.ofChange Rows.configTwiceSpec) :=
  OpenClaim.holds_of_wide 8 Try.f8 rfl rfl rfl rfl rfl rfl rfl ⟨rfl, rfl, rfl, rfl, rfl⟩ rfl rfl rfl rfl rfl (by kernel_rfl) Try.func8 (by kernel_rfl)
    (of_decide_eq_true (by kernel_rfl)) (by unfold Func.isWrapper; first | (rw [if_pos (by decide +kernel)]; kernel_rfl) | (rw [if_neg (by decide +kernel)]; exact ⟨rfl, rfl⟩))
    (fun os started H enc _ => lift os started H enc)
theorem proved : Rows.ConfigTwiceSaid := over
#print axioms proved
end Go.Proofs.Ytlphmbefcbhhpaa.cfgTwice
