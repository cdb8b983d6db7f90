/- What an operation does, and what it leaves alone: 'drawbridgelaw08.ConfigGoes', for every argument. -/
import Derived.Test.YtlphmbefcbhhpaaCfgGoesPure
import Derived.Test.YtlphmbefcbhhpaaCfgLives
import Derived.Test.YtlphmbefcbhhpaaLaw
namespace Go.Proofs.Ytlphmbefcbhhpaa.cfgGoes
open Go.ChangeShapes Go.WideShapes Go.ChangeAt Go.RowKit Go.Maps
open Cfg
theorem own : ownKnob Try.checked.prog.godebug = none := by kernel_rfl
theorem laid : laidOutB Try.checked.prog = true := by kernel_rfl
/-- The current configuration: the argument's, or one of one's own; its tables do not lie in block g. -/
def Cur (g : Nat) (w : World) (v1 v2 : Value) (c : Cf) : Prop := CAt w g v1 v2 c ∨ CNew w (g + 1) v1 v2 c
theorem Cur.at {g : Nat} {w : World} {v1 v2 : Value} {c : Cf} (h : Cur g w v1 v2 c) (hg : g ≤ w.heap.size) : CAt w w.heap.size v1 v2 c := by
  rcases h with h | h
  · exact h.more hg
  · exact h.at
theorem Cur.below {g : Nat} {w w' : World} {v1 v2 : Value} {c : Cf} (h : Cur g w v1 v2 c) (hg : g ≤ w.heap.size) (hb : Below w.heap.size w w') : Cur g w' v1 v2 c := by
  rcases h with h | h
  · exact .inl (h.below (hb.mono hg))
  · exact .inr (h.below hb)
theorem Cur.set {g i : Nat} {w : World} {v1 v2 v : Value} {c : Cf} (h : Cur g w v1 v2 c) : Cur g (w.setCell ⟨g, i, none⟩ v) v1 v2 c := by
  rcases h with h | h
  · exact .inl (h.below ((Below.refl g w).setCell (p := ⟨g, i, none⟩) (Nat.le_refl g) v))
  · exact .inr (h.setCell ⟨g, i, none⟩ (Nat.lt_succ_self g) v)
theorem step_zero {c d : Cf} {o : Opn} {E : Int} (h : Step c o d E) (hE : E ≠ 0) : d = ⟨[], []⟩ := by
  cases h <;> first | rfl | exact absurd rfl hE
theorem step_kind {c d : Cf} {o : Opn} (h : Step c o d 0) : o.kind = 1 ∨ o.kind = 2 ∨ o.kind = 3 ∨ o.kind = 4 ∨ o.kind = 5 := by
  cases h with
  | peer _ h => exact .inl h
  | off _ _ h => exact .inr (.inl h)
  | drop _ h => exact .inr (.inr (.inl h))
  | route _ h => exact .inr (.inr (.inr (.inl h)))
  | block _ h => exact .inr (.inr (.inr (.inr h)))
theorem l_mky {w : World} {g : Nat} {m : Mb} (h : Row w g m.cs 83) (hk : m.ky.length = 32) : (loadVar 43 ⟨g, 1, none⟩).run Try.prog w = .ok (arr8 m.ky) w := by
  rw [Pol.run_loadVar_sub (off := 1) (n := 32) w h Try.underlying43 rfl (by kernel_rfl) (by rw [Mb.len hk]; omega)]
  have : (m.cs.drop 1).take 32 = m.ky.map bv := by
    show ((m.ky.map bv ++ [.bool m.off]) : List Value).take 32 = _
    rw [List.take_append_of_le_length (by simp [hk]), List.take_of_length_le (by simp [hk])]
  rw [this]
  rfl
set_option maxRecDepth 100000 in
theorem g_key : Try.prog.eqGuardType Try.prog.depth 43 = false := by kernel_rfl
theorem eq_key (x : List UInt8) (hx : x.length = 32) (w : World) : (Op.equal 43 (.agg (x.map bv).toArray) (.agg (x.map bv).toArray)).run Try.prog w = .ok true w := by
  have := eqIn_key 9998 x x hx hx w
  rw [decide_eq_true rfl] at this
  exact this
set_option maxRecDepth 100000 in
set_option maxHeartbeats 8000000 in
theorem walk {w : World} {vp vr vo : Value} {c : Cf} {os : List Opn} (hc : CAt w w.heap.size vp vr c) (ho : OTab w w.heap.size vo os) : Calls Try.prog 6 #[.agg #[vp, vr], vo] w fun e w' => e = .returned (.bool true) ∧ Below w.heap.size w w' := by
  obtain ⟨A1, n1, A2, n2, rfl, rfl⟩ := hc.shape
  obtain ⟨A0, n0, rfl, _⟩ := (ho.2).shape
  obtain ⟨W0, hW0⟩ : ∃ W0, w.alloc (.cells #[.slice A1 c.ps.length n1, .slice A2 c.rs.length n2] 27) = W0 := ⟨_, rfl⟩
  have hb0 : Below w.heap.size w W0 := hW0 ▸ (Below.refl _ w).alloc (Nat.le_refl _) _
  have hr0 : Row W0 w.heap.size [.slice A1 c.ps.length n1, .slice A2 c.rs.length n2] 27 := hW0 ▸ Row.new rfl rfl
  have HR0 := Lib.hid hr0
  have HB0 := Lib.hid hb0
  have HC := Lib.hid hc
  have HO := Lib.hid ho
  clear hc ho hr0 hb0
  go_enter Try.func6, Try.ntmps6
  go_wp2_with fail
  refine (lives_any _).mono ?_
  rintro e W ⟨rfl, hb⟩
  have HB := Lib.hid hb
  have HL := Lib.hid (Light_any A1 A2 c.ps.length n1 c.rs.length n2 W)
  clear hb hW0
  have HBW := Lib.hid (show Below w.heap.size w W from nextB HB0.out (Nat.le_refl _) HB.out)
  have KR0 := Lib.hid (HR0.out.below HB.out HR0.out.lt)
  obtain ⟨g0, hg0⟩ : ∃ g, w.heap.size = g := ⟨_, rfl⟩
  have HRc := Lib.hid (show Row W g0 [.slice A1 c.ps.length n1, .slice A2 c.rs.length n2] 27 from hg0 ▸ KR0.out)
  have FP := Lib.hid (fun w' (h : Below W.heap.size W w') => (HRc.out.below h HRc.out.lt).cell (i := 0) rfl)
  have FR := Lib.hid (fun w' (h : Below W.heap.size W w') => (HRc.out.below h HRc.out.lt).cell (i := 1) rfl)
  have FCA := Lib.hid (fun w' (h : Below W.heap.size W w') => show CAt w' w.heap.size (.slice A1 c.ps.length n1) (.slice A2 c.rs.length n2) c from HC.out.below (nextB HBW.out (Nat.le_refl _) h))
  have HG0 := Lib.hid hg0
  obtain ⟨li, hli⟩ : ∃ li, (decide (c.ps.length ≤ 40) && decide (c.rs.length ≤ 40)) = li := ⟨_, rfl⟩
  rw [hli] at HL
  have HLI := Lib.hid hli
  rw [hg0]
  clear hli hg0 HR0 KR0 HB HB0
  have c0 := FP.out W (Below.refl _ _)
  have c1 := FR.out W (Below.refl _ _)
  go_wp2_with fail
  refine HL.out.mono ?_
  rintro e W3 ⟨rfl, hb3⟩
  have HB3 := Lib.hid hb3
  have HBw3 := Lib.hid (show Below w.heap.size w W3 from nextB HBW.out (Nat.le_refl _) hb3)
  clear hb3 HL c0 c1
  have c0 := FP.out W3 HB3.out
  have c1 := FR.out W3 HB3.out
  cases li with
  | false =>
    go_wp2
    go_ret
    exact ⟨rfl, HBw3.out⟩
  | true =>
  have HN := Lib.hid (show c.ps.length ≤ 40 ∧ c.rs.length ≤ 40 by have := HLI.out; simp only [Bool.and_eq_true, decide_eq_true_eq] at this; exact this)
  clear HLI
  by_cases ho40 : (40 : Int) < (os.length : Int)
  case pos =>
    have ho41 : decide ((40 : Int) < (os.length : Int)) = true := decide_eq_true ho40
    go_wp2
    go_ret
    exact ⟨rfl, HBw3.out⟩
  case neg =>
  have ho41 : decide ((40 : Int) < (os.length : Int)) = false := decide_eq_false ho40
  have HCh := Lib.hid (Check_any (w := W3) (B := w.heap.size) (FCA.out W3 HB3.out) HBw3.out.size)
  go_wp2_with fail
  refine HCh.out.mono ?_
  rintro e W4 ⟨rfl, hb4⟩
  have HBW4 := Lib.hid (show Below W.heap.size W W4 from nextB HB3.out (Nat.le_refl _) hb4)
  have HBw4 := Lib.hid (show Below w.heap.size w W4 from nextB HBw3.out (Nat.le_refl _) hb4)
  clear hb4 c0 c1 HCh HB3 HBw3 ho41
  by_cases hV : Val c
  case neg =>
    rw [show checkZ c = 2 from if_neg hV]
    clear hV
    go_wp2
    go_ret
    exact ⟨rfl, HBw4.out⟩
  case pos =>
  rw [show checkZ c = 0 from if_pos hV]
  have HV := Lib.hid hV
  have HLen := Lib.hid (show os.length ≤ 40 by omega)
  have HRw := Lib.hid (HRc.out.below HBW4.out HRc.out.lt)
  have HCw := Lib.hid (FCA.out W4 HBW4.out)
  clear hV ho40
  go_wp2
  go_loopw [5] (fun iv wr => ∃ (i : Nat) (C : Cf) (B1 B2 : Option Addr) (m1 m2 : Nat), i ≤ os.length ∧ iv = .int .i64 (i : Int) ∧ Hid (Row wr g0 [.slice B1 C.ps.length m1, .slice B2 C.rs.length m2] 27) ∧ Hid (Cur g0 wr (.slice B1 C.ps.length m1) (.slice B2 C.rs.length m2) C) ∧ Hid (Val C) ∧ Hid (C.rs.length ≤ 40 + i) ∧ Hid (Below w.heap.size w wr)) (fun iv _ => os.length - (intOf iv).toNat)
  case atStart => exact ⟨0, c, A1, A2, n1, n2, Nat.zero_le _, rfl, HRw, Lib.hid (.inl (HG0.out ▸ HCw.out)), HV, Lib.hid (by have := HN.out; omega), HBw4⟩
  case round =>
  obtain ⟨i, C, B1, B2, m1, m2, hi, rfl, HRg, HCu, HVC, HCl, HBr⟩ := hrel
  have hi2 : (i : Int) ≤ 40 := by have := HLen.out; omega
  clear HRw HCw HRc FP FR FCA HV HN
  by_cases hlt : i < os.length
  case neg =>
    have hlt' : ¬ (i : Int) < (os.length : Int) := by omega
    go_wp2
    go_ret
    exact ⟨rfl, HBr.out⟩
  case pos =>
  have hlt' : (i : Int) < (os.length : Int) := by omega
  obtain ⟨o, hoo⟩ : ∃ o, os[i]? = some o := ⟨_, List.getElem?_eq_getElem hlt⟩
  have Hko := Lib.hid (HO.out.1 o (List.mem_of_getElem? hoo))
  obtain ⟨b0, off, e, _, _, hl⟩ := OTab.at (HO.out.below HBr.out) hoo
  subst e
  have HLD := Lib.hid hl
  have Hz37 := Lib.hid (show (zop 0 0).cs.length = 37 from Opn.len zkey_len)
  have HGs := Lib.hid (show g0 ≤ wr.heap.size from HG0.out ▸ HBr.out.size)
  clear hoo hl
  go_wp2_with (first
    | (refine QB.wpList_ld 45 rfl rfl HLD.out rfl ?_)
    | (refine QB.wpList_alloc rfl 45 rfl zero_op ?_; intro W2 hr1 hb1; have HRn := Lib.hid (show Row W2 wr.heap.size (zop 0 0).cs 45 from hr1); have HBn := Lib.hid hb1; clear hr1 hb1)
    | (refine wpList_storeRow rfl 45 (.tmp 6) (.tmp 38) rfl rfl (cs := o.cs) rfl HRn.out (by kernel_rfl) (Opn.len Hko.out) Hz37.out o.one ?_
       refine QB.name fun X hX => ?_
       have HRo := Lib.hid (show Row X wr.heap.size o.cs 45 from hX ▸ HRn.out.setRow o.cs)
       have HBX := Lib.hid (show Below wr.heap.size wr X from hX ▸ below_setRow HBn.out (Nat.le_refl _) _)
       clear hX HRn HBn HLD
       refine Halt1.to ?_)
    | fail)
  unfold Halt1
  obtain ⟨gO, hgO⟩ : ∃ g, wr.heap.size = g := ⟨_, rfl⟩
  have HGO := Lib.hid hgO
  have HBwX := Lib.hid (show Below w.heap.size w X from nextB HBr.out (Nat.le_refl _) HBX.out)
  have HRo2 := Lib.hid (show Row X gO o.cs 45 from hgO ▸ HRo.out)
  have HRgX := Lib.hid (HRg.out.below HBX.out HRg.out.lt)
  have HCuX := Lib.hid (HCu.out.below HGs.out HBX.out)
  have HgX := Lib.hid (Nat.le_trans HGs.out HBX.out.size)
  rw [hgO]
  clear hgO HRo
  have FP := Lib.hid (fun w' (h : Below X.heap.size X w') => (HRgX.out.below h HRgX.out.lt).cell (i := 0) rfl)
  have FR := Lib.hid (fun w' (h : Below X.heap.size X w') => (HRgX.out.below h HRgX.out.lt).cell (i := 1) rfl)
  have FCu := Lib.hid (fun w' (h : Below X.heap.size X w') => show CAt w' X.heap.size (.slice B1 C.ps.length m1) (.slice B2 C.rs.length m2) C from (HCuX.out.at HgX.out).below h)
  have FO := Lib.hid (fun w' (h : Below X.heap.size X w') => l_op (HRo2.out.below h HRo2.out.lt) Hko.out)
  have FKo := Lib.hid (fun w' (h : Below X.heap.size X w') => (HRo2.out.below h HRo2.out.lt).cell (i := 0) rfl)
  have FIo := Lib.hid (fun w' (h : Below X.heap.size X w') => (HRo2.out.below h HRo2.out.lt).cell (i := 2) rfl)
  have FAo := Lib.hid (fun w' (h : Below X.heap.size X w') => (HRo2.out.below h HRo2.out.lt).cell (i := 35) (Opn.at35 Hko.out))
  have FBo := Lib.hid (fun w' (h : Below X.heap.size X w') => (HRo2.out.below h HRo2.out.lt).cell (i := 36) (Opn.at36 Hko.out))
  have FYo := Lib.hid (fun w' (h : Below X.heap.size X w') => l_key (HRo2.out.below h HRo2.out.lt) Hko.out)
  have k0 := FP.out X (Below.refl _ _)
  have k1 := FR.out X (Below.refl _ _)
  obtain ⟨D, E, hS, hC⟩ := DoAnyF (w := X) (B := X.heap.size) (FCu.out X (Below.refl _ _)) HVC.out Hko.out (by have := HCl.out; have := HLen.out; omega) (Nat.le_refl _)
  have HS := Lib.hid hS
  have HCd := Lib.hid hC
  have HLO := Lib.hid (FO.out X (Below.refl _ _))
  clear hS hC
  go_wp2_with (first
    | (show wpList _ _ _ (⟨some 41, _, _, _, _, _⟩ :: _) _ _
       refine QB.wpList_ld 45 rfl rfl HLO.out rfl ?_
       clear HLO)
    | fail)
  refine HCd.out.mono ?_
  rintro e Y ⟨v1, v2, rfl, hn, hb⟩
  obtain ⟨P1, a1, Q1, b1, rfl, rfl⟩ := hn.at.shape
  obtain ⟨Z, hZ⟩ : ∃ Z, Y.alloc (.cells #[.slice P1 D.ps.length a1, .slice Q1 D.rs.length b1] 27) = Z := ⟨_, rfl⟩
  have hrd : Row Z Y.heap.size [.slice P1 D.ps.length a1, .slice Q1 D.rs.length b1] 27 := hZ ▸ Row.new rfl rfl
  have hbz : Below Y.heap.size Y Z := hZ ▸ (Below.refl _ Y).alloc (Nat.le_refl _) _
  have hbx : Below X.heap.size X Z := nextB hb (Nat.le_refl _) hbz
  have HRD := Lib.hid hrd
  have HNw := Lib.hid (show CNew Z X.heap.size (.slice P1 D.ps.length a1) (.slice Q1 D.rs.length b1) D from hn.below hbz)
  have FD := Lib.hid (fun w' (h : Below Z.heap.size Z w') => (show Row w' Y.heap.size [.slice P1 D.ps.length a1, .slice Q1 D.rs.length b1] 27 from HRD.out.below h HRD.out.lt))
  have CD := Lib.hid (fun w' (h : Below Z.heap.size Z w') => (show CAt w' Z.heap.size (.slice P1 D.ps.length a1) (.slice Q1 D.rs.length b1) D from HNw.out.at.below h))
  have HBXZ := Lib.hid hbx
  have HBwZ := Lib.hid (show Below w.heap.size w Z from nextB HBwX.out (Nat.le_refl _) hbx)
  have HYg := Lib.hid (show X.heap.size ≤ Y.heap.size from hb.size)
  clear hrd hbz hbx hn hb HCd k0 k1 HRD
  by_cases hE : E = 0
  case neg =>
    have hE1 : (E == 0) = false := by simpa using hE
    have hE2 : (E != 0) = true := by simpa using hE
    have hD : D = ⟨[], []⟩ := by
      rcases HS.out with ⟨h, _⟩ | ⟨h, _⟩
      · exact step_zero h hE
      · exact h
    subst hD
    have k0 := (FD.out Z (Below.refl _ _)).cell (i := 0) rfl
    have k1 := (FD.out Z (Below.refl _ _)).cell (i := 1) rfl
    simp only [List.length_nil] at k0 k1 hZ
    clear hE
    go_wp2
    go_roundw
    case rel => exact ⟨i + 1, C, B1, B2, m1, m2, by omega, by simp, Lib.hid (HRgX.out.below HBXZ.out HRgX.out.lt), Lib.hid (HCuX.out.below HgX.out HBXZ.out), HVC, Lib.hid (by have := HCl.out; omega), HBwZ⟩
    case measure => simp [intOf]; omega
  case pos =>
  subst hE
  have HSt := Lib.hid (show Step C o D 0 by
    rcases HS.out with ⟨h, _⟩ | ⟨_, h⟩
    · exact h
    · cases h)
  have HVD := Lib.hid (show Val D by
    rcases HS.out with ⟨_, h⟩ | ⟨_, h⟩
    · exact h
    · cases h)
  clear HS
  have k0 := (FD.out Z (Below.refl _ _)).cell (i := 0) rfl
  have k1 := (FD.out Z (Below.refl _ _)).cell (i := 1) rfl
  have HCh := Lib.hid (Check_any (w := Z) (B := Z.heap.size) (CD.out Z (Below.refl _ _)) (Nat.le_refl _))
  rw [show checkZ D = 0 from if_pos HVD.out] at HCh
  go_wp2_with fail
  refine HCh.out.mono ?_
  rintro e Z2 ⟨rfl, hb⟩
  have HB2 := Lib.hid hb
  have HX2 := Lib.hid (show Below X.heap.size X Z2 from nextB HBXZ.out (Nat.le_refl _) hb)
  clear hb k0 k1 hZ HCh
  have k0 := FP.out Z2 HX2.out
  have k1 := FR.out Z2 HX2.out
  have k2 := (FD.out Z2 HB2.out).cell (i := 0) rfl
  have k3 := (FD.out Z2 HB2.out).cell (i := 1) rfl
  have HLO := Lib.hid (FO.out Z2 HX2.out)
  have HCr := Lib.hid (rest_any (w := Z2) (B := Z2.heap.size) ((FCu.out Z2 HX2.out).more HX2.out.size) ((CD.out Z2 HB2.out).more HB2.out.size) Hko.out (HSt.out.rest HVC.out).1 (by have := HVC.out.1; have := HVD.out.1; omega) (by have := HVC.out.2.1; have := HVD.out.2.1; omega) (by have := HVC.out.1; have := HVD.out.1; omega) (by have := HVC.out.2.1; have := HVD.out.2.1; omega) (Nat.le_refl _))
  go_wp2_with (first
    | (show wpList _ _ _ (⟨some 61, _, _, _, _, _⟩ :: _) _ _
       refine QB.wpList_ld 45 rfl rfl HLO.out rfl ?_
       clear HLO)
    | fail)
  refine HCr.out.mono ?_
  rintro e Z3 ⟨rfl, hb⟩
  have HB3 := Lib.hid (show Below Z.heap.size Z Z3 from nextB HB2.out (Nat.le_refl _) hb)
  have HX3 := Lib.hid (show Below X.heap.size X Z3 from nextB HX2.out (Nat.le_refl _) hb)
  clear hb k0 k1 k2 k3 HCr
  have k0 := FP.out Z3 HX3.out
  have k1 := FR.out Z3 HX3.out
  have k2 := (FD.out Z3 HB3.out).cell (i := 0) rfl
  have k3 := (FD.out Z3 HB3.out).cell (i := 1) rfl
  have HLO := Lib.hid (FO.out Z3 HX3.out)
  have HCr := Lib.hid (rest_any (w := Z3) (B := Z3.heap.size) ((CD.out Z3 HB3.out).more HB3.out.size) ((FCu.out Z3 HX3.out).more HX3.out.size) Hko.out (HSt.out.rest HVC.out).2 (by have := HVC.out.1; have := HVD.out.1; omega) (by have := HVC.out.2.1; have := HVD.out.2.1; omega) (by have := HVC.out.1; have := HVD.out.1; omega) (by have := HVC.out.2.1; have := HVD.out.2.1; omega) (Nat.le_refl _))
  go_wp2_with (first
    | (show wpList _ _ _ (⟨some 68, _, _, _, _, _⟩ :: _) _ _
       refine QB.wpList_ld 45 rfl rfl HLO.out rfl ?_
       clear HLO)
    | fail)
  refine HCr.out.mono ?_
  rintro e Z4 ⟨rfl, hb⟩
  have HB4 := Lib.hid (show Below Z.heap.size Z Z4 from nextB HB3.out (Nat.le_refl _) hb)
  have HX4 := Lib.hid (show Below X.heap.size X Z4 from nextB HX3.out (Nat.le_refl _) hb)
  clear hb k0 k1 k2 k3 HCr
  have k2 := (FD.out Z4 HB4.out).cell (i := 0) rfl
  have k3 := (FD.out Z4 HB4.out).cell (i := 1) rfl
  have io := FIo.out Z4 HX4.out
  obtain ⟨mm, hmm⟩ : ∃ mm, mem1 D.ps o.id = mm := ⟨_, rfl⟩
  obtain ⟨x, hx⟩ : ∃ x, mm.getD zmb = x := ⟨_, rfl⟩
  have Hxk := Lib.hid (show x.ky.length = 32 by
    rw [← hx]
    cases mm with
    | none => show zkey.length = 32; simp [zkey]
    | some m => exact (CD.out Z4 HB4.out).1.1 m (List.mem_of_find?_eq_some hmm))
  have HMem := Lib.hid (show Calls Try.prog 36 #[.agg #[.slice P1 D.ps.length a1, .slice Q1 D.rs.length b1], .int .i64 o.id] Z4 fun e w2 => e = .returned (.tuple #[x.val, .bool mm.isSome]) ∧ Below Z4.heap.size Z4 w2 from by
    have := Member_any (w := Z4) (B := Z.heap.size) (vr := .slice Q1 D.rs.length b1) (CD.out Z4 HB4.out).1 (by have := HVD.out.1; omega) rfl o.id HB4.out.size
    rw [hmm, hx] at this
    exact this)
  have HMM := Lib.hid hmm
  have HX0 := Lib.hid hx
  have Hz34 := Lib.hid (show (Mb.cs ⟨0, zkey, false⟩).length = 34 from Mb.len (by simp [zkey]))
  clear hmm hx
  go_wp2_with fail
  refine HMem.out.mono ?_
  rintro e Z5 ⟨rfl, hb⟩
  have HB5 := Lib.hid (show Below Z.heap.size Z Z5 from nextB HB4.out (Nat.le_refl _) hb)
  have HX5 := Lib.hid (show Below X.heap.size X Z5 from nextB HX4.out (Nat.le_refl _) hb)
  clear hb k2 k3 io HMem
  go_wp2_with (first
    | (show wpList _ _ _ (⟨some 9, _, _, _, _, _⟩ :: _) _ _
       refine QB.wpList_alloc rfl 83 rfl zero_mb ?_
       intro W2 hr1 hb1
       have HRn := Lib.hid (show Row W2 Z5.heap.size (Mb.cs ⟨0, zkey, false⟩) 83 from hr1)
       have HBn := Lib.hid hb1
       clear hr1 hb1
       refine wpList_storeRow rfl 83 (.tmp 9) (.tmp 77) rfl rfl (cs := x.cs) rfl HRn.out (by kernel_rfl) (Mb.len Hxk.out) Hz34.out x.one ?_
       refine QB.name fun V hV => ?_
       have HRx := Lib.hid (show Row V Z5.heap.size x.cs 83 from hV ▸ HRn.out.setRow x.cs)
       have hbV : Below Z5.heap.size Z5 V := hV ▸ below_setRow HBn.out (Nat.le_refl _) _
       have HB6 := Lib.hid (show Below Z.heap.size Z V from nextB HB5.out (Nat.le_refl _) hbV)
       have HX6 := Lib.hid (show Below X.heap.size X V from nextB HX5.out (Nat.le_refl _) hbV)
       clear hV hbV HRn HBn
       refine Halt1.to ?_)
    | fail)
  unfold Halt1
  obtain ⟨gX, hgX⟩ : ∃ g, Z5.heap.size = g := ⟨_, rfl⟩
  rw [hgX] at HRx
  rw [hgX]
  clear hgX
  have HRxV := Lib.hid HRx.out
  go_wp2
  go_loopw [11, 12] (fun nv jv wq => ∃ j : Nat, j ≤ D.rs.length ∧ jv = .int .i64 (j : Int) ∧ nv = .int .i64 ((cntR o (D.rs.take j) : Nat) : Int) ∧ Below V.heap.size V wq) (fun _ jv _ => D.rs.length - (intOf jv).toNat)
  case atStart => exact ⟨0, Nat.zero_le _, rfl, rfl, Below.refl _ _⟩
  case round =>
  obtain ⟨j, hj, rfl, rfl, hb⟩ := hrel
  have HBq := Lib.hid hb
  have HZq := Lib.hid (nextB HB6.out (Nat.le_refl _) hb)
  have HXq := Lib.hid (nextB HX6.out (Nat.le_refl _) hb)
  have HRxq := Lib.hid (HRxV.out.below hb HRxV.out.lt)
  clear hb
  obtain ⟨n, hn⟩ : ∃ n, cntR o (D.rs.take j) = n := ⟨_, rfl⟩
  rw [hn]
  have hn2 : (n : Int) ≤ 1000 := by have := cnt_le o (D.rs.take j); rw [hn, List.length_take] at this; have := HVD.out.2.1; omega
  have HNn := Lib.hid hn
  clear hn
  have hj2 : (j : Int) ≤ 1000 := by have := HVD.out.2.1; omega
  have k3 := (FD.out _ HZq.out).cell (i := 1) rfl
  by_cases hlt2 : j < D.rs.length
  case pos =>
    have hlt2' : (j : Int) < (D.rs.length : Int) := by omega
    obtain ⟨y, hy⟩ : ∃ y, D.rs[j]? = some y := ⟨_, List.getElem?_eq_getElem hlt2⟩
    obtain ⟨b2, off2, e, _, _, _⟩ := RTab.at (CD.out _ HZq.out).2 hy
    subst e
    have HY := Lib.hid hy
    have FT := Lib.hid (fun w' (h : Below Z.heap.size Z w') (q : Nat) (u : Value) (hq : y.cs[q]? = some u) => show w'.cell? ⟨b2, off2 + j * 3 + q, none⟩ = some u from by
      obtain ⟨b', off', e, _, hc, _⟩ := RTab.at (CD.out w' h).2 HY.out
      cases e
      exact hc q u hq)
    have FY0 := Lib.hid (fun w' (h : Below Z.heap.size Z w') => show w'.cell? ⟨b2, off2 + j * 3, none⟩ = some (.int .u32 y.addr) from FT.out w' h 0 _ rfl)
    have FY1 := Lib.hid (fun w' (h : Below Z.heap.size Z w') => show w'.cell? ⟨b2, off2 + j * 3 + 1, none⟩ = some (.int .i64 y.bits) from FT.out w' h 1 _ rfl)
    have FY2 := Lib.hid (fun w' (h : Below Z.heap.size Z w') => show w'.cell? ⟨b2, off2 + j * 3 + 2, none⟩ = some (.int .i64 y.peer) from FT.out w' h 2 _ rfl)
    clear hy FT
    by_cases ha : y.addr = o.addr
    case neg =>
      have HpR := Lib.hid (show pR o y = false by simp [pR, ha])
      have ha' : (y.addr == o.addr) = false := by simpa using ha
      clear ha
      go_wp2_with fail
      refine QB.region' mixed (by kernel_rfl) ?_
      refine QB.val' (v := ?_) (a' := ?_) (by kernel_rfl) (fun w' hw' => ?_) ?_ ?_
      rotate_left 2
      · go_simp <;> rfl
      · simp only [Act.put, List.setIfInBounds_toArray, List.set_cons_succ, List.set_cons_zero]; rfl
      refine QB.val' (v := ?_) (a' := ?_) (by kernel_rfl) (fun w' hw' => ?_) ?_ ?_
      rotate_left 2
      · have hc := (FD.out w' (nextB HZq.out (Nat.le_refl _) hw')).cell (i := 1) rfl; go_simp <;> rfl
      · simp only [Act.put, List.setIfInBounds_toArray, List.set_cons_succ, List.set_cons_zero]; rfl
      refine QB.val' (v := ?_) (a' := ?_) (by kernel_rfl) (fun w' hw' => ?_) ?_ ?_
      rotate_left 2
      · go_simp <;> rfl
      · simp only [Act.put, List.setIfInBounds_toArray, List.set_cons_succ, List.set_cons_zero]; rfl
      refine QB.val' (v := ?_) (a' := ?_) (by kernel_rfl) (fun w' hw' => ?_) ?_ ?_
      rotate_left 2
      · go_simp <;> rfl
      · simp only [Act.put, List.setIfInBounds_toArray, List.set_cons_succ, List.set_cons_zero]; rfl
      refine QB.val' (v := ?_) (a' := ?_) (by kernel_rfl) (fun w' hw' => ?_) ?_ ?_
      rotate_left 2
      · go_simp <;> rfl
      · simp only [Act.put, List.setIfInBounds_toArray, List.set_cons_succ, List.set_cons_zero]; rfl
      refine QB.val' (v := ?_) (a' := ?_) (by kernel_rfl) (fun w' hw' => ?_) ?_ ?_
      rotate_left 2
      · have hc := FY0.out w' (nextB HZq.out (Nat.le_refl _) hw'); go_simp <;> rfl
      · simp only [Act.put, List.setIfInBounds_toArray, List.set_cons_succ, List.set_cons_zero]; rfl
      refine QB.val' (v := ?_) (a' := ?_) (by kernel_rfl) (fun w' hw' => ?_) ?_ ?_
      rotate_left 2
      · go_simp <;> rfl
      · simp only [Act.put, List.setIfInBounds_toArray, List.set_cons_succ, List.set_cons_zero]; rfl
      refine QB.val' (v := ?_) (a' := ?_) (by kernel_rfl) (fun w' hw' => ?_) ?_ ?_
      rotate_left 2
      · have hc := FAo.out w' (nextB HXq.out (Nat.le_refl _) hw'); go_simp <;> rfl
      · simp only [Act.put, List.setIfInBounds_toArray, List.set_cons_succ, List.set_cons_zero]; rfl
      refine QB.val' (v := ?_) (a' := ?_) (by kernel_rfl) (fun w' hw' => ?_) ?_ ?_
      rotate_left 2
      · go_simp <;> rfl
      · simp only [Act.put, List.setIfInBounds_toArray, List.set_cons_succ, List.set_cons_zero]; rfl
      refine QB.val' (v := ?_) (a' := ?_) (by kernel_rfl) (fun w' hw' => ?_) ?_ ?_
      rotate_left 2
      · go_simp <;> rfl
      · simp only [Act.put, List.setIfInBounds_toArray, List.set_cons_succ, List.set_cons_zero]; rfl
      refine QB.no' (a' := ?_) (by kernel_rfl) ?_ ?_
      rotate_left
      · simp only [Act.put, List.setIfInBounds_toArray, List.set_cons_succ, List.set_cons_zero]; rfl
      refine QB.no' (a' := ?_) (by kernel_rfl) ?_ ?_
      rotate_left
      · simp only [Act.put, List.setIfInBounds_toArray, List.set_cons_succ, List.set_cons_zero]; rfl
      refine QB.no' (a' := ?_) (by kernel_rfl) ?_ ?_
      rotate_left
      · simp only [Act.put, List.setIfInBounds_toArray, List.set_cons_succ, List.set_cons_zero]; rfl
      refine QB.no' (a' := ?_) (by kernel_rfl) ?_ ?_
      rotate_left
      · simp only [Act.put, List.setIfInBounds_toArray, List.set_cons_succ, List.set_cons_zero]; rfl
      refine QB.no' (a' := ?_) (by kernel_rfl) ?_ ?_
      rotate_left
      · simp only [Act.put, List.setIfInBounds_toArray, List.set_cons_succ, List.set_cons_zero]; rfl
      refine QB.no' (a' := ?_) (by kernel_rfl) ?_ ?_
      rotate_left
      · simp only [Act.put, List.setIfInBounds_toArray, List.set_cons_succ, List.set_cons_zero]; rfl
      refine QB.no' (a' := ?_) (by kernel_rfl) ?_ ?_
      rotate_left
      · simp only [Act.put, List.setIfInBounds_toArray, List.set_cons_succ, List.set_cons_zero]; rfl
      refine QB.no' (a' := ?_) (by kernel_rfl) ?_ ?_
      rotate_left
      · simp only [Act.put, List.setIfInBounds_toArray, List.set_cons_succ, List.set_cons_zero]; rfl
      refine QB.no' (a' := ?_) (by kernel_rfl) ?_ ?_
      rotate_left
      · simp only [Act.put, List.setIfInBounds_toArray, List.set_cons_succ, List.set_cons_zero]; rfl
      refine QB.val' (v := ?_) (a' := ?_) (by kernel_rfl) (fun w' hw' => ?_) ?_ ?_
      rotate_left 2
      · go_simp <;> rfl
      · simp only [Act.put, List.setIfInBounds_toArray, List.set_cons_succ, List.set_cons_zero]; rfl
      refine QB.val' (v := ?_) (a' := ?_) (by kernel_rfl) (fun w' hw' => ?_) ?_ ?_
      rotate_left 2
      · go_simp <;> rfl
      · simp only [Act.put, List.setIfInBounds_toArray, List.set_cons_succ, List.set_cons_zero]; rfl
      refine QB.no' (a' := ?_) (by kernel_rfl) ?_ ?_
      rotate_left
      · simp only [Act.put, List.setIfInBounds_toArray, List.set_cons_succ, List.set_cons_zero]; rfl
      refine QB.no' (a' := ?_) (by kernel_rfl) ?_ ?_
      rotate_left
      · simp only [Act.put, List.setIfInBounds_toArray, List.set_cons_succ, List.set_cons_zero]; rfl
      refine QB.no' (a' := ?_) (by kernel_rfl) ?_ ?_
      rotate_left
      · simp only [Act.put, List.setIfInBounds_toArray, List.set_cons_succ, List.set_cons_zero]; rfl
      refine QB.no' (a' := ?_) (by kernel_rfl) ?_ ?_
      rotate_left
      · simp only [Act.put, List.setIfInBounds_toArray, List.set_cons_succ, List.set_cons_zero]; rfl
      refine QB.no' (a' := ?_) (by kernel_rfl) ?_ ?_
      rotate_left
      · simp only [Act.put, List.setIfInBounds_toArray, List.set_cons_succ, List.set_cons_zero]; rfl
      refine QB.no' (a' := ?_) (by kernel_rfl) ?_ ?_
      rotate_left
      · simp only [Act.put, List.setIfInBounds_toArray, List.set_cons_succ, List.set_cons_zero]; rfl
      refine QB.no' (a' := ?_) (by kernel_rfl) ?_ ?_
      rotate_left
      · simp only [Act.put, List.setIfInBounds_toArray, List.set_cons_succ, List.set_cons_zero]; rfl
      refine QB.no' (a' := ?_) (by kernel_rfl) ?_ ?_
      rotate_left
      · simp only [Act.put, List.setIfInBounds_toArray, List.set_cons_succ, List.set_cons_zero]; rfl
      refine QB.no' (a' := ?_) (by kernel_rfl) ?_ ?_
      rotate_left
      · simp only [Act.put, List.setIfInBounds_toArray, List.set_cons_succ, List.set_cons_zero]; rfl
      refine QB.no' (a' := ?_) (by kernel_rfl) ?_ ?_
      rotate_left
      · simp only [Act.put, List.setIfInBounds_toArray, List.set_cons_succ, List.set_cons_zero]; rfl
      refine QB.no' (a' := ?_) (by kernel_rfl) ?_ ?_
      rotate_left
      · simp only [Act.put, List.setIfInBounds_toArray, List.set_cons_succ, List.set_cons_zero]; rfl
      refine QB.no' (a' := ?_) (by kernel_rfl) ?_ ?_
      rotate_left
      · simp only [Act.put, List.setIfInBounds_toArray, List.set_cons_succ, List.set_cons_zero]; rfl
      refine QB.no' (a' := ?_) (by kernel_rfl) ?_ ?_
      rotate_left
      · simp only [Act.put, List.setIfInBounds_toArray, List.set_cons_succ, List.set_cons_zero]; rfl
      refine QB.no' (a' := ?_) (by kernel_rfl) ?_ ?_
      rotate_left
      · simp only [Act.put, List.setIfInBounds_toArray, List.set_cons_succ, List.set_cons_zero]; rfl
      refine QB.val' (v := ?_) (a' := ?_) (by kernel_rfl) (fun w' hw' => ?_) ?_ ?_
      rotate_left 2
      · go_simp <;> rfl
      · simp only [Act.put, List.setIfInBounds_toArray, List.set_cons_succ, List.set_cons_zero]; rfl
      refine QB.nil' fun w' hw' => ?_
      have HQ2 := Lib.hid (nextB HBq.out (Nat.le_refl _) hw')
      clear hw'
      go_wp2
      go_roundw
      case rel => exact ⟨j + 1, by omega, by simp, by rw [cnt_step HY.out, HNn.out, HpR.out]; simp, HQ2.out⟩
      case measure => simp [intOf]; omega
    case pos =>
    by_cases hbt : y.bits = o.bits
    case neg =>
      have HpR := Lib.hid (show pR o y = false by simp [pR, hbt])
      have hb' : (y.bits == o.bits) = false := by simpa using hbt
      rw [ha] at FY0
      clear ha hbt
      go_wp2_with fail
      refine QB.region' mixed (by kernel_rfl) ?_
      refine QB.val' (v := ?_) (a' := ?_) (by kernel_rfl) (fun w' hw' => ?_) ?_ ?_
      rotate_left 2
      · go_simp <;> rfl
      · simp only [Act.put, List.setIfInBounds_toArray, List.set_cons_succ, List.set_cons_zero]; rfl
      refine QB.val' (v := ?_) (a' := ?_) (by kernel_rfl) (fun w' hw' => ?_) ?_ ?_
      rotate_left 2
      · have hc := (FD.out w' (nextB HZq.out (Nat.le_refl _) hw')).cell (i := 1) rfl; go_simp <;> rfl
      · simp only [Act.put, List.setIfInBounds_toArray, List.set_cons_succ, List.set_cons_zero]; rfl
      refine QB.val' (v := ?_) (a' := ?_) (by kernel_rfl) (fun w' hw' => ?_) ?_ ?_
      rotate_left 2
      · go_simp <;> rfl
      · simp only [Act.put, List.setIfInBounds_toArray, List.set_cons_succ, List.set_cons_zero]; rfl
      refine QB.val' (v := ?_) (a' := ?_) (by kernel_rfl) (fun w' hw' => ?_) ?_ ?_
      rotate_left 2
      · go_simp <;> rfl
      · simp only [Act.put, List.setIfInBounds_toArray, List.set_cons_succ, List.set_cons_zero]; rfl
      refine QB.val' (v := ?_) (a' := ?_) (by kernel_rfl) (fun w' hw' => ?_) ?_ ?_
      rotate_left 2
      · go_simp <;> rfl
      · simp only [Act.put, List.setIfInBounds_toArray, List.set_cons_succ, List.set_cons_zero]; rfl
      refine QB.val' (v := ?_) (a' := ?_) (by kernel_rfl) (fun w' hw' => ?_) ?_ ?_
      rotate_left 2
      · have hc := FY0.out w' (nextB HZq.out (Nat.le_refl _) hw'); go_simp <;> rfl
      · simp only [Act.put, List.setIfInBounds_toArray, List.set_cons_succ, List.set_cons_zero]; rfl
      refine QB.val' (v := ?_) (a' := ?_) (by kernel_rfl) (fun w' hw' => ?_) ?_ ?_
      rotate_left 2
      · go_simp <;> rfl
      · simp only [Act.put, List.setIfInBounds_toArray, List.set_cons_succ, List.set_cons_zero]; rfl
      refine QB.val' (v := ?_) (a' := ?_) (by kernel_rfl) (fun w' hw' => ?_) ?_ ?_
      rotate_left 2
      · have hc := FAo.out w' (nextB HXq.out (Nat.le_refl _) hw'); go_simp <;> rfl
      · simp only [Act.put, List.setIfInBounds_toArray, List.set_cons_succ, List.set_cons_zero]; rfl
      refine QB.val' (v := ?_) (a' := ?_) (by kernel_rfl) (fun w' hw' => ?_) ?_ ?_
      rotate_left 2
      · go_simp <;> rfl
      · simp only [Act.put, List.setIfInBounds_toArray, List.set_cons_succ, List.set_cons_zero]; rfl
      refine QB.val' (v := ?_) (a' := ?_) (by kernel_rfl) (fun w' hw' => ?_) ?_ ?_
      rotate_left 2
      · go_simp <;> rfl
      · simp only [Act.put, List.setIfInBounds_toArray, List.set_cons_succ, List.set_cons_zero]; rfl
      refine QB.val' (v := ?_) (a' := ?_) (by kernel_rfl) (fun w' hw' => ?_) ?_ ?_
      rotate_left 2
      · go_simp <;> rfl
      · simp only [Act.put, List.setIfInBounds_toArray, List.set_cons_succ, List.set_cons_zero]; rfl
      refine QB.val' (v := ?_) (a' := ?_) (by kernel_rfl) (fun w' hw' => ?_) ?_ ?_
      rotate_left 2
      · have hc := (FD.out w' (nextB HZq.out (Nat.le_refl _) hw')).cell (i := 1) rfl; go_simp <;> rfl
      · simp only [Act.put, List.setIfInBounds_toArray, List.set_cons_succ, List.set_cons_zero]; rfl
      refine QB.val' (v := ?_) (a' := ?_) (by kernel_rfl) (fun w' hw' => ?_) ?_ ?_
      rotate_left 2
      · go_simp <;> rfl
      · simp only [Act.put, List.setIfInBounds_toArray, List.set_cons_succ, List.set_cons_zero]; rfl
      refine QB.val' (v := ?_) (a' := ?_) (by kernel_rfl) (fun w' hw' => ?_) ?_ ?_
      rotate_left 2
      · go_simp <;> rfl
      · simp only [Act.put, List.setIfInBounds_toArray, List.set_cons_succ, List.set_cons_zero]; rfl
      refine QB.val' (v := ?_) (a' := ?_) (by kernel_rfl) (fun w' hw' => ?_) ?_ ?_
      rotate_left 2
      · go_simp <;> rfl
      · simp only [Act.put, List.setIfInBounds_toArray, List.set_cons_succ, List.set_cons_zero]; rfl
      refine QB.val' (v := ?_) (a' := ?_) (by kernel_rfl) (fun w' hw' => ?_) ?_ ?_
      rotate_left 2
      · have hc := FY1.out w' (nextB HZq.out (Nat.le_refl _) hw'); go_simp <;> rfl
      · simp only [Act.put, List.setIfInBounds_toArray, List.set_cons_succ, List.set_cons_zero]; rfl
      refine QB.val' (v := ?_) (a' := ?_) (by kernel_rfl) (fun w' hw' => ?_) ?_ ?_
      rotate_left 2
      · go_simp <;> rfl
      · simp only [Act.put, List.setIfInBounds_toArray, List.set_cons_succ, List.set_cons_zero]; rfl
      refine QB.val' (v := ?_) (a' := ?_) (by kernel_rfl) (fun w' hw' => ?_) ?_ ?_
      rotate_left 2
      · have hc := FBo.out w' (nextB HXq.out (Nat.le_refl _) hw'); go_simp <;> rfl
      · simp only [Act.put, List.setIfInBounds_toArray, List.set_cons_succ, List.set_cons_zero]; rfl
      refine QB.val' (v := ?_) (a' := ?_) (by kernel_rfl) (fun w' hw' => ?_) ?_ ?_
      rotate_left 2
      · go_simp <;> rfl
      · simp only [Act.put, List.setIfInBounds_toArray, List.set_cons_succ, List.set_cons_zero]; rfl
      refine QB.val' (v := ?_) (a' := ?_) (by kernel_rfl) (fun w' hw' => ?_) ?_ ?_
      rotate_left 2
      · go_simp <;> rfl
      · simp only [Act.put, List.setIfInBounds_toArray, List.set_cons_succ, List.set_cons_zero]; rfl
      refine QB.val' (v := ?_) (a' := ?_) (by kernel_rfl) (fun w' hw' => ?_) ?_ ?_
      rotate_left 2
      · go_simp <;> rfl
      · simp only [Act.put, List.setIfInBounds_toArray, List.set_cons_succ, List.set_cons_zero]; rfl
      refine QB.no' (a' := ?_) (by kernel_rfl) ?_ ?_
      rotate_left
      · simp only [Act.put, List.setIfInBounds_toArray, List.set_cons_succ, List.set_cons_zero]; rfl
      refine QB.no' (a' := ?_) (by kernel_rfl) ?_ ?_
      rotate_left
      · simp only [Act.put, List.setIfInBounds_toArray, List.set_cons_succ, List.set_cons_zero]; rfl
      refine QB.no' (a' := ?_) (by kernel_rfl) ?_ ?_
      rotate_left
      · simp only [Act.put, List.setIfInBounds_toArray, List.set_cons_succ, List.set_cons_zero]; rfl
      refine QB.no' (a' := ?_) (by kernel_rfl) ?_ ?_
      rotate_left
      · simp only [Act.put, List.setIfInBounds_toArray, List.set_cons_succ, List.set_cons_zero]; rfl
      refine QB.no' (a' := ?_) (by kernel_rfl) ?_ ?_
      rotate_left
      · simp only [Act.put, List.setIfInBounds_toArray, List.set_cons_succ, List.set_cons_zero]; rfl
      refine QB.no' (a' := ?_) (by kernel_rfl) ?_ ?_
      rotate_left
      · simp only [Act.put, List.setIfInBounds_toArray, List.set_cons_succ, List.set_cons_zero]; rfl
      refine QB.no' (a' := ?_) (by kernel_rfl) ?_ ?_
      rotate_left
      · simp only [Act.put, List.setIfInBounds_toArray, List.set_cons_succ, List.set_cons_zero]; rfl
      refine QB.no' (a' := ?_) (by kernel_rfl) ?_ ?_
      rotate_left
      · simp only [Act.put, List.setIfInBounds_toArray, List.set_cons_succ, List.set_cons_zero]; rfl
      refine QB.no' (a' := ?_) (by kernel_rfl) ?_ ?_
      rotate_left
      · simp only [Act.put, List.setIfInBounds_toArray, List.set_cons_succ, List.set_cons_zero]; rfl
      refine QB.no' (a' := ?_) (by kernel_rfl) ?_ ?_
      rotate_left
      · simp only [Act.put, List.setIfInBounds_toArray, List.set_cons_succ, List.set_cons_zero]; rfl
      refine QB.no' (a' := ?_) (by kernel_rfl) ?_ ?_
      rotate_left
      · simp only [Act.put, List.setIfInBounds_toArray, List.set_cons_succ, List.set_cons_zero]; rfl
      refine QB.no' (a' := ?_) (by kernel_rfl) ?_ ?_
      rotate_left
      · simp only [Act.put, List.setIfInBounds_toArray, List.set_cons_succ, List.set_cons_zero]; rfl
      refine QB.no' (a' := ?_) (by kernel_rfl) ?_ ?_
      rotate_left
      · simp only [Act.put, List.setIfInBounds_toArray, List.set_cons_succ, List.set_cons_zero]; rfl
      refine QB.no' (a' := ?_) (by kernel_rfl) ?_ ?_
      rotate_left
      · simp only [Act.put, List.setIfInBounds_toArray, List.set_cons_succ, List.set_cons_zero]; rfl
      refine QB.val' (v := ?_) (a' := ?_) (by kernel_rfl) (fun w' hw' => ?_) ?_ ?_
      rotate_left 2
      · go_simp <;> rfl
      · simp only [Act.put, List.setIfInBounds_toArray, List.set_cons_succ, List.set_cons_zero]; rfl
      refine QB.nil' fun w' hw' => ?_
      have HQ2 := Lib.hid (nextB HBq.out (Nat.le_refl _) hw')
      clear hw'
      go_wp2
      go_roundw
      case rel => exact ⟨j + 1, by omega, by simp, by rw [cnt_step HY.out, HNn.out, HpR.out]; simp, HQ2.out⟩
      case measure => simp [intOf]; omega
    case pos =>
    by_cases h5 : o.kind = 5
    case pos =>
      have HpR := Lib.hid (show pR o y = true by simp [pR, ha, hbt, h5])
      have H5 := Lib.hid h5
      rw [ha] at FY0
      rw [hbt] at FY1
      clear ha hbt h5
      go_wp2_with fail
      refine QB.region' mixed (by kernel_rfl) ?_
      refine QB.val' (v := ?_) (a' := ?_) (by kernel_rfl) (fun w' hw' => ?_) ?_ ?_
      rotate_left 2
      · go_simp <;> rfl
      · simp only [Act.put, List.setIfInBounds_toArray, List.set_cons_succ, List.set_cons_zero]; rfl
      refine QB.val' (v := ?_) (a' := ?_) (by kernel_rfl) (fun w' hw' => ?_) ?_ ?_
      rotate_left 2
      · have hc := (FD.out w' (nextB HZq.out (Nat.le_refl _) hw')).cell (i := 1) rfl; go_simp <;> rfl
      · simp only [Act.put, List.setIfInBounds_toArray, List.set_cons_succ, List.set_cons_zero]; rfl
      refine QB.val' (v := ?_) (a' := ?_) (by kernel_rfl) (fun w' hw' => ?_) ?_ ?_
      rotate_left 2
      · go_simp <;> rfl
      · simp only [Act.put, List.setIfInBounds_toArray, List.set_cons_succ, List.set_cons_zero]; rfl
      refine QB.val' (v := ?_) (a' := ?_) (by kernel_rfl) (fun w' hw' => ?_) ?_ ?_
      rotate_left 2
      · go_simp <;> rfl
      · simp only [Act.put, List.setIfInBounds_toArray, List.set_cons_succ, List.set_cons_zero]; rfl
      refine QB.val' (v := ?_) (a' := ?_) (by kernel_rfl) (fun w' hw' => ?_) ?_ ?_
      rotate_left 2
      · go_simp <;> rfl
      · simp only [Act.put, List.setIfInBounds_toArray, List.set_cons_succ, List.set_cons_zero]; rfl
      refine QB.val' (v := ?_) (a' := ?_) (by kernel_rfl) (fun w' hw' => ?_) ?_ ?_
      rotate_left 2
      · have hc := FY0.out w' (nextB HZq.out (Nat.le_refl _) hw'); go_simp <;> rfl
      · simp only [Act.put, List.setIfInBounds_toArray, List.set_cons_succ, List.set_cons_zero]; rfl
      refine QB.val' (v := ?_) (a' := ?_) (by kernel_rfl) (fun w' hw' => ?_) ?_ ?_
      rotate_left 2
      · go_simp <;> rfl
      · simp only [Act.put, List.setIfInBounds_toArray, List.set_cons_succ, List.set_cons_zero]; rfl
      refine QB.val' (v := ?_) (a' := ?_) (by kernel_rfl) (fun w' hw' => ?_) ?_ ?_
      rotate_left 2
      · have hc := FAo.out w' (nextB HXq.out (Nat.le_refl _) hw'); go_simp <;> rfl
      · simp only [Act.put, List.setIfInBounds_toArray, List.set_cons_succ, List.set_cons_zero]; rfl
      refine QB.val' (v := ?_) (a' := ?_) (by kernel_rfl) (fun w' hw' => ?_) ?_ ?_
      rotate_left 2
      · go_simp <;> rfl
      · simp only [Act.put, List.setIfInBounds_toArray, List.set_cons_succ, List.set_cons_zero]; rfl
      refine QB.val' (v := ?_) (a' := ?_) (by kernel_rfl) (fun w' hw' => ?_) ?_ ?_
      rotate_left 2
      · go_simp <;> rfl
      · simp only [Act.put, List.setIfInBounds_toArray, List.set_cons_succ, List.set_cons_zero]; rfl
      refine QB.val' (v := ?_) (a' := ?_) (by kernel_rfl) (fun w' hw' => ?_) ?_ ?_
      rotate_left 2
      · go_simp <;> rfl
      · simp only [Act.put, List.setIfInBounds_toArray, List.set_cons_succ, List.set_cons_zero]; rfl
      refine QB.val' (v := ?_) (a' := ?_) (by kernel_rfl) (fun w' hw' => ?_) ?_ ?_
      rotate_left 2
      · have hc := (FD.out w' (nextB HZq.out (Nat.le_refl _) hw')).cell (i := 1) rfl; go_simp <;> rfl
      · simp only [Act.put, List.setIfInBounds_toArray, List.set_cons_succ, List.set_cons_zero]; rfl
      refine QB.val' (v := ?_) (a' := ?_) (by kernel_rfl) (fun w' hw' => ?_) ?_ ?_
      rotate_left 2
      · go_simp <;> rfl
      · simp only [Act.put, List.setIfInBounds_toArray, List.set_cons_succ, List.set_cons_zero]; rfl
      refine QB.val' (v := ?_) (a' := ?_) (by kernel_rfl) (fun w' hw' => ?_) ?_ ?_
      rotate_left 2
      · go_simp <;> rfl
      · simp only [Act.put, List.setIfInBounds_toArray, List.set_cons_succ, List.set_cons_zero]; rfl
      refine QB.val' (v := ?_) (a' := ?_) (by kernel_rfl) (fun w' hw' => ?_) ?_ ?_
      rotate_left 2
      · go_simp <;> rfl
      · simp only [Act.put, List.setIfInBounds_toArray, List.set_cons_succ, List.set_cons_zero]; rfl
      refine QB.val' (v := ?_) (a' := ?_) (by kernel_rfl) (fun w' hw' => ?_) ?_ ?_
      rotate_left 2
      · have hc := FY1.out w' (nextB HZq.out (Nat.le_refl _) hw'); go_simp <;> rfl
      · simp only [Act.put, List.setIfInBounds_toArray, List.set_cons_succ, List.set_cons_zero]; rfl
      refine QB.val' (v := ?_) (a' := ?_) (by kernel_rfl) (fun w' hw' => ?_) ?_ ?_
      rotate_left 2
      · go_simp <;> rfl
      · simp only [Act.put, List.setIfInBounds_toArray, List.set_cons_succ, List.set_cons_zero]; rfl
      refine QB.val' (v := ?_) (a' := ?_) (by kernel_rfl) (fun w' hw' => ?_) ?_ ?_
      rotate_left 2
      · have hc := FBo.out w' (nextB HXq.out (Nat.le_refl _) hw'); go_simp <;> rfl
      · simp only [Act.put, List.setIfInBounds_toArray, List.set_cons_succ, List.set_cons_zero]; rfl
      refine QB.val' (v := ?_) (a' := ?_) (by kernel_rfl) (fun w' hw' => ?_) ?_ ?_
      rotate_left 2
      · go_simp <;> rfl
      · simp only [Act.put, List.setIfInBounds_toArray, List.set_cons_succ, List.set_cons_zero]; rfl
      refine QB.val' (v := ?_) (a' := ?_) (by kernel_rfl) (fun w' hw' => ?_) ?_ ?_
      rotate_left 2
      · go_simp <;> rfl
      · simp only [Act.put, List.setIfInBounds_toArray, List.set_cons_succ, List.set_cons_zero]; rfl
      refine QB.val' (v := ?_) (a' := ?_) (by kernel_rfl) (fun w' hw' => ?_) ?_ ?_
      rotate_left 2
      · go_simp <;> rfl
      · simp only [Act.put, List.setIfInBounds_toArray, List.set_cons_succ, List.set_cons_zero]; rfl
      refine QB.val' (v := ?_) (a' := ?_) (by kernel_rfl) (fun w' hw' => ?_) ?_ ?_
      rotate_left 2
      · go_simp <;> rfl
      · simp only [Act.put, List.setIfInBounds_toArray, List.set_cons_succ, List.set_cons_zero]; rfl
      refine QB.val' (v := ?_) (a' := ?_) (by kernel_rfl) (fun w' hw' => ?_) ?_ ?_
      rotate_left 2
      · have hc := FKo.out w' (nextB HXq.out (Nat.le_refl _) hw'); rw [H5.out] at hc; go_simp <;> rfl
      · simp only [Act.put, List.setIfInBounds_toArray, List.set_cons_succ, List.set_cons_zero]; rfl
      refine QB.val' (v := ?_) (a' := ?_) (by kernel_rfl) (fun w' hw' => ?_) ?_ ?_
      rotate_left 2
      · go_simp <;> rfl
      · simp only [Act.put, List.setIfInBounds_toArray, List.set_cons_succ, List.set_cons_zero]; rfl
      refine QB.val' (v := ?_) (a' := ?_) (by kernel_rfl) (fun w' hw' => ?_) ?_ ?_
      rotate_left 2
      · go_simp <;> rfl
      · simp only [Act.put, List.setIfInBounds_toArray, List.set_cons_succ, List.set_cons_zero]; rfl
      refine QB.no' (a' := ?_) (by kernel_rfl) ?_ ?_
      rotate_left
      · simp only [Act.put, List.setIfInBounds_toArray, List.set_cons_succ, List.set_cons_zero]; rfl
      refine QB.no' (a' := ?_) (by kernel_rfl) ?_ ?_
      rotate_left
      · simp only [Act.put, List.setIfInBounds_toArray, List.set_cons_succ, List.set_cons_zero]; rfl
      refine QB.no' (a' := ?_) (by kernel_rfl) ?_ ?_
      rotate_left
      · simp only [Act.put, List.setIfInBounds_toArray, List.set_cons_succ, List.set_cons_zero]; rfl
      refine QB.no' (a' := ?_) (by kernel_rfl) ?_ ?_
      rotate_left
      · simp only [Act.put, List.setIfInBounds_toArray, List.set_cons_succ, List.set_cons_zero]; rfl
      refine QB.no' (a' := ?_) (by kernel_rfl) ?_ ?_
      rotate_left
      · simp only [Act.put, List.setIfInBounds_toArray, List.set_cons_succ, List.set_cons_zero]; rfl
      refine QB.no' (a' := ?_) (by kernel_rfl) ?_ ?_
      rotate_left
      · simp only [Act.put, List.setIfInBounds_toArray, List.set_cons_succ, List.set_cons_zero]; rfl
      refine QB.no' (a' := ?_) (by kernel_rfl) ?_ ?_
      rotate_left
      · simp only [Act.put, List.setIfInBounds_toArray, List.set_cons_succ, List.set_cons_zero]; rfl
      refine QB.no' (a' := ?_) (by kernel_rfl) ?_ ?_
      rotate_left
      · simp only [Act.put, List.setIfInBounds_toArray, List.set_cons_succ, List.set_cons_zero]; rfl
      refine QB.no' (a' := ?_) (by kernel_rfl) ?_ ?_
      rotate_left
      · simp only [Act.put, List.setIfInBounds_toArray, List.set_cons_succ, List.set_cons_zero]; rfl
      refine QB.val' (v := ?_) (a' := ?_) (by kernel_rfl) (fun w' hw' => ?_) ?_ ?_
      rotate_left 2
      · go_simp <;> rfl
      · simp only [Act.put, List.setIfInBounds_toArray, List.set_cons_succ, List.set_cons_zero]; rfl
      refine QB.val' (v := ?_) (a' := ?_) (by kernel_rfl) (fun w' hw' => ?_) ?_ ?_
      rotate_left 2
      · go_simp <;> rfl
      · simp only [Act.put, List.setIfInBounds_toArray, List.set_cons_succ, List.set_cons_zero]; rfl
      refine QB.nil' fun w' hw' => ?_
      have HQ2 := Lib.hid (nextB HBq.out (Nat.le_refl _) hw')
      clear hw'
      go_wp2
      go_roundw
      case rel => exact ⟨j + 1, by omega, by simp, by rw [cnt_step HY.out, HNn.out, HpR.out]; simp, HQ2.out⟩
      case measure => simp [intOf]; omega
    case neg =>
    have h5' : (o.kind == 5) = false := by simpa using h5
    by_cases hpe : y.peer = o.id
    case pos =>
      have HpR := Lib.hid (show pR o y = true by simp [pR, ha, hbt, hpe])
      rw [ha] at FY0
      rw [hbt] at FY1
      rw [hpe] at FY2
      clear ha hbt hpe h5
      go_wp2_with fail
      refine QB.region' mixed (by kernel_rfl) ?_
      refine QB.val' (v := ?_) (a' := ?_) (by kernel_rfl) (fun w' hw' => ?_) ?_ ?_
      rotate_left 2
      · go_simp <;> rfl
      · simp only [Act.put, List.setIfInBounds_toArray, List.set_cons_succ, List.set_cons_zero]; rfl
      refine QB.val' (v := ?_) (a' := ?_) (by kernel_rfl) (fun w' hw' => ?_) ?_ ?_
      rotate_left 2
      · have hc := (FD.out w' (nextB HZq.out (Nat.le_refl _) hw')).cell (i := 1) rfl; go_simp <;> rfl
      · simp only [Act.put, List.setIfInBounds_toArray, List.set_cons_succ, List.set_cons_zero]; rfl
      refine QB.val' (v := ?_) (a' := ?_) (by kernel_rfl) (fun w' hw' => ?_) ?_ ?_
      rotate_left 2
      · go_simp <;> rfl
      · simp only [Act.put, List.setIfInBounds_toArray, List.set_cons_succ, List.set_cons_zero]; rfl
      refine QB.val' (v := ?_) (a' := ?_) (by kernel_rfl) (fun w' hw' => ?_) ?_ ?_
      rotate_left 2
      · go_simp <;> rfl
      · simp only [Act.put, List.setIfInBounds_toArray, List.set_cons_succ, List.set_cons_zero]; rfl
      refine QB.val' (v := ?_) (a' := ?_) (by kernel_rfl) (fun w' hw' => ?_) ?_ ?_
      rotate_left 2
      · go_simp <;> rfl
      · simp only [Act.put, List.setIfInBounds_toArray, List.set_cons_succ, List.set_cons_zero]; rfl
      refine QB.val' (v := ?_) (a' := ?_) (by kernel_rfl) (fun w' hw' => ?_) ?_ ?_
      rotate_left 2
      · have hc := FY0.out w' (nextB HZq.out (Nat.le_refl _) hw'); go_simp <;> rfl
      · simp only [Act.put, List.setIfInBounds_toArray, List.set_cons_succ, List.set_cons_zero]; rfl
      refine QB.val' (v := ?_) (a' := ?_) (by kernel_rfl) (fun w' hw' => ?_) ?_ ?_
      rotate_left 2
      · go_simp <;> rfl
      · simp only [Act.put, List.setIfInBounds_toArray, List.set_cons_succ, List.set_cons_zero]; rfl
      refine QB.val' (v := ?_) (a' := ?_) (by kernel_rfl) (fun w' hw' => ?_) ?_ ?_
      rotate_left 2
      · have hc := FAo.out w' (nextB HXq.out (Nat.le_refl _) hw'); go_simp <;> rfl
      · simp only [Act.put, List.setIfInBounds_toArray, List.set_cons_succ, List.set_cons_zero]; rfl
      refine QB.val' (v := ?_) (a' := ?_) (by kernel_rfl) (fun w' hw' => ?_) ?_ ?_
      rotate_left 2
      · go_simp <;> rfl
      · simp only [Act.put, List.setIfInBounds_toArray, List.set_cons_succ, List.set_cons_zero]; rfl
      refine QB.val' (v := ?_) (a' := ?_) (by kernel_rfl) (fun w' hw' => ?_) ?_ ?_
      rotate_left 2
      · go_simp <;> rfl
      · simp only [Act.put, List.setIfInBounds_toArray, List.set_cons_succ, List.set_cons_zero]; rfl
      refine QB.val' (v := ?_) (a' := ?_) (by kernel_rfl) (fun w' hw' => ?_) ?_ ?_
      rotate_left 2
      · go_simp <;> rfl
      · simp only [Act.put, List.setIfInBounds_toArray, List.set_cons_succ, List.set_cons_zero]; rfl
      refine QB.val' (v := ?_) (a' := ?_) (by kernel_rfl) (fun w' hw' => ?_) ?_ ?_
      rotate_left 2
      · have hc := (FD.out w' (nextB HZq.out (Nat.le_refl _) hw')).cell (i := 1) rfl; go_simp <;> rfl
      · simp only [Act.put, List.setIfInBounds_toArray, List.set_cons_succ, List.set_cons_zero]; rfl
      refine QB.val' (v := ?_) (a' := ?_) (by kernel_rfl) (fun w' hw' => ?_) ?_ ?_
      rotate_left 2
      · go_simp <;> rfl
      · simp only [Act.put, List.setIfInBounds_toArray, List.set_cons_succ, List.set_cons_zero]; rfl
      refine QB.val' (v := ?_) (a' := ?_) (by kernel_rfl) (fun w' hw' => ?_) ?_ ?_
      rotate_left 2
      · go_simp <;> rfl
      · simp only [Act.put, List.setIfInBounds_toArray, List.set_cons_succ, List.set_cons_zero]; rfl
      refine QB.val' (v := ?_) (a' := ?_) (by kernel_rfl) (fun w' hw' => ?_) ?_ ?_
      rotate_left 2
      · go_simp <;> rfl
      · simp only [Act.put, List.setIfInBounds_toArray, List.set_cons_succ, List.set_cons_zero]; rfl
      refine QB.val' (v := ?_) (a' := ?_) (by kernel_rfl) (fun w' hw' => ?_) ?_ ?_
      rotate_left 2
      · have hc := FY1.out w' (nextB HZq.out (Nat.le_refl _) hw'); go_simp <;> rfl
      · simp only [Act.put, List.setIfInBounds_toArray, List.set_cons_succ, List.set_cons_zero]; rfl
      refine QB.val' (v := ?_) (a' := ?_) (by kernel_rfl) (fun w' hw' => ?_) ?_ ?_
      rotate_left 2
      · go_simp <;> rfl
      · simp only [Act.put, List.setIfInBounds_toArray, List.set_cons_succ, List.set_cons_zero]; rfl
      refine QB.val' (v := ?_) (a' := ?_) (by kernel_rfl) (fun w' hw' => ?_) ?_ ?_
      rotate_left 2
      · have hc := FBo.out w' (nextB HXq.out (Nat.le_refl _) hw'); go_simp <;> rfl
      · simp only [Act.put, List.setIfInBounds_toArray, List.set_cons_succ, List.set_cons_zero]; rfl
      refine QB.val' (v := ?_) (a' := ?_) (by kernel_rfl) (fun w' hw' => ?_) ?_ ?_
      rotate_left 2
      · go_simp <;> rfl
      · simp only [Act.put, List.setIfInBounds_toArray, List.set_cons_succ, List.set_cons_zero]; rfl
      refine QB.val' (v := ?_) (a' := ?_) (by kernel_rfl) (fun w' hw' => ?_) ?_ ?_
      rotate_left 2
      · go_simp <;> rfl
      · simp only [Act.put, List.setIfInBounds_toArray, List.set_cons_succ, List.set_cons_zero]; rfl
      refine QB.val' (v := ?_) (a' := ?_) (by kernel_rfl) (fun w' hw' => ?_) ?_ ?_
      rotate_left 2
      · go_simp <;> rfl
      · simp only [Act.put, List.setIfInBounds_toArray, List.set_cons_succ, List.set_cons_zero]; rfl
      refine QB.val' (v := ?_) (a' := ?_) (by kernel_rfl) (fun w' hw' => ?_) ?_ ?_
      rotate_left 2
      · go_simp <;> rfl
      · simp only [Act.put, List.setIfInBounds_toArray, List.set_cons_succ, List.set_cons_zero]; rfl
      refine QB.val' (v := ?_) (a' := ?_) (by kernel_rfl) (fun w' hw' => ?_) ?_ ?_
      rotate_left 2
      · have hc := FKo.out w' (nextB HXq.out (Nat.le_refl _) hw'); go_simp <;> rfl
      · simp only [Act.put, List.setIfInBounds_toArray, List.set_cons_succ, List.set_cons_zero]; rfl
      refine QB.val' (v := ?_) (a' := ?_) (by kernel_rfl) (fun w' hw' => ?_) ?_ ?_
      rotate_left 2
      · go_simp <;> rfl
      · simp only [Act.put, List.setIfInBounds_toArray, List.set_cons_succ, List.set_cons_zero]; rfl
      refine QB.val' (v := ?_) (a' := ?_) (by kernel_rfl) (fun w' hw' => ?_) ?_ ?_
      rotate_left 2
      · go_simp <;> rfl
      · simp only [Act.put, List.setIfInBounds_toArray, List.set_cons_succ, List.set_cons_zero]; rfl
      refine QB.val' (v := ?_) (a' := ?_) (by kernel_rfl) (fun w' hw' => ?_) ?_ ?_
      rotate_left 2
      · go_simp <;> rfl
      · simp only [Act.put, List.setIfInBounds_toArray, List.set_cons_succ, List.set_cons_zero]; rfl
      refine QB.val' (v := ?_) (a' := ?_) (by kernel_rfl) (fun w' hw' => ?_) ?_ ?_
      rotate_left 2
      · have hc := (FD.out w' (nextB HZq.out (Nat.le_refl _) hw')).cell (i := 1) rfl; go_simp <;> rfl
      · simp only [Act.put, List.setIfInBounds_toArray, List.set_cons_succ, List.set_cons_zero]; rfl
      refine QB.val' (v := ?_) (a' := ?_) (by kernel_rfl) (fun w' hw' => ?_) ?_ ?_
      rotate_left 2
      · go_simp <;> rfl
      · simp only [Act.put, List.setIfInBounds_toArray, List.set_cons_succ, List.set_cons_zero]; rfl
      refine QB.val' (v := ?_) (a' := ?_) (by kernel_rfl) (fun w' hw' => ?_) ?_ ?_
      rotate_left 2
      · go_simp <;> rfl
      · simp only [Act.put, List.setIfInBounds_toArray, List.set_cons_succ, List.set_cons_zero]; rfl
      refine QB.val' (v := ?_) (a' := ?_) (by kernel_rfl) (fun w' hw' => ?_) ?_ ?_
      rotate_left 2
      · go_simp <;> rfl
      · simp only [Act.put, List.setIfInBounds_toArray, List.set_cons_succ, List.set_cons_zero]; rfl
      refine QB.val' (v := ?_) (a' := ?_) (by kernel_rfl) (fun w' hw' => ?_) ?_ ?_
      rotate_left 2
      · have hc := FY2.out w' (nextB HZq.out (Nat.le_refl _) hw'); go_simp <;> rfl
      · simp only [Act.put, List.setIfInBounds_toArray, List.set_cons_succ, List.set_cons_zero]; rfl
      refine QB.val' (v := ?_) (a' := ?_) (by kernel_rfl) (fun w' hw' => ?_) ?_ ?_
      rotate_left 2
      · go_simp <;> rfl
      · simp only [Act.put, List.setIfInBounds_toArray, List.set_cons_succ, List.set_cons_zero]; rfl
      refine QB.val' (v := ?_) (a' := ?_) (by kernel_rfl) (fun w' hw' => ?_) ?_ ?_
      rotate_left 2
      · have hc := FIo.out w' (nextB HXq.out (Nat.le_refl _) hw'); go_simp <;> rfl
      · simp only [Act.put, List.setIfInBounds_toArray, List.set_cons_succ, List.set_cons_zero]; rfl
      refine QB.val' (v := ?_) (a' := ?_) (by kernel_rfl) (fun w' hw' => ?_) ?_ ?_
      rotate_left 2
      · go_simp <;> rfl
      · simp only [Act.put, List.setIfInBounds_toArray, List.set_cons_succ, List.set_cons_zero]; rfl
      refine QB.val' (v := ?_) (a' := ?_) (by kernel_rfl) (fun w' hw' => ?_) ?_ ?_
      rotate_left 2
      · go_simp <;> rfl
      · simp only [Act.put, List.setIfInBounds_toArray, List.set_cons_succ, List.set_cons_zero]; rfl
      refine QB.val' (v := ?_) (a' := ?_) (by kernel_rfl) (fun w' hw' => ?_) ?_ ?_
      rotate_left 2
      · go_simp <;> rfl
      · simp only [Act.put, List.setIfInBounds_toArray, List.set_cons_succ, List.set_cons_zero]; rfl
      refine QB.nil' fun w' hw' => ?_
      have HQ2 := Lib.hid (nextB HBq.out (Nat.le_refl _) hw')
      clear hw'
      go_wp2
      go_roundw
      case rel => exact ⟨j + 1, by omega, by simp, by rw [cnt_step HY.out, HNn.out, HpR.out]; simp, HQ2.out⟩
      case measure => simp [intOf]; omega
    case neg =>
      have HpR := Lib.hid (show pR o y = false by simp [pR, hpe, h5])
      have hp' : (y.peer == o.id) = false := by simpa using hpe
      rw [ha] at FY0
      rw [hbt] at FY1
      clear ha hbt hpe h5
      go_wp2_with fail
      refine QB.region' mixed (by kernel_rfl) ?_
      refine QB.val' (v := ?_) (a' := ?_) (by kernel_rfl) (fun w' hw' => ?_) ?_ ?_
      rotate_left 2
      · go_simp <;> rfl
      · simp only [Act.put, List.setIfInBounds_toArray, List.set_cons_succ, List.set_cons_zero]; rfl
      refine QB.val' (v := ?_) (a' := ?_) (by kernel_rfl) (fun w' hw' => ?_) ?_ ?_
      rotate_left 2
      · have hc := (FD.out w' (nextB HZq.out (Nat.le_refl _) hw')).cell (i := 1) rfl; go_simp <;> rfl
      · simp only [Act.put, List.setIfInBounds_toArray, List.set_cons_succ, List.set_cons_zero]; rfl
      refine QB.val' (v := ?_) (a' := ?_) (by kernel_rfl) (fun w' hw' => ?_) ?_ ?_
      rotate_left 2
      · go_simp <;> rfl
      · simp only [Act.put, List.setIfInBounds_toArray, List.set_cons_succ, List.set_cons_zero]; rfl
      refine QB.val' (v := ?_) (a' := ?_) (by kernel_rfl) (fun w' hw' => ?_) ?_ ?_
      rotate_left 2
      · go_simp <;> rfl
      · simp only [Act.put, List.setIfInBounds_toArray, List.set_cons_succ, List.set_cons_zero]; rfl
      refine QB.val' (v := ?_) (a' := ?_) (by kernel_rfl) (fun w' hw' => ?_) ?_ ?_
      rotate_left 2
      · go_simp <;> rfl
      · simp only [Act.put, List.setIfInBounds_toArray, List.set_cons_succ, List.set_cons_zero]; rfl
      refine QB.val' (v := ?_) (a' := ?_) (by kernel_rfl) (fun w' hw' => ?_) ?_ ?_
      rotate_left 2
      · have hc := FY0.out w' (nextB HZq.out (Nat.le_refl _) hw'); go_simp <;> rfl
      · simp only [Act.put, List.setIfInBounds_toArray, List.set_cons_succ, List.set_cons_zero]; rfl
      refine QB.val' (v := ?_) (a' := ?_) (by kernel_rfl) (fun w' hw' => ?_) ?_ ?_
      rotate_left 2
      · go_simp <;> rfl
      · simp only [Act.put, List.setIfInBounds_toArray, List.set_cons_succ, List.set_cons_zero]; rfl
      refine QB.val' (v := ?_) (a' := ?_) (by kernel_rfl) (fun w' hw' => ?_) ?_ ?_
      rotate_left 2
      · have hc := FAo.out w' (nextB HXq.out (Nat.le_refl _) hw'); go_simp <;> rfl
      · simp only [Act.put, List.setIfInBounds_toArray, List.set_cons_succ, List.set_cons_zero]; rfl
      refine QB.val' (v := ?_) (a' := ?_) (by kernel_rfl) (fun w' hw' => ?_) ?_ ?_
      rotate_left 2
      · go_simp <;> rfl
      · simp only [Act.put, List.setIfInBounds_toArray, List.set_cons_succ, List.set_cons_zero]; rfl
      refine QB.val' (v := ?_) (a' := ?_) (by kernel_rfl) (fun w' hw' => ?_) ?_ ?_
      rotate_left 2
      · go_simp <;> rfl
      · simp only [Act.put, List.setIfInBounds_toArray, List.set_cons_succ, List.set_cons_zero]; rfl
      refine QB.val' (v := ?_) (a' := ?_) (by kernel_rfl) (fun w' hw' => ?_) ?_ ?_
      rotate_left 2
      · go_simp <;> rfl
      · simp only [Act.put, List.setIfInBounds_toArray, List.set_cons_succ, List.set_cons_zero]; rfl
      refine QB.val' (v := ?_) (a' := ?_) (by kernel_rfl) (fun w' hw' => ?_) ?_ ?_
      rotate_left 2
      · have hc := (FD.out w' (nextB HZq.out (Nat.le_refl _) hw')).cell (i := 1) rfl; go_simp <;> rfl
      · simp only [Act.put, List.setIfInBounds_toArray, List.set_cons_succ, List.set_cons_zero]; rfl
      refine QB.val' (v := ?_) (a' := ?_) (by kernel_rfl) (fun w' hw' => ?_) ?_ ?_
      rotate_left 2
      · go_simp <;> rfl
      · simp only [Act.put, List.setIfInBounds_toArray, List.set_cons_succ, List.set_cons_zero]; rfl
      refine QB.val' (v := ?_) (a' := ?_) (by kernel_rfl) (fun w' hw' => ?_) ?_ ?_
      rotate_left 2
      · go_simp <;> rfl
      · simp only [Act.put, List.setIfInBounds_toArray, List.set_cons_succ, List.set_cons_zero]; rfl
      refine QB.val' (v := ?_) (a' := ?_) (by kernel_rfl) (fun w' hw' => ?_) ?_ ?_
      rotate_left 2
      · go_simp <;> rfl
      · simp only [Act.put, List.setIfInBounds_toArray, List.set_cons_succ, List.set_cons_zero]; rfl
      refine QB.val' (v := ?_) (a' := ?_) (by kernel_rfl) (fun w' hw' => ?_) ?_ ?_
      rotate_left 2
      · have hc := FY1.out w' (nextB HZq.out (Nat.le_refl _) hw'); go_simp <;> rfl
      · simp only [Act.put, List.setIfInBounds_toArray, List.set_cons_succ, List.set_cons_zero]; rfl
      refine QB.val' (v := ?_) (a' := ?_) (by kernel_rfl) (fun w' hw' => ?_) ?_ ?_
      rotate_left 2
      · go_simp <;> rfl
      · simp only [Act.put, List.setIfInBounds_toArray, List.set_cons_succ, List.set_cons_zero]; rfl
      refine QB.val' (v := ?_) (a' := ?_) (by kernel_rfl) (fun w' hw' => ?_) ?_ ?_
      rotate_left 2
      · have hc := FBo.out w' (nextB HXq.out (Nat.le_refl _) hw'); go_simp <;> rfl
      · simp only [Act.put, List.setIfInBounds_toArray, List.set_cons_succ, List.set_cons_zero]; rfl
      refine QB.val' (v := ?_) (a' := ?_) (by kernel_rfl) (fun w' hw' => ?_) ?_ ?_
      rotate_left 2
      · go_simp <;> rfl
      · simp only [Act.put, List.setIfInBounds_toArray, List.set_cons_succ, List.set_cons_zero]; rfl
      refine QB.val' (v := ?_) (a' := ?_) (by kernel_rfl) (fun w' hw' => ?_) ?_ ?_
      rotate_left 2
      · go_simp <;> rfl
      · simp only [Act.put, List.setIfInBounds_toArray, List.set_cons_succ, List.set_cons_zero]; rfl
      refine QB.val' (v := ?_) (a' := ?_) (by kernel_rfl) (fun w' hw' => ?_) ?_ ?_
      rotate_left 2
      · go_simp <;> rfl
      · simp only [Act.put, List.setIfInBounds_toArray, List.set_cons_succ, List.set_cons_zero]; rfl
      refine QB.val' (v := ?_) (a' := ?_) (by kernel_rfl) (fun w' hw' => ?_) ?_ ?_
      rotate_left 2
      · go_simp <;> rfl
      · simp only [Act.put, List.setIfInBounds_toArray, List.set_cons_succ, List.set_cons_zero]; rfl
      refine QB.val' (v := ?_) (a' := ?_) (by kernel_rfl) (fun w' hw' => ?_) ?_ ?_
      rotate_left 2
      · have hc := FKo.out w' (nextB HXq.out (Nat.le_refl _) hw'); go_simp <;> rfl
      · simp only [Act.put, List.setIfInBounds_toArray, List.set_cons_succ, List.set_cons_zero]; rfl
      refine QB.val' (v := ?_) (a' := ?_) (by kernel_rfl) (fun w' hw' => ?_) ?_ ?_
      rotate_left 2
      · go_simp <;> rfl
      · simp only [Act.put, List.setIfInBounds_toArray, List.set_cons_succ, List.set_cons_zero]; rfl
      refine QB.val' (v := ?_) (a' := ?_) (by kernel_rfl) (fun w' hw' => ?_) ?_ ?_
      rotate_left 2
      · go_simp <;> rfl
      · simp only [Act.put, List.setIfInBounds_toArray, List.set_cons_succ, List.set_cons_zero]; rfl
      refine QB.val' (v := ?_) (a' := ?_) (by kernel_rfl) (fun w' hw' => ?_) ?_ ?_
      rotate_left 2
      · go_simp <;> rfl
      · simp only [Act.put, List.setIfInBounds_toArray, List.set_cons_succ, List.set_cons_zero]; rfl
      refine QB.val' (v := ?_) (a' := ?_) (by kernel_rfl) (fun w' hw' => ?_) ?_ ?_
      rotate_left 2
      · have hc := (FD.out w' (nextB HZq.out (Nat.le_refl _) hw')).cell (i := 1) rfl; go_simp <;> rfl
      · simp only [Act.put, List.setIfInBounds_toArray, List.set_cons_succ, List.set_cons_zero]; rfl
      refine QB.val' (v := ?_) (a' := ?_) (by kernel_rfl) (fun w' hw' => ?_) ?_ ?_
      rotate_left 2
      · go_simp <;> rfl
      · simp only [Act.put, List.setIfInBounds_toArray, List.set_cons_succ, List.set_cons_zero]; rfl
      refine QB.val' (v := ?_) (a' := ?_) (by kernel_rfl) (fun w' hw' => ?_) ?_ ?_
      rotate_left 2
      · go_simp <;> rfl
      · simp only [Act.put, List.setIfInBounds_toArray, List.set_cons_succ, List.set_cons_zero]; rfl
      refine QB.val' (v := ?_) (a' := ?_) (by kernel_rfl) (fun w' hw' => ?_) ?_ ?_
      rotate_left 2
      · go_simp <;> rfl
      · simp only [Act.put, List.setIfInBounds_toArray, List.set_cons_succ, List.set_cons_zero]; rfl
      refine QB.val' (v := ?_) (a' := ?_) (by kernel_rfl) (fun w' hw' => ?_) ?_ ?_
      rotate_left 2
      · have hc := FY2.out w' (nextB HZq.out (Nat.le_refl _) hw'); go_simp <;> rfl
      · simp only [Act.put, List.setIfInBounds_toArray, List.set_cons_succ, List.set_cons_zero]; rfl
      refine QB.val' (v := ?_) (a' := ?_) (by kernel_rfl) (fun w' hw' => ?_) ?_ ?_
      rotate_left 2
      · go_simp <;> rfl
      · simp only [Act.put, List.setIfInBounds_toArray, List.set_cons_succ, List.set_cons_zero]; rfl
      refine QB.val' (v := ?_) (a' := ?_) (by kernel_rfl) (fun w' hw' => ?_) ?_ ?_
      rotate_left 2
      · have hc := FIo.out w' (nextB HXq.out (Nat.le_refl _) hw'); go_simp <;> rfl
      · simp only [Act.put, List.setIfInBounds_toArray, List.set_cons_succ, List.set_cons_zero]; rfl
      refine QB.val' (v := ?_) (a' := ?_) (by kernel_rfl) (fun w' hw' => ?_) ?_ ?_
      rotate_left 2
      · go_simp <;> rfl
      · simp only [Act.put, List.setIfInBounds_toArray, List.set_cons_succ, List.set_cons_zero]; rfl
      refine QB.val' (v := ?_) (a' := ?_) (by kernel_rfl) (fun w' hw' => ?_) ?_ ?_
      rotate_left 2
      · go_simp <;> rfl
      · simp only [Act.put, List.setIfInBounds_toArray, List.set_cons_succ, List.set_cons_zero]; rfl
      refine QB.val' (v := ?_) (a' := ?_) (by kernel_rfl) (fun w' hw' => ?_) ?_ ?_
      rotate_left 2
      · go_simp <;> rfl
      · simp only [Act.put, List.setIfInBounds_toArray, List.set_cons_succ, List.set_cons_zero]; rfl
      refine QB.nil' fun w' hw' => ?_
      have HQ2 := Lib.hid (nextB HBq.out (Nat.le_refl _) hw')
      clear hw'
      go_wp2
      go_roundw
      case rel => exact ⟨j + 1, by omega, by simp, by rw [cnt_step HY.out, HNn.out, HpR.out]; simp, HQ2.out⟩
      case measure => simp [intOf]; omega
  case neg =>
  have hlt2' : ¬ (j : Int) < (D.rs.length : Int) := by omega
  obtain rfl : j = D.rs.length := by omega
  have HNN := Lib.hid (show cntR o D.rs = n by have := HNn.out; rwa [List.take_length] at this)
  have hdone := HSt.out.done HVC.out
  have HRgq := Lib.hid (HRgX.out.below HXq.out HRgX.out.lt)
  have HCq := Lib.hid (show CNew _ (g0 + 1) (.slice P1 D.ps.length a1) (.slice Q1 D.rs.length b1) D from (HNw.out.below HZq.out).less (by have := HRo2.out.lt; have := HGs.out; have := HGO.out; omega))
  have HBwq := Lib.hid (nextB HBwX.out (Nat.le_refl _) HXq.out)
  have HDl := Lib.hid (show D.rs.length ≤ 40 + (i + 1) by have := (HSt.out.len HVC.out).2; have := HCl.out; omega)
  have ck := FKo.out _ HXq.out
  have k2 := (FD.out _ HZq.out).cell (i := 0) rfl
  have f0 := frozen_row HRgq.out 0
  have f1 := frozen_row HRgq.out 1
  have q0 := HRgq.out.cell (i := 0) rfl
  have q1 := HRgq.out.cell (i := 1) rfl
  have d33 := HRxq.out.cell (i := 33) (show x.cs[33]? = some (.bool x.off) by simp [Mb.cs, Hxk.out])
  have HLO := Lib.hid (FYo.out _ HXq.out)
  have HLM := Lib.hid (l_mky HRxq.out Hxk.out)
  rcases step_kind HSt.out with hk | hk | hk | hk | hk
  · obtain ⟨m, hm, hky, hoff⟩ := hdone.1 hk
    obtain rfl : mm = some m := HMM.out.symm.trans hm
    obtain rfl : m = x := HX0.out
    rw [hk] at ck
    rw [hoff] at d33
    rw [hky] at HLM
    have hgd := fun (p q : Operand) (W : World) => guard_of (t := 43) g_key .eql p q (o.ky.map bv).toArray (o.ky.map bv).toArray W
    have hne := fun (W : World) => eql_of (eq_key o.ky Hko.out W)
    replace hgd : ∀ (p q : Operand) (W : World), (eqGuard .eql 43 p q (arr8 o.ky) (arr8 o.ky)).run Try.prog W = .ok () W := hgd
    replace hne : ∀ W : World, (binOp .eql 43 (arr8 o.ky) (arr8 o.ky)).run Try.prog W = .ok (.bool true) W := hne
    simp only [Option.isSome_some]
    clear hm hky hoff hk hdone
    go_wp2_with (first
      | (show wpList _ _ _ (⟨some 131, _, _, _, _, _⟩ :: _) _ _
         refine QB.wpList_ld 43 rfl rfl HLM.out rfl ?_
         clear HLM)
      | (show wpList _ _ _ (⟨some 133, _, _, _, _, _⟩ :: _) _ _
         refine QB.wpList_ld 43 rfl rfl HLO.out rfl ?_
         clear HLO)
      | fail)
    go_roundw
    case rel =>
      exact ⟨i + 1, D, P1, Q1, a1, b1, by omega, by simp, Lib.hid ((HRgq.out.set 0 _).set 1 _), Lib.hid (.inr ((HCq.out.setCell ⟨g0, 0, none⟩ (Nat.lt_succ_self g0) _).setCell ⟨g0, 1, none⟩ (Nat.lt_succ_self g0) _)), HVD, HDl, Lib.hid ((HBwq.out.setCell (p := ⟨g0, 0, none⟩) (by have := HG0.out; simp; omega) _).setCell (p := ⟨g0, 1, none⟩) (by have := HG0.out; simp; omega) _)⟩
    case measure => simp [intOf]; omega
  · obtain ⟨m, hm, hoff⟩ := hdone.2.1 hk
    obtain rfl : mm = some m := HMM.out.symm.trans hm
    obtain rfl : m = x := HX0.out
    rw [hk] at ck
    rw [hoff] at d33
    simp only [Option.isSome_some]
    clear hm hoff hk hdone
    go_wp2
    go_roundw
    case rel =>
      exact ⟨i + 1, D, P1, Q1, a1, b1, by omega, by simp, Lib.hid ((HRgq.out.set 0 _).set 1 _), Lib.hid (.inr ((HCq.out.setCell ⟨g0, 0, none⟩ (Nat.lt_succ_self g0) _).setCell ⟨g0, 1, none⟩ (Nat.lt_succ_self g0) _)), HVD, HDl, Lib.hid ((HBwq.out.setCell (p := ⟨g0, 0, none⟩) (by have := HG0.out; simp; omega) _).setCell (p := ⟨g0, 1, none⟩) (by have := HG0.out; simp; omega) _)⟩
    case measure => simp [intOf]; omega
  · obtain rfl : mm = none := HMM.out.symm.trans (hdone.2.2.1 hk)
    rw [hk] at ck
    simp only [Option.isSome_none]
    clear hk hdone
    go_wp2
    go_roundw
    case rel =>
      exact ⟨i + 1, D, P1, Q1, a1, b1, by omega, by simp, Lib.hid ((HRgq.out.set 0 _).set 1 _), Lib.hid (.inr ((HCq.out.setCell ⟨g0, 0, none⟩ (Nat.lt_succ_self g0) _).setCell ⟨g0, 1, none⟩ (Nat.lt_succ_self g0) _)), HVD, HDl, Lib.hid ((HBwq.out.setCell (p := ⟨g0, 0, none⟩) (by have := HG0.out; simp; omega) _).setCell (p := ⟨g0, 1, none⟩) (by have := HG0.out; simp; omega) _)⟩
    case measure => simp [intOf]; omega
  · obtain rfl : n = 1 := HNN.out.symm.trans (hdone.2.2.2.1 hk)
    rw [hk] at ck
    clear hk hdone
    rw [show ((1 : Nat) : Int) = 1 from rfl]
    go_wp2
    go_roundw
    case rel =>
      exact ⟨i + 1, D, P1, Q1, a1, b1, by omega, by simp, Lib.hid ((HRgq.out.set 0 _).set 1 _), Lib.hid (.inr ((HCq.out.setCell ⟨g0, 0, none⟩ (Nat.lt_succ_self g0) _).setCell ⟨g0, 1, none⟩ (Nat.lt_succ_self g0) _)), HVD, HDl, Lib.hid ((HBwq.out.setCell (p := ⟨g0, 0, none⟩) (by have := HG0.out; simp; omega) _).setCell (p := ⟨g0, 1, none⟩) (by have := HG0.out; simp; omega) _)⟩
    case measure => simp [intOf]; omega
  · obtain rfl : n = 0 := HNN.out.symm.trans (hdone.2.2.2.2 hk)
    rw [hk] at ck
    clear hk hdone
    rw [show ((0 : Nat) : Int) = 0 from rfl]
    go_wp2
    go_roundw
    case rel =>
      exact ⟨i + 1, D, P1, Q1, a1, b1, by omega, by simp, Lib.hid ((HRgq.out.set 0 _).set 1 _), Lib.hid (.inr ((HCq.out.setCell ⟨g0, 0, none⟩ (Nat.lt_succ_self g0) _).setCell ⟨g0, 1, none⟩ (Nat.lt_succ_self g0) _)), HVD, HDl, Lib.hid ((HBwq.out.setCell (p := ⟨g0, 0, none⟩) (by have := HG0.out; simp; omega) _).setCell (p := ⟨g0, 1, none⟩) (by have := HG0.out; simp; omega) _)⟩
    case measure => simp [intOf]; omega

set_option maxRecDepth 100000 in
theorem lift (os : Os) (started : os.Started) (H : Type) (enc : TypeId × Value → H) :
    ReturnsInHanded {} Try.checked os 6 .any (Rows.configGoesSpec.pre6 enc Try.prog Try.f6 Rows.configGoesRow.domain false) (Rows.configGoesSpec.post enc Try.prog Try.f6 false true false false) := by
  refine Law.lifted (C := Try.checked) 4 own started (by kernel_rfl) Try.func6 laid (by kernel_rfl) rfl Try.underlying4 rfl
    (fun ds hd => by
      have hd' : ds.length = 2 := hd
      match ds, hd' with
      | [d0, d1], _ => rfl)
    (ChangeSpec.witness6 (enc := enc) (C := Try.checked) false ⟨#[], #[.agg #[.slice none 0 0, .slice none 0 0], .slice none 0 0], []⟩ 8 (by kernel_rfl) (by kernel_rfl) (by kernel_rfl) (by kernel_rfl)) ?_
  intro W args ds ps hst
  have hA : DataW.TrodAll enc Try.prog W 0 (fun _ => true) true Try.f6.params.toList args.toList ds ps := hst.trod
  have hok := hst.okw
  have hlt := hst.lt
  rw [Try.params6] at hA hok
  obtain ⟨v0, v1, d0, d1, p0, p1, rfl, rfl, rfl, h0, h1⟩ := trodAll_two hA
  obtain ⟨_, hv0⟩ := hok 0 27 v0 rfl rfl
  obtain ⟨_, hv1⟩ := hok 1 79 v1 rfl rfl
  obtain ⟨vp, vr, c, rfl, hc, _⟩ := cfg_at hv0 h0 (fun x hx => hlt x (by simp [hx]))
  obtain ⟨os', ho⟩ := ops_at hv1 h1 (fun x hx => hlt x (by simp [hx]))
  exact walk hc ho

theorem over : Rows.configGoesRow.holds Try.pinned (OpenSpec.ofChange Rows.configGoesSpec) :=
  OpenClaim.holds_of_wide 6 Try.f6 rfl rfl rfl rfl rfl rfl rfl ⟨rfl, rfl, rfl, rfl, rfl⟩ rfl rfl rfl rfl rfl (by kernel_rfl) Try.func6 (by kernel_rfl)
    (of_decide_eq_true (by kernel_rfl)) (by unfold Func.isWrapper; first | (rw [if_pos (by decide +kernel)]; kernel_rfl) | (rw [if_neg (by decide +kernel)]; exact ⟨rfl, rfl⟩))
    (fun os started H enc _ => lift os started H enc)
theorem proved : Rows.ConfigGoesSaid := over
#print axioms proved
end Go.Proofs.Ytlphmbefcbhhpaa.cfgGoes
