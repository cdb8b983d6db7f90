/- drawbridgekit's Config: are two configurations alike? -/
import Derived.Test.YtiogadhgbkpemaaCfgCheck
namespace Go.Proofs.Ytiogadhgbkpemaa.Cfg
open Go.RowKit
theorem list_ext_n {α : Type} {l m : List α} (hl : l.length = m.length) (h : ∀ t, t < l.length → l[t]? = m[t]?) : l = m := by
  apply List.ext_getElem?
  intro t
  by_cases ht : t < l.length
  · exact h t ht
  · rw [List.getElem?_eq_none (by omega), List.getElem?_eq_none (by omega)]

set_option maxRecDepth 100000 in
set_option maxHeartbeats 2000000 in
theorem eq1_any {w : World} {B : Nat} {v u : Value} {l m : List Mb} (ht : MTab w B v l) (hu : MTab w B u m) (hN : l.length ≤ 100000) (hN2 : m.length ≤ 100000) (hB : B ≤ w.heap.size) : Calls Try.prog 56 #[v, u] w fun e w' => e = .returned (.bool (decide (l = m))) ∧ Below w.heap.size w w' := by
  obtain ⟨A1, n1, rfl, _⟩ := (ht.2).shape
  obtain ⟨A2, n2, rfl, _⟩ := (hu.2).shape
  have HT := Lib.hid ht
  have HU := Lib.hid hu
  have HN := Lib.hid hN
  have HBw := Lib.hid hB
  obtain ⟨z, hz⟩ : ∃ z, decide (l = m) = z := ⟨_, rfl⟩
  rw [hz]
  have Hz := Lib.hid hz
  clear ht hu hN hB hz
  by_cases hl : l.length = m.length
  · have HL := Lib.hid hl
    rw [← hl]
    clear hl
    go_enter Try.func56, Try.ntmps56
    go_wp2
    go_loopw [13] (fun iv wr => ∃ i : Nat, i ≤ l.length ∧ iv = .int .i64 (i : Int) ∧ Below w.heap.size w wr ∧ Hid (∀ t, t < i → l[t]? = m[t]?)) (fun iv _ => l.length - (intOf iv).toNat)
    case atStart => exact ⟨0, Nat.zero_le _, rfl, Below.refl _ _, Lib.hid fun t ht => absurd ht (Nat.not_lt_zero _)⟩
    case round =>
      obtain ⟨i, hi, rfl, hb, I⟩ := hrel
      have HB := Lib.hid hb
      clear hb
      have hi2 : (i : Int) ≤ 100000 := by have := HN.out; omega
      by_cases hlt : i < l.length
      · have hlt' : (i : Int) < (l.length : Int) := by omega
        obtain ⟨x, hx⟩ : ∃ x, l[i]? = some x := ⟨_, List.getElem?_eq_getElem hlt⟩
        obtain ⟨y, hy⟩ : ∃ y, m[i]? = some y := ⟨_, List.getElem?_eq_getElem (by have := HL.out; omega)⟩
        have HX := Lib.hid hx
        have HY := Lib.hid hy
        have Hkx := Lib.hid (HT.out.1 x (List.mem_of_getElem? HX.out))
        have Hky := Lib.hid (HU.out.1 y (List.mem_of_getElem? HY.out))
        have FX0 := Lib.hid (fun w' (h : Below wr.heap.size wr w') => (HT.out.below ((HB.out.trans (h.mono HB.out.size)).mono HBw.out)).at HX.out)
        have FY0 := Lib.hid (fun w' (h : Below wr.heap.size wr w') => (HU.out.below ((HB.out.trans (h.mono HB.out.size)).mono HBw.out)).at HY.out)
        obtain ⟨b1, off1, e1, _, _, _⟩ := FX0.out wr (Below.refl _ _)
        obtain ⟨b2, off2, e2, _, _, _⟩ := FY0.out wr (Below.refl _ _)
        subst e1 e2
        have FX := Lib.hid (fun w' (h : Below wr.heap.size wr w') => by obtain ⟨_, _, e, _, _, hl⟩ := FX0.out w' h; cases e; exact hl)
        have FY := Lib.hid (fun w' (h : Below wr.heap.size wr w') => by obtain ⟨_, _, e, _, _, hl⟩ := FY0.out w' h; cases e; exact hl)
        have hgd := fun (p q : Operand) (W : World) => guard_of (t := 97) g_mb .neq p q x.cs.toArray y.cs.toArray W
        have hne := fun (W : World) => neq_of (eq_mb x y Hkx.out Hky.out W)
        replace hgd : ∀ (p q : Operand) (W : World), (eqGuard .neq 97 p q x.val y.val).run Try.prog W = .ok () W := hgd
        replace hne : ∀ W : World, (binOp .neq 97 x.val y.val).run Try.prog W = .ok (.bool (!decide (x = y))) W := hne
        clear FX0 FY0 hx hy
        cases hq : decide (x = y) with
        | false =>
          rw [hq] at hne
          obtain rfl : z = false := by
            rw [← Hz.out]
            refine decide_eq_false fun e => of_decide_eq_false hq ?_
            have h1 := HX.out
            rw [e, HY.out] at h1
            exact (Option.some.inj h1).symm
          clear hq
          simp only [Bool.not_false] at hne
          go_wp2_with fail
          refine QB.region' mixed (by kernel_rfl) ?_
          refine QB.val' (v := ?_) (a' := ?_) (by kernel_rfl) (fun w' hw' => ?_) ?_ ?_
          rotate_left 2
          · go_simp <;> rfl
          · simp only [Act.put, List.setIfInBounds_toArray, List.set_cons_succ, List.set_cons_zero]; rfl
          refine QB.val' (v := ?_) (a' := ?_) (by kernel_rfl) (fun w' hw' => ?_) ?_ ?_
          rotate_left 2
          · go_simp <;> rfl
          · simp only [Act.put, List.setIfInBounds_toArray, List.set_cons_succ, List.set_cons_zero]; rfl
          refine QB.val' (v := ?_) (a' := ?_) (by kernel_rfl) (fun w' hw' => ?_) ?_ ?_
          rotate_left 2
          · go_simp <;> rfl
          · simp only [Act.put, List.setIfInBounds_toArray, List.set_cons_succ, List.set_cons_zero]; rfl
          refine QB.ld' (a' := ?_) (by kernel_rfl) 97 rfl rfl (fun w' hw' => FX.out w' hw') ?_ ?_
          rotate_left
          · simp only [Act.put, List.setIfInBounds_toArray, List.set_cons_succ, List.set_cons_zero]; rfl
          refine QB.val' (v := ?_) (a' := ?_) (by kernel_rfl) (fun w' hw' => ?_) ?_ ?_
          rotate_left 2
          · go_simp <;> rfl
          · simp only [Act.put, List.setIfInBounds_toArray, List.set_cons_succ, List.set_cons_zero]; rfl
          refine QB.val' (v := ?_) (a' := ?_) (by kernel_rfl) (fun w' hw' => ?_) ?_ ?_
          rotate_left 2
          · go_simp <;> rfl
          · simp only [Act.put, List.setIfInBounds_toArray, List.set_cons_succ, List.set_cons_zero]; rfl
          refine QB.val' (v := ?_) (a' := ?_) (by kernel_rfl) (fun w' hw' => ?_) ?_ ?_
          rotate_left 2
          · go_simp <;> rfl
          · simp only [Act.put, List.setIfInBounds_toArray, List.set_cons_succ, List.set_cons_zero]; rfl
          refine QB.ld' (a' := ?_) (by kernel_rfl) 97 rfl rfl (fun w' hw' => FY.out w' hw') ?_ ?_
          rotate_left
          · simp only [Act.put, List.setIfInBounds_toArray, List.set_cons_succ, List.set_cons_zero]; rfl
          refine QB.val' (v := ?_) (a' := ?_) (by kernel_rfl) (fun w' hw' => ?_) ?_ ?_
          rotate_left 2
          · go_simp <;> rfl
          · simp only [Act.put, List.setIfInBounds_toArray, List.set_cons_succ, List.set_cons_zero]; rfl
          refine QB.nil' fun w' hw' => ?_
          have HW := Lib.hid (HB.out.trans (hw'.mono HB.out.size))
          clear hw'
          go_wp2
          go_ret
          exact ⟨rfl, HW.out⟩
        | true =>
          rw [hq] at hne
          have Hxy := Lib.hid (of_decide_eq_true hq)
          clear hq
          simp only [Bool.not_true] at hne
          go_wp2_with fail
          refine QB.region' mixed (by kernel_rfl) ?_
          refine QB.val' (v := ?_) (a' := ?_) (by kernel_rfl) (fun w' hw' => ?_) ?_ ?_
          rotate_left 2
          · go_simp <;> rfl
          · simp only [Act.put, List.setIfInBounds_toArray, List.set_cons_succ, List.set_cons_zero]; rfl
          refine QB.val' (v := ?_) (a' := ?_) (by kernel_rfl) (fun w' hw' => ?_) ?_ ?_
          rotate_left 2
          · go_simp <;> rfl
          · simp only [Act.put, List.setIfInBounds_toArray, List.set_cons_succ, List.set_cons_zero]; rfl
          refine QB.val' (v := ?_) (a' := ?_) (by kernel_rfl) (fun w' hw' => ?_) ?_ ?_
          rotate_left 2
          · go_simp <;> rfl
          · simp only [Act.put, List.setIfInBounds_toArray, List.set_cons_succ, List.set_cons_zero]; rfl
          refine QB.ld' (a' := ?_) (by kernel_rfl) 97 rfl rfl (fun w' hw' => FX.out w' hw') ?_ ?_
          rotate_left
          · simp only [Act.put, List.setIfInBounds_toArray, List.set_cons_succ, List.set_cons_zero]; rfl
          refine QB.val' (v := ?_) (a' := ?_) (by kernel_rfl) (fun w' hw' => ?_) ?_ ?_
          rotate_left 2
          · go_simp <;> rfl
          · simp only [Act.put, List.setIfInBounds_toArray, List.set_cons_succ, List.set_cons_zero]; rfl
          refine QB.val' (v := ?_) (a' := ?_) (by kernel_rfl) (fun w' hw' => ?_) ?_ ?_
          rotate_left 2
          · go_simp <;> rfl
          · simp only [Act.put, List.setIfInBounds_toArray, List.set_cons_succ, List.set_cons_zero]; rfl
          refine QB.val' (v := ?_) (a' := ?_) (by kernel_rfl) (fun w' hw' => ?_) ?_ ?_
          rotate_left 2
          · go_simp <;> rfl
          · simp only [Act.put, List.setIfInBounds_toArray, List.set_cons_succ, List.set_cons_zero]; rfl
          refine QB.ld' (a' := ?_) (by kernel_rfl) 97 rfl rfl (fun w' hw' => FY.out w' hw') ?_ ?_
          rotate_left
          · simp only [Act.put, List.setIfInBounds_toArray, List.set_cons_succ, List.set_cons_zero]; rfl
          refine QB.val' (v := ?_) (a' := ?_) (by kernel_rfl) (fun w' hw' => ?_) ?_ ?_
          rotate_left 2
          · go_simp <;> rfl
          · simp only [Act.put, List.setIfInBounds_toArray, List.set_cons_succ, List.set_cons_zero]; rfl
          refine QB.nil' fun w' hw' => ?_
          have HW := Lib.hid (HB.out.trans (hw'.mono HB.out.size))
          clear hw'
          go_wp2
          go_roundw
          case rel =>
            refine ⟨i + 1, by omega, by simp, HW.out, Lib.hid fun t ht => ?_⟩
            rcases Nat.lt_or_ge t i with h | h
            · exact I.out t h
            · obtain rfl : t = i := by omega
              rw [HX.out, HY.out, Hxy.out]
          case measure => simp [intOf]; omega
      · have hlt' : ¬ (i : Int) < (l.length : Int) := by omega
        obtain rfl : i = l.length := by omega
        obtain rfl : z = true := by rw [← Hz.out]; exact decide_eq_true (list_ext_n HL.out I.out)
        go_wp2
        go_ret
        exact ⟨rfl, HB.out⟩
  · have hl' : ((l.length : Int) == (m.length : Int)) = false := by simpa using fun e => hl (by omega)
    have hl2 : ¬ (l.length : Int) = (m.length : Int) := by omega
    obtain rfl : z = false := by rw [← Hz.out]; exact decide_eq_false fun e => hl (by rw [e])
    go_enter Try.func56, Try.ntmps56
    go_wp2
    go_ret
    exact ⟨rfl, Below.refl _ _⟩

set_option maxRecDepth 100000 in
set_option maxHeartbeats 2000000 in
theorem eq2_any {w : World} {B : Nat} {v u : Value} {l m : List Rt} (ht : RTab w B v l) (hu : RTab w B u m) (hN : l.length ≤ 100000) (hN2 : m.length ≤ 100000) (hB : B ≤ w.heap.size) : Calls Try.prog 57 #[v, u] w fun e w' => e = .returned (.bool (decide (l = m))) ∧ Below w.heap.size w w' := by
  obtain ⟨A1, n1, rfl, _⟩ := ((show Tab 3 w B v l.length (rcs l) from ht)).shape
  obtain ⟨A2, n2, rfl, _⟩ := ((show Tab 3 w B u m.length (rcs m) from hu)).shape
  have HT := Lib.hid ht
  have HU := Lib.hid hu
  have HN := Lib.hid hN
  have HBw := Lib.hid hB
  obtain ⟨z, hz⟩ : ∃ z, decide (l = m) = z := ⟨_, rfl⟩
  rw [hz]
  have Hz := Lib.hid hz
  clear ht hu hN hB hz
  by_cases hl : l.length = m.length
  · have HL := Lib.hid hl
    rw [← hl]
    clear hl
    go_enter Try.func57, Try.ntmps57
    go_wp2
    go_loopw [13] (fun iv wr => ∃ i : Nat, i ≤ l.length ∧ iv = .int .i64 (i : Int) ∧ Below w.heap.size w wr ∧ Hid (∀ t, t < i → l[t]? = m[t]?)) (fun iv _ => l.length - (intOf iv).toNat)
    case atStart => exact ⟨0, Nat.zero_le _, rfl, Below.refl _ _, Lib.hid fun t ht => absurd ht (Nat.not_lt_zero _)⟩
    case round =>
      obtain ⟨i, hi, rfl, hb, I⟩ := hrel
      have HB := Lib.hid hb
      clear hb
      have hi2 : (i : Int) ≤ 100000 := by have := HN.out; omega
      by_cases hlt : i < l.length
      · have hlt' : (i : Int) < (l.length : Int) := by omega
        obtain ⟨x, hx⟩ : ∃ x, l[i]? = some x := ⟨_, List.getElem?_eq_getElem hlt⟩
        obtain ⟨y, hy⟩ : ∃ y, m[i]? = some y := ⟨_, List.getElem?_eq_getElem (by have := HL.out; omega)⟩
        have HX := Lib.hid hx
        have HY := Lib.hid hy
        have FX0 := Lib.hid (fun w' (h : Below wr.heap.size wr w') => (HT.out.below ((HB.out.trans (h.mono HB.out.size)).mono HBw.out)).at HX.out)
        have FY0 := Lib.hid (fun w' (h : Below wr.heap.size wr w') => (HU.out.below ((HB.out.trans (h.mono HB.out.size)).mono HBw.out)).at HY.out)
        obtain ⟨b1, off1, e1, _, _, _⟩ := FX0.out wr (Below.refl _ _)
        obtain ⟨b2, off2, e2, _, _, _⟩ := FY0.out wr (Below.refl _ _)
        subst e1 e2
        have FX := Lib.hid (fun w' (h : Below wr.heap.size wr w') => by obtain ⟨_, _, e, _, _, hl⟩ := FX0.out w' h; cases e; exact hl)
        have FY := Lib.hid (fun w' (h : Below wr.heap.size wr w') => by obtain ⟨_, _, e, _, _, hl⟩ := FY0.out w' h; cases e; exact hl)
        have hgd := fun (p q : Operand) (W : World) => guard_of (t := 100) g_rt .neq p q x.cs.toArray y.cs.toArray W
        have hne := fun (W : World) => neq_of (eq_rt x y W)
        replace hgd : ∀ (p q : Operand) (W : World), (eqGuard .neq 100 p q x.val y.val).run Try.prog W = .ok () W := hgd
        replace hne : ∀ W : World, (binOp .neq 100 x.val y.val).run Try.prog W = .ok (.bool (!decide (x = y))) W := hne
        clear FX0 FY0 hx hy
        cases hq : decide (x = y) with
        | false =>
          rw [hq] at hne
          obtain rfl : z = false := by
            rw [← Hz.out]
            refine decide_eq_false fun e => of_decide_eq_false hq ?_
            have h1 := HX.out
            rw [e, HY.out] at h1
            exact (Option.some.inj h1).symm
          clear hq
          simp only [Bool.not_false] at hne
          go_wp2_with fail
          refine QB.region' mixed (by kernel_rfl) ?_
          refine QB.val' (v := ?_) (a' := ?_) (by kernel_rfl) (fun w' hw' => ?_) ?_ ?_
          rotate_left 2
          · go_simp <;> rfl
          · simp only [Act.put, List.setIfInBounds_toArray, List.set_cons_succ, List.set_cons_zero]; rfl
          refine QB.val' (v := ?_) (a' := ?_) (by kernel_rfl) (fun w' hw' => ?_) ?_ ?_
          rotate_left 2
          · go_simp <;> rfl
          · simp only [Act.put, List.setIfInBounds_toArray, List.set_cons_succ, List.set_cons_zero]; rfl
          refine QB.val' (v := ?_) (a' := ?_) (by kernel_rfl) (fun w' hw' => ?_) ?_ ?_
          rotate_left 2
          · go_simp <;> rfl
          · simp only [Act.put, List.setIfInBounds_toArray, List.set_cons_succ, List.set_cons_zero]; rfl
          refine QB.ld' (a' := ?_) (by kernel_rfl) 100 rfl rfl (fun w' hw' => FX.out w' hw') ?_ ?_
          rotate_left
          · simp only [Act.put, List.setIfInBounds_toArray, List.set_cons_succ, List.set_cons_zero]; rfl
          refine QB.val' (v := ?_) (a' := ?_) (by kernel_rfl) (fun w' hw' => ?_) ?_ ?_
          rotate_left 2
          · go_simp <;> rfl
          · simp only [Act.put, List.setIfInBounds_toArray, List.set_cons_succ, List.set_cons_zero]; rfl
          refine QB.val' (v := ?_) (a' := ?_) (by kernel_rfl) (fun w' hw' => ?_) ?_ ?_
          rotate_left 2
          · go_simp <;> rfl
          · simp only [Act.put, List.setIfInBounds_toArray, List.set_cons_succ, List.set_cons_zero]; rfl
          refine QB.val' (v := ?_) (a' := ?_) (by kernel_rfl) (fun w' hw' => ?_) ?_ ?_
          rotate_left 2
          · go_simp <;> rfl
          · simp only [Act.put, List.setIfInBounds_toArray, List.set_cons_succ, List.set_cons_zero]; rfl
          refine QB.ld' (a' := ?_) (by kernel_rfl) 100 rfl rfl (fun w' hw' => FY.out w' hw') ?_ ?_
          rotate_left
          · simp only [Act.put, List.setIfInBounds_toArray, List.set_cons_succ, List.set_cons_zero]; rfl
          refine QB.val' (v := ?_) (a' := ?_) (by kernel_rfl) (fun w' hw' => ?_) ?_ ?_
          rotate_left 2
          · go_simp <;> rfl
          · simp only [Act.put, List.setIfInBounds_toArray, List.set_cons_succ, List.set_cons_zero]; rfl
          refine QB.nil' fun w' hw' => ?_
          have HW := Lib.hid (HB.out.trans (hw'.mono HB.out.size))
          clear hw'
          go_wp2
          go_ret
          exact ⟨rfl, HW.out⟩
        | true =>
          rw [hq] at hne
          have Hxy := Lib.hid (of_decide_eq_true hq)
          clear hq
          simp only [Bool.not_true] at hne
          go_wp2_with fail
          refine QB.region' mixed (by kernel_rfl) ?_
          refine QB.val' (v := ?_) (a' := ?_) (by kernel_rfl) (fun w' hw' => ?_) ?_ ?_
          rotate_left 2
          · go_simp <;> rfl
          · simp only [Act.put, List.setIfInBounds_toArray, List.set_cons_succ, List.set_cons_zero]; rfl
          refine QB.val' (v := ?_) (a' := ?_) (by kernel_rfl) (fun w' hw' => ?_) ?_ ?_
          rotate_left 2
          · go_simp <;> rfl
          · simp only [Act.put, List.setIfInBounds_toArray, List.set_cons_succ, List.set_cons_zero]; rfl
          refine QB.val' (v := ?_) (a' := ?_) (by kernel_rfl) (fun w' hw' => ?_) ?_ ?_
          rotate_left 2
          · go_simp <;> rfl
          · simp only [Act.put, List.setIfInBounds_toArray, List.set_cons_succ, List.set_cons_zero]; rfl
          refine QB.ld' (a' := ?_) (by kernel_rfl) 100 rfl rfl (fun w' hw' => FX.out w' hw') ?_ ?_
          rotate_left
          · simp only [Act.put, List.setIfInBounds_toArray, List.set_cons_succ, List.set_cons_zero]; rfl
          refine QB.val' (v := ?_) (a' := ?_) (by kernel_rfl) (fun w' hw' => ?_) ?_ ?_
          rotate_left 2
          · go_simp <;> rfl
          · simp only [Act.put, List.setIfInBounds_toArray, List.set_cons_succ, List.set_cons_zero]; rfl
          refine QB.val' (v := ?_) (a' := ?_) (by kernel_rfl) (fun w' hw' => ?_) ?_ ?_
          rotate_left 2
          · go_simp <;> rfl
          · simp only [Act.put, List.setIfInBounds_toArray, List.set_cons_succ, List.set_cons_zero]; rfl
          refine QB.val' (v := ?_) (a' := ?_) (by kernel_rfl) (fun w' hw' => ?_) ?_ ?_
          rotate_left 2
          · go_simp <;> rfl
          · simp only [Act.put, List.setIfInBounds_toArray, List.set_cons_succ, List.set_cons_zero]; rfl
          refine QB.ld' (a' := ?_) (by kernel_rfl) 100 rfl rfl (fun w' hw' => FY.out w' hw') ?_ ?_
          rotate_left
          · simp only [Act.put, List.setIfInBounds_toArray, List.set_cons_succ, List.set_cons_zero]; rfl
          refine QB.val' (v := ?_) (a' := ?_) (by kernel_rfl) (fun w' hw' => ?_) ?_ ?_
          rotate_left 2
          · go_simp <;> rfl
          · simp only [Act.put, List.setIfInBounds_toArray, List.set_cons_succ, List.set_cons_zero]; rfl
          refine QB.nil' fun w' hw' => ?_
          have HW := Lib.hid (HB.out.trans (hw'.mono HB.out.size))
          clear hw'
          go_wp2
          go_roundw
          case rel =>
            refine ⟨i + 1, by omega, by simp, HW.out, Lib.hid fun t ht => ?_⟩
            rcases Nat.lt_or_ge t i with h | h
            · exact I.out t h
            · obtain rfl : t = i := by omega
              rw [HX.out, HY.out, Hxy.out]
          case measure => simp [intOf]; omega
      · have hlt' : ¬ (i : Int) < (l.length : Int) := by omega
        obtain rfl : i = l.length := by omega
        obtain rfl : z = true := by rw [← Hz.out]; exact decide_eq_true (list_ext_n HL.out I.out)
        go_wp2
        go_ret
        exact ⟨rfl, HB.out⟩
  · have hl' : ((l.length : Int) == (m.length : Int)) = false := by simpa using fun e => hl (by omega)
    have hl2 : ¬ (l.length : Int) = (m.length : Int) := by omega
    obtain rfl : z = false := by rw [← Hz.out]; exact decide_eq_false fun e => hl (by rw [e])
    go_enter Try.func57, Try.ntmps57
    go_wp2
    go_ret
    exact ⟨rfl, Below.refl _ _⟩

set_option maxRecDepth 100000 in
set_option maxHeartbeats 2000000 in
theorem Same_any {w : World} {B : Nat} {v1 v2 u1 u2 : Value} {c d : Cf} (hc : CAt w B v1 v2 c) (hd : CAt w B u1 u2 d) (h1 : c.ps.length ≤ 1000) (h2 : c.rs.length ≤ 1000) (h3 : d.ps.length ≤ 1000) (h4 : d.rs.length ≤ 1000) (hB : B ≤ w.heap.size) :
    Calls Try.prog 21 #[.agg #[v1, v2], .agg #[u1, u2]] w fun e w' => e = .returned (.bool (decide (c.ps = d.ps) && decide (c.rs = d.rs))) ∧ Below w.heap.size w w' := by
  obtain ⟨A1, n1, A2, n2, rfl, rfl⟩ := hc.shape
  obtain ⟨A3, n3, A4, n4, rfl, rfl⟩ := hd.shape
  obtain ⟨W1, hW1⟩ : ∃ W1, (w.alloc (.cells #[.slice A1 c.ps.length n1, .slice A2 c.rs.length n2] 27)).alloc (.cells #[.slice A3 d.ps.length n3, .slice A4 d.rs.length n4] 27) = W1 := ⟨_, rfl⟩
  have hb1 : Below w.heap.size w W1 := hW1 ▸ ((Below.refl _ w).alloc (Nat.le_refl _) _).alloc (by simp) _
  have hr0 : Row W1 w.heap.size [.slice A1 c.ps.length n1, .slice A2 c.rs.length n2] 27 := hW1 ▸ (Row.new rfl rfl : Row (w.alloc (.cells #[.slice A1 c.ps.length n1, .slice A2 c.rs.length n2] 27)) w.heap.size [.slice A1 c.ps.length n1, .slice A2 c.rs.length n2] 27).alloc _
  have hr1 : Row W1 (w.heap.size + 1) [.slice A3 d.ps.length n3, .slice A4 d.rs.length n4] 27 := hW1 ▸ Row.new (by simp) rfl
  have c0 := hr0.cell (i := 0) rfl
  have c1 := hr1.cell (i := 0) rfl
  have HR0 := Lib.hid hr0
  have HR1 := Lib.hid hr1
  have HB1 := Lib.hid hb1
  have HE1 := Lib.hid (eq1_any (w := W1) (B := B) (hc.1.below (hb1.mono hB)) (hd.1.below (hb1.mono hB)) (by omega) (by omega) (Nat.le_trans hB hb1.size))
  have HC := Lib.hid hc
  have HD := Lib.hid hd
  have HN := Lib.hid (And.intro h2 h4)
  have HBw := Lib.hid hB
  clear hc hd h1 h2 h3 h4 hB hb1 hr0 hr1
  go_enter Try.func21, Try.ntmps21
  go_wp2_with fail
  refine HE1.out.mono ?_
  rintro e W2 ⟨rfl, hb⟩
  have HB2 := Lib.hid (show Below w.heap.size w W2 from nextB HB1.out (Nat.le_refl _) hb)
  have d0 := (HR0.out.below hb HR0.out.lt).cell (i := 1) rfl
  have d1 := (HR1.out.below hb HR1.out.lt).cell (i := 1) rfl
  have HE2 := Lib.hid (eq2_any (w := W2) (B := B) (HC.out.2.below (HB2.out.mono HBw.out)) (HD.out.2.below (HB2.out.mono HBw.out)) (by have := HN.out; omega) (by have := HN.out; omega) (Nat.le_trans HBw.out HB2.out.size))
  clear hb c0 c1 hW1
  cases hq : decide (c.ps = d.ps) with
  | false =>
    go_wp2
    go_ret
    exact ⟨congrArg (fun b => Ending.returned (Value.bool b)) (show false = (decide (c.ps = d.ps) && decide (c.rs = d.rs)) by rw [hq, Bool.false_and]), HB2.out⟩
  | true =>
    go_wp2_with fail
    refine HE2.out.mono ?_
    rintro e W3 ⟨rfl, hb⟩
    have HB3 := Lib.hid (show Below w.heap.size w W3 from nextB HB2.out (Nat.le_refl _) hb)
    clear hb
    go_wp2
    go_ret
    exact ⟨congrArg (fun b => Ending.returned (Value.bool b)) (show decide (c.rs = d.rs) = (decide (c.ps = d.ps) && decide (c.rs = d.rs)) by rw [hq, Bool.true_and]), HB3.out⟩

end Go.Proofs.Ytiogadhgbkpemaa.Cfg
namespace Go.Proofs.Ytiogadhgbkpemaa.Cfg
open Go.RowKit
set_option maxRecDepth 100000 in
set_option maxHeartbeats 4000000 in
theorem Kit_any {w : World} {B : Nat} {v1 v2 u1 u2 : Value} {c d : Cf} (hc : CAt w B v1 v2 c) (hd : CAt w B u1 u2 d) (h1 : c.ps.length ≤ 1000) (h2 : c.rs.length ≤ 1000) (hB : B ≤ w.heap.size) :
    Calls Try.prog 20 #[.agg #[v1, v2], .agg #[u1, u2]] w fun e w' => e = .returned (.bool (decide (c.ps = d.ps) && decide (c.rs = d.rs))) ∧ Below w.heap.size w w' := by
  obtain ⟨A1, n1, A2, n2, rfl, rfl⟩ := hc.shape
  obtain ⟨A3, n3, A4, n4, rfl, rfl⟩ := hd.shape
  obtain ⟨z, hz⟩ : ∃ z, (decide (c.ps = d.ps) && decide (c.rs = d.rs)) = z := ⟨_, rfl⟩
  rw [hz]
  by_cases hl1 : c.ps.length = d.ps.length
  · rw [← hl1] at hd ⊢
    by_cases hl2 : c.rs.length = d.rs.length
    · rw [← hl2] at hd ⊢
      obtain ⟨W1, hW1⟩ : ∃ W1, (w.alloc (.cells #[.slice A1 c.ps.length n1, .slice A2 c.rs.length n2] 27)).alloc (.cells #[.slice A3 c.ps.length n3, .slice A4 c.rs.length n4] 27) = W1 := ⟨_, rfl⟩
      have hb1 : Below w.heap.size w W1 := hW1 ▸ ((Below.refl _ w).alloc (Nat.le_refl _) _).alloc (by simp) _
      have hr0 : Row W1 w.heap.size [.slice A1 c.ps.length n1, .slice A2 c.rs.length n2] 27 := hW1 ▸ (Row.new rfl rfl : Row (w.alloc (.cells #[.slice A1 c.ps.length n1, .slice A2 c.rs.length n2] 27)) w.heap.size [.slice A1 c.ps.length n1, .slice A2 c.rs.length n2] 27).alloc _
      have hr1 : Row W1 (w.heap.size + 1) [.slice A3 c.ps.length n3, .slice A4 c.rs.length n4] 27 := hW1 ▸ Row.new (by simp) rfl
      have c0 := hr0.cell (i := 0) rfl
      have c1 := hr0.cell (i := 1) rfl
      have d0 := hr1.cell (i := 0) rfl
      have d1 := hr1.cell (i := 1) rfl
      have HR0 := Lib.hid hr0
      have HR1 := Lib.hid hr1
      have HB1 := Lib.hid hb1
      have HC := Lib.hid hc
      have HD := Lib.hid hd
      have HN := Lib.hid (And.intro h1 h2)
      have HBw := Lib.hid hB
      have Hz := Lib.hid hz
      have HL1 := Lib.hid hl1
      have HL2 := Lib.hid hl2
      clear hc hd h1 h2 hB hb1 hr0 hr1 hz hl1 hl2
      go_enter Try.func20, Try.ntmps20
      go_wp2
      clear hW1 c0 c1 d0 d1
      go_loopw [5] (fun iv wr => ∃ i : Nat, i ≤ c.ps.length ∧ iv = .int .i64 (i : Int) ∧ Below W1.heap.size W1 wr ∧ Hid (∀ t, t < i → c.ps[t]? = d.ps[t]?)) (fun iv _ => c.ps.length - (intOf iv).toNat)
      case atStart => exact ⟨0, Nat.zero_le _, rfl, Below.refl _ _, Lib.hid fun t ht => absurd ht (Nat.not_lt_zero _)⟩
      case round =>
        obtain ⟨i, hi, rfl, hb, I⟩ := hrel
        have HB := Lib.hid hb
        clear hb
        have hi2 : (i : Int) ≤ 1000 := by have := HN.out; omega
        have k0 := (HR0.out.below HB.out HR0.out.lt).cell (i := 0) rfl
        have k1 := (HR0.out.below HB.out HR0.out.lt).cell (i := 1) rfl
        by_cases hlt : i < c.ps.length
        · have hlt' : (i : Int) < (c.ps.length : Int) := by omega
          obtain ⟨x, hx⟩ : ∃ x, c.ps[i]? = some x := ⟨_, List.getElem?_eq_getElem hlt⟩
          obtain ⟨y, hy⟩ : ∃ y, d.ps[i]? = some y := ⟨_, List.getElem?_eq_getElem (by have := HL1.out; omega)⟩
          have HX := Lib.hid hx
          have HY := Lib.hid hy
          have Hkx := Lib.hid (HC.out.1.1 x (List.mem_of_getElem? HX.out))
          have Hky := Lib.hid (HD.out.1.1 y (List.mem_of_getElem? HY.out))
          have FA := Lib.hid (fun w' (h : Below wr.heap.size wr w') => (HR0.out.below (HB.out.trans (h.mono HB.out.size)) HR0.out.lt).cell (i := 0) rfl)
          have FB := Lib.hid (fun w' (h : Below wr.heap.size wr w') => (HR1.out.below (HB.out.trans (h.mono HB.out.size)) HR1.out.lt).cell (i := 0) rfl)
          have FX0 := Lib.hid (fun w' (h : Below wr.heap.size wr w') => MTab.at (MTab.below HC.out.1 ((nextB HB1.out (Nat.le_refl _) (HB.out.trans (h.mono HB.out.size))).mono HBw.out)) HX.out)
          have FY0 := Lib.hid (fun w' (h : Below wr.heap.size wr w') => MTab.at (MTab.below HD.out.1 ((nextB HB1.out (Nat.le_refl _) (HB.out.trans (h.mono HB.out.size))).mono HBw.out)) HY.out)
          obtain ⟨b1, off1, e1, _, _, _⟩ := FX0.out wr (Below.refl _ _)
          obtain ⟨b2, off2, e2, _, _, _⟩ := FY0.out wr (Below.refl _ _)
          subst e1 e2
          have FX := Lib.hid (fun w' (h : Below wr.heap.size wr w') => by obtain ⟨_, _, e, _, _, hl⟩ := FX0.out w' h; cases e; exact hl)
          have FY := Lib.hid (fun w' (h : Below wr.heap.size wr w') => by obtain ⟨_, _, e, _, _, hl⟩ := FY0.out w' h; cases e; exact hl)
          have hgd := fun (p q : Operand) (W : World) => guard_of (t := 97) g_mb .neq p q x.cs.toArray y.cs.toArray W
          have hne := fun (W : World) => neq_of (eq_mb x y Hkx.out Hky.out W)
          replace hgd : ∀ (p q : Operand) (W : World), (eqGuard .neq 97 p q x.val y.val).run Try.prog W = .ok () W := hgd
          replace hne : ∀ W : World, (binOp .neq 97 x.val y.val).run Try.prog W = .ok (.bool (!decide (x = y))) W := hne
          clear FX0 FY0 hx hy
          cases hq : decide (x = y) with
          | false =>
            rw [hq] at hne
            obtain rfl : z = false := by
              rw [← Hz.out, show decide (c.ps = d.ps) = false from decide_eq_false fun e => of_decide_eq_false hq (by have h1 := HX.out; rw [e, HY.out] at h1; exact (Option.some.inj h1).symm), Bool.false_and]
            clear hq
            simp only [Bool.not_false] at hne
            go_wp2_with fail
            refine QB.region' mixed (by kernel_rfl) ?_
            refine QB.val' (v := ?_) (a' := ?_) (by kernel_rfl) (fun w' hw' => ?_) ?_ ?_
            rotate_left 2
            · go_simp <;> rfl
            · simp only [Act.put, List.setIfInBounds_toArray, List.set_cons_succ, List.set_cons_zero]; rfl
            refine QB.val' (v := ?_) (a' := ?_) (by kernel_rfl) (fun w' hw' => ?_) ?_ ?_
            rotate_left 2
            · have hc := FA.out w' hw'; go_simp <;> rfl
            · simp only [Act.put, List.setIfInBounds_toArray, List.set_cons_succ, List.set_cons_zero]; rfl
            refine QB.val' (v := ?_) (a' := ?_) (by kernel_rfl) (fun w' hw' => ?_) ?_ ?_
            rotate_left 2
            · go_simp <;> rfl
            · simp only [Act.put, List.setIfInBounds_toArray, List.set_cons_succ, List.set_cons_zero]; rfl
            refine QB.val' (v := ?_) (a' := ?_) (by kernel_rfl) (fun w' hw' => ?_) ?_ ?_
            rotate_left 2
            · go_simp <;> rfl
            · simp only [Act.put, List.setIfInBounds_toArray, List.set_cons_succ, List.set_cons_zero]; rfl
            refine QB.ld' (a' := ?_) (by kernel_rfl) 97 rfl rfl (fun w' hw' => FX.out w' hw') ?_ ?_
            rotate_left
            · simp only [Act.put, List.setIfInBounds_toArray, List.set_cons_succ, List.set_cons_zero]; rfl
            refine QB.val' (v := ?_) (a' := ?_) (by kernel_rfl) (fun w' hw' => ?_) ?_ ?_
            rotate_left 2
            · go_simp <;> rfl
            · simp only [Act.put, List.setIfInBounds_toArray, List.set_cons_succ, List.set_cons_zero]; rfl
            refine QB.val' (v := ?_) (a' := ?_) (by kernel_rfl) (fun w' hw' => ?_) ?_ ?_
            rotate_left 2
            · have hc := FB.out w' hw'; go_simp <;> rfl
            · simp only [Act.put, List.setIfInBounds_toArray, List.set_cons_succ, List.set_cons_zero]; rfl
            refine QB.val' (v := ?_) (a' := ?_) (by kernel_rfl) (fun w' hw' => ?_) ?_ ?_
            rotate_left 2
            · go_simp <;> rfl
            · simp only [Act.put, List.setIfInBounds_toArray, List.set_cons_succ, List.set_cons_zero]; rfl
            refine QB.val' (v := ?_) (a' := ?_) (by kernel_rfl) (fun w' hw' => ?_) ?_ ?_
            rotate_left 2
            · go_simp <;> rfl
            · simp only [Act.put, List.setIfInBounds_toArray, List.set_cons_succ, List.set_cons_zero]; rfl
            refine QB.ld' (a' := ?_) (by kernel_rfl) 97 rfl rfl (fun w' hw' => FY.out w' hw') ?_ ?_
            rotate_left
            · simp only [Act.put, List.setIfInBounds_toArray, List.set_cons_succ, List.set_cons_zero]; rfl
            refine QB.val' (v := ?_) (a' := ?_) (by kernel_rfl) (fun w' hw' => ?_) ?_ ?_
            rotate_left 2
            · go_simp <;> rfl
            · simp only [Act.put, List.setIfInBounds_toArray, List.set_cons_succ, List.set_cons_zero]; rfl
            refine QB.nil' fun w' hw' => ?_
            have HW := Lib.hid (HB.out.trans (hw'.mono HB.out.size))
            clear hw'
            go_wp2
            go_ret
            exact ⟨rfl, nextB HB1.out (Nat.le_refl _) HW.out⟩
          | true =>
            rw [hq] at hne
            have Hxy := Lib.hid (of_decide_eq_true hq)
            clear hq
            simp only [Bool.not_true] at hne
            go_wp2_with fail
            refine QB.region' mixed (by kernel_rfl) ?_
            refine QB.val' (v := ?_) (a' := ?_) (by kernel_rfl) (fun w' hw' => ?_) ?_ ?_
            rotate_left 2
            · go_simp <;> rfl
            · simp only [Act.put, List.setIfInBounds_toArray, List.set_cons_succ, List.set_cons_zero]; rfl
            refine QB.val' (v := ?_) (a' := ?_) (by kernel_rfl) (fun w' hw' => ?_) ?_ ?_
            rotate_left 2
            · have hc := FA.out w' hw'; go_simp <;> rfl
            · simp only [Act.put, List.setIfInBounds_toArray, List.set_cons_succ, List.set_cons_zero]; rfl
            refine QB.val' (v := ?_) (a' := ?_) (by kernel_rfl) (fun w' hw' => ?_) ?_ ?_
            rotate_left 2
            · go_simp <;> rfl
            · simp only [Act.put, List.setIfInBounds_toArray, List.set_cons_succ, List.set_cons_zero]; rfl
            refine QB.val' (v := ?_) (a' := ?_) (by kernel_rfl) (fun w' hw' => ?_) ?_ ?_
            rotate_left 2
            · go_simp <;> rfl
            · simp only [Act.put, List.setIfInBounds_toArray, List.set_cons_succ, List.set_cons_zero]; rfl
            refine QB.ld' (a' := ?_) (by kernel_rfl) 97 rfl rfl (fun w' hw' => FX.out w' hw') ?_ ?_
            rotate_left
            · simp only [Act.put, List.setIfInBounds_toArray, List.set_cons_succ, List.set_cons_zero]; rfl
            refine QB.val' (v := ?_) (a' := ?_) (by kernel_rfl) (fun w' hw' => ?_) ?_ ?_
            rotate_left 2
            · go_simp <;> rfl
            · simp only [Act.put, List.setIfInBounds_toArray, List.set_cons_succ, List.set_cons_zero]; rfl
            refine QB.val' (v := ?_) (a' := ?_) (by kernel_rfl) (fun w' hw' => ?_) ?_ ?_
            rotate_left 2
            · have hc := FB.out w' hw'; go_simp <;> rfl
            · simp only [Act.put, List.setIfInBounds_toArray, List.set_cons_succ, List.set_cons_zero]; rfl
            refine QB.val' (v := ?_) (a' := ?_) (by kernel_rfl) (fun w' hw' => ?_) ?_ ?_
            rotate_left 2
            · go_simp <;> rfl
            · simp only [Act.put, List.setIfInBounds_toArray, List.set_cons_succ, List.set_cons_zero]; rfl
            refine QB.val' (v := ?_) (a' := ?_) (by kernel_rfl) (fun w' hw' => ?_) ?_ ?_
            rotate_left 2
            · go_simp <;> rfl
            · simp only [Act.put, List.setIfInBounds_toArray, List.set_cons_succ, List.set_cons_zero]; rfl
            refine QB.ld' (a' := ?_) (by kernel_rfl) 97 rfl rfl (fun w' hw' => FY.out w' hw') ?_ ?_
            rotate_left
            · simp only [Act.put, List.setIfInBounds_toArray, List.set_cons_succ, List.set_cons_zero]; rfl
            refine QB.val' (v := ?_) (a' := ?_) (by kernel_rfl) (fun w' hw' => ?_) ?_ ?_
            rotate_left 2
            · go_simp <;> rfl
            · simp only [Act.put, List.setIfInBounds_toArray, List.set_cons_succ, List.set_cons_zero]; rfl
            refine QB.nil' fun w' hw' => ?_
            have HW := Lib.hid (HB.out.trans (hw'.mono HB.out.size))
            clear hw'
            go_wp2
            go_roundw
            case rel =>
              refine ⟨i + 1, by omega, by simp, HW.out, Lib.hid fun t ht => ?_⟩
              rcases Nat.lt_or_ge t i with h | h
              · exact I.out t h
              · obtain rfl : t = i := by omega
                rw [HX.out, HY.out, Hxy.out]
            case measure => simp [intOf]; omega
        · have hlt' : ¬ (i : Int) < (c.ps.length : Int) := by omega
          obtain rfl : i = c.ps.length := by omega
          have HP := Lib.hid (list_ext_n HL1.out I.out)
          have HB0 := HB
          clear HB I hi hi2 hlt
          go_wp2

          go_loopw [6] (fun iv wr => ∃ i : Nat, i ≤ c.rs.length ∧ iv = .int .i64 (i : Int) ∧ Below W1.heap.size W1 wr ∧ Hid (∀ t, t < i → c.rs[t]? = d.rs[t]?)) (fun iv _ => c.rs.length - (intOf iv).toNat)
          case atStart => exact ⟨0, Nat.zero_le _, rfl, HB0.out, Lib.hid fun t ht => absurd ht (Nat.not_lt_zero _)⟩
          case round =>
            obtain ⟨i, hi, rfl, hb, I⟩ := hrel
            have HB := Lib.hid hb
            clear hb
            have hi2 : (i : Int) ≤ 1000 := by have := HN.out; omega
            have k0 := (HR0.out.below HB.out HR0.out.lt).cell (i := 0) rfl
            have k1 := (HR0.out.below HB.out HR0.out.lt).cell (i := 1) rfl
            by_cases hlt : i < c.rs.length
            · have hlt' : (i : Int) < (c.rs.length : Int) := by omega
              obtain ⟨x, hx⟩ : ∃ x, c.rs[i]? = some x := ⟨_, List.getElem?_eq_getElem hlt⟩
              obtain ⟨y, hy⟩ : ∃ y, d.rs[i]? = some y := ⟨_, List.getElem?_eq_getElem (by have := HL2.out; omega)⟩
              have HX := Lib.hid hx
              have HY := Lib.hid hy
              have FA := Lib.hid (fun w' (h : Below wr.heap.size wr w') => (HR0.out.below (HB.out.trans (h.mono HB.out.size)) HR0.out.lt).cell (i := 1) rfl)
              have FB := Lib.hid (fun w' (h : Below wr.heap.size wr w') => (HR1.out.below (HB.out.trans (h.mono HB.out.size)) HR1.out.lt).cell (i := 1) rfl)
              have FX0 := Lib.hid (fun w' (h : Below wr.heap.size wr w') => RTab.at (RTab.below HC.out.2 ((nextB HB1.out (Nat.le_refl _) (HB.out.trans (h.mono HB.out.size))).mono HBw.out)) HX.out)
              have FY0 := Lib.hid (fun w' (h : Below wr.heap.size wr w') => RTab.at (RTab.below HD.out.2 ((nextB HB1.out (Nat.le_refl _) (HB.out.trans (h.mono HB.out.size))).mono HBw.out)) HY.out)
              obtain ⟨b1, off1, e1, _, _, _⟩ := FX0.out wr (Below.refl _ _)
              obtain ⟨b2, off2, e2, _, _, _⟩ := FY0.out wr (Below.refl _ _)
              subst e1 e2
              have FX := Lib.hid (fun w' (h : Below wr.heap.size wr w') => by obtain ⟨_, _, e, _, _, hl⟩ := FX0.out w' h; cases e; exact hl)
              have FY := Lib.hid (fun w' (h : Below wr.heap.size wr w') => by obtain ⟨_, _, e, _, _, hl⟩ := FY0.out w' h; cases e; exact hl)
              have hgd := fun (p q : Operand) (W : World) => guard_of (t := 100) g_rt .neq p q x.cs.toArray y.cs.toArray W
              have hne := fun (W : World) => neq_of (eq_rt x y W)
              replace hgd : ∀ (p q : Operand) (W : World), (eqGuard .neq 100 p q x.val y.val).run Try.prog W = .ok () W := hgd
              replace hne : ∀ W : World, (binOp .neq 100 x.val y.val).run Try.prog W = .ok (.bool (!decide (x = y))) W := hne
              clear FX0 FY0 hx hy
              cases hq : decide (x = y) with
              | false =>
                rw [hq] at hne
                obtain rfl : z = false := by
                  rw [← Hz.out, show decide (c.rs = d.rs) = false from decide_eq_false fun e => of_decide_eq_false hq (by have h1 := HX.out; rw [e, HY.out] at h1; exact (Option.some.inj h1).symm), Bool.and_false]
                clear hq
                simp only [Bool.not_false] at hne
                go_wp2_with fail
                refine QB.region' mixed (by kernel_rfl) ?_
                refine QB.val' (v := ?_) (a' := ?_) (by kernel_rfl) (fun w' hw' => ?_) ?_ ?_
                rotate_left 2
                · go_simp <;> rfl
                · simp only [Act.put, List.setIfInBounds_toArray, List.set_cons_succ, List.set_cons_zero]; rfl
                refine QB.val' (v := ?_) (a' := ?_) (by kernel_rfl) (fun w' hw' => ?_) ?_ ?_
                rotate_left 2
                · have hc := FA.out w' hw'; go_simp <;> rfl
                · simp only [Act.put, List.setIfInBounds_toArray, List.set_cons_succ, List.set_cons_zero]; rfl
                refine QB.val' (v := ?_) (a' := ?_) (by kernel_rfl) (fun w' hw' => ?_) ?_ ?_
                rotate_left 2
                · go_simp <;> rfl
                · simp only [Act.put, List.setIfInBounds_toArray, List.set_cons_succ, List.set_cons_zero]; rfl
                refine QB.val' (v := ?_) (a' := ?_) (by kernel_rfl) (fun w' hw' => ?_) ?_ ?_
                rotate_left 2
                · go_simp <;> rfl
                · simp only [Act.put, List.setIfInBounds_toArray, List.set_cons_succ, List.set_cons_zero]; rfl
                refine QB.ld' (a' := ?_) (by kernel_rfl) 100 rfl rfl (fun w' hw' => FX.out w' hw') ?_ ?_
                rotate_left
                · simp only [Act.put, List.setIfInBounds_toArray, List.set_cons_succ, List.set_cons_zero]; rfl
                refine QB.val' (v := ?_) (a' := ?_) (by kernel_rfl) (fun w' hw' => ?_) ?_ ?_
                rotate_left 2
                · go_simp <;> rfl
                · simp only [Act.put, List.setIfInBounds_toArray, List.set_cons_succ, List.set_cons_zero]; rfl
                refine QB.val' (v := ?_) (a' := ?_) (by kernel_rfl) (fun w' hw' => ?_) ?_ ?_
                rotate_left 2
                · have hc := FB.out w' hw'; go_simp <;> rfl
                · simp only [Act.put, List.setIfInBounds_toArray, List.set_cons_succ, List.set_cons_zero]; rfl
                refine QB.val' (v := ?_) (a' := ?_) (by kernel_rfl) (fun w' hw' => ?_) ?_ ?_
                rotate_left 2
                · go_simp <;> rfl
                · simp only [Act.put, List.setIfInBounds_toArray, List.set_cons_succ, List.set_cons_zero]; rfl
                refine QB.val' (v := ?_) (a' := ?_) (by kernel_rfl) (fun w' hw' => ?_) ?_ ?_
                rotate_left 2
                · go_simp <;> rfl
                · simp only [Act.put, List.setIfInBounds_toArray, List.set_cons_succ, List.set_cons_zero]; rfl
                refine QB.ld' (a' := ?_) (by kernel_rfl) 100 rfl rfl (fun w' hw' => FY.out w' hw') ?_ ?_
                rotate_left
                · simp only [Act.put, List.setIfInBounds_toArray, List.set_cons_succ, List.set_cons_zero]; rfl
                refine QB.val' (v := ?_) (a' := ?_) (by kernel_rfl) (fun w' hw' => ?_) ?_ ?_
                rotate_left 2
                · go_simp <;> rfl
                · simp only [Act.put, List.setIfInBounds_toArray, List.set_cons_succ, List.set_cons_zero]; rfl
                refine QB.nil' fun w' hw' => ?_
                have HW := Lib.hid (HB.out.trans (hw'.mono HB.out.size))
                clear hw'
                go_wp2
                go_ret
                exact ⟨rfl, nextB HB1.out (Nat.le_refl _) HW.out⟩
              | true =>
                rw [hq] at hne
                have Hxy := Lib.hid (of_decide_eq_true hq)
                clear hq
                simp only [Bool.not_true] at hne
                go_wp2_with fail
                refine QB.region' mixed (by kernel_rfl) ?_
                refine QB.val' (v := ?_) (a' := ?_) (by kernel_rfl) (fun w' hw' => ?_) ?_ ?_
                rotate_left 2
                · go_simp <;> rfl
                · simp only [Act.put, List.setIfInBounds_toArray, List.set_cons_succ, List.set_cons_zero]; rfl
                refine QB.val' (v := ?_) (a' := ?_) (by kernel_rfl) (fun w' hw' => ?_) ?_ ?_
                rotate_left 2
                · have hc := FA.out w' hw'; go_simp <;> rfl
                · simp only [Act.put, List.setIfInBounds_toArray, List.set_cons_succ, List.set_cons_zero]; rfl
                refine QB.val' (v := ?_) (a' := ?_) (by kernel_rfl) (fun w' hw' => ?_) ?_ ?_
                rotate_left 2
                · go_simp <;> rfl
                · simp only [Act.put, List.setIfInBounds_toArray, List.set_cons_succ, List.set_cons_zero]; rfl
                refine QB.val' (v := ?_) (a' := ?_) (by kernel_rfl) (fun w' hw' => ?_) ?_ ?_
                rotate_left 2
                · go_simp <;> rfl
                · simp only [Act.put, List.setIfInBounds_toArray, List.set_cons_succ, List.set_cons_zero]; rfl
                refine QB.ld' (a' := ?_) (by kernel_rfl) 100 rfl rfl (fun w' hw' => FX.out w' hw') ?_ ?_
                rotate_left
                · simp only [Act.put, List.setIfInBounds_toArray, List.set_cons_succ, List.set_cons_zero]; rfl
                refine QB.val' (v := ?_) (a' := ?_) (by kernel_rfl) (fun w' hw' => ?_) ?_ ?_
                rotate_left 2
                · go_simp <;> rfl
                · simp only [Act.put, List.setIfInBounds_toArray, List.set_cons_succ, List.set_cons_zero]; rfl
                refine QB.val' (v := ?_) (a' := ?_) (by kernel_rfl) (fun w' hw' => ?_) ?_ ?_
                rotate_left 2
                · have hc := FB.out w' hw'; go_simp <;> rfl
                · simp only [Act.put, List.setIfInBounds_toArray, List.set_cons_succ, List.set_cons_zero]; rfl
                refine QB.val' (v := ?_) (a' := ?_) (by kernel_rfl) (fun w' hw' => ?_) ?_ ?_
                rotate_left 2
                · go_simp <;> rfl
                · simp only [Act.put, List.setIfInBounds_toArray, List.set_cons_succ, List.set_cons_zero]; rfl
                refine QB.val' (v := ?_) (a' := ?_) (by kernel_rfl) (fun w' hw' => ?_) ?_ ?_
                rotate_left 2
                · go_simp <;> rfl
                · simp only [Act.put, List.setIfInBounds_toArray, List.set_cons_succ, List.set_cons_zero]; rfl
                refine QB.ld' (a' := ?_) (by kernel_rfl) 100 rfl rfl (fun w' hw' => FY.out w' hw') ?_ ?_
                rotate_left
                · simp only [Act.put, List.setIfInBounds_toArray, List.set_cons_succ, List.set_cons_zero]; rfl
                refine QB.val' (v := ?_) (a' := ?_) (by kernel_rfl) (fun w' hw' => ?_) ?_ ?_
                rotate_left 2
                · go_simp <;> rfl
                · simp only [Act.put, List.setIfInBounds_toArray, List.set_cons_succ, List.set_cons_zero]; rfl
                refine QB.nil' fun w' hw' => ?_
                have HW := Lib.hid (HB.out.trans (hw'.mono HB.out.size))
                clear hw'
                go_wp2
                go_roundw
                case rel =>
                  refine ⟨i + 1, by omega, by simp, HW.out, Lib.hid fun t ht => ?_⟩
                  rcases Nat.lt_or_ge t i with h | h
                  · exact I.out t h
                  · obtain rfl : t = i := by omega
                    rw [HX.out, HY.out, Hxy.out]
                case measure => simp [intOf]; omega
            · have hlt' : ¬ (i : Int) < (c.rs.length : Int) := by omega
              obtain rfl : i = c.rs.length := by omega
              obtain rfl : z = true := by rw [← Hz.out, decide_eq_true HP.out, decide_eq_true (list_ext_n HL2.out I.out), Bool.true_and]
              go_wp2
              go_ret
              exact ⟨rfl, nextB HB1.out (Nat.le_refl _) HB.out⟩
    · obtain rfl : z = false := by rw [← hz, show decide (c.rs = d.rs) = false from decide_eq_false fun e => hl2 (by rw [e]), Bool.and_false]
      obtain ⟨W1, hW1⟩ : ∃ W1, (w.alloc (.cells #[.slice A1 c.ps.length n1, .slice A2 c.rs.length n2] 27)).alloc (.cells #[.slice A3 c.ps.length n3, .slice A4 d.rs.length n4] 27) = W1 := ⟨_, rfl⟩
      have hb1 : Below w.heap.size w W1 := hW1 ▸ ((Below.refl _ w).alloc (Nat.le_refl _) _).alloc (by simp) _
      have hr0 : Row W1 w.heap.size [.slice A1 c.ps.length n1, .slice A2 c.rs.length n2] 27 := hW1 ▸ (Row.new rfl rfl : Row (w.alloc (.cells #[.slice A1 c.ps.length n1, .slice A2 c.rs.length n2] 27)) w.heap.size [.slice A1 c.ps.length n1, .slice A2 c.rs.length n2] 27).alloc _
      have hr1 : Row W1 (w.heap.size + 1) [.slice A3 c.ps.length n3, .slice A4 d.rs.length n4] 27 := hW1 ▸ Row.new (by simp) rfl
      have c0 := hr0.cell (i := 0) rfl
      have c1 := hr0.cell (i := 1) rfl
      have d0 := hr1.cell (i := 0) rfl
      have d1 := hr1.cell (i := 1) rfl
      have hl3 : ((c.rs.length : Int) == (d.rs.length : Int)) = false := by simpa using fun e => hl2 (by omega)
      have hl4 : ¬ (c.rs.length : Int) = (d.rs.length : Int) := by omega
      have HB1 := Lib.hid hb1
      clear hc hd h1 h2 hB hb1 hr0 hr1 hz hl1 hl2
      go_enter Try.func20, Try.ntmps20
      go_wp2
      go_ret
      exact ⟨rfl, HB1.out⟩
  · obtain rfl : z = false := by rw [← hz, show decide (c.ps = d.ps) = false from decide_eq_false fun e => hl1 (by rw [e]), Bool.false_and]
    obtain ⟨W1, hW1⟩ : ∃ W1, (w.alloc (.cells #[.slice A1 c.ps.length n1, .slice A2 c.rs.length n2] 27)).alloc (.cells #[.slice A3 d.ps.length n3, .slice A4 d.rs.length n4] 27) = W1 := ⟨_, rfl⟩
    have hb1 : Below w.heap.size w W1 := hW1 ▸ ((Below.refl _ w).alloc (Nat.le_refl _) _).alloc (by simp) _
    have hr0 : Row W1 w.heap.size [.slice A1 c.ps.length n1, .slice A2 c.rs.length n2] 27 := hW1 ▸ (Row.new rfl rfl : Row (w.alloc (.cells #[.slice A1 c.ps.length n1, .slice A2 c.rs.length n2] 27)) w.heap.size [.slice A1 c.ps.length n1, .slice A2 c.rs.length n2] 27).alloc _
    have hr1 : Row W1 (w.heap.size + 1) [.slice A3 d.ps.length n3, .slice A4 d.rs.length n4] 27 := hW1 ▸ Row.new (by simp) rfl
    have c0 := hr0.cell (i := 0) rfl
    have c1 := hr0.cell (i := 1) rfl
    have d0 := hr1.cell (i := 0) rfl
    have d1 := hr1.cell (i := 1) rfl
    have hl3 : ((c.ps.length : Int) == (d.ps.length : Int)) = false := by simpa using fun e => hl1 (by omega)
    have hl4 : ¬ (c.ps.length : Int) = (d.ps.length : Int) := by omega
    have HB1 := Lib.hid hb1
    clear hc hd h1 h2 hB hb1 hr0 hr1 hz hl1
    go_enter Try.func20, Try.ntmps20
    go_wp2
    go_ret
    exact ⟨rfl, HB1.out⟩
end Go.Proofs.Ytiogadhgbkpemaa.Cfg
