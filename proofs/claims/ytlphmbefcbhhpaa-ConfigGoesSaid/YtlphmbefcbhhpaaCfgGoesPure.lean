/- config: what an operation leaves alone, in plain terms; a slice of operations as an argument. -/
import Derived.Test.YtlphmbefcbhhpaaCfgLook
import Derived.Test.YtlphmbefcbhhpaaCfgSame
import Derived.Test.YtlphmbefcbhhpaaCfgStep
import Derived.Test.YtlphmbefcbhhpaaCfgArgs
namespace Go.Proofs.Ytlphmbefcbhhpaa.Cfg
open Go.RowKit
/-- Where a walk is to stop. -/
def Halt1 (p : Prop) : Prop := p
theorem Halt1.to {p : Prop} (h : Halt1 p) : p := h
theorem any_step {l : List Rt} {j : Nat} {y : Rt} (h : l[j]? = some y) (p : Rt → Bool) : (l.take (j + 1)).any p = ((l.take j).any p || p y) := by
  rw [List.take_add_one, h, Option.toList_some, List.any_append, List.any_cons, List.any_nil, Bool.or_false]
def RestB (a b : Cf) (o : Opn) : Prop := (∀ m ∈ a.ps, (o.kind ≤ 3 ∧ m.id = o.id) ∨ mem1 b.ps m.id = some m) ∧ ∀ r ∈ a.rs, (o.kind = 3 ∧ r.peer = o.id) ∨ (4 ≤ o.kind ∧ r.addr = o.addr ∧ r.bits = o.bits) ∨ r ∈ b.rs
set_option maxRecDepth 100000 in
set_option maxHeartbeats 8000000 in
theorem rest_any {w : World} {B : Nat} {v1 v2 u1 u2 : Value} {a b : Cf} {o : Opn} (ha : CAt w B v1 v2 a) (hb : CAt w B u1 u2 b) (hk : o.ky.length = 32) (hR : RestB a b o) (h1 : a.ps.length ≤ 1000) (h2 : a.rs.length ≤ 1000) (h3 : b.ps.length ≤ 1000) (h4 : b.rs.length ≤ 1000) (hB : B ≤ w.heap.size) :
    Calls Try.prog 35 #[.agg #[v1, v2], .agg #[u1, u2], o.val] w fun e w' => e = .returned (.bool true) ∧ Below w.heap.size w w' := by
  obtain ⟨A1, n1, A2, n2, rfl, rfl⟩ := ha.shape
  obtain ⟨A3, n3, A4, n4, rfl, rfl⟩ := hb.shape
  obtain ⟨W1, hW1⟩ : ∃ W1, ((w.alloc (.cells #[.slice A1 a.ps.length n1, .slice A2 a.rs.length n2] 27)).alloc (.cells #[.slice A3 b.ps.length n3, .slice A4 b.rs.length n4] 27)).alloc (.cells o.cs.toArray 45) = W1 := ⟨_, rfl⟩
  have hb1 : Below w.heap.size w W1 := hW1 ▸ (((Below.refl _ w).alloc (Nat.le_refl _) _).alloc (by simp) _).alloc (by simp; omega) _
  have hr0 : Row W1 w.heap.size [.slice A1 a.ps.length n1, .slice A2 a.rs.length n2] 27 := hW1 ▸ ((Row.new rfl rfl : Row (w.alloc (.cells #[.slice A1 a.ps.length n1, .slice A2 a.rs.length n2] 27)) w.heap.size [.slice A1 a.ps.length n1, .slice A2 a.rs.length n2] 27).alloc _).alloc _
  have hr1 : Row W1 (w.heap.size + 1) [.slice A3 b.ps.length n3, .slice A4 b.rs.length n4] 27 := hW1 ▸ (Row.new (by simp) rfl : Row ((w.alloc (.cells #[.slice A1 a.ps.length n1, .slice A2 a.rs.length n2] 27)).alloc (.cells #[.slice A3 b.ps.length n3, .slice A4 b.rs.length n4] 27)) (w.heap.size + 1) [.slice A3 b.ps.length n3, .slice A4 b.rs.length n4] 27).alloc _
  have hr2 : Row W1 (w.heap.size + 1 + 1) o.cs 45 := hW1 ▸ Row.new (by simp) rfl
  have HR0 := Lib.hid hr0
  have HR1 := Lib.hid hr1
  have HR2 := Lib.hid hr2
  have HB1 := Lib.hid hb1
  have HA := Lib.hid ha
  have HBb := Lib.hid hb
  have Hk := Lib.hid hk
  have HR := Lib.hid hR
  have HN1 := Lib.hid h1
  have HN2 := Lib.hid h2
  have HN3 := Lib.hid h3
  have HN4 := Lib.hid h4
  have HBw := Lib.hid hB
  have FP := Lib.hid (fun w' (h : Below W1.heap.size W1 w') => (HR0.out.below h HR0.out.lt).cell (i := 0) rfl)
  have FR := Lib.hid (fun w' (h : Below W1.heap.size W1 w') => (HR0.out.below h HR0.out.lt).cell (i := 1) rfl)
  have GR := Lib.hid (fun w' (h : Below W1.heap.size W1 w') => (HR1.out.below h HR1.out.lt).cell (i := 1) rfl)
  have FK := Lib.hid (fun w' (h : Below W1.heap.size W1 w') => (HR2.out.below h HR2.out.lt).cell (i := 0) rfl)
  have FI := Lib.hid (fun w' (h : Below W1.heap.size W1 w') => (HR2.out.below h HR2.out.lt).cell (i := 2) rfl)
  have FA := Lib.hid (fun w' (h : Below W1.heap.size W1 w') => (HR2.out.below h HR2.out.lt).cell (i := 35) (Opn.at35 Hk.out))
  have FBi := Lib.hid (fun w' (h : Below W1.heap.size W1 w') => (HR2.out.below h HR2.out.lt).cell (i := 36) (Opn.at36 Hk.out))
  have FTM := Lib.hid (fun (t : Nat) (y : Mb) (hy : a.ps[t]? = some y) w' (h : Below W1.heap.size W1 w') => MTab.at (MTab.below HA.out.1 ((nextB HB1.out (Nat.le_refl _) h).mono HBw.out)) hy)
  have FTR := Lib.hid (fun (t : Nat) (y : Rt) (hy : a.rs[t]? = some y) w' (h : Below W1.heap.size W1 w') => RTab.at (RTab.below HA.out.2 ((nextB HB1.out (Nat.le_refl _) h).mono HBw.out)) hy)
  have FTS := Lib.hid (fun (t : Nat) (y : Rt) (hy : b.rs[t]? = some y) w' (h : Below W1.heap.size W1 w') => RTab.at (RTab.below HBb.out.2 ((nextB HB1.out (Nat.le_refl _) h).mono HBw.out)) hy)
  have FCB := Lib.hid (fun w' (h : Below W1.heap.size W1 w') => show (loadVar 27 ⟨w.heap.size + 1, 0, none⟩).run Try.prog w' = .ok (.agg #[.slice A3 b.ps.length n3, .slice A4 b.rs.length n4]) w' from Pol.run_loadVar_sub (P := Try.prog) (off := 0) (n := 2) w' (HR1.out.below h HR1.out.lt) Try.underlying27 rfl (by kernel_rfl) (by simp))
  clear ha hb hk hR h1 h2 h3 h4 hB hb1 hr0 hr1 hr2
  unfold Opn.val
  go_enter Try.func35, Try.ntmps35
  go_wp2
  clear hW1
  go_loopw [7] (fun iv wr => ∃ i : Nat, i ≤ a.ps.length ∧ iv = .int .i64 (i : Int) ∧ Below W1.heap.size W1 wr) (fun iv _ => a.ps.length - (intOf iv).toNat)
  case atStart => exact ⟨0, Nat.zero_le _, rfl, Below.refl _ _⟩
  case round =>
    obtain ⟨i, hi, rfl, hb⟩ := hrel
    have HB := Lib.hid hb
    clear hb
    have hi2 : (i : Int) ≤ 1000 := by have := HN1.out; omega
    have k0 := FP.out wr HB.out
    by_cases hlt : i < a.ps.length
    · have hlt' : (i : Int) < (a.ps.length : Int) := by omega
      obtain ⟨m, hm⟩ : ∃ m, a.ps[i]? = some m := ⟨_, List.getElem?_eq_getElem hlt⟩
      have HM := Lib.hid hm
      have hcase := HR.out.1 m (List.mem_of_getElem? hm)
      obtain ⟨b0, off, e, _, _, hl⟩ := FTM.out i m hm wr HB.out
      subst e
      have FC := Lib.hid (fun w' (h : Below W1.heap.size W1 w') => show w'.cell? ⟨b0, off + i * 34, none⟩ = some (.int .i64 m.id) from by
        obtain ⟨b', off', e, _, hc, _⟩ := FTM.out i m HM.out w' h
        cases e
        exact hc 0 (.int .i64 m.id) rfl)
      have FX := Lib.hid (fun w' (h : Below W1.heap.size W1 w') => show (loadVar 83 ⟨b0, off + i * 34, none⟩).run Try.prog w' = .ok m.val w' from by
        obtain ⟨b', off', e, _, _, hl⟩ := FTM.out i m HM.out w' h
        cases e
        exact hl)
      obtain ⟨mm, hmm⟩ : ∃ mm, mem1 b.ps m.id = mm := ⟨_, rfl⟩
      obtain ⟨x, hx⟩ : ∃ x, mm.getD zmb = x := ⟨_, rfl⟩
      have Hxk := Lib.hid (show x.ky.length = 32 by
        rw [← hx]
        cases mm with
        | none => show zkey.length = 32; simp [zkey]
        | some q => exact HBb.out.1.1 q (List.mem_of_find?_eq_some hmm))
      have FMem := Lib.hid (fun w' (h : Below W1.heap.size W1 w') => show Calls Try.prog 36 #[.agg #[.slice A3 b.ps.length n3, .slice A4 b.rs.length n4], .int .i64 m.id] w' fun e w2 => e = .returned (.tuple #[x.val, .bool mm.isSome]) ∧ Below w'.heap.size w' w2 from by
        have := Member_any (w := w') (B := B) (vr := .slice A4 b.rs.length n4) (HBb.out.1.below ((nextB HB1.out (Nat.le_refl _) h).mono HBw.out)) (by have := HN3.out; omega) rfl m.id (Nat.le_trans HBw.out (nextB HB1.out (Nat.le_refl _) h).size)
        rw [hmm, hx] at this
        exact this)
      have Hmk := Lib.hid (HA.out.1.1 m (List.mem_of_getElem? hm))
      rw [hmm] at hcase
      have HCASE := Lib.hid hcase
      have HX := Lib.hid hx
      have Hz34 := Lib.hid (show (Mb.cs ⟨0, zkey, false⟩).length = 34 from Mb.len (by simp [zkey]))
      clear hm hmm hx hcase hl
      go_wp2_with fail
      refine Tail.marksF mixed 12 10 33 Grew [By.is (.agg #[.slice A3 b.ps.length n3, .slice A4 b.rs.length n4]),
        By.is (.pointer (some ⟨w.heap.size, 0, none⟩)),
        By.is (.slice (some ⟨b0, off, none⟩) a.ps.length n1),
        By.is (.int .i64 (i : Int)),
        By.is (.pointer (some ⟨b0, off + i * 34, none⟩)),
        By.is (.pointer (some ⟨b0, off + i * 34, none⟩)),
        By.is (.int .i64 m.id),
        By.is (.tuple #[x.val, .bool mm.isSome]),
        By.is (.tuple #[x.val, .bool mm.isSome]),
        By.is x.val,
        By.is (.bool mm.isSome),
        newM wr.heap.size]
        (Ev.masks _ []) (Nat.zero_lt_succ _) rfl (by kernel_rfl) (by kernel_rfl) rfl Grew.refl Grew.trans ⟨?_, ?_, ?_, ?_, ?_, ?_, ?_, ?_, ?_, ?_, ?_, ?_, trivial⟩ [_, _, _] (by rfl) ?_ ?_
      · intro a' w' ht hs hg -- 24
        have h4 := By.same_get hs 4 (by decide) (by kernel_rfl)
        refine By.yes rfl ?_
        clear hs hg
        refine wp_ld 27 rfl h4 (FCB.out w' (nextB HB.out (Nat.le_refl _) ⟨ht.os, ht.tape, ht.output, ht.size, ht.block⟩)) ?_
        exact ⟨_, rfl, Grew.refl _, rfl⟩
      · intro a' w' ht hs hg -- 25
        have h3 := By.same_get hs 3 (by decide) (by kernel_rfl)
        refine By.yes rfl ?_
        clear hs hg
        go_simp
        exact ⟨_, rfl, Grew.refl _, rfl⟩
      · intro a' w' ht hs hg -- 26
        have h25 : a'.tmps.getD 25 undef = _ := By.given_get hg 1 rfl rfl (by kernel_rfl)
        refine By.yes rfl ?_
        clear hs hg
        have hc := FP.out w' (nextB HB.out (Nat.le_refl _) ⟨ht.os, ht.tape, ht.output, ht.size, ht.block⟩)
        go_simp
        exact ⟨_, rfl, Grew.refl _, rfl⟩
      · intro a' w' ht hs hg -- 27
        have h7 := By.same_get hs 7 (by decide) (by kernel_rfl)
        refine By.yes rfl ?_
        clear hs hg
        go_simp
        exact ⟨_, rfl, Grew.refl _, rfl⟩
      · intro a' w' ht hs hg -- 28
        have h26 : a'.tmps.getD 26 undef = _ := By.given_get hg 2 rfl rfl (by kernel_rfl)
        have h27 : a'.tmps.getD 27 undef = _ := By.given_get hg 3 rfl rfl (by kernel_rfl)
        refine By.yes rfl ?_
        clear hs hg
        go_simp
        exact ⟨_, rfl, Grew.refl _, rfl⟩
      · intro a' w' ht hs hg -- 29
        have h28 : a'.tmps.getD 28 undef = _ := By.given_get hg 4 rfl rfl (by kernel_rfl)
        refine By.yes rfl ?_
        clear hs hg
        go_simp
        exact ⟨_, rfl, Grew.refl _, rfl⟩
      · intro a' w' ht hs hg -- 30
        have h29 : a'.tmps.getD 29 undef = _ := By.given_get hg 5 rfl rfl (by kernel_rfl)
        refine By.yes rfl ?_
        clear hs hg
        have hc := FC.out w' (nextB HB.out (Nat.le_refl _) ⟨ht.os, ht.tape, ht.output, ht.size, ht.block⟩)
        go_simp
        exact ⟨_, rfl, Grew.refl _, rfl⟩
      · intro a' w' ht hs hg -- 31
        have h24 : a'.tmps.getD 24 undef = _ := By.given_get hg 0 rfl rfl (by kernel_rfl)
        have h30 : a'.tmps.getD 30 undef = _ := By.given_get hg 6 rfl rfl (by kernel_rfl)
        refine By.yes rfl ?_
        clear hs hg
        have hd := Lib.hid (FMem.out w' (nextB HB.out (Nat.le_refl _) ⟨ht.os, ht.tape, ht.output, ht.size, ht.block⟩))
        go_simp
        refine hd.out.mono ?_
        rintro e w2 ⟨rfl, hb2⟩
        exact ⟨_, rfl, hb2, rfl⟩
      · intro a' w' ht hs hg -- 23
        have h31 : a'.tmps.getD 31 undef = _ := By.given_get hg 7 rfl rfl (by kernel_rfl)
        refine By.yes rfl ?_
        clear hs hg
        go_simp
        exact ⟨_, rfl, Grew.refl _, rfl⟩
      · intro a' w' ht hs hg -- 32
        have h23 : a'.tmps.getD 23 undef = _ := By.given_get hg 8 rfl rfl (by kernel_rfl)
        refine By.yes rfl ?_
        clear hs hg
        go_simp
        exact ⟨_, rfl, Grew.refl _, rfl⟩
      · intro a' w' ht hs hg -- 33
        have h23 : a'.tmps.getD 23 undef = _ := By.given_get hg 8 rfl rfl (by kernel_rfl)
        refine By.yes rfl ?_
        clear hs hg
        go_simp
        exact ⟨_, rfl, Grew.refl _, rfl⟩
      · intro a' w' ht hs hg -- 8
        refine By.yes rfl ?_
        clear hs hg
        refine wp_alloc 83 rfl zero_mb fun W5 hr5 hb5 => ?_
        exact ⟨_, rfl, hb5, _, rfl, ht.size, hr5⟩
      all_goals
        refine By.ends_is (By.ends_is (By.ends_is (By.ends_is (By.ends_is (By.ends_is (By.ends_is (By.ends_is (By.ends_is (By.ends_is (By.ends_is (By.ends_any fun v8 => (By.ends_nil fun W9 hw9 => ?_))))))))))))
        try simp only [Act.put, List.setIfInBounds_toArray, List.set_cons_succ, List.set_cons_zero]
        try simp only [List.drop_succ_cons, List.drop_zero]
        obtain ⟨hw9, hl9⟩ := hw9
        obtain ⟨g, rfl, hg1, hg2⟩ := (show ∃ g, v8 = .pointer (some ⟨g, 0, none⟩) ∧ wr.heap.size ≤ g ∧ Row W9 g (Mb.cs ⟨0, zkey, false⟩) 83 from hl9)
        have hb9 : Below wr.heap.size wr W9 := ⟨hw9.os, hw9.tape, hw9.output, hw9.size, hw9.block⟩
        have HB9 := Lib.hid (show Below W1.heap.size W1 W9 from nextB HB.out (Nat.le_refl _) hb9)
        have HR9 := Lib.hid hg2
        have HG := Lib.hid (Nat.le_trans HB.out.size hg1)
        clear hw9 hl9 hb9 hg1 hg2
        refine wpList_storeRow rfl 83 (.tmp 8) (.tmp 32) rfl rfl (cs := x.cs) rfl HR9.out (by kernel_rfl) (Mb.len Hxk.out) Hz34.out x.one ?_
        refine QB.name fun W3 hW3 => ?_
        have HRX := Lib.hid (show Row W3 g x.cs 83 from hW3 ▸ HR9.out.setRow x.cs)
        have HB3 := Lib.hid (show Below W1.heap.size W1 W3 from hW3 ▸ below_setRow HB9.out HG.out _)
        have FM8 := Lib.hid (fun w' (h : Below W3.heap.size W3 w') => show (loadVar 83 ⟨g, 0, none⟩).run Try.prog w' = .ok x.val w' from by
          rw [Pol.run_loadVar_sub (P := Try.prog) (off := 0) (n := 34) w' (HRX.out.below h HRX.out.lt) Try.underlying83 rfl (by kernel_rfl) (by rw [Mb.len Hxk.out]; omega), List.drop_zero, List.take_of_length_le (by rw [Mb.len Hxk.out]; omega)]
          rfl)
        clear hW3
        by_cases hk3 : o.kind ≤ 3
        · have hk3' : decide (o.kind ≤ 3) = true := decide_eq_true hk3
          by_cases hid : m.id = o.id
          · replace FI : Hid (∀ w' : World, Below W1.heap.size W1 w' → w'.cell? ⟨w.heap.size + 1 + 1, 2, none⟩ = some (.int .i64 m.id)) := by rw [hid]; exact FI
            clear hid
            go_wp2_with fail
            refine QB.region' mixed (by kernel_rfl) ?_
            refine QB.val' (v := ?_) (a' := ?_) (by kernel_rfl) (fun w' hw' => ?_) ?_ ?_
            rotate_left 2
            · go_simp <;> rfl
            · simp only [Act.put, List.setIfInBounds_toArray, List.set_cons_succ, List.set_cons_zero]; rfl
            refine QB.val' (v := ?_) (a' := ?_) (by kernel_rfl) (fun w' hw' => ?_) ?_ ?_
            rotate_left 2
            · have hc := FK.out w' (nextB HB3.out (Nat.le_refl _) hw'); go_simp <;> rfl
            · simp only [Act.put, List.setIfInBounds_toArray, List.set_cons_succ, List.set_cons_zero]; rfl
            refine QB.val' (v := ?_) (a' := ?_) (by kernel_rfl) (fun w' hw' => ?_) ?_ ?_
            rotate_left 2
            · go_simp <;> rfl
            · simp only [Act.put, List.setIfInBounds_toArray, List.set_cons_succ, List.set_cons_zero]; rfl
            refine QB.val' (v := ?_) (a' := ?_) (by kernel_rfl) (fun w' hw' => ?_) ?_ ?_
            rotate_left 2
            · go_simp <;> rfl
            · simp only [Act.put, List.setIfInBounds_toArray, List.set_cons_succ, List.set_cons_zero]; rfl
            refine QB.val' (v := ?_) (a' := ?_) (by kernel_rfl) (fun w' hw' => ?_) ?_ ?_
            rotate_left 2
            · go_simp <;> rfl
            · simp only [Act.put, List.setIfInBounds_toArray, List.set_cons_succ, List.set_cons_zero]; rfl
            refine QB.val' (v := ?_) (a' := ?_) (by kernel_rfl) (fun w' hw' => ?_) ?_ ?_
            rotate_left 2
            · have hc := FP.out w' (nextB HB3.out (Nat.le_refl _) hw'); go_simp <;> rfl
            · simp only [Act.put, List.setIfInBounds_toArray, List.set_cons_succ, List.set_cons_zero]; rfl
            refine QB.val' (v := ?_) (a' := ?_) (by kernel_rfl) (fun w' hw' => ?_) ?_ ?_
            rotate_left 2
            · go_simp <;> rfl
            · simp only [Act.put, List.setIfInBounds_toArray, List.set_cons_succ, List.set_cons_zero]; rfl
            refine QB.val' (v := ?_) (a' := ?_) (by kernel_rfl) (fun w' hw' => ?_) ?_ ?_
            rotate_left 2
            · go_simp <;> rfl
            · simp only [Act.put, List.setIfInBounds_toArray, List.set_cons_succ, List.set_cons_zero]; rfl
            refine QB.val' (v := ?_) (a' := ?_) (by kernel_rfl) (fun w' hw' => ?_) ?_ ?_
            rotate_left 2
            · go_simp <;> rfl
            · simp only [Act.put, List.setIfInBounds_toArray, List.set_cons_succ, List.set_cons_zero]; rfl
            refine QB.val' (v := ?_) (a' := ?_) (by kernel_rfl) (fun w' hw' => ?_) ?_ ?_
            rotate_left 2
            · have hc := FC.out w' (nextB HB3.out (Nat.le_refl _) hw'); go_simp <;> rfl
            · simp only [Act.put, List.setIfInBounds_toArray, List.set_cons_succ, List.set_cons_zero]; rfl
            refine QB.val' (v := ?_) (a' := ?_) (by kernel_rfl) (fun w' hw' => ?_) ?_ ?_
            rotate_left 2
            · go_simp <;> rfl
            · simp only [Act.put, List.setIfInBounds_toArray, List.set_cons_succ, List.set_cons_zero]; rfl
            refine QB.val' (v := ?_) (a' := ?_) (by kernel_rfl) (fun w' hw' => ?_) ?_ ?_
            rotate_left 2
            · have hc := FI.out w' (nextB HB3.out (Nat.le_refl _) hw'); go_simp <;> rfl
            · simp only [Act.put, List.setIfInBounds_toArray, List.set_cons_succ, List.set_cons_zero]; rfl
            refine QB.val' (v := ?_) (a' := ?_) (by kernel_rfl) (fun w' hw' => ?_) ?_ ?_
            rotate_left 2
            · go_simp <;> rfl
            · simp only [Act.put, List.setIfInBounds_toArray, List.set_cons_succ, List.set_cons_zero]; rfl
            refine QB.val' (v := ?_) (a' := ?_) (by kernel_rfl) (fun w' hw' => ?_) ?_ ?_
            rotate_left 2
            · go_simp <;> rfl
            · simp only [Act.put, List.setIfInBounds_toArray, List.set_cons_succ, List.set_cons_zero]; rfl
            refine QB.val' (v := ?_) (a' := ?_) (by kernel_rfl) (fun w' hw' => ?_) ?_ ?_
            rotate_left 2
            · go_simp <;> rfl
            · simp only [Act.put, List.setIfInBounds_toArray, List.set_cons_succ, List.set_cons_zero]; rfl
            refine QB.nil' fun w' hw' => ?_
            have HB4 := Lib.hid (show Below W1.heap.size W1 w' from nextB HB3.out (Nat.le_refl _) hw')
            have HB34 := Lib.hid (show Below W3.heap.size W3 w' from hw')
            clear hw'
            go_wp2_with fail
            refine QB.region' mixed (by kernel_rfl) ?_
            refine QB.val' (v := ?_) (a' := ?_) (by kernel_rfl) (fun w' hw' => ?_) ?_ ?_
            rotate_left 2
            · go_simp <;> rfl
            · simp only [Act.put, List.setIfInBounds_toArray, List.set_cons_succ, List.set_cons_zero]; rfl
            refine QB.val' (v := ?_) (a' := ?_) (by kernel_rfl) (fun w' hw' => ?_) ?_ ?_
            rotate_left 2
            · go_simp <;> rfl
            · simp only [Act.put, List.setIfInBounds_toArray, List.set_cons_succ, List.set_cons_zero]; rfl
            refine QB.val' (v := ?_) (a' := ?_) (by kernel_rfl) (fun w' hw' => ?_) ?_ ?_
            rotate_left 2
            · go_simp <;> rfl
            · simp only [Act.put, List.setIfInBounds_toArray, List.set_cons_succ, List.set_cons_zero]; rfl
            refine QB.no' (a' := ?_) (by kernel_rfl) ?_ ?_
            rotate_left
            · simp only [Act.put, List.setIfInBounds_toArray, List.set_cons_succ, List.set_cons_zero]; rfl
            refine QB.no' (a' := ?_) (by kernel_rfl) ?_ ?_
            rotate_left
            · simp only [Act.put, List.setIfInBounds_toArray, List.set_cons_succ, List.set_cons_zero]; rfl
            refine QB.no' (a' := ?_) (by kernel_rfl) ?_ ?_
            rotate_left
            · simp only [Act.put, List.setIfInBounds_toArray, List.set_cons_succ, List.set_cons_zero]; rfl
            refine QB.no' (a' := ?_) (by kernel_rfl) ?_ ?_
            rotate_left
            · simp only [Act.put, List.setIfInBounds_toArray, List.set_cons_succ, List.set_cons_zero]; rfl
            refine QB.no' (a' := ?_) (by kernel_rfl) ?_ ?_
            rotate_left
            · simp only [Act.put, List.setIfInBounds_toArray, List.set_cons_succ, List.set_cons_zero]; rfl
            refine QB.no' (a' := ?_) (by kernel_rfl) ?_ ?_
            rotate_left
            · simp only [Act.put, List.setIfInBounds_toArray, List.set_cons_succ, List.set_cons_zero]; rfl
            refine QB.no' (a' := ?_) (by kernel_rfl) ?_ ?_
            rotate_left
            · simp only [Act.put, List.setIfInBounds_toArray, List.set_cons_succ, List.set_cons_zero]; rfl
            refine QB.no' (a' := ?_) (by kernel_rfl) ?_ ?_
            rotate_left
            · simp only [Act.put, List.setIfInBounds_toArray, List.set_cons_succ, List.set_cons_zero]; rfl
            refine QB.no' (a' := ?_) (by kernel_rfl) ?_ ?_
            rotate_left
            · simp only [Act.put, List.setIfInBounds_toArray, List.set_cons_succ, List.set_cons_zero]; rfl
            refine QB.no' (a' := ?_) (by kernel_rfl) ?_ ?_
            rotate_left
            · simp only [Act.put, List.setIfInBounds_toArray, List.set_cons_succ, List.set_cons_zero]; rfl
            refine QB.no' (a' := ?_) (by kernel_rfl) ?_ ?_
            rotate_left
            · simp only [Act.put, List.setIfInBounds_toArray, List.set_cons_succ, List.set_cons_zero]; rfl
            refine QB.val' (v := ?_) (a' := ?_) (by kernel_rfl) (fun w' hw' => ?_) ?_ ?_
            rotate_left 2
            · go_simp <;> rfl
            · simp only [Act.put, List.setIfInBounds_toArray, List.set_cons_succ, List.set_cons_zero]; rfl
            refine QB.nil' fun w' hw' => ?_
            have HB5 := Lib.hid (show Below W1.heap.size W1 w' from nextB HB4.out (Nat.le_refl _) hw')
            clear hw'
            go_wp2
            go_roundw
            case rel => exact ⟨i + 1, by omega, by simp, HB5.out⟩
            case measure => simp [intOf]; omega
          · obtain rfl : mm = some m := by
              rcases HCASE.out with ⟨_, h⟩ | h
              · exact absurd h hid
              · exact h
            obtain rfl : m = x := HX.out
            have hid' : (m.id == o.id) = false := by simpa using hid
            have hgd := fun (p q : Operand) (W : World) => guard_of (t := 83) g_mb .neq p q m.cs.toArray m.cs.toArray W
            have hne := fun (W : World) => neq_of (eq_mb m m Hmk.out Hmk.out W)
            rw [decide_eq_true rfl] at hne
            replace hgd : ∀ (p q : Operand) (W : World), (eqGuard .neq 83 p q m.val m.val).run Try.prog W = .ok () W := hgd
            replace hne : ∀ W : World, (binOp .neq 83 m.val m.val).run Try.prog W = .ok (.bool false) W := hne
            simp only [Option.isSome_some]
            clear hid
            go_wp2_with fail
            refine QB.region' mixed (by kernel_rfl) ?_
            refine QB.val' (v := ?_) (a' := ?_) (by kernel_rfl) (fun w' hw' => ?_) ?_ ?_
            rotate_left 2
            · go_simp <;> rfl
            · simp only [Act.put, List.setIfInBounds_toArray, List.set_cons_succ, List.set_cons_zero]; rfl
            refine QB.val' (v := ?_) (a' := ?_) (by kernel_rfl) (fun w' hw' => ?_) ?_ ?_
            rotate_left 2
            · have hc := FK.out w' (nextB HB3.out (Nat.le_refl _) hw'); go_simp <;> rfl
            · simp only [Act.put, List.setIfInBounds_toArray, List.set_cons_succ, List.set_cons_zero]; rfl
            refine QB.val' (v := ?_) (a' := ?_) (by kernel_rfl) (fun w' hw' => ?_) ?_ ?_
            rotate_left 2
            · go_simp <;> rfl
            · simp only [Act.put, List.setIfInBounds_toArray, List.set_cons_succ, List.set_cons_zero]; rfl
            refine QB.val' (v := ?_) (a' := ?_) (by kernel_rfl) (fun w' hw' => ?_) ?_ ?_
            rotate_left 2
            · go_simp <;> rfl
            · simp only [Act.put, List.setIfInBounds_toArray, List.set_cons_succ, List.set_cons_zero]; rfl
            refine QB.val' (v := ?_) (a' := ?_) (by kernel_rfl) (fun w' hw' => ?_) ?_ ?_
            rotate_left 2
            · go_simp <;> rfl
            · simp only [Act.put, List.setIfInBounds_toArray, List.set_cons_succ, List.set_cons_zero]; rfl
            refine QB.val' (v := ?_) (a' := ?_) (by kernel_rfl) (fun w' hw' => ?_) ?_ ?_
            rotate_left 2
            · have hc := FP.out w' (nextB HB3.out (Nat.le_refl _) hw'); go_simp <;> rfl
            · simp only [Act.put, List.setIfInBounds_toArray, List.set_cons_succ, List.set_cons_zero]; rfl
            refine QB.val' (v := ?_) (a' := ?_) (by kernel_rfl) (fun w' hw' => ?_) ?_ ?_
            rotate_left 2
            · go_simp <;> rfl
            · simp only [Act.put, List.setIfInBounds_toArray, List.set_cons_succ, List.set_cons_zero]; rfl
            refine QB.val' (v := ?_) (a' := ?_) (by kernel_rfl) (fun w' hw' => ?_) ?_ ?_
            rotate_left 2
            · go_simp <;> rfl
            · simp only [Act.put, List.setIfInBounds_toArray, List.set_cons_succ, List.set_cons_zero]; rfl
            refine QB.val' (v := ?_) (a' := ?_) (by kernel_rfl) (fun w' hw' => ?_) ?_ ?_
            rotate_left 2
            · go_simp <;> rfl
            · simp only [Act.put, List.setIfInBounds_toArray, List.set_cons_succ, List.set_cons_zero]; rfl
            refine QB.val' (v := ?_) (a' := ?_) (by kernel_rfl) (fun w' hw' => ?_) ?_ ?_
            rotate_left 2
            · have hc := FC.out w' (nextB HB3.out (Nat.le_refl _) hw'); go_simp <;> rfl
            · simp only [Act.put, List.setIfInBounds_toArray, List.set_cons_succ, List.set_cons_zero]; rfl
            refine QB.val' (v := ?_) (a' := ?_) (by kernel_rfl) (fun w' hw' => ?_) ?_ ?_
            rotate_left 2
            · go_simp <;> rfl
            · simp only [Act.put, List.setIfInBounds_toArray, List.set_cons_succ, List.set_cons_zero]; rfl
            refine QB.val' (v := ?_) (a' := ?_) (by kernel_rfl) (fun w' hw' => ?_) ?_ ?_
            rotate_left 2
            · have hc := FI.out w' (nextB HB3.out (Nat.le_refl _) hw'); go_simp <;> rfl
            · simp only [Act.put, List.setIfInBounds_toArray, List.set_cons_succ, List.set_cons_zero]; rfl
            refine QB.val' (v := ?_) (a' := ?_) (by kernel_rfl) (fun w' hw' => ?_) ?_ ?_
            rotate_left 2
            · go_simp <;> rfl
            · simp only [Act.put, List.setIfInBounds_toArray, List.set_cons_succ, List.set_cons_zero]; rfl
            refine QB.val' (v := ?_) (a' := ?_) (by kernel_rfl) (fun w' hw' => ?_) ?_ ?_
            rotate_left 2
            · go_simp <;> rfl
            · simp only [Act.put, List.setIfInBounds_toArray, List.set_cons_succ, List.set_cons_zero]; rfl
            refine QB.val' (v := ?_) (a' := ?_) (by kernel_rfl) (fun w' hw' => ?_) ?_ ?_
            rotate_left 2
            · go_simp <;> rfl
            · simp only [Act.put, List.setIfInBounds_toArray, List.set_cons_succ, List.set_cons_zero]; rfl
            refine QB.nil' fun w' hw' => ?_
            have HB4 := Lib.hid (show Below W1.heap.size W1 w' from nextB HB3.out (Nat.le_refl _) hw')
            have HB34 := Lib.hid (show Below W3.heap.size W3 w' from hw')
            clear hw'
            go_wp2_with fail
            refine QB.region' mixed (by kernel_rfl) ?_
            refine QB.val' (v := ?_) (a' := ?_) (by kernel_rfl) (fun w' hw' => ?_) ?_ ?_
            rotate_left 2
            · go_simp <;> rfl
            · simp only [Act.put, List.setIfInBounds_toArray, List.set_cons_succ, List.set_cons_zero]; rfl
            refine QB.val' (v := ?_) (a' := ?_) (by kernel_rfl) (fun w' hw' => ?_) ?_ ?_
            rotate_left 2
            · go_simp <;> rfl
            · simp only [Act.put, List.setIfInBounds_toArray, List.set_cons_succ, List.set_cons_zero]; rfl
            refine QB.val' (v := ?_) (a' := ?_) (by kernel_rfl) (fun w' hw' => ?_) ?_ ?_
            rotate_left 2
            · go_simp <;> rfl
            · simp only [Act.put, List.setIfInBounds_toArray, List.set_cons_succ, List.set_cons_zero]; rfl
            refine QB.val' (v := ?_) (a' := ?_) (by kernel_rfl) (fun w' hw' => ?_) ?_ ?_
            rotate_left 2
            · go_simp <;> rfl
            · simp only [Act.put, List.setIfInBounds_toArray, List.set_cons_succ, List.set_cons_zero]; rfl
            refine QB.val' (v := ?_) (a' := ?_) (by kernel_rfl) (fun w' hw' => ?_) ?_ ?_
            rotate_left 2
            · go_simp <;> rfl
            · simp only [Act.put, List.setIfInBounds_toArray, List.set_cons_succ, List.set_cons_zero]; rfl
            refine QB.val' (v := ?_) (a' := ?_) (by kernel_rfl) (fun w' hw' => ?_) ?_ ?_
            rotate_left 2
            · go_simp <;> rfl
            · simp only [Act.put, List.setIfInBounds_toArray, List.set_cons_succ, List.set_cons_zero]; rfl
            refine QB.ld' (a' := ?_) (by kernel_rfl) 83 rfl rfl (fun w' hw' => FM8.out w' (nextB HB34.out (Nat.le_refl _) hw')) ?_ ?_
            rotate_left
            · simp only [Act.put, List.setIfInBounds_toArray, List.set_cons_succ, List.set_cons_zero]; rfl
            refine QB.val' (v := ?_) (a' := ?_) (by kernel_rfl) (fun w' hw' => ?_) ?_ ?_
            rotate_left 2
            · go_simp <;> rfl
            · simp only [Act.put, List.setIfInBounds_toArray, List.set_cons_succ, List.set_cons_zero]; rfl
            refine QB.val' (v := ?_) (a' := ?_) (by kernel_rfl) (fun w' hw' => ?_) ?_ ?_
            rotate_left 2
            · have hc := FP.out w' (nextB HB4.out (Nat.le_refl _) hw'); go_simp <;> rfl
            · simp only [Act.put, List.setIfInBounds_toArray, List.set_cons_succ, List.set_cons_zero]; rfl
            refine QB.val' (v := ?_) (a' := ?_) (by kernel_rfl) (fun w' hw' => ?_) ?_ ?_
            rotate_left 2
            · go_simp <;> rfl
            · simp only [Act.put, List.setIfInBounds_toArray, List.set_cons_succ, List.set_cons_zero]; rfl
            refine QB.val' (v := ?_) (a' := ?_) (by kernel_rfl) (fun w' hw' => ?_) ?_ ?_
            rotate_left 2
            · go_simp <;> rfl
            · simp only [Act.put, List.setIfInBounds_toArray, List.set_cons_succ, List.set_cons_zero]; rfl
            refine QB.ld' (a' := ?_) (by kernel_rfl) 83 rfl rfl (fun w' hw' => FX.out w' (nextB HB4.out (Nat.le_refl _) hw')) ?_ ?_
            rotate_left
            · simp only [Act.put, List.setIfInBounds_toArray, List.set_cons_succ, List.set_cons_zero]; rfl
            refine QB.val' (v := ?_) (a' := ?_) (by kernel_rfl) (fun w' hw' => ?_) ?_ ?_
            rotate_left 2
            · go_simp <;> rfl
            · simp only [Act.put, List.setIfInBounds_toArray, List.set_cons_succ, List.set_cons_zero]; rfl
            refine QB.val' (v := ?_) (a' := ?_) (by kernel_rfl) (fun w' hw' => ?_) ?_ ?_
            rotate_left 2
            · go_simp <;> rfl
            · simp only [Act.put, List.setIfInBounds_toArray, List.set_cons_succ, List.set_cons_zero]; rfl
            refine QB.val' (v := ?_) (a' := ?_) (by kernel_rfl) (fun w' hw' => ?_) ?_ ?_
            rotate_left 2
            · go_simp <;> rfl
            · simp only [Act.put, List.setIfInBounds_toArray, List.set_cons_succ, List.set_cons_zero]; rfl
            refine QB.nil' fun w' hw' => ?_
            have HB5 := Lib.hid (show Below W1.heap.size W1 w' from nextB HB4.out (Nat.le_refl _) hw')
            clear hw'
            go_wp2
            go_roundw
            case rel => exact ⟨i + 1, by omega, by simp, HB5.out⟩
            case measure => simp [intOf]; omega
        · have hk3' : decide (o.kind ≤ 3) = false := decide_eq_false hk3
          obtain rfl : mm = some m := by
            rcases HCASE.out with ⟨h, _⟩ | h
            · exact absurd h hk3
            · exact h
          obtain rfl : m = x := HX.out
          have hgd := fun (p q : Operand) (W : World) => guard_of (t := 83) g_mb .neq p q m.cs.toArray m.cs.toArray W
          have hne := fun (W : World) => neq_of (eq_mb m m Hmk.out Hmk.out W)
          rw [decide_eq_true rfl] at hne
          replace hgd : ∀ (p q : Operand) (W : World), (eqGuard .neq 83 p q m.val m.val).run Try.prog W = .ok () W := hgd
          replace hne : ∀ W : World, (binOp .neq 83 m.val m.val).run Try.prog W = .ok (.bool false) W := hne
          simp only [Option.isSome_some]
          go_wp2_with fail
          refine QB.region' mixed (by kernel_rfl) ?_
          refine QB.val' (v := ?_) (a' := ?_) (by kernel_rfl) (fun w' hw' => ?_) ?_ ?_
          rotate_left 2
          · go_simp <;> rfl
          · simp only [Act.put, List.setIfInBounds_toArray, List.set_cons_succ, List.set_cons_zero]; rfl
          refine QB.val' (v := ?_) (a' := ?_) (by kernel_rfl) (fun w' hw' => ?_) ?_ ?_
          rotate_left 2
          · have hc := FK.out w' (nextB HB3.out (Nat.le_refl _) hw'); go_simp <;> rfl
          · simp only [Act.put, List.setIfInBounds_toArray, List.set_cons_succ, List.set_cons_zero]; rfl
          refine QB.val' (v := ?_) (a' := ?_) (by kernel_rfl) (fun w' hw' => ?_) ?_ ?_
          rotate_left 2
          · go_simp <;> rfl
          · simp only [Act.put, List.setIfInBounds_toArray, List.set_cons_succ, List.set_cons_zero]; rfl
          refine QB.val' (v := ?_) (a' := ?_) (by kernel_rfl) (fun w' hw' => ?_) ?_ ?_
          rotate_left 2
          · go_simp <;> rfl
          · simp only [Act.put, List.setIfInBounds_toArray, List.set_cons_succ, List.set_cons_zero]; rfl
          refine QB.no' (a' := ?_) (by kernel_rfl) ?_ ?_
          rotate_left
          · simp only [Act.put, List.setIfInBounds_toArray, List.set_cons_succ, List.set_cons_zero]; rfl
          refine QB.no' (a' := ?_) (by kernel_rfl) ?_ ?_
          rotate_left
          · simp only [Act.put, List.setIfInBounds_toArray, List.set_cons_succ, List.set_cons_zero]; rfl
          refine QB.no' (a' := ?_) (by kernel_rfl) ?_ ?_
          rotate_left
          · simp only [Act.put, List.setIfInBounds_toArray, List.set_cons_succ, List.set_cons_zero]; rfl
          refine QB.no' (a' := ?_) (by kernel_rfl) ?_ ?_
          rotate_left
          · simp only [Act.put, List.setIfInBounds_toArray, List.set_cons_succ, List.set_cons_zero]; rfl
          refine QB.no' (a' := ?_) (by kernel_rfl) ?_ ?_
          rotate_left
          · simp only [Act.put, List.setIfInBounds_toArray, List.set_cons_succ, List.set_cons_zero]; rfl
          refine QB.no' (a' := ?_) (by kernel_rfl) ?_ ?_
          rotate_left
          · simp only [Act.put, List.setIfInBounds_toArray, List.set_cons_succ, List.set_cons_zero]; rfl
          refine QB.no' (a' := ?_) (by kernel_rfl) ?_ ?_
          rotate_left
          · simp only [Act.put, List.setIfInBounds_toArray, List.set_cons_succ, List.set_cons_zero]; rfl
          refine QB.no' (a' := ?_) (by kernel_rfl) ?_ ?_
          rotate_left
          · simp only [Act.put, List.setIfInBounds_toArray, List.set_cons_succ, List.set_cons_zero]; rfl
          refine QB.no' (a' := ?_) (by kernel_rfl) ?_ ?_
          rotate_left
          · simp only [Act.put, List.setIfInBounds_toArray, List.set_cons_succ, List.set_cons_zero]; rfl
          refine QB.val' (v := ?_) (a' := ?_) (by kernel_rfl) (fun w' hw' => ?_) ?_ ?_
          rotate_left 2
          · go_simp <;> rfl
          · simp only [Act.put, List.setIfInBounds_toArray, List.set_cons_succ, List.set_cons_zero]; rfl
          refine QB.val' (v := ?_) (a' := ?_) (by kernel_rfl) (fun w' hw' => ?_) ?_ ?_
          rotate_left 2
          · go_simp <;> rfl
          · simp only [Act.put, List.setIfInBounds_toArray, List.set_cons_succ, List.set_cons_zero]; rfl
          refine QB.nil' fun w' hw' => ?_
          have HB4 := Lib.hid (show Below W1.heap.size W1 w' from nextB HB3.out (Nat.le_refl _) hw')
          have HB34 := Lib.hid (show Below W3.heap.size W3 w' from hw')
          clear hw'
          go_wp2_with fail
          refine QB.region' mixed (by kernel_rfl) ?_
          refine QB.val' (v := ?_) (a' := ?_) (by kernel_rfl) (fun w' hw' => ?_) ?_ ?_
          rotate_left 2
          · go_simp <;> rfl
          · simp only [Act.put, List.setIfInBounds_toArray, List.set_cons_succ, List.set_cons_zero]; rfl
          refine QB.val' (v := ?_) (a' := ?_) (by kernel_rfl) (fun w' hw' => ?_) ?_ ?_
          rotate_left 2
          · go_simp <;> rfl
          · simp only [Act.put, List.setIfInBounds_toArray, List.set_cons_succ, List.set_cons_zero]; rfl
          refine QB.val' (v := ?_) (a' := ?_) (by kernel_rfl) (fun w' hw' => ?_) ?_ ?_
          rotate_left 2
          · go_simp <;> rfl
          · simp only [Act.put, List.setIfInBounds_toArray, List.set_cons_succ, List.set_cons_zero]; rfl
          refine QB.val' (v := ?_) (a' := ?_) (by kernel_rfl) (fun w' hw' => ?_) ?_ ?_
          rotate_left 2
          · go_simp <;> rfl
          · simp only [Act.put, List.setIfInBounds_toArray, List.set_cons_succ, List.set_cons_zero]; rfl
          refine QB.val' (v := ?_) (a' := ?_) (by kernel_rfl) (fun w' hw' => ?_) ?_ ?_
          rotate_left 2
          · go_simp <;> rfl
          · simp only [Act.put, List.setIfInBounds_toArray, List.set_cons_succ, List.set_cons_zero]; rfl
          refine QB.val' (v := ?_) (a' := ?_) (by kernel_rfl) (fun w' hw' => ?_) ?_ ?_
          rotate_left 2
          · go_simp <;> rfl
          · simp only [Act.put, List.setIfInBounds_toArray, List.set_cons_succ, List.set_cons_zero]; rfl
          refine QB.ld' (a' := ?_) (by kernel_rfl) 83 rfl rfl (fun w' hw' => FM8.out w' (nextB HB34.out (Nat.le_refl _) hw')) ?_ ?_
          rotate_left
          · simp only [Act.put, List.setIfInBounds_toArray, List.set_cons_succ, List.set_cons_zero]; rfl
          refine QB.val' (v := ?_) (a' := ?_) (by kernel_rfl) (fun w' hw' => ?_) ?_ ?_
          rotate_left 2
          · go_simp <;> rfl
          · simp only [Act.put, List.setIfInBounds_toArray, List.set_cons_succ, List.set_cons_zero]; rfl
          refine QB.val' (v := ?_) (a' := ?_) (by kernel_rfl) (fun w' hw' => ?_) ?_ ?_
          rotate_left 2
          · have hc := FP.out w' (nextB HB4.out (Nat.le_refl _) hw'); go_simp <;> rfl
          · simp only [Act.put, List.setIfInBounds_toArray, List.set_cons_succ, List.set_cons_zero]; rfl
          refine QB.val' (v := ?_) (a' := ?_) (by kernel_rfl) (fun w' hw' => ?_) ?_ ?_
          rotate_left 2
          · go_simp <;> rfl
          · simp only [Act.put, List.setIfInBounds_toArray, List.set_cons_succ, List.set_cons_zero]; rfl
          refine QB.val' (v := ?_) (a' := ?_) (by kernel_rfl) (fun w' hw' => ?_) ?_ ?_
          rotate_left 2
          · go_simp <;> rfl
          · simp only [Act.put, List.setIfInBounds_toArray, List.set_cons_succ, List.set_cons_zero]; rfl
          refine QB.ld' (a' := ?_) (by kernel_rfl) 83 rfl rfl (fun w' hw' => FX.out w' (nextB HB4.out (Nat.le_refl _) hw')) ?_ ?_
          rotate_left
          · simp only [Act.put, List.setIfInBounds_toArray, List.set_cons_succ, List.set_cons_zero]; rfl
          refine QB.val' (v := ?_) (a' := ?_) (by kernel_rfl) (fun w' hw' => ?_) ?_ ?_
          rotate_left 2
          · go_simp <;> rfl
          · simp only [Act.put, List.setIfInBounds_toArray, List.set_cons_succ, List.set_cons_zero]; rfl
          refine QB.val' (v := ?_) (a' := ?_) (by kernel_rfl) (fun w' hw' => ?_) ?_ ?_
          rotate_left 2
          · go_simp <;> rfl
          · simp only [Act.put, List.setIfInBounds_toArray, List.set_cons_succ, List.set_cons_zero]; rfl
          refine QB.val' (v := ?_) (a' := ?_) (by kernel_rfl) (fun w' hw' => ?_) ?_ ?_
          rotate_left 2
          · go_simp <;> rfl
          · simp only [Act.put, List.setIfInBounds_toArray, List.set_cons_succ, List.set_cons_zero]; rfl
          refine QB.nil' fun w' hw' => ?_
          have HB5 := Lib.hid (show Below W1.heap.size W1 w' from nextB HB4.out (Nat.le_refl _) hw')
          clear hw'
          go_wp2
          go_roundw
          case rel => exact ⟨i + 1, by omega, by simp, HB5.out⟩
          case measure => simp [intOf]; omega
    · have hlt' : ¬ (i : Int) < (a.ps.length : Int) := by omega
      obtain rfl : i = a.ps.length := by omega
      have HB0 := HB
      clear HB hi hi2 hlt
      go_wp2
      go_loopw [11] (fun iv wr => ∃ i : Nat, i ≤ a.rs.length ∧ iv = .int .i64 (i : Int) ∧ Below W1.heap.size W1 wr) (fun iv _ => a.rs.length - (intOf iv).toNat)
      case atStart => exact ⟨0, Nat.zero_le _, rfl, HB0.out⟩
      case round =>
        obtain ⟨i, hi, rfl, hb⟩ := hrel
        have HB := Lib.hid hb
        clear hb
        have hi2 : (i : Int) ≤ 1000 := by have := HN2.out; omega
        have k1 := FR.out wr HB.out
        by_cases hlt : i < a.rs.length
        · have hlt' : (i : Int) < (a.rs.length : Int) := by omega
          obtain ⟨r, hr⟩ : ∃ r, a.rs[i]? = some r := ⟨_, List.getElem?_eq_getElem hlt⟩
          have HCASE := Lib.hid (HR.out.2 r (List.mem_of_getElem? hr))
          obtain ⟨b0, off, e, _, _, hl⟩ := FTR.out i r hr wr HB.out
          subst e
          have hld := Lib.hid hl
          clear hr hl
          have main : ∀ t : Bool, (o.kind = 3 ∧ r.peer = o.id ∧ t = true) ∨ (o.kind = 3 ∧ ¬ r.peer = o.id ∧ t = false) ∨ (o.kind ≠ 3 ∧ 4 ≤ o.kind ∧ r.addr = o.addr ∧ r.bits = o.bits ∧ t = true) ∨ (o.kind ≠ 3 ∧ 4 ≤ o.kind ∧ r.addr = o.addr ∧ ¬ r.bits = o.bits ∧ t = false) ∨ (o.kind ≠ 3 ∧ 4 ≤ o.kind ∧ ¬ r.addr = o.addr ∧ t = false) ∨ (o.kind ≠ 3 ∧ ¬ 4 ≤ o.kind ∧ t = false) → (t = true ∨ r ∈ b.rs) := by
            intro t h
            have := HCASE.out
            rcases h with h | h | h | h | h | h
            · exact .inl h.2.2
            · rcases this with h2 | h2 | h2
              · exact absurd h2.2 h.2.1
              · omega
              · exact .inr h2
            · exact .inl h.2.2.2.2
            · rcases this with h2 | h2 | h2
              · exact absurd h2.1 h.1
              · exact absurd h2.2.2 h.2.2.2.1
              · exact .inr h2
            · rcases this with h2 | h2 | h2
              · exact absurd h2.1 h.1
              · exact absurd h2.2.1 h.2.2.1
              · exact .inr h2
            · rcases this with h2 | h2 | h2
              · exact absurd h2.1 h.1
              · exact absurd h2.1 h.2.1
              · exact .inr h2
          obtain ⟨t, ht⟩ : ∃ t : Bool, (o.kind = 3 ∧ r.peer = o.id ∧ t = true) ∨ (o.kind = 3 ∧ ¬ r.peer = o.id ∧ t = false) ∨ (o.kind ≠ 3 ∧ 4 ≤ o.kind ∧ r.addr = o.addr ∧ r.bits = o.bits ∧ t = true) ∨ (o.kind ≠ 3 ∧ 4 ≤ o.kind ∧ r.addr = o.addr ∧ ¬ r.bits = o.bits ∧ t = false) ∨ (o.kind ≠ 3 ∧ 4 ≤ o.kind ∧ ¬ r.addr = o.addr ∧ t = false) ∨ (o.kind ≠ 3 ∧ ¬ 4 ≤ o.kind ∧ t = false) := by
            by_cases h3 : o.kind = 3
            · by_cases hp : r.peer = o.id
              · exact ⟨true, .inl ⟨h3, hp, rfl⟩⟩
              · exact ⟨false, .inr (.inl ⟨h3, hp, rfl⟩)⟩
            · by_cases h4 : 4 ≤ o.kind
              · by_cases ha : r.addr = o.addr
                · by_cases hb : r.bits = o.bits
                  · exact ⟨true, .inr (.inr (.inl ⟨h3, h4, ha, hb, rfl⟩))⟩
                  · exact ⟨false, .inr (.inr (.inr (.inl ⟨h3, h4, ha, hb, rfl⟩)))⟩
                · exact ⟨false, .inr (.inr (.inr (.inr (.inl ⟨h3, h4, ha, rfl⟩))))⟩
              · exact ⟨false, .inr (.inr (.inr (.inr (.inr ⟨h3, h4, rfl⟩))))⟩
          have HMAIN := Lib.hid (main t ht)
          have HT := Lib.hid ht
          clear main ht HCASE
          have FLD := Lib.hid (fun (W : World) (q : Nat) (h : Row W q r.cs 87) => show (loadVar 87 ⟨q, 0, none⟩).run Try.prog W = .ok r.val W from Pol.run_loadVar_sub (P := Try.prog) (off := 0) (n := 3) W h Try.underlying87 rfl (by kernel_rfl) (by simp [Rt.cs]))
          have HLD := hld
          clear hld
          rcases HT.out with ⟨h3, hp, rfl⟩ | ⟨h3, hp, rfl⟩ | ⟨h3, h4, ha, hb, rfl⟩ | ⟨h3, h4, ha, hb, rfl⟩ | ⟨h3, h4, ha, rfl⟩ | ⟨h3, h4, rfl⟩
          · have H3 := Lib.hid h3
            have HP := Lib.hid hp
            clear h3 hp
            go_wp2_with (first
              | (show wpList _ _ _ (⟨some 74, _, _, _, _, _⟩ :: _) _ _; refine QB.wpList_ld 87 rfl rfl HLD.out rfl ?_)
              | (show wpList _ _ _ (⟨some 12, _, _, _, _, _⟩ :: _) _ _; refine QB.wpList_alloc rfl 87 rfl zero_rt ?_; intro W2 hr1 hb1; have HRn := Lib.hid (show Row W2 wr.heap.size (Rt.cs ⟨0, 0, 0⟩) 87 from hr1); have HBn := Lib.hid hb1; clear hr1 hb1)
              | (show wpList _ _ _ (⟨none, _, _, _, _, _⟩ :: _) _ _
                 refine wpList_storeRow rfl 87 (.tmp 12) (.tmp 74) rfl rfl (cs := r.cs) rfl HRn.out (by kernel_rfl) rfl rfl r.one ?_
                 refine QB.name fun W hW => ?_
                 have HRW := Lib.hid (show Row W wr.heap.size r.cs 87 from hW ▸ HRn.out.setRow r.cs)
                 have HBW := Lib.hid (show Below W1.heap.size W1 W from nextB HB.out (Nat.le_refl _) (hW ▸ below_setRow HBn.out (Nat.le_refl _) _))
                 have ck := FK.out W HBW.out
                 have ci := FI.out W HBW.out
                 have ca := FA.out W HBW.out
                 have cb := FBi.out W HBW.out
                 have r0 := HRW.out.cell (i := 0) rfl
                 have r1 := HRW.out.cell (i := 1) rfl
                 have r2 := HRW.out.cell (i := 2) rfl
                 have FL12 := Lib.hid (fun w' (h : Below W.heap.size W w') => FLD.out w' _ (HRW.out.below h HRW.out.lt))
                 rw [H3.out] at ck; rw [HP.out] at r2
                 clear hW HRn HBn
                 refine Halt1.to ?_)
              | fail)
            unfold Halt1
            go_wp2
            clear ci ca cb r0 r1 r2 ck k1
            go_loopw [14, 15] (fun fv jv wq => ∃ j : Nat, j ≤ b.rs.length ∧ jv = .int .i64 (j : Int) ∧ fv = .bool (true || (b.rs.take j).any (fun x => decide (x = r))) ∧ Below W.heap.size W wq) (fun _ jv _ => b.rs.length - (intOf jv).toNat)
            case atStart => exact ⟨0, Nat.zero_le _, rfl, rfl, Below.refl _ _⟩
            case round =>
              obtain ⟨j, hj, rfl, rfl, hb⟩ := hrel
              have HBq := Lib.hid hb
              have HB2 := Lib.hid (nextB HBW.out (Nat.le_refl _) hb)
              clear hb
              have hj2 : (j : Int) ≤ 1000 := by have := HN4.out; omega
              have k3 := GR.out _ HB2.out
              obtain ⟨f, hf⟩ : ∃ f, (true || (b.rs.take j).any (fun x => decide (x = r))) = f := ⟨_, rfl⟩
              rw [hf]
              have HF := Lib.hid hf
              clear hf
              by_cases hlt2 : j < b.rs.length
              · have hlt2' : (j : Int) < (b.rs.length : Int) := by omega
                obtain ⟨y, hy⟩ : ∃ y, b.rs[j]? = some y := ⟨_, List.getElem?_eq_getElem hlt2⟩
                obtain ⟨b1, off1, e, _, _, _⟩ := FTS.out j y hy _ HB2.out
                subst e
                have HY := Lib.hid hy
                have FY := Lib.hid (fun w' (h : Below W1.heap.size W1 w') => show (loadVar 87 ⟨b1, off1 + j * 3, none⟩).run Try.prog w' = .ok y.val w' from by
                  obtain ⟨b', off', e, _, _, hl⟩ := FTS.out j y HY.out w' h
                  cases e
                  exact hl)
                clear hy
                cases f with
                | true =>
                  go_wp2_with fail
                  refine QB.region' mixed (by kernel_rfl) ?_
                  refine QB.val' (v := ?_) (a' := ?_) (by kernel_rfl) (fun w' hw' => ?_) ?_ ?_
                  rotate_left 2
                  · go_simp <;> rfl
                  · simp only [Act.put, List.setIfInBounds_toArray, List.set_cons_succ, List.set_cons_zero]; rfl
                  refine QB.val' (v := ?_) (a' := ?_) (by kernel_rfl) (fun w' hw' => ?_) ?_ ?_
                  rotate_left 2
                  · go_simp <;> rfl
                  · simp only [Act.put, List.setIfInBounds_toArray, List.set_cons_succ, List.set_cons_zero]; rfl
                  refine QB.no' (a' := ?_) (by kernel_rfl) ?_ ?_
                  rotate_left
                  · simp only [Act.put, List.setIfInBounds_toArray, List.set_cons_succ, List.set_cons_zero]; rfl
                  refine QB.no' (a' := ?_) (by kernel_rfl) ?_ ?_
                  rotate_left
                  · simp only [Act.put, List.setIfInBounds_toArray, List.set_cons_succ, List.set_cons_zero]; rfl
                  refine QB.no' (a' := ?_) (by kernel_rfl) ?_ ?_
                  rotate_left
                  · simp only [Act.put, List.setIfInBounds_toArray, List.set_cons_succ, List.set_cons_zero]; rfl
                  refine QB.no' (a' := ?_) (by kernel_rfl) ?_ ?_
                  rotate_left
                  · simp only [Act.put, List.setIfInBounds_toArray, List.set_cons_succ, List.set_cons_zero]; rfl
                  refine QB.no' (a' := ?_) (by kernel_rfl) ?_ ?_
                  rotate_left
                  · simp only [Act.put, List.setIfInBounds_toArray, List.set_cons_succ, List.set_cons_zero]; rfl
                  refine QB.no' (a' := ?_) (by kernel_rfl) ?_ ?_
                  rotate_left
                  · simp only [Act.put, List.setIfInBounds_toArray, List.set_cons_succ, List.set_cons_zero]; rfl
                  refine QB.no' (a' := ?_) (by kernel_rfl) ?_ ?_
                  rotate_left
                  · simp only [Act.put, List.setIfInBounds_toArray, List.set_cons_succ, List.set_cons_zero]; rfl
                  refine QB.val' (v := ?_) (a' := ?_) (by kernel_rfl) (fun w' hw' => ?_) ?_ ?_
                  rotate_left 2
                  · go_simp <;> rfl
                  · simp only [Act.put, List.setIfInBounds_toArray, List.set_cons_succ, List.set_cons_zero]; rfl
                  refine QB.val' (v := ?_) (a' := ?_) (by kernel_rfl) (fun w' hw' => ?_) ?_ ?_
                  rotate_left 2
                  · go_simp <;> rfl
                  · simp only [Act.put, List.setIfInBounds_toArray, List.set_cons_succ, List.set_cons_zero]; rfl
                  refine QB.nil' fun w' hw' => ?_
                  have HB6 := Lib.hid (nextB HBq.out (Nat.le_refl _) hw')
                  clear hw'
                  go_wp2
                  go_roundw
                  case rel => exact ⟨j + 1, by omega, by simp, by rw [any_step HY.out, ← Bool.or_assoc, HF.out, Bool.true_or], HB6.out⟩
                  case measure => simp [intOf]; omega
                | false =>
                  obtain ⟨z2, hz2⟩ : ∃ z2, decide (y = r) = z2 := ⟨_, rfl⟩
                  have hgd := fun (p q : Operand) (W : World) => guard_of (t := 87) g_rt .eql p q y.cs.toArray r.cs.toArray W
                  have hne := fun (W : World) => eql_of (eq_rt y r W)
                  rw [hz2] at hne
                  have HZ := Lib.hid hz2
                  clear hz2
                  replace hgd : ∀ (p q : Operand) (W : World), (eqGuard .eql 87 p q y.val r.val).run Try.prog W = .ok () W := hgd
                  replace hne : ∀ W : World, (binOp .eql 87 y.val r.val).run Try.prog W = .ok (.bool z2) W := hne
                  go_wp2_with fail
                  refine QB.region' mixed (by kernel_rfl) ?_
                  refine QB.val' (v := ?_) (a' := ?_) (by kernel_rfl) (fun w' hw' => ?_) ?_ ?_
                  rotate_left 2
                  · go_simp <;> rfl
                  · simp only [Act.put, List.setIfInBounds_toArray, List.set_cons_succ, List.set_cons_zero]; rfl
                  refine QB.val' (v := ?_) (a' := ?_) (by kernel_rfl) (fun w' hw' => ?_) ?_ ?_
                  rotate_left 2
                  · go_simp <;> rfl
                  · simp only [Act.put, List.setIfInBounds_toArray, List.set_cons_succ, List.set_cons_zero]; rfl
                  refine QB.val' (v := ?_) (a' := ?_) (by kernel_rfl) (fun w' hw' => ?_) ?_ ?_
                  rotate_left 2
                  · go_simp <;> rfl
                  · simp only [Act.put, List.setIfInBounds_toArray, List.set_cons_succ, List.set_cons_zero]; rfl
                  refine QB.val' (v := ?_) (a' := ?_) (by kernel_rfl) (fun w' hw' => ?_) ?_ ?_
                  rotate_left 2
                  · have hc := GR.out w' (nextB HB2.out (Nat.le_refl _) hw'); go_simp <;> rfl
                  · simp only [Act.put, List.setIfInBounds_toArray, List.set_cons_succ, List.set_cons_zero]; rfl
                  refine QB.val' (v := ?_) (a' := ?_) (by kernel_rfl) (fun w' hw' => ?_) ?_ ?_
                  rotate_left 2
                  · go_simp <;> rfl
                  · simp only [Act.put, List.setIfInBounds_toArray, List.set_cons_succ, List.set_cons_zero]; rfl
                  refine QB.val' (v := ?_) (a' := ?_) (by kernel_rfl) (fun w' hw' => ?_) ?_ ?_
                  rotate_left 2
                  · go_simp <;> rfl
                  · simp only [Act.put, List.setIfInBounds_toArray, List.set_cons_succ, List.set_cons_zero]; rfl
                  refine QB.ld' (a' := ?_) (by kernel_rfl) 87 rfl rfl (fun w' hw' => FY.out w' (nextB HB2.out (Nat.le_refl _) hw')) ?_ ?_
                  rotate_left
                  · simp only [Act.put, List.setIfInBounds_toArray, List.set_cons_succ, List.set_cons_zero]; rfl
                  refine QB.ld' (a' := ?_) (by kernel_rfl) 87 rfl rfl (fun w' hw' => FL12.out w' (nextB HBq.out (Nat.le_refl _) hw')) ?_ ?_
                  rotate_left
                  · simp only [Act.put, List.setIfInBounds_toArray, List.set_cons_succ, List.set_cons_zero]; rfl
                  refine QB.val' (v := ?_) (a' := ?_) (by kernel_rfl) (fun w' hw' => ?_) ?_ ?_
                  rotate_left 2
                  · go_simp <;> rfl
                  · simp only [Act.put, List.setIfInBounds_toArray, List.set_cons_succ, List.set_cons_zero]; rfl
                  refine QB.val' (v := ?_) (a' := ?_) (by kernel_rfl) (fun w' hw' => ?_) ?_ ?_
                  rotate_left 2
                  · go_simp <;> rfl
                  · simp only [Act.put, List.setIfInBounds_toArray, List.set_cons_succ, List.set_cons_zero]; rfl
                  refine QB.val' (v := ?_) (a' := ?_) (by kernel_rfl) (fun w' hw' => ?_) ?_ ?_
                  rotate_left 2
                  · go_simp <;> rfl
                  · simp only [Act.put, List.setIfInBounds_toArray, List.set_cons_succ, List.set_cons_zero]; rfl
                  refine QB.nil' fun w' hw' => ?_
                  have HB6 := Lib.hid (nextB HBq.out (Nat.le_refl _) hw')
                  clear hw'
                  go_wp2
                  go_roundw
                  case rel => exact ⟨j + 1, by omega, by simp, by rw [any_step HY.out, ← Bool.or_assoc, HF.out, Bool.false_or, HZ.out], HB6.out⟩
                  case measure => simp [intOf]; omega
              · have hlt2' : ¬ (j : Int) < (b.rs.length : Int) := by omega
                obtain rfl : j = b.rs.length := by omega
                obtain rfl : f = true := by
                  rw [← HF.out, List.take_length]
                  rcases HMAIN.out with h | h
                  · first
                      | exact Bool.true_or _
                      | cases h
                      | exact h.elim
                  · rw [Bool.or_eq_true]
                    exact .inr (List.any_eq_true.2 ⟨r, h, by simp⟩)
                have HB7 := Lib.hid (nextB HBW.out (Nat.le_refl _) HBq.out)
                go_wp2
                go_roundw
                case rel => exact ⟨i + 1, by omega, by simp, HB7.out⟩
                case measure => simp [intOf]; omega
          · have e1 : (r.peer == o.id) = false := by simpa using hp
            have H3 := Lib.hid h3
            clear h3 hp
            go_wp2_with (first
              | (show wpList _ _ _ (⟨some 74, _, _, _, _, _⟩ :: _) _ _; refine QB.wpList_ld 87 rfl rfl HLD.out rfl ?_)
              | (show wpList _ _ _ (⟨some 12, _, _, _, _, _⟩ :: _) _ _; refine QB.wpList_alloc rfl 87 rfl zero_rt ?_; intro W2 hr1 hb1; have HRn := Lib.hid (show Row W2 wr.heap.size (Rt.cs ⟨0, 0, 0⟩) 87 from hr1); have HBn := Lib.hid hb1; clear hr1 hb1)
              | (show wpList _ _ _ (⟨none, _, _, _, _, _⟩ :: _) _ _
                 refine wpList_storeRow rfl 87 (.tmp 12) (.tmp 74) rfl rfl (cs := r.cs) rfl HRn.out (by kernel_rfl) rfl rfl r.one ?_
                 refine QB.name fun W hW => ?_
                 have HRW := Lib.hid (show Row W wr.heap.size r.cs 87 from hW ▸ HRn.out.setRow r.cs)
                 have HBW := Lib.hid (show Below W1.heap.size W1 W from nextB HB.out (Nat.le_refl _) (hW ▸ below_setRow HBn.out (Nat.le_refl _) _))
                 have ck := FK.out W HBW.out
                 have ci := FI.out W HBW.out
                 have ca := FA.out W HBW.out
                 have cb := FBi.out W HBW.out
                 have r0 := HRW.out.cell (i := 0) rfl
                 have r1 := HRW.out.cell (i := 1) rfl
                 have r2 := HRW.out.cell (i := 2) rfl
                 have FL12 := Lib.hid (fun w' (h : Below W.heap.size W w') => FLD.out w' _ (HRW.out.below h HRW.out.lt))
                 rw [H3.out] at ck
                 clear hW HRn HBn
                 refine Halt1.to ?_)
              | fail)
            unfold Halt1
            go_wp2
            clear ci ca cb r0 r1 r2 ck k1
            go_loopw [14, 15] (fun fv jv wq => ∃ j : Nat, j ≤ b.rs.length ∧ jv = .int .i64 (j : Int) ∧ fv = .bool (false || (b.rs.take j).any (fun x => decide (x = r))) ∧ Below W.heap.size W wq) (fun _ jv _ => b.rs.length - (intOf jv).toNat)
            case atStart => exact ⟨0, Nat.zero_le _, rfl, rfl, Below.refl _ _⟩
            case round =>
              obtain ⟨j, hj, rfl, rfl, hb⟩ := hrel
              have HBq := Lib.hid hb
              have HB2 := Lib.hid (nextB HBW.out (Nat.le_refl _) hb)
              clear hb
              have hj2 : (j : Int) ≤ 1000 := by have := HN4.out; omega
              have k3 := GR.out _ HB2.out
              obtain ⟨f, hf⟩ : ∃ f, (false || (b.rs.take j).any (fun x => decide (x = r))) = f := ⟨_, rfl⟩
              rw [hf]
              have HF := Lib.hid hf
              clear hf
              by_cases hlt2 : j < b.rs.length
              · have hlt2' : (j : Int) < (b.rs.length : Int) := by omega
                obtain ⟨y, hy⟩ : ∃ y, b.rs[j]? = some y := ⟨_, List.getElem?_eq_getElem hlt2⟩
                obtain ⟨b1, off1, e, _, _, _⟩ := FTS.out j y hy _ HB2.out
                subst e
                have HY := Lib.hid hy
                have FY := Lib.hid (fun w' (h : Below W1.heap.size W1 w') => show (loadVar 87 ⟨b1, off1 + j * 3, none⟩).run Try.prog w' = .ok y.val w' from by
                  obtain ⟨b', off', e, _, _, hl⟩ := FTS.out j y HY.out w' h
                  cases e
                  exact hl)
                clear hy
                cases f with
                | true =>
                  go_wp2_with fail
                  refine QB.region' mixed (by kernel_rfl) ?_
                  refine QB.val' (v := ?_) (a' := ?_) (by kernel_rfl) (fun w' hw' => ?_) ?_ ?_
                  rotate_left 2
                  · go_simp <;> rfl
                  · simp only [Act.put, List.setIfInBounds_toArray, List.set_cons_succ, List.set_cons_zero]; rfl
                  refine QB.val' (v := ?_) (a' := ?_) (by kernel_rfl) (fun w' hw' => ?_) ?_ ?_
                  rotate_left 2
                  · go_simp <;> rfl
                  · simp only [Act.put, List.setIfInBounds_toArray, List.set_cons_succ, List.set_cons_zero]; rfl
                  refine QB.no' (a' := ?_) (by kernel_rfl) ?_ ?_
                  rotate_left
                  · simp only [Act.put, List.setIfInBounds_toArray, List.set_cons_succ, List.set_cons_zero]; rfl
                  refine QB.no' (a' := ?_) (by kernel_rfl) ?_ ?_
                  rotate_left
                  · simp only [Act.put, List.setIfInBounds_toArray, List.set_cons_succ, List.set_cons_zero]; rfl
                  refine QB.no' (a' := ?_) (by kernel_rfl) ?_ ?_
                  rotate_left
                  · simp only [Act.put, List.setIfInBounds_toArray, List.set_cons_succ, List.set_cons_zero]; rfl
                  refine QB.no' (a' := ?_) (by kernel_rfl) ?_ ?_
                  rotate_left
                  · simp only [Act.put, List.setIfInBounds_toArray, List.set_cons_succ, List.set_cons_zero]; rfl
                  refine QB.no' (a' := ?_) (by kernel_rfl) ?_ ?_
                  rotate_left
                  · simp only [Act.put, List.setIfInBounds_toArray, List.set_cons_succ, List.set_cons_zero]; rfl
                  refine QB.no' (a' := ?_) (by kernel_rfl) ?_ ?_
                  rotate_left
                  · simp only [Act.put, List.setIfInBounds_toArray, List.set_cons_succ, List.set_cons_zero]; rfl
                  refine QB.no' (a' := ?_) (by kernel_rfl) ?_ ?_
                  rotate_left
                  · simp only [Act.put, List.setIfInBounds_toArray, List.set_cons_succ, List.set_cons_zero]; rfl
                  refine QB.val' (v := ?_) (a' := ?_) (by kernel_rfl) (fun w' hw' => ?_) ?_ ?_
                  rotate_left 2
                  · go_simp <;> rfl
                  · simp only [Act.put, List.setIfInBounds_toArray, List.set_cons_succ, List.set_cons_zero]; rfl
                  refine QB.val' (v := ?_) (a' := ?_) (by kernel_rfl) (fun w' hw' => ?_) ?_ ?_
                  rotate_left 2
                  · go_simp <;> rfl
                  · simp only [Act.put, List.setIfInBounds_toArray, List.set_cons_succ, List.set_cons_zero]; rfl
                  refine QB.nil' fun w' hw' => ?_
                  have HB6 := Lib.hid (nextB HBq.out (Nat.le_refl _) hw')
                  clear hw'
                  go_wp2
                  go_roundw
                  case rel => exact ⟨j + 1, by omega, by simp, by rw [any_step HY.out, ← Bool.or_assoc, HF.out, Bool.true_or], HB6.out⟩
                  case measure => simp [intOf]; omega
                | false =>
                  obtain ⟨z2, hz2⟩ : ∃ z2, decide (y = r) = z2 := ⟨_, rfl⟩
                  have hgd := fun (p q : Operand) (W : World) => guard_of (t := 87) g_rt .eql p q y.cs.toArray r.cs.toArray W
                  have hne := fun (W : World) => eql_of (eq_rt y r W)
                  rw [hz2] at hne
                  have HZ := Lib.hid hz2
                  clear hz2
                  replace hgd : ∀ (p q : Operand) (W : World), (eqGuard .eql 87 p q y.val r.val).run Try.prog W = .ok () W := hgd
                  replace hne : ∀ W : World, (binOp .eql 87 y.val r.val).run Try.prog W = .ok (.bool z2) W := hne
                  go_wp2_with fail
                  refine QB.region' mixed (by kernel_rfl) ?_
                  refine QB.val' (v := ?_) (a' := ?_) (by kernel_rfl) (fun w' hw' => ?_) ?_ ?_
                  rotate_left 2
                  · go_simp <;> rfl
                  · simp only [Act.put, List.setIfInBounds_toArray, List.set_cons_succ, List.set_cons_zero]; rfl
                  refine QB.val' (v := ?_) (a' := ?_) (by kernel_rfl) (fun w' hw' => ?_) ?_ ?_
                  rotate_left 2
                  · go_simp <;> rfl
                  · simp only [Act.put, List.setIfInBounds_toArray, List.set_cons_succ, List.set_cons_zero]; rfl
                  refine QB.val' (v := ?_) (a' := ?_) (by kernel_rfl) (fun w' hw' => ?_) ?_ ?_
                  rotate_left 2
                  · go_simp <;> rfl
                  · simp only [Act.put, List.setIfInBounds_toArray, List.set_cons_succ, List.set_cons_zero]; rfl
                  refine QB.val' (v := ?_) (a' := ?_) (by kernel_rfl) (fun w' hw' => ?_) ?_ ?_
                  rotate_left 2
                  · have hc := GR.out w' (nextB HB2.out (Nat.le_refl _) hw'); go_simp <;> rfl
                  · simp only [Act.put, List.setIfInBounds_toArray, List.set_cons_succ, List.set_cons_zero]; rfl
                  refine QB.val' (v := ?_) (a' := ?_) (by kernel_rfl) (fun w' hw' => ?_) ?_ ?_
                  rotate_left 2
                  · go_simp <;> rfl
                  · simp only [Act.put, List.setIfInBounds_toArray, List.set_cons_succ, List.set_cons_zero]; rfl
                  refine QB.val' (v := ?_) (a' := ?_) (by kernel_rfl) (fun w' hw' => ?_) ?_ ?_
                  rotate_left 2
                  · go_simp <;> rfl
                  · simp only [Act.put, List.setIfInBounds_toArray, List.set_cons_succ, List.set_cons_zero]; rfl
                  refine QB.ld' (a' := ?_) (by kernel_rfl) 87 rfl rfl (fun w' hw' => FY.out w' (nextB HB2.out (Nat.le_refl _) hw')) ?_ ?_
                  rotate_left
                  · simp only [Act.put, List.setIfInBounds_toArray, List.set_cons_succ, List.set_cons_zero]; rfl
                  refine QB.ld' (a' := ?_) (by kernel_rfl) 87 rfl rfl (fun w' hw' => FL12.out w' (nextB HBq.out (Nat.le_refl _) hw')) ?_ ?_
                  rotate_left
                  · simp only [Act.put, List.setIfInBounds_toArray, List.set_cons_succ, List.set_cons_zero]; rfl
                  refine QB.val' (v := ?_) (a' := ?_) (by kernel_rfl) (fun w' hw' => ?_) ?_ ?_
                  rotate_left 2
                  · go_simp <;> rfl
                  · simp only [Act.put, List.setIfInBounds_toArray, List.set_cons_succ, List.set_cons_zero]; rfl
                  refine QB.val' (v := ?_) (a' := ?_) (by kernel_rfl) (fun w' hw' => ?_) ?_ ?_
                  rotate_left 2
                  · go_simp <;> rfl
                  · simp only [Act.put, List.setIfInBounds_toArray, List.set_cons_succ, List.set_cons_zero]; rfl
                  refine QB.val' (v := ?_) (a' := ?_) (by kernel_rfl) (fun w' hw' => ?_) ?_ ?_
                  rotate_left 2
                  · go_simp <;> rfl
                  · simp only [Act.put, List.setIfInBounds_toArray, List.set_cons_succ, List.set_cons_zero]; rfl
                  refine QB.nil' fun w' hw' => ?_
                  have HB6 := Lib.hid (nextB HBq.out (Nat.le_refl _) hw')
                  clear hw'
                  go_wp2
                  go_roundw
                  case rel => exact ⟨j + 1, by omega, by simp, by rw [any_step HY.out, ← Bool.or_assoc, HF.out, Bool.false_or, HZ.out], HB6.out⟩
                  case measure => simp [intOf]; omega
              · have hlt2' : ¬ (j : Int) < (b.rs.length : Int) := by omega
                obtain rfl : j = b.rs.length := by omega
                obtain rfl : f = true := by
                  rw [← HF.out, List.take_length]
                  rcases HMAIN.out with h | h
                  · first
                      | exact Bool.true_or _
                      | cases h
                      | exact h.elim
                  · rw [Bool.or_eq_true]
                    exact .inr (List.any_eq_true.2 ⟨r, h, by simp⟩)
                have HB7 := Lib.hid (nextB HBW.out (Nat.le_refl _) HBq.out)
                go_wp2
                go_roundw
                case rel => exact ⟨i + 1, by omega, by simp, HB7.out⟩
                case measure => simp [intOf]; omega
          · have e0 : (o.kind == 3) = false := by simpa using h3
            have e4 : decide (4 ≤ o.kind) = true := decide_eq_true h4
            have H1 := Lib.hid ha
            have H2 := Lib.hid hb
            clear h3 ha hb
            go_wp2_with (first
              | (show wpList _ _ _ (⟨some 74, _, _, _, _, _⟩ :: _) _ _; refine QB.wpList_ld 87 rfl rfl HLD.out rfl ?_)
              | (show wpList _ _ _ (⟨some 12, _, _, _, _, _⟩ :: _) _ _; refine QB.wpList_alloc rfl 87 rfl zero_rt ?_; intro W2 hr1 hb1; have HRn := Lib.hid (show Row W2 wr.heap.size (Rt.cs ⟨0, 0, 0⟩) 87 from hr1); have HBn := Lib.hid hb1; clear hr1 hb1)
              | (show wpList _ _ _ (⟨none, _, _, _, _, _⟩ :: _) _ _
                 refine wpList_storeRow rfl 87 (.tmp 12) (.tmp 74) rfl rfl (cs := r.cs) rfl HRn.out (by kernel_rfl) rfl rfl r.one ?_
                 refine QB.name fun W hW => ?_
                 have HRW := Lib.hid (show Row W wr.heap.size r.cs 87 from hW ▸ HRn.out.setRow r.cs)
                 have HBW := Lib.hid (show Below W1.heap.size W1 W from nextB HB.out (Nat.le_refl _) (hW ▸ below_setRow HBn.out (Nat.le_refl _) _))
                 have ck := FK.out W HBW.out
                 have ci := FI.out W HBW.out
                 have ca := FA.out W HBW.out
                 have cb := FBi.out W HBW.out
                 have r0 := HRW.out.cell (i := 0) rfl
                 have r1 := HRW.out.cell (i := 1) rfl
                 have r2 := HRW.out.cell (i := 2) rfl
                 have FL12 := Lib.hid (fun w' (h : Below W.heap.size W w') => FLD.out w' _ (HRW.out.below h HRW.out.lt))
                 rw [H1.out] at r0; rw [H2.out] at r1
                 clear hW HRn HBn
                 refine Halt1.to ?_)
              | fail)
            unfold Halt1
            go_wp2
            clear ci ca cb r0 r1 r2 ck k1
            go_loopw [14, 15] (fun fv jv wq => ∃ j : Nat, j ≤ b.rs.length ∧ jv = .int .i64 (j : Int) ∧ fv = .bool (true || (b.rs.take j).any (fun x => decide (x = r))) ∧ Below W.heap.size W wq) (fun _ jv _ => b.rs.length - (intOf jv).toNat)
            case atStart => exact ⟨0, Nat.zero_le _, rfl, rfl, Below.refl _ _⟩
            case round =>
              obtain ⟨j, hj, rfl, rfl, hb⟩ := hrel
              have HBq := Lib.hid hb
              have HB2 := Lib.hid (nextB HBW.out (Nat.le_refl _) hb)
              clear hb
              have hj2 : (j : Int) ≤ 1000 := by have := HN4.out; omega
              have k3 := GR.out _ HB2.out
              obtain ⟨f, hf⟩ : ∃ f, (true || (b.rs.take j).any (fun x => decide (x = r))) = f := ⟨_, rfl⟩
              rw [hf]
              have HF := Lib.hid hf
              clear hf
              by_cases hlt2 : j < b.rs.length
              · have hlt2' : (j : Int) < (b.rs.length : Int) := by omega
                obtain ⟨y, hy⟩ : ∃ y, b.rs[j]? = some y := ⟨_, List.getElem?_eq_getElem hlt2⟩
                obtain ⟨b1, off1, e, _, _, _⟩ := FTS.out j y hy _ HB2.out
                subst e
                have HY := Lib.hid hy
                have FY := Lib.hid (fun w' (h : Below W1.heap.size W1 w') => show (loadVar 87 ⟨b1, off1 + j * 3, none⟩).run Try.prog w' = .ok y.val w' from by
                  obtain ⟨b', off', e, _, _, hl⟩ := FTS.out j y HY.out w' h
                  cases e
                  exact hl)
                clear hy
                cases f with
                | true =>
                  go_wp2_with fail
                  refine QB.region' mixed (by kernel_rfl) ?_
                  refine QB.val' (v := ?_) (a' := ?_) (by kernel_rfl) (fun w' hw' => ?_) ?_ ?_
                  rotate_left 2
                  · go_simp <;> rfl
                  · simp only [Act.put, List.setIfInBounds_toArray, List.set_cons_succ, List.set_cons_zero]; rfl
                  refine QB.val' (v := ?_) (a' := ?_) (by kernel_rfl) (fun w' hw' => ?_) ?_ ?_
                  rotate_left 2
                  · go_simp <;> rfl
                  · simp only [Act.put, List.setIfInBounds_toArray, List.set_cons_succ, List.set_cons_zero]; rfl
                  refine QB.no' (a' := ?_) (by kernel_rfl) ?_ ?_
                  rotate_left
                  · simp only [Act.put, List.setIfInBounds_toArray, List.set_cons_succ, List.set_cons_zero]; rfl
                  refine QB.no' (a' := ?_) (by kernel_rfl) ?_ ?_
                  rotate_left
                  · simp only [Act.put, List.setIfInBounds_toArray, List.set_cons_succ, List.set_cons_zero]; rfl
                  refine QB.no' (a' := ?_) (by kernel_rfl) ?_ ?_
                  rotate_left
                  · simp only [Act.put, List.setIfInBounds_toArray, List.set_cons_succ, List.set_cons_zero]; rfl
                  refine QB.no' (a' := ?_) (by kernel_rfl) ?_ ?_
                  rotate_left
                  · simp only [Act.put, List.setIfInBounds_toArray, List.set_cons_succ, List.set_cons_zero]; rfl
                  refine QB.no' (a' := ?_) (by kernel_rfl) ?_ ?_
                  rotate_left
                  · simp only [Act.put, List.setIfInBounds_toArray, List.set_cons_succ, List.set_cons_zero]; rfl
                  refine QB.no' (a' := ?_) (by kernel_rfl) ?_ ?_
                  rotate_left
                  · simp only [Act.put, List.setIfInBounds_toArray, List.set_cons_succ, List.set_cons_zero]; rfl
                  refine QB.no' (a' := ?_) (by kernel_rfl) ?_ ?_
                  rotate_left
                  · simp only [Act.put, List.setIfInBounds_toArray, List.set_cons_succ, List.set_cons_zero]; rfl
                  refine QB.val' (v := ?_) (a' := ?_) (by kernel_rfl) (fun w' hw' => ?_) ?_ ?_
                  rotate_left 2
                  · go_simp <;> rfl
                  · simp only [Act.put, List.setIfInBounds_toArray, List.set_cons_succ, List.set_cons_zero]; rfl
                  refine QB.val' (v := ?_) (a' := ?_) (by kernel_rfl) (fun w' hw' => ?_) ?_ ?_
                  rotate_left 2
                  · go_simp <;> rfl
                  · simp only [Act.put, List.setIfInBounds_toArray, List.set_cons_succ, List.set_cons_zero]; rfl
                  refine QB.nil' fun w' hw' => ?_
                  have HB6 := Lib.hid (nextB HBq.out (Nat.le_refl _) hw')
                  clear hw'
                  go_wp2
                  go_roundw
                  case rel => exact ⟨j + 1, by omega, by simp, by rw [any_step HY.out, ← Bool.or_assoc, HF.out, Bool.true_or], HB6.out⟩
                  case measure => simp [intOf]; omega
                | false =>
                  obtain ⟨z2, hz2⟩ : ∃ z2, decide (y = r) = z2 := ⟨_, rfl⟩
                  have hgd := fun (p q : Operand) (W : World) => guard_of (t := 87) g_rt .eql p q y.cs.toArray r.cs.toArray W
                  have hne := fun (W : World) => eql_of (eq_rt y r W)
                  rw [hz2] at hne
                  have HZ := Lib.hid hz2
                  clear hz2
                  replace hgd : ∀ (p q : Operand) (W : World), (eqGuard .eql 87 p q y.val r.val).run Try.prog W = .ok () W := hgd
                  replace hne : ∀ W : World, (binOp .eql 87 y.val r.val).run Try.prog W = .ok (.bool z2) W := hne
                  go_wp2_with fail
                  refine QB.region' mixed (by kernel_rfl) ?_
                  refine QB.val' (v := ?_) (a' := ?_) (by kernel_rfl) (fun w' hw' => ?_) ?_ ?_
                  rotate_left 2
                  · go_simp <;> rfl
                  · simp only [Act.put, List.setIfInBounds_toArray, List.set_cons_succ, List.set_cons_zero]; rfl
                  refine QB.val' (v := ?_) (a' := ?_) (by kernel_rfl) (fun w' hw' => ?_) ?_ ?_
                  rotate_left 2
                  · go_simp <;> rfl
                  · simp only [Act.put, List.setIfInBounds_toArray, List.set_cons_succ, List.set_cons_zero]; rfl
                  refine QB.val' (v := ?_) (a' := ?_) (by kernel_rfl) (fun w' hw' => ?_) ?_ ?_
                  rotate_left 2
                  · go_simp <;> rfl
                  · simp only [Act.put, List.setIfInBounds_toArray, List.set_cons_succ, List.set_cons_zero]; rfl
                  refine QB.val' (v := ?_) (a' := ?_) (by kernel_rfl) (fun w' hw' => ?_) ?_ ?_
                  rotate_left 2
                  · have hc := GR.out w' (nextB HB2.out (Nat.le_refl _) hw'); go_simp <;> rfl
                  · simp only [Act.put, List.setIfInBounds_toArray, List.set_cons_succ, List.set_cons_zero]; rfl
                  refine QB.val' (v := ?_) (a' := ?_) (by kernel_rfl) (fun w' hw' => ?_) ?_ ?_
                  rotate_left 2
                  · go_simp <;> rfl
                  · simp only [Act.put, List.setIfInBounds_toArray, List.set_cons_succ, List.set_cons_zero]; rfl
                  refine QB.val' (v := ?_) (a' := ?_) (by kernel_rfl) (fun w' hw' => ?_) ?_ ?_
                  rotate_left 2
                  · go_simp <;> rfl
                  · simp only [Act.put, List.setIfInBounds_toArray, List.set_cons_succ, List.set_cons_zero]; rfl
                  refine QB.ld' (a' := ?_) (by kernel_rfl) 87 rfl rfl (fun w' hw' => FY.out w' (nextB HB2.out (Nat.le_refl _) hw')) ?_ ?_
                  rotate_left
                  · simp only [Act.put, List.setIfInBounds_toArray, List.set_cons_succ, List.set_cons_zero]; rfl
                  refine QB.ld' (a' := ?_) (by kernel_rfl) 87 rfl rfl (fun w' hw' => FL12.out w' (nextB HBq.out (Nat.le_refl _) hw')) ?_ ?_
                  rotate_left
                  · simp only [Act.put, List.setIfInBounds_toArray, List.set_cons_succ, List.set_cons_zero]; rfl
                  refine QB.val' (v := ?_) (a' := ?_) (by kernel_rfl) (fun w' hw' => ?_) ?_ ?_
                  rotate_left 2
                  · go_simp <;> rfl
                  · simp only [Act.put, List.setIfInBounds_toArray, List.set_cons_succ, List.set_cons_zero]; rfl
                  refine QB.val' (v := ?_) (a' := ?_) (by kernel_rfl) (fun w' hw' => ?_) ?_ ?_
                  rotate_left 2
                  · go_simp <;> rfl
                  · simp only [Act.put, List.setIfInBounds_toArray, List.set_cons_succ, List.set_cons_zero]; rfl
                  refine QB.val' (v := ?_) (a' := ?_) (by kernel_rfl) (fun w' hw' => ?_) ?_ ?_
                  rotate_left 2
                  · go_simp <;> rfl
                  · simp only [Act.put, List.setIfInBounds_toArray, List.set_cons_succ, List.set_cons_zero]; rfl
                  refine QB.nil' fun w' hw' => ?_
                  have HB6 := Lib.hid (nextB HBq.out (Nat.le_refl _) hw')
                  clear hw'
                  go_wp2
                  go_roundw
                  case rel => exact ⟨j + 1, by omega, by simp, by rw [any_step HY.out, ← Bool.or_assoc, HF.out, Bool.false_or, HZ.out], HB6.out⟩
                  case measure => simp [intOf]; omega
              · have hlt2' : ¬ (j : Int) < (b.rs.length : Int) := by omega
                obtain rfl : j = b.rs.length := by omega
                obtain rfl : f = true := by
                  rw [← HF.out, List.take_length]
                  rcases HMAIN.out with h | h
                  · first
                      | exact Bool.true_or _
                      | cases h
                      | exact h.elim
                  · rw [Bool.or_eq_true]
                    exact .inr (List.any_eq_true.2 ⟨r, h, by simp⟩)
                have HB7 := Lib.hid (nextB HBW.out (Nat.le_refl _) HBq.out)
                go_wp2
                go_roundw
                case rel => exact ⟨i + 1, by omega, by simp, HB7.out⟩
                case measure => simp [intOf]; omega
          · have e0 : (o.kind == 3) = false := by simpa using h3
            have e4 : decide (4 ≤ o.kind) = true := decide_eq_true h4
            have e5 : (r.bits == o.bits) = false := by simpa using hb
            have H1 := Lib.hid ha
            clear h3 ha hb
            go_wp2_with (first
              | (show wpList _ _ _ (⟨some 74, _, _, _, _, _⟩ :: _) _ _; refine QB.wpList_ld 87 rfl rfl HLD.out rfl ?_)
              | (show wpList _ _ _ (⟨some 12, _, _, _, _, _⟩ :: _) _ _; refine QB.wpList_alloc rfl 87 rfl zero_rt ?_; intro W2 hr1 hb1; have HRn := Lib.hid (show Row W2 wr.heap.size (Rt.cs ⟨0, 0, 0⟩) 87 from hr1); have HBn := Lib.hid hb1; clear hr1 hb1)
              | (show wpList _ _ _ (⟨none, _, _, _, _, _⟩ :: _) _ _
                 refine wpList_storeRow rfl 87 (.tmp 12) (.tmp 74) rfl rfl (cs := r.cs) rfl HRn.out (by kernel_rfl) rfl rfl r.one ?_
                 refine QB.name fun W hW => ?_
                 have HRW := Lib.hid (show Row W wr.heap.size r.cs 87 from hW ▸ HRn.out.setRow r.cs)
                 have HBW := Lib.hid (show Below W1.heap.size W1 W from nextB HB.out (Nat.le_refl _) (hW ▸ below_setRow HBn.out (Nat.le_refl _) _))
                 have ck := FK.out W HBW.out
                 have ci := FI.out W HBW.out
                 have ca := FA.out W HBW.out
                 have cb := FBi.out W HBW.out
                 have r0 := HRW.out.cell (i := 0) rfl
                 have r1 := HRW.out.cell (i := 1) rfl
                 have r2 := HRW.out.cell (i := 2) rfl
                 have FL12 := Lib.hid (fun w' (h : Below W.heap.size W w') => FLD.out w' _ (HRW.out.below h HRW.out.lt))
                 rw [H1.out] at r0
                 clear hW HRn HBn
                 refine Halt1.to ?_)
              | fail)
            unfold Halt1
            go_wp2
            clear ci ca cb r0 r1 r2 ck k1
            go_loopw [14, 15] (fun fv jv wq => ∃ j : Nat, j ≤ b.rs.length ∧ jv = .int .i64 (j : Int) ∧ fv = .bool (false || (b.rs.take j).any (fun x => decide (x = r))) ∧ Below W.heap.size W wq) (fun _ jv _ => b.rs.length - (intOf jv).toNat)
            case atStart => exact ⟨0, Nat.zero_le _, rfl, rfl, Below.refl _ _⟩
            case round =>
              obtain ⟨j, hj, rfl, rfl, hb⟩ := hrel
              have HBq := Lib.hid hb
              have HB2 := Lib.hid (nextB HBW.out (Nat.le_refl _) hb)
              clear hb
              have hj2 : (j : Int) ≤ 1000 := by have := HN4.out; omega
              have k3 := GR.out _ HB2.out
              obtain ⟨f, hf⟩ : ∃ f, (false || (b.rs.take j).any (fun x => decide (x = r))) = f := ⟨_, rfl⟩
              rw [hf]
              have HF := Lib.hid hf
              clear hf
              by_cases hlt2 : j < b.rs.length
              · have hlt2' : (j : Int) < (b.rs.length : Int) := by omega
                obtain ⟨y, hy⟩ : ∃ y, b.rs[j]? = some y := ⟨_, List.getElem?_eq_getElem hlt2⟩
                obtain ⟨b1, off1, e, _, _, _⟩ := FTS.out j y hy _ HB2.out
                subst e
                have HY := Lib.hid hy
                have FY := Lib.hid (fun w' (h : Below W1.heap.size W1 w') => show (loadVar 87 ⟨b1, off1 + j * 3, none⟩).run Try.prog w' = .ok y.val w' from by
                  obtain ⟨b', off', e, _, _, hl⟩ := FTS.out j y HY.out w' h
                  cases e
                  exact hl)
                clear hy
                cases f with
                | true =>
                  go_wp2_with fail
                  refine QB.region' mixed (by kernel_rfl) ?_
                  refine QB.val' (v := ?_) (a' := ?_) (by kernel_rfl) (fun w' hw' => ?_) ?_ ?_
                  rotate_left 2
                  · go_simp <;> rfl
                  · simp only [Act.put, List.setIfInBounds_toArray, List.set_cons_succ, List.set_cons_zero]; rfl
                  refine QB.val' (v := ?_) (a' := ?_) (by kernel_rfl) (fun w' hw' => ?_) ?_ ?_
                  rotate_left 2
                  · go_simp <;> rfl
                  · simp only [Act.put, List.setIfInBounds_toArray, List.set_cons_succ, List.set_cons_zero]; rfl
                  refine QB.no' (a' := ?_) (by kernel_rfl) ?_ ?_
                  rotate_left
                  · simp only [Act.put, List.setIfInBounds_toArray, List.set_cons_succ, List.set_cons_zero]; rfl
                  refine QB.no' (a' := ?_) (by kernel_rfl) ?_ ?_
                  rotate_left
                  · simp only [Act.put, List.setIfInBounds_toArray, List.set_cons_succ, List.set_cons_zero]; rfl
                  refine QB.no' (a' := ?_) (by kernel_rfl) ?_ ?_
                  rotate_left
                  · simp only [Act.put, List.setIfInBounds_toArray, List.set_cons_succ, List.set_cons_zero]; rfl
                  refine QB.no' (a' := ?_) (by kernel_rfl) ?_ ?_
                  rotate_left
                  · simp only [Act.put, List.setIfInBounds_toArray, List.set_cons_succ, List.set_cons_zero]; rfl
                  refine QB.no' (a' := ?_) (by kernel_rfl) ?_ ?_
                  rotate_left
                  · simp only [Act.put, List.setIfInBounds_toArray, List.set_cons_succ, List.set_cons_zero]; rfl
                  refine QB.no' (a' := ?_) (by kernel_rfl) ?_ ?_
                  rotate_left
                  · simp only [Act.put, List.setIfInBounds_toArray, List.set_cons_succ, List.set_cons_zero]; rfl
                  refine QB.no' (a' := ?_) (by kernel_rfl) ?_ ?_
                  rotate_left
                  · simp only [Act.put, List.setIfInBounds_toArray, List.set_cons_succ, List.set_cons_zero]; rfl
                  refine QB.val' (v := ?_) (a' := ?_) (by kernel_rfl) (fun w' hw' => ?_) ?_ ?_
                  rotate_left 2
                  · go_simp <;> rfl
                  · simp only [Act.put, List.setIfInBounds_toArray, List.set_cons_succ, List.set_cons_zero]; rfl
                  refine QB.val' (v := ?_) (a' := ?_) (by kernel_rfl) (fun w' hw' => ?_) ?_ ?_
                  rotate_left 2
                  · go_simp <;> rfl
                  · simp only [Act.put, List.setIfInBounds_toArray, List.set_cons_succ, List.set_cons_zero]; rfl
                  refine QB.nil' fun w' hw' => ?_
                  have HB6 := Lib.hid (nextB HBq.out (Nat.le_refl _) hw')
                  clear hw'
                  go_wp2
                  go_roundw
                  case rel => exact ⟨j + 1, by omega, by simp, by rw [any_step HY.out, ← Bool.or_assoc, HF.out, Bool.true_or], HB6.out⟩
                  case measure => simp [intOf]; omega
                | false =>
                  obtain ⟨z2, hz2⟩ : ∃ z2, decide (y = r) = z2 := ⟨_, rfl⟩
                  have hgd := fun (p q : Operand) (W : World) => guard_of (t := 87) g_rt .eql p q y.cs.toArray r.cs.toArray W
                  have hne := fun (W : World) => eql_of (eq_rt y r W)
                  rw [hz2] at hne
                  have HZ := Lib.hid hz2
                  clear hz2
                  replace hgd : ∀ (p q : Operand) (W : World), (eqGuard .eql 87 p q y.val r.val).run Try.prog W = .ok () W := hgd
                  replace hne : ∀ W : World, (binOp .eql 87 y.val r.val).run Try.prog W = .ok (.bool z2) W := hne
                  go_wp2_with fail
                  refine QB.region' mixed (by kernel_rfl) ?_
                  refine QB.val' (v := ?_) (a' := ?_) (by kernel_rfl) (fun w' hw' => ?_) ?_ ?_
                  rotate_left 2
                  · go_simp <;> rfl
                  · simp only [Act.put, List.setIfInBounds_toArray, List.set_cons_succ, List.set_cons_zero]; rfl
                  refine QB.val' (v := ?_) (a' := ?_) (by kernel_rfl) (fun w' hw' => ?_) ?_ ?_
                  rotate_left 2
                  · go_simp <;> rfl
                  · simp only [Act.put, List.setIfInBounds_toArray, List.set_cons_succ, List.set_cons_zero]; rfl
                  refine QB.val' (v := ?_) (a' := ?_) (by kernel_rfl) (fun w' hw' => ?_) ?_ ?_
                  rotate_left 2
                  · go_simp <;> rfl
                  · simp only [Act.put, List.setIfInBounds_toArray, List.set_cons_succ, List.set_cons_zero]; rfl
                  refine QB.val' (v := ?_) (a' := ?_) (by kernel_rfl) (fun w' hw' => ?_) ?_ ?_
                  rotate_left 2
                  · have hc := GR.out w' (nextB HB2.out (Nat.le_refl _) hw'); go_simp <;> rfl
                  · simp only [Act.put, List.setIfInBounds_toArray, List.set_cons_succ, List.set_cons_zero]; rfl
                  refine QB.val' (v := ?_) (a' := ?_) (by kernel_rfl) (fun w' hw' => ?_) ?_ ?_
                  rotate_left 2
                  · go_simp <;> rfl
                  · simp only [Act.put, List.setIfInBounds_toArray, List.set_cons_succ, List.set_cons_zero]; rfl
                  refine QB.val' (v := ?_) (a' := ?_) (by kernel_rfl) (fun w' hw' => ?_) ?_ ?_
                  rotate_left 2
                  · go_simp <;> rfl
                  · simp only [Act.put, List.setIfInBounds_toArray, List.set_cons_succ, List.set_cons_zero]; rfl
                  refine QB.ld' (a' := ?_) (by kernel_rfl) 87 rfl rfl (fun w' hw' => FY.out w' (nextB HB2.out (Nat.le_refl _) hw')) ?_ ?_
                  rotate_left
                  · simp only [Act.put, List.setIfInBounds_toArray, List.set_cons_succ, List.set_cons_zero]; rfl
                  refine QB.ld' (a' := ?_) (by kernel_rfl) 87 rfl rfl (fun w' hw' => FL12.out w' (nextB HBq.out (Nat.le_refl _) hw')) ?_ ?_
                  rotate_left
                  · simp only [Act.put, List.setIfInBounds_toArray, List.set_cons_succ, List.set_cons_zero]; rfl
                  refine QB.val' (v := ?_) (a' := ?_) (by kernel_rfl) (fun w' hw' => ?_) ?_ ?_
                  rotate_left 2
                  · go_simp <;> rfl
                  · simp only [Act.put, List.setIfInBounds_toArray, List.set_cons_succ, List.set_cons_zero]; rfl
                  refine QB.val' (v := ?_) (a' := ?_) (by kernel_rfl) (fun w' hw' => ?_) ?_ ?_
                  rotate_left 2
                  · go_simp <;> rfl
                  · simp only [Act.put, List.setIfInBounds_toArray, List.set_cons_succ, List.set_cons_zero]; rfl
                  refine QB.val' (v := ?_) (a' := ?_) (by kernel_rfl) (fun w' hw' => ?_) ?_ ?_
                  rotate_left 2
                  · go_simp <;> rfl
                  · simp only [Act.put, List.setIfInBounds_toArray, List.set_cons_succ, List.set_cons_zero]; rfl
                  refine QB.nil' fun w' hw' => ?_
                  have HB6 := Lib.hid (nextB HBq.out (Nat.le_refl _) hw')
                  clear hw'
                  go_wp2
                  go_roundw
                  case rel => exact ⟨j + 1, by omega, by simp, by rw [any_step HY.out, ← Bool.or_assoc, HF.out, Bool.false_or, HZ.out], HB6.out⟩
                  case measure => simp [intOf]; omega
              · have hlt2' : ¬ (j : Int) < (b.rs.length : Int) := by omega
                obtain rfl : j = b.rs.length := by omega
                obtain rfl : f = true := by
                  rw [← HF.out, List.take_length]
                  rcases HMAIN.out with h | h
                  · first
                      | exact Bool.true_or _
                      | cases h
                      | exact h.elim
                  · rw [Bool.or_eq_true]
                    exact .inr (List.any_eq_true.2 ⟨r, h, by simp⟩)
                have HB7 := Lib.hid (nextB HBW.out (Nat.le_refl _) HBq.out)
                go_wp2
                go_roundw
                case rel => exact ⟨i + 1, by omega, by simp, HB7.out⟩
                case measure => simp [intOf]; omega
          · have e0 : (o.kind == 3) = false := by simpa using h3
            have e4 : decide (4 ≤ o.kind) = true := decide_eq_true h4
            have e5 : (r.addr == o.addr) = false := by simpa using ha
            clear h3 ha
            go_wp2_with (first
              | (show wpList _ _ _ (⟨some 74, _, _, _, _, _⟩ :: _) _ _; refine QB.wpList_ld 87 rfl rfl HLD.out rfl ?_)
              | (show wpList _ _ _ (⟨some 12, _, _, _, _, _⟩ :: _) _ _; refine QB.wpList_alloc rfl 87 rfl zero_rt ?_; intro W2 hr1 hb1; have HRn := Lib.hid (show Row W2 wr.heap.size (Rt.cs ⟨0, 0, 0⟩) 87 from hr1); have HBn := Lib.hid hb1; clear hr1 hb1)
              | (show wpList _ _ _ (⟨none, _, _, _, _, _⟩ :: _) _ _
                 refine wpList_storeRow rfl 87 (.tmp 12) (.tmp 74) rfl rfl (cs := r.cs) rfl HRn.out (by kernel_rfl) rfl rfl r.one ?_
                 refine QB.name fun W hW => ?_
                 have HRW := Lib.hid (show Row W wr.heap.size r.cs 87 from hW ▸ HRn.out.setRow r.cs)
                 have HBW := Lib.hid (show Below W1.heap.size W1 W from nextB HB.out (Nat.le_refl _) (hW ▸ below_setRow HBn.out (Nat.le_refl _) _))
                 have ck := FK.out W HBW.out
                 have ci := FI.out W HBW.out
                 have ca := FA.out W HBW.out
                 have cb := FBi.out W HBW.out
                 have r0 := HRW.out.cell (i := 0) rfl
                 have r1 := HRW.out.cell (i := 1) rfl
                 have r2 := HRW.out.cell (i := 2) rfl
                 have FL12 := Lib.hid (fun w' (h : Below W.heap.size W w') => FLD.out w' _ (HRW.out.below h HRW.out.lt))
                 skip
                 clear hW HRn HBn
                 refine Halt1.to ?_)
              | fail)
            unfold Halt1
            go_wp2
            clear ci ca cb r0 r1 r2 ck k1
            go_loopw [14, 15] (fun fv jv wq => ∃ j : Nat, j ≤ b.rs.length ∧ jv = .int .i64 (j : Int) ∧ fv = .bool (false || (b.rs.take j).any (fun x => decide (x = r))) ∧ Below W.heap.size W wq) (fun _ jv _ => b.rs.length - (intOf jv).toNat)
            case atStart => exact ⟨0, Nat.zero_le _, rfl, rfl, Below.refl _ _⟩
            case round =>
              obtain ⟨j, hj, rfl, rfl, hb⟩ := hrel
              have HBq := Lib.hid hb
              have HB2 := Lib.hid (nextB HBW.out (Nat.le_refl _) hb)
              clear hb
              have hj2 : (j : Int) ≤ 1000 := by have := HN4.out; omega
              have k3 := GR.out _ HB2.out
              obtain ⟨f, hf⟩ : ∃ f, (false || (b.rs.take j).any (fun x => decide (x = r))) = f := ⟨_, rfl⟩
              rw [hf]
              have HF := Lib.hid hf
              clear hf
              by_cases hlt2 : j < b.rs.length
              · have hlt2' : (j : Int) < (b.rs.length : Int) := by omega
                obtain ⟨y, hy⟩ : ∃ y, b.rs[j]? = some y := ⟨_, List.getElem?_eq_getElem hlt2⟩
                obtain ⟨b1, off1, e, _, _, _⟩ := FTS.out j y hy _ HB2.out
                subst e
                have HY := Lib.hid hy
                have FY := Lib.hid (fun w' (h : Below W1.heap.size W1 w') => show (loadVar 87 ⟨b1, off1 + j * 3, none⟩).run Try.prog w' = .ok y.val w' from by
                  obtain ⟨b', off', e, _, _, hl⟩ := FTS.out j y HY.out w' h
                  cases e
                  exact hl)
                clear hy
                cases f with
                | true =>
                  go_wp2_with fail
                  refine QB.region' mixed (by kernel_rfl) ?_
                  refine QB.val' (v := ?_) (a' := ?_) (by kernel_rfl) (fun w' hw' => ?_) ?_ ?_
                  rotate_left 2
                  · go_simp <;> rfl
                  · simp only [Act.put, List.setIfInBounds_toArray, List.set_cons_succ, List.set_cons_zero]; rfl
                  refine QB.val' (v := ?_) (a' := ?_) (by kernel_rfl) (fun w' hw' => ?_) ?_ ?_
                  rotate_left 2
                  · go_simp <;> rfl
                  · simp only [Act.put, List.setIfInBounds_toArray, List.set_cons_succ, List.set_cons_zero]; rfl
                  refine QB.no' (a' := ?_) (by kernel_rfl) ?_ ?_
                  rotate_left
                  · simp only [Act.put, List.setIfInBounds_toArray, List.set_cons_succ, List.set_cons_zero]; rfl
                  refine QB.no' (a' := ?_) (by kernel_rfl) ?_ ?_
                  rotate_left
                  · simp only [Act.put, List.setIfInBounds_toArray, List.set_cons_succ, List.set_cons_zero]; rfl
                  refine QB.no' (a' := ?_) (by kernel_rfl) ?_ ?_
                  rotate_left
                  · simp only [Act.put, List.setIfInBounds_toArray, List.set_cons_succ, List.set_cons_zero]; rfl
                  refine QB.no' (a' := ?_) (by kernel_rfl) ?_ ?_
                  rotate_left
                  · simp only [Act.put, List.setIfInBounds_toArray, List.set_cons_succ, List.set_cons_zero]; rfl
                  refine QB.no' (a' := ?_) (by kernel_rfl) ?_ ?_
                  rotate_left
                  · simp only [Act.put, List.setIfInBounds_toArray, List.set_cons_succ, List.set_cons_zero]; rfl
                  refine QB.no' (a' := ?_) (by kernel_rfl) ?_ ?_
                  rotate_left
                  · simp only [Act.put, List.setIfInBounds_toArray, List.set_cons_succ, List.set_cons_zero]; rfl
                  refine QB.no' (a' := ?_) (by kernel_rfl) ?_ ?_
                  rotate_left
                  · simp only [Act.put, List.setIfInBounds_toArray, List.set_cons_succ, List.set_cons_zero]; rfl
                  refine QB.val' (v := ?_) (a' := ?_) (by kernel_rfl) (fun w' hw' => ?_) ?_ ?_
                  rotate_left 2
                  · go_simp <;> rfl
                  · simp only [Act.put, List.setIfInBounds_toArray, List.set_cons_succ, List.set_cons_zero]; rfl
                  refine QB.val' (v := ?_) (a' := ?_) (by kernel_rfl) (fun w' hw' => ?_) ?_ ?_
                  rotate_left 2
                  · go_simp <;> rfl
                  · simp only [Act.put, List.setIfInBounds_toArray, List.set_cons_succ, List.set_cons_zero]; rfl
                  refine QB.nil' fun w' hw' => ?_
                  have HB6 := Lib.hid (nextB HBq.out (Nat.le_refl _) hw')
                  clear hw'
                  go_wp2
                  go_roundw
                  case rel => exact ⟨j + 1, by omega, by simp, by rw [any_step HY.out, ← Bool.or_assoc, HF.out, Bool.true_or], HB6.out⟩
                  case measure => simp [intOf]; omega
                | false =>
                  obtain ⟨z2, hz2⟩ : ∃ z2, decide (y = r) = z2 := ⟨_, rfl⟩
                  have hgd := fun (p q : Operand) (W : World) => guard_of (t := 87) g_rt .eql p q y.cs.toArray r.cs.toArray W
                  have hne := fun (W : World) => eql_of (eq_rt y r W)
                  rw [hz2] at hne
                  have HZ := Lib.hid hz2
                  clear hz2
                  replace hgd : ∀ (p q : Operand) (W : World), (eqGuard .eql 87 p q y.val r.val).run Try.prog W = .ok () W := hgd
                  replace hne : ∀ W : World, (binOp .eql 87 y.val r.val).run Try.prog W = .ok (.bool z2) W := hne
                  go_wp2_with fail
                  refine QB.region' mixed (by kernel_rfl) ?_
                  refine QB.val' (v := ?_) (a' := ?_) (by kernel_rfl) (fun w' hw' => ?_) ?_ ?_
                  rotate_left 2
                  · go_simp <;> rfl
                  · simp only [Act.put, List.setIfInBounds_toArray, List.set_cons_succ, List.set_cons_zero]; rfl
                  refine QB.val' (v := ?_) (a' := ?_) (by kernel_rfl) (fun w' hw' => ?_) ?_ ?_
                  rotate_left 2
                  · go_simp <;> rfl
                  · simp only [Act.put, List.setIfInBounds_toArray, List.set_cons_succ, List.set_cons_zero]; rfl
                  refine QB.val' (v := ?_) (a' := ?_) (by kernel_rfl) (fun w' hw' => ?_) ?_ ?_
                  rotate_left 2
                  · go_simp <;> rfl
                  · simp only [Act.put, List.setIfInBounds_toArray, List.set_cons_succ, List.set_cons_zero]; rfl
                  refine QB.val' (v := ?_) (a' := ?_) (by kernel_rfl) (fun w' hw' => ?_) ?_ ?_
                  rotate_left 2
                  · have hc := GR.out w' (nextB HB2.out (Nat.le_refl _) hw'); go_simp <;> rfl
                  · simp only [Act.put, List.setIfInBounds_toArray, List.set_cons_succ, List.set_cons_zero]; rfl
                  refine QB.val' (v := ?_) (a' := ?_) (by kernel_rfl) (fun w' hw' => ?_) ?_ ?_
                  rotate_left 2
                  · go_simp <;> rfl
                  · simp only [Act.put, List.setIfInBounds_toArray, List.set_cons_succ, List.set_cons_zero]; rfl
                  refine QB.val' (v := ?_) (a' := ?_) (by kernel_rfl) (fun w' hw' => ?_) ?_ ?_
                  rotate_left 2
                  · go_simp <;> rfl
                  · simp only [Act.put, List.setIfInBounds_toArray, List.set_cons_succ, List.set_cons_zero]; rfl
                  refine QB.ld' (a' := ?_) (by kernel_rfl) 87 rfl rfl (fun w' hw' => FY.out w' (nextB HB2.out (Nat.le_refl _) hw')) ?_ ?_
                  rotate_left
                  · simp only [Act.put, List.setIfInBounds_toArray, List.set_cons_succ, List.set_cons_zero]; rfl
                  refine QB.ld' (a' := ?_) (by kernel_rfl) 87 rfl rfl (fun w' hw' => FL12.out w' (nextB HBq.out (Nat.le_refl _) hw')) ?_ ?_
                  rotate_left
                  · simp only [Act.put, List.setIfInBounds_toArray, List.set_cons_succ, List.set_cons_zero]; rfl
                  refine QB.val' (v := ?_) (a' := ?_) (by kernel_rfl) (fun w' hw' => ?_) ?_ ?_
                  rotate_left 2
                  · go_simp <;> rfl
                  · simp only [Act.put, List.setIfInBounds_toArray, List.set_cons_succ, List.set_cons_zero]; rfl
                  refine QB.val' (v := ?_) (a' := ?_) (by kernel_rfl) (fun w' hw' => ?_) ?_ ?_
                  rotate_left 2
                  · go_simp <;> rfl
                  · simp only [Act.put, List.setIfInBounds_toArray, List.set_cons_succ, List.set_cons_zero]; rfl
                  refine QB.val' (v := ?_) (a' := ?_) (by kernel_rfl) (fun w' hw' => ?_) ?_ ?_
                  rotate_left 2
                  · go_simp <;> rfl
                  · simp only [Act.put, List.setIfInBounds_toArray, List.set_cons_succ, List.set_cons_zero]; rfl
                  refine QB.nil' fun w' hw' => ?_
                  have HB6 := Lib.hid (nextB HBq.out (Nat.le_refl _) hw')
                  clear hw'
                  go_wp2
                  go_roundw
                  case rel => exact ⟨j + 1, by omega, by simp, by rw [any_step HY.out, ← Bool.or_assoc, HF.out, Bool.false_or, HZ.out], HB6.out⟩
                  case measure => simp [intOf]; omega
              · have hlt2' : ¬ (j : Int) < (b.rs.length : Int) := by omega
                obtain rfl : j = b.rs.length := by omega
                obtain rfl : f = true := by
                  rw [← HF.out, List.take_length]
                  rcases HMAIN.out with h | h
                  · first
                      | exact Bool.true_or _
                      | cases h
                      | exact h.elim
                  · rw [Bool.or_eq_true]
                    exact .inr (List.any_eq_true.2 ⟨r, h, by simp⟩)
                have HB7 := Lib.hid (nextB HBW.out (Nat.le_refl _) HBq.out)
                go_wp2
                go_roundw
                case rel => exact ⟨i + 1, by omega, by simp, HB7.out⟩
                case measure => simp [intOf]; omega
          · have e0 : (o.kind == 3) = false := by simpa using h3
            have e4 : decide (4 ≤ o.kind) = false := decide_eq_false (by omega)
            have h4' : ¬ 4 ≤ o.kind := by omega
            clear h3
            go_wp2_with (first
              | (show wpList _ _ _ (⟨some 74, _, _, _, _, _⟩ :: _) _ _; refine QB.wpList_ld 87 rfl rfl HLD.out rfl ?_)
              | (show wpList _ _ _ (⟨some 12, _, _, _, _, _⟩ :: _) _ _; refine QB.wpList_alloc rfl 87 rfl zero_rt ?_; intro W2 hr1 hb1; have HRn := Lib.hid (show Row W2 wr.heap.size (Rt.cs ⟨0, 0, 0⟩) 87 from hr1); have HBn := Lib.hid hb1; clear hr1 hb1)
              | (show wpList _ _ _ (⟨none, _, _, _, _, _⟩ :: _) _ _
                 refine wpList_storeRow rfl 87 (.tmp 12) (.tmp 74) rfl rfl (cs := r.cs) rfl HRn.out (by kernel_rfl) rfl rfl r.one ?_
                 refine QB.name fun W hW => ?_
                 have HRW := Lib.hid (show Row W wr.heap.size r.cs 87 from hW ▸ HRn.out.setRow r.cs)
                 have HBW := Lib.hid (show Below W1.heap.size W1 W from nextB HB.out (Nat.le_refl _) (hW ▸ below_setRow HBn.out (Nat.le_refl _) _))
                 have ck := FK.out W HBW.out
                 have ci := FI.out W HBW.out
                 have ca := FA.out W HBW.out
                 have cb := FBi.out W HBW.out
                 have r0 := HRW.out.cell (i := 0) rfl
                 have r1 := HRW.out.cell (i := 1) rfl
                 have r2 := HRW.out.cell (i := 2) rfl
                 have FL12 := Lib.hid (fun w' (h : Below W.heap.size W w') => FLD.out w' _ (HRW.out.below h HRW.out.lt))
                 skip
                 clear hW HRn HBn
                 refine Halt1.to ?_)
              | fail)
            unfold Halt1
            go_wp2
            clear ci ca cb r0 r1 r2 ck k1
            go_loopw [14, 15] (fun fv jv wq => ∃ j : Nat, j ≤ b.rs.length ∧ jv = .int .i64 (j : Int) ∧ fv = .bool (false || (b.rs.take j).any (fun x => decide (x = r))) ∧ Below W.heap.size W wq) (fun _ jv _ => b.rs.length - (intOf jv).toNat)
            case atStart => exact ⟨0, Nat.zero_le _, rfl, rfl, Below.refl _ _⟩
            case round =>
              obtain ⟨j, hj, rfl, rfl, hb⟩ := hrel
              have HBq := Lib.hid hb
              have HB2 := Lib.hid (nextB HBW.out (Nat.le_refl _) hb)
              clear hb
              have hj2 : (j : Int) ≤ 1000 := by have := HN4.out; omega
              have k3 := GR.out _ HB2.out
              obtain ⟨f, hf⟩ : ∃ f, (false || (b.rs.take j).any (fun x => decide (x = r))) = f := ⟨_, rfl⟩
              rw [hf]
              have HF := Lib.hid hf
              clear hf
              by_cases hlt2 : j < b.rs.length
              · have hlt2' : (j : Int) < (b.rs.length : Int) := by omega
                obtain ⟨y, hy⟩ : ∃ y, b.rs[j]? = some y := ⟨_, List.getElem?_eq_getElem hlt2⟩
                obtain ⟨b1, off1, e, _, _, _⟩ := FTS.out j y hy _ HB2.out
                subst e
                have HY := Lib.hid hy
                have FY := Lib.hid (fun w' (h : Below W1.heap.size W1 w') => show (loadVar 87 ⟨b1, off1 + j * 3, none⟩).run Try.prog w' = .ok y.val w' from by
                  obtain ⟨b', off', e, _, _, hl⟩ := FTS.out j y HY.out w' h
                  cases e
                  exact hl)
                clear hy
                cases f with
                | true =>
                  go_wp2_with fail
                  refine QB.region' mixed (by kernel_rfl) ?_
                  refine QB.val' (v := ?_) (a' := ?_) (by kernel_rfl) (fun w' hw' => ?_) ?_ ?_
                  rotate_left 2
                  · go_simp <;> rfl
                  · simp only [Act.put, List.setIfInBounds_toArray, List.set_cons_succ, List.set_cons_zero]; rfl
                  refine QB.val' (v := ?_) (a' := ?_) (by kernel_rfl) (fun w' hw' => ?_) ?_ ?_
                  rotate_left 2
                  · go_simp <;> rfl
                  · simp only [Act.put, List.setIfInBounds_toArray, List.set_cons_succ, List.set_cons_zero]; rfl
                  refine QB.no' (a' := ?_) (by kernel_rfl) ?_ ?_
                  rotate_left
                  · simp only [Act.put, List.setIfInBounds_toArray, List.set_cons_succ, List.set_cons_zero]; rfl
                  refine QB.no' (a' := ?_) (by kernel_rfl) ?_ ?_
                  rotate_left
                  · simp only [Act.put, List.setIfInBounds_toArray, List.set_cons_succ, List.set_cons_zero]; rfl
                  refine QB.no' (a' := ?_) (by kernel_rfl) ?_ ?_
                  rotate_left
                  · simp only [Act.put, List.setIfInBounds_toArray, List.set_cons_succ, List.set_cons_zero]; rfl
                  refine QB.no' (a' := ?_) (by kernel_rfl) ?_ ?_
                  rotate_left
                  · simp only [Act.put, List.setIfInBounds_toArray, List.set_cons_succ, List.set_cons_zero]; rfl
                  refine QB.no' (a' := ?_) (by kernel_rfl) ?_ ?_
                  rotate_left
                  · simp only [Act.put, List.setIfInBounds_toArray, List.set_cons_succ, List.set_cons_zero]; rfl
                  refine QB.no' (a' := ?_) (by kernel_rfl) ?_ ?_
                  rotate_left
                  · simp only [Act.put, List.setIfInBounds_toArray, List.set_cons_succ, List.set_cons_zero]; rfl
                  refine QB.no' (a' := ?_) (by kernel_rfl) ?_ ?_
                  rotate_left
                  · simp only [Act.put, List.setIfInBounds_toArray, List.set_cons_succ, List.set_cons_zero]; rfl
                  refine QB.val' (v := ?_) (a' := ?_) (by kernel_rfl) (fun w' hw' => ?_) ?_ ?_
                  rotate_left 2
                  · go_simp <;> rfl
                  · simp only [Act.put, List.setIfInBounds_toArray, List.set_cons_succ, List.set_cons_zero]; rfl
                  refine QB.val' (v := ?_) (a' := ?_) (by kernel_rfl) (fun w' hw' => ?_) ?_ ?_
                  rotate_left 2
                  · go_simp <;> rfl
                  · simp only [Act.put, List.setIfInBounds_toArray, List.set_cons_succ, List.set_cons_zero]; rfl
                  refine QB.nil' fun w' hw' => ?_
                  have HB6 := Lib.hid (nextB HBq.out (Nat.le_refl _) hw')
                  clear hw'
                  go_wp2
                  go_roundw
                  case rel => exact ⟨j + 1, by omega, by simp, by rw [any_step HY.out, ← Bool.or_assoc, HF.out, Bool.true_or], HB6.out⟩
                  case measure => simp [intOf]; omega
                | false =>
                  obtain ⟨z2, hz2⟩ : ∃ z2, decide (y = r) = z2 := ⟨_, rfl⟩
                  have hgd := fun (p q : Operand) (W : World) => guard_of (t := 87) g_rt .eql p q y.cs.toArray r.cs.toArray W
                  have hne := fun (W : World) => eql_of (eq_rt y r W)
                  rw [hz2] at hne
                  have HZ := Lib.hid hz2
                  clear hz2
                  replace hgd : ∀ (p q : Operand) (W : World), (eqGuard .eql 87 p q y.val r.val).run Try.prog W = .ok () W := hgd
                  replace hne : ∀ W : World, (binOp .eql 87 y.val r.val).run Try.prog W = .ok (.bool z2) W := hne
                  go_wp2_with fail
                  refine QB.region' mixed (by kernel_rfl) ?_
                  refine QB.val' (v := ?_) (a' := ?_) (by kernel_rfl) (fun w' hw' => ?_) ?_ ?_
                  rotate_left 2
                  · go_simp <;> rfl
                  · simp only [Act.put, List.setIfInBounds_toArray, List.set_cons_succ, List.set_cons_zero]; rfl
                  refine QB.val' (v := ?_) (a' := ?_) (by kernel_rfl) (fun w' hw' => ?_) ?_ ?_
                  rotate_left 2
                  · go_simp <;> rfl
                  · simp only [Act.put, List.setIfInBounds_toArray, List.set_cons_succ, List.set_cons_zero]; rfl
                  refine QB.val' (v := ?_) (a' := ?_) (by kernel_rfl) (fun w' hw' => ?_) ?_ ?_
                  rotate_left 2
                  · go_simp <;> rfl
                  · simp only [Act.put, List.setIfInBounds_toArray, List.set_cons_succ, List.set_cons_zero]; rfl
                  refine QB.val' (v := ?_) (a' := ?_) (by kernel_rfl) (fun w' hw' => ?_) ?_ ?_
                  rotate_left 2
                  · have hc := GR.out w' (nextB HB2.out (Nat.le_refl _) hw'); go_simp <;> rfl
                  · simp only [Act.put, List.setIfInBounds_toArray, List.set_cons_succ, List.set_cons_zero]; rfl
                  refine QB.val' (v := ?_) (a' := ?_) (by kernel_rfl) (fun w' hw' => ?_) ?_ ?_
                  rotate_left 2
                  · go_simp <;> rfl
                  · simp only [Act.put, List.setIfInBounds_toArray, List.set_cons_succ, List.set_cons_zero]; rfl
                  refine QB.val' (v := ?_) (a' := ?_) (by kernel_rfl) (fun w' hw' => ?_) ?_ ?_
                  rotate_left 2
                  · go_simp <;> rfl
                  · simp only [Act.put, List.setIfInBounds_toArray, List.set_cons_succ, List.set_cons_zero]; rfl
                  refine QB.ld' (a' := ?_) (by kernel_rfl) 87 rfl rfl (fun w' hw' => FY.out w' (nextB HB2.out (Nat.le_refl _) hw')) ?_ ?_
                  rotate_left
                  · simp only [Act.put, List.setIfInBounds_toArray, List.set_cons_succ, List.set_cons_zero]; rfl
                  refine QB.ld' (a' := ?_) (by kernel_rfl) 87 rfl rfl (fun w' hw' => FL12.out w' (nextB HBq.out (Nat.le_refl _) hw')) ?_ ?_
                  rotate_left
                  · simp only [Act.put, List.setIfInBounds_toArray, List.set_cons_succ, List.set_cons_zero]; rfl
                  refine QB.val' (v := ?_) (a' := ?_) (by kernel_rfl) (fun w' hw' => ?_) ?_ ?_
                  rotate_left 2
                  · go_simp <;> rfl
                  · simp only [Act.put, List.setIfInBounds_toArray, List.set_cons_succ, List.set_cons_zero]; rfl
                  refine QB.val' (v := ?_) (a' := ?_) (by kernel_rfl) (fun w' hw' => ?_) ?_ ?_
                  rotate_left 2
                  · go_simp <;> rfl
                  · simp only [Act.put, List.setIfInBounds_toArray, List.set_cons_succ, List.set_cons_zero]; rfl
                  refine QB.val' (v := ?_) (a' := ?_) (by kernel_rfl) (fun w' hw' => ?_) ?_ ?_
                  rotate_left 2
                  · go_simp <;> rfl
                  · simp only [Act.put, List.setIfInBounds_toArray, List.set_cons_succ, List.set_cons_zero]; rfl
                  refine QB.nil' fun w' hw' => ?_
                  have HB6 := Lib.hid (nextB HBq.out (Nat.le_refl _) hw')
                  clear hw'
                  go_wp2
                  go_roundw
                  case rel => exact ⟨j + 1, by omega, by simp, by rw [any_step HY.out, ← Bool.or_assoc, HF.out, Bool.false_or, HZ.out], HB6.out⟩
                  case measure => simp [intOf]; omega
              · have hlt2' : ¬ (j : Int) < (b.rs.length : Int) := by omega
                obtain rfl : j = b.rs.length := by omega
                obtain rfl : f = true := by
                  rw [← HF.out, List.take_length]
                  rcases HMAIN.out with h | h
                  · first
                      | exact Bool.true_or _
                      | cases h
                      | exact h.elim
                  · rw [Bool.or_eq_true]
                    exact .inr (List.any_eq_true.2 ⟨r, h, by simp⟩)
                have HB7 := Lib.hid (nextB HBW.out (Nat.le_refl _) HBq.out)
                go_wp2
                go_roundw
                case rel => exact ⟨i + 1, by omega, by simp, HB7.out⟩
                case measure => simp [intOf]; omega
        · have hlt' : ¬ (i : Int) < (a.rs.length : Int) := by omega
          go_wp2
          go_ret
          exact ⟨rfl, nextB HB1.out (Nat.le_refl _) HB.out⟩
end Go.Proofs.Ytlphmbefcbhhpaa.Cfg
namespace Go.Proofs.Ytlphmbefcbhhpaa.Cfg
open Go.ChangeShapes Go.WideShapes Go.ChangeAt Go.RowKit Go.Maps
theorem mem1_of {l : List Mb} (hO : Ord Mb.key l) {x : Mb} (hx : x ∈ l) : mem1 l x.id = some x := by
  unfold mem1
  cases hq : l.find? (fun m => m.id == x.id) with
  | none =>
    rw [List.find?_eq_none] at hq
    have := hq x hx
    simp at this
  | some y =>
    have h1 := List.find?_some hq
    have h2 := List.mem_of_find?_eq_some hq
    have h3 : y.id = x.id := by simpa using h1
    rw [hO.one h2 hx (by show (y.id, (0 : Int)) = (x.id, 0); rw [h3])]
theorem mem1_no {l : List Mb} {id : Int} (h : ∀ x ∈ l, x.id ≠ id) : mem1 l id = none := by
  unfold mem1
  rw [List.find?_eq_none]
  intro x hx
  simpa using h x hx
theorem key_ne {m : Mb} {id : Int} (h : m.id ≠ id) : m.key ≠ (id, 0) := by
  intro e
  have : (m.id, (0 : Int)) = (id, 0) := e
  exact h (by simpa using this)
theorem in_setL {l : List Mb} {x m : Mb} (hm : m ∈ l) (h : m.id ≠ x.id) : m ∈ setL l x := mem_put.2 (.inr ⟨hm, key_ne h⟩)
theorem of_setL {l : List Mb} {x m : Mb} (hm : m ∈ setL l x) : m = x ∨ m ∈ l := by
  rcases mem_put.1 hm with h | h
  · exact .inl h
  · exact .inr h.1
theorem rest_setL {c : Cf} {o : Opn} {x : Mb} (hO : Ord Mb.key c.ps) (hk : o.kind ≤ 3) (hx : x.id = o.id) : RestB c ⟨setL c.ps x, c.rs⟩ o ∧ RestB ⟨setL c.ps x, c.rs⟩ c o := by
  have hO2 : Ord Mb.key (setL c.ps x) := hO.put rfl
  refine ⟨⟨fun m hm => ?_, fun r hr => .inr (.inr hr)⟩, ⟨fun m hm => ?_, fun r hr => .inr (.inr hr)⟩⟩
  · by_cases h : m.id = o.id
    · exact .inl ⟨hk, h⟩
    · exact .inr (mem1_of hO2 (in_setL hm (by rw [hx]; exact h)))
  · rcases of_setL hm with rfl | h
    · exact .inl ⟨hk, hx⟩
    · exact .inr (mem1_of hO h)
/-- What an operation does not touch stays. -/
theorem Step.rest {c d : Cf} {o : Opn} (hV : Val c) (h : Step c o d 0) : RestB c d o ∧ RestB d c o := by
  have hO := hV.2.2.2.1
  cases h with
  | peer hok hk => exact rest_setL hO (by omega) rfl
  | off m hok hk hm hi => exact rest_setL hO (by omega) hi
  | drop hok hk hh =>
    have hO2 : Ord Mb.key (delM c.ps (o.id, 0)) := hO.del _
    refine ⟨⟨fun m hm => ?_, fun r hr => ?_⟩, ⟨fun m hm => .inr (mem1_of hO (mem_lo_hi.1 hm).1), fun r hr => .inr (.inr (List.mem_filter.1 hr).1)⟩⟩
    · by_cases h : m.id = o.id
      · exact .inl ⟨by omega, h⟩
      · exact .inr (mem1_of hO2 (mem_lo_hi.2 ⟨hm, key_ne h⟩))
    · by_cases h : r.peer = o.id
      · exact .inl ⟨hk, h⟩
      · exact .inr (.inr (List.mem_filter.2 ⟨hr, by simpa using h⟩))
  | route hok hk hh =>
    refine ⟨⟨fun m hm => .inr (mem1_of hO hm), fun r hr => ?_⟩, ⟨fun m hm => .inr (mem1_of hO hm), fun r hr => ?_⟩⟩
    · by_cases h : r.key = (o.addr, o.bits)
      · have : (r.addr, r.bits) = (o.addr, o.bits) := h
        simp only [Prod.mk.injEq] at this
        exact .inr (.inl ⟨by omega, this⟩)
      · exact .inr (.inr (mem_put.2 (.inr ⟨hr, h⟩)))
    · rcases mem_put.1 hr with rfl | h
      · exact .inr (.inl ⟨by omega, rfl, rfl⟩)
      · exact .inr (.inr h.1)
  | block hok hk hh =>
    refine ⟨⟨fun m hm => .inr (mem1_of hO hm), fun r hr => ?_⟩, ⟨fun m hm => .inr (mem1_of hO hm), fun r hr => .inr (.inr (mem_lo_hi.1 hr).1)⟩⟩
    by_cases h : r.key = (o.addr, o.bits)
    · have : (r.addr, r.bits) = (o.addr, o.bits) := h
      simp only [Prod.mk.injEq] at this
      exact .inr (.inl ⟨by omega, this⟩)
    · exact .inr (.inr (mem_lo_hi.2 ⟨hr, h⟩))
/-- Is it the operation's route? -/
def pR (o : Opn) (r : Rt) : Bool := (r.addr == o.addr && r.bits == o.bits) && (o.kind == 5 || r.peer == o.id)
def cntR (o : Opn) (l : List Rt) : Nat := l.countP (pR o)
theorem pR_key {o : Opn} {r : Rt} (h : pR o r = true) : r.key = (o.addr, o.bits) := by
  unfold pR at h
  simp only [Bool.and_eq_true, beq_iff_eq] at h
  show (r.addr, r.bits) = (o.addr, o.bits)
  rw [h.1.1, h.1.2]
theorem cnt_step {l : List Rt} {j : Nat} {y : Rt} (h : l[j]? = some y) (o : Opn) : cntR o (l.take (j + 1)) = cntR o (l.take j) + (if pR o y = true then 1 else 0) := by
  unfold cntR
  rw [List.take_add_one, h, Option.toList_some, List.countP_append, List.countP_cons, List.countP_nil, Nat.zero_add]
theorem cnt_le (o : Opn) (l : List Rt) : cntR o l ≤ l.length := List.countP_le_length
/-- What the operation has done. -/
def Done (o : Opn) (d : Cf) : Prop :=
  (o.kind = 1 → ∃ m, mem1 d.ps o.id = some m ∧ m.ky = o.ky ∧ m.off = false) ∧ (o.kind = 2 → ∃ m, mem1 d.ps o.id = some m ∧ m.off = true) ∧ (o.kind = 3 → mem1 d.ps o.id = none) ∧ (o.kind = 4 → cntR o d.rs = 1) ∧ (o.kind = 5 → cntR o d.rs = 0)
theorem Step.done {c d : Cf} {o : Opn} (hV : Val c) (h : Step c o d 0) : Done o d := by
  have hO := hV.2.2.2.1
  cases h with
  | peer hok hk =>
    refine ⟨fun _ => ⟨⟨o.id, o.ky, false⟩, mem1_of (x := ⟨o.id, o.ky, false⟩) (hO.put rfl) (mem_put.2 (.inl rfl)), rfl, rfl⟩, fun _ => by omega, fun _ => by omega, fun _ => by omega, fun _ => by omega⟩
  | off m hok hk hm hi =>
    refine ⟨fun _ => by omega, fun _ => ⟨{ m with off := true }, ?_, rfl⟩, fun _ => by omega, fun _ => by omega, fun _ => by omega⟩
    have := mem1_of (l := setL c.ps { m with off := true }) (x := { m with off := true }) (hO.put rfl) (mem_put.2 (.inl rfl))
    rw [← hi]
    exact this
  | drop hok hk hh =>
    refine ⟨fun _ => by omega, fun _ => by omega, fun _ => mem1_no fun x hx e => (mem_lo_hi.1 hx).2 ?_, fun _ => by omega, fun _ => by omega⟩
    show (x.id, (0 : Int)) = (o.id, 0)
    rw [e]
  | route hok hk hh =>
    refine ⟨fun _ => by omega, fun _ => by omega, fun _ => by omega, fun _ => ?_, fun _ => by omega⟩
    show List.countP (pR o) (lo Rt.key (o.addr, o.bits) c.rs ++ ⟨o.addr, o.bits, o.id⟩ :: hi Rt.key (o.addr, o.bits) c.rs) = 1
    rw [List.countP_append, List.countP_cons, List.countP_eq_zero.2, List.countP_eq_zero.2]
    · simp [pR]
    · intro x hx e
      exact (mem_lo_hi.1 (List.mem_append.2 (.inr hx))).2 (pR_key e)
    · intro x hx e
      exact (mem_lo_hi.1 (List.mem_append.2 (.inl hx))).2 (pR_key e)
  | block hok hk hh =>
    refine ⟨fun _ => by omega, fun _ => by omega, fun _ => by omega, fun _ => by omega, fun _ => ?_⟩
    exact List.countP_eq_zero.2 fun x hx e => (mem_lo_hi.1 hx).2 (pR_key e)
/-- A slice of operations. -/
def OTab (w : World) (B : Nat) (v : Value) (l : List Opn) : Prop := (∀ o ∈ l, o.ky.length = 32) ∧ Tab 37 w B v l.length (l.flatMap Opn.cs)
theorem OTab.below {w w' : World} {B : Nat} {v : Value} {l : List Opn} (h : OTab w B v l) (hb : Below B w w') : OTab w' B v l := ⟨h.1, h.2.below hb⟩
theorem OTab.at {w : World} {B : Nat} {A : Option Addr} {n c : Nat} {l : List Opn} (h : OTab w B (.slice A n c) l) {i : Nat} {m : Opn} (hm : l[i]? = some m) :
    ∃ b off, A = some ⟨b, off, none⟩ ∧ b < B ∧ (∀ j x, m.cs[j]? = some x → w.cell? ⟨b, off + i * 37 + j, none⟩ = some x) ∧ (loadVar 45 ⟨b, off + i * 37, none⟩).run Try.prog w = .ok m.val w := by
  obtain ⟨hk, ht⟩ := h
  have hn : n = l.length := by obtain ⟨_, _, e, _⟩ := ht; simp only [Value.slice.injEq] at e; exact e.2.1
  subst hn
  have hlt := (List.getElem?_eq_some_iff.1 hm).1
  obtain ⟨b, off, rfl, hb, hc⟩ := ht.piece (i := i) (m := 1) (by omega) (by decide)
  rw [flat_at Opn.cs 37 (fun o ho => Opn.len (hk o ho)) hm] at hc
  exact ⟨b, off, rfl, hb, hc, run_loadVar_cells w Try.underlying45 rfl (by kernel_rfl) (Opn.len (hk m (List.mem_of_getElem? hm))) hc⟩
section
variable {H : Type} {enc : TypeId × Value → H}
set_option maxRecDepth 100000 in
theorem op_trod {W : World} {sp : Nat → Bool} (n : Nat) (cs : List Value) (y : DataW H × List MemPlace) (h : DataW.trod enc Try.prog W 0 sp true n 45 cs = some y) : ∃ m : Opn, cs = m.cs ∧ m.ky.length = 32 := by
  obtain ⟨xs, n', _, _, hl, hxl, hfd⟩ := DataW.trod_struct Try.underlying45 h
  rw [show Try.prog.cellsOf 45 = 37 by kernel_rfl] at hl
  have e1 : Try.prog.cellsOf 3 = 1 := by kernel_rfl
  have e2 : Try.prog.cellsOf 43 = 32 := by kernel_rfl
  have e3 : Try.prog.cellsOf 23 = 1 := by kernel_rfl
  have e4 : Try.prog.cellsOf 22 = 1 := by kernel_rfl
  have g : ∀ i, i < 6 → ∃ y, xs[i]? = some y := fun i hi => ⟨_, List.getElem?_eq_getElem (by rw [hxl]; exact hi)⟩
  obtain ⟨y0, h0⟩ := g 0 (by decide)
  obtain ⟨y1, h1⟩ := g 1 (by decide)
  obtain ⟨y2, h2⟩ := g 2 (by decide)
  obtain ⟨y3, h3⟩ := g 3 (by decide)
  obtain ⟨y4, h4⟩ := g 4 (by decide)
  obtain ⟨y5, h5⟩ := g 5 (by decide)
  have q0 := hfd 0 _ rfl
  have q1 := hfd 1 _ rfl
  have q2 := hfd 2 _ rfl
  have q3 := hfd 3 _ rfl
  have q4 := hfd 4 _ rfl
  have q5 := hfd 5 _ rfl
  rw [h0] at q0
  rw [h1] at q1
  rw [h2] at q2
  rw [h3] at q3
  rw [h4] at q4
  rw [h5] at q5
  have q0' : DataW.trod enc Try.prog W 0 sp true n' 3 ((cs.drop 0).take (Try.prog.cellsOf 3)) = some y0 := q0
  have q1' : DataW.trod enc Try.prog W 0 sp true n' 23 ((cs.drop 1).take (Try.prog.cellsOf 23)) = some y1 := q1
  have q2' : DataW.trod enc Try.prog W 0 sp true n' 3 ((cs.drop 2).take (Try.prog.cellsOf 3)) = some y2 := q2
  have q3' : DataW.trod enc Try.prog W 0 sp true n' 43 ((cs.drop 3).take (Try.prog.cellsOf 43)) = some y3 := q3
  have q4' : DataW.trod enc Try.prog W 0 sp true n' 22 ((cs.drop 35).take (Try.prog.cellsOf 22)) = some y4 := q4
  have q5' : DataW.trod enc Try.prog W 0 sp true n' 3 ((cs.drop 36).take (Try.prog.cellsOf 3)) = some y5 := q5
  rw [e1] at q0' q2' q5'
  rw [e3] at q1'
  rw [e2] at q3'
  rw [e4] at q4'
  obtain ⟨a, ha, _, _⟩ := DataW.trod_int Try.underlying3 q0'
  obtain ⟨b, hb, _, _⟩ := DataW.trod_int Try.underlying23 q1'
  obtain ⟨i, hi, _, _⟩ := DataW.trod_int Try.underlying3 q2'
  obtain ⟨ky, hk, hkl⟩ := key_trod n' _ y3 q3'
  obtain ⟨x, hx, _, _⟩ := DataW.trod_int Try.underlying22 q4'
  obtain ⟨t, ht, _, _⟩ := DataW.trod_int Try.underlying3 q5'
  refine ⟨⟨a, b, i, ky, x, t⟩, ?_, hkl⟩
  have s1 : cs = cs.take 1 ++ ((cs.drop 1).take 1 ++ ((cs.drop 2).take 1 ++ ((cs.drop 3).take 32 ++ ((cs.drop 35).take 1 ++ (cs.drop 36).take 1)))) := by
    have e : (cs.drop 36).take 1 = cs.drop 36 := List.take_of_length_le (by rw [List.length_drop]; omega)
    rw [e, show cs.drop 36 = (cs.drop 35).drop 1 by rw [List.drop_drop], List.take_append_drop, show cs.drop 35 = (cs.drop 3).drop 32 by rw [List.drop_drop], List.take_append_drop, show cs.drop 3 = (cs.drop 2).drop 1 by rw [List.drop_drop], List.take_append_drop, show cs.drop 2 = (cs.drop 1).drop 1 by rw [List.drop_drop], List.take_append_drop, List.take_append_drop]
  rw [s1, hb, hi, hk, hx, ht, show cs.take 1 = [.int .i64 a] from ha]
  rfl
set_option maxRecDepth 100000 in
/-- A slice of operations as an argument. -/
theorem ops_at {W : World} {base : Nat} {sp : Nat → Bool} {v : Value} {d : DataW H} {ps : List MemPlace} (hok : Value.okWide Try.prog W .any base 79 v) (h : DataW.Trod enc Try.prog W 0 sp true 79 v d ps) (hlt : ∀ x ∈ ps, x.block < W.heap.size) : ∃ l, OTab W W.heap.size v l := by
  obtain ⟨A, n, c, rfl⟩ := okWide_slice Try.underlying79 hok
  obtain ⟨fuel, hf⟩ := h
  obtain ⟨l, ht, hg, _⟩ := tab_trod (x := (d, ps)) (⟨0, 0, 0, zkey, 0, 0⟩ : Opn) Opn.cs (fun m => m.ky.length = 32) 37 (by decide) (fun m hm => Opn.len hm) Try.underlying79 (by kernel_rfl) op_trod hf hlt
  exact ⟨l, hg, ht⟩
end
end Go.Proofs.Ytlphmbefcbhhpaa.Cfg
