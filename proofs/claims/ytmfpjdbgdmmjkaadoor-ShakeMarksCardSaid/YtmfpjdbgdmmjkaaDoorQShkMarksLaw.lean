/- A mark covers all its bytes in order, however they are split: 'drawbridgelaw10.ShakeMarks'. -/
import Derived.Test.YtmfpjdbgdmmjkaaDoorQ18
import Derived.Test.YtmfpjdbgdmmjkaaDoorQ22
import Derived.Test.YtmfpjdbgdmmjkaaDoorQ39
import Derived.Test.YtmfpjdbgdmmjkaaDoorQ40
namespace Go.Proofs.YtmfpjdbgdmmjkaaDoor.shakeMarks
open Go.ChangeShapes Go.WideShapes Go.ChangeAt Go.RowKit
open Shk
theorem eq16 (x : List UInt8) (hx : x.length = 16) (w : World) : (Op.equal 38 (arr8 x) (arr8 x)).run Tryd.prog w = .ok (decide (x = x)) w := run_eql_arr8 (P := Tryd.prog) Tryd.underlying38 Tryd.underlying5 (by kernel_rfl) x x hx hx w
theorem run_addstr (x y : List UInt8) (hxy : x.length + y.length ≤ 1000000) (w : World) : (binOp .add 9 (strOf x) (strOf y)).run Tryd.prog w = .ok (strOf (x ++ y)) w := by
  unfold strOf binOp Op.stringOp
  have h1 : ¬ (9223372036854775807 : Int) < ((⟨x.toArray⟩ : ByteArray).size : Int) + ((⟨y.toArray⟩ : ByteArray).size : Int) := by
    show ¬ (9223372036854775807 : Int) < (x.length : Int) + (y.length : Int)
    omega
  have h2 : ((⟨x.toArray⟩ : ByteArray) ++ ⟨y.toArray⟩) = ⟨(x ++ y).toArray⟩ := by
    ext1
    simp
  simp [Sem.run_pure, h1, h2]
theorem flat_le (m : Nat) : ∀ ls : List (List UInt8), (∀ l ∈ ls, l.length ≤ m) → ls.flatten.length ≤ ls.length * m
  | [], _ => by simp
  | l :: ls, h => by
    have h1 := h l (by simp)
    have h2 := flat_le m ls (fun x hx => h x (by simp [hx]))
    rw [List.flatten_cons, List.length_append, List.length_cons, Nat.succ_mul]
    omega
/-- A sum of two strings. -/
theorem wp_add {P : Program} {o : Oper} {a : Act} {w : World} {K : Act → World → Prop} {Q : Exit → Act → World → Prop} {t t2 : TypeId} (x y : Operand) (ho : o.op = .binOp .add t x y t2) {u v r : Value} (hx : a.eval x = u) (hy : a.eval y = v)
    (hg : (eqGuard .add t x y u v).run P w = .ok () w) (hr : (binOp .add t u v).run P w = .ok r w) (h : K (a.put o.dst r) w) : o.wp P a w K Q := by
  unfold Oper.wp execOp
  simp only [ho, hx, hy, Sem.run_bind, Sem.run_pure, Result.andThen_ok, hg, hr]
  exact h
set_option maxRecDepth 100000 in
set_option maxHeartbeats 600000 in
theorem walk (key tb : List UInt8) (ls : List (List UInt8)) (lv : Value) (hk : key.length = 32) (w : World) (ht : Tab w) (hb : Bss w w.heap.size lv ls) : Calls Tryd.prog 11 #[arr8 key, strOf tb, lv] w fun e w' => e = .returned (.bool true) ∧ Below w.heap.size w w' := by
  have HB0 := Lib.hid (show Below w.heap.size w (w.alloc (.cells (key.map bv).toArray 24)) from (Below.refl _ w).alloc (Nat.le_refl _) _)
  have HT0 := Lib.hid (ht.below HB0.out ht.1)
  have HK0 := Lib.hid (show Row (w.alloc (.cells (key.map bv).toArray 24)) w.heap.size (key.map bv) 24 from Row.new rfl rfl)
  have HLv := Lib.hid (fun w (ht : Tab w) => Shk.lives_any w ht)
  have Hkl := Lib.hid hk
  have HL0 := Lib.hid hb
  obtain ⟨A, c, rfl, hc, hcs⟩ := hb
  have Hcs := Lib.hid hcs
  clear hk ht hc hcs
  unfold arr8 strOf
  by_cases h1 : 200 < tb.length
  · have h1' : (200 : Int) < (tb.length : Int) := by omega
    go_enter Tryd.func11, Tryd.ntmps11
    go_wp2_with fail
    refine (HLv.out _ HT0.out).mono ?_
    rintro e w1 ⟨rfl, hb⟩
    have HB1 := Lib.hid (nextB HB0.out (Nat.le_refl _) hb)
    have HK1 := Lib.hid (HK0.out.below hb HK0.out.lt)
    have HT1 := Lib.hid (HT0.out.below hb HT0.out.1)
    have HL1 := Lib.hid (HL0.out.below HB1.out)
    clear hb
    go_wp2
    go_ret
    exact ⟨rfl, HB1.out⟩
  have h1' : ¬ (200 : Int) < (tb.length : Int) := by omega
  by_cases h2 : light ls 10 200 = true
  case neg =>
    have h2' : light ls 10 200 = false := by simpa using h2
    go_enter Tryd.func11, Tryd.ntmps11
    go_wp2_with fail
    refine (HLv.out _ HT0.out).mono ?_
    rintro e w1 ⟨rfl, hb⟩
    have HB1 := Lib.hid (nextB HB0.out (Nat.le_refl _) hb)
    have HK1 := Lib.hid (HK0.out.below hb HK0.out.lt)
    have HT1 := Lib.hid (HT0.out.below hb HT0.out.1)
    have HL1 := Lib.hid (HL0.out.below HB1.out)
    clear hb
    go_wp2_with fail
    refine (LightLists_any _ ls 10 200 w1 HL1.out (by decide) (by decide)).mono ?_
    rintro e w2 ⟨rfl, rfl⟩
    rw [h2']
    go_wp2
    go_ret
    exact ⟨rfl, HB1.out⟩
  have hl := of_decide_eq_true h2
  go_enter Tryd.func11, Tryd.ntmps11
  go_wp2_with fail
  refine (HLv.out _ HT0.out).mono ?_
  rintro e w1 ⟨rfl, hb⟩
  have HB1 := Lib.hid (nextB HB0.out (Nat.le_refl _) hb)
  have HK1 := Lib.hid (HK0.out.below hb HK0.out.lt)
  have HT1 := Lib.hid (HT0.out.below hb HT0.out.1)
  have HL1 := Lib.hid (HL0.out.below HB1.out)
  clear hb
  go_wp2_with fail
  refine (LightLists_any _ ls 10 200 w1 HL1.out (by decide) (by decide)).mono ?_
  rintro e w2 ⟨rfl, rfl⟩
  rw [h2]
  obtain ⟨al, hal⟩ : ∃ al, ls.flatten = al := ⟨_, rfl⟩
  have hfl := flat_le 200 ls hl.2
  have Hal := Lib.hid (show al.length ≤ 2000 by rw [← hal]; have := hl.1; omega)
  obtain ⟨M, hM⟩ : ∃ M, Shk.mark key (tb ++ ls.flatten) = M := ⟨_, rfl⟩
  have HM := Lib.hid hM
  have HMl := Lib.hid (show M.length = 16 by rw [← hM]; exact mark_length _ _)
  have HM1 := Lib.hid (show Shk.mark key (tb ++ [al].flatten) = M by rw [← hM, hal]; simp)
  have HM2 := Lib.hid (show Shk.mark key ((tb ++ al) ++ ([] : List (List UInt8)).flatten) = M by rw [← hM, hal]; simp)
  have HM3 := Lib.hid (show Shk.mark key (([] : List UInt8) ++ [tb, al].flatten) = M by rw [← hM, hal]; simp)
  have Htb := Lib.hid (show tb.length ≤ 100000 by omega)
  have Htl := Lib.hid (show (tb ++ al).length ≤ 100000 by rw [List.length_append]; have := Hal.out; omega)
  have HtA := Lib.hid (show tb.length + al.length ≤ 1000000 by have := Hal.out; omega)
  have Hfw := Lib.hid (show Few ls from ⟨by have := hl.1; omega, fun l h => by have := hl.2 l h; omega, by have := hl.1; omega⟩)
  have Hf1 := Lib.hid (show Few [al] from ⟨by simp, fun l h => by simp at h; subst h; have := Hal.out; omega, by simp; have := Hal.out; omega⟩)
  have Hf0 := Lib.hid (show Few [] from ⟨by simp, fun l h => by simp at h, by simp⟩)
  have Hf2 := Lib.hid (show Few [tb, al] from ⟨by simp, fun l h => by
    simp only [List.mem_cons, List.not_mem_nil, or_false] at h
    rcases h with rfl | rfl
    · omega
    · have := Hal.out; omega, by simp; have := Hal.out; omega⟩)
  have Hal' := Lib.hid hal
  have Hl := Lib.hid hl
  have HpL : Hid (∀ (i : Nat) (l : List UInt8), ls[i]? = some l → (ls.take (i + 1)).flatten = (ls.take i).flatten ++ l) := fun i l h => by
    rw [List.take_add_one, h]; simp
  have HfL : Hid (∀ i, (ls.take i).flatten.length ≤ 2000) := fun i => by
    have h2 : ls.flatten = (ls.take i).flatten ++ (ls.drop i).flatten := by rw [← List.flatten_append, List.take_append_drop]
    have h3 := congrArg List.length h2
    rw [List.length_append] at h3
    have := hl.1
    omega
  have hll : ls.length ≤ 10 := hl.1
  clear hfl hal hM hl h1 h2
  go_wp2
  go_loopw [8, 7] (fun iv sv wr => ∃ i : Nat, i ≤ ls.length ∧ iv = .int .i64 (i : Int) ∧ Own wr w1.heap.size sv (ls.take i).flatten ∧ Below w1.heap.size w1 wr) (fun iv _ _ => ls.length - (intOf iv).toNat)
  case atStart => exact ⟨0, Nat.zero_le _, rfl, by rw [List.take_zero]; exact Own.nil _ _, Below.refl _ _⟩
  case round =>
    obtain ⟨i, hi, rfl, ho, hb⟩ := hrel
    have HO := Lib.hid ho
    have HB := Lib.hid hb
    clear ho hb
    by_cases h1 : i < ls.length
    · have h1' : (i : Int) < (ls.length : Int) := by omega
      have hi10 : (i : Int) ≤ 10 := by omega
      obtain ⟨b, off, rfl, hlt, hcell⟩ := Hcs.out (by intro h; subst h; simp at h1)
      obtain ⟨u, hu, hbs⟩ := hcell i _ (List.getElem?_eq_getElem h1)
      obtain ⟨piece, hpiece⟩ : ∃ piece, ls[i] = piece := ⟨_, rfl⟩
      have hpi : ls[i]? = some piece := by rw [← hpiece]; exact List.getElem?_eq_getElem h1
      rw [hpiece] at hbs
      have hbw := nextB HB1.out (Nat.le_refl _) HB.out
      have Hbs := Lib.hid (hbs.below hbw)
      obtain ⟨A2, c2, rfl, _, _⟩ := hbs
      have Hcat := Lib.hid (HpL.out i piece hpi)
      have hlen : (ls.take i).flatten.length + piece.length ≤ 2000 := by rw [← List.length_append, ← Hcat.out]; exact HfL.out _
      have Hlen := Lib.hid hlen
      have hu' := (hbw.cell (p := ⟨b, off + i, none⟩) hlt).trans hu
      have HSz := Lib.hid HB.out.size
      clear hcell hpi hpiece hlen hu hbw
      go_wp2_with (first
        | (at_builtin; refine wpList_app_bytes _ rfl (.tmp 25) (.tmp 29) rfl rfl HO.out rfl Hbs.out (by have := Hlen.out; omega) HSz.out ?_
           intro v2 w2 ho2 hg2 _
           have HO2 := Lib.hid ho2
           have HB2 := Lib.hid (HB.out.grown hg2 HSz.out (fun k hk => (HO.out.block_ge hk).1))
           clear ho2 hg2)
        | fail)
      go_roundw
      case rel => exact ⟨i + 1, h1, by simp, by rw [Hcat.out]; exact HO2.out, HB2.out⟩
      case measure => simp [intOf]; omega
    · have h1' : ¬ (i : Int) < (ls.length : Int) := by omega
      have : i = ls.length := by omega
      subst this
      have ho := HO.out
      rw [List.take_length, Hal'.out] at ho
      have HA3 := Lib.hid ho.bs
      have HK3 := Lib.hid (HK1.out.below HB.out HK1.out.lt)
      have HT3 := Lib.hid (HT1.out.below HB.out HT1.out.1)
      have HB3 := Lib.hid (nextB HB1.out (Nat.le_refl _) HB.out)
      have HL3 := Lib.hid ((HL0.out.below HB3.out).more' HB3.out.size)
      clear ho h1'
      go_wp2_with fail
      refine By.marks Pol.mixed Grew [By.is (arr8 key),
        By.is (strOf tb),
        By.is (.slice A ls.length c),
        By.is (arr8 M),
        By.is (arr8 key),
        By.is (strOf tb),
        By.is u7,
        fullM [al],
        By.is (arr8 M),
        By.is (.bool true),
        By.is (.bool true),
        By.is (arr8 key),
        By.is (strOf tb),
        By.is u7,
        By.is (strOf al),
        By.is (strOf (tb ++ al)),
        By.is (arr8 M),
        By.is (arr8 key),
        By.is (strOf tb),
        By.is u7,
        fullM [al],
        By.is (arr8 M),
        By.is (.bool true),
        By.is (.bool true),
        By.is (.bool true),
        By.is (arr8 key),
        By.is (strOf tb),
        bsM tb,
        By.is u7,
        fullM [tb, al],
        By.is (arr8 M),
        By.is (arr8 key),
        By.is (strOf tb),
        By.is u7,
        fullM [al],
        By.is (arr8 M),
        By.is (.bool true),
        By.is (.bool true),
        By.is (.bool true)]
        (Ev.masks _ []) (by kernel_rfl) rfl Grew.refl Grew.trans ⟨?_, ?_, ?_, ?_, ?_, ?_, ?_, ?_, ?_, ?_, ?_, ?_, ?_, ?_, ?_, ?_, ?_, ?_, ?_, ?_, ?_, ?_, ?_, ?_, ?_, ?_, ?_, ?_, ?_, ?_, ?_, ?_, ?_, ?_, ?_, ?_, ?_, ?_, ?_, trivial⟩ ?_
      · intro a w ht hs hg -- 31
        have h3 := By.same_get hs 3 (by decide) (by kernel_rfl)
        refine By.yes rfl ?_
        clear hs hg
        have hr := l_a32 (Row.below (w := wr.drew) HK3.out ht HK3.out.lt) Hkl.out
        refine wp_ld 24 _ rfl h3 hr ?_
        exact ⟨_, rfl, Grew.refl _, rfl⟩
      · intro a w ht hs hg -- 32
        have h1 := By.same_get hs 1 (by decide) (by kernel_rfl)
        refine By.yes rfl ?_
        clear hs hg
        go_simp
        exact ⟨_, rfl, Grew.refl _, rfl⟩
      · intro a w ht hs hg -- 33
        have h2 := By.same_get hs 2 (by decide) (by kernel_rfl)
        refine By.yes rfl ?_
        clear hs hg
        go_simp
        exact ⟨_, rfl, Grew.refl _, rfl⟩
      · intro a w ht hs hg -- 34
        have h31 : a.tmps.getD 31 undef = _ := By.given_get hg 0 rfl rfl (by kernel_rfl)
        have h32 : a.tmps.getD 32 undef = _ := By.given_get hg 1 rfl rfl (by kernel_rfl)
        have h33 : a.tmps.getD 33 undef = _ := By.given_get hg 2 rfl rfl (by kernel_rfl)
        refine By.yes rfl ?_
        clear hs hg
        have HTw := Lib.hid (HT3.out.below (grew_below ht) HT3.out.1)
        have HLw := Lib.hid ((HL3.out.below (grew_below ht)).more' ht.size)
        clear ht
        unfold arr8 at h31
        go_simp
        refine (Mark_any key tb ls _ Hkl.out Htb.out w HTw.out HLw.out Hfw.out.n Hfw.out.m Hfw.out.f).mono ?_
        rintro x w8 ⟨rfl, hb8⟩
        exact ⟨_, rfl, hb8, congrArg arr8 HM.out⟩
      · intro a w ht hs hg -- 35
        have h3 := By.same_get hs 3 (by decide) (by kernel_rfl)
        refine By.yes rfl ?_
        clear hs hg
        have hr := l_a32 (Row.below (w := wr.drew) HK3.out ht HK3.out.lt) Hkl.out
        refine wp_ld 24 _ rfl h3 hr ?_
        exact ⟨_, rfl, Grew.refl _, rfl⟩
      · intro a w ht hs hg -- 36
        have h1 := By.same_get hs 1 (by decide) (by kernel_rfl)
        refine By.yes rfl ?_
        clear hs hg
        go_simp
        exact ⟨_, rfl, Grew.refl _, rfl⟩
      · intro a w ht hs hg -- 37
        have h7 := By.same_get hs 7 (by decide) (by kernel_rfl)
        refine By.yes rfl ?_
        clear hs hg
        go_simp
        exact ⟨_, rfl, Grew.refl _, rfl⟩
      · intro a w ht hs hg -- 38
        have h37 : a.tmps.getD 37 undef = _ := By.given_get hg 6 rfl rfl (by kernel_rfl)
        refine By.yes rfl ?_
        clear hs hg
        have hx := (Bs.below (w := wr.drew) HA3.out ht).more ht.size
        refine wp_list1 (.tmp 37) rfl h37 hx ?_
        intro v' w' h hb
        exact ⟨_, rfl, hb, h⟩
      · intro a w ht hs hg -- 39
        have h35 : a.tmps.getD 35 undef = _ := By.given_get hg 4 rfl rfl (by kernel_rfl)
        have h36 : a.tmps.getD 36 undef = _ := By.given_get hg 5 rfl rfl (by kernel_rfl)
        have h38 := By.given_get hg 7 rfl rfl (by kernel_rfl)
        refine By.yes rfl ?_
        obtain ⟨v38, hv38⟩ : ∃ v, a.tmps.getD 38 undef = v := ⟨_, rfl⟩
        replace h38 := (congrArg (fun v => ((fullM [al])).on v w) hv38).mp h38
        clear hs hg
        have HTw := Lib.hid (HT3.out.below (grew_below ht) HT3.out.1)
        have HLw := Lib.hid h38.bss
        obtain ⟨A8, c8, rfl, _, _⟩ := id HLw.out
        clear h38
        clear ht
        unfold arr8 at h35
        go_simp
        refine (Mark_any key tb [al] _ Hkl.out Htb.out w HTw.out HLw.out Hf1.out.n Hf1.out.m Hf1.out.f).mono ?_
        rintro x w8 ⟨rfl, hb8⟩
        exact ⟨_, rfl, hb8, congrArg arr8 HM1.out⟩
      · intro a w ht hs hg -- 40
        have h34 : a.tmps.getD 34 undef = _ := By.given_get hg 3 rfl rfl (by kernel_rfl)
        have h39 : a.tmps.getD 39 undef = _ := By.given_get hg 8 rfl rfl (by kernel_rfl)
        refine By.yes rfl ?_
        clear hs hg
        refine wp_eqArr _ _ rfl (by kernel_rfl) h34 h39 (eq16 M HMl.out w) ?_
        exact ⟨_, rfl, Grew.refl _, congrArg Value.bool (by simp)⟩
      · intro a w ht hs hg -- 41
        have h40 : a.tmps.getD 40 undef = _ := By.given_get hg 9 rfl rfl (by kernel_rfl)
        refine By.yes rfl ?_
        clear hs hg
        go_simp
        exact ⟨_, rfl, Grew.refl _, rfl⟩
      · intro a w ht hs hg -- 42
        have h3 := By.same_get hs 3 (by decide) (by kernel_rfl)
        have hg41 := By.given_get hg 10 rfl rfl (by kernel_rfl)
        refine By.yes (By.want_yes rfl rfl hg41) ?_
        clear hg41
        clear hs hg
        have hr := l_a32 (Row.below (w := wr.drew) HK3.out ht HK3.out.lt) Hkl.out
        refine wp_ld 24 _ rfl h3 hr ?_
        exact ⟨_, rfl, Grew.refl _, rfl⟩
      · intro a w ht hs hg -- 43
        have h1 := By.same_get hs 1 (by decide) (by kernel_rfl)
        have hg41 := By.given_get hg 10 rfl rfl (by kernel_rfl)
        refine By.yes (By.want_yes rfl rfl hg41) ?_
        clear hg41
        clear hs hg
        go_simp
        exact ⟨_, rfl, Grew.refl _, rfl⟩
      · intro a w ht hs hg -- 44
        have h7 := By.same_get hs 7 (by decide) (by kernel_rfl)
        have hg41 := By.given_get hg 10 rfl rfl (by kernel_rfl)
        refine By.yes (By.want_yes rfl rfl hg41) ?_
        clear hg41
        clear hs hg
        go_simp
        exact ⟨_, rfl, Grew.refl _, rfl⟩
      · intro a w ht hs hg -- 45
        have h44 : a.tmps.getD 44 undef = _ := By.given_get hg 13 rfl rfl (by kernel_rfl)
        have hg41 := By.given_get hg 10 rfl rfl (by kernel_rfl)
        refine By.yes (By.want_yes rfl rfl hg41) ?_
        clear hg41
        clear hs hg
        have hr := run_str w (Bs.below (w := wr.drew) HA3.out ht)
        refine wp_conv _ _ (.tmp 44) rfl h44 hr ?_
        exact ⟨_, rfl, Grew.refl _, rfl⟩
      · intro a w ht hs hg -- 46
        have h43 : a.tmps.getD 43 undef = _ := By.given_get hg 12 rfl rfl (by kernel_rfl)
        have h45 : a.tmps.getD 45 undef = _ := By.given_get hg 14 rfl rfl (by kernel_rfl)
        have hg41 := By.given_get hg 10 rfl rfl (by kernel_rfl)
        refine By.yes (By.want_yes rfl rfl hg41) ?_
        clear hg41
        clear hs hg
        refine wp_add (.tmp 43) (.tmp 45) rfl h43 h45 (by unfold strOf; simp [eqGuard, Sem.run_bind]) (run_addstr tb al HtA.out w) ?_
        exact ⟨_, rfl, Grew.refl _, rfl⟩
      · intro a w ht hs hg -- 47
        have h42 : a.tmps.getD 42 undef = _ := By.given_get hg 11 rfl rfl (by kernel_rfl)
        have h46 : a.tmps.getD 46 undef = _ := By.given_get hg 15 rfl rfl (by kernel_rfl)
        have hg41 := By.given_get hg 10 rfl rfl (by kernel_rfl)
        refine By.yes (By.want_yes rfl rfl hg41) ?_
        clear hg41
        clear hs hg
        have HTw := Lib.hid (HT3.out.below (grew_below ht) HT3.out.1)
        clear ht
        unfold arr8 at h42
        go_simp
        refine (Mark_any key (tb ++ al) [] _ Hkl.out Htl.out w HTw.out (show Bss w w.heap.size (.slice none 0 0) [] from ⟨none, 0, rfl, Nat.le_refl _, fun h => absurd rfl h⟩) Hf0.out.n Hf0.out.m Hf0.out.f).mono ?_
        rintro x w8 ⟨rfl, hb8⟩
        exact ⟨_, rfl, hb8, congrArg arr8 HM2.out⟩
      · intro a w ht hs hg -- 48
        have h3 := By.same_get hs 3 (by decide) (by kernel_rfl)
        have hg41 := By.given_get hg 10 rfl rfl (by kernel_rfl)
        refine By.yes (By.want_yes rfl rfl hg41) ?_
        clear hg41
        clear hs hg
        have hr := l_a32 (Row.below (w := wr.drew) HK3.out ht HK3.out.lt) Hkl.out
        refine wp_ld 24 _ rfl h3 hr ?_
        exact ⟨_, rfl, Grew.refl _, rfl⟩
      · intro a w ht hs hg -- 49
        have h1 := By.same_get hs 1 (by decide) (by kernel_rfl)
        have hg41 := By.given_get hg 10 rfl rfl (by kernel_rfl)
        refine By.yes (By.want_yes rfl rfl hg41) ?_
        clear hg41
        clear hs hg
        go_simp
        exact ⟨_, rfl, Grew.refl _, rfl⟩
      · intro a w ht hs hg -- 50
        have h7 := By.same_get hs 7 (by decide) (by kernel_rfl)
        have hg41 := By.given_get hg 10 rfl rfl (by kernel_rfl)
        refine By.yes (By.want_yes rfl rfl hg41) ?_
        clear hg41
        clear hs hg
        go_simp
        exact ⟨_, rfl, Grew.refl _, rfl⟩
      · intro a w ht hs hg -- 51
        have h50 : a.tmps.getD 50 undef = _ := By.given_get hg 19 rfl rfl (by kernel_rfl)
        have hg41 := By.given_get hg 10 rfl rfl (by kernel_rfl)
        refine By.yes (By.want_yes rfl rfl hg41) ?_
        clear hg41
        clear hs hg
        have hx := (Bs.below (w := wr.drew) HA3.out ht).more ht.size
        refine wp_list1 (.tmp 50) rfl h50 hx ?_
        intro v' w' h hb
        exact ⟨_, rfl, hb, h⟩
      · intro a w ht hs hg -- 52
        have h48 : a.tmps.getD 48 undef = _ := By.given_get hg 17 rfl rfl (by kernel_rfl)
        have h49 : a.tmps.getD 49 undef = _ := By.given_get hg 18 rfl rfl (by kernel_rfl)
        have h51 := By.given_get hg 20 rfl rfl (by kernel_rfl)
        have hg41 := By.given_get hg 10 rfl rfl (by kernel_rfl)
        refine By.yes (By.want_yes rfl rfl hg41) ?_
        clear hg41
        obtain ⟨v51, hv51⟩ : ∃ v, a.tmps.getD 51 undef = v := ⟨_, rfl⟩
        replace h51 := (congrArg (fun v => ((fullM [al])).on v w) hv51).mp h51
        clear hs hg
        have HTw := Lib.hid (HT3.out.below (grew_below ht) HT3.out.1)
        have HLw := Lib.hid h51.bss
        obtain ⟨A8, c8, rfl, _, _⟩ := id HLw.out
        clear h51
        clear ht
        unfold arr8 at h48
        go_simp
        refine (Mark_any key tb [al] _ Hkl.out Htb.out w HTw.out HLw.out Hf1.out.n Hf1.out.m Hf1.out.f).mono ?_
        rintro x w8 ⟨rfl, hb8⟩
        exact ⟨_, rfl, hb8, congrArg arr8 HM1.out⟩
      · intro a w ht hs hg -- 53
        have h47 : a.tmps.getD 47 undef = _ := By.given_get hg 16 rfl rfl (by kernel_rfl)
        have h52 : a.tmps.getD 52 undef = _ := By.given_get hg 21 rfl rfl (by kernel_rfl)
        have hg41 := By.given_get hg 10 rfl rfl (by kernel_rfl)
        refine By.yes (By.want_yes rfl rfl hg41) ?_
        clear hg41
        clear hs hg
        refine wp_eqArr _ _ rfl (by kernel_rfl) h47 h52 (eq16 M HMl.out w) ?_
        exact ⟨_, rfl, Grew.refl _, congrArg Value.bool (by simp)⟩
      · intro a w ht hs hg -- 54
        have h41 : a.tmps.getD 41 undef = _ := By.given_get hg 10 rfl rfl (by kernel_rfl)
        have h53 : a.tmps.getD 53 undef = _ := By.given_get hg 22 rfl rfl (by kernel_rfl)
        refine By.yes rfl ?_
        clear hs hg
        go_simp
        exact ⟨_, rfl, Grew.refl _, rfl⟩
      · intro a w ht hs hg -- 55
        have h54 : a.tmps.getD 54 undef = _ := By.given_get hg 23 rfl rfl (by kernel_rfl)
        refine By.yes rfl ?_
        clear hs hg
        go_simp
        exact ⟨_, rfl, Grew.refl _, rfl⟩
      · intro a w ht hs hg -- 56
        have h3 := By.same_get hs 3 (by decide) (by kernel_rfl)
        have hg55 := By.given_get hg 24 rfl rfl (by kernel_rfl)
        refine By.yes (By.want_yes rfl rfl hg55) ?_
        clear hg55
        clear hs hg
        have hr := l_a32 (Row.below (w := wr.drew) HK3.out ht HK3.out.lt) Hkl.out
        refine wp_ld 24 _ rfl h3 hr ?_
        exact ⟨_, rfl, Grew.refl _, rfl⟩
      · intro a w ht hs hg -- 57
        have h1 := By.same_get hs 1 (by decide) (by kernel_rfl)
        have hg55 := By.given_get hg 24 rfl rfl (by kernel_rfl)
        refine By.yes (By.want_yes rfl rfl hg55) ?_
        clear hg55
        clear hs hg
        go_simp
        exact ⟨_, rfl, Grew.refl _, rfl⟩
      · intro a w ht hs hg -- 58
        have h57 : a.tmps.getD 57 undef = _ := By.given_get hg 26 rfl rfl (by kernel_rfl)
        have hg55 := By.given_get hg 24 rfl rfl (by kernel_rfl)
        refine By.yes (By.want_yes rfl rfl hg55) ?_
        clear hg55
        clear hs hg
        obtain ⟨v, W, hr, hv, hb⟩ := run_bytes w tb
        refine wp_conv _ _ (.tmp 57) rfl h57 hr ?_
        exact ⟨_, rfl, hb, hv⟩
      · intro a w ht hs hg -- 59
        have h7 := By.same_get hs 7 (by decide) (by kernel_rfl)
        have hg55 := By.given_get hg 24 rfl rfl (by kernel_rfl)
        refine By.yes (By.want_yes rfl rfl hg55) ?_
        clear hg55
        clear hs hg
        go_simp
        exact ⟨_, rfl, Grew.refl _, rfl⟩
      · intro a w ht hs hg -- 60
        have h58 := By.given_get hg 27 rfl rfl (by kernel_rfl)
        have h59 : a.tmps.getD 59 undef = _ := By.given_get hg 28 rfl rfl (by kernel_rfl)
        have hg55 := By.given_get hg 24 rfl rfl (by kernel_rfl)
        refine By.yes (By.want_yes rfl rfl hg55) ?_
        clear hg55
        obtain ⟨v58, hv58⟩ : ∃ v, a.tmps.getD 58 undef = v := ⟨_, rfl⟩
        replace h58 := (congrArg (fun v => ((bsM tb)).on v w) hv58).mp h58
        clear hs hg
        have hx := (Bs.below (w := wr.drew) HA3.out ht).more ht.size
        refine wp_list2 (.tmp 58) (.tmp 59) rfl hv58 h58 h59 hx ?_
        intro v' w' h hb
        exact ⟨_, rfl, hb, h⟩
      · intro a w ht hs hg -- 61
        have h56 : a.tmps.getD 56 undef = _ := By.given_get hg 25 rfl rfl (by kernel_rfl)
        have h60 := By.given_get hg 29 rfl rfl (by kernel_rfl)
        have hg55 := By.given_get hg 24 rfl rfl (by kernel_rfl)
        refine By.yes (By.want_yes rfl rfl hg55) ?_
        clear hg55
        obtain ⟨v60, hv60⟩ : ∃ v, a.tmps.getD 60 undef = v := ⟨_, rfl⟩
        replace h60 := (congrArg (fun v => ((fullM [tb, al])).on v w) hv60).mp h60
        clear hs hg
        have HTw := Lib.hid (HT3.out.below (grew_below ht) HT3.out.1)
        have HLw := Lib.hid h60.bss
        obtain ⟨A8, c8, rfl, _, _⟩ := id HLw.out
        clear h60
        clear ht
        unfold arr8 at h56
        go_simp
        refine (Mark_any key [] [tb, al] _ Hkl.out (by decide) w HTw.out HLw.out Hf2.out.n Hf2.out.m Hf2.out.f).mono ?_
        rintro x w8 ⟨rfl, hb8⟩
        exact ⟨_, rfl, hb8, congrArg arr8 HM3.out⟩
      · intro a w ht hs hg -- 62
        have h3 := By.same_get hs 3 (by decide) (by kernel_rfl)
        have hg55 := By.given_get hg 24 rfl rfl (by kernel_rfl)
        refine By.yes (By.want_yes rfl rfl hg55) ?_
        clear hg55
        clear hs hg
        have hr := l_a32 (Row.below (w := wr.drew) HK3.out ht HK3.out.lt) Hkl.out
        refine wp_ld 24 _ rfl h3 hr ?_
        exact ⟨_, rfl, Grew.refl _, rfl⟩
      · intro a w ht hs hg -- 63
        have h1 := By.same_get hs 1 (by decide) (by kernel_rfl)
        have hg55 := By.given_get hg 24 rfl rfl (by kernel_rfl)
        refine By.yes (By.want_yes rfl rfl hg55) ?_
        clear hg55
        clear hs hg
        go_simp
        exact ⟨_, rfl, Grew.refl _, rfl⟩
      · intro a w ht hs hg -- 64
        have h7 := By.same_get hs 7 (by decide) (by kernel_rfl)
        have hg55 := By.given_get hg 24 rfl rfl (by kernel_rfl)
        refine By.yes (By.want_yes rfl rfl hg55) ?_
        clear hg55
        clear hs hg
        go_simp
        exact ⟨_, rfl, Grew.refl _, rfl⟩
      · intro a w ht hs hg -- 65
        have h64 : a.tmps.getD 64 undef = _ := By.given_get hg 33 rfl rfl (by kernel_rfl)
        have hg55 := By.given_get hg 24 rfl rfl (by kernel_rfl)
        refine By.yes (By.want_yes rfl rfl hg55) ?_
        clear hg55
        clear hs hg
        have hx := (Bs.below (w := wr.drew) HA3.out ht).more ht.size
        refine wp_list1 (.tmp 64) rfl h64 hx ?_
        intro v' w' h hb
        exact ⟨_, rfl, hb, h⟩
      · intro a w ht hs hg -- 66
        have h62 : a.tmps.getD 62 undef = _ := By.given_get hg 31 rfl rfl (by kernel_rfl)
        have h63 : a.tmps.getD 63 undef = _ := By.given_get hg 32 rfl rfl (by kernel_rfl)
        have h65 := By.given_get hg 34 rfl rfl (by kernel_rfl)
        have hg55 := By.given_get hg 24 rfl rfl (by kernel_rfl)
        refine By.yes (By.want_yes rfl rfl hg55) ?_
        clear hg55
        obtain ⟨v65, hv65⟩ : ∃ v, a.tmps.getD 65 undef = v := ⟨_, rfl⟩
        replace h65 := (congrArg (fun v => ((fullM [al])).on v w) hv65).mp h65
        clear hs hg
        have HTw := Lib.hid (HT3.out.below (grew_below ht) HT3.out.1)
        have HLw := Lib.hid h65.bss
        obtain ⟨A8, c8, rfl, _, _⟩ := id HLw.out
        clear h65
        clear ht
        unfold arr8 at h62
        go_simp
        refine (Mark_any key tb [al] _ Hkl.out Htb.out w HTw.out HLw.out Hf1.out.n Hf1.out.m Hf1.out.f).mono ?_
        rintro x w8 ⟨rfl, hb8⟩
        exact ⟨_, rfl, hb8, congrArg arr8 HM1.out⟩
      · intro a w ht hs hg -- 67
        have h61 : a.tmps.getD 61 undef = _ := By.given_get hg 30 rfl rfl (by kernel_rfl)
        have h66 : a.tmps.getD 66 undef = _ := By.given_get hg 35 rfl rfl (by kernel_rfl)
        have hg55 := By.given_get hg 24 rfl rfl (by kernel_rfl)
        refine By.yes (By.want_yes rfl rfl hg55) ?_
        clear hg55
        clear hs hg
        refine wp_eqArr _ _ rfl (by kernel_rfl) h61 h66 (eq16 M HMl.out w) ?_
        exact ⟨_, rfl, Grew.refl _, congrArg Value.bool (by simp)⟩
      · intro a w ht hs hg -- 68
        have h55 : a.tmps.getD 55 undef = _ := By.given_get hg 24 rfl rfl (by kernel_rfl)
        have h67 : a.tmps.getD 67 undef = _ := By.given_get hg 36 rfl rfl (by kernel_rfl)
        refine By.yes rfl ?_
        clear hs hg
        go_simp
        exact ⟨_, rfl, Grew.refl _, rfl⟩
      · intro a w ht hs hg -- 6
        have h68 : a.tmps.getD 68 undef = _ := By.given_get hg 37 rfl rfl (by kernel_rfl)
        refine By.yes rfl ?_
        clear hs hg
        go_simp
        exact ⟨_, rfl, Grew.refl _, rfl⟩
      refine By.ends_is (By.ends_is (By.ends_is (By.ends_is (By.ends_is (By.ends_is (By.ends_is (By.ends_skip fun v38 => (By.ends_is (By.ends_is (By.ends_is (By.ends_is (By.ends_is (By.ends_is (By.ends_is (By.ends_is (By.ends_is (By.ends_is (By.ends_is (By.ends_is (By.ends_skip fun v51 => (By.ends_is (By.ends_is (By.ends_is (By.ends_is (By.ends_is (By.ends_is (By.ends_skip fun v58 => (By.ends_is (By.ends_skip fun v60 => (By.ends_is (By.ends_is (By.ends_is (By.ends_is (By.ends_skip fun v65 => (By.ends_is (By.ends_is (By.ends_is (By.ends_is (By.ends_nil fun w9 hw9 => ?_)))))))))))))))))))))))))))))))))))))))
      simp only [Act.put, List.setIfInBounds_toArray, List.set_cons_succ, List.set_cons_zero]
      have HB9 := Lib.hid (nextB HB3.out (Nat.le_refl _) (grew_below hw9))
      clear hw9
      go_wp2
      go_ret
      exact ⟨rfl, HB9.out⟩

set_option maxRecDepth 100000 in
theorem lift (os : Os) (started : os.Started) (H : Type) (enc : TypeId × Value → H) :
    ReturnsInHanded {} Tryd.checked os 11 .any (fun w args => (Rows.shakeMarksSpec.pre enc Tryd.prog Tryd.f11 Rows.shakeMarksRow.domain false w args ∧ laidMetH Tryd.prog Hk.laidL w) ∧ sizedMet enc Tryd.prog Tryd.f11 (OpenSpec.ofChange Rows.shakeMarksSpec) false w args) (Rows.shakeMarksSpec.post enc Tryd.prog Tryd.f11 false true false false) := by
  refine Hk.lifted 4 Pol.own started (by kernel_rfl) Tryd.func11 Pol.laid (by kernel_rfl) rfl Tryd.underlying4 rfl
    (fun ds hd => by
      have hd' : ds.length = 3 := hd
      match ds, hd' with
      | [d0, d1, d2], _ => rfl)
    (ChangeSpec.witness_at (enc := enc) (C := Tryd.checked) (os := os) (X := fun w _ => laidMetH Tryd.prog Hk.laidL w) false (Hk.laidWorld os) #[.agg (Array.replicate 32 (.int .u8 0)), .string ⟨#[]⟩, .slice none 0 0] 8 rfl (by kernel_rfl) (by kernel_rfl) (by kernel_rfl) (by kernel_rfl) (by kernel_rfl) (Hk.laid_metH os _)) ?_
  intro W args ds ps hst htab
  have hA : DataW.TrodAll enc Tryd.prog W 0 (fun _ => true) true Tryd.f11.params.toList args.toList ds ps := hst.trod
  have hok := hst.okw
  have hlt := hst.lt
  rw [Tryd.params11] at hA hok
  obtain ⟨v0, v1, v2, d0, d1, d2, p0, p1, p2, rfl, rfl, rfl, h0, h1, h2⟩ := trodAll_three hA
  obtain ⟨_, hv0⟩ := hok 0 24 v0 rfl rfl
  obtain ⟨_, hv1⟩ := hok 1 9 v1 rfl rfl
  obtain ⟨_, hv2⟩ := hok 2 22 v2 rfl rfl
  obtain ⟨key, rfl, hk⟩ := arr8_at Tryd.underlying24 (by kernel_rfl) (by kernel_rfl) Tryd.underlying5 hv0
  obtain ⟨s, rfl⟩ := okWide_string Tryd.underlying9 hv1
  obtain ⟨tb, rfl⟩ : ∃ tb : List UInt8, s = ⟨tb.toArray⟩ := ⟨s.data.toList, by cases s; simp⟩
  obtain ⟨ls, hb, _⟩ := lists_trod Tryd.underlying22 hv2 h2 (fun x hx => hlt x (by simp [hx]))
  exact walk key tb ls _ hk W htab hb

theorem over : Rows.shakeMarksRow.holds Tryd.pinned (OpenSpec.ofChange Rows.shakeMarksSpec) :=
  OpenClaim.holds_of_wide 11 Tryd.f11 rfl rfl rfl rfl rfl rfl rfl ⟨rfl, rfl, rfl, rfl, rfl⟩ rfl rfl rfl rfl rfl (by kernel_rfl) Tryd.func11 (by kernel_rfl)
    (of_decide_eq_true (by kernel_rfl)) (by unfold Func.isWrapper; first | (rw [if_pos (by decide +kernel)]; kernel_rfl) | (rw [if_neg (by decide +kernel)]; exact ⟨rfl, rfl⟩))
    (fun os started H enc _ => lift os started H enc)
theorem proved : Rows.ShakeMarksCardSaid :=
  Claim7.holds_tied_plain_at .later [] [.data] true Rows.shakeMarksCard.stood.harness false over (fun _ h => by cases h) (by kernel_rfl) (fun _ h => by cases h) shakeMarks_row_tie rfl ⟨rfl, rfl⟩ (by kernel_rfl) rfl
    (fun f fn hf hfn => by
      obtain rfl : f = 11 := (Option.some.inj ((show Tryd.prog.funcNamed Rows.shakeMarksRow.func = some 11 by kernel_rfl).symm.trans hf)).symm
      obtain rfl : fn = Tryd.f11 := (Option.some.inj (Tryd.func11.symm.trans hfn)).symm
      refine ⟨by kernel_rfl, fun j t ht => ?_⟩
      have hall : (Tryd.f11.params.toList.all fun t => Tryd.prog.wantsStandIn t == false) = true := by kernel_rfl
      have h := List.all_eq_true.1 hall t (Array.mem_toList_iff.2 (Array.mem_of_getElem? ht))
      exact eq_of_beq h)
    (by kernel_rfl)
#print axioms proved
end Go.Proofs.YtmfpjdbgdmmjkaaDoor.shakeMarks
