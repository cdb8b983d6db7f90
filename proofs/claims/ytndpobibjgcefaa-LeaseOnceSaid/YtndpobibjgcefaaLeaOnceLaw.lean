/- Whatever is taken, leased and recovered, no number is taken twice: 'drawbridgelaw06.LeaseOnce'. -/
import Derived.Test.YtndpobibjgcefaaLeaCalls
import Derived.Test.YtndpobibjgcefaaLeaLives
import Derived.Test.YtndpobibjgcefaaKitBase
import Derived.Test.YtndpobibjgcefaaCells
import Derived.Test.YtndpobibjgcefaaTail
import Derived.Deep.QuietTactic
import Derived.BigQuiet
import Derived.RegionTactic
import Derived.ChangeAlike
namespace Go.Proofs.Ytndpobibjgcefaa.leaseOnce
open Go.ChangeShapes Go.WideShapes Go.ChangeAt Go.RowKit Lea

abbrev cl (n l : Nat) : List Value := [.int .u64 (n : Int), .int .u64 (l : Int)]
theorem cl_one (n l : Nat) : ∀ v ∈ cl n l, v.oneCell' = true := by
  intro v hv
  simp only [cl, List.mem_cons, List.not_mem_nil, or_false] at hv
  rcases hv with rfl | rfl <;> rfl
theorem cells0 {W : World} {g : Nat} {n l : Nat} (h : Row W g (cl n l) 24) : W.cell? ⟨g, 0, none⟩ = some (.int .u64 (n : Int)) := h.cell rfl
theorem cells1 {W : World} {g : Nat} {n l : Nat} (h : Row W g (cl n l) 24) : W.cell? ⟨g, 1, none⟩ = some (.int .u64 (l : Int)) := h.cell rfl

set_option maxRecDepth 8000 in
theorem long (A : Option Addr) (c N : Nat) (w : World) (h : 100 < N) : Calls Try.prog 5 #[.slice A N c] w fun e w' => e = .returned (.bool true) ∧ Below w.heap.size w w' := by
  have h' : (100 : Int) < (N : Int) := by omega
  go_enter Try.func5, Try.ntmps5
  go_wp2_with fail
  refine (lives_any _).mono ?_
  rintro e w1 ⟨rfl, hb1⟩
  go_wp2
  go_ret
  exact ⟨rfl, hb1⟩

theorem Lease_arg0 (n l y : Nat) (w : World) (h : Ok n l) (hy : y = 0) : Calls Try.prog 8 #[cv n l, .int .u64 (y : Int)] w fun e w' => e = .returned (.tuple #[cv 0 0, .int .i64 2]) ∧ Below w.heap.size w w' := by
  subst hy
  exact Lease_arg n l w h
set_option maxRecDepth 4000 in
set_option maxHeartbeats 40000000 in
theorem walk (A : Option Addr) (c N : Nat) (f : Nat → Nat → Int) (w : World) (hr : RecsK w w.heap.size (.slice A N c) [.i64, .u64] 2 N f) (hN : N ≤ 100)
    (hf : ∀ i, i < N → (-9223372036854775808 ≤ f i 0 ∧ f i 0 ≤ 9223372036854775807) ∧ 0 ≤ f i 1 ∧ f i 1 < 18446744073709551616) :
    Calls Try.prog 5 #[.slice A N c] w fun e w' => e = .returned (.bool true) ∧ Below w.heap.size w w' := by
  have h' : ¬ (100 : Int) < (N : Int) := by omega
  have HR := Lib.hid hr
  have HF := Lib.hid hf
  clear hr hf
  go_enter Try.func5, Try.ntmps5
  go_wp2_with fail
  refine (lives_any _).mono ?_
  rintro e w1 ⟨rfl, hb1⟩
  have HB1 := Lib.hid hb1
  have hs1 : w.heap.size ≤ w1.heap.size := hb1.size
  clear hb1
  go_wp2_with fail
  refine (Lea.New_any _).mono ?_
  rintro e w' ⟨rfl, rfl⟩
  go_wp2
  obtain ⟨G, hG⟩ : ∃ G, w1.heap.size + 1 = G := ⟨_, rfl⟩
  have hwG : w.heap.size ≤ G := by omega
  rw [hG]
  go_loopw [4, 5, 6, 7, 8, 9, 10, 11, 12, 13] (fun lv iv _ _ _ _ _ _ _ _ wr => ∃ i last n l : Nat, i ≤ N ∧ iv = .int .i64 (i : Int) ∧ lv = .int .u64 (last : Int) ∧ last < n ∧ Ok n l ∧ Row wr G (cl n l) 24 ∧ Below w.heap.size w wr) (fun _ iv _ _ _ _ _ _ _ _ _ => N - (intOf iv).toNat)
  case atStart =>
    exact ⟨0, 0, 1, 0, by omega, rfl, rfl, by omega, by unfold Ok; omega, Row.new (by simp; omega) rfl, (HB1.out.alloc hs1 _).alloc (by simp <;> omega) _⟩
  case round =>
    obtain ⟨i, last, n, l, hi, rfl, rfl, hln, hok, hr, hbr⟩ := hrel
    have q0 := cells0 hr
    have q1 := cells1 hr
    have HBR := Lib.hid hbr
    have hrs : w.heap.size ≤ wr.heap.size := hbr.size
    have hlr : G < wr.heap.size := hr.lt
    have HRr := Lib.hid hr
    have HO := Lib.hid hok
    clear hr hbr
    by_cases hin : i < N
    · have hin' : (i : Int) < (N : Int) := by omega
      obtain ⟨b, off, rfl, hcell⟩ : ∃ b off, A = some ⟨b, off, none⟩ ∧ ∀ W, Below w.heap.size w W → W.cell? ⟨b, off + i * 2, none⟩ = some (.int .i64 (f i 0)) ∧ W.cell? ⟨b, off + i * 2 + 1, none⟩ = some (.int .u64 (f i 1)) := by
        obtain ⟨A', c', e', _, hcs⟩ := HR.out
        simp only [Value.slice.injEq] at e'
        obtain ⟨rfl, _, rfl⟩ := e'
        obtain ⟨b, off, rfl, hlt, hcs⟩ := hcs (by omega)
        exact ⟨b, off, rfl, fun W hW => ⟨(hW.cell (p := ⟨b, _, none⟩) hlt).trans (hcs i hin 0 (by omega)), (hW.cell (p := ⟨b, _, none⟩) hlt).trans (hcs i hin 1 (by omega))⟩⟩
      obtain ⟨hf0, hf1, hf2⟩ := HF.out i hin
      obtain ⟨y, hy⟩ := Int.eq_ofNat_of_zero_le hf1
      obtain ⟨x, hx⟩ : ∃ x, f i 0 = x := ⟨_, rfl⟩
      rw [hx, hy] at hcell
      rw [hx] at hf0
      rw [hy] at hf2
      have Hc := Lib.hid hcell
      have Hx := Lib.hid hf0
      have hy2 : y < 18446744073709551616 := by omega
      clear hcell hf0 hf1 hf2 hx hy
      obtain ⟨p, hp, hp6⟩ : ∃ p : Nat, pick x 6 = (p : Int) ∧ p < 6 := ⟨(pick x 6).toNat, by have := pick_in x 6 (by omega); omega, by have := pick_in x 6 (by omega); omega⟩
      have c0 := (Hc.out wr HBR.out).1
      have c1 := (Hc.out wr HBR.out).2
      by_cases hp3 : p = 3
      · have e3 : ((p : Int) == 3) = true := by rw [hp3]; rfl
        clear hp3
        go_wp2_with fail
        refine (Pick_any x 6 _ Hx.out (by omega)).mono ?_
        rw [hp]
        rintro e w' ⟨rfl, rfl⟩
        go_wp2_with fail
        by_cases hy0 : y = 0
        · have hy3 : decide (0 < y) = false := by rw [decide_eq_false_iff_not]; omega
          have HX := Lib.hid (fun W : World => Lease_arg0 n l y W HO.out hy0)
          clear hy0
          refine Tail.marksF Lea.mixed 11 9 83 Grew [By.is (cv n l),
            By.is (.slice (some ⟨b, off, none⟩) N c),
            By.is (.int .i64 (i : Int)),
            By.is (.pointer (some ⟨b, off + i * 2, none⟩)),
            By.is (.pointer (some ⟨b, off + i * 2 + 1, none⟩)),
            By.is (.int .u64 (y : Int)),
            By.is (.tuple #[cv 0 0, .int .i64 2]),
            By.is (.tuple #[cv 0 0, .int .i64 2]),
            By.is (cv 0 0),
            By.is (.int .i64 2),
            rowS wr.heap.size [.int .u64 0, .int .u64 0] 24]
            (Ev.masks _ []) (Nat.zero_lt_succ _) rfl (by kernel_rfl) (by kernel_rfl) rfl Grew.refl Grew.trans ⟨?_, ?_, ?_, ?_, ?_, ?_, ?_, ?_, ?_, ?_, ?_, trivial⟩ [_, _, _] (by rfl) ?_ ?_
          · intro a w ht hs hg -- 75
            have h3 := By.same_get hs 3 (by decide) (by kernel_rfl)
            refine By.yes rfl ?_
            clear hs hg
            refine wp_loadRow 24 _ rfl h3 (Row.below (w := wr.drew) HRr.out ht HRr.out.lt) Try.underlying24 rfl (by kernel_rfl) rfl ?_
            exact ⟨_, rfl, Grew.refl _, rfl⟩
          · intro a w ht hs hg -- 76
            have h0 := By.same_get hs 0 (by decide) (by kernel_rfl)
            refine By.yes rfl ?_
            clear hs hg
            go_simp
            exact ⟨_, rfl, Grew.refl _, rfl⟩
          · intro a w ht hs hg -- 77
            have h5 := By.same_get hs 5 (by decide) (by kernel_rfl)
            refine By.yes rfl ?_
            clear hs hg
            go_simp
            exact ⟨_, rfl, Grew.refl _, rfl⟩
          · intro a w ht hs hg -- 78
            have h76 : a.tmps.getD 76 undef = _ := By.given_get hg 1 rfl rfl (by kernel_rfl)
            have h77 : a.tmps.getD 77 undef = _ := By.given_get hg 2 rfl rfl (by kernel_rfl)
            refine By.yes rfl ?_
            clear hs hg
            go_simp
            exact ⟨_, rfl, Grew.refl _, rfl⟩
          · intro a w ht hs hg -- 79
            have h78 : a.tmps.getD 78 undef = _ := By.given_get hg 3 rfl rfl (by kernel_rfl)
            refine By.yes rfl ?_
            clear hs hg
            go_simp
            exact ⟨_, rfl, Grew.refl _, rfl⟩
          · intro a w ht hs hg -- 80
            have h79 : a.tmps.getD 79 undef = _ := By.given_get hg 4 rfl rfl (by kernel_rfl)
            refine By.yes rfl ?_
            clear hs hg
            have hc := (Hc.out w (Below.trans HBR.out.drew (Below.mono ht hrs))).2
            go_simp
            exact ⟨_, rfl, Grew.refl _, rfl⟩
          · intro a w ht hs hg -- 81
            have h75 : a.tmps.getD 75 undef = _ := By.given_get hg 0 rfl rfl (by kernel_rfl)
            have h80 : a.tmps.getD 80 undef = _ := By.given_get hg 5 rfl rfl (by kernel_rfl)
            refine By.yes rfl ?_
            clear hs hg
            go_simp
            refine (HX.out w).mono ?_
            rintro e w' ⟨rfl, hb2⟩
            exact ⟨_, rfl, hb2, rfl⟩
          · intro a w ht hs hg -- 74
            have h81 : a.tmps.getD 81 undef = _ := By.given_get hg 6 rfl rfl (by kernel_rfl)
            refine By.yes rfl ?_
            clear hs hg
            go_simp
            exact ⟨_, rfl, Grew.refl _, rfl⟩
          · intro a w ht hs hg -- 82
            have h74 : a.tmps.getD 74 undef = _ := By.given_get hg 7 rfl rfl (by kernel_rfl)
            refine By.yes rfl ?_
            clear hs hg
            go_simp
            exact ⟨_, rfl, Grew.refl _, rfl⟩
          · intro a w ht hs hg -- 83
            have h74 : a.tmps.getD 74 undef = _ := By.given_get hg 7 rfl rfl (by kernel_rfl)
            refine By.yes rfl ?_
            clear hs hg
            go_simp
            exact ⟨_, rfl, Grew.refl _, rfl⟩
          · intro a w ht hs hg -- 6
            refine By.yes rfl ?_
            clear hs hg
            have hsz := Below.size ht
            go_simp
            exact ⟨_, rfl, (Below.refl _ w).alloc (Nat.le_refl _) _, w.heap.size, rfl, hsz, Row.new rfl rfl⟩
          · refine By.ends_is (By.ends_is (By.ends_is (By.ends_is (By.ends_is (By.ends_is (By.ends_is (By.ends_is (By.ends_is (By.ends_is (By.ends_any fun v6 => (By.ends_nil fun w8 hw8 => ?_)))))))))))
            simp only [Act.put, List.setIfInBounds_toArray, List.set_cons_succ, List.set_cons_zero]
            simp only [List.drop_succ_cons, List.drop_zero]
            obtain ⟨hgr, q, rfl, hBq, hq⟩ := hw8
            have hG8 := Row.below (w := wr.drew) HRr.out hgr HRr.out.lt
            have hbel := nextB HBR.out (Nat.le_refl _) (show Below wr.heap.size wr w8 from ⟨hgr.os, hgr.tape, hgr.output, hgr.size, hgr.block⟩)
            have hGq : G ≠ q := by omega
            have Hq := Lib.hid hq
            have HG8 := Lib.hid hG8
            have Hbel := Lib.hid hbel
            have hwq : w.heap.size ≤ q := by omega
            clear hq hG8 hbel hgr q0 q1
            go_wp2_with (first
              | (refine wpList_storeRow (n := 2) rfl 24 _ _ rfl rfl rfl (cs := cl 0 0) (old := [.int .u64 0, .int .u64 0]) Hq.out (by kernel_rfl) rfl rfl (cl_one _ _) ?_
                 obtain ⟨V, hV⟩ : ∃ V, w8.setRow q (cl 0 0).toArray = V := ⟨_, rfl⟩
                 refine wpList_world hV ?_
                 have RG := Lib.hid (show Row V G (cl n l) 24 by rw [← hV]; exact HG8.out.setOther _ _ hGq)
                 have R6 := Lib.hid (show Row V q (cl 0 0) 24 by rw [← hV]; exact Hq.out.setRow _)
                 have HBV := Lib.hid (show Below w.heap.size w V by rw [← hV]; exact below_setRow Hbel.out hwq _)
                 have y0 := cells0 RG.out
                 have y1 := cells1 RG.out
                 have y2 := frozen_row RG.out 0
                 have y3 := frozen_row RG.out 1
                 have y4 := cells0 R6.out
                 have y5 := cells1 R6.out
                 have c0 := (Hc.out V HBV.out).1
                 have c1 := (Hc.out V HBV.out).2
                 clear hV)
              | fail)
            refine (Check_ok n l _ HO.out).mono ?_
            rintro e w' ⟨rfl, rfl⟩
            go_wp2
            go_roundw
            case rel =>
              have hVs : w.heap.size ≤ V.heap.size := HBV.out.size
              exact ⟨i + 1, last, n, l, by omega, by go_num, rfl, hln, HO.out, RG.out.alloc _, HBV.out.alloc hVs _⟩
            case measure => simp [intOf]; omega
          · refine By.ends_is (By.ends_is (By.ends_is (By.ends_is (By.ends_is (By.ends_is (By.ends_is (By.ends_is (By.ends_is (By.ends_is (By.ends_any fun v6 => (By.ends_nil fun w8 hw8 => ?_)))))))))))
            simp only [Act.put, List.setIfInBounds_toArray, List.set_cons_succ, List.set_cons_zero]
            obtain ⟨hgr, q, rfl, hBq, hq⟩ := hw8
            have hG8 := Row.below (w := wr.drew) HRr.out hgr HRr.out.lt
            have hbel := nextB HBR.out (Nat.le_refl _) (show Below wr.heap.size wr w8 from ⟨hgr.os, hgr.tape, hgr.output, hgr.size, hgr.block⟩)
            have hGq : G ≠ q := by omega
            have Hq := Lib.hid hq
            have HG8 := Lib.hid hG8
            have Hbel := Lib.hid hbel
            have hwq : w.heap.size ≤ q := by omega
            clear hq hG8 hbel hgr q0 q1
            go_wp2_with (first
              | (refine wpList_storeRow (n := 2) rfl 24 _ _ rfl rfl rfl (cs := cl 0 0) (old := [.int .u64 0, .int .u64 0]) Hq.out (by kernel_rfl) rfl rfl (cl_one _ _) ?_
                 obtain ⟨V, hV⟩ : ∃ V, w8.setRow q (cl 0 0).toArray = V := ⟨_, rfl⟩
                 refine wpList_world hV ?_
                 have RG := Lib.hid (show Row V G (cl n l) 24 by rw [← hV]; exact HG8.out.setOther _ _ hGq)
                 have R6 := Lib.hid (show Row V q (cl 0 0) 24 by rw [← hV]; exact Hq.out.setRow _)
                 have HBV := Lib.hid (show Below w.heap.size w V by rw [← hV]; exact below_setRow Hbel.out hwq _)
                 have y0 := cells0 RG.out
                 have y1 := cells1 RG.out
                 have y2 := frozen_row RG.out 0
                 have y3 := frozen_row RG.out 1
                 have y4 := cells0 R6.out
                 have y5 := cells1 R6.out
                 have c0 := (Hc.out V HBV.out).1
                 have c1 := (Hc.out V HBV.out).2
                 clear hV)
              | fail)
            refine (Check_ok n l _ HO.out).mono ?_
            rintro e w' ⟨rfl, rfl⟩
            go_wp2
            go_roundw
            case rel =>
              have hVs : w.heap.size ≤ V.heap.size := HBV.out.size
              exact ⟨i + 1, last, n, l, by omega, by go_num, rfl, hln, HO.out, RG.out.alloc _, HBV.out.alloc hVs _⟩
            case measure => simp [intOf]; omega
        by_cases hlm : l = 1152921504606846976
        · have hlm2 : decide ((l : Int) < 1152921504606846976) = false := by rw [decide_eq_false_iff_not]; omega
          have hlm3 : ¬ (l : Int) < 1152921504606846976 := by omega
          have hy3 : decide (0 < y) = true := by rw [decide_eq_true_eq]; omega
          have HX := Lib.hid (fun W : World => Lease_full n l y W HO.out hlm (Nat.pos_of_ne_zero hy0))
          clear hlm
          refine Tail.marksF Lea.mixed 11 9 83 Grew [By.is (cv n l),
            By.is (.slice (some ⟨b, off, none⟩) N c),
            By.is (.int .i64 (i : Int)),
            By.is (.pointer (some ⟨b, off + i * 2, none⟩)),
            By.is (.pointer (some ⟨b, off + i * 2 + 1, none⟩)),
            By.is (.int .u64 (y : Int)),
            By.is (.tuple #[cv 0 0, .int .i64 9]),
            By.is (.tuple #[cv 0 0, .int .i64 9]),
            By.is (cv 0 0),
            By.is (.int .i64 9),
            rowS wr.heap.size [.int .u64 0, .int .u64 0] 24]
            (Ev.masks _ []) (Nat.zero_lt_succ _) rfl (by kernel_rfl) (by kernel_rfl) rfl Grew.refl Grew.trans ⟨?_, ?_, ?_, ?_, ?_, ?_, ?_, ?_, ?_, ?_, ?_, trivial⟩ [_, _, _] (by rfl) ?_ ?_
          · intro a w ht hs hg -- 75
            have h3 := By.same_get hs 3 (by decide) (by kernel_rfl)
            refine By.yes rfl ?_
            clear hs hg
            refine wp_loadRow 24 _ rfl h3 (Row.below (w := wr.drew) HRr.out ht HRr.out.lt) Try.underlying24 rfl (by kernel_rfl) rfl ?_
            exact ⟨_, rfl, Grew.refl _, rfl⟩
          · intro a w ht hs hg -- 76
            have h0 := By.same_get hs 0 (by decide) (by kernel_rfl)
            refine By.yes rfl ?_
            clear hs hg
            go_simp
            exact ⟨_, rfl, Grew.refl _, rfl⟩
          · intro a w ht hs hg -- 77
            have h5 := By.same_get hs 5 (by decide) (by kernel_rfl)
            refine By.yes rfl ?_
            clear hs hg
            go_simp
            exact ⟨_, rfl, Grew.refl _, rfl⟩
          · intro a w ht hs hg -- 78
            have h76 : a.tmps.getD 76 undef = _ := By.given_get hg 1 rfl rfl (by kernel_rfl)
            have h77 : a.tmps.getD 77 undef = _ := By.given_get hg 2 rfl rfl (by kernel_rfl)
            refine By.yes rfl ?_
            clear hs hg
            go_simp
            exact ⟨_, rfl, Grew.refl _, rfl⟩
          · intro a w ht hs hg -- 79
            have h78 : a.tmps.getD 78 undef = _ := By.given_get hg 3 rfl rfl (by kernel_rfl)
            refine By.yes rfl ?_
            clear hs hg
            go_simp
            exact ⟨_, rfl, Grew.refl _, rfl⟩
          · intro a w ht hs hg -- 80
            have h79 : a.tmps.getD 79 undef = _ := By.given_get hg 4 rfl rfl (by kernel_rfl)
            refine By.yes rfl ?_
            clear hs hg
            have hc := (Hc.out w (Below.trans HBR.out.drew (Below.mono ht hrs))).2
            go_simp
            exact ⟨_, rfl, Grew.refl _, rfl⟩
          · intro a w ht hs hg -- 81
            have h75 : a.tmps.getD 75 undef = _ := By.given_get hg 0 rfl rfl (by kernel_rfl)
            have h80 : a.tmps.getD 80 undef = _ := By.given_get hg 5 rfl rfl (by kernel_rfl)
            refine By.yes rfl ?_
            clear hs hg
            go_simp
            refine (HX.out w).mono ?_
            rintro e w' ⟨rfl, hb2⟩
            exact ⟨_, rfl, hb2, rfl⟩
          · intro a w ht hs hg -- 74
            have h81 : a.tmps.getD 81 undef = _ := By.given_get hg 6 rfl rfl (by kernel_rfl)
            refine By.yes rfl ?_
            clear hs hg
            go_simp
            exact ⟨_, rfl, Grew.refl _, rfl⟩
          · intro a w ht hs hg -- 82
            have h74 : a.tmps.getD 74 undef = _ := By.given_get hg 7 rfl rfl (by kernel_rfl)
            refine By.yes rfl ?_
            clear hs hg
            go_simp
            exact ⟨_, rfl, Grew.refl _, rfl⟩
          · intro a w ht hs hg -- 83
            have h74 : a.tmps.getD 74 undef = _ := By.given_get hg 7 rfl rfl (by kernel_rfl)
            refine By.yes rfl ?_
            clear hs hg
            go_simp
            exact ⟨_, rfl, Grew.refl _, rfl⟩
          · intro a w ht hs hg -- 6
            refine By.yes rfl ?_
            clear hs hg
            have hsz := Below.size ht
            go_simp
            exact ⟨_, rfl, (Below.refl _ w).alloc (Nat.le_refl _) _, w.heap.size, rfl, hsz, Row.new rfl rfl⟩
          · refine By.ends_is (By.ends_is (By.ends_is (By.ends_is (By.ends_is (By.ends_is (By.ends_is (By.ends_is (By.ends_is (By.ends_is (By.ends_any fun v6 => (By.ends_nil fun w8 hw8 => ?_)))))))))))
            simp only [Act.put, List.setIfInBounds_toArray, List.set_cons_succ, List.set_cons_zero]
            simp only [List.drop_succ_cons, List.drop_zero]
            obtain ⟨hgr, q, rfl, hBq, hq⟩ := hw8
            have hG8 := Row.below (w := wr.drew) HRr.out hgr HRr.out.lt
            have hbel := nextB HBR.out (Nat.le_refl _) (show Below wr.heap.size wr w8 from ⟨hgr.os, hgr.tape, hgr.output, hgr.size, hgr.block⟩)
            have hGq : G ≠ q := by omega
            have Hq := Lib.hid hq
            have HG8 := Lib.hid hG8
            have Hbel := Lib.hid hbel
            have hwq : w.heap.size ≤ q := by omega
            clear hq hG8 hbel hgr q0 q1
            go_wp2_with (first
              | (refine wpList_storeRow (n := 2) rfl 24 _ _ rfl rfl rfl (cs := cl 0 0) (old := [.int .u64 0, .int .u64 0]) Hq.out (by kernel_rfl) rfl rfl (cl_one _ _) ?_
                 obtain ⟨V, hV⟩ : ∃ V, w8.setRow q (cl 0 0).toArray = V := ⟨_, rfl⟩
                 refine wpList_world hV ?_
                 have RG := Lib.hid (show Row V G (cl n l) 24 by rw [← hV]; exact HG8.out.setOther _ _ hGq)
                 have R6 := Lib.hid (show Row V q (cl 0 0) 24 by rw [← hV]; exact Hq.out.setRow _)
                 have HBV := Lib.hid (show Below w.heap.size w V by rw [← hV]; exact below_setRow Hbel.out hwq _)
                 have y0 := cells0 RG.out
                 have y1 := cells1 RG.out
                 have y2 := frozen_row RG.out 0
                 have y3 := frozen_row RG.out 1
                 have y4 := cells0 R6.out
                 have y5 := cells1 R6.out
                 have c0 := (Hc.out V HBV.out).1
                 have c1 := (Hc.out V HBV.out).2
                 clear hV)
              | fail)
            refine (Check_ok n l _ HO.out).mono ?_
            rintro e w' ⟨rfl, rfl⟩
            go_wp2
            go_roundw
            case rel =>
              have hVs : w.heap.size ≤ V.heap.size := HBV.out.size
              exact ⟨i + 1, last, n, l, by omega, by go_num, rfl, hln, HO.out, RG.out.alloc _, HBV.out.alloc hVs _⟩
            case measure => simp [intOf]; omega
          · refine By.ends_is (By.ends_is (By.ends_is (By.ends_is (By.ends_is (By.ends_is (By.ends_is (By.ends_is (By.ends_is (By.ends_is (By.ends_any fun v6 => (By.ends_nil fun w8 hw8 => ?_)))))))))))
            simp only [Act.put, List.setIfInBounds_toArray, List.set_cons_succ, List.set_cons_zero]
            obtain ⟨hgr, q, rfl, hBq, hq⟩ := hw8
            have hG8 := Row.below (w := wr.drew) HRr.out hgr HRr.out.lt
            have hbel := nextB HBR.out (Nat.le_refl _) (show Below wr.heap.size wr w8 from ⟨hgr.os, hgr.tape, hgr.output, hgr.size, hgr.block⟩)
            have hGq : G ≠ q := by omega
            have Hq := Lib.hid hq
            have HG8 := Lib.hid hG8
            have Hbel := Lib.hid hbel
            have hwq : w.heap.size ≤ q := by omega
            clear hq hG8 hbel hgr q0 q1
            go_wp2_with (first
              | (refine wpList_storeRow (n := 2) rfl 24 _ _ rfl rfl rfl (cs := cl 0 0) (old := [.int .u64 0, .int .u64 0]) Hq.out (by kernel_rfl) rfl rfl (cl_one _ _) ?_
                 obtain ⟨V, hV⟩ : ∃ V, w8.setRow q (cl 0 0).toArray = V := ⟨_, rfl⟩
                 refine wpList_world hV ?_
                 have RG := Lib.hid (show Row V G (cl n l) 24 by rw [← hV]; exact HG8.out.setOther _ _ hGq)
                 have R6 := Lib.hid (show Row V q (cl 0 0) 24 by rw [← hV]; exact Hq.out.setRow _)
                 have HBV := Lib.hid (show Below w.heap.size w V by rw [← hV]; exact below_setRow Hbel.out hwq _)
                 have y0 := cells0 RG.out
                 have y1 := cells1 RG.out
                 have y2 := frozen_row RG.out 0
                 have y3 := frozen_row RG.out 1
                 have y4 := cells0 R6.out
                 have y5 := cells1 R6.out
                 have c0 := (Hc.out V HBV.out).1
                 have c1 := (Hc.out V HBV.out).2
                 clear hV)
              | fail)
            refine (Check_ok n l _ HO.out).mono ?_
            rintro e w' ⟨rfl, rfl⟩
            go_wp2
            go_roundw
            case rel =>
              have hVs : w.heap.size ≤ V.heap.size := HBV.out.size
              exact ⟨i + 1, last, n, l, by omega, by go_num, rfl, hln, HO.out, RG.out.alloc _, HBV.out.alloc hVs _⟩
            case measure => simp [intOf]; omega
        obtain ⟨L, hL⟩ : ∃ L, l + min y (1152921504606846976 - l) = L := ⟨_, rfl⟩
        obtain ⟨d, hd⟩ : ∃ d, L - l = d := ⟨_, rfl⟩
        have hlm2 : decide ((l : Int) < 1152921504606846976) = true := by unfold Ok at hok; rw [decide_eq_true_eq]; omega
        have hlm3 : (l : Int) < 1152921504606846976 := by unfold Ok at hok; omega
        have hy3 : decide (0 < y) = true := by rw [decide_eq_true_eq]; omega
        have hd1 : IntKind.u64.wrap ((L : Int) - (l : Int)) = (d : Int) := by unfold Ok at hok; rw [wrap_in _ (by omega) (by omega)]; omega
        have hd2 : decide (y < d) = false := by rw [decide_eq_false_iff_not]; omega
        have hd3 : decide (L ≤ l) = false := by unfold Ok at hok; rw [decide_eq_false_iff_not]; omega
        have HOL := Lib.hid (show Ok n L by unfold Ok at *; omega)
        have HX := Lib.hid (fun W : World => Lease_ok n l y W HO.out (Nat.pos_of_ne_zero hy0) (by unfold Ok at hok; omega))
        rw [hL] at HX
        clear hL hd hlm
        refine Tail.marksF Lea.mixed 11 9 83 Grew [By.is (cv n l),
          By.is (.slice (some ⟨b, off, none⟩) N c),
          By.is (.int .i64 (i : Int)),
          By.is (.pointer (some ⟨b, off + i * 2, none⟩)),
          By.is (.pointer (some ⟨b, off + i * 2 + 1, none⟩)),
          By.is (.int .u64 (y : Int)),
          By.is (.tuple #[cv n L, .int .i64 0]),
          By.is (.tuple #[cv n L, .int .i64 0]),
          By.is (cv n L),
          By.is (.int .i64 0),
          rowS wr.heap.size [.int .u64 0, .int .u64 0] 24]
          (Ev.masks _ []) (Nat.zero_lt_succ _) rfl (by kernel_rfl) (by kernel_rfl) rfl Grew.refl Grew.trans ⟨?_, ?_, ?_, ?_, ?_, ?_, ?_, ?_, ?_, ?_, ?_, trivial⟩ [_, _, _] (by rfl) ?_ ?_
        · intro a w ht hs hg -- 75
          have h3 := By.same_get hs 3 (by decide) (by kernel_rfl)
          refine By.yes rfl ?_
          clear hs hg
          refine wp_loadRow 24 _ rfl h3 (Row.below (w := wr.drew) HRr.out ht HRr.out.lt) Try.underlying24 rfl (by kernel_rfl) rfl ?_
          exact ⟨_, rfl, Grew.refl _, rfl⟩
        · intro a w ht hs hg -- 76
          have h0 := By.same_get hs 0 (by decide) (by kernel_rfl)
          refine By.yes rfl ?_
          clear hs hg
          go_simp
          exact ⟨_, rfl, Grew.refl _, rfl⟩
        · intro a w ht hs hg -- 77
          have h5 := By.same_get hs 5 (by decide) (by kernel_rfl)
          refine By.yes rfl ?_
          clear hs hg
          go_simp
          exact ⟨_, rfl, Grew.refl _, rfl⟩
        · intro a w ht hs hg -- 78
          have h76 : a.tmps.getD 76 undef = _ := By.given_get hg 1 rfl rfl (by kernel_rfl)
          have h77 : a.tmps.getD 77 undef = _ := By.given_get hg 2 rfl rfl (by kernel_rfl)
          refine By.yes rfl ?_
          clear hs hg
          go_simp
          exact ⟨_, rfl, Grew.refl _, rfl⟩
        · intro a w ht hs hg -- 79
          have h78 : a.tmps.getD 78 undef = _ := By.given_get hg 3 rfl rfl (by kernel_rfl)
          refine By.yes rfl ?_
          clear hs hg
          go_simp
          exact ⟨_, rfl, Grew.refl _, rfl⟩
        · intro a w ht hs hg -- 80
          have h79 : a.tmps.getD 79 undef = _ := By.given_get hg 4 rfl rfl (by kernel_rfl)
          refine By.yes rfl ?_
          clear hs hg
          have hc := (Hc.out w (Below.trans HBR.out.drew (Below.mono ht hrs))).2
          go_simp
          exact ⟨_, rfl, Grew.refl _, rfl⟩
        · intro a w ht hs hg -- 81
          have h75 : a.tmps.getD 75 undef = _ := By.given_get hg 0 rfl rfl (by kernel_rfl)
          have h80 : a.tmps.getD 80 undef = _ := By.given_get hg 5 rfl rfl (by kernel_rfl)
          refine By.yes rfl ?_
          clear hs hg
          go_simp
          refine (HX.out w).mono ?_
          rintro e w' ⟨rfl, hb2⟩
          exact ⟨_, rfl, hb2, rfl⟩
        · intro a w ht hs hg -- 74
          have h81 : a.tmps.getD 81 undef = _ := By.given_get hg 6 rfl rfl (by kernel_rfl)
          refine By.yes rfl ?_
          clear hs hg
          go_simp
          exact ⟨_, rfl, Grew.refl _, rfl⟩
        · intro a w ht hs hg -- 82
          have h74 : a.tmps.getD 74 undef = _ := By.given_get hg 7 rfl rfl (by kernel_rfl)
          refine By.yes rfl ?_
          clear hs hg
          go_simp
          exact ⟨_, rfl, Grew.refl _, rfl⟩
        · intro a w ht hs hg -- 83
          have h74 : a.tmps.getD 74 undef = _ := By.given_get hg 7 rfl rfl (by kernel_rfl)
          refine By.yes rfl ?_
          clear hs hg
          go_simp
          exact ⟨_, rfl, Grew.refl _, rfl⟩
        · intro a w ht hs hg -- 6
          refine By.yes rfl ?_
          clear hs hg
          have hsz := Below.size ht
          go_simp
          exact ⟨_, rfl, (Below.refl _ w).alloc (Nat.le_refl _) _, w.heap.size, rfl, hsz, Row.new rfl rfl⟩
        · refine By.ends_is (By.ends_is (By.ends_is (By.ends_is (By.ends_is (By.ends_is (By.ends_is (By.ends_is (By.ends_is (By.ends_is (By.ends_any fun v6 => (By.ends_nil fun w8 hw8 => ?_)))))))))))
          simp only [Act.put, List.setIfInBounds_toArray, List.set_cons_succ, List.set_cons_zero]
          simp only [List.drop_succ_cons, List.drop_zero]
          obtain ⟨hgr, q, rfl, hBq, hq⟩ := hw8
          have hG8 := Row.below (w := wr.drew) HRr.out hgr HRr.out.lt
          have hbel := nextB HBR.out (Nat.le_refl _) (show Below wr.heap.size wr w8 from ⟨hgr.os, hgr.tape, hgr.output, hgr.size, hgr.block⟩)
          have hGq : G ≠ q := by omega
          have Hq := Lib.hid hq
          have HG8 := Lib.hid hG8
          have Hbel := Lib.hid hbel
          have hwq : w.heap.size ≤ q := by omega
          clear hq hG8 hbel hgr q0 q1
          go_wp2_with (first
            | (refine wpList_storeRow (n := 2) rfl 24 _ _ rfl rfl rfl (cs := cl n L) (old := [.int .u64 0, .int .u64 0]) Hq.out (by kernel_rfl) rfl rfl (cl_one _ _) ?_
               obtain ⟨V, hV⟩ : ∃ V, w8.setRow q (cl n L).toArray = V := ⟨_, rfl⟩
               refine wpList_world hV ?_
               have RG := Lib.hid (show Row V G (cl n l) 24 by rw [← hV]; exact HG8.out.setOther _ _ hGq)
               have R6 := Lib.hid (show Row V q (cl n L) 24 by rw [← hV]; exact Hq.out.setRow _)
               have HBV := Lib.hid (show Below w.heap.size w V by rw [← hV]; exact below_setRow Hbel.out hwq _)
               have y0 := cells0 RG.out
               have y1 := cells1 RG.out
               have y2 := frozen_row RG.out 0
               have y3 := frozen_row RG.out 1
               have y4 := cells0 R6.out
               have y5 := cells1 R6.out
               have c0 := (Hc.out V HBV.out).1
               have c1 := (Hc.out V HBV.out).2
               clear hV)
            | fail)
          go_quiet (fail)
          go_wp2_with fail
          refine (Check_ok n L _ HOL.out).mono ?_
          rintro e w' ⟨rfl, rfl⟩
          go_wp2
          go_roundw
          case rel =>
            have hVs : w.heap.size ≤ V.heap.size := HBV.out.size
            refine ⟨i + 1, last, n, L, by omega, by go_num, rfl, hln, HOL.out, ?_, ?_⟩
            · exact (((RG.out.drewN nq).set 0 _).set 1 _).alloc _
            · exact (((below_drewN HBV.out nq).setCell (by simp <;> omega) _).setCell (by simp <;> omega) _).alloc (by simp <;> omega) _
          case measure => simp [intOf]; omega
        · refine By.ends_is (By.ends_is (By.ends_is (By.ends_is (By.ends_is (By.ends_is (By.ends_is (By.ends_is (By.ends_is (By.ends_is (By.ends_any fun v6 => (By.ends_nil fun w8 hw8 => ?_)))))))))))
          simp only [Act.put, List.setIfInBounds_toArray, List.set_cons_succ, List.set_cons_zero]
          obtain ⟨hgr, q, rfl, hBq, hq⟩ := hw8
          have hG8 := Row.below (w := wr.drew) HRr.out hgr HRr.out.lt
          have hbel := nextB HBR.out (Nat.le_refl _) (show Below wr.heap.size wr w8 from ⟨hgr.os, hgr.tape, hgr.output, hgr.size, hgr.block⟩)
          have hGq : G ≠ q := by omega
          have Hq := Lib.hid hq
          have HG8 := Lib.hid hG8
          have Hbel := Lib.hid hbel
          have hwq : w.heap.size ≤ q := by omega
          clear hq hG8 hbel hgr q0 q1
          go_wp2_with (first
            | (refine wpList_storeRow (n := 2) rfl 24 _ _ rfl rfl rfl (cs := cl n L) (old := [.int .u64 0, .int .u64 0]) Hq.out (by kernel_rfl) rfl rfl (cl_one _ _) ?_
               obtain ⟨V, hV⟩ : ∃ V, w8.setRow q (cl n L).toArray = V := ⟨_, rfl⟩
               refine wpList_world hV ?_
               have RG := Lib.hid (show Row V G (cl n l) 24 by rw [← hV]; exact HG8.out.setOther _ _ hGq)
               have R6 := Lib.hid (show Row V q (cl n L) 24 by rw [← hV]; exact Hq.out.setRow _)
               have HBV := Lib.hid (show Below w.heap.size w V by rw [← hV]; exact below_setRow Hbel.out hwq _)
               have y0 := cells0 RG.out
               have y1 := cells1 RG.out
               have y2 := frozen_row RG.out 0
               have y3 := frozen_row RG.out 1
               have y4 := cells0 R6.out
               have y5 := cells1 R6.out
               have c0 := (Hc.out V HBV.out).1
               have c1 := (Hc.out V HBV.out).2
               clear hV)
            | fail)
          go_quiet (fail)
          go_wp2_with fail
          refine (Check_ok n L _ HOL.out).mono ?_
          rintro e w' ⟨rfl, rfl⟩
          go_wp2
          go_roundw
          case rel =>
            have hVs : w.heap.size ≤ V.heap.size := HBV.out.size
            refine ⟨i + 1, last, n, L, by omega, by go_num, rfl, hln, HOL.out, ?_, ?_⟩
            · exact (((RG.out.drewN nq).set 0 _).set 1 _).alloc _
            · exact (((below_drewN HBV.out nq).setCell (by simp <;> omega) _).setCell (by simp <;> omega) _).alloc (by simp <;> omega) _
          case measure => simp [intOf]; omega
      by_cases hp45 : p = 4 ∨ p = 5
      · have e3 : ((p : Int) == 3) = false := by rw [beq_eq_false_iff_ne]; omega
        have HLL := Lib.hid (show last < l + 1 by unfold Ok at hok; omega)
        clear hp3
        by_cases hp4 : p = 4
        · have e4 : ((p : Int) == 4) = true := by subst hp4; rfl
          have e5 : ((p : Int) == 5) = false := by rw [beq_eq_false_iff_ne]; omega
          have HO1 := Lib.hid hok
          have RG := HRr
          have HBV := HBR
          clear hp4 hp45 hok hln
          go_wp2_with fail
          refine (Pick_any x 6 _ Hx.out (by omega)).mono ?_
          rw [hp]
          rintro e w' ⟨rfl, rfl⟩
          go_wp2_with fail
          refine (Pick_any x 6 _ Hx.out (by omega)).mono ?_
          rw [hp]
          rintro e w' ⟨rfl, rfl⟩
          go_wp2_with fail
          refine (Recover_ok n l _ HO1.out).mono ?_
          rintro e w5 ⟨rfl, hb5⟩
          have HB5 := Lib.hid (nextB HBV.out (Nat.le_refl _) hb5)
          have R5 := Lib.hid (RG.out.below hb5 RG.out.lt)
          have hlt5 : G < w5.heap.size := R5.out.lt
          have hs5 : w.heap.size ≤ w5.heap.size := HB5.out.size
          have u0 : w5.cell? ⟨G, 0, none⟩ = _ := cells0 R5.out
          have u1 : w5.cell? ⟨G, 1, none⟩ = _ := cells1 R5.out
          have v0 : ∀ o, (w5.alloc o).cell? ⟨G, 0, none⟩ = _ := fun o => cells0 (R5.out.alloc o)
          have v1 : ∀ o, (w5.alloc o).cell? ⟨G, 1, none⟩ = _ := fun o => cells1 (R5.out.alloc o)
          have hne3 : ((l : Int) != (l : Int)) = false := by simp
          have HO2 := Lib.hid (show Ok (l + 1) l by have := HO.out; unfold Ok at *; omega)
          clear hb5
          go_wp2_with fail
          refine (Left_ok (l + 1) l _ HO2.out).mono ?_
          rw [Nat.sub_self]
          rintro e w' ⟨rfl, rfl⟩
          have x0 : ∀ o o1 o2, (((w5.alloc o).alloc o1).alloc o2).cell? ⟨G, 0, none⟩ = _ := fun o o1 o2 => cells0 (((R5.out.alloc o).alloc o1).alloc o2)
          have x1 : ∀ o o1 o2, (((w5.alloc o).alloc o1).alloc o2).cell? ⟨G, 1, none⟩ = _ := fun o o1 o2 => cells1 (((R5.out.alloc o).alloc o1).alloc o2)
          have x2 : ∀ o o1 o2, (((w5.alloc o).alloc o1).alloc o2).frozen? ⟨G, 0, none⟩ = false := fun o o1 o2 => frozen_row (((R5.out.alloc o).alloc o1).alloc o2) 0
          have x3 : ∀ o o1 o2, (((w5.alloc o).alloc o1).alloc o2).frozen? ⟨G, 1, none⟩ = false := fun o o1 o2 => frozen_row (((R5.out.alloc o).alloc o1).alloc o2) 1
          go_wp2_with fail
          refine (Check_ok (l + 1) l _ HO2.out).mono ?_
          rintro e w' ⟨rfl, rfl⟩
          go_wp2
          go_roundw
          case rel =>
            refine ⟨i + 1, last, l + 1, l, by omega, by go_num, rfl, HLL.out, HO2.out, ?_, ?_⟩
            · exact (((((R5.out.alloc _).alloc _).alloc _).set 0 _).set 1 _).alloc _
            · exact (((((HB5.out.alloc hs5 _).alloc (by simp <;> omega) _).alloc (by simp <;> omega) _).setCell (by simp <;> omega) _).setCell (by simp <;> omega) _).alloc (by simp <;> omega) _
          case measure => simp [intOf]; omega
        · have e4 : ((p : Int) == 4) = false := by rw [beq_eq_false_iff_ne]; omega
          have e5 : ((p : Int) == 5) = true := by rw [show p = 5 by omega]; rfl
          have hw1 : IntKind.u64.wrap ((l : Int) + 1) = (l : Int) + 1 := by unfold Ok at hok; exact wrap_in _ (by omega) (by omega)
          have hyl : y % (l + 1) < l + 1 := Nat.mod_lt _ (by omega)
          obtain ⟨z, hz, hzl⟩ : ∃ z, 1 + y % (l + 1) = z ∧ 1 ≤ z ∧ z ≤ l + 1 := ⟨_, rfl, by omega, by omega⟩
          have HO1 := Lib.hid (show Ok z l by unfold Ok at *; exact ⟨hzl.1, hzl.2, hok.2.2⟩)
          have hz2 : (1 : Int) + (y : Int) % ((l : Int) + 1) = (z : Int) := by rw [← hz]; simp
          have hw2 : IntKind.u64.wrap (z : Int) = (z : Int) := by unfold Ok at hok; exact wrap_in _ (by omega) (by omega)
          have fz0 := frozen_row HRr.out 0
          clear hp4 hp45 hok hln hz hyl hzl
          go_wp2_with fail
          refine (Pick_any x 6 _ Hx.out (by omega)).mono ?_
          rw [hp]
          rintro e w' ⟨rfl, rfl⟩
          go_wp2_with fail
          refine (Pick_any x 6 _ Hx.out (by omega)).mono ?_
          rw [hp]
          rintro e w' ⟨rfl, rfl⟩
          go_wp2_with fail
          go_region
          have RG := Lib.hid (show Row (wr.setCell ⟨G, 0, none⟩ (.int .u64 (z : Int))).drew G (cl z l) 24 from (HRr.out.set 0 _).drewN 1)
          have HBV := Lib.hid (show Below w.heap.size w (wr.setCell ⟨G, 0, none⟩ (.int .u64 (z : Int))).drew from (HBR.out.setCell hwG _).drew)
          have y0 := cells0 RG.out
          have y1 := cells1 RG.out
          clear q0 q1
          go_wp2_with fail
          refine (Recover_ok z l _ HO1.out).mono ?_
          rintro e w5 ⟨rfl, hb5⟩
          have HB5 := Lib.hid (nextB HBV.out (Nat.le_refl _) hb5)
          have R5 := Lib.hid (RG.out.below hb5 RG.out.lt)
          have hlt5 : G < w5.heap.size := R5.out.lt
          have hs5 : w.heap.size ≤ w5.heap.size := HB5.out.size
          have u0 : w5.cell? ⟨G, 0, none⟩ = _ := cells0 R5.out
          have u1 : w5.cell? ⟨G, 1, none⟩ = _ := cells1 R5.out
          have v0 : ∀ o, (w5.alloc o).cell? ⟨G, 0, none⟩ = _ := fun o => cells0 (R5.out.alloc o)
          have v1 : ∀ o, (w5.alloc o).cell? ⟨G, 1, none⟩ = _ := fun o => cells1 (R5.out.alloc o)
          have hne3 : ((l : Int) != (l : Int)) = false := by simp
          have HO2 := Lib.hid (show Ok (l + 1) l by have := HO.out; unfold Ok at *; omega)
          clear hb5
          go_wp2_with fail
          refine (Left_ok (l + 1) l _ HO2.out).mono ?_
          rw [Nat.sub_self]
          rintro e w' ⟨rfl, rfl⟩
          have x0 : ∀ o o1 o2, (((w5.alloc o).alloc o1).alloc o2).cell? ⟨G, 0, none⟩ = _ := fun o o1 o2 => cells0 (((R5.out.alloc o).alloc o1).alloc o2)
          have x1 : ∀ o o1 o2, (((w5.alloc o).alloc o1).alloc o2).cell? ⟨G, 1, none⟩ = _ := fun o o1 o2 => cells1 (((R5.out.alloc o).alloc o1).alloc o2)
          have x2 : ∀ o o1 o2, (((w5.alloc o).alloc o1).alloc o2).frozen? ⟨G, 0, none⟩ = false := fun o o1 o2 => frozen_row (((R5.out.alloc o).alloc o1).alloc o2) 0
          have x3 : ∀ o o1 o2, (((w5.alloc o).alloc o1).alloc o2).frozen? ⟨G, 1, none⟩ = false := fun o o1 o2 => frozen_row (((R5.out.alloc o).alloc o1).alloc o2) 1
          go_wp2_with fail
          refine (Check_ok (l + 1) l _ HO2.out).mono ?_
          rintro e w' ⟨rfl, rfl⟩
          go_wp2
          go_roundw
          case rel =>
            refine ⟨i + 1, last, l + 1, l, by omega, by go_num, rfl, HLL.out, HO2.out, ?_, ?_⟩
            · exact (((((R5.out.alloc _).alloc _).alloc _).set 0 _).set 1 _).alloc _
            · exact (((((HB5.out.alloc hs5 _).alloc (by simp <;> omega) _).alloc (by simp <;> omega) _).setCell (by simp <;> omega) _).setCell (by simp <;> omega) _).alloc (by simp <;> omega) _
          case measure => simp [intOf]; omega
      have e3 : ((p : Int) == 3) = false := by rw [beq_eq_false_iff_ne]; omega
      have e4 : ((p : Int) == 4) = false := by rw [beq_eq_false_iff_ne]; omega
      have e5 : ((p : Int) == 5) = false := by rw [beq_eq_false_iff_ne]; omega
      clear hp3 hp45
      go_wp2_with fail
      refine (Pick_any x 6 _ Hx.out (by omega)).mono ?_
      rw [hp]
      rintro e w' ⟨rfl, rfl⟩
      go_wp2_with fail
      refine (Left_ok n l _ HO.out).mono ?_
      rintro e w' ⟨rfl, rfl⟩
      have t0 : ∀ o o1, ((wr.alloc o).alloc o1).cell? ⟨G, 0, none⟩ = _ := fun o o1 => cells0 ((HRr.out.alloc o).alloc o1)
      have t1 : ∀ o o1, ((wr.alloc o).alloc o1).cell? ⟨G, 1, none⟩ = _ := fun o o1 => cells1 ((HRr.out.alloc o).alloc o1)
      by_cases hnl : n ≤ l
      · have Hnl := Lib.hid hnl
        have hl0 : decide (0 < l + 1 - n) = true := by rw [decide_eq_true_eq]; omega
        have hl1 : ¬ (n : Int) ≤ (last : Int) := by omega
        have hl2 : ¬ (l : Int) < (n : Int) := by omega
        have hl3 : IntKind.u64.wrap (((l + 1 - n : Nat) : Int) - 1) = ((l + 1 - (n + 1) : Nat) : Int) := by
          unfold Ok at hok; rw [wrap_in _ (by omega) (by omega)]; omega
        have HO1 := Lib.hid (show Ok (n + 1) l by unfold Ok at *; omega)
        have Hln := Lib.hid hln
        clear hok hnl hln
        go_wp2_with fail
        refine (Take_ok n l _ HO.out Hnl.out).mono ?_
        rintro e w5 ⟨rfl, hb5⟩
        have HB5 := Lib.hid (nextB ((HBR.out.alloc hrs _).alloc (by simp <;> omega) _) (Nat.le_refl _) hb5)
        have R5 := Lib.hid (((HRr.out.alloc _).alloc _).below hb5 (by simp <;> omega))
        have hlt5 : G < w5.heap.size := R5.out.lt
        have hs5 : w.heap.size ≤ w5.heap.size := HB5.out.size
        have u0 : w5.cell? ⟨G, 0, none⟩ = _ := cells0 R5.out
        have u1 : w5.cell? ⟨G, 1, none⟩ = _ := cells1 R5.out
        have v0 : ∀ o, (w5.alloc o).cell? ⟨G, 0, none⟩ = _ := fun o => cells0 (R5.out.alloc o)
        have v1 : ∀ o, (w5.alloc o).cell? ⟨G, 1, none⟩ = _ := fun o => cells1 (R5.out.alloc o)
        clear hb5 t0 t1 q0 q1
        go_wp2_with fail
        refine (Left_ok (n + 1) l _ HO1.out).mono ?_
        rintro e w' ⟨rfl, rfl⟩
        have x0 : ∀ o o1 o2, (((w5.alloc o).alloc o1).alloc o2).cell? ⟨G, 0, none⟩ = _ := fun o o1 o2 => cells0 (((R5.out.alloc o).alloc o1).alloc o2)
        have x1 : ∀ o o1 o2, (((w5.alloc o).alloc o1).alloc o2).cell? ⟨G, 1, none⟩ = _ := fun o o1 o2 => cells1 (((R5.out.alloc o).alloc o1).alloc o2)
        have hne2 : (((l + 1 - (n + 1) : Nat) : Int) != ((l + 1 - (n + 1) : Nat) : Int)) = false := by simp
        have hne3 : ((l : Int) != (l : Int)) = false := by simp
        go_wp2_with fail
        obtain ⟨V, hV⟩ : ∃ V, co (co (w5.alloc (.cells #[.int .u64 ((n : Int) + 1), .int .u64 (l : Int)] 24)) (n + 1) l) (n + 1) l = V := ⟨_, rfl⟩
        rw [hV]
        have RG := Lib.hid (show Row V G (cl n l) 24 by rw [← hV]; exact ((R5.out.alloc _).alloc _).alloc _)
        have R12 := Lib.hid (show Row V w5.heap.size (cl (n + 1) l) 24 by rw [← hV]; exact ((Row.new rfl rfl).alloc _).alloc _)
        have HBV := Lib.hid (show Below w.heap.size w V by rw [← hV]; exact ((HB5.out.alloc hs5 _).alloc (by simp <;> omega) _).alloc (by simp <;> omega) _)
        have y0 : V.cell? ⟨G, 0, none⟩ = _ := cells0 RG.out
        have y1 : V.cell? ⟨G, 1, none⟩ = _ := cells1 RG.out
        have y2 : V.frozen? ⟨G, 0, none⟩ = false := frozen_row RG.out 0
        have y3 : V.frozen? ⟨G, 1, none⟩ = false := frozen_row RG.out 1
        have y4 : V.cell? ⟨w5.heap.size, 0, none⟩ = _ := cells0 R12.out
        have y5 : V.cell? ⟨w5.heap.size, 1, none⟩ = _ := cells1 R12.out
        clear x0 x1 u0 u1 v0 v1 hV
        go_region
        go_wp2_with fail
        refine (Check_ok (n + 1) l _ HO1.out).mono ?_
        rintro e w' ⟨rfl, rfl⟩
        go_wp2
        go_roundw
        case rel =>
          refine ⟨i + 1, n, n + 1, l, by omega, by go_num, rfl, by omega, HO1.out, ?_, ?_⟩
          · exact (((RG.out.set 0 _).set 1 _).drewN 1).alloc _
          · have hVs : w.heap.size ≤ V.heap.size := HBV.out.size
            exact ((HBV.out.setCell (by simp <;> omega) _).setCell (by simp <;> omega) _).drew.alloc (by simp <;> omega) _
        case measure => simp [intOf]; omega
      · have hl0 : decide (0 < l + 1 - n) = false := by rw [decide_eq_false_iff_not]; omega
        have Hnl := Lib.hid (show n = l + 1 by unfold Ok at hok; omega)
        have Hln := Lib.hid hln
        clear hok hnl hln
        go_wp2_with fail
        refine (Take_none n l _ HO.out Hnl.out).mono ?_
        rintro e w5 ⟨rfl, hb5⟩
        have HB5 := Lib.hid (nextB ((HBR.out.alloc hrs _).alloc (by simp <;> omega) _) (Nat.le_refl _) hb5)
        have R5 := Lib.hid (((HRr.out.alloc _).alloc _).below hb5 (by simp <;> omega))
        have hs5 : w.heap.size ≤ w5.heap.size := HB5.out.size
        clear hb5 t0 t1 q0 q1
        go_wp2
        go_roundw
        case rel =>
          exact ⟨i + 1, last, n, l, by omega, by go_num, rfl, Hln.out, HO.out, R5.out.alloc _, HB5.out.alloc hs5 _⟩
        case measure => simp [intOf]; omega
    · have hin' : ¬ (i : Int) < (N : Int) := by omega
      go_wp2
      go_ret
      exact ⟨rfl, HBR.out⟩

set_option maxRecDepth 100000 in
theorem lift (os : Os) (started : os.Started) (H : Type) (enc : TypeId × Value → H) :
    ReturnsInHanded {} Try.checked os 5 .any (Rows.leaseOnceSpec.pre6 enc Try.prog Try.f5 Rows.leaseOnceRow.domain false) (Rows.leaseOnceSpec.post enc Try.prog Try.f5 false true false false) := by
  refine Law.lifted (C := Try.checked) 4 own started (by kernel_rfl) Try.func5 laid (by kernel_rfl) rfl Try.underlying4 rfl
    (fun ds hd => by
      have hd' : ds.length = 1 := hd
      match ds, hd' with
      | [d0], _ => rfl)
    (ChangeSpec.witness6 (enc := enc) (C := Try.checked) false ⟨#[], #[.slice none 0 0], []⟩ 8 (by kernel_rfl) (by kernel_rfl) (by kernel_rfl) (by kernel_rfl)) ?_
  intro W args ds ps hst
  have hA : DataW.TrodAll enc Try.prog W 0 (fun _ => true) true Try.f5.params.toList args.toList ds ps := hst.trod
  have hok := hst.okw
  have hlt := hst.lt
  rw [Try.params5] at hA hok
  obtain ⟨v0, d0, rfl, rfl, h0⟩ := trodAll_one hA
  obtain ⟨_, hv0⟩ := hok 0 46 v0 rfl rfl
  obtain ⟨N, f, hr, _, hf⟩ := recsK_trod Try.underlying46 Try.underlying49 (by decide) (by kernel_rfl) (by kernel_rfl) [.i64, .u64] (fun j f hj => by
    match j, hj with
    | 0, hj => simp at hj; subst hj; exact Try.underlying3
    | 1, hj => simp at hj; subst hj; exact Try.underlying22
    | j + 2, hj => simp at hj) hv0 h0 hlt
  have hr0 := hr
  obtain ⟨A, c, rfl, _, _⟩ := hr0
  by_cases hN : N ≤ 100
  · refine walk A c N f W hr hN fun i hi => ?_
    have h1 := hf i hi 0 (by decide)
    have h2 := hf i hi 1 (by decide)
    have h1' : -9223372036854775808 ≤ f i 0 ∧ f i 0 ≤ 9223372036854775807 := h1
    have h2' : 0 ≤ f i 1 ∧ f i 1 ≤ 18446744073709551615 := h2
    exact ⟨h1', h2'.1, by omega⟩
  · exact long A c N W (by omega)

theorem over : Rows.leaseOnceRow.holds Try.pinned (OpenSpec.ofChange Rows.leaseOnceSpec) :=
  OpenClaim.holds_of_wide 5 Try.f5 rfl rfl rfl rfl rfl rfl rfl ⟨rfl, rfl, rfl, rfl, rfl⟩ rfl rfl rfl rfl rfl (by kernel_rfl) Try.func5 (by kernel_rfl)
    (of_decide_eq_true (by kernel_rfl)) (by unfold Func.isWrapper; first | (rw [if_pos (by decide +kernel)]; kernel_rfl) | (rw [if_neg (by decide +kernel)]; exact ⟨rfl, rfl⟩))
    (fun os started H enc _ => lift os started H enc)
theorem proved : Rows.LeaseOnceSaid := over
#print axioms proved
end Go.Proofs.Ytndpobibjgcefaa.leaseOnce

