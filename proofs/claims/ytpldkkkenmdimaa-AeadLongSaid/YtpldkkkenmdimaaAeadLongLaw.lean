/- Whatever is not too long is sealed, and opened: 'drawbridgelaw04.AeadLong', for every argument. -/
import Derived.Test.YtpldkkkenmdimaaAeadLives
import Derived.Test.YtpldkkkenmdimaaAeadOpen
import Derived.Test.YtpldkkkenmdimaaLaw
import Derived.Test.YtpldkkkenmdimaaBs
import Derived.Deep.DeepCutAuto
namespace Go.Proofs.Ytpldkkkenmdimaa.aeadLong
open Go.ChangeShapes Go.WideShapes Go.ChangeAt Go.RowKit
open Pol (own mixed laid)
theorem wpList_build {P : Program} {w : World} {ops : Array Oper} {rest : List Oper} {o : Oper} {a : Act} {Q : Exit → Act → World → Prop} (hgd : o.guard = none) (t : TypeId) (parts : Array (Nat × Operand)) (ho : o.op = .build t parts) {v : Value}
    (hrun : (Instr.build t (parts.map fun (i, x) => (i, a.eval x))).run P w = .ok v w) (hk : wpList P ops Q rest (a.put o.dst v) w) : wpList P ops Q (o :: rest) a w := by
  refine wpList_plain hgd fun K hK => ?_
  unfold Oper.wp execOp
  simp only [ho, Sem.run_bind, Sem.run_pure, Result.andThen_ok, hrun]
  exact hK _ _ hk
theorem make_run (n : Nat) (hn : n ≤ 1000000) (W : World) : (Instr.makeSlice 34 (.int .i64 (n : Int)) (.int .i64 (n : Int))).run Try.prog W = .ok (.slice (some ⟨W.heap.size, 0, none⟩) n n) (W.alloc (.cells ((List.replicate n (0 : UInt8)).map bv).toArray 5)) := by
  obtain ⟨i, hi, hz, hs, hb⟩ := info_u8
  have h := run_make (P := Try.prog) W 34 5 i (.int .u8 0) Try.underlying34 hi hz .i64 .i64 n n (by omega) (Int.le_refl _) (by rw [hb]; omega) (by omega)
  rw [hs, Nat.mul_one] at h
  simp only [Int.toNat_natCast] at h
  have e : madeCells (Value.int IntKind.u8 0).cells n = ((List.replicate n (0 : UInt8)).map bv).toArray := by
    apply Array.ext'
    rw [show (Value.int IntKind.u8 0).cells = #[.int .u8 0] from rfl, toList_madeCells_one, List.map_replicate]
    rfl
  rw [h, e]
theorem rowA (w1 : World) (p : Nat) (o : Obj) : Row ((w1.alloc (.cells (Array.replicate p (bv 0)) 5)).alloc o).drew w1.heap.size ((List.replicate p (0 : UInt8)).map bv) 5 :=
  (Row.new (w := w1) rfl (by simp)).alloc o
theorem rowB (w1 : World) (q : Nat) (o : Obj) : Row ((w1.alloc o).alloc (.cells (Array.replicate q (bv 0)) 5)).drew (w1.heap.size + 1) ((List.replicate q (0 : UInt8)).map bv) 5 :=
  Row.new (w := w1.alloc o) (by simp) (by simp)
theorem two_below (w1 : World) (o o' : Obj) : Below w1.heap.size w1 ((w1.alloc o).alloc o').drew := (((Below.refl _ w1).alloc (Nat.le_refl _) _).alloc (by simp) _).drew
theorem str_guard (op : BinOp) (hop : op = .eql ∨ op = .neq) (x y : Operand) (l m : List UInt8) (w : World) : (eqGuard op 9 x y (strOf l) (strOf m)).run Try.prog w = .ok () w := by
  have hg : Try.prog.eqGuardType Try.prog.depth 9 = false := by kernel_rfl
  unfold strOf
  rcases hop with rfl | rfl <;> simp [eqGuard, Sem.run_bind, hg]
theorem str_eql (l : List UInt8) (w : World) : (binOp .eql 9 (strOf l) (strOf l)).run Try.prog w = .ok (.bool true) w := by
  unfold strOf binOp Op.stringOp
  simp [Sem.run_pure]
theorem wp_build {P : Program} {w : World} {o : Oper} {a : Act} {K : Act → World → Prop} {Q : Exit → Act → World → Prop} (t : TypeId) (parts : Array (Nat × Operand)) (ho : o.op = .build t parts) {v : Value}
    (hrun : (Instr.build t (parts.map fun (i, x) => (i, a.eval x))).run P w = .ok v w) (hk : K (a.put o.dst v) w) : o.wp P a w K Q := by
  unfold Oper.wp
  simp only [execOp, ho, Sem.run_bind, hrun, Result.andThen_ok, Sem.run_pure]
  exact hk
def nonceOf (v : UInt8) : List UInt8 := v :: List.replicate 11 0
theorem nonce_len (v : UInt8) : (nonceOf v).length = 12 := rfl
set_option maxRecDepth 100000 in
set_option maxHeartbeats 2000000 in
theorem walk (key : List UInt8) (n m : Int) (v : UInt8) (hk : key.length = 32) (hn : -9223372036854775808 ≤ n ∧ n ≤ 9223372036854775807) (hm : -9223372036854775808 ≤ m ∧ m ≤ 9223372036854775807) (w : World) :
    Calls Try.prog 8 #[arr8 key, .int .i64 n, .int .i64 m, bv v] w fun e w' => e = .returned (.bool true) ∧ Below w.heap.size w w' := by
  have Hk := Lib.hid hk
  have Hkl := Lib.hid (show (key.map bv).length = 32 by rw [List.length_map]; exact hk)
  obtain ⟨p, hp, hp7⟩ : ∃ p : Nat, pick n 70000 = (p : Int) ∧ p < 70000 := ⟨(pick n 70000).toNat, by have := pick_in n 70000 (by omega); omega, by have := pick_in n 70000 (by omega); omega⟩
  obtain ⟨q, hq, hq7⟩ : ∃ q : Nat, pick m 70000 = (q : Int) ∧ q < 70000 := ⟨(pick m 70000).toNat, by have := pick_in m 70000 (by omega); omega, by have := pick_in m 70000 (by omega); omega⟩
  have Hp := Lib.hid hp
  have Hq := Lib.hid hq
  have Hp7 := Lib.hid hp7
  have Hq7 := Lib.hid hq7
  have Hn := Lib.hid hn
  have Hm := Lib.hid hm
  clear hk hn hm hp hq hp7 hq7
  unfold arr8 bv
  go_enter Try.func8, Try.ntmps8
  go_wp2_with fail
  obtain ⟨W, hW⟩ : ∃ W, w.alloc (.cells (key.map bv).toArray 24) = W := ⟨_, rfl⟩
  have hWb : Below w.heap.size w W := hW ▸ (Below.refl _ w).alloc (Nat.le_refl _) _
  have hWk : Row W w.heap.size (key.map bv) 24 := hW ▸ Row.new rfl rfl
  show Calls _ _ _ (w.alloc (.cells (key.map bv).toArray 24)) _
  rw [hW]
  clear hW
  refine (Aead.lives_any W).mono ?_
  rintro e w1 ⟨rfl, hb1⟩
  have HB1 := Lib.hid (nextB hWb (Nat.le_refl _) hb1)
  have HK1 := Lib.hid (hWk.below hb1 hWk.lt)
  clear hWb hWk hb1
  go_wp2_with fail
  refine (Pick_any n 70000 w1 Hn.out (by omega)).mono ?_
  rintro e w' ⟨rfl, rfl⟩
  rw [Hp.out]
  go_wp2_with fail
  refine (Pick_any m 70000 w1 Hm.out (by omega)).mono ?_
  rintro e w' ⟨rfl, rfl⟩
  rw [Hq.out]
  have hmk1 := make_run p (by have := Hp7.out; omega)
  have hmk2 := make_run q (by have := Hq7.out; omega)
  go_wp2_with fail
-- STAGE1
  go_cut [9, 10] (fun s9 s10 wx => ∃ g1 g2, s9 = .slice (some ⟨g1, 0, none⟩) p p ∧ s10 = .slice (some ⟨g2, 0, none⟩) q q ∧ g1 ≠ g2 ∧ w1.heap.size ≤ g1 ∧ w1.heap.size ≤ g2 ∧ Row wx g1 ((List.replicate p (0 : UInt8)).map bv) 5 ∧ Row wx g2 ((List.replicate q (0 : UInt8)).map bv) 5 ∧ Below w1.heap.size w1 wx)
  case first =>
    go_region
    · go_wp2
      go_meet
      exact ⟨w1.heap.size, w1.heap.size + 1, rfl, rfl, by omega, Nat.le_refl _, Nat.le_succ _, rowA w1 p _, rowB w1 q _, two_below w1 _ _⟩
    · go_wp2
      go_meet
      exact ⟨w1.heap.size + 1, w1.heap.size, rfl, rfl, by omega, Nat.le_succ _, Nat.le_refl _, rowB w1 p _, rowA w1 q _, two_below w1 _ _⟩
  case rest =>
  obtain ⟨g1, g2, rfl, rfl, hne, hg1, hg2, hr1, hr2, hbc⟩ := hcut
  have HB2 := Lib.hid (nextB HB1.out (Nat.le_refl _) hbc)
  have HK2 := Lib.hid (HK1.out.below hbc HK1.out.lt)
  have HR1 := Lib.hid hr1
  have HR2 := Lib.hid hr2
  have Hne := Lib.hid hne
  have Hg1 := Lib.hid (show w.heap.size < g1 from Nat.lt_of_lt_of_le HK1.out.lt hg1)
  have Hg2 := Lib.hid (show w.heap.size < g2 from Nat.lt_of_lt_of_le HK1.out.lt hg2)
  obtain ⟨P, hP⟩ : ∃ P, List.replicate p v = P := ⟨_, rfl⟩
  have HP := Lib.hid hP
  have HPl := Lib.hid (show P.length = p by rw [← hP]; simp)
  obtain ⟨Z, hZ⟩ : ∃ Z, List.replicate q (0 : UInt8) = Z := ⟨_, rfl⟩
  have HZl := Lib.hid (show Z.length = q by rw [← hZ]; simp)
  rw [hZ] at HR2
  have HF0 := Lib.hid (show Row wc g1 ((Cha.fillN P 0).map bv) 5 by rw [Cha.fillN_zero, HPl.out]; exact HR1.out)
  clear hne hg1 hg2 hr1 hr2 hbc hP hZ hmk1 hmk2
  go_wp2_with fail
-- STAGE2
  go_loopw [11] (fun iv wr => ∃ i : Nat, i ≤ p ∧ iv = .int .i64 (i : Int) ∧ Row wr g1 ((Cha.fillN P i).map bv) 5 ∧ Row wr g2 (Z.map bv) 5 ∧ Row wr w.heap.size (key.map bv) 24 ∧ Below w.heap.size w wr) (fun iv _ => p - (intOf iv).toNat)
  case atStart => exact ⟨0, Nat.zero_le _, rfl, HF0.out, HR2.out, HK2.out, HB2.out⟩
  case round =>
    obtain ⟨i, hi, rfl, hr1, hr2, hrk, hbel⟩ := hrel
    have Hr1 := Lib.hid hr1
    have Hr2 := Lib.hid hr2
    have Hrk := Lib.hid hrk
    have Hbel := Lib.hid hbel
    have Hi := Lib.hid hi
    clear hr1 hr2 hrk hbel hi
    by_cases hip : i < p
    · have hip' : (i : Int) < (p : Int) := by omega
      have hpi : P[i]? = some v := by rw [← HP.out, List.getElem?_replicate, if_pos hip]
      have Hset := Lib.hid (show Row (wr.setCell ⟨g1, i, none⟩ (.int .u8 (v.toNat : Int))) g1 ((Cha.fillN P (i + 1)).map bv) 5 by
        have h := Hr1.out.set i (bv v)
        rw [← List.map_set, Cha.fillN_set _ _ _ hpi] at h
        exact h)
      obtain ⟨v0, hcell⟩ : ∃ v, wr.cell? ⟨g1, i, none⟩ = some v := ⟨_, Hr1.out.cell (getD_cell _ i (by rw [Cha.fillN_length, HPl.out]; exact hip))⟩
      have hfr := frozen_row Hr1.out i
      have h7 : (p : Int) < 70000 := by have := Hp7.out; omega
      clear hpi
      go_wp2
      go_roundw
      case rel => exact ⟨i + 1, hip, by simp, Hset.out, Hr2.out.other _ _ (by dsimp only; exact Ne.symm Hne.out), Hrk.out.other _ _ (by dsimp only; have := Hg1.out; omega), Hbel.out.setCell (by dsimp only; have := Hg1.out; omega) _⟩
      case measure => simp [intOf]; omega
    · have hip' : ¬ (i : Int) < (p : Int) := by omega
      have hie : i = p := by have := Hi.out; omega
      subst hie
      rw [Cha.fillN_all P _ (by rw [HPl.out]; exact Nat.le_refl _)] at Hr1
      have hN := nonce_len v
      have HN := Lib.hid hN
      have Hb1 := Lib.hid (show Bs wr wr.heap.size (.slice (some ⟨g1, 0, none⟩) i i) P from HPl.out ▸ Hr1.out.bs Hr1.out.lt)
      have Hb2 := Lib.hid (show Bs wr wr.heap.size (.slice (some ⟨g2, 0, none⟩) q q) Z from HZl.out ▸ Hr2.out.bs Hr2.out.lt)
      clear hN
      have hbuild := fun W : World => show (Instr.build 25 #[(0, bv v)]).run Try.prog W = .ok (.agg ((nonceOf v).map bv).toArray) W by kernel_rfl
      by_cases hpq : i ≤ 65536 ∧ q ≤ 65536
      · obtain ⟨hp6, hq6⟩ := hpq
        have dp : decide ((i : Int) ≤ 65536) = true := decide_eq_true (by omega)
        have dq : decide ((q : Int) ≤ 65536) = true := decide_eq_true (by omega)
        have Hp6 := Lib.hid hp6
        have Hq6 := Lib.hid hq6
        clear hp6 hq6
        go_wp2_with (first
          | (refine wpList_loadRow (n := 32) (cs := key.map bv) rfl 24 _ rfl rfl Hrk.out Try.underlying24 rfl (by kernel_rfl) Hkl.out ?_)
          | (refine wpList_build rfl _ _ rfl (v := .agg ((nonceOf v).map bv).toArray) (by kernel_rfl) ?_)
          | fail)
        obtain ⟨X, hX⟩ : ∃ X, Aead.sealed key (nonceOf v) P Z = X := ⟨_, rfl⟩
        have HX := Lib.hid (show X = Cha.xor key 1#32 (nonceOf v) P ++ Aead.tag key (nonceOf v) (Cha.xor key 1#32 (nonceOf v) P) Z by rw [← hX]; rfl)
        refine (Aead.Seal_ok key (nonceOf v) P Z _ _ Hk.out HN.out wr Hb1.out Hb2.out (by rw [HPl.out]; exact Hp6.out) (by rw [HZl.out]; exact Hq6.out)).mono ?_
        rw [hX]
        clear hX
        rintro e w5 ⟨v12, rfl, ho5, hb5⟩
        have HB5 := Lib.hid (nextB Hbel.out (Nat.le_refl _) hb5)
        have HK5 := Lib.hid (Hrk.out.below hb5 Hrk.out.lt)
        have HV5 := Lib.hid ho5.bs
        have HP5 := Lib.hid ((Hb1.out.below hb5).more hb5.size)
        have HZ5 := Lib.hid ((Hb2.out.below hb5).more hb5.size)
        obtain ⟨A5, c5, rfl⟩ := ho5.shape
        clear ho5 hb5
        go_wp2_with (first
          | (refine wpList_loadRow (n := 32) (cs := key.map bv) rfl 24 _ rfl rfl HK5.out Try.underlying24 rfl (by kernel_rfl) Hkl.out ?_)
          | (refine wpList_build rfl _ _ rfl (v := .agg ((nonceOf v).map bv).toArray) (by kernel_rfl) ?_)
          | fail)
        refine (Aead.Open_ok key (nonceOf v) (Cha.xor key 1#32 (nonceOf v) P) (Aead.tag key (nonceOf v) (Cha.xor key 1#32 (nonceOf v) P) Z) Z _ _ Hk.out HN.out (Aead.tag_length _ _ _ _) w5 (by rw [← HX.out]; exact HV5.out) HZ5.out (by rw [Cha.xor_length, HPl.out]; exact Hp6.out) (by rw [HZl.out]; exact Hq6.out)).mono ?_
        rintro e w6 ⟨ho6, hb6⟩
        rw [if_pos rfl, Aead.xor_twice] at ho6
        obtain ⟨v14, rfl, ho6⟩ := ho6
        have HB6 := Lib.hid (nextB HB5.out (Nat.le_refl _) hb6)
        have HK6 := Lib.hid (HK5.out.below hb6 HK5.out.lt)
        have HV6 := Lib.hid ho6.bs
        have HP6 := Lib.hid ((HP5.out.below hb6).more hb6.size)
        obtain ⟨n5, hn5⟩ : ∃ n : Nat, n = 65553 := ⟨_, rfl⟩
        have Hn5 := Lib.hid hn5
        clear ho6 hb6 hn5
        go_wp2_with fail
        refine By.marks mixed Grew [By.is (arr8 key),
          By.is (bv v),
          By.is (.agg ((nonceOf v).map bv).toArray),
          (ownM 0 (List.replicate n5 (0 : UInt8))),
          By.is (.slice (some ⟨g2, 0, none⟩) q q),
          By.is (.tuple #[.slice none 0 0, .int .i64 3]),
          By.is (.tuple #[.slice none 0 0, .int .i64 3]),
          By.is (.slice none 0 0),
          By.is (.int .i64 3),
          By.is (.slice none 0 0),
          By.is (.int .i64 3)]
          (Ev.masks _ []) (by kernel_rfl) rfl Grew.refl Grew.trans ⟨?_, ?_, ?_, ?_, ?_, ?_, ?_, ?_, ?_, ?_, ?_, trivial⟩ ?_
        · intro a w ht hs hg -- 74
          have h4 := By.same_get hs 4 (by decide) (by kernel_rfl)
          refine By.yes rfl ?_
          clear hs hg
          refine wp_loadRow 24 _ rfl h4 (Row.below (w := w6.drew) HK6.out ht HK6.out.lt) Try.underlying24 rfl (by kernel_rfl) Hkl.out ?_
          exact ⟨_, rfl, Grew.refl _, rfl⟩
        · intro a w ht hs hg -- 75
          have h3 := By.same_get hs 3 (by decide) (by kernel_rfl)
          refine By.yes rfl ?_
          clear hs hg
          go_simp
          exact ⟨_, rfl, Grew.refl _, rfl⟩
        · intro a w ht hs hg -- 76
          have h75 : a.tmps.getD 75 undef = _ := By.given_get hg 1 rfl rfl (by kernel_rfl)
          refine By.yes rfl ?_
          clear hs hg
          refine wp_build 25 _ rfl (v := .agg ((nonceOf v).map bv).toArray) ?_ ?_
          · simp only [List.map_toArray, List.map_cons, List.map_nil]
            rw [show a.eval (.tmp 75) = bv v from h75]
            exact hbuild w
          · exact ⟨_, rfl, Grew.refl _, rfl⟩
        · intro a w ht hs hg -- 77
          refine By.yes rfl ?_
          clear hs hg
          refine wp_make_bytes _ _ rfl n5 (by rw [Hn5.out]; rfl) (by rw [Hn5.out]; rfl) (by rw [Hn5.out]; decide) fun v' w' ho hb => ?_
          exact ⟨_, rfl, hb, ho.less (Nat.zero_le _)⟩
        · intro a w ht hs hg -- 78
          have h10 := By.same_get hs 10 (by decide) (by kernel_rfl)
          refine By.yes rfl ?_
          clear hs hg
          go_simp
          exact ⟨_, rfl, Grew.refl _, rfl⟩
        · intro a w ht hs hg -- 79
          have h74 : a.tmps.getD 74 undef = _ := By.given_get hg 0 rfl rfl (by kernel_rfl)
          have h76 : a.tmps.getD 76 undef = _ := By.given_get hg 2 rfl rfl (by kernel_rfl)
          have h77 := By.given_get hg 3 rfl rfl (by kernel_rfl)
          have h78 : a.tmps.getD 78 undef = _ := By.given_get hg 4 rfl rfl (by kernel_rfl)
          refine By.yes rfl ?_
          obtain ⟨v77, hv77⟩ : ∃ v, a.tmps.getD 77 undef = v := ⟨_, rfl⟩
          replace h77 := (congrArg (fun v => ((ownM 0 (List.replicate n5 (0 : UInt8)))).on v w) hv77).mp h77
          clear hs hg
          obtain ⟨A7, c7, rfl⟩ := Own.shape h77
          clear h77
          rw [List.length_replicate] at hv77
          go_simp
          refine (Aead.Open_long key (nonceOf v) A7 (some ⟨g2, 0, none⟩) n5 q c7 q (by rw [Hn5.out]; decide) (.inl (by rw [Hn5.out]; decide)) w).mono ?_
          rintro e w' ⟨rfl, hb⟩
          exact ⟨_, rfl, hb, rfl⟩
        · intro a w ht hs hg -- 73
          have h79 : a.tmps.getD 79 undef = _ := By.given_get hg 5 rfl rfl (by kernel_rfl)
          refine By.yes rfl ?_
          clear hs hg
          go_simp
          exact ⟨_, rfl, Grew.refl _, rfl⟩
        · intro a w ht hs hg -- 80
          have h73 : a.tmps.getD 73 undef = _ := By.given_get hg 6 rfl rfl (by kernel_rfl)
          refine By.yes rfl ?_
          clear hs hg
          go_simp
          exact ⟨_, rfl, Grew.refl _, rfl⟩
        · intro a w ht hs hg -- 81
          have h73 : a.tmps.getD 73 undef = _ := By.given_get hg 6 rfl rfl (by kernel_rfl)
          refine By.yes rfl ?_
          clear hs hg
          go_simp
          exact ⟨_, rfl, Grew.refl _, rfl⟩
        · intro a w ht hs hg -- 16
          have h80 : a.tmps.getD 80 undef = _ := By.given_get hg 7 rfl rfl (by kernel_rfl)
          refine By.yes rfl ?_
          clear hs hg
          go_simp
          exact ⟨_, rfl, Grew.refl _, rfl⟩
        · intro a w ht hs hg -- 17
          have h81 : a.tmps.getD 81 undef = _ := By.given_get hg 8 rfl rfl (by kernel_rfl)
          refine By.yes rfl ?_
          clear hs hg
          go_simp
          exact ⟨_, rfl, Grew.refl _, rfl⟩
        refine By.ends_is (By.ends_is (By.ends_is (By.ends_skip fun v77 => (By.ends_is (By.ends_is (By.ends_is (By.ends_is (By.ends_is (By.ends_is (By.ends_is (By.ends_nil fun w8 hw8 => ?_)))))))))))
        simp only [Act.put, List.setIfInBounds_toArray, List.set_cons_succ, List.set_cons_zero]
        obtain ⟨hg8⟩ := id (show Below w6.heap.size w6.drew w8 ∧ True from ⟨hw8, trivial⟩)
        have HB8 := Lib.hid (nextB (b := w6.drew) HB6.out.drew (Nat.le_refl _) hg8)
        have HV8 := Lib.hid (Bs.below (w := w6.drew) HV6.out hg8)
        have HP8 := Lib.hid (Bs.below (w := w6.drew) HP6.out hg8)
        have hr1 := run_str w8 HV8.out
        have hr2 := run_str w8 HP8.out
        have hsg := str_guard .eql (.inl rfl) (.tmp 86) (.tmp 88) P P w8
        have hsn := str_eql P w8
        clear hg8 hw8
        go_wp2_with fail
        go_ret
        exact ⟨rfl, HB8.out⟩
      · have HS := Lib.hid (Aead.Seal_long key (nonceOf v) (some ⟨g1, 0, none⟩) (some ⟨g2, 0, none⟩) i q i q (by omega) wr)
        by_cases hp6 : i ≤ 65536
        · have hq6 : ¬ q ≤ 65536 := fun h => hpq ⟨hp6, h⟩
          have dp : decide ((i : Int) ≤ 65536) = true := decide_eq_true (by omega)
          have dq : decide ((q : Int) ≤ 65536) = false := decide_eq_false (by omega)
          clear hp6 hq6 hpq
          go_wp2_with (first
            | (refine wpList_loadRow (n := 32) (cs := key.map bv) rfl 24 _ rfl rfl Hrk.out Try.underlying24 rfl (by kernel_rfl) Hkl.out ?_)
            | (refine wpList_build rfl _ _ rfl (v := .agg ((nonceOf v).map bv).toArray) (by kernel_rfl) ?_)
            | fail)
          refine HS.out.mono ?_
          rintro e w5 ⟨rfl, hb5⟩
          have HB5 := Lib.hid (nextB Hbel.out (Nat.le_refl _) hb5)
          clear hb5
          go_wp2_with fail
          go_ret
          exact ⟨rfl, HB5.out⟩
        · have dp : decide ((i : Int) ≤ 65536) = false := decide_eq_false (by omega)
          clear hp6 hpq
          go_wp2_with (first
            | (refine wpList_loadRow (n := 32) (cs := key.map bv) rfl 24 _ rfl rfl Hrk.out Try.underlying24 rfl (by kernel_rfl) Hkl.out ?_)
            | (refine wpList_build rfl _ _ rfl (v := .agg ((nonceOf v).map bv).toArray) (by kernel_rfl) ?_)
            | fail)
          refine HS.out.mono ?_
          rintro e w5 ⟨rfl, hb5⟩
          have HB5 := Lib.hid (nextB Hbel.out (Nat.le_refl _) hb5)
          clear hb5
          go_wp2_with fail
          go_ret
          exact ⟨rfl, HB5.out⟩

set_option maxRecDepth 100000 in
theorem lift (os : Os) (started : os.Started) (H : Type) (enc : TypeId × Value → H) :
    ReturnsInHanded {} Try.checked os 8 .any (Rows.aeadLongSpec.pre6 enc Try.prog Try.f8 Rows.aeadLongRow.domain false) (Rows.aeadLongSpec.post enc Try.prog Try.f8 false true false false) := by
  refine Law.lifted (C := Try.checked) 4 own started (by kernel_rfl) Try.func8 laid (by kernel_rfl) rfl Try.underlying4 rfl
    (fun ds hd => by
      have hd' : ds.length = 4 := hd
      match ds, hd' with
      | [d0, d1, d2, d3], _ => rfl)
    (ChangeSpec.witness6 (enc := enc) (C := Try.checked) false ⟨#[], #[.agg (Array.replicate 32 (.int .u8 0)), .int .i64 0, .int .i64 0, .int .u8 0], []⟩ 8 (by kernel_rfl) (by kernel_rfl) (by kernel_rfl) (by kernel_rfl)) ?_
  intro W args ds ps hst
  have hA : DataW.TrodAll enc Try.prog W 0 (fun _ => true) true Try.f8.params.toList args.toList ds ps := hst.trod
  have hok := hst.okw
  have hlt := hst.lt
  rw [Try.params8] at hA hok
  obtain ⟨v0, v1, v2, v3, d0, d1, d2, d3, p0, p1, p2, p3, rfl, rfl, rfl, h0, h1, h2, h3⟩ := trodAll_four hA
  obtain ⟨_, hv0⟩ := hok 0 24 v0 rfl rfl
  obtain ⟨_, hv1⟩ := hok 1 3 v1 rfl rfl
  obtain ⟨_, hv2⟩ := hok 2 3 v2 rfl rfl
  obtain ⟨_, hv3⟩ := hok 3 5 v3 rfl rfl
  obtain ⟨key, rfl, hkl⟩ := arr8_at Try.underlying24 (by kernel_rfl) (by kernel_rfl) Try.underlying5 hv0
  obtain ⟨n, rfl, hn1, hn2⟩ := Law.int_at Try.underlying3 hv1 h1
  obtain ⟨m, rfl, hm1, hm2⟩ := Law.int_at Try.underlying3 hv2 h2
  obtain ⟨b, rfl, hb1, hb2⟩ := Law.int_at Try.underlying5 hv3 h3
  have e : Value.int .u8 b = bv (UInt8.ofNat b.toNat) := by
    have h0 : 0 ≤ b := hb1
    have h1 : b ≤ 255 := hb2
    unfold bv
    rw [UInt8.toNat_ofNat']
    congr 1
    omega
  rw [e]
  exact walk key n m _ hkl ⟨hn1, hn2⟩ ⟨hm1, hm2⟩ W

theorem over : Rows.aeadLongRow.holds Try.pinned (OpenSpec.ofChange Rows.aeadLongSpec) :=
  OpenClaim.holds_of_wide 8 Try.f8 rfl rfl rfl rfl rfl rfl rfl ⟨rfl, rfl, rfl, rfl, rfl⟩ rfl rfl rfl rfl rfl (by kernel_rfl) Try.func8 (by kernel_rfl)
    (of_decide_eq_true (by kernel_rfl)) (by unfold Func.isWrapper; first | (rw [if_pos (by decide +kernel)]; kernel_rfl) | (rw [if_neg (by decide +kernel)]; exact ⟨rfl, rfl⟩))
    (fun os started H enc _ => lift os started H enc)
theorem proved : Rows.AeadLongSaid := over
#print axioms proved
end Go.Proofs.Ytpldkkkenmdimaa.aeadLong

