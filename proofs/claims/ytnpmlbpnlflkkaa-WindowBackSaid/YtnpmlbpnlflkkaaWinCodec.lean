/- window: windows as bytes. -/
import Derived.Test.YtnpmlbpnlflkkaaWinAny
import Derived.Test.YtnpmlbpnlflkkaaWinLives
import Derived.Test.YtnpmlbpnlflkkaaTail
namespace Go.Proofs.Ytnpmlbpnlflkkaa.Win
open Go.RowKit

theorem Bytes_no (f t s l : Nat) (w : World) (hF : Fits f t s l) (h : ¬ Ok f t s l) : Calls Try.prog 28 #[wv f t s l] w fun e w' => e = .returned (.tuple #[.slice none 0 0, .int .i64 2]) ∧ Below w.heap.size w w' := by
  have H := Lib.hid h
  have HF := Lib.hid hF
  clear h hF
  go_enter Try.func28, Try.ntmps28
  go_wp2_with (go_at_call 22; refine (Check_no _ _ _ _ _ HF.out.1 HF.out.2.1 HF.out.2.2.1 HF.out.2.2.2 H.out).mono ?_; rintro e w' ⟨rfl, rfl⟩)
  go_ret2
  exact ⟨rfl, (by repeat (first | exact Below.refl _ _ | refine Below.alloc ?_ (by simp <;> omega) _))⟩
/-- The bytes of a window. -/
def wenc (f t s l : Nat) : List UInt8 := Oct.enc f ++ Oct.enc t ++ Oct.enc s ++ Oct.enc l
theorem enc_len {n : Nat} (h : n < 2 ^ 64) : (Oct.enc n).length ≤ 9 := by rw [Oct.enc_length]; have := (Oct.nsize_spec n h).1; omega

theorem Bytes_ok (f t s l : Nat) (w : World) (hF : Fits f t s l) (h : Ok f t s l) : Calls Try.prog 28 #[wv f t s l] w fun e w' => ∃ v, e = .returned (.tuple #[v, .int .i64 0]) ∧ Own w' w.heap.size v (wenc f t s l) ∧ Below w.heap.size w w' := by
  have H := Lib.hid h
  have HF := Lib.hid hF
  have HL1 := Lib.hid (show (Oct.enc f).length ≤ 35184372088832 by have := enc_len hF.1; omega)
  have HL2 := Lib.hid (show (Oct.enc f ++ Oct.enc t).length ≤ 35184372088832 by have := enc_len hF.1; have := enc_len hF.2.1; rw [List.length_append]; omega)
  have HL3 := Lib.hid (show (Oct.enc f ++ Oct.enc t ++ Oct.enc s).length ≤ 35184372088832 by have := enc_len hF.1; have := enc_len hF.2.1; have := enc_len hF.2.2.1; rw [List.length_append, List.length_append]; omega)
  clear h hF
  go_enter Try.func28, Try.ntmps28
  go_wp2_with fail
  refine (Check_ok _ _ _ _ _ HF.out.2.2.1 H.out).mono ?_
  rintro e w' ⟨rfl, rfl⟩
  go_wp2_with fail
  obtain ⟨V, hV⟩ : ∃ V, co (w.alloc (.cells #[.int .u64 (f : Int), .int .u64 (t : Int), .int .u64 (s : Int), .int .u64 (l : Int)] 35)) f t s l = V := ⟨_, rfl⟩
  rw [hV]
  have RV := Lib.hid (show Row V w.heap.size (wl f t s l) 35 by rw [← hV]; exact (Row.new rfl rfl).alloc _)
  have HBV := Lib.hid (show Below w.heap.size w V by rw [← hV]; exact two_below _ _ _)
  have hwV : w.heap.size ≤ V.heap.size := HBV.out.size
  clear hV
  refine Tail.marksAt Win.mixed 5 Grew [By.is (.pointer (some ⟨w.heap.size, 0, none⟩)),
    By.is (.int .u64 (f : Int)),
    ownM V.heap.size (Oct.enc f),
    By.is (.pointer (some ⟨w.heap.size, 1, none⟩)),
    By.is (.int .u64 (t : Int))]
    (Ev.masks _ []) (Nat.zero_lt_succ _) (by kernel_rfl) (by kernel_rfl) rfl Grew.refl Grew.trans ⟨?_, ?_, ?_, ?_, ?_, trivial⟩ ?_
  · intro a w ht hs hg -- 11
    have h1 := By.same_get hs 1 (by decide) (by kernel_rfl)
    refine By.yes rfl ?_
    clear hs hg
    go_simp
    exact ⟨_, rfl, Grew.refl _, rfl⟩
  · intro a w ht hs hg -- 12
    have h11 : a.tmps.getD 11 undef = _ := By.given_get hg 0 rfl rfl (by kernel_rfl)
    refine By.yes rfl ?_
    clear hs hg
    have hc := (Row.below (w := V.drew) RV.out ht RV.out.lt).cell (i := 0) rfl
    go_simp
    exact ⟨_, rfl, Grew.refl _, rfl⟩
  · intro a w ht hs hg -- 13
    have h12 : a.tmps.getD 12 undef = _ := By.given_get hg 1 rfl rfl (by kernel_rfl)
    refine By.yes rfl ?_
    clear hs hg
    have hs : V.heap.size ≤ w.heap.size := ht.size
    go_simp
    refine (Number_any _ [] f w (Bs.nil _ _ _ _) HF.out.1 (by simp)).mono ?_
    rintro e w' ⟨v, rfl, ho, hb⟩
    exact ⟨_, rfl, hb, show Own w' V.heap.size v (Oct.enc f) by simpa using ho.less hs⟩
  · intro a w ht hs hg -- 14
    have h1 := By.same_get hs 1 (by decide) (by kernel_rfl)
    refine By.yes rfl ?_
    clear hs hg
    go_simp
    exact ⟨_, rfl, Grew.refl _, rfl⟩
  · intro a w ht hs hg -- 15
    have h14 : a.tmps.getD 14 undef = _ := By.given_get hg 3 rfl rfl (by kernel_rfl)
    refine By.yes rfl ?_
    clear hs hg
    have hc := (Row.below (w := V.drew) RV.out ht RV.out.lt).cell (i := 1) rfl
    go_simp
    exact ⟨_, rfl, Grew.refl _, rfl⟩
  refine By.ends_is (By.ends_is (By.ends_any fun v13 => (By.ends_is (By.ends_is (By.ends_nil fun w8 hw8 => ?_)))))
  simp only [Act.put, List.setIfInBounds_toArray, List.set_cons_succ, List.set_cons_zero]
  simp only [List.drop_succ_cons, List.drop_zero]
  obtain ⟨hgr, ho⟩ := hw8
  have HG := Lib.hid (nextB HBV.out (Nat.le_refl _) (show Below V.heap.size V w8 from ⟨hgr.os, hgr.tape, hgr.output, hgr.size, hgr.block⟩))
  have R8 := Lib.hid (Row.below (w := V.drew) RV.out hgr RV.out.lt)
  have HO := Lib.hid ho
  clear hgr ho
  go_wp2_with fail
  refine (Number_any _ (Oct.enc f) t _ HO.out.bs HF.out.2.1 HL1.out).mono ?_
  rintro e w9 ⟨v9, rfl, ho9, hb9⟩
  have HO9 := Lib.hid (ho9.less (base' := w.heap.size) HG.out.size)
  have HB9 := Lib.hid (nextB HG.out (Nat.le_refl _) hb9)
  have R9 := Lib.hid (R8.out.below hb9 R8.out.lt)
  have hs9 : w.heap.size ≤ w9.heap.size := HB9.out.size
  clear ho9 hb9
  go_wp2_with fail
  refine Tail.marksAt Win.mixed 6 Grew [By.is v9,
    By.is (.pointer (some ⟨w.heap.size, 2, none⟩)),
    By.is (.int .u64 (s : Int)),
    ownM w9.heap.size (Oct.enc f ++ (Oct.enc t ++ Oct.enc s)),
    By.is (.pointer (some ⟨w.heap.size, 3, none⟩)),
    By.is (.int .u64 (l : Int))]
    (Ev.masks _ []) (Nat.zero_lt_succ _) (by kernel_rfl) (by kernel_rfl) rfl Grew.refl Grew.trans ⟨?_, ?_, ?_, ?_, ?_, ?_, trivial⟩ ?_
  · intro a w ht hs hg -- 17
    have h5 := By.same_get hs 5 (by decide) (by kernel_rfl)
    refine By.yes rfl ?_
    clear hs hg
    go_simp
    exact ⟨_, rfl, Grew.refl _, rfl⟩
  · intro a w ht hs hg -- 18
    have h1 := By.same_get hs 1 (by decide) (by kernel_rfl)
    refine By.yes rfl ?_
    clear hs hg
    go_simp
    exact ⟨_, rfl, Grew.refl _, rfl⟩
  · intro a w ht hs hg -- 19
    have h18 : a.tmps.getD 18 undef = _ := By.given_get hg 1 rfl rfl (by kernel_rfl)
    refine By.yes rfl ?_
    clear hs hg
    have hc := (Row.below (w := w9.drew) R9.out ht R9.out.lt).cell (i := 2) rfl
    go_simp
    exact ⟨_, rfl, Grew.refl _, rfl⟩
  · intro a w ht hs hg -- 20
    have h17 : a.tmps.getD 17 undef = _ := By.given_get hg 0 rfl rfl (by kernel_rfl)
    have h19 : a.tmps.getD 19 undef = _ := By.given_get hg 2 rfl rfl (by kernel_rfl)
    refine By.yes rfl ?_
    clear hs hg
    have hs : w9.heap.size ≤ w.heap.size := ht.size
    have hx := Lib.hid ((Bs.below (w := w9.drew) HO9.out.bs ht).more ht.size)
    go_simp
    refine (Number_any _ (Oct.enc f ++ Oct.enc t) s w hx.out HF.out.2.2.1 HL2.out).mono ?_
    rintro e w' ⟨v, rfl, ho, hb⟩
    exact ⟨_, rfl, hb, show Own w' w9.heap.size v (Oct.enc f ++ (Oct.enc t ++ Oct.enc s)) by rw [← List.append_assoc]; exact ho.less hs⟩
  · intro a w ht hs hg -- 21
    have h1 := By.same_get hs 1 (by decide) (by kernel_rfl)
    refine By.yes rfl ?_
    clear hs hg
    go_simp
    exact ⟨_, rfl, Grew.refl _, rfl⟩
  · intro a w ht hs hg -- 22
    have h21 : a.tmps.getD 21 undef = _ := By.given_get hg 4 rfl rfl (by kernel_rfl)
    refine By.yes rfl ?_
    clear hs hg
    have hc := (Row.below (w := w9.drew) R9.out ht R9.out.lt).cell (i := 3) rfl
    go_simp
    exact ⟨_, rfl, Grew.refl _, rfl⟩
  refine By.ends_is (By.ends_is (By.ends_is (By.ends_any fun v20 => (By.ends_is (By.ends_is (By.ends_nil fun w10 hw10 => ?_))))))
  simp only [Act.put, List.setIfInBounds_toArray, List.set_cons_succ, List.set_cons_zero]
  simp only [List.drop_succ_cons, List.drop_zero]
  obtain ⟨hgr, ho⟩ := hw10
  have HG10 := Lib.hid (nextB HB9.out (Nat.le_refl _) (show Below w9.heap.size w9 w10 from ⟨hgr.os, hgr.tape, hgr.output, hgr.size, hgr.block⟩))
  have HO10 := Lib.hid (show Own w10 w9.heap.size v20 (Oct.enc f ++ Oct.enc t ++ Oct.enc s) by rw [List.append_assoc]; exact ho)
  clear hgr ho
  go_wp2_with fail
  refine (Number_any _ (Oct.enc f ++ Oct.enc t ++ Oct.enc s) l _ HO10.out.bs HF.out.2.2.2 HL3.out).mono ?_
  rintro e w11 ⟨v11, rfl, ho11, hb11⟩
  have HO11 := Lib.hid (ho11.less (base' := w.heap.size) HG10.out.size)
  have HB11 := Lib.hid (nextB HG10.out (Nat.le_refl _) hb11)
  clear ho11 hb11
  go_wp2
  go_ret2
  exact ⟨v11, rfl, HO11.out, HB11.out⟩

open Classical in
noncomputable def rdPick (E x y z u : Nat) : Nat × Nat × Nat × Nat × Nat := if E = 0 ∧ Ok x y z u then (x, y, z, u, 0) else (0, 0, 0, 0, 4)
theorem rdPick_ok {E x y z u : Nat} (h : E = 0 ∧ Ok x y z u) : rdPick E x y z u = (x, y, z, u, 0) := if_pos h
theorem rdPick_no {E x y z u : Nat} (h : ¬ (E = 0 ∧ Ok x y z u)) : rdPick E x y z u = (0, 0, 0, 0, 4) := if_neg h
/-- What Read answers: the window, the error. -/
noncomputable def rdW (b : List UInt8) : Nat × Nat × Nat × Nat × Nat :=
  match rdNumber b 0 0 with
  | (x, a1, e1) => match rdNumber b a1 e1 with
    | (y, a2, e2) => match rdNumber b a2 e2 with
      | (z, a3, e3) => match rdNumber b a3 e3 with
        | (u, a4, e4) => rdPick (rdEnd b a4 e4) x y z u
theorem rdW_eq {b : List UInt8} {x y z u a1 a2 a3 a4 e1 e2 e3 e4 : Nat} (h1 : rdNumber b 0 0 = (x, a1, e1)) (h2 : rdNumber b a1 e1 = (y, a2, e2)) (h3 : rdNumber b a2 e2 = (z, a3, e3)) (h4 : rdNumber b a3 e3 = (u, a4, e4)) :
    rdW b = rdPick (rdEnd b a4 e4) x y z u := by
  unfold rdW
  rw [h1]
  dsimp only
  rw [h2]
  dsimp only
  rw [h3]
  dsimp only
  rw [h4]
theorem rdW_yes {b : List UInt8} {x y z u a1 a2 a3 a4 e1 e2 e3 e4 : Nat} (h1 : rdNumber b 0 0 = (x, a1, e1)) (h2 : rdNumber b a1 e1 = (y, a2, e2)) (h3 : rdNumber b a2 e2 = (z, a3, e3)) (h4 : rdNumber b a3 e3 = (u, a4, e4))
    (hE : rdEnd b a4 e4 = 0) (hk : Ok x y z u) : rdW b = (x, y, z, u, 0) := by rw [rdW_eq h1 h2 h3 h4, rdPick_ok ⟨hE, hk⟩]
theorem rdW_not {b : List UInt8} {x y z u a1 a2 a3 a4 e1 e2 e3 e4 : Nat} (h1 : rdNumber b 0 0 = (x, a1, e1)) (h2 : rdNumber b a1 e1 = (y, a2, e2)) (h3 : rdNumber b a2 e2 = (z, a3, e3)) (h4 : rdNumber b a3 e3 = (u, a4, e4))
    (hk : ¬ (rdEnd b a4 e4 = 0 ∧ Ok x y z u)) : rdW b = (0, 0, 0, 0, 4) := by rw [rdW_eq h1 h2 h3 h4, rdPick_no hk]
theorem Row.grown' {w w' : World} {g k : Nat} {cs : List Value} {t : TypeId} (h : Row w k cs t) (hg : w.grownBy w' (some g)) (hne : k ≠ g) : Row w' k cs t := by
  unfold Row
  rw [hg.block k h.lt (by simpa using hne)]
  exact h
set_option maxHeartbeats 1000000 in
theorem Read_any (v : Value) (b : List UInt8) (w : World) (hb : Bs w w.heap.size v b) (hl : b.length ≤ 35184372088832) :
    Calls Try.prog 26 #[v] w fun e w' => e = .returned (.tuple #[wv (rdW b).1 (rdW b).2.1 (rdW b).2.2.1 (rdW b).2.2.2.1, .int .i64 ((rdW b).2.2.2.2 : Nat)]) ∧ Below w.heap.size w w' := by
  have Hb := Lib.hid hb
  clear hb
  go_enter Try.func26, Try.ntmps26
  go_wp2_with fail
  have hb0 := (Below.refl w.heap.size w).alloc (Nat.le_refl _) (.cells #[.int .u64 0, .int .u64 0, .int .u64 0, .int .u64 0] 35)
  refine (Go.Proofs.Ytnpmlbpnlflkkaa.New_any _ b _ ((Hb.out.below hb0).more hb0.size) hl).mono ?_
  rintro e w1 ⟨g, rfl, hg1, hg2, hr1, hb1⟩
  have HR1 := Lib.hid hr1
  have HB1 := Lib.hid (nextB hb0 (Nat.le_refl _) hb1)
  have HW1 := Lib.hid (show Row w1 w.heap.size (wl 0 0 0 0) 35 from (Row.new (w := w) rfl rfl).below hb1 (by simp))
  have hgw : w.heap.size < g := by simp at hg1; omega
  have HG1 := Lib.hid hg2
  clear hr1 hb1 hb0 hg1 hg2
  go_wp2_with fail
  refine (RNumber_any HR1.out).mono ?_
  obtain ⟨x, a1, e1, hrd⟩ : ∃ x a e, rdNumber b 0 0 = (x, a, e) := ⟨_, _, _, rfl⟩
  have Hrd1 := Lib.hid hrd
  have HX1 := Lib.hid (show x < 2 ^ 64 by have := rdNumber_lt b 0 0; rw [hrd] at this; exact this)
  rw [hrd]
  rintro e w2 ⟨rfl, hr, hgr⟩
  have HR2 := Lib.hid hr
  have HB2 := Lib.hid (HB1.out.grown hgr HB1.out.size (fun k hk => by injection hk with hk; omega))
  have HW2 := Lib.hid (Row.grown' HW1.out hgr (by omega))
  have HG2 := Lib.hid (show g < w2.heap.size from Nat.lt_of_lt_of_le HG1.out hgr.size)
  clear hr hgr hrd
  go_wp2_with fail
  refine (RNumber_any HR2.out).mono ?_
  obtain ⟨y, a2, e2, hrd⟩ : ∃ x a e, rdNumber b a1 e1 = (x, a, e) := ⟨_, _, _, rfl⟩
  have Hrd2 := Lib.hid hrd
  have HX2 := Lib.hid (show y < 2 ^ 64 by have := rdNumber_lt b a1 e1; rw [hrd] at this; exact this)
  rw [hrd]
  rintro e w3 ⟨rfl, hr, hgr⟩
  have HR3 := Lib.hid hr
  have HB3 := Lib.hid (HB2.out.grown hgr HB2.out.size (fun k hk => by injection hk with hk; omega))
  have HW3 := Lib.hid (Row.grown' HW2.out hgr (by omega))
  have HG3 := Lib.hid (show g < w3.heap.size from Nat.lt_of_lt_of_le HG2.out hgr.size)
  clear hr hgr hrd
  go_wp2_with fail
  refine (RNumber_any HR3.out).mono ?_
  obtain ⟨z, a3, e3, hrd⟩ : ∃ x a e, rdNumber b a2 e2 = (x, a, e) := ⟨_, _, _, rfl⟩
  have Hrd3 := Lib.hid hrd
  have HX3 := Lib.hid (show z < 2 ^ 64 by have := rdNumber_lt b a2 e2; rw [hrd] at this; exact this)
  rw [hrd]
  rintro e w4 ⟨rfl, hr, hgr⟩
  have HR4 := Lib.hid hr
  have HB4 := Lib.hid (HB3.out.grown hgr HB3.out.size (fun k hk => by injection hk with hk; omega))
  have HW4 := Lib.hid (Row.grown' HW3.out hgr (by omega))
  have HG4 := Lib.hid (show g < w4.heap.size from Nat.lt_of_lt_of_le HG3.out hgr.size)
  clear hr hgr hrd
  go_wp2_with fail
  refine (RNumber_any HR4.out).mono ?_
  obtain ⟨u, a4, e4, hrd⟩ : ∃ x a e, rdNumber b a3 e3 = (x, a, e) := ⟨_, _, _, rfl⟩
  have Hrd4 := Lib.hid hrd
  have HX4 := Lib.hid (show u < 2 ^ 64 by have := rdNumber_lt b a3 e3; rw [hrd] at this; exact this)
  rw [hrd]
  rintro e w5 ⟨rfl, hr, hgr⟩
  have HR5 := Lib.hid hr
  have HB5 := Lib.hid (HB4.out.grown hgr HB4.out.size (fun k hk => by injection hk with hk; omega))
  have HW5 := Lib.hid (Row.grown' HW4.out hgr (by omega))
  have HG5 := Lib.hid (show g < w5.heap.size from Nat.lt_of_lt_of_le HG4.out hgr.size)
  clear hr hgr hrd
  obtain ⟨E, hE⟩ : ∃ E, rdEnd b a4 e4 = E := ⟨_, rfl⟩
  have HE := Lib.hid hE
  have HR6 := Lib.hid (HR5.out.below ((Below.refl w5.heap.size w5).alloc (Nat.le_refl _) (.cells #[.int .u64 (x : Int), .int .u64 (y : Int), .int .u64 (z : Int), .int .u64 (u : Int)] 35)) HG5.out)
  go_wp2_with fail
  refine (End_any HR6.out).mono ?_
  rw [hE]
  rintro e w6 ⟨rfl, _, hgr⟩
  have hw05 : w.heap.size < w5.heap.size := HW5.out.lt
  have hg5 := HG5.out
  have HC6 := Lib.hid (Row.grown' (Row.new (cs := wl x y z u) (t := 35) (w := w5) rfl rfl) hgr (by omega))
  have HW6 := Lib.hid (Row.grown' (HW5.out.alloc _) hgr (by omega))
  have HB6 := Lib.hid ((HB5.out.alloc (Nat.le_of_lt hw05) _).grown hgr (by simp <;> omega) (fun k hk => by injection hk with hk; omega))
  clear hgr
  obtain ⟨k0, k1, k2, k3⟩ := quad HC6.out
  obtain ⟨m0, m1, m2, m3⟩ := quadA HC6.out
  have hw6 : w.heap.size < w6.heap.size := HW6.out.lt
  have HF := Lib.hid (show Fits x y z u from ⟨HX1.out, HX2.out, HX3.out, HX4.out⟩)
  by_cases hE0 : E = 0
  · have hE1 : ((E : Int) != 0) = false := by subst hE0; rfl
    by_cases hok : Ok x y z u
    · have HOK := Lib.hid hok
      have HCN := Lib.hid (show rdW b = (x, y, z, u, 0) from rdW_yes Hrd1.out Hrd2.out Hrd3.out Hrd4.out (HE.out.trans hE0) hok)
      clear hok hE0 hE
      go_wp2_with fail
      refine (Check_ok x y z u _ HF.out.2.2.1 HOK.out).mono ?_
      rintro e w' ⟨rfl, rfl⟩
      go_wp2_with (first
        | (refine wpList_storeRow (n := 4) rfl 35 _ _ rfl rfl rfl (cs := wl x y z u) (old := wl 0 0 0 0) (HW6.out.alloc _) (by kernel_rfl) rfl rfl (wl_one _ _ _ _) ?_
           obtain ⟨V2, hV2⟩ : ∃ V2, World.setRow (w6.alloc (.cells #[.int .u64 (x : Int), .int .u64 (y : Int), .int .u64 (z : Int), .int .u64 (u : Int)] 35)) w.heap.size (wl x y z u).toArray = V2 := ⟨_, rfl⟩
           refine wpList_world hV2 ?_
           have R2 := Lib.hid (show Row V2 w.heap.size (wl x y z u) 35 by rw [← hV2]; exact Row.setRow (HW6.out.alloc _) _)
           have HB2 := Lib.hid (show Below w.heap.size w V2 by rw [← hV2]; exact below_setRow (by first | exact HB6.out | exact HB6.out.alloc (by omega) _) (Nat.le_refl _) _)
           clear hV2)
        | fail)
      refine bodyPost_ret (results_ct (cs := wl x y z u) rfl rfl R2.out Try.underlying35 rfl (by kernel_rfl) rfl) rfl ?_
      rw [HCN.out]
      exact ⟨rfl, HB2.out⟩
    · have HOK := Lib.hid hok
      have HCN := Lib.hid (show rdW b = (0, 0, 0, 0, 4) from rdW_not Hrd1.out Hrd2.out Hrd3.out Hrd4.out (fun h => hok h.2))
      clear hok hE0 hE
      go_wp2_with fail
      refine (Check_no x y z u _ HF.out.1 HF.out.2.1 HF.out.2.2.1 HF.out.2.2.2 HOK.out).mono ?_
      rintro e w' ⟨rfl, rfl⟩
      go_wp2_with (first
        | (refine wpList_storeRow (n := 4) rfl 35 _ _ rfl rfl rfl (cs := wl 0 0 0 0) (old := wl 0 0 0 0) (HW6.out.alloc _) (by kernel_rfl) rfl rfl (wl_one _ _ _ _) ?_
           obtain ⟨V2, hV2⟩ : ∃ V2, World.setRow (w6.alloc (.cells #[.int .u64 (x : Int), .int .u64 (y : Int), .int .u64 (z : Int), .int .u64 (u : Int)] 35)) w.heap.size (wl 0 0 0 0).toArray = V2 := ⟨_, rfl⟩
           refine wpList_world hV2 ?_
           have R2 := Lib.hid (show Row V2 w.heap.size (wl 0 0 0 0) 35 by rw [← hV2]; exact Row.setRow (HW6.out.alloc _) _)
           have HB2 := Lib.hid (show Below w.heap.size w V2 by rw [← hV2]; exact below_setRow (by first | exact HB6.out | exact HB6.out.alloc (by omega) _) (Nat.le_refl _) _)
           clear hV2)
        | fail)
      refine bodyPost_ret (results_ct (cs := wl 0 0 0 0) rfl rfl R2.out Try.underlying35 rfl (by kernel_rfl) rfl) rfl ?_
      rw [HCN.out]
      exact ⟨rfl, HB2.out⟩
  · have hE1 : ((E : Int) != 0) = true := by rw [bne_iff_ne]; omega
    have HCN := Lib.hid (show rdW b = (0, 0, 0, 0, 4) from rdW_not Hrd1.out Hrd2.out Hrd3.out Hrd4.out (fun h => hE0 (HE.out.symm.trans h.1)))
    clear hE0 hE
    go_wp2_with (first
      | (refine wpList_storeRow (n := 4) rfl 35 _ _ rfl rfl rfl (cs := wl 0 0 0 0) (old := wl 0 0 0 0) HW6.out (by kernel_rfl) rfl rfl (wl_one _ _ _ _) ?_
         obtain ⟨V2, hV2⟩ : ∃ V2, World.setRow w6 w.heap.size (wl 0 0 0 0).toArray = V2 := ⟨_, rfl⟩
         refine wpList_world hV2 ?_
         have R2 := Lib.hid (show Row V2 w.heap.size (wl 0 0 0 0) 35 by rw [← hV2]; exact Row.setRow HW6.out _)
         have HB2 := Lib.hid (show Below w.heap.size w V2 by rw [← hV2]; exact below_setRow (by first | exact HB6.out | exact HB6.out.alloc (by omega) _) (Nat.le_refl _) _)
         clear hV2)
      | fail)
    refine bodyPost_ret (results_ct (cs := wl 0 0 0 0) rfl rfl R2.out Try.underlying35 rfl (by kernel_rfl) rfl) rfl ?_
    rw [HCN.out]
    exact ⟨rfl, HB2.out⟩

theorem rd_end {b : List UInt8} {a e : Nat} (h : rdEnd b a e = 0) : e = 0 ∧ b.length ≤ a := by
  unfold rdEnd at h
  split at h
  · cases h
  · rename_i hn
    subst h
    refine ⟨rfl, ?_⟩
    rcases Nat.lt_or_ge a b.length with h | h
    · exact absurd ⟨rfl, h⟩ hn
    · exact h
theorem rd_err {b : List UInt8} {a e x a' e' : Nat} (h : rdNumber b a e = (x, a', e')) (h0 : e' = 0) : e = 0 := by
  rcases Nat.eq_zero_or_pos e with h1 | h1
  · exact h1
  · unfold rdNumber at h
    rw [if_pos (by omega)] at h
    simp only [Prod.mk.injEq] at h
    omega
theorem rd_num {b : List UInt8} {a x a' : Nat} (h : rdNumber b a 0 = (x, a', 0)) : Oct.enc x ++ b.drop a' = b.drop a := by
  unfold rdNumber at h
  rw [if_neg (by omega)] at h
  simp only [Prod.mk.injEq] at h
  have d := Oct.enc_dec (b.drop a) x (Oct.dec (b.drop a)).2.1 (by rw [← h.1, ← h.2.2])
  rw [d.2.1, ← h.2.1, ← List.drop_drop, List.take_append_drop]
theorem rdW_full (b : List UInt8) : ∃ x y z u a1 a2 a3 a4 e1 e2 e3 e4, rdNumber b 0 0 = (x, a1, e1) ∧ rdNumber b a1 e1 = (y, a2, e2) ∧ rdNumber b a2 e2 = (z, a3, e3) ∧ rdNumber b a3 e3 = (u, a4, e4) := ⟨_, _, _, _, _, _, _, _, _, _, _, _, rfl, rfl, rfl, rfl⟩
theorem rdW_bytes (b : List UInt8) (x y z u : Nat) (h : rdW b = (x, y, z, u, 0)) : wenc x y z u = b ∧ Ok x y z u ∧ Fits x y z u := by
  obtain ⟨x', y', z', u', a1, a2, a3, a4, e1, e2, e3, e4, h1, h2, h3, h4⟩ := rdW_full b
  rw [rdW_eq h1 h2 h3 h4] at h
  by_cases hk : rdEnd b a4 e4 = 0 ∧ Ok x' y' z' u'
  · rw [rdPick_ok hk] at h
    simp only [Prod.mk.injEq, and_true] at h
    obtain ⟨rfl, rfl, rfl, rfl⟩ := h
    obtain ⟨hE, hk⟩ := hk
    have f1 := rdNumber_lt b 0 0
    have f2 := rdNumber_lt b a1 e1
    have f3 := rdNumber_lt b a2 e2
    have f4 := rdNumber_lt b a3 e3
    rw [h1] at f1
    rw [h2] at f2
    rw [h3] at f3
    rw [h4] at f4
    refine ⟨?_, hk, f1, f2, f3, f4⟩
    obtain ⟨q4, hlen⟩ := rd_end hE
    have q3 := rd_err h4 q4
    have q2 := rd_err h3 q3
    have q1 := rd_err h2 q2
    subst q1; subst q2; subst q3; subst q4
    have k1 := rd_num h1
    have k2 := rd_num h2
    have k3 := rd_num h3
    have k4 := rd_num h4
    rw [List.drop_eq_nil_of_le hlen, List.append_nil] at k4
    unfold wenc
    rw [List.drop_zero] at k1
    rw [List.append_assoc, List.append_assoc, k4, k3, k2, k1]
  · rw [rdPick_no hk] at h
    simp at h
theorem rd_own (x : Nat) (hx : x < 2 ^ 64) (p r : List UInt8) : rdNumber (p ++ (Oct.enc x ++ r)) p.length 0 = (x, p.length + (Oct.enc x).length, 0) := by
  have h := Oct.dec_enc x hx r
  unfold rdNumber
  rw [if_neg (by omega), List.drop_left, h, Oct.enc_length]
  show (x, p.length + (1 + Oct.nsize x), 0) = _
  rw [Nat.add_comm 1]
theorem rdW_own (f t s l : Nat) (hF : Fits f t s l) (h : Ok f t s l) : rdW (wenc f t s l) = (f, t, s, l, 0) := by
  obtain ⟨hf, ht, hs, hl⟩ := hF
  have e1 : rdNumber (wenc f t s l) 0 0 = (f, (Oct.enc f).length, 0) := by
    have := rd_own f hf [] (Oct.enc t ++ (Oct.enc s ++ Oct.enc l))
    simpa [wenc] using this
  have e2 : rdNumber (wenc f t s l) (Oct.enc f).length 0 = (t, (Oct.enc f).length + (Oct.enc t).length, 0) := by
    have := rd_own t ht (Oct.enc f) (Oct.enc s ++ Oct.enc l)
    simpa [wenc] using this
  have e3 : rdNumber (wenc f t s l) ((Oct.enc f).length + (Oct.enc t).length) 0 = (s, (Oct.enc f).length + (Oct.enc t).length + (Oct.enc s).length, 0) := by
    have := rd_own s hs (Oct.enc f ++ Oct.enc t) (Oct.enc l)
    rw [List.length_append] at this
    simpa [wenc] using this
  have e4 : rdNumber (wenc f t s l) ((Oct.enc f).length + (Oct.enc t).length + (Oct.enc s).length) 0 = (l, (Oct.enc f).length + (Oct.enc t).length + (Oct.enc s).length + (Oct.enc l).length, 0) := by
    have := rd_own l hl (Oct.enc f ++ Oct.enc t ++ Oct.enc s) []
    rw [List.length_append, List.length_append] at this
    simpa [wenc] using this
  refine rdW_yes e1 e2 e3 e4 ?_ h
  unfold rdEnd
  rw [if_neg]
  rintro ⟨_, hlt⟩
  unfold wenc at hlt
  rw [List.length_append, List.length_append, List.length_append] at hlt
  omega
theorem rdW_cases (b : List UInt8) : (∃ x y z u, rdW b = (x, y, z, u, 0)) ∨ rdW b = (0, 0, 0, 0, 4) := by
  obtain ⟨x', y', z', u', a1, a2, a3, a4, e1, e2, e3, e4, h1, h2, h3, h4⟩ := rdW_full b
  rw [rdW_eq h1 h2 h3 h4]
  by_cases hk : rdEnd b a4 e4 = 0 ∧ Ok x' y' z' u'
  · rw [rdPick_ok hk]; exact .inl ⟨_, _, _, _, rfl⟩
  · rw [rdPick_no hk]; exact .inr rfl
end Go.Proofs.Ytnpmlbpnlflkkaa.Win
