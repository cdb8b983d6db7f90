/- lease: the reference's bytes. -/
import Derived.Test.YtndpobibjgcefaaLeaRef
import Derived.Test.YtndpobibjgcefaaRefRead
import Derived.Test.YtndpobibjgcefaaOctRefNum
namespace Go.Proofs.Ytndpobibjgcefaa.Lea
open Go.RowKit
theorem Rr_other {w : World} {g k j : Nat} {l : List UInt8} {e : Nat} {x : Value} (h : Ref.Rr w g l e) (hk : g < k) : Ref.Rr (w.setCell ⟨k, j, none⟩ x) g l e := by
  obtain ⟨v, h1, h2, h3⟩ := h
  exact ⟨v, h1.other _ _ (by dsimp only; omega), h2.setCell (by dsimp only; omega) _, h3⟩
theorem RBytes_no (n l : Nat) (w : World) (hl : l < 2 ^ 64) (h : ¬ Ok n l) : Calls Try.prog 18 #[cv n l] w fun e w' => e = .returned (.tuple #[.slice none 0 0, .int .i64 2]) ∧ Below w.heap.size w w' := by
  have H := Lib.hid h
  have HL := Lib.hid hl
  clear h hl
  go_enter Try.func18, Try.ntmps18
  go_wp2_with (go_at_call 27; refine (RCheck_no _ _ _ HL.out H.out).mono ?_; rintro e w' ⟨rfl, rfl⟩)
  go_ret2
  exact ⟨rfl, (by repeat (first | exact Below.refl _ _ | refine Below.alloc ?_ (by simp <;> omega) _))⟩
theorem RBytes_ok (n l : Nat) (w : World) (h : Ok n l) : Calls Try.prog 18 #[cv n l] w fun e w' => ∃ v, e = .returned (.tuple #[v, .int .i64 0]) ∧ Own w' w.heap.size v (Oct.enc n ++ Oct.enc l) ∧ Below w.heap.size w w' := by
  have H := Lib.hid h
  obtain ⟨h1, h2, h3⟩ := h
  have Hn := Lib.hid (show n < 2 ^ 64 by omega)
  have Hl := Lib.hid (show l < 2 ^ 64 by omega)
  have Hle := Lib.hid (show (Oct.enc n).length ≤ 105553116266496 by rw [Oct.enc_length]; have := (Oct.nsize_spec n Hn.out).1; omega)
  clear h1 h2 h3
  go_enter Try.func18, Try.ntmps18
  go_wp2_with fail
  refine (RCheck_ok _ _ _ H.out).mono ?_
  rintro e w' ⟨rfl, rfl⟩
  go_wp2_with fail
  obtain ⟨V, hV⟩ : ∃ V, co (w.alloc (.cells #[.int .u64 (n : Int), .int .u64 (l : Int)] 24)) n l = V := ⟨_, rfl⟩
  rw [hV]
  have RV := Lib.hid (show Row V w.heap.size (cl n l) 24 by rw [← hV]; exact (Row.new rfl rfl).alloc _)
  have HBV := Lib.hid (show Below w.heap.size w V by rw [← hV]; exact ((Below.refl _ w).alloc (Nat.le_refl _) _).alloc (by simp <;> omega) _)
  have hwV : w.heap.size ≤ V.heap.size := HBV.out.size
  clear hV
  refine Tail.marksAt mixed 5 Grew [By.is (.pointer (some ⟨w.heap.size, 0, none⟩)),
    By.is (.int .u64 (n : Int)),
    ownM V.heap.size (Oct.enc n),
    By.is (.pointer (some ⟨w.heap.size, 1, none⟩)),
    By.is (.int .u64 (l : Int))]
    (Ev.masks _ []) (Nat.zero_lt_succ _) (by kernel_rfl) (by kernel_rfl) rfl Grew.refl Grew.trans ⟨?_, ?_, ?_, ?_, ?_, trivial⟩ ?_
  · intro a w ht hs hg -- 7
    have h1 := By.same_get hs 1 (by decide) (by kernel_rfl)
    refine By.yes rfl ?_
    clear hs hg
    go_simp
    exact ⟨_, rfl, Grew.refl _, rfl⟩
  · intro a w ht hs hg -- 8
    have h7 : a.tmps.getD 7 undef = _ := By.given_get hg 0 rfl rfl (by kernel_rfl)
    refine By.yes rfl ?_
    clear hs hg
    have hc := cells0 (Row.below (w := V.drew) RV.out ht RV.out.lt)
    go_simp
    exact ⟨_, rfl, Grew.refl _, rfl⟩
  · intro a w ht hs hg -- 9
    have h8 : a.tmps.getD 8 undef = _ := By.given_get hg 1 rfl rfl (by kernel_rfl)
    refine By.yes rfl ?_
    clear hs hg
    have hs : V.heap.size ≤ w.heap.size := ht.size
    go_simp
    refine (Ref.Number_any _ [] n w.heap.size w (Own.nil _ _) Hn.out (by simp) (Nat.le_refl _)).mono ?_
    rintro e w' ⟨v, rfl, ho, hb⟩
    exact ⟨_, rfl, hb, show Own w' V.heap.size v (Oct.enc n) by simpa using ho.less hs⟩
  · intro a w ht hs hg -- 10
    have h1 := By.same_get hs 1 (by decide) (by kernel_rfl)
    refine By.yes rfl ?_
    clear hs hg
    go_simp
    exact ⟨_, rfl, Grew.refl _, rfl⟩
  · intro a w ht hs hg -- 11
    have h10 : a.tmps.getD 10 undef = _ := By.given_get hg 3 rfl rfl (by kernel_rfl)
    refine By.yes rfl ?_
    clear hs hg
    have hc := cells1 (Row.below (w := V.drew) RV.out ht RV.out.lt)
    go_simp
    exact ⟨_, rfl, Grew.refl _, rfl⟩
  refine By.ends_is (By.ends_is (By.ends_any fun v9 => (By.ends_is (By.ends_is (By.ends_nil fun w8 hw8 => ?_)))))
  simp only [Act.put, List.setIfInBounds_toArray, List.set_cons_succ, List.set_cons_zero]
  simp only [List.drop_succ_cons, List.drop_zero]
  obtain ⟨hgr, ho⟩ := hw8
  have hV8 : V.heap.size ≤ w8.heap.size := hgr.size
  have HG := Lib.hid (nextB HBV.out (Nat.le_refl _) (show Below V.heap.size V w8 from ⟨hgr.os, hgr.tape, hgr.output, hgr.size, hgr.block⟩))
  have HO := Lib.hid ho
  clear hgr ho
  go_wp2_with fail
  refine (Ref.Number_any _ (Oct.enc n) l V.heap.size w8 HO.out Hl.out Hle.out hV8).mono ?_
  rintro e w9 ⟨v, rfl, ho9, hb9⟩
  have HO9 := Lib.hid ho9
  have HB9 := Lib.hid (HG.out.trans (hb9.mono hwV))
  clear ho9 hb9
  go_wp2
  go_ret2
  exact ⟨v, rfl, HO9.out.less hwV, HB9.out⟩

theorem RRead_any (v : Value) (b : List UInt8) (w : World) (hb : Bs w w.heap.size v b) (hl : b.length ≤ 35184372088832) :
    Calls Try.prog 21 #[v] w fun e w' => e = .returned (.tuple #[cv (rdC b).1 (rdC b).2.1, .int .i64 ((rdC b).2.2 : Nat)]) ∧ Below w.heap.size w w' := by
  have Hb := Lib.hid hb
  clear hb
  go_enter Try.func21, Try.ntmps21
  go_wp2_with fail
  have hb0 := (Below.refl w.heap.size w).alloc (Nat.le_refl _) (.cells #[.int .u64 0, .int .u64 0] 24)
  refine (Ref.RNew_any _ b _ ((Hb.out.below hb0).more hb0.size) hl).mono ?_
  rintro e w1 ⟨g, rfl, hg1, hr1, hb1⟩
  have HR1 := Lib.hid (show Ref.Rr w1 g (b.drop 0) 0 from hr1)
  have HB1 := Lib.hid (nextB hb0 (Nat.le_refl _) hb1)
  have hrow : Row w1 w.heap.size (cl 0 0) 24 := (Row.new (w := w) rfl rfl).below hb1 (by simp)
  have HW := Lib.hid hrow
  have hgw : w.heap.size < g := by simp at hg1; omega
  clear hr1 hb1 hb0 hrow hg1
  go_wp2_with fail
  refine (Ref.RNumber_any HR1.out).mono ?_
  obtain ⟨x, a1, e1, hrd⟩ : ∃ x a e, rdNumber b 0 0 = (x, a, e) := ⟨_, _, _, rfl⟩
  have Hrd := Lib.hid hrd
  have Hx := Lib.hid (show x < 2 ^ 64 by have := rdNumber_lt b 0 0; rw [hrd] at this; exact this)
  rw [hrd]
  rintro e w2 ⟨rfl, hr2, hgr2⟩
  have hg2 : g < w2.heap.size := hr2.lt
  have HR2 := Lib.hid (hr2.below ((Below.refl w2.heap.size w2).alloc (Nat.le_refl _) (.cells #[.int .u64 (x : Int), .int .u64 0] 24)) hg2)
  have HB2 := Lib.hid (HB1.out.grown hgr2 HB1.out.size (fun k hk => by injection hk with hk; omega))
  have HW2 := Lib.hid (Row.grown' HW.out hgr2 (by omega))
  have hw2 : w.heap.size < w2.heap.size := HW2.out.lt
  clear hr2 hgr2 hrd
  go_wp2_with fail
  refine (Ref.RNumber_any HR2.out).mono ?_
  obtain ⟨y, a2, e2, hrd⟩ : ∃ x a e, rdNumber b a1 e1 = (x, a, e) := ⟨_, _, _, rfl⟩
  have Hrd2 := Lib.hid hrd
  have Hy := Lib.hid (show y < 2 ^ 64 by have := rdNumber_lt b a1 e1; rw [hrd] at this; exact this)
  rw [hrd]
  rintro e w3 ⟨rfl, hr3, hgr3⟩
  have HC3 := Lib.hid (Row.grown' (Row.new (cs := cl x 0) (t := 24) (w := w2) rfl rfl) hgr3 (by omega))
  have HR3 := Lib.hid hr3
  have HB3 := Lib.hid ((HB2.out.alloc (Nat.le_of_lt hw2) _).grown hgr3 (by simp <;> omega) (fun k hk => by injection hk with hk; omega))
  have HW3 := Lib.hid (Row.grown' (HW2.out.alloc _) hgr3 (by omega))
  have q0 := cells0 HC3.out
  have q1 := cells1 HC3.out
  have q3 := frozen_row HC3.out 1
  clear hr3 hgr3 hrd
  obtain ⟨E, hE⟩ : ∃ E, rdEnd b a2 e2 = E := ⟨_, rfl⟩
  have HE := Lib.hid hE
  go_wp2_with fail
  refine (Ref.REnd_any (b := b) (a := a2) (e := e2) (Rr_other HR3.out hg2)).mono ?_
  rw [hE]
  rintro e w4 ⟨rfl, hgr4⟩
  have hw03 : w.heap.size < w3.heap.size := HW3.out.lt
  have HC4 := Lib.hid (Row.grown' (show Row (w3.setCell ⟨w2.heap.size, 1, none⟩ (.int .u64 (y : Int))) w2.heap.size (cl x y) 24 from HC3.out.set 1 _) hgr4 (by omega))
  have HW4 := Lib.hid (Row.grown' (HW3.out.other ⟨w2.heap.size, 1, none⟩ (.int .u64 (y : Int)) (by dsimp only; omega)) hgr4 (by omega))
  have HB4 := Lib.hid ((show Below w.heap.size w (w3.setCell ⟨w2.heap.size, 1, none⟩ (.int .u64 (y : Int))) from HB3.out.setCell (by dsimp only; omega) _).grown hgr4 (by simp <;> omega) (fun k hk => by injection hk with hk; omega))
  clear hgr4 q0 q1 q3
  have z0 := cells0 HW4.out
  have z1 := cells1 HW4.out
  have z2 := frozen_row HW4.out 0
  have z3 := frozen_row HW4.out 1
  have k0 := cells0 HC4.out
  have k1 := cells1 HC4.out
  have hw4 : w.heap.size < w4.heap.size := HW4.out.lt
  have HCM := Lib.hid (show rdC b = if E = 0 ∧ 1 ≤ x ∧ x ≤ y + 1 ∧ y ≤ 1152921504606846976 then (x, y, 0) else (0, 0, 4) by unfold rdC; simp only [Hrd.out, Hrd2.out, HE.out])
  by_cases hE0 : E = 0
  · have hE1 : ((E : Int) != 0) = false := by subst hE0; rfl
    have m0 : ∀ o, (w4.alloc o).cell? ⟨w.heap.size, 0, none⟩ = _ := fun o => cells0 (HW4.out.alloc o)
    have m1 : ∀ o, (w4.alloc o).cell? ⟨w.heap.size, 1, none⟩ = _ := fun o => cells1 (HW4.out.alloc o)
    have m2 : ∀ o, (w4.alloc o).frozen? ⟨w.heap.size, 0, none⟩ = false := fun o => frozen_row (HW4.out.alloc o) 0
    have m3 : ∀ o, (w4.alloc o).frozen? ⟨w.heap.size, 1, none⟩ = false := fun o => frozen_row (HW4.out.alloc o) 1
    have n0 : ∀ o, (w4.alloc o).cell? ⟨w2.heap.size, 0, none⟩ = _ := fun o => cells0 (HC4.out.alloc o)
    have n1 : ∀ o, (w4.alloc o).cell? ⟨w2.heap.size, 1, none⟩ = _ := fun o => cells1 (HC4.out.alloc o)
    by_cases hok : Ok x y
    · have HOK := Lib.hid hok
      have HCN := Lib.hid (show rdC b = (x, y, 0) by rw [HCM.out, if_pos ⟨hE0, hok⟩])
      clear hok hE0 hE
      go_wp2_with fail
      refine (RCheck_ok x y _ HOK.out).mono ?_
      rintro e w' ⟨rfl, rfl⟩
      go_wp2_with fail
      refine bodyPost_ret (results_ct (cs := cl x y) rfl rfl (((HW4.out.set 0 (.int .u64 (x : Int))).set 1 (.int .u64 (y : Int))).alloc _) Try.underlying24 rfl (by kernel_rfl) rfl) rfl ?_
      rw [HCN.out]
      exact ⟨rfl, (((HB4.out.setCell (Nat.le_refl _) _).setCell (Nat.le_refl _) _).alloc (by simp <;> omega) _)⟩
    · have HOK := Lib.hid hok
      have HCN := Lib.hid (show rdC b = (0, 0, 4) by rw [HCM.out, if_neg (fun h => hok h.2)])
      clear hok hE0 hE
      go_wp2_with fail
      refine (RCheck_no x y _ Hy.out HOK.out).mono ?_
      rintro e w' ⟨rfl, rfl⟩
      go_wp2_with fail
      refine bodyPost_ret (results_ct (cs := cl 0 0) rfl rfl (((HW4.out.set 0 (.int .u64 0)).set 1 (.int .u64 0)).alloc _) Try.underlying24 rfl (by kernel_rfl) rfl) rfl ?_
      rw [HCN.out]
      exact ⟨rfl, (((HB4.out.setCell (Nat.le_refl _) _).setCell (Nat.le_refl _) _).alloc (by simp <;> omega) _)⟩
  · have hE1 : ((E : Int) != 0) = true := by rw [bne_iff_ne]; omega
    have HCN := Lib.hid (show rdC b = (0, 0, 4) by rw [HCM.out, if_neg (fun h => hE0 h.1)])
    clear hE0 hE
    go_wp2_with fail
    refine bodyPost_ret (results_ct (cs := cl 0 0) rfl rfl ((HW4.out.set 0 (.int .u64 0)).set 1 (.int .u64 0)) Try.underlying24 rfl (by kernel_rfl) rfl) rfl ?_
    rw [HCN.out]
    exact ⟨rfl, ((HB4.out.setCell (Nat.le_refl _) _).setCell (Nat.le_refl _) _)⟩
end Go.Proofs.Ytndpobibjgcefaa.Lea
