/- The tag of a mac. -/
import Derived.Test.YtpllbnioncjhaaaPolCalls
namespace Go.Proofs.Ytpllbnioncjhaaa
open Go.RowKit
namespace Pol
open Poly (L)
/-- The sum with what is left of the bytes. -/
def fin (r sum : L) (rest : List UInt8) (size : Nat) : L := if 0 < size % 16 then Poly.next sum r (Poly.le (rest.take (size % 16)) + 256 ^ (size % 16)) else sum

theorem lc_one (a : L) : ∀ v ∈ lc a, v.oneCell' = true := by
  intro v hv
  simp only [lc, List.mem_cons, List.not_mem_nil, or_false] at hv
  rcases hv with rfl | rfl | rfl | rfl | rfl <;> rfl
theorem bytes1 (l : List UInt8) : ∀ v ∈ l.map bv, v.oneCell' = true := by
  intro v hv
  rw [List.mem_map] at hv
  obtain ⟨u, _, rfl⟩ := hv
  rfl
/-- A row that the region makes. -/
def rowM (B : Nat) (cs : List Value) (t : TypeId) : By.Mark Grew := ⟨fun v w => ∃ q, v = .pointer (some ⟨q, 0, none⟩) ∧ B ≤ q ∧ Row w q cs t, fun _ _ _ ⟨q, h1, h2, h3⟩ k => ⟨q, h1, h2, h3.below k h3.lt⟩⟩
theorem rem16 (n : Nat) : ((n : Int).tmod 16) = ((n % 16 : Nat) : Int) := by rw [Int.tmod_eq_emod_of_nonneg (by omega)]; omega
set_option maxRecDepth 8000 in
set_option maxHeartbeats 1000000 in
theorem MTag_some {w : World} {g : Nat} {r s sum : L} {rest : List UInt8} {size : Nat} (hrest : rest.length = 16) (hsum : Poly.Loose sum) (hr : Poly.Fit r) (hs : Poly.Fit s) (hsz : size < 4611686018427387904) (h : Row w g (macCells r s sum rest size) 73) (h0 : 0 < size % 16) :
    Calls Try.prog 34 #[.pointer (some ⟨g, 0, none⟩)] w fun e w1 => e = .returned (arr8 (Poly.bytes16 (Poly.val (Poly.red (fin r sum rest size)) + Poly.val s))) ∧ Below w.heap.size w w1 := by
  have hg := h.lt
  have hl33 := macCells_length r s sum rest size hrest
  have hsize := (h.alloc (.cells ((List.replicate 16 (0 : UInt8)).map bv).toArray 35)).cell (mac_size r s sum rest size hrest)
  have h0' : (0 : Int) < (size : Int) % 16 := by omega
  have h1' : (size : Int) % 16 ≤ 16 := by omega
  have h2' : (0 : Int) ≤ (size : Int) % 16 := by omega
  have H := Lib.hid h
  have Hl := Lib.hid hl33
  have Hm := Lib.hid (mac_sum r s sum rest size)
  clear h hl33
  go_enter Try.func34, Try.ntmps34
  go_wp2_with (first
    | (go_at_call 48; refine (valid_any (H.out.alloc _)).mono ?_; rintro e w' ⟨rfl, rfl⟩)
    | (refine wpList_loadSub (n := 5) rfl 70 _ rfl rfl (H.out.alloc _) Try.underlying70 rfl (by kernel_rfl) (by rw [Hl.out]; decide) ?_; rw [Hm.out])
    | (refine wpList_storeRow (n := 5) rfl 70 _ _ rfl rfl rfl (cs := lc sum) (old := List.replicate 5 (.int .u64 0)) (Row.new (by simp) rfl) (by kernel_rfl) rfl (by simp) (lc_one sum) ?_
       obtain ⟨W, hW⟩ : ∃ W, ((w.alloc (.cells ((List.replicate 16 (0 : UInt8)).map bv).toArray 35)).alloc (.cells (List.replicate 5 (.int .u64 0)).toArray 70)).setRow (w.heap.size + 1) (lc sum).toArray = W := ⟨_, rfl⟩
       have hWm : Row W g (macCells r s sum rest size) 73 := hW ▸ ((H.out.alloc _).alloc _).setOther _ _ (by omega)
       have hW2 : Row W w.heap.size ((List.replicate 16 (0 : UInt8)).map bv) 35 := hW ▸ ((Row.new rfl rfl).alloc _).setOther _ _ (by omega)
       have hW3 : Row W (w.heap.size + 1) (lc sum) 70 := hW ▸ (Row.new (cs := List.replicate 5 (.int .u64 0)) (by simp) rfl).setRow (lc sum)
       have hWb : Below w.heap.size w W := hW ▸ below_setRow (((Below.refl _ w).alloc (Nat.le_refl _) _).alloc (by simp) _) (by omega) _
       have hWs : W.heap.size = w.heap.size + 2 := by rw [← hW]; simp
       clear hsize
       have hsize := hWm.cell (mac_size r s sum rest size hrest)
       refine wpList_world hW ?_
       clear hW
       have HWm := Lib.hid hWm
       have HW2 := Lib.hid hW2
       have HW3 := Lib.hid hW3
       clear hWm hW2 hW3)
    | fail)
  have hLt : (rest.take (size % 16)).length = size % 16 := by rw [List.length_take]; omega
  have HLt := Lib.hid hLt
  have hbs : ∀ w', Grew W.drew w' → Bs w' w'.heap.size (.slice (some ⟨g, 16, none⟩) (size % 16) 16) (rest.take (size % 16)) := by
    intro w' hw'
    refine ⟨_, 16, by rw [hLt], by rw [hLt]; omega, fun _ => ⟨g, 16, rfl, by have := hw'.size; have : W.heap.size ≤ w'.heap.size := this; omega, fun i u hu => ?_⟩⟩
    rw [List.getElem?_take] at hu
    split at hu
    · exact (Row.below (w := W.drew) HWm.out hw' (show g < W.heap.size by omega)).cell (mac_rest r s sum rest size i u hu)
    · cases hu
  have HBs := Lib.hid hbs
  clear hLt hbs
  refine Tail.marksAt mixed 11 Grew [By.is (lv sum),
    By.is (.pointer (some ⟨g, 0, none⟩)),
    By.is (.pointer (some ⟨g, 0, none⟩)),
    By.is (.pointer (some ⟨g, 1, none⟩)),
    By.is (lv r),
    By.is (.pointer (some ⟨g, 0, none⟩)),
    By.is (.pointer (some ⟨g, 0, none⟩)),
    By.is (.pointer (some ⟨g, 16, none⟩)),
    By.is (.int .i64 ((size : Int) % 16)),
    By.is (.slice (some ⟨g, 16, none⟩) (size % 16) 16),
    By.is (lv (Poly.next sum r (Poly.le (rest.take (size % 16)) + 256 ^ (size % 16))))]
    (Ev.masks _ []) (Nat.zero_lt_succ _) (by kernel_rfl) (by kernel_rfl) rfl Grew.refl Grew.trans ⟨?_, ?_, ?_, ?_, ?_, ?_, ?_, ?_, ?_, ?_, ?_, trivial⟩ ?_
  · intro a w ht hs hg -- 22
    have h3 := By.same_get hs 3 (by decide) (by kernel_rfl)
    refine By.yes rfl ?_
    clear hs hg
    refine wp_loadRow 70 _ rfl h3 (Row.below (w := W.drew) HW3.out ht HW3.out.lt) Try.underlying70 rfl (by kernel_rfl) rfl ?_
    exact ⟨_, rfl, Grew.refl _, rfl⟩
  · intro a w ht hs hg -- 23
    have h0 := By.same_get hs 0 (by decide) (by kernel_rfl)
    refine By.yes rfl ?_
    clear hs hg
    go_simp
    exact ⟨_, rfl, Grew.refl _, rfl⟩
  · intro a w ht hs hg -- 24
    have h23 : a.tmps.getD 23 undef = _ := By.given_get hg 1 rfl rfl (by kernel_rfl)
    refine By.yes rfl ?_
    clear hs hg
    go_simp
    exact ⟨_, rfl, Grew.refl _, rfl⟩
  · intro a w ht hs hg -- 25
    have h24 : a.tmps.getD 24 undef = _ := By.given_get hg 2 rfl rfl (by kernel_rfl)
    refine By.yes rfl ?_
    clear hs hg
    go_simp
    exact ⟨_, rfl, Grew.refl _, rfl⟩
  · intro a w ht hs hg -- 26
    have h25 : a.tmps.getD 25 undef = _ := By.given_get hg 3 rfl rfl (by kernel_rfl)
    refine By.yes rfl ?_
    clear hs hg
    refine wp_loadSub (n := 5) 70 _ rfl h25 (Row.below (w := W.drew) HWm.out ht HWm.out.lt) Try.underlying70 rfl (by kernel_rfl) (by rw [Hl.out]; decide) ?_
    rw [mac_r]
    exact ⟨_, rfl, Grew.refl _, rfl⟩
  · intro a w ht hs hg -- 27
    have h0 := By.same_get hs 0 (by decide) (by kernel_rfl)
    refine By.yes rfl ?_
    clear hs hg
    go_simp
    exact ⟨_, rfl, Grew.refl _, rfl⟩
  · intro a w ht hs hg -- 28
    have h27 : a.tmps.getD 27 undef = _ := By.given_get hg 5 rfl rfl (by kernel_rfl)
    refine By.yes rfl ?_
    clear hs hg
    go_simp
    exact ⟨_, rfl, Grew.refl _, rfl⟩
  · intro a w ht hs hg -- 29
    have h28 : a.tmps.getD 28 undef = _ := By.given_get hg 6 rfl rfl (by kernel_rfl)
    refine By.yes rfl ?_
    clear hs hg
    go_simp
    exact ⟨_, rfl, Grew.refl _, rfl⟩
  · intro a w ht hs hg -- 30
    have h4 := By.same_get hs 4 (by decide) (by kernel_rfl)
    refine By.yes rfl ?_
    clear hs hg
    go_simp
    exact ⟨_, rfl, Grew.refl _, rfl⟩
  · intro a w ht hs hg -- 31
    have h29 : a.tmps.getD 29 undef = _ := By.given_get hg 7 rfl rfl (by kernel_rfl)
    have h30 : a.tmps.getD 30 undef = _ := By.given_get hg 8 rfl rfl (by kernel_rfl)
    refine By.yes rfl ?_
    clear hs hg
    go_simp
    exact ⟨_, rfl, Grew.refl _, rfl⟩
  · intro a w ht hs hg -- 32
    have h22 : a.tmps.getD 22 undef = _ := By.given_get hg 0 rfl rfl (by kernel_rfl)
    have h26 : a.tmps.getD 26 undef = _ := By.given_get hg 4 rfl rfl (by kernel_rfl)
    have h31 : a.tmps.getD 31 undef = _ := By.given_get hg 9 rfl rfl (by kernel_rfl)
    refine By.yes rfl ?_
    clear hs hg
    have hb := HBs.out w ht
    go_simp
    refine (next_any hsum hr _ (rest.take (size % 16)) (by rw [HLt.out]; exact h0) (by rw [HLt.out]; omega) w hb).mono ?_
    rintro e w' ⟨rfl, hb2⟩
    rw [HLt.out]
    exact ⟨_, rfl, hb2, rfl⟩
  refine By.ends_is (By.ends_is (By.ends_is (By.ends_is (By.ends_is (By.ends_is (By.ends_is (By.ends_is (By.ends_is (By.ends_is (By.ends_is (By.ends_nil fun w9 hw9 => ?_)))))))))))
  simp only [Act.put, List.setIfInBounds_toArray, List.set_cons_succ, List.set_cons_zero]
  simp only [List.drop_succ_cons, List.drop_zero]

  have hX0 := Poly.next_loose hsum hr (PolyI.blk_lt (rest.take (size % 16)) (by rw [HLt.out]; omega))
  have hXf : fin r sum rest size = Poly.next sum r (Poly.le (rest.take (size % 16)) + 256 ^ (size % 16)) := by unfold fin; rw [if_pos h0]
  rw [HLt.out] at hX0
  obtain ⟨X, hX1⟩ : ∃ X, Poly.next sum r (Poly.le (rest.take (size % 16)) + 256 ^ (size % 16)) = X := ⟨_, rfl⟩
  rw [hX1] at hX0 ⊢
  have hX : Poly.Loose X := hX0
  have HXf := Lib.hid (hXf.trans hX1)
  clear hX0 hXf hX1
  have hM9 := Row.below (w := W.drew) HWm.out hw9 HWm.out.lt
  have hR9 := Row.below (w := W.drew) HW2.out hw9 HW2.out.lt
  have hX9 := Row.below (w := W.drew) HW3.out hw9 HW3.out.lt
  have hb9 := nextB hWb (by have := hWb.size; omega) (show Below W.heap.size W w9 from ⟨hw9.os, hw9.tape, hw9.output, hw9.size, hw9.block⟩)
  go_wp2_with (first
    | (refine wpList_storeRow (n := 5) rfl 70 _ _ rfl rfl rfl (cs := lc X) (old := lc sum) hX9 (by kernel_rfl) rfl rfl (lc_one X) ?_
       have HM := Lib.hid (hM9.setOther (w.heap.size + 1) (lc X).toArray (by omega))
       have HR := Lib.hid (hR9.setOther (w.heap.size + 1) (lc X).toArray (by omega))
       have HX := Lib.hid (hX9.setRow (lc X))
       have HBel := Lib.hid (below_setRow hb9 (Nat.le_succ _) (lc X).toArray)
       obtain ⟨V6, hV6⟩ : ∃ V6, w9.setRow (w.heap.size + 1) (lc X).toArray = V6 := ⟨_, rfl⟩
       rw [hV6] at HM HR HX HBel ⊢
       clear hV6 hM9 hR9 hX9 hb9)
    | fail)
  have HB := Lib.hid (show V6.heap.size ≤ V6.drew.heap.size from Nat.le_refl _)
  have hp3 := Poly.plus_sum3 (Poly.Fit.loose (Poly.red_val hX).2) hs
  have hpw : Poly.Wide (Poly.plus (Poly.red X) s) := by obtain ⟨q0, q1, q2, q3, q4⟩ := hp3; exact ⟨by omega, by omega, by omega, by omega, by omega⟩
  have Hp3 := Lib.hid hp3
  have Hpw := Lib.hid hpw
  clear hp3 hpw
  refine Tail.marksF mixed 12 10 43 Grew [By.is (lv X),
    By.is (lv (Poly.red X)),
    By.is (.pointer (some ⟨g, 0, none⟩)),
    By.is (.pointer (some ⟨g, 0, none⟩)),
    By.is (.pointer (some ⟨g, 6, none⟩)),
    By.is (lv s),
    By.is (lv (Poly.plus (Poly.red X) s)),
    By.is (.tuple #[lv (Poly.carry (Poly.plus (Poly.red X) s)).1, .int .u64 ((Poly.carry (Poly.plus (Poly.red X) s)).2 : Int)]),
    By.is (.tuple #[lv (Poly.carry (Poly.plus (Poly.red X) s)).1, .int .u64 ((Poly.carry (Poly.plus (Poly.red X) s)).2 : Int)]),
    By.is (lv (Poly.carry (Poly.plus (Poly.red X) s)).1),
    By.is (.int .u64 ((Poly.carry (Poly.plus (Poly.red X) s)).2 : Int)),
    rowM V6.heap.size (List.replicate 5 (.int .u64 0)) 70]
    (Ev.masks _ []) (Nat.zero_lt_succ _) rfl (by kernel_rfl) (by kernel_rfl) rfl Grew.refl Grew.trans ⟨?_, ?_, ?_, ?_, ?_, ?_, ?_, ?_, ?_, ?_, ?_, ?_, trivial⟩ [_, _, _] (by rfl) ?_ ?_
  · intro a w ht hs hg -- 34
    have h3 := By.same_get hs 3 (by decide) (by kernel_rfl)
    refine By.yes rfl ?_
    clear hs hg
    refine wp_loadRow 70 _ rfl h3 (Row.below (w := V6.drew) HX.out ht HX.out.lt) Try.underlying70 rfl (by kernel_rfl) rfl ?_
    exact ⟨_, rfl, Grew.refl _, rfl⟩
  · intro a w ht hs hg -- 35
    have h34 : a.tmps.getD 34 undef = _ := By.given_get hg 0 rfl rfl (by kernel_rfl)
    refine By.yes rfl ?_
    clear hs hg
    go_simp
    refine (reduce_any hX w).mono ?_
    rintro e w' ⟨rfl, hb2⟩
    exact ⟨_, rfl, hb2, rfl⟩
  · intro a w ht hs hg -- 36
    have h0 := By.same_get hs 0 (by decide) (by kernel_rfl)
    refine By.yes rfl ?_
    clear hs hg
    go_simp
    exact ⟨_, rfl, Grew.refl _, rfl⟩
  · intro a w ht hs hg -- 37
    have h36 : a.tmps.getD 36 undef = _ := By.given_get hg 2 rfl rfl (by kernel_rfl)
    refine By.yes rfl ?_
    clear hs hg
    go_simp
    exact ⟨_, rfl, Grew.refl _, rfl⟩
  · intro a w ht hs hg -- 38
    have h37 : a.tmps.getD 37 undef = _ := By.given_get hg 3 rfl rfl (by kernel_rfl)
    refine By.yes rfl ?_
    clear hs hg
    go_simp
    exact ⟨_, rfl, Grew.refl _, rfl⟩
  · intro a w ht hs hg -- 39
    have h38 : a.tmps.getD 38 undef = _ := By.given_get hg 4 rfl rfl (by kernel_rfl)
    refine By.yes rfl ?_
    clear hs hg
    refine wp_loadSub (n := 5) 70 _ rfl h38 (Row.below (w := V6.drew) HM.out ht HM.out.lt) Try.underlying70 rfl (by kernel_rfl) (by rw [Hl.out]; decide) ?_
    rw [mac_s]
    exact ⟨_, rfl, Grew.refl _, rfl⟩
  · intro a w ht hs hg -- 40
    have h35 : a.tmps.getD 35 undef = _ := By.given_get hg 1 rfl rfl (by kernel_rfl)
    have h39 : a.tmps.getD 39 undef = _ := By.given_get hg 5 rfl rfl (by kernel_rfl)
    refine By.yes rfl ?_
    clear hs hg
    go_simp
    refine (plus_any Hp3.out w).mono ?_
    rintro e w' ⟨rfl, hb2⟩
    exact ⟨_, rfl, hb2, rfl⟩
  · intro a w ht hs hg -- 41
    have h40 : a.tmps.getD 40 undef = _ := By.given_get hg 6 rfl rfl (by kernel_rfl)
    refine By.yes rfl ?_
    clear hs hg
    go_simp
    refine (carry_any Hpw.out w).mono ?_
    rintro e w' ⟨rfl, hb2⟩
    exact ⟨_, rfl, hb2, rfl⟩
  · intro a w ht hs hg -- 33
    have h41 : a.tmps.getD 41 undef = _ := By.given_get hg 7 rfl rfl (by kernel_rfl)
    refine By.yes rfl ?_
    clear hs hg
    go_simp
    exact ⟨_, rfl, Grew.refl _, rfl⟩
  · intro a w ht hs hg -- 42
    have h33 : a.tmps.getD 33 undef = _ := By.given_get hg 8 rfl rfl (by kernel_rfl)
    refine By.yes rfl ?_
    clear hs hg
    go_simp
    exact ⟨_, rfl, Grew.refl _, rfl⟩
  · intro a w ht hs hg -- 43
    have h33 : a.tmps.getD 33 undef = _ := By.given_get hg 8 rfl rfl (by kernel_rfl)
    refine By.yes rfl ?_
    clear hs hg
    go_simp
    exact ⟨_, rfl, Grew.refl _, rfl⟩
  · intro a w ht hs hg -- 5
    refine By.yes rfl ?_
    clear hs hg
    have hsz := Below.size ht
    go_simp
    exact ⟨_, rfl, (Below.refl _ w).alloc (Nat.le_refl _) _, w.heap.size, rfl, Nat.le_trans HB.out hsz, Row.new rfl rfl⟩
  · refine By.ends_is (By.ends_is (By.ends_is (By.ends_is (By.ends_is (By.ends_is (By.ends_is (By.ends_is (By.ends_is (By.ends_is (By.ends_is (By.ends_any fun v5 => (By.ends_nil fun w8 hw8 => ?_))))))))))))
    simp only [Act.put, List.setIfInBounds_toArray, List.set_cons_succ, List.set_cons_zero]
    simp only [List.drop_succ_cons, List.drop_zero]
    obtain ⟨hgr, q, rfl, hBq, hq⟩ := hw8
    have hM8 := Row.below (w := V6.drew) HM.out hgr HM.out.lt
    have hR8 := Row.below (w := V6.drew) HR.out hgr HR.out.lt
    have hbel := nextB HBel.out (Nat.le_refl _) (show Below V6.heap.size V6 w8 from ⟨hgr.os, hgr.tape, hgr.output, hgr.size, hgr.block⟩)
    have hqne : w.heap.size ≠ q := by have := HR.out.lt; omega
    have Hq := Lib.hid hq
    have HR8 := Lib.hid hR8
    have Hbel := Lib.hid hbel
    have hw0q : w.heap.size ≤ q := by have := HBel.out.size; omega
    obtain ⟨C, hC⟩ : ∃ C, (Poly.carry (Poly.plus (Poly.red X) s)).1 = C := ⟨_, rfl⟩
    have hCf : Poly.Fit C := hC ▸ Poly.carry_fit _
    have hCv : Poly.bytes16 (Poly.val C) = Poly.bytes16 (Poly.val (Poly.red X) + Poly.val s) := by
      have := Poly.carry_val (Poly.plus (Poly.red X) s)
      rw [Poly.plus_val, hC] at this
      refine Poly.bytes16_inj ?_
      rw [← this]
      omega
    have HCf := Lib.hid hCf
    have HCv := Lib.hid hCv
    rw [hC]
    clear hC hCf hCv hq hM8 hR8 hbel hgr
    go_wp2_with (first
      | (refine wpList_storeRow (n := 5) rfl 70 _ _ rfl rfl rfl (cs := lc C) (old := List.replicate 5 (.int .u64 0)) Hq.out (by kernel_rfl) rfl (by simp) (lc_one C) ?_
         have hq2 := Lib.hid (Hq.out.setRow (lc C))
         have hr2 := Lib.hid (HR8.out.setOther q (lc C).toArray hqne)
         have hb2 := Lib.hid (below_setRow Hbel.out hw0q (lc C).toArray)
         obtain ⟨V, hV⟩ : ∃ V, w8.setRow q (lc C).toArray = V := ⟨_, rfl⟩
         rw [hV] at hq2 hr2 hb2 ⊢
         clear hV)
      | (refine wpList_loadRow rfl 70 _ rfl rfl hq2.out Try.underlying70 rfl (by kernel_rfl) rfl ?_)
      | (go_at_call 53; refine (bytes_any HCf.out V).mono ?_; rintro e w' ⟨rfl, hb3⟩; have hr3 := Lib.hid (hr2.out.below hb3 hr2.out.lt); have hb4 := Lib.hid (nextB hb2.out (Nat.le_refl _) hb3))
      | (refine wpList_storeRow (n := 16) rfl 35 _ _ rfl rfl rfl (cs := (Poly.bytes16 (Poly.val C)).map bv) (old := (List.replicate 16 (0 : UInt8)).map bv) hr3.out (by kernel_rfl) (by simp [Poly.bytes16_length]) (by simp) (bytes1 _) ?_)
      | fail)
    refine bodyPost_ret (results_row rfl _ rfl (hr3.out.setRow _) Try.underlying35 rfl (by kernel_rfl) (n := 16) (by simp [Poly.bytes16_length])) rfl ?_
    exact ⟨by rw [HXf.out, ← HCv.out]; rfl, below_setRow hb4.out (Nat.le_refl _) _⟩
  · refine By.ends_is (By.ends_is (By.ends_is (By.ends_is (By.ends_is (By.ends_is (By.ends_is (By.ends_is (By.ends_is (By.ends_is (By.ends_is (By.ends_any fun v5 => (By.ends_nil fun w8 hw8 => ?_))))))))))))
    simp only [Act.put, List.setIfInBounds_toArray, List.set_cons_succ, List.set_cons_zero]
    obtain ⟨hgr, q, rfl, hBq, hq⟩ := hw8
    have hM8 := Row.below (w := V6.drew) HM.out hgr HM.out.lt
    have hR8 := Row.below (w := V6.drew) HR.out hgr HR.out.lt
    have hbel := nextB HBel.out (Nat.le_refl _) (show Below V6.heap.size V6 w8 from ⟨hgr.os, hgr.tape, hgr.output, hgr.size, hgr.block⟩)
    have hqne : w.heap.size ≠ q := by have := HR.out.lt; omega
    have Hq := Lib.hid hq
    have HR8 := Lib.hid hR8
    have Hbel := Lib.hid hbel
    have hw0q : w.heap.size ≤ q := by have := HBel.out.size; omega
    obtain ⟨C, hC⟩ : ∃ C, (Poly.carry (Poly.plus (Poly.red X) s)).1 = C := ⟨_, rfl⟩
    have hCf : Poly.Fit C := hC ▸ Poly.carry_fit _
    have hCv : Poly.bytes16 (Poly.val C) = Poly.bytes16 (Poly.val (Poly.red X) + Poly.val s) := by
      have := Poly.carry_val (Poly.plus (Poly.red X) s)
      rw [Poly.plus_val, hC] at this
      refine Poly.bytes16_inj ?_
      rw [← this]
      omega
    have HCf := Lib.hid hCf
    have HCv := Lib.hid hCv
    rw [hC]
    clear hC hCf hCv hq hM8 hR8 hbel hgr
    go_wp2_with (first
      | (refine wpList_storeRow (n := 5) rfl 70 _ _ rfl rfl rfl (cs := lc C) (old := List.replicate 5 (.int .u64 0)) Hq.out (by kernel_rfl) rfl (by simp) (lc_one C) ?_
         have hq2 := Lib.hid (Hq.out.setRow (lc C))
         have hr2 := Lib.hid (HR8.out.setOther q (lc C).toArray hqne)
         have hb2 := Lib.hid (below_setRow Hbel.out hw0q (lc C).toArray)
         obtain ⟨V, hV⟩ : ∃ V, w8.setRow q (lc C).toArray = V := ⟨_, rfl⟩
         rw [hV] at hq2 hr2 hb2 ⊢
         clear hV)
      | (refine wpList_loadRow rfl 70 _ rfl rfl hq2.out Try.underlying70 rfl (by kernel_rfl) rfl ?_)
      | (go_at_call 53; refine (bytes_any HCf.out V).mono ?_; rintro e w' ⟨rfl, hb3⟩; have hr3 := Lib.hid (hr2.out.below hb3 hr2.out.lt); have hb4 := Lib.hid (nextB hb2.out (Nat.le_refl _) hb3))
      | (refine wpList_storeRow (n := 16) rfl 35 _ _ rfl rfl rfl (cs := (Poly.bytes16 (Poly.val C)).map bv) (old := (List.replicate 16 (0 : UInt8)).map bv) hr3.out (by kernel_rfl) (by simp [Poly.bytes16_length]) (by simp) (bytes1 _) ?_)
      | fail)
    refine bodyPost_ret (results_row rfl _ rfl (hr3.out.setRow _) Try.underlying35 rfl (by kernel_rfl) (n := 16) (by simp [Poly.bytes16_length])) rfl ?_
    exact ⟨by rw [HXf.out, ← HCv.out]; rfl, below_setRow hb4.out (Nat.le_refl _) _⟩

set_option maxRecDepth 8000 in
set_option maxHeartbeats 1000000 in
theorem MTag_zero {w : World} {g : Nat} {r s sum : L} {rest : List UInt8} {size : Nat} (hrest : rest.length = 16) (hsum : Poly.Loose sum) (hr : Poly.Fit r) (hs : Poly.Fit s) (hsz : size < 4611686018427387904) (h : Row w g (macCells r s sum rest size) 73) (h0 : size % 16 = 0) :
    Calls Try.prog 34 #[.pointer (some ⟨g, 0, none⟩)] w fun e w1 => e = .returned (arr8 (Poly.bytes16 (Poly.val (Poly.red (fin r sum rest size)) + Poly.val s))) ∧ Below w.heap.size w w1 := by
  have hg := h.lt
  have hl33 := macCells_length r s sum rest size hrest
  have hsize := (h.alloc (.cells ((List.replicate 16 (0 : UInt8)).map bv).toArray 35)).cell (mac_size r s sum rest size hrest)
  have h0' : (size : Int) % 16 = 0 := by omega
  have H := Lib.hid h
  have Hl := Lib.hid hl33
  have Hm := Lib.hid (mac_sum r s sum rest size)
  clear h hl33
  go_enter Try.func34, Try.ntmps34
  go_wp2_with (first
    | (go_at_call 48; refine (valid_any (H.out.alloc _)).mono ?_; rintro e w' ⟨rfl, rfl⟩)
    | (refine wpList_loadSub (n := 5) rfl 70 _ rfl rfl (H.out.alloc _) Try.underlying70 rfl (by kernel_rfl) (by rw [Hl.out]; decide) ?_; rw [Hm.out])
    | (refine wpList_storeRow (n := 5) rfl 70 _ _ rfl rfl rfl (cs := lc sum) (old := List.replicate 5 (.int .u64 0)) (Row.new (by simp) rfl) (by kernel_rfl) rfl (by simp) (lc_one sum) ?_
       obtain ⟨W, hW⟩ : ∃ W, ((w.alloc (.cells ((List.replicate 16 (0 : UInt8)).map bv).toArray 35)).alloc (.cells (List.replicate 5 (.int .u64 0)).toArray 70)).setRow (w.heap.size + 1) (lc sum).toArray = W := ⟨_, rfl⟩
       have hWm : Row W g (macCells r s sum rest size) 73 := hW ▸ ((H.out.alloc _).alloc _).setOther _ _ (by omega)
       have hW2 : Row W w.heap.size ((List.replicate 16 (0 : UInt8)).map bv) 35 := hW ▸ ((Row.new rfl rfl).alloc _).setOther _ _ (by omega)
       have hW3 : Row W (w.heap.size + 1) (lc sum) 70 := hW ▸ (Row.new (cs := List.replicate 5 (.int .u64 0)) (by simp) rfl).setRow (lc sum)
       have hWb : Below w.heap.size w W := hW ▸ below_setRow (((Below.refl _ w).alloc (Nat.le_refl _) _).alloc (by simp) _) (by omega) _
       have hWs : W.heap.size = w.heap.size + 2 := by rw [← hW]; simp
       clear hsize
       have hsize := hWm.cell (mac_size r s sum rest size hrest)
       refine wpList_world hW ?_
       clear hW
       have HWm := Lib.hid hWm
       have HW2 := Lib.hid hW2
       have HW3 := Lib.hid hW3
       clear hWm hW2 hW3)
    | fail)
  have hX : Poly.Loose sum := hsum
  have HXf := Lib.hid (show fin r sum rest size = sum by unfold fin; rw [if_neg (by omega)])
  have HM := Lib.hid HWm.out
  have HR := Lib.hid HW2.out
  have HX := Lib.hid HW3.out
  have HBel := Lib.hid hWb
  have HB := Lib.hid (show W.heap.size ≤ W.drew.heap.size from Nat.le_refl _)
  clear hWb hsum hWs
  have hp3 := Poly.plus_sum3 (Poly.Fit.loose (Poly.red_val hX).2) hs
  have hpw : Poly.Wide (Poly.plus (Poly.red sum) s) := by obtain ⟨q0, q1, q2, q3, q4⟩ := hp3; exact ⟨by omega, by omega, by omega, by omega, by omega⟩
  have Hp3 := Lib.hid hp3
  have Hpw := Lib.hid hpw
  clear hp3 hpw
  refine Tail.marksF mixed 12 10 43 Grew [By.is (lv sum),
    By.is (lv (Poly.red sum)),
    By.is (.pointer (some ⟨g, 0, none⟩)),
    By.is (.pointer (some ⟨g, 0, none⟩)),
    By.is (.pointer (some ⟨g, 6, none⟩)),
    By.is (lv s),
    By.is (lv (Poly.plus (Poly.red sum) s)),
    By.is (.tuple #[lv (Poly.carry (Poly.plus (Poly.red sum) s)).1, .int .u64 ((Poly.carry (Poly.plus (Poly.red sum) s)).2 : Int)]),
    By.is (.tuple #[lv (Poly.carry (Poly.plus (Poly.red sum) s)).1, .int .u64 ((Poly.carry (Poly.plus (Poly.red sum) s)).2 : Int)]),
    By.is (lv (Poly.carry (Poly.plus (Poly.red sum) s)).1),
    By.is (.int .u64 ((Poly.carry (Poly.plus (Poly.red sum) s)).2 : Int)),
    rowM W.heap.size (List.replicate 5 (.int .u64 0)) 70]
    (Ev.masks _ []) (Nat.zero_lt_succ _) rfl (by kernel_rfl) (by kernel_rfl) rfl Grew.refl Grew.trans ⟨?_, ?_, ?_, ?_, ?_, ?_, ?_, ?_, ?_, ?_, ?_, ?_, trivial⟩ [_, _, _] (by rfl) ?_ ?_
  · intro a w ht hs hg -- 34
    have h3 := By.same_get hs 3 (by decide) (by kernel_rfl)
    refine By.yes rfl ?_
    clear hs hg
    refine wp_loadRow 70 _ rfl h3 (Row.below (w := W.drew) HX.out ht HX.out.lt) Try.underlying70 rfl (by kernel_rfl) rfl ?_
    exact ⟨_, rfl, Grew.refl _, rfl⟩
  · intro a w ht hs hg -- 35
    have h34 : a.tmps.getD 34 undef = _ := By.given_get hg 0 rfl rfl (by kernel_rfl)
    refine By.yes rfl ?_
    clear hs hg
    go_simp
    refine (reduce_any hX w).mono ?_
    rintro e w' ⟨rfl, hb2⟩
    exact ⟨_, rfl, hb2, rfl⟩
  · intro a w ht hs hg -- 36
    have h0 := By.same_get hs 0 (by decide) (by kernel_rfl)
    refine By.yes rfl ?_
    clear hs hg
    go_simp
    exact ⟨_, rfl, Grew.refl _, rfl⟩
  · intro a w ht hs hg -- 37
    have h36 : a.tmps.getD 36 undef = _ := By.given_get hg 2 rfl rfl (by kernel_rfl)
    refine By.yes rfl ?_
    clear hs hg
    go_simp
    exact ⟨_, rfl, Grew.refl _, rfl⟩
  · intro a w ht hs hg -- 38
    have h37 : a.tmps.getD 37 undef = _ := By.given_get hg 3 rfl rfl (by kernel_rfl)
    refine By.yes rfl ?_
    clear hs hg
    go_simp
    exact ⟨_, rfl, Grew.refl _, rfl⟩
  · intro a w ht hs hg -- 39
    have h38 : a.tmps.getD 38 undef = _ := By.given_get hg 4 rfl rfl (by kernel_rfl)
    refine By.yes rfl ?_
    clear hs hg
    refine wp_loadSub (n := 5) 70 _ rfl h38 (Row.below (w := W.drew) HM.out ht HM.out.lt) Try.underlying70 rfl (by kernel_rfl) (by rw [Hl.out]; decide) ?_
    rw [mac_s]
    exact ⟨_, rfl, Grew.refl _, rfl⟩
  · intro a w ht hs hg -- 40
    have h35 : a.tmps.getD 35 undef = _ := By.given_get hg 1 rfl rfl (by kernel_rfl)
    have h39 : a.tmps.getD 39 undef = _ := By.given_get hg 5 rfl rfl (by kernel_rfl)
    refine By.yes rfl ?_
    clear hs hg
    go_simp
    refine (plus_any Hp3.out w).mono ?_
    rintro e w' ⟨rfl, hb2⟩
    exact ⟨_, rfl, hb2, rfl⟩
  · intro a w ht hs hg -- 41
    have h40 : a.tmps.getD 40 undef = _ := By.given_get hg 6 rfl rfl (by kernel_rfl)
    refine By.yes rfl ?_
    clear hs hg
    go_simp
    refine (carry_any Hpw.out w).mono ?_
    rintro e w' ⟨rfl, hb2⟩
    exact ⟨_, rfl, hb2, rfl⟩
  · intro a w ht hs hg -- 33
    have h41 : a.tmps.getD 41 undef = _ := By.given_get hg 7 rfl rfl (by kernel_rfl)
    refine By.yes rfl ?_
    clear hs hg
    go_simp
    exact ⟨_, rfl, Grew.refl _, rfl⟩
  · intro a w ht hs hg -- 42
    have h33 : a.tmps.getD 33 undef = _ := By.given_get hg 8 rfl rfl (by kernel_rfl)
    refine By.yes rfl ?_
    clear hs hg
    go_simp
    exact ⟨_, rfl, Grew.refl _, rfl⟩
  · intro a w ht hs hg -- 43
    have h33 : a.tmps.getD 33 undef = _ := By.given_get hg 8 rfl rfl (by kernel_rfl)
    refine By.yes rfl ?_
    clear hs hg
    go_simp
    exact ⟨_, rfl, Grew.refl _, rfl⟩
  · intro a w ht hs hg -- 5
    refine By.yes rfl ?_
    clear hs hg
    have hsz := Below.size ht
    go_simp
    exact ⟨_, rfl, (Below.refl _ w).alloc (Nat.le_refl _) _, w.heap.size, rfl, Nat.le_trans HB.out hsz, Row.new rfl rfl⟩
  · refine By.ends_is (By.ends_is (By.ends_is (By.ends_is (By.ends_is (By.ends_is (By.ends_is (By.ends_is (By.ends_is (By.ends_is (By.ends_is (By.ends_any fun v5 => (By.ends_nil fun w8 hw8 => ?_))))))))))))
    simp only [Act.put, List.setIfInBounds_toArray, List.set_cons_succ, List.set_cons_zero]
    simp only [List.drop_succ_cons, List.drop_zero]
    obtain ⟨hgr, q, rfl, hBq, hq⟩ := hw8
    have hM8 := Row.below (w := W.drew) HM.out hgr HM.out.lt
    have hR8 := Row.below (w := W.drew) HR.out hgr HR.out.lt
    have hbel := nextB HBel.out (Nat.le_refl _) (show Below W.heap.size W w8 from ⟨hgr.os, hgr.tape, hgr.output, hgr.size, hgr.block⟩)
    have hqne : w.heap.size ≠ q := by have := HR.out.lt; omega
    have Hq := Lib.hid hq
    have HR8 := Lib.hid hR8
    have Hbel := Lib.hid hbel
    have hw0q : w.heap.size ≤ q := by have := HBel.out.size; omega
    obtain ⟨C, hC⟩ : ∃ C, (Poly.carry (Poly.plus (Poly.red sum) s)).1 = C := ⟨_, rfl⟩
    have hCf : Poly.Fit C := hC ▸ Poly.carry_fit _
    have hCv : Poly.bytes16 (Poly.val C) = Poly.bytes16 (Poly.val (Poly.red sum) + Poly.val s) := by
      have := Poly.carry_val (Poly.plus (Poly.red sum) s)
      rw [Poly.plus_val, hC] at this
      refine Poly.bytes16_inj ?_
      rw [← this]
      omega
    have HCf := Lib.hid hCf
    have HCv := Lib.hid hCv
    rw [hC]
    clear hC hCf hCv hq hM8 hR8 hbel hgr
    go_wp2_with (first
      | (refine wpList_storeRow (n := 5) rfl 70 _ _ rfl rfl rfl (cs := lc C) (old := List.replicate 5 (.int .u64 0)) Hq.out (by kernel_rfl) rfl (by simp) (lc_one C) ?_
         have hq2 := Lib.hid (Hq.out.setRow (lc C))
         have hr2 := Lib.hid (HR8.out.setOther q (lc C).toArray hqne)
         have hb2 := Lib.hid (below_setRow Hbel.out hw0q (lc C).toArray)
         obtain ⟨V, hV⟩ : ∃ V, w8.setRow q (lc C).toArray = V := ⟨_, rfl⟩
         rw [hV] at hq2 hr2 hb2 ⊢
         clear hV)
      | (refine wpList_loadRow rfl 70 _ rfl rfl hq2.out Try.underlying70 rfl (by kernel_rfl) rfl ?_)
      | (go_at_call 53; refine (bytes_any HCf.out V).mono ?_; rintro e w' ⟨rfl, hb3⟩; have hr3 := Lib.hid (hr2.out.below hb3 hr2.out.lt); have hb4 := Lib.hid (nextB hb2.out (Nat.le_refl _) hb3))
      | (refine wpList_storeRow (n := 16) rfl 35 _ _ rfl rfl rfl (cs := (Poly.bytes16 (Poly.val C)).map bv) (old := (List.replicate 16 (0 : UInt8)).map bv) hr3.out (by kernel_rfl) (by simp [Poly.bytes16_length]) (by simp) (bytes1 _) ?_)
      | fail)
    refine bodyPost_ret (results_row rfl _ rfl (hr3.out.setRow _) Try.underlying35 rfl (by kernel_rfl) (n := 16) (by simp [Poly.bytes16_length])) rfl ?_
    exact ⟨by rw [HXf.out, ← HCv.out]; rfl, below_setRow hb4.out (Nat.le_refl _) _⟩
  · refine By.ends_is (By.ends_is (By.ends_is (By.ends_is (By.ends_is (By.ends_is (By.ends_is (By.ends_is (By.ends_is (By.ends_is (By.ends_is (By.ends_any fun v5 => (By.ends_nil fun w8 hw8 => ?_))))))))))))
    simp only [Act.put, List.setIfInBounds_toArray, List.set_cons_succ, List.set_cons_zero]
    obtain ⟨hgr, q, rfl, hBq, hq⟩ := hw8
    have hM8 := Row.below (w := W.drew) HM.out hgr HM.out.lt
    have hR8 := Row.below (w := W.drew) HR.out hgr HR.out.lt
    have hbel := nextB HBel.out (Nat.le_refl _) (show Below W.heap.size W w8 from ⟨hgr.os, hgr.tape, hgr.output, hgr.size, hgr.block⟩)
    have hqne : w.heap.size ≠ q := by have := HR.out.lt; omega
    have Hq := Lib.hid hq
    have HR8 := Lib.hid hR8
    have Hbel := Lib.hid hbel
    have hw0q : w.heap.size ≤ q := by have := HBel.out.size; omega
    obtain ⟨C, hC⟩ : ∃ C, (Poly.carry (Poly.plus (Poly.red sum) s)).1 = C := ⟨_, rfl⟩
    have hCf : Poly.Fit C := hC ▸ Poly.carry_fit _
    have hCv : Poly.bytes16 (Poly.val C) = Poly.bytes16 (Poly.val (Poly.red sum) + Poly.val s) := by
      have := Poly.carry_val (Poly.plus (Poly.red sum) s)
      rw [Poly.plus_val, hC] at this
      refine Poly.bytes16_inj ?_
      rw [← this]
      omega
    have HCf := Lib.hid hCf
    have HCv := Lib.hid hCv
    rw [hC]
    clear hC hCf hCv hq hM8 hR8 hbel hgr
    go_wp2_with (first
      | (refine wpList_storeRow (n := 5) rfl 70 _ _ rfl rfl rfl (cs := lc C) (old := List.replicate 5 (.int .u64 0)) Hq.out (by kernel_rfl) rfl (by simp) (lc_one C) ?_
         have hq2 := Lib.hid (Hq.out.setRow (lc C))
         have hr2 := Lib.hid (HR8.out.setOther q (lc C).toArray hqne)
         have hb2 := Lib.hid (below_setRow Hbel.out hw0q (lc C).toArray)
         obtain ⟨V, hV⟩ : ∃ V, w8.setRow q (lc C).toArray = V := ⟨_, rfl⟩
         rw [hV] at hq2 hr2 hb2 ⊢
         clear hV)
      | (refine wpList_loadRow rfl 70 _ rfl rfl hq2.out Try.underlying70 rfl (by kernel_rfl) rfl ?_)
      | (go_at_call 53; refine (bytes_any HCf.out V).mono ?_; rintro e w' ⟨rfl, hb3⟩; have hr3 := Lib.hid (hr2.out.below hb3 hr2.out.lt); have hb4 := Lib.hid (nextB hb2.out (Nat.le_refl _) hb3))
      | (refine wpList_storeRow (n := 16) rfl 35 _ _ rfl rfl rfl (cs := (Poly.bytes16 (Poly.val C)).map bv) (old := (List.replicate 16 (0 : UInt8)).map bv) hr3.out (by kernel_rfl) (by simp [Poly.bytes16_length]) (by simp) (bytes1 _) ?_)
      | fail)
    refine bodyPost_ret (results_row rfl _ rfl (hr3.out.setRow _) Try.underlying35 rfl (by kernel_rfl) (n := 16) (by simp [Poly.bytes16_length])) rfl ?_
    exact ⟨by rw [HXf.out, ← HCv.out]; rfl, below_setRow hb4.out (Nat.le_refl _) _⟩

end Pol
end Go.Proofs.Ytpllbnioncjhaaa
