/- Ways count modulo 2; the associated data do not depend on the body; what is sealed is longer by sixteen: 'drawbridgelaw09.PacketWays'. -/
import Derived.Test.YtbdpnpabpcidkaaDoorV30
import Derived.Test.YtbdpnpabpcidkaaDoorV46
import Derived.Test.YtbdpnpabpcidkaaDoorV47
import Derived.Test.YtbdpnpabpcidkaaDoorV48
import Derived.Test.YtbdpnpabpcidkaaDoorV50
namespace Go.Proofs.YtbdpnpabpcidkaaDoor.packetWays
open Go.ChangeShapes Go.WideShapes Go.ChangeAt Go.RowKit
open Pkt
open Shk (bsM wp_ld wp_conv grew_below sstop SStop)
theorem eq32 (x y : List UInt8) (hx : x.length = 32) (hy : y.length = 32) (w : World) : (Op.equal 24 (arr8 x) (arr8 y)).run Tryd.prog w = .ok (decide (x = y)) w := run_eql_arr8 (P := Tryd.prog) Tryd.underlying24 Tryd.underlying5 (by kernel_rfl) x y hx hy w
theorem l_k {w : World} {g : Nat} {L : List UInt8} (h : Row w g (L.map bv) 24) (hk : L.length = 32) : (loadVar 24 ⟨g, 0, none⟩).run Tryd.prog w = .ok (arr8 L) w := l_k32 h hk
theorem par_pick (z : Int) : par (pick z 2) = par z := by
  have h : (pick z 2) % 2 = z % 2 := by
    unfold pick
    have h1 := Int.tmod_add_mul_tdiv z 2
    split <;> omega
  unfold par
  rw [h]
theorem pkey_pick (sec : List UInt8) (e : Nat) (z : Int) : pkey sec e (pick z 2) = pkey sec e z := by
  unfold pkey
  rw [par_pick]
theorem along_body {p q : Pk} (h : q = { p with bo := q.bo }) : alongL q = alongL p := by
  have hh : Head q ↔ Head p := by rw [h]; exact Iff.rfl
  have hk : q.kind = p.kind := by rw [h]
  unfold alongL
  by_cases c : p.kind = 3 ∧ Head p
  · rw [if_pos c, if_pos ⟨hk.trans c.1, hh.2 c.2⟩, h]
    rfl
  · rw [if_neg c, if_neg fun d => c ⟨hk.symm.trans d.1, hh.1 d.2⟩]
set_option maxRecDepth 100000 in
set_option maxHeartbeats 400000 in
theorem long1 (sec : List UInt8) (z : Int) (e : Nat) (p : Pk) (m l : List UInt8) (A B : Option Addr) (c d : Nat) (w : World) (ht : Tab w) (hs : sec.length = 32) (hp : p.In) (hb : p.bo = .slice A m.length c) (h1 : 300 < m.length) : Calls Tryd.prog 6 #[arr8 sec, .int .i64 z, .int .u32 (e : Int), p.val, .slice B l.length d] w fun e w' => e = .returned (.bool true) ∧ Below w.heap.size w w' := by
  have HB0 := Lib.hid (show Below w.heap.size w ((w.alloc (.cells (sec.map bv).toArray 24)).alloc (.cells p.cells.toArray 40)) from ((Below.refl _ w).alloc (Nat.le_refl _) _).alloc (by simp) _)
  have HT0 := Lib.hid (ht.below HB0.out ht.1)
  have HK0 := Lib.hid (show Row ((w.alloc (.cells (sec.map bv).toArray 24)).alloc (.cells p.cells.toArray 40)) w.heap.size (sec.map bv) 24 from (Row.new rfl rfl).alloc _)
  have HP0 := Lib.hid (show Row ((w.alloc (.cells (sec.map bv).toArray 24)).alloc (.cells p.cells.toArray 40)) (w.heap.size + 1) p.cells 40 from Row.new (by simp) rfl)
  have HLv := Lib.hid (fun w (ht : Tab w) => Pkt.lives_any w ht)
  have HPo := Lib.hid hp.ok
  have HPb := Lib.hid hb
  have h1' : (300 : Int) < (m.length : Int) := by omega
  clear h1
  have Hs := Lib.hid hs
  clear ht hp hb hs
  unfold arr8 Pk.val
  go_enter Tryd.func6, Tryd.ntmps6
  go_wp2_with fail
  refine (HLv.out _ HT0.out).mono ?_
  rintro e w1 ⟨rfl, hb⟩
  have HB1 := Lib.hid (nextB HB0.out (Nat.le_refl _) hb)
  have HT1 := Lib.hid (HT0.out.below hb HT0.out.1)
  have HKa := Lib.hid (HK0.out.below hb HK0.out.lt)
  have HPa := Lib.hid (HP0.out.below hb HP0.out.lt)
  clear hb
  have c37 := c_bo HPa.out HPo.out
  rw [HPb.out] at c37
  go_wp2
  go_ret
  exact ⟨rfl, HB1.out⟩
set_option maxRecDepth 100000 in
set_option maxHeartbeats 400000 in
theorem long2 (sec : List UInt8) (z : Int) (e : Nat) (p : Pk) (m l : List UInt8) (A B : Option Addr) (c d : Nat) (w : World) (ht : Tab w) (hs : sec.length = 32) (hp : p.In) (hb : p.bo = .slice A m.length c) (h1 : ¬ 300 < m.length) (h2 : 300 < l.length) : Calls Tryd.prog 6 #[arr8 sec, .int .i64 z, .int .u32 (e : Int), p.val, .slice B l.length d] w fun e w' => e = .returned (.bool true) ∧ Below w.heap.size w w' := by
  have HB0 := Lib.hid (show Below w.heap.size w ((w.alloc (.cells (sec.map bv).toArray 24)).alloc (.cells p.cells.toArray 40)) from ((Below.refl _ w).alloc (Nat.le_refl _) _).alloc (by simp) _)
  have HT0 := Lib.hid (ht.below HB0.out ht.1)
  have HK0 := Lib.hid (show Row ((w.alloc (.cells (sec.map bv).toArray 24)).alloc (.cells p.cells.toArray 40)) w.heap.size (sec.map bv) 24 from (Row.new rfl rfl).alloc _)
  have HP0 := Lib.hid (show Row ((w.alloc (.cells (sec.map bv).toArray 24)).alloc (.cells p.cells.toArray 40)) (w.heap.size + 1) p.cells 40 from Row.new (by simp) rfl)
  have HLv := Lib.hid (fun w (ht : Tab w) => Pkt.lives_any w ht)
  have HPo := Lib.hid hp.ok
  have HPb := Lib.hid hb
  have h1' : ¬ (300 : Int) < (m.length : Int) := by omega
  have h2' : (300 : Int) < (l.length : Int) := by omega
  clear h1 h2
  have Hs := Lib.hid hs
  clear ht hp hb hs
  unfold arr8 Pk.val
  go_enter Tryd.func6, Tryd.ntmps6
  go_wp2_with fail
  refine (HLv.out _ HT0.out).mono ?_
  rintro e w1 ⟨rfl, hb⟩
  have HB1 := Lib.hid (nextB HB0.out (Nat.le_refl _) hb)
  have HT1 := Lib.hid (HT0.out.below hb HT0.out.1)
  have HKa := Lib.hid (HK0.out.below hb HK0.out.lt)
  have HPa := Lib.hid (HP0.out.below hb HP0.out.lt)
  clear hb
  have c37 := c_bo HPa.out HPo.out
  rw [HPb.out] at c37
  go_wp2
  go_ret
  exact ⟨rfl, HB1.out⟩
set_option maxRecDepth 100000 in
set_option maxHeartbeats 4000000 in
theorem walk_ff (sec : List UInt8) (z : Int) (e : Nat) (p : Pk) (m l : List UInt8) (A B : Option Addr) (c d : Nat) (w : World) (ht : Tab w) (hs : sec.length = 32) (he : e < 4294967296) (hz : -9223372036854775808 ≤ z ∧ z ≤ 9223372036854775807) (hp : p.In) (hb : p.bo = .slice A m.length c) (hm : Bs w w.heap.size p.bo m) (hl : Bs w w.heap.size (.slice B l.length d) l) (hl1 : ¬ 300 < m.length) (hl2 : ¬ 300 < l.length) (hkd : ¬ p.kind = 3) (hok : ¬ dataOk p.ses p.epo p.cnt) : Calls Tryd.prog 6 #[arr8 sec, .int .i64 z, .int .u32 (e : Int), p.val, .slice B l.length d] w fun e w' => e = .returned (.bool true) ∧ Below w.heap.size w w' := by
  have HB0 := Lib.hid (show Below w.heap.size w ((w.alloc (.cells (sec.map bv).toArray 24)).alloc (.cells p.cells.toArray 40)) from ((Below.refl _ w).alloc (Nat.le_refl _) _).alloc (by simp) _)
  have HT0 := Lib.hid (ht.below HB0.out ht.1)
  have HK0 := Lib.hid (show Row ((w.alloc (.cells (sec.map bv).toArray 24)).alloc (.cells p.cells.toArray 40)) w.heap.size (sec.map bv) 24 from (Row.new rfl rfl).alloc _)
  have HP0 := Lib.hid (show Row ((w.alloc (.cells (sec.map bv).toArray 24)).alloc (.cells p.cells.toArray 40)) (w.heap.size + 1) p.cells 40 from Row.new (by simp) rfl)
  have HLv := Lib.hid (fun w (ht : Tab w) => Pkt.lives_any w ht)
  have HPo := Lib.hid hp.ok
  have HPb := Lib.hid hb
  have h1' : ¬ (300 : Int) < (m.length : Int) := by omega
  have h2' : ¬ (300 : Int) < (l.length : Int) := by omega
  have Hs := Lib.hid hs
  have He := Lib.hid he
  have Hz := Lib.hid hz
  have Hp := Lib.hid hp
  have Hm := Lib.hid hm
  have Hl := Lib.hid hl
  have Hl3 := Lib.hid (show l.length ≤ 300 by omega)
  have Hok := Lib.hid hok
  have Hkd := Lib.hid hkd
  obtain ⟨k, hk⟩ : ∃ k, pick z 2 = k := ⟨_, rfl⟩
  obtain ⟨Y, hY⟩ : ∃ Y, pkey sec e z = Y := ⟨_, rfl⟩
  have HYk := Lib.hid (show pkey sec e k = Y by rw [← hk, pkey_pick, hY])
  have HYe := Lib.hid hY
  have HYl := Lib.hid (show Y.length = 32 by rw [← hY]; exact pkey_length _ _ _)
  obtain ⟨q, hq⟩ : ∃ q : Pk, { p with bo := Value.slice B l.length d } = q := ⟨_, rfl⟩
  have HQe := Lib.hid hq
  have HQi := Lib.hid (show q.In by rw [← hq]; exact ⟨Pk.with_bo hp.ok rfl, hp.s, hp.e, hp.c⟩)
  have HQo := Lib.hid HQi.out.ok
  have HQb := Lib.hid (show q.bo = .slice B l.length d by rw [← hq])
  obtain ⟨AL, hAL⟩ : ∃ AL, alongL p = AL := ⟨_, rfl⟩
  have HAp := Lib.hid hAL
  have HAq := Lib.hid (show alongL q = AL by rw [← hAL]; exact along_body (by rw [← hq]))
  have Hke := Lib.hid hk
  obtain ⟨E, hE⟩ : ∃ E, nm 0 = E := ⟨_, rfl⟩
  have HEe := Lib.hid hE
  have HEo := Lib.hid (show E.Ok by rw [← hE]; exact nm_ok 0)
  clear hE
  have HA0 := Lib.hid (show AL = [] by rw [← hAL]; exact if_neg fun h => hkd h.1)
  have kneg : (p.kind != 3) = true := by simp [hkd]
  clear ht hs he hz hp hb hm hl hl1 hl2 hok hkd hk hY hq hAL
  unfold arr8 Pk.val
  go_enter Tryd.func6, Tryd.ntmps6
  go_wp2_with fail
  refine (HLv.out _ HT0.out).mono ?_
  rintro e w1 ⟨rfl, hb⟩
  have HB1 := Lib.hid (nextB HB0.out (Nat.le_refl _) hb)
  have HT1 := Lib.hid (HT0.out.below hb HT0.out.1)
  have HKa := Lib.hid (HK0.out.below hb HK0.out.lt)
  have HPa := Lib.hid (HP0.out.below hb HP0.out.lt)
  clear hb
  have c37 := c_bo HPa.out HPo.out
  rw [HPb.out] at c37
  go_wp2_with fail
  refine (Pick_any z 2 _ Hz.out (by decide)).mono ?_
  rintro e w' ⟨rfl, rfl⟩
  rw [Hke.out]
  go_wp2_with fail
  clear c37
  refine By.marks Pol.mixed Grew [By.is (arr8 sec),
    By.is (.int .u32 (e : Int)),
    By.is (.int .i64 z),
    By.is (arr8 Y),
    By.is (arr8 sec),
    By.is (.int .u32 (e : Int)),
    By.is (.int .i64 k),
    By.is (arr8 Y),
    By.is (.bool false)]
    (Ev.masks _ []) (by kernel_rfl) rfl Grew.refl Grew.trans ⟨?_, ?_, ?_, ?_, ?_, ?_, ?_, ?_, ?_, trivial⟩ ?_
  · intro a w ht hs hg -- 28
    have h5 := By.same_get hs 5 (by decide) (by kernel_rfl)
    refine By.yes rfl ?_
    clear hs hg
    have hr := l_k (Row.below (w := w1.drew) HKa.out ht HKa.out.lt) Hs.out
    refine wp_ld 24 _ rfl h5 hr ?_
    exact ⟨_, rfl, Grew.refl _, rfl⟩
  · intro a w ht hs hg -- 29
    have h2 := By.same_get hs 2 (by decide) (by kernel_rfl)
    refine By.yes rfl ?_
    clear hs hg
    go_simp
    exact ⟨_, rfl, Grew.refl _, rfl⟩
  · intro a w ht hs hg -- 30
    have h1 := By.same_get hs 1 (by decide) (by kernel_rfl)
    refine By.yes rfl ?_
    clear hs hg
    go_simp
    exact ⟨_, rfl, Grew.refl _, rfl⟩
  · intro a w ht hs hg -- 31
    have h28 : a.tmps.getD 28 undef = _ := By.given_get hg 0 rfl rfl (by kernel_rfl)
    have h29 : a.tmps.getD 29 undef = _ := By.given_get hg 1 rfl rfl (by kernel_rfl)
    have h30 : a.tmps.getD 30 undef = _ := By.given_get hg 2 rfl rfl (by kernel_rfl)
    refine By.yes rfl ?_
    clear hs hg
    have HTw := Lib.hid (HT1.out.below (grew_below ht) HT1.out.1)
    clear ht
    unfold arr8 at h28
    go_simp
    refine (Pkt.Key_any sec Hs.out e He.out z w HTw.out).mono ?_
    rintro x w8 ⟨rfl, hb8⟩
    exact ⟨_, rfl, hb8, congrArg arr8 HYe.out⟩
  · intro a w ht hs hg -- 32
    have h5 := By.same_get hs 5 (by decide) (by kernel_rfl)
    refine By.yes rfl ?_
    clear hs hg
    have hr := l_k (Row.below (w := w1.drew) HKa.out ht HKa.out.lt) Hs.out
    refine wp_ld 24 _ rfl h5 hr ?_
    exact ⟨_, rfl, Grew.refl _, rfl⟩
  · intro a w ht hs hg -- 33
    have h2 := By.same_get hs 2 (by decide) (by kernel_rfl)
    refine By.yes rfl ?_
    clear hs hg
    go_simp
    exact ⟨_, rfl, Grew.refl _, rfl⟩
  · intro a w ht hs hg -- 34
    have h11 := By.same_get hs 11 (by decide) (by kernel_rfl)
    refine By.yes rfl ?_
    clear hs hg
    go_simp
    exact ⟨_, rfl, Grew.refl _, rfl⟩
  · intro a w ht hs hg -- 35
    have h32 : a.tmps.getD 32 undef = _ := By.given_get hg 4 rfl rfl (by kernel_rfl)
    have h33 : a.tmps.getD 33 undef = _ := By.given_get hg 5 rfl rfl (by kernel_rfl)
    have h34 : a.tmps.getD 34 undef = _ := By.given_get hg 6 rfl rfl (by kernel_rfl)
    refine By.yes rfl ?_
    clear hs hg
    have HTw := Lib.hid (HT1.out.below (grew_below ht) HT1.out.1)
    clear ht
    unfold arr8 at h32
    go_simp
    refine (Pkt.Key_any sec Hs.out e He.out k w HTw.out).mono ?_
    rintro x w8 ⟨rfl, hb8⟩
    exact ⟨_, rfl, hb8, congrArg arr8 HYk.out⟩
  · intro a w ht hs hg -- 36
    have h31 : a.tmps.getD 31 undef = _ := By.given_get hg 3 rfl rfl (by kernel_rfl)
    have h35 : a.tmps.getD 35 undef = _ := By.given_get hg 7 rfl rfl (by kernel_rfl)
    refine By.yes rfl ?_
    clear hs hg
    refine wp_neqArr _ _ rfl (by kernel_rfl) h31 h35 (eq32 Y Y HYl.out HYl.out w) ?_
    exact ⟨_, rfl, Grew.refl _, congrArg Value.bool (by simp)⟩
  refine By.ends_is (By.ends_is (By.ends_is (By.ends_is (By.ends_is (By.ends_is (By.ends_is (By.ends_is (By.ends_is (By.ends_nil fun W6 hw6 => ?_)))))))))
  simp only [Act.put, List.setIfInBounds_toArray, List.set_cons_succ, List.set_cons_zero]
  have hb := grew_below hw6
  have HB2 := Lib.hid (nextB HB1.out (Nat.le_refl _) hb)
  have HK2 := Lib.hid (HKa.out.below hb HKa.out.lt)
  have HP2 := Lib.hid (HPa.out.below hb HPa.out.lt)
  have HT2 := Lib.hid (HT1.out.below hb HT1.out.1)
  clear hb hw6
  have HL3 := Lib.hid (l_all HP2.out HPo.out)
  go_wp2_with (first
    | (refine wpList_ld 40 rfl rfl HL3.out rfl ?_)
    | (show wpList _ _ _ (⟨none, Op.store 40 _ _, _, _, _, _⟩ :: _) _ _
       refine wpList_storeRow (g := W6.heap.size) rfl 40 _ _ rfl rfl rfl (cs := p.cells) (Row.new rfl rfl : Row (W6.alloc (.cells (nm 0).cells.toArray 40)) W6.heap.size (nm 0).cells 40) (by kernel_rfl) (Pk.length HPo.out) (Pk.length (nm_ok 0)) (Pk.one HPo.out) ?_
       refine wpList_name fun V hV => ?_
       refine sstop ?_)
    | fail)
  unfold SStop
  obtain ⟨W4, hV2⟩ : ∃ V2, V = V2 := ⟨V, rfl⟩
  rw [hV2] at hV ⊢
  clear hV2
  have hb : Below W6.heap.size W6 W4 := by rw [← hV]; exact (below_setRow ((Below.refl _ W6).alloc (Nat.le_refl _) _) (by omega) _)
  have HQ4 := Lib.hid (show Row W4 W6.heap.size p.cells 40 by rw [← hV]; exact ((Row.new rfl rfl : Row (W6.alloc (.cells (nm 0).cells.toArray 40)) W6.heap.size (nm 0).cells 40).setRow _))
  have HB5 := Lib.hid (nextB HB2.out (Nat.le_refl _) hb)
  have HK5 := Lib.hid (HK2.out.below hb HK2.out.lt)
  have HP5 := Lib.hid (HP2.out.below hb HP2.out.lt)
  have HT5 := Lib.hid (HT2.out.below hb HT2.out.1)
  clear hV hb
  have c37 := c_bo HQ4.out HPo.out
  have f37 := frozen_row HQ4.out 37
  go_wp2_with fail
  clear c37 f37
  obtain ⟨W9, hW9⟩ : ∃ W9, W4.setCell ⟨W6.heap.size, 37, none⟩ (.slice B l.length d) = W9 := ⟨_, rfl⟩
  rw [hW9]
  have hb : Below W6.heap.size W4 W9 := by rw [← hW9]; exact (Below.refl _ W4).setCell (p := ⟨W6.heap.size, 37, none⟩) (Nat.le_refl _) _
  have HQ9 := Lib.hid (show Row W9 W6.heap.size q.cells 40 by
    have h := HQ4.out.set 37 (.slice B l.length d)
    rw [Pk.set_bo HPo.out, HQe.out, hW9] at h
    exact h)
  have HB9 := Lib.hid (HB5.out.trans (hb.mono HB2.out.size))
  have HK9 := Lib.hid (HK5.out.below hb HK2.out.lt)
  have HP9 := Lib.hid (HP5.out.below hb HP2.out.lt)
  have HT9 := Lib.hid (HT5.out.below hb HT2.out.1)
  clear hb hW9
  refine By.marks Pol.mixed Grew [By.is (q.val),
    bsM AL,
    By.is (strOf AL),
    By.is (p.val),
    bsM AL,
    By.is (strOf AL),
    By.is (.bool false),
    By.is (.bool false),
    By.is (.pointer (some ⟨(w.heap.size + 1), 0, none⟩)),
    By.is (.int .i64 p.kind),
    By.is (.bool true),
    By.is (.bool true),
    By.is (p.val),
    bsM AL,
    By.is (.int .i64 0),
    By.is (.bool false),
    By.is (.bool false),
    By.is (.bool false)]
    (Ev.masks _ []) (by kernel_rfl) rfl Grew.refl Grew.trans ⟨?_, ?_, ?_, ?_, ?_, ?_, ?_, ?_, ?_, ?_, ?_, ?_, ?_, ?_, ?_, ?_, ?_, ?_, trivial⟩ ?_
  · intro a w ht hs hg -- 40
    have h12 := By.same_get hs 12 (by decide) (by kernel_rfl)
    refine By.yes rfl ?_
    clear hs hg
    have hr := l_all (Row.below (w := W9.drew) HQ9.out ht HQ9.out.lt) HQo.out
    refine wp_ld 40 _ rfl h12 hr ?_
    exact ⟨_, rfl, Grew.refl _, rfl⟩
  · intro a w ht hs hg -- 41
    have h40 : a.tmps.getD 40 undef = _ := By.given_get hg 0 rfl rfl (by kernel_rfl)
    refine By.yes rfl ?_
    clear hs hg
    clear ht
    unfold Pk.val at h40
    go_simp
    refine (Along_any q HQi.out w).mono ?_
    rintro x w8 ⟨v, rfl, ho, hb8⟩
    rw [HAq.out] at ho
    exact ⟨_, rfl, hb8, ho.bs⟩
  · intro a w ht hs hg -- 42
    have h41 := By.given_get hg 1 rfl rfl (by kernel_rfl)
    refine By.yes rfl ?_
    obtain ⟨v41, hv41⟩ : ∃ v, a.tmps.getD 41 undef = v := ⟨_, rfl⟩
    replace h41 := (congrArg (fun v => (bsM AL).on v w) hv41).mp h41
    clear hs hg
    have hr := run_str w h41
    clear h41 ht
    go_simp
    exact ⟨_, rfl, Grew.refl _, rfl⟩
  · intro a w ht hs hg -- 43
    have h8 := By.same_get hs 8 (by decide) (by kernel_rfl)
    refine By.yes rfl ?_
    clear hs hg
    have hr := l_all (Row.below (w := W9.drew) HP9.out ht HP9.out.lt) HPo.out
    refine wp_ld 40 _ rfl h8 hr ?_
    exact ⟨_, rfl, Grew.refl _, rfl⟩
  · intro a w ht hs hg -- 44
    have h43 : a.tmps.getD 43 undef = _ := By.given_get hg 3 rfl rfl (by kernel_rfl)
    refine By.yes rfl ?_
    clear hs hg
    clear ht
    unfold Pk.val at h43
    go_simp
    refine (Along_any p Hp.out w).mono ?_
    rintro x w8 ⟨v, rfl, ho, hb8⟩
    rw [HAp.out] at ho
    exact ⟨_, rfl, hb8, ho.bs⟩
  · intro a w ht hs hg -- 45
    have h44 := By.given_get hg 4 rfl rfl (by kernel_rfl)
    refine By.yes rfl ?_
    obtain ⟨v44, hv44⟩ : ∃ v, a.tmps.getD 44 undef = v := ⟨_, rfl⟩
    replace h44 := (congrArg (fun v => (bsM AL).on v w) hv44).mp h44
    clear hs hg
    have hr := run_str w h44
    clear h44 ht
    go_simp
    exact ⟨_, rfl, Grew.refl _, rfl⟩
  · intro a w ht hs hg -- 46
    have h42 : a.tmps.getD 42 undef = _ := By.given_get hg 2 rfl rfl (by kernel_rfl)
    have h45 : a.tmps.getD 45 undef = _ := By.given_get hg 5 rfl rfl (by kernel_rfl)
    refine By.yes rfl ?_
    clear hs hg
    clear ht
    have hsg : ∀ u v w, (eqGuard .neq 9 u v (strOf AL) (strOf AL)).run Tryd.prog w = .ok () w := fun u v w => by unfold strOf; simp [eqGuard]
    have hsv : ∀ w, (binOp .neq 9 (strOf AL) (strOf AL)).run Tryd.prog w = .ok (.bool false) w := fun w => by unfold strOf binOp Op.stringOp; simp [Sem.run_pure]
    go_simp
    exact ⟨_, rfl, Grew.refl _, rfl⟩
  · intro a w ht hs hg -- 47
    have h46 : a.tmps.getD 46 undef = _ := By.given_get hg 6 rfl rfl (by kernel_rfl)
    refine By.yes rfl ?_
    clear hs hg
    go_simp
    exact ⟨_, rfl, Grew.refl _, rfl⟩
  · intro a w ht hs hg -- 48
    have h8 := By.same_get hs 8 (by decide) (by kernel_rfl)
    have hg47 := By.given_get hg 7 rfl rfl (by kernel_rfl)
    refine By.yes (By.want_yes rfl rfl hg47) ?_
    clear hg47
    clear hs hg
    go_simp
    exact ⟨_, rfl, Grew.refl _, rfl⟩
  · intro a w ht hs hg -- 49
    have h48 : a.tmps.getD 48 undef = _ := By.given_get hg 8 rfl rfl (by kernel_rfl)
    have hg47 := By.given_get hg 7 rfl rfl (by kernel_rfl)
    refine By.yes (By.want_yes rfl rfl hg47) ?_
    clear hg47
    clear hs hg
    have hc := c_kind (Row.below (w := W9.drew) HP9.out ht HP9.out.lt)
    clear ht
    go_simp
    exact ⟨_, rfl, Grew.refl _, rfl⟩
  · intro a w ht hs hg -- 50
    have h49 : a.tmps.getD 49 undef = _ := By.given_get hg 9 rfl rfl (by kernel_rfl)
    have hg47 := By.given_get hg 7 rfl rfl (by kernel_rfl)
    refine By.yes (By.want_yes rfl rfl hg47) ?_
    clear hg47
    clear hs hg
    clear ht
    go_simp
    first | exact ⟨_, rfl, Grew.refl _, rfl⟩ | exact ⟨_, rfl, Grew.refl _, congrArg Value.bool kneg⟩
  · intro a w ht hs hg -- 51
    have h50 : a.tmps.getD 50 undef = _ := By.given_get hg 10 rfl rfl (by kernel_rfl)
    have hg47 := By.given_get hg 7 rfl rfl (by kernel_rfl)
    refine By.yes (By.want_yes rfl rfl hg47) ?_
    clear hg47
    clear hs hg
    go_simp
    exact ⟨_, rfl, Grew.refl _, rfl⟩
  · intro a w ht hs hg -- 52
    have h8 := By.same_get hs 8 (by decide) (by kernel_rfl)
    have hg51 := By.given_get hg 11 rfl rfl (by kernel_rfl)
    refine By.yes (By.want_yes rfl rfl hg51) ?_
    clear hg51
    clear hs hg
    have hr := l_all (Row.below (w := W9.drew) HP9.out ht HP9.out.lt) HPo.out
    refine wp_ld 40 _ rfl h8 hr ?_
    exact ⟨_, rfl, Grew.refl _, rfl⟩
  · intro a w ht hs hg -- 53
    have h52 : a.tmps.getD 52 undef = _ := By.given_get hg 12 rfl rfl (by kernel_rfl)
    have hg51 := By.given_get hg 11 rfl rfl (by kernel_rfl)
    refine By.yes (By.want_yes rfl rfl hg51) ?_
    clear hg51
    clear hs hg
    clear ht
    unfold Pk.val at h52
    go_simp
    refine (Along_any p Hp.out w).mono ?_
    rintro x w8 ⟨v, rfl, ho, hb8⟩
    rw [HAp.out] at ho
    exact ⟨_, rfl, hb8, ho.bs⟩
  · intro a w ht hs hg -- 54
    have h53 := By.given_get hg 13 rfl rfl (by kernel_rfl)
    have hg51 := By.given_get hg 11 rfl rfl (by kernel_rfl)
    refine By.yes (By.want_yes rfl rfl hg51) ?_
    clear hg51
    obtain ⟨v53, hv53⟩ : ∃ v, a.tmps.getD 53 undef = v := ⟨_, rfl⟩
    replace h53 := (congrArg (fun v => (bsM AL).on v w) hv53).mp h53
    clear hs hg
    clear ht
    rw [HA0.out] at h53
    obtain ⟨A3, c3, rfl, _, _⟩ := h53
    go_simp
    exact ⟨_, rfl, Grew.refl _, rfl⟩
  · intro a w ht hs hg -- 55
    have h54 : a.tmps.getD 54 undef = _ := By.given_get hg 14 rfl rfl (by kernel_rfl)
    have hg51 := By.given_get hg 11 rfl rfl (by kernel_rfl)
    refine By.yes (By.want_yes rfl rfl hg51) ?_
    clear hg51
    clear hs hg
    clear ht
    go_simp
    exact ⟨_, rfl, Grew.refl _, rfl⟩
  · intro a w ht hs hg -- 56
    have h51 : a.tmps.getD 51 undef = _ := By.given_get hg 11 rfl rfl (by kernel_rfl)
    have h55 : a.tmps.getD 55 undef = _ := By.given_get hg 15 rfl rfl (by kernel_rfl)
    have hg47 := By.given_get hg 7 rfl rfl (by kernel_rfl)
    refine By.yes (By.want_yes rfl rfl hg47) ?_
    clear hg47
    clear hs hg
    clear ht
    go_simp
    exact ⟨_, rfl, Grew.refl _, rfl⟩
  · intro a w ht hs hg -- 57
    have h47 : a.tmps.getD 47 undef = _ := By.given_get hg 7 rfl rfl (by kernel_rfl)
    have h56 : a.tmps.getD 56 undef = _ := By.given_get hg 16 rfl rfl (by kernel_rfl)
    refine By.yes rfl ?_
    clear hs hg
    clear ht
    go_simp
    exact ⟨_, rfl, Grew.refl _, rfl⟩
  refine By.ends_is (By.ends_skip fun v41 => (By.ends_is (By.ends_is (By.ends_skip fun v44 => (By.ends_is (By.ends_is (By.ends_is (By.ends_is (By.ends_is (By.ends_is (By.ends_is (By.ends_is (By.ends_skip fun v53 => (By.ends_is (By.ends_is (By.ends_is (By.ends_is (By.ends_nil fun W10 hw10 => ?_))))))))))))))))))
  simp only [Act.put, List.setIfInBounds_toArray, List.set_cons_succ, List.set_cons_zero]
  have hb := grew_below hw10
  have HB6 := Lib.hid (nextB HB9.out (Nat.le_refl _) hb)
  have HK6 := Lib.hid (HK9.out.below hb HK9.out.lt)
  have HP6 := Lib.hid (HP9.out.below hb HP9.out.lt)
  have HQ6 := Lib.hid (HQ9.out.below hb HQ9.out.lt)
  have HT6 := Lib.hid (HT9.out.below hb HT9.out.1)
  clear hb hw10
  have cs := c_ses HP6.out
  have ce := c_epo HP6.out
  have cn := c_cnt HP6.out
  have HMl := Lib.hid ((Hl.out.below HB6.out).more HB6.out.size)
  have HL7 := Lib.hid (l_k HK6.out Hs.out)
  go_wp2_with (first
    | (refine wpList_ld 24 rfl rfl HL7.out rfl ?_)
    | fail)
  refine (Seal_args sec l Hs.out z p.ses p.epo p.cnt B d (by have := Hl3.out; omega) Hok.out W10).mono ?_
  rintro e w11 ⟨rfl, hb⟩
  rw [HEe.out]
  clear cs ce cn
  have HB8 := Lib.hid (nextB HB6.out (Nat.le_refl _) hb)
  have HK8 := Lib.hid (HK6.out.below hb HK6.out.lt)
  have HP8 := Lib.hid (HP6.out.below hb HP6.out.lt)
  have HQ8 := Lib.hid (HQ6.out.below hb HQ6.out.lt)
  have HT8 := Lib.hid (HT6.out.below hb HT6.out.1)
  clear hb
  go_wp2_with (first
    | (show wpList _ _ _ (⟨none, Op.store 40 _ _, _, _, _, _⟩ :: _) _ _
       refine wpList_storeRow (g := w11.heap.size) rfl 40 _ _ rfl rfl rfl (cs := E.cells) (Row.new rfl rfl : Row (w11.alloc (.cells (nm 0).cells.toArray 40)) w11.heap.size (nm 0).cells 40) (by kernel_rfl) (Pk.length HEo.out) (Pk.length (nm_ok 0)) (Pk.one HEo.out) ?_
       refine wpList_name fun V hV => ?_
       refine sstop ?_)
    | fail)
  unfold SStop
  obtain ⟨W9, hV2⟩ : ∃ V2, V = V2 := ⟨V, rfl⟩
  rw [hV2] at hV ⊢
  clear hV2
  have hb : Below w11.heap.size w11 W9 := by rw [← hV]; exact (below_setRow ((Below.refl _ w11).alloc (Nat.le_refl _) _) (by omega) _)
  have HS9 := Lib.hid (show Row W9 w11.heap.size E.cells 40 by rw [← hV]; exact ((Row.new rfl rfl : Row (w11.alloc (.cells (nm 0).cells.toArray 40)) w11.heap.size (nm 0).cells 40).setRow _))
  have HB10 := Lib.hid (nextB HB8.out (Nat.le_refl _) hb)
  have HK10 := Lib.hid (HK8.out.below hb HK8.out.lt)
  have HP10 := Lib.hid (HP8.out.below hb HP8.out.lt)
  have HQ10 := Lib.hid (HQ8.out.below hb HQ8.out.lt)
  have HT10 := Lib.hid (HT8.out.below hb HT8.out.1)
  clear hV hb
  go_wp2
  go_ret
  exact ⟨rfl, HB10.out⟩
set_option maxRecDepth 100000 in
set_option maxHeartbeats 4000000 in
theorem walk_ft (sec : List UInt8) (z : Int) (e : Nat) (p : Pk) (m l : List UInt8) (A B : Option Addr) (c d : Nat) (w : World) (ht : Tab w) (hs : sec.length = 32) (he : e < 4294967296) (hz : -9223372036854775808 ≤ z ∧ z ≤ 9223372036854775807) (hp : p.In) (hb : p.bo = .slice A m.length c) (hm : Bs w w.heap.size p.bo m) (hl : Bs w w.heap.size (.slice B l.length d) l) (hl1 : ¬ 300 < m.length) (hl2 : ¬ 300 < l.length) (hkd : ¬ p.kind = 3) (hok : dataOk p.ses p.epo p.cnt) : Calls Tryd.prog 6 #[arr8 sec, .int .i64 z, .int .u32 (e : Int), p.val, .slice B l.length d] w fun e w' => e = .returned (.bool true) ∧ Below w.heap.size w w' := by
  have HB0 := Lib.hid (show Below w.heap.size w ((w.alloc (.cells (sec.map bv).toArray 24)).alloc (.cells p.cells.toArray 40)) from ((Below.refl _ w).alloc (Nat.le_refl _) _).alloc (by simp) _)
  have HT0 := Lib.hid (ht.below HB0.out ht.1)
  have HK0 := Lib.hid (show Row ((w.alloc (.cells (sec.map bv).toArray 24)).alloc (.cells p.cells.toArray 40)) w.heap.size (sec.map bv) 24 from (Row.new rfl rfl).alloc _)
  have HP0 := Lib.hid (show Row ((w.alloc (.cells (sec.map bv).toArray 24)).alloc (.cells p.cells.toArray 40)) (w.heap.size + 1) p.cells 40 from Row.new (by simp) rfl)
  have HLv := Lib.hid (fun w (ht : Tab w) => Pkt.lives_any w ht)
  have HPo := Lib.hid hp.ok
  have HPb := Lib.hid hb
  have h1' : ¬ (300 : Int) < (m.length : Int) := by omega
  have h2' : ¬ (300 : Int) < (l.length : Int) := by omega
  have Hs := Lib.hid hs
  have He := Lib.hid he
  have Hz := Lib.hid hz
  have Hp := Lib.hid hp
  have Hm := Lib.hid hm
  have Hl := Lib.hid hl
  have Hl3 := Lib.hid (show l.length ≤ 300 by omega)
  have Hok := Lib.hid hok
  have Hkd := Lib.hid hkd
  obtain ⟨k, hk⟩ : ∃ k, pick z 2 = k := ⟨_, rfl⟩
  obtain ⟨Y, hY⟩ : ∃ Y, pkey sec e z = Y := ⟨_, rfl⟩
  have HYk := Lib.hid (show pkey sec e k = Y by rw [← hk, pkey_pick, hY])
  have HYe := Lib.hid hY
  have HYl := Lib.hid (show Y.length = 32 by rw [← hY]; exact pkey_length _ _ _)
  obtain ⟨q, hq⟩ : ∃ q : Pk, { p with bo := Value.slice B l.length d } = q := ⟨_, rfl⟩
  have HQe := Lib.hid hq
  have HQi := Lib.hid (show q.In by rw [← hq]; exact ⟨Pk.with_bo hp.ok rfl, hp.s, hp.e, hp.c⟩)
  have HQo := Lib.hid HQi.out.ok
  have HQb := Lib.hid (show q.bo = .slice B l.length d by rw [← hq])
  obtain ⟨AL, hAL⟩ : ∃ AL, alongL p = AL := ⟨_, rfl⟩
  have HAp := Lib.hid hAL
  have HAq := Lib.hid (show alongL q = AL by rw [← hAL]; exact along_body (by rw [← hq]))
  have Hke := Lib.hid hk
  have HSb := Lib.hid hp.s
  have HEb := Lib.hid hp.e
  have HA0 := Lib.hid (show AL = [] by rw [← hAL]; exact if_neg fun h => hkd h.1)
  have kneg : (p.kind != 3) = true := by simp [hkd]
  clear ht hs he hz hp hb hm hl hl1 hl2 hok hkd hk hY hq hAL
  unfold arr8 Pk.val
  go_enter Tryd.func6, Tryd.ntmps6
  go_wp2_with fail
  refine (HLv.out _ HT0.out).mono ?_
  rintro e w1 ⟨rfl, hb⟩
  have HB1 := Lib.hid (nextB HB0.out (Nat.le_refl _) hb)
  have HT1 := Lib.hid (HT0.out.below hb HT0.out.1)
  have HKa := Lib.hid (HK0.out.below hb HK0.out.lt)
  have HPa := Lib.hid (HP0.out.below hb HP0.out.lt)
  clear hb
  have c37 := c_bo HPa.out HPo.out
  rw [HPb.out] at c37
  go_wp2_with fail
  refine (Pick_any z 2 _ Hz.out (by decide)).mono ?_
  rintro e w' ⟨rfl, rfl⟩
  rw [Hke.out]
  go_wp2_with fail
  clear c37
  refine By.marks Pol.mixed Grew [By.is (arr8 sec),
    By.is (.int .u32 (e : Int)),
    By.is (.int .i64 z),
    By.is (arr8 Y),
    By.is (arr8 sec),
    By.is (.int .u32 (e : Int)),
    By.is (.int .i64 k),
    By.is (arr8 Y),
    By.is (.bool false)]
    (Ev.masks _ []) (by kernel_rfl) rfl Grew.refl Grew.trans ⟨?_, ?_, ?_, ?_, ?_, ?_, ?_, ?_, ?_, trivial⟩ ?_
  · intro a w ht hs hg -- 28
    have h5 := By.same_get hs 5 (by decide) (by kernel_rfl)
    refine By.yes rfl ?_
    clear hs hg
    have hr := l_k (Row.below (w := w1.drew) HKa.out ht HKa.out.lt) Hs.out
    refine wp_ld 24 _ rfl h5 hr ?_
    exact ⟨_, rfl, Grew.refl _, rfl⟩
  · intro a w ht hs hg -- 29
    have h2 := By.same_get hs 2 (by decide) (by kernel_rfl)
    refine By.yes rfl ?_
    clear hs hg
    go_simp
    exact ⟨_, rfl, Grew.refl _, rfl⟩
  · intro a w ht hs hg -- 30
    have h1 := By.same_get hs 1 (by decide) (by kernel_rfl)
    refine By.yes rfl ?_
    clear hs hg
    go_simp
    exact ⟨_, rfl, Grew.refl _, rfl⟩
  · intro a w ht hs hg -- 31
    have h28 : a.tmps.getD 28 undef = _ := By.given_get hg 0 rfl rfl (by kernel_rfl)
    have h29 : a.tmps.getD 29 undef = _ := By.given_get hg 1 rfl rfl (by kernel_rfl)
    have h30 : a.tmps.getD 30 undef = _ := By.given_get hg 2 rfl rfl (by kernel_rfl)
    refine By.yes rfl ?_
    clear hs hg
    have HTw := Lib.hid (HT1.out.below (grew_below ht) HT1.out.1)
    clear ht
    unfold arr8 at h28
    go_simp
    refine (Pkt.Key_any sec Hs.out e He.out z w HTw.out).mono ?_
    rintro x w8 ⟨rfl, hb8⟩
    exact ⟨_, rfl, hb8, congrArg arr8 HYe.out⟩
  · intro a w ht hs hg -- 32
    have h5 := By.same_get hs 5 (by decide) (by kernel_rfl)
    refine By.yes rfl ?_
    clear hs hg
    have hr := l_k (Row.below (w := w1.drew) HKa.out ht HKa.out.lt) Hs.out
    refine wp_ld 24 _ rfl h5 hr ?_
    exact ⟨_, rfl, Grew.refl _, rfl⟩
  · intro a w ht hs hg -- 33
    have h2 := By.same_get hs 2 (by decide) (by kernel_rfl)
    refine By.yes rfl ?_
    clear hs hg
    go_simp
    exact ⟨_, rfl, Grew.refl _, rfl⟩
  · intro a w ht hs hg -- 34
    have h11 := By.same_get hs 11 (by decide) (by kernel_rfl)
    refine By.yes rfl ?_
    clear hs hg
    go_simp
    exact ⟨_, rfl, Grew.refl _, rfl⟩
  · intro a w ht hs hg -- 35
    have h32 : a.tmps.getD 32 undef = _ := By.given_get hg 4 rfl rfl (by kernel_rfl)
    have h33 : a.tmps.getD 33 undef = _ := By.given_get hg 5 rfl rfl (by kernel_rfl)
    have h34 : a.tmps.getD 34 undef = _ := By.given_get hg 6 rfl rfl (by kernel_rfl)
    refine By.yes rfl ?_
    clear hs hg
    have HTw := Lib.hid (HT1.out.below (grew_below ht) HT1.out.1)
    clear ht
    unfold arr8 at h32
    go_simp
    refine (Pkt.Key_any sec Hs.out e He.out k w HTw.out).mono ?_
    rintro x w8 ⟨rfl, hb8⟩
    exact ⟨_, rfl, hb8, congrArg arr8 HYk.out⟩
  · intro a w ht hs hg -- 36
    have h31 : a.tmps.getD 31 undef = _ := By.given_get hg 3 rfl rfl (by kernel_rfl)
    have h35 : a.tmps.getD 35 undef = _ := By.given_get hg 7 rfl rfl (by kernel_rfl)
    refine By.yes rfl ?_
    clear hs hg
    refine wp_neqArr _ _ rfl (by kernel_rfl) h31 h35 (eq32 Y Y HYl.out HYl.out w) ?_
    exact ⟨_, rfl, Grew.refl _, congrArg Value.bool (by simp)⟩
  refine By.ends_is (By.ends_is (By.ends_is (By.ends_is (By.ends_is (By.ends_is (By.ends_is (By.ends_is (By.ends_is (By.ends_nil fun W6 hw6 => ?_)))))))))
  simp only [Act.put, List.setIfInBounds_toArray, List.set_cons_succ, List.set_cons_zero]
  have hb := grew_below hw6
  have HB2 := Lib.hid (nextB HB1.out (Nat.le_refl _) hb)
  have HK2 := Lib.hid (HKa.out.below hb HKa.out.lt)
  have HP2 := Lib.hid (HPa.out.below hb HPa.out.lt)
  have HT2 := Lib.hid (HT1.out.below hb HT1.out.1)
  clear hb hw6
  have HL3 := Lib.hid (l_all HP2.out HPo.out)
  go_wp2_with (first
    | (refine wpList_ld 40 rfl rfl HL3.out rfl ?_)
    | (show wpList _ _ _ (⟨none, Op.store 40 _ _, _, _, _, _⟩ :: _) _ _
       refine wpList_storeRow (g := W6.heap.size) rfl 40 _ _ rfl rfl rfl (cs := p.cells) (Row.new rfl rfl : Row (W6.alloc (.cells (nm 0).cells.toArray 40)) W6.heap.size (nm 0).cells 40) (by kernel_rfl) (Pk.length HPo.out) (Pk.length (nm_ok 0)) (Pk.one HPo.out) ?_
       refine wpList_name fun V hV => ?_
       refine sstop ?_)
    | fail)
  unfold SStop
  obtain ⟨W4, hV2⟩ : ∃ V2, V = V2 := ⟨V, rfl⟩
  rw [hV2] at hV ⊢
  clear hV2
  have hb : Below W6.heap.size W6 W4 := by rw [← hV]; exact (below_setRow ((Below.refl _ W6).alloc (Nat.le_refl _) _) (by omega) _)
  have HQ4 := Lib.hid (show Row W4 W6.heap.size p.cells 40 by rw [← hV]; exact ((Row.new rfl rfl : Row (W6.alloc (.cells (nm 0).cells.toArray 40)) W6.heap.size (nm 0).cells 40).setRow _))
  have HB5 := Lib.hid (nextB HB2.out (Nat.le_refl _) hb)
  have HK5 := Lib.hid (HK2.out.below hb HK2.out.lt)
  have HP5 := Lib.hid (HP2.out.below hb HP2.out.lt)
  have HT5 := Lib.hid (HT2.out.below hb HT2.out.1)
  clear hV hb
  have c37 := c_bo HQ4.out HPo.out
  have f37 := frozen_row HQ4.out 37
  go_wp2_with fail
  clear c37 f37
  obtain ⟨W9, hW9⟩ : ∃ W9, W4.setCell ⟨W6.heap.size, 37, none⟩ (.slice B l.length d) = W9 := ⟨_, rfl⟩
  rw [hW9]
  have hb : Below W6.heap.size W4 W9 := by rw [← hW9]; exact (Below.refl _ W4).setCell (p := ⟨W6.heap.size, 37, none⟩) (Nat.le_refl _) _
  have HQ9 := Lib.hid (show Row W9 W6.heap.size q.cells 40 by
    have h := HQ4.out.set 37 (.slice B l.length d)
    rw [Pk.set_bo HPo.out, HQe.out, hW9] at h
    exact h)
  have HB9 := Lib.hid (HB5.out.trans (hb.mono HB2.out.size))
  have HK9 := Lib.hid (HK5.out.below hb HK2.out.lt)
  have HP9 := Lib.hid (HP5.out.below hb HP2.out.lt)
  have HT9 := Lib.hid (HT5.out.below hb HT2.out.1)
  clear hb hW9
  refine By.marks Pol.mixed Grew [By.is (q.val),
    bsM AL,
    By.is (strOf AL),
    By.is (p.val),
    bsM AL,
    By.is (strOf AL),
    By.is (.bool false),
    By.is (.bool false),
    By.is (.pointer (some ⟨(w.heap.size + 1), 0, none⟩)),
    By.is (.int .i64 p.kind),
    By.is (.bool true),
    By.is (.bool true),
    By.is (p.val),
    bsM AL,
    By.is (.int .i64 0),
    By.is (.bool false),
    By.is (.bool false),
    By.is (.bool false)]
    (Ev.masks _ []) (by kernel_rfl) rfl Grew.refl Grew.trans ⟨?_, ?_, ?_, ?_, ?_, ?_, ?_, ?_, ?_, ?_, ?_, ?_, ?_, ?_, ?_, ?_, ?_, ?_, trivial⟩ ?_
  · intro a w ht hs hg -- 40
    have h12 := By.same_get hs 12 (by decide) (by kernel_rfl)
    refine By.yes rfl ?_
    clear hs hg
    have hr := l_all (Row.below (w := W9.drew) HQ9.out ht HQ9.out.lt) HQo.out
    refine wp_ld 40 _ rfl h12 hr ?_
    exact ⟨_, rfl, Grew.refl _, rfl⟩
  · intro a w ht hs hg -- 41
    have h40 : a.tmps.getD 40 undef = _ := By.given_get hg 0 rfl rfl (by kernel_rfl)
    refine By.yes rfl ?_
    clear hs hg
    clear ht
    unfold Pk.val at h40
    go_simp
    refine (Along_any q HQi.out w).mono ?_
    rintro x w8 ⟨v, rfl, ho, hb8⟩
    rw [HAq.out] at ho
    exact ⟨_, rfl, hb8, ho.bs⟩
  · intro a w ht hs hg -- 42
    have h41 := By.given_get hg 1 rfl rfl (by kernel_rfl)
    refine By.yes rfl ?_
    obtain ⟨v41, hv41⟩ : ∃ v, a.tmps.getD 41 undef = v := ⟨_, rfl⟩
    replace h41 := (congrArg (fun v => (bsM AL).on v w) hv41).mp h41
    clear hs hg
    have hr := run_str w h41
    clear h41 ht
    go_simp
    exact ⟨_, rfl, Grew.refl _, rfl⟩
  · intro a w ht hs hg -- 43
    have h8 := By.same_get hs 8 (by decide) (by kernel_rfl)
    refine By.yes rfl ?_
    clear hs hg
    have hr := l_all (Row.below (w := W9.drew) HP9.out ht HP9.out.lt) HPo.out
    refine wp_ld 40 _ rfl h8 hr ?_
    exact ⟨_, rfl, Grew.refl _, rfl⟩
  · intro a w ht hs hg -- 44
    have h43 : a.tmps.getD 43 undef = _ := By.given_get hg 3 rfl rfl (by kernel_rfl)
    refine By.yes rfl ?_
    clear hs hg
    clear ht
    unfold Pk.val at h43
    go_simp
    refine (Along_any p Hp.out w).mono ?_
    rintro x w8 ⟨v, rfl, ho, hb8⟩
    rw [HAp.out] at ho
    exact ⟨_, rfl, hb8, ho.bs⟩
  · intro a w ht hs hg -- 45
    have h44 := By.given_get hg 4 rfl rfl (by kernel_rfl)
    refine By.yes rfl ?_
    obtain ⟨v44, hv44⟩ : ∃ v, a.tmps.getD 44 undef = v := ⟨_, rfl⟩
    replace h44 := (congrArg (fun v => (bsM AL).on v w) hv44).mp h44
    clear hs hg
    have hr := run_str w h44
    clear h44 ht
    go_simp
    exact ⟨_, rfl, Grew.refl _, rfl⟩
  · intro a w ht hs hg -- 46
    have h42 : a.tmps.getD 42 undef = _ := By.given_get hg 2 rfl rfl (by kernel_rfl)
    have h45 : a.tmps.getD 45 undef = _ := By.given_get hg 5 rfl rfl (by kernel_rfl)
    refine By.yes rfl ?_
    clear hs hg
    clear ht
    have hsg : ∀ u v w, (eqGuard .neq 9 u v (strOf AL) (strOf AL)).run Tryd.prog w = .ok () w := fun u v w => by unfold strOf; simp [eqGuard]
    have hsv : ∀ w, (binOp .neq 9 (strOf AL) (strOf AL)).run Tryd.prog w = .ok (.bool false) w := fun w => by unfold strOf binOp Op.stringOp; simp [Sem.run_pure]
    go_simp
    exact ⟨_, rfl, Grew.refl _, rfl⟩
  · intro a w ht hs hg -- 47
    have h46 : a.tmps.getD 46 undef = _ := By.given_get hg 6 rfl rfl (by kernel_rfl)
    refine By.yes rfl ?_
    clear hs hg
    go_simp
    exact ⟨_, rfl, Grew.refl _, rfl⟩
  · intro a w ht hs hg -- 48
    have h8 := By.same_get hs 8 (by decide) (by kernel_rfl)
    have hg47 := By.given_get hg 7 rfl rfl (by kernel_rfl)
    refine By.yes (By.want_yes rfl rfl hg47) ?_
    clear hg47
    clear hs hg
    go_simp
    exact ⟨_, rfl, Grew.refl _, rfl⟩
  · intro a w ht hs hg -- 49
    have h48 : a.tmps.getD 48 undef = _ := By.given_get hg 8 rfl rfl (by kernel_rfl)
    have hg47 := By.given_get hg 7 rfl rfl (by kernel_rfl)
    refine By.yes (By.want_yes rfl rfl hg47) ?_
    clear hg47
    clear hs hg
    have hc := c_kind (Row.below (w := W9.drew) HP9.out ht HP9.out.lt)
    clear ht
    go_simp
    exact ⟨_, rfl, Grew.refl _, rfl⟩
  · intro a w ht hs hg -- 50
    have h49 : a.tmps.getD 49 undef = _ := By.given_get hg 9 rfl rfl (by kernel_rfl)
    have hg47 := By.given_get hg 7 rfl rfl (by kernel_rfl)
    refine By.yes (By.want_yes rfl rfl hg47) ?_
    clear hg47
    clear hs hg
    clear ht
    go_simp
    first | exact ⟨_, rfl, Grew.refl _, rfl⟩ | exact ⟨_, rfl, Grew.refl _, congrArg Value.bool kneg⟩
  · intro a w ht hs hg -- 51
    have h50 : a.tmps.getD 50 undef = _ := By.given_get hg 10 rfl rfl (by kernel_rfl)
    have hg47 := By.given_get hg 7 rfl rfl (by kernel_rfl)
    refine By.yes (By.want_yes rfl rfl hg47) ?_
    clear hg47
    clear hs hg
    go_simp
    exact ⟨_, rfl, Grew.refl _, rfl⟩
  · intro a w ht hs hg -- 52
    have h8 := By.same_get hs 8 (by decide) (by kernel_rfl)
    have hg51 := By.given_get hg 11 rfl rfl (by kernel_rfl)
    refine By.yes (By.want_yes rfl rfl hg51) ?_
    clear hg51
    clear hs hg
    have hr := l_all (Row.below (w := W9.drew) HP9.out ht HP9.out.lt) HPo.out
    refine wp_ld 40 _ rfl h8 hr ?_
    exact ⟨_, rfl, Grew.refl _, rfl⟩
  · intro a w ht hs hg -- 53
    have h52 : a.tmps.getD 52 undef = _ := By.given_get hg 12 rfl rfl (by kernel_rfl)
    have hg51 := By.given_get hg 11 rfl rfl (by kernel_rfl)
    refine By.yes (By.want_yes rfl rfl hg51) ?_
    clear hg51
    clear hs hg
    clear ht
    unfold Pk.val at h52
    go_simp
    refine (Along_any p Hp.out w).mono ?_
    rintro x w8 ⟨v, rfl, ho, hb8⟩
    rw [HAp.out] at ho
    exact ⟨_, rfl, hb8, ho.bs⟩
  · intro a w ht hs hg -- 54
    have h53 := By.given_get hg 13 rfl rfl (by kernel_rfl)
    have hg51 := By.given_get hg 11 rfl rfl (by kernel_rfl)
    refine By.yes (By.want_yes rfl rfl hg51) ?_
    clear hg51
    obtain ⟨v53, hv53⟩ : ∃ v, a.tmps.getD 53 undef = v := ⟨_, rfl⟩
    replace h53 := (congrArg (fun v => (bsM AL).on v w) hv53).mp h53
    clear hs hg
    clear ht
    rw [HA0.out] at h53
    obtain ⟨A3, c3, rfl, _, _⟩ := h53
    go_simp
    exact ⟨_, rfl, Grew.refl _, rfl⟩
  · intro a w ht hs hg -- 55
    have h54 : a.tmps.getD 54 undef = _ := By.given_get hg 14 rfl rfl (by kernel_rfl)
    have hg51 := By.given_get hg 11 rfl rfl (by kernel_rfl)
    refine By.yes (By.want_yes rfl rfl hg51) ?_
    clear hg51
    clear hs hg
    clear ht
    go_simp
    exact ⟨_, rfl, Grew.refl _, rfl⟩
  · intro a w ht hs hg -- 56
    have h51 : a.tmps.getD 51 undef = _ := By.given_get hg 11 rfl rfl (by kernel_rfl)
    have h55 : a.tmps.getD 55 undef = _ := By.given_get hg 15 rfl rfl (by kernel_rfl)
    have hg47 := By.given_get hg 7 rfl rfl (by kernel_rfl)
    refine By.yes (By.want_yes rfl rfl hg47) ?_
    clear hg47
    clear hs hg
    clear ht
    go_simp
    exact ⟨_, rfl, Grew.refl _, rfl⟩
  · intro a w ht hs hg -- 57
    have h47 : a.tmps.getD 47 undef = _ := By.given_get hg 7 rfl rfl (by kernel_rfl)
    have h56 : a.tmps.getD 56 undef = _ := By.given_get hg 16 rfl rfl (by kernel_rfl)
    refine By.yes rfl ?_
    clear hs hg
    clear ht
    go_simp
    exact ⟨_, rfl, Grew.refl _, rfl⟩
  refine By.ends_is (By.ends_skip fun v41 => (By.ends_is (By.ends_is (By.ends_skip fun v44 => (By.ends_is (By.ends_is (By.ends_is (By.ends_is (By.ends_is (By.ends_is (By.ends_is (By.ends_is (By.ends_skip fun v53 => (By.ends_is (By.ends_is (By.ends_is (By.ends_is (By.ends_nil fun W10 hw10 => ?_))))))))))))))))))
  simp only [Act.put, List.setIfInBounds_toArray, List.set_cons_succ, List.set_cons_zero]
  have hb := grew_below hw10
  have HB6 := Lib.hid (nextB HB9.out (Nat.le_refl _) hb)
  have HK6 := Lib.hid (HK9.out.below hb HK9.out.lt)
  have HP6 := Lib.hid (HP9.out.below hb HP9.out.lt)
  have HQ6 := Lib.hid (HQ9.out.below hb HQ9.out.lt)
  have HT6 := Lib.hid (HT9.out.below hb HT9.out.1)
  clear hb hw10
  have cs := c_ses HP6.out
  have ce := c_epo HP6.out
  have cn := c_cnt HP6.out
  have HMl := Lib.hid ((Hl.out.below HB6.out).more HB6.out.size)
  have HL7 := Lib.hid (l_k HK6.out Hs.out)
  go_wp2_with (first
    | (refine wpList_ld 24 rfl rfl HL7.out rfl ?_)
    | fail)
  refine (Seal_any sec l Hs.out z p.ses p.epo p.cnt B d (by have := Hl3.out; omega) Hok.out HSb.out HEb.out W10 HT6.out HMl.out).mono ?_
  rintro e w11 ⟨⟨b, R, rfl, hgb, hrow⟩, hb⟩
  clear cs ce cn hgb hrow
  obtain ⟨S, hS⟩ : ∃ S, dp p.ses p.epo p.cnt (.slice (some ⟨b, 0, none⟩) (l.length + 16) (l.length + 16)) = S := ⟨_, rfl⟩
  rw [hS]
  have HSo := Lib.hid (show S.Ok by rw [← hS]; exact dp_ok _ _ _ rfl)
  have HSbo := Lib.hid (show S.bo = .slice (some ⟨b, 0, none⟩) (l.length + 16) (l.length + 16) by rw [← hS]; rfl)
  clear hS
  have HB8 := Lib.hid (nextB HB6.out (Nat.le_refl _) hb)
  have HK8 := Lib.hid (HK6.out.below hb HK6.out.lt)
  have HP8 := Lib.hid (HP6.out.below hb HP6.out.lt)
  have HQ8 := Lib.hid (HQ6.out.below hb HQ6.out.lt)
  have HT8 := Lib.hid (HT6.out.below hb HT6.out.1)
  clear hb
  go_wp2_with (first
    | (show wpList _ _ _ (⟨none, Op.store 40 _ _, _, _, _, _⟩ :: _) _ _
       refine wpList_storeRow (g := w11.heap.size) rfl 40 _ _ rfl rfl rfl (cs := S.cells) (Row.new rfl rfl : Row (w11.alloc (.cells (nm 0).cells.toArray 40)) w11.heap.size (nm 0).cells 40) (by kernel_rfl) (Pk.length HSo.out) (Pk.length (nm_ok 0)) (Pk.one HSo.out) ?_
       refine wpList_name fun V hV => ?_
       refine sstop ?_)
    | fail)
  unfold SStop
  obtain ⟨W9, hV2⟩ : ∃ V2, V = V2 := ⟨V, rfl⟩
  rw [hV2] at hV ⊢
  clear hV2
  have hb : Below w11.heap.size w11 W9 := by rw [← hV]; exact (below_setRow ((Below.refl _ w11).alloc (Nat.le_refl _) _) (by omega) _)
  have HS9 := Lib.hid (show Row W9 w11.heap.size S.cells 40 by rw [← hV]; exact ((Row.new rfl rfl : Row (w11.alloc (.cells (nm 0).cells.toArray 40)) w11.heap.size (nm 0).cells 40).setRow _))
  have HB10 := Lib.hid (nextB HB8.out (Nat.le_refl _) hb)
  have HK10 := Lib.hid (HK8.out.below hb HK8.out.lt)
  have HP10 := Lib.hid (HP8.out.below hb HP8.out.lt)
  have HQ10 := Lib.hid (HQ8.out.below hb HQ8.out.lt)
  have HT10 := Lib.hid (HT8.out.below hb HT8.out.1)
  clear hV hb
  have c37 := c_bo HS9.out HSo.out
  rw [HSbo.out] at c37
  have hl3 : (l.length : Int) ≤ 300 := by have := Hl3.out; omega
  go_wp2
  go_ret
  exact ⟨rfl, HB10.out⟩
set_option maxRecDepth 100000 in
set_option maxHeartbeats 4000000 in
theorem walk_tf (sec : List UInt8) (z : Int) (e : Nat) (p : Pk) (m l : List UInt8) (A B : Option Addr) (c d : Nat) (w : World) (ht : Tab w) (hs : sec.length = 32) (he : e < 4294967296) (hz : -9223372036854775808 ≤ z ∧ z ≤ 9223372036854775807) (hp : p.In) (hb : p.bo = .slice A m.length c) (hm : Bs w w.heap.size p.bo m) (hl : Bs w w.heap.size (.slice B l.length d) l) (hl1 : ¬ 300 < m.length) (hl2 : ¬ 300 < l.length) (hkd : p.kind = 3) (hok : ¬ dataOk p.ses p.epo p.cnt) : Calls Tryd.prog 6 #[arr8 sec, .int .i64 z, .int .u32 (e : Int), p.val, .slice B l.length d] w fun e w' => e = .returned (.bool true) ∧ Below w.heap.size w w' := by
  have HB0 := Lib.hid (show Below w.heap.size w ((w.alloc (.cells (sec.map bv).toArray 24)).alloc (.cells p.cells.toArray 40)) from ((Below.refl _ w).alloc (Nat.le_refl _) _).alloc (by simp) _)
  have HT0 := Lib.hid (ht.below HB0.out ht.1)
  have HK0 := Lib.hid (show Row ((w.alloc (.cells (sec.map bv).toArray 24)).alloc (.cells p.cells.toArray 40)) w.heap.size (sec.map bv) 24 from (Row.new rfl rfl).alloc _)
  have HP0 := Lib.hid (show Row ((w.alloc (.cells (sec.map bv).toArray 24)).alloc (.cells p.cells.toArray 40)) (w.heap.size + 1) p.cells 40 from Row.new (by simp) rfl)
  have HLv := Lib.hid (fun w (ht : Tab w) => Pkt.lives_any w ht)
  have HPo := Lib.hid hp.ok
  have HPb := Lib.hid hb
  have h1' : ¬ (300 : Int) < (m.length : Int) := by omega
  have h2' : ¬ (300 : Int) < (l.length : Int) := by omega
  have Hs := Lib.hid hs
  have He := Lib.hid he
  have Hz := Lib.hid hz
  have Hp := Lib.hid hp
  have Hm := Lib.hid hm
  have Hl := Lib.hid hl
  have Hl3 := Lib.hid (show l.length ≤ 300 by omega)
  have Hok := Lib.hid hok
  have Hkd := Lib.hid hkd
  obtain ⟨k, hk⟩ : ∃ k, pick z 2 = k := ⟨_, rfl⟩
  obtain ⟨Y, hY⟩ : ∃ Y, pkey sec e z = Y := ⟨_, rfl⟩
  have HYk := Lib.hid (show pkey sec e k = Y by rw [← hk, pkey_pick, hY])
  have HYe := Lib.hid hY
  have HYl := Lib.hid (show Y.length = 32 by rw [← hY]; exact pkey_length _ _ _)
  obtain ⟨q, hq⟩ : ∃ q : Pk, { p with bo := Value.slice B l.length d } = q := ⟨_, rfl⟩
  have HQe := Lib.hid hq
  have HQi := Lib.hid (show q.In by rw [← hq]; exact ⟨Pk.with_bo hp.ok rfl, hp.s, hp.e, hp.c⟩)
  have HQo := Lib.hid HQi.out.ok
  have HQb := Lib.hid (show q.bo = .slice B l.length d by rw [← hq])
  obtain ⟨AL, hAL⟩ : ∃ AL, alongL p = AL := ⟨_, rfl⟩
  have HAp := Lib.hid hAL
  have HAq := Lib.hid (show alongL q = AL by rw [← hAL]; exact along_body (by rw [← hq]))
  have Hke := Lib.hid hk
  obtain ⟨E, hE⟩ : ∃ E, nm 0 = E := ⟨_, rfl⟩
  have HEe := Lib.hid hE
  have HEo := Lib.hid (show E.Ok by rw [← hE]; exact nm_ok 0)
  clear hE
  have kneg : (p.kind != 3) = false := by simp [hkd]
  clear ht hs he hz hp hb hm hl hl1 hl2 hok hkd hk hY hq hAL
  unfold arr8 Pk.val
  go_enter Tryd.func6, Tryd.ntmps6
  go_wp2_with fail
  refine (HLv.out _ HT0.out).mono ?_
  rintro e w1 ⟨rfl, hb⟩
  have HB1 := Lib.hid (nextB HB0.out (Nat.le_refl _) hb)
  have HT1 := Lib.hid (HT0.out.below hb HT0.out.1)
  have HKa := Lib.hid (HK0.out.below hb HK0.out.lt)
  have HPa := Lib.hid (HP0.out.below hb HP0.out.lt)
  clear hb
  have c37 := c_bo HPa.out HPo.out
  rw [HPb.out] at c37
  go_wp2_with fail
  refine (Pick_any z 2 _ Hz.out (by decide)).mono ?_
  rintro e w' ⟨rfl, rfl⟩
  rw [Hke.out]
  go_wp2_with fail
  clear c37
  refine By.marks Pol.mixed Grew [By.is (arr8 sec),
    By.is (.int .u32 (e : Int)),
    By.is (.int .i64 z),
    By.is (arr8 Y),
    By.is (arr8 sec),
    By.is (.int .u32 (e : Int)),
    By.is (.int .i64 k),
    By.is (arr8 Y),
    By.is (.bool false)]
    (Ev.masks _ []) (by kernel_rfl) rfl Grew.refl Grew.trans ⟨?_, ?_, ?_, ?_, ?_, ?_, ?_, ?_, ?_, trivial⟩ ?_
  · intro a w ht hs hg -- 28
    have h5 := By.same_get hs 5 (by decide) (by kernel_rfl)
    refine By.yes rfl ?_
    clear hs hg
    have hr := l_k (Row.below (w := w1.drew) HKa.out ht HKa.out.lt) Hs.out
    refine wp_ld 24 _ rfl h5 hr ?_
    exact ⟨_, rfl, Grew.refl _, rfl⟩
  · intro a w ht hs hg -- 29
    have h2 := By.same_get hs 2 (by decide) (by kernel_rfl)
    refine By.yes rfl ?_
    clear hs hg
    go_simp
    exact ⟨_, rfl, Grew.refl _, rfl⟩
  · intro a w ht hs hg -- 30
    have h1 := By.same_get hs 1 (by decide) (by kernel_rfl)
    refine By.yes rfl ?_
    clear hs hg
    go_simp
    exact ⟨_, rfl, Grew.refl _, rfl⟩
  · intro a w ht hs hg -- 31
    have h28 : a.tmps.getD 28 undef = _ := By.given_get hg 0 rfl rfl (by kernel_rfl)
    have h29 : a.tmps.getD 29 undef = _ := By.given_get hg 1 rfl rfl (by kernel_rfl)
    have h30 : a.tmps.getD 30 undef = _ := By.given_get hg 2 rfl rfl (by kernel_rfl)
    refine By.yes rfl ?_
    clear hs hg
    have HTw := Lib.hid (HT1.out.below (grew_below ht) HT1.out.1)
    clear ht
    unfold arr8 at h28
    go_simp
    refine (Pkt.Key_any sec Hs.out e He.out z w HTw.out).mono ?_
    rintro x w8 ⟨rfl, hb8⟩
    exact ⟨_, rfl, hb8, congrArg arr8 HYe.out⟩
  · intro a w ht hs hg -- 32
    have h5 := By.same_get hs 5 (by decide) (by kernel_rfl)
    refine By.yes rfl ?_
    clear hs hg
    have hr := l_k (Row.below (w := w1.drew) HKa.out ht HKa.out.lt) Hs.out
    refine wp_ld 24 _ rfl h5 hr ?_
    exact ⟨_, rfl, Grew.refl _, rfl⟩
  · intro a w ht hs hg -- 33
    have h2 := By.same_get hs 2 (by decide) (by kernel_rfl)
    refine By.yes rfl ?_
    clear hs hg
    go_simp
    exact ⟨_, rfl, Grew.refl _, rfl⟩
  · intro a w ht hs hg -- 34
    have h11 := By.same_get hs 11 (by decide) (by kernel_rfl)
    refine By.yes rfl ?_
    clear hs hg
    go_simp
    exact ⟨_, rfl, Grew.refl _, rfl⟩
  · intro a w ht hs hg -- 35
    have h32 : a.tmps.getD 32 undef = _ := By.given_get hg 4 rfl rfl (by kernel_rfl)
    have h33 : a.tmps.getD 33 undef = _ := By.given_get hg 5 rfl rfl (by kernel_rfl)
    have h34 : a.tmps.getD 34 undef = _ := By.given_get hg 6 rfl rfl (by kernel_rfl)
    refine By.yes rfl ?_
    clear hs hg
    have HTw := Lib.hid (HT1.out.below (grew_below ht) HT1.out.1)
    clear ht
    unfold arr8 at h32
    go_simp
    refine (Pkt.Key_any sec Hs.out e He.out k w HTw.out).mono ?_
    rintro x w8 ⟨rfl, hb8⟩
    exact ⟨_, rfl, hb8, congrArg arr8 HYk.out⟩
  · intro a w ht hs hg -- 36
    have h31 : a.tmps.getD 31 undef = _ := By.given_get hg 3 rfl rfl (by kernel_rfl)
    have h35 : a.tmps.getD 35 undef = _ := By.given_get hg 7 rfl rfl (by kernel_rfl)
    refine By.yes rfl ?_
    clear hs hg
    refine wp_neqArr _ _ rfl (by kernel_rfl) h31 h35 (eq32 Y Y HYl.out HYl.out w) ?_
    exact ⟨_, rfl, Grew.refl _, congrArg Value.bool (by simp)⟩
  refine By.ends_is (By.ends_is (By.ends_is (By.ends_is (By.ends_is (By.ends_is (By.ends_is (By.ends_is (By.ends_is (By.ends_nil fun W6 hw6 => ?_)))))))))
  simp only [Act.put, List.setIfInBounds_toArray, List.set_cons_succ, List.set_cons_zero]
  have hb := grew_below hw6
  have HB2 := Lib.hid (nextB HB1.out (Nat.le_refl _) hb)
  have HK2 := Lib.hid (HKa.out.below hb HKa.out.lt)
  have HP2 := Lib.hid (HPa.out.below hb HPa.out.lt)
  have HT2 := Lib.hid (HT1.out.below hb HT1.out.1)
  clear hb hw6
  have HL3 := Lib.hid (l_all HP2.out HPo.out)
  go_wp2_with (first
    | (refine wpList_ld 40 rfl rfl HL3.out rfl ?_)
    | (show wpList _ _ _ (⟨none, Op.store 40 _ _, _, _, _, _⟩ :: _) _ _
       refine wpList_storeRow (g := W6.heap.size) rfl 40 _ _ rfl rfl rfl (cs := p.cells) (Row.new rfl rfl : Row (W6.alloc (.cells (nm 0).cells.toArray 40)) W6.heap.size (nm 0).cells 40) (by kernel_rfl) (Pk.length HPo.out) (Pk.length (nm_ok 0)) (Pk.one HPo.out) ?_
       refine wpList_name fun V hV => ?_
       refine sstop ?_)
    | fail)
  unfold SStop
  obtain ⟨W4, hV2⟩ : ∃ V2, V = V2 := ⟨V, rfl⟩
  rw [hV2] at hV ⊢
  clear hV2
  have hb : Below W6.heap.size W6 W4 := by rw [← hV]; exact (below_setRow ((Below.refl _ W6).alloc (Nat.le_refl _) _) (by omega) _)
  have HQ4 := Lib.hid (show Row W4 W6.heap.size p.cells 40 by rw [← hV]; exact ((Row.new rfl rfl : Row (W6.alloc (.cells (nm 0).cells.toArray 40)) W6.heap.size (nm 0).cells 40).setRow _))
  have HB5 := Lib.hid (nextB HB2.out (Nat.le_refl _) hb)
  have HK5 := Lib.hid (HK2.out.below hb HK2.out.lt)
  have HP5 := Lib.hid (HP2.out.below hb HP2.out.lt)
  have HT5 := Lib.hid (HT2.out.below hb HT2.out.1)
  clear hV hb
  have c37 := c_bo HQ4.out HPo.out
  have f37 := frozen_row HQ4.out 37
  go_wp2_with fail
  clear c37 f37
  obtain ⟨W9, hW9⟩ : ∃ W9, W4.setCell ⟨W6.heap.size, 37, none⟩ (.slice B l.length d) = W9 := ⟨_, rfl⟩
  rw [hW9]
  have hb : Below W6.heap.size W4 W9 := by rw [← hW9]; exact (Below.refl _ W4).setCell (p := ⟨W6.heap.size, 37, none⟩) (Nat.le_refl _) _
  have HQ9 := Lib.hid (show Row W9 W6.heap.size q.cells 40 by
    have h := HQ4.out.set 37 (.slice B l.length d)
    rw [Pk.set_bo HPo.out, HQe.out, hW9] at h
    exact h)
  have HB9 := Lib.hid (HB5.out.trans (hb.mono HB2.out.size))
  have HK9 := Lib.hid (HK5.out.below hb HK2.out.lt)
  have HP9 := Lib.hid (HP5.out.below hb HP2.out.lt)
  have HT9 := Lib.hid (HT5.out.below hb HT2.out.1)
  clear hb hW9
  refine By.marks Pol.mixed Grew [By.is (q.val),
    bsM AL,
    By.is (strOf AL),
    By.is (p.val),
    bsM AL,
    By.is (strOf AL),
    By.is (.bool false),
    By.is (.bool false),
    By.is (.pointer (some ⟨(w.heap.size + 1), 0, none⟩)),
    By.is (.int .i64 p.kind),
    By.is (.bool false),
    By.is (.bool false),
    By.is undef,
    By.is undef,
    By.is undef,
    By.is undef,
    By.is (.bool false),
    By.is (.bool false)]
    (Ev.masks _ []) (by kernel_rfl) rfl Grew.refl Grew.trans ⟨?_, ?_, ?_, ?_, ?_, ?_, ?_, ?_, ?_, ?_, ?_, ?_, ?_, ?_, ?_, ?_, ?_, ?_, trivial⟩ ?_
  · intro a w ht hs hg -- 40
    have h12 := By.same_get hs 12 (by decide) (by kernel_rfl)
    refine By.yes rfl ?_
    clear hs hg
    have hr := l_all (Row.below (w := W9.drew) HQ9.out ht HQ9.out.lt) HQo.out
    refine wp_ld 40 _ rfl h12 hr ?_
    exact ⟨_, rfl, Grew.refl _, rfl⟩
  · intro a w ht hs hg -- 41
    have h40 : a.tmps.getD 40 undef = _ := By.given_get hg 0 rfl rfl (by kernel_rfl)
    refine By.yes rfl ?_
    clear hs hg
    clear ht
    unfold Pk.val at h40
    go_simp
    refine (Along_any q HQi.out w).mono ?_
    rintro x w8 ⟨v, rfl, ho, hb8⟩
    rw [HAq.out] at ho
    exact ⟨_, rfl, hb8, ho.bs⟩
  · intro a w ht hs hg -- 42
    have h41 := By.given_get hg 1 rfl rfl (by kernel_rfl)
    refine By.yes rfl ?_
    obtain ⟨v41, hv41⟩ : ∃ v, a.tmps.getD 41 undef = v := ⟨_, rfl⟩
    replace h41 := (congrArg (fun v => (bsM AL).on v w) hv41).mp h41
    clear hs hg
    have hr := run_str w h41
    clear h41 ht
    go_simp
    exact ⟨_, rfl, Grew.refl _, rfl⟩
  · intro a w ht hs hg -- 43
    have h8 := By.same_get hs 8 (by decide) (by kernel_rfl)
    refine By.yes rfl ?_
    clear hs hg
    have hr := l_all (Row.below (w := W9.drew) HP9.out ht HP9.out.lt) HPo.out
    refine wp_ld 40 _ rfl h8 hr ?_
    exact ⟨_, rfl, Grew.refl _, rfl⟩
  · intro a w ht hs hg -- 44
    have h43 : a.tmps.getD 43 undef = _ := By.given_get hg 3 rfl rfl (by kernel_rfl)
    refine By.yes rfl ?_
    clear hs hg
    clear ht
    unfold Pk.val at h43
    go_simp
    refine (Along_any p Hp.out w).mono ?_
    rintro x w8 ⟨v, rfl, ho, hb8⟩
    rw [HAp.out] at ho
    exact ⟨_, rfl, hb8, ho.bs⟩
  · intro a w ht hs hg -- 45
    have h44 := By.given_get hg 4 rfl rfl (by kernel_rfl)
    refine By.yes rfl ?_
    obtain ⟨v44, hv44⟩ : ∃ v, a.tmps.getD 44 undef = v := ⟨_, rfl⟩
    replace h44 := (congrArg (fun v => (bsM AL).on v w) hv44).mp h44
    clear hs hg
    have hr := run_str w h44
    clear h44 ht
    go_simp
    exact ⟨_, rfl, Grew.refl _, rfl⟩
  · intro a w ht hs hg -- 46
    have h42 : a.tmps.getD 42 undef = _ := By.given_get hg 2 rfl rfl (by kernel_rfl)
    have h45 : a.tmps.getD 45 undef = _ := By.given_get hg 5 rfl rfl (by kernel_rfl)
    refine By.yes rfl ?_
    clear hs hg
    clear ht
    have hsg : ∀ u v w, (eqGuard .neq 9 u v (strOf AL) (strOf AL)).run Tryd.prog w = .ok () w := fun u v w => by unfold strOf; simp [eqGuard]
    have hsv : ∀ w, (binOp .neq 9 (strOf AL) (strOf AL)).run Tryd.prog w = .ok (.bool false) w := fun w => by unfold strOf binOp Op.stringOp; simp [Sem.run_pure]
    go_simp
    exact ⟨_, rfl, Grew.refl _, rfl⟩
  · intro a w ht hs hg -- 47
    have h46 : a.tmps.getD 46 undef = _ := By.given_get hg 6 rfl rfl (by kernel_rfl)
    refine By.yes rfl ?_
    clear hs hg
    go_simp
    exact ⟨_, rfl, Grew.refl _, rfl⟩
  · intro a w ht hs hg -- 48
    have h8 := By.same_get hs 8 (by decide) (by kernel_rfl)
    have hg47 := By.given_get hg 7 rfl rfl (by kernel_rfl)
    refine By.yes (By.want_yes rfl rfl hg47) ?_
    clear hg47
    clear hs hg
    go_simp
    exact ⟨_, rfl, Grew.refl _, rfl⟩
  · intro a w ht hs hg -- 49
    have h48 : a.tmps.getD 48 undef = _ := By.given_get hg 8 rfl rfl (by kernel_rfl)
    have hg47 := By.given_get hg 7 rfl rfl (by kernel_rfl)
    refine By.yes (By.want_yes rfl rfl hg47) ?_
    clear hg47
    clear hs hg
    have hc := c_kind (Row.below (w := W9.drew) HP9.out ht HP9.out.lt)
    clear ht
    go_simp
    exact ⟨_, rfl, Grew.refl _, rfl⟩
  · intro a w ht hs hg -- 50
    have h49 : a.tmps.getD 49 undef = _ := By.given_get hg 9 rfl rfl (by kernel_rfl)
    have hg47 := By.given_get hg 7 rfl rfl (by kernel_rfl)
    refine By.yes (By.want_yes rfl rfl hg47) ?_
    clear hg47
    clear hs hg
    clear ht
    go_simp
    first | exact ⟨_, rfl, Grew.refl _, rfl⟩ | exact ⟨_, rfl, Grew.refl _, congrArg Value.bool kneg⟩
  · intro a w ht hs hg -- 51
    have h50 : a.tmps.getD 50 undef = _ := By.given_get hg 10 rfl rfl (by kernel_rfl)
    have hg47 := By.given_get hg 7 rfl rfl (by kernel_rfl)
    refine By.yes (By.want_yes rfl rfl hg47) ?_
    clear hg47
    clear hs hg
    go_simp
    exact ⟨_, rfl, Grew.refl _, rfl⟩
  · intro a w ht hs hg -- 52
    have hg51 := By.given_get hg 11 rfl rfl (by kernel_rfl)
    exact By.no (By.want_no rfl rfl hg51 (by decide)) rfl
  · intro a w ht hs hg -- 53
    have hg51 := By.given_get hg 11 rfl rfl (by kernel_rfl)
    exact By.no (By.want_no rfl rfl hg51 (by decide)) rfl
  · intro a w ht hs hg -- 54
    have hg51 := By.given_get hg 11 rfl rfl (by kernel_rfl)
    exact By.no (By.want_no rfl rfl hg51 (by decide)) rfl
  · intro a w ht hs hg -- 55
    have hg51 := By.given_get hg 11 rfl rfl (by kernel_rfl)
    exact By.no (By.want_no rfl rfl hg51 (by decide)) rfl
  · intro a w ht hs hg -- 56
    have h51 : a.tmps.getD 51 undef = _ := By.given_get hg 11 rfl rfl (by kernel_rfl)
    have hg47 := By.given_get hg 7 rfl rfl (by kernel_rfl)
    refine By.yes (By.want_yes rfl rfl hg47) ?_
    clear hg47
    clear hs hg
    clear ht
    go_simp
    exact ⟨_, rfl, Grew.refl _, rfl⟩
  · intro a w ht hs hg -- 57
    have h47 : a.tmps.getD 47 undef = _ := By.given_get hg 7 rfl rfl (by kernel_rfl)
    have h56 : a.tmps.getD 56 undef = _ := By.given_get hg 16 rfl rfl (by kernel_rfl)
    refine By.yes rfl ?_
    clear hs hg
    clear ht
    go_simp
    exact ⟨_, rfl, Grew.refl _, rfl⟩
  refine By.ends_is (By.ends_skip fun v41 => (By.ends_is (By.ends_is (By.ends_skip fun v44 => (By.ends_is (By.ends_is (By.ends_is (By.ends_is (By.ends_is (By.ends_is (By.ends_is (By.ends_skip fun v52 => (By.ends_skip fun v53 => (By.ends_skip fun v54 => (By.ends_skip fun v55 => (By.ends_is (By.ends_is (By.ends_nil fun W10 hw10 => ?_))))))))))))))))))
  simp only [Act.put, List.setIfInBounds_toArray, List.set_cons_succ, List.set_cons_zero]
  have hb := grew_below hw10
  have HB6 := Lib.hid (nextB HB9.out (Nat.le_refl _) hb)
  have HK6 := Lib.hid (HK9.out.below hb HK9.out.lt)
  have HP6 := Lib.hid (HP9.out.below hb HP9.out.lt)
  have HQ6 := Lib.hid (HQ9.out.below hb HQ9.out.lt)
  have HT6 := Lib.hid (HT9.out.below hb HT9.out.1)
  clear hb hw10
  have cs := c_ses HP6.out
  have ce := c_epo HP6.out
  have cn := c_cnt HP6.out
  have HMl := Lib.hid ((Hl.out.below HB6.out).more HB6.out.size)
  have HL7 := Lib.hid (l_k HK6.out Hs.out)
  go_wp2_with (first
    | (refine wpList_ld 24 rfl rfl HL7.out rfl ?_)
    | fail)
  refine (Seal_args sec l Hs.out z p.ses p.epo p.cnt B d (by have := Hl3.out; omega) Hok.out W10).mono ?_
  rintro e w11 ⟨rfl, hb⟩
  rw [HEe.out]
  clear cs ce cn
  have HB8 := Lib.hid (nextB HB6.out (Nat.le_refl _) hb)
  have HK8 := Lib.hid (HK6.out.below hb HK6.out.lt)
  have HP8 := Lib.hid (HP6.out.below hb HP6.out.lt)
  have HQ8 := Lib.hid (HQ6.out.below hb HQ6.out.lt)
  have HT8 := Lib.hid (HT6.out.below hb HT6.out.1)
  clear hb
  go_wp2_with (first
    | (show wpList _ _ _ (⟨none, Op.store 40 _ _, _, _, _, _⟩ :: _) _ _
       refine wpList_storeRow (g := w11.heap.size) rfl 40 _ _ rfl rfl rfl (cs := E.cells) (Row.new rfl rfl : Row (w11.alloc (.cells (nm 0).cells.toArray 40)) w11.heap.size (nm 0).cells 40) (by kernel_rfl) (Pk.length HEo.out) (Pk.length (nm_ok 0)) (Pk.one HEo.out) ?_
       refine wpList_name fun V hV => ?_
       refine sstop ?_)
    | fail)
  unfold SStop
  obtain ⟨W9, hV2⟩ : ∃ V2, V = V2 := ⟨V, rfl⟩
  rw [hV2] at hV ⊢
  clear hV2
  have hb : Below w11.heap.size w11 W9 := by rw [← hV]; exact (below_setRow ((Below.refl _ w11).alloc (Nat.le_refl _) _) (by omega) _)
  have HS9 := Lib.hid (show Row W9 w11.heap.size E.cells 40 by rw [← hV]; exact ((Row.new rfl rfl : Row (w11.alloc (.cells (nm 0).cells.toArray 40)) w11.heap.size (nm 0).cells 40).setRow _))
  have HB10 := Lib.hid (nextB HB8.out (Nat.le_refl _) hb)
  have HK10 := Lib.hid (HK8.out.below hb HK8.out.lt)
  have HP10 := Lib.hid (HP8.out.below hb HP8.out.lt)
  have HQ10 := Lib.hid (HQ8.out.below hb HQ8.out.lt)
  have HT10 := Lib.hid (HT8.out.below hb HT8.out.1)
  clear hV hb
  go_wp2
  go_ret
  exact ⟨rfl, HB10.out⟩
set_option maxRecDepth 100000 in
set_option maxHeartbeats 4000000 in
theorem walk_tt (sec : List UInt8) (z : Int) (e : Nat) (p : Pk) (m l : List UInt8) (A B : Option Addr) (c d : Nat) (w : World) (ht : Tab w) (hs : sec.length = 32) (he : e < 4294967296) (hz : -9223372036854775808 ≤ z ∧ z ≤ 9223372036854775807) (hp : p.In) (hb : p.bo = .slice A m.length c) (hm : Bs w w.heap.size p.bo m) (hl : Bs w w.heap.size (.slice B l.length d) l) (hl1 : ¬ 300 < m.length) (hl2 : ¬ 300 < l.length) (hkd : p.kind = 3) (hok : dataOk p.ses p.epo p.cnt) : Calls Tryd.prog 6 #[arr8 sec, .int .i64 z, .int .u32 (e : Int), p.val, .slice B l.length d] w fun e w' => e = .returned (.bool true) ∧ Below w.heap.size w w' := by
  have HB0 := Lib.hid (show Below w.heap.size w ((w.alloc (.cells (sec.map bv).toArray 24)).alloc (.cells p.cells.toArray 40)) from ((Below.refl _ w).alloc (Nat.le_refl _) _).alloc (by simp) _)
  have HT0 := Lib.hid (ht.below HB0.out ht.1)
  have HK0 := Lib.hid (show Row ((w.alloc (.cells (sec.map bv).toArray 24)).alloc (.cells p.cells.toArray 40)) w.heap.size (sec.map bv) 24 from (Row.new rfl rfl).alloc _)
  have HP0 := Lib.hid (show Row ((w.alloc (.cells (sec.map bv).toArray 24)).alloc (.cells p.cells.toArray 40)) (w.heap.size + 1) p.cells 40 from Row.new (by simp) rfl)
  have HLv := Lib.hid (fun w (ht : Tab w) => Pkt.lives_any w ht)
  have HPo := Lib.hid hp.ok
  have HPb := Lib.hid hb
  have h1' : ¬ (300 : Int) < (m.length : Int) := by omega
  have h2' : ¬ (300 : Int) < (l.length : Int) := by omega
  have Hs := Lib.hid hs
  have He := Lib.hid he
  have Hz := Lib.hid hz
  have Hp := Lib.hid hp
  have Hm := Lib.hid hm
  have Hl := Lib.hid hl
  have Hl3 := Lib.hid (show l.length ≤ 300 by omega)
  have Hok := Lib.hid hok
  have Hkd := Lib.hid hkd
  obtain ⟨k, hk⟩ : ∃ k, pick z 2 = k := ⟨_, rfl⟩
  obtain ⟨Y, hY⟩ : ∃ Y, pkey sec e z = Y := ⟨_, rfl⟩
  have HYk := Lib.hid (show pkey sec e k = Y by rw [← hk, pkey_pick, hY])
  have HYe := Lib.hid hY
  have HYl := Lib.hid (show Y.length = 32 by rw [← hY]; exact pkey_length _ _ _)
  obtain ⟨q, hq⟩ : ∃ q : Pk, { p with bo := Value.slice B l.length d } = q := ⟨_, rfl⟩
  have HQe := Lib.hid hq
  have HQi := Lib.hid (show q.In by rw [← hq]; exact ⟨Pk.with_bo hp.ok rfl, hp.s, hp.e, hp.c⟩)
  have HQo := Lib.hid HQi.out.ok
  have HQb := Lib.hid (show q.bo = .slice B l.length d by rw [← hq])
  obtain ⟨AL, hAL⟩ : ∃ AL, alongL p = AL := ⟨_, rfl⟩
  have HAp := Lib.hid hAL
  have HAq := Lib.hid (show alongL q = AL by rw [← hAL]; exact along_body (by rw [← hq]))
  have Hke := Lib.hid hk
  have HSb := Lib.hid hp.s
  have HEb := Lib.hid hp.e
  have kneg : (p.kind != 3) = false := by simp [hkd]
  clear ht hs he hz hp hb hm hl hl1 hl2 hok hkd hk hY hq hAL
  unfold arr8 Pk.val
  go_enter Tryd.func6, Tryd.ntmps6
  go_wp2_with fail
  refine (HLv.out _ HT0.out).mono ?_
  rintro e w1 ⟨rfl, hb⟩
  have HB1 := Lib.hid (nextB HB0.out (Nat.le_refl _) hb)
  have HT1 := Lib.hid (HT0.out.below hb HT0.out.1)
  have HKa := Lib.hid (HK0.out.below hb HK0.out.lt)
  have HPa := Lib.hid (HP0.out.below hb HP0.out.lt)
  clear hb
  have c37 := c_bo HPa.out HPo.out
  rw [HPb.out] at c37
  go_wp2_with fail
  refine (Pick_any z 2 _ Hz.out (by decide)).mono ?_
  rintro e w' ⟨rfl, rfl⟩
  rw [Hke.out]
  go_wp2_with fail
  clear c37
  refine By.marks Pol.mixed Grew [By.is (arr8 sec),
    By.is (.int .u32 (e : Int)),
    By.is (.int .i64 z),
    By.is (arr8 Y),
    By.is (arr8 sec),
    By.is (.int .u32 (e : Int)),
    By.is (.int .i64 k),
    By.is (arr8 Y),
    By.is (.bool false)]
    (Ev.masks _ []) (by kernel_rfl) rfl Grew.refl Grew.trans ⟨?_, ?_, ?_, ?_, ?_, ?_, ?_, ?_, ?_, trivial⟩ ?_
  · intro a w ht hs hg -- 28
    have h5 := By.same_get hs 5 (by decide) (by kernel_rfl)
    refine By.yes rfl ?_
    clear hs hg
    have hr := l_k (Row.below (w := w1.drew) HKa.out ht HKa.out.lt) Hs.out
    refine wp_ld 24 _ rfl h5 hr ?_
    exact ⟨_, rfl, Grew.refl _, rfl⟩
  · intro a w ht hs hg -- 29
    have h2 := By.same_get hs 2 (by decide) (by kernel_rfl)
    refine By.yes rfl ?_
    clear hs hg
    go_simp
    exact ⟨_, rfl, Grew.refl _, rfl⟩
  · intro a w ht hs hg -- 30
    have h1 := By.same_get hs 1 (by decide) (by kernel_rfl)
    refine By.yes rfl ?_
    clear hs hg
    go_simp
    exact ⟨_, rfl, Grew.refl _, rfl⟩
  · intro a w ht hs hg -- 31
    have h28 : a.tmps.getD 28 undef = _ := By.given_get hg 0 rfl rfl (by kernel_rfl)
    have h29 : a.tmps.getD 29 undef = _ := By.given_get hg 1 rfl rfl (by kernel_rfl)
    have h30 : a.tmps.getD 30 undef = _ := By.given_get hg 2 rfl rfl (by kernel_rfl)
    refine By.yes rfl ?_
    clear hs hg
    have HTw := Lib.hid (HT1.out.below (grew_below ht) HT1.out.1)
    clear ht
    unfold arr8 at h28
    go_simp
    refine (Pkt.Key_any sec Hs.out e He.out z w HTw.out).mono ?_
    rintro x w8 ⟨rfl, hb8⟩
    exact ⟨_, rfl, hb8, congrArg arr8 HYe.out⟩
  · intro a w ht hs hg -- 32
    have h5 := By.same_get hs 5 (by decide) (by kernel_rfl)
    refine By.yes rfl ?_
    clear hs hg
    have hr := l_k (Row.below (w := w1.drew) HKa.out ht HKa.out.lt) Hs.out
    refine wp_ld 24 _ rfl h5 hr ?_
    exact ⟨_, rfl, Grew.refl _, rfl⟩
  · intro a w ht hs hg -- 33
    have h2 := By.same_get hs 2 (by decide) (by kernel_rfl)
    refine By.yes rfl ?_
    clear hs hg
    go_simp
    exact ⟨_, rfl, Grew.refl _, rfl⟩
  · intro a w ht hs hg -- 34
    have h11 := By.same_get hs 11 (by decide) (by kernel_rfl)
    refine By.yes rfl ?_
    clear hs hg
    go_simp
    exact ⟨_, rfl, Grew.refl _, rfl⟩
  · intro a w ht hs hg -- 35
    have h32 : a.tmps.getD 32 undef = _ := By.given_get hg 4 rfl rfl (by kernel_rfl)
    have h33 : a.tmps.getD 33 undef = _ := By.given_get hg 5 rfl rfl (by kernel_rfl)
    have h34 : a.tmps.getD 34 undef = _ := By.given_get hg 6 rfl rfl (by kernel_rfl)
    refine By.yes rfl ?_
    clear hs hg
    have HTw := Lib.hid (HT1.out.below (grew_below ht) HT1.out.1)
    clear ht
    unfold arr8 at h32
    go_simp
    refine (Pkt.Key_any sec Hs.out e He.out k w HTw.out).mono ?_
    rintro x w8 ⟨rfl, hb8⟩
    exact ⟨_, rfl, hb8, congrArg arr8 HYk.out⟩
  · intro a w ht hs hg -- 36
    have h31 : a.tmps.getD 31 undef = _ := By.given_get hg 3 rfl rfl (by kernel_rfl)
    have h35 : a.tmps.getD 35 undef = _ := By.given_get hg 7 rfl rfl (by kernel_rfl)
    refine By.yes rfl ?_
    clear hs hg
    refine wp_neqArr _ _ rfl (by kernel_rfl) h31 h35 (eq32 Y Y HYl.out HYl.out w) ?_
    exact ⟨_, rfl, Grew.refl _, congrArg Value.bool (by simp)⟩
  refine By.ends_is (By.ends_is (By.ends_is (By.ends_is (By.ends_is (By.ends_is (By.ends_is (By.ends_is (By.ends_is (By.ends_nil fun W6 hw6 => ?_)))))))))
  simp only [Act.put, List.setIfInBounds_toArray, List.set_cons_succ, List.set_cons_zero]
  have hb := grew_below hw6
  have HB2 := Lib.hid (nextB HB1.out (Nat.le_refl _) hb)
  have HK2 := Lib.hid (HKa.out.below hb HKa.out.lt)
  have HP2 := Lib.hid (HPa.out.below hb HPa.out.lt)
  have HT2 := Lib.hid (HT1.out.below hb HT1.out.1)
  clear hb hw6
  have HL3 := Lib.hid (l_all HP2.out HPo.out)
  go_wp2_with (first
    | (refine wpList_ld 40 rfl rfl HL3.out rfl ?_)
    | (show wpList _ _ _ (⟨none, Op.store 40 _ _, _, _, _, _⟩ :: _) _ _
       refine wpList_storeRow (g := W6.heap.size) rfl 40 _ _ rfl rfl rfl (cs := p.cells) (Row.new rfl rfl : Row (W6.alloc (.cells (nm 0).cells.toArray 40)) W6.heap.size (nm 0).cells 40) (by kernel_rfl) (Pk.length HPo.out) (Pk.length (nm_ok 0)) (Pk.one HPo.out) ?_
       refine wpList_name fun V hV => ?_
       refine sstop ?_)
    | fail)
  unfold SStop
  obtain ⟨W4, hV2⟩ : ∃ V2, V = V2 := ⟨V, rfl⟩
  rw [hV2] at hV ⊢
  clear hV2
  have hb : Below W6.heap.size W6 W4 := by rw [← hV]; exact (below_setRow ((Below.refl _ W6).alloc (Nat.le_refl _) _) (by omega) _)
  have HQ4 := Lib.hid (show Row W4 W6.heap.size p.cells 40 by rw [← hV]; exact ((Row.new rfl rfl : Row (W6.alloc (.cells (nm 0).cells.toArray 40)) W6.heap.size (nm 0).cells 40).setRow _))
  have HB5 := Lib.hid (nextB HB2.out (Nat.le_refl _) hb)
  have HK5 := Lib.hid (HK2.out.below hb HK2.out.lt)
  have HP5 := Lib.hid (HP2.out.below hb HP2.out.lt)
  have HT5 := Lib.hid (HT2.out.below hb HT2.out.1)
  clear hV hb
  have c37 := c_bo HQ4.out HPo.out
  have f37 := frozen_row HQ4.out 37
  go_wp2_with fail
  clear c37 f37
  obtain ⟨W9, hW9⟩ : ∃ W9, W4.setCell ⟨W6.heap.size, 37, none⟩ (.slice B l.length d) = W9 := ⟨_, rfl⟩
  rw [hW9]
  have hb : Below W6.heap.size W4 W9 := by rw [← hW9]; exact (Below.refl _ W4).setCell (p := ⟨W6.heap.size, 37, none⟩) (Nat.le_refl _) _
  have HQ9 := Lib.hid (show Row W9 W6.heap.size q.cells 40 by
    have h := HQ4.out.set 37 (.slice B l.length d)
    rw [Pk.set_bo HPo.out, HQe.out, hW9] at h
    exact h)
  have HB9 := Lib.hid (HB5.out.trans (hb.mono HB2.out.size))
  have HK9 := Lib.hid (HK5.out.below hb HK2.out.lt)
  have HP9 := Lib.hid (HP5.out.below hb HP2.out.lt)
  have HT9 := Lib.hid (HT5.out.below hb HT2.out.1)
  clear hb hW9
  refine By.marks Pol.mixed Grew [By.is (q.val),
    bsM AL,
    By.is (strOf AL),
    By.is (p.val),
    bsM AL,
    By.is (strOf AL),
    By.is (.bool false),
    By.is (.bool false),
    By.is (.pointer (some ⟨(w.heap.size + 1), 0, none⟩)),
    By.is (.int .i64 p.kind),
    By.is (.bool false),
    By.is (.bool false),
    By.is undef,
    By.is undef,
    By.is undef,
    By.is undef,
    By.is (.bool false),
    By.is (.bool false)]
    (Ev.masks _ []) (by kernel_rfl) rfl Grew.refl Grew.trans ⟨?_, ?_, ?_, ?_, ?_, ?_, ?_, ?_, ?_, ?_, ?_, ?_, ?_, ?_, ?_, ?_, ?_, ?_, trivial⟩ ?_
  · intro a w ht hs hg -- 40
    have h12 := By.same_get hs 12 (by decide) (by kernel_rfl)
    refine By.yes rfl ?_
    clear hs hg
    have hr := l_all (Row.below (w := W9.drew) HQ9.out ht HQ9.out.lt) HQo.out
    refine wp_ld 40 _ rfl h12 hr ?_
    exact ⟨_, rfl, Grew.refl _, rfl⟩
  · intro a w ht hs hg -- 41
    have h40 : a.tmps.getD 40 undef = _ := By.given_get hg 0 rfl rfl (by kernel_rfl)
    refine By.yes rfl ?_
    clear hs hg
    clear ht
    unfold Pk.val at h40
    go_simp
    refine (Along_any q HQi.out w).mono ?_
    rintro x w8 ⟨v, rfl, ho, hb8⟩
    rw [HAq.out] at ho
    exact ⟨_, rfl, hb8, ho.bs⟩
  · intro a w ht hs hg -- 42
    have h41 := By.given_get hg 1 rfl rfl (by kernel_rfl)
    refine By.yes rfl ?_
    obtain ⟨v41, hv41⟩ : ∃ v, a.tmps.getD 41 undef = v := ⟨_, rfl⟩
    replace h41 := (congrArg (fun v => (bsM AL).on v w) hv41).mp h41
    clear hs hg
    have hr := run_str w h41
    clear h41 ht
    go_simp
    exact ⟨_, rfl, Grew.refl _, rfl⟩
  · intro a w ht hs hg -- 43
    have h8 := By.same_get hs 8 (by decide) (by kernel_rfl)
    refine By.yes rfl ?_
    clear hs hg
    have hr := l_all (Row.below (w := W9.drew) HP9.out ht HP9.out.lt) HPo.out
    refine wp_ld 40 _ rfl h8 hr ?_
    exact ⟨_, rfl, Grew.refl _, rfl⟩
  · intro a w ht hs hg -- 44
    have h43 : a.tmps.getD 43 undef = _ := By.given_get hg 3 rfl rfl (by kernel_rfl)
    refine By.yes rfl ?_
    clear hs hg
    clear ht
    unfold Pk.val at h43
    go_simp
    refine (Along_any p Hp.out w).mono ?_
    rintro x w8 ⟨v, rfl, ho, hb8⟩
    rw [HAp.out] at ho
    exact ⟨_, rfl, hb8, ho.bs⟩
  · intro a w ht hs hg -- 45
    have h44 := By.given_get hg 4 rfl rfl (by kernel_rfl)
    refine By.yes rfl ?_
    obtain ⟨v44, hv44⟩ : ∃ v, a.tmps.getD 44 undef = v := ⟨_, rfl⟩
    replace h44 := (congrArg (fun v => (bsM AL).on v w) hv44).mp h44
    clear hs hg
    have hr := run_str w h44
    clear h44 ht
    go_simp
    exact ⟨_, rfl, Grew.refl _, rfl⟩
  · intro a w ht hs hg -- 46
    have h42 : a.tmps.getD 42 undef = _ := By.given_get hg 2 rfl rfl (by kernel_rfl)
    have h45 : a.tmps.getD 45 undef = _ := By.given_get hg 5 rfl rfl (by kernel_rfl)
    refine By.yes rfl ?_
    clear hs hg
    clear ht
    have hsg : ∀ u v w, (eqGuard .neq 9 u v (strOf AL) (strOf AL)).run Tryd.prog w = .ok () w := fun u v w => by unfold strOf; simp [eqGuard]
    have hsv : ∀ w, (binOp .neq 9 (strOf AL) (strOf AL)).run Tryd.prog w = .ok (.bool false) w := fun w => by unfold strOf binOp Op.stringOp; simp [Sem.run_pure]
    go_simp
    exact ⟨_, rfl, Grew.refl _, rfl⟩
  · intro a w ht hs hg -- 47
    have h46 : a.tmps.getD 46 undef = _ := By.given_get hg 6 rfl rfl (by kernel_rfl)
    refine By.yes rfl ?_
    clear hs hg
    go_simp
    exact ⟨_, rfl, Grew.refl _, rfl⟩
  · intro a w ht hs hg -- 48
    have h8 := By.same_get hs 8 (by decide) (by kernel_rfl)
    have hg47 := By.given_get hg 7 rfl rfl (by kernel_rfl)
    refine By.yes (By.want_yes rfl rfl hg47) ?_
    clear hg47
    clear hs hg
    go_simp
    exact ⟨_, rfl, Grew.refl _, rfl⟩
  · intro a w ht hs hg -- 49
    have h48 : a.tmps.getD 48 undef = _ := By.given_get hg 8 rfl rfl (by kernel_rfl)
    have hg47 := By.given_get hg 7 rfl rfl (by kernel_rfl)
    refine By.yes (By.want_yes rfl rfl hg47) ?_
    clear hg47
    clear hs hg
    have hc := c_kind (Row.below (w := W9.drew) HP9.out ht HP9.out.lt)
    clear ht
    go_simp
    exact ⟨_, rfl, Grew.refl _, rfl⟩
  · intro a w ht hs hg -- 50
    have h49 : a.tmps.getD 49 undef = _ := By.given_get hg 9 rfl rfl (by kernel_rfl)
    have hg47 := By.given_get hg 7 rfl rfl (by kernel_rfl)
    refine By.yes (By.want_yes rfl rfl hg47) ?_
    clear hg47
    clear hs hg
    clear ht
    go_simp
    first | exact ⟨_, rfl, Grew.refl _, rfl⟩ | exact ⟨_, rfl, Grew.refl _, congrArg Value.bool kneg⟩
  · intro a w ht hs hg -- 51
    have h50 : a.tmps.getD 50 undef = _ := By.given_get hg 10 rfl rfl (by kernel_rfl)
    have hg47 := By.given_get hg 7 rfl rfl (by kernel_rfl)
    refine By.yes (By.want_yes rfl rfl hg47) ?_
    clear hg47
    clear hs hg
    go_simp
    exact ⟨_, rfl, Grew.refl _, rfl⟩
  · intro a w ht hs hg -- 52
    have hg51 := By.given_get hg 11 rfl rfl (by kernel_rfl)
    exact By.no (By.want_no rfl rfl hg51 (by decide)) rfl
  · intro a w ht hs hg -- 53
    have hg51 := By.given_get hg 11 rfl rfl (by kernel_rfl)
    exact By.no (By.want_no rfl rfl hg51 (by decide)) rfl
  · intro a w ht hs hg -- 54
    have hg51 := By.given_get hg 11 rfl rfl (by kernel_rfl)
    exact By.no (By.want_no rfl rfl hg51 (by decide)) rfl
  · intro a w ht hs hg -- 55
    have hg51 := By.given_get hg 11 rfl rfl (by kernel_rfl)
    exact By.no (By.want_no rfl rfl hg51 (by decide)) rfl
  · intro a w ht hs hg -- 56
    have h51 : a.tmps.getD 51 undef = _ := By.given_get hg 11 rfl rfl (by kernel_rfl)
    have hg47 := By.given_get hg 7 rfl rfl (by kernel_rfl)
    refine By.yes (By.want_yes rfl rfl hg47) ?_
    clear hg47
    clear hs hg
    clear ht
    go_simp
    exact ⟨_, rfl, Grew.refl _, rfl⟩
  · intro a w ht hs hg -- 57
    have h47 : a.tmps.getD 47 undef = _ := By.given_get hg 7 rfl rfl (by kernel_rfl)
    have h56 : a.tmps.getD 56 undef = _ := By.given_get hg 16 rfl rfl (by kernel_rfl)
    refine By.yes rfl ?_
    clear hs hg
    clear ht
    go_simp
    exact ⟨_, rfl, Grew.refl _, rfl⟩
  refine By.ends_is (By.ends_skip fun v41 => (By.ends_is (By.ends_is (By.ends_skip fun v44 => (By.ends_is (By.ends_is (By.ends_is (By.ends_is (By.ends_is (By.ends_is (By.ends_is (By.ends_skip fun v52 => (By.ends_skip fun v53 => (By.ends_skip fun v54 => (By.ends_skip fun v55 => (By.ends_is (By.ends_is (By.ends_nil fun W10 hw10 => ?_))))))))))))))))))
  simp only [Act.put, List.setIfInBounds_toArray, List.set_cons_succ, List.set_cons_zero]
  have hb := grew_below hw10
  have HB6 := Lib.hid (nextB HB9.out (Nat.le_refl _) hb)
  have HK6 := Lib.hid (HK9.out.below hb HK9.out.lt)
  have HP6 := Lib.hid (HP9.out.below hb HP9.out.lt)
  have HQ6 := Lib.hid (HQ9.out.below hb HQ9.out.lt)
  have HT6 := Lib.hid (HT9.out.below hb HT9.out.1)
  clear hb hw10
  have cs := c_ses HP6.out
  have ce := c_epo HP6.out
  have cn := c_cnt HP6.out
  have HMl := Lib.hid ((Hl.out.below HB6.out).more HB6.out.size)
  have HL7 := Lib.hid (l_k HK6.out Hs.out)
  go_wp2_with (first
    | (refine wpList_ld 24 rfl rfl HL7.out rfl ?_)
    | fail)
  refine (Seal_any sec l Hs.out z p.ses p.epo p.cnt B d (by have := Hl3.out; omega) Hok.out HSb.out HEb.out W10 HT6.out HMl.out).mono ?_
  rintro e w11 ⟨⟨b, R, rfl, hgb, hrow⟩, hb⟩
  clear cs ce cn hgb hrow
  obtain ⟨S, hS⟩ : ∃ S, dp p.ses p.epo p.cnt (.slice (some ⟨b, 0, none⟩) (l.length + 16) (l.length + 16)) = S := ⟨_, rfl⟩
  rw [hS]
  have HSo := Lib.hid (show S.Ok by rw [← hS]; exact dp_ok _ _ _ rfl)
  have HSbo := Lib.hid (show S.bo = .slice (some ⟨b, 0, none⟩) (l.length + 16) (l.length + 16) by rw [← hS]; rfl)
  clear hS
  have HB8 := Lib.hid (nextB HB6.out (Nat.le_refl _) hb)
  have HK8 := Lib.hid (HK6.out.below hb HK6.out.lt)
  have HP8 := Lib.hid (HP6.out.below hb HP6.out.lt)
  have HQ8 := Lib.hid (HQ6.out.below hb HQ6.out.lt)
  have HT8 := Lib.hid (HT6.out.below hb HT6.out.1)
  clear hb
  go_wp2_with (first
    | (show wpList _ _ _ (⟨none, Op.store 40 _ _, _, _, _, _⟩ :: _) _ _
       refine wpList_storeRow (g := w11.heap.size) rfl 40 _ _ rfl rfl rfl (cs := S.cells) (Row.new rfl rfl : Row (w11.alloc (.cells (nm 0).cells.toArray 40)) w11.heap.size (nm 0).cells 40) (by kernel_rfl) (Pk.length HSo.out) (Pk.length (nm_ok 0)) (Pk.one HSo.out) ?_
       refine wpList_name fun V hV => ?_
       refine sstop ?_)
    | fail)
  unfold SStop
  obtain ⟨W9, hV2⟩ : ∃ V2, V = V2 := ⟨V, rfl⟩
  rw [hV2] at hV ⊢
  clear hV2
  have hb : Below w11.heap.size w11 W9 := by rw [← hV]; exact (below_setRow ((Below.refl _ w11).alloc (Nat.le_refl _) _) (by omega) _)
  have HS9 := Lib.hid (show Row W9 w11.heap.size S.cells 40 by rw [← hV]; exact ((Row.new rfl rfl : Row (w11.alloc (.cells (nm 0).cells.toArray 40)) w11.heap.size (nm 0).cells 40).setRow _))
  have HB10 := Lib.hid (nextB HB8.out (Nat.le_refl _) hb)
  have HK10 := Lib.hid (HK8.out.below hb HK8.out.lt)
  have HP10 := Lib.hid (HP8.out.below hb HP8.out.lt)
  have HQ10 := Lib.hid (HQ8.out.below hb HQ8.out.lt)
  have HT10 := Lib.hid (HT8.out.below hb HT8.out.1)
  clear hV hb
  have c37 := c_bo HS9.out HSo.out
  rw [HSbo.out] at c37
  have hl3 : (l.length : Int) ≤ 300 := by have := Hl3.out; omega
  go_wp2
  go_ret
  exact ⟨rfl, HB10.out⟩

set_option maxRecDepth 100000 in
theorem lift (os : Os) (started : os.Started) (H : Type) (enc : TypeId × Value → H) :
    ReturnsInHanded {} Tryd.checked os 6 .any (fun w args => (Rows.packetWaysSpec.pre enc Tryd.prog Tryd.f6 Rows.packetWaysRow.domain false w args ∧ laidMetH Tryd.prog Hk.laidL w) ∧ sizedMet enc Tryd.prog Tryd.f6 (OpenSpec.ofChange Rows.packetWaysSpec) false w args) (Rows.packetWaysSpec.post enc Tryd.prog Tryd.f6 false true false false) := by
  refine Hk.lifted 4 Pol.own started (by kernel_rfl) Tryd.func6 Pol.laid (by kernel_rfl) rfl Tryd.underlying4 rfl
    (fun ds hd => by
      have hd' : ds.length = 5 := hd
      match ds, hd' with
      | [d0, d1, d2, d3, d4], _ => rfl)
    (ChangeSpec.witness_at (enc := enc) (C := Tryd.checked) (os := os) (X := fun w _ => laidMetH Tryd.prog Hk.laidL w) false (Hk.laidWorld os) #[.agg (Array.replicate 32 (.int .u8 0)), .int .i64 0, .int .u32 0, (Pkt.nm 0).val, .slice none 0 0] 8 rfl (by kernel_rfl) (by kernel_rfl) (by kernel_rfl) (by kernel_rfl) (by kernel_rfl) (Hk.laid_metH os _)) ?_
  intro W args ds ps hst htab
  have hA : DataW.TrodAll enc Tryd.prog W 0 (fun _ => true) true Tryd.f6.params.toList args.toList ds ps := hst.trod
  have hok := hst.okw
  have hlt := hst.lt
  rw [Tryd.params6] at hA hok
  obtain ⟨v0, r0, d0, e0, p0, q0, hargs, rfl, rfl, h0, hA⟩ := trodAll_cons hA
  obtain ⟨v1, r1, d1, e1, p1, q1, rfl, rfl, rfl, h1, hA⟩ := trodAll_cons hA
  obtain ⟨v2, r2, d2, e2, p2, q2, rfl, rfl, rfl, h2, hA⟩ := trodAll_cons hA
  obtain ⟨v3, r3, d3, e3, p3, q3, rfl, rfl, rfl, h3, hA⟩ := trodAll_cons hA
  obtain ⟨v4, r4, d4, e4, p4, q4, rfl, rfl, rfl, h4, hA⟩ := trodAll_cons hA
  obtain ⟨rfl, rfl, rfl⟩ := trodAll_nil hA
  obtain rfl : args = #[v0, v1, v2, v3, v4] := by cases args; simp_all
  obtain ⟨_, hv0⟩ := hok 0 24 v0 rfl rfl
  obtain ⟨_, hv1⟩ := hok 1 3 v1 rfl rfl
  obtain ⟨_, hv2⟩ := hok 2 37 v2 rfl rfl
  obtain ⟨_, hv3⟩ := hok 3 40 v3 rfl rfl
  obtain ⟨_, hv4⟩ := hok 4 23 v4 rfl rfl
  obtain ⟨sec, rfl, hs⟩ := arr8_at Tryd.underlying24 (by kernel_rfl) (by kernel_rfl) Tryd.underlying5 hv0
  obtain ⟨z, rfl, z0, z1⟩ := Law.int_at Tryd.underlying3 hv1 h1
  obtain ⟨e, rfl, he1, he2⟩ := Law.int_at Tryd.underlying37 hv2 h2
  have he1' : (0 : Int) ≤ e := he1
  have he2' : e ≤ 4294967295 := he2
  obtain ⟨e, rfl⟩ : ∃ n : Nat, e = (n : Int) := ⟨e.toNat, by omega⟩
  obtain ⟨p, m, A, c, rfl, hp, hb, hm, _, _, _⟩ := packet_at hv3 h3 (fun x hx => hlt x (by simp [hx]))
  obtain ⟨l, hl, _⟩ := Law.bytes_at Tryd.underlying23 hv4 h4 (fun x hx => hlt x (by simp [hx]))
  obtain ⟨B, d, rfl, _⟩ := id hl
  by_cases l1 : 300 < m.length
  · exact long1 sec z e p m l A B c d W htab hs hp hb l1
  by_cases l2 : 300 < l.length
  · exact long2 sec z e p m l A B c d W htab hs hp hb l1 l2
  have he : e < 4294967296 := by omega
  by_cases k : p.kind = 3
  · by_cases o : dataOk p.ses p.epo p.cnt
    · exact walk_tt sec z e p m l A B c d W htab hs he ⟨z0, z1⟩ hp hb hm hl l1 l2 k o
    · exact walk_tf sec z e p m l A B c d W htab hs he ⟨z0, z1⟩ hp hb hm hl l1 l2 k o
  · by_cases o : dataOk p.ses p.epo p.cnt
    · exact walk_ft sec z e p m l A B c d W htab hs he ⟨z0, z1⟩ hp hb hm hl l1 l2 k o
    · exact walk_ff sec z e p m l A B c d W htab hs he ⟨z0, z1⟩ hp hb hm hl l1 l2 k o

theorem over : Rows.packetWaysRow.holds Tryd.pinned (OpenSpec.ofChange Rows.packetWaysSpec) :=
  OpenClaim.holds_of_wide 6 Tryd.f6 rfl rfl rfl rfl rfl rfl rfl ⟨rfl, rfl, rfl, rfl, rfl⟩ rfl rfl rfl rfl rfl (by kernel_rfl) Tryd.func6 (by kernel_rfl)
    (of_decide_eq_true (by kernel_rfl)) (by unfold Func.isWrapper; first | (rw [if_pos (by decide +kernel)]; kernel_rfl) | (rw [if_neg (by decide +kernel)]; exact ⟨rfl, rfl⟩))
    (fun os started H enc _ => lift os started H enc)
theorem proved : Rows.PacketWaysCardSaid :=
  Claim7.holds_tied_plain_at .later [] [.data] true Rows.packetWaysCard.stood.harness false over (fun _ h => by cases h) (by kernel_rfl) (fun _ h => by cases h) packetWays_row_tie rfl ⟨rfl, rfl⟩ (by kernel_rfl) rfl
    (fun f fn hf hfn => by
      obtain rfl : f = 6 := (Option.some.inj ((show Tryd.prog.funcNamed Rows.packetWaysRow.func = some 6 by kernel_rfl).symm.trans hf)).symm
      obtain rfl : fn = Tryd.f6 := (Option.some.inj (Tryd.func6.symm.trans hfn)).symm
      refine ⟨by kernel_rfl, fun j t ht => ?_⟩
      have hall : (Tryd.f6.params.toList.all fun t => Tryd.prog.wantsStandIn t == false) = true := by kernel_rfl
      have h := List.all_eq_true.1 hall t (Array.mem_toList_iff.2 (Array.mem_of_getElem? ht))
      exact eq_of_beq h)
    (by kernel_rfl)
#print axioms proved
end Go.Proofs.YtbdpnpabpcidkaaDoor.packetWays
