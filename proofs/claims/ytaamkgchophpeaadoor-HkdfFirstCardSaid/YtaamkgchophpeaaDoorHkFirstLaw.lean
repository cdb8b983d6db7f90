/- The first bytes of an expansion are the HMAC of the info and a 1, the next ones that of these, the info and a 2: 'drawbridgelaw05.HkdfFirst'. -/
import Derived.Test.YtaamkgchophpeaaDoorHkLives
import Derived.Test.YtaamkgchophpeaaDoorHkExpand
import Derived.Test.YtaamkgchophpeaaDoorHkKeysPure
import Derived.Test.YtaamkgchophpeaaDoorAppFirst
import Derived.Test.YtaamkgchophpeaaDoorStr
import Derived.Test.YtaamkgchophpeaaDoorTail
import Derived.Test.YtaamkgchophpeaaDoorKit
import Derived.Test.YtaamkgchophpeaaDoorBs
import Derived.Test.YtaamkgchophpeaaDoorHkLaw
namespace Go.Proofs.YtaamkgchophpeaaDoor.hkdfFirst
open Go.ChangeShapes Go.WideShapes Go.ChangeAt Go.RowKit

def expM (lo N : Nat) (O : List UInt8) : By.Mark Grew := ⟨fun v w => ∃ g, v = .tuple #[.slice (some ⟨g, 0, none⟩) N N, .int .i64 0] ∧ lo ≤ g ∧ Row w g (O.map bv) 5, fun _ _ _ ⟨g, h1, h2, h3⟩ k => ⟨g, h1, h2, h3.below k h3.lt⟩⟩
def slM (lo N : Nat) (O : List UInt8) : By.Mark Grew := ⟨fun v w => ∃ g, v = .slice (some ⟨g, 0, none⟩) N N ∧ lo ≤ g ∧ Row w g (O.map bv) 5, fun _ _ _ ⟨g, h1, h2, h3⟩ k => ⟨g, h1, h2, h3.below k h3.lt⟩⟩
def emM : By.Mark Grew := ⟨fun v w => ∃ g, v = .slice (some ⟨g, 0, none⟩) 0 0 ∧ Row w g [] 5, fun _ _ _ ⟨g, h1, h2⟩ k => ⟨g, h1, h2.below k h2.lt⟩⟩
theorem firsts (key info : List UInt8) (n : Nat) : (Hk.outL key info n).take (min n 64) = (Hk.tN key info 1 ++ Hk.tN key info 2).take (min n 64) := by
  rw [Hk.outL_take key info (min n 64) n (Nat.min_le_left _ _)]
  have h2 : Hk.catN key info 2 = Hk.tN key info 1 ++ Hk.tN key info 2 := by simp [Hk.catN]
  obtain ⟨r, hr⟩ := Hk.catN_prefix key info ((min n 64 + 31) / 32) (2 - (min n 64 + 31) / 32)
  rw [show (min n 64 + 31) / 32 + (2 - (min n 64 + 31) / 32) = 2 by omega, h2] at hr
  rw [Hk.outL, hr, List.take_append_of_le_length (by rw [Hk.catN_length]; omega)]
theorem t1_is (key info : List UInt8) : Sha.mac key [info, [1]].flatten = Hk.tN key info 1 := rfl
theorem t2_is (key info : List UInt8) : Sha.mac key [Hk.tN key info 1, info, [2]].flatten = Hk.tN key info 2 := rfl
theorem Bs_one (w : World) (V : Value) (u : UInt8) (hV : V = bv u) : Bs (w.alloc (.cells #[V] 5)) (w.heap.size + 1) (.slice (some ⟨w.heap.size, 0, none⟩) 1 1) [u] :=
  ⟨_, 1, rfl, by simp, fun _ => ⟨w.heap.size, 0, rfl, by omega, fun i x hx => by
    cases i with
    | zero => simp at hx; subst hx; rw [World.cell?_alloc_at _ _ _ _ rfl, hV]; rfl
    | succ i => simp at hx⟩⟩
theorem row_bs32 {w : World} {g : Nat} {l : List UInt8} {t : TypeId} (h : Row w g (l.map bv) t) (hl : l.length = 32) : Bs w w.heap.size (.slice (some ⟨g, 0, none⟩) 32 32) l := by
  have h' := h.bs h.lt
  rwa [hl] at h'
theorem Own.to_bs {w : World} {lo : Nat} {v : Value} {l : List UInt8} (h : Own w lo v l) : Bs w w.heap.size v l := h.bs

theorem walkT (key : List UInt8) (A : Option Addr) (c N : Nat) (z : Int) (w : World) (ht : Tab w) (h : 400 < N) : Calls Tryd.prog 6 #[arr8 key, .slice A N c, .int .i64 z] w fun r w' => r = .returned (.bool true) ∧ Below w.heap.size w w' := by
  have h' : (400 : Int) < (N : Int) := by omega
  have HT := Lib.hid ht
  clear ht
  unfold arr8
  go_enter Tryd.func6, Tryd.ntmps6
  have hb0 := (Below.refl w.heap.size w).alloc (Nat.le_refl _) (.cells (key.map bv).toArray 26)
  go_wp2_with fail
  refine (lives_any _ (HT.out.below hb0 HT.out.1)).mono ?_
  rintro r w1 ⟨rfl, hb1⟩
  have HB := Lib.hid (nextB hb0 (Nat.le_refl _) hb1)
  clear hb0 hb1
  go_wp2
  go_ret
  exact ⟨rfl, HB.out⟩

set_option maxRecDepth 8000 in
set_option maxHeartbeats 4000000 in
theorem walkL (key info : List UInt8) (A : Option Addr) (c : Nat) (z : Int) (w : World) (ht : Tab w) (hi : Bs w w.heap.size (.slice A info.length c) info) (hil : info.length ≤ 400) (hk : key.length = 32) (hz81 : (8160 : Int) < z) :
    Calls Tryd.prog 6 #[arr8 key, .slice A info.length c, .int .i64 z] w fun r w' => r = .returned (.bool true) ∧ Below w.heap.size w w' := by
  have hz1 : ¬ z ≤ 8160 := by omega
  have hz2 : ((0 : Int) != max 0 z) = true := by rw [bne_iff_ne]; omega
  have HT := Lib.hid ht
  have HI := Lib.hid hi
  have HIl := Lib.hid hil
  have HKl := Lib.hid hk
  have HKm := Lib.hid (show (key.map bv).length = 32 by rw [List.length_map]; exact hk)
  have h4 : ¬ (400 : Int) < (info.length : Int) := by omega
  clear ht hi hil hk
  unfold arr8
  go_enter Tryd.func6, Tryd.ntmps6
  have hb0 := (Below.refl w.heap.size w).alloc (Nat.le_refl _) (.cells (key.map bv).toArray 26)
  go_wp2_with fail
  refine (lives_any _ (HT.out.below hb0 HT.out.1)).mono ?_
  rintro r w1 ⟨rfl, hb1⟩
  have HB1 := Lib.hid (nextB hb0 (Nat.le_refl _) hb1)
  have HKR := Lib.hid (show Row w1 w.heap.size (key.map bv) 26 from (Row.new rfl rfl).below hb1 (by simp))
  have HI1 := Lib.hid ((HI.out.below HB1.out).more HB1.out.size)
  have HT1 := Lib.hid (HT.out.below HB1.out HT.out.1)
  clear hb0 hb1
  go_wp2_with fail
  refine By.marks Pol.mixed Grew [By.is (arr8 key),
    By.is (.slice A info.length c),
    ownM 0 info,
    By.is (.int .i64 z),
    By.is (.tuple #[.slice none 0 0, .int .i64 3]),
    By.is (.tuple #[.slice none 0 0, .int .i64 3]),
    By.is (.slice none 0 0),
    By.is (.int .i64 3),
    By.is (.slice none 0 0),
    By.is (.int .i64 3)]
    (Ev.masks _ []) (by kernel_rfl) rfl Grew.refl Grew.trans ⟨?_, ?_, ?_, ?_, ?_, ?_, ?_, ?_, ?_, ?_, trivial⟩ ?_
  · intro a w ht hs hg -- 19
    have h3 := By.same_get hs 3 (by decide) (by kernel_rfl)
    refine By.yes rfl ?_
    clear hs hg
    refine wp_loadRow 26 _ rfl h3 (Row.below (w := w1.drew) HKR.out ht HKR.out.lt) Tryd.underlying26 rfl (by kernel_rfl) HKm.out ?_
    exact ⟨_, rfl, Grew.refl _, rfl⟩
  · intro a w ht hs hg -- 20
    have h1 := By.same_get hs 1 (by decide) (by kernel_rfl)
    refine By.yes rfl ?_
    clear hs hg
    go_simp
    exact ⟨_, rfl, Grew.refl _, rfl⟩
  · intro a w ht hs hg -- 21
    have h20 : a.tmps.getD 20 undef = _ := By.given_get hg 1 rfl rfl (by kernel_rfl)
    refine By.yes rfl ?_
    clear hs hg
    have hx := Lib.hid (grew_bs HI1.out ht)
    go_simp
    refine (Own_any _ info w hx.out (by have := HIl.out; omega)).mono ?_
    rintro r w' ⟨v, rfl, ho, hb⟩
    exact ⟨_, rfl, hb, ho.less (Nat.zero_le _)⟩
  · intro a w ht hs hg -- 22
    have h2 := By.same_get hs 2 (by decide) (by kernel_rfl)
    refine By.yes rfl ?_
    clear hs hg
    go_simp
    exact ⟨_, rfl, Grew.refl _, rfl⟩
  · intro a w ht hs hg -- 23
    have h19 : a.tmps.getD 19 undef = _ := By.given_get hg 0 rfl rfl (by kernel_rfl)
    have h21 := By.given_get hg 2 rfl rfl (by kernel_rfl)
    have h22 : a.tmps.getD 22 undef = _ := By.given_get hg 3 rfl rfl (by kernel_rfl)
    refine By.yes rfl ?_
    obtain ⟨v21, hv21⟩ : ∃ v, a.tmps.getD 21 undef = v := ⟨_, rfl⟩
    replace h21 := (congrArg (fun v => ((ownM 0 info)).on v w) hv21).mp h21
    clear hs hg
    have Ho := Lib.hid h21
    clear h21
    obtain ⟨A5, c5, rfl⟩ := Ho.out.shape
    go_simp
    refine (Expand_long key A5 info.length c5 z hz81 w).mono ?_
    rintro r w' ⟨rfl, hb⟩
    exact ⟨_, rfl, hb, rfl⟩
  · intro a w ht hs hg -- 18
    have h23 : a.tmps.getD 23 undef = _ := By.given_get hg 4 rfl rfl (by kernel_rfl)
    refine By.yes rfl ?_
    clear hs hg
    go_simp
    exact ⟨_, rfl, Grew.refl _, rfl⟩
  · intro a w ht hs hg -- 24
    have h18 : a.tmps.getD 18 undef = _ := By.given_get hg 5 rfl rfl (by kernel_rfl)
    refine By.yes rfl ?_
    clear hs hg
    go_simp
    exact ⟨_, rfl, Grew.refl _, rfl⟩
  · intro a w ht hs hg -- 25
    have h18 : a.tmps.getD 18 undef = _ := By.given_get hg 5 rfl rfl (by kernel_rfl)
    refine By.yes rfl ?_
    clear hs hg
    go_simp
    exact ⟨_, rfl, Grew.refl _, rfl⟩
  · intro a w ht hs hg -- 7
    have h24 : a.tmps.getD 24 undef = _ := By.given_get hg 6 rfl rfl (by kernel_rfl)
    refine By.yes rfl ?_
    clear hs hg
    go_simp
    exact ⟨_, rfl, Grew.refl _, rfl⟩
  · intro a w ht hs hg -- 8
    have h25 : a.tmps.getD 25 undef = _ := By.given_get hg 7 rfl rfl (by kernel_rfl)
    refine By.yes rfl ?_
    clear hs hg
    go_simp
    exact ⟨_, rfl, Grew.refl _, rfl⟩
  refine By.ends_is (By.ends_is (By.ends_skip fun v21 => (By.ends_is (By.ends_is (By.ends_is (By.ends_is (By.ends_is (By.ends_is (By.ends_is (By.ends_nil fun w5 hw5 => ?_))))))))))
  simp only [Act.put, List.setIfInBounds_toArray, List.set_cons_succ, List.set_cons_zero]
  have HB5 := Lib.hid (nextB HB1.out (Nat.le_refl _) (show Below w1.heap.size w1 w5 from ⟨hw5.os, hw5.tape, hw5.output, hw5.size, hw5.block⟩))
  clear hw5
  go_wp2
  go_ret
  exact ⟨rfl, HB5.out⟩

set_option maxRecDepth 8000 in
set_option maxHeartbeats 8000000 in
theorem walkM (key info : List UInt8) (A : Option Addr) (c N : Nat) (z : Int) (w : World) (ht : Tab w) (hi : Bs w w.heap.size (.slice A info.length c) info) (hil : info.length ≤ 400) (hk : key.length = 32) (hz : (z ≤ 0 ∧ N = 0) ∨ z = (N : Int)) (hn : N ≤ 8160) :
    Calls Tryd.prog 6 #[arr8 key, .slice A info.length c, .int .i64 z] w fun r w' => r = .returned (.bool true) ∧ Below w.heap.size w w' := by
  have hz1 : z ≤ 8160 := by omega
  have hz2 : max (0 : Int) z = (N : Int) := by omega
  have hz4 : (if z < (0 : Int) then (0 : Int) else z) = (N : Int) := by split <;> omega
  have hz5 : (if (0 : Int) < z then z else (0 : Int)) = (N : Int) := by split <;> omega
  have hz6 : (if z ≤ (0 : Int) then (0 : Int) else z) = (N : Int) := by split <;> omega
  have hz7 : (if (0 : Int) ≤ z then z else (0 : Int)) = (N : Int) := by split <;> omega
  have hz3 : ((N : Int) != (N : Int)) = false := by simp
  have hzN := Lib.hid hz
  have hN := Lib.hid hn
  obtain ⟨O, hO⟩ : ∃ O, Hk.outL key info N = O := ⟨_, rfl⟩
  have HO := Lib.hid hO
  clear hz hn hO
  have HT := Lib.hid ht
  have HI := Lib.hid hi
  have HIl := Lib.hid hil
  have HKl := Lib.hid hk
  have HKm := Lib.hid (show (key.map bv).length = 32 by rw [List.length_map]; exact hk)
  have h4 : ¬ (400 : Int) < (info.length : Int) := by omega
  clear ht hi hil hk
  unfold arr8
  go_enter Tryd.func6, Tryd.ntmps6
  have hb0 := (Below.refl w.heap.size w).alloc (Nat.le_refl _) (.cells (key.map bv).toArray 26)
  go_wp2_with fail
  refine (lives_any _ (HT.out.below hb0 HT.out.1)).mono ?_
  rintro r w1 ⟨rfl, hb1⟩
  have HB1 := Lib.hid (nextB hb0 (Nat.le_refl _) hb1)
  have HKR := Lib.hid (show Row w1 w.heap.size (key.map bv) 26 from (Row.new rfl rfl).below hb1 (by simp))
  have HI1 := Lib.hid ((HI.out.below HB1.out).more HB1.out.size)
  have HT1 := Lib.hid (HT.out.below HB1.out HT.out.1)
  clear hb0 hb1
  go_wp2_with fail
  refine By.marks Pol.mixed Grew [By.is (arr8 key),
    By.is (.slice A info.length c),
    ownM 0 info,
    By.is (.int .i64 z),
    (expM w1.heap.size N O),
    (expM w1.heap.size N O),
    (slM w1.heap.size N O),
    By.is (.int .i64 0),
    (slM w1.heap.size N O),
    By.is (.int .i64 0)]
    (Ev.masks _ []) (by kernel_rfl) rfl Grew.refl Grew.trans ⟨?_, ?_, ?_, ?_, ?_, ?_, ?_, ?_, ?_, ?_, trivial⟩ ?_
  · intro a w ht hs hg -- 19
    have h3 := By.same_get hs 3 (by decide) (by kernel_rfl)
    refine By.yes rfl ?_
    clear hs hg
    refine wp_loadRow 26 _ rfl h3 (Row.below (w := w1.drew) HKR.out ht HKR.out.lt) Tryd.underlying26 rfl (by kernel_rfl) HKm.out ?_
    exact ⟨_, rfl, Grew.refl _, rfl⟩
  · intro a w ht hs hg -- 20
    have h1 := By.same_get hs 1 (by decide) (by kernel_rfl)
    refine By.yes rfl ?_
    clear hs hg
    go_simp
    exact ⟨_, rfl, Grew.refl _, rfl⟩
  · intro a w ht hs hg -- 21
    have h20 : a.tmps.getD 20 undef = _ := By.given_get hg 1 rfl rfl (by kernel_rfl)
    refine By.yes rfl ?_
    clear hs hg
    have hx := Lib.hid (grew_bs HI1.out ht)
    go_simp
    refine (Own_any _ info w hx.out (by have := HIl.out; omega)).mono ?_
    rintro r w' ⟨v, rfl, ho, hb⟩
    exact ⟨_, rfl, hb, ho.less (Nat.zero_le _)⟩
  · intro a w ht hs hg -- 22
    have h2 := By.same_get hs 2 (by decide) (by kernel_rfl)
    refine By.yes rfl ?_
    clear hs hg
    go_simp
    exact ⟨_, rfl, Grew.refl _, rfl⟩
  · intro a w ht hs hg -- 23
    have h19 : a.tmps.getD 19 undef = _ := By.given_get hg 0 rfl rfl (by kernel_rfl)
    have h21 := By.given_get hg 2 rfl rfl (by kernel_rfl)
    have h22 : a.tmps.getD 22 undef = _ := By.given_get hg 3 rfl rfl (by kernel_rfl)
    refine By.yes rfl ?_
    obtain ⟨v21, hv21⟩ : ∃ v, a.tmps.getD 21 undef = v := ⟨_, rfl⟩
    replace h21 := (congrArg (fun v => ((ownM 0 info)).on v w) hv21).mp h21
    clear hs hg
    have Ho := Lib.hid (Own.bs h21)
    have htab := Lib.hid (HT1.out.below (show Below w1.heap.size w1 w from ⟨ht.os, ht.tape, ht.output, ht.size, ht.block⟩) HT1.out.1)
    have hsz : w1.heap.size ≤ w.heap.size := ht.size
    clear h21
    go_simp
    refine (Expand_ok _ key info z N hzN.out hN.out HKl.out w htab.out Ho.out (by have := HIl.out; omega)).mono ?_
    rw [HO.out]
    rintro r w' ⟨g, rfl, hg, hr, hb⟩
    exact ⟨_, rfl, hb, g, rfl, Nat.le_trans hsz hg, hr⟩
  · intro a w ht hs hg -- 18
    have h23 := By.given_get hg 4 rfl rfl (by kernel_rfl)
    refine By.yes rfl ?_
    obtain ⟨v23, hv23⟩ : ∃ v, a.tmps.getD 23 undef = v := ⟨_, rfl⟩
    replace h23 := (congrArg (fun v => ((expM w1.heap.size N O)).on v w) hv23).mp h23
    clear hs hg
    go_simp
    exact ⟨_, rfl, Grew.refl _, h23⟩
  · intro a w ht hs hg -- 24
    have h18 := By.given_get hg 5 rfl rfl (by kernel_rfl)
    refine By.yes rfl ?_
    obtain ⟨v18, hv18⟩ : ∃ v, a.tmps.getD 18 undef = v := ⟨_, rfl⟩
    replace h18 := (congrArg (fun v => ((expM w1.heap.size N O)).on v w) hv18).mp h18
    clear hs hg
    obtain ⟨g, rfl, hg, hr⟩ := h18
    have Hr := Lib.hid hr
    clear hr
    go_simp
    exact ⟨_, rfl, Grew.refl _, g, rfl, hg, Hr.out⟩
  · intro a w ht hs hg -- 25
    have h18 := By.given_get hg 5 rfl rfl (by kernel_rfl)
    refine By.yes rfl ?_
    obtain ⟨v18, hv18⟩ : ∃ v, a.tmps.getD 18 undef = v := ⟨_, rfl⟩
    replace h18 := (congrArg (fun v => ((expM w1.heap.size N O)).on v w) hv18).mp h18
    clear hs hg
    obtain ⟨g, rfl, hg, hr⟩ := h18
    clear hr
    go_simp
    exact ⟨_, rfl, Grew.refl _, rfl⟩
  · intro a w ht hs hg -- 7
    have h24 := By.given_get hg 6 rfl rfl (by kernel_rfl)
    refine By.yes rfl ?_
    obtain ⟨v24, hv24⟩ : ∃ v, a.tmps.getD 24 undef = v := ⟨_, rfl⟩
    replace h24 := (congrArg (fun v => ((slM w1.heap.size N O)).on v w) hv24).mp h24
    clear hs hg
    go_simp
    exact ⟨_, rfl, Grew.refl _, h24⟩
  · intro a w ht hs hg -- 8
    have h25 : a.tmps.getD 25 undef = _ := By.given_get hg 7 rfl rfl (by kernel_rfl)
    refine By.yes rfl ?_
    clear hs hg
    go_simp
    exact ⟨_, rfl, Grew.refl _, rfl⟩
  refine By.ends_is (By.ends_is (By.ends_skip fun v21 => (By.ends_is (By.ends_skip fun v23 => (By.ends_skip fun v18 => (By.ends_skip fun v24 => (By.ends_is (By.ends_any fun v7 => (By.ends_is (By.ends_nil fun w5 hw5 => ?_))))))))))
  simp only [Act.put, List.setIfInBounds_toArray, List.set_cons_succ, List.set_cons_zero]
  obtain ⟨hgr, g7, rfl, hg7, hr7⟩ := hw5
  have HB5 := Lib.hid (nextB HB1.out (Nat.le_refl _) (show Below w1.heap.size w1 w5 from ⟨hgr.os, hgr.tape, hgr.output, hgr.size, hgr.block⟩))
  have HKR5 := Lib.hid (Row.below (w := w1.drew) HKR.out hgr HKR.out.lt)
  have HR7 := Lib.hid hr7
  clear hgr hr7
  go_wp2_with fail
  obtain ⟨X1, hX1⟩ : ∃ X, w5.alloc (.cells #[.int .u8 1] 5) = X := ⟨_, rfl⟩
  rw [hX1]
  have hbX : Below w5.heap.size w5 X1 := by rw [← hX1]; exact (Below.refl w5.heap.size w5).alloc (Nat.le_refl _) _
  have hsX : X1.heap.size = w5.heap.size + 1 := by rw [← hX1]; simp
  have HBX := Lib.hid (nextB HB5.out (Nat.le_refl _) hbX)
  have hone : Bs X1 X1.heap.size (.slice (some ⟨w5.heap.size, 0, none⟩) 1 1) [1] := by
    have h := Bs_one w5 (.int .u8 1) 1 rfl
    rw [hX1, ← hsX] at h
    exact h
  have hss := bss_new (n := 2) (ls := [info, [1]]) (vs := [.slice A info.length c, .slice (some ⟨w5.heap.size, 0, none⟩) 1 1]) (w := X1) (g := w5.heap.size + 1) hsX rfl (Reads.append (.one ((HI.out.below HBX.out).more HBX.out.size)) (.one hone))
  have hbY : Below X1.heap.size X1 (X1.alloc (.cells #[.slice A info.length c, .slice (some ⟨w5.heap.size, 0, none⟩) 1 1] 22)) := (Below.refl X1.heap.size X1).alloc (Nat.le_refl _) _
  have HBY := Lib.hid (nextB HBX.out (Nat.le_refl _) hbY)
  have HKY := Lib.hid ((HKR5.out.below hbX HKR5.out.lt).below hbY (Nat.lt_of_lt_of_le HKR5.out.lt hbX.size))
  have hkb : Bs (X1.alloc (.cells #[.slice A info.length c, .slice (some ⟨w5.heap.size, 0, none⟩) 1 1] 22)) (X1.alloc (.cells #[.slice A info.length c, .slice (some ⟨w5.heap.size, 0, none⟩) 1 1] 22)).heap.size (.slice (some ⟨w.heap.size, 0, none⟩) 32 32) key := by
    have h := HKY.out.bs HKY.out.lt
    rwa [HKl.out] at h
  have HR7Y := Lib.hid ((HR7.out.below hbX HR7.out.lt).below hbY (Nat.lt_of_lt_of_le HR7.out.lt hbX.size))
  refine (Mac_any _ _ key [info, [1]] _ (HT.out.below HBY.out HT.out.1) hkb (by rw [HKl.out]; omega) hss (by simp) (by intro l hl; simp at hl; have := HIl.out; rcases hl with rfl | rfl <;> simp <;> omega) (by simp; have := HIl.out; omega)).mono ?_
  rw [t1_is]
  obtain ⟨T1, hT1⟩ : ∃ T, Hk.tN key info 1 = T := ⟨_, rfl⟩
  have HT1l := Lib.hid (show T1.length = 32 by rw [← hT1]; exact Hk.tN_length key info 0)
  have HT1m := Lib.hid (show (T1.map bv).length = 32 by rw [List.length_map]; exact HT1l.out)
  have HT1e := Lib.hid hT1
  rw [hT1]
  rintro r w6 ⟨rfl, hb6⟩
  have HB6 := Lib.hid (nextB HBY.out (Nat.le_refl _) hb6)
  have HK6 := Lib.hid (HKY.out.below hb6 HKY.out.lt)
  have HR76 := Lib.hid (HR7Y.out.below hb6 HR7Y.out.lt)
  clear hb6 hss hone hkb hbX hbY hT1 hX1 hsX
  unfold arr8
  go_wp2_with (first
    | (show wpList _ _ _ (⟨none, Op.store 26 _ _, _, _, _, _⟩ :: _) _ _; refine wpList_storeRow (g := w6.heap.size) rfl 26 _ _ rfl rfl rfl (cs := T1.map bv) (old := (List.replicate 32 (0 : UInt8)).map bv) (Row.new rfl rfl) (by kernel_rfl) HT1m.out (by simp) (bytes_one T1) ?_
       obtain ⟨V, hV⟩ : ∃ V, (w6.alloc (.cells ((List.replicate 32 (0 : UInt8)).map bv).toArray 26)).setRow w6.heap.size (T1.map bv).toArray = V := ⟨_, rfl⟩
       refine wpList_in hV ?_
       have hbV : Below w6.heap.size w6 V := by rw [← hV]; exact below_setRow ((Below.refl w6.heap.size w6).alloc (Nat.le_refl _) _) (Nat.le_refl _) _
       have HTV := Lib.hid (show Row V w6.heap.size (T1.map bv) 26 by rw [← hV]; exact (Row.new (cs := (List.replicate 32 (0 : UInt8)).map bv) rfl rfl).setRow (T1.map bv))
       have HBV := Lib.hid (nextB HB6.out (Nat.le_refl _) hbV)
       have HKV := Lib.hid (HK6.out.below hbV HK6.out.lt)
       have HR7V := Lib.hid (HR76.out.below hbV HR76.out.lt)
       have HIV := Lib.hid ((HI.out.below HBV.out).more HBV.out.size)
       have HTabV := Lib.hid (HT.out.below HBV.out HT.out.1)
       have h6V : w6.heap.size < V.heap.size := HTV.out.lt
       clear hV hbV)
    | fail)
  simp only [Act.put]
  obtain ⟨U, hU⟩ : ∃ T, Hk.tN key info 2 = T := ⟨_, rfl⟩
  have HUl := Lib.hid (show U.length = 32 by rw [← hU]; exact Hk.tN_length key info 1)
  have HUm := Lib.hid (show (U.map bv).length = 32 by rw [List.length_map]; exact HUl.out)
  have HU := Lib.hid (show Sha.mac key [T1, info, [2]].flatten = U by rw [← hU, ← HT1e.out]; exact t2_is key info)
  have HUe := Lib.hid hU
  have HMm := Lib.hid (show ∀ l ∈ [T1, info, [2]], l.length ≤ 1000000000 by intro l hl; simp at hl; have := HIl.out; have := HT1l.out; rcases hl with rfl | rfl | rfl <;> simp <;> omega)
  have HMf := Lib.hid (show [T1, info, [2]].flatten.length ≤ 100000000000 by simp; have := HIl.out; have := HT1l.out; omega)
  clear hU
  refine Tail.marksAt Pol.mixed 7 Grew [By.is (.slice (some ⟨w.heap.size, 0, none⟩) 32 32),
    By.is (.slice (some ⟨w6.heap.size, 0, none⟩) 32 32),
    By.is (.slice A info.length c),
    rdM [2] 1,
    rdL [T1, info, [2]] 3,
    By.is (arr8 U),
    rowS V.heap.size ((List.replicate 32 (0 : UInt8)).map bv) 26]
    (Ev.masks _ []) (Nat.zero_lt_succ _) (by kernel_rfl) (by kernel_rfl) rfl Grew.refl Grew.trans ⟨?_, ?_, ?_, ?_, ?_, ?_, ?_, trivial⟩ ?_
  · intro a w ht hs hg -- 56
    have h3 := By.same_get hs 3 (by decide) (by kernel_rfl)
    refine By.yes rfl ?_
    clear hs hg
    go_simp
    exact ⟨_, rfl, Grew.refl _, rfl⟩
  · intro a w ht hs hg -- 57
    have h9 := By.same_get hs 9 (by decide) (by kernel_rfl)
    refine By.yes rfl ?_
    clear hs hg
    go_simp
    exact ⟨_, rfl, Grew.refl _, rfl⟩
  · intro a w ht hs hg -- 58
    have h1 := By.same_get hs 1 (by decide) (by kernel_rfl)
    refine By.yes rfl ?_
    clear hs hg
    go_simp
    exact ⟨_, rfl, Grew.refl _, rfl⟩
  · intro a w ht hs hg -- 59
    refine By.yes rfl ?_
    clear hs hg
    go_simp
    exact ⟨_, rfl, (Below.refl _ w).alloc (Nat.le_refl _) _, w.heap.size, rfl, by have h := Bs_one w (.int .u8 2) 2 rfl; simpa using h⟩
  · intro a w ht hs hg -- 60
    have h57 : a.tmps.getD 57 undef = _ := By.given_get hg 1 rfl rfl (by kernel_rfl)
    have h58 : a.tmps.getD 58 undef = _ := By.given_get hg 2 rfl rfl (by kernel_rfl)
    have h59 := By.given_get hg 3 rfl rfl (by kernel_rfl)
    refine By.yes rfl ?_
    obtain ⟨v59, hv59⟩ : ∃ v, a.tmps.getD 59 undef = v := ⟨_, rfl⟩
    replace h59 := (congrArg (fun v => ((rdM [2] 1)).on v w) hv59).mp h59
    clear hs hg
    obtain ⟨g9, rfl, hs9⟩ := h59
    have Hs9 := Lib.hid hs9
    have hti := Lib.hid (row_bs32 (Row.below (w := V.drew) HTV.out ht HTV.out.lt) HT1l.out)
    have hii := Lib.hid (grew_bs HIV.out ht)
    clear hs9 ht
    rw [Array.getD_eq_getD_getElem?] at h57 h58 hv59
    go_simp
    exact ⟨_, rfl, (Below.refl _ w).alloc (Nat.le_refl _) _, w.heap.size, rfl, bss_new (n := 3) (ls := [T1, info, [2]]) (vs := [.slice (some ⟨w6.heap.size, 0, none⟩) 32 32, .slice A info.length c, .slice (some ⟨g9, 0, none⟩) 1 1]) (w := w) rfl rfl (Reads.append (.one hti.out) (Reads.append (.one hii.out) (.one Hs9.out)))⟩
  · intro a w ht hs hg -- 61
    have h56 : a.tmps.getD 56 undef = _ := By.given_get hg 0 rfl rfl (by kernel_rfl)
    have h60 := By.given_get hg 4 rfl rfl (by kernel_rfl)
    refine By.yes rfl ?_
    obtain ⟨v60, hv60⟩ : ∃ v, a.tmps.getD 60 undef = v := ⟨_, rfl⟩
    replace h60 := (congrArg (fun v => ((rdL [T1, info, [2]] 3)).on v w) hv60).mp h60
    clear hs hg
    obtain ⟨g8, rfl, hs8⟩ := h60
    have Hs8 := Lib.hid hs8
    have htab := Lib.hid (HTabV.out.below (show Below V.heap.size V w from ⟨ht.os, ht.tape, ht.output, ht.size, ht.block⟩) HTabV.out.1)
    have hkw := Lib.hid (row_bs32 (Row.below (w := V.drew) HKV.out ht HKV.out.lt) HKl.out)
    clear hs8 ht
    go_simp
    refine (Mac_any _ _ key [T1, info, [2]] w htab.out hkw.out (by rw [HKl.out]; omega) Hs8.out (by simp) HMm.out HMf.out).mono ?_
    rintro r w8 ⟨rfl, hb8⟩
    exact ⟨_, rfl, hb8, congrArg arr8 HU.out⟩
  · intro a w ht hs hg -- 10
    refine By.yes rfl ?_
    clear hs hg
    have hsz := Below.size ht
    go_simp
    exact ⟨_, rfl, (Below.refl _ w).alloc (Nat.le_refl _) _, w.heap.size, rfl, hsz, Row.new rfl rfl⟩
  refine By.ends_is (By.ends_is (By.ends_is (By.ends_skip fun v59 => (By.ends_skip fun v60 => (By.ends_is (By.ends_any fun v10 => (By.ends_nil fun w7 hw7 => ?_)))))))
  simp only [Act.put, List.setIfInBounds_toArray, List.set_cons_succ, List.set_cons_zero]
  simp only [List.drop_succ_cons, List.drop_zero]
  obtain ⟨hgr, q, rfl, hq1, hq2⟩ := hw7
  have hbg : Below V.heap.size V w7 := ⟨hgr.os, hgr.tape, hgr.output, hgr.size, hgr.block⟩
  have HB7 := Lib.hid (nextB HBV.out (Nat.le_refl _) hbg)
  have HT7 := Lib.hid (HTV.out.below hbg HTV.out.lt)
  have HR77 := Lib.hid (HR7V.out.below hbg HR7V.out.lt)
  have Hq2 := Lib.hid hq2
  have hq6 : w6.heap.size ≠ q := by omega
  have hq7 : g7 ≠ q := by have := HR7V.out.lt; omega
  have hwq : w.heap.size ≤ q := by have := HBV.out.size; omega
  clear hgr hbg hq2
  unfold arr8
  go_wp2_with (first
    | (show wpList _ _ _ (⟨none, Op.store 26 _ _, _, _, _, _⟩ :: _) _ _; refine wpList_storeRow (g := q) rfl 26 _ _ rfl rfl rfl (cs := U.map bv) (old := (List.replicate 32 (0 : UInt8)).map bv) Hq2.out (by kernel_rfl) HUm.out (by simp) (bytes_one U) ?_
       obtain ⟨Y, hY⟩ : ∃ Y, w7.setRow q (U.map bv).toArray = Y := ⟨_, rfl⟩
       refine wpList_in hY ?_
       have HUY := Lib.hid (show Row Y q (U.map bv) 26 by rw [← hY]; exact Hq2.out.setRow _)
       have HTY := Lib.hid (show Row Y w6.heap.size (T1.map bv) 26 by rw [← hY]; exact HT7.out.setOther _ _ hq6)
       have HR7Y := Lib.hid (show Row Y g7 (O.map bv) 5 by rw [← hY]; exact HR77.out.setOther _ _ hq7)
       have HBY2 := Lib.hid (show Below w.heap.size w Y by rw [← hY]; exact below_setRow HB7.out hwq _)
       clear hY)
    | fail)
  try simp only [Act.put]
  refine Tail.marksAt Pol.mixed 4 Grew [emM,
    By.is (.slice (some ⟨w6.heap.size, 0, none⟩) 32 32),
    ownM Y.heap.size T1,
    By.is (.slice (some ⟨q, 0, none⟩) 32 32)]
    (Ev.masks _ []) (Nat.zero_lt_succ _) (by kernel_rfl) (by kernel_rfl) rfl Grew.refl Grew.trans ⟨?_, ?_, ?_, ?_, trivial⟩ ?_
  · intro a w ht hs hg -- 62
    refine By.yes rfl ?_
    clear hs hg
    go_simp
    exact ⟨_, rfl, (Below.refl _ w).alloc (Nat.le_refl _) _, w.heap.size, rfl, Row.new rfl rfl⟩
  · intro a w ht hs hg -- 63
    have h9 := By.same_get hs 9 (by decide) (by kernel_rfl)
    refine By.yes rfl ?_
    clear hs hg
    go_simp
    exact ⟨_, rfl, Grew.refl _, rfl⟩
  · intro a w ht hs hg -- 64
    have h62 := By.given_get hg 0 rfl rfl (by kernel_rfl)
    have h63 : a.tmps.getD 63 undef = _ := By.given_get hg 1 rfl rfl (by kernel_rfl)
    refine By.yes rfl ?_
    obtain ⟨v62, hv62⟩ : ∃ v, a.tmps.getD 62 undef = v := ⟨_, rfl⟩
    replace h62 := (congrArg (fun v => (emM).on v w) hv62).mp h62
    clear hs hg
    obtain ⟨g9, rfl, hs9⟩ := h62
    have hti := row_bs32 (Row.below (w := Y.drew) HTY.out ht HTY.out.lt) HT1l.out
    have hsz : Y.heap.size ≤ w.heap.size := ht.size
    refine wp_app_first (.tmp 62) (.tmp 63) rfl hv62 hs9 h63 hti (by intro h; have := HT1l.out; rw [h] at this; simp at this) (by rw [HT1l.out]; omega) ?_
    intro v' w' ho hb
    exact ⟨_, rfl, hb, ho.less hsz⟩
  · intro a w ht hs hg -- 65
    have h10 := By.same_get hs 10 (by decide) (by kernel_rfl)
    refine By.yes rfl ?_
    clear hs hg
    go_simp
    exact ⟨_, rfl, Grew.refl _, rfl⟩
  refine By.ends_skip fun v62 => (By.ends_is (By.ends_any fun v64 => (By.ends_is (By.ends_nil fun w8 hw8 => ?_))))
  simp only [Act.put, List.setIfInBounds_toArray, List.set_cons_succ, List.set_cons_zero]
  simp only [List.drop_succ_cons, List.drop_zero]
  obtain ⟨hgr, ho64⟩ := hw8
  have hbg : Below Y.heap.size Y w8 := ⟨hgr.os, hgr.tape, hgr.output, hgr.size, hgr.block⟩
  have HB8 := Lib.hid (nextB HBY2.out (Nat.le_refl _) hbg)
  have HR78 := Lib.hid (HR7Y.out.below hbg HR7Y.out.lt)
  have HU8 := Lib.hid (row_bs32 (HUY.out.below hbg HUY.out.lt) HUl.out)
  have HO64 := Lib.hid ho64
  have hY8 : Y.heap.size ≤ w8.heap.size := hbg.size
  have hg7Y : g7 < Y.heap.size := HR7Y.out.lt
  have hwY : w.heap.size ≤ Y.heap.size := HBY2.out.size
  have HOl := Lib.hid (show O.length = N by rw [← HO.out]; unfold Hk.outL; rw [List.length_take, Hk.catN_length]; omega)
  have Hfi := Lib.hid (show (T1 ++ U).take (min N 64) = O.take (min N 64) by rw [← HO.out, ← HT1e.out, ← HUe.out]; exact (firsts key info N).symm)
  have HUTl := Lib.hid (show (T1 ++ U).length = 64 by rw [List.length_append, HT1l.out, HUl.out])
  clear hgr hbg ho64
  by_cases h64 : 64 < N
  · have h64' : (64 : Int) < (N : Int) := by omega
    have h64'' : (64 : Int) ≤ (N : Int) := by omega
    have Hfi2 := Lib.hid (show (T1 ++ U).take 64 = O.take 64 by have h := Hfi.out; rwa [show min N 64 = 64 by omega] at h)
    go_wp2_with (first
      | (at_builtin
         refine wpList_app_bytes _ rfl (.tmp 64) (.tmp 65) rfl (l := T1) (m := U) rfl HO64.out rfl HU8.out (by rw [HT1l.out, HUl.out]; omega) hY8 ?_
         intro v9 Z ho9 hg9 hb9
         have hbz : Below Y.heap.size w8 Z := (Below.refl Y.heap.size w8).grown hg9 hY8 (fun j hj => (HO64.out.block_ge hj).1)
         have HBZ := Lib.hid (HB8.out.trans (hbz.mono hwY))
         have HR7Z := Lib.hid (HR78.out.below hbz hg7Y)
         obtain ⟨A9, c9, rfl⟩ := ho9.shape
         rw [HUTl.out]
         have HO9 := Lib.hid ho9
         have hc9 : (64 : Int) ≤ (c9 : Int) := by
           have h := ho9.bs
           obtain ⟨_, _, e9, h9, _⟩ := h
           simp only [Value.slice.injEq] at e9
           have := HUTl.out
           omega
         clear ho9 hg9 hb9 hbz)
      | fail)
    have hkc : (64 : Int) ≤ (c9 : Int) := by omega
    have HC1 := Lib.hid (show Bs Z Z.heap.size (.slice (some ⟨g7, 0, none⟩) 64 N) (O.take 64) by
      have h := HR7Z.out.bs HR7Z.out.lt
      rw [HOl.out] at h
      exact h.take HOl.out.symm (by rw [HOl.out]; omega))
    have HC2 := Lib.hid (show Bs Z Z.heap.size (.slice A9 64 c9) (O.take 64) by
      have h := HO9.out.bs
      rw [HUTl.out] at h
      rw [← Hfi2.out]
      exact h.take HUTl.out.symm (by rw [HUTl.out]; omega))
    refine By.marks Pol.mixed Grew [By.is (.slice (some ⟨g7, 0, none⟩) N N),
      By.is (.int .i64 (64 : Int)),
      By.is (.slice (some ⟨g7, 0, none⟩) 64 N),
      By.is (strOf (O.take 64)),
      By.is (.slice A9 64 c9),
      By.is (.int .i64 (64 : Int)),
      By.is (.slice A9 64 c9),
      By.is (strOf (O.take 64)),
      By.is (.bool true),
      By.is (.bool true)]
      (Ev.masks _ []) (by kernel_rfl) rfl Grew.refl Grew.trans ⟨?_, ?_, ?_, ?_, ?_, ?_, ?_, ?_, ?_, ?_, trivial⟩ ?_
    · intro a w ht hs hg -- 70
      have h7 := By.same_get hs 7 (by decide) (by kernel_rfl)
      refine By.yes rfl ?_
      clear hs hg
      go_simp
      exact ⟨_, rfl, Grew.refl _, rfl⟩
    · intro a w ht hs hg -- 71
      have h12 := By.same_get hs 12 (by decide) (by kernel_rfl)
      refine By.yes rfl ?_
      clear hs hg
      go_simp
      exact ⟨_, rfl, Grew.refl _, rfl⟩
    · intro a w ht hs hg -- 72
      have h70 : a.tmps.getD 70 undef = _ := By.given_get hg 0 rfl rfl (by kernel_rfl)
      have h71 : a.tmps.getD 71 undef = _ := By.given_get hg 1 rfl rfl (by kernel_rfl)
      refine By.yes rfl ?_
      clear hs hg
      go_simp
      exact ⟨_, rfl, Grew.refl _, rfl⟩
    · intro a w ht hs hg -- 73
      have h72 : a.tmps.getD 72 undef = _ := By.given_get hg 2 rfl rfl (by kernel_rfl)
      refine By.yes rfl ?_
      clear hs hg
      have hr := run_str w (Bs.below (w := Z.drew) HC1.out ht)
      go_simp
      exact ⟨_, rfl, Grew.refl _, rfl⟩
    · intro a w ht hs hg -- 74
      have h11 := By.same_get hs 11 (by decide) (by kernel_rfl)
      refine By.yes rfl ?_
      clear hs hg
      go_simp
      exact ⟨_, rfl, Grew.refl _, rfl⟩
    · intro a w ht hs hg -- 75
      have h12 := By.same_get hs 12 (by decide) (by kernel_rfl)
      refine By.yes rfl ?_
      clear hs hg
      go_simp
      exact ⟨_, rfl, Grew.refl _, rfl⟩
    · intro a w ht hs hg -- 76
      have h74 : a.tmps.getD 74 undef = _ := By.given_get hg 4 rfl rfl (by kernel_rfl)
      have h75 : a.tmps.getD 75 undef = _ := By.given_get hg 5 rfl rfl (by kernel_rfl)
      refine By.yes rfl ?_
      clear hs hg
      go_simp
      exact ⟨_, rfl, Grew.refl _, rfl⟩
    · intro a w ht hs hg -- 77
      have h76 : a.tmps.getD 76 undef = _ := By.given_get hg 6 rfl rfl (by kernel_rfl)
      refine By.yes rfl ?_
      clear hs hg
      have hr := run_str w (Bs.below (w := Z.drew) HC2.out ht)
      go_simp
      exact ⟨_, rfl, Grew.refl _, rfl⟩
    · intro a w ht hs hg -- 78
      have h73 : a.tmps.getD 73 undef = _ := By.given_get hg 3 rfl rfl (by kernel_rfl)
      have h77 : a.tmps.getD 77 undef = _ := By.given_get hg 7 rfl rfl (by kernel_rfl)
      refine By.yes rfl ?_
      clear hs hg
      unfold strOf at h73 h77
      go_simp
      exact ⟨_, rfl, Grew.refl _, congrArg Value.bool (by simp)⟩
    · intro a w ht hs hg -- 6
      have h78 : a.tmps.getD 78 undef = _ := By.given_get hg 8 rfl rfl (by kernel_rfl)
      refine By.yes rfl ?_
      clear hs hg
      go_simp
      exact ⟨_, rfl, Grew.refl _, rfl⟩
    refine By.ends_is (By.ends_is (By.ends_is (By.ends_is (By.ends_is (By.ends_is (By.ends_is (By.ends_is (By.ends_is (By.ends_is (By.ends_nil fun w9 hw9 => ?_))))))))))
    simp only [Act.put, List.setIfInBounds_toArray, List.set_cons_succ, List.set_cons_zero]
    have HBW := Lib.hid (nextB HBZ.out (Nat.le_refl _) (show Below Z.heap.size Z w9 from ⟨hw9.os, hw9.tape, hw9.output, hw9.size, hw9.block⟩))
    clear hw9
    go_wp2
    go_ret
    exact ⟨rfl, HBW.out⟩
  · have h64' : (N : Int) ≤ 64 := by omega
    have h64'' : ¬ (64 : Int) < (N : Int) := by omega
    have Hfi2 := Lib.hid (show (T1 ++ U).take N = O.take N by have h := Hfi.out; rwa [show min N 64 = N by omega] at h)
    go_wp2_with (first
      | (at_builtin
         refine wpList_app_bytes _ rfl (.tmp 64) (.tmp 65) rfl (l := T1) (m := U) rfl HO64.out rfl HU8.out (by rw [HT1l.out, HUl.out]; omega) hY8 ?_
         intro v9 Z ho9 hg9 hb9
         have hbz : Below Y.heap.size w8 Z := (Below.refl Y.heap.size w8).grown hg9 hY8 (fun j hj => (HO64.out.block_ge hj).1)
         have HBZ := Lib.hid (HB8.out.trans (hbz.mono hwY))
         have HR7Z := Lib.hid (HR78.out.below hbz hg7Y)
         obtain ⟨A9, c9, rfl⟩ := ho9.shape
         rw [HUTl.out]
         have HO9 := Lib.hid ho9
         have hc9 : (64 : Int) ≤ (c9 : Int) := by
           have h := ho9.bs
           obtain ⟨_, _, e9, h9, _⟩ := h
           simp only [Value.slice.injEq] at e9
           have := HUTl.out
           omega
         clear ho9 hg9 hb9 hbz)
      | fail)
    have hkc : (N : Int) ≤ (c9 : Int) := by omega
    have HC1 := Lib.hid (show Bs Z Z.heap.size (.slice (some ⟨g7, 0, none⟩) N N) (O.take N) by
      have h := HR7Z.out.bs HR7Z.out.lt
      rw [HOl.out] at h
      exact h.take HOl.out.symm (by rw [HOl.out]; omega))
    have HC2 := Lib.hid (show Bs Z Z.heap.size (.slice A9 N c9) (O.take N) by
      have h := HO9.out.bs
      rw [HUTl.out] at h
      rw [← Hfi2.out]
      exact h.take HUTl.out.symm (by rw [HUTl.out]; omega))
    refine By.marks Pol.mixed Grew [By.is (.slice (some ⟨g7, 0, none⟩) N N),
      By.is (.int .i64 (N : Int)),
      By.is (.slice (some ⟨g7, 0, none⟩) N N),
      By.is (strOf (O.take N)),
      By.is (.slice A9 64 c9),
      By.is (.int .i64 (N : Int)),
      By.is (.slice A9 N c9),
      By.is (strOf (O.take N)),
      By.is (.bool true),
      By.is (.bool true)]
      (Ev.masks _ []) (by kernel_rfl) rfl Grew.refl Grew.trans ⟨?_, ?_, ?_, ?_, ?_, ?_, ?_, ?_, ?_, ?_, trivial⟩ ?_
    · intro a w ht hs hg -- 70
      have h7 := By.same_get hs 7 (by decide) (by kernel_rfl)
      refine By.yes rfl ?_
      clear hs hg
      go_simp
      exact ⟨_, rfl, Grew.refl _, rfl⟩
    · intro a w ht hs hg -- 71
      have h12 := By.same_get hs 12 (by decide) (by kernel_rfl)
      refine By.yes rfl ?_
      clear hs hg
      go_simp
      exact ⟨_, rfl, Grew.refl _, rfl⟩
    · intro a w ht hs hg -- 72
      have h70 : a.tmps.getD 70 undef = _ := By.given_get hg 0 rfl rfl (by kernel_rfl)
      have h71 : a.tmps.getD 71 undef = _ := By.given_get hg 1 rfl rfl (by kernel_rfl)
      refine By.yes rfl ?_
      clear hs hg
      go_simp
      exact ⟨_, rfl, Grew.refl _, rfl⟩
    · intro a w ht hs hg -- 73
      have h72 : a.tmps.getD 72 undef = _ := By.given_get hg 2 rfl rfl (by kernel_rfl)
      refine By.yes rfl ?_
      clear hs hg
      have hr := run_str w (Bs.below (w := Z.drew) HC1.out ht)
      go_simp
      exact ⟨_, rfl, Grew.refl _, rfl⟩
    · intro a w ht hs hg -- 74
      have h11 := By.same_get hs 11 (by decide) (by kernel_rfl)
      refine By.yes rfl ?_
      clear hs hg
      go_simp
      exact ⟨_, rfl, Grew.refl _, rfl⟩
    · intro a w ht hs hg -- 75
      have h12 := By.same_get hs 12 (by decide) (by kernel_rfl)
      refine By.yes rfl ?_
      clear hs hg
      go_simp
      exact ⟨_, rfl, Grew.refl _, rfl⟩
    · intro a w ht hs hg -- 76
      have h74 : a.tmps.getD 74 undef = _ := By.given_get hg 4 rfl rfl (by kernel_rfl)
      have h75 : a.tmps.getD 75 undef = _ := By.given_get hg 5 rfl rfl (by kernel_rfl)
      refine By.yes rfl ?_
      clear hs hg
      go_simp
      exact ⟨_, rfl, Grew.refl _, rfl⟩
    · intro a w ht hs hg -- 77
      have h76 : a.tmps.getD 76 undef = _ := By.given_get hg 6 rfl rfl (by kernel_rfl)
      refine By.yes rfl ?_
      clear hs hg
      have hr := run_str w (Bs.below (w := Z.drew) HC2.out ht)
      go_simp
      exact ⟨_, rfl, Grew.refl _, rfl⟩
    · intro a w ht hs hg -- 78
      have h73 : a.tmps.getD 73 undef = _ := By.given_get hg 3 rfl rfl (by kernel_rfl)
      have h77 : a.tmps.getD 77 undef = _ := By.given_get hg 7 rfl rfl (by kernel_rfl)
      refine By.yes rfl ?_
      clear hs hg
      unfold strOf at h73 h77
      go_simp
      exact ⟨_, rfl, Grew.refl _, congrArg Value.bool (by simp)⟩
    · intro a w ht hs hg -- 6
      have h78 : a.tmps.getD 78 undef = _ := By.given_get hg 8 rfl rfl (by kernel_rfl)
      refine By.yes rfl ?_
      clear hs hg
      go_simp
      exact ⟨_, rfl, Grew.refl _, rfl⟩
    refine By.ends_is (By.ends_is (By.ends_is (By.ends_is (By.ends_is (By.ends_is (By.ends_is (By.ends_is (By.ends_is (By.ends_is (By.ends_nil fun w9 hw9 => ?_))))))))))
    simp only [Act.put, List.setIfInBounds_toArray, List.set_cons_succ, List.set_cons_zero]
    have HBW := Lib.hid (nextB HBZ.out (Nat.le_refl _) (show Below Z.heap.size Z w9 from ⟨hw9.os, hw9.tape, hw9.output, hw9.size, hw9.block⟩))
    clear hw9
    go_wp2
    go_ret
    exact ⟨rfl, HBW.out⟩

set_option maxRecDepth 100000 in
theorem lift (os : Os) (started : os.Started) (H : Type) (enc : TypeId × Value → H) :
    ReturnsInHanded {} Tryd.checked os 6 .any (fun w args => (Rows.hkdfFirstSpec.pre enc Tryd.prog Tryd.f6 Rows.hkdfFirstRow.domain false w args ∧ laidMetH Tryd.prog Hk.laidL w) ∧ sizedMet enc Tryd.prog Tryd.f6 (OpenSpec.ofChange Rows.hkdfFirstSpec) false w args) (Rows.hkdfFirstSpec.post enc Tryd.prog Tryd.f6 false true false false) := by
  refine Hk.lifted 4 Pol.own started (by kernel_rfl) Tryd.func6 Pol.laid (by kernel_rfl) rfl Tryd.underlying4 rfl
    (fun ds hd => by
      have hd' : ds.length = 3 := hd
      match ds, hd' with
      | [d0, d1, d2], _ => rfl)
    (ChangeSpec.witness_at (enc := enc) (C := Tryd.checked) (os := os) (X := fun w _ => laidMetH Tryd.prog Hk.laidL w) false (Hk.laidWorld os) #[.agg #[.int .u8 0, .int .u8 0, .int .u8 0, .int .u8 0, .int .u8 0, .int .u8 0, .int .u8 0, .int .u8 0, .int .u8 0, .int .u8 0, .int .u8 0, .int .u8 0, .int .u8 0, .int .u8 0, .int .u8 0, .int .u8 0, .int .u8 0, .int .u8 0, .int .u8 0, .int .u8 0, .int .u8 0, .int .u8 0, .int .u8 0, .int .u8 0, .int .u8 0, .int .u8 0, .int .u8 0, .int .u8 0, .int .u8 0, .int .u8 0, .int .u8 0, .int .u8 0], .slice none 0 0, .int .i64 0] 8 rfl (by kernel_rfl) (by kernel_rfl) (by kernel_rfl) (by kernel_rfl) (by kernel_rfl) (Hk.laid_metH os _)) ?_
  intro W args ds ps hst htab
  have hA : DataW.TrodAll enc Tryd.prog W 0 (fun _ => true) true Tryd.f6.params.toList args.toList ds ps := hst.trod
  have hok := hst.okw
  have hlt := hst.lt
  rw [Tryd.params6] at hA hok
  obtain ⟨v0, v1, v2, d0, d1, d2, p0, p1, p2, rfl, rfl, rfl, h0, h1, h2⟩ := trodAll_three hA
  obtain ⟨_, hv0⟩ := hok 0 26 v0 rfl rfl
  obtain ⟨_, hv1⟩ := hok 1 22 v1 rfl rfl
  obtain ⟨_, hv2⟩ := hok 2 3 v2 rfl rfl
  obtain ⟨key, rfl, hk⟩ := arr8_at (P := Tryd.prog) Tryd.underlying26 (by kernel_rfl) (by kernel_rfl) Tryd.underlying5 hv0
  obtain ⟨info, hi, _⟩ := Law.bytes_at Tryd.underlying22 hv1 h1 (fun x hx => hlt x (by simp [hx]))
  obtain ⟨z, rfl, hz1, hz2⟩ := Law.int_at Tryd.underlying3 hv2 h2
  have hi0 := hi
  obtain ⟨A, c, rfl, _, _⟩ := hi0
  by_cases hl : 400 < info.length
  · exact walkT key A c info.length z W htab hl
  · by_cases hz : (8160 : Int) < z
    · exact walkL key info A c z W htab hi (by omega) hk hz
    · refine walkM key info A c z.toNat z W htab hi (by omega) hk ?_ (by omega)
      rcases Int.lt_or_le 0 z with h | h
      · exact .inr (by omega)
      · exact .inl ⟨h, by omega⟩

theorem over : Rows.hkdfFirstRow.holds Tryd.pinned (OpenSpec.ofChange Rows.hkdfFirstSpec) :=
  OpenClaim.holds_of_wide 6 Tryd.f6 rfl rfl rfl rfl rfl rfl rfl ⟨rfl, rfl, rfl, rfl, rfl⟩ rfl rfl rfl rfl rfl (by kernel_rfl) Tryd.func6 (by kernel_rfl)
    (of_decide_eq_true (by kernel_rfl)) (by unfold Func.isWrapper; first | (rw [if_pos (by decide +kernel)]; kernel_rfl) | (rw [if_neg (by decide +kernel)]; exact ⟨rfl, rfl⟩))
    (fun os started H enc _ => lift os started H enc)
theorem proved : Rows.HkdfFirstCardSaid :=
  Claim7.holds_tied_plain_at .later [] [.data] true Rows.hkdfFirstCard.stood.harness false over (fun _ h => by cases h) (by kernel_rfl) (fun _ h => by cases h) hkdfFirst_row_tie rfl ⟨rfl, rfl⟩ (by kernel_rfl) rfl
    (fun f fn hf hfn => by
      obtain rfl : f = 6 := (Option.some.inj ((show Tryd.prog.funcNamed Rows.hkdfFirstRow.func = some 6 by kernel_rfl).symm.trans hf)).symm
      obtain rfl : fn = Tryd.f6 := (Option.some.inj (Tryd.func6.symm.trans hfn)).symm
      refine ⟨by kernel_rfl, fun j t ht => ?_⟩
      have hall : (Tryd.f6.params.toList.all fun t => Tryd.prog.wantsStandIn t == false) = true := by kernel_rfl
      have h := List.all_eq_true.1 hall t (Array.mem_toList_iff.2 (Array.mem_of_getElem? ht))
      exact eq_of_beq h)
    (by kernel_rfl)
#print axioms proved
end Go.Proofs.YtaamkgchophpeaaDoor.hkdfFirst

