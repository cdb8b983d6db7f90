/- Tags, clamped keys and what is equal are what the document says: 'drawbridgelaw03.PolyTags', for every argument. -/
import Derived.Test.YtpllbnioncjhaaaPolLives
import Derived.Test.YtpllbnioncjhaaaPolTagF
import Derived.Test.YtpllbnioncjhaaaPolRTag
import Derived.Test.YtpllbnioncjhaaaEqKit
import Derived.Test.YtpllbnioncjhaaaKit
import Derived.Test.YtpllbnioncjhaaaLaw
import Derived.Test.YtpllbnioncjhaaaAeadEqual
namespace Go.Proofs.Ytpllbnioncjhaaa.polyTags
open Go.ChangeShapes Go.WideShapes Go.ChangeAt Go.RowKit
open Pol (own mixed laid tagK clampB)
set_option maxRecDepth 100000 in
set_option maxHeartbeats 1000000 in
theorem long (key x y : List UInt8) (A1 : Option Addr) (n1 c1 : Nat) (h : 400 < n1) (w : World) :
    Calls Try.prog 4 #[arr8 key, .slice A1 n1 c1, arr8 x, arr8 y] w fun e w' => e = .returned (.bool true) ∧ Below w.heap.size w w' := by
  unfold arr8
  have h1' : (400 : Int) < (n1 : Int) := by omega
  clear h
  go_enter Try.func4, Try.ntmps4
  go_wp2_with (go_at_call 11; refine (Pol.lives_any _).mono ?_; rintro e w1 ⟨rfl, hb1⟩; have HB1 := Lib.hid hb1; clear hb1)
  go_ret
  exact ⟨rfl, ((((Below.refl _ w).alloc (Nat.le_refl _) _).alloc (by simp) _).alloc (by simp; omega) _).trans (HB1.out.mono (by simp; omega))⟩
set_option maxRecDepth 100000 in
set_option maxHeartbeats 1000000 in
theorem walk (key x y lb : List UInt8) (A1 : Option Addr) (n1 c1 : Nat) (hk : key.length = 32) (hx : x.length = 16) (hy : y.length = 16) (w : World) (hn1 : lb.length = n1) (hb : Bs w w.heap.size (.slice A1 n1 c1) lb) (h1 : n1 ≤ 400) :
    Calls Try.prog 4 #[arr8 key, .slice A1 n1 c1, arr8 x, arr8 y] w fun e w' => e = .returned (.bool true) ∧ Below w.heap.size w w' := by
  have h1' : ¬ (400 : Int) < (n1 : Int) := by omega
  obtain ⟨r, hr⟩ : ∃ r, clampB key = r := ⟨_, rfl⟩
  obtain ⟨T, hT⟩ : ∃ T, tagK key lb = T := ⟨_, rfl⟩
  have hrl : r.length = 16 := by rw [← hr]; exact Pol.clampB_length key hk
  have hTl : T.length = 16 := by rw [← hT]; exact Pol.tagK_length _ _
  have HT := Lib.hid (show ∀ (W : World) (v : Value), Bs W W.heap.size v lb → Calls Try.prog 12 #[arr8 key, v] W fun e w' => e = .returned (arr8 T) ∧ Below W.heap.size W w' from fun W v hv => hT ▸ Pol.TagF_any hk hv (by omega))
  have HR := Lib.hid (show ∀ (W : World) (v : Value), Bs W W.heap.size v lb → Calls Try.prog 14 #[arr8 key, v] W fun e w' => e = .returned (arr8 T) ∧ Below W.heap.size W w' from fun W v hv => hT ▸ PRef.RTag_any hk W hv (by omega))
  have HC := Lib.hid (show ∀ W : World, Calls Try.prog 15 #[arr8 key] W fun e w' => e = .returned (arr8 r) ∧ Below W.heap.size W w' from fun W => hr ▸ Pol.Clamp_any hk W)
  have HRC := Lib.hid (show ∀ W : World, Calls Try.prog 16 #[arr8 key] W fun e w' => e = .returned (arr8 r) ∧ Below W.heap.size W w' from fun W => hr ▸ PRef.RClamp_any hk W)
  have HE := Lib.hid (show ∀ W : World, Calls Try.prog 17 #[arr8 x, arr8 y] W fun e w' => e = .returned (.bool (decide (x = y))) ∧ Below W.heap.size W w' from fun W => Aead.Equal_any hx hy W)
  have HEx := Lib.hid (show ∀ W : World, Calls Try.prog 17 #[arr8 x, arr8 x] W fun e w' => e = .returned (.bool true) ∧ Below W.heap.size W w' from fun W => by
    have h := Aead.Equal_any hx hx W
    rwa [decide_eq_true (rfl : x = x)] at h)
  have Hkl := Lib.hid (show (key.map bv).length = 32 by rw [List.length_map]; exact hk)
  have Hxl := Lib.hid (show (x.map bv).length = 16 by rw [List.length_map]; exact hx)
  have Hyl := Lib.hid (show (y.map bv).length = 16 by rw [List.length_map]; exact hy)
  have Hr16 := Lib.hid hrl
  have HT16 := Lib.hid hTl
  have Hx16 := Lib.hid hx
  have Hy16 := Lib.hid hy
  have Hb := Lib.hid hb
  have HPL := Lib.hid (show lb.length ≤ 400 by omega)
  clear hk hx hy hn1 hb h1 hr hT hrl hTl
  obtain ⟨d, hd⟩ : ∃ d, decide (x = y) = d := ⟨_, rfl⟩
  have Hd := Lib.hid hd
  rw [hd] at HE
  clear hd
  unfold arr8
  go_enter Try.func4, Try.ntmps4
  go_wp2_with fail
  obtain ⟨w1, hw1⟩ : ∃ w1, ((w.alloc (.cells (key.map bv).toArray 24)).alloc (.cells (x.map bv).toArray 35)).alloc (.cells (y.map bv).toArray 35) = w1 := ⟨_, rfl⟩
  have HK1 := Lib.hid (show Row w1 w.heap.size (key.map bv) 24 from hw1 ▸ ((Row.new rfl rfl).alloc _).alloc _)
  have HX1 := Lib.hid (show Row w1 (w.heap.size + 1) (x.map bv) 35 from hw1 ▸ (Row.new (by simp) rfl).alloc _)
  have HY1 := Lib.hid (show Row w1 (w.heap.size + 1 + 1) (y.map bv) 35 from hw1 ▸ Row.new (by simp) rfl)
  have HB1 := Lib.hid (show Below w.heap.size w w1 from hw1 ▸ (((Below.refl _ w).alloc (Nat.le_refl _) _).alloc (by simp) _).alloc (by simp; omega) _)
  show Calls _ _ _ (((w.alloc (.cells (key.map bv).toArray 24)).alloc (.cells (x.map bv).toArray 35)).alloc (.cells (y.map bv).toArray 35)) _
  rw [hw1]
  clear hw1
  refine (Pol.lives_any w1).mono ?_
  rintro e w2 ⟨rfl, hb2⟩
  have HK2 := Lib.hid (HK1.out.below hb2 HK1.out.lt)
  have HX2 := Lib.hid (HX1.out.below hb2 HX1.out.lt)
  have HY2 := Lib.hid (HY1.out.below hb2 HY1.out.lt)
  have HB2 := Lib.hid (nextB HB1.out (Nat.le_refl _) hb2)
  have HP2 := Lib.hid ((Hb.out.below HB2.out).more HB2.out.size)
  clear hb2
  go_wp2_with fail
  refine By.marks mixed Grew [By.is (arr8 key),
    By.is (.slice A1 n1 c1),
    ownM 0 lb,
    By.is (arr8 T),
    By.is (arr8 key),
    By.is (.slice A1 n1 c1),
    By.is (arr8 T),
    By.is (.bool true),
    By.is (.bool true),
    By.is (arr8 key),
    By.is (arr8 r),
    By.is (arr8 key),
    By.is (arr8 r),
    By.is (.bool true),
    By.is (.bool true),
    By.is (.bool true),
    By.is (arr8 x),
    By.is (arr8 y),
    By.is (.bool d),
    By.is (arr8 x),
    By.is (arr8 y),
    By.is (.bool d),
    By.is (.bool true),
    By.is (.bool true),
    By.is (.bool true),
    By.is (arr8 x),
    By.is (arr8 x),
    By.is (.bool true),
    By.is (.bool true),
    By.is (.bool true)]
    (Ev.masks _ []) (by kernel_rfl) rfl Grew.refl Grew.trans ⟨?_, ?_, ?_, ?_, ?_, ?_, ?_, ?_, ?_, ?_, ?_, ?_, ?_, ?_, ?_, ?_, ?_, ?_, ?_, ?_, ?_, ?_, ?_, ?_, ?_, ?_, ?_, ?_, ?_, ?_, trivial⟩ ?_
  · intro a w ht hs hg -- 14
    have h4 := By.same_get hs 4 (by decide) (by kernel_rfl)
    refine By.yes rfl ?_
    clear hs hg
    refine wp_loadRow 24 _ rfl h4 (Row.below (w := w2.drew) HK2.out ht HK2.out.lt) Try.underlying24 rfl (by kernel_rfl) Hkl.out ?_
    exact ⟨_, rfl, Grew.refl _, rfl⟩
  · intro a w ht hs hg -- 15
    have h1 := By.same_get hs 1 (by decide) (by kernel_rfl)
    refine By.yes rfl ?_
    clear hs hg
    go_simp
    exact ⟨_, rfl, Grew.refl _, rfl⟩
  · intro a w ht hs hg -- 16
    have h15 : a.tmps.getD 15 undef = _ := By.given_get hg 1 rfl rfl (by kernel_rfl)
    refine By.yes rfl ?_
    clear hs hg
    have hx := Lib.hid ((Bs.below (w := w2.drew) HP2.out ht).more ht.size)
    go_simp
    refine (Own_any _ lb w hx.out (by have := HPL.out; omega)).mono ?_
    rintro e w' ⟨v, rfl, ho, hb⟩
    exact ⟨_, rfl, hb, ho.less (Nat.zero_le _)⟩
  · intro a w ht hs hg -- 17
    have h14 : a.tmps.getD 14 undef = _ := By.given_get hg 0 rfl rfl (by kernel_rfl)
    have h16 := By.given_get hg 2 rfl rfl (by kernel_rfl)
    refine By.yes rfl ?_
    obtain ⟨v16, hv16⟩ : ∃ v, a.tmps.getD 16 undef = v := ⟨_, rfl⟩
    replace h16 := (congrArg (fun v => ((ownM 0 lb)).on v w) hv16).mp h16
    clear hs hg
    have Ho := Lib.hid (Own.bs h16)
    clear h16
    go_simp
    refine (HT.out w _ Ho.out).mono ?_
    rintro e w' ⟨rfl, hb⟩
    exact ⟨_, rfl, hb, rfl⟩
  · intro a w ht hs hg -- 18
    have h4 := By.same_get hs 4 (by decide) (by kernel_rfl)
    refine By.yes rfl ?_
    clear hs hg
    refine wp_loadRow 24 _ rfl h4 (Row.below (w := w2.drew) HK2.out ht HK2.out.lt) Try.underlying24 rfl (by kernel_rfl) Hkl.out ?_
    exact ⟨_, rfl, Grew.refl _, rfl⟩
  · intro a w ht hs hg -- 19
    have h1 := By.same_get hs 1 (by decide) (by kernel_rfl)
    refine By.yes rfl ?_
    clear hs hg
    go_simp
    exact ⟨_, rfl, Grew.refl _, rfl⟩
  · intro a w ht hs hg -- 20
    have h18 : a.tmps.getD 18 undef = _ := By.given_get hg 4 rfl rfl (by kernel_rfl)
    have h19 : a.tmps.getD 19 undef = _ := By.given_get hg 5 rfl rfl (by kernel_rfl)
    refine By.yes rfl ?_
    clear hs hg
    have Ho := Lib.hid ((Bs.below (w := w2.drew) HP2.out ht).more ht.size)
    go_simp
    refine (HR.out w _ Ho.out).mono ?_
    rintro e w' ⟨rfl, hb⟩
    exact ⟨_, rfl, hb, rfl⟩
  · intro a w ht hs hg -- 21
    have h17 : a.tmps.getD 17 undef = _ := By.given_get hg 3 rfl rfl (by kernel_rfl)
    have h20 : a.tmps.getD 20 undef = _ := By.given_get hg 6 rfl rfl (by kernel_rfl)
    refine By.yes rfl ?_
    clear hs hg
    refine wp_eqArr _ _ rfl (by kernel_rfl) h17 h20 (eq16 T T HT16.out HT16.out w) ?_
    exact ⟨_, rfl, Grew.refl _, congrArg Value.bool (by simp)⟩
  · intro a w ht hs hg -- 22
    have h21 : a.tmps.getD 21 undef = _ := By.given_get hg 7 rfl rfl (by kernel_rfl)
    refine By.yes rfl ?_
    clear hs hg
    go_simp
    exact ⟨_, rfl, Grew.refl _, rfl⟩
  · intro a w ht hs hg -- 23
    have h4 := By.same_get hs 4 (by decide) (by kernel_rfl)
    have hg22 := By.given_get hg 8 rfl rfl (by kernel_rfl)
    refine By.yes (By.want_yes rfl rfl hg22) ?_
    clear hg22
    clear hs hg
    refine wp_loadRow 24 _ rfl h4 (Row.below (w := w2.drew) HK2.out ht HK2.out.lt) Try.underlying24 rfl (by kernel_rfl) Hkl.out ?_
    exact ⟨_, rfl, Grew.refl _, rfl⟩
  · intro a w ht hs hg -- 24
    have h23 : a.tmps.getD 23 undef = _ := By.given_get hg 9 rfl rfl (by kernel_rfl)
    have hg22 := By.given_get hg 8 rfl rfl (by kernel_rfl)
    refine By.yes (By.want_yes rfl rfl hg22) ?_
    clear hg22
    clear hs hg
    go_simp
    refine (HC.out w).mono ?_
    rintro e w' ⟨rfl, hb⟩
    exact ⟨_, rfl, hb, rfl⟩
  · intro a w ht hs hg -- 25
    have h4 := By.same_get hs 4 (by decide) (by kernel_rfl)
    have hg22 := By.given_get hg 8 rfl rfl (by kernel_rfl)
    refine By.yes (By.want_yes rfl rfl hg22) ?_
    clear hg22
    clear hs hg
    refine wp_loadRow 24 _ rfl h4 (Row.below (w := w2.drew) HK2.out ht HK2.out.lt) Try.underlying24 rfl (by kernel_rfl) Hkl.out ?_
    exact ⟨_, rfl, Grew.refl _, rfl⟩
  · intro a w ht hs hg -- 26
    have h25 : a.tmps.getD 25 undef = _ := By.given_get hg 11 rfl rfl (by kernel_rfl)
    have hg22 := By.given_get hg 8 rfl rfl (by kernel_rfl)
    refine By.yes (By.want_yes rfl rfl hg22) ?_
    clear hg22
    clear hs hg
    go_simp
    refine (HRC.out w).mono ?_
    rintro e w' ⟨rfl, hb⟩
    exact ⟨_, rfl, hb, rfl⟩
  · intro a w ht hs hg -- 27
    have h24 : a.tmps.getD 24 undef = _ := By.given_get hg 10 rfl rfl (by kernel_rfl)
    have h26 : a.tmps.getD 26 undef = _ := By.given_get hg 12 rfl rfl (by kernel_rfl)
    have hg22 := By.given_get hg 8 rfl rfl (by kernel_rfl)
    refine By.yes (By.want_yes rfl rfl hg22) ?_
    clear hg22
    clear hs hg
    refine wp_eqArr _ _ rfl (by kernel_rfl) h24 h26 (eq16 r r Hr16.out Hr16.out w) ?_
    exact ⟨_, rfl, Grew.refl _, congrArg Value.bool (by simp)⟩
  · intro a w ht hs hg -- 28
    have h22 : a.tmps.getD 22 undef = _ := By.given_get hg 8 rfl rfl (by kernel_rfl)
    have h27 : a.tmps.getD 27 undef = _ := By.given_get hg 13 rfl rfl (by kernel_rfl)
    refine By.yes rfl ?_
    clear hs hg
    go_simp
    exact ⟨_, rfl, Grew.refl _, rfl⟩
  · intro a w ht hs hg -- 29
    have h28 : a.tmps.getD 28 undef = _ := By.given_get hg 14 rfl rfl (by kernel_rfl)
    refine By.yes rfl ?_
    clear hs hg
    go_simp
    exact ⟨_, rfl, Grew.refl _, rfl⟩
  · intro a w ht hs hg -- 30
    have h6 := By.same_get hs 6 (by decide) (by kernel_rfl)
    have hg29 := By.given_get hg 15 rfl rfl (by kernel_rfl)
    refine By.yes (By.want_yes rfl rfl hg29) ?_
    clear hg29
    clear hs hg
    refine wp_loadRow 35 _ rfl h6 (Row.below (w := w2.drew) HX2.out ht HX2.out.lt) Try.underlying35 rfl (by kernel_rfl) Hxl.out ?_
    exact ⟨_, rfl, Grew.refl _, rfl⟩
  · intro a w ht hs hg -- 31
    have h7 := By.same_get hs 7 (by decide) (by kernel_rfl)
    have hg29 := By.given_get hg 15 rfl rfl (by kernel_rfl)
    refine By.yes (By.want_yes rfl rfl hg29) ?_
    clear hg29
    clear hs hg
    refine wp_loadRow 35 _ rfl h7 (Row.below (w := w2.drew) HY2.out ht HY2.out.lt) Try.underlying35 rfl (by kernel_rfl) Hyl.out ?_
    exact ⟨_, rfl, Grew.refl _, rfl⟩
  · intro a w ht hs hg -- 32
    have h30 : a.tmps.getD 30 undef = _ := By.given_get hg 16 rfl rfl (by kernel_rfl)
    have h31 : a.tmps.getD 31 undef = _ := By.given_get hg 17 rfl rfl (by kernel_rfl)
    have hg29 := By.given_get hg 15 rfl rfl (by kernel_rfl)
    refine By.yes (By.want_yes rfl rfl hg29) ?_
    clear hg29
    clear hs hg
    go_simp
    refine (HE.out w).mono ?_
    rintro e w' ⟨rfl, hb⟩
    exact ⟨_, rfl, hb, rfl⟩
  · intro a w ht hs hg -- 33
    have h6 := By.same_get hs 6 (by decide) (by kernel_rfl)
    have hg29 := By.given_get hg 15 rfl rfl (by kernel_rfl)
    refine By.yes (By.want_yes rfl rfl hg29) ?_
    clear hg29
    clear hs hg
    refine wp_loadRow 35 _ rfl h6 (Row.below (w := w2.drew) HX2.out ht HX2.out.lt) Try.underlying35 rfl (by kernel_rfl) Hxl.out ?_
    exact ⟨_, rfl, Grew.refl _, rfl⟩
  · intro a w ht hs hg -- 34
    have h7 := By.same_get hs 7 (by decide) (by kernel_rfl)
    have hg29 := By.given_get hg 15 rfl rfl (by kernel_rfl)
    refine By.yes (By.want_yes rfl rfl hg29) ?_
    clear hg29
    clear hs hg
    refine wp_loadRow 35 _ rfl h7 (Row.below (w := w2.drew) HY2.out ht HY2.out.lt) Try.underlying35 rfl (by kernel_rfl) Hyl.out ?_
    exact ⟨_, rfl, Grew.refl _, rfl⟩
  · intro a w ht hs hg -- 35
    have h33 : a.tmps.getD 33 undef = _ := By.given_get hg 19 rfl rfl (by kernel_rfl)
    have h34 : a.tmps.getD 34 undef = _ := By.given_get hg 20 rfl rfl (by kernel_rfl)
    have hg29 := By.given_get hg 15 rfl rfl (by kernel_rfl)
    refine By.yes (By.want_yes rfl rfl hg29) ?_
    clear hg29
    clear hs hg
    refine wp_eqArr _ _ rfl (by kernel_rfl) h33 h34 (eq16 x y Hx16.out Hy16.out w) ?_
    exact ⟨_, rfl, Grew.refl _, congrArg Value.bool Hd.out⟩
  · intro a w ht hs hg -- 36
    have h32 : a.tmps.getD 32 undef = _ := By.given_get hg 18 rfl rfl (by kernel_rfl)
    have h35 : a.tmps.getD 35 undef = _ := By.given_get hg 21 rfl rfl (by kernel_rfl)
    have hg29 := By.given_get hg 15 rfl rfl (by kernel_rfl)
    refine By.yes (By.want_yes rfl rfl hg29) ?_
    clear hg29
    clear hs hg
    go_simp
    exact ⟨_, rfl, Grew.refl _, congrArg Value.bool (by simp)⟩
  · intro a w ht hs hg -- 37
    have h29 : a.tmps.getD 29 undef = _ := By.given_get hg 15 rfl rfl (by kernel_rfl)
    have h36 : a.tmps.getD 36 undef = _ := By.given_get hg 22 rfl rfl (by kernel_rfl)
    refine By.yes rfl ?_
    clear hs hg
    go_simp
    exact ⟨_, rfl, Grew.refl _, rfl⟩
  · intro a w ht hs hg -- 38
    have h37 : a.tmps.getD 37 undef = _ := By.given_get hg 23 rfl rfl (by kernel_rfl)
    refine By.yes rfl ?_
    clear hs hg
    go_simp
    exact ⟨_, rfl, Grew.refl _, rfl⟩
  · intro a w ht hs hg -- 39
    have h6 := By.same_get hs 6 (by decide) (by kernel_rfl)
    have hg38 := By.given_get hg 24 rfl rfl (by kernel_rfl)
    refine By.yes (By.want_yes rfl rfl hg38) ?_
    clear hg38
    clear hs hg
    refine wp_loadRow 35 _ rfl h6 (Row.below (w := w2.drew) HX2.out ht HX2.out.lt) Try.underlying35 rfl (by kernel_rfl) Hxl.out ?_
    exact ⟨_, rfl, Grew.refl _, rfl⟩
  · intro a w ht hs hg -- 40
    have h6 := By.same_get hs 6 (by decide) (by kernel_rfl)
    have hg38 := By.given_get hg 24 rfl rfl (by kernel_rfl)
    refine By.yes (By.want_yes rfl rfl hg38) ?_
    clear hg38
    clear hs hg
    refine wp_loadRow 35 _ rfl h6 (Row.below (w := w2.drew) HX2.out ht HX2.out.lt) Try.underlying35 rfl (by kernel_rfl) Hxl.out ?_
    exact ⟨_, rfl, Grew.refl _, rfl⟩
  · intro a w ht hs hg -- 41
    have h39 : a.tmps.getD 39 undef = _ := By.given_get hg 25 rfl rfl (by kernel_rfl)
    have h40 : a.tmps.getD 40 undef = _ := By.given_get hg 26 rfl rfl (by kernel_rfl)
    have hg38 := By.given_get hg 24 rfl rfl (by kernel_rfl)
    refine By.yes (By.want_yes rfl rfl hg38) ?_
    clear hg38
    clear hs hg
    go_simp
    refine (HEx.out w).mono ?_
    rintro e w' ⟨rfl, hb⟩
    exact ⟨_, rfl, hb, rfl⟩
  · intro a w ht hs hg -- 42
    have h38 : a.tmps.getD 38 undef = _ := By.given_get hg 24 rfl rfl (by kernel_rfl)
    have h41 : a.tmps.getD 41 undef = _ := By.given_get hg 27 rfl rfl (by kernel_rfl)
    refine By.yes rfl ?_
    clear hs hg
    go_simp
    exact ⟨_, rfl, Grew.refl _, rfl⟩
  · intro a w ht hs hg -- 8
    have h42 : a.tmps.getD 42 undef = _ := By.given_get hg 28 rfl rfl (by kernel_rfl)
    refine By.yes rfl ?_
    clear hs hg
    go_simp
    exact ⟨_, rfl, Grew.refl _, rfl⟩
  refine By.ends_is (By.ends_is (By.ends_skip fun v16 => (By.ends_is (By.ends_is (By.ends_is (By.ends_is (By.ends_is (By.ends_is (By.ends_is (By.ends_is (By.ends_is (By.ends_is (By.ends_is (By.ends_is (By.ends_is (By.ends_is (By.ends_is (By.ends_is (By.ends_is (By.ends_is (By.ends_is (By.ends_is (By.ends_is (By.ends_is (By.ends_is (By.ends_is (By.ends_is (By.ends_is (By.ends_is (By.ends_nil fun wz hz => ?_))))))))))))))))))))))))))))))
  simp only [Act.put, List.setIfInBounds_toArray, List.set_cons_succ, List.set_cons_zero]
  go_wp2
  go_ret
  exact ⟨rfl, nextB (b := w2.drew) HB2.out.drew (Nat.le_refl _) hz⟩

set_option maxRecDepth 100000 in
theorem lift (os : Os) (started : os.Started) (H : Type) (enc : TypeId × Value → H) :
    ReturnsInHanded {} Try.checked os 4 .any (Rows.polyTagsSpec.pre6 enc Try.prog Try.f4 Rows.polyTagsRow.domain false) (Rows.polyTagsSpec.post enc Try.prog Try.f4 false true false false) := by
  refine Law.lifted (C := Try.checked) 4 own started (by kernel_rfl) Try.func4 laid (by kernel_rfl) rfl Try.underlying4 rfl
    (fun ds hd => by
      have hd' : ds.length = 4 := hd
      match ds, hd' with
      | [d0, d1, d2, d3], _ => rfl)
    (ChangeSpec.witness6 (enc := enc) (C := Try.checked) false ⟨#[], #[.agg (Array.replicate 32 (.int .u8 0)), .slice none 0 0, .agg (Array.replicate 16 (.int .u8 0)), .agg (Array.replicate 16 (.int .u8 0))], []⟩ 8 (by kernel_rfl) (by kernel_rfl) (by kernel_rfl) (by kernel_rfl)) ?_
  intro W args ds ps hst
  have hA : DataW.TrodAll enc Try.prog W 0 (fun _ => true) true Try.f4.params.toList args.toList ds ps := hst.trod
  have hok := hst.okw
  have hlt := hst.lt
  rw [Try.params4] at hA hok
  obtain ⟨v0, v1, v2, v3, d0, d1, d2, d3, p0, p1, p2, p3, rfl, rfl, rfl, h0, h1, h2, h3⟩ := trodAll_four hA
  obtain ⟨_, hv0⟩ := hok 0 24 v0 rfl rfl
  obtain ⟨_, hv1⟩ := hok 1 34 v1 rfl rfl
  obtain ⟨_, hv2⟩ := hok 2 35 v2 rfl rfl
  obtain ⟨_, hv3⟩ := hok 3 35 v3 rfl rfl
  obtain ⟨key, rfl, hk⟩ := arr8_at Try.underlying24 (by kernel_rfl) (by kernel_rfl) Try.underlying5 hv0
  obtain ⟨x, rfl, hx⟩ := arr8_at Try.underlying35 (by kernel_rfl) (by kernel_rfl) Try.underlying5 hv2
  obtain ⟨y, rfl, hy⟩ := arr8_at Try.underlying35 (by kernel_rfl) (by kernel_rfl) Try.underlying5 hv3
  obtain ⟨lb, hb, _⟩ := Law.bytes_at Try.underlying34 hv1 h1 (fun x hx => hlt x (by simp [hx]))
  obtain ⟨A1, c1, rfl, hc1, hcs⟩ := id hb
  by_cases hs : 400 < lb.length
  · exact long key x y A1 _ c1 hs W
  · exact walk key x y lb A1 _ c1 hk hx hy W rfl hb (by omega)

theorem over : Rows.polyTagsRow.holds Try.pinned (OpenSpec.ofChange Rows.polyTagsSpec) :=
  OpenClaim.holds_of_wide 4 Try.f4 rfl rfl rfl rfl rfl rfl rfl ⟨rfl, rfl, rfl, rfl, rfl⟩ rfl rfl rfl rfl rfl (by kernel_rfl) Try.func4 (by kernel_rfl)
    (of_decide_eq_true (by kernel_rfl)) (by unfold Func.isWrapper; first | (rw [if_pos (by decide +kernel)]; kernel_rfl) | (rw [if_neg (by decide +kernel)]; exact ⟨rfl, rfl⟩))
    (fun os started H enc _ => lift os started H enc)
theorem proved : Rows.PolyTagsSaid := over
#print axioms proved
end Go.Proofs.Ytpllbnioncjhaaa.polyTags

