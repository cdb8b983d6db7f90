/- Zero bytes that are appended are not what was sealed: 'drawbridgelaw04.AeadPads', for every argument. -/
import Derived.Test.YtnihpdbbbpekiaaAeadLives
import Derived.Test.YtnihpdbbbpekiaaChaRBlock
import Derived.Test.YtnihpdbbbpekiaaLaw
import Derived.Test.YtnihpdbbbpekiaaKit
import Derived.Test.YtnihpdbbbpekiaaBs
namespace Go.Proofs.Ytnihpdbbbpekiaa.aeadPads
open Go.ChangeShapes Go.WideShapes Go.ChangeAt Go.RowKit
open Pol (own mixed laid)
theorem xor_nil (key nonce : List UInt8) : Cha.xor key 1#32 nonce [] = [] := by unfold Cha.xor; rw [List.mapIdx_nil]
theorem sealed_nil (key nonce : List UInt8) : Aead.sealed key nonce [] [] = Aead.tag key nonce [] [] := by
  unfold Aead.sealed
  rw [xor_nil, List.nil_append]
theorem once_take (key nonce : List UInt8) : Aead.once key nonce = (Cha.block key 0#32 nonce).take 32 := by unfold Aead.once; exact Eq.refl _
set_option maxRecDepth 100000 in
set_option maxHeartbeats 1000000 in
theorem long (key nonce : List UInt8) (A1 A2 : Option Addr) (n1 n2 c1 c2 : Nat) (h : 300 < n1 ∨ 300 < n2) (w : World) :
    Calls Try.prog 13 #[arr8 key, arr8 nonce, .slice A1 n1 c1, .slice A2 n2 c2] w fun e w' => e = .returned (.bool true) ∧ Below w.heap.size w w' := by
  unfold arr8
  by_cases h1 : 300 < n1
  · have h1' : (300 : Int) < (n1 : Int) := by omega
    go_enter Try.func13, Try.ntmps13
    go_wp2_with (go_at_call 38; refine (Aead.lives_any _).mono ?_; rintro e w1 ⟨rfl, hb1⟩; have HB1 := Lib.hid hb1; clear hb1)
    go_ret
    exact ⟨rfl, (((Below.refl _ w).alloc (Nat.le_refl _) _).alloc (by simp) _).trans (HB1.out.mono (by simp; omega))⟩
  · have h1' : ¬ (300 : Int) < (n1 : Int) := by omega
    have h2' : (300 : Int) < (n2 : Int) := by omega
    go_enter Try.func13, Try.ntmps13
    go_wp2_with (go_at_call 38; refine (Aead.lives_any _).mono ?_; rintro e w1 ⟨rfl, hb1⟩; have HB1 := Lib.hid hb1; clear hb1)
    go_ret
    exact ⟨rfl, (((Below.refl _ w).alloc (Nat.le_refl _) _).alloc (by simp) _).trans (HB1.out.mono (by simp; omega))⟩
set_option maxRecDepth 100000 in
set_option maxHeartbeats 2000000 in
theorem walk (key nonce cipher along : List UInt8) (v1 v2 : Value) (hk : key.length = 32) (hn : nonce.length = 12) (w : World) (hc : Bs w w.heap.size v1 cipher) (ha : Bs w w.heap.size v2 along) (hcl : cipher.length ≤ 300) (hal : along.length ≤ 300) :
    Calls Try.prog 13 #[arr8 key, arr8 nonce, v1, v2] w fun e w' => e = .returned (.bool true) ∧ Below w.heap.size w w' := by
  obtain ⟨A1, c1, rfl, hc1, hcs1⟩ := id hc
  obtain ⟨A2, c2, rfl, hc2, hcs2⟩ := id ha
  obtain ⟨n1, hn1⟩ : ∃ n, cipher.length = n := ⟨_, rfl⟩
  obtain ⟨n2, hn2⟩ : ∃ n, along.length = n := ⟨_, rfl⟩
  rw [hn1] at hc ⊢
  rw [hn2] at ha ⊢
  have Hn1 := Lib.hid hn1
  have Hn2 := Lib.hid hn2
  have Hk := Lib.hid hk
  have Hn := Lib.hid hn
  have Hkl := Lib.hid (show (key.map bv).length = 32 by rw [List.length_map]; exact hk)
  have Hnl := Lib.hid (show (nonce.map bv).length = 12 by rw [List.length_map]; exact hn)
  have Hc := Lib.hid hc
  have Ha := Lib.hid ha
  have hl1' : ¬ (300 : Int) < (n1 : Int) := by omega
  have hl2' : ¬ (300 : Int) < (n2 : Int) := by omega
  have Hcl := Lib.hid hcl
  have Hal := Lib.hid hal
  obtain ⟨O, hO⟩ : ∃ O, Aead.once key nonce = O := ⟨_, rfl⟩
  obtain ⟨BK, hBK⟩ : ∃ BK, Cha.block key 0#32 nonce = BK := ⟨_, rfl⟩
  obtain ⟨TT, hTT⟩ : ∃ TT, Aead.tag key nonce cipher along = TT := ⟨_, rfl⟩
  obtain ⟨E, hE⟩ : ∃ E : List UInt8, E = [] := ⟨_, rfl⟩
  obtain ⟨T0, hT0⟩ : ∃ T0, Aead.tag key nonce E E = T0 := ⟨_, rfl⟩
  have HE := Lib.hid hE
  have HO := Lib.hid (show ∀ W : World, Calls Try.prog 42 #[arr8 key, arr8 nonce] W fun e w' => e = .returned (arr8 O) ∧ Below W.heap.size W w' from fun W => hO ▸ Aead.Once_any key nonce hk hn W)
  have HBK := Lib.hid (show ∀ W : World, Calls Try.prog 47 #[arr8 key, wv 0#32, arr8 nonce] W fun e w' => e = .returned (arr8 BK) ∧ Below W.heap.size W w' from fun W => hBK ▸ RBlock_any key nonce 0#32 hk hn W)
  have HTT := Lib.hid hTT
  have HT0 := Lib.hid hT0
  have HS0 := Lib.hid (show Aead.sealed key nonce E E = T0 by rw [← hT0, hE]; exact sealed_nil key nonce)
  have HOB := Lib.hid (show BK.take 32 = O by rw [← hBK, ← hO]; exact (once_take key nonce).symm)
  have HOl := Lib.hid (show (O.map bv).length = 32 by rw [List.length_map, ← hO]; exact Aead.once_length key nonce)
  have HBl := Lib.hid (show (BK.map bv).length = 64 by rw [List.length_map, ← hBK]; exact Cha.block_length key _ nonce)
  have HTTl := Lib.hid (show TT.length = 16 by rw [← hTT]; exact Aead.tag_length _ _ _ _)
  have HT0l := Lib.hid (show (T0.map bv).length = 16 by rw [List.length_map, ← hT0]; exact Aead.tag_length _ _ _ _)
  clear hk hn hc ha hcs1 hcs2 hO hBK hTT hT0 hE hcl hal hn1 hn2 hc1 hc2
  unfold arr8
  go_enter Try.func13, Try.ntmps13
  go_wp2_with fail
  obtain ⟨W, hW⟩ : ∃ W, (w.alloc (.cells (key.map bv).toArray 24)).alloc (.cells (nonce.map bv).toArray 25) = W := ⟨_, rfl⟩
  have hWb : Below w.heap.size w W := hW ▸ ((Below.refl _ w).alloc (Nat.le_refl _) _).alloc (by simp) _
  have hWs : W.heap.size = w.heap.size + 2 := by rw [← hW]; simp
  have hWk : Row W w.heap.size (key.map bv) 24 := hW ▸ (Row.new rfl rfl).alloc _
  have hWn : Row W (w.heap.size + 1) (nonce.map bv) 25 := hW ▸ Row.new (by simp) rfl
  show Calls _ _ _ ((w.alloc (.cells (key.map bv).toArray 24)).alloc (.cells (nonce.map bv).toArray 25)) _
  rw [hW]
  clear hW
  refine (Aead.lives_any W).mono ?_
  rintro e w1 ⟨rfl, hb1⟩
  have HB1 := Lib.hid (nextB hWb (Nat.le_refl _) hb1)
  have HK1 := Lib.hid (hWk.below hb1 hWk.lt)
  have HN1 := Lib.hid (hWn.below hb1 hWn.lt)
  clear hWb hWs hWk hWn hb1
  go_wp2_with (first
    | (refine wpList_loadRow (n := 32) (cs := key.map bv) rfl 24 _ rfl rfl HK1.out Try.underlying24 rfl (by kernel_rfl) Hkl.out ?_)
    | (refine wpList_loadRow (n := 12) (cs := nonce.map bv) rfl 25 _ rfl rfl HN1.out Try.underlying25 rfl (by kernel_rfl) Hnl.out ?_)
    | fail)
  refine (HBK.out w1).mono ?_
  rintro e w2 ⟨rfl, hb2⟩
  obtain ⟨g9, hg9⟩ : ∃ g, w2.heap.size = g := ⟨_, rfl⟩
  have Hg9 := Lib.hid hg9
  clear hg9
  have Hb2 := Lib.hid hb2
  clear hb2
  unfold arr8
  go_wp2_with (first
    | (refine wpList_storeRow (n := 64) rfl 65 _ _ rfl rfl rfl (cs := BK.map bv) (old := (List.replicate 64 (0 : UInt8)).map bv) (g := w2.heap.size) (Row.new rfl rfl) (by kernel_rfl) HBl.out (by simp) (bytes_one _) ?_
       obtain ⟨w3, hw3⟩ : ∃ w3, (w2.alloc (.cells ((List.replicate 64 (0 : UInt8)).map bv).toArray 65)).setRow w2.heap.size (BK.map bv).toArray = w3 := ⟨_, rfl⟩
       have HR3 := Lib.hid (show Row w3 w2.heap.size (BK.map bv) 65 from hw3 ▸ (Row.new (cs := (List.replicate 64 (0 : UInt8)).map bv) rfl rfl).setRow _)
       have hb23 : Below w2.heap.size w2 w3 := hw3 ▸ below_setRow ((Below.refl _ w2).alloc (Nat.le_refl _) _) (Nat.le_refl _) _
       have HB3 := Lib.hid (nextB (nextB HB1.out (Nat.le_refl _) Hb2.out) (Nat.le_refl _) hb23)
       have HK3 := Lib.hid ((HK1.out.below Hb2.out HK1.out.lt).below hb23 (Nat.lt_of_lt_of_le HK1.out.lt Hb2.out.size))
       have HN3 := Lib.hid ((HN1.out.below Hb2.out HN1.out.lt).below hb23 (Nat.lt_of_lt_of_le HN1.out.lt Hb2.out.size))
       refine wpList_world hw3 ?_
       clear hw3 hb23)
    | (refine wpList_loadRow (n := 32) (cs := key.map bv) rfl 24 _ rfl rfl HK3.out Try.underlying24 rfl (by kernel_rfl) Hkl.out ?_)
    | (refine wpList_loadRow (n := 12) (cs := nonce.map bv) rfl 25 _ rfl rfl HN3.out Try.underlying25 rfl (by kernel_rfl) Hnl.out ?_)
    | fail)
  refine (HO.out w3).mono ?_
  rintro e w4 ⟨rfl, hb4⟩
  have Hb4 := Lib.hid hb4
  clear hb4
  obtain ⟨g10, hg10⟩ : ∃ g, w4.heap.size = g := ⟨_, rfl⟩
  have Hg10 := Lib.hid hg10
  clear hg10
  unfold arr8
  go_wp2_with (first
    | (refine wpList_storeRow (n := 32) rfl 24 _ _ rfl rfl rfl (cs := O.map bv) (old := (List.replicate 32 (0 : UInt8)).map bv) (g := w4.heap.size) (Row.new rfl rfl) (by kernel_rfl) HOl.out (by simp) (bytes_one _) ?_
       obtain ⟨w5, hw5⟩ : ∃ w5, (w4.alloc (.cells ((List.replicate 32 (0 : UInt8)).map bv).toArray 24)).setRow w4.heap.size (O.map bv).toArray = w5 := ⟨_, rfl⟩
       have HO5 := Lib.hid (show Row w5 w4.heap.size (O.map bv) 24 from hw5 ▸ (Row.new (cs := (List.replicate 32 (0 : UInt8)).map bv) rfl rfl).setRow _)
       have hb45 : Below w4.heap.size w4 w5 := hw5 ▸ below_setRow ((Below.refl _ w4).alloc (Nat.le_refl _) _) (Nat.le_refl _) _
       have hb35 : Below w3.heap.size w3 w5 := nextB Hb4.out (Nat.le_refl _) hb45
       have HB5 := Lib.hid (nextB HB3.out (Nat.le_refl _) hb35)
       have HK5 := Lib.hid (HK3.out.below hb35 HK3.out.lt)
       have HN5 := Lib.hid (HN3.out.below hb35 HN3.out.lt)
       have HR5 := Lib.hid (HR3.out.below hb35 HR3.out.lt)
       refine wpList_world hw5 ?_
       clear hw5 hb45 hb35)
    | (refine wpList_loadRow (n := 32) (cs := key.map bv) rfl 24 _ rfl rfl HK5.out Try.underlying24 rfl (by kernel_rfl) Hkl.out ?_)
    | (refine wpList_loadRow (n := 12) (cs := nonce.map bv) rfl 25 _ rfl rfl HN5.out Try.underlying25 rfl (by kernel_rfl) Hnl.out ?_)
    | fail)
  refine (Aead.Seal_ok key nonce E E (.slice none 0 0) (.slice none 0 0) Hk.out Hn.out w5 (by rw [HE.out]; exact Bs.nil _ _ _ _) (by rw [HE.out]; exact Bs.nil _ _ _ _) (by rw [HE.out]; decide) (by rw [HE.out]; decide)).mono ?_
  rw [HS0.out]
  rintro e w6 ⟨v11, rfl, ho6, hb6⟩
  have HB6 := Lib.hid (nextB HB5.out (Nat.le_refl _) hb6)
  have HK6 := Lib.hid (HK5.out.below hb6 HK5.out.lt)
  have HN6 := Lib.hid (HN5.out.below hb6 HN5.out.lt)
  have HR6 := Lib.hid (HR5.out.below hb6 HR5.out.lt)
  have HO6 := Lib.hid (HO5.out.below hb6 HO5.out.lt)
  have HV6 := Lib.hid ho6.bs
  clear ho6 hb6
  go_wp2_with (first
    | (refine wpList_loadRow (n := 32) (cs := key.map bv) rfl 24 _ rfl rfl HK6.out Try.underlying24 rfl (by kernel_rfl) Hkl.out ?_)
    | (refine wpList_loadRow (n := 12) (cs := nonce.map bv) rfl 25 _ rfl rfl HN6.out Try.underlying25 rfl (by kernel_rfl) Hnl.out ?_)
    | fail)
  refine (Aead.ATag_any key nonce E E (.slice none 0 0) (.slice none 0 0) Hk.out Hn.out w6 (by rw [HE.out]; exact Bs.nil _ _ _ _) (by rw [HE.out]; exact Bs.nil _ _ _ _) (by rw [HE.out]; decide) (by rw [HE.out]; decide)).mono ?_
  rw [HT0.out]
  rintro e w7 ⟨rfl, hb7⟩
  have Hb7 := Lib.hid hb7
  clear hb7
  obtain ⟨g13, hg13⟩ : ∃ g, w7.heap.size = g := ⟨_, rfl⟩
  have Hg13 := Lib.hid hg13
  clear hg13
  unfold arr8
  go_wp2_with (first
    | (refine wpList_storeRow (n := 16) rfl 40 _ _ rfl rfl rfl (cs := T0.map bv) (old := (List.replicate 16 (0 : UInt8)).map bv) (g := w7.heap.size) (Row.new rfl rfl) (by kernel_rfl) HT0l.out (by simp) (bytes_one _) ?_
       obtain ⟨w9, hw9⟩ : ∃ w9, (w7.alloc (.cells ((List.replicate 16 (0 : UInt8)).map bv).toArray 40)).setRow w7.heap.size (T0.map bv).toArray = w9 := ⟨_, rfl⟩
       have HT9r := Lib.hid (show Row w9 w7.heap.size (T0.map bv) 40 from hw9 ▸ (Row.new (cs := (List.replicate 16 (0 : UInt8)).map bv) rfl rfl).setRow _)
       have hb79 : Below w7.heap.size w7 w9 := hw9 ▸ below_setRow ((Below.refl _ w7).alloc (Nat.le_refl _) _) (Nat.le_refl _) _
       have hb69 : Below w6.heap.size w6 w9 := nextB Hb7.out (Nat.le_refl _) hb79
       have HB9w := Lib.hid (nextB HB6.out (Nat.le_refl _) hb69)
       have HK9 := Lib.hid (HK6.out.below hb69 HK6.out.lt)
       have HN9 := Lib.hid (HN6.out.below hb69 HN6.out.lt)
       have HR9 := Lib.hid (HR6.out.below hb69 HR6.out.lt)
       have HO9r := Lib.hid (HO6.out.below hb69 HO6.out.lt)
       have HV9 := Lib.hid ((HV6.out.below hb69).more hb69.size)
       refine wpList_world hw9 ?_
       clear hw9 hb79 hb69)
    | fail)
  rw [Hg9.out, Hg10.out, Hg13.out]
  rw [Hg9.out] at HR9
  rw [Hg10.out] at HO9r
  rw [Hg13.out] at HT9r
  have HO9 := Lib.hid (Aead.bs_row HOl.out HO9r.out)
  have HT9 := Lib.hid (Aead.bs_row HT0l.out HT9r.out)
  have HB9 := Lib.hid (show Bs w9 w9.heap.size (.slice (some ⟨g9, 0, none⟩) 32 64) O by
    have h := Bs.take (Aead.bs_row HBl.out HR9.out) (by have := HBl.out; rw [List.length_map] at this; exact this.symm) (k := 32) (by have := HBl.out; rw [List.length_map] at this; omega)
    rw [HOB.out] at h
    exact h)
  have HC9 := Lib.hid ((Hc.out.below HB9w.out).more HB9w.out.size)
  have HA9 := Lib.hid ((Ha.out.below HB9w.out).more HB9w.out.size)
  refine By.marks mixed Grew [By.is (.slice (some ⟨g10, 0, none⟩) 32 32),
    By.is (strOf O),
    By.is (.slice (some ⟨g9, 0, none⟩) 32 64),
    By.is (strOf O),
    By.is (.bool true),
    By.is (.bool true),
    By.is (arr8 key),
    By.is (arr8 nonce),
    By.is (.slice A1 n1 c1),
    ownM 0 cipher,
    By.is (.slice A2 n2 c2),
    ownM 0 along,
    By.is (arr8 TT),
    By.is (arr8 key),
    By.is (arr8 nonce),
    By.is (.slice A1 n1 c1),
    By.is (.slice A2 n2 c2),
    By.is (arr8 TT),
    By.is (.bool true),
    By.is (.bool true),
    By.is (.bool true),
    By.is (.int .i64 0),
    By.is (.bool true),
    By.is (.bool true),
    By.is (.bool true),
    By.is v11,
    By.is (strOf T0),
    By.is (.slice (some ⟨g13, 0, none⟩) 16 16),
    By.is (strOf T0),
    By.is (.bool true),
    By.is (.bool true),
    By.is (.bool true)]
    (Ev.masks _ []) (by kernel_rfl) rfl Grew.refl Grew.trans ⟨?_, ?_, ?_, ?_, ?_, ?_, ?_, ?_, ?_, ?_, ?_, ?_, ?_, ?_, ?_, ?_, ?_, ?_, ?_, ?_, ?_, ?_, ?_, ?_, ?_, ?_, ?_, ?_, ?_, ?_, ?_, ?_, trivial⟩ ?_
  · intro a w ht hs hg -- 39
    have h10 := By.same_get hs 10 (by decide) (by kernel_rfl)
    refine By.yes rfl ?_
    clear hs hg
    go_simp
    exact ⟨_, rfl, Grew.refl _, rfl⟩
  · intro a w ht hs hg -- 40
    have h39 : a.tmps.getD 39 undef = _ := By.given_get hg 0 rfl rfl (by kernel_rfl)
    refine By.yes rfl ?_
    clear hs hg
    have hr := run_str w (Bs.below (w := w9.drew) HO9.out ht)
    go_simp
    exact ⟨_, rfl, Grew.refl _, rfl⟩
  · intro a w ht hs hg -- 41
    have h9 := By.same_get hs 9 (by decide) (by kernel_rfl)
    refine By.yes rfl ?_
    clear hs hg
    go_simp
    exact ⟨_, rfl, Grew.refl _, rfl⟩
  · intro a w ht hs hg -- 42
    have h41 : a.tmps.getD 41 undef = _ := By.given_get hg 2 rfl rfl (by kernel_rfl)
    refine By.yes rfl ?_
    clear hs hg
    have hr := run_str w (Bs.below (w := w9.drew) HB9.out ht)
    go_simp
    exact ⟨_, rfl, Grew.refl _, rfl⟩
  · intro a w ht hs hg -- 43
    have h40 : a.tmps.getD 40 undef = _ := By.given_get hg 1 rfl rfl (by kernel_rfl)
    have h42 : a.tmps.getD 42 undef = _ := By.given_get hg 3 rfl rfl (by kernel_rfl)
    refine By.yes rfl ?_
    clear hs hg
    go_simp
    exact ⟨_, rfl, Grew.refl _, congrArg Value.bool (by simp)⟩
  · intro a w ht hs hg -- 44
    have h43 : a.tmps.getD 43 undef = _ := By.given_get hg 4 rfl rfl (by kernel_rfl)
    refine By.yes rfl ?_
    clear hs hg
    go_simp
    exact ⟨_, rfl, Grew.refl _, rfl⟩
  · intro a w ht hs hg -- 45
    have h4 := By.same_get hs 4 (by decide) (by kernel_rfl)
    have hg44 := By.given_get hg 5 rfl rfl (by kernel_rfl)
    refine By.yes (By.want_yes rfl rfl hg44) ?_
    clear hg44
    clear hs hg
    refine wp_loadRow 24 _ rfl h4 (Row.below (w := w9.drew) HK9.out ht HK9.out.lt) Try.underlying24 rfl (by kernel_rfl) Hkl.out ?_
    exact ⟨_, rfl, Grew.refl _, rfl⟩
  · intro a w ht hs hg -- 46
    have h5 := By.same_get hs 5 (by decide) (by kernel_rfl)
    have hg44 := By.given_get hg 5 rfl rfl (by kernel_rfl)
    refine By.yes (By.want_yes rfl rfl hg44) ?_
    clear hg44
    clear hs hg
    refine wp_loadRow 25 _ rfl h5 (Row.below (w := w9.drew) HN9.out ht HN9.out.lt) Try.underlying25 rfl (by kernel_rfl) Hnl.out ?_
    exact ⟨_, rfl, Grew.refl _, rfl⟩
  · intro a w ht hs hg -- 47
    have h2 := By.same_get hs 2 (by decide) (by kernel_rfl)
    have hg44 := By.given_get hg 5 rfl rfl (by kernel_rfl)
    refine By.yes (By.want_yes rfl rfl hg44) ?_
    clear hg44
    clear hs hg
    go_simp
    exact ⟨_, rfl, Grew.refl _, rfl⟩
  · intro a w ht hs hg -- 48
    have h47 : a.tmps.getD 47 undef = _ := By.given_get hg 8 rfl rfl (by kernel_rfl)
    have hg44 := By.given_get hg 5 rfl rfl (by kernel_rfl)
    refine By.yes (By.want_yes rfl rfl hg44) ?_
    clear hg44
    clear hs hg
    have hx := Lib.hid ((Bs.below (w := w9.drew) HC9.out ht).more ht.size)
    go_simp
    refine (Own_any _ cipher w hx.out (by have := Hcl.out; omega)).mono ?_
    rintro e w' ⟨v, rfl, ho, hb⟩
    exact ⟨_, rfl, hb, ho.less (Nat.zero_le _)⟩
  · intro a w ht hs hg -- 49
    have h3 := By.same_get hs 3 (by decide) (by kernel_rfl)
    have hg44 := By.given_get hg 5 rfl rfl (by kernel_rfl)
    refine By.yes (By.want_yes rfl rfl hg44) ?_
    clear hg44
    clear hs hg
    go_simp
    exact ⟨_, rfl, Grew.refl _, rfl⟩
  · intro a w ht hs hg -- 50
    have h49 : a.tmps.getD 49 undef = _ := By.given_get hg 10 rfl rfl (by kernel_rfl)
    have hg44 := By.given_get hg 5 rfl rfl (by kernel_rfl)
    refine By.yes (By.want_yes rfl rfl hg44) ?_
    clear hg44
    clear hs hg
    have hx := Lib.hid ((Bs.below (w := w9.drew) HA9.out ht).more ht.size)
    go_simp
    refine (Own_any _ along w hx.out (by have := Hal.out; omega)).mono ?_
    rintro e w' ⟨v, rfl, ho, hb⟩
    exact ⟨_, rfl, hb, ho.less (Nat.zero_le _)⟩
  · intro a w ht hs hg -- 51
    have h45 : a.tmps.getD 45 undef = _ := By.given_get hg 6 rfl rfl (by kernel_rfl)
    have h46 : a.tmps.getD 46 undef = _ := By.given_get hg 7 rfl rfl (by kernel_rfl)
    have h48 := By.given_get hg 9 rfl rfl (by kernel_rfl)
    have h50 := By.given_get hg 11 rfl rfl (by kernel_rfl)
    have hg44 := By.given_get hg 5 rfl rfl (by kernel_rfl)
    refine By.yes (By.want_yes rfl rfl hg44) ?_
    clear hg44
    obtain ⟨v48, hv48⟩ : ∃ v, a.tmps.getD 48 undef = v := ⟨_, rfl⟩
    replace h48 := (congrArg (fun v => ((ownM 0 cipher)).on v w) hv48).mp h48
    obtain ⟨v50, hv50⟩ : ∃ v, a.tmps.getD 50 undef = v := ⟨_, rfl⟩
    replace h50 := (congrArg (fun v => ((ownM 0 along)).on v w) hv50).mp h50
    clear hs hg
    have Ho48 := Lib.hid (Own.bs h48)
    clear h48
    have Ho50 := Lib.hid (Own.bs h50)
    clear h50
    go_simp
    refine (Aead.ATag_any key nonce cipher along _ _ Hk.out Hn.out w Ho48.out Ho50.out (by have := Hcl.out; omega) (by have := Hal.out; omega)).mono ?_
    rw [HTT.out]
    rintro e w' ⟨rfl, hb⟩
    exact ⟨_, rfl, hb, rfl⟩
  · intro a w ht hs hg -- 52
    have h4 := By.same_get hs 4 (by decide) (by kernel_rfl)
    have hg44 := By.given_get hg 5 rfl rfl (by kernel_rfl)
    refine By.yes (By.want_yes rfl rfl hg44) ?_
    clear hg44
    clear hs hg
    refine wp_loadRow 24 _ rfl h4 (Row.below (w := w9.drew) HK9.out ht HK9.out.lt) Try.underlying24 rfl (by kernel_rfl) Hkl.out ?_
    exact ⟨_, rfl, Grew.refl _, rfl⟩
  · intro a w ht hs hg -- 53
    have h5 := By.same_get hs 5 (by decide) (by kernel_rfl)
    have hg44 := By.given_get hg 5 rfl rfl (by kernel_rfl)
    refine By.yes (By.want_yes rfl rfl hg44) ?_
    clear hg44
    clear hs hg
    refine wp_loadRow 25 _ rfl h5 (Row.below (w := w9.drew) HN9.out ht HN9.out.lt) Try.underlying25 rfl (by kernel_rfl) Hnl.out ?_
    exact ⟨_, rfl, Grew.refl _, rfl⟩
  · intro a w ht hs hg -- 54
    have h2 := By.same_get hs 2 (by decide) (by kernel_rfl)
    have hg44 := By.given_get hg 5 rfl rfl (by kernel_rfl)
    refine By.yes (By.want_yes rfl rfl hg44) ?_
    clear hg44
    clear hs hg
    go_simp
    exact ⟨_, rfl, Grew.refl _, rfl⟩
  · intro a w ht hs hg -- 55
    have h3 := By.same_get hs 3 (by decide) (by kernel_rfl)
    have hg44 := By.given_get hg 5 rfl rfl (by kernel_rfl)
    refine By.yes (By.want_yes rfl rfl hg44) ?_
    clear hg44
    clear hs hg
    go_simp
    exact ⟨_, rfl, Grew.refl _, rfl⟩
  · intro a w ht hs hg -- 56
    have h52 : a.tmps.getD 52 undef = _ := By.given_get hg 13 rfl rfl (by kernel_rfl)
    have h53 : a.tmps.getD 53 undef = _ := By.given_get hg 14 rfl rfl (by kernel_rfl)
    have h54 : a.tmps.getD 54 undef = _ := By.given_get hg 15 rfl rfl (by kernel_rfl)
    have h55 : a.tmps.getD 55 undef = _ := By.given_get hg 16 rfl rfl (by kernel_rfl)
    have hg44 := By.given_get hg 5 rfl rfl (by kernel_rfl)
    refine By.yes (By.want_yes rfl rfl hg44) ?_
    clear hg44
    clear hs hg
    have hc := Lib.hid ((Bs.below (w := w9.drew) HC9.out ht).more ht.size)
    have ha := Lib.hid ((Bs.below (w := w9.drew) HA9.out ht).more ht.size)
    go_simp
    refine (Aead.ATag_any key nonce cipher along _ _ Hk.out Hn.out w hc.out ha.out (by have := Hcl.out; omega) (by have := Hal.out; omega)).mono ?_
    rw [HTT.out]
    rintro e w' ⟨rfl, hb⟩
    exact ⟨_, rfl, hb, rfl⟩
  · intro a w ht hs hg -- 57
    have h51 : a.tmps.getD 51 undef = _ := By.given_get hg 12 rfl rfl (by kernel_rfl)
    have h56 : a.tmps.getD 56 undef = _ := By.given_get hg 17 rfl rfl (by kernel_rfl)
    have hg44 := By.given_get hg 5 rfl rfl (by kernel_rfl)
    refine By.yes (By.want_yes rfl rfl hg44) ?_
    clear hg44
    clear hs hg
    refine wp_eqArr _ _ rfl (by kernel_rfl) h51 h56 (eq16 TT TT HTTl.out HTTl.out w) ?_
    exact ⟨_, rfl, Grew.refl _, congrArg Value.bool (by simp)⟩
  · intro a w ht hs hg -- 58
    have h44 : a.tmps.getD 44 undef = _ := By.given_get hg 5 rfl rfl (by kernel_rfl)
    have h57 : a.tmps.getD 57 undef = _ := By.given_get hg 18 rfl rfl (by kernel_rfl)
    refine By.yes rfl ?_
    clear hs hg
    go_simp
    exact ⟨_, rfl, Grew.refl _, rfl⟩
  · intro a w ht hs hg -- 59
    have h58 : a.tmps.getD 58 undef = _ := By.given_get hg 19 rfl rfl (by kernel_rfl)
    refine By.yes rfl ?_
    clear hs hg
    go_simp
    exact ⟨_, rfl, Grew.refl _, rfl⟩
  · intro a w ht hs hg -- 60
    have h12 := By.same_get hs 12 (by decide) (by kernel_rfl)
    have hg59 := By.given_get hg 20 rfl rfl (by kernel_rfl)
    refine By.yes (By.want_yes rfl rfl hg59) ?_
    clear hg59
    clear hs hg
    go_simp
    exact ⟨_, rfl, Grew.refl _, rfl⟩
  · intro a w ht hs hg -- 61
    have h60 : a.tmps.getD 60 undef = _ := By.given_get hg 21 rfl rfl (by kernel_rfl)
    have hg59 := By.given_get hg 20 rfl rfl (by kernel_rfl)
    refine By.yes (By.want_yes rfl rfl hg59) ?_
    clear hg59
    clear hs hg
    go_simp
    exact ⟨_, rfl, Grew.refl _, congrArg Value.bool (by simp)⟩
  · intro a w ht hs hg -- 62
    have h59 : a.tmps.getD 59 undef = _ := By.given_get hg 20 rfl rfl (by kernel_rfl)
    have h61 : a.tmps.getD 61 undef = _ := By.given_get hg 22 rfl rfl (by kernel_rfl)
    refine By.yes rfl ?_
    clear hs hg
    go_simp
    exact ⟨_, rfl, Grew.refl _, rfl⟩
  · intro a w ht hs hg -- 63
    have h62 : a.tmps.getD 62 undef = _ := By.given_get hg 23 rfl rfl (by kernel_rfl)
    refine By.yes rfl ?_
    clear hs hg
    go_simp
    exact ⟨_, rfl, Grew.refl _, rfl⟩
  · intro a w ht hs hg -- 64
    have h11 := By.same_get hs 11 (by decide) (by kernel_rfl)
    have hg63 := By.given_get hg 24 rfl rfl (by kernel_rfl)
    refine By.yes (By.want_yes rfl rfl hg63) ?_
    clear hg63
    clear hs hg
    go_simp
    exact ⟨_, rfl, Grew.refl _, rfl⟩
  · intro a w ht hs hg -- 65
    have h64 : a.tmps.getD 64 undef = _ := By.given_get hg 25 rfl rfl (by kernel_rfl)
    have hg63 := By.given_get hg 24 rfl rfl (by kernel_rfl)
    refine By.yes (By.want_yes rfl rfl hg63) ?_
    clear hg63
    clear hs hg
    have hr := run_str w (Bs.below (w := w9.drew) HV9.out ht)
    go_simp
    exact ⟨_, rfl, Grew.refl _, rfl⟩
  · intro a w ht hs hg -- 66
    have h13 := By.same_get hs 13 (by decide) (by kernel_rfl)
    have hg63 := By.given_get hg 24 rfl rfl (by kernel_rfl)
    refine By.yes (By.want_yes rfl rfl hg63) ?_
    clear hg63
    clear hs hg
    go_simp
    exact ⟨_, rfl, Grew.refl _, rfl⟩
  · intro a w ht hs hg -- 67
    have h66 : a.tmps.getD 66 undef = _ := By.given_get hg 27 rfl rfl (by kernel_rfl)
    have hg63 := By.given_get hg 24 rfl rfl (by kernel_rfl)
    refine By.yes (By.want_yes rfl rfl hg63) ?_
    clear hg63
    clear hs hg
    have hr := run_str w (Bs.below (w := w9.drew) HT9.out ht)
    go_simp
    exact ⟨_, rfl, Grew.refl _, rfl⟩
  · intro a w ht hs hg -- 68
    have h65 : a.tmps.getD 65 undef = _ := By.given_get hg 26 rfl rfl (by kernel_rfl)
    have h67 : a.tmps.getD 67 undef = _ := By.given_get hg 28 rfl rfl (by kernel_rfl)
    have hg63 := By.given_get hg 24 rfl rfl (by kernel_rfl)
    refine By.yes (By.want_yes rfl rfl hg63) ?_
    clear hg63
    clear hs hg
    go_simp
    exact ⟨_, rfl, Grew.refl _, congrArg Value.bool (by simp)⟩
  · intro a w ht hs hg -- 69
    have h63 : a.tmps.getD 63 undef = _ := By.given_get hg 24 rfl rfl (by kernel_rfl)
    have h68 : a.tmps.getD 68 undef = _ := By.given_get hg 29 rfl rfl (by kernel_rfl)
    refine By.yes rfl ?_
    clear hs hg
    go_simp
    exact ⟨_, rfl, Grew.refl _, rfl⟩
  · intro a w ht hs hg -- 8
    have h69 : a.tmps.getD 69 undef = _ := By.given_get hg 30 rfl rfl (by kernel_rfl)
    refine By.yes rfl ?_
    clear hs hg
    go_simp
    exact ⟨_, rfl, Grew.refl _, rfl⟩
  refine By.ends_is (By.ends_is (By.ends_is (By.ends_is (By.ends_is (By.ends_is (By.ends_is (By.ends_is (By.ends_is (By.ends_skip fun v48 => (By.ends_is (By.ends_skip fun v50 => (By.ends_is (By.ends_is (By.ends_is (By.ends_is (By.ends_is (By.ends_is (By.ends_is (By.ends_is (By.ends_is (By.ends_is (By.ends_is (By.ends_is (By.ends_is (By.ends_is (By.ends_is (By.ends_is (By.ends_is (By.ends_is (By.ends_is (By.ends_is (By.ends_nil fun w10 hw10 => ?_))))))))))))))))))))))))))))))))
  simp only [Act.put, List.setIfInBounds_toArray, List.set_cons_succ, List.set_cons_zero]
  go_wp2
  go_ret
  exact ⟨rfl, nextB (b := w9.drew) HB9w.out.drew (Nat.le_refl _) hw10⟩

set_option maxRecDepth 100000 in
theorem lift (os : Os) (started : os.Started) (H : Type) (enc : TypeId × Value → H) :
    ReturnsInHanded {} Try.checked os 13 .any (Rows.aeadPadsSpec.pre6 enc Try.prog Try.f13 Rows.aeadPadsRow.domain false) (Rows.aeadPadsSpec.post enc Try.prog Try.f13 false true false false) := by
  refine Law.lifted (C := Try.checked) 4 own started (by kernel_rfl) Try.func13 laid (by kernel_rfl) rfl Try.underlying4 rfl
    (fun ds hd => by
      have hd' : ds.length = 4 := hd
      match ds, hd' with
      | [d0, d1, d2, d3], _ => rfl)
    (ChangeSpec.witness6 (enc := enc) (C := Try.checked) false ⟨#[], #[.agg (Array.replicate 32 (.int .u8 0)), .agg (Array.replicate 12 (.int .u8 0)), .slice none 0 0, .slice none 0 0], []⟩ 8 (by kernel_rfl) (by kernel_rfl) (by kernel_rfl) (by kernel_rfl)) ?_
  intro W args ds ps hst
  have hA : DataW.TrodAll enc Try.prog W 0 (fun _ => true) true Try.f13.params.toList args.toList ds ps := hst.trod
  have hok := hst.okw
  have hlt := hst.lt
  rw [Try.params13] at hA hok
  obtain ⟨v0, v1, v2, v3, d0, d1, d2, d3, p0, p1, p2, p3, rfl, rfl, rfl, h0, h1, h2, h3⟩ := trodAll_four hA
  obtain ⟨_, hv0⟩ := hok 0 24 v0 rfl rfl
  obtain ⟨_, hv1⟩ := hok 1 25 v1 rfl rfl
  obtain ⟨_, hv2⟩ := hok 2 39 v2 rfl rfl
  obtain ⟨_, hv3⟩ := hok 3 39 v3 rfl rfl
  obtain ⟨key, rfl, hkl⟩ := arr8_at Try.underlying24 (by kernel_rfl) (by kernel_rfl) Try.underlying5 hv0
  obtain ⟨nonce, rfl, hnl⟩ := arr8_at Try.underlying25 (by kernel_rfl) (by kernel_rfl) Try.underlying5 hv1
  obtain ⟨cipher, hc, _⟩ := Law.bytes_at Try.underlying39 hv2 h2 (fun x hx => hlt x (by simp [hx]))
  obtain ⟨along, ha, _⟩ := Law.bytes_at Try.underlying39 hv3 h3 (fun x hx => hlt x (by simp [hx]))
  obtain ⟨A1, c1, rfl, _⟩ := id hc
  obtain ⟨A2, c2, rfl, _⟩ := id ha
  by_cases hs : 300 < cipher.length ∨ 300 < along.length
  · exact long key nonce A1 A2 _ _ c1 c2 hs W
  · exact walk key nonce cipher along _ _ hkl hnl W hc ha (by omega) (by omega)

theorem over : Rows.aeadPadsRow.holds Try.pinned (OpenSpec.ofChange Rows.aeadPadsSpec) :=
  OpenClaim.holds_of_wide 13 Try.f13 rfl rfl rfl rfl rfl rfl rfl ⟨rfl, rfl, rfl, rfl, rfl⟩ rfl rfl rfl rfl rfl (by kernel_rfl) Try.func13 (by kernel_rfl)
    (of_decide_eq_true (by kernel_rfl)) (by unfold Func.isWrapper; first | (rw [if_pos (by decide +kernel)]; kernel_rfl) | (rw [if_neg (by decide +kernel)]; exact ⟨rfl, rfl⟩))
    (fun os started H enc _ => lift os started H enc)
theorem proved : Rows.AeadPadsSaid := over
#print axioms proved
end Go.Proofs.Ytnihpdbbbpekiaa.aeadPads
