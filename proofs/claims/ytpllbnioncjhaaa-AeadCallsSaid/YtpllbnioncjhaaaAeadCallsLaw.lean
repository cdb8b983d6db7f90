/- What is sealed and opened is what the document says: 'drawbridgelaw04.AeadCalls', for every argument. -/
import Derived.Test.YtpllbnioncjhaaaAeadRef
import Derived.Test.YtpllbnioncjhaaaAeadOpen
import Derived.Test.YtpllbnioncjhaaaAeadLives
import Derived.Test.YtpllbnioncjhaaaLaw
namespace Go.Proofs.Ytpllbnioncjhaaa.aeadCalls
open Go.ChangeShapes Go.WideShapes Go.ChangeAt Go.RowKit
open Pol (own mixed laid)
theorem eq32 (x y : List UInt8) (hx : x.length = 32) (hy : y.length = 32) (w : World) : (Op.equal 24 (arr8 x) (arr8 y)).run Try.prog w = .ok (decide (x = y)) w :=
  run_eql_arr8 (P := Try.prog) Try.underlying24 Try.underlying5 (by kernel_rfl) x y hx hy w
/-- Bytes, as the memory stands. -/
def bsM (l : List UInt8) : By.Mark Grew := ⟨fun v w => Bs w w.heap.size v l, fun _ _ _ h k => (h.below k).more k.size⟩
/-- Bytes and an error. -/
def resB (l : List UInt8) (g : Int) : By.Mark Grew := ⟨fun v w => ∃ x, v = .tuple #[x, .int .i64 g] ∧ Bs w w.heap.size x l, fun _ _ _ ⟨x, h1, h2⟩ k => ⟨x, h1, (h2.below k).more k.size⟩⟩
set_option maxRecDepth 100000 in
set_option maxHeartbeats 1000000 in
theorem long (key nonce : List UInt8) (A1 A2 A3 : Option Addr) (n1 n2 n3 c1 c2 c3 : Nat) (h : 300 < n1 ∨ 300 < n2 ∨ 300 < n3) (w : World) :
    Calls Try.prog 5 #[arr8 key, arr8 nonce, .slice A1 n1 c1, .slice A2 n2 c2, .slice A3 n3 c3] w fun e w' => e = .returned (.bool true) ∧ Below w.heap.size w w' := by
  unfold arr8
  by_cases h1 : 300 < n1
  · have h1' : (300 : Int) < (n1 : Int) := by omega
    go_enter Try.func5, Try.ntmps5
    go_wp2_with (go_at_call 18; refine (Aead.lives_any _).mono ?_; rintro e w1 ⟨rfl, hb1⟩; have HB1 := Lib.hid hb1; clear hb1)
    go_ret
    exact ⟨rfl, (((Below.refl _ w).alloc (Nat.le_refl _) _).alloc (by simp) _).trans (HB1.out.mono (by simp; omega))⟩
  have h1' : ¬ (300 : Int) < (n1 : Int) := by omega
  by_cases h2 : 300 < n2
  · have h2' : (300 : Int) < (n2 : Int) := by omega
    go_enter Try.func5, Try.ntmps5
    go_wp2_with (go_at_call 18; refine (Aead.lives_any _).mono ?_; rintro e w1 ⟨rfl, hb1⟩; have HB1 := Lib.hid hb1; clear hb1)
    go_ret
    exact ⟨rfl, (((Below.refl _ w).alloc (Nat.le_refl _) _).alloc (by simp) _).trans (HB1.out.mono (by simp; omega))⟩
  have h2' : ¬ (300 : Int) < (n2 : Int) := by omega
  have h3' : (300 : Int) < (n3 : Int) := by omega
  go_enter Try.func5, Try.ntmps5
  go_wp2_with (go_at_call 18; refine (Aead.lives_any _).mono ?_; rintro e w1 ⟨rfl, hb1⟩; have HB1 := Lib.hid hb1; clear hb1)
  go_ret
  exact ⟨rfl, (((Below.refl _ w).alloc (Nat.le_refl _) _).alloc (by simp) _).trans (HB1.out.mono (by simp; omega))⟩
set_option maxRecDepth 100000 in
set_option maxHeartbeats 1000000 in
theorem walk (key nonce lp la ls : List UInt8) (A1 A2 A3 : Option Addr) (n1 n2 n3 c1 c2 c3 : Nat) (hk : key.length = 32) (hn : nonce.length = 12) (w : World) (hn1 : lp.length = n1) (hn2 : la.length = n2) (hn3 : ls.length = n3)
    (ha : Bs w w.heap.size (.slice A1 n1 c1) lp) (hb : Bs w w.heap.size (.slice A2 n2 c2) la) (hc : Bs w w.heap.size (.slice A3 n3 c3) ls) (h1 : n1 ≤ 300) (h2 : n2 ≤ 300) (h3 : n3 ≤ 300)
    (S Y O T : List UInt8) (g : Int) (hO : O.length = 32) (hT : T.length = 16)
    (hS : ∀ (W : World) (u v : Value), Bs W W.heap.size u lp → Bs W W.heap.size v la → Calls Try.prog 19 #[arr8 key, arr8 nonce, u, v] W fun e w' => ∃ x, e = .returned (.tuple #[x, .int .i64 0]) ∧ Bs w' w'.heap.size x S ∧ Below W.heap.size W w') (hRS : ∀ (W : World) (u v : Value), Bs W W.heap.size u lp → Bs W W.heap.size v la → Calls Try.prog 20 #[arr8 key, arr8 nonce, u, v] W fun e w' => ∃ x, e = .returned (.tuple #[x, .int .i64 0]) ∧ Bs w' w'.heap.size x S ∧ Below W.heap.size W w') (hY : ∀ (W : World) (u v : Value), Bs W W.heap.size u ls → Bs W W.heap.size v la → Calls Try.prog 21 #[arr8 key, arr8 nonce, u, v] W fun e w' => ∃ x, e = .returned (.tuple #[x, .int .i64 g]) ∧ Bs w' w'.heap.size x Y ∧ Below W.heap.size W w') (hRY : ∀ (W : World) (u v : Value), Bs W W.heap.size u ls → Bs W W.heap.size v la → Calls Try.prog 22 #[arr8 key, arr8 nonce, u, v] W fun e w' => ∃ x, e = .returned (.tuple #[x, .int .i64 g]) ∧ Bs w' w'.heap.size x Y ∧ Below W.heap.size W w')
    (hOn : ∀ W : World, Calls Try.prog 23 #[arr8 key, arr8 nonce] W fun e w' => e = .returned (arr8 O) ∧ Below W.heap.size W w') (hROn : ∀ W : World, Calls Try.prog 24 #[arr8 key, arr8 nonce] W fun e w' => e = .returned (arr8 O) ∧ Below W.heap.size W w')
    (hTg : ∀ (W : World) (u v : Value), Bs W W.heap.size u lp → Bs W W.heap.size v la → Calls Try.prog 25 #[arr8 key, arr8 nonce, u, v] W fun e w' => e = .returned (arr8 T) ∧ Below W.heap.size W w') (hRTg : ∀ (W : World) (u v : Value), Bs W W.heap.size u lp → Bs W W.heap.size v la → Calls Try.prog 26 #[arr8 key, arr8 nonce, u, v] W fun e w' => e = .returned (arr8 T) ∧ Below W.heap.size W w') :
    Calls Try.prog 5 #[arr8 key, arr8 nonce, .slice A1 n1 c1, .slice A2 n2 c2, .slice A3 n3 c3] w fun e w' => e = .returned (.bool true) ∧ Below w.heap.size w w' := by
  have h1' : ¬ (300 : Int) < (n1 : Int) := by omega
  have h2' : ¬ (300 : Int) < (n2 : Int) := by omega
  have h3' : ¬ (300 : Int) < (n3 : Int) := by omega
  have Hkl := Lib.hid (show (key.map bv).length = 32 by rw [List.length_map]; exact hk)
  have Hnl := Lib.hid (show (nonce.map bv).length = 12 by rw [List.length_map]; exact hn)
  have HPp := Lib.hid (show lp.length ≤ 300 by omega)
  have HPa := Lib.hid (show la.length ≤ 300 by omega)
  have HPs := Lib.hid (show ls.length ≤ 300 by omega)
  have Ha := Lib.hid ha
  have Hb := Lib.hid hb
  have Hc := Lib.hid hc
  have HO := Lib.hid hO
  have HT := Lib.hid hT
  have HS := Lib.hid hS
  have HRS := Lib.hid hRS
  have HY := Lib.hid hY
  have HRY := Lib.hid hRY
  have HOn := Lib.hid hOn
  have HROn := Lib.hid hROn
  have HTg := Lib.hid hTg
  have HRTg := Lib.hid hRTg
  clear hk hn ha hb hc hn1 hn2 hn3 h1 h2 h3 hO hT hS hRS hY hRY hOn hROn hTg hRTg
  unfold arr8
  go_enter Try.func5, Try.ntmps5
  go_wp2_with fail
  obtain ⟨W, hW⟩ : ∃ W, (w.alloc (.cells (key.map bv).toArray 24)).alloc (.cells (nonce.map bv).toArray 25) = W := ⟨_, rfl⟩
  have hWb : Below w.heap.size w W := hW ▸ ((Below.refl _ w).alloc (Nat.le_refl _) _).alloc (by simp) _
  have hWk : Row W w.heap.size (key.map bv) 24 := hW ▸ (Row.new rfl rfl).alloc _
  have hWn : Row W (w.heap.size + 1) (nonce.map bv) 25 := hW ▸ Row.new (by simp) rfl
  show Calls _ _ _ ((w.alloc (.cells (key.map bv).toArray 24)).alloc (.cells (nonce.map bv).toArray 25)) _
  rw [hW]
  clear hW
  refine (Aead.lives_any W).mono ?_
  rintro e w1 ⟨rfl, hb1⟩
  have HB1 := Lib.hid (nextB hWb (Nat.le_refl _) hb1)
  have HK1 := Lib.hid (hWk.below hb1 hWk.lt)
  have HN1 := Lib.hid (hWn.below hb1 hWn.lt)
  have HA1 := Lib.hid ((Ha.out.below HB1.out).more HB1.out.size)
  have HL1 := Lib.hid ((Hb.out.below HB1.out).more HB1.out.size)
  have HC1 := Lib.hid ((Hc.out.below HB1.out).more HB1.out.size)
  clear hWb hWk hWn hb1
  go_wp2_with fail
  refine By.marks mixed Grew [By.is (arr8 key),
    By.is (arr8 nonce),
    By.is (.slice A1 n1 c1),
    ownM 0 lp,
    By.is (.slice A2 n2 c2),
    ownM 0 la,
    (resB S 0),
    (resB S 0),
    (bsM S),
    By.is (.int .i64 0),
    (bsM S),
    By.is (.int .i64 0)]
    (Ev.masks _ []) (by kernel_rfl) rfl Grew.refl Grew.trans ⟨?_, ?_, ?_, ?_, ?_, ?_, ?_, ?_, ?_, ?_, ?_, ?_, trivial⟩ ?_
  · intro a w ht hs hg -- 35
    have h5 := By.same_get hs 5 (by decide) (by kernel_rfl)
    refine By.yes rfl ?_
    clear hs hg
    refine wp_loadRow 24 _ rfl h5 (Row.below (w := w1.drew) HK1.out ht HK1.out.lt) Try.underlying24 rfl (by kernel_rfl) Hkl.out ?_
    exact ⟨_, rfl, Grew.refl _, rfl⟩
  · intro a w ht hs hg -- 36
    have h6 := By.same_get hs 6 (by decide) (by kernel_rfl)
    refine By.yes rfl ?_
    clear hs hg
    refine wp_loadRow 25 _ rfl h6 (Row.below (w := w1.drew) HN1.out ht HN1.out.lt) Try.underlying25 rfl (by kernel_rfl) Hnl.out ?_
    exact ⟨_, rfl, Grew.refl _, rfl⟩
  · intro a w ht hs hg -- 37
    have h2 := By.same_get hs 2 (by decide) (by kernel_rfl)
    refine By.yes rfl ?_
    clear hs hg
    go_simp
    exact ⟨_, rfl, Grew.refl _, rfl⟩
  · intro a w ht hs hg -- 38
    have h37 : a.tmps.getD 37 undef = _ := By.given_get hg 2 rfl rfl (by kernel_rfl)
    refine By.yes rfl ?_
    clear hs hg
    have hx := Lib.hid ((Bs.below (w := w1.drew) HA1.out ht).more ht.size)
    go_simp
    refine (Own_any _ lp w hx.out (by have := HPp.out; omega)).mono ?_
    rintro e w' ⟨v, rfl, ho, hb⟩
    exact ⟨_, rfl, hb, ho.less (Nat.zero_le _)⟩
  · intro a w ht hs hg -- 39
    have h3 := By.same_get hs 3 (by decide) (by kernel_rfl)
    refine By.yes rfl ?_
    clear hs hg
    go_simp
    exact ⟨_, rfl, Grew.refl _, rfl⟩
  · intro a w ht hs hg -- 40
    have h39 : a.tmps.getD 39 undef = _ := By.given_get hg 4 rfl rfl (by kernel_rfl)
    refine By.yes rfl ?_
    clear hs hg
    have hx := Lib.hid ((Bs.below (w := w1.drew) HL1.out ht).more ht.size)
    go_simp
    refine (Own_any _ la w hx.out (by have := HPa.out; omega)).mono ?_
    rintro e w' ⟨v, rfl, ho, hb⟩
    exact ⟨_, rfl, hb, ho.less (Nat.zero_le _)⟩
  · intro a w ht hs hg -- 41
    have h35 : a.tmps.getD 35 undef = _ := By.given_get hg 0 rfl rfl (by kernel_rfl)
    have h36 : a.tmps.getD 36 undef = _ := By.given_get hg 1 rfl rfl (by kernel_rfl)
    have h38 := By.given_get hg 3 rfl rfl (by kernel_rfl)
    have h40 := By.given_get hg 5 rfl rfl (by kernel_rfl)
    refine By.yes rfl ?_
    obtain ⟨v38, hv38⟩ : ∃ v, a.tmps.getD 38 undef = v := ⟨_, rfl⟩
    replace h38 := (congrArg (fun v => ((ownM 0 lp)).on v w) hv38).mp h38
    obtain ⟨v40, hv40⟩ : ∃ v, a.tmps.getD 40 undef = v := ⟨_, rfl⟩
    replace h40 := (congrArg (fun v => ((ownM 0 la)).on v w) hv40).mp h40
    clear hs hg
    have Ho := Lib.hid (Own.bs h38)
    have Hq := Lib.hid (Own.bs h40)
    clear h38 h40
    go_simp
    refine (HS.out w _ _ Ho.out Hq.out).mono ?_
    rintro e w' ⟨v, rfl, ho, hb⟩
    exact ⟨_, rfl, hb, _, rfl, ho⟩
  · intro a w ht hs hg -- 34
    have h41 := By.given_get hg 6 rfl rfl (by kernel_rfl)
    refine By.yes rfl ?_
    obtain ⟨v41, hv41⟩ : ∃ v, a.tmps.getD 41 undef = v := ⟨_, rfl⟩
    replace h41 := (congrArg (fun v => ((resB S 0)).on v w) hv41).mp h41
    clear hs hg
    go_simp
    exact ⟨_, rfl, Grew.refl _, h41⟩
  · intro a w ht hs hg -- 42
    have h34 := By.given_get hg 7 rfl rfl (by kernel_rfl)
    refine By.yes rfl ?_
    obtain ⟨v34, hv34⟩ : ∃ v, a.tmps.getD 34 undef = v := ⟨_, rfl⟩
    replace h34 := (congrArg (fun v => ((resB S 0)).on v w) hv34).mp h34
    clear hs hg
    obtain ⟨x, rfl, hx⟩ := h34
    have Hx := Lib.hid hx
    clear hx
    go_simp
    exact ⟨_, rfl, Grew.refl _, Hx.out⟩
  · intro a w ht hs hg -- 43
    have h34 := By.given_get hg 7 rfl rfl (by kernel_rfl)
    refine By.yes rfl ?_
    obtain ⟨v34, hv34⟩ : ∃ v, a.tmps.getD 34 undef = v := ⟨_, rfl⟩
    replace h34 := (congrArg (fun v => ((resB S 0)).on v w) hv34).mp h34
    clear hs hg
    obtain ⟨x, rfl, hx⟩ := h34
    clear hx
    go_simp
    exact ⟨_, rfl, Grew.refl _, rfl⟩
  · intro a w ht hs hg -- 11
    have h42 := By.given_get hg 8 rfl rfl (by kernel_rfl)
    refine By.yes rfl ?_
    obtain ⟨v42, hv42⟩ : ∃ v, a.tmps.getD 42 undef = v := ⟨_, rfl⟩
    replace h42 := (congrArg (fun v => ((bsM S)).on v w) hv42).mp h42
    clear hs hg
    have Hx := Lib.hid h42
    clear h42
    go_simp
    exact ⟨_, rfl, Grew.refl _, Hx.out⟩
  · intro a w ht hs hg -- 12
    have h43 : a.tmps.getD 43 undef = _ := By.given_get hg 9 rfl rfl (by kernel_rfl)
    refine By.yes rfl ?_
    clear hs hg
    go_simp
    exact ⟨_, rfl, Grew.refl _, rfl⟩
  refine By.ends_is (By.ends_is (By.ends_is (By.ends_skip fun v38 => (By.ends_is (By.ends_skip fun v40 => (By.ends_skip fun v41 => (By.ends_skip fun v34 => (By.ends_skip fun v42 => (By.ends_is (By.ends_any fun v11 => (By.ends_is (By.ends_nil fun wq hq => ?_))))))))))))
  simp only [Act.put, List.setIfInBounds_toArray, List.set_cons_succ, List.set_cons_zero]
  obtain ⟨hq, hv11⟩ := hq
  have Hv11 := Lib.hid (show Bs wq wq.heap.size v11 S from hv11)
  clear hv11
  have hq : Below w1.heap.size w1.drew wq := hq
  have HBq := Lib.hid (nextB (b := w1.drew) HB1.out.drew (Nat.le_refl _) hq)
  have HKq := Lib.hid (Row.below (w := w1.drew) HK1.out hq HK1.out.lt)
  have HNq := Lib.hid (Row.below (w := w1.drew) HN1.out hq HN1.out.lt)
  have HAq := Lib.hid ((Bs.below (w := w1.drew) HA1.out hq).more hq.size)
  have HLq := Lib.hid ((Bs.below (w := w1.drew) HL1.out hq).more hq.size)
  have HCq := Lib.hid ((Bs.below (w := w1.drew) HC1.out hq).more hq.size)
  clear hq
  go_wp2_with (first
    | (refine wpList_loadRow (n := 32) (cs := key.map bv) rfl 24 (.tmp 5) rfl rfl HKq.out Try.underlying24 rfl (by kernel_rfl) Hkl.out ?_)
    | (refine wpList_loadRow (n := 12) (cs := nonce.map bv) rfl 25 (.tmp 6) rfl rfl HNq.out Try.underlying25 rfl (by kernel_rfl) Hnl.out ?_)
    | fail)
  refine (HRS.out wq _ _ HAq.out HLq.out).mono ?_
  rintro e w3 ⟨v13, rfl, h13, hb3⟩
  have H13 := Lib.hid h13
  have H11 := Lib.hid ((Hv11.out.below hb3).more hb3.size)
  have HB3 := Lib.hid (nextB HBq.out (Nat.le_refl _) hb3)
  have HK3 := Lib.hid (Row.below HKq.out hb3 HKq.out.lt)
  have HN3 := Lib.hid (Row.below HNq.out hb3 HNq.out.lt)
  have HA3 := Lib.hid ((Bs.below HAq.out hb3).more hb3.size)
  have HL3 := Lib.hid ((Bs.below HLq.out hb3).more hb3.size)
  have HC3 := Lib.hid ((Bs.below HCq.out hb3).more hb3.size)
  clear h13 hb3
  go_wp2_with fail
  refine By.marks mixed Grew [By.is (arr8 key),
    By.is (arr8 nonce),
    By.is (.slice A3 n3 c3),
    ownM 0 ls,
    By.is (.slice A2 n2 c2),
    ownM 0 la,
    (resB Y g),
    (resB Y g),
    (bsM Y),
    By.is (.int .i64 g),
    (bsM Y),
    By.is (.int .i64 g)]
    (Ev.masks _ []) (by kernel_rfl) rfl Grew.refl Grew.trans ⟨?_, ?_, ?_, ?_, ?_, ?_, ?_, ?_, ?_, ?_, ?_, ?_, trivial⟩ ?_
  · intro a w ht hs hg -- 53
    have h5 := By.same_get hs 5 (by decide) (by kernel_rfl)
    refine By.yes rfl ?_
    clear hs hg
    refine wp_loadRow 24 _ rfl h5 (Row.below (w := w3.drew) HK3.out ht HK3.out.lt) Try.underlying24 rfl (by kernel_rfl) Hkl.out ?_
    exact ⟨_, rfl, Grew.refl _, rfl⟩
  · intro a w ht hs hg -- 54
    have h6 := By.same_get hs 6 (by decide) (by kernel_rfl)
    refine By.yes rfl ?_
    clear hs hg
    refine wp_loadRow 25 _ rfl h6 (Row.below (w := w3.drew) HN3.out ht HN3.out.lt) Try.underlying25 rfl (by kernel_rfl) Hnl.out ?_
    exact ⟨_, rfl, Grew.refl _, rfl⟩
  · intro a w ht hs hg -- 55
    have h4 := By.same_get hs 4 (by decide) (by kernel_rfl)
    refine By.yes rfl ?_
    clear hs hg
    go_simp
    exact ⟨_, rfl, Grew.refl _, rfl⟩
  · intro a w ht hs hg -- 56
    have h55 : a.tmps.getD 55 undef = _ := By.given_get hg 2 rfl rfl (by kernel_rfl)
    refine By.yes rfl ?_
    clear hs hg
    have hx := Lib.hid ((Bs.below (w := w3.drew) HC3.out ht).more ht.size)
    go_simp
    refine (Own_any _ ls w hx.out (by have := HPs.out; omega)).mono ?_
    rintro e w' ⟨v, rfl, ho, hb⟩
    exact ⟨_, rfl, hb, ho.less (Nat.zero_le _)⟩
  · intro a w ht hs hg -- 57
    have h3 := By.same_get hs 3 (by decide) (by kernel_rfl)
    refine By.yes rfl ?_
    clear hs hg
    go_simp
    exact ⟨_, rfl, Grew.refl _, rfl⟩
  · intro a w ht hs hg -- 58
    have h57 : a.tmps.getD 57 undef = _ := By.given_get hg 4 rfl rfl (by kernel_rfl)
    refine By.yes rfl ?_
    clear hs hg
    have hx := Lib.hid ((Bs.below (w := w3.drew) HL3.out ht).more ht.size)
    go_simp
    refine (Own_any _ la w hx.out (by have := HPa.out; omega)).mono ?_
    rintro e w' ⟨v, rfl, ho, hb⟩
    exact ⟨_, rfl, hb, ho.less (Nat.zero_le _)⟩
  · intro a w ht hs hg -- 59
    have h53 : a.tmps.getD 53 undef = _ := By.given_get hg 0 rfl rfl (by kernel_rfl)
    have h54 : a.tmps.getD 54 undef = _ := By.given_get hg 1 rfl rfl (by kernel_rfl)
    have h56 := By.given_get hg 3 rfl rfl (by kernel_rfl)
    have h58 := By.given_get hg 5 rfl rfl (by kernel_rfl)
    refine By.yes rfl ?_
    obtain ⟨v56, hv56⟩ : ∃ v, a.tmps.getD 56 undef = v := ⟨_, rfl⟩
    replace h56 := (congrArg (fun v => ((ownM 0 ls)).on v w) hv56).mp h56
    obtain ⟨v58, hv58⟩ : ∃ v, a.tmps.getD 58 undef = v := ⟨_, rfl⟩
    replace h58 := (congrArg (fun v => ((ownM 0 la)).on v w) hv58).mp h58
    clear hs hg
    have Ho := Lib.hid (Own.bs h56)
    have Hq := Lib.hid (Own.bs h58)
    clear h56 h58
    go_simp
    refine (HY.out w _ _ Ho.out Hq.out).mono ?_
    rintro e w' ⟨v, rfl, ho, hb⟩
    exact ⟨_, rfl, hb, _, rfl, ho⟩
  · intro a w ht hs hg -- 52
    have h59 := By.given_get hg 6 rfl rfl (by kernel_rfl)
    refine By.yes rfl ?_
    obtain ⟨v59, hv59⟩ : ∃ v, a.tmps.getD 59 undef = v := ⟨_, rfl⟩
    replace h59 := (congrArg (fun v => ((resB Y g)).on v w) hv59).mp h59
    clear hs hg
    go_simp
    exact ⟨_, rfl, Grew.refl _, h59⟩
  · intro a w ht hs hg -- 60
    have h52 := By.given_get hg 7 rfl rfl (by kernel_rfl)
    refine By.yes rfl ?_
    obtain ⟨v52, hv52⟩ : ∃ v, a.tmps.getD 52 undef = v := ⟨_, rfl⟩
    replace h52 := (congrArg (fun v => ((resB Y g)).on v w) hv52).mp h52
    clear hs hg
    obtain ⟨x, rfl, hx⟩ := h52
    have Hx := Lib.hid hx
    clear hx
    go_simp
    exact ⟨_, rfl, Grew.refl _, Hx.out⟩
  · intro a w ht hs hg -- 61
    have h52 := By.given_get hg 7 rfl rfl (by kernel_rfl)
    refine By.yes rfl ?_
    obtain ⟨v52, hv52⟩ : ∃ v, a.tmps.getD 52 undef = v := ⟨_, rfl⟩
    replace h52 := (congrArg (fun v => ((resB Y g)).on v w) hv52).mp h52
    clear hs hg
    obtain ⟨x, rfl, hx⟩ := h52
    clear hx
    go_simp
    exact ⟨_, rfl, Grew.refl _, rfl⟩
  · intro a w ht hs hg -- 15
    have h60 := By.given_get hg 8 rfl rfl (by kernel_rfl)
    refine By.yes rfl ?_
    obtain ⟨v60, hv60⟩ : ∃ v, a.tmps.getD 60 undef = v := ⟨_, rfl⟩
    replace h60 := (congrArg (fun v => ((bsM Y)).on v w) hv60).mp h60
    clear hs hg
    have Hx := Lib.hid h60
    clear h60
    go_simp
    exact ⟨_, rfl, Grew.refl _, Hx.out⟩
  · intro a w ht hs hg -- 16
    have h61 : a.tmps.getD 61 undef = _ := By.given_get hg 9 rfl rfl (by kernel_rfl)
    refine By.yes rfl ?_
    clear hs hg
    go_simp
    exact ⟨_, rfl, Grew.refl _, rfl⟩
  refine By.ends_is (By.ends_is (By.ends_is (By.ends_skip fun v56 => (By.ends_is (By.ends_skip fun v58 => (By.ends_skip fun v59 => (By.ends_skip fun v52 => (By.ends_skip fun v60 => (By.ends_is (By.ends_any fun v15 => (By.ends_is (By.ends_nil fun wp hq => ?_))))))))))))
  simp only [Act.put, List.setIfInBounds_toArray, List.set_cons_succ, List.set_cons_zero]
  obtain ⟨hq, hv15⟩ := hq
  have Hv15 := Lib.hid (show Bs wp wp.heap.size v15 Y from hv15)
  clear hv15
  have hq : Below w3.heap.size w3.drew wp := hq
  have HBp := Lib.hid (nextB (b := w3.drew) HB3.out.drew (Nat.le_refl _) hq)
  have HKp := Lib.hid (Row.below (w := w3.drew) HK3.out hq HK3.out.lt)
  have HNp := Lib.hid (Row.below (w := w3.drew) HN3.out hq HN3.out.lt)
  have HAp := Lib.hid ((Bs.below (w := w3.drew) HA3.out hq).more hq.size)
  have HLp := Lib.hid ((Bs.below (w := w3.drew) HL3.out hq).more hq.size)
  have HCp := Lib.hid ((Bs.below (w := w3.drew) HC3.out hq).more hq.size)
  have H11p := Lib.hid ((Bs.below (w := w3.drew) H11.out hq).more hq.size)
  have H13p := Lib.hid ((Bs.below (w := w3.drew) H13.out hq).more hq.size)
  clear hq
  go_wp2_with (first
    | (refine wpList_loadRow (n := 32) (cs := key.map bv) rfl 24 (.tmp 5) rfl rfl HKp.out Try.underlying24 rfl (by kernel_rfl) Hkl.out ?_)
    | (refine wpList_loadRow (n := 12) (cs := nonce.map bv) rfl 25 (.tmp 6) rfl rfl HNp.out Try.underlying25 rfl (by kernel_rfl) Hnl.out ?_)
    | fail)
  refine (HRY.out wp _ _ HCp.out HLp.out).mono ?_
  rintro e w5 ⟨v17, rfl, h17, hb5⟩
  have H17 := Lib.hid h17
  have H15 := Lib.hid ((Hv15.out.below hb5).more hb5.size)
  have H11 := Lib.hid ((H11p.out.below hb5).more hb5.size)
  have H13 := Lib.hid ((H13p.out.below hb5).more hb5.size)
  have HB5 := Lib.hid (nextB HBp.out (Nat.le_refl _) hb5)
  have HK5 := Lib.hid (Row.below HKp.out hb5 HKp.out.lt)
  have HN5 := Lib.hid (Row.below HNp.out hb5 HNp.out.lt)
  have HA5 := Lib.hid ((Bs.below HAp.out hb5).more hb5.size)
  have HL5 := Lib.hid ((Bs.below HLp.out hb5).more hb5.size)
  have HC5 := Lib.hid ((Bs.below HCp.out hb5).more hb5.size)
  clear h17 hb5
  go_wp2_with fail
  refine By.marks mixed Grew [By.is v11,
    By.is (strOf S),
    By.is v13,
    By.is (strOf S),
    By.is (.bool true),
    By.is (.bool true),
    By.is (.int .i64 0),
    By.is (.int .i64 0),
    By.is (.bool true),
    By.is (.bool true),
    By.is (.bool true),
    By.is v15,
    By.is (strOf Y),
    By.is v17,
    By.is (strOf Y),
    By.is (.bool true),
    By.is (.bool true),
    By.is (.bool true),
    By.is (.int .i64 g),
    By.is (.int .i64 g),
    By.is (.bool true),
    By.is (.bool true),
    By.is (.bool true),
    By.is (arr8 key),
    By.is (arr8 nonce),
    By.is (arr8 O),
    By.is (arr8 key),
    By.is (arr8 nonce),
    By.is (arr8 O),
    By.is (.bool true),
    By.is (.bool true),
    By.is (.bool true),
    By.is (arr8 key),
    By.is (arr8 nonce),
    By.is (.slice A1 n1 c1),
    By.is (.slice A2 n2 c2),
    By.is (arr8 T),
    By.is (arr8 key),
    By.is (arr8 nonce),
    By.is (.slice A1 n1 c1),
    By.is (.slice A2 n2 c2),
    By.is (arr8 T),
    By.is (.bool true),
    By.is (.bool true),
    By.is (.bool true)]
    (Ev.masks _ []) (by kernel_rfl) rfl Grew.refl Grew.trans ⟨?_, ?_, ?_, ?_, ?_, ?_, ?_, ?_, ?_, ?_, ?_, ?_, ?_, ?_, ?_, ?_, ?_, ?_, ?_, ?_, ?_, ?_, ?_, ?_, ?_, ?_, ?_, ?_, ?_, ?_, ?_, ?_, ?_, ?_, ?_, ?_, ?_, ?_, ?_, ?_, ?_, ?_, ?_, ?_, ?_, trivial⟩ ?_
  · intro a w ht hs hg -- 70
    have h11 := By.same_get hs 11 (by decide) (by kernel_rfl)
    refine By.yes rfl ?_
    clear hs hg
    go_simp
    exact ⟨_, rfl, Grew.refl _, rfl⟩
  · intro a w ht hs hg -- 71
    have h70 : a.tmps.getD 70 undef = _ := By.given_get hg 0 rfl rfl (by kernel_rfl)
    refine By.yes rfl ?_
    clear hs hg
    have hr := run_str w (Bs.below (w := w5.drew) H11.out ht)
    go_simp
    exact ⟨_, rfl, Grew.refl _, rfl⟩
  · intro a w ht hs hg -- 72
    have h13 := By.same_get hs 13 (by decide) (by kernel_rfl)
    refine By.yes rfl ?_
    clear hs hg
    go_simp
    exact ⟨_, rfl, Grew.refl _, rfl⟩
  · intro a w ht hs hg -- 73
    have h72 : a.tmps.getD 72 undef = _ := By.given_get hg 2 rfl rfl (by kernel_rfl)
    refine By.yes rfl ?_
    clear hs hg
    have hr := run_str w (Bs.below (w := w5.drew) H13.out ht)
    go_simp
    exact ⟨_, rfl, Grew.refl _, rfl⟩
  · intro a w ht hs hg -- 74
    have h71 : a.tmps.getD 71 undef = _ := By.given_get hg 1 rfl rfl (by kernel_rfl)
    have h73 : a.tmps.getD 73 undef = _ := By.given_get hg 3 rfl rfl (by kernel_rfl)
    refine By.yes rfl ?_
    clear hs hg
    go_simp
    exact ⟨_, rfl, Grew.refl _, congrArg Value.bool (by simp)⟩
  · intro a w ht hs hg -- 75
    have h74 : a.tmps.getD 74 undef = _ := By.given_get hg 4 rfl rfl (by kernel_rfl)
    refine By.yes rfl ?_
    clear hs hg
    go_simp
    exact ⟨_, rfl, Grew.refl _, rfl⟩
  · intro a w ht hs hg -- 76
    have h12 := By.same_get hs 12 (by decide) (by kernel_rfl)
    have hg75 := By.given_get hg 5 rfl rfl (by kernel_rfl)
    refine By.yes (By.want_yes rfl rfl hg75) ?_
    clear hg75
    clear hs hg
    go_simp
    exact ⟨_, rfl, Grew.refl _, rfl⟩
  · intro a w ht hs hg -- 77
    have h14 := By.same_get hs 14 (by decide) (by kernel_rfl)
    have hg75 := By.given_get hg 5 rfl rfl (by kernel_rfl)
    refine By.yes (By.want_yes rfl rfl hg75) ?_
    clear hg75
    clear hs hg
    go_simp
    exact ⟨_, rfl, Grew.refl _, rfl⟩
  · intro a w ht hs hg -- 78
    have h76 : a.tmps.getD 76 undef = _ := By.given_get hg 6 rfl rfl (by kernel_rfl)
    have h77 : a.tmps.getD 77 undef = _ := By.given_get hg 7 rfl rfl (by kernel_rfl)
    have hg75 := By.given_get hg 5 rfl rfl (by kernel_rfl)
    refine By.yes (By.want_yes rfl rfl hg75) ?_
    clear hg75
    clear hs hg
    go_simp
    exact ⟨_, rfl, Grew.refl _, congrArg Value.bool (by simp)⟩
  · intro a w ht hs hg -- 79
    have h75 : a.tmps.getD 75 undef = _ := By.given_get hg 5 rfl rfl (by kernel_rfl)
    have h78 : a.tmps.getD 78 undef = _ := By.given_get hg 8 rfl rfl (by kernel_rfl)
    refine By.yes rfl ?_
    clear hs hg
    go_simp
    exact ⟨_, rfl, Grew.refl _, rfl⟩
  · intro a w ht hs hg -- 80
    have h79 : a.tmps.getD 79 undef = _ := By.given_get hg 9 rfl rfl (by kernel_rfl)
    refine By.yes rfl ?_
    clear hs hg
    go_simp
    exact ⟨_, rfl, Grew.refl _, rfl⟩
  · intro a w ht hs hg -- 81
    have h15 := By.same_get hs 15 (by decide) (by kernel_rfl)
    have hg80 := By.given_get hg 10 rfl rfl (by kernel_rfl)
    refine By.yes (By.want_yes rfl rfl hg80) ?_
    clear hg80
    clear hs hg
    go_simp
    exact ⟨_, rfl, Grew.refl _, rfl⟩
  · intro a w ht hs hg -- 82
    have h81 : a.tmps.getD 81 undef = _ := By.given_get hg 11 rfl rfl (by kernel_rfl)
    have hg80 := By.given_get hg 10 rfl rfl (by kernel_rfl)
    refine By.yes (By.want_yes rfl rfl hg80) ?_
    clear hg80
    clear hs hg
    have hr := run_str w (Bs.below (w := w5.drew) H15.out ht)
    go_simp
    exact ⟨_, rfl, Grew.refl _, rfl⟩
  · intro a w ht hs hg -- 83
    have h17 := By.same_get hs 17 (by decide) (by kernel_rfl)
    have hg80 := By.given_get hg 10 rfl rfl (by kernel_rfl)
    refine By.yes (By.want_yes rfl rfl hg80) ?_
    clear hg80
    clear hs hg
    go_simp
    exact ⟨_, rfl, Grew.refl _, rfl⟩
  · intro a w ht hs hg -- 84
    have h83 : a.tmps.getD 83 undef = _ := By.given_get hg 13 rfl rfl (by kernel_rfl)
    have hg80 := By.given_get hg 10 rfl rfl (by kernel_rfl)
    refine By.yes (By.want_yes rfl rfl hg80) ?_
    clear hg80
    clear hs hg
    have hr := run_str w (Bs.below (w := w5.drew) H17.out ht)
    go_simp
    exact ⟨_, rfl, Grew.refl _, rfl⟩
  · intro a w ht hs hg -- 85
    have h82 : a.tmps.getD 82 undef = _ := By.given_get hg 12 rfl rfl (by kernel_rfl)
    have h84 : a.tmps.getD 84 undef = _ := By.given_get hg 14 rfl rfl (by kernel_rfl)
    have hg80 := By.given_get hg 10 rfl rfl (by kernel_rfl)
    refine By.yes (By.want_yes rfl rfl hg80) ?_
    clear hg80
    clear hs hg
    go_simp
    exact ⟨_, rfl, Grew.refl _, congrArg Value.bool (by simp)⟩
  · intro a w ht hs hg -- 86
    have h80 : a.tmps.getD 80 undef = _ := By.given_get hg 10 rfl rfl (by kernel_rfl)
    have h85 : a.tmps.getD 85 undef = _ := By.given_get hg 15 rfl rfl (by kernel_rfl)
    refine By.yes rfl ?_
    clear hs hg
    go_simp
    exact ⟨_, rfl, Grew.refl _, rfl⟩
  · intro a w ht hs hg -- 87
    have h86 : a.tmps.getD 86 undef = _ := By.given_get hg 16 rfl rfl (by kernel_rfl)
    refine By.yes rfl ?_
    clear hs hg
    go_simp
    exact ⟨_, rfl, Grew.refl _, rfl⟩
  · intro a w ht hs hg -- 88
    have h16 := By.same_get hs 16 (by decide) (by kernel_rfl)
    have hg87 := By.given_get hg 17 rfl rfl (by kernel_rfl)
    refine By.yes (By.want_yes rfl rfl hg87) ?_
    clear hg87
    clear hs hg
    go_simp
    exact ⟨_, rfl, Grew.refl _, rfl⟩
  · intro a w ht hs hg -- 89
    have h18 := By.same_get hs 18 (by decide) (by kernel_rfl)
    have hg87 := By.given_get hg 17 rfl rfl (by kernel_rfl)
    refine By.yes (By.want_yes rfl rfl hg87) ?_
    clear hg87
    clear hs hg
    go_simp
    exact ⟨_, rfl, Grew.refl _, rfl⟩
  · intro a w ht hs hg -- 90
    have h88 : a.tmps.getD 88 undef = _ := By.given_get hg 18 rfl rfl (by kernel_rfl)
    have h89 : a.tmps.getD 89 undef = _ := By.given_get hg 19 rfl rfl (by kernel_rfl)
    have hg87 := By.given_get hg 17 rfl rfl (by kernel_rfl)
    refine By.yes (By.want_yes rfl rfl hg87) ?_
    clear hg87
    clear hs hg
    go_simp
    exact ⟨_, rfl, Grew.refl _, congrArg Value.bool (by simp)⟩
  · intro a w ht hs hg -- 91
    have h87 : a.tmps.getD 87 undef = _ := By.given_get hg 17 rfl rfl (by kernel_rfl)
    have h90 : a.tmps.getD 90 undef = _ := By.given_get hg 20 rfl rfl (by kernel_rfl)
    refine By.yes rfl ?_
    clear hs hg
    go_simp
    exact ⟨_, rfl, Grew.refl _, rfl⟩
  · intro a w ht hs hg -- 92
    have h91 : a.tmps.getD 91 undef = _ := By.given_get hg 21 rfl rfl (by kernel_rfl)
    refine By.yes rfl ?_
    clear hs hg
    go_simp
    exact ⟨_, rfl, Grew.refl _, rfl⟩
  · intro a w ht hs hg -- 93
    have h5 := By.same_get hs 5 (by decide) (by kernel_rfl)
    have hg92 := By.given_get hg 22 rfl rfl (by kernel_rfl)
    refine By.yes (By.want_yes rfl rfl hg92) ?_
    clear hg92
    clear hs hg
    refine wp_loadRow 24 _ rfl h5 (Row.below (w := w5.drew) HK5.out ht HK5.out.lt) Try.underlying24 rfl (by kernel_rfl) Hkl.out ?_
    exact ⟨_, rfl, Grew.refl _, rfl⟩
  · intro a w ht hs hg -- 94
    have h6 := By.same_get hs 6 (by decide) (by kernel_rfl)
    have hg92 := By.given_get hg 22 rfl rfl (by kernel_rfl)
    refine By.yes (By.want_yes rfl rfl hg92) ?_
    clear hg92
    clear hs hg
    refine wp_loadRow 25 _ rfl h6 (Row.below (w := w5.drew) HN5.out ht HN5.out.lt) Try.underlying25 rfl (by kernel_rfl) Hnl.out ?_
    exact ⟨_, rfl, Grew.refl _, rfl⟩
  · intro a w ht hs hg -- 95
    have h93 : a.tmps.getD 93 undef = _ := By.given_get hg 23 rfl rfl (by kernel_rfl)
    have h94 : a.tmps.getD 94 undef = _ := By.given_get hg 24 rfl rfl (by kernel_rfl)
    have hg92 := By.given_get hg 22 rfl rfl (by kernel_rfl)
    refine By.yes (By.want_yes rfl rfl hg92) ?_
    clear hg92
    clear hs hg
    go_simp
    refine (HOn.out w).mono ?_
    rintro e w' ⟨rfl, hb⟩
    exact ⟨_, rfl, hb, rfl⟩
  · intro a w ht hs hg -- 96
    have h5 := By.same_get hs 5 (by decide) (by kernel_rfl)
    have hg92 := By.given_get hg 22 rfl rfl (by kernel_rfl)
    refine By.yes (By.want_yes rfl rfl hg92) ?_
    clear hg92
    clear hs hg
    refine wp_loadRow 24 _ rfl h5 (Row.below (w := w5.drew) HK5.out ht HK5.out.lt) Try.underlying24 rfl (by kernel_rfl) Hkl.out ?_
    exact ⟨_, rfl, Grew.refl _, rfl⟩
  · intro a w ht hs hg -- 97
    have h6 := By.same_get hs 6 (by decide) (by kernel_rfl)
    have hg92 := By.given_get hg 22 rfl rfl (by kernel_rfl)
    refine By.yes (By.want_yes rfl rfl hg92) ?_
    clear hg92
    clear hs hg
    refine wp_loadRow 25 _ rfl h6 (Row.below (w := w5.drew) HN5.out ht HN5.out.lt) Try.underlying25 rfl (by kernel_rfl) Hnl.out ?_
    exact ⟨_, rfl, Grew.refl _, rfl⟩
  · intro a w ht hs hg -- 98
    have h96 : a.tmps.getD 96 undef = _ := By.given_get hg 26 rfl rfl (by kernel_rfl)
    have h97 : a.tmps.getD 97 undef = _ := By.given_get hg 27 rfl rfl (by kernel_rfl)
    have hg92 := By.given_get hg 22 rfl rfl (by kernel_rfl)
    refine By.yes (By.want_yes rfl rfl hg92) ?_
    clear hg92
    clear hs hg
    go_simp
    refine (HROn.out w).mono ?_
    rintro e w' ⟨rfl, hb⟩
    exact ⟨_, rfl, hb, rfl⟩
  · intro a w ht hs hg -- 99
    have h95 : a.tmps.getD 95 undef = _ := By.given_get hg 25 rfl rfl (by kernel_rfl)
    have h98 : a.tmps.getD 98 undef = _ := By.given_get hg 28 rfl rfl (by kernel_rfl)
    have hg92 := By.given_get hg 22 rfl rfl (by kernel_rfl)
    refine By.yes (By.want_yes rfl rfl hg92) ?_
    clear hg92
    clear hs hg
    refine wp_eqArr _ _ rfl (by kernel_rfl) h95 h98 (eq32 O O HO.out HO.out w) ?_
    exact ⟨_, rfl, Grew.refl _, congrArg Value.bool (by simp)⟩
  · intro a w ht hs hg -- 100
    have h92 : a.tmps.getD 92 undef = _ := By.given_get hg 22 rfl rfl (by kernel_rfl)
    have h99 : a.tmps.getD 99 undef = _ := By.given_get hg 29 rfl rfl (by kernel_rfl)
    refine By.yes rfl ?_
    clear hs hg
    go_simp
    exact ⟨_, rfl, Grew.refl _, rfl⟩
  · intro a w ht hs hg -- 101
    have h100 : a.tmps.getD 100 undef = _ := By.given_get hg 30 rfl rfl (by kernel_rfl)
    refine By.yes rfl ?_
    clear hs hg
    go_simp
    exact ⟨_, rfl, Grew.refl _, rfl⟩
  · intro a w ht hs hg -- 102
    have h5 := By.same_get hs 5 (by decide) (by kernel_rfl)
    have hg101 := By.given_get hg 31 rfl rfl (by kernel_rfl)
    refine By.yes (By.want_yes rfl rfl hg101) ?_
    clear hg101
    clear hs hg
    refine wp_loadRow 24 _ rfl h5 (Row.below (w := w5.drew) HK5.out ht HK5.out.lt) Try.underlying24 rfl (by kernel_rfl) Hkl.out ?_
    exact ⟨_, rfl, Grew.refl _, rfl⟩
  · intro a w ht hs hg -- 103
    have h6 := By.same_get hs 6 (by decide) (by kernel_rfl)
    have hg101 := By.given_get hg 31 rfl rfl (by kernel_rfl)
    refine By.yes (By.want_yes rfl rfl hg101) ?_
    clear hg101
    clear hs hg
    refine wp_loadRow 25 _ rfl h6 (Row.below (w := w5.drew) HN5.out ht HN5.out.lt) Try.underlying25 rfl (by kernel_rfl) Hnl.out ?_
    exact ⟨_, rfl, Grew.refl _, rfl⟩
  · intro a w ht hs hg -- 104
    have h2 := By.same_get hs 2 (by decide) (by kernel_rfl)
    have hg101 := By.given_get hg 31 rfl rfl (by kernel_rfl)
    refine By.yes (By.want_yes rfl rfl hg101) ?_
    clear hg101
    clear hs hg
    go_simp
    exact ⟨_, rfl, Grew.refl _, rfl⟩
  · intro a w ht hs hg -- 105
    have h3 := By.same_get hs 3 (by decide) (by kernel_rfl)
    have hg101 := By.given_get hg 31 rfl rfl (by kernel_rfl)
    refine By.yes (By.want_yes rfl rfl hg101) ?_
    clear hg101
    clear hs hg
    go_simp
    exact ⟨_, rfl, Grew.refl _, rfl⟩
  · intro a w ht hs hg -- 106
    have h102 : a.tmps.getD 102 undef = _ := By.given_get hg 32 rfl rfl (by kernel_rfl)
    have h103 : a.tmps.getD 103 undef = _ := By.given_get hg 33 rfl rfl (by kernel_rfl)
    have h104 : a.tmps.getD 104 undef = _ := By.given_get hg 34 rfl rfl (by kernel_rfl)
    have h105 : a.tmps.getD 105 undef = _ := By.given_get hg 35 rfl rfl (by kernel_rfl)
    have hg101 := By.given_get hg 31 rfl rfl (by kernel_rfl)
    refine By.yes (By.want_yes rfl rfl hg101) ?_
    clear hg101
    clear hs hg
    have Hq1 := Lib.hid ((Bs.below (w := w5.drew) HA5.out ht).more ht.size)
    have Hq2 := Lib.hid ((Bs.below (w := w5.drew) HL5.out ht).more ht.size)
    go_simp
    refine (HTg.out w _ _ Hq1.out Hq2.out).mono ?_
    rintro e w' ⟨rfl, hb⟩
    exact ⟨_, rfl, hb, rfl⟩
  · intro a w ht hs hg -- 107
    have h5 := By.same_get hs 5 (by decide) (by kernel_rfl)
    have hg101 := By.given_get hg 31 rfl rfl (by kernel_rfl)
    refine By.yes (By.want_yes rfl rfl hg101) ?_
    clear hg101
    clear hs hg
    refine wp_loadRow 24 _ rfl h5 (Row.below (w := w5.drew) HK5.out ht HK5.out.lt) Try.underlying24 rfl (by kernel_rfl) Hkl.out ?_
    exact ⟨_, rfl, Grew.refl _, rfl⟩
  · intro a w ht hs hg -- 108
    have h6 := By.same_get hs 6 (by decide) (by kernel_rfl)
    have hg101 := By.given_get hg 31 rfl rfl (by kernel_rfl)
    refine By.yes (By.want_yes rfl rfl hg101) ?_
    clear hg101
    clear hs hg
    refine wp_loadRow 25 _ rfl h6 (Row.below (w := w5.drew) HN5.out ht HN5.out.lt) Try.underlying25 rfl (by kernel_rfl) Hnl.out ?_
    exact ⟨_, rfl, Grew.refl _, rfl⟩
  · intro a w ht hs hg -- 109
    have h2 := By.same_get hs 2 (by decide) (by kernel_rfl)
    have hg101 := By.given_get hg 31 rfl rfl (by kernel_rfl)
    refine By.yes (By.want_yes rfl rfl hg101) ?_
    clear hg101
    clear hs hg
    go_simp
    exact ⟨_, rfl, Grew.refl _, rfl⟩
  · intro a w ht hs hg -- 110
    have h3 := By.same_get hs 3 (by decide) (by kernel_rfl)
    have hg101 := By.given_get hg 31 rfl rfl (by kernel_rfl)
    refine By.yes (By.want_yes rfl rfl hg101) ?_
    clear hg101
    clear hs hg
    go_simp
    exact ⟨_, rfl, Grew.refl _, rfl⟩
  · intro a w ht hs hg -- 111
    have h107 : a.tmps.getD 107 undef = _ := By.given_get hg 37 rfl rfl (by kernel_rfl)
    have h108 : a.tmps.getD 108 undef = _ := By.given_get hg 38 rfl rfl (by kernel_rfl)
    have h109 : a.tmps.getD 109 undef = _ := By.given_get hg 39 rfl rfl (by kernel_rfl)
    have h110 : a.tmps.getD 110 undef = _ := By.given_get hg 40 rfl rfl (by kernel_rfl)
    have hg101 := By.given_get hg 31 rfl rfl (by kernel_rfl)
    refine By.yes (By.want_yes rfl rfl hg101) ?_
    clear hg101
    clear hs hg
    have Hq1 := Lib.hid ((Bs.below (w := w5.drew) HA5.out ht).more ht.size)
    have Hq2 := Lib.hid ((Bs.below (w := w5.drew) HL5.out ht).more ht.size)
    go_simp
    refine (HRTg.out w _ _ Hq1.out Hq2.out).mono ?_
    rintro e w' ⟨rfl, hb⟩
    exact ⟨_, rfl, hb, rfl⟩
  · intro a w ht hs hg -- 112
    have h106 : a.tmps.getD 106 undef = _ := By.given_get hg 36 rfl rfl (by kernel_rfl)
    have h111 : a.tmps.getD 111 undef = _ := By.given_get hg 41 rfl rfl (by kernel_rfl)
    have hg101 := By.given_get hg 31 rfl rfl (by kernel_rfl)
    refine By.yes (By.want_yes rfl rfl hg101) ?_
    clear hg101
    clear hs hg
    refine wp_eqArr _ _ rfl (by kernel_rfl) h106 h111 (eq16 T T HT.out HT.out w) ?_
    exact ⟨_, rfl, Grew.refl _, congrArg Value.bool (by simp)⟩
  · intro a w ht hs hg -- 113
    have h101 : a.tmps.getD 101 undef = _ := By.given_get hg 31 rfl rfl (by kernel_rfl)
    have h112 : a.tmps.getD 112 undef = _ := By.given_get hg 42 rfl rfl (by kernel_rfl)
    refine By.yes rfl ?_
    clear hs hg
    go_simp
    exact ⟨_, rfl, Grew.refl _, rfl⟩
  · intro a w ht hs hg -- 10
    have h113 : a.tmps.getD 113 undef = _ := By.given_get hg 43 rfl rfl (by kernel_rfl)
    refine By.yes rfl ?_
    clear hs hg
    go_simp
    exact ⟨_, rfl, Grew.refl _, rfl⟩
  refine By.ends_is (By.ends_is (By.ends_is (By.ends_is (By.ends_is (By.ends_is (By.ends_is (By.ends_is (By.ends_is (By.ends_is (By.ends_is (By.ends_is (By.ends_is (By.ends_is (By.ends_is (By.ends_is (By.ends_is (By.ends_is (By.ends_is (By.ends_is (By.ends_is (By.ends_is (By.ends_is (By.ends_is (By.ends_is (By.ends_is (By.ends_is (By.ends_is (By.ends_is (By.ends_is (By.ends_is (By.ends_is (By.ends_is (By.ends_is (By.ends_is (By.ends_is (By.ends_is (By.ends_is (By.ends_is (By.ends_is (By.ends_is (By.ends_is (By.ends_is (By.ends_is (By.ends_is (By.ends_nil fun wz hz => ?_)))))))))))))))))))))))))))))))))))))))))))))
  simp only [Act.put, List.setIfInBounds_toArray, List.set_cons_succ, List.set_cons_zero]
  have hz : Below w5.heap.size w5.drew wz := hz
  go_wp2
  go_ret
  exact ⟨rfl, nextB (b := w5.drew) HB5.out.drew (Nat.le_refl _) hz⟩

set_option maxRecDepth 100000 in
theorem lift (os : Os) (started : os.Started) (H : Type) (enc : TypeId × Value → H) :
    ReturnsInHanded {} Try.checked os 5 .any (Rows.aeadCallsSpec.pre6 enc Try.prog Try.f5 Rows.aeadCallsRow.domain false) (Rows.aeadCallsSpec.post enc Try.prog Try.f5 false true false false) := by
  refine Law.lifted (C := Try.checked) 4 own started (by kernel_rfl) Try.func5 laid (by kernel_rfl) rfl Try.underlying4 rfl
    (fun ds hd => by
      have hd' : ds.length = 5 := hd
      match ds, hd' with
      | [d0, d1, d2, d3, d4], _ => rfl)
    (ChangeSpec.witness6 (enc := enc) (C := Try.checked) false ⟨#[], #[.agg (Array.replicate 32 (.int .u8 0)), .agg (Array.replicate 12 (.int .u8 0)), .slice none 0 0, .slice none 0 0, .slice none 0 0], []⟩ 8 (by kernel_rfl) (by kernel_rfl) (by kernel_rfl) (by kernel_rfl)) ?_
  intro W args ds ps hst
  have hA : DataW.TrodAll enc Try.prog W 0 (fun _ => true) true Try.f5.params.toList args.toList ds ps := hst.trod
  have hok := hst.okw
  have hlt := hst.lt
  rw [Try.params5] at hA hok
  obtain ⟨v0, r0, d0, e0, p0, q0, hargs, rfl, rfl, h0, hA⟩ := trodAll_cons hA
  obtain ⟨v1, r1, d1, e1, p1, q1, rfl, rfl, rfl, h1, hA⟩ := trodAll_cons hA
  obtain ⟨v2, r2, d2, e2, p2, q2, rfl, rfl, rfl, h2, hA⟩ := trodAll_cons hA
  obtain ⟨v3, r3, d3, e3, p3, q3, rfl, rfl, rfl, h3, hA⟩ := trodAll_cons hA
  obtain ⟨v4, r4, d4, e4, p4, q4, rfl, rfl, rfl, h4, hA⟩ := trodAll_cons hA
  obtain ⟨rfl, rfl, rfl⟩ := trodAll_nil hA
  obtain rfl : args = #[v0, v1, v2, v3, v4] := by cases args; simp_all
  obtain ⟨_, hv0⟩ := hok 0 24 v0 rfl rfl
  obtain ⟨_, hv1⟩ := hok 1 25 v1 rfl rfl
  obtain ⟨_, hv2⟩ := hok 2 34 v2 rfl rfl
  obtain ⟨_, hv3⟩ := hok 3 34 v3 rfl rfl
  obtain ⟨_, hv4⟩ := hok 4 34 v4 rfl rfl
  obtain ⟨key, rfl, hk⟩ := arr8_at Try.underlying24 (by kernel_rfl) (by kernel_rfl) Try.underlying5 hv0
  obtain ⟨nonce, rfl, hn⟩ := arr8_at Try.underlying25 (by kernel_rfl) (by kernel_rfl) Try.underlying5 hv1
  obtain ⟨lp, hp, _⟩ := Law.bytes_at Try.underlying34 hv2 h2 (fun x hx => hlt x (by simp [hx]))
  obtain ⟨la, hl, _⟩ := Law.bytes_at Try.underlying34 hv3 h3 (fun x hx => hlt x (by simp [hx]))
  obtain ⟨ls, hs, _⟩ := Law.bytes_at Try.underlying34 hv4 h4 (fun x hx => hlt x (by simp [hx]))
  obtain ⟨A1, c1, rfl, _⟩ := id hp
  obtain ⟨A2, c2, rfl, _⟩ := id hl
  obtain ⟨A3, c3, rfl, _⟩ := id hs
  by_cases hlong : 300 < lp.length ∨ 300 < la.length ∨ 300 < ls.length
  · exact long key nonce A1 A2 A3 _ _ _ c1 c2 c3 hlong W
  have hp3 : lp.length ≤ 300 := by omega
  have hl3 : la.length ≤ 300 := by omega
  have hs3 : ls.length ≤ 300 := by omega
  by_cases h16 : ls.length < 16
  · exact walk key nonce lp la ls A1 A2 A3 _ _ _ c1 c2 c3 hk hn W rfl rfl rfl hp hl hs hp3 hl3 hs3 (Aead.sealed key nonce lp la) [] (Aead.once key nonce) (Aead.tag key nonce lp la) 5 (Aead.once_length _ _) (Aead.tag_length _ _ _ _)
      (fun W u v hu hv => (Aead.Seal_ok key nonce lp la u v hk hn W hu hv (by omega) (by omega)).mono fun e w' ⟨x, h1, h2, h3⟩ => ⟨x, h1, h2.bs, h3⟩)
      (fun W u v hu hv => (Aead.RSeal_any key nonce lp la u v hk hn W hu hv (by omega) (by omega)).mono fun e w' ⟨x, h1, h2, h3⟩ => ⟨x, h1, h2.bs, h3⟩)
      (fun W u v hu hv => by
        obtain ⟨A, c, rfl, _⟩ := id hu
        exact (Aead.Open_more key nonce A v _ c h16 W).mono fun e w' h => ⟨_, h.1, Bs.nil _ _ _ _, h.2⟩)
      (fun W u v hu hv => by
        obtain ⟨A, c, rfl, _⟩ := id hu
        exact (Aead.ROpen_more key nonce A v _ c h16 W).mono fun e w' h => ⟨_, h.1, Bs.nil _ _ _ _, h.2⟩)
      (Aead.Once_any key nonce hk hn) (Aead.ROnce_any key nonce hk hn)
      (fun W u v hu hv => Aead.ATag_any key nonce lp la u v hk hn W hu hv (by omega) (by omega))
      (fun W u v hu hv => Aead.RTag_any key nonce lp la u v hk hn W hu hv (by omega) (by omega))
  obtain ⟨lc, lt, rfl, ht⟩ : ∃ lc lt, ls = lc ++ lt ∧ lt.length = 16 := ⟨ls.take (ls.length - 16), ls.drop (ls.length - 16), (List.take_append_drop _ _).symm, by rw [List.length_drop]; omega⟩
  have hcl : lc.length ≤ 284 := by rw [List.length_append] at hs3; omega
  by_cases hq : lt = Aead.tag key nonce lc la
  · exact walk key nonce lp la (lc ++ lt) A1 A2 A3 _ _ _ c1 c2 c3 hk hn W rfl rfl rfl hp hl hs hp3 hl3 hs3 (Aead.sealed key nonce lp la) (Cha.xor key 1#32 nonce lc) (Aead.once key nonce) (Aead.tag key nonce lp la) 0 (Aead.once_length _ _) (Aead.tag_length _ _ _ _)
      (fun W u v hu hv => (Aead.Seal_ok key nonce lp la u v hk hn W hu hv (by omega) (by omega)).mono fun e w' ⟨x, h1, h2, h3⟩ => ⟨x, h1, h2.bs, h3⟩)
      (fun W u v hu hv => (Aead.RSeal_any key nonce lp la u v hk hn W hu hv (by omega) (by omega)).mono fun e w' ⟨x, h1, h2, h3⟩ => ⟨x, h1, h2.bs, h3⟩)
      (fun W u v hu hv => (Aead.Open_ok key nonce lc lt la u v hk hn ht W hu hv (by omega) (by omega)).mono fun e w' ⟨h1, h2⟩ => by
        rw [if_pos hq] at h1
        obtain ⟨x, h3, h4⟩ := h1
        exact ⟨x, h3, h4.bs, h2⟩)
      (fun W u v hu hv => (Aead.ROpen_ok key nonce lc lt la u v hk hn ht W hu hv (by omega) (by omega)).mono fun e w' ⟨h1, h2⟩ => by
        rw [if_pos hq] at h1
        obtain ⟨x, h3, h4⟩ := h1
        exact ⟨x, h3, h4.bs, h2⟩)
      (Aead.Once_any key nonce hk hn) (Aead.ROnce_any key nonce hk hn)
      (fun W u v hu hv => Aead.ATag_any key nonce lp la u v hk hn W hu hv (by omega) (by omega))
      (fun W u v hu hv => Aead.RTag_any key nonce lp la u v hk hn W hu hv (by omega) (by omega))
  · exact walk key nonce lp la (lc ++ lt) A1 A2 A3 _ _ _ c1 c2 c3 hk hn W rfl rfl rfl hp hl hs hp3 hl3 hs3 (Aead.sealed key nonce lp la) [] (Aead.once key nonce) (Aead.tag key nonce lp la) 12 (Aead.once_length _ _) (Aead.tag_length _ _ _ _)
      (fun W u v hu hv => (Aead.Seal_ok key nonce lp la u v hk hn W hu hv (by omega) (by omega)).mono fun e w' ⟨x, h1, h2, h3⟩ => ⟨x, h1, h2.bs, h3⟩)
      (fun W u v hu hv => (Aead.RSeal_any key nonce lp la u v hk hn W hu hv (by omega) (by omega)).mono fun e w' ⟨x, h1, h2, h3⟩ => ⟨x, h1, h2.bs, h3⟩)
      (fun W u v hu hv => (Aead.Open_ok key nonce lc lt la u v hk hn ht W hu hv (by omega) (by omega)).mono fun e w' ⟨h1, h2⟩ => by
        rw [if_neg hq] at h1
        exact ⟨_, h1, Bs.nil _ _ _ _, h2⟩)
      (fun W u v hu hv => (Aead.ROpen_ok key nonce lc lt la u v hk hn ht W hu hv (by omega) (by omega)).mono fun e w' ⟨h1, h2⟩ => by
        rw [if_neg hq] at h1
        exact ⟨_, h1, Bs.nil _ _ _ _, h2⟩)
      (Aead.Once_any key nonce hk hn) (Aead.ROnce_any key nonce hk hn)
      (fun W u v hu hv => Aead.ATag_any key nonce lp la u v hk hn W hu hv (by omega) (by omega))
      (fun W u v hu hv => Aead.RTag_any key nonce lp la u v hk hn W hu hv (by omega) (by omega))

theorem over : Rows.aeadCallsRow.holds Try.pinned (OpenSpec.ofChange Rows.aeadCallsSpec) :=
  OpenClaim.holds_of_wide 5 Try.f5 rfl rfl rfl rfl rfl rfl rfl ⟨rfl, rfl, rfl, rfl, rfl⟩ rfl rfl rfl rfl rfl (by kernel_rfl) Try.func5 (by kernel_rfl)
    (of_decide_eq_true (by kernel_rfl)) (by unfold Func.isWrapper; first | (rw [if_pos (by decide +kernel)]; kernel_rfl) | (rw [if_neg (by decide +kernel)]; exact ⟨rfl, rfl⟩))
    (fun os started H enc _ => lift os started H enc)
theorem proved : Rows.AeadCallsSaid := over
#print axioms proved
end Go.Proofs.Ytpllbnioncjhaaa.aeadCalls

