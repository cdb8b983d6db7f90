/- The key stream is block after block: 'drawbridgelaw02.ChachaRows', for every argument. -/
import Derived.Test.YtmfjlcgbanidnabChaXor
import Derived.Test.YtmfjlcgbanidnabChaLives
import Derived.Test.YtmfjlcgbanidnabBs
namespace Go.Proofs.Ytmfjlcgbanidnab.chachaRows
open Go.ChangeShapes Go.WideShapes Go.ChangeAt Go.RowKit
open Cha (own mixed laid)

/-- A result with an error beside bytes of its own. -/
def resM (lo : Nat) (l : List UInt8) (e : Nat) : By.Mark Grew := ⟨fun v w => ∃ x, v = .tuple #[x, .int .i64 (e : Int)] ∧ Own w lo x l, fun _ _ _ h k => by
  obtain ⟨x, h1, h2⟩ := h
  exact ⟨x, h1, h2.below k (Nat.le_refl _)⟩⟩

set_option maxRecDepth 8000 in
set_option maxHeartbeats 2000000 in
theorem walk (key nonce : List UInt8) (c : BitVec 32) (n : Int) (hk : key.length = 32) (hn : nonce.length = 12) (hr : -9223372036854775808 ≤ n ∧ n ≤ 9223372036854775807) (w : World) :
    Calls Try.prog 3 #[arr8 key, wv c, arr8 nonce, .int .i64 n] w fun e w' => e = .returned (.bool true) ∧ Below w.heap.size w w' := by
  have Hkl := Lib.hid (show (key.map bv).length = 32 by simpa using hk)
  have Hnl := Lib.hid (show (nonce.map bv).length = 12 by simpa using hn)
  have Hk := Lib.hid hk
  have Hn := Lib.hid hn
  have Hr := Lib.hid hr
  clear hk hn hr
  unfold arr8
  go_enter Try.func3, Try.ntmps3
  have hb1 : Below w.heap.size w ((w.alloc (.cells (key.map bv).toArray 22)).alloc (.cells (nonce.map bv).toArray 24)) := ((Below.refl _ w).alloc (Nat.le_refl _) _).alloc (by simp) _
  have hk1 : Row ((w.alloc (.cells (key.map bv).toArray 22)).alloc (.cells (nonce.map bv).toArray 24)) w.heap.size (key.map bv) 22 := (Row.new rfl rfl).alloc _
  have hn1 : Row ((w.alloc (.cells (key.map bv).toArray 22)).alloc (.cells (nonce.map bv).toArray 24)) (w.heap.size + 1) (nonce.map bv) 24 := Row.new (by simp) rfl
  have hsz : ((w.alloc (.cells (key.map bv).toArray 22)).alloc (.cells (nonce.map bv).toArray 24)).heap.size = w.heap.size + 2 := by simp
  have Hb1 := Lib.hid hb1
  have Hk1 := Lib.hid hk1
  have Hn1 := Lib.hid hn1
  have Hsz := Lib.hid hsz
  clear hb1 hk1 hn1 hsz
  go_wp2_with fail
  refine (Cha.lives_any _).mono ?_
  rintro e w2 ⟨rfl, hb2⟩
  have hb02 := nextB Hb1.out (Nat.le_refl _) hb2
  have Hk2 := Lib.hid (Hk1.out.below hb2 (by rw [Hsz.out]; omega))
  have Hn2 := Lib.hid (Hn1.out.below hb2 (by rw [Hsz.out]; omega))
  have hsz2 : w.heap.size + 2 ≤ w2.heap.size := by have := hb2.size; rw [Hsz.out] at this; exact this
  clear hb2 Hb1 Hk1 Hn1 Hsz
  go_wp2_with fail
  refine (Pick_any n 300 w2 Hr.out (by omega)).mono ?_
  rintro e w' ⟨rfl, rfl⟩
  obtain ⟨m, hm, hm3⟩ : ∃ m : Nat, pick n 300 = (m : Int) ∧ m < 300 := by
    have := pick_in n 300 (by omega)
    exact ⟨(pick n 300).toNat, by omega, by omega⟩
  rw [hm]
  clear hm
  go_wp2_with fail
  have hK : ∀ W, Grew w2.drew W → Row W w.heap.size (key.map bv) 22 := fun W hW => Row.below (w := w2.drew) Hk2.out hW (by show _ < w2.heap.size; omega)
  have hN : ∀ W, Grew w2.drew W → Row W (w.heap.size + 1) (nonce.map bv) 24 := fun W hW => Row.below (w := w2.drew) Hn2.out hW (by show _ < w2.heap.size; omega)
  have HK := Lib.hid hK
  have HN := Lib.hid hN
  clear hK hN
  refine By.marks mixed Grew [By.is (arr8 key),
    By.is (wv c),
    By.is (arr8 nonce),
    By.is (.int .i64 (m : Int)),
    ownM w2.heap.size (List.replicate m (0 : UInt8)),
    resM w2.heap.size (Cha.out key c nonce (List.replicate m (0 : UInt8))) (Cha.err c m),
    resM w2.heap.size (Cha.out key c nonce (List.replicate m (0 : UInt8))) (Cha.err c m),
    ownM w2.heap.size (Cha.out key c nonce (List.replicate m (0 : UInt8))),
    By.is (.int .i64 ((Cha.err c m : Nat) : Int)),
    ownM w2.heap.size (Cha.out key c nonce (List.replicate m (0 : UInt8))),
    By.is (.int .i64 ((Cha.err c m : Nat) : Int))]
    (Ev.masks _ []) (by kernel_rfl) rfl Grew.refl Grew.trans ⟨?_, ?_, ?_, ?_, ?_, ?_, ?_, ?_, ?_, ?_, ?_, trivial⟩ ?_
  · intro a w ht hs hg -- 19
    have h4 := By.same_get hs 4 (by decide) (by kernel_rfl)
    refine By.yes rfl ?_
    clear hs hg
    refine wp_loadRow 22 _ rfl h4 (HK.out w ht) Try.underlying22 rfl (by kernel_rfl) Hkl.out ?_
    exact ⟨_, rfl, Grew.refl _, rfl⟩
  · intro a w ht hs hg -- 20
    have h1 := By.same_get hs 1 (by decide) (by kernel_rfl)
    refine By.yes rfl ?_
    clear hs hg
    go_simp
    exact ⟨_, rfl, Grew.refl _, rfl⟩
  · intro a w ht hs hg -- 21
    have h6 := By.same_get hs 6 (by decide) (by kernel_rfl)
    refine By.yes rfl ?_
    clear hs hg
    refine wp_loadRow 24 _ rfl h6 (HN.out w ht) Try.underlying24 rfl (by kernel_rfl) Hnl.out ?_
    exact ⟨_, rfl, Grew.refl _, rfl⟩
  · intro a w ht hs hg -- 22
    have h3 := By.same_get hs 3 (by decide) (by kernel_rfl)
    refine By.yes rfl ?_
    clear hs hg
    go_simp
    exact ⟨_, rfl, Grew.refl _, rfl⟩
  · intro a w ht hs hg -- 23
    have h22 : a.tmps.getD 22 undef = _ := By.given_get hg 3 rfl rfl (by kernel_rfl)
    refine By.yes rfl ?_
    clear hs hg
    refine wp_make_bytes _ _ rfl m h22 h22 (by omega) ?_
    intro v w' ho hb
    exact ⟨_, rfl, hb, ho.less ht.size⟩
  · intro a w ht hs hg -- 24
    have h19 : a.tmps.getD 19 undef = _ := By.given_get hg 0 rfl rfl (by kernel_rfl)
    have h20 : a.tmps.getD 20 undef = _ := By.given_get hg 1 rfl rfl (by kernel_rfl)
    have h21 : a.tmps.getD 21 undef = _ := By.given_get hg 2 rfl rfl (by kernel_rfl)
    have h23 := By.given_get hg 4 rfl rfl (by kernel_rfl)
    refine By.yes rfl ?_
    obtain ⟨v23, hv23⟩ : ∃ v, a.tmps.getD 23 undef = v := ⟨_, rfl⟩
    replace h23 := (congrArg (fun v => (ownM w2.heap.size (List.replicate m (0 : UInt8))).on v w) hv23).mp h23
    clear hs hg
    have Hx := Lib.hid h23
    clear h23
    unfold arr8 at h19 h21
    go_simp
    refine (Xor_any key nonce _ _ c Hk.out Hn.out w (Own.bs Hx.out) (by rw [List.length_replicate]; omega)).mono ?_
    rintro e w' ⟨v, rfl, ho, hb⟩
    rw [List.length_replicate]
    exact ⟨_, rfl, hb, ⟨_, rfl, ho.less ht.size⟩⟩
  · intro a w ht hs hg -- 18
    have h24 := By.given_get hg 5 rfl rfl (by kernel_rfl)
    refine By.yes rfl ?_
    obtain ⟨v24, hv24⟩ : ∃ v, a.tmps.getD 24 undef = v := ⟨_, rfl⟩
    replace h24 := (congrArg (fun v => (resM w2.heap.size (Cha.out key c nonce (List.replicate m (0 : UInt8))) (Cha.err c m)).on v w) hv24).mp h24
    clear hs hg
    go_simp
    exact ⟨_, rfl, Grew.refl _, h24⟩
  · intro a w ht hs hg -- 25
    have h18 := By.given_get hg 6 rfl rfl (by kernel_rfl)
    refine By.yes rfl ?_
    obtain ⟨v18, hv18⟩ : ∃ v, a.tmps.getD 18 undef = v := ⟨_, rfl⟩
    replace h18 := (congrArg (fun v => (resM w2.heap.size (Cha.out key c nonce (List.replicate m (0 : UInt8))) (Cha.err c m)).on v w) hv18).mp h18
    clear hs hg
    obtain ⟨x, rfl, hx⟩ := h18
    have Hx := Lib.hid hx
    clear hx
    go_simp
    exact ⟨_, rfl, Grew.refl _, Hx.out⟩
  · intro a w ht hs hg -- 26
    have h18 := By.given_get hg 6 rfl rfl (by kernel_rfl)
    refine By.yes rfl ?_
    obtain ⟨v18, hv18⟩ : ∃ v, a.tmps.getD 18 undef = v := ⟨_, rfl⟩
    replace h18 := (congrArg (fun v => (resM w2.heap.size (Cha.out key c nonce (List.replicate m (0 : UInt8))) (Cha.err c m)).on v w) hv18).mp h18
    clear hs hg
    obtain ⟨x, rfl, hx⟩ := h18
    clear hx
    go_simp
    exact ⟨_, rfl, Grew.refl _, rfl⟩
  · intro a w ht hs hg -- 9
    have h25 := By.given_get hg 7 rfl rfl (by kernel_rfl)
    refine By.yes rfl ?_
    obtain ⟨v25, hv25⟩ : ∃ v, a.tmps.getD 25 undef = v := ⟨_, rfl⟩
    replace h25 := (congrArg (fun v => (ownM w2.heap.size (Cha.out key c nonce (List.replicate m (0 : UInt8)))).on v w) hv25).mp h25
    clear hs hg
    have Hx := Lib.hid h25
    clear h25
    go_simp
    exact ⟨_, rfl, Grew.refl _, Hx.out⟩
  · intro a w ht hs hg -- 10
    have h26 : a.tmps.getD 26 undef = _ := By.given_get hg 8 rfl rfl (by kernel_rfl)
    refine By.yes rfl ?_
    clear hs hg
    go_simp
    exact ⟨_, rfl, Grew.refl _, rfl⟩
  refine By.ends_is (By.ends_is (By.ends_is (By.ends_is (By.ends_skip fun v23 => (By.ends_skip fun v24 => (By.ends_skip fun v18 => (By.ends_skip fun v25 => (By.ends_is (By.ends_any fun v9 => (By.ends_is (By.ends_nil fun w3 hw3 => ?_)))))))))))
  simp only [Act.put, List.setIfInBounds_toArray, List.set_cons_succ, List.set_cons_zero]
  obtain ⟨hg3, ho3⟩ := hw3
  have hb03 : Below w.heap.size w w3 := hb02.drew.trans (hg3.mono (by show _ ≤ w2.heap.size; omega))
  have Hk3 := Lib.hid (HK.out w3 hg3)
  have Hn3 := Lib.hid (HN.out w3 hg3)
  have hsz3 : w.heap.size + 2 ≤ w3.heap.size := by have : w2.heap.size ≤ w3.heap.size := hg3.size; omega
  have Ho3 := Lib.hid (show Own w3 w2.heap.size v9 (Cha.out key c nonce (List.replicate m (0 : UInt8))) from ho3)
  clear hg3 ho3 HK HN Hk2 Hn2
  have hc := c.isLt
  unfold arr8
  rcases Cha.err_cases c m with ⟨he, hlong⟩ | ⟨he, hlong⟩
  · rw [he]
    unfold Cha.long at hlong
    have hl : (4294967296 : Int) - (c.toNat : Int) < ((m : Int) + 63) / 64 := by omega
    clear hlong
    go_wp2
    go_ret
    exact ⟨rfl, hb03⟩
  · rw [he, show ((0 : Nat) : Int) = 0 from rfl]
    have hout := Cha.out_ok key c nonce (List.replicate m (0 : UInt8)) (by rw [List.length_replicate]; exact he)
    have Hout := Lib.hid hout
    clear hout hlong
    go_wp2
    go_loopw [11, 12] (fun v iv wr => ∃ k : Nat, 64 * k < m + 64 ∧ iv = .int .i64 (k : Int) ∧ Own wr w3.heap.size v (Cha.ks key c nonce k) ∧ Row wr w.heap.size (key.map bv) 22 ∧ Row wr (w.heap.size + 1) (nonce.map bv) 24 ∧ Below w3.heap.size w3 wr) (fun _ iv _ => m + 64 - 64 * (intOf iv).toNat)
    case atStart => exact ⟨0, by omega, rfl, Own.nil _ _, Hk3.out, Hn3.out, Below.refl _ _⟩
    case round =>
      obtain ⟨k, hk, rfl, hown, hrk, hrn, hbel⟩ := hrel
      have hlen := Cha.ks_length key c nonce k
      obtain ⟨L, hL⟩ : ∃ L, Cha.ks key c nonce k = L := ⟨_, rfl⟩
      rw [hL] at hown hlen
      have HL := Lib.hid hL
      have Hown := Lib.hid hown
      have Hrk := Lib.hid hrk
      have Hrn := Lib.hid hrn
      have Hlen := Lib.hid hlen
      obtain ⟨A, cap, rfl⟩ := Hown.out.shape
      clear hL hrk hrn hlen
      by_cases h1 : 64 * k < m
      · have h1' : ((L.length : Nat) : Int) < (m : Int) := by rw [Hlen.out]; omega
        go_wp2_with (first
          | (refine wpList_loadRow rfl 22 _ rfl rfl Hrk.out Try.underlying22 rfl (by kernel_rfl) Hkl.out ?_)
          | (refine wpList_loadRow rfl 24 _ rfl rfl Hrn.out Try.underlying24 rfl (by kernel_rfl) Hnl.out ?_)
          | fail)
        rw [w_addn]
        refine (Block_any key nonce (c + BitVec.ofNat 32 k) Hk.out Hn.out wr).mono ?_
        rintro e w4 ⟨rfl, hb4⟩
        obtain ⟨B, hB⟩ : ∃ B, Cha.block key (c + BitVec.ofNat 32 k) nonce = B := ⟨_, rfl⟩
        have hBl : B.length = 64 := by rw [← hB]; exact Cha.block_length _ _ _
        have HB := Lib.hid hB
        have HBl := Lib.hid hBl
        rw [hB]
        clear hB
        have Hlb := Lib.hid (show (B.map bv).length = 64 by rw [List.length_map]; exact hBl)
        have hsr := hbel.size
        have Hrk4 := Lib.hid (Hrk.out.below hb4 (by omega))
        have Hrn4 := Lib.hid (Hrn.out.below hb4 (by omega))
        have Hown4 := Lib.hid (Hown.out.below hb4 (Nat.le_refl _))
        have hbel4 := nextB hbel (Nat.le_refl _) hb4
        have hs4 := hb4.size
        clear hb4 hBl
        unfold arr8
        go_wp2_with (first
          | (refine wpList_storeRow rfl 32 _ _ rfl rfl rfl (old := (List.replicate 64 (0 : UInt8)).map bv) (Row.new rfl rfl) (by kernel_rfl) Hlb.out (by simp) (bytes_one B) ?_
             generalize hW5 : World.setRow _ _ _ = W5
             have hx1 : Row W5 w4.heap.size (B.map bv) 32 := by rw [← hW5]; exact (Row.new (cs := (List.replicate 64 (0 : UInt8)).map bv) rfl rfl).setRow (B.map bv)
             have hb5 : Below w4.heap.size w4 W5 := by rw [← hW5]; exact below_setRow ((Below.refl _ w4).alloc (Nat.le_refl _) _) (Nat.le_refl _) _
             have Hown5 := Lib.hid (Hown4.out.below hb5 (Nat.le_refl _))
             have hbs := Row.bs (B := w4.heap.size + 1) hx1 (by omega)
             rw [HBl.out] at hbs
             have Hbs := Lib.hid hbs
             have Hb5 := Lib.hid hb5
             clear hW5 hx1 hb5 hbs)
          | (at_builtin; refine wpList_app_bytes _ rfl _ _ rfl rfl Hown5.out rfl Hbs.out (by rw [Hlen.out, HBl.out]; omega) (by have := Hb5.out.size; omega) ?_; intro v5 w5 hown5 hg5 hblk5))
        go_roundw
        case rel =>
          have hb5 := (nextB hbel4 (Nat.le_refl _) Hb5.out).grown hg5 (by have := Hb5.out.size; omega) (fun k hk => (Hown5.out.block_ge hk).1)
          refine ⟨k + 1, by omega, by simp, ?_, Hk3.out.below hb5 (by omega), Hn3.out.below hb5 (by omega), hb5⟩
          rw [Cha.ks, HL.out, HB.out]
          exact hown5
        case measure => simp [intOf]; omega
      · have h1' : ¬ ((L.length : Nat) : Int) < (m : Int) := by rw [Hlen.out]; omega
        go_wp2_with fail
        have hi0 : (0 : Int) ≤ (m : Int) := by omega
        have hcap : L.length ≤ cap := by
          obtain ⟨_, _, q, k, _⟩ := Hown.out.bs
          simp only [Value.slice.injEq] at q
          omega
        have hic : (m : Int) ≤ (cap : Int) := by have := Hlen.out; omega
        have hil : (m : Int) ≤ (L.length : Int) := by omega
        have hml : m ≤ L.length := by omega
        have hX : ∀ W, Grew wr.drew W → Bs W W.heap.size v9 (Cha.xor key c nonce (List.replicate m (0 : UInt8))) := fun W hW => by
          have h := Own.below (w := wr.drew) (Own.drew (Ho3.out.below hbel (Nat.le_refl _))) hW (Nat.le_refl _)
          rw [Hout.out] at h
          exact h.bs
        have hW : ∀ W, Grew wr.drew W → Bs W W.heap.size (.slice A L.length cap) L := fun W hW => (Own.below (w := wr.drew) Hown.out.drew hW (Nat.le_refl _)).bs
        have heq : Cha.xor key c nonce (List.replicate m (0 : UInt8)) = L.take m := by rw [← HL.out]; exact Cha.xor_zeros key c nonce m k (by have := Hlen.out; omega)
        have HX := Lib.hid hX
        have HW := Lib.hid hW
        have Heq := Lib.hid heq
        have hb9 := nextB hb03 (Nat.le_refl _) hbel
        clear hX hW heq hcap
        refine By.marks mixed Grew [By.is v9,
          By.is (strOf (Cha.xor key c nonce (List.replicate m (0 : UInt8)))),
          By.is (.slice A L.length cap),
          By.is (.int .i64 (m : Int)),
          By.is (.slice A m cap),
          By.is (strOf (L.take m)),
          By.is (.bool true),
          By.is (.bool true)]
          (Ev.masks _ []) (by kernel_rfl) rfl Grew.refl Grew.trans ⟨?_, ?_, ?_, ?_, ?_, ?_, ?_, ?_, trivial⟩ ?_
        · intro a w ht hs hg -- 53
          have h9 := By.same_get hs 9 (by decide) (by kernel_rfl)
          refine By.yes rfl ?_
          clear hs hg
          go_simp
          exact ⟨_, rfl, Grew.refl _, rfl⟩
        · intro a w ht hs hg -- 54
          have h53 : a.tmps.getD 53 undef = _ := By.given_get hg 0 rfl rfl (by kernel_rfl)
          refine By.yes rfl ?_
          clear hs hg
          have hr := run_str w (HX.out w ht)
          go_simp
          exact ⟨_, rfl, Grew.refl _, rfl⟩
        · intro a w ht hs hg -- 55
          have h11 := By.same_get hs 11 (by decide) (by kernel_rfl)
          refine By.yes rfl ?_
          clear hs hg
          go_simp
          exact ⟨_, rfl, Grew.refl _, rfl⟩
        · intro a w ht hs hg -- 56
          have h3 := By.same_get hs 3 (by decide) (by kernel_rfl)
          refine By.yes rfl ?_
          clear hs hg
          go_simp
          exact ⟨_, rfl, Grew.refl _, rfl⟩
        · intro a w ht hs hg -- 57
          have h55 : a.tmps.getD 55 undef = _ := By.given_get hg 2 rfl rfl (by kernel_rfl)
          have h56 : a.tmps.getD 56 undef = _ := By.given_get hg 3 rfl rfl (by kernel_rfl)
          refine By.yes rfl ?_
          clear hs hg
          go_simp
          exact ⟨_, rfl, Grew.refl _, rfl⟩
        · intro a w ht hs hg -- 58
          have h57 : a.tmps.getD 57 undef = _ := By.given_get hg 4 rfl rfl (by kernel_rfl)
          refine By.yes rfl ?_
          clear hs hg
          have hr := run_str w ((HW.out w ht).take rfl hml)
          go_simp
          exact ⟨_, rfl, Grew.refl _, rfl⟩
        · intro a w ht hs hg -- 59
          have h54 : a.tmps.getD 54 undef = _ := By.given_get hg 1 rfl rfl (by kernel_rfl)
          have h58 : a.tmps.getD 58 undef = _ := By.given_get hg 5 rfl rfl (by kernel_rfl)
          refine By.yes rfl ?_
          clear hs hg
          rw [Heq.out] at h54
          go_simp
          exact ⟨_, rfl, Grew.refl _, congrArg Value.bool (by simp)⟩
        · intro a w ht hs hg -- 8
          have h59 : a.tmps.getD 59 undef = _ := By.given_get hg 6 rfl rfl (by kernel_rfl)
          refine By.yes rfl ?_
          clear hs hg
          go_simp
          exact ⟨_, rfl, Grew.refl _, rfl⟩
        refine By.ends_is (By.ends_is (By.ends_is (By.ends_is (By.ends_is (By.ends_is (By.ends_is (By.ends_is (By.ends_nil fun w9 hw9 => ?_))))))))
        simp only [Act.put, List.setIfInBounds_toArray, List.set_cons_succ, List.set_cons_zero]
        have hg9 : Below wr.drew.heap.size wr.drew w9 := hw9
        have hb19 : Below w.heap.size w w9 := hb9.drew.trans (hg9.mono (by show w.heap.size ≤ wr.heap.size; have := hbel.size; omega))
        go_wp2
        go_ret
        exact ⟨rfl, hb19⟩

set_option maxRecDepth 100000 in
theorem lift (os : Os) (started : os.Started) (H : Type) (enc : TypeId × Value → H) :
    ReturnsInHanded {} Try.checked os 3 .any (Rows.chachaRowsSpec.pre6 enc Try.prog Try.f3 Rows.chachaRowsRow.domain false) (Rows.chachaRowsSpec.post enc Try.prog Try.f3 false true false false) := by
  refine Law.lifted (C := Try.checked) 4 own started (by kernel_rfl) Try.func3 laid (by kernel_rfl) rfl Try.underlying4 rfl
    (fun ds hd => by
      have hd' : ds.length = 4 := hd
      match ds, hd' with
      | [d0, d1, d2, d3], _ => rfl)
    (ChangeSpec.witness6 (enc := enc) (C := Try.checked) false ⟨#[], #[arr8 (List.replicate 32 0), .int .u32 0, arr8 (List.replicate 12 0), .int .i64 0], []⟩ 8 (by kernel_rfl) (by kernel_rfl) (by kernel_rfl) (by kernel_rfl)) ?_
  intro W args ds ps hst
  have hA : DataW.TrodAll enc Try.prog W 0 (fun _ => true) true Try.f3.params.toList args.toList ds ps := hst.trod
  have hok := hst.okw
  have hlt := hst.lt
  rw [Try.params3] at hA hok
  obtain ⟨v0, v1, v2, v3, d0, d1, d2, d3, p0, p1, p2, p3, rfl, rfl, rfl, h0, h1, h2, h3⟩ := trodAll_four hA
  obtain ⟨_, hv0⟩ := hok 0 22 v0 rfl rfl
  obtain ⟨_, hv1⟩ := hok 1 23 v1 rfl rfl
  obtain ⟨_, hv2⟩ := hok 2 24 v2 rfl rfl
  obtain ⟨_, hv3⟩ := hok 3 3 v3 rfl rfl
  obtain ⟨key, rfl, hkl⟩ := arr8_at Try.underlying22 (by kernel_rfl) (by kernel_rfl) Try.underlying5 hv0
  obtain ⟨c, rfl⟩ := word_at Try.underlying23 hv1
  obtain ⟨nonce, rfl, hnl⟩ := arr8_at Try.underlying24 (by kernel_rfl) (by kernel_rfl) Try.underlying5 hv2
  obtain ⟨n, rfl, hn1, hn2⟩ := Law.int_at Try.underlying3 hv3 h3
  exact walk key nonce c n hkl hnl ⟨hn1, hn2⟩ W

theorem over : Rows.chachaRowsRow.holds Try.pinned (OpenSpec.ofChange Rows.chachaRowsSpec) :=
  OpenClaim.holds_of_wide 3 Try.f3 rfl rfl rfl rfl rfl rfl rfl ⟨rfl, rfl, rfl, rfl, rfl⟩ rfl rfl rfl rfl rfl (by kernel_rfl) Try.func3 (by kernel_rfl)
    (of_decide_eq_true (by kernel_rfl)) (by unfold Func.isWrapper; first | (rw [if_pos (by decide +kernel)]; kernel_rfl) | (rw [if_neg (by decide +kernel)]; exact ⟨rfl, rfl⟩))
    (fun os started H enc _ => lift os started H enc)
theorem proved : Rows.ChachaRowsSaid := over
#print axioms proved
end Go.Proofs.Ytmfjlcgbanidnab.chachaRows
