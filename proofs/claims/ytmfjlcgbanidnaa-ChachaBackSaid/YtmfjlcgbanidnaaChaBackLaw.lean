/- Xor twice restores the bytes, and parts at multiples of 64 can be processed one by one: 'drawbridgelaw02.ChachaBack', for every argument. -/
import Derived.Test.YtmfjlcgbanidnaaChaXor
import Derived.Test.YtmfjlcgbanidnaaChaTwice
import Derived.Test.YtmfjlcgbanidnaaChaLives
import Derived.Test.YtmfjlcgbanidnaaKit
import Derived.Test.YtmfjlcgbanidnaaBs
namespace Go.Proofs.Ytmfjlcgbanidnaa.chachaBack
open Go.ChangeShapes Go.WideShapes Go.ChangeAt Go.RowKit
open Cha (own mixed laid)

/-- A result with an error beside bytes of its own. -/
def resM (lo : Nat) (l : List UInt8) (e : Nat) : By.Mark Grew := ⟨fun v w => ∃ x, v = .tuple #[x, .int .i64 (e : Int)] ∧ Own w lo x l ∧ Full x, fun _ _ _ h k => by
  obtain ⟨x, h1, h2, h3⟩ := h
  exact ⟨x, h1, h2.below k (Nat.le_refl _), h3⟩⟩
def fullM (lo : Nat) (l : List UInt8) : By.Mark Grew := ⟨fun v w => Own w lo v l ∧ Full v, fun _ _ _ h k => ⟨h.1.below k (Nat.le_refl _), h.2⟩⟩
/-- Bytes that can be read. -/
def bsM (l : List UInt8) : By.Mark Grew := ⟨fun v w => Bs w w.heap.size v l, fun _ _ _ h k => (h.below k).more k.size⟩

theorem trodAll_five {H : Type} {enc : TypeId × Value → H} {P : Program} {w : World} {base : Nat} {spare : Nat → Bool} {held : Bool} {t0 t1 t2 t3 t4 : TypeId} {args : Array Value} {ds : List (DataW H)} {ps : List MemPlace} (h : DataW.TrodAll enc P w base spare held [t0, t1, t2, t3, t4] args.toList ds ps) :
    ∃ v0 v1 v2 v3 v4 d0 d1 d2 d3 d4 p3 p4, args = #[v0, v1, v2, v3, v4] ∧ ds = [d0, d1, d2, d3, d4] ∧ DataW.Trod enc P w base spare held t3 v3 d3 p3 ∧ DataW.Trod enc P w base spare held t4 v4 d4 p4 ∧ ∀ x ∈ p3, x ∈ ps := by
  obtain ⟨v0, vs, d0, ds', p, q, hargs, rfl, rfl, hd, hrest⟩ := trodAll_cons h
  obtain ⟨v1, vs1, d1, ds1, p1, q1, rfl, rfl, rfl, hd1, hrest1⟩ := trodAll_cons hrest
  obtain ⟨v2, vs2, d2, ds2, p2, q2, rfl, rfl, rfl, hd2, hrest2⟩ := trodAll_cons hrest1
  obtain ⟨v3, vs3, d3, ds3, p3, q3, rfl, rfl, rfl, hd3, hrest3⟩ := trodAll_cons hrest2
  obtain ⟨v4, vs4, d4, ds4, p4, q4, rfl, rfl, rfl, hd4, hrest4⟩ := trodAll_cons hrest3
  obtain ⟨rfl, rfl, rfl⟩ := trodAll_nil hrest4
  exact ⟨v0, v1, v2, v3, v4, d0, d1, d2, d3, d4, p3, p4, by cases args; simp_all, rfl, hd3, hd4, fun x hx => by simp [hx]⟩

theorem long (key nonce : List UInt8) (A : Option Addr) (cap : Nat) (c : BitVec 32) (n : Nat) (cut : Int) (hl : 300 < n) (w : World) :
    Calls Try.prog 13 #[arr8 key, wv c, arr8 nonce, .slice A n cap, .int .i64 cut] w fun e w' => e = .returned (.bool true) ∧ Below w.heap.size w w' := by
  have hl' : (300 : Int) < (n : Int) := by omega
  unfold arr8
  go_enter Try.func13, Try.ntmps13
  have Hb1 := Lib.hid (show Below w.heap.size w ((w.alloc (.cells (key.map bv).toArray 55)).alloc (.cells (nonce.map bv).toArray 56)) from ((Below.refl _ w).alloc (Nat.le_refl _) _).alloc (by simp) _)
  go_wp2_with fail
  refine (Cha.lives_any _).mono ?_
  rintro e w2 ⟨rfl, hb2⟩
  have hb02 := nextB Hb1.out (Nat.le_refl _) hb2
  go_wp2
  go_ret
  exact ⟨rfl, hb02⟩

set_option maxRecDepth 8000 in
set_option maxHeartbeats 8000000 in
theorem walk (key nonce l : List UInt8) (A : Option Addr) (cap : Nat) (c : BitVec 32) (cut : Int) (hk : key.length = 32) (hn : nonce.length = 12) (hl : l.length ≤ 300) (hr : -9223372036854775808 ≤ cut ∧ cut ≤ 9223372036854775807) (w : World) (hb : Bs w w.heap.size (.slice A l.length cap) l) :
    Calls Try.prog 13 #[arr8 key, wv c, arr8 nonce, .slice A l.length cap, .int .i64 cut] w fun e w' => e = .returned (.bool true) ∧ Below w.heap.size w w' := by
  have hl' : ¬ (300 : Int) < (l.length : Int) := by omega
  have Hkl := Lib.hid (show (key.map bv).length = 32 by simpa using hk)
  have Hnl := Lib.hid (show (nonce.map bv).length = 12 by simpa using hn)
  have hcap : l.length ≤ cap := by
    obtain ⟨_, _, q, k, _⟩ := hb
    simp only [Value.slice.injEq] at q
    omega
  have Hk := Lib.hid hk
  have Hn := Lib.hid hn
  have Hr := Lib.hid hr
  have Hb := Lib.hid hb
  clear hk hn hr hb
  unfold arr8
  go_enter Try.func13, Try.ntmps13
  have hb1 : Below w.heap.size w ((w.alloc (.cells (key.map bv).toArray 55)).alloc (.cells (nonce.map bv).toArray 56)) := ((Below.refl _ w).alloc (Nat.le_refl _) _).alloc (by simp) _
  have hk1 : Row ((w.alloc (.cells (key.map bv).toArray 55)).alloc (.cells (nonce.map bv).toArray 56)) w.heap.size (key.map bv) 55 := (Row.new rfl rfl).alloc _
  have hn1 : Row ((w.alloc (.cells (key.map bv).toArray 55)).alloc (.cells (nonce.map bv).toArray 56)) (w.heap.size + 1) (nonce.map bv) 56 := Row.new (by simp) rfl
  have hsz : ((w.alloc (.cells (key.map bv).toArray 55)).alloc (.cells (nonce.map bv).toArray 56)).heap.size = w.heap.size + 2 := by simp
  have Hb1 := Lib.hid hb1
  have Hk1 := Lib.hid hk1
  have Hn1 := Lib.hid hn1
  have Hsz := Lib.hid hsz
  clear hb1 hk1 hn1 hsz
  go_wp2_with fail
  refine (Cha.lives_any _).mono ?_
  rintro e w2 ⟨rfl, hb2⟩
  have hb02 := nextB Hb1.out (Nat.le_refl _) hb2
  have Hk2 := Lib.hid (Hk1.out.below hb2 (by rw [Hsz.out]; omega))
  have Hn2 := Lib.hid (Hn1.out.below hb2 (by rw [Hsz.out]; omega))
  have hsz2 : w.heap.size + 2 ≤ w2.heap.size := by have := hb2.size; rw [Hsz.out] at this; exact this
  clear hb2 Hb1 Hk1 Hn1 Hsz
  go_wp2_with fail
  have hK : ∀ W, Grew w2.drew W → Row W w.heap.size (key.map bv) 55 := fun W hW => Row.below (w := w2.drew) Hk2.out hW (by show _ < w2.heap.size; omega)
  have hN : ∀ W, Grew w2.drew W → Row W (w.heap.size + 1) (nonce.map bv) 56 := fun W hW => Row.below (w := w2.drew) Hn2.out hW (by show _ < w2.heap.size; omega)
  have hB : ∀ W, Grew w2.drew W → Bs W w.heap.size (.slice A l.length cap) l := fun W hW => Bs.below (w := w2.drew) (Bs.drew (Hb.out.below hb02)) (hW.mono (by show w.heap.size ≤ w2.heap.size; omega))
  have HK := Lib.hid hK
  have HN := Lib.hid hN
  have HB := Lib.hid hB
  clear hK hN hB
  refine By.marks mixed Grew [By.is (arr8 key),
    By.is (wv c),
    By.is (arr8 nonce),
    By.is (.slice A l.length cap),
    ownM w2.heap.size l,
    resM w2.heap.size (Cha.out key c nonce l) (Cha.err c (l.length)),
    resM w2.heap.size (Cha.out key c nonce l) (Cha.err c (l.length)),
    fullM w2.heap.size (Cha.out key c nonce l),
    By.is (.int .i64 (((Cha.err c (l.length)) : Nat) : Int)),
    fullM w2.heap.size (Cha.out key c nonce l),
    By.is (.int .i64 (((Cha.err c (l.length)) : Nat) : Int))]
    (Ev.masks _ []) (by kernel_rfl) rfl Grew.refl Grew.trans ⟨?_, ?_, ?_, ?_, ?_, ?_, ?_, ?_, ?_, ?_, ?_, trivial⟩ ?_
  · intro a w ht hs hg -- 29
    have h5 := By.same_get hs 5 (by decide) (by kernel_rfl)
    refine By.yes rfl ?_
    clear hs hg
    refine wp_loadRow 55 _ rfl h5 (HK.out w ht) Try.underlying55 rfl (by kernel_rfl) Hkl.out ?_
    exact ⟨_, rfl, Grew.refl _, rfl⟩
  · intro a w ht hs hg -- 30
    have h1 := By.same_get hs 1 (by decide) (by kernel_rfl)
    refine By.yes rfl ?_
    clear hs hg
    go_simp
    exact ⟨_, rfl, Grew.refl _, rfl⟩
  · intro a w ht hs hg -- 31
    have h7 := By.same_get hs 7 (by decide) (by kernel_rfl)
    refine By.yes rfl ?_
    clear hs hg
    refine wp_loadRow 56 _ rfl h7 (HN.out w ht) Try.underlying56 rfl (by kernel_rfl) Hnl.out ?_
    exact ⟨_, rfl, Grew.refl _, rfl⟩
  · intro a w ht hs hg -- 32
    have h3 := By.same_get hs 3 (by decide) (by kernel_rfl)
    refine By.yes rfl ?_
    clear hs hg
    go_simp
    exact ⟨_, rfl, Grew.refl _, rfl⟩
  · intro a w ht hs hg -- 33
    have h32 : a.tmps.getD 32 undef = _ := By.given_get hg 3 rfl rfl (by kernel_rfl)
    refine By.yes rfl ?_
    clear hs hg
    go_simp
    refine (Own_any _ l w ((HB.out w ht).more (by have : w2.heap.size ≤ w.heap.size := ht.size; omega)) (by omega)).mono ?_
    rintro e w' ⟨v, rfl, ho, hb⟩
    exact ⟨_, rfl, hb, ho.less ht.size⟩
  · intro a w ht hs hg -- 34
    have h29 : a.tmps.getD 29 undef = _ := By.given_get hg 0 rfl rfl (by kernel_rfl)
    have h30 : a.tmps.getD 30 undef = _ := By.given_get hg 1 rfl rfl (by kernel_rfl)
    have h31 : a.tmps.getD 31 undef = _ := By.given_get hg 2 rfl rfl (by kernel_rfl)
    have h33 := By.given_get hg 4 rfl rfl (by kernel_rfl)
    refine By.yes rfl ?_
    obtain ⟨v33, hv33⟩ : ∃ v, a.tmps.getD 33 undef = v := ⟨_, rfl⟩
    replace h33 := (congrArg (fun v => (ownM w2.heap.size l).on v w) hv33).mp h33
    clear hs hg
    have Hx := Lib.hid h33
    clear h33
    unfold arr8 at h29 h31
    go_simp
    refine (Xor_full key nonce _ _ c Hk.out Hn.out w (Own.bs Hx.out) (by omega)).mono ?_
    rintro e w' ⟨v, rfl, ⟨ho, hf⟩, hb⟩
    exact ⟨_, rfl, hb, ⟨_, rfl, ho.less ht.size, hf⟩⟩
  · intro a w ht hs hg -- 28
    have h34 := By.given_get hg 5 rfl rfl (by kernel_rfl)
    refine By.yes rfl ?_
    obtain ⟨v34, hv34⟩ : ∃ v, a.tmps.getD 34 undef = v := ⟨_, rfl⟩
    replace h34 := (congrArg (fun v => (resM w2.heap.size (Cha.out key c nonce l) (Cha.err c (l.length))).on v w) hv34).mp h34
    clear hs hg
    go_simp
    exact ⟨_, rfl, Grew.refl _, h34⟩
  · intro a w ht hs hg -- 35
    have h28 := By.given_get hg 6 rfl rfl (by kernel_rfl)
    refine By.yes rfl ?_
    obtain ⟨v28, hv28⟩ : ∃ v, a.tmps.getD 28 undef = v := ⟨_, rfl⟩
    replace h28 := (congrArg (fun v => (resM w2.heap.size (Cha.out key c nonce l) (Cha.err c (l.length))).on v w) hv28).mp h28
    clear hs hg
    obtain ⟨x, rfl, hx⟩ := h28
    have Hx := Lib.hid hx
    clear hx
    go_simp
    exact ⟨_, rfl, Grew.refl _, Hx.out⟩
  · intro a w ht hs hg -- 36
    have h28 := By.given_get hg 6 rfl rfl (by kernel_rfl)
    refine By.yes rfl ?_
    obtain ⟨v28, hv28⟩ : ∃ v, a.tmps.getD 28 undef = v := ⟨_, rfl⟩
    replace h28 := (congrArg (fun v => (resM w2.heap.size (Cha.out key c nonce l) (Cha.err c (l.length))).on v w) hv28).mp h28
    clear hs hg
    obtain ⟨x, rfl, hx⟩ := h28
    clear hx
    go_simp
    exact ⟨_, rfl, Grew.refl _, rfl⟩
  · intro a w ht hs hg -- 11
    have h35 := By.given_get hg 7 rfl rfl (by kernel_rfl)
    refine By.yes rfl ?_
    obtain ⟨v35, hv35⟩ : ∃ v, a.tmps.getD 35 undef = v := ⟨_, rfl⟩
    replace h35 := (congrArg (fun v => (fullM w2.heap.size (Cha.out key c nonce l)).on v w) hv35).mp h35
    clear hs hg
    have Hx := Lib.hid h35
    clear h35
    go_simp
    exact ⟨_, rfl, Grew.refl _, Hx.out⟩
  · intro a w ht hs hg -- 12
    have h36 : a.tmps.getD 36 undef = _ := By.given_get hg 8 rfl rfl (by kernel_rfl)
    refine By.yes rfl ?_
    clear hs hg
    go_simp
    exact ⟨_, rfl, Grew.refl _, rfl⟩
  refine By.ends_is (By.ends_is (By.ends_is (By.ends_is (By.ends_skip fun v33 => (By.ends_skip fun v34 => (By.ends_skip fun v28 => (By.ends_skip fun v35 => (By.ends_is (By.ends_any fun v11 => (By.ends_is (By.ends_nil fun w3 hw3 => ?_)))))))))))
  simp only [Act.put, List.setIfInBounds_toArray, List.set_cons_succ, List.set_cons_zero]
  obtain ⟨hg, ho11⟩ := hw3
  have H11 := Lib.hid (show Own w3 w2.heap.size v11 (Cha.out key c nonce l) from ho11.1)
  have F11 := Lib.hid (show Full v11 from ho11.2)
  clear ho11
  have hg : Below w2.heap.size w2.drew w3 := hg
  have hb03 : Below w.heap.size w w3 := hb02.drew.trans (hg.mono (by show w.heap.size ≤ w2.heap.size; omega))
  have Hk2 := Lib.hid (HK.out _ hg)
  have Hn2 := Lib.hid (HN.out _ hg)
  have hsw3 : w2.heap.size ≤ w3.heap.size := hg.size
  clear hg HK HN HB
  unfold arr8
  rcases Cha.err_cases c l.length with ⟨he, hlong⟩ | ⟨he, hlong⟩
  · rw [he, show ((3 : Nat) : Int) = 3 from rfl]
    rw [Cha.out_long _ _ _ _ hlong] at H11
    obtain ⟨A11, c11, h11⟩ := H11.out.shape
    subst h11
    unfold Cha.long at hlong
    have hc := c.isLt
    have hl9 : (4294967296 : Int) - (c.toNat : Int) < ((l.length : Int) + 63) / 64 := by omega
    clear hlong
    go_wp2
    go_ret
    exact ⟨rfl, hb03⟩
  rw [he, show ((0 : Nat) : Int) = 0 from rfl]
  have hout := Cha.out_ok key c nonce l he
  have He := Lib.hid he
  clear he
  obtain ⟨X, hX⟩ : ∃ X, Cha.xor key c nonce l = X := ⟨_, rfl⟩
  have hXl : X.length = l.length := by rw [← hX, Cha.xor_length]
  rw [hout, hX] at H11
  have HX := Lib.hid hX
  clear hX hout
  go_wp2_with (first
    | (refine wpList_loadRow rfl 55 _ rfl rfl Hk2.out Try.underlying55 rfl (by kernel_rfl) Hkl.out ?_)
    | (refine wpList_loadRow rfl 56 _ rfl rfl Hn2.out Try.underlying56 rfl (by kernel_rfl) Hnl.out ?_)
    | fail)
  refine (Xor_any key nonce X v11 c Hk.out Hn.out w3 H11.out.bs (by omega)).mono ?_
  rintro e w4 ⟨v13, rfl, ho13, hb4⟩
  rw [hXl, He.out, show ((0 : Nat) : Int) = 0 from rfl]
  rw [Cha.out_ok _ _ _ _ (by rw [hXl]; exact He.out), ← HX.out, Cha.xor_xor] at ho13
  have hb04 := nextB hb03 (Nat.le_refl _) hb4
  have H11 := Lib.hid (H11.out.below hb4 (Nat.le_refl _))
  have H13 := Lib.hid ho13
  have Hk2 := Lib.hid (Hk2.out.below hb4 (by omega))
  have Hn2 := Lib.hid (Hn2.out.below hb4 (by omega))
  have hs4 : w3.heap.size ≤ w4.heap.size := hb4.size
  clear hb4 hb03 ho13
  go_wp2_with fail
  refine (Pick_any cut ((l.length : Int) / 64 + 1) w4 Hr.out (by omega)).mono ?_
  rintro e w' ⟨rfl, rfl⟩
  obtain ⟨k, hm, hk3⟩ : ∃ k : Nat, pick cut ((l.length : Int) / 64 + 1) = (k : Int) ∧ 64 * k ≤ l.length := by
    have := pick_in cut ((l.length : Int) / 64 + 1) (by omega)
    exact ⟨(pick cut ((l.length : Int) / 64 + 1)).toNat, by omega, by omega⟩
  rw [hm]
  clear hm
  have hk0 : (0 : Int) ≤ 64 * (k : Int) := by omega
  have hkl : 64 * (k : Int) ≤ (l.length : Int) := by omega
  have hkc : 64 * (k : Int) ≤ (cap : Int) := by omega
  have hkn : (k : Int) < 4294967296 := by omega
  have hw1 : IntKind.i64.wrap (64 * (k : Int)) = 64 * (k : Int) := IntWalk.i64_in _ (by omega)
  have hw2 : IntKind.u32.wrap (k : Int) = (k : Int) := wrap_u32_lt _ (by omega)
  go_wp2_with fail
  have hK : ∀ W, Grew w4.drew W → Row W w.heap.size (key.map bv) 55 := fun W hW => Row.below (w := w4.drew) Hk2.out hW (by show _ < w4.heap.size; omega)
  have hN : ∀ W, Grew w4.drew W → Row W (w.heap.size + 1) (nonce.map bv) 56 := fun W hW => Row.below (w := w4.drew) Hn2.out hW (by show _ < w4.heap.size; omega)
  have hB : ∀ W, Grew w4.drew W → Bs W w.heap.size (.slice A l.length cap) l := fun W hW => Bs.below (w := w4.drew) (Bs.drew (Hb.out.below hb04)) (hW.mono (by show w.heap.size ≤ w4.heap.size; omega))
  have HK := Lib.hid hK
  have HN := Lib.hid hN
  have HB := Lib.hid hB
  clear hK hN hB
  have hlt : (l.take (64 * k)).length = 64 * k := by rw [List.length_take]; omega
  have hld : (l.drop (64 * k)).length = l.length - 64 * k := by rw [List.length_drop]
  refine By.marks mixed Grew [By.is (arr8 key),
    By.is (wv c),
    By.is (arr8 nonce),
    By.is (.slice A l.length cap),
    By.is (.int .i64 (k : Int)),
    By.is (.int .i64 (64 * (k : Int))),
    By.is (.slice A (64 * k) cap),
    ownM w4.heap.size (l.take (64 * k)),
    resM w4.heap.size (Cha.out key c nonce (l.take (64 * k))) (Cha.err c (64 * k)),
    resM w4.heap.size (Cha.out key c nonce (l.take (64 * k))) (Cha.err c (64 * k)),
    fullM w4.heap.size (Cha.out key c nonce (l.take (64 * k))),
    By.is (.int .i64 (((Cha.err c (64 * k)) : Nat) : Int)),
    fullM w4.heap.size (Cha.out key c nonce (l.take (64 * k))),
    By.is (.int .i64 (((Cha.err c (64 * k)) : Nat) : Int))]
    (Ev.masks _ []) (by kernel_rfl) rfl Grew.refl Grew.trans ⟨?_, ?_, ?_, ?_, ?_, ?_, ?_, ?_, ?_, ?_, ?_, ?_, ?_, ?_, trivial⟩ ?_
  · intro a w ht hs hg -- 68
    have h5 := By.same_get hs 5 (by decide) (by kernel_rfl)
    refine By.yes rfl ?_
    clear hs hg
    refine wp_loadRow 55 _ rfl h5 (HK.out w ht) Try.underlying55 rfl (by kernel_rfl) Hkl.out ?_
    exact ⟨_, rfl, Grew.refl _, rfl⟩
  · intro a w ht hs hg -- 69
    have h1 := By.same_get hs 1 (by decide) (by kernel_rfl)
    refine By.yes rfl ?_
    clear hs hg
    go_simp
    exact ⟨_, rfl, Grew.refl _, rfl⟩
  · intro a w ht hs hg -- 70
    have h7 := By.same_get hs 7 (by decide) (by kernel_rfl)
    refine By.yes rfl ?_
    clear hs hg
    refine wp_loadRow 56 _ rfl h7 (HN.out w ht) Try.underlying56 rfl (by kernel_rfl) Hnl.out ?_
    exact ⟨_, rfl, Grew.refl _, rfl⟩
  · intro a w ht hs hg -- 71
    have h3 := By.same_get hs 3 (by decide) (by kernel_rfl)
    refine By.yes rfl ?_
    clear hs hg
    go_simp
    exact ⟨_, rfl, Grew.refl _, rfl⟩
  · intro a w ht hs hg -- 72
    have h14 := By.same_get hs 14 (by decide) (by kernel_rfl)
    refine By.yes rfl ?_
    clear hs hg
    go_simp
    exact ⟨_, rfl, Grew.refl _, rfl⟩
  · intro a w ht hs hg -- 73
    have h72 : a.tmps.getD 72 undef = _ := By.given_get hg 4 rfl rfl (by kernel_rfl)
    refine By.yes rfl ?_
    clear hs hg
    go_simp
    exact ⟨_, rfl, Grew.refl _, rfl⟩
  · intro a w ht hs hg -- 74
    have h71 : a.tmps.getD 71 undef = _ := By.given_get hg 3 rfl rfl (by kernel_rfl)
    have h73 : a.tmps.getD 73 undef = _ := By.given_get hg 5 rfl rfl (by kernel_rfl)
    refine By.yes rfl ?_
    clear hs hg
    go_simp
    exact ⟨_, rfl, Grew.refl _, rfl⟩
  · intro a w ht hs hg -- 75
    have h74 : a.tmps.getD 74 undef = _ := By.given_get hg 6 rfl rfl (by kernel_rfl)
    refine By.yes rfl ?_
    clear hs hg
    have hbt := ((HB.out w ht).take rfl hk3).more (B' := w.heap.size) (by have : w4.heap.size ≤ w.heap.size := ht.size; omega)
    have Hbt := Lib.hid hbt
    clear hbt
    go_simp
    refine (Own_any _ _ w Hbt.out (by rw [List.length_take]; omega)).mono ?_
    rintro e w' ⟨v, rfl, ho, hb⟩
    exact ⟨_, rfl, hb, ho.less ht.size⟩
  · intro a w ht hs hg -- 76
    have h68 : a.tmps.getD 68 undef = _ := By.given_get hg 0 rfl rfl (by kernel_rfl)
    have h69 : a.tmps.getD 69 undef = _ := By.given_get hg 1 rfl rfl (by kernel_rfl)
    have h70 : a.tmps.getD 70 undef = _ := By.given_get hg 2 rfl rfl (by kernel_rfl)
    have h75 := By.given_get hg 7 rfl rfl (by kernel_rfl)
    refine By.yes rfl ?_
    obtain ⟨v75, hv75⟩ : ∃ v, a.tmps.getD 75 undef = v := ⟨_, rfl⟩
    replace h75 := (congrArg (fun v => (ownM w4.heap.size (l.take (64 * k))).on v w) hv75).mp h75
    clear hs hg
    have Hx := Lib.hid h75
    clear h75
    unfold arr8 at h68 h70
    go_simp
    refine (Xor_full key nonce _ _ c Hk.out Hn.out w (Own.bs Hx.out) (by rw [hlt]; omega)).mono ?_
    rintro e w' ⟨v, rfl, ⟨ho, hf⟩, hb⟩
    rw [hlt]
    exact ⟨_, rfl, hb, ⟨_, rfl, ho.less ht.size, hf⟩⟩
  · intro a w ht hs hg -- 67
    have h76 := By.given_get hg 8 rfl rfl (by kernel_rfl)
    refine By.yes rfl ?_
    obtain ⟨v76, hv76⟩ : ∃ v, a.tmps.getD 76 undef = v := ⟨_, rfl⟩
    replace h76 := (congrArg (fun v => (resM w4.heap.size (Cha.out key c nonce (l.take (64 * k))) (Cha.err c (64 * k))).on v w) hv76).mp h76
    clear hs hg
    go_simp
    exact ⟨_, rfl, Grew.refl _, h76⟩
  · intro a w ht hs hg -- 77
    have h67 := By.given_get hg 9 rfl rfl (by kernel_rfl)
    refine By.yes rfl ?_
    obtain ⟨v67, hv67⟩ : ∃ v, a.tmps.getD 67 undef = v := ⟨_, rfl⟩
    replace h67 := (congrArg (fun v => (resM w4.heap.size (Cha.out key c nonce (l.take (64 * k))) (Cha.err c (64 * k))).on v w) hv67).mp h67
    clear hs hg
    obtain ⟨x, rfl, hx⟩ := h67
    have Hx := Lib.hid hx
    clear hx
    go_simp
    exact ⟨_, rfl, Grew.refl _, Hx.out⟩
  · intro a w ht hs hg -- 78
    have h67 := By.given_get hg 9 rfl rfl (by kernel_rfl)
    refine By.yes rfl ?_
    obtain ⟨v67, hv67⟩ : ∃ v, a.tmps.getD 67 undef = v := ⟨_, rfl⟩
    replace h67 := (congrArg (fun v => (resM w4.heap.size (Cha.out key c nonce (l.take (64 * k))) (Cha.err c (64 * k))).on v w) hv67).mp h67
    clear hs hg
    obtain ⟨x, rfl, hx⟩ := h67
    clear hx
    go_simp
    exact ⟨_, rfl, Grew.refl _, rfl⟩
  · intro a w ht hs hg -- 15
    have h77 := By.given_get hg 10 rfl rfl (by kernel_rfl)
    refine By.yes rfl ?_
    obtain ⟨v77, hv77⟩ : ∃ v, a.tmps.getD 77 undef = v := ⟨_, rfl⟩
    replace h77 := (congrArg (fun v => (fullM w4.heap.size (Cha.out key c nonce (l.take (64 * k)))).on v w) hv77).mp h77
    clear hs hg
    have Hx := Lib.hid h77
    clear h77
    go_simp
    exact ⟨_, rfl, Grew.refl _, Hx.out⟩
  · intro a w ht hs hg -- 16
    have h78 : a.tmps.getD 78 undef = _ := By.given_get hg 11 rfl rfl (by kernel_rfl)
    refine By.yes rfl ?_
    clear hs hg
    go_simp
    exact ⟨_, rfl, Grew.refl _, rfl⟩
  refine By.ends_is (By.ends_is (By.ends_is (By.ends_is (By.ends_is (By.ends_is (By.ends_is (By.ends_skip fun v75 => (By.ends_skip fun v76 => (By.ends_skip fun v67 => (By.ends_skip fun v77 => (By.ends_is (By.ends_any fun v15 => (By.ends_is (By.ends_nil fun w5 hw5 => ?_))))))))))))))
  simp only [Act.put, List.setIfInBounds_toArray, List.set_cons_succ, List.set_cons_zero]
  obtain ⟨hg, ho15⟩ := hw5
  have H15 := Lib.hid (show Own w5 w4.heap.size v15 (Cha.out key c nonce (l.take (64 * k))) from ho15.1)
  have F15 := Lib.hid (show Full v15 from ho15.2)
  clear ho15
  have hg : Below w4.heap.size w4.drew w5 := hg
  have hb05 : Below w.heap.size w w5 := hb04.drew.trans (hg.mono (by show w.heap.size ≤ w4.heap.size; omega))
  have Hk2 := Lib.hid (HK.out _ hg)
  have Hn2 := Lib.hid (HN.out _ hg)
  have hsw5 : w4.heap.size ≤ w5.heap.size := hg.size
  have H11 := Lib.hid (Own.below (w := w4.drew) H11.out.drew hg (Nat.le_refl _))
  have H13 := Lib.hid (Own.below (w := w4.drew) H13.out.drew hg (Nat.le_refl _))
  clear hg HK HN HB
  unfold arr8
  go_wp2_with fail
  have hK : ∀ W, Grew w5.drew W → Row W w.heap.size (key.map bv) 55 := fun W hW => Row.below (w := w5.drew) Hk2.out hW (by show _ < w5.heap.size; omega)
  have hN : ∀ W, Grew w5.drew W → Row W (w.heap.size + 1) (nonce.map bv) 56 := fun W hW => Row.below (w := w5.drew) Hn2.out hW (by show _ < w5.heap.size; omega)
  have hB : ∀ W, Grew w5.drew W → Bs W w.heap.size (.slice A l.length cap) l := fun W hW => Bs.below (w := w5.drew) (Bs.drew (Hb.out.below hb05)) (hW.mono (by show w.heap.size ≤ w5.heap.size; omega))
  have HK := Lib.hid hK
  have HN := Lib.hid hN
  have HB := Lib.hid hB
  clear hK hN hB
  refine By.marks mixed Grew [By.is (arr8 key),
    By.is (wv c),
    By.is (.int .i64 (k : Int)),
    By.is (.int .u32 (k : Int)),
    By.is (wv (c + BitVec.ofNat 32 k)),
    By.is (arr8 nonce),
    By.is (.slice A l.length cap),
    By.is (.int .i64 (k : Int)),
    By.is (.int .i64 (64 * (k : Int))),
    bsM (l.drop (64 * k)),
    ownM w5.heap.size (l.drop (64 * k)),
    resM w5.heap.size (Cha.out key (c + BitVec.ofNat 32 k) nonce (l.drop (64 * k))) (Cha.err (c + BitVec.ofNat 32 k) (l.length - 64 * k)),
    resM w5.heap.size (Cha.out key (c + BitVec.ofNat 32 k) nonce (l.drop (64 * k))) (Cha.err (c + BitVec.ofNat 32 k) (l.length - 64 * k)),
    fullM w5.heap.size (Cha.out key (c + BitVec.ofNat 32 k) nonce (l.drop (64 * k))),
    By.is (.int .i64 (((Cha.err (c + BitVec.ofNat 32 k) (l.length - 64 * k)) : Nat) : Int)),
    fullM w5.heap.size (Cha.out key (c + BitVec.ofNat 32 k) nonce (l.drop (64 * k))),
    By.is (.int .i64 (((Cha.err (c + BitVec.ofNat 32 k) (l.length - 64 * k)) : Nat) : Int))]
    (Ev.masks _ []) (by kernel_rfl) rfl Grew.refl Grew.trans ⟨?_, ?_, ?_, ?_, ?_, ?_, ?_, ?_, ?_, ?_, ?_, ?_, ?_, ?_, ?_, ?_, ?_, trivial⟩ ?_
  · intro a w ht hs hg -- 80
    have h5 := By.same_get hs 5 (by decide) (by kernel_rfl)
    refine By.yes rfl ?_
    clear hs hg
    refine wp_loadRow 55 _ rfl h5 (HK.out w ht) Try.underlying55 rfl (by kernel_rfl) Hkl.out ?_
    exact ⟨_, rfl, Grew.refl _, rfl⟩
  · intro a w ht hs hg -- 81
    have h1 := By.same_get hs 1 (by decide) (by kernel_rfl)
    refine By.yes rfl ?_
    clear hs hg
    go_simp
    exact ⟨_, rfl, Grew.refl _, rfl⟩
  · intro a w ht hs hg -- 82
    have h14 := By.same_get hs 14 (by decide) (by kernel_rfl)
    refine By.yes rfl ?_
    clear hs hg
    go_simp
    exact ⟨_, rfl, Grew.refl _, rfl⟩
  · intro a w ht hs hg -- 83
    have h82 : a.tmps.getD 82 undef = _ := By.given_get hg 2 rfl rfl (by kernel_rfl)
    refine By.yes rfl ?_
    clear hs hg
    go_simp
    exact ⟨_, rfl, Grew.refl _, rfl⟩
  · intro a w ht hs hg -- 84
    have h81 : a.tmps.getD 81 undef = _ := By.given_get hg 1 rfl rfl (by kernel_rfl)
    have h83 : a.tmps.getD 83 undef = _ := By.given_get hg 3 rfl rfl (by kernel_rfl)
    refine By.yes rfl ?_
    clear hs hg
    go_simp
    exact ⟨_, rfl, Grew.refl _, congrArg (Value.int .u32) (w_addn c k)⟩
  · intro a w ht hs hg -- 85
    have h7 := By.same_get hs 7 (by decide) (by kernel_rfl)
    refine By.yes rfl ?_
    clear hs hg
    refine wp_loadRow 56 _ rfl h7 (HN.out w ht) Try.underlying56 rfl (by kernel_rfl) Hnl.out ?_
    exact ⟨_, rfl, Grew.refl _, rfl⟩
  · intro a w ht hs hg -- 86
    have h3 := By.same_get hs 3 (by decide) (by kernel_rfl)
    refine By.yes rfl ?_
    clear hs hg
    go_simp
    exact ⟨_, rfl, Grew.refl _, rfl⟩
  · intro a w ht hs hg -- 87
    have h14 := By.same_get hs 14 (by decide) (by kernel_rfl)
    refine By.yes rfl ?_
    clear hs hg
    go_simp
    exact ⟨_, rfl, Grew.refl _, rfl⟩
  · intro a w ht hs hg -- 88
    have h87 : a.tmps.getD 87 undef = _ := By.given_get hg 7 rfl rfl (by kernel_rfl)
    refine By.yes rfl ?_
    clear hs hg
    go_simp
    exact ⟨_, rfl, Grew.refl _, rfl⟩
  · intro a w ht hs hg -- 89
    have h86 : a.tmps.getD 86 undef = _ := By.given_get hg 6 rfl rfl (by kernel_rfl)
    have h88 : a.tmps.getD 88 undef = _ := By.given_get hg 8 rfl rfl (by kernel_rfl)
    refine By.yes rfl ?_
    clear hs hg
    have hbt := ((HB.out w ht).cut hk3).more (B' := w.heap.size) (by have : w5.heap.size ≤ w.heap.size := ht.size; omega)
    have Hbt := Lib.hid hbt
    clear hbt
    go_simp
    exact ⟨_, rfl, Grew.refl _, Hbt.out⟩
  · intro a w ht hs hg -- 90
    have h89 := By.given_get hg 9 rfl rfl (by kernel_rfl)
    refine By.yes rfl ?_
    obtain ⟨v89, hv89⟩ : ∃ v, a.tmps.getD 89 undef = v := ⟨_, rfl⟩
    replace h89 := (congrArg (fun v => (bsM (l.drop (64 * k))).on v w) hv89).mp h89
    clear hs hg
    have Hbt := Lib.hid h89
    clear h89
    go_simp
    refine (Own_any _ _ w Hbt.out (by rw [List.length_drop]; omega)).mono ?_
    rintro e w' ⟨v, rfl, ho, hb⟩
    exact ⟨_, rfl, hb, ho.less ht.size⟩
  · intro a w ht hs hg -- 91
    have h80 : a.tmps.getD 80 undef = _ := By.given_get hg 0 rfl rfl (by kernel_rfl)
    have h84 : a.tmps.getD 84 undef = _ := By.given_get hg 4 rfl rfl (by kernel_rfl)
    have h85 : a.tmps.getD 85 undef = _ := By.given_get hg 5 rfl rfl (by kernel_rfl)
    have h90 := By.given_get hg 10 rfl rfl (by kernel_rfl)
    refine By.yes rfl ?_
    obtain ⟨v90, hv90⟩ : ∃ v, a.tmps.getD 90 undef = v := ⟨_, rfl⟩
    replace h90 := (congrArg (fun v => (ownM w5.heap.size (l.drop (64 * k))).on v w) hv90).mp h90
    clear hs hg
    have Hx := Lib.hid h90
    clear h90
    unfold arr8 at h80 h85
    go_simp
    refine (Xor_full key nonce _ _ (c + BitVec.ofNat 32 k) Hk.out Hn.out w (Own.bs Hx.out) (by rw [hld]; omega)).mono ?_
    rintro e w' ⟨v, rfl, ⟨ho, hf⟩, hb⟩
    rw [hld]
    exact ⟨_, rfl, hb, ⟨_, rfl, ho.less ht.size, hf⟩⟩
  · intro a w ht hs hg -- 79
    have h91 := By.given_get hg 11 rfl rfl (by kernel_rfl)
    refine By.yes rfl ?_
    obtain ⟨v91, hv91⟩ : ∃ v, a.tmps.getD 91 undef = v := ⟨_, rfl⟩
    replace h91 := (congrArg (fun v => (resM w5.heap.size (Cha.out key (c + BitVec.ofNat 32 k) nonce (l.drop (64 * k))) (Cha.err (c + BitVec.ofNat 32 k) (l.length - 64 * k))).on v w) hv91).mp h91
    clear hs hg
    go_simp
    exact ⟨_, rfl, Grew.refl _, h91⟩
  · intro a w ht hs hg -- 92
    have h79 := By.given_get hg 12 rfl rfl (by kernel_rfl)
    refine By.yes rfl ?_
    obtain ⟨v79, hv79⟩ : ∃ v, a.tmps.getD 79 undef = v := ⟨_, rfl⟩
    replace h79 := (congrArg (fun v => (resM w5.heap.size (Cha.out key (c + BitVec.ofNat 32 k) nonce (l.drop (64 * k))) (Cha.err (c + BitVec.ofNat 32 k) (l.length - 64 * k))).on v w) hv79).mp h79
    clear hs hg
    obtain ⟨x, rfl, hx⟩ := h79
    have Hx := Lib.hid hx
    clear hx
    go_simp
    exact ⟨_, rfl, Grew.refl _, Hx.out⟩
  · intro a w ht hs hg -- 93
    have h79 := By.given_get hg 12 rfl rfl (by kernel_rfl)
    refine By.yes rfl ?_
    obtain ⟨v79, hv79⟩ : ∃ v, a.tmps.getD 79 undef = v := ⟨_, rfl⟩
    replace h79 := (congrArg (fun v => (resM w5.heap.size (Cha.out key (c + BitVec.ofNat 32 k) nonce (l.drop (64 * k))) (Cha.err (c + BitVec.ofNat 32 k) (l.length - 64 * k))).on v w) hv79).mp h79
    clear hs hg
    obtain ⟨x, rfl, hx⟩ := h79
    clear hx
    go_simp
    exact ⟨_, rfl, Grew.refl _, rfl⟩
  · intro a w ht hs hg -- 17
    have h92 := By.given_get hg 13 rfl rfl (by kernel_rfl)
    refine By.yes rfl ?_
    obtain ⟨v92, hv92⟩ : ∃ v, a.tmps.getD 92 undef = v := ⟨_, rfl⟩
    replace h92 := (congrArg (fun v => (fullM w5.heap.size (Cha.out key (c + BitVec.ofNat 32 k) nonce (l.drop (64 * k)))).on v w) hv92).mp h92
    clear hs hg
    have Hx := Lib.hid h92
    clear h92
    go_simp
    exact ⟨_, rfl, Grew.refl _, Hx.out⟩
  · intro a w ht hs hg -- 18
    have h93 : a.tmps.getD 93 undef = _ := By.given_get hg 14 rfl rfl (by kernel_rfl)
    refine By.yes rfl ?_
    clear hs hg
    go_simp
    exact ⟨_, rfl, Grew.refl _, rfl⟩
  refine By.ends_is (By.ends_is (By.ends_is (By.ends_is (By.ends_is (By.ends_is (By.ends_is (By.ends_is (By.ends_is (By.ends_skip fun v89 => (By.ends_skip fun v90 => (By.ends_skip fun v91 => (By.ends_skip fun v79 => (By.ends_skip fun v92 => (By.ends_is (By.ends_any fun v17 => (By.ends_is (By.ends_nil fun w6 hw6 => ?_)))))))))))))))))
  simp only [Act.put, List.setIfInBounds_toArray, List.set_cons_succ, List.set_cons_zero]
  obtain ⟨hg, ho17⟩ := hw6
  have H17 := Lib.hid (show Own w6 w5.heap.size v17 (Cha.out key (c + BitVec.ofNat 32 k) nonce (l.drop (64 * k))) from ho17.1)
  have F17 := Lib.hid (show Full v17 from ho17.2)
  clear ho17
  have hg : Below w5.heap.size w5.drew w6 := hg
  have hb06 : Below w.heap.size w w6 := hb05.drew.trans (hg.mono (by show w.heap.size ≤ w5.heap.size; omega))
  have Hk2 := Lib.hid (HK.out _ hg)
  have Hn2 := Lib.hid (HN.out _ hg)
  have hsw6 : w5.heap.size ≤ w6.heap.size := hg.size
  have H11 := Lib.hid (Own.below (w := w5.drew) H11.out.drew hg (Nat.le_refl _))
  have H13 := Lib.hid (Own.below (w := w5.drew) H13.out.drew hg (Nat.le_refl _))
  have H15 := Lib.hid (Own.below (w := w5.drew) H15.out.drew hg (Nat.le_refl _))
  clear hg HK HN HB
  unfold arr8
  have he16 := Cha.err_zero c (64 * k) (Cha.long_less c l.length (64 * k) hlong hk3)
  rw [he16, show ((0 : Nat) : Int) = 0 from rfl]
  rw [Cha.out_ok _ _ _ _ (by rw [hlt]; exact he16)] at H15
  have hspl := Cha.xor_split key c nonce l k hk3
  rw [HX.out] at hspl
  have hc := c.isLt
  obtain ⟨PP, hPP⟩ : ∃ P, Cha.xor key c nonce (l.take (64 * k)) = P := ⟨_, rfl⟩
  have hPl : PP.length = 64 * k := by rw [← hPP, Cha.xor_length, hlt]
  rw [hPP] at H15 hspl
  clear hPP
  rcases Cha.long_rest c l.length k hlong hk3 with ⟨hck, hl2⟩ | ⟨hck, hkk⟩
  · have he18 := Cha.err_zero _ _ hl2
    rw [he18, show ((0 : Nat) : Int) = 0 from rfl]
    rw [Cha.out_ok _ _ _ _ (by rw [hld]; exact he18)] at H17
    obtain ⟨QQ, hQQ⟩ : ∃ Q, Cha.xor key (c + BitVec.ofNat 32 k) nonce (l.drop (64 * k)) = Q := ⟨_, rfl⟩
    have hQl : QQ.length = l.length - 64 * k := by rw [← hQQ, Cha.xor_length, hld]
    rw [hQQ] at H17 hspl
    clear hQQ
    have hck' : ¬ (4294967295 : Int) < (c.toNat : Int) + (k : Int) := by omega
    go_wp2_with fail
    have hK : ∀ W, Grew w6.drew W → Row W w.heap.size (key.map bv) 55 := fun W hW => Row.below (w := w6.drew) Hk2.out hW (by show _ < w6.heap.size; omega)
    have hN : ∀ W, Grew w6.drew W → Row W (w.heap.size + 1) (nonce.map bv) 56 := fun W hW => Row.below (w := w6.drew) Hn2.out hW (by show _ < w6.heap.size; omega)
    have hB : ∀ W, Grew w6.drew W → Bs W w.heap.size (.slice A l.length cap) l := fun W hW => Bs.below (w := w6.drew) (Bs.drew (Hb.out.below hb06)) (hW.mono (by show w.heap.size ≤ w6.heap.size; omega))
    have HK := Lib.hid hK
    have HN := Lib.hid hN
    have HB := Lib.hid hB
    clear hK hN hB
    refine By.marks mixed Grew [By.is (arr8 key),
      By.is (wv c),
      By.is (arr8 nonce),
      By.is (.slice A l.length cap),
      By.is (.int .i64 (l.length : Int)),
      ownM w6.heap.size (List.replicate l.length (0 : UInt8)),
      resM w6.heap.size (Cha.out key c nonce (List.replicate l.length (0 : UInt8))) (Cha.err c (l.length)),
      resM w6.heap.size (Cha.out key c nonce (List.replicate l.length (0 : UInt8))) (Cha.err c (l.length)),
      fullM w6.heap.size (Cha.out key c nonce (List.replicate l.length (0 : UInt8))),
      By.is (.int .i64 (((Cha.err c (l.length)) : Nat) : Int)),
      fullM w6.heap.size (Cha.out key c nonce (List.replicate l.length (0 : UInt8))),
      By.is (.int .i64 (((Cha.err c (l.length)) : Nat) : Int))]
      (Ev.masks _ []) (by kernel_rfl) rfl Grew.refl Grew.trans ⟨?_, ?_, ?_, ?_, ?_, ?_, ?_, ?_, ?_, ?_, ?_, ?_, trivial⟩ ?_
    · intro a w ht hs hg -- 101
      have h5 := By.same_get hs 5 (by decide) (by kernel_rfl)
      refine By.yes rfl ?_
      clear hs hg
      refine wp_loadRow 55 _ rfl h5 (HK.out w ht) Try.underlying55 rfl (by kernel_rfl) Hkl.out ?_
      exact ⟨_, rfl, Grew.refl _, rfl⟩
    · intro a w ht hs hg -- 102
      have h1 := By.same_get hs 1 (by decide) (by kernel_rfl)
      refine By.yes rfl ?_
      clear hs hg
      go_simp
      exact ⟨_, rfl, Grew.refl _, rfl⟩
    · intro a w ht hs hg -- 103
      have h7 := By.same_get hs 7 (by decide) (by kernel_rfl)
      refine By.yes rfl ?_
      clear hs hg
      refine wp_loadRow 56 _ rfl h7 (HN.out w ht) Try.underlying56 rfl (by kernel_rfl) Hnl.out ?_
      exact ⟨_, rfl, Grew.refl _, rfl⟩
    · intro a w ht hs hg -- 104
      have h3 := By.same_get hs 3 (by decide) (by kernel_rfl)
      refine By.yes rfl ?_
      clear hs hg
      go_simp
      exact ⟨_, rfl, Grew.refl _, rfl⟩
    · intro a w ht hs hg -- 105
      have h104 : a.tmps.getD 104 undef = _ := By.given_get hg 3 rfl rfl (by kernel_rfl)
      refine By.yes rfl ?_
      clear hs hg
      go_simp
      exact ⟨_, rfl, Grew.refl _, rfl⟩
    · intro a w ht hs hg -- 106
      have h105 : a.tmps.getD 105 undef = _ := By.given_get hg 4 rfl rfl (by kernel_rfl)
      refine By.yes rfl ?_
      clear hs hg
      refine wp_make_bytes _ _ rfl l.length h105 h105 (by omega) ?_
      intro v w' ho hb
      exact ⟨_, rfl, hb, ho.less ht.size⟩
    · intro a w ht hs hg -- 107
      have h101 : a.tmps.getD 101 undef = _ := By.given_get hg 0 rfl rfl (by kernel_rfl)
      have h102 : a.tmps.getD 102 undef = _ := By.given_get hg 1 rfl rfl (by kernel_rfl)
      have h103 : a.tmps.getD 103 undef = _ := By.given_get hg 2 rfl rfl (by kernel_rfl)
      have h106 := By.given_get hg 5 rfl rfl (by kernel_rfl)
      refine By.yes rfl ?_
      obtain ⟨v106, hv106⟩ : ∃ v, a.tmps.getD 106 undef = v := ⟨_, rfl⟩
      replace h106 := (congrArg (fun v => (ownM w6.heap.size (List.replicate l.length (0 : UInt8))).on v w) hv106).mp h106
      clear hs hg
      have Hx := Lib.hid h106
      clear h106
      unfold arr8 at h101 h103
      go_simp
      refine (Xor_full key nonce _ _ c Hk.out Hn.out w (Own.bs Hx.out) (by rw [List.length_replicate]; omega)).mono ?_
      rintro e w' ⟨v, rfl, ⟨ho, hf⟩, hb⟩
      rw [List.length_replicate]
      exact ⟨_, rfl, hb, ⟨_, rfl, ho.less ht.size, hf⟩⟩
    · intro a w ht hs hg -- 100
      have h107 := By.given_get hg 6 rfl rfl (by kernel_rfl)
      refine By.yes rfl ?_
      obtain ⟨v107, hv107⟩ : ∃ v, a.tmps.getD 107 undef = v := ⟨_, rfl⟩
      replace h107 := (congrArg (fun v => (resM w6.heap.size (Cha.out key c nonce (List.replicate l.length (0 : UInt8))) (Cha.err c (l.length))).on v w) hv107).mp h107
      clear hs hg
      go_simp
      exact ⟨_, rfl, Grew.refl _, h107⟩
    · intro a w ht hs hg -- 108
      have h100 := By.given_get hg 7 rfl rfl (by kernel_rfl)
      refine By.yes rfl ?_
      obtain ⟨v100, hv100⟩ : ∃ v, a.tmps.getD 100 undef = v := ⟨_, rfl⟩
      replace h100 := (congrArg (fun v => (resM w6.heap.size (Cha.out key c nonce (List.replicate l.length (0 : UInt8))) (Cha.err c (l.length))).on v w) hv100).mp h100
      clear hs hg
      obtain ⟨x, rfl, hx⟩ := h100
      have Hx := Lib.hid hx
      clear hx
      go_simp
      exact ⟨_, rfl, Grew.refl _, Hx.out⟩
    · intro a w ht hs hg -- 109
      have h100 := By.given_get hg 7 rfl rfl (by kernel_rfl)
      refine By.yes rfl ?_
      obtain ⟨v100, hv100⟩ : ∃ v, a.tmps.getD 100 undef = v := ⟨_, rfl⟩
      replace h100 := (congrArg (fun v => (resM w6.heap.size (Cha.out key c nonce (List.replicate l.length (0 : UInt8))) (Cha.err c (l.length))).on v w) hv100).mp h100
      clear hs hg
      obtain ⟨x, rfl, hx⟩ := h100
      clear hx
      go_simp
      exact ⟨_, rfl, Grew.refl _, rfl⟩
    · intro a w ht hs hg -- 19
      have h108 := By.given_get hg 8 rfl rfl (by kernel_rfl)
      refine By.yes rfl ?_
      obtain ⟨v108, hv108⟩ : ∃ v, a.tmps.getD 108 undef = v := ⟨_, rfl⟩
      replace h108 := (congrArg (fun v => (fullM w6.heap.size (Cha.out key c nonce (List.replicate l.length (0 : UInt8)))).on v w) hv108).mp h108
      clear hs hg
      have Hx := Lib.hid h108
      clear h108
      go_simp
      exact ⟨_, rfl, Grew.refl _, Hx.out⟩
    · intro a w ht hs hg -- 20
      have h109 : a.tmps.getD 109 undef = _ := By.given_get hg 9 rfl rfl (by kernel_rfl)
      refine By.yes rfl ?_
      clear hs hg
      go_simp
      exact ⟨_, rfl, Grew.refl _, rfl⟩
    refine By.ends_is (By.ends_is (By.ends_is (By.ends_is (By.ends_is (By.ends_skip fun v106 => (By.ends_skip fun v107 => (By.ends_skip fun v100 => (By.ends_skip fun v108 => (By.ends_is (By.ends_any fun v19 => (By.ends_is (By.ends_nil fun w7 hw7 => ?_))))))))))))
    simp only [Act.put, List.setIfInBounds_toArray, List.set_cons_succ, List.set_cons_zero]
    obtain ⟨hg, ho19⟩ := hw7
    have H19 := Lib.hid (show Own w7 w6.heap.size v19 (Cha.out key c nonce (List.replicate l.length (0 : UInt8))) from ho19.1)
    clear ho19
    have hg : Below w6.heap.size w6.drew w7 := hg
    have hb07 : Below w.heap.size w w7 := hb06.drew.trans (hg.mono (by show w.heap.size ≤ w6.heap.size; omega))
    have Hk2 := Lib.hid (HK.out _ hg)
    have Hn2 := Lib.hid (HN.out _ hg)
    have hsw7 : w6.heap.size ≤ w7.heap.size := hg.size
    have H11 := Lib.hid (Own.below (w := w6.drew) H11.out.drew hg (Nat.le_refl _))
    have H13 := Lib.hid (Own.below (w := w6.drew) H13.out.drew hg (Nat.le_refl _))
    have H15 := Lib.hid (Own.below (w := w6.drew) H15.out.drew hg (Nat.le_refl _))
    have H17 := Lib.hid (Own.below (w := w6.drew) H17.out.drew hg (Nat.le_refl _))
    clear hg HK HN HB
    unfold arr8
    rw [He.out, show ((0 : Nat) : Int) = 0 from rfl]
    rw [Cha.out_ok _ _ _ _ (by rw [List.length_replicate]; exact He.out)] at H19
    obtain ⟨ZZ, hZ⟩ : ∃ Z, Cha.xor key c nonce (List.replicate l.length (0 : UInt8)) = Z := ⟨_, rfl⟩
    have hZl : ZZ.length = l.length := by rw [← hZ, Cha.xor_length, List.length_replicate]
    rw [hZ] at H19
    have HZ := Lib.hid hZ
    clear hZ
    obtain ⟨A19, c19, h19⟩ := H19.out.shape
    rw [hZl] at h19
    subst h19
    go_wp2_with (first
      | (refine wpList_loadRow rfl 55 _ rfl rfl Hk2.out Try.underlying55 rfl (by kernel_rfl) Hkl.out ?_)
      | (refine wpList_loadRow rfl 56 _ rfl rfl Hn2.out Try.underlying56 rfl (by kernel_rfl) Hnl.out ?_)
      | fail)
    refine (Block_any key nonce c Hk.out Hn.out w7).mono ?_
    rintro e w8 ⟨rfl, hb8⟩
    obtain ⟨SS, hSS⟩ : ∃ S, Cha.block key c nonce = S := ⟨_, rfl⟩
    have hSl : SS.length = 64 := by rw [← hSS]; exact Cha.block_length _ _ _
    rw [hSS]
    have HSS := Lib.hid hSS
    have Hsl := Lib.hid (show (SS.map bv).length = 64 by rw [List.length_map]; exact hSl)
    clear hSS
    have hb08 := nextB hb07 (Nat.le_refl _) hb8
    have hs8 : w7.heap.size ≤ w8.heap.size := hb8.size
    unfold arr8
    by_cases hm64 : l.length < 64
    · have hmin : (l.length : Int) < 64 := by omega
      go_wp2_with (first
        | (refine wpList_storeRow rfl 65 _ _ rfl rfl rfl (cs := SS.map bv) (old := (List.replicate 64 (0 : UInt8)).map bv) (Row.new rfl rfl) (by kernel_rfl) Hsl.out (by simp) (bytes_one SS) ?_
           generalize hW9 : World.setRow _ _ _ = W9
           have hS9 : Row W9 w8.heap.size (SS.map bv) 65 := by rw [← hW9]; exact (Row.new (cs := (List.replicate 64 (0 : UInt8)).map bv) rfl rfl).setRow (SS.map bv)
           have hb9 : Below w8.heap.size w8 W9 := by rw [← hW9]; exact below_setRow ((Below.refl _ w8).alloc (Nat.le_refl _) _) (Nat.le_refl _) _
           have hs9 : W9.heap.size = w8.heap.size + 1 := by rw [← hW9]; simp
           have hb09 := nextB hb08 (Nat.le_refl _) hb9
           have HS := Lib.hid hS9
           have H11 := Lib.hid ((H11.out.below hb8 (Nat.le_refl _)).below hb9 (Nat.le_refl _))
           have H13 := Lib.hid ((H13.out.below hb8 (Nat.le_refl _)).below hb9 (Nat.le_refl _))
           have H15 := Lib.hid ((H15.out.below hb8 (Nat.le_refl _)).below hb9 (Nat.le_refl _))
           have H17 := Lib.hid ((H17.out.below hb8 (Nat.le_refl _)).below hb9 (Nat.le_refl _))
           have H19 := Lib.hid ((H19.out.below hb8 (Nat.le_refl _)).below hb9 (Nat.le_refl _))
           clear hW9 hS9 hb9)
        | fail)
      have h13 : ∀ W, Grew W9.drew W → Bs W W.heap.size v13 l := fun W hW => (Own.below (w := W9.drew) H13.out.drew hW (Nat.le_refl _)).bs
      have h11 : ∀ W, Grew W9.drew W → Bs W W.heap.size v11 X := fun W hW => (Own.below (w := W9.drew) H11.out.drew hW (Nat.le_refl _)).bs
      have h15 : ∀ W, Grew W9.drew W → Bs W W.heap.size v15 PP := fun W hW => (Own.below (w := W9.drew) H15.out.drew hW (Nat.le_refl _)).bs
      have h17 : ∀ W, Grew W9.drew W → Bs W W.heap.size (v17) QQ := fun W hW => (Own.below (w := W9.drew) H17.out.drew hW (Nat.le_refl _)).bs
      have h19 : ∀ W, Grew W9.drew W → Bs W W.heap.size (.slice A19 l.length c19) ZZ := fun W hW => (Own.below (w := W9.drew) H19.out.drew hW (Nat.le_refl _)).bs
      have hS : ∀ W, Grew W9.drew W → Bs W W.heap.size (.slice (some ⟨w8.heap.size, 0, none⟩) 64 64) SS := fun W hW => by
        have hr := Row.bs (B := W.heap.size) (Row.below (w := W9.drew) HS.out hW (by show _ < W9.heap.size; omega)) (by have : W9.heap.size ≤ W.heap.size := hW.size; omega)
        rw [hSl] at hr
        exact hr
      have hBB : ∀ W, Grew W9.drew W → Bs W w.heap.size (.slice A l.length cap) l := fun W hW => Bs.below (w := W9.drew) (Bs.drew (Hb.out.below hb09)) (hW.mono (by show w.heap.size ≤ W9.heap.size; omega))
      have G13 := Lib.hid h13
      have G11 := Lib.hid h11
      have G15 := Lib.hid h15
      have G17 := Lib.hid h17
      have G19 := Lib.hid h19
      have GS := Lib.hid hS
      have GB := Lib.hid hBB
      have hc19 : l.length ≤ c19 := by
        obtain ⟨_, _, q, kk, _⟩ := h19 W9.drew (Grew.refl _)
        simp only [Value.slice.injEq] at q
        omega
      have hn0 : (0 : Int) ≤ ((l.length : Nat) : Int) := by omega
      have hn1 : ((l.length : Nat) : Int) ≤ (c19 : Int) := by omega
      have hn2 : ((l.length : Nat) : Int) ≤ (l.length : Int) := by omega
      have hn3 : ((l.length : Nat) : Int) ≤ 64 := by omega
      have hnl : l.length ≤ l.length := by omega
      have hns : l.length ≤ 64 := by omega
      have hzs : ZZ.take (l.length) = SS.take (l.length) := by rw [← HZ.out, ← HSS.out]; exact Cha.xor_first key c nonce l.length (l.length) (by omega) (by omega)
      have HZS := Lib.hid hzs
      clear h13 h11 h15 h17 h19 hS hBB hzs
      refine By.marks mixed Grew [By.is (.int .i64 0),
        By.is (.bool true),
        By.is (.bool true),
        By.is v13,
        By.is (strOf l),
        By.is (.slice A l.length cap),
        By.is (strOf l),
        By.is (.bool true),
        By.is (.bool true),
        By.is (.bool true),
        By.is (.int .i64 0),
        By.is (.bool true),
        By.is (.bool true),
        By.is (.bool true),
        By.is (.int .i64 0),
        By.is (.bool true),
        By.is (.bool true),
        By.is (.bool true),
        By.is v15,
        By.is (v17),
        bsM X,
        By.is (strOf X),
        By.is v11,
        By.is (strOf X),
        By.is (.bool true),
        By.is (.bool true),
        By.is (.bool true),
        By.is (.int .i64 0),
        By.is (.bool true),
        By.is (.bool true),
        By.is (.bool true),
        By.is (.slice A19 l.length c19),
        By.is (.int .i64 ((l.length : Nat) : Int)),
        By.is (.slice A19 (l.length) c19),
        By.is (strOf (ZZ.take (l.length))),
        By.is (.int .i64 ((l.length : Nat) : Int)),
        By.is (.slice (some ⟨w8.heap.size, 0, none⟩) (l.length) 64),
        By.is (strOf (SS.take (l.length))),
        By.is (.bool true),
        By.is (.bool true),
        By.is (.bool true)]
        (Ev.masks _ []) (by kernel_rfl) rfl Grew.refl Grew.trans ⟨?_, ?_, ?_, ?_, ?_, ?_, ?_, ?_, ?_, ?_, ?_, ?_, ?_, ?_, ?_, ?_, ?_, ?_, ?_, ?_, ?_, ?_, ?_, ?_, ?_, ?_, ?_, ?_, ?_, ?_, ?_, ?_, ?_, ?_, ?_, ?_, ?_, ?_, ?_, ?_, ?_, trivial⟩ ?_
      · intro a w ht hs hg -- 117
        have h12 := By.same_get hs 12 (by decide) (by kernel_rfl)
        refine By.yes rfl ?_
        clear hs hg
        go_simp
        exact ⟨_, rfl, Grew.refl _, rfl⟩
      · intro a w ht hs hg -- 118
        have h117 : a.tmps.getD 117 undef = _ := By.given_get hg 0 rfl rfl (by kernel_rfl)
        refine By.yes rfl ?_
        clear hs hg
        go_simp
        exact ⟨_, rfl, Grew.refl _, rfl⟩
      · intro a w ht hs hg -- 119
        have h118 : a.tmps.getD 118 undef = _ := By.given_get hg 1 rfl rfl (by kernel_rfl)
        refine By.yes rfl ?_
        clear hs hg
        go_simp
        exact ⟨_, rfl, Grew.refl _, rfl⟩
      · intro a w ht hs hg -- 120
        have h13 := By.same_get hs 13 (by decide) (by kernel_rfl)
        have hg119 := By.given_get hg 2 rfl rfl (by kernel_rfl)
        refine By.yes (By.want_yes rfl rfl hg119) ?_
        clear hg119
        clear hs hg
        go_simp
        exact ⟨_, rfl, Grew.refl _, rfl⟩
      · intro a w ht hs hg -- 121
        have h120 : a.tmps.getD 120 undef = _ := By.given_get hg 3 rfl rfl (by kernel_rfl)
        have hg119 := By.given_get hg 2 rfl rfl (by kernel_rfl)
        refine By.yes (By.want_yes rfl rfl hg119) ?_
        clear hg119
        clear hs hg
        have hr := run_str w (G13.out w ht)
        go_simp
        exact ⟨_, rfl, Grew.refl _, rfl⟩
      · intro a w ht hs hg -- 122
        have h3 := By.same_get hs 3 (by decide) (by kernel_rfl)
        have hg119 := By.given_get hg 2 rfl rfl (by kernel_rfl)
        refine By.yes (By.want_yes rfl rfl hg119) ?_
        clear hg119
        clear hs hg
        go_simp
        exact ⟨_, rfl, Grew.refl _, rfl⟩
      · intro a w ht hs hg -- 123
        have h122 : a.tmps.getD 122 undef = _ := By.given_get hg 5 rfl rfl (by kernel_rfl)
        have hg119 := By.given_get hg 2 rfl rfl (by kernel_rfl)
        refine By.yes (By.want_yes rfl rfl hg119) ?_
        clear hg119
        clear hs hg
        have hr := run_str w (GB.out w ht)
        go_simp
        exact ⟨_, rfl, Grew.refl _, rfl⟩
      · intro a w ht hs hg -- 124
        have h121 : a.tmps.getD 121 undef = _ := By.given_get hg 4 rfl rfl (by kernel_rfl)
        have h123 : a.tmps.getD 123 undef = _ := By.given_get hg 6 rfl rfl (by kernel_rfl)
        have hg119 := By.given_get hg 2 rfl rfl (by kernel_rfl)
        refine By.yes (By.want_yes rfl rfl hg119) ?_
        clear hg119
        clear hs hg
        go_simp
        exact ⟨_, rfl, Grew.refl _, congrArg Value.bool (by simp)⟩
      · intro a w ht hs hg -- 125
        have h119 : a.tmps.getD 119 undef = _ := By.given_get hg 2 rfl rfl (by kernel_rfl)
        have h124 : a.tmps.getD 124 undef = _ := By.given_get hg 7 rfl rfl (by kernel_rfl)
        refine By.yes rfl ?_
        clear hs hg
        go_simp
        exact ⟨_, rfl, Grew.refl _, rfl⟩
      · intro a w ht hs hg -- 126
        have h125 : a.tmps.getD 125 undef = _ := By.given_get hg 8 rfl rfl (by kernel_rfl)
        refine By.yes rfl ?_
        clear hs hg
        go_simp
        exact ⟨_, rfl, Grew.refl _, rfl⟩
      · intro a w ht hs hg -- 127
        have h16 := By.same_get hs 16 (by decide) (by kernel_rfl)
        have hg126 := By.given_get hg 9 rfl rfl (by kernel_rfl)
        refine By.yes (By.want_yes rfl rfl hg126) ?_
        clear hg126
        clear hs hg
        go_simp
        exact ⟨_, rfl, Grew.refl _, rfl⟩
      · intro a w ht hs hg -- 128
        have h127 : a.tmps.getD 127 undef = _ := By.given_get hg 10 rfl rfl (by kernel_rfl)
        have hg126 := By.given_get hg 9 rfl rfl (by kernel_rfl)
        refine By.yes (By.want_yes rfl rfl hg126) ?_
        clear hg126
        clear hs hg
        go_simp
        exact ⟨_, rfl, Grew.refl _, rfl⟩
      · intro a w ht hs hg -- 129
        have h126 : a.tmps.getD 126 undef = _ := By.given_get hg 9 rfl rfl (by kernel_rfl)
        have h128 : a.tmps.getD 128 undef = _ := By.given_get hg 11 rfl rfl (by kernel_rfl)
        refine By.yes rfl ?_
        clear hs hg
        go_simp
        exact ⟨_, rfl, Grew.refl _, rfl⟩
      · intro a w ht hs hg -- 130
        have h129 : a.tmps.getD 129 undef = _ := By.given_get hg 12 rfl rfl (by kernel_rfl)
        refine By.yes rfl ?_
        clear hs hg
        go_simp
        exact ⟨_, rfl, Grew.refl _, rfl⟩
      · intro a w ht hs hg -- 131
        have h18 := By.same_get hs 18 (by decide) (by kernel_rfl)
        have hg130 := By.given_get hg 13 rfl rfl (by kernel_rfl)
        refine By.yes (By.want_yes rfl rfl hg130) ?_
        clear hg130
        clear hs hg
        go_simp
        exact ⟨_, rfl, Grew.refl _, rfl⟩
      · intro a w ht hs hg -- 132
        have h131 : a.tmps.getD 131 undef = _ := By.given_get hg 14 rfl rfl (by kernel_rfl)
        have hg130 := By.given_get hg 13 rfl rfl (by kernel_rfl)
        refine By.yes (By.want_yes rfl rfl hg130) ?_
        clear hg130
        clear hs hg
        go_simp
        exact ⟨_, rfl, Grew.refl _, rfl⟩
      · intro a w ht hs hg -- 133
        have h130 : a.tmps.getD 130 undef = _ := By.given_get hg 13 rfl rfl (by kernel_rfl)
        have h132 : a.tmps.getD 132 undef = _ := By.given_get hg 15 rfl rfl (by kernel_rfl)
        refine By.yes rfl ?_
        clear hs hg
        go_simp
        exact ⟨_, rfl, Grew.refl _, rfl⟩
      · intro a w ht hs hg -- 134
        have h133 : a.tmps.getD 133 undef = _ := By.given_get hg 16 rfl rfl (by kernel_rfl)
        refine By.yes rfl ?_
        clear hs hg
        go_simp
        exact ⟨_, rfl, Grew.refl _, rfl⟩
      · intro a w ht hs hg -- 135
        have h15 := By.same_get hs 15 (by decide) (by kernel_rfl)
        have hg134 := By.given_get hg 17 rfl rfl (by kernel_rfl)
        refine By.yes (By.want_yes rfl rfl hg134) ?_
        clear hg134
        clear hs hg
        go_simp
        exact ⟨_, rfl, Grew.refl _, rfl⟩
      · intro a w ht hs hg -- 136
        have h17 := By.same_get hs 17 (by decide) (by kernel_rfl)
        have hg134 := By.given_get hg 17 rfl rfl (by kernel_rfl)
        refine By.yes (By.want_yes rfl rfl hg134) ?_
        clear hg134
        clear hs hg
        go_simp
        exact ⟨_, rfl, Grew.refl _, rfl⟩
      · intro a w ht hs hg -- 137
        have h135 : a.tmps.getD 135 undef = _ := By.given_get hg 18 rfl rfl (by kernel_rfl)
        have h136 : a.tmps.getD 136 undef = _ := By.given_get hg 19 rfl rfl (by kernel_rfl)
        have hg134 := By.given_get hg 17 rfl rfl (by kernel_rfl)
        refine By.yes (By.want_yes rfl rfl hg134) ?_
        clear hg134
        clear hs hg
        refine wp_app_full _ _ rfl h135 (G15.out w ht) F15.out h136 (G17.out w ht) (by omega) (Nat.le_refl _) ?_
        intro v' w' hbs hb
        rw [hspl] at hbs
        exact ⟨_, rfl, hb, hbs⟩
      · intro a w ht hs hg -- 138
        have h137 := By.given_get hg 20 rfl rfl (by kernel_rfl)
        have hg134 := By.given_get hg 17 rfl rfl (by kernel_rfl)
        refine By.yes (By.want_yes rfl rfl hg134) ?_
        clear hg134
        obtain ⟨v137, hv137⟩ : ∃ v, a.tmps.getD 137 undef = v := ⟨_, rfl⟩
        replace h137 := (congrArg (fun v => (bsM X).on v w) hv137).mp h137
        clear hs hg
        have hr := run_str w (h137)
        go_simp
        exact ⟨_, rfl, Grew.refl _, rfl⟩
      · intro a w ht hs hg -- 139
        have h11 := By.same_get hs 11 (by decide) (by kernel_rfl)
        have hg134 := By.given_get hg 17 rfl rfl (by kernel_rfl)
        refine By.yes (By.want_yes rfl rfl hg134) ?_
        clear hg134
        clear hs hg
        go_simp
        exact ⟨_, rfl, Grew.refl _, rfl⟩
      · intro a w ht hs hg -- 140
        have h139 : a.tmps.getD 139 undef = _ := By.given_get hg 22 rfl rfl (by kernel_rfl)
        have hg134 := By.given_get hg 17 rfl rfl (by kernel_rfl)
        refine By.yes (By.want_yes rfl rfl hg134) ?_
        clear hg134
        clear hs hg
        have hr := run_str w (G11.out w ht)
        go_simp
        exact ⟨_, rfl, Grew.refl _, rfl⟩
      · intro a w ht hs hg -- 141
        have h138 : a.tmps.getD 138 undef = _ := By.given_get hg 21 rfl rfl (by kernel_rfl)
        have h140 : a.tmps.getD 140 undef = _ := By.given_get hg 23 rfl rfl (by kernel_rfl)
        have hg134 := By.given_get hg 17 rfl rfl (by kernel_rfl)
        refine By.yes (By.want_yes rfl rfl hg134) ?_
        clear hg134
        clear hs hg
        go_simp
        exact ⟨_, rfl, Grew.refl _, congrArg Value.bool (by simp)⟩
      · intro a w ht hs hg -- 142
        have h134 : a.tmps.getD 134 undef = _ := By.given_get hg 17 rfl rfl (by kernel_rfl)
        have h141 : a.tmps.getD 141 undef = _ := By.given_get hg 24 rfl rfl (by kernel_rfl)
        refine By.yes rfl ?_
        clear hs hg
        go_simp
        exact ⟨_, rfl, Grew.refl _, rfl⟩
      · intro a w ht hs hg -- 143
        have h142 : a.tmps.getD 142 undef = _ := By.given_get hg 25 rfl rfl (by kernel_rfl)
        refine By.yes rfl ?_
        clear hs hg
        go_simp
        exact ⟨_, rfl, Grew.refl _, rfl⟩
      · intro a w ht hs hg -- 144
        have h20 := By.same_get hs 20 (by decide) (by kernel_rfl)
        have hg143 := By.given_get hg 26 rfl rfl (by kernel_rfl)
        refine By.yes (By.want_yes rfl rfl hg143) ?_
        clear hg143
        clear hs hg
        go_simp
        exact ⟨_, rfl, Grew.refl _, rfl⟩
      · intro a w ht hs hg -- 145
        have h144 : a.tmps.getD 144 undef = _ := By.given_get hg 27 rfl rfl (by kernel_rfl)
        have hg143 := By.given_get hg 26 rfl rfl (by kernel_rfl)
        refine By.yes (By.want_yes rfl rfl hg143) ?_
        clear hg143
        clear hs hg
        go_simp
        exact ⟨_, rfl, Grew.refl _, rfl⟩
      · intro a w ht hs hg -- 146
        have h143 : a.tmps.getD 143 undef = _ := By.given_get hg 26 rfl rfl (by kernel_rfl)
        have h145 : a.tmps.getD 145 undef = _ := By.given_get hg 28 rfl rfl (by kernel_rfl)
        refine By.yes rfl ?_
        clear hs hg
        go_simp
        exact ⟨_, rfl, Grew.refl _, rfl⟩
      · intro a w ht hs hg -- 147
        have h146 : a.tmps.getD 146 undef = _ := By.given_get hg 29 rfl rfl (by kernel_rfl)
        refine By.yes rfl ?_
        clear hs hg
        go_simp
        exact ⟨_, rfl, Grew.refl _, rfl⟩
      · intro a w ht hs hg -- 148
        have h19 := By.same_get hs 19 (by decide) (by kernel_rfl)
        have hg147 := By.given_get hg 30 rfl rfl (by kernel_rfl)
        refine By.yes (By.want_yes rfl rfl hg147) ?_
        clear hg147
        clear hs hg
        go_simp
        exact ⟨_, rfl, Grew.refl _, rfl⟩
      · intro a w ht hs hg -- 149
        have h22 := By.same_get hs 22 (by decide) (by kernel_rfl)
        have hg147 := By.given_get hg 30 rfl rfl (by kernel_rfl)
        refine By.yes (By.want_yes rfl rfl hg147) ?_
        clear hg147
        clear hs hg
        go_simp
        exact ⟨_, rfl, Grew.refl _, rfl⟩
      · intro a w ht hs hg -- 150
        have h148 : a.tmps.getD 148 undef = _ := By.given_get hg 31 rfl rfl (by kernel_rfl)
        have h149 : a.tmps.getD 149 undef = _ := By.given_get hg 32 rfl rfl (by kernel_rfl)
        have hg147 := By.given_get hg 30 rfl rfl (by kernel_rfl)
        refine By.yes (By.want_yes rfl rfl hg147) ?_
        clear hg147
        clear hs hg
        go_simp
        exact ⟨_, rfl, Grew.refl _, rfl⟩
      · intro a w ht hs hg -- 151
        have h150 : a.tmps.getD 150 undef = _ := By.given_get hg 33 rfl rfl (by kernel_rfl)
        have hg147 := By.given_get hg 30 rfl rfl (by kernel_rfl)
        refine By.yes (By.want_yes rfl rfl hg147) ?_
        clear hg147
        clear hs hg
        have hr := run_str w ((G19.out w ht).take hZl.symm (Nat.le_trans hnl (Nat.le_of_eq hZl.symm)))
        go_simp
        exact ⟨_, rfl, Grew.refl _, rfl⟩
      · intro a w ht hs hg -- 152
        have h22 := By.same_get hs 22 (by decide) (by kernel_rfl)
        have hg147 := By.given_get hg 30 rfl rfl (by kernel_rfl)
        refine By.yes (By.want_yes rfl rfl hg147) ?_
        clear hg147
        clear hs hg
        go_simp
        exact ⟨_, rfl, Grew.refl _, rfl⟩
      · intro a w ht hs hg -- 153
        have h21 := By.same_get hs 21 (by decide) (by kernel_rfl)
        have h152 : a.tmps.getD 152 undef = _ := By.given_get hg 35 rfl rfl (by kernel_rfl)
        have hg147 := By.given_get hg 30 rfl rfl (by kernel_rfl)
        refine By.yes (By.want_yes rfl rfl hg147) ?_
        clear hg147
        clear hs hg
        go_simp
        exact ⟨_, rfl, Grew.refl _, rfl⟩
      · intro a w ht hs hg -- 154
        have h153 : a.tmps.getD 153 undef = _ := By.given_get hg 36 rfl rfl (by kernel_rfl)
        have hg147 := By.given_get hg 30 rfl rfl (by kernel_rfl)
        refine By.yes (By.want_yes rfl rfl hg147) ?_
        clear hg147
        clear hs hg
        have hr := run_str w ((GS.out w ht).take hSl.symm (Nat.le_trans hns (Nat.le_of_eq hSl.symm)))
        go_simp
        exact ⟨_, rfl, Grew.refl _, rfl⟩
      · intro a w ht hs hg -- 155
        have h151 : a.tmps.getD 151 undef = _ := By.given_get hg 34 rfl rfl (by kernel_rfl)
        have h154 : a.tmps.getD 154 undef = _ := By.given_get hg 37 rfl rfl (by kernel_rfl)
        have hg147 := By.given_get hg 30 rfl rfl (by kernel_rfl)
        refine By.yes (By.want_yes rfl rfl hg147) ?_
        clear hg147
        clear hs hg
        rw [HZS.out] at h151
        go_simp
        exact ⟨_, rfl, Grew.refl _, congrArg Value.bool (by simp)⟩
      · intro a w ht hs hg -- 156
        have h147 : a.tmps.getD 147 undef = _ := By.given_get hg 30 rfl rfl (by kernel_rfl)
        have h155 : a.tmps.getD 155 undef = _ := By.given_get hg 38 rfl rfl (by kernel_rfl)
        refine By.yes rfl ?_
        clear hs hg
        go_simp
        exact ⟨_, rfl, Grew.refl _, rfl⟩
      · intro a w ht hs hg -- 10
        have h156 : a.tmps.getD 156 undef = _ := By.given_get hg 39 rfl rfl (by kernel_rfl)
        refine By.yes rfl ?_
        clear hs hg
        go_simp
        exact ⟨_, rfl, Grew.refl _, rfl⟩
      refine By.ends_is (By.ends_is (By.ends_is (By.ends_is (By.ends_is (By.ends_is (By.ends_is (By.ends_is (By.ends_is (By.ends_is (By.ends_is (By.ends_is (By.ends_is (By.ends_is (By.ends_is (By.ends_is (By.ends_is (By.ends_is (By.ends_is (By.ends_is (By.ends_skip fun v137 => (By.ends_is (By.ends_is (By.ends_is (By.ends_is (By.ends_is (By.ends_is (By.ends_is (By.ends_is (By.ends_is (By.ends_is (By.ends_is (By.ends_is (By.ends_is (By.ends_is (By.ends_is (By.ends_is (By.ends_is (By.ends_is (By.ends_is (By.ends_is (By.ends_nil fun w10 hw10 => ?_)))))))))))))))))))))))))))))))))))))))))
      simp only [Act.put, List.setIfInBounds_toArray, List.set_cons_succ, List.set_cons_zero]
      have hg10 : Below W9.heap.size W9.drew w10 := hw10
      have hb010 : Below w.heap.size w w10 := hb09.drew.trans (hg10.mono (by show w.heap.size ≤ W9.heap.size; omega))
      go_wp2
      go_ret
      exact ⟨rfl, hb010⟩

    · have hmin : ¬ (l.length : Int) < 64 := by omega
      go_wp2_with (first
        | (refine wpList_storeRow rfl 65 _ _ rfl rfl rfl (cs := SS.map bv) (old := (List.replicate 64 (0 : UInt8)).map bv) (Row.new rfl rfl) (by kernel_rfl) Hsl.out (by simp) (bytes_one SS) ?_
           generalize hW9 : World.setRow _ _ _ = W9
           have hS9 : Row W9 w8.heap.size (SS.map bv) 65 := by rw [← hW9]; exact (Row.new (cs := (List.replicate 64 (0 : UInt8)).map bv) rfl rfl).setRow (SS.map bv)
           have hb9 : Below w8.heap.size w8 W9 := by rw [← hW9]; exact below_setRow ((Below.refl _ w8).alloc (Nat.le_refl _) _) (Nat.le_refl _) _
           have hs9 : W9.heap.size = w8.heap.size + 1 := by rw [← hW9]; simp
           have hb09 := nextB hb08 (Nat.le_refl _) hb9
           have HS := Lib.hid hS9
           have H11 := Lib.hid ((H11.out.below hb8 (Nat.le_refl _)).below hb9 (Nat.le_refl _))
           have H13 := Lib.hid ((H13.out.below hb8 (Nat.le_refl _)).below hb9 (Nat.le_refl _))
           have H15 := Lib.hid ((H15.out.below hb8 (Nat.le_refl _)).below hb9 (Nat.le_refl _))
           have H17 := Lib.hid ((H17.out.below hb8 (Nat.le_refl _)).below hb9 (Nat.le_refl _))
           have H19 := Lib.hid ((H19.out.below hb8 (Nat.le_refl _)).below hb9 (Nat.le_refl _))
           clear hW9 hS9 hb9)
        | fail)
      have h13 : ∀ W, Grew W9.drew W → Bs W W.heap.size v13 l := fun W hW => (Own.below (w := W9.drew) H13.out.drew hW (Nat.le_refl _)).bs
      have h11 : ∀ W, Grew W9.drew W → Bs W W.heap.size v11 X := fun W hW => (Own.below (w := W9.drew) H11.out.drew hW (Nat.le_refl _)).bs
      have h15 : ∀ W, Grew W9.drew W → Bs W W.heap.size v15 PP := fun W hW => (Own.below (w := W9.drew) H15.out.drew hW (Nat.le_refl _)).bs
      have h17 : ∀ W, Grew W9.drew W → Bs W W.heap.size (v17) QQ := fun W hW => (Own.below (w := W9.drew) H17.out.drew hW (Nat.le_refl _)).bs
      have h19 : ∀ W, Grew W9.drew W → Bs W W.heap.size (.slice A19 l.length c19) ZZ := fun W hW => (Own.below (w := W9.drew) H19.out.drew hW (Nat.le_refl _)).bs
      have hS : ∀ W, Grew W9.drew W → Bs W W.heap.size (.slice (some ⟨w8.heap.size, 0, none⟩) 64 64) SS := fun W hW => by
        have hr := Row.bs (B := W.heap.size) (Row.below (w := W9.drew) HS.out hW (by show _ < W9.heap.size; omega)) (by have : W9.heap.size ≤ W.heap.size := hW.size; omega)
        rw [hSl] at hr
        exact hr
      have hBB : ∀ W, Grew W9.drew W → Bs W w.heap.size (.slice A l.length cap) l := fun W hW => Bs.below (w := W9.drew) (Bs.drew (Hb.out.below hb09)) (hW.mono (by show w.heap.size ≤ W9.heap.size; omega))
      have G13 := Lib.hid h13
      have G11 := Lib.hid h11
      have G15 := Lib.hid h15
      have G17 := Lib.hid h17
      have G19 := Lib.hid h19
      have GS := Lib.hid hS
      have GB := Lib.hid hBB
      have hc19 : l.length ≤ c19 := by
        obtain ⟨_, _, q, kk, _⟩ := h19 W9.drew (Grew.refl _)
        simp only [Value.slice.injEq] at q
        omega
      have hn0 : (0 : Int) ≤ ((64 : Nat) : Int) := by omega
      have hn1 : ((64 : Nat) : Int) ≤ (c19 : Int) := by omega
      have hn2 : ((64 : Nat) : Int) ≤ (l.length : Int) := by omega
      have hn3 : ((64 : Nat) : Int) ≤ 64 := by omega
      have hnl : 64 ≤ l.length := by omega
      have hn64 : (64 : Int) ≤ (c19 : Int) := by omega
      clear hn0 hn1 hn2 hn3
      have hns : 64 ≤ 64 := by omega
      have hzs : ZZ.take (64) = SS.take (64) := by rw [← HZ.out, ← HSS.out]; exact Cha.xor_first key c nonce l.length (64) (by omega) (by omega)
      have HZS := Lib.hid hzs
      clear h13 h11 h15 h17 h19 hS hBB hzs
      refine By.marks mixed Grew [By.is (.int .i64 0),
        By.is (.bool true),
        By.is (.bool true),
        By.is v13,
        By.is (strOf l),
        By.is (.slice A l.length cap),
        By.is (strOf l),
        By.is (.bool true),
        By.is (.bool true),
        By.is (.bool true),
        By.is (.int .i64 0),
        By.is (.bool true),
        By.is (.bool true),
        By.is (.bool true),
        By.is (.int .i64 0),
        By.is (.bool true),
        By.is (.bool true),
        By.is (.bool true),
        By.is v15,
        By.is (v17),
        bsM X,
        By.is (strOf X),
        By.is v11,
        By.is (strOf X),
        By.is (.bool true),
        By.is (.bool true),
        By.is (.bool true),
        By.is (.int .i64 0),
        By.is (.bool true),
        By.is (.bool true),
        By.is (.bool true),
        By.is (.slice A19 l.length c19),
        By.is (.int .i64 64),
        By.is (.slice A19 (64) c19),
        By.is (strOf (ZZ.take (64))),
        By.is (.int .i64 64),
        By.is (.slice (some ⟨w8.heap.size, 0, none⟩) (64) 64),
        By.is (strOf (SS.take (64))),
        By.is (.bool true),
        By.is (.bool true),
        By.is (.bool true)]
        (Ev.masks _ []) (by kernel_rfl) rfl Grew.refl Grew.trans ⟨?_, ?_, ?_, ?_, ?_, ?_, ?_, ?_, ?_, ?_, ?_, ?_, ?_, ?_, ?_, ?_, ?_, ?_, ?_, ?_, ?_, ?_, ?_, ?_, ?_, ?_, ?_, ?_, ?_, ?_, ?_, ?_, ?_, ?_, ?_, ?_, ?_, ?_, ?_, ?_, ?_, trivial⟩ ?_
      · intro a w ht hs hg -- 117
        have h12 := By.same_get hs 12 (by decide) (by kernel_rfl)
        refine By.yes rfl ?_
        clear hs hg
        go_simp
        exact ⟨_, rfl, Grew.refl _, rfl⟩
      · intro a w ht hs hg -- 118
        have h117 : a.tmps.getD 117 undef = _ := By.given_get hg 0 rfl rfl (by kernel_rfl)
        refine By.yes rfl ?_
        clear hs hg
        go_simp
        exact ⟨_, rfl, Grew.refl _, rfl⟩
      · intro a w ht hs hg -- 119
        have h118 : a.tmps.getD 118 undef = _ := By.given_get hg 1 rfl rfl (by kernel_rfl)
        refine By.yes rfl ?_
        clear hs hg
        go_simp
        exact ⟨_, rfl, Grew.refl _, rfl⟩
      · intro a w ht hs hg -- 120
        have h13 := By.same_get hs 13 (by decide) (by kernel_rfl)
        have hg119 := By.given_get hg 2 rfl rfl (by kernel_rfl)
        refine By.yes (By.want_yes rfl rfl hg119) ?_
        clear hg119
        clear hs hg
        go_simp
        exact ⟨_, rfl, Grew.refl _, rfl⟩
      · intro a w ht hs hg -- 121
        have h120 : a.tmps.getD 120 undef = _ := By.given_get hg 3 rfl rfl (by kernel_rfl)
        have hg119 := By.given_get hg 2 rfl rfl (by kernel_rfl)
        refine By.yes (By.want_yes rfl rfl hg119) ?_
        clear hg119
        clear hs hg
        have hr := run_str w (G13.out w ht)
        go_simp
        exact ⟨_, rfl, Grew.refl _, rfl⟩
      · intro a w ht hs hg -- 122
        have h3 := By.same_get hs 3 (by decide) (by kernel_rfl)
        have hg119 := By.given_get hg 2 rfl rfl (by kernel_rfl)
        refine By.yes (By.want_yes rfl rfl hg119) ?_
        clear hg119
        clear hs hg
        go_simp
        exact ⟨_, rfl, Grew.refl _, rfl⟩
      · intro a w ht hs hg -- 123
        have h122 : a.tmps.getD 122 undef = _ := By.given_get hg 5 rfl rfl (by kernel_rfl)
        have hg119 := By.given_get hg 2 rfl rfl (by kernel_rfl)
        refine By.yes (By.want_yes rfl rfl hg119) ?_
        clear hg119
        clear hs hg
        have hr := run_str w (GB.out w ht)
        go_simp
        exact ⟨_, rfl, Grew.refl _, rfl⟩
      · intro a w ht hs hg -- 124
        have h121 : a.tmps.getD 121 undef = _ := By.given_get hg 4 rfl rfl (by kernel_rfl)
        have h123 : a.tmps.getD 123 undef = _ := By.given_get hg 6 rfl rfl (by kernel_rfl)
        have hg119 := By.given_get hg 2 rfl rfl (by kernel_rfl)
        refine By.yes (By.want_yes rfl rfl hg119) ?_
        clear hg119
        clear hs hg
        go_simp
        exact ⟨_, rfl, Grew.refl _, congrArg Value.bool (by simp)⟩
      · intro a w ht hs hg -- 125
        have h119 : a.tmps.getD 119 undef = _ := By.given_get hg 2 rfl rfl (by kernel_rfl)
        have h124 : a.tmps.getD 124 undef = _ := By.given_get hg 7 rfl rfl (by kernel_rfl)
        refine By.yes rfl ?_
        clear hs hg
        go_simp
        exact ⟨_, rfl, Grew.refl _, rfl⟩
      · intro a w ht hs hg -- 126
        have h125 : a.tmps.getD 125 undef = _ := By.given_get hg 8 rfl rfl (by kernel_rfl)
        refine By.yes rfl ?_
        clear hs hg
        go_simp
        exact ⟨_, rfl, Grew.refl _, rfl⟩
      · intro a w ht hs hg -- 127
        have h16 := By.same_get hs 16 (by decide) (by kernel_rfl)
        have hg126 := By.given_get hg 9 rfl rfl (by kernel_rfl)
        refine By.yes (By.want_yes rfl rfl hg126) ?_
        clear hg126
        clear hs hg
        go_simp
        exact ⟨_, rfl, Grew.refl _, rfl⟩
      · intro a w ht hs hg -- 128
        have h127 : a.tmps.getD 127 undef = _ := By.given_get hg 10 rfl rfl (by kernel_rfl)
        have hg126 := By.given_get hg 9 rfl rfl (by kernel_rfl)
        refine By.yes (By.want_yes rfl rfl hg126) ?_
        clear hg126
        clear hs hg
        go_simp
        exact ⟨_, rfl, Grew.refl _, rfl⟩
      · intro a w ht hs hg -- 129
        have h126 : a.tmps.getD 126 undef = _ := By.given_get hg 9 rfl rfl (by kernel_rfl)
        have h128 : a.tmps.getD 128 undef = _ := By.given_get hg 11 rfl rfl (by kernel_rfl)
        refine By.yes rfl ?_
        clear hs hg
        go_simp
        exact ⟨_, rfl, Grew.refl _, rfl⟩
      · intro a w ht hs hg -- 130
        have h129 : a.tmps.getD 129 undef = _ := By.given_get hg 12 rfl rfl (by kernel_rfl)
        refine By.yes rfl ?_
        clear hs hg
        go_simp
        exact ⟨_, rfl, Grew.refl _, rfl⟩
      · intro a w ht hs hg -- 131
        have h18 := By.same_get hs 18 (by decide) (by kernel_rfl)
        have hg130 := By.given_get hg 13 rfl rfl (by kernel_rfl)
        refine By.yes (By.want_yes rfl rfl hg130) ?_
        clear hg130
        clear hs hg
        go_simp
        exact ⟨_, rfl, Grew.refl _, rfl⟩
      · intro a w ht hs hg -- 132
        have h131 : a.tmps.getD 131 undef = _ := By.given_get hg 14 rfl rfl (by kernel_rfl)
        have hg130 := By.given_get hg 13 rfl rfl (by kernel_rfl)
        refine By.yes (By.want_yes rfl rfl hg130) ?_
        clear hg130
        clear hs hg
        go_simp
        exact ⟨_, rfl, Grew.refl _, rfl⟩
      · intro a w ht hs hg -- 133
        have h130 : a.tmps.getD 130 undef = _ := By.given_get hg 13 rfl rfl (by kernel_rfl)
        have h132 : a.tmps.getD 132 undef = _ := By.given_get hg 15 rfl rfl (by kernel_rfl)
        refine By.yes rfl ?_
        clear hs hg
        go_simp
        exact ⟨_, rfl, Grew.refl _, rfl⟩
      · intro a w ht hs hg -- 134
        have h133 : a.tmps.getD 133 undef = _ := By.given_get hg 16 rfl rfl (by kernel_rfl)
        refine By.yes rfl ?_
        clear hs hg
        go_simp
        exact ⟨_, rfl, Grew.refl _, rfl⟩
      · intro a w ht hs hg -- 135
        have h15 := By.same_get hs 15 (by decide) (by kernel_rfl)
        have hg134 := By.given_get hg 17 rfl rfl (by kernel_rfl)
        refine By.yes (By.want_yes rfl rfl hg134) ?_
        clear hg134
        clear hs hg
        go_simp
        exact ⟨_, rfl, Grew.refl _, rfl⟩
      · intro a w ht hs hg -- 136
        have h17 := By.same_get hs 17 (by decide) (by kernel_rfl)
        have hg134 := By.given_get hg 17 rfl rfl (by kernel_rfl)
        refine By.yes (By.want_yes rfl rfl hg134) ?_
        clear hg134
        clear hs hg
        go_simp
        exact ⟨_, rfl, Grew.refl _, rfl⟩
      · intro a w ht hs hg -- 137
        have h135 : a.tmps.getD 135 undef = _ := By.given_get hg 18 rfl rfl (by kernel_rfl)
        have h136 : a.tmps.getD 136 undef = _ := By.given_get hg 19 rfl rfl (by kernel_rfl)
        have hg134 := By.given_get hg 17 rfl rfl (by kernel_rfl)
        refine By.yes (By.want_yes rfl rfl hg134) ?_
        clear hg134
        clear hs hg
        refine wp_app_full _ _ rfl h135 (G15.out w ht) F15.out h136 (G17.out w ht) (by omega) (Nat.le_refl _) ?_
        intro v' w' hbs hb
        rw [hspl] at hbs
        exact ⟨_, rfl, hb, hbs⟩
      · intro a w ht hs hg -- 138
        have h137 := By.given_get hg 20 rfl rfl (by kernel_rfl)
        have hg134 := By.given_get hg 17 rfl rfl (by kernel_rfl)
        refine By.yes (By.want_yes rfl rfl hg134) ?_
        clear hg134
        obtain ⟨v137, hv137⟩ : ∃ v, a.tmps.getD 137 undef = v := ⟨_, rfl⟩
        replace h137 := (congrArg (fun v => (bsM X).on v w) hv137).mp h137
        clear hs hg
        have hr := run_str w (h137)
        go_simp
        exact ⟨_, rfl, Grew.refl _, rfl⟩
      · intro a w ht hs hg -- 139
        have h11 := By.same_get hs 11 (by decide) (by kernel_rfl)
        have hg134 := By.given_get hg 17 rfl rfl (by kernel_rfl)
        refine By.yes (By.want_yes rfl rfl hg134) ?_
        clear hg134
        clear hs hg
        go_simp
        exact ⟨_, rfl, Grew.refl _, rfl⟩
      · intro a w ht hs hg -- 140
        have h139 : a.tmps.getD 139 undef = _ := By.given_get hg 22 rfl rfl (by kernel_rfl)
        have hg134 := By.given_get hg 17 rfl rfl (by kernel_rfl)
        refine By.yes (By.want_yes rfl rfl hg134) ?_
        clear hg134
        clear hs hg
        have hr := run_str w (G11.out w ht)
        go_simp
        exact ⟨_, rfl, Grew.refl _, rfl⟩
      · intro a w ht hs hg -- 141
        have h138 : a.tmps.getD 138 undef = _ := By.given_get hg 21 rfl rfl (by kernel_rfl)
        have h140 : a.tmps.getD 140 undef = _ := By.given_get hg 23 rfl rfl (by kernel_rfl)
        have hg134 := By.given_get hg 17 rfl rfl (by kernel_rfl)
        refine By.yes (By.want_yes rfl rfl hg134) ?_
        clear hg134
        clear hs hg
        go_simp
        exact ⟨_, rfl, Grew.refl _, congrArg Value.bool (by simp)⟩
      · intro a w ht hs hg -- 142
        have h134 : a.tmps.getD 134 undef = _ := By.given_get hg 17 rfl rfl (by kernel_rfl)
        have h141 : a.tmps.getD 141 undef = _ := By.given_get hg 24 rfl rfl (by kernel_rfl)
        refine By.yes rfl ?_
        clear hs hg
        go_simp
        exact ⟨_, rfl, Grew.refl _, rfl⟩
      · intro a w ht hs hg -- 143
        have h142 : a.tmps.getD 142 undef = _ := By.given_get hg 25 rfl rfl (by kernel_rfl)
        refine By.yes rfl ?_
        clear hs hg
        go_simp
        exact ⟨_, rfl, Grew.refl _, rfl⟩
      · intro a w ht hs hg -- 144
        have h20 := By.same_get hs 20 (by decide) (by kernel_rfl)
        have hg143 := By.given_get hg 26 rfl rfl (by kernel_rfl)
        refine By.yes (By.want_yes rfl rfl hg143) ?_
        clear hg143
        clear hs hg
        go_simp
        exact ⟨_, rfl, Grew.refl _, rfl⟩
      · intro a w ht hs hg -- 145
        have h144 : a.tmps.getD 144 undef = _ := By.given_get hg 27 rfl rfl (by kernel_rfl)
        have hg143 := By.given_get hg 26 rfl rfl (by kernel_rfl)
        refine By.yes (By.want_yes rfl rfl hg143) ?_
        clear hg143
        clear hs hg
        go_simp
        exact ⟨_, rfl, Grew.refl _, rfl⟩
      · intro a w ht hs hg -- 146
        have h143 : a.tmps.getD 143 undef = _ := By.given_get hg 26 rfl rfl (by kernel_rfl)
        have h145 : a.tmps.getD 145 undef = _ := By.given_get hg 28 rfl rfl (by kernel_rfl)
        refine By.yes rfl ?_
        clear hs hg
        go_simp
        exact ⟨_, rfl, Grew.refl _, rfl⟩
      · intro a w ht hs hg -- 147
        have h146 : a.tmps.getD 146 undef = _ := By.given_get hg 29 rfl rfl (by kernel_rfl)
        refine By.yes rfl ?_
        clear hs hg
        go_simp
        exact ⟨_, rfl, Grew.refl _, rfl⟩
      · intro a w ht hs hg -- 148
        have h19 := By.same_get hs 19 (by decide) (by kernel_rfl)
        have hg147 := By.given_get hg 30 rfl rfl (by kernel_rfl)
        refine By.yes (By.want_yes rfl rfl hg147) ?_
        clear hg147
        clear hs hg
        go_simp
        exact ⟨_, rfl, Grew.refl _, rfl⟩
      · intro a w ht hs hg -- 149
        have h22 := By.same_get hs 22 (by decide) (by kernel_rfl)
        have hg147 := By.given_get hg 30 rfl rfl (by kernel_rfl)
        refine By.yes (By.want_yes rfl rfl hg147) ?_
        clear hg147
        clear hs hg
        go_simp
        exact ⟨_, rfl, Grew.refl _, rfl⟩
      · intro a w ht hs hg -- 150
        have h148 : a.tmps.getD 148 undef = _ := By.given_get hg 31 rfl rfl (by kernel_rfl)
        have h149 : a.tmps.getD 149 undef = _ := By.given_get hg 32 rfl rfl (by kernel_rfl)
        have hg147 := By.given_get hg 30 rfl rfl (by kernel_rfl)
        refine By.yes (By.want_yes rfl rfl hg147) ?_
        clear hg147
        clear hs hg
        go_simp
        exact ⟨_, rfl, Grew.refl _, rfl⟩
      · intro a w ht hs hg -- 151
        have h150 : a.tmps.getD 150 undef = _ := By.given_get hg 33 rfl rfl (by kernel_rfl)
        have hg147 := By.given_get hg 30 rfl rfl (by kernel_rfl)
        refine By.yes (By.want_yes rfl rfl hg147) ?_
        clear hg147
        clear hs hg
        have hr := run_str w ((G19.out w ht).take hZl.symm (Nat.le_trans hnl (Nat.le_of_eq hZl.symm)))
        go_simp
        exact ⟨_, rfl, Grew.refl _, rfl⟩
      · intro a w ht hs hg -- 152
        have h22 := By.same_get hs 22 (by decide) (by kernel_rfl)
        have hg147 := By.given_get hg 30 rfl rfl (by kernel_rfl)
        refine By.yes (By.want_yes rfl rfl hg147) ?_
        clear hg147
        clear hs hg
        go_simp
        exact ⟨_, rfl, Grew.refl _, rfl⟩
      · intro a w ht hs hg -- 153
        have h21 := By.same_get hs 21 (by decide) (by kernel_rfl)
        have h152 : a.tmps.getD 152 undef = _ := By.given_get hg 35 rfl rfl (by kernel_rfl)
        have hg147 := By.given_get hg 30 rfl rfl (by kernel_rfl)
        refine By.yes (By.want_yes rfl rfl hg147) ?_
        clear hg147
        clear hs hg
        go_simp
        exact ⟨_, rfl, Grew.refl _, rfl⟩
      · intro a w ht hs hg -- 154
        have h153 : a.tmps.getD 153 undef = _ := By.given_get hg 36 rfl rfl (by kernel_rfl)
        have hg147 := By.given_get hg 30 rfl rfl (by kernel_rfl)
        refine By.yes (By.want_yes rfl rfl hg147) ?_
        clear hg147
        clear hs hg
        have hr := run_str w ((GS.out w ht).take hSl.symm (Nat.le_trans hns (Nat.le_of_eq hSl.symm)))
        go_simp
        exact ⟨_, rfl, Grew.refl _, rfl⟩
      · intro a w ht hs hg -- 155
        have h151 : a.tmps.getD 151 undef = _ := By.given_get hg 34 rfl rfl (by kernel_rfl)
        have h154 : a.tmps.getD 154 undef = _ := By.given_get hg 37 rfl rfl (by kernel_rfl)
        have hg147 := By.given_get hg 30 rfl rfl (by kernel_rfl)
        refine By.yes (By.want_yes rfl rfl hg147) ?_
        clear hg147
        clear hs hg
        rw [HZS.out] at h151
        go_simp
        exact ⟨_, rfl, Grew.refl _, congrArg Value.bool (by simp)⟩
      · intro a w ht hs hg -- 156
        have h147 : a.tmps.getD 147 undef = _ := By.given_get hg 30 rfl rfl (by kernel_rfl)
        have h155 : a.tmps.getD 155 undef = _ := By.given_get hg 38 rfl rfl (by kernel_rfl)
        refine By.yes rfl ?_
        clear hs hg
        go_simp
        exact ⟨_, rfl, Grew.refl _, rfl⟩
      · intro a w ht hs hg -- 10
        have h156 : a.tmps.getD 156 undef = _ := By.given_get hg 39 rfl rfl (by kernel_rfl)
        refine By.yes rfl ?_
        clear hs hg
        go_simp
        exact ⟨_, rfl, Grew.refl _, rfl⟩
      refine By.ends_is (By.ends_is (By.ends_is (By.ends_is (By.ends_is (By.ends_is (By.ends_is (By.ends_is (By.ends_is (By.ends_is (By.ends_is (By.ends_is (By.ends_is (By.ends_is (By.ends_is (By.ends_is (By.ends_is (By.ends_is (By.ends_is (By.ends_is (By.ends_skip fun v137 => (By.ends_is (By.ends_is (By.ends_is (By.ends_is (By.ends_is (By.ends_is (By.ends_is (By.ends_is (By.ends_is (By.ends_is (By.ends_is (By.ends_is (By.ends_is (By.ends_is (By.ends_is (By.ends_is (By.ends_is (By.ends_is (By.ends_is (By.ends_is (By.ends_nil fun w10 hw10 => ?_)))))))))))))))))))))))))))))))))))))))))
      simp only [Act.put, List.setIfInBounds_toArray, List.set_cons_succ, List.set_cons_zero]
      have hg10 : Below W9.heap.size W9.drew w10 := hw10
      have hb010 : Below w.heap.size w w10 := hb09.drew.trans (hg10.mono (by show w.heap.size ≤ W9.heap.size; omega))
      go_wp2
      go_ret
      exact ⟨rfl, hb010⟩


  · have hck' : (4294967295 : Int) < (c.toNat : Int) + (k : Int) := by omega
    obtain ⟨QQ, hQQ⟩ : ∃ Q : List UInt8, Q = [] := ⟨_, rfl⟩
    have hQl : QQ.length = l.length - 64 * k := by rw [hQQ, List.length_nil]; omega
    have H17 := Lib.hid (show Own w6 w5.heap.size (.slice none 0 0) QQ by rw [hQQ]; exact Own.nil _ _)
    have hd0 : Cha.xor key (c + BitVec.ofNat 32 k) nonce (l.drop (64 * k)) = QQ := by
      rw [hQQ]
      exact List.eq_nil_of_length_eq_zero (by rw [Cha.xor_length, hld]; omega)
    rw [hd0] at hspl
    clear hQQ hd0 hkk
    go_wp2_with fail
    have hK : ∀ W, Grew w6.drew W → Row W w.heap.size (key.map bv) 55 := fun W hW => Row.below (w := w6.drew) Hk2.out hW (by show _ < w6.heap.size; omega)
    have hN : ∀ W, Grew w6.drew W → Row W (w.heap.size + 1) (nonce.map bv) 56 := fun W hW => Row.below (w := w6.drew) Hn2.out hW (by show _ < w6.heap.size; omega)
    have hB : ∀ W, Grew w6.drew W → Bs W w.heap.size (.slice A l.length cap) l := fun W hW => Bs.below (w := w6.drew) (Bs.drew (Hb.out.below hb06)) (hW.mono (by show w.heap.size ≤ w6.heap.size; omega))
    have HK := Lib.hid hK
    have HN := Lib.hid hN
    have HB := Lib.hid hB
    clear hK hN hB
    refine By.marks mixed Grew [By.is (arr8 key),
      By.is (wv c),
      By.is (arr8 nonce),
      By.is (.slice A l.length cap),
      By.is (.int .i64 (l.length : Int)),
      ownM w6.heap.size (List.replicate l.length (0 : UInt8)),
      resM w6.heap.size (Cha.out key c nonce (List.replicate l.length (0 : UInt8))) (Cha.err c (l.length)),
      resM w6.heap.size (Cha.out key c nonce (List.replicate l.length (0 : UInt8))) (Cha.err c (l.length)),
      fullM w6.heap.size (Cha.out key c nonce (List.replicate l.length (0 : UInt8))),
      By.is (.int .i64 (((Cha.err c (l.length)) : Nat) : Int)),
      fullM w6.heap.size (Cha.out key c nonce (List.replicate l.length (0 : UInt8))),
      By.is (.int .i64 (((Cha.err c (l.length)) : Nat) : Int))]
      (Ev.masks _ []) (by kernel_rfl) rfl Grew.refl Grew.trans ⟨?_, ?_, ?_, ?_, ?_, ?_, ?_, ?_, ?_, ?_, ?_, ?_, trivial⟩ ?_
    · intro a w ht hs hg -- 101
      have h5 := By.same_get hs 5 (by decide) (by kernel_rfl)
      refine By.yes rfl ?_
      clear hs hg
      refine wp_loadRow 55 _ rfl h5 (HK.out w ht) Try.underlying55 rfl (by kernel_rfl) Hkl.out ?_
      exact ⟨_, rfl, Grew.refl _, rfl⟩
    · intro a w ht hs hg -- 102
      have h1 := By.same_get hs 1 (by decide) (by kernel_rfl)
      refine By.yes rfl ?_
      clear hs hg
      go_simp
      exact ⟨_, rfl, Grew.refl _, rfl⟩
    · intro a w ht hs hg -- 103
      have h7 := By.same_get hs 7 (by decide) (by kernel_rfl)
      refine By.yes rfl ?_
      clear hs hg
      refine wp_loadRow 56 _ rfl h7 (HN.out w ht) Try.underlying56 rfl (by kernel_rfl) Hnl.out ?_
      exact ⟨_, rfl, Grew.refl _, rfl⟩
    · intro a w ht hs hg -- 104
      have h3 := By.same_get hs 3 (by decide) (by kernel_rfl)
      refine By.yes rfl ?_
      clear hs hg
      go_simp
      exact ⟨_, rfl, Grew.refl _, rfl⟩
    · intro a w ht hs hg -- 105
      have h104 : a.tmps.getD 104 undef = _ := By.given_get hg 3 rfl rfl (by kernel_rfl)
      refine By.yes rfl ?_
      clear hs hg
      go_simp
      exact ⟨_, rfl, Grew.refl _, rfl⟩
    · intro a w ht hs hg -- 106
      have h105 : a.tmps.getD 105 undef = _ := By.given_get hg 4 rfl rfl (by kernel_rfl)
      refine By.yes rfl ?_
      clear hs hg
      refine wp_make_bytes _ _ rfl l.length h105 h105 (by omega) ?_
      intro v w' ho hb
      exact ⟨_, rfl, hb, ho.less ht.size⟩
    · intro a w ht hs hg -- 107
      have h101 : a.tmps.getD 101 undef = _ := By.given_get hg 0 rfl rfl (by kernel_rfl)
      have h102 : a.tmps.getD 102 undef = _ := By.given_get hg 1 rfl rfl (by kernel_rfl)
      have h103 : a.tmps.getD 103 undef = _ := By.given_get hg 2 rfl rfl (by kernel_rfl)
      have h106 := By.given_get hg 5 rfl rfl (by kernel_rfl)
      refine By.yes rfl ?_
      obtain ⟨v106, hv106⟩ : ∃ v, a.tmps.getD 106 undef = v := ⟨_, rfl⟩
      replace h106 := (congrArg (fun v => (ownM w6.heap.size (List.replicate l.length (0 : UInt8))).on v w) hv106).mp h106
      clear hs hg
      have Hx := Lib.hid h106
      clear h106
      unfold arr8 at h101 h103
      go_simp
      refine (Xor_full key nonce _ _ c Hk.out Hn.out w (Own.bs Hx.out) (by rw [List.length_replicate]; omega)).mono ?_
      rintro e w' ⟨v, rfl, ⟨ho, hf⟩, hb⟩
      rw [List.length_replicate]
      exact ⟨_, rfl, hb, ⟨_, rfl, ho.less ht.size, hf⟩⟩
    · intro a w ht hs hg -- 100
      have h107 := By.given_get hg 6 rfl rfl (by kernel_rfl)
      refine By.yes rfl ?_
      obtain ⟨v107, hv107⟩ : ∃ v, a.tmps.getD 107 undef = v := ⟨_, rfl⟩
      replace h107 := (congrArg (fun v => (resM w6.heap.size (Cha.out key c nonce (List.replicate l.length (0 : UInt8))) (Cha.err c (l.length))).on v w) hv107).mp h107
      clear hs hg
      go_simp
      exact ⟨_, rfl, Grew.refl _, h107⟩
    · intro a w ht hs hg -- 108
      have h100 := By.given_get hg 7 rfl rfl (by kernel_rfl)
      refine By.yes rfl ?_
      obtain ⟨v100, hv100⟩ : ∃ v, a.tmps.getD 100 undef = v := ⟨_, rfl⟩
      replace h100 := (congrArg (fun v => (resM w6.heap.size (Cha.out key c nonce (List.replicate l.length (0 : UInt8))) (Cha.err c (l.length))).on v w) hv100).mp h100
      clear hs hg
      obtain ⟨x, rfl, hx⟩ := h100
      have Hx := Lib.hid hx
      clear hx
      go_simp
      exact ⟨_, rfl, Grew.refl _, Hx.out⟩
    · intro a w ht hs hg -- 109
      have h100 := By.given_get hg 7 rfl rfl (by kernel_rfl)
      refine By.yes rfl ?_
      obtain ⟨v100, hv100⟩ : ∃ v, a.tmps.getD 100 undef = v := ⟨_, rfl⟩
      replace h100 := (congrArg (fun v => (resM w6.heap.size (Cha.out key c nonce (List.replicate l.length (0 : UInt8))) (Cha.err c (l.length))).on v w) hv100).mp h100
      clear hs hg
      obtain ⟨x, rfl, hx⟩ := h100
      clear hx
      go_simp
      exact ⟨_, rfl, Grew.refl _, rfl⟩
    · intro a w ht hs hg -- 19
      have h108 := By.given_get hg 8 rfl rfl (by kernel_rfl)
      refine By.yes rfl ?_
      obtain ⟨v108, hv108⟩ : ∃ v, a.tmps.getD 108 undef = v := ⟨_, rfl⟩
      replace h108 := (congrArg (fun v => (fullM w6.heap.size (Cha.out key c nonce (List.replicate l.length (0 : UInt8)))).on v w) hv108).mp h108
      clear hs hg
      have Hx := Lib.hid h108
      clear h108
      go_simp
      exact ⟨_, rfl, Grew.refl _, Hx.out⟩
    · intro a w ht hs hg -- 20
      have h109 : a.tmps.getD 109 undef = _ := By.given_get hg 9 rfl rfl (by kernel_rfl)
      refine By.yes rfl ?_
      clear hs hg
      go_simp
      exact ⟨_, rfl, Grew.refl _, rfl⟩
    refine By.ends_is (By.ends_is (By.ends_is (By.ends_is (By.ends_is (By.ends_skip fun v106 => (By.ends_skip fun v107 => (By.ends_skip fun v100 => (By.ends_skip fun v108 => (By.ends_is (By.ends_any fun v19 => (By.ends_is (By.ends_nil fun w7 hw7 => ?_))))))))))))
    simp only [Act.put, List.setIfInBounds_toArray, List.set_cons_succ, List.set_cons_zero]
    obtain ⟨hg, ho19⟩ := hw7
    have H19 := Lib.hid (show Own w7 w6.heap.size v19 (Cha.out key c nonce (List.replicate l.length (0 : UInt8))) from ho19.1)
    clear ho19
    have hg : Below w6.heap.size w6.drew w7 := hg
    have hb07 : Below w.heap.size w w7 := hb06.drew.trans (hg.mono (by show w.heap.size ≤ w6.heap.size; omega))
    have Hk2 := Lib.hid (HK.out _ hg)
    have Hn2 := Lib.hid (HN.out _ hg)
    have hsw7 : w6.heap.size ≤ w7.heap.size := hg.size
    have H11 := Lib.hid (Own.below (w := w6.drew) H11.out.drew hg (Nat.le_refl _))
    have H13 := Lib.hid (Own.below (w := w6.drew) H13.out.drew hg (Nat.le_refl _))
    have H15 := Lib.hid (Own.below (w := w6.drew) H15.out.drew hg (Nat.le_refl _))
    have H17 := Lib.hid (Own.below (w := w6.drew) H17.out.drew hg (Nat.le_refl _))
    clear hg HK HN HB
    unfold arr8
    rw [He.out, show ((0 : Nat) : Int) = 0 from rfl]
    rw [Cha.out_ok _ _ _ _ (by rw [List.length_replicate]; exact He.out)] at H19
    obtain ⟨ZZ, hZ⟩ : ∃ Z, Cha.xor key c nonce (List.replicate l.length (0 : UInt8)) = Z := ⟨_, rfl⟩
    have hZl : ZZ.length = l.length := by rw [← hZ, Cha.xor_length, List.length_replicate]
    rw [hZ] at H19
    have HZ := Lib.hid hZ
    clear hZ
    obtain ⟨A19, c19, h19⟩ := H19.out.shape
    rw [hZl] at h19
    subst h19
    go_wp2_with (first
      | (refine wpList_loadRow rfl 55 _ rfl rfl Hk2.out Try.underlying55 rfl (by kernel_rfl) Hkl.out ?_)
      | (refine wpList_loadRow rfl 56 _ rfl rfl Hn2.out Try.underlying56 rfl (by kernel_rfl) Hnl.out ?_)
      | fail)
    refine (Block_any key nonce c Hk.out Hn.out w7).mono ?_
    rintro e w8 ⟨rfl, hb8⟩
    obtain ⟨SS, hSS⟩ : ∃ S, Cha.block key c nonce = S := ⟨_, rfl⟩
    have hSl : SS.length = 64 := by rw [← hSS]; exact Cha.block_length _ _ _
    rw [hSS]
    have HSS := Lib.hid hSS
    have Hsl := Lib.hid (show (SS.map bv).length = 64 by rw [List.length_map]; exact hSl)
    clear hSS
    have hb08 := nextB hb07 (Nat.le_refl _) hb8
    have hs8 : w7.heap.size ≤ w8.heap.size := hb8.size
    unfold arr8
    by_cases hm64 : l.length < 64
    · have hmin : (l.length : Int) < 64 := by omega
      go_wp2_with (first
        | (refine wpList_storeRow rfl 65 _ _ rfl rfl rfl (cs := SS.map bv) (old := (List.replicate 64 (0 : UInt8)).map bv) (Row.new rfl rfl) (by kernel_rfl) Hsl.out (by simp) (bytes_one SS) ?_
           generalize hW9 : World.setRow _ _ _ = W9
           have hS9 : Row W9 w8.heap.size (SS.map bv) 65 := by rw [← hW9]; exact (Row.new (cs := (List.replicate 64 (0 : UInt8)).map bv) rfl rfl).setRow (SS.map bv)
           have hb9 : Below w8.heap.size w8 W9 := by rw [← hW9]; exact below_setRow ((Below.refl _ w8).alloc (Nat.le_refl _) _) (Nat.le_refl _) _
           have hs9 : W9.heap.size = w8.heap.size + 1 := by rw [← hW9]; simp
           have hb09 := nextB hb08 (Nat.le_refl _) hb9
           have HS := Lib.hid hS9
           have H11 := Lib.hid ((H11.out.below hb8 (Nat.le_refl _)).below hb9 (Nat.le_refl _))
           have H13 := Lib.hid ((H13.out.below hb8 (Nat.le_refl _)).below hb9 (Nat.le_refl _))
           have H15 := Lib.hid ((H15.out.below hb8 (Nat.le_refl _)).below hb9 (Nat.le_refl _))
           have H17 := Lib.hid ((H17.out.below hb8 (Nat.le_refl _)).below hb9 (Nat.le_refl _))
           have H19 := Lib.hid ((H19.out.below hb8 (Nat.le_refl _)).below hb9 (Nat.le_refl _))
           clear hW9 hS9 hb9)
        | fail)
      have h13 : ∀ W, Grew W9.drew W → Bs W W.heap.size v13 l := fun W hW => (Own.below (w := W9.drew) H13.out.drew hW (Nat.le_refl _)).bs
      have h11 : ∀ W, Grew W9.drew W → Bs W W.heap.size v11 X := fun W hW => (Own.below (w := W9.drew) H11.out.drew hW (Nat.le_refl _)).bs
      have h15 : ∀ W, Grew W9.drew W → Bs W W.heap.size v15 PP := fun W hW => (Own.below (w := W9.drew) H15.out.drew hW (Nat.le_refl _)).bs
      have h17 : ∀ W, Grew W9.drew W → Bs W W.heap.size (.slice none 0 0) QQ := fun W hW => (Own.below (w := W9.drew) H17.out.drew hW (Nat.le_refl _)).bs
      have h19 : ∀ W, Grew W9.drew W → Bs W W.heap.size (.slice A19 l.length c19) ZZ := fun W hW => (Own.below (w := W9.drew) H19.out.drew hW (Nat.le_refl _)).bs
      have hS : ∀ W, Grew W9.drew W → Bs W W.heap.size (.slice (some ⟨w8.heap.size, 0, none⟩) 64 64) SS := fun W hW => by
        have hr := Row.bs (B := W.heap.size) (Row.below (w := W9.drew) HS.out hW (by show _ < W9.heap.size; omega)) (by have : W9.heap.size ≤ W.heap.size := hW.size; omega)
        rw [hSl] at hr
        exact hr
      have hBB : ∀ W, Grew W9.drew W → Bs W w.heap.size (.slice A l.length cap) l := fun W hW => Bs.below (w := W9.drew) (Bs.drew (Hb.out.below hb09)) (hW.mono (by show w.heap.size ≤ W9.heap.size; omega))
      have G13 := Lib.hid h13
      have G11 := Lib.hid h11
      have G15 := Lib.hid h15
      have G17 := Lib.hid h17
      have G19 := Lib.hid h19
      have GS := Lib.hid hS
      have GB := Lib.hid hBB
      have hc19 : l.length ≤ c19 := by
        obtain ⟨_, _, q, kk, _⟩ := h19 W9.drew (Grew.refl _)
        simp only [Value.slice.injEq] at q
        omega
      have hn0 : (0 : Int) ≤ ((l.length : Nat) : Int) := by omega
      have hn1 : ((l.length : Nat) : Int) ≤ (c19 : Int) := by omega
      have hn2 : ((l.length : Nat) : Int) ≤ (l.length : Int) := by omega
      have hn3 : ((l.length : Nat) : Int) ≤ 64 := by omega
      have hnl : l.length ≤ l.length := by omega
      have hns : l.length ≤ 64 := by omega
      have hzs : ZZ.take (l.length) = SS.take (l.length) := by rw [← HZ.out, ← HSS.out]; exact Cha.xor_first key c nonce l.length (l.length) (by omega) (by omega)
      have HZS := Lib.hid hzs
      clear h13 h11 h15 h17 h19 hS hBB hzs
      refine By.marks mixed Grew [By.is (.int .i64 0),
        By.is (.bool true),
        By.is (.bool true),
        By.is v13,
        By.is (strOf l),
        By.is (.slice A l.length cap),
        By.is (strOf l),
        By.is (.bool true),
        By.is (.bool true),
        By.is (.bool true),
        By.is (.int .i64 0),
        By.is (.bool true),
        By.is (.bool true),
        By.is (.bool true),
        By.is (.int .i64 0),
        By.is (.bool true),
        By.is (.bool true),
        By.is (.bool true),
        By.is v15,
        By.is (.slice none 0 0),
        bsM X,
        By.is (strOf X),
        By.is v11,
        By.is (strOf X),
        By.is (.bool true),
        By.is (.bool true),
        By.is (.bool true),
        By.is (.int .i64 0),
        By.is (.bool true),
        By.is (.bool true),
        By.is (.bool true),
        By.is (.slice A19 l.length c19),
        By.is (.int .i64 ((l.length : Nat) : Int)),
        By.is (.slice A19 (l.length) c19),
        By.is (strOf (ZZ.take (l.length))),
        By.is (.int .i64 ((l.length : Nat) : Int)),
        By.is (.slice (some ⟨w8.heap.size, 0, none⟩) (l.length) 64),
        By.is (strOf (SS.take (l.length))),
        By.is (.bool true),
        By.is (.bool true),
        By.is (.bool true)]
        (Ev.masks _ []) (by kernel_rfl) rfl Grew.refl Grew.trans ⟨?_, ?_, ?_, ?_, ?_, ?_, ?_, ?_, ?_, ?_, ?_, ?_, ?_, ?_, ?_, ?_, ?_, ?_, ?_, ?_, ?_, ?_, ?_, ?_, ?_, ?_, ?_, ?_, ?_, ?_, ?_, ?_, ?_, ?_, ?_, ?_, ?_, ?_, ?_, ?_, ?_, trivial⟩ ?_
      · intro a w ht hs hg -- 117
        have h12 := By.same_get hs 12 (by decide) (by kernel_rfl)
        refine By.yes rfl ?_
        clear hs hg
        go_simp
        exact ⟨_, rfl, Grew.refl _, rfl⟩
      · intro a w ht hs hg -- 118
        have h117 : a.tmps.getD 117 undef = _ := By.given_get hg 0 rfl rfl (by kernel_rfl)
        refine By.yes rfl ?_
        clear hs hg
        go_simp
        exact ⟨_, rfl, Grew.refl _, rfl⟩
      · intro a w ht hs hg -- 119
        have h118 : a.tmps.getD 118 undef = _ := By.given_get hg 1 rfl rfl (by kernel_rfl)
        refine By.yes rfl ?_
        clear hs hg
        go_simp
        exact ⟨_, rfl, Grew.refl _, rfl⟩
      · intro a w ht hs hg -- 120
        have h13 := By.same_get hs 13 (by decide) (by kernel_rfl)
        have hg119 := By.given_get hg 2 rfl rfl (by kernel_rfl)
        refine By.yes (By.want_yes rfl rfl hg119) ?_
        clear hg119
        clear hs hg
        go_simp
        exact ⟨_, rfl, Grew.refl _, rfl⟩
      · intro a w ht hs hg -- 121
        have h120 : a.tmps.getD 120 undef = _ := By.given_get hg 3 rfl rfl (by kernel_rfl)
        have hg119 := By.given_get hg 2 rfl rfl (by kernel_rfl)
        refine By.yes (By.want_yes rfl rfl hg119) ?_
        clear hg119
        clear hs hg
        have hr := run_str w (G13.out w ht)
        go_simp
        exact ⟨_, rfl, Grew.refl _, rfl⟩
      · intro a w ht hs hg -- 122
        have h3 := By.same_get hs 3 (by decide) (by kernel_rfl)
        have hg119 := By.given_get hg 2 rfl rfl (by kernel_rfl)
        refine By.yes (By.want_yes rfl rfl hg119) ?_
        clear hg119
        clear hs hg
        go_simp
        exact ⟨_, rfl, Grew.refl _, rfl⟩
      · intro a w ht hs hg -- 123
        have h122 : a.tmps.getD 122 undef = _ := By.given_get hg 5 rfl rfl (by kernel_rfl)
        have hg119 := By.given_get hg 2 rfl rfl (by kernel_rfl)
        refine By.yes (By.want_yes rfl rfl hg119) ?_
        clear hg119
        clear hs hg
        have hr := run_str w (GB.out w ht)
        go_simp
        exact ⟨_, rfl, Grew.refl _, rfl⟩
      · intro a w ht hs hg -- 124
        have h121 : a.tmps.getD 121 undef = _ := By.given_get hg 4 rfl rfl (by kernel_rfl)
        have h123 : a.tmps.getD 123 undef = _ := By.given_get hg 6 rfl rfl (by kernel_rfl)
        have hg119 := By.given_get hg 2 rfl rfl (by kernel_rfl)
        refine By.yes (By.want_yes rfl rfl hg119) ?_
        clear hg119
        clear hs hg
        go_simp
        exact ⟨_, rfl, Grew.refl _, congrArg Value.bool (by simp)⟩
      · intro a w ht hs hg -- 125
        have h119 : a.tmps.getD 119 undef = _ := By.given_get hg 2 rfl rfl (by kernel_rfl)
        have h124 : a.tmps.getD 124 undef = _ := By.given_get hg 7 rfl rfl (by kernel_rfl)
        refine By.yes rfl ?_
        clear hs hg
        go_simp
        exact ⟨_, rfl, Grew.refl _, rfl⟩
      · intro a w ht hs hg -- 126
        have h125 : a.tmps.getD 125 undef = _ := By.given_get hg 8 rfl rfl (by kernel_rfl)
        refine By.yes rfl ?_
        clear hs hg
        go_simp
        exact ⟨_, rfl, Grew.refl _, rfl⟩
      · intro a w ht hs hg -- 127
        have h16 := By.same_get hs 16 (by decide) (by kernel_rfl)
        have hg126 := By.given_get hg 9 rfl rfl (by kernel_rfl)
        refine By.yes (By.want_yes rfl rfl hg126) ?_
        clear hg126
        clear hs hg
        go_simp
        exact ⟨_, rfl, Grew.refl _, rfl⟩
      · intro a w ht hs hg -- 128
        have h127 : a.tmps.getD 127 undef = _ := By.given_get hg 10 rfl rfl (by kernel_rfl)
        have hg126 := By.given_get hg 9 rfl rfl (by kernel_rfl)
        refine By.yes (By.want_yes rfl rfl hg126) ?_
        clear hg126
        clear hs hg
        go_simp
        exact ⟨_, rfl, Grew.refl _, rfl⟩
      · intro a w ht hs hg -- 129
        have h126 : a.tmps.getD 126 undef = _ := By.given_get hg 9 rfl rfl (by kernel_rfl)
        have h128 : a.tmps.getD 128 undef = _ := By.given_get hg 11 rfl rfl (by kernel_rfl)
        refine By.yes rfl ?_
        clear hs hg
        go_simp
        exact ⟨_, rfl, Grew.refl _, rfl⟩
      · intro a w ht hs hg -- 130
        have h129 : a.tmps.getD 129 undef = _ := By.given_get hg 12 rfl rfl (by kernel_rfl)
        refine By.yes rfl ?_
        clear hs hg
        go_simp
        exact ⟨_, rfl, Grew.refl _, rfl⟩
      · intro a w ht hs hg -- 131
        have h18 := By.same_get hs 18 (by decide) (by kernel_rfl)
        have hg130 := By.given_get hg 13 rfl rfl (by kernel_rfl)
        refine By.yes (By.want_yes rfl rfl hg130) ?_
        clear hg130
        clear hs hg
        go_simp
        exact ⟨_, rfl, Grew.refl _, rfl⟩
      · intro a w ht hs hg -- 132
        have h131 : a.tmps.getD 131 undef = _ := By.given_get hg 14 rfl rfl (by kernel_rfl)
        have hg130 := By.given_get hg 13 rfl rfl (by kernel_rfl)
        refine By.yes (By.want_yes rfl rfl hg130) ?_
        clear hg130
        clear hs hg
        go_simp
        exact ⟨_, rfl, Grew.refl _, rfl⟩
      · intro a w ht hs hg -- 133
        have h130 : a.tmps.getD 130 undef = _ := By.given_get hg 13 rfl rfl (by kernel_rfl)
        have h132 : a.tmps.getD 132 undef = _ := By.given_get hg 15 rfl rfl (by kernel_rfl)
        refine By.yes rfl ?_
        clear hs hg
        go_simp
        exact ⟨_, rfl, Grew.refl _, rfl⟩
      · intro a w ht hs hg -- 134
        have h133 : a.tmps.getD 133 undef = _ := By.given_get hg 16 rfl rfl (by kernel_rfl)
        refine By.yes rfl ?_
        clear hs hg
        go_simp
        exact ⟨_, rfl, Grew.refl _, rfl⟩
      · intro a w ht hs hg -- 135
        have h15 := By.same_get hs 15 (by decide) (by kernel_rfl)
        have hg134 := By.given_get hg 17 rfl rfl (by kernel_rfl)
        refine By.yes (By.want_yes rfl rfl hg134) ?_
        clear hg134
        clear hs hg
        go_simp
        exact ⟨_, rfl, Grew.refl _, rfl⟩
      · intro a w ht hs hg -- 136
        have h17 := By.same_get hs 17 (by decide) (by kernel_rfl)
        have hg134 := By.given_get hg 17 rfl rfl (by kernel_rfl)
        refine By.yes (By.want_yes rfl rfl hg134) ?_
        clear hg134
        clear hs hg
        go_simp
        exact ⟨_, rfl, Grew.refl _, rfl⟩
      · intro a w ht hs hg -- 137
        have h135 : a.tmps.getD 135 undef = _ := By.given_get hg 18 rfl rfl (by kernel_rfl)
        have h136 : a.tmps.getD 136 undef = _ := By.given_get hg 19 rfl rfl (by kernel_rfl)
        have hg134 := By.given_get hg 17 rfl rfl (by kernel_rfl)
        refine By.yes (By.want_yes rfl rfl hg134) ?_
        clear hg134
        clear hs hg
        refine wp_app_full _ _ rfl h135 (G15.out w ht) F15.out h136 (G17.out w ht) (by omega) (Nat.le_refl _) ?_
        intro v' w' hbs hb
        rw [hspl] at hbs
        exact ⟨_, rfl, hb, hbs⟩
      · intro a w ht hs hg -- 138
        have h137 := By.given_get hg 20 rfl rfl (by kernel_rfl)
        have hg134 := By.given_get hg 17 rfl rfl (by kernel_rfl)
        refine By.yes (By.want_yes rfl rfl hg134) ?_
        clear hg134
        obtain ⟨v137, hv137⟩ : ∃ v, a.tmps.getD 137 undef = v := ⟨_, rfl⟩
        replace h137 := (congrArg (fun v => (bsM X).on v w) hv137).mp h137
        clear hs hg
        have hr := run_str w (h137)
        go_simp
        exact ⟨_, rfl, Grew.refl _, rfl⟩
      · intro a w ht hs hg -- 139
        have h11 := By.same_get hs 11 (by decide) (by kernel_rfl)
        have hg134 := By.given_get hg 17 rfl rfl (by kernel_rfl)
        refine By.yes (By.want_yes rfl rfl hg134) ?_
        clear hg134
        clear hs hg
        go_simp
        exact ⟨_, rfl, Grew.refl _, rfl⟩
      · intro a w ht hs hg -- 140
        have h139 : a.tmps.getD 139 undef = _ := By.given_get hg 22 rfl rfl (by kernel_rfl)
        have hg134 := By.given_get hg 17 rfl rfl (by kernel_rfl)
        refine By.yes (By.want_yes rfl rfl hg134) ?_
        clear hg134
        clear hs hg
        have hr := run_str w (G11.out w ht)
        go_simp
        exact ⟨_, rfl, Grew.refl _, rfl⟩
      · intro a w ht hs hg -- 141
        have h138 : a.tmps.getD 138 undef = _ := By.given_get hg 21 rfl rfl (by kernel_rfl)
        have h140 : a.tmps.getD 140 undef = _ := By.given_get hg 23 rfl rfl (by kernel_rfl)
        have hg134 := By.given_get hg 17 rfl rfl (by kernel_rfl)
        refine By.yes (By.want_yes rfl rfl hg134) ?_
        clear hg134
        clear hs hg
        go_simp
        exact ⟨_, rfl, Grew.refl _, congrArg Value.bool (by simp)⟩
      · intro a w ht hs hg -- 142
        have h134 : a.tmps.getD 134 undef = _ := By.given_get hg 17 rfl rfl (by kernel_rfl)
        have h141 : a.tmps.getD 141 undef = _ := By.given_get hg 24 rfl rfl (by kernel_rfl)
        refine By.yes rfl ?_
        clear hs hg
        go_simp
        exact ⟨_, rfl, Grew.refl _, rfl⟩
      · intro a w ht hs hg -- 143
        have h142 : a.tmps.getD 142 undef = _ := By.given_get hg 25 rfl rfl (by kernel_rfl)
        refine By.yes rfl ?_
        clear hs hg
        go_simp
        exact ⟨_, rfl, Grew.refl _, rfl⟩
      · intro a w ht hs hg -- 144
        have h20 := By.same_get hs 20 (by decide) (by kernel_rfl)
        have hg143 := By.given_get hg 26 rfl rfl (by kernel_rfl)
        refine By.yes (By.want_yes rfl rfl hg143) ?_
        clear hg143
        clear hs hg
        go_simp
        exact ⟨_, rfl, Grew.refl _, rfl⟩
      · intro a w ht hs hg -- 145
        have h144 : a.tmps.getD 144 undef = _ := By.given_get hg 27 rfl rfl (by kernel_rfl)
        have hg143 := By.given_get hg 26 rfl rfl (by kernel_rfl)
        refine By.yes (By.want_yes rfl rfl hg143) ?_
        clear hg143
        clear hs hg
        go_simp
        exact ⟨_, rfl, Grew.refl _, rfl⟩
      · intro a w ht hs hg -- 146
        have h143 : a.tmps.getD 143 undef = _ := By.given_get hg 26 rfl rfl (by kernel_rfl)
        have h145 : a.tmps.getD 145 undef = _ := By.given_get hg 28 rfl rfl (by kernel_rfl)
        refine By.yes rfl ?_
        clear hs hg
        go_simp
        exact ⟨_, rfl, Grew.refl _, rfl⟩
      · intro a w ht hs hg -- 147
        have h146 : a.tmps.getD 146 undef = _ := By.given_get hg 29 rfl rfl (by kernel_rfl)
        refine By.yes rfl ?_
        clear hs hg
        go_simp
        exact ⟨_, rfl, Grew.refl _, rfl⟩
      · intro a w ht hs hg -- 148
        have h19 := By.same_get hs 19 (by decide) (by kernel_rfl)
        have hg147 := By.given_get hg 30 rfl rfl (by kernel_rfl)
        refine By.yes (By.want_yes rfl rfl hg147) ?_
        clear hg147
        clear hs hg
        go_simp
        exact ⟨_, rfl, Grew.refl _, rfl⟩
      · intro a w ht hs hg -- 149
        have h22 := By.same_get hs 22 (by decide) (by kernel_rfl)
        have hg147 := By.given_get hg 30 rfl rfl (by kernel_rfl)
        refine By.yes (By.want_yes rfl rfl hg147) ?_
        clear hg147
        clear hs hg
        go_simp
        exact ⟨_, rfl, Grew.refl _, rfl⟩
      · intro a w ht hs hg -- 150
        have h148 : a.tmps.getD 148 undef = _ := By.given_get hg 31 rfl rfl (by kernel_rfl)
        have h149 : a.tmps.getD 149 undef = _ := By.given_get hg 32 rfl rfl (by kernel_rfl)
        have hg147 := By.given_get hg 30 rfl rfl (by kernel_rfl)
        refine By.yes (By.want_yes rfl rfl hg147) ?_
        clear hg147
        clear hs hg
        go_simp
        exact ⟨_, rfl, Grew.refl _, rfl⟩
      · intro a w ht hs hg -- 151
        have h150 : a.tmps.getD 150 undef = _ := By.given_get hg 33 rfl rfl (by kernel_rfl)
        have hg147 := By.given_get hg 30 rfl rfl (by kernel_rfl)
        refine By.yes (By.want_yes rfl rfl hg147) ?_
        clear hg147
        clear hs hg
        have hr := run_str w ((G19.out w ht).take hZl.symm (Nat.le_trans hnl (Nat.le_of_eq hZl.symm)))
        go_simp
        exact ⟨_, rfl, Grew.refl _, rfl⟩
      · intro a w ht hs hg -- 152
        have h22 := By.same_get hs 22 (by decide) (by kernel_rfl)
        have hg147 := By.given_get hg 30 rfl rfl (by kernel_rfl)
        refine By.yes (By.want_yes rfl rfl hg147) ?_
        clear hg147
        clear hs hg
        go_simp
        exact ⟨_, rfl, Grew.refl _, rfl⟩
      · intro a w ht hs hg -- 153
        have h21 := By.same_get hs 21 (by decide) (by kernel_rfl)
        have h152 : a.tmps.getD 152 undef = _ := By.given_get hg 35 rfl rfl (by kernel_rfl)
        have hg147 := By.given_get hg 30 rfl rfl (by kernel_rfl)
        refine By.yes (By.want_yes rfl rfl hg147) ?_
        clear hg147
        clear hs hg
        go_simp
        exact ⟨_, rfl, Grew.refl _, rfl⟩
      · intro a w ht hs hg -- 154
        have h153 : a.tmps.getD 153 undef = _ := By.given_get hg 36 rfl rfl (by kernel_rfl)
        have hg147 := By.given_get hg 30 rfl rfl (by kernel_rfl)
        refine By.yes (By.want_yes rfl rfl hg147) ?_
        clear hg147
        clear hs hg
        have hr := run_str w ((GS.out w ht).take hSl.symm (Nat.le_trans hns (Nat.le_of_eq hSl.symm)))
        go_simp
        exact ⟨_, rfl, Grew.refl _, rfl⟩
      · intro a w ht hs hg -- 155
        have h151 : a.tmps.getD 151 undef = _ := By.given_get hg 34 rfl rfl (by kernel_rfl)
        have h154 : a.tmps.getD 154 undef = _ := By.given_get hg 37 rfl rfl (by kernel_rfl)
        have hg147 := By.given_get hg 30 rfl rfl (by kernel_rfl)
        refine By.yes (By.want_yes rfl rfl hg147) ?_
        clear hg147
        clear hs hg
        rw [HZS.out] at h151
        go_simp
        exact ⟨_, rfl, Grew.refl _, congrArg Value.bool (by simp)⟩
      · intro a w ht hs hg -- 156
        have h147 : a.tmps.getD 147 undef = _ := By.given_get hg 30 rfl rfl (by kernel_rfl)
        have h155 : a.tmps.getD 155 undef = _ := By.given_get hg 38 rfl rfl (by kernel_rfl)
        refine By.yes rfl ?_
        clear hs hg
        go_simp
        exact ⟨_, rfl, Grew.refl _, rfl⟩
      · intro a w ht hs hg -- 10
        have h156 : a.tmps.getD 156 undef = _ := By.given_get hg 39 rfl rfl (by kernel_rfl)
        refine By.yes rfl ?_
        clear hs hg
        go_simp
        exact ⟨_, rfl, Grew.refl _, rfl⟩
      refine By.ends_is (By.ends_is (By.ends_is (By.ends_is (By.ends_is (By.ends_is (By.ends_is (By.ends_is (By.ends_is (By.ends_is (By.ends_is (By.ends_is (By.ends_is (By.ends_is (By.ends_is (By.ends_is (By.ends_is (By.ends_is (By.ends_is (By.ends_is (By.ends_skip fun v137 => (By.ends_is (By.ends_is (By.ends_is (By.ends_is (By.ends_is (By.ends_is (By.ends_is (By.ends_is (By.ends_is (By.ends_is (By.ends_is (By.ends_is (By.ends_is (By.ends_is (By.ends_is (By.ends_is (By.ends_is (By.ends_is (By.ends_is (By.ends_is (By.ends_nil fun w10 hw10 => ?_)))))))))))))))))))))))))))))))))))))))))
      simp only [Act.put, List.setIfInBounds_toArray, List.set_cons_succ, List.set_cons_zero]
      have hg10 : Below W9.heap.size W9.drew w10 := hw10
      have hb010 : Below w.heap.size w w10 := hb09.drew.trans (hg10.mono (by show w.heap.size ≤ W9.heap.size; omega))
      go_wp2
      go_ret
      exact ⟨rfl, hb010⟩

    · have hmin : ¬ (l.length : Int) < 64 := by omega
      go_wp2_with (first
        | (refine wpList_storeRow rfl 65 _ _ rfl rfl rfl (cs := SS.map bv) (old := (List.replicate 64 (0 : UInt8)).map bv) (Row.new rfl rfl) (by kernel_rfl) Hsl.out (by simp) (bytes_one SS) ?_
           generalize hW9 : World.setRow _ _ _ = W9
           have hS9 : Row W9 w8.heap.size (SS.map bv) 65 := by rw [← hW9]; exact (Row.new (cs := (List.replicate 64 (0 : UInt8)).map bv) rfl rfl).setRow (SS.map bv)
           have hb9 : Below w8.heap.size w8 W9 := by rw [← hW9]; exact below_setRow ((Below.refl _ w8).alloc (Nat.le_refl _) _) (Nat.le_refl _) _
           have hs9 : W9.heap.size = w8.heap.size + 1 := by rw [← hW9]; simp
           have hb09 := nextB hb08 (Nat.le_refl _) hb9
           have HS := Lib.hid hS9
           have H11 := Lib.hid ((H11.out.below hb8 (Nat.le_refl _)).below hb9 (Nat.le_refl _))
           have H13 := Lib.hid ((H13.out.below hb8 (Nat.le_refl _)).below hb9 (Nat.le_refl _))
           have H15 := Lib.hid ((H15.out.below hb8 (Nat.le_refl _)).below hb9 (Nat.le_refl _))
           have H17 := Lib.hid ((H17.out.below hb8 (Nat.le_refl _)).below hb9 (Nat.le_refl _))
           have H19 := Lib.hid ((H19.out.below hb8 (Nat.le_refl _)).below hb9 (Nat.le_refl _))
           clear hW9 hS9 hb9)
        | fail)
      have h13 : ∀ W, Grew W9.drew W → Bs W W.heap.size v13 l := fun W hW => (Own.below (w := W9.drew) H13.out.drew hW (Nat.le_refl _)).bs
      have h11 : ∀ W, Grew W9.drew W → Bs W W.heap.size v11 X := fun W hW => (Own.below (w := W9.drew) H11.out.drew hW (Nat.le_refl _)).bs
      have h15 : ∀ W, Grew W9.drew W → Bs W W.heap.size v15 PP := fun W hW => (Own.below (w := W9.drew) H15.out.drew hW (Nat.le_refl _)).bs
      have h17 : ∀ W, Grew W9.drew W → Bs W W.heap.size (.slice none 0 0) QQ := fun W hW => (Own.below (w := W9.drew) H17.out.drew hW (Nat.le_refl _)).bs
      have h19 : ∀ W, Grew W9.drew W → Bs W W.heap.size (.slice A19 l.length c19) ZZ := fun W hW => (Own.below (w := W9.drew) H19.out.drew hW (Nat.le_refl _)).bs
      have hS : ∀ W, Grew W9.drew W → Bs W W.heap.size (.slice (some ⟨w8.heap.size, 0, none⟩) 64 64) SS := fun W hW => by
        have hr := Row.bs (B := W.heap.size) (Row.below (w := W9.drew) HS.out hW (by show _ < W9.heap.size; omega)) (by have : W9.heap.size ≤ W.heap.size := hW.size; omega)
        rw [hSl] at hr
        exact hr
      have hBB : ∀ W, Grew W9.drew W → Bs W w.heap.size (.slice A l.length cap) l := fun W hW => Bs.below (w := W9.drew) (Bs.drew (Hb.out.below hb09)) (hW.mono (by show w.heap.size ≤ W9.heap.size; omega))
      have G13 := Lib.hid h13
      have G11 := Lib.hid h11
      have G15 := Lib.hid h15
      have G17 := Lib.hid h17
      have G19 := Lib.hid h19
      have GS := Lib.hid hS
      have GB := Lib.hid hBB
      have hc19 : l.length ≤ c19 := by
        obtain ⟨_, _, q, kk, _⟩ := h19 W9.drew (Grew.refl _)
        simp only [Value.slice.injEq] at q
        omega
      have hn0 : (0 : Int) ≤ ((64 : Nat) : Int) := by omega
      have hn1 : ((64 : Nat) : Int) ≤ (c19 : Int) := by omega
      have hn2 : ((64 : Nat) : Int) ≤ (l.length : Int) := by omega
      have hn3 : ((64 : Nat) : Int) ≤ 64 := by omega
      have hnl : 64 ≤ l.length := by omega
      have hn64 : (64 : Int) ≤ (c19 : Int) := by omega
      clear hn0 hn1 hn2 hn3
      have hns : 64 ≤ 64 := by omega
      have hzs : ZZ.take (64) = SS.take (64) := by rw [← HZ.out, ← HSS.out]; exact Cha.xor_first key c nonce l.length (64) (by omega) (by omega)
      have HZS := Lib.hid hzs
      clear h13 h11 h15 h17 h19 hS hBB hzs
      refine By.marks mixed Grew [By.is (.int .i64 0),
        By.is (.bool true),
        By.is (.bool true),
        By.is v13,
        By.is (strOf l),
        By.is (.slice A l.length cap),
        By.is (strOf l),
        By.is (.bool true),
        By.is (.bool true),
        By.is (.bool true),
        By.is (.int .i64 0),
        By.is (.bool true),
        By.is (.bool true),
        By.is (.bool true),
        By.is (.int .i64 0),
        By.is (.bool true),
        By.is (.bool true),
        By.is (.bool true),
        By.is v15,
        By.is (.slice none 0 0),
        bsM X,
        By.is (strOf X),
        By.is v11,
        By.is (strOf X),
        By.is (.bool true),
        By.is (.bool true),
        By.is (.bool true),
        By.is (.int .i64 0),
        By.is (.bool true),
        By.is (.bool true),
        By.is (.bool true),
        By.is (.slice A19 l.length c19),
        By.is (.int .i64 64),
        By.is (.slice A19 (64) c19),
        By.is (strOf (ZZ.take (64))),
        By.is (.int .i64 64),
        By.is (.slice (some ⟨w8.heap.size, 0, none⟩) (64) 64),
        By.is (strOf (SS.take (64))),
        By.is (.bool true),
        By.is (.bool true),
        By.is (.bool true)]
        (Ev.masks _ []) (by kernel_rfl) rfl Grew.refl Grew.trans ⟨?_, ?_, ?_, ?_, ?_, ?_, ?_, ?_, ?_, ?_, ?_, ?_, ?_, ?_, ?_, ?_, ?_, ?_, ?_, ?_, ?_, ?_, ?_, ?_, ?_, ?_, ?_, ?_, ?_, ?_, ?_, ?_, ?_, ?_, ?_, ?_, ?_, ?_, ?_, ?_, ?_, trivial⟩ ?_
      · intro a w ht hs hg -- 117
        have h12 := By.same_get hs 12 (by decide) (by kernel_rfl)
        refine By.yes rfl ?_
        clear hs hg
        go_simp
        exact ⟨_, rfl, Grew.refl _, rfl⟩
      · intro a w ht hs hg -- 118
        have h117 : a.tmps.getD 117 undef = _ := By.given_get hg 0 rfl rfl (by kernel_rfl)
        refine By.yes rfl ?_
        clear hs hg
        go_simp
        exact ⟨_, rfl, Grew.refl _, rfl⟩
      · intro a w ht hs hg -- 119
        have h118 : a.tmps.getD 118 undef = _ := By.given_get hg 1 rfl rfl (by kernel_rfl)
        refine By.yes rfl ?_
        clear hs hg
        go_simp
        exact ⟨_, rfl, Grew.refl _, rfl⟩
      · intro a w ht hs hg -- 120
        have h13 := By.same_get hs 13 (by decide) (by kernel_rfl)
        have hg119 := By.given_get hg 2 rfl rfl (by kernel_rfl)
        refine By.yes (By.want_yes rfl rfl hg119) ?_
        clear hg119
        clear hs hg
        go_simp
        exact ⟨_, rfl, Grew.refl _, rfl⟩
      · intro a w ht hs hg -- 121
        have h120 : a.tmps.getD 120 undef = _ := By.given_get hg 3 rfl rfl (by kernel_rfl)
        have hg119 := By.given_get hg 2 rfl rfl (by kernel_rfl)
        refine By.yes (By.want_yes rfl rfl hg119) ?_
        clear hg119
        clear hs hg
        have hr := run_str w (G13.out w ht)
        go_simp
        exact ⟨_, rfl, Grew.refl _, rfl⟩
      · intro a w ht hs hg -- 122
        have h3 := By.same_get hs 3 (by decide) (by kernel_rfl)
        have hg119 := By.given_get hg 2 rfl rfl (by kernel_rfl)
        refine By.yes (By.want_yes rfl rfl hg119) ?_
        clear hg119
        clear hs hg
        go_simp
        exact ⟨_, rfl, Grew.refl _, rfl⟩
      · intro a w ht hs hg -- 123
        have h122 : a.tmps.getD 122 undef = _ := By.given_get hg 5 rfl rfl (by kernel_rfl)
        have hg119 := By.given_get hg 2 rfl rfl (by kernel_rfl)
        refine By.yes (By.want_yes rfl rfl hg119) ?_
        clear hg119
        clear hs hg
        have hr := run_str w (GB.out w ht)
        go_simp
        exact ⟨_, rfl, Grew.refl _, rfl⟩
      · intro a w ht hs hg -- 124
        have h121 : a.tmps.getD 121 undef = _ := By.given_get hg 4 rfl rfl (by kernel_rfl)
        have h123 : a.tmps.getD 123 undef = _ := By.given_get hg 6 rfl rfl (by kernel_rfl)
        have hg119 := By.given_get hg 2 rfl rfl (by kernel_rfl)
        refine By.yes (By.want_yes rfl rfl hg119) ?_
        clear hg119
        clear hs hg
        go_simp
        exact ⟨_, rfl, Grew.refl _, congrArg Value.bool (by simp)⟩
      · intro a w ht hs hg -- 125
        have h119 : a.tmps.getD 119 undef = _ := By.given_get hg 2 rfl rfl (by kernel_rfl)
        have h124 : a.tmps.getD 124 undef = _ := By.given_get hg 7 rfl rfl (by kernel_rfl)
        refine By.yes rfl ?_
        clear hs hg
        go_simp
        exact ⟨_, rfl, Grew.refl _, rfl⟩
      · intro a w ht hs hg -- 126
        have h125 : a.tmps.getD 125 undef = _ := By.given_get hg 8 rfl rfl (by kernel_rfl)
        refine By.yes rfl ?_
        clear hs hg
        go_simp
        exact ⟨_, rfl, Grew.refl _, rfl⟩
      · intro a w ht hs hg -- 127
        have h16 := By.same_get hs 16 (by decide) (by kernel_rfl)
        have hg126 := By.given_get hg 9 rfl rfl (by kernel_rfl)
        refine By.yes (By.want_yes rfl rfl hg126) ?_
        clear hg126
        clear hs hg
        go_simp
        exact ⟨_, rfl, Grew.refl _, rfl⟩
      · intro a w ht hs hg -- 128
        have h127 : a.tmps.getD 127 undef = _ := By.given_get hg 10 rfl rfl (by kernel_rfl)
        have hg126 := By.given_get hg 9 rfl rfl (by kernel_rfl)
        refine By.yes (By.want_yes rfl rfl hg126) ?_
        clear hg126
        clear hs hg
        go_simp
        exact ⟨_, rfl, Grew.refl _, rfl⟩
      · intro a w ht hs hg -- 129
        have h126 : a.tmps.getD 126 undef = _ := By.given_get hg 9 rfl rfl (by kernel_rfl)
        have h128 : a.tmps.getD 128 undef = _ := By.given_get hg 11 rfl rfl (by kernel_rfl)
        refine By.yes rfl ?_
        clear hs hg
        go_simp
        exact ⟨_, rfl, Grew.refl _, rfl⟩
      · intro a w ht hs hg -- 130
        have h129 : a.tmps.getD 129 undef = _ := By.given_get hg 12 rfl rfl (by kernel_rfl)
        refine By.yes rfl ?_
        clear hs hg
        go_simp
        exact ⟨_, rfl, Grew.refl _, rfl⟩
      · intro a w ht hs hg -- 131
        have h18 := By.same_get hs 18 (by decide) (by kernel_rfl)
        have hg130 := By.given_get hg 13 rfl rfl (by kernel_rfl)
        refine By.yes (By.want_yes rfl rfl hg130) ?_
        clear hg130
        clear hs hg
        go_simp
        exact ⟨_, rfl, Grew.refl _, rfl⟩
      · intro a w ht hs hg -- 132
        have h131 : a.tmps.getD 131 undef = _ := By.given_get hg 14 rfl rfl (by kernel_rfl)
        have hg130 := By.given_get hg 13 rfl rfl (by kernel_rfl)
        refine By.yes (By.want_yes rfl rfl hg130) ?_
        clear hg130
        clear hs hg
        go_simp
        exact ⟨_, rfl, Grew.refl _, rfl⟩
      · intro a w ht hs hg -- 133
        have h130 : a.tmps.getD 130 undef = _ := By.given_get hg 13 rfl rfl (by kernel_rfl)
        have h132 : a.tmps.getD 132 undef = _ := By.given_get hg 15 rfl rfl (by kernel_rfl)
        refine By.yes rfl ?_
        clear hs hg
        go_simp
        exact ⟨_, rfl, Grew.refl _, rfl⟩
      · intro a w ht hs hg -- 134
        have h133 : a.tmps.getD 133 undef = _ := By.given_get hg 16 rfl rfl (by kernel_rfl)
        refine By.yes rfl ?_
        clear hs hg
        go_simp
        exact ⟨_, rfl, Grew.refl _, rfl⟩
      · intro a w ht hs hg -- 135
        have h15 := By.same_get hs 15 (by decide) (by kernel_rfl)
        have hg134 := By.given_get hg 17 rfl rfl (by kernel_rfl)
        refine By.yes (By.want_yes rfl rfl hg134) ?_
        clear hg134
        clear hs hg
        go_simp
        exact ⟨_, rfl, Grew.refl _, rfl⟩
      · intro a w ht hs hg -- 136
        have h17 := By.same_get hs 17 (by decide) (by kernel_rfl)
        have hg134 := By.given_get hg 17 rfl rfl (by kernel_rfl)
        refine By.yes (By.want_yes rfl rfl hg134) ?_
        clear hg134
        clear hs hg
        go_simp
        exact ⟨_, rfl, Grew.refl _, rfl⟩
      · intro a w ht hs hg -- 137
        have h135 : a.tmps.getD 135 undef = _ := By.given_get hg 18 rfl rfl (by kernel_rfl)
        have h136 : a.tmps.getD 136 undef = _ := By.given_get hg 19 rfl rfl (by kernel_rfl)
        have hg134 := By.given_get hg 17 rfl rfl (by kernel_rfl)
        refine By.yes (By.want_yes rfl rfl hg134) ?_
        clear hg134
        clear hs hg
        refine wp_app_full _ _ rfl h135 (G15.out w ht) F15.out h136 (G17.out w ht) (by omega) (Nat.le_refl _) ?_
        intro v' w' hbs hb
        rw [hspl] at hbs
        exact ⟨_, rfl, hb, hbs⟩
      · intro a w ht hs hg -- 138
        have h137 := By.given_get hg 20 rfl rfl (by kernel_rfl)
        have hg134 := By.given_get hg 17 rfl rfl (by kernel_rfl)
        refine By.yes (By.want_yes rfl rfl hg134) ?_
        clear hg134
        obtain ⟨v137, hv137⟩ : ∃ v, a.tmps.getD 137 undef = v := ⟨_, rfl⟩
        replace h137 := (congrArg (fun v => (bsM X).on v w) hv137).mp h137
        clear hs hg
        have hr := run_str w (h137)
        go_simp
        exact ⟨_, rfl, Grew.refl _, rfl⟩
      · intro a w ht hs hg -- 139
        have h11 := By.same_get hs 11 (by decide) (by kernel_rfl)
        have hg134 := By.given_get hg 17 rfl rfl (by kernel_rfl)
        refine By.yes (By.want_yes rfl rfl hg134) ?_
        clear hg134
        clear hs hg
        go_simp
        exact ⟨_, rfl, Grew.refl _, rfl⟩
      · intro a w ht hs hg -- 140
        have h139 : a.tmps.getD 139 undef = _ := By.given_get hg 22 rfl rfl (by kernel_rfl)
        have hg134 := By.given_get hg 17 rfl rfl (by kernel_rfl)
        refine By.yes (By.want_yes rfl rfl hg134) ?_
        clear hg134
        clear hs hg
        have hr := run_str w (G11.out w ht)
        go_simp
        exact ⟨_, rfl, Grew.refl _, rfl⟩
      · intro a w ht hs hg -- 141
        have h138 : a.tmps.getD 138 undef = _ := By.given_get hg 21 rfl rfl (by kernel_rfl)
        have h140 : a.tmps.getD 140 undef = _ := By.given_get hg 23 rfl rfl (by kernel_rfl)
        have hg134 := By.given_get hg 17 rfl rfl (by kernel_rfl)
        refine By.yes (By.want_yes rfl rfl hg134) ?_
        clear hg134
        clear hs hg
        go_simp
        exact ⟨_, rfl, Grew.refl _, congrArg Value.bool (by simp)⟩
      · intro a w ht hs hg -- 142
        have h134 : a.tmps.getD 134 undef = _ := By.given_get hg 17 rfl rfl (by kernel_rfl)
        have h141 : a.tmps.getD 141 undef = _ := By.given_get hg 24 rfl rfl (by kernel_rfl)
        refine By.yes rfl ?_
        clear hs hg
        go_simp
        exact ⟨_, rfl, Grew.refl _, rfl⟩
      · intro a w ht hs hg -- 143
        have h142 : a.tmps.getD 142 undef = _ := By.given_get hg 25 rfl rfl (by kernel_rfl)
        refine By.yes rfl ?_
        clear hs hg
        go_simp
        exact ⟨_, rfl, Grew.refl _, rfl⟩
      · intro a w ht hs hg -- 144
        have h20 := By.same_get hs 20 (by decide) (by kernel_rfl)
        have hg143 := By.given_get hg 26 rfl rfl (by kernel_rfl)
        refine By.yes (By.want_yes rfl rfl hg143) ?_
        clear hg143
        clear hs hg
        go_simp
        exact ⟨_, rfl, Grew.refl _, rfl⟩
      · intro a w ht hs hg -- 145
        have h144 : a.tmps.getD 144 undef = _ := By.given_get hg 27 rfl rfl (by kernel_rfl)
        have hg143 := By.given_get hg 26 rfl rfl (by kernel_rfl)
        refine By.yes (By.want_yes rfl rfl hg143) ?_
        clear hg143
        clear hs hg
        go_simp
        exact ⟨_, rfl, Grew.refl _, rfl⟩
      · intro a w ht hs hg -- 146
        have h143 : a.tmps.getD 143 undef = _ := By.given_get hg 26 rfl rfl (by kernel_rfl)
        have h145 : a.tmps.getD 145 undef = _ := By.given_get hg 28 rfl rfl (by kernel_rfl)
        refine By.yes rfl ?_
        clear hs hg
        go_simp
        exact ⟨_, rfl, Grew.refl _, rfl⟩
      · intro a w ht hs hg -- 147
        have h146 : a.tmps.getD 146 undef = _ := By.given_get hg 29 rfl rfl (by kernel_rfl)
        refine By.yes rfl ?_
        clear hs hg
        go_simp
        exact ⟨_, rfl, Grew.refl _, rfl⟩
      · intro a w ht hs hg -- 148
        have h19 := By.same_get hs 19 (by decide) (by kernel_rfl)
        have hg147 := By.given_get hg 30 rfl rfl (by kernel_rfl)
        refine By.yes (By.want_yes rfl rfl hg147) ?_
        clear hg147
        clear hs hg
        go_simp
        exact ⟨_, rfl, Grew.refl _, rfl⟩
      · intro a w ht hs hg -- 149
        have h22 := By.same_get hs 22 (by decide) (by kernel_rfl)
        have hg147 := By.given_get hg 30 rfl rfl (by kernel_rfl)
        refine By.yes (By.want_yes rfl rfl hg147) ?_
        clear hg147
        clear hs hg
        go_simp
        exact ⟨_, rfl, Grew.refl _, rfl⟩
      · intro a w ht hs hg -- 150
        have h148 : a.tmps.getD 148 undef = _ := By.given_get hg 31 rfl rfl (by kernel_rfl)
        have h149 : a.tmps.getD 149 undef = _ := By.given_get hg 32 rfl rfl (by kernel_rfl)
        have hg147 := By.given_get hg 30 rfl rfl (by kernel_rfl)
        refine By.yes (By.want_yes rfl rfl hg147) ?_
        clear hg147
        clear hs hg
        go_simp
        exact ⟨_, rfl, Grew.refl _, rfl⟩
      · intro a w ht hs hg -- 151
        have h150 : a.tmps.getD 150 undef = _ := By.given_get hg 33 rfl rfl (by kernel_rfl)
        have hg147 := By.given_get hg 30 rfl rfl (by kernel_rfl)
        refine By.yes (By.want_yes rfl rfl hg147) ?_
        clear hg147
        clear hs hg
        have hr := run_str w ((G19.out w ht).take hZl.symm (Nat.le_trans hnl (Nat.le_of_eq hZl.symm)))
        go_simp
        exact ⟨_, rfl, Grew.refl _, rfl⟩
      · intro a w ht hs hg -- 152
        have h22 := By.same_get hs 22 (by decide) (by kernel_rfl)
        have hg147 := By.given_get hg 30 rfl rfl (by kernel_rfl)
        refine By.yes (By.want_yes rfl rfl hg147) ?_
        clear hg147
        clear hs hg
        go_simp
        exact ⟨_, rfl, Grew.refl _, rfl⟩
      · intro a w ht hs hg -- 153
        have h21 := By.same_get hs 21 (by decide) (by kernel_rfl)
        have h152 : a.tmps.getD 152 undef = _ := By.given_get hg 35 rfl rfl (by kernel_rfl)
        have hg147 := By.given_get hg 30 rfl rfl (by kernel_rfl)
        refine By.yes (By.want_yes rfl rfl hg147) ?_
        clear hg147
        clear hs hg
        go_simp
        exact ⟨_, rfl, Grew.refl _, rfl⟩
      · intro a w ht hs hg -- 154
        have h153 : a.tmps.getD 153 undef = _ := By.given_get hg 36 rfl rfl (by kernel_rfl)
        have hg147 := By.given_get hg 30 rfl rfl (by kernel_rfl)
        refine By.yes (By.want_yes rfl rfl hg147) ?_
        clear hg147
        clear hs hg
        have hr := run_str w ((GS.out w ht).take hSl.symm (Nat.le_trans hns (Nat.le_of_eq hSl.symm)))
        go_simp
        exact ⟨_, rfl, Grew.refl _, rfl⟩
      · intro a w ht hs hg -- 155
        have h151 : a.tmps.getD 151 undef = _ := By.given_get hg 34 rfl rfl (by kernel_rfl)
        have h154 : a.tmps.getD 154 undef = _ := By.given_get hg 37 rfl rfl (by kernel_rfl)
        have hg147 := By.given_get hg 30 rfl rfl (by kernel_rfl)
        refine By.yes (By.want_yes rfl rfl hg147) ?_
        clear hg147
        clear hs hg
        rw [HZS.out] at h151
        go_simp
        exact ⟨_, rfl, Grew.refl _, congrArg Value.bool (by simp)⟩
      · intro a w ht hs hg -- 156
        have h147 : a.tmps.getD 147 undef = _ := By.given_get hg 30 rfl rfl (by kernel_rfl)
        have h155 : a.tmps.getD 155 undef = _ := By.given_get hg 38 rfl rfl (by kernel_rfl)
        refine By.yes rfl ?_
        clear hs hg
        go_simp
        exact ⟨_, rfl, Grew.refl _, rfl⟩
      · intro a w ht hs hg -- 10
        have h156 : a.tmps.getD 156 undef = _ := By.given_get hg 39 rfl rfl (by kernel_rfl)
        refine By.yes rfl ?_
        clear hs hg
        go_simp
        exact ⟨_, rfl, Grew.refl _, rfl⟩
      refine By.ends_is (By.ends_is (By.ends_is (By.ends_is (By.ends_is (By.ends_is (By.ends_is (By.ends_is (By.ends_is (By.ends_is (By.ends_is (By.ends_is (By.ends_is (By.ends_is (By.ends_is (By.ends_is (By.ends_is (By.ends_is (By.ends_is (By.ends_is (By.ends_skip fun v137 => (By.ends_is (By.ends_is (By.ends_is (By.ends_is (By.ends_is (By.ends_is (By.ends_is (By.ends_is (By.ends_is (By.ends_is (By.ends_is (By.ends_is (By.ends_is (By.ends_is (By.ends_is (By.ends_is (By.ends_is (By.ends_is (By.ends_is (By.ends_is (By.ends_nil fun w10 hw10 => ?_)))))))))))))))))))))))))))))))))))))))))
      simp only [Act.put, List.setIfInBounds_toArray, List.set_cons_succ, List.set_cons_zero]
      have hg10 : Below W9.heap.size W9.drew w10 := hw10
      have hb010 : Below w.heap.size w w10 := hb09.drew.trans (hg10.mono (by show w.heap.size ≤ W9.heap.size; omega))
      go_wp2
      go_ret
      exact ⟨rfl, hb010⟩



set_option maxRecDepth 100000 in
theorem lift (os : Os) (started : os.Started) (H : Type) (enc : TypeId × Value → H) :
    ReturnsInHanded {} Try.checked os 13 .any (Rows.chachaBackSpec.pre6 enc Try.prog Try.f13 Rows.chachaBackRow.domain false) (Rows.chachaBackSpec.post enc Try.prog Try.f13 false true false false) := by
  refine Law.lifted (C := Try.checked) 4 own started (by kernel_rfl) Try.func13 laid (by kernel_rfl) rfl Try.underlying4 rfl
    (fun ds hd => by
      have hd' : ds.length = 5 := hd
      match ds, hd' with
      | [d0, d1, d2, d3, d4], _ => rfl)
    (ChangeSpec.witness6 (enc := enc) (C := Try.checked) false ⟨#[], #[arr8 (List.replicate 32 0), .int .u32 0, arr8 (List.replicate 12 0), .slice none 0 0, .int .i64 0], []⟩ 8 (by kernel_rfl) (by kernel_rfl) (by kernel_rfl) (by kernel_rfl)) ?_
  intro W args ds ps hst
  have hA : DataW.TrodAll enc Try.prog W 0 (fun _ => true) true Try.f13.params.toList args.toList ds ps := hst.trod
  have hok := hst.okw
  have hlt := hst.lt
  rw [Try.params13] at hA hok
  obtain ⟨v0, v1, v2, v3, v4, d0, d1, d2, d3, d4, p3, p4, rfl, rfl, h3, h4, hp3⟩ := trodAll_five hA
  obtain ⟨_, hv0⟩ := hok 0 55 v0 rfl rfl
  obtain ⟨_, hv1⟩ := hok 1 34 v1 rfl rfl
  obtain ⟨_, hv2⟩ := hok 2 56 v2 rfl rfl
  obtain ⟨_, hv3⟩ := hok 3 24 v3 rfl rfl
  obtain ⟨_, hv4⟩ := hok 4 3 v4 rfl rfl
  obtain ⟨key, rfl, hkl⟩ := arr8_at Try.underlying55 (by kernel_rfl) (by kernel_rfl) Try.underlying5 hv0
  obtain ⟨c, rfl⟩ := word_at Try.underlying34 hv1
  obtain ⟨nonce, rfl, hnl⟩ := arr8_at Try.underlying56 (by kernel_rfl) (by kernel_rfl) Try.underlying5 hv2
  obtain ⟨l, hb, hl⟩ := Law.bytes_at Try.underlying24 hv3 h3 (fun x hx => hlt x (hp3 x hx))
  obtain ⟨cut, rfl, hn1, hn2⟩ := Law.int_at Try.underlying3 hv4 h4
  obtain ⟨A, cap, rfl, _⟩ := id hb
  rcases Nat.lt_or_ge 300 l.length with h | h
  · exact long key nonce A cap c l.length cut h W
  · exact walk key nonce l A cap c cut hkl hnl h ⟨hn1, hn2⟩ W hb

theorem over : Rows.chachaBackRow.holds Try.pinned (OpenSpec.ofChange Rows.chachaBackSpec) :=
  OpenClaim.holds_of_wide 13 Try.f13 rfl rfl rfl rfl rfl rfl rfl ⟨rfl, rfl, rfl, rfl, rfl⟩ rfl rfl rfl rfl rfl (by kernel_rfl) Try.func13 (by kernel_rfl)
    (of_decide_eq_true (by kernel_rfl)) (by unfold Func.isWrapper; first | (rw [if_pos (by decide +kernel)]; kernel_rfl) | (rw [if_neg (by decide +kernel)]; exact ⟨rfl, rfl⟩))
    (fun os started H enc _ => lift os started H enc)
theorem proved : Rows.ChachaBackSaid := over
#print axioms proved
end Go.Proofs.Ytmfjlcgbanidnaa.chachaBack
