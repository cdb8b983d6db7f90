/- Quarter rounds, rounds, states, blocks and key streams are what the reference says: 'drawbridgelaw02.ChachaCalls', for every argument. -/
import Derived.Test.YtcacopcihlhmiaaChaRXor
import Derived.Test.YtcacopcihlhmiaaChaTwice
import Derived.Test.YtcacopcihlhmiaaChaLives
import Derived.Test.YtcacopcihlhmiaaKit
import Derived.Test.YtcacopcihlhmiaaEqArr
namespace Go.Proofs.Ytcacopcihlhmiaa.chachaCalls
open Go.ChangeShapes Go.WideShapes Go.ChangeAt Go.RowKit
open Cha (own mixed laid)

theorem RXor_any (key nonce l : List UInt8) (v : Value) (c : BitVec 32) (hk : key.length = 32) (hn : nonce.length = 12) (w : World) (hb : Bs w w.heap.size v l) (hl : l.length ≤ 1000000) :
    Calls Try.prog 17 #[arr8 key, wv c, arr8 nonce, v] w fun e w' => ∃ v, e = .returned (.tuple #[v, .int .i64 (Cha.err c l.length : Nat)]) ∧ Own w' w.heap.size v (Cha.out key c nonce l) ∧ Below w.heap.size w w' := by
  rcases Cha.err_cases c l.length with ⟨he, hlong⟩ | ⟨he, hlong⟩
  · rw [he, Cha.out_long _ _ _ _ hlong]
    obtain ⟨A, cap, rfl, _, _⟩ := hb
    refine (RXor_long key nonce A cap c l.length w (by omega) hlong).mono ?_
    rintro e w' ⟨rfl, h⟩
    exact ⟨_, rfl, Own.nil _ _, h⟩
  · rw [he, Cha.out_ok _ _ _ _ he]
    exact (RXor_ok key nonce l v c hk hn w hb hl hlong).mono fun e w' ⟨v, h1, h2, h3⟩ => ⟨v, h1, h2, h3⟩

/-- A result with an error beside bytes of its own. -/
def resM (lo : Nat) (l : List UInt8) (e : Nat) : By.Mark Grew := ⟨fun v w => ∃ x, v = .tuple #[x, .int .i64 (e : Int)] ∧ Own w lo x l, fun _ _ _ h k => by
  obtain ⟨x, h1, h2⟩ := h
  exact ⟨x, h1, h2.below k (Nat.le_refl _)⟩⟩

theorem trodAll_five {H : Type} {enc : TypeId × Value → H} {P : Program} {w : World} {base : Nat} {spare : Nat → Bool} {held : Bool} {t0 t1 t2 t3 t4 : TypeId} {args : Array Value} {ds : List (DataW H)} {ps : List MemPlace} (h : DataW.TrodAll enc P w base spare held [t0, t1, t2, t3, t4] args.toList ds ps) :
    ∃ v0 v1 v2 v3 v4 d0 d1 d2 d3 d4 p4, args = #[v0, v1, v2, v3, v4] ∧ ds = [d0, d1, d2, d3, d4] ∧ DataW.Trod enc P w base spare held t4 v4 d4 p4 ∧ ∀ x ∈ p4, x ∈ ps := by
  obtain ⟨v0, vs, d0, ds', p, q, hargs, rfl, rfl, hd, hrest⟩ := trodAll_cons h
  obtain ⟨v1, vs1, d1, ds1, p1, q1, rfl, rfl, rfl, hd1, hrest1⟩ := trodAll_cons hrest
  obtain ⟨v2, vs2, d2, ds2, p2, q2, rfl, rfl, rfl, hd2, hrest2⟩ := trodAll_cons hrest1
  obtain ⟨v3, vs3, d3, ds3, p3, q3, rfl, rfl, rfl, hd3, hrest3⟩ := trodAll_cons hrest2
  obtain ⟨v4, vs4, d4, ds4, p4, q4, rfl, rfl, rfl, hd4, hrest4⟩ := trodAll_cons hrest3
  obtain ⟨rfl, rfl, rfl⟩ := trodAll_nil hrest4
  exact ⟨v0, v1, v2, v3, v4, d0, d1, d2, d3, d4, p4, by cases args; simp_all, rfl, hd4, fun x hx => by simp [hx]⟩

theorem long (s : List (BitVec 32)) (key nonce : List UInt8) (A : Option Addr) (cap : Nat) (c : BitVec 32) (n : Nat) (hl : 300 < n) (w : World) :
    Calls Try.prog 3 #[arr32 s, arr8 key, wv c, arr8 nonce, .slice A n cap] w fun e w' => e = .returned (.bool true) ∧ Below w.heap.size w w' := by
  have hl' : (300 : Int) < (n : Int) := by omega
  unfold arr8 arr32
  go_enter Try.func3, Try.ntmps3
  have Hb1 := Lib.hid (show Below w.heap.size w (((w.alloc (.cells (s.map wv).toArray 23)).alloc (.cells (key.map bv).toArray 24)).alloc (.cells (nonce.map bv).toArray 25)) from (((Below.refl _ w).alloc (Nat.le_refl _) _).alloc (by simp) _).alloc (by simp; omega) _)
  go_wp2_with fail
  refine (Cha.lives_any _).mono ?_
  rintro e w2 ⟨rfl, hb2⟩
  have hb02 := nextB Hb1.out (Nat.le_refl _) hb2
  go_wp2
  go_ret
  exact ⟨rfl, hb02⟩

set_option maxRecDepth 8000 in
set_option maxHeartbeats 8000000 in
theorem walk (s : List (BitVec 32)) (key nonce l : List UInt8) (A : Option Addr) (cap : Nat) (c : BitVec 32) (hs : s.length = 16) (hk : key.length = 32) (hn : nonce.length = 12) (hl : l.length ≤ 300) (w : World) (hb : Bs w w.heap.size (.slice A l.length cap) l) :
    Calls Try.prog 3 #[arr32 s, arr8 key, wv c, arr8 nonce, .slice A l.length cap] w fun e w' => e = .returned (.bool true) ∧ Below w.heap.size w w' := by
  have hl' : ¬ (300 : Int) < (l.length : Int) := by omega
  have Hsl := Lib.hid (show (s.map wv).length = 16 by simpa using hs)
  have Hkl := Lib.hid (show (key.map bv).length = 32 by simpa using hk)
  have Hnl := Lib.hid (show (nonce.map bv).length = 12 by simpa using hn)
  have Hs := Lib.hid hs
  have Hk := Lib.hid hk
  have Hn := Lib.hid hn
  have Hb := Lib.hid hb
  clear hs hk hn hb
  unfold arr8 arr32
  go_enter Try.func3, Try.ntmps3
  have hb1 : Below w.heap.size w (((w.alloc (.cells (s.map wv).toArray 23)).alloc (.cells (key.map bv).toArray 24)).alloc (.cells (nonce.map bv).toArray 25)) := (((Below.refl _ w).alloc (Nat.le_refl _) _).alloc (by simp) _).alloc (by simp; omega) _
  have hw1 : Row (((w.alloc (.cells (s.map wv).toArray 23)).alloc (.cells (key.map bv).toArray 24)).alloc (.cells (nonce.map bv).toArray 25)) w.heap.size (s.map wv) 23 := ((Row.new rfl rfl).alloc _).alloc _
  have hk1 : Row (((w.alloc (.cells (s.map wv).toArray 23)).alloc (.cells (key.map bv).toArray 24)).alloc (.cells (nonce.map bv).toArray 25)) (w.heap.size + 1) (key.map bv) 24 := (Row.new (by simp) rfl).alloc _
  have hn1 : Row (((w.alloc (.cells (s.map wv).toArray 23)).alloc (.cells (key.map bv).toArray 24)).alloc (.cells (nonce.map bv).toArray 25)) (w.heap.size + 1 + 1) (nonce.map bv) 25 := Row.new (by simp) rfl
  have Hb1 := Lib.hid hb1
  have Hw1 := Lib.hid hw1
  have Hk1 := Lib.hid hk1
  have Hn1 := Lib.hid hn1
  clear hb1 hw1 hk1 hn1
  go_wp2_with fail
  refine (Cha.lives_any _).mono ?_
  rintro e w1 ⟨rfl, hb2⟩
  have hb01 := nextB Hb1.out (Nat.le_refl _) hb2
  have Hw2 := Lib.hid (Hw1.out.below hb2 Hw1.out.lt)
  have Hk2 := Lib.hid (Hk1.out.below hb2 Hk1.out.lt)
  have Hn2 := Lib.hid (Hn1.out.below hb2 Hn1.out.lt)
  clear hb2 Hb1 Hw1 Hk1 Hn1
  have hc0 := Hw2.out.cell (getD_word s 0 (by rw [Hs.out]; decide))
  have hc1 := Hw2.out.cell (getD_word s 1 (by rw [Hs.out]; decide))
  have hc2 := Hw2.out.cell (getD_word s 2 (by rw [Hs.out]; decide))
  have hc3 := Hw2.out.cell (getD_word s 3 (by rw [Hs.out]; decide))
  go_wp2_with fail
  refine (Quarter_any ⟨Cha.at_ s 0, Cha.at_ s 1, Cha.at_ s 2, Cha.at_ s 3⟩ w1).mono ?_
  rintro e w' ⟨rfl, rfl⟩
  obtain ⟨q, hq⟩ : ∃ q, Cha.quarter ⟨Cha.at_ s 0, Cha.at_ s 1, Cha.at_ s 2, Cha.at_ s 3⟩ = q := ⟨_, rfl⟩
  rw [hq]
  have Hq := Lib.hid hq
  clear hq
  unfold qv
  go_wp2_with fail
  refine (RQuarter_any ⟨Cha.at_ s 0, Cha.at_ s 1, Cha.at_ s 2, Cha.at_ s 3⟩ w1).mono ?_
  rintro e w2 ⟨rfl, hb2⟩
  rw [Hq.out]
  have hb02 := nextB hb01 (Nat.le_refl _) hb2
  have Hw2 := Lib.hid (Hw2.out.below hb2 Hw2.out.lt)
  have Hk2 := Lib.hid (Hk2.out.below hb2 Hk2.out.lt)
  have Hn2 := Lib.hid (Hn2.out.below hb2 Hn2.out.lt)
  clear hb2 hb01 hc0 hc1 hc2 hc3
  have hsz2 : w.heap.size ≤ w2.heap.size := hb02.size
  unfold qv
  go_wp2_with fail
  have hS : ∀ W, Grew w2.drew W → Row W w.heap.size (s.map wv) 23 := fun W hW => Row.below (w := w2.drew) Hw2.out hW Hw2.out.lt
  have hK : ∀ W, Grew w2.drew W → Row W (w.heap.size + 1) (key.map bv) 24 := fun W hW => Row.below (w := w2.drew) Hk2.out hW Hk2.out.lt
  have hN : ∀ W, Grew w2.drew W → Row W (w.heap.size + 1 + 1) (nonce.map bv) 25 := fun W hW => Row.below (w := w2.drew) Hn2.out hW Hn2.out.lt
  have hB : ∀ W, Grew w2.drew W → Bs W w.heap.size (.slice A l.length cap) l := fun W hW => Bs.below (w := w2.drew) (Bs.drew (Hb.out.below hb02)) (hW.mono (by show w.heap.size ≤ w2.heap.size; omega))
  have HS := Lib.hid hS
  have HK := Lib.hid hK
  have HN := Lib.hid hN
  have HB := Lib.hid hB
  clear hS hK hN hB
  refine By.marks mixed Grew [By.is (arr8 key),
    By.is (wv c),
    By.is (arr8 nonce),
    By.is (.slice A l.length cap),
    ownM w2.heap.size l,
    resM w2.heap.size (Cha.out key c nonce l) (Cha.err c l.length),
    resM w2.heap.size (Cha.out key c nonce l) (Cha.err c l.length),
    ownM w2.heap.size (Cha.out key c nonce l),
    By.is (.int .i64 (((Cha.err c l.length) : Nat) : Int)),
    ownM w2.heap.size (Cha.out key c nonce l),
    By.is (.int .i64 (((Cha.err c l.length) : Nat) : Int))]
    (Ev.masks _ []) (by kernel_rfl) rfl Grew.refl Grew.trans ⟨?_, ?_, ?_, ?_, ?_, ?_, ?_, ?_, ?_, ?_, ?_, trivial⟩ ?_
  · intro a w ht hs hg -- 57
    have h6 := By.same_get hs 6 (by decide) (by kernel_rfl)
    refine By.yes rfl ?_
    clear hs hg
    refine wp_loadRow 24 _ rfl h6 (HK.out w ht) Try.underlying24 rfl (by kernel_rfl) Hkl.out ?_
    exact ⟨_, rfl, Grew.refl _, rfl⟩
  · intro a w ht hs hg -- 58
    have h2 := By.same_get hs 2 (by decide) (by kernel_rfl)
    refine By.yes rfl ?_
    clear hs hg
    go_simp
    exact ⟨_, rfl, Grew.refl _, rfl⟩
  · intro a w ht hs hg -- 59
    have h8 := By.same_get hs 8 (by decide) (by kernel_rfl)
    refine By.yes rfl ?_
    clear hs hg
    refine wp_loadRow 25 _ rfl h8 (HN.out w ht) Try.underlying25 rfl (by kernel_rfl) Hnl.out ?_
    exact ⟨_, rfl, Grew.refl _, rfl⟩
  · intro a w ht hs hg -- 60
    have h4 := By.same_get hs 4 (by decide) (by kernel_rfl)
    refine By.yes rfl ?_
    clear hs hg
    go_simp
    exact ⟨_, rfl, Grew.refl _, rfl⟩
  · intro a w ht hs hg -- 61
    have h60 : a.tmps.getD 60 undef = _ := By.given_get hg 3 rfl rfl (by kernel_rfl)
    refine By.yes rfl ?_
    clear hs hg
    go_simp
    refine (Own_any _ l w ((HB.out w ht).more (by have : w2.heap.size ≤ w.heap.size := ht.size; omega)) (by omega)).mono ?_
    rintro e w' ⟨v, rfl, ho, hb⟩
    exact ⟨_, rfl, hb, ho.less ht.size⟩
  · intro a w ht hs hg -- 62
    have h57 : a.tmps.getD 57 undef = _ := By.given_get hg 0 rfl rfl (by kernel_rfl)
    have h58 : a.tmps.getD 58 undef = _ := By.given_get hg 1 rfl rfl (by kernel_rfl)
    have h59 : a.tmps.getD 59 undef = _ := By.given_get hg 2 rfl rfl (by kernel_rfl)
    have h61 := By.given_get hg 4 rfl rfl (by kernel_rfl)
    refine By.yes rfl ?_
    obtain ⟨v61, hv61⟩ : ∃ v, a.tmps.getD 61 undef = v := ⟨_, rfl⟩
    replace h61 := (congrArg (fun v => (ownM w2.heap.size l).on v w) hv61).mp h61
    clear hs hg
    have Hx := Lib.hid h61
    clear h61
    unfold arr8 at h57 h59
    go_simp
    refine (Xor_any key nonce l _ c Hk.out Hn.out w (Own.bs Hx.out) (by omega)).mono ?_
    rintro e w' ⟨v, rfl, ho, hb⟩
    exact ⟨_, rfl, hb, ⟨_, rfl, ho.less ht.size⟩⟩
  · intro a w ht hs hg -- 56
    have h62 := By.given_get hg 5 rfl rfl (by kernel_rfl)
    refine By.yes rfl ?_
    obtain ⟨v62, hv62⟩ : ∃ v, a.tmps.getD 62 undef = v := ⟨_, rfl⟩
    replace h62 := (congrArg (fun v => (resM w2.heap.size (Cha.out key c nonce l) (Cha.err c l.length)).on v w) hv62).mp h62
    clear hs hg
    go_simp
    exact ⟨_, rfl, Grew.refl _, h62⟩
  · intro a w ht hs hg -- 63
    have h56 := By.given_get hg 6 rfl rfl (by kernel_rfl)
    refine By.yes rfl ?_
    obtain ⟨v56, hv56⟩ : ∃ v, a.tmps.getD 56 undef = v := ⟨_, rfl⟩
    replace h56 := (congrArg (fun v => (resM w2.heap.size (Cha.out key c nonce l) (Cha.err c l.length)).on v w) hv56).mp h56
    clear hs hg
    obtain ⟨x, rfl, hx⟩ := h56
    have Hx := Lib.hid hx
    clear hx
    go_simp
    exact ⟨_, rfl, Grew.refl _, Hx.out⟩
  · intro a w ht hs hg -- 64
    have h56 := By.given_get hg 6 rfl rfl (by kernel_rfl)
    refine By.yes rfl ?_
    obtain ⟨v56, hv56⟩ : ∃ v, a.tmps.getD 56 undef = v := ⟨_, rfl⟩
    replace h56 := (congrArg (fun v => (resM w2.heap.size (Cha.out key c nonce l) (Cha.err c l.length)).on v w) hv56).mp h56
    clear hs hg
    obtain ⟨x, rfl, hx⟩ := h56
    clear hx
    go_simp
    exact ⟨_, rfl, Grew.refl _, rfl⟩
  · intro a w ht hs hg -- 19
    have h63 := By.given_get hg 7 rfl rfl (by kernel_rfl)
    refine By.yes rfl ?_
    obtain ⟨v63, hv63⟩ : ∃ v, a.tmps.getD 63 undef = v := ⟨_, rfl⟩
    replace h63 := (congrArg (fun v => (ownM w2.heap.size (Cha.out key c nonce l)).on v w) hv63).mp h63
    clear hs hg
    have Hx := Lib.hid h63
    clear h63
    go_simp
    exact ⟨_, rfl, Grew.refl _, Hx.out⟩
  · intro a w ht hs hg -- 20
    have h64 : a.tmps.getD 64 undef = _ := By.given_get hg 8 rfl rfl (by kernel_rfl)
    refine By.yes rfl ?_
    clear hs hg
    go_simp
    exact ⟨_, rfl, Grew.refl _, rfl⟩
  refine By.ends_is (By.ends_is (By.ends_is (By.ends_is (By.ends_skip fun v61 => (By.ends_skip fun v62 => (By.ends_skip fun v56 => (By.ends_skip fun v63 => (By.ends_is (By.ends_any fun v19 => (By.ends_is (By.ends_nil fun w3 hw3 => ?_)))))))))))
  simp only [Act.put, List.setIfInBounds_toArray, List.set_cons_succ, List.set_cons_zero]
  obtain ⟨hg, ho19⟩ := hw3
  have H19 := Lib.hid (show Own w3 w2.heap.size v19 (Cha.out key c nonce l) from ho19)
  have hg : Below w2.heap.size w2.drew w3 := hg
  have hb03 : Below w.heap.size w w3 := hb02.drew.trans (hg.mono (by show w.heap.size ≤ w2.heap.size; omega))
  have Hw2 := Lib.hid (HS.out _ hg)
  have Hk2 := Lib.hid (HK.out _ hg)
  have Hn2 := Lib.hid (HN.out _ hg)
  have hbs3 := (Hb.out.below hb03).more hb03.size
  have Hbs3 := Lib.hid hbs3
  clear hg HS HK HN HB ho19 hbs3
  unfold arr8
  go_wp2_with (first
    | (refine wpList_loadRow rfl 24 _ rfl rfl Hk2.out Try.underlying24 rfl (by kernel_rfl) Hkl.out ?_)
    | (refine wpList_loadRow rfl 25 _ rfl rfl Hn2.out Try.underlying25 rfl (by kernel_rfl) Hnl.out ?_)
    | fail)
  refine (RXor_any key nonce l _ c Hk.out Hn.out w3 Hbs3.out (by omega)).mono ?_
  rintro e w4 ⟨v21, rfl, ho21, hb4⟩
  have hb04 := nextB hb03 (Nat.le_refl _) hb4
  have H19 := Lib.hid (H19.out.below hb4 (Nat.le_refl _))
  have H21 := Lib.hid ho21
  have Hw2 := Lib.hid (Hw2.out.below hb4 Hw2.out.lt)
  have Hk2 := Lib.hid (Hk2.out.below hb4 Hk2.out.lt)
  have Hn2 := Lib.hid (Hn2.out.below hb4 Hn2.out.lt)
  have hsz4 : w.heap.size ≤ w4.heap.size := hb04.size
  clear hb4 ho21 Hbs3
  go_wp2_with fail
  have h19 : ∀ W, Grew w4.drew W → Bs W W.heap.size v19 (Cha.out key c nonce l) := fun W hW => (Own.below (w := w4.drew) H19.out.drew hW (Nat.le_refl _)).bs
  have h21 : ∀ W, Grew w4.drew W → Bs W W.heap.size v21 (Cha.out key c nonce l) := fun W hW => (Own.below (w := w4.drew) H21.out.drew hW (Nat.le_refl _)).bs
  have G19 := Lib.hid h19
  have G21 := Lib.hid h21
  clear h19 h21
  have hS : ∀ W, Grew w4.drew W → Row W w.heap.size (s.map wv) 23 := fun W hW => Row.below (w := w4.drew) Hw2.out hW Hw2.out.lt
  have hK : ∀ W, Grew w4.drew W → Row W (w.heap.size + 1) (key.map bv) 24 := fun W hW => Row.below (w := w4.drew) Hk2.out hW Hk2.out.lt
  have hN : ∀ W, Grew w4.drew W → Row W (w.heap.size + 1 + 1) (nonce.map bv) 25 := fun W hW => Row.below (w := w4.drew) Hn2.out hW Hn2.out.lt
  have hB : ∀ W, Grew w4.drew W → Bs W w.heap.size (.slice A l.length cap) l := fun W hW => Bs.below (w := w4.drew) (Bs.drew (Hb.out.below hb04)) (hW.mono (by show w.heap.size ≤ w4.heap.size; omega))
  have HS := Lib.hid hS
  have HK := Lib.hid hK
  have HN := Lib.hid hN
  have HB := Lib.hid hB
  clear hS hK hN hB
  refine By.marks mixed Grew [By.is (wv q.a),
    By.is (wv q.a),
    By.is (.bool true),
    By.is (.bool true),
    By.is (wv q.b),
    By.is (wv q.b),
    By.is (.bool true),
    By.is (.bool true),
    By.is (.bool true),
    By.is (wv q.c),
    By.is (wv q.c),
    By.is (.bool true),
    By.is (.bool true),
    By.is (.bool true),
    By.is (wv q.d),
    By.is (wv q.d),
    By.is (.bool true),
    By.is (.bool true),
    By.is (.bool true),
    By.is (arr32 s),
    By.is (arr32 (Cha.round s)),
    By.is (arr32 s),
    By.is (arr32 (Cha.round s)),
    By.is (.bool true),
    By.is (.bool true),
    By.is (.bool true),
    By.is (arr8 key),
    By.is (wv c),
    By.is (arr8 nonce),
    By.is (arr32 (Cha.state key c nonce)),
    By.is (arr8 key),
    By.is (wv c),
    By.is (arr8 nonce),
    By.is (arr32 (Cha.state key c nonce)),
    By.is (.bool true),
    By.is (.bool true),
    By.is (.bool true),
    By.is (arr8 key),
    By.is (wv c),
    By.is (arr8 nonce),
    By.is (arr8 (Cha.block key c nonce)),
    By.is (arr8 key),
    By.is (wv c),
    By.is (arr8 nonce),
    By.is (arr8 (Cha.block key c nonce)),
    By.is (.bool true),
    By.is (.bool true),
    By.is (.bool true),
    By.is v19,
    By.is (strOf (Cha.out key c nonce l)),
    By.is v21,
    By.is (strOf (Cha.out key c nonce l)),
    By.is (.bool true),
    By.is (.bool true),
    By.is (.bool true),
    By.is (.int .i64 (((Cha.err c l.length) : Nat) : Int)),
    By.is (.int .i64 (((Cha.err c l.length) : Nat) : Int)),
    By.is (.bool true),
    By.is (.bool true),
    By.is (.bool true)]
    (Ev.masks _ []) (by kernel_rfl) rfl Grew.refl Grew.trans ⟨?_, ?_, ?_, ?_, ?_, ?_, ?_, ?_, ?_, ?_, ?_, ?_, ?_, ?_, ?_, ?_, ?_, ?_, ?_, ?_, ?_, ?_, ?_, ?_, ?_, ?_, ?_, ?_, ?_, ?_, ?_, ?_, ?_, ?_, ?_, ?_, ?_, ?_, ?_, ?_, ?_, ?_, ?_, ?_, ?_, ?_, ?_, ?_, ?_, ?_, ?_, ?_, ?_, ?_, ?_, ?_, ?_, ?_, ?_, ?_, trivial⟩ ?_
  · intro a w ht hs hg -- 73
    have h11 := By.same_get hs 11 (by decide) (by kernel_rfl)
    refine By.yes rfl ?_
    clear hs hg
    go_simp
    exact ⟨_, rfl, Grew.refl _, rfl⟩
  · intro a w ht hs hg -- 74
    have h15 := By.same_get hs 15 (by decide) (by kernel_rfl)
    refine By.yes rfl ?_
    clear hs hg
    go_simp
    exact ⟨_, rfl, Grew.refl _, rfl⟩
  · intro a w ht hs hg -- 75
    have h73 : a.tmps.getD 73 undef = _ := By.given_get hg 0 rfl rfl (by kernel_rfl)
    have h74 : a.tmps.getD 74 undef = _ := By.given_get hg 1 rfl rfl (by kernel_rfl)
    refine By.yes rfl ?_
    clear hs hg
    go_simp
    exact ⟨_, rfl, Grew.refl _, congrArg Value.bool (by simp)⟩
  · intro a w ht hs hg -- 76
    have h75 : a.tmps.getD 75 undef = _ := By.given_get hg 2 rfl rfl (by kernel_rfl)
    refine By.yes rfl ?_
    clear hs hg
    go_simp
    exact ⟨_, rfl, Grew.refl _, rfl⟩
  · intro a w ht hs hg -- 77
    have h12 := By.same_get hs 12 (by decide) (by kernel_rfl)
    have hg76 := By.given_get hg 3 rfl rfl (by kernel_rfl)
    refine By.yes (By.want_yes rfl rfl hg76) ?_
    clear hg76
    clear hs hg
    go_simp
    exact ⟨_, rfl, Grew.refl _, rfl⟩
  · intro a w ht hs hg -- 78
    have h16 := By.same_get hs 16 (by decide) (by kernel_rfl)
    have hg76 := By.given_get hg 3 rfl rfl (by kernel_rfl)
    refine By.yes (By.want_yes rfl rfl hg76) ?_
    clear hg76
    clear hs hg
    go_simp
    exact ⟨_, rfl, Grew.refl _, rfl⟩
  · intro a w ht hs hg -- 79
    have h77 : a.tmps.getD 77 undef = _ := By.given_get hg 4 rfl rfl (by kernel_rfl)
    have h78 : a.tmps.getD 78 undef = _ := By.given_get hg 5 rfl rfl (by kernel_rfl)
    have hg76 := By.given_get hg 3 rfl rfl (by kernel_rfl)
    refine By.yes (By.want_yes rfl rfl hg76) ?_
    clear hg76
    clear hs hg
    go_simp
    exact ⟨_, rfl, Grew.refl _, congrArg Value.bool (by simp)⟩
  · intro a w ht hs hg -- 80
    have h76 : a.tmps.getD 76 undef = _ := By.given_get hg 3 rfl rfl (by kernel_rfl)
    have h79 : a.tmps.getD 79 undef = _ := By.given_get hg 6 rfl rfl (by kernel_rfl)
    refine By.yes rfl ?_
    clear hs hg
    go_simp
    exact ⟨_, rfl, Grew.refl _, rfl⟩
  · intro a w ht hs hg -- 81
    have h80 : a.tmps.getD 80 undef = _ := By.given_get hg 7 rfl rfl (by kernel_rfl)
    refine By.yes rfl ?_
    clear hs hg
    go_simp
    exact ⟨_, rfl, Grew.refl _, rfl⟩
  · intro a w ht hs hg -- 82
    have h13 := By.same_get hs 13 (by decide) (by kernel_rfl)
    have hg81 := By.given_get hg 8 rfl rfl (by kernel_rfl)
    refine By.yes (By.want_yes rfl rfl hg81) ?_
    clear hg81
    clear hs hg
    go_simp
    exact ⟨_, rfl, Grew.refl _, rfl⟩
  · intro a w ht hs hg -- 83
    have h17 := By.same_get hs 17 (by decide) (by kernel_rfl)
    have hg81 := By.given_get hg 8 rfl rfl (by kernel_rfl)
    refine By.yes (By.want_yes rfl rfl hg81) ?_
    clear hg81
    clear hs hg
    go_simp
    exact ⟨_, rfl, Grew.refl _, rfl⟩
  · intro a w ht hs hg -- 84
    have h82 : a.tmps.getD 82 undef = _ := By.given_get hg 9 rfl rfl (by kernel_rfl)
    have h83 : a.tmps.getD 83 undef = _ := By.given_get hg 10 rfl rfl (by kernel_rfl)
    have hg81 := By.given_get hg 8 rfl rfl (by kernel_rfl)
    refine By.yes (By.want_yes rfl rfl hg81) ?_
    clear hg81
    clear hs hg
    go_simp
    exact ⟨_, rfl, Grew.refl _, congrArg Value.bool (by simp)⟩
  · intro a w ht hs hg -- 85
    have h81 : a.tmps.getD 81 undef = _ := By.given_get hg 8 rfl rfl (by kernel_rfl)
    have h84 : a.tmps.getD 84 undef = _ := By.given_get hg 11 rfl rfl (by kernel_rfl)
    refine By.yes rfl ?_
    clear hs hg
    go_simp
    exact ⟨_, rfl, Grew.refl _, rfl⟩
  · intro a w ht hs hg -- 86
    have h85 : a.tmps.getD 85 undef = _ := By.given_get hg 12 rfl rfl (by kernel_rfl)
    refine By.yes rfl ?_
    clear hs hg
    go_simp
    exact ⟨_, rfl, Grew.refl _, rfl⟩
  · intro a w ht hs hg -- 87
    have h14 := By.same_get hs 14 (by decide) (by kernel_rfl)
    have hg86 := By.given_get hg 13 rfl rfl (by kernel_rfl)
    refine By.yes (By.want_yes rfl rfl hg86) ?_
    clear hg86
    clear hs hg
    go_simp
    exact ⟨_, rfl, Grew.refl _, rfl⟩
  · intro a w ht hs hg -- 88
    have h18 := By.same_get hs 18 (by decide) (by kernel_rfl)
    have hg86 := By.given_get hg 13 rfl rfl (by kernel_rfl)
    refine By.yes (By.want_yes rfl rfl hg86) ?_
    clear hg86
    clear hs hg
    go_simp
    exact ⟨_, rfl, Grew.refl _, rfl⟩
  · intro a w ht hs hg -- 89
    have h87 : a.tmps.getD 87 undef = _ := By.given_get hg 14 rfl rfl (by kernel_rfl)
    have h88 : a.tmps.getD 88 undef = _ := By.given_get hg 15 rfl rfl (by kernel_rfl)
    have hg86 := By.given_get hg 13 rfl rfl (by kernel_rfl)
    refine By.yes (By.want_yes rfl rfl hg86) ?_
    clear hg86
    clear hs hg
    go_simp
    exact ⟨_, rfl, Grew.refl _, congrArg Value.bool (by simp)⟩
  · intro a w ht hs hg -- 90
    have h86 : a.tmps.getD 86 undef = _ := By.given_get hg 13 rfl rfl (by kernel_rfl)
    have h89 : a.tmps.getD 89 undef = _ := By.given_get hg 16 rfl rfl (by kernel_rfl)
    refine By.yes rfl ?_
    clear hs hg
    go_simp
    exact ⟨_, rfl, Grew.refl _, rfl⟩
  · intro a w ht hs hg -- 91
    have h90 : a.tmps.getD 90 undef = _ := By.given_get hg 17 rfl rfl (by kernel_rfl)
    refine By.yes rfl ?_
    clear hs hg
    go_simp
    exact ⟨_, rfl, Grew.refl _, rfl⟩
  · intro a w ht hs hg -- 92
    have h5 := By.same_get hs 5 (by decide) (by kernel_rfl)
    have hg91 := By.given_get hg 18 rfl rfl (by kernel_rfl)
    refine By.yes (By.want_yes rfl rfl hg91) ?_
    clear hg91
    clear hs hg
    refine wp_loadRow 23 _ rfl h5 (HS.out w ht) Try.underlying23 rfl (by kernel_rfl) Hsl.out ?_
    exact ⟨_, rfl, Grew.refl _, rfl⟩
  · intro a w ht hs hg -- 93
    have h92 : a.tmps.getD 92 undef = _ := By.given_get hg 19 rfl rfl (by kernel_rfl)
    have hg91 := By.given_get hg 18 rfl rfl (by kernel_rfl)
    refine By.yes (By.want_yes rfl rfl hg91) ?_
    clear hg91
    clear hs hg
    unfold arr32 at h92
    go_simp
    refine (Round_any s Hs.out w).mono ?_
    rintro e w' ⟨rfl, hb⟩
    exact ⟨_, rfl, hb, rfl⟩
  · intro a w ht hs hg -- 94
    have h5 := By.same_get hs 5 (by decide) (by kernel_rfl)
    have hg91 := By.given_get hg 18 rfl rfl (by kernel_rfl)
    refine By.yes (By.want_yes rfl rfl hg91) ?_
    clear hg91
    clear hs hg
    refine wp_loadRow 23 _ rfl h5 (HS.out w ht) Try.underlying23 rfl (by kernel_rfl) Hsl.out ?_
    exact ⟨_, rfl, Grew.refl _, rfl⟩
  · intro a w ht hs hg -- 95
    have h94 : a.tmps.getD 94 undef = _ := By.given_get hg 21 rfl rfl (by kernel_rfl)
    have hg91 := By.given_get hg 18 rfl rfl (by kernel_rfl)
    refine By.yes (By.want_yes rfl rfl hg91) ?_
    clear hg91
    clear hs hg
    unfold arr32 at h94
    go_simp
    refine (RRound_any s Hs.out w).mono ?_
    rintro e w' ⟨rfl, hb⟩
    exact ⟨_, rfl, hb, rfl⟩
  · intro a w ht hs hg -- 96
    have h93 : a.tmps.getD 93 undef = _ := By.given_get hg 20 rfl rfl (by kernel_rfl)
    have h95 : a.tmps.getD 95 undef = _ := By.given_get hg 22 rfl rfl (by kernel_rfl)
    have hg91 := By.given_get hg 18 rfl rfl (by kernel_rfl)
    refine By.yes (By.want_yes rfl rfl hg91) ?_
    clear hg91
    clear hs hg
    refine wp_eqArr _ _ rfl (by kernel_rfl) h93 h95 (run_eql_arr32 (P := Try.prog) Try.underlying23 Try.underlying22 (by kernel_rfl) (Cha.round s) (Cha.round s) (by rw [Cha.round_length]; exact Hs.out) (by rw [Cha.round_length]; exact Hs.out) w) ?_
    exact ⟨_, rfl, Grew.refl _, congrArg Value.bool (by simp)⟩
  · intro a w ht hs hg -- 97
    have h91 : a.tmps.getD 91 undef = _ := By.given_get hg 18 rfl rfl (by kernel_rfl)
    have h96 : a.tmps.getD 96 undef = _ := By.given_get hg 23 rfl rfl (by kernel_rfl)
    refine By.yes rfl ?_
    clear hs hg
    go_simp
    exact ⟨_, rfl, Grew.refl _, rfl⟩
  · intro a w ht hs hg -- 98
    have h97 : a.tmps.getD 97 undef = _ := By.given_get hg 24 rfl rfl (by kernel_rfl)
    refine By.yes rfl ?_
    clear hs hg
    go_simp
    exact ⟨_, rfl, Grew.refl _, rfl⟩
  · intro a w ht hs hg -- 99
    have h6 := By.same_get hs 6 (by decide) (by kernel_rfl)
    have hg98 := By.given_get hg 25 rfl rfl (by kernel_rfl)
    refine By.yes (By.want_yes rfl rfl hg98) ?_
    clear hg98
    clear hs hg
    refine wp_loadRow 24 _ rfl h6 (HK.out w ht) Try.underlying24 rfl (by kernel_rfl) Hkl.out ?_
    exact ⟨_, rfl, Grew.refl _, rfl⟩
  · intro a w ht hs hg -- 100
    have h2 := By.same_get hs 2 (by decide) (by kernel_rfl)
    have hg98 := By.given_get hg 25 rfl rfl (by kernel_rfl)
    refine By.yes (By.want_yes rfl rfl hg98) ?_
    clear hg98
    clear hs hg
    go_simp
    exact ⟨_, rfl, Grew.refl _, rfl⟩
  · intro a w ht hs hg -- 101
    have h8 := By.same_get hs 8 (by decide) (by kernel_rfl)
    have hg98 := By.given_get hg 25 rfl rfl (by kernel_rfl)
    refine By.yes (By.want_yes rfl rfl hg98) ?_
    clear hg98
    clear hs hg
    refine wp_loadRow 25 _ rfl h8 (HN.out w ht) Try.underlying25 rfl (by kernel_rfl) Hnl.out ?_
    exact ⟨_, rfl, Grew.refl _, rfl⟩
  · intro a w ht hs hg -- 102
    have h99 : a.tmps.getD 99 undef = _ := By.given_get hg 26 rfl rfl (by kernel_rfl)
    have h100 : a.tmps.getD 100 undef = _ := By.given_get hg 27 rfl rfl (by kernel_rfl)
    have h101 : a.tmps.getD 101 undef = _ := By.given_get hg 28 rfl rfl (by kernel_rfl)
    have hg98 := By.given_get hg 25 rfl rfl (by kernel_rfl)
    refine By.yes (By.want_yes rfl rfl hg98) ?_
    clear hg98
    clear hs hg
    unfold arr8 at h99 h101
    go_simp
    refine (State_any key nonce c Hk.out Hn.out w).mono ?_
    rintro e w' ⟨rfl, hb⟩
    exact ⟨_, rfl, hb, rfl⟩
  · intro a w ht hs hg -- 103
    have h6 := By.same_get hs 6 (by decide) (by kernel_rfl)
    have hg98 := By.given_get hg 25 rfl rfl (by kernel_rfl)
    refine By.yes (By.want_yes rfl rfl hg98) ?_
    clear hg98
    clear hs hg
    refine wp_loadRow 24 _ rfl h6 (HK.out w ht) Try.underlying24 rfl (by kernel_rfl) Hkl.out ?_
    exact ⟨_, rfl, Grew.refl _, rfl⟩
  · intro a w ht hs hg -- 104
    have h2 := By.same_get hs 2 (by decide) (by kernel_rfl)
    have hg98 := By.given_get hg 25 rfl rfl (by kernel_rfl)
    refine By.yes (By.want_yes rfl rfl hg98) ?_
    clear hg98
    clear hs hg
    go_simp
    exact ⟨_, rfl, Grew.refl _, rfl⟩
  · intro a w ht hs hg -- 105
    have h8 := By.same_get hs 8 (by decide) (by kernel_rfl)
    have hg98 := By.given_get hg 25 rfl rfl (by kernel_rfl)
    refine By.yes (By.want_yes rfl rfl hg98) ?_
    clear hg98
    clear hs hg
    refine wp_loadRow 25 _ rfl h8 (HN.out w ht) Try.underlying25 rfl (by kernel_rfl) Hnl.out ?_
    exact ⟨_, rfl, Grew.refl _, rfl⟩
  · intro a w ht hs hg -- 106
    have h103 : a.tmps.getD 103 undef = _ := By.given_get hg 30 rfl rfl (by kernel_rfl)
    have h104 : a.tmps.getD 104 undef = _ := By.given_get hg 31 rfl rfl (by kernel_rfl)
    have h105 : a.tmps.getD 105 undef = _ := By.given_get hg 32 rfl rfl (by kernel_rfl)
    have hg98 := By.given_get hg 25 rfl rfl (by kernel_rfl)
    refine By.yes (By.want_yes rfl rfl hg98) ?_
    clear hg98
    clear hs hg
    unfold arr8 at h103 h105
    go_simp
    refine (RState_any key nonce c Hk.out Hn.out w).mono ?_
    rintro e w' ⟨rfl, hb⟩
    exact ⟨_, rfl, hb, rfl⟩
  · intro a w ht hs hg -- 107
    have h102 : a.tmps.getD 102 undef = _ := By.given_get hg 29 rfl rfl (by kernel_rfl)
    have h106 : a.tmps.getD 106 undef = _ := By.given_get hg 33 rfl rfl (by kernel_rfl)
    have hg98 := By.given_get hg 25 rfl rfl (by kernel_rfl)
    refine By.yes (By.want_yes rfl rfl hg98) ?_
    clear hg98
    clear hs hg
    refine wp_eqArr _ _ rfl (by kernel_rfl) h102 h106 (run_eql_arr32 (P := Try.prog) Try.underlying23 Try.underlying22 (by kernel_rfl) (Cha.state key c nonce) (Cha.state key c nonce) (Cha.state_length _ _ _) (Cha.state_length _ _ _) w) ?_
    exact ⟨_, rfl, Grew.refl _, congrArg Value.bool (by simp)⟩
  · intro a w ht hs hg -- 108
    have h98 : a.tmps.getD 98 undef = _ := By.given_get hg 25 rfl rfl (by kernel_rfl)
    have h107 : a.tmps.getD 107 undef = _ := By.given_get hg 34 rfl rfl (by kernel_rfl)
    refine By.yes rfl ?_
    clear hs hg
    go_simp
    exact ⟨_, rfl, Grew.refl _, rfl⟩
  · intro a w ht hs hg -- 109
    have h108 : a.tmps.getD 108 undef = _ := By.given_get hg 35 rfl rfl (by kernel_rfl)
    refine By.yes rfl ?_
    clear hs hg
    go_simp
    exact ⟨_, rfl, Grew.refl _, rfl⟩
  · intro a w ht hs hg -- 110
    have h6 := By.same_get hs 6 (by decide) (by kernel_rfl)
    have hg109 := By.given_get hg 36 rfl rfl (by kernel_rfl)
    refine By.yes (By.want_yes rfl rfl hg109) ?_
    clear hg109
    clear hs hg
    refine wp_loadRow 24 _ rfl h6 (HK.out w ht) Try.underlying24 rfl (by kernel_rfl) Hkl.out ?_
    exact ⟨_, rfl, Grew.refl _, rfl⟩
  · intro a w ht hs hg -- 111
    have h2 := By.same_get hs 2 (by decide) (by kernel_rfl)
    have hg109 := By.given_get hg 36 rfl rfl (by kernel_rfl)
    refine By.yes (By.want_yes rfl rfl hg109) ?_
    clear hg109
    clear hs hg
    go_simp
    exact ⟨_, rfl, Grew.refl _, rfl⟩
  · intro a w ht hs hg -- 112
    have h8 := By.same_get hs 8 (by decide) (by kernel_rfl)
    have hg109 := By.given_get hg 36 rfl rfl (by kernel_rfl)
    refine By.yes (By.want_yes rfl rfl hg109) ?_
    clear hg109
    clear hs hg
    refine wp_loadRow 25 _ rfl h8 (HN.out w ht) Try.underlying25 rfl (by kernel_rfl) Hnl.out ?_
    exact ⟨_, rfl, Grew.refl _, rfl⟩
  · intro a w ht hs hg -- 113
    have h110 : a.tmps.getD 110 undef = _ := By.given_get hg 37 rfl rfl (by kernel_rfl)
    have h111 : a.tmps.getD 111 undef = _ := By.given_get hg 38 rfl rfl (by kernel_rfl)
    have h112 : a.tmps.getD 112 undef = _ := By.given_get hg 39 rfl rfl (by kernel_rfl)
    have hg109 := By.given_get hg 36 rfl rfl (by kernel_rfl)
    refine By.yes (By.want_yes rfl rfl hg109) ?_
    clear hg109
    clear hs hg
    unfold arr8 at h110 h112
    go_simp
    refine (Block_any key nonce c Hk.out Hn.out w).mono ?_
    rintro e w' ⟨rfl, hb⟩
    exact ⟨_, rfl, hb, rfl⟩
  · intro a w ht hs hg -- 114
    have h6 := By.same_get hs 6 (by decide) (by kernel_rfl)
    have hg109 := By.given_get hg 36 rfl rfl (by kernel_rfl)
    refine By.yes (By.want_yes rfl rfl hg109) ?_
    clear hg109
    clear hs hg
    refine wp_loadRow 24 _ rfl h6 (HK.out w ht) Try.underlying24 rfl (by kernel_rfl) Hkl.out ?_
    exact ⟨_, rfl, Grew.refl _, rfl⟩
  · intro a w ht hs hg -- 115
    have h2 := By.same_get hs 2 (by decide) (by kernel_rfl)
    have hg109 := By.given_get hg 36 rfl rfl (by kernel_rfl)
    refine By.yes (By.want_yes rfl rfl hg109) ?_
    clear hg109
    clear hs hg
    go_simp
    exact ⟨_, rfl, Grew.refl _, rfl⟩
  · intro a w ht hs hg -- 116
    have h8 := By.same_get hs 8 (by decide) (by kernel_rfl)
    have hg109 := By.given_get hg 36 rfl rfl (by kernel_rfl)
    refine By.yes (By.want_yes rfl rfl hg109) ?_
    clear hg109
    clear hs hg
    refine wp_loadRow 25 _ rfl h8 (HN.out w ht) Try.underlying25 rfl (by kernel_rfl) Hnl.out ?_
    exact ⟨_, rfl, Grew.refl _, rfl⟩
  · intro a w ht hs hg -- 117
    have h114 : a.tmps.getD 114 undef = _ := By.given_get hg 41 rfl rfl (by kernel_rfl)
    have h115 : a.tmps.getD 115 undef = _ := By.given_get hg 42 rfl rfl (by kernel_rfl)
    have h116 : a.tmps.getD 116 undef = _ := By.given_get hg 43 rfl rfl (by kernel_rfl)
    have hg109 := By.given_get hg 36 rfl rfl (by kernel_rfl)
    refine By.yes (By.want_yes rfl rfl hg109) ?_
    clear hg109
    clear hs hg
    unfold arr8 at h114 h116
    go_simp
    refine (RBlock_any key nonce c Hk.out Hn.out w).mono ?_
    rintro e w' ⟨rfl, hb⟩
    exact ⟨_, rfl, hb, rfl⟩
  · intro a w ht hs hg -- 118
    have h113 : a.tmps.getD 113 undef = _ := By.given_get hg 40 rfl rfl (by kernel_rfl)
    have h117 : a.tmps.getD 117 undef = _ := By.given_get hg 44 rfl rfl (by kernel_rfl)
    have hg109 := By.given_get hg 36 rfl rfl (by kernel_rfl)
    refine By.yes (By.want_yes rfl rfl hg109) ?_
    clear hg109
    clear hs hg
    refine wp_eqArr _ _ rfl (by kernel_rfl) h113 h117 (run_eql_arr8 (P := Try.prog) Try.underlying36 Try.underlying5 (by kernel_rfl) (Cha.block key c nonce) (Cha.block key c nonce) (Cha.block_length _ _ _) (Cha.block_length _ _ _) w) ?_
    exact ⟨_, rfl, Grew.refl _, congrArg Value.bool (by simp)⟩
  · intro a w ht hs hg -- 119
    have h109 : a.tmps.getD 109 undef = _ := By.given_get hg 36 rfl rfl (by kernel_rfl)
    have h118 : a.tmps.getD 118 undef = _ := By.given_get hg 45 rfl rfl (by kernel_rfl)
    refine By.yes rfl ?_
    clear hs hg
    go_simp
    exact ⟨_, rfl, Grew.refl _, rfl⟩
  · intro a w ht hs hg -- 120
    have h119 : a.tmps.getD 119 undef = _ := By.given_get hg 46 rfl rfl (by kernel_rfl)
    refine By.yes rfl ?_
    clear hs hg
    go_simp
    exact ⟨_, rfl, Grew.refl _, rfl⟩
  · intro a w ht hs hg -- 121
    have h19 := By.same_get hs 19 (by decide) (by kernel_rfl)
    have hg120 := By.given_get hg 47 rfl rfl (by kernel_rfl)
    refine By.yes (By.want_yes rfl rfl hg120) ?_
    clear hg120
    clear hs hg
    go_simp
    exact ⟨_, rfl, Grew.refl _, rfl⟩
  · intro a w ht hs hg -- 122
    have h121 : a.tmps.getD 121 undef = _ := By.given_get hg 48 rfl rfl (by kernel_rfl)
    have hg120 := By.given_get hg 47 rfl rfl (by kernel_rfl)
    refine By.yes (By.want_yes rfl rfl hg120) ?_
    clear hg120
    clear hs hg
    have hr := run_str w (G19.out w ht)
    go_simp
    exact ⟨_, rfl, Grew.refl _, rfl⟩
  · intro a w ht hs hg -- 123
    have h21 := By.same_get hs 21 (by decide) (by kernel_rfl)
    have hg120 := By.given_get hg 47 rfl rfl (by kernel_rfl)
    refine By.yes (By.want_yes rfl rfl hg120) ?_
    clear hg120
    clear hs hg
    go_simp
    exact ⟨_, rfl, Grew.refl _, rfl⟩
  · intro a w ht hs hg -- 124
    have h123 : a.tmps.getD 123 undef = _ := By.given_get hg 50 rfl rfl (by kernel_rfl)
    have hg120 := By.given_get hg 47 rfl rfl (by kernel_rfl)
    refine By.yes (By.want_yes rfl rfl hg120) ?_
    clear hg120
    clear hs hg
    have hr := run_str w (G21.out w ht)
    go_simp
    exact ⟨_, rfl, Grew.refl _, rfl⟩
  · intro a w ht hs hg -- 125
    have h122 : a.tmps.getD 122 undef = _ := By.given_get hg 49 rfl rfl (by kernel_rfl)
    have h124 : a.tmps.getD 124 undef = _ := By.given_get hg 51 rfl rfl (by kernel_rfl)
    have hg120 := By.given_get hg 47 rfl rfl (by kernel_rfl)
    refine By.yes (By.want_yes rfl rfl hg120) ?_
    clear hg120
    clear hs hg
    go_simp
    exact ⟨_, rfl, Grew.refl _, congrArg Value.bool (by simp)⟩
  · intro a w ht hs hg -- 126
    have h120 : a.tmps.getD 120 undef = _ := By.given_get hg 47 rfl rfl (by kernel_rfl)
    have h125 : a.tmps.getD 125 undef = _ := By.given_get hg 52 rfl rfl (by kernel_rfl)
    refine By.yes rfl ?_
    clear hs hg
    go_simp
    exact ⟨_, rfl, Grew.refl _, rfl⟩
  · intro a w ht hs hg -- 127
    have h126 : a.tmps.getD 126 undef = _ := By.given_get hg 53 rfl rfl (by kernel_rfl)
    refine By.yes rfl ?_
    clear hs hg
    go_simp
    exact ⟨_, rfl, Grew.refl _, rfl⟩
  · intro a w ht hs hg -- 128
    have h20 := By.same_get hs 20 (by decide) (by kernel_rfl)
    have hg127 := By.given_get hg 54 rfl rfl (by kernel_rfl)
    refine By.yes (By.want_yes rfl rfl hg127) ?_
    clear hg127
    clear hs hg
    go_simp
    exact ⟨_, rfl, Grew.refl _, rfl⟩
  · intro a w ht hs hg -- 129
    have h22 := By.same_get hs 22 (by decide) (by kernel_rfl)
    have hg127 := By.given_get hg 54 rfl rfl (by kernel_rfl)
    refine By.yes (By.want_yes rfl rfl hg127) ?_
    clear hg127
    clear hs hg
    go_simp
    exact ⟨_, rfl, Grew.refl _, rfl⟩
  · intro a w ht hs hg -- 130
    have h128 : a.tmps.getD 128 undef = _ := By.given_get hg 55 rfl rfl (by kernel_rfl)
    have h129 : a.tmps.getD 129 undef = _ := By.given_get hg 56 rfl rfl (by kernel_rfl)
    have hg127 := By.given_get hg 54 rfl rfl (by kernel_rfl)
    refine By.yes (By.want_yes rfl rfl hg127) ?_
    clear hg127
    clear hs hg
    go_simp
    exact ⟨_, rfl, Grew.refl _, congrArg Value.bool (by simp)⟩
  · intro a w ht hs hg -- 131
    have h127 : a.tmps.getD 127 undef = _ := By.given_get hg 54 rfl rfl (by kernel_rfl)
    have h130 : a.tmps.getD 130 undef = _ := By.given_get hg 57 rfl rfl (by kernel_rfl)
    refine By.yes rfl ?_
    clear hs hg
    go_simp
    exact ⟨_, rfl, Grew.refl _, rfl⟩
  · intro a w ht hs hg -- 10
    have h131 : a.tmps.getD 131 undef = _ := By.given_get hg 58 rfl rfl (by kernel_rfl)
    refine By.yes rfl ?_
    clear hs hg
    go_simp
    exact ⟨_, rfl, Grew.refl _, rfl⟩
  refine By.ends_is (By.ends_is (By.ends_is (By.ends_is (By.ends_is (By.ends_is (By.ends_is (By.ends_is (By.ends_is (By.ends_is (By.ends_is (By.ends_is (By.ends_is (By.ends_is (By.ends_is (By.ends_is (By.ends_is (By.ends_is (By.ends_is (By.ends_is (By.ends_is (By.ends_is (By.ends_is (By.ends_is (By.ends_is (By.ends_is (By.ends_is (By.ends_is (By.ends_is (By.ends_is (By.ends_is (By.ends_is (By.ends_is (By.ends_is (By.ends_is (By.ends_is (By.ends_is (By.ends_is (By.ends_is (By.ends_is (By.ends_is (By.ends_is (By.ends_is (By.ends_is (By.ends_is (By.ends_is (By.ends_is (By.ends_is (By.ends_is (By.ends_is (By.ends_is (By.ends_is (By.ends_is (By.ends_is (By.ends_is (By.ends_is (By.ends_is (By.ends_is (By.ends_is (By.ends_is (By.ends_nil fun w9 hw9 => ?_))))))))))))))))))))))))))))))))))))))))))))))))))))))))))))
  simp only [Act.put, List.setIfInBounds_toArray, List.set_cons_succ, List.set_cons_zero]
  have hg9 : Below w4.heap.size w4.drew w9 := hw9
  have hb09 : Below w.heap.size w w9 := hb04.drew.trans (hg9.mono (by show w.heap.size ≤ w4.heap.size; omega))
  go_wp2
  go_ret
  exact ⟨rfl, hb09⟩

set_option maxRecDepth 100000 in
theorem lift (os : Os) (started : os.Started) (H : Type) (enc : TypeId × Value → H) :
    ReturnsInHanded {} Try.checked os 3 .any (Rows.chachaCallsSpec.pre6 enc Try.prog Try.f3 Rows.chachaCallsRow.domain false) (Rows.chachaCallsSpec.post enc Try.prog Try.f3 false true false false) := by
  refine Law.lifted (C := Try.checked) 4 own started (by kernel_rfl) Try.func3 laid (by kernel_rfl) rfl Try.underlying4 rfl
    (fun ds hd => by
      have hd' : ds.length = 5 := hd
      match ds, hd' with
      | [d0, d1, d2, d3, d4], _ => rfl)
    (ChangeSpec.witness6 (enc := enc) (C := Try.checked) false ⟨#[], #[arr32 (List.replicate 16 0), arr8 (List.replicate 32 0), .int .u32 0, arr8 (List.replicate 12 0), .slice none 0 0], []⟩ 8 (by kernel_rfl) (by kernel_rfl) (by kernel_rfl) (by kernel_rfl)) ?_
  intro W args ds ps hst
  have hA : DataW.TrodAll enc Try.prog W 0 (fun _ => true) true Try.f3.params.toList args.toList ds ps := hst.trod
  have hok := hst.okw
  have hlt := hst.lt
  rw [Try.params3] at hA hok
  obtain ⟨v0, v1, v2, v3, v4, d0, d1, d2, d3, d4, p4, rfl, rfl, h4, hp4⟩ := trodAll_five hA
  obtain ⟨_, hv0⟩ := hok 0 23 v0 rfl rfl
  obtain ⟨_, hv1⟩ := hok 1 24 v1 rfl rfl
  obtain ⟨_, hv2⟩ := hok 2 22 v2 rfl rfl
  obtain ⟨_, hv3⟩ := hok 3 25 v3 rfl rfl
  obtain ⟨_, hv4⟩ := hok 4 26 v4 rfl rfl
  obtain ⟨s, rfl, hsl⟩ := arr32_at Try.underlying23 (by kernel_rfl) (by kernel_rfl) Try.underlying22 hv0
  obtain ⟨key, rfl, hkl⟩ := arr8_at Try.underlying24 (by kernel_rfl) (by kernel_rfl) Try.underlying5 hv1
  obtain ⟨c, rfl⟩ := word_at Try.underlying22 hv2
  obtain ⟨nonce, rfl, hnl⟩ := arr8_at Try.underlying25 (by kernel_rfl) (by kernel_rfl) Try.underlying5 hv3
  obtain ⟨l, hb, hl⟩ := Law.bytes_at Try.underlying26 hv4 h4 (fun x hx => hlt x (hp4 x hx))
  obtain ⟨A, cap, rfl, _⟩ := id hb
  rcases Nat.lt_or_ge 300 l.length with h | h
  · exact long s key nonce A cap c l.length h W
  · exact walk s key nonce l A cap c hsl hkl hnl h W hb

theorem over : Rows.chachaCallsRow.holds Try.pinned (OpenSpec.ofChange Rows.chachaCallsSpec) :=
  OpenClaim.holds_of_wide 3 Try.f3 rfl rfl rfl rfl rfl rfl rfl ⟨rfl, rfl, rfl, rfl, rfl⟩ rfl rfl rfl rfl rfl (by kernel_rfl) Try.func3 (by kernel_rfl)
    (of_decide_eq_true (by kernel_rfl)) (by unfold Func.isWrapper; first | (rw [if_pos (by decide +kernel)]; kernel_rfl) | (rw [if_neg (by decide +kernel)]; exact ⟨rfl, rfl⟩))
    (fun os started H enc _ => lift os started H enc)
theorem proved : Rows.ChachaCallsSaid := over
#print axioms proved
end Go.Proofs.Ytcacopcihlhmiaa.chachaCalls
