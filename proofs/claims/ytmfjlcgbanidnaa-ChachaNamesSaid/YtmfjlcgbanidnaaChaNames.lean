/- The examples of chapter 2 have the results that it states. -/
import Derived.Test.YtmfjlcgbanidnaaChaXor
import Derived.Test.YtmfjlcgbanidnaaChaFirst
import Derived.Test.YtmfjlcgbanidnaaChaLives
namespace Go.Proofs.Ytmfjlcgbanidnaa.chachaNames
open Go.ChangeShapes Go.WideShapes Go.ChangeAt Go.RowKit
open Cha (own mixed laid)

def resM (lo : Nat) (l : List UInt8) (e : Nat) : By.Mark Grew := ⟨fun v w => ∃ x, v = .tuple #[x, .int .i64 (e : Int)] ∧ Own w lo x l, fun _ _ _ h k => by
  obtain ⟨x, h1, h2⟩ := h
  exact ⟨x, h1, h2.below k (Nat.le_refl _)⟩⟩
theorem st : Cha.state Cha.key1 1#32 Cha.nonce1 = [0x61707865#32, 0x3320646e#32, 0x79622d32#32, 0x6b206574#32, 0x03020100#32, 0x07060504#32, 0x0b0a0908#32, 0x0f0e0d0c#32, 0x13121110#32, 0x17161514#32, 0x1b1a1918#32, 0x1f1e1d1c#32, 1#32, 0x09000000#32, 0x4a000000#32, 0#32] := by decide +kernel

set_option maxRecDepth 8000 in
set_option maxHeartbeats 2000000 in
theorem walk (w : World) : Calls Try.prog 11 #[] w fun e w' => e = .returned (.bool true) ∧ Below w.heap.size w w' := by
  go_enter Try.func11, Try.ntmps11
  go_wp2_with fail
  refine (first_any w).mono ?_
  rintro e w1 ⟨rfl, hb1⟩
  have hk1 : (Cha.key1.map bv).length = 32 := rfl
  have hn1 : (Cha.nonce1.map bv).length = 12 := rfl
  have Hkl := Lib.hid hk1
  have Hnl := Lib.hid hn1
  clear hk1 hn1
  unfold arr8
  go_wp2_with (first
    | (refine wpList_storeRow rfl 55 _ _ rfl rfl rfl (cs := Cha.key1.map bv) (old := (List.replicate 32 (0 : UInt8)).map bv) ((Row.new rfl rfl).alloc _) (by kernel_rfl) Hkl.out (by simp) (bytes_one Cha.key1) ?_)
    | (refine wpList_storeRow rfl 56 _ _ rfl rfl rfl (cs := Cha.nonce1.map bv) (old := (List.replicate 12 (0 : UInt8)).map bv) ((Row.new (by simp) rfl).setOther _ _ (by simp)) (by kernel_rfl) Hnl.out (by simp) (bytes_one Cha.nonce1) ?_
       generalize hW2 : World.setRow _ _ _ = W2
       have hk2 : Row W2 w1.heap.size (Cha.key1.map bv) 55 := by
         rw [← hW2]
         exact (((Row.new (cs := (List.replicate 32 (0 : UInt8)).map bv) rfl rfl).alloc _).setRow (Cha.key1.map bv)).setOther _ _ (by simp)
       have hn2 : Row W2 (w1.heap.size + 1) (Cha.nonce1.map bv) 56 := by
         rw [← hW2]
         exact ((Row.new (cs := (List.replicate 12 (0 : UInt8)).map bv) (by simp) rfl).setOther _ _ (by simp)).setRow (Cha.nonce1.map bv)
       have hb2 : Below w1.heap.size w1 W2 := by
         rw [← hW2]
         exact below_setRow (below_setRow (((Below.refl _ w1).alloc (Nat.le_refl _) _).alloc (by simp) _) (Nat.le_refl _) _) (by simp) _
       have hs2 : W2.heap.size = w1.heap.size + 2 := by rw [← hW2]; simp
       have Hk2 := Lib.hid hk2
       have Hn2 := Lib.hid hn2
       clear hW2 hk2 hn2)
    | (refine wpList_loadRow rfl 55 _ rfl rfl Hk2.out Try.underlying55 rfl (by kernel_rfl) Hkl.out ?_)
    | (refine wpList_loadRow rfl 56 _ rfl rfl Hn2.out Try.underlying56 rfl (by kernel_rfl) Hnl.out ?_)
    | fail)
  -- behind the state
  refine (State_any Cha.key1 Cha.nonce1 1#32 rfl rfl W2).mono ?_
  rintro e w3 ⟨rfl, hb3⟩
  rw [st]
  have Hk3 := Lib.hid (Hk2.out.below hb3 (by omega))
  have Hn3 := Lib.hid (Hn2.out.below hb3 (by omega))
  have hb03 := nextB (nextB hb1 (Nat.le_refl _) hb2) (Nat.le_refl _) hb3
  have hs3 : w1.heap.size + 2 ≤ w3.heap.size := by have := hb3.size; omega
  clear hb1 hb2 hb3 Hk2 Hn2
  unfold arr32
  simp only [List.map_cons, List.map_nil]
  go_wp2_with fail
  generalize hW4 : World.alloc w3 _ = W4
  have hK : ∀ W, Grew W4.drew W → Row W w1.heap.size (Cha.key1.map bv) 55 := fun W hW => by
    refine Row.below (w := W4.drew) ?_ hW (by show _ < W4.heap.size; rw [← hW4]; simp; omega)
    rw [← hW4]
    exact Hk3.out.alloc _
  have hN : ∀ W, Grew W4.drew W → Row W (w1.heap.size + 1) (Cha.nonce1.map bv) 56 := fun W hW => by
    refine Row.below (w := W4.drew) ?_ hW (by show _ < W4.heap.size; rw [← hW4]; simp; omega)
    rw [← hW4]
    exact Hn3.out.alloc _
  have hS : Row W4 w3.heap.size (([0x61707865#32, 0x3320646e#32, 0x79622d32#32, 0x6b206574#32, 0x03020100#32, 0x07060504#32, 0x0b0a0908#32, 0x0f0e0d0c#32, 0x13121110#32, 0x17161514#32, 0x1b1a1918#32, 0x1f1e1d1c#32, 1#32, 0x09000000#32, 0x4a000000#32, 0#32] : List (BitVec 32)).map wv) 59 := by
    rw [← hW4]
    exact Row.new rfl rfl
  have hb04 : Below w.heap.size w W4 := by
    rw [← hW4]
    exact hb03.alloc (by have := hb03.size; omega) _
  have hs4 : w3.heap.size < W4.heap.size := by rw [← hW4]; simp
  have HK := Lib.hid hK
  have HN := Lib.hid hN
  have HS := Lib.hid hS
  clear hK hN hS hW4 hb03
  refine By.marks mixed Grew [By.is (arr8 Cha.key1),
    By.is (arr8 Cha.nonce1),
    ownM W4.heap.size (List.replicate 65 (0 : UInt8)),
    resM W4.heap.size (Cha.out Cha.key1 0xffffffff#32 Cha.nonce1 (List.replicate 65 (0 : UInt8))) (Cha.err 0xffffffff#32 65),
    resM W4.heap.size (Cha.out Cha.key1 0xffffffff#32 Cha.nonce1 (List.replicate 65 (0 : UInt8))) (Cha.err 0xffffffff#32 65),
    ownM W4.heap.size (Cha.out Cha.key1 0xffffffff#32 Cha.nonce1 (List.replicate 65 (0 : UInt8))),
    By.is (.int .i64 ((Cha.err 0xffffffff#32 65 : Nat) : Int)),
    ownM W4.heap.size (Cha.out Cha.key1 0xffffffff#32 Cha.nonce1 (List.replicate 65 (0 : UInt8))),
    By.is (.int .i64 ((Cha.err 0xffffffff#32 65 : Nat) : Int))]
    (Ev.masks _ []) (by kernel_rfl) rfl Grew.refl Grew.trans ⟨?_, ?_, ?_, ?_, ?_, ?_, ?_, ?_, ?_, trivial⟩ ?_
  · intro a w ht hs hg -- 16
    have h1 := By.same_get hs 1 (by decide) (by kernel_rfl)
    refine By.yes rfl ?_
    clear hs hg
    refine wp_loadRow 55 _ rfl h1 (HK.out w ht) Try.underlying55 rfl (by kernel_rfl) Hkl.out ?_
    exact ⟨_, rfl, Grew.refl _, rfl⟩
  · intro a w ht hs hg -- 17
    have h2 := By.same_get hs 2 (by decide) (by kernel_rfl)
    refine By.yes rfl ?_
    clear hs hg
    refine wp_loadRow 56 _ rfl h2 (HN.out w ht) Try.underlying56 rfl (by kernel_rfl) Hnl.out ?_
    exact ⟨_, rfl, Grew.refl _, rfl⟩
  · intro a w ht hs hg -- 18
    refine By.yes rfl ?_
    clear hs hg
    refine wp_make_bytes _ _ rfl 65 rfl rfl (by omega) ?_
    intro v w' ho hb
    exact ⟨_, rfl, hb, ho.less ht.size⟩
  · intro a w ht hs hg -- 19
    have h16 : a.tmps.getD 16 undef = _ := By.given_get hg 0 rfl rfl (by kernel_rfl)
    have h17 : a.tmps.getD 17 undef = _ := By.given_get hg 1 rfl rfl (by kernel_rfl)
    have h18 := By.given_get hg 2 rfl rfl (by kernel_rfl)
    refine By.yes rfl ?_
    obtain ⟨v18, hv18⟩ : ∃ v, a.tmps.getD 18 undef = v := ⟨_, rfl⟩
    replace h18 := (congrArg (fun v => (ownM W4.heap.size (List.replicate 65 (0 : UInt8))).on v w) hv18).mp h18
    clear hs hg
    have Hx := Lib.hid h18
    clear h18
    unfold arr8 at h16 h17
    go_simp
    refine (Xor_any Cha.key1 Cha.nonce1 _ _ 0xffffffff#32 rfl rfl w (Own.bs Hx.out) (by rw [List.length_replicate]; omega)).mono ?_
    rintro e w' ⟨v, rfl, ho, hb⟩
    rw [List.length_replicate]
    exact ⟨_, rfl, hb, ⟨_, rfl, ho.less ht.size⟩⟩
  · intro a w ht hs hg -- 15
    have h19 := By.given_get hg 3 rfl rfl (by kernel_rfl)
    refine By.yes rfl ?_
    obtain ⟨v19, hv19⟩ : ∃ v, a.tmps.getD 19 undef = v := ⟨_, rfl⟩
    replace h19 := (congrArg (fun v => (resM W4.heap.size (Cha.out Cha.key1 0xffffffff#32 Cha.nonce1 (List.replicate 65 (0 : UInt8))) (Cha.err 0xffffffff#32 65)).on v w) hv19).mp h19
    clear hs hg
    go_simp
    exact ⟨_, rfl, Grew.refl _, h19⟩
  · intro a w ht hs hg -- 20
    have h15 := By.given_get hg 4 rfl rfl (by kernel_rfl)
    refine By.yes rfl ?_
    obtain ⟨v15, hv15⟩ : ∃ v, a.tmps.getD 15 undef = v := ⟨_, rfl⟩
    replace h15 := (congrArg (fun v => (resM W4.heap.size (Cha.out Cha.key1 0xffffffff#32 Cha.nonce1 (List.replicate 65 (0 : UInt8))) (Cha.err 0xffffffff#32 65)).on v w) hv15).mp h15
    clear hs hg
    obtain ⟨x, rfl, hx⟩ := h15
    have Hx := Lib.hid hx
    clear hx
    go_simp
    exact ⟨_, rfl, Grew.refl _, Hx.out⟩
  · intro a w ht hs hg -- 21
    have h15 := By.given_get hg 4 rfl rfl (by kernel_rfl)
    refine By.yes rfl ?_
    obtain ⟨v15, hv15⟩ : ∃ v, a.tmps.getD 15 undef = v := ⟨_, rfl⟩
    replace h15 := (congrArg (fun v => (resM W4.heap.size (Cha.out Cha.key1 0xffffffff#32 Cha.nonce1 (List.replicate 65 (0 : UInt8))) (Cha.err 0xffffffff#32 65)).on v w) hv15).mp h15
    clear hs hg
    obtain ⟨x, rfl, hx⟩ := h15
    clear hx
    go_simp
    exact ⟨_, rfl, Grew.refl _, rfl⟩
  · intro a w ht hs hg -- 4
    have h20 := By.given_get hg 5 rfl rfl (by kernel_rfl)
    refine By.yes rfl ?_
    obtain ⟨v20, hv20⟩ : ∃ v, a.tmps.getD 20 undef = v := ⟨_, rfl⟩
    replace h20 := (congrArg (fun v => (ownM W4.heap.size (Cha.out Cha.key1 0xffffffff#32 Cha.nonce1 (List.replicate 65 (0 : UInt8)))).on v w) hv20).mp h20
    clear hs hg
    have Hx := Lib.hid h20
    clear h20
    go_simp
    exact ⟨_, rfl, Grew.refl _, Hx.out⟩
  · intro a w ht hs hg -- 5
    have h21 : a.tmps.getD 21 undef = _ := By.given_get hg 6 rfl rfl (by kernel_rfl)
    refine By.yes rfl ?_
    clear hs hg
    go_simp
    exact ⟨_, rfl, Grew.refl _, rfl⟩
  refine By.ends_is (By.ends_is (By.ends_skip fun v18 => (By.ends_skip fun v19 => (By.ends_skip fun v15 => (By.ends_skip fun v20 => (By.ends_is (By.ends_any fun v4 => (By.ends_is (By.ends_nil fun w65 hw65 => ?_)))))))))
  simp only [Act.put, List.setIfInBounds_toArray, List.set_cons_succ, List.set_cons_zero]
  obtain ⟨hg65, _⟩ := hw65
  have hg65 : Below W4.heap.size W4.drew w65 := hg65
  have hb05 : Below w.heap.size w w65 := hb04.drew.trans (hg65.mono (by have := hb04.size; omega))
  have HS5 := Lib.hid (HS.out.below (w' := w65) ⟨hg65.os, hg65.tape, hg65.output, hg65.size, hg65.block⟩ hs4)
  have hs5 : W4.heap.size ≤ w65.heap.size := hg65.size
  have HK5 := Lib.hid (HK.out _ hg65)
  have HN5 := Lib.hid (HN.out _ hg65)
  clear hg65 hb04 HK HN HS
  go_wp2_with fail
  have hK : ∀ W, Grew w65.drew W → Row W w1.heap.size (Cha.key1.map bv) 55 := fun W hW => Row.below (w := w65.drew) HK5.out hW (by show _ < w65.heap.size; omega)
  have hN : ∀ W, Grew w65.drew W → Row W (w1.heap.size + 1) (Cha.nonce1.map bv) 56 := fun W hW => Row.below (w := w65.drew) HN5.out hW (by show _ < w65.heap.size; omega)
  have HK := Lib.hid hK
  have HN := Lib.hid hN
  clear hK hN
  refine By.marks mixed Grew [By.is (arr8 Cha.key1),
    By.is (arr8 Cha.nonce1),
    ownM w65.heap.size (List.replicate 64 (0 : UInt8)),
    resM w65.heap.size (Cha.out Cha.key1 0xffffffff#32 Cha.nonce1 (List.replicate 64 (0 : UInt8))) (Cha.err 0xffffffff#32 64),
    resM w65.heap.size (Cha.out Cha.key1 0xffffffff#32 Cha.nonce1 (List.replicate 64 (0 : UInt8))) (Cha.err 0xffffffff#32 64),
    ownM w65.heap.size (Cha.out Cha.key1 0xffffffff#32 Cha.nonce1 (List.replicate 64 (0 : UInt8))),
    By.is (.int .i64 ((Cha.err 0xffffffff#32 64 : Nat) : Int)),
    ownM w65.heap.size (Cha.out Cha.key1 0xffffffff#32 Cha.nonce1 (List.replicate 64 (0 : UInt8))),
    By.is (.int .i64 ((Cha.err 0xffffffff#32 64 : Nat) : Int))]
    (Ev.masks _ []) (by kernel_rfl) rfl Grew.refl Grew.trans ⟨?_, ?_, ?_, ?_, ?_, ?_, ?_, ?_, ?_, trivial⟩ ?_
  · intro a w ht hs hg -- 23
    have h1 := By.same_get hs 1 (by decide) (by kernel_rfl)
    refine By.yes rfl ?_
    clear hs hg
    refine wp_loadRow 55 _ rfl h1 (HK.out w ht) Try.underlying55 rfl (by kernel_rfl) Hkl.out ?_
    exact ⟨_, rfl, Grew.refl _, rfl⟩
  · intro a w ht hs hg -- 24
    have h2 := By.same_get hs 2 (by decide) (by kernel_rfl)
    refine By.yes rfl ?_
    clear hs hg
    refine wp_loadRow 56 _ rfl h2 (HN.out w ht) Try.underlying56 rfl (by kernel_rfl) Hnl.out ?_
    exact ⟨_, rfl, Grew.refl _, rfl⟩
  · intro a w ht hs hg -- 25
    refine By.yes rfl ?_
    clear hs hg
    refine wp_make_bytes _ _ rfl 64 rfl rfl (by omega) ?_
    intro v w' ho hb
    exact ⟨_, rfl, hb, ho.less ht.size⟩
  · intro a w ht hs hg -- 26
    have h23 : a.tmps.getD 23 undef = _ := By.given_get hg 0 rfl rfl (by kernel_rfl)
    have h24 : a.tmps.getD 24 undef = _ := By.given_get hg 1 rfl rfl (by kernel_rfl)
    have h25 := By.given_get hg 2 rfl rfl (by kernel_rfl)
    refine By.yes rfl ?_
    obtain ⟨v25, hv25⟩ : ∃ v, a.tmps.getD 25 undef = v := ⟨_, rfl⟩
    replace h25 := (congrArg (fun v => (ownM w65.heap.size (List.replicate 64 (0 : UInt8))).on v w) hv25).mp h25
    clear hs hg
    have Hx := Lib.hid h25
    clear h25
    unfold arr8 at h23 h24
    go_simp
    refine (Xor_any Cha.key1 Cha.nonce1 _ _ 0xffffffff#32 rfl rfl w (Own.bs Hx.out) (by rw [List.length_replicate]; omega)).mono ?_
    rintro e w' ⟨v, rfl, ho, hb⟩
    rw [List.length_replicate]
    exact ⟨_, rfl, hb, ⟨_, rfl, ho.less ht.size⟩⟩
  · intro a w ht hs hg -- 22
    have h26 := By.given_get hg 3 rfl rfl (by kernel_rfl)
    refine By.yes rfl ?_
    obtain ⟨v26, hv26⟩ : ∃ v, a.tmps.getD 26 undef = v := ⟨_, rfl⟩
    replace h26 := (congrArg (fun v => (resM w65.heap.size (Cha.out Cha.key1 0xffffffff#32 Cha.nonce1 (List.replicate 64 (0 : UInt8))) (Cha.err 0xffffffff#32 64)).on v w) hv26).mp h26
    clear hs hg
    go_simp
    exact ⟨_, rfl, Grew.refl _, h26⟩
  · intro a w ht hs hg -- 27
    have h22 := By.given_get hg 4 rfl rfl (by kernel_rfl)
    refine By.yes rfl ?_
    obtain ⟨v22, hv22⟩ : ∃ v, a.tmps.getD 22 undef = v := ⟨_, rfl⟩
    replace h22 := (congrArg (fun v => (resM w65.heap.size (Cha.out Cha.key1 0xffffffff#32 Cha.nonce1 (List.replicate 64 (0 : UInt8))) (Cha.err 0xffffffff#32 64)).on v w) hv22).mp h22
    clear hs hg
    obtain ⟨x, rfl, hx⟩ := h22
    have Hx := Lib.hid hx
    clear hx
    go_simp
    exact ⟨_, rfl, Grew.refl _, Hx.out⟩
  · intro a w ht hs hg -- 28
    have h22 := By.given_get hg 4 rfl rfl (by kernel_rfl)
    refine By.yes rfl ?_
    obtain ⟨v22, hv22⟩ : ∃ v, a.tmps.getD 22 undef = v := ⟨_, rfl⟩
    replace h22 := (congrArg (fun v => (resM w65.heap.size (Cha.out Cha.key1 0xffffffff#32 Cha.nonce1 (List.replicate 64 (0 : UInt8))) (Cha.err 0xffffffff#32 64)).on v w) hv22).mp h22
    clear hs hg
    obtain ⟨x, rfl, hx⟩ := h22
    clear hx
    go_simp
    exact ⟨_, rfl, Grew.refl _, rfl⟩
  · intro a w ht hs hg -- 6
    have h27 := By.given_get hg 5 rfl rfl (by kernel_rfl)
    refine By.yes rfl ?_
    obtain ⟨v27, hv27⟩ : ∃ v, a.tmps.getD 27 undef = v := ⟨_, rfl⟩
    replace h27 := (congrArg (fun v => (ownM w65.heap.size (Cha.out Cha.key1 0xffffffff#32 Cha.nonce1 (List.replicate 64 (0 : UInt8)))).on v w) hv27).mp h27
    clear hs hg
    have Hx := Lib.hid h27
    clear h27
    go_simp
    exact ⟨_, rfl, Grew.refl _, Hx.out⟩
  · intro a w ht hs hg -- 7
    have h28 : a.tmps.getD 28 undef = _ := By.given_get hg 6 rfl rfl (by kernel_rfl)
    refine By.yes rfl ?_
    clear hs hg
    go_simp
    exact ⟨_, rfl, Grew.refl _, rfl⟩
  refine By.ends_is (By.ends_is (By.ends_skip fun v25 => (By.ends_skip fun v26 => (By.ends_skip fun v22 => (By.ends_skip fun v27 => (By.ends_is (By.ends_any fun v6 => (By.ends_is (By.ends_nil fun w64 hw64 => ?_)))))))))
  simp only [Act.put, List.setIfInBounds_toArray, List.set_cons_succ, List.set_cons_zero]
  obtain ⟨hg64, ho64⟩ := hw64
  have hg64 : Below w65.heap.size w65.drew w64 := hg64
  have hb06 : Below w.heap.size w w64 := hb05.drew.trans (hg64.mono (by have := hb05.size; omega))
  have ho64 : Own w64 w65.heap.size v6 (Cha.out Cha.key1 0xffffffff#32 Cha.nonce1 (List.replicate 64 (0 : UInt8))) := ho64
  have HS6 := Lib.hid (HS5.out.below (w' := w64) ⟨hg64.os, hg64.tape, hg64.output, hg64.size, hg64.block⟩ (by omega))
  have hl6 : (Cha.out Cha.key1 0xffffffff#32 Cha.nonce1 (List.replicate 64 (0 : UInt8))).length = 64 := by
    rw [Cha.out_ok _ _ _ _ (by rw [List.length_replicate]; decide +kernel), Cha.xor_length, List.length_replicate]
  obtain ⟨A6, c6, h6⟩ := ho64.shape
  rw [hl6] at h6
  subst h6
  have hs6 : w3.heap.size < w64.heap.size := by have := hg64.size; have : w65.heap.size ≤ w64.heap.size := hg64.size; omega
  have e65 : Cha.err 0xffffffff#32 65 = 3 := by decide +kernel
  have e64 : Cha.err 0xffffffff#32 64 = 0 := by decide +kernel
  rw [e65, e64]
  clear hg64 ho64 hl6 HS5 hb05 e65 e64 HK HN HK5 HN5
  go_wp2_with fail
  refine (Cha.lives_any _).mono ?_
  rintro e w7 ⟨rfl, hb7⟩
  have hS7 := HS6.out.below hb7 hs6
  have h0 := hS7.cell (i := 0) rfl
  have h4 := hS7.cell (i := 4) rfl
  have h12 := hS7.cell (i := 12) rfl
  have h13 := hS7.cell (i := 13) rfl
  have hb07 := nextB hb06 (Nat.le_refl _) hb7
  clear hS7 HS6 hb7 hb06
  go_wp2
  go_ret
  exact ⟨rfl, hb07⟩

set_option maxRecDepth 100000 in
theorem lifted (os : Os) (started : os.Started) (H : Type) (enc : TypeId × Value → H) :
    ReturnsInHanded {} Try.checked os 11 .any (Rows.chachaNamesSpec.pre6 enc Try.prog Try.f11 Rows.chachaNamesRow.domain false) (Rows.chachaNamesSpec.post enc Try.prog Try.f11 false true false false) := by
  refine returnsInHanded_of_change (C := Try.checked) own started (by kernel_rfl) Try.func11
    (ChangeSpec.witness6 (enc := enc) (C := Try.checked) false ⟨#[], #[], []⟩ 8 (by kernel_rfl) (by kernel_rfl) (by kernel_rfl) (by kernel_rfl)) ?_
  intro W base args ds gs before hval0 hW hcnd _
  have hW' := hW
  obtain ⟨p, q, hA0, hV, rfl, hfz, hnd⟩ := hW
  have hA : DataW.TrodAll enc Try.prog W 0 (fun _ => true) true Try.f11.params.toList args.toList ds p := hA0
  rw [Try.params11] at hA
  obtain ⟨rfl, rfl, rfl⟩ := trodAll_none hA
  obtain ⟨rfl, rfl⟩ := trodVars_none hV
  clear hA0 hval0
  simp only [List.append_nil] at hW'
  refine (walk W).mono fun e W' ⟨he, hg⟩ => ?_
  subst he
  exact ⟨_, rfl, post_of_below (pa := []) (pv := []) hW' (fun _ _ _ => (trodAll_cons_mk (shut_bool Try.underlying4 _) trodAll_mk0)) (fun sp _ => rfl) (fun _ _ => rfl) rfl
    hg (ok_one (by kernel_rfl) rfl (okWide_bool_mk Try.underlying4 _))⟩

theorem over : Rows.chachaNamesRow.holds Try.pinned (OpenSpec.ofChange Rows.chachaNamesSpec) :=
  OpenClaim.holds_of_wide 11 Try.f11 rfl rfl rfl rfl rfl rfl rfl ⟨rfl, rfl, rfl, rfl, rfl⟩ rfl rfl rfl rfl rfl (by kernel_rfl) Try.func11 (by kernel_rfl)
    (of_decide_eq_true (by kernel_rfl)) (by unfold Func.isWrapper; first | (rw [if_pos (by decide +kernel)]; kernel_rfl) | (rw [if_neg (by decide +kernel)]; exact ⟨rfl, rfl⟩))
    (fun os started H enc _ => lifted os started H enc)

theorem proved : Rows.ChachaNamesSaid := over
#print axioms proved
end Go.Proofs.Ytmfjlcgbanidnaa.chachaNames
