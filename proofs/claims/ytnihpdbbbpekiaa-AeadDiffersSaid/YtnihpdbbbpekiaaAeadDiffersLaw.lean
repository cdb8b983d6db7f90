/- The difference of two plaintexts is that of their ciphertexts: 'drawbridgelaw04.AeadDiffers', for every argument. -/
import Derived.Test.YtnihpdbbbpekiaaAeadLives
import Derived.Test.YtnihpdbbbpekiaaLaw
import Derived.Test.YtnihpdbbbpekiaaKit
namespace Go.Proofs.Ytnihpdbbbpekiaa.aeadDiffers
open Go.ChangeShapes Go.WideShapes Go.ChangeAt Go.RowKit
open Pol (own mixed laid)
theorem bs_cells {w : World} {B n c : Nat} {A : Option Addr} {l : List UInt8} (h : Bs w B (.slice A n c) l) (hl : l.length = n) : 0 < n → ∃ k off, A = some ⟨k, off, none⟩ ∧ ∀ (i : Nat) (u : UInt8), l[i]? = some u → w.cell? ⟨k, off + i, none⟩ = some (bv u) := by
  intro h0
  obtain ⟨A', c', h1, h2, h3⟩ := h
  simp only [Value.slice.injEq] at h1
  obtain ⟨rfl, _, rfl⟩ := h1
  obtain ⟨k, off, h4, _, h5⟩ := h3 (by intro e; subst e; simp at hl; omega)
  exact ⟨k, off, h4, h5⟩
theorem trodAll_five {H : Type} {enc : TypeId × Value → H} {P : Program} {w : World} {base : Nat} {spare : Nat → Bool} {held : Bool} {t0 t1 t2 t3 t4 : TypeId} {args : Array Value} {ds : List (DataW H)} {ps : List MemPlace} (h : DataW.TrodAll enc P w base spare held [t0, t1, t2, t3, t4] args.toList ds ps) :
    ∃ v0 v1 v2 v3 v4 d0 d1 d2 d3 d4 p2 p3 p4, args = #[v0, v1, v2, v3, v4] ∧ ds = [d0, d1, d2, d3, d4] ∧ DataW.Trod enc P w base spare held t2 v2 d2 p2 ∧ DataW.Trod enc P w base spare held t3 v3 d3 p3 ∧ DataW.Trod enc P w base spare held t4 v4 d4 p4 ∧ (∀ x ∈ p2, x ∈ ps) ∧ (∀ x ∈ p3, x ∈ ps) ∧ ∀ x ∈ p4, x ∈ ps := by
  obtain ⟨v0, vs, d0, ds', p, q, hargs, rfl, rfl, hd, hrest⟩ := trodAll_cons h
  obtain ⟨v1, vs1, d1, ds1, p1, q1, rfl, rfl, rfl, hd1, hrest1⟩ := trodAll_cons hrest
  obtain ⟨v2, vs2, d2, ds2, p2, q2, rfl, rfl, rfl, hd2, hrest2⟩ := trodAll_cons hrest1
  obtain ⟨v3, vs3, d3, ds3, p3, q3, rfl, rfl, rfl, hd3, hrest3⟩ := trodAll_cons hrest2
  obtain ⟨v4, vs4, d4, ds4, p4, q4, rfl, rfl, rfl, hd4, hrest4⟩ := trodAll_cons hrest3
  obtain ⟨rfl, rfl, rfl⟩ := trodAll_nil hrest4
  exact ⟨v0, v1, v2, v3, v4, d0, d1, d2, d3, d4, p2, p3, p4, by cases args; simp_all, rfl, hd2, hd3, hd4, fun x hx => by simp [hx], fun x hx => by simp [hx], fun x hx => by simp [hx]⟩
def resM (lo : Nat) (l : List UInt8) : By.Mark Grew := ⟨fun v w => ∃ x, v = .tuple #[x, .int .i64 0] ∧ Own w lo x l, fun _ _ _ h k => by
  obtain ⟨x, h1, h2⟩ := h
  exact ⟨x, h1, h2.below k (Nat.le_refl _)⟩⟩
theorem sealed_at {key nonce l along : List UInt8} {i : Nat} {u : UInt8} (h : l[i]? = some u) : (Aead.sealed key nonce l along)[i]? = some (u ^^^ Cha.stream key 1#32 nonce i) := by
  unfold Aead.sealed
  rw [List.getElem?_append_left (by rw [Cha.xor_length]; exact (List.getElem?_eq_some_iff.1 h).1)]
  exact Cha.xor_at _ _ _ _ _ _ h
theorem xor4 (p q s : UInt8) : (p ^^^ s) ^^^ (q ^^^ s) = p ^^^ q := by
  rw [UInt8.xor_comm q s, ← UInt8.xor_assoc, UInt8.xor_assoc p s s, UInt8.xor_self, UInt8.xor_zero]
theorem differ (key nonce along : List UInt8) {a b : List UInt8} {i : Nat} (h1 : i < a.length) (h2 : i < b.length) : ∃ x y p q : UInt8, (Aead.sealed key nonce a along)[i]? = some x ∧ (Aead.sealed key nonce b along)[i]? = some y ∧ a[i]? = some p ∧ b[i]? = some q ∧ x ^^^ y = p ^^^ q := by
  have e1 : a[i]? = some a[i] := List.getElem?_eq_getElem h1
  have e2 : b[i]? = some b[i] := List.getElem?_eq_getElem h2
  exact ⟨_, _, _, _, sealed_at e1, sealed_at e2, e1, e2, xor4 _ _ _⟩
set_option maxRecDepth 100000 in
set_option maxHeartbeats 1000000 in
theorem long (key nonce : List UInt8) (A1 A2 A3 : Option Addr) (n1 n2 n3 c1 c2 c3 : Nat) (h : 300 < n1 ∨ 300 < n2 ∨ 300 < n3) (w : World) :
    Calls Try.prog 14 #[arr8 key, arr8 nonce, .slice A1 n1 c1, .slice A2 n2 c2, .slice A3 n3 c3] w fun e w' => e = .returned (.bool true) ∧ Below w.heap.size w w' := by
  unfold arr8
  by_cases h1 : 300 < n1
  · have h1' : (300 : Int) < (n1 : Int) := by omega
    go_enter Try.func14, Try.ntmps14
    go_wp2_with (go_at_call 38; refine (Aead.lives_any _).mono ?_; rintro e w1 ⟨rfl, hb1⟩; have HB1 := Lib.hid hb1; clear hb1)
    go_ret
    exact ⟨rfl, (((Below.refl _ w).alloc (Nat.le_refl _) _).alloc (by simp) _).trans (HB1.out.mono (by simp; omega))⟩
  have h1' : ¬ (300 : Int) < (n1 : Int) := by omega
  by_cases h2 : 300 < n2
  · have h2' : (300 : Int) < (n2 : Int) := by omega
    go_enter Try.func14, Try.ntmps14
    go_wp2_with (go_at_call 38; refine (Aead.lives_any _).mono ?_; rintro e w1 ⟨rfl, hb1⟩; have HB1 := Lib.hid hb1; clear hb1)
    go_ret
    exact ⟨rfl, (((Below.refl _ w).alloc (Nat.le_refl _) _).alloc (by simp) _).trans (HB1.out.mono (by simp; omega))⟩
  have h2' : ¬ (300 : Int) < (n2 : Int) := by omega
  have h3' : (300 : Int) < (n3 : Int) := by omega
  go_enter Try.func14, Try.ntmps14
  go_wp2_with (go_at_call 38; refine (Aead.lives_any _).mono ?_; rintro e w1 ⟨rfl, hb1⟩; have HB1 := Lib.hid hb1; clear hb1)
  go_ret
  exact ⟨rfl, (((Below.refl _ w).alloc (Nat.le_refl _) _).alloc (by simp) _).trans (HB1.out.mono (by simp; omega))⟩
set_option maxRecDepth 100000 in
set_option maxHeartbeats 1000000 in
theorem walk (key nonce la lb along : List UInt8) (A1 A2 A3 : Option Addr) (n1 n2 n3 c1 c2 c3 : Nat) (hk : key.length = 32) (hn : nonce.length = 12) (w : World) (hn1 : la.length = n1) (hn2 : lb.length = n2) (hn3 : along.length = n3)
    (ha : Bs w w.heap.size (.slice A1 n1 c1) la) (hb : Bs w w.heap.size (.slice A2 n2 c2) lb) (hc : Bs w w.heap.size (.slice A3 n3 c3) along) (h1 : n1 ≤ 300) (h2 : n2 ≤ 300) (h3 : n3 ≤ 300) :
    Calls Try.prog 14 #[arr8 key, arr8 nonce, .slice A1 n1 c1, .slice A2 n2 c2, .slice A3 n3 c3] w fun e w' => e = .returned (.bool true) ∧ Below w.heap.size w w' := by
  have h1' : ¬ (300 : Int) < (n1 : Int) := by omega
  have h2' : ¬ (300 : Int) < (n2 : Int) := by omega
  have h3' : ¬ (300 : Int) < (n3 : Int) := by omega
  have Hkl := Lib.hid (show (key.map bv).length = 32 by rw [List.length_map]; exact hk)
  have Hnl := Lib.hid (show (nonce.map bv).length = 12 by rw [List.length_map]; exact hn)
  obtain ⟨X, hX⟩ : ∃ X, Aead.sealed key nonce la along = X := ⟨_, rfl⟩
  obtain ⟨Y, hY⟩ : ∃ Y, Aead.sealed key nonce lb along = Y := ⟨_, rfl⟩
  have HX := Lib.hid (show ∀ (W : World) (v v3 : Value), Bs W W.heap.size v la → Bs W W.heap.size v3 along → Calls Try.prog 37 #[arr8 key, arr8 nonce, v, v3] W fun e w' => ∃ v, e = .returned (.tuple #[v, .int .i64 0]) ∧ Own w' W.heap.size v X ∧ Below W.heap.size W w' from fun W v v3 hv hv3 => hX ▸ Aead.Seal_ok key nonce la along v v3 hk hn W hv hv3 (by omega) (by omega))
  have HY := Lib.hid (show ∀ (W : World) (v v3 : Value), Bs W W.heap.size v lb → Bs W W.heap.size v3 along → Calls Try.prog 37 #[arr8 key, arr8 nonce, v, v3] W fun e w' => ∃ v, e = .returned (.tuple #[v, .int .i64 0]) ∧ Own w' W.heap.size v Y ∧ Below W.heap.size W w' from fun W v v3 hv hv3 => hY ▸ Aead.Seal_ok key nonce lb along v v3 hk hn W hv hv3 (by omega) (by omega))
  have HXl := Lib.hid (show X.length = n1 + 16 by rw [← hX, Aead.sealed_length, hn1])
  have HYl := Lib.hid (show Y.length = n2 + 16 by rw [← hY, Aead.sealed_length, hn2])
  have Hxy := Lib.hid (show ∀ i, i < n1 → i < n2 → ∃ x y p q : UInt8, X[i]? = some x ∧ Y[i]? = some y ∧ la[i]? = some p ∧ lb[i]? = some q ∧ x ^^^ y = p ^^^ q from fun i hi1 hi2 => hX ▸ hY ▸ differ key nonce along (by omega) (by omega))
  have Ha := Lib.hid ha
  have Hb := Lib.hid hb
  have Hc := Lib.hid hc
  have Hn1 := Lib.hid hn1
  have Hn2 := Lib.hid hn2
  have H1 := Lib.hid h1
  have H2 := Lib.hid h2
  clear hk hn hX hY ha hb hc hn1 hn2 hn3 h1 h2 h3
  unfold arr8
  go_enter Try.func14, Try.ntmps14
  go_wp2_with fail
  obtain ⟨W, hW⟩ : ∃ W, (w.alloc (.cells (key.map bv).toArray 24)).alloc (.cells (nonce.map bv).toArray 25) = W := ⟨_, rfl⟩
  have hWb : Below w.heap.size w W := hW ▸ ((Below.refl _ w).alloc (Nat.le_refl _) _).alloc (by simp) _
  have hWk : Row W w.heap.size (key.map bv) 24 := hW ▸ (Row.new rfl rfl).alloc _
  have hWn : Row W (w.heap.size + 1) (nonce.map bv) 25 := hW ▸ Row.new (by simp) rfl
  show Calls _ _ _ ((w.alloc (.cells (key.map bv).toArray 24)).alloc (.cells (nonce.map bv).toArray 25)) _
  rw [hW]
  clear hW
  refine (Aead.lives_any W).mono ?_
  rintro e w1 ⟨rfl, hb1⟩
  have HB1 := Lib.hid (nextB hWb (Nat.le_refl _) hb1)
  have HK1 := Lib.hid (hWk.below hb1 hWk.lt)
  have HN1 := Lib.hid (hWn.below hb1 hWn.lt)
  clear hWb hWk hWn hb1
  obtain ⟨L0, hL0⟩ : ∃ L, w1.heap.size = L := ⟨_, rfl⟩
  have HLO := Lib.hid (Nat.le_of_eq hL0.symm)
  clear hL0
  have HC := Lib.hid ((Hc.out.below HB1.out).more HB1.out.size)
  have HP := Lib.hid ((Ha.out.below HB1.out).more HB1.out.size)
  have HPL := Lib.hid (show la.length ≤ 300 by rw [Hn1.out]; exact H1.out)
  have HK := HK1
  have HN := HN1
  go_wp2_with fail
  refine By.marks mixed Grew [By.is (arr8 key),
    By.is (arr8 nonce),
    By.is (.slice A1 n1 c1),
    ownM 0 la,
    By.is (.slice A3 n3 c3),
    (resM L0 X),
    (resM L0 X),
    (ownM L0 X),
    By.is (.int .i64 0),
    (ownM L0 X),
    By.is (.int .i64 0)]
    (Ev.masks _ []) (by kernel_rfl) rfl Grew.refl Grew.trans ⟨?_, ?_, ?_, ?_, ?_, ?_, ?_, ?_, ?_, ?_, ?_, trivial⟩ ?_
  · intro a w ht hs hg -- 32
    have h5 := By.same_get hs 5 (by decide) (by kernel_rfl)
    refine By.yes rfl ?_
    clear hs hg
    refine wp_loadRow 24 _ rfl h5 (Row.below (w := w1.drew) HK.out ht HK.out.lt) Try.underlying24 rfl (by kernel_rfl) Hkl.out ?_
    exact ⟨_, rfl, Grew.refl _, rfl⟩
  · intro a w ht hs hg -- 33
    have h6 := By.same_get hs 6 (by decide) (by kernel_rfl)
    refine By.yes rfl ?_
    clear hs hg
    refine wp_loadRow 25 _ rfl h6 (Row.below (w := w1.drew) HN.out ht HN.out.lt) Try.underlying25 rfl (by kernel_rfl) Hnl.out ?_
    exact ⟨_, rfl, Grew.refl _, rfl⟩
  · intro a w ht hs hg -- 34
    have h2 := By.same_get hs 2 (by decide) (by kernel_rfl)
    refine By.yes rfl ?_
    clear hs hg
    go_simp
    exact ⟨_, rfl, Grew.refl _, rfl⟩
  · intro a w ht hs hg -- 35
    have h34 : a.tmps.getD 34 undef = _ := By.given_get hg 2 rfl rfl (by kernel_rfl)
    refine By.yes rfl ?_
    clear hs hg
    have hx := Lib.hid ((Bs.below (w := w1.drew) HP.out ht).more ht.size)
    go_simp
    refine (Own_any _ la w hx.out (by have := HPL.out; omega)).mono ?_
    rintro e w' ⟨v, rfl, ho, hb⟩
    exact ⟨_, rfl, hb, ho.less (Nat.zero_le _)⟩
  · intro a w ht hs hg -- 36
    have h4 := By.same_get hs 4 (by decide) (by kernel_rfl)
    refine By.yes rfl ?_
    clear hs hg
    go_simp
    exact ⟨_, rfl, Grew.refl _, rfl⟩
  · intro a w ht hs hg -- 37
    have h32 : a.tmps.getD 32 undef = _ := By.given_get hg 0 rfl rfl (by kernel_rfl)
    have h33 : a.tmps.getD 33 undef = _ := By.given_get hg 1 rfl rfl (by kernel_rfl)
    have h35 := By.given_get hg 3 rfl rfl (by kernel_rfl)
    have h36 : a.tmps.getD 36 undef = _ := By.given_get hg 4 rfl rfl (by kernel_rfl)
    refine By.yes rfl ?_
    obtain ⟨v35, hv35⟩ : ∃ v, a.tmps.getD 35 undef = v := ⟨_, rfl⟩
    replace h35 := (congrArg (fun v => ((ownM 0 la)).on v w) hv35).mp h35
    clear hs hg
    have Ho := Lib.hid (Own.bs h35)
    clear h35
    have hs : L0 ≤ w.heap.size := Nat.le_trans HLO.out (show w1.heap.size ≤ w.heap.size from ht.size)
    have Ha := Lib.hid ((Bs.below (w := w1.drew) HC.out ht).more ht.size)
    go_simp
    refine (HX.out w _ _ Ho.out Ha.out).mono ?_
    rintro e w' ⟨v, rfl, ho, hb⟩
    exact ⟨_, rfl, hb, ⟨_, rfl, ho.less hs⟩⟩
  · intro a w ht hs hg -- 31
    have h37 := By.given_get hg 5 rfl rfl (by kernel_rfl)
    refine By.yes rfl ?_
    obtain ⟨v37, hv37⟩ : ∃ v, a.tmps.getD 37 undef = v := ⟨_, rfl⟩
    replace h37 := (congrArg (fun v => ((resM L0 X)).on v w) hv37).mp h37
    clear hs hg
    go_simp
    exact ⟨_, rfl, Grew.refl _, h37⟩
  · intro a w ht hs hg -- 38
    have h31 := By.given_get hg 6 rfl rfl (by kernel_rfl)
    refine By.yes rfl ?_
    obtain ⟨v31, hv31⟩ : ∃ v, a.tmps.getD 31 undef = v := ⟨_, rfl⟩
    replace h31 := (congrArg (fun v => ((resM L0 X)).on v w) hv31).mp h31
    clear hs hg
    obtain ⟨x, rfl, hx⟩ := h31
    have Hx := Lib.hid hx
    clear hx
    go_simp
    exact ⟨_, rfl, Grew.refl _, Hx.out⟩
  · intro a w ht hs hg -- 39
    have h31 := By.given_get hg 6 rfl rfl (by kernel_rfl)
    refine By.yes rfl ?_
    obtain ⟨v31, hv31⟩ : ∃ v, a.tmps.getD 31 undef = v := ⟨_, rfl⟩
    replace h31 := (congrArg (fun v => ((resM L0 X)).on v w) hv31).mp h31
    clear hs hg
    obtain ⟨x, rfl, hx⟩ := h31
    clear hx
    go_simp
    exact ⟨_, rfl, Grew.refl _, rfl⟩
  · intro a w ht hs hg -- 11
    have h38 := By.given_get hg 7 rfl rfl (by kernel_rfl)
    refine By.yes rfl ?_
    obtain ⟨v38, hv38⟩ : ∃ v, a.tmps.getD 38 undef = v := ⟨_, rfl⟩
    replace h38 := (congrArg (fun v => ((ownM L0 X)).on v w) hv38).mp h38
    clear hs hg
    have Hx := Lib.hid h38
    clear h38
    go_simp
    exact ⟨_, rfl, Grew.refl _, Hx.out⟩
  · intro a w ht hs hg -- 12
    have h39 : a.tmps.getD 39 undef = _ := By.given_get hg 8 rfl rfl (by kernel_rfl)
    refine By.yes rfl ?_
    clear hs hg
    go_simp
    exact ⟨_, rfl, Grew.refl _, rfl⟩
  refine By.ends_is (By.ends_is (By.ends_is (By.ends_skip fun v35 => (By.ends_is (By.ends_skip fun v37 => (By.ends_skip fun v31 => (By.ends_skip fun v38 => (By.ends_is (By.ends_any fun v11 => (By.ends_is (By.ends_nil fun w3 hw3 => ?_)))))))))))
  simp only [Act.put, List.setIfInBounds_toArray, List.set_cons_succ, List.set_cons_zero]
  obtain ⟨hg3, ho3⟩ := hw3
  have hg3 : Below w1.heap.size w1.drew w3 := hg3
  have HB3 := Lib.hid (nextB (b := w1.drew) HB1.out.drew (Nat.le_refl _) hg3)
  have HO3 := Lib.hid (show Own w3 L0 v11 X from ho3)
  have HK3 := Lib.hid (Row.below (w := w1.drew) HK1.out hg3 HK1.out.lt)
  have HN3 := Lib.hid (Row.below (w := w1.drew) HN1.out hg3 HN1.out.lt)
  have HLO3 := Lib.hid (show L0 ≤ w3.heap.size from Nat.le_trans HLO.out hg3.size)
  clear hg3 ho3 HLO HC HP HPL HK HN
  have HLO := HLO3
  have HC := Lib.hid ((Hc.out.below HB3.out).more HB3.out.size)
  have HP := Lib.hid ((Hb.out.below HB3.out).more HB3.out.size)
  have HPL := Lib.hid (show lb.length ≤ 300 by rw [Hn2.out]; exact H2.out)
  have HK := HK3
  have HN := HN3
  go_wp2_with fail
  refine By.marks mixed Grew [By.is (arr8 key),
    By.is (arr8 nonce),
    By.is (.slice A2 n2 c2),
    ownM 0 lb,
    By.is (.slice A3 n3 c3),
    (resM L0 Y),
    (resM L0 Y),
    (ownM L0 Y),
    By.is (.int .i64 0),
    (ownM L0 Y),
    By.is (.int .i64 0)]
    (Ev.masks _ []) (by kernel_rfl) rfl Grew.refl Grew.trans ⟨?_, ?_, ?_, ?_, ?_, ?_, ?_, ?_, ?_, ?_, ?_, trivial⟩ ?_
  · intro a w ht hs hg -- 41
    have h5 := By.same_get hs 5 (by decide) (by kernel_rfl)
    refine By.yes rfl ?_
    clear hs hg
    refine wp_loadRow 24 _ rfl h5 (Row.below (w := w3.drew) HK.out ht HK.out.lt) Try.underlying24 rfl (by kernel_rfl) Hkl.out ?_
    exact ⟨_, rfl, Grew.refl _, rfl⟩
  · intro a w ht hs hg -- 42
    have h6 := By.same_get hs 6 (by decide) (by kernel_rfl)
    refine By.yes rfl ?_
    clear hs hg
    refine wp_loadRow 25 _ rfl h6 (Row.below (w := w3.drew) HN.out ht HN.out.lt) Try.underlying25 rfl (by kernel_rfl) Hnl.out ?_
    exact ⟨_, rfl, Grew.refl _, rfl⟩
  · intro a w ht hs hg -- 43
    have h3 := By.same_get hs 3 (by decide) (by kernel_rfl)
    refine By.yes rfl ?_
    clear hs hg
    go_simp
    exact ⟨_, rfl, Grew.refl _, rfl⟩
  · intro a w ht hs hg -- 44
    have h43 : a.tmps.getD 43 undef = _ := By.given_get hg 2 rfl rfl (by kernel_rfl)
    refine By.yes rfl ?_
    clear hs hg
    have hx := Lib.hid ((Bs.below (w := w3.drew) HP.out ht).more ht.size)
    go_simp
    refine (Own_any _ lb w hx.out (by have := HPL.out; omega)).mono ?_
    rintro e w' ⟨v, rfl, ho, hb⟩
    exact ⟨_, rfl, hb, ho.less (Nat.zero_le _)⟩
  · intro a w ht hs hg -- 45
    have h4 := By.same_get hs 4 (by decide) (by kernel_rfl)
    refine By.yes rfl ?_
    clear hs hg
    go_simp
    exact ⟨_, rfl, Grew.refl _, rfl⟩
  · intro a w ht hs hg -- 46
    have h41 : a.tmps.getD 41 undef = _ := By.given_get hg 0 rfl rfl (by kernel_rfl)
    have h42 : a.tmps.getD 42 undef = _ := By.given_get hg 1 rfl rfl (by kernel_rfl)
    have h44 := By.given_get hg 3 rfl rfl (by kernel_rfl)
    have h45 : a.tmps.getD 45 undef = _ := By.given_get hg 4 rfl rfl (by kernel_rfl)
    refine By.yes rfl ?_
    obtain ⟨v44, hv44⟩ : ∃ v, a.tmps.getD 44 undef = v := ⟨_, rfl⟩
    replace h44 := (congrArg (fun v => ((ownM 0 lb)).on v w) hv44).mp h44
    clear hs hg
    have Ho := Lib.hid (Own.bs h44)
    clear h44
    have hs : L0 ≤ w.heap.size := Nat.le_trans HLO.out (show w3.heap.size ≤ w.heap.size from ht.size)
    have Ha := Lib.hid ((Bs.below (w := w3.drew) HC.out ht).more ht.size)
    go_simp
    refine (HY.out w _ _ Ho.out Ha.out).mono ?_
    rintro e w' ⟨v, rfl, ho, hb⟩
    exact ⟨_, rfl, hb, ⟨_, rfl, ho.less hs⟩⟩
  · intro a w ht hs hg -- 40
    have h46 := By.given_get hg 5 rfl rfl (by kernel_rfl)
    refine By.yes rfl ?_
    obtain ⟨v46, hv46⟩ : ∃ v, a.tmps.getD 46 undef = v := ⟨_, rfl⟩
    replace h46 := (congrArg (fun v => ((resM L0 Y)).on v w) hv46).mp h46
    clear hs hg
    go_simp
    exact ⟨_, rfl, Grew.refl _, h46⟩
  · intro a w ht hs hg -- 47
    have h40 := By.given_get hg 6 rfl rfl (by kernel_rfl)
    refine By.yes rfl ?_
    obtain ⟨v40, hv40⟩ : ∃ v, a.tmps.getD 40 undef = v := ⟨_, rfl⟩
    replace h40 := (congrArg (fun v => ((resM L0 Y)).on v w) hv40).mp h40
    clear hs hg
    obtain ⟨x, rfl, hx⟩ := h40
    have Hx := Lib.hid hx
    clear hx
    go_simp
    exact ⟨_, rfl, Grew.refl _, Hx.out⟩
  · intro a w ht hs hg -- 48
    have h40 := By.given_get hg 6 rfl rfl (by kernel_rfl)
    refine By.yes rfl ?_
    obtain ⟨v40, hv40⟩ : ∃ v, a.tmps.getD 40 undef = v := ⟨_, rfl⟩
    replace h40 := (congrArg (fun v => ((resM L0 Y)).on v w) hv40).mp h40
    clear hs hg
    obtain ⟨x, rfl, hx⟩ := h40
    clear hx
    go_simp
    exact ⟨_, rfl, Grew.refl _, rfl⟩
  · intro a w ht hs hg -- 13
    have h47 := By.given_get hg 7 rfl rfl (by kernel_rfl)
    refine By.yes rfl ?_
    obtain ⟨v47, hv47⟩ : ∃ v, a.tmps.getD 47 undef = v := ⟨_, rfl⟩
    replace h47 := (congrArg (fun v => ((ownM L0 Y)).on v w) hv47).mp h47
    clear hs hg
    have Hx := Lib.hid h47
    clear h47
    go_simp
    exact ⟨_, rfl, Grew.refl _, Hx.out⟩
  · intro a w ht hs hg -- 14
    have h48 : a.tmps.getD 48 undef = _ := By.given_get hg 8 rfl rfl (by kernel_rfl)
    refine By.yes rfl ?_
    clear hs hg
    go_simp
    exact ⟨_, rfl, Grew.refl _, rfl⟩
  refine By.ends_is (By.ends_is (By.ends_is (By.ends_skip fun v44 => (By.ends_is (By.ends_skip fun v46 => (By.ends_skip fun v40 => (By.ends_skip fun v47 => (By.ends_is (By.ends_any fun v13 => (By.ends_is (By.ends_nil fun w4 hw4 => ?_)))))))))))
  simp only [Act.put, List.setIfInBounds_toArray, List.set_cons_succ, List.set_cons_zero]
  obtain ⟨hg4, ho4⟩ := hw4
  have hg4 : Below w3.heap.size w3.drew w4 := hg4
  have HB4 := Lib.hid (nextB (b := w3.drew) HB3.out.drew (Nat.le_refl _) hg4)
  have hY4 : Own w4 L0 v13 Y := ho4
  have hX4 : Own w4 L0 v11 X := Own.below (w := w3.drew) HO3.out hg4 (Nat.le_refl _)
  obtain ⟨AX, cX, rfl⟩ := hX4.shape
  obtain ⟨AY, cY, rfl⟩ := hY4.shape
  have HXc := Lib.hid hX4.bs
  have HYc := Lib.hid hY4.bs
  have HAc := Lib.hid ((Ha.out.below HB4.out).more HB4.out.size)
  have HLc := Lib.hid ((Hb.out.below HB4.out).more HB4.out.size)
  have HBc := HB4
  rw [HXl.out] at HXc ⊢
  rw [HYl.out] at HYc ⊢
  clear hg4 ho4 hX4 hY4 HLO HC HP HPL HK HN HO3
  go_wp2_with (first
    | (go_at_call 39; refine (Aead.Extra_any _).mono ?_; rintro e w5 ⟨rfl, hb5⟩; have HBc := Lib.hid (nextB HBc.out (Nat.le_refl _) hb5); have HXc := Lib.hid ((HXc.out.below hb5).more hb5.size); have HYc := Lib.hid ((HYc.out.below hb5).more hb5.size); have HAc := Lib.hid ((HAc.out.below hb5).more hb5.size); have HLc := Lib.hid ((HLc.out.below hb5).more hb5.size); clear hb5)
    | fail)
  have HXs := Lib.hid (bs_cells HXc.out (by rw [HXl.out]))
  have HYs := Lib.hid (bs_cells HYc.out (by rw [HYl.out]))
  obtain ⟨kx, ox, rfl, hcx⟩ := HXs.out (by omega)
  obtain ⟨ky, oy, rfl, hcy⟩ := HYs.out (by omega)
  have Hcx := Lib.hid hcx
  have Hcy := Lib.hid hcy
  have HAs := Lib.hid (bs_cells HAc.out Hn1.out)
  have HLs := Lib.hid (bs_cells HLc.out Hn2.out)
  clear hcx hcy
  go_loopw [15] (fun iv wr => ∃ i : Nat, i ≤ n1 ∧ iv = .int .i64 (i : Int) ∧ wr.heap = w5.heap ∧ Below w.heap.size w wr) (fun iv _ => n1 - (intOf iv).toNat)
  case atStart => exact ⟨0, Nat.zero_le _, rfl, rfl, HBc.out⟩
  case round =>
    obtain ⟨i, hi, rfl, hheap, hbel⟩ := hrel
    have Hheap := Lib.hid hheap
    have Hbel := Lib.hid hbel
    clear hheap hbel
    have hcell : ∀ p, wr.cell? p = w5.cell? p := fun p => by unfold World.cell?; rw [Hheap.out]
    have Hcell := Lib.hid hcell
    clear hcell
    by_cases h1 : i < n1
    · have h1' : (i : Int) < (n1 : Int) := by omega
      by_cases h2 : i < n2
      · have h2' : (i : Int) < (n2 : Int) := by omega
        have h3' : (i : Int) < (n1 : Int) + 16 := by omega
        have h4' : (i : Int) < (n2 : Int) + 16 := by omega
        obtain ⟨ka, oa, rfl, hca⟩ := HAs.out (by omega)
        obtain ⟨kl, ol, rfl, hcl⟩ := HLs.out (by omega)
        obtain ⟨x, y, p, q, e1, e2, e3, e4, exy⟩ := Hxy.out i h1 h2
        have hc1 : wr.cell? ⟨kx, ox + i, none⟩ = some (.int .u8 (x.toNat : Int)) := (Hcell.out _).trans (Hcx.out i x e1)
        have hc2 : wr.cell? ⟨ky, oy + i, none⟩ = some (.int .u8 (y.toNat : Int)) := (Hcell.out _).trans (Hcy.out i y e2)
        have hc3 : wr.cell? ⟨ka, oa + i, none⟩ = some (.int .u8 (p.toNat : Int)) := (Hcell.out _).trans (hca i p e3)
        have hc4 : wr.cell? ⟨kl, ol + i, none⟩ = some (.int .u8 (q.toNat : Int)) := (Hcell.out _).trans (hcl i q e4)
        have hb1 : bits .xor .u8 (x.toNat : Int) (y.toNat : Int) = ((x ^^^ y).toNat : Int) := w8_xor x y
        have hb2 : bits .xor .u8 (p.toNat : Int) (q.toNat : Int) = ((x ^^^ y).toNat : Int) := exy ▸ w8_xor p q
        have hi300 : (i : Int) < 300 := by have := H1.out; omega
        clear hca hcl e1 e2 e3 e4 exy
        go_wp2_with fail
        go_quiet (fail)
        rename_i nq
        clear hc1 hc2 hc3 hc4
        go_wp2
        go_roundw
        case rel => exact ⟨i + 1, h1, by simp, Hheap.out, below_drewN Hbel.out nq⟩
        case measure => simp [intOf]; omega
      · have h2' : ¬ (i : Int) < (n2 : Int) := by omega
        go_wp2
        go_ret
        exact ⟨rfl, Hbel.out⟩
    · have h1' : ¬ (i : Int) < (n1 : Int) := by omega
      go_wp2
      go_ret
      exact ⟨rfl, Hbel.out⟩

set_option maxRecDepth 100000 in
theorem lift (os : Os) (started : os.Started) (H : Type) (enc : TypeId × Value → H) :
    ReturnsInHanded {} Try.checked os 14 .any (Rows.aeadDiffersSpec.pre6 enc Try.prog Try.f14 Rows.aeadDiffersRow.domain false) (Rows.aeadDiffersSpec.post enc Try.prog Try.f14 false true false false) := by
  refine Law.lifted (C := Try.checked) 4 own started (by kernel_rfl) Try.func14 laid (by kernel_rfl) rfl Try.underlying4 rfl
    (fun ds hd => by
      have hd' : ds.length = 5 := hd
      match ds, hd' with
      | [d0, d1, d2, d3, d4], _ => rfl)
    (ChangeSpec.witness6 (enc := enc) (C := Try.checked) false ⟨#[], #[.agg (Array.replicate 32 (.int .u8 0)), .agg (Array.replicate 12 (.int .u8 0)), .slice none 0 0, .slice none 0 0, .slice none 0 0], []⟩ 8 (by kernel_rfl) (by kernel_rfl) (by kernel_rfl) (by kernel_rfl)) ?_
  intro W args ds ps hst
  have hA : DataW.TrodAll enc Try.prog W 0 (fun _ => true) true Try.f14.params.toList args.toList ds ps := hst.trod
  have hok := hst.okw
  have hlt := hst.lt
  rw [Try.params14] at hA hok
  obtain ⟨v0, v1, v2, v3, v4, d0, d1, d2, d3, d4, p2, p3, p4, rfl, rfl, h2, h3, h4, hp2, hp3, hp4⟩ := trodAll_five hA
  obtain ⟨_, hv0⟩ := hok 0 24 v0 rfl rfl
  obtain ⟨_, hv1⟩ := hok 1 25 v1 rfl rfl
  obtain ⟨_, hv2⟩ := hok 2 39 v2 rfl rfl
  obtain ⟨_, hv3⟩ := hok 3 39 v3 rfl rfl
  obtain ⟨_, hv4⟩ := hok 4 39 v4 rfl rfl
  obtain ⟨key, rfl, hkl⟩ := arr8_at Try.underlying24 (by kernel_rfl) (by kernel_rfl) Try.underlying5 hv0
  obtain ⟨nonce, rfl, hnl⟩ := arr8_at Try.underlying25 (by kernel_rfl) (by kernel_rfl) Try.underlying5 hv1
  obtain ⟨a, ha, _⟩ := Law.bytes_at Try.underlying39 hv2 h2 (fun x hx => hlt x (hp2 x hx))
  obtain ⟨b, hb, _⟩ := Law.bytes_at Try.underlying39 hv3 h3 (fun x hx => hlt x (hp3 x hx))
  obtain ⟨along, hc, _⟩ := Law.bytes_at Try.underlying39 hv4 h4 (fun x hx => hlt x (hp4 x hx))
  obtain ⟨A1, c1, rfl, _⟩ := id ha
  obtain ⟨A2, c2, rfl, _⟩ := id hb
  obtain ⟨A3, c3, rfl, _⟩ := id hc
  by_cases hs : 300 < a.length ∨ 300 < b.length ∨ 300 < along.length
  · exact long key nonce A1 A2 A3 _ _ _ c1 c2 c3 hs W
  · exact walk key nonce a b along A1 A2 A3 _ _ _ c1 c2 c3 hkl hnl W rfl rfl rfl ha hb hc (by omega) (by omega) (by omega)

theorem over : Rows.aeadDiffersRow.holds Try.pinned (OpenSpec.ofChange Rows.aeadDiffersSpec) :=
  OpenClaim.holds_of_wide 14 Try.f14 rfl rfl rfl rfl rfl rfl rfl ⟨rfl, rfl, rfl, rfl, rfl⟩ rfl rfl rfl rfl rfl (by kernel_rfl) Try.func14 (by kernel_rfl)
    (of_decide_eq_true (by kernel_rfl)) (by unfold Func.isWrapper; first | (rw [if_pos (by decide +kernel)]; kernel_rfl) | (rw [if_neg (by decide +kernel)]; exact ⟨rfl, rfl⟩))
    (fun os started H enc _ => lift os started H enc)
theorem proved : Rows.AeadDiffersSaid := over
#print axioms proved
end Go.Proofs.Ytnihpdbbbpekiaa.aeadDiffers
