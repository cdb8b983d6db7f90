/- What was sealed is opened; with another tag it is not: 'drawbridgelaw04.AeadBack', for every argument. -/
import Derived.Test.YtpldkkkenmdimaaAeadLives
import Derived.Test.YtpldkkkenmdimaaAeadOpen
import Derived.Test.YtpldkkkenmdimaaChaRXor
import Derived.Test.YtpldkkkenmdimaaEqKit
import Derived.Test.YtpldkkkenmdimaaBs
import Derived.Test.YtpldkkkenmdimaaLaw
import Derived.Test.YtpldkkkenmdimaaKit
namespace Go.Proofs.Ytpldkkkenmdimaa.aeadBack
open Go.ChangeShapes Go.WideShapes Go.ChangeAt Go.RowKit
open Pol (own mixed laid)
theorem trodAll_five {H : Type} {enc : TypeId × Value → H} {P : Program} {w : World} {base : Nat} {spare : Nat → Bool} {held : Bool} {t0 t1 t2 t3 t4 : TypeId} {args : Array Value} {ds : List (DataW H)} {ps : List MemPlace} (h : DataW.TrodAll enc P w base spare held [t0, t1, t2, t3, t4] args.toList ds ps) :
    ∃ v0 v1 v2 v3 v4 d0 d1 d2 d3 d4 p2 p3 p4, args = #[v0, v1, v2, v3, v4] ∧ ds = [d0, d1, d2, d3, d4] ∧ DataW.Trod enc P w base spare held t2 v2 d2 p2 ∧ DataW.Trod enc P w base spare held t3 v3 d3 p3 ∧ DataW.Trod enc P w base spare held t4 v4 d4 p4 ∧ (∀ x ∈ p2, x ∈ ps) ∧ (∀ x ∈ p3, x ∈ ps) ∧ ∀ x ∈ p4, x ∈ ps := by
  obtain ⟨v0, vs, d0, ds', p, q, hargs, rfl, rfl, hd, hrest⟩ := trodAll_cons h
  obtain ⟨v1, vs1, d1, ds1, p1, q1, rfl, rfl, rfl, hd1, hrest1⟩ := trodAll_cons hrest
  obtain ⟨v2, vs2, d2, ds2, p2, q2, rfl, rfl, rfl, hd2, hrest2⟩ := trodAll_cons hrest1
  obtain ⟨v3, vs3, d3, ds3, p3, q3, rfl, rfl, rfl, hd3, hrest3⟩ := trodAll_cons hrest2
  obtain ⟨v4, vs4, d4, ds4, p4, q4, rfl, rfl, rfl, hd4, hrest4⟩ := trodAll_cons hrest3
  obtain ⟨rfl, rfl, rfl⟩ := trodAll_nil hrest4
  exact ⟨v0, v1, v2, v3, v4, d0, d1, d2, d3, d4, p2, p3, p4, by cases args; simp_all, rfl, hd2, hd3, hd4, fun x hx => by simp [hx], fun x hx => by simp [hx], fun x hx => by simp [hx]⟩
def resM (lo : Nat) (l : List UInt8) : By.Mark Grew := ⟨fun v w => ∃ x, v = .tuple #[x, .int .i64 0] ∧ Own w lo x l, fun _ _ _ h k => by
  obtain ⟨x, h1, h2⟩ := h
  exact ⟨x, h1, h2.below k (Nat.le_refl _)⟩⟩
/-- A row of the call's own, as cells. -/
theorem own_row {w : World} {base n : Nat} {v : Value} {xs : List Value} {e : TypeId} (h : w.ownsRow base e 1 v n xs) (hn : 0 < n) :
    ∃ g cap cs, v = .slice (some ⟨g, 0, none⟩) n cap ∧ base ≤ g ∧ Row w g cs e ∧ ∀ (j : Nat) (x : Value), xs[j]? = some x → cs[j]? = some x := by
  rcases h.2 with ⟨rfl, hl⟩ | ⟨g, cap, cur, rfl, hbg, hg, hnc, _⟩
  · omega
  · refine ⟨g, cap, cur.toList, rfl, hbg, by unfold Row; simpa using hg, fun j x hx => ?_⟩
    have hc := h.cells (g := g) rfl j x hx
    rw [show (⟨g, 0, none⟩ : Addr).add j = ⟨g, j, none⟩ by unfold Addr.add; split <;> simp_all] at hc
    have h2 : Row w g cur.toList e := by unfold Row; simpa using hg
    cases hq : cur.toList[j]? with
    | none =>
      exfalso
      simp [World.cell?, hg] at hc
      simp at hq
      rw [Array.getElem?_eq_none_iff.2 (by omega)] at hc
      simp at hc
    | some y =>
      have := h2.cell hq
      rw [this] at hc
      exact hc
/-- The first cells of a row are these bytes. -/
def Heads (cs : List Value) (l : List UInt8) : Prop := ∀ (j : Nat) (u : UInt8), l[j]? = some u → cs[j]? = some (bv u)
theorem Heads.bs {w : World} {g cap : Nat} {cs : List Value} {t : TypeId} {l : List UInt8} (hr : Row w g cs t) (h : Heads cs l) (hc : l.length ≤ cap) : Bs w w.heap.size (.slice (some ⟨g, 0, none⟩) l.length cap) l :=
  ⟨_, _, rfl, hc, fun _ => ⟨g, 0, rfl, hr.lt, fun i u hu => by rw [Nat.zero_add]; exact hr.cell (h i u hu)⟩⟩
theorem Heads.set {cs : List Value} {l : List UInt8} (h : Heads cs l) (i : Nat) (u : UInt8) (hi : i < l.length) : Heads (cs.set i (bv u)) (l.set i u) := by
  intro j x hx
  rw [List.getElem?_set] at hx ⊢
  have hlen : i < cs.length := (List.getElem?_eq_some_iff.1 (h i l[i] (List.getElem?_eq_getElem hi))).1
  by_cases hij : i = j
  · subst hij
    rw [if_pos rfl, if_pos hi] at hx
    injection hx with hx; subst hx
    rw [if_pos rfl, if_pos hlen]
  · rw [if_neg hij] at hx ⊢
    exact h j x hx
/-- The first i bytes of a tag, turned. -/
def turn (T ch : List UInt8) (i : Nat) : List UInt8 := (List.zipWith (· ^^^ ·) (T.take i) (ch.take i)) ++ T.drop i
theorem turn_length (T ch : List UInt8) (i : Nat) (hT : T.length = 16) (hc : ch.length = 16) (hi : i ≤ 16) : (turn T ch i).length = 16 := by simp [turn, hT, hc]; omega
theorem turn_zero (T ch : List UInt8) : turn T ch 0 = T := by simp [turn]
theorem turn_at (T ch : List UInt8) (i : Nat) (u v : UInt8) (hT : T.length = 16) (hc : ch.length = 16) (hi : i < 16) (hu : T[i]? = some u) (hv : ch[i]? = some v) : (turn T ch i)[i]? = some u ∧ turn T ch (i + 1) = (turn T ch i).set i (u ^^^ v) := by
  have hl : (List.zipWith (· ^^^ ·) (T.take i) (ch.take i)).length = i := by simp [hT, hc]; omega
  constructor
  · unfold turn
    rw [List.getElem?_append_right (by omega), hl, Nat.sub_self, List.getElem?_drop, Nat.add_zero]; exact hu
  · unfold turn
    have h1 : T.take (i + 1) = T.take i ++ [u] := by rw [List.take_add_one, hu]; rfl
    have h2 : ch.take (i + 1) = ch.take i ++ [v] := by rw [List.take_add_one, hv]; rfl
    have h3 : T.drop i = u :: T.drop (i + 1) := by
      rw [List.drop_eq_getElem_cons (by omega)]
      rw [List.getElem?_eq_getElem (by omega)] at hu
      injection hu with hu; rw [hu]
    rw [h1, h2, List.zipWith_append (by simp [hT, hc]), h3, List.set_append_right _ _ (by omega), hl, Nat.sub_self]
    simp
theorem turn_all (T ch : List UInt8) (hT : T.length = 16) (hc : ch.length = 16) : turn T ch 16 = T ↔ ch = List.replicate 16 0 := by
  unfold turn
  rw [List.take_of_length_le (by omega), List.take_of_length_le (by omega), List.drop_of_length_le (by omega), List.append_nil]
  constructor
  · intro h
    apply List.ext_getElem
    · simp [hc]
    · intro i h1 h2
      have h3 : (List.zipWith (· ^^^ ·) T ch)[i]? = T[i]? := by rw [h]
      rw [List.getElem?_zipWith, List.getElem?_eq_getElem (by omega), List.getElem?_eq_getElem (by omega)] at h3
      simp only [Option.some.injEq] at h3
      have h4 : T[i] ^^^ (T[i] ^^^ ch[i]) = T[i] ^^^ T[i] := by rw [h3]
      rw [← UInt8.xor_assoc, UInt8.xor_self, UInt8.zero_xor] at h4
      rw [List.getElem_replicate]; exact h4
  · intro h
    apply List.ext_getElem
    · simp [hT, hc]
    · intro i h1 h2
      subst h
      rw [List.getElem_zipWith, List.getElem_replicate, UInt8.xor_zero]
theorem wpList_build {P : Program} {w : World} {ops : Array Oper} {rest : List Oper} {o : Oper} {a : Act} {Q : Exit → Act → World → Prop} (hgd : o.guard = none) (t : TypeId) (parts : Array (Nat × Operand)) (ho : o.op = .build t parts) {v : Value}
    (hrun : (Instr.build t (parts.map fun (i, x) => (i, a.eval x))).run P w = .ok v w) (hk : wpList P ops Q rest (a.put o.dst v) w) : wpList P ops Q (o :: rest) a w := by
  refine wpList_plain hgd fun K hK => ?_
  unfold Oper.wp execOp
  simp only [ho, Sem.run_bind, Sem.run_pure, Result.andThen_ok, hrun]
  exact hK _ _ hk
set_option maxRecDepth 100000 in
set_option maxHeartbeats 1000000 in
theorem long (key nonce change : List UInt8) (A1 A2 : Option Addr) (n1 n2 c1 c2 : Nat) (h : 300 < n1 ∨ 300 < n2) (w : World) :
    Calls Try.prog 7 #[arr8 key, arr8 nonce, .slice A1 n1 c1, .slice A2 n2 c2, arr8 change] w fun e w' => e = .returned (.bool true) ∧ Below w.heap.size w w' := by
  unfold arr8
  by_cases h1 : 300 < n1
  · have h1' : (300 : Int) < (n1 : Int) := by omega
    go_enter Try.func7, Try.ntmps7
    go_wp2_with (go_at_call 23; refine (Aead.lives_any _).mono ?_; rintro e w1 ⟨rfl, hb1⟩; have HB1 := Lib.hid hb1; clear hb1)
    go_ret
    exact ⟨rfl, ((((Below.refl _ w).alloc (Nat.le_refl _) _).alloc (by simp) _).alloc (by simp; omega) _).trans (HB1.out.mono (by simp; omega))⟩
  have h1' : ¬ (300 : Int) < (n1 : Int) := by omega
  have h2' : (300 : Int) < (n2 : Int) := by omega
  go_enter Try.func7, Try.ntmps7
  go_wp2_with (go_at_call 23; refine (Aead.lives_any _).mono ?_; rintro e w1 ⟨rfl, hb1⟩; have HB1 := Lib.hid hb1; clear hb1)
  go_ret
  exact ⟨rfl, ((((Below.refl _ w).alloc (Nat.le_refl _) _).alloc (by simp) _).alloc (by simp; omega) _).trans (HB1.out.mono (by simp; omega))⟩
set_option maxRecDepth 100000 in
set_option maxHeartbeats 2000000 in
theorem walk (key nonce la along change : List UInt8) (A1 A2 : Option Addr) (n1 n2 c1 c2 : Nat) (hk : key.length = 32) (hn : nonce.length = 12) (hch : change.length = 16) (w : World) (hn1 : la.length = n1) (hn2 : along.length = n2)
    (ha : Bs w w.heap.size (.slice A1 n1 c1) la) (hc : Bs w w.heap.size (.slice A2 n2 c2) along) (h1 : n1 ≤ 300) (h2 : n2 ≤ 300) :
    Calls Try.prog 7 #[arr8 key, arr8 nonce, .slice A1 n1 c1, .slice A2 n2 c2, arr8 change] w fun e w' => e = .returned (.bool true) ∧ Below w.heap.size w w' := by
  have h1' : ¬ (300 : Int) < (n1 : Int) := by omega
  have h2' : ¬ (300 : Int) < (n2 : Int) := by omega
  have Hkl := Lib.hid (show (key.map bv).length = 32 by rw [List.length_map]; exact hk)
  have Hnl := Lib.hid (show (nonce.map bv).length = 12 by rw [List.length_map]; exact hn)
  have Hcl := Lib.hid (show (change.map bv).length = 16 by rw [List.length_map]; exact hch)
  have Hch := Lib.hid hch
  obtain ⟨C, hC⟩ : ∃ C, Cha.xor key 1#32 nonce la = C := ⟨_, rfl⟩
  obtain ⟨TT, hTT⟩ : ∃ TT, Aead.tag key nonce C along = TT := ⟨_, rfl⟩
  have hX : Aead.sealed key nonce la along = C ++ TT := by unfold Aead.sealed; rw [hC, hTT]
  have hTl : TT.length = 16 := by rw [← hTT]; exact Aead.tag_length _ _ _ _
  have hCl : C.length = n1 := by rw [← hC, Cha.xor_length]; exact hn1
  have hback : Cha.xor key 1#32 nonce C = la := by rw [← hC]; exact Aead.xor_twice key 1#32 nonce la
  obtain ⟨X, hXX⟩ : ∃ X, C ++ TT = X := ⟨_, rfl⟩
  have HX := Lib.hid (show ∀ (W : World) (v v3 : Value), Bs W W.heap.size v la → Bs W W.heap.size v3 along → Calls Try.prog 24 #[arr8 key, arr8 nonce, v, v3] W fun e w' => ∃ v, e = .returned (.tuple #[v, .int .i64 0]) ∧ Own w' W.heap.size v X ∧ Below W.heap.size W w' from fun W v v3 hv hv3 => hXX ▸ hX ▸ Aead.Seal_ok key nonce la along v v3 hk hn W hv hv3 (by omega) (by omega))
  have HOp := Lib.hid (show ∀ (W : World) (v v3 : Value), Bs W W.heap.size v X → Bs W W.heap.size v3 along → Calls Try.prog 26 #[arr8 key, arr8 nonce, v, v3] W fun e w' => ∃ v, e = .returned (.tuple #[v, .int .i64 0]) ∧ Own w' W.heap.size v la ∧ Below W.heap.size W w' from fun W v v3 hv hv3 => by
    refine (Aead.Open_ok key nonce C TT along v v3 hk hn hTl W (hXX ▸ hv) hv3 (by omega) (by omega)).mono ?_
    rintro e w' ⟨h1, h3⟩
    rw [if_pos hTT.symm, hback] at h1
    obtain ⟨v, h1, h2⟩ := h1
    exact ⟨v, h1, h2, h3⟩)
  have HRX := Lib.hid (show ∀ (W : World) (v : Value), Bs W W.heap.size v la → Calls Try.prog 32 #[arr8 key, wv 1#32, arr8 nonce, v] W fun e w' => ∃ v, e = .returned (.tuple #[v, .int .i64 0]) ∧ Own w' W.heap.size v C ∧ Below W.heap.size W w' from fun W v hv => hC ▸ RXor_ok key nonce la v 1#32 hk hn W hv (by omega) (by unfold Cha.long; rw [show (1#32).toNat = 1 from rfl]; omega))
  have HTG := Lib.hid (show ∀ (W : World) (v v3 : Value), Bs W W.heap.size v C → Bs W W.heap.size v3 along → Calls Try.prog 30 #[arr8 key, arr8 nonce, v, v3] W fun e w' => e = .returned (arr8 TT) ∧ Below W.heap.size W w' from fun W v v3 hv hv3 => hTT ▸ Aead.ATag_any key nonce C along v v3 hk hn W hv hv3 (by omega) (by omega))
  have HOt := Lib.hid (show ∀ (T : List UInt8) (W : World) (v v3 : Value), T.length = 16 → Bs W W.heap.size v (C ++ T) → Bs W W.heap.size v3 along → Calls Try.prog 26 #[arr8 key, arr8 nonce, v, v3] W fun e w' => (if T = TT then ∃ v, e = .returned (.tuple #[v, .int .i64 0]) else e = .returned (.tuple #[.slice none 0 0, .int .i64 12])) ∧ Below W.heap.size W w' from fun T W v v3 hT hv hv3 => by
    refine (Aead.Open_ok key nonce C T along v v3 hk hn hT W hv hv3 (by omega) (by omega)).mono ?_
    rw [hTT]
    rintro e w' ⟨h1, h2⟩
    refine ⟨?_, h2⟩
    split at h1
    · rename_i he; rw [if_pos he]; obtain ⟨v, h3, _⟩ := h1; exact ⟨v, h3⟩
    · rename_i he; rw [if_neg he]; exact h1)
  have hXl : X.length = n1 + 16 := by rw [← hXX, List.length_append, hCl, hTl]
  have HXX := Lib.hid hXX
  have HXl := Lib.hid hXl
  have HTl := Lib.hid hTl
  have HTlm := Lib.hid (show (TT.map bv).length = 16 by rw [List.length_map]; exact hTl)
  have HCl := Lib.hid hCl
  have Ha := Lib.hid ha
  have Hc := Lib.hid hc
  have Hn1 := Lib.hid hn1
  have Hn2 := Lib.hid hn2
  have H1 := Lib.hid h1
  have H2 := Lib.hid h2
  clear hk hn hch hX hC hTT hback hXX hXl hTl hCl ha hc hn1 hn2 h1 h2
  unfold arr8
  go_enter Try.func7, Try.ntmps7
  go_wp2_with fail
  obtain ⟨W, hW⟩ : ∃ W, ((w.alloc (.cells (key.map bv).toArray 24)).alloc (.cells (nonce.map bv).toArray 25)).alloc (.cells (change.map bv).toArray 35) = W := ⟨_, rfl⟩
  have hWb : Below w.heap.size w W := hW ▸ (((Below.refl _ w).alloc (Nat.le_refl _) _).alloc (by simp) _).alloc (by simp; omega) _
  have hWk : Row W w.heap.size (key.map bv) 24 := hW ▸ ((Row.new rfl rfl).alloc _).alloc _
  have hWn : Row W (w.heap.size + 1) (nonce.map bv) 25 := hW ▸ (Row.new (by simp) rfl).alloc _
  have hWc : Row W (w.heap.size + 1 + 1) (change.map bv) 35 := hW ▸ Row.new (by simp) rfl
  show Calls _ _ _ (((w.alloc (.cells (key.map bv).toArray 24)).alloc (.cells (nonce.map bv).toArray 25)).alloc (.cells (change.map bv).toArray 35)) _
  rw [hW]
  clear hW
  refine (Aead.lives_any W).mono ?_
  rintro e w1 ⟨rfl, hb1⟩
  have HB1 := Lib.hid (nextB hWb (Nat.le_refl _) hb1)
  have HK1 := Lib.hid (hWk.below hb1 hWk.lt)
  have HN1 := Lib.hid (hWn.below hb1 hWn.lt)
  have HG1 := Lib.hid (hWc.below hb1 hWc.lt)
  clear hWb hWk hWn hWc hb1
  obtain ⟨L0, hL0⟩ : ∃ L, w1.heap.size = L := ⟨_, rfl⟩
  have HLO := Lib.hid (Nat.le_of_eq hL0.symm)
  have HL0 := Lib.hid (show w.heap.size + 1 + 1 < L0 by rw [← hL0]; exact HG1.out.lt)
  clear hL0
  have HC := Lib.hid ((Hc.out.below HB1.out).more HB1.out.size)
  have HP := Lib.hid ((Ha.out.below HB1.out).more HB1.out.size)
  have HPL := Lib.hid (show la.length ≤ 300 by rw [Hn1.out]; exact H1.out)
  have HAL := Lib.hid (show along.length ≤ 300 by rw [Hn2.out]; exact H2.out)
  have HK := HK1
  have HN := HN1
  go_wp2_with fail
  refine By.marks mixed Grew [By.is (arr8 key),
    By.is (arr8 nonce),
    By.is (.slice A1 n1 c1),
    ownM 0 la,
    By.is (.slice A2 n2 c2),
    ownM 0 along,
    (resM L0 X),
    (resM L0 X),
    (ownM L0 X),
    By.is (.int .i64 0),
    (ownM L0 X),
    By.is (.int .i64 0)]
    (Ev.masks _ []) (by kernel_rfl) rfl Grew.refl Grew.trans ⟨?_, ?_, ?_, ?_, ?_, ?_, ?_, ?_, ?_, ?_, ?_, ?_, trivial⟩ ?_
  · intro a w ht hs hg -- 29
    have h5 := By.same_get hs 5 (by decide) (by kernel_rfl)
    refine By.yes rfl ?_
    clear hs hg
    refine wp_loadRow 24 _ rfl h5 (Row.below (w := w1.drew) HK.out ht HK.out.lt) Try.underlying24 rfl (by kernel_rfl) Hkl.out ?_
    exact ⟨_, rfl, Grew.refl _, rfl⟩
  · intro a w ht hs hg -- 30
    have h6 := By.same_get hs 6 (by decide) (by kernel_rfl)
    refine By.yes rfl ?_
    clear hs hg
    refine wp_loadRow 25 _ rfl h6 (Row.below (w := w1.drew) HN.out ht HN.out.lt) Try.underlying25 rfl (by kernel_rfl) Hnl.out ?_
    exact ⟨_, rfl, Grew.refl _, rfl⟩
  · intro a w ht hs hg -- 31
    have h2 := By.same_get hs 2 (by decide) (by kernel_rfl)
    refine By.yes rfl ?_
    clear hs hg
    go_simp
    exact ⟨_, rfl, Grew.refl _, rfl⟩
  · intro a w ht hs hg -- 32
    have h31 : a.tmps.getD 31 undef = _ := By.given_get hg 2 rfl rfl (by kernel_rfl)
    refine By.yes rfl ?_
    clear hs hg
    have hx := Lib.hid ((Bs.below (w := w1.drew) HP.out ht).more ht.size)
    go_simp
    refine (Own_any _ la w hx.out (by have := HPL.out; omega)).mono ?_
    rintro e w' ⟨v, rfl, ho, hb⟩
    exact ⟨_, rfl, hb, ho.less (Nat.zero_le _)⟩
  · intro a w ht hs hg -- 33
    have h3 := By.same_get hs 3 (by decide) (by kernel_rfl)
    refine By.yes rfl ?_
    clear hs hg
    go_simp
    exact ⟨_, rfl, Grew.refl _, rfl⟩
  · intro a w ht hs hg -- 34
    have h33 : a.tmps.getD 33 undef = _ := By.given_get hg 4 rfl rfl (by kernel_rfl)
    refine By.yes rfl ?_
    clear hs hg
    have hx := Lib.hid ((Bs.below (w := w1.drew) HC.out ht).more ht.size)
    go_simp
    refine (Own_any _ along w hx.out (by have := HAL.out; omega)).mono ?_
    rintro e w' ⟨v, rfl, ho, hb⟩
    exact ⟨_, rfl, hb, ho.less (Nat.zero_le _)⟩
  · intro a w ht hs hg -- 35
    have h29 : a.tmps.getD 29 undef = _ := By.given_get hg 0 rfl rfl (by kernel_rfl)
    have h30 : a.tmps.getD 30 undef = _ := By.given_get hg 1 rfl rfl (by kernel_rfl)
    have h32 := By.given_get hg 3 rfl rfl (by kernel_rfl)
    have h34 := By.given_get hg 5 rfl rfl (by kernel_rfl)
    refine By.yes rfl ?_
    obtain ⟨v32, hv32⟩ : ∃ v, a.tmps.getD 32 undef = v := ⟨_, rfl⟩
    replace h32 := (congrArg (fun v => ((ownM 0 la)).on v w) hv32).mp h32
    obtain ⟨v34, hv34⟩ : ∃ v, a.tmps.getD 34 undef = v := ⟨_, rfl⟩
    replace h34 := (congrArg (fun v => ((ownM 0 along)).on v w) hv34).mp h34
    clear hs hg
    have Ho := Lib.hid (Own.bs h32)
    have Ha := Lib.hid (Own.bs h34)
    clear h32 h34
    have hs : L0 ≤ w.heap.size := Nat.le_trans HLO.out (show w1.heap.size ≤ w.heap.size from ht.size)
    go_simp
    refine (HX.out w _ _ Ho.out Ha.out).mono ?_
    rintro e w' ⟨v, rfl, ho, hb⟩
    exact ⟨_, rfl, hb, ⟨_, rfl, ho.less hs⟩⟩
  · intro a w ht hs hg -- 28
    have h35 := By.given_get hg 6 rfl rfl (by kernel_rfl)
    refine By.yes rfl ?_
    obtain ⟨v35, hv35⟩ : ∃ v, a.tmps.getD 35 undef = v := ⟨_, rfl⟩
    replace h35 := (congrArg (fun v => ((resM L0 X)).on v w) hv35).mp h35
    clear hs hg
    go_simp
    exact ⟨_, rfl, Grew.refl _, h35⟩
  · intro a w ht hs hg -- 36
    have h28 := By.given_get hg 7 rfl rfl (by kernel_rfl)
    refine By.yes rfl ?_
    obtain ⟨v28, hv28⟩ : ∃ v, a.tmps.getD 28 undef = v := ⟨_, rfl⟩
    replace h28 := (congrArg (fun v => ((resM L0 X)).on v w) hv28).mp h28
    clear hs hg
    obtain ⟨x, rfl, hx⟩ := h28
    have Hx := Lib.hid hx
    clear hx
    go_simp
    exact ⟨_, rfl, Grew.refl _, Hx.out⟩
  · intro a w ht hs hg -- 37
    have h28 := By.given_get hg 7 rfl rfl (by kernel_rfl)
    refine By.yes rfl ?_
    obtain ⟨v28, hv28⟩ : ∃ v, a.tmps.getD 28 undef = v := ⟨_, rfl⟩
    replace h28 := (congrArg (fun v => ((resM L0 X)).on v w) hv28).mp h28
    clear hs hg
    obtain ⟨x, rfl, hx⟩ := h28
    clear hx
    go_simp
    exact ⟨_, rfl, Grew.refl _, rfl⟩
  · intro a w ht hs hg -- 11
    have h36 := By.given_get hg 8 rfl rfl (by kernel_rfl)
    refine By.yes rfl ?_
    obtain ⟨v36, hv36⟩ : ∃ v, a.tmps.getD 36 undef = v := ⟨_, rfl⟩
    replace h36 := (congrArg (fun v => ((ownM L0 X)).on v w) hv36).mp h36
    clear hs hg
    have Hx := Lib.hid h36
    clear h36
    go_simp
    exact ⟨_, rfl, Grew.refl _, Hx.out⟩
  · intro a w ht hs hg -- 12
    have h37 : a.tmps.getD 37 undef = _ := By.given_get hg 9 rfl rfl (by kernel_rfl)
    refine By.yes rfl ?_
    clear hs hg
    go_simp
    exact ⟨_, rfl, Grew.refl _, rfl⟩
  refine By.ends_is (By.ends_is (By.ends_is (By.ends_skip fun v32 => (By.ends_is (By.ends_skip fun v34 => (By.ends_skip fun v35 => (By.ends_skip fun v28 => (By.ends_skip fun v36 => (By.ends_is (By.ends_any fun v11 => (By.ends_is (By.ends_nil fun w3 hw3 => ?_))))))))))))
  simp only [Act.put, List.setIfInBounds_toArray, List.set_cons_succ, List.set_cons_zero]
  obtain ⟨hg3, ho3⟩ := hw3
  have hg3 : Below w1.heap.size w1.drew w3 := hg3
  have HB3 := Lib.hid (nextB (b := w1.drew) HB1.out.drew (Nat.le_refl _) hg3)
  have ho3 : Own w3 L0 v11 X := ho3
  have hbs3 := ho3.bs
  obtain ⟨gX, capX, csX, rfl, hgX, hrX, hhX⟩ := own_row ho3 (by rw [HXl.out]; omega)
  have HHX := Lib.hid (show Heads csX X from fun j u hu => hhX j _ (by rw [List.getElem?_map, hu]; rfl))
  have HRX3 := Lib.hid hrX
  have HgX := Lib.hid (show w.heap.size + 1 + 1 < gX from Nat.lt_of_lt_of_le HL0.out hgX)
  have Hcap := Lib.hid (show X.length ≤ capX by
    obtain ⟨_, _, e9, hc9, _⟩ := hbs3
    simp only [Value.slice.injEq] at e9
    omega)
  have HK3 := Lib.hid (Row.below (w := w1.drew) HK1.out hg3 HK1.out.lt)
  have HN3 := Lib.hid (Row.below (w := w1.drew) HN1.out hg3 HN1.out.lt)
  have HG3 := Lib.hid (Row.below (w := w1.drew) HG1.out hg3 HG1.out.lt)
  have HLO3 := Lib.hid (show L0 ≤ w3.heap.size from Nat.le_trans HLO.out hg3.size)
  clear hg3 ho3 hbs3 hgX hrX hhX HLO HC HP HK HN
  have HLO := HLO3
  have HC := Lib.hid ((Hc.out.below HB3.out).more HB3.out.size)
  have HP := Lib.hid (Heads.bs HRX3.out HHX.out Hcap.out)
  rw [HXl.out] at HP Hcap ⊢
  have HK := HK3
  have HN := HN3
  have HXL := Lib.hid (show X.length ≤ 400 by rw [HXl.out]; have := H1.out; omega)
  go_wp2_with fail
  refine By.marks mixed Grew [By.is (arr8 key),
    By.is (arr8 nonce),
    By.is (.slice (some ⟨gX, 0, none⟩) (n1 + 16) capX),
    ownM 0 X,
    By.is (.slice A2 n2 c2),
    ownM 0 along,
    (resM L0 la),
    (resM L0 la),
    (ownM L0 la),
    By.is (.int .i64 0),
    (ownM L0 la),
    By.is (.int .i64 0)]
    (Ev.masks _ []) (by kernel_rfl) rfl Grew.refl Grew.trans ⟨?_, ?_, ?_, ?_, ?_, ?_, ?_, ?_, ?_, ?_, ?_, ?_, trivial⟩ ?_
  · intro a w ht hs hg -- 49
    have h5 := By.same_get hs 5 (by decide) (by kernel_rfl)
    refine By.yes rfl ?_
    clear hs hg
    refine wp_loadRow 24 _ rfl h5 (Row.below (w := w3.drew) HK.out ht HK.out.lt) Try.underlying24 rfl (by kernel_rfl) Hkl.out ?_
    exact ⟨_, rfl, Grew.refl _, rfl⟩
  · intro a w ht hs hg -- 50
    have h6 := By.same_get hs 6 (by decide) (by kernel_rfl)
    refine By.yes rfl ?_
    clear hs hg
    refine wp_loadRow 25 _ rfl h6 (Row.below (w := w3.drew) HN.out ht HN.out.lt) Try.underlying25 rfl (by kernel_rfl) Hnl.out ?_
    exact ⟨_, rfl, Grew.refl _, rfl⟩
  · intro a w ht hs hg -- 51
    have h11 := By.same_get hs 11 (by decide) (by kernel_rfl)
    refine By.yes rfl ?_
    clear hs hg
    go_simp
    exact ⟨_, rfl, Grew.refl _, rfl⟩
  · intro a w ht hs hg -- 52
    have h51 : a.tmps.getD 51 undef = _ := By.given_get hg 2 rfl rfl (by kernel_rfl)
    refine By.yes rfl ?_
    clear hs hg
    have hx := Lib.hid ((Bs.below (w := w3.drew) HP.out ht).more ht.size)
    go_simp
    refine (Own_any _ X w hx.out (by have := HXL.out; omega)).mono ?_
    rintro e w' ⟨v, rfl, ho, hb⟩
    exact ⟨_, rfl, hb, ho.less (Nat.zero_le _)⟩
  · intro a w ht hs hg -- 53
    have h3 := By.same_get hs 3 (by decide) (by kernel_rfl)
    refine By.yes rfl ?_
    clear hs hg
    go_simp
    exact ⟨_, rfl, Grew.refl _, rfl⟩
  · intro a w ht hs hg -- 54
    have h53 : a.tmps.getD 53 undef = _ := By.given_get hg 4 rfl rfl (by kernel_rfl)
    refine By.yes rfl ?_
    clear hs hg
    have hx := Lib.hid ((Bs.below (w := w3.drew) HC.out ht).more ht.size)
    go_simp
    refine (Own_any _ along w hx.out (by have := HAL.out; omega)).mono ?_
    rintro e w' ⟨v, rfl, ho, hb⟩
    exact ⟨_, rfl, hb, ho.less (Nat.zero_le _)⟩
  · intro a w ht hs hg -- 55
    have h49 : a.tmps.getD 49 undef = _ := By.given_get hg 0 rfl rfl (by kernel_rfl)
    have h50 : a.tmps.getD 50 undef = _ := By.given_get hg 1 rfl rfl (by kernel_rfl)
    have h52 := By.given_get hg 3 rfl rfl (by kernel_rfl)
    have h54 := By.given_get hg 5 rfl rfl (by kernel_rfl)
    refine By.yes rfl ?_
    obtain ⟨v52, hv52⟩ : ∃ v, a.tmps.getD 52 undef = v := ⟨_, rfl⟩
    replace h52 := (congrArg (fun v => ((ownM 0 X)).on v w) hv52).mp h52
    obtain ⟨v54, hv54⟩ : ∃ v, a.tmps.getD 54 undef = v := ⟨_, rfl⟩
    replace h54 := (congrArg (fun v => ((ownM 0 along)).on v w) hv54).mp h54
    clear hs hg
    have Ho := Lib.hid (Own.bs h52)
    have Ha := Lib.hid (Own.bs h54)
    clear h52 h54
    have hs : L0 ≤ w.heap.size := Nat.le_trans HLO.out (show w3.heap.size ≤ w.heap.size from ht.size)
    go_simp
    refine (HOp.out w _ _ Ho.out Ha.out).mono ?_
    rintro e w' ⟨v, rfl, ho, hb⟩
    exact ⟨_, rfl, hb, ⟨_, rfl, ho.less hs⟩⟩
  · intro a w ht hs hg -- 48
    have h55 := By.given_get hg 6 rfl rfl (by kernel_rfl)
    refine By.yes rfl ?_
    obtain ⟨v55, hv55⟩ : ∃ v, a.tmps.getD 55 undef = v := ⟨_, rfl⟩
    replace h55 := (congrArg (fun v => ((resM L0 la)).on v w) hv55).mp h55
    clear hs hg
    go_simp
    exact ⟨_, rfl, Grew.refl _, h55⟩
  · intro a w ht hs hg -- 56
    have h48 := By.given_get hg 7 rfl rfl (by kernel_rfl)
    refine By.yes rfl ?_
    obtain ⟨v48, hv48⟩ : ∃ v, a.tmps.getD 48 undef = v := ⟨_, rfl⟩
    replace h48 := (congrArg (fun v => ((resM L0 la)).on v w) hv48).mp h48
    clear hs hg
    obtain ⟨x, rfl, hx⟩ := h48
    have Hx := Lib.hid hx
    clear hx
    go_simp
    exact ⟨_, rfl, Grew.refl _, Hx.out⟩
  · intro a w ht hs hg -- 57
    have h48 := By.given_get hg 7 rfl rfl (by kernel_rfl)
    refine By.yes rfl ?_
    obtain ⟨v48, hv48⟩ : ∃ v, a.tmps.getD 48 undef = v := ⟨_, rfl⟩
    replace h48 := (congrArg (fun v => ((resM L0 la)).on v w) hv48).mp h48
    clear hs hg
    obtain ⟨x, rfl, hx⟩ := h48
    clear hx
    go_simp
    exact ⟨_, rfl, Grew.refl _, rfl⟩
  · intro a w ht hs hg -- 13
    have h56 := By.given_get hg 8 rfl rfl (by kernel_rfl)
    refine By.yes rfl ?_
    obtain ⟨v56, hv56⟩ : ∃ v, a.tmps.getD 56 undef = v := ⟨_, rfl⟩
    replace h56 := (congrArg (fun v => ((ownM L0 la)).on v w) hv56).mp h56
    clear hs hg
    have Hx := Lib.hid h56
    clear h56
    go_simp
    exact ⟨_, rfl, Grew.refl _, Hx.out⟩
  · intro a w ht hs hg -- 12
    have h57 : a.tmps.getD 57 undef = _ := By.given_get hg 9 rfl rfl (by kernel_rfl)
    refine By.yes rfl ?_
    clear hs hg
    go_simp
    exact ⟨_, rfl, Grew.refl _, rfl⟩
  refine By.ends_is (By.ends_is (By.ends_is (By.ends_skip fun v52 => (By.ends_is (By.ends_skip fun v54 => (By.ends_skip fun v55 => (By.ends_skip fun v48 => (By.ends_skip fun v56 => (By.ends_is (By.ends_any fun v13 => (By.ends_is (By.ends_nil fun w4 hw4 => ?_))))))))))))
  simp only [Act.put, List.setIfInBounds_toArray, List.set_cons_succ, List.set_cons_zero]
  obtain ⟨hg4, ho4⟩ := hw4
  have hg4 : Below w3.heap.size w3.drew w4 := hg4
  have HB4 := Lib.hid (nextB (b := w3.drew) HB3.out.drew (Nat.le_refl _) hg4)
  have ho4 : Own w4 L0 v13 la := ho4
  have HP4 := Lib.hid ho4.bs
  have HRX4 := Lib.hid (Row.below (w := w3.drew) HRX3.out hg4 HRX3.out.lt)
  have HK4 := Lib.hid (Row.below (w := w3.drew) HK3.out hg4 HK3.out.lt)
  have HN4 := Lib.hid (Row.below (w := w3.drew) HN3.out hg4 HN3.out.lt)
  have HG4 := Lib.hid (Row.below (w := w3.drew) HG3.out hg4 HG3.out.lt)
  clear hg4 ho4 HLO HC HP HK HN
  go_wp2_with (first
    | (refine wpList_loadRow (n := 32) (cs := key.map bv) rfl 24 _ rfl rfl HK4.out Try.underlying24 rfl (by kernel_rfl) Hkl.out ?_)
    | (refine wpList_loadRow (n := 12) (cs := nonce.map bv) rfl 25 _ rfl rfl HN4.out Try.underlying25 rfl (by kernel_rfl) Hnl.out ?_)
    | fail)
  refine (HRX.out w4 _ ((Ha.out.below HB4.out).more HB4.out.size)).mono ?_
  rintro e w5 ⟨v14, rfl, ho5, hb5⟩
  have HB5 := Lib.hid (nextB HB4.out (Nat.le_refl _) hb5)
  have HK5 := Lib.hid (HK4.out.below hb5 HK4.out.lt)
  have HN5 := Lib.hid (HN4.out.below hb5 HN4.out.lt)
  have HG5 := Lib.hid (HG4.out.below hb5 HG4.out.lt)
  have HRX5 := Lib.hid (HRX4.out.below hb5 HRX4.out.lt)
  have HP5 := Lib.hid ((HP4.out.below hb5).more hb5.size)
  have HV5 := Lib.hid ho5.bs
  clear ho5 hb5
  go_wp2_with (first
    | (refine wpList_loadRow (n := 32) (cs := key.map bv) rfl 24 _ rfl rfl HK5.out Try.underlying24 rfl (by kernel_rfl) Hkl.out ?_)
    | (refine wpList_loadRow (n := 12) (cs := nonce.map bv) rfl 25 _ rfl rfl HN5.out Try.underlying25 rfl (by kernel_rfl) Hnl.out ?_)
    | fail)
  refine (HTG.out w5 _ _ HV5.out ((Hc.out.below HB5.out).more HB5.out.size)).mono ?_
  rintro e w6 ⟨rfl, hb6⟩
  have Hb6 := Lib.hid hb6
  clear hb6
  obtain ⟨g16, hg16⟩ : ∃ g, w6.heap.size = g := ⟨_, rfl⟩
  have Hg16 := Lib.hid hg16
  clear hg16
  unfold arr8
  go_wp2_with (first
    | (refine wpList_storeRow (n := 16) rfl 35 _ _ rfl rfl rfl (cs := TT.map bv) (old := (List.replicate 16 (0 : UInt8)).map bv) (g := w6.heap.size) (Row.new rfl rfl) (by kernel_rfl) HTlm.out (by simp) (bytes_one _) ?_
       obtain ⟨w9, hw9⟩ : ∃ w9, (w6.alloc (.cells ((List.replicate 16 (0 : UInt8)).map bv).toArray 35)).setRow w6.heap.size (TT.map bv).toArray = w9 := ⟨_, rfl⟩
       have HT9r := Lib.hid (show Row w9 w6.heap.size (TT.map bv) 35 from hw9 ▸ (Row.new (cs := (List.replicate 16 (0 : UInt8)).map bv) rfl rfl).setRow _)
       have hb69 : Below w6.heap.size w6 w9 := hw9 ▸ below_setRow ((Below.refl _ w6).alloc (Nat.le_refl _) _) (Nat.le_refl _) _
       have hb59 : Below w5.heap.size w5 w9 := nextB Hb6.out (Nat.le_refl _) hb69
       have HB9 := Lib.hid (nextB HB5.out (Nat.le_refl _) hb59)
       have HK9 := Lib.hid (HK5.out.below hb59 HK5.out.lt)
       have HN9 := Lib.hid (HN5.out.below hb59 HN5.out.lt)
       have HG9 := Lib.hid (HG5.out.below hb59 HG5.out.lt)
       have HRX9 := Lib.hid (HRX5.out.below hb59 HRX5.out.lt)
       have HP9 := Lib.hid ((HP5.out.below hb59).more hb59.size)
       have HV9 := Lib.hid ((HV5.out.below hb59).more hb59.size)
       refine wpList_world hw9 ?_
       clear hw9 hb69 hb59)
    | fail)
  rw [Hg16.out]
  rw [Hg16.out] at HT9r
  have HT9 := Lib.hid (Aead.bs_row HTlm.out HT9r.out)
  have HA9 := Lib.hid ((Ha.out.below HB9.out).more HB9.out.size)
  have HXB := Heads.bs HRX9.out HHX.out (by rw [HXl.out]; exact Hcap.out)
  have HXT := Lib.hid (show Bs w9 w9.heap.size (.slice (some ⟨gX, 0, none⟩) n1 capX) C by
    have h := Bs.take HXB rfl (k := n1) (by rw [HXl.out]; omega)
    rwa [← HXX.out, List.take_left' HCl.out] at h)
  have hcn : ¬ capX = n1 := by have := Hcap.out; omega
  have HXD := Lib.hid (show Bs w9 w9.heap.size (.slice (some ⟨gX, n1, none⟩) 16 (capX - n1)) TT by
    have h := Bs.cut HXB (k := n1) (by rw [HXl.out]; omega)
    rw [HXl.out, ← HXX.out, List.drop_left' HCl.out, show n1 + 16 - n1 = 16 by omega, if_neg hcn] at h
    have e : (some (⟨gX, 0, none⟩ : Addr)).map (·.add n1) = some ⟨gX, n1, none⟩ := by
      simp only [Option.map_some, Addr.add]
      split
      · rename_i h0; subst h0; rfl
      · simp
    rwa [e] at h)
  clear HXB
  have hle1 : (n1 : Int) ≤ (capX : Int) := by have := Hcap.out; omega
  have hle2 : (n1 : Int) ≤ (n1 : Int) + 16 := by omega
  refine By.marks mixed Grew [By.is (.int .i64 0),
    By.is (.bool false),
    By.is (.bool false),
    By.is v13,
    By.is (strOf la),
    By.is (.slice A1 n1 c1),
    By.is (strOf la),
    By.is (.bool false),
    By.is (.bool false),
    By.is (.bool false),
    By.is (.slice (some ⟨gX, 0, none⟩) (n1 + 16) capX),
    By.is (.slice A1 n1 c1),
    By.is (.int .i64 (n1 : Int)),
    By.is (.slice (some ⟨gX, 0, none⟩) n1 capX),
    By.is (strOf C),
    By.is v14,
    By.is (strOf C),
    By.is (.bool false),
    By.is (.bool false),
    By.is (.bool false),
    By.is (.slice (some ⟨gX, 0, none⟩) (n1 + 16) capX),
    By.is (.slice A1 n1 c1),
    By.is (.int .i64 (n1 : Int)),
    By.is (.slice (some ⟨gX, n1, none⟩) 16 (capX - n1)),
    By.is (strOf TT),
    By.is (.slice (some ⟨g16, 0, none⟩) 16 16),
    By.is (strOf TT),
    By.is (.bool false),
    By.is (.bool false)]
    (Ev.masks _ []) (by kernel_rfl) rfl Grew.refl Grew.trans ⟨?_, ?_, ?_, ?_, ?_, ?_, ?_, ?_, ?_, ?_, ?_, ?_, ?_, ?_, ?_, ?_, ?_, ?_, ?_, ?_, ?_, ?_, ?_, ?_, ?_, ?_, ?_, ?_, ?_, trivial⟩ ?_
  · intro a w ht hs hg -- 70
    have h12 := By.same_get hs 12 (by decide) (by kernel_rfl)
    refine By.yes rfl ?_
    clear hs hg
    go_simp
    exact ⟨_, rfl, Grew.refl _, rfl⟩
  · intro a w ht hs hg -- 71
    have h70 : a.tmps.getD 70 undef = _ := By.given_get hg 0 rfl rfl (by kernel_rfl)
    refine By.yes rfl ?_
    clear hs hg
    go_simp
    exact ⟨_, rfl, Grew.refl _, congrArg Value.bool (by simp)⟩
  · intro a w ht hs hg -- 72
    have h71 : a.tmps.getD 71 undef = _ := By.given_get hg 1 rfl rfl (by kernel_rfl)
    refine By.yes rfl ?_
    clear hs hg
    go_simp
    exact ⟨_, rfl, Grew.refl _, rfl⟩
  · intro a w ht hs hg -- 73
    have h13 := By.same_get hs 13 (by decide) (by kernel_rfl)
    have hg72 := By.given_get hg 2 rfl rfl (by kernel_rfl)
    refine By.yes (By.want_yes rfl rfl hg72) ?_
    clear hg72
    clear hs hg
    go_simp
    exact ⟨_, rfl, Grew.refl _, rfl⟩
  · intro a w ht hs hg -- 74
    have h73 : a.tmps.getD 73 undef = _ := By.given_get hg 3 rfl rfl (by kernel_rfl)
    have hg72 := By.given_get hg 2 rfl rfl (by kernel_rfl)
    refine By.yes (By.want_yes rfl rfl hg72) ?_
    clear hg72
    clear hs hg
    have hr := run_str w (Bs.below (w := w9.drew) HP9.out ht)
    go_simp
    exact ⟨_, rfl, Grew.refl _, rfl⟩
  · intro a w ht hs hg -- 75
    have h2 := By.same_get hs 2 (by decide) (by kernel_rfl)
    have hg72 := By.given_get hg 2 rfl rfl (by kernel_rfl)
    refine By.yes (By.want_yes rfl rfl hg72) ?_
    clear hg72
    clear hs hg
    go_simp
    exact ⟨_, rfl, Grew.refl _, rfl⟩
  · intro a w ht hs hg -- 76
    have h75 : a.tmps.getD 75 undef = _ := By.given_get hg 5 rfl rfl (by kernel_rfl)
    have hg72 := By.given_get hg 2 rfl rfl (by kernel_rfl)
    refine By.yes (By.want_yes rfl rfl hg72) ?_
    clear hg72
    clear hs hg
    have hr := run_str w (Bs.below (w := w9.drew) HA9.out ht)
    go_simp
    exact ⟨_, rfl, Grew.refl _, rfl⟩
  · intro a w ht hs hg -- 77
    have h74 : a.tmps.getD 74 undef = _ := By.given_get hg 4 rfl rfl (by kernel_rfl)
    have h76 : a.tmps.getD 76 undef = _ := By.given_get hg 6 rfl rfl (by kernel_rfl)
    have hg72 := By.given_get hg 2 rfl rfl (by kernel_rfl)
    refine By.yes (By.want_yes rfl rfl hg72) ?_
    clear hg72
    clear hs hg
    go_simp
    exact ⟨_, rfl, Grew.refl _, congrArg Value.bool (by simp)⟩
  · intro a w ht hs hg -- 78
    have h72 : a.tmps.getD 72 undef = _ := By.given_get hg 2 rfl rfl (by kernel_rfl)
    have h77 : a.tmps.getD 77 undef = _ := By.given_get hg 7 rfl rfl (by kernel_rfl)
    refine By.yes rfl ?_
    clear hs hg
    go_simp
    exact ⟨_, rfl, Grew.refl _, rfl⟩
  · intro a w ht hs hg -- 79
    have h78 : a.tmps.getD 78 undef = _ := By.given_get hg 8 rfl rfl (by kernel_rfl)
    refine By.yes rfl ?_
    clear hs hg
    go_simp
    exact ⟨_, rfl, Grew.refl _, rfl⟩
  · intro a w ht hs hg -- 80
    have h11 := By.same_get hs 11 (by decide) (by kernel_rfl)
    have hg79 := By.given_get hg 9 rfl rfl (by kernel_rfl)
    refine By.yes (By.want_yes rfl rfl hg79) ?_
    clear hg79
    clear hs hg
    go_simp
    exact ⟨_, rfl, Grew.refl _, rfl⟩
  · intro a w ht hs hg -- 81
    have h2 := By.same_get hs 2 (by decide) (by kernel_rfl)
    have hg79 := By.given_get hg 9 rfl rfl (by kernel_rfl)
    refine By.yes (By.want_yes rfl rfl hg79) ?_
    clear hg79
    clear hs hg
    go_simp
    exact ⟨_, rfl, Grew.refl _, rfl⟩
  · intro a w ht hs hg -- 82
    have h81 : a.tmps.getD 81 undef = _ := By.given_get hg 11 rfl rfl (by kernel_rfl)
    have hg79 := By.given_get hg 9 rfl rfl (by kernel_rfl)
    refine By.yes (By.want_yes rfl rfl hg79) ?_
    clear hg79
    clear hs hg
    go_simp
    exact ⟨_, rfl, Grew.refl _, rfl⟩
  · intro a w ht hs hg -- 83
    have h80 : a.tmps.getD 80 undef = _ := By.given_get hg 10 rfl rfl (by kernel_rfl)
    have h82 : a.tmps.getD 82 undef = _ := By.given_get hg 12 rfl rfl (by kernel_rfl)
    have hg79 := By.given_get hg 9 rfl rfl (by kernel_rfl)
    refine By.yes (By.want_yes rfl rfl hg79) ?_
    clear hg79
    clear hs hg
    go_simp
    exact ⟨_, rfl, Grew.refl _, rfl⟩
  · intro a w ht hs hg -- 84
    have h83 : a.tmps.getD 83 undef = _ := By.given_get hg 13 rfl rfl (by kernel_rfl)
    have hg79 := By.given_get hg 9 rfl rfl (by kernel_rfl)
    refine By.yes (By.want_yes rfl rfl hg79) ?_
    clear hg79
    clear hs hg
    have hr := run_str w (Bs.below (w := w9.drew) HXT.out ht)
    go_simp
    exact ⟨_, rfl, Grew.refl _, rfl⟩
  · intro a w ht hs hg -- 85
    have h14 := By.same_get hs 14 (by decide) (by kernel_rfl)
    have hg79 := By.given_get hg 9 rfl rfl (by kernel_rfl)
    refine By.yes (By.want_yes rfl rfl hg79) ?_
    clear hg79
    clear hs hg
    go_simp
    exact ⟨_, rfl, Grew.refl _, rfl⟩
  · intro a w ht hs hg -- 86
    have h85 : a.tmps.getD 85 undef = _ := By.given_get hg 15 rfl rfl (by kernel_rfl)
    have hg79 := By.given_get hg 9 rfl rfl (by kernel_rfl)
    refine By.yes (By.want_yes rfl rfl hg79) ?_
    clear hg79
    clear hs hg
    have hr := run_str w (Bs.below (w := w9.drew) HV9.out ht)
    go_simp
    exact ⟨_, rfl, Grew.refl _, rfl⟩
  · intro a w ht hs hg -- 87
    have h84 : a.tmps.getD 84 undef = _ := By.given_get hg 14 rfl rfl (by kernel_rfl)
    have h86 : a.tmps.getD 86 undef = _ := By.given_get hg 16 rfl rfl (by kernel_rfl)
    have hg79 := By.given_get hg 9 rfl rfl (by kernel_rfl)
    refine By.yes (By.want_yes rfl rfl hg79) ?_
    clear hg79
    clear hs hg
    go_simp
    exact ⟨_, rfl, Grew.refl _, congrArg Value.bool (by simp)⟩
  · intro a w ht hs hg -- 88
    have h79 : a.tmps.getD 79 undef = _ := By.given_get hg 9 rfl rfl (by kernel_rfl)
    have h87 : a.tmps.getD 87 undef = _ := By.given_get hg 17 rfl rfl (by kernel_rfl)
    refine By.yes rfl ?_
    clear hs hg
    go_simp
    exact ⟨_, rfl, Grew.refl _, rfl⟩
  · intro a w ht hs hg -- 89
    have h88 : a.tmps.getD 88 undef = _ := By.given_get hg 18 rfl rfl (by kernel_rfl)
    refine By.yes rfl ?_
    clear hs hg
    go_simp
    exact ⟨_, rfl, Grew.refl _, rfl⟩
  · intro a w ht hs hg -- 90
    have h11 := By.same_get hs 11 (by decide) (by kernel_rfl)
    have hg89 := By.given_get hg 19 rfl rfl (by kernel_rfl)
    refine By.yes (By.want_yes rfl rfl hg89) ?_
    clear hg89
    clear hs hg
    go_simp
    exact ⟨_, rfl, Grew.refl _, rfl⟩
  · intro a w ht hs hg -- 91
    have h2 := By.same_get hs 2 (by decide) (by kernel_rfl)
    have hg89 := By.given_get hg 19 rfl rfl (by kernel_rfl)
    refine By.yes (By.want_yes rfl rfl hg89) ?_
    clear hg89
    clear hs hg
    go_simp
    exact ⟨_, rfl, Grew.refl _, rfl⟩
  · intro a w ht hs hg -- 92
    have h91 : a.tmps.getD 91 undef = _ := By.given_get hg 21 rfl rfl (by kernel_rfl)
    have hg89 := By.given_get hg 19 rfl rfl (by kernel_rfl)
    refine By.yes (By.want_yes rfl rfl hg89) ?_
    clear hg89
    clear hs hg
    go_simp
    exact ⟨_, rfl, Grew.refl _, rfl⟩
  · intro a w ht hs hg -- 93
    have h90 : a.tmps.getD 90 undef = _ := By.given_get hg 20 rfl rfl (by kernel_rfl)
    have h92 : a.tmps.getD 92 undef = _ := By.given_get hg 22 rfl rfl (by kernel_rfl)
    have hg89 := By.given_get hg 19 rfl rfl (by kernel_rfl)
    refine By.yes (By.want_yes rfl rfl hg89) ?_
    clear hg89
    clear hs hg
    go_simp
    exact ⟨_, rfl, Grew.refl _, rfl⟩
  · intro a w ht hs hg -- 94
    have h93 : a.tmps.getD 93 undef = _ := By.given_get hg 23 rfl rfl (by kernel_rfl)
    have hg89 := By.given_get hg 19 rfl rfl (by kernel_rfl)
    refine By.yes (By.want_yes rfl rfl hg89) ?_
    clear hg89
    clear hs hg
    have hr := run_str w (Bs.below (w := w9.drew) HXD.out ht)
    go_simp
    exact ⟨_, rfl, Grew.refl _, rfl⟩
  · intro a w ht hs hg -- 95
    have h16 := By.same_get hs 16 (by decide) (by kernel_rfl)
    have hg89 := By.given_get hg 19 rfl rfl (by kernel_rfl)
    refine By.yes (By.want_yes rfl rfl hg89) ?_
    clear hg89
    clear hs hg
    go_simp
    exact ⟨_, rfl, Grew.refl _, rfl⟩
  · intro a w ht hs hg -- 96
    have h95 : a.tmps.getD 95 undef = _ := By.given_get hg 25 rfl rfl (by kernel_rfl)
    have hg89 := By.given_get hg 19 rfl rfl (by kernel_rfl)
    refine By.yes (By.want_yes rfl rfl hg89) ?_
    clear hg89
    clear hs hg
    have hr := run_str w (Bs.below (w := w9.drew) HT9.out ht)
    go_simp
    exact ⟨_, rfl, Grew.refl _, rfl⟩
  · intro a w ht hs hg -- 97
    have h94 : a.tmps.getD 94 undef = _ := By.given_get hg 24 rfl rfl (by kernel_rfl)
    have h96 : a.tmps.getD 96 undef = _ := By.given_get hg 26 rfl rfl (by kernel_rfl)
    have hg89 := By.given_get hg 19 rfl rfl (by kernel_rfl)
    refine By.yes (By.want_yes rfl rfl hg89) ?_
    clear hg89
    clear hs hg
    go_simp
    exact ⟨_, rfl, Grew.refl _, congrArg Value.bool (by simp)⟩
  · intro a w ht hs hg -- 98
    have h89 : a.tmps.getD 89 undef = _ := By.given_get hg 19 rfl rfl (by kernel_rfl)
    have h97 : a.tmps.getD 97 undef = _ := By.given_get hg 27 rfl rfl (by kernel_rfl)
    refine By.yes rfl ?_
    clear hs hg
    go_simp
    exact ⟨_, rfl, Grew.refl _, rfl⟩
  refine By.ends_is (By.ends_is (By.ends_is (By.ends_is (By.ends_is (By.ends_is (By.ends_is (By.ends_is (By.ends_is (By.ends_is (By.ends_is (By.ends_is (By.ends_is (By.ends_is (By.ends_is (By.ends_is (By.ends_is (By.ends_is (By.ends_is (By.ends_is (By.ends_is (By.ends_is (By.ends_is (By.ends_is (By.ends_is (By.ends_is (By.ends_is (By.ends_is (By.ends_is (By.ends_nil fun w10 hw10 => ?_)))))))))))))))))))))))))))))
  simp only [Act.put, List.setIfInBounds_toArray, List.set_cons_succ, List.set_cons_zero]
  have hg10 : Below w9.heap.size w9.drew w10 := hw10
  have HB10 := Lib.hid (nextB (b := w9.drew) HB9.out.drew (Nat.le_refl _) hg10)
  have HRX10 := Lib.hid (Row.below (w := w9.drew) HRX9.out hg10 HRX9.out.lt)
  have HK10 := Lib.hid (Row.below (w := w9.drew) HK9.out hg10 HK9.out.lt)
  have HN10 := Lib.hid (Row.below (w := w9.drew) HN9.out hg10 HN9.out.lt)
  have HG10 := Lib.hid (Row.below (w := w9.drew) HG9.out hg10 HG9.out.lt)
  have HX0 := Lib.hid (show Heads csX (C ++ turn TT change 0) by rw [turn_zero, HXX.out]; exact HHX.out)
  clear hg10 hw10 hcn hle1 hle2
  go_wp2_with fail
-- LOOP
  go_loopw [17] (fun iv wr => ∃ i : Nat, i ≤ 16 ∧ iv = .int .i64 (i : Int) ∧ ∃ cs, Row wr gX cs 5 ∧ Heads cs (C ++ turn TT change i) ∧ Row wr w.heap.size (key.map bv) 24 ∧ Row wr (w.heap.size + 1) (nonce.map bv) 25 ∧ Row wr (w.heap.size + 1 + 1) (change.map bv) 35 ∧ Below w.heap.size w wr) (fun iv _ => 16 - (intOf iv).toNat)
  case atStart => exact ⟨0, by omega, rfl, csX, HRX10.out, HX0.out, HK10.out, HN10.out, HG10.out, HB10.out⟩
  case round =>
    obtain ⟨i, hi, rfl, cs, hrow, hheads, hrk, hrn, hrc, hbel⟩ := hrel
    have Hrow := Lib.hid hrow
    have Hheads := Lib.hid hheads
    have Hrk := Lib.hid hrk
    have Hrn := Lib.hid hrn
    have Hrc := Lib.hid hrc
    have Hbel := Lib.hid hbel
    have Hi := Lib.hid hi
    clear hrow hheads hrk hrn hrc hbel hi
    by_cases h16 : i < 16
    · have h16' : (i : Int) < 16 := by omega
      obtain ⟨u, hu⟩ : ∃ u, TT[i]? = some u := ⟨_, List.getElem?_eq_getElem (by rw [HTl.out]; exact h16)⟩
      obtain ⟨v, hv⟩ : ∃ v, change[i]? = some v := ⟨_, List.getElem?_eq_getElem (by rw [Hch.out]; exact h16)⟩
      obtain ⟨e1, e2⟩ := turn_at TT change i u v HTl.out Hch.out h16 hu hv
      have hcx : (C ++ turn TT change i)[n1 + i]? = some u := by
        rw [List.getElem?_append_right (by rw [HCl.out]; omega), HCl.out, Nat.add_sub_cancel_left]; exact e1
      have hlx : n1 + i < (C ++ turn TT change i).length := (List.getElem?_eq_some_iff.1 hcx).1
      have hsx : C ++ turn TT change (i + 1) = (C ++ turn TT change i).set (n1 + i) (u ^^^ v) := by
        rw [e2, List.set_append_right _ _ (by rw [HCl.out]; omega), HCl.out, Nat.add_sub_cancel_left]
      have Hnx := Lib.hid (show Heads (cs.set (n1 + i) (bv (u ^^^ v))) (C ++ turn TT change (i + 1)) by rw [hsx]; exact Hheads.out.set _ _ hlx)
      have hc1 : wr.cell? ⟨gX, n1 + i, none⟩ = some (.int .u8 (u.toNat : Int)) := Hrow.out.cell (Hheads.out _ _ hcx)
      have hc2 : wr.cell? ⟨w.heap.size + 1 + 1, i, none⟩ = some (.int .u8 (v.toNat : Int)) := Hrc.out.cell (by rw [List.getElem?_map, hv]; rfl)
      have hfr : wr.frozen? ⟨gX, n1 + i, none⟩ = false := frozen_row Hrow.out _
      have hx : bits .xor .u8 (u.toNat : Int) (v.toNat : Int) = ((u ^^^ v).toNat : Int) := w8_xor u v
      have hb1 : (n1 : Int) + (i : Int) < (n1 : Int) + 16 := by omega
      have hb2 : (n1 : Int) + (i : Int) ≤ 400 := by have := H1.out; omega
      have hnn : ((n1 : Int) + (i : Int)).toNat = n1 + i := by omega
      clear hu hv e1 e2 hcx hlx hsx
      go_wp2
      go_region
      have hval : Value.int .u8 ((u.toNat ^^^ v.toNat : Nat) : Int) = bv (u ^^^ v) := by
        unfold bv
        rw [UInt8.toNat_xor]
      rw [hval]
      obtain ⟨V, hV⟩ : ∃ V, wr.setCell ⟨gX, n1 + i, none⟩ (bv (u ^^^ v)) = V := ⟨_, rfl⟩
      have RV := Lib.hid (show Row V gX (cs.set (n1 + i) (bv (u ^^^ v))) 5 by rw [← hV]; exact Hrow.out.set _ _)
      have RK := Lib.hid (show Row V w.heap.size (key.map bv) 24 by rw [← hV]; exact Hrk.out.other _ _ (by dsimp only; have := HgX.out; omega))
      have RN := Lib.hid (show Row V (w.heap.size + 1) (nonce.map bv) 25 by rw [← hV]; exact Hrn.out.other _ _ (by dsimp only; have := HgX.out; omega))
      have RC := Lib.hid (show Row V (w.heap.size + 1 + 1) (change.map bv) 35 by rw [← hV]; exact Hrc.out.other _ _ (by dsimp only; have := HgX.out; omega))
      have BV := Lib.hid (show Below w.heap.size w V by rw [← hV]; exact Hbel.out.setCell (by dsimp only; have := HgX.out; omega) _)
      rw [hV]
      clear hV hc1 hc2 hfr hx hval
      go_wp2
      go_roundw
      case rel => exact ⟨i + 1, h16, by simp, _, RV.out, Hnx.out, RK.out, RN.out, RC.out, BV.out.drew⟩
      case measure => simp [intOf]; omega
    · have h16' : ¬ (i : Int) < 16 := by omega
      have hi16 : i = 16 := by have := Hi.out; omega
      subst hi16
      have hb := Heads.bs Hrow.out Hheads.out (cap := capX) (by rw [List.length_append, turn_length TT change 16 HTl.out Hch.out (Nat.le_refl _), HCl.out]; exact Hcap.out)
      rw [List.length_append, turn_length TT change 16 HTl.out Hch.out (Nat.le_refl _), HCl.out] at hb
      have Hb := Lib.hid hb
      have HA := Lib.hid ((Hc.out.below Hbel.out).more Hbel.out.size)
      clear hb
      go_wp2_with (first
        | (refine wpList_loadRow (n := 32) (cs := key.map bv) rfl 24 _ rfl rfl Hrk.out Try.underlying24 rfl (by kernel_rfl) Hkl.out ?_)
        | (refine wpList_loadRow (n := 12) (cs := nonce.map bv) rfl 25 _ rfl rfl Hrn.out Try.underlying25 rfl (by kernel_rfl) Hnl.out ?_)
        | fail)
      refine (HOt.out (turn TT change 16) wr _ _ (turn_length TT change 16 HTl.out Hch.out (Nat.le_refl _)) Hb.out HA.out).mono ?_
      have hiff := turn_all TT change HTl.out Hch.out
      obtain ⟨z16, hz16⟩ : ∃ z, List.replicate 16 (0 : UInt8) = z := ⟨_, rfl⟩
      have HZ := Lib.hid hz16
      rw [hz16] at hiff
      have hzl : z16.length = 16 := by rw [← hz16]; simp
      clear hz16
      rintro e wf ⟨he, hbf⟩
      have HBF := Lib.hid (nextB Hbel.out (Nat.le_refl _) hbf)
      have HCF := Lib.hid (Hrc.out.below hbf Hrc.out.lt)
      clear hbf
      have hg := guard16 .eql (.inl rfl) (.tmp 130) (.tmp 131) (change.map bv).toArray (z16.map bv).toArray
      have hq := eql16 change z16 Hch.out hzl
      by_cases hcz : change = z16
      · rw [if_pos (hiff.2 hcz)] at he
        obtain ⟨v, rfl⟩ := he
        rw [decide_eq_true hcz] at hq
        unfold arr8 at hq
        clear hcz hiff
        go_wp2_with (first
          | (refine wpList_loadRow (n := 16) (cs := change.map bv) rfl 35 _ rfl rfl HCF.out Try.underlying35 rfl (by kernel_rfl) Hcl.out ?_)
          | (refine wpList_build rfl _ _ rfl (v := .agg (z16.map bv).toArray) (by rw [← HZ.out]; kernel_rfl) ?_)
          | fail)
        go_ret
        exact ⟨rfl, HBF.out⟩
      · rw [if_neg (fun h => hcz (hiff.1 h))] at he
        subst he
        rw [decide_eq_false hcz] at hq
        unfold arr8 at hq
        go_wp2_with (first
          | (refine wpList_loadRow (n := 16) (cs := change.map bv) rfl 35 _ rfl rfl HCF.out Try.underlying35 rfl (by kernel_rfl) Hcl.out ?_)
          | (refine wpList_build rfl _ _ rfl (v := .agg (z16.map bv).toArray) (by rw [← HZ.out]; kernel_rfl) ?_)
          | fail)
        go_ret
        exact ⟨rfl, HBF.out⟩

set_option maxRecDepth 100000 in
theorem lift (os : Os) (started : os.Started) (H : Type) (enc : TypeId × Value → H) :
    ReturnsInHanded {} Try.checked os 7 .any (Rows.aeadBackSpec.pre6 enc Try.prog Try.f7 Rows.aeadBackRow.domain false) (Rows.aeadBackSpec.post enc Try.prog Try.f7 false true false false) := by
  refine Law.lifted (C := Try.checked) 4 own started (by kernel_rfl) Try.func7 laid (by kernel_rfl) rfl Try.underlying4 rfl
    (fun ds hd => by
      have hd' : ds.length = 5 := hd
      match ds, hd' with
      | [d0, d1, d2, d3, d4], _ => rfl)
    (ChangeSpec.witness6 (enc := enc) (C := Try.checked) false ⟨#[], #[.agg (Array.replicate 32 (.int .u8 0)), .agg (Array.replicate 12 (.int .u8 0)), .slice none 0 0, .slice none 0 0, .agg (Array.replicate 16 (.int .u8 0))], []⟩ 8 (by kernel_rfl) (by kernel_rfl) (by kernel_rfl) (by kernel_rfl)) ?_
  intro W args ds ps hst
  have hA : DataW.TrodAll enc Try.prog W 0 (fun _ => true) true Try.f7.params.toList args.toList ds ps := hst.trod
  have hok := hst.okw
  have hlt := hst.lt
  rw [Try.params7] at hA hok
  obtain ⟨v0, r0, d0, e0, p0, q0, hargs, rfl, rfl, h0, hA⟩ := trodAll_cons hA
  obtain ⟨v1, r1, d1, e1, p1, q1, rfl, rfl, rfl, h1, hA⟩ := trodAll_cons hA
  obtain ⟨v2, r2, d2, e2, p2, q2, rfl, rfl, rfl, h2, hA⟩ := trodAll_cons hA
  obtain ⟨v3, r3, d3, e3, p3, q3, rfl, rfl, rfl, h3, hA⟩ := trodAll_cons hA
  obtain ⟨v4, r4, d4, e4, p4, q4, rfl, rfl, rfl, h4, hA⟩ := trodAll_cons hA
  obtain ⟨rfl, rfl, rfl⟩ := trodAll_nil hA
  obtain rfl : args = #[v0, v1, v2, v3, v4] := by cases args; simp_all
  obtain ⟨_, hv0⟩ := hok 0 24 v0 rfl rfl
  obtain ⟨_, hv1⟩ := hok 1 25 v1 rfl rfl
  obtain ⟨_, hv2⟩ := hok 2 34 v2 rfl rfl
  obtain ⟨_, hv3⟩ := hok 3 34 v3 rfl rfl
  obtain ⟨_, hv4⟩ := hok 4 35 v4 rfl rfl
  obtain ⟨key, rfl, hkl⟩ := arr8_at Try.underlying24 (by kernel_rfl) (by kernel_rfl) Try.underlying5 hv0
  obtain ⟨nonce, rfl, hnl⟩ := arr8_at Try.underlying25 (by kernel_rfl) (by kernel_rfl) Try.underlying5 hv1
  obtain ⟨a, ha, _⟩ := Law.bytes_at Try.underlying34 hv2 h2 (fun x hx => hlt x (by simp [hx]))
  obtain ⟨along, hc, _⟩ := Law.bytes_at Try.underlying34 hv3 h3 (fun x hx => hlt x (by simp [hx]))
  obtain ⟨change, rfl, hchl⟩ := arr8_at Try.underlying35 (by kernel_rfl) (by kernel_rfl) Try.underlying5 hv4
  obtain ⟨A1, c1, rfl, _⟩ := id ha
  obtain ⟨A2, c2, rfl, _⟩ := id hc
  by_cases hs : 300 < a.length ∨ 300 < along.length
  · exact long key nonce change A1 A2 _ _ c1 c2 hs W
  · exact walk key nonce a along change A1 A2 _ _ c1 c2 hkl hnl hchl W rfl rfl ha hc (by omega) (by omega)

theorem over : Rows.aeadBackRow.holds Try.pinned (OpenSpec.ofChange Rows.aeadBackSpec) :=
  OpenClaim.holds_of_wide 7 Try.f7 rfl rfl rfl rfl rfl rfl rfl ⟨rfl, rfl, rfl, rfl, rfl⟩ rfl rfl rfl rfl rfl (by kernel_rfl) Try.func7 (by kernel_rfl)
    (of_decide_eq_true (by kernel_rfl)) (by unfold Func.isWrapper; first | (rw [if_pos (by decide +kernel)]; kernel_rfl) | (rw [if_neg (by decide +kernel)]; exact ⟨rfl, rfl⟩))
    (fun os started H enc _ => lift os started H enc)
theorem proved : Rows.AeadBackSaid := over
#print axioms proved
end Go.Proofs.Ytpldkkkenmdimaa.aeadBack

