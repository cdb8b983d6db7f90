/- lease: counters as bytes, nonces. -/
import Derived.Test.YtndpobibjgcefaaLeaCalls
import Derived.Test.YtndpobibjgcefaaLeaLives
import Derived.Test.YtndpobibjgcefaaSym
import Derived.Test.YtndpobibjgcefaaArr
import Derived.Test.YtndpobibjgcefaaTail
namespace Go.Proofs.Ytndpobibjgcefaa.Lea
open Go.RowKit

abbrev cl (n l : Nat) : List Value := [.int .u64 (n : Int), .int .u64 (l : Int)]
theorem cells0 {W : World} {g : Nat} {n l : Nat} (h : Row W g (cl n l) 24) : W.cell? ⟨g, 0, none⟩ = some (.int .u64 (n : Int)) := h.cell rfl
theorem cells1 {W : World} {g : Nat} {n l : Nat} (h : Row W g (cl n l) 24) : W.cell? ⟨g, 1, none⟩ = some (.int .u64 (l : Int)) := h.cell rfl

theorem Bytes_no (n l : Nat) (w : World) (hl : l < 2 ^ 64) (h : ¬ Ok n l) : Calls Try.prog 17 #[cv n l] w fun e w' => e = .returned (.tuple #[.slice none 0 0, .int .i64 2]) ∧ Below w.heap.size w w' := by
  have H := Lib.hid h
  have HL := Lib.hid hl
  clear h hl
  go_enter Try.func17, Try.ntmps17
  go_wp2_with (go_at_call 26; refine (Check_no _ _ _ HL.out H.out).mono ?_; rintro e w' ⟨rfl, rfl⟩)
  go_ret2
  exact ⟨rfl, (by repeat (first | exact Below.refl _ _ | refine Below.alloc ?_ (by simp <;> omega) _))⟩
theorem Bytes_ok (n l : Nat) (w : World) (h : Ok n l) : Calls Try.prog 17 #[cv n l] w fun e w' => ∃ v, e = .returned (.tuple #[v, .int .i64 0]) ∧ Own w' w.heap.size v (Oct.enc n ++ Oct.enc l) ∧ Below w.heap.size w w' := by
  have H := Lib.hid h
  obtain ⟨h1, h2, h3⟩ := h
  have Hn := Lib.hid (show n < 2 ^ 64 by omega)
  have Hl := Lib.hid (show l < 2 ^ 64 by omega)
  have Hle := Lib.hid (show (Oct.enc n).length ≤ 35184372088832 by rw [Oct.enc_length]; have := (Oct.nsize_spec n Hn.out).1; omega)
  clear h1 h2 h3
  go_enter Try.func17, Try.ntmps17
  go_wp2_with fail
  refine (Check_ok _ _ _ H.out).mono ?_
  rintro e w' ⟨rfl, rfl⟩
  go_wp2_with fail
  obtain ⟨V, hV⟩ : ∃ V, co (w.alloc (.cells #[.int .u64 (n : Int), .int .u64 (l : Int)] 24)) n l = V := ⟨_, rfl⟩
  rw [hV]
  have RV := Lib.hid (show Row V w.heap.size (cl n l) 24 by rw [← hV]; exact (Row.new rfl rfl).alloc _)
  have HBV := Lib.hid (show Below w.heap.size w V by rw [← hV]; exact ((Below.refl _ w).alloc (Nat.le_refl _) _).alloc (by simp <;> omega) _)
  have hwV : w.heap.size ≤ V.heap.size := HBV.out.size
  clear hV
  refine Tail.marksAt mixed 5 Grew [By.is (.pointer (some ⟨w.heap.size, 0, none⟩)),
    By.is (.int .u64 (n : Int)),
    ownM V.heap.size (Oct.enc n),
    By.is (.pointer (some ⟨w.heap.size, 1, none⟩)),
    By.is (.int .u64 (l : Int))]
    (Ev.masks _ []) (Nat.zero_lt_succ _) (by kernel_rfl) (by kernel_rfl) rfl Grew.refl Grew.trans ⟨?_, ?_, ?_, ?_, ?_, trivial⟩ ?_
  · intro a w ht hs hg -- 10
    have h1 := By.same_get hs 1 (by decide) (by kernel_rfl)
    refine By.yes rfl ?_
    clear hs hg
    go_simp
    exact ⟨_, rfl, Grew.refl _, rfl⟩
  · intro a w ht hs hg -- 11
    have h10 : a.tmps.getD 10 undef = _ := By.given_get hg 0 rfl rfl (by kernel_rfl)
    refine By.yes rfl ?_
    clear hs hg
    have hc := cells0 (Row.below (w := V.drew) RV.out ht RV.out.lt)
    go_simp
    exact ⟨_, rfl, Grew.refl _, rfl⟩
  · intro a w ht hs hg -- 12
    have h11 : a.tmps.getD 11 undef = _ := By.given_get hg 1 rfl rfl (by kernel_rfl)
    refine By.yes rfl ?_
    clear hs hg
    have hs : V.heap.size ≤ w.heap.size := ht.size
    go_simp
    refine (Number_any _ [] n w (Bs.nil _ _ _ _) Hn.out (by simp)).mono ?_
    rintro e w' ⟨v, rfl, ho, hb⟩
    exact ⟨_, rfl, hb, show Own w' V.heap.size v (Oct.enc n) by simpa using ho.less hs⟩
  · intro a w ht hs hg -- 13
    have h1 := By.same_get hs 1 (by decide) (by kernel_rfl)
    refine By.yes rfl ?_
    clear hs hg
    go_simp
    exact ⟨_, rfl, Grew.refl _, rfl⟩
  · intro a w ht hs hg -- 14
    have h13 : a.tmps.getD 13 undef = _ := By.given_get hg 3 rfl rfl (by kernel_rfl)
    refine By.yes rfl ?_
    clear hs hg
    have hc := cells1 (Row.below (w := V.drew) RV.out ht RV.out.lt)
    go_simp
    exact ⟨_, rfl, Grew.refl _, rfl⟩
  refine By.ends_is (By.ends_is (By.ends_any fun v12 => (By.ends_is (By.ends_is (By.ends_nil fun w8 hw8 => ?_)))))
  simp only [Act.put, List.setIfInBounds_toArray, List.set_cons_succ, List.set_cons_zero]
  simp only [List.drop_succ_cons, List.drop_zero]
  obtain ⟨hgr, ho⟩ := hw8
  have HG := Lib.hid (nextB HBV.out (Nat.le_refl _) (show Below V.heap.size V w8 from ⟨hgr.os, hgr.tape, hgr.output, hgr.size, hgr.block⟩))
  have HO := Lib.hid ho
  clear hgr ho
  go_wp2_with fail
  refine (Number_any _ (Oct.enc n) l _ HO.out.bs Hl.out Hle.out).mono ?_
  rintro e w9 ⟨v, rfl, ho9, hb9⟩
  have HO9 := Lib.hid ho9
  have HB9 := Lib.hid (nextB HG.out (Nat.le_refl _) hb9)
  clear ho9 hb9
  go_wp2
  go_ret2
  exact ⟨v, rfl, HO9.out.less HG.out.size, HB9.out⟩

/-- What Read answers: the counter, the error. -/
def rdC (b : List UInt8) : Nat × Nat × Nat :=
  let x := rdNumber b 0 0
  let y := rdNumber b x.2.1 x.2.2
  if rdEnd b y.2.1 y.2.2 = 0 ∧ 1 ≤ x.1 ∧ x.1 ≤ y.1 + 1 ∧ y.1 ≤ 1152921504606846976 then (x.1, y.1, 0) else (0, 0, 4)
theorem Row.grown' {w w' : World} {g k : Nat} {cs : List Value} {t : TypeId} (h : Row w k cs t) (hg : w.grownBy w' (some g)) (hne : k ≠ g) : Row w' k cs t := by
  unfold Row
  rw [hg.block k h.lt (by simpa using hne)]
  exact h
theorem Read_any (v : Value) (b : List UInt8) (w : World) (hb : Bs w w.heap.size v b) (hl : b.length ≤ 35184372088832) :
    Calls Try.prog 19 #[v] w fun e w' => e = .returned (.tuple #[cv (rdC b).1 (rdC b).2.1, .int .i64 ((rdC b).2.2 : Nat)]) ∧ Below w.heap.size w w' := by
  have Hb := Lib.hid hb
  clear hb
  go_enter Try.func19, Try.ntmps19
  go_wp2_with fail
  have hb0 := (Below.refl w.heap.size w).alloc (Nat.le_refl _) (.cells #[.int .u64 0, .int .u64 0] 24)
  refine (Go.Proofs.Ytndpobibjgcefaa.New_any _ b _ ((Hb.out.below hb0).more hb0.size) hl).mono ?_
  rintro e w1 ⟨g, rfl, hg1, hg2, hr1, hb1⟩
  have HR1 := Lib.hid hr1
  have HB1 := Lib.hid (nextB hb0 (Nat.le_refl _) hb1)
  have hrow : Row w1 w.heap.size (cl 0 0) 24 := (Row.new (w := w) rfl rfl).below hb1 (by simp)
  have HW := Lib.hid hrow
  have hgw : w.heap.size < g := by simp at hg1; omega
  clear hr1 hb1 hb0 hrow hg1
  go_wp2_with fail
  refine (RNumber_any HR1.out).mono ?_
  obtain ⟨x, a1, e1, hrd⟩ : ∃ x a e, rdNumber b 0 0 = (x, a, e) := ⟨_, _, _, rfl⟩
  have Hrd := Lib.hid hrd
  have Hx := Lib.hid (show x < 2 ^ 64 by have := rdNumber_lt b 0 0; rw [hrd] at this; exact this)
  rw [hrd]
  rintro e w2 ⟨rfl, hr2, hgr2⟩
  have HR2 := Lib.hid hr2
  have HB2 := Lib.hid (HB1.out.grown hgr2 HB1.out.size (fun k hk => by injection hk with hk; omega))
  have HW2 := Lib.hid (Row.grown' HW.out hgr2 (by omega))
  clear hr2 hgr2 hrd
  go_wp2_with fail
  refine (RNumber_any HR2.out).mono ?_
  obtain ⟨y, a2, e2, hrd⟩ : ∃ x a e, rdNumber b a1 e1 = (x, a, e) := ⟨_, _, _, rfl⟩
  have Hrd2 := Lib.hid hrd
  have Hy := Lib.hid (show y < 2 ^ 64 by have := rdNumber_lt b a1 e1; rw [hrd] at this; exact this)
  rw [hrd]
  rintro e w3 ⟨rfl, hr3, hgr3⟩
  have hgr3s := hgr3.size
  have HR3 := Lib.hid (hr3.below ((Below.refl w3.heap.size w3).alloc (Nat.le_refl _) (.cells #[.int .u64 (x : Int), .int .u64 (y : Int)] 24)) (Array.getElem?_eq_some_iff.1 hr3.choose_spec.1).1)
  have HB3 := Lib.hid (HB2.out.grown hgr3 HB2.out.size (fun k hk => by injection hk with hk; omega))
  have HW3 := Lib.hid (Row.grown' HW2.out hgr3 (by omega))
  clear hr3 hgr3 hrd
  obtain ⟨E, hE⟩ : ∃ E, rdEnd b a2 e2 = E := ⟨_, rfl⟩
  have HE := Lib.hid hE
  go_wp2_with fail
  refine (End_any HR3.out).mono ?_
  rw [hE]
  rintro e w4 ⟨rfl, _, hgr4⟩
  have hw03 : w.heap.size < w3.heap.size := HW3.out.lt
  have hg3 : g < w3.heap.size := by have := HR2.out; obtain ⟨_, h2, _⟩ := this; have := (Array.getElem?_eq_some_iff.1 h2).1; exact Nat.lt_of_lt_of_le this hgr3s
  have HC4 := Lib.hid (Row.grown' (Row.new (cs := cl x y) (t := 24) (w := w3) rfl rfl) hgr4 (by omega))
  have HW4 := Lib.hid (Row.grown' (HW3.out.alloc _) hgr4 (by omega))
  have HB4 := Lib.hid ((HB3.out.alloc (Nat.le_of_lt hw03) _).grown hgr4 (by simp <;> omega) (fun k hk => by injection hk with hk; omega))
  clear hgr4
  have z0 := cells0 HW4.out
  have z1 := cells1 HW4.out
  have z2 := frozen_row HW4.out 0
  have z3 := frozen_row HW4.out 1
  have k0 := cells0 HC4.out
  have k1 := cells1 HC4.out
  have hw4 : w.heap.size < w4.heap.size := HW4.out.lt
  have HCM := Lib.hid (show rdC b = if E = 0 ∧ 1 ≤ x ∧ x ≤ y + 1 ∧ y ≤ 1152921504606846976 then (x, y, 0) else (0, 0, 4) by unfold rdC; simp only [Hrd.out, Hrd2.out, HE.out])
  by_cases hE0 : E = 0
  · have hE1 : ((E : Int) != 0) = false := by subst hE0; rfl
    have m0 : ∀ o, (w4.alloc o).cell? ⟨w.heap.size, 0, none⟩ = _ := fun o => cells0 (HW4.out.alloc o)
    have m1 : ∀ o, (w4.alloc o).cell? ⟨w.heap.size, 1, none⟩ = _ := fun o => cells1 (HW4.out.alloc o)
    have m2 : ∀ o, (w4.alloc o).frozen? ⟨w.heap.size, 0, none⟩ = false := fun o => frozen_row (HW4.out.alloc o) 0
    have m3 : ∀ o, (w4.alloc o).frozen? ⟨w.heap.size, 1, none⟩ = false := fun o => frozen_row (HW4.out.alloc o) 1
    have n0 : ∀ o, (w4.alloc o).cell? ⟨w3.heap.size, 0, none⟩ = _ := fun o => cells0 (HC4.out.alloc o)
    have n1 : ∀ o, (w4.alloc o).cell? ⟨w3.heap.size, 1, none⟩ = _ := fun o => cells1 (HC4.out.alloc o)
    by_cases hok : Ok x y
    · have HOK := Lib.hid hok
      have HCN := Lib.hid (show rdC b = (x, y, 0) by rw [HCM.out, if_pos ⟨hE0, hok⟩])
      clear hok hE0 hE
      go_wp2_with fail
      refine (Check_ok x y _ HOK.out).mono ?_
      rintro e w' ⟨rfl, rfl⟩
      go_wp2_with fail
      refine bodyPost_ret (results_ct (cs := cl x y) rfl rfl (((HW4.out.set 0 (.int .u64 (x : Int))).set 1 (.int .u64 (y : Int))).alloc _) Try.underlying24 rfl (by kernel_rfl) rfl) rfl ?_
      rw [HCN.out]
      exact ⟨rfl, (((HB4.out.setCell (Nat.le_refl _) _).setCell (Nat.le_refl _) _).alloc (by simp <;> omega) _)⟩
    · have HOK := Lib.hid hok
      have HCN := Lib.hid (show rdC b = (0, 0, 4) by rw [HCM.out, if_neg (fun h => hok h.2)])
      clear hok hE0 hE
      go_wp2_with fail
      refine (Check_no x y _ Hy.out HOK.out).mono ?_
      rintro e w' ⟨rfl, rfl⟩
      go_wp2_with fail
      refine bodyPost_ret (results_ct (cs := cl 0 0) rfl rfl (((HW4.out.set 0 (.int .u64 0)).set 1 (.int .u64 0)).alloc _) Try.underlying24 rfl (by kernel_rfl) rfl) rfl ?_
      rw [HCN.out]
      exact ⟨rfl, (((HB4.out.setCell (Nat.le_refl _) _).setCell (Nat.le_refl _) _).alloc (by simp <;> omega) _)⟩
  · have hE1 : ((E : Int) != 0) = true := by rw [bne_iff_ne]; omega
    have HCN := Lib.hid (show rdC b = (0, 0, 4) by rw [HCM.out, if_neg (fun h => hE0 h.1)])
    clear hE0 hE
    go_wp2_with fail
    refine bodyPost_ret (results_ct (cs := cl 0 0) rfl rfl ((HW4.out.set 0 (.int .u64 0)).set 1 (.int .u64 0)) Try.underlying24 rfl (by kernel_rfl) rfl) rfl ?_
    rw [HCN.out]
    exact ⟨rfl, ((HB4.out.setCell (Nat.le_refl _) _).setCell (Nat.le_refl _) _)⟩

/-! ### Nonces -/
abbrev u1 (x : Int) : Value := .int .u8 x
def nonceI (e n : Int) : List Int := [IntKind.u8.wrap (oshr e 24), IntKind.u8.wrap (oshr e 16), IntKind.u8.wrap (oshr e 8), IntKind.u8.wrap (oshr e 0), IntKind.u8.wrap (oshr n 56), IntKind.u8.wrap (oshr n 48), IntKind.u8.wrap (oshr n 40), IntKind.u8.wrap (oshr n 32), IntKind.u8.wrap (oshr n 24), IntKind.u8.wrap (oshr n 16), IntKind.u8.wrap (oshr n 8), IntKind.u8.wrap (oshr n 0)]
set_option maxRecDepth 100000 in
theorem Nonce_ev (e n : Int) : Ev.ans Try.prog 1000 24 #[.int .u32 e, .int .u64 n] [] = some (.agg ((nonceI e n).map u1).toArray) := by kernel_rfl
def stepI (k : IntKind) (x c : Int) : Int := oor k (oshl k x 8) (k.wrap c)
set_option maxRecDepth 100000 in
theorem Split_ev (c0 c1 c2 c3 c4 c5 c6 c7 c8 c9 c10 c11 : Int) : Ev.ans Try.prog 2000 22 #[.agg #[u1 c0, u1 c1, u1 c2, u1 c3, u1 c4, u1 c5, u1 c6, u1 c7, u1 c8, u1 c9, u1 c10, u1 c11]] [] =
    some (.tuple #[.int .u32 ([c0, c1, c2, c3].foldl (stepI .u32) ((0 : Nat) : Int)), .int .u64 ([c4, c5, c6, c7, c8, c9, c10, c11].foldl (stepI .u64) ((0 : Nat) : Int))]) := by kernel_rfl

theorem byte_ev (x k : Nat) : u1 (IntKind.u8.wrap (oshr (x : Int) k)) = bv (UInt8.ofNat (x / 2 ^ k % 256)) := by
  rw [oshr_nat, IntKind.wrap_u8']
  unfold bv
  simp [UInt8.toNat_ofNat']
/-- The bytes of a nonce. -/
def nonce (e n : Nat) : List UInt8 := Oct.bytesBE 4 e ++ Oct.bytesBE 8 n
theorem nonce_length (e n : Nat) : (nonce e n).length = 12 := by simp [nonce, Oct.bytesBE_length]
theorem nonce_ev (e n : Nat) : (nonceI e n).map u1 = (nonce e n).map bv := by
  simp only [nonceI, List.map_cons, List.map_nil, byte_ev, nonce, Oct.bytesBE, Nat.div_div_eq_div_mul, List.nil_append, List.cons_append, List.append_assoc]
  simp only [Nat.reducePow, Nat.reduceMul, Nat.div_one]
theorem flat_args {l : List Value} (h : (l.all Ev.flat) = true) : Ev.VL (Ev.pl []) l l := Ev.VL.of_flat (List.all_eq_true.1 h)
theorem flat2_bv (l : List UInt8) : Ev.flat2 (.agg (l.map bv).toArray) = true := by
  simp only [Ev.flat2, Ev.flat, List.all_eq_true]
  intro v hv
  simp at hv
  obtain ⟨u, _, rfl⟩ := hv
  rfl
theorem Nonce_any (e n : Nat) (w : World) : Calls Try.prog 24 #[.int .u32 (e : Int), .int .u64 (n : Int)] w fun r w' => r = .returned (arr8 (nonce e n)) ∧ Below w.heap.size w w' := by
  have h := Nonce_ev (e : Int) (n : Int)
  rw [nonce_ev] at h
  exact Ev.calls_ans (l := []) mixed (by decide) (by simp) (by simp) (flat_args rfl) h (flat2_bv _)
theorem wrap_u32 (n : Nat) (h : n < 4294967296) : IntKind.u32.wrap (n : Int) = (n : Int) := by
  simp only [IntKind.wrap, IntKind.bits, IntKind.signed]
  simp
  omega
theorem or256 (a b : Nat) (h : b < 256) : a * 256 ||| b = a * 256 + b := by
  have := Nat.shiftLeft_add_eq_or_of_lt (i := 8) (show b < 2 ^ 8 from h) a
  rw [Nat.shiftLeft_eq] at this
  exact this.symm
theorem step32 (x : Nat) (c : UInt8) (h : x < 16777216) : stepI .u32 (x : Int) (c.toNat : Int) = ((x * 256 + c.toNat : Nat) : Int) := by
  have hc := c.toNat_lt
  unfold stepI oshl
  rw [wrap_u32 c.toNat (by omega), show ((x : Int) * 2 ^ 8) = ((x * 256 : Nat) : Int) by simp, wrap_u32 _ (by omega)]
  show IntKind.u32.wrap ((BitVec.ofInt 32 ((x * 256 : Nat) : Int) ||| BitVec.ofInt 32 (c.toNat : Int)).toNat : Int) = _
  simp only [BitVec.ofInt_natCast, BitVec.toNat_or, BitVec.toNat_ofNat]
  rw [Nat.mod_eq_of_lt (by omega), Nat.mod_eq_of_lt (by omega), or256 _ _ (by omega)]
  exact wrap_u32 _ (by omega)
theorem step64 (x : Nat) (c : UInt8) (h : x < 72057594037927936) : stepI .u64 (x : Int) (c.toNat : Int) = ((x * 256 + c.toNat : Nat) : Int) := by
  have hc := c.toNat_lt
  unfold stepI oshl
  rw [wrap_u64 c.toNat (by omega), show ((x : Int) * 2 ^ 8) = ((x * 256 : Nat) : Int) by simp, wrap_u64 _ (by omega), oor_u64 _ _ (by omega) (by omega), or256 _ _ (by omega)]
theorem fold32 : ∀ (l : List UInt8) (j x : Nat), x < 256 ^ j → j + l.length ≤ 4 → (l.map fun c => (c.toNat : Int)).foldl (stepI .u32) (x : Int) = ((l.foldl (fun x b => x * 256 + b.toNat) x : Nat) : Int) := by
  intro l
  induction l with
  | nil => intro j x _ _; rfl
  | cons c l ih =>
    intro j x hx hj
    have hc := c.toNat_lt
    have h3 : 256 ^ j ≤ 256 ^ 3 := Nat.pow_le_pow_right (by omega) (by simp at hj; omega)
    rw [List.map_cons, List.foldl_cons, step32 x c (Nat.lt_of_lt_of_le hx h3), List.foldl_cons]
    exact ih (j + 1) _ (by rw [Nat.pow_succ]; omega) (by simp at hj; omega)
theorem fold64 : ∀ (l : List UInt8) (j x : Nat), x < 256 ^ j → j + l.length ≤ 8 → (l.map fun c => (c.toNat : Int)).foldl (stepI .u64) (x : Int) = ((l.foldl (fun x b => x * 256 + b.toNat) x : Nat) : Int) := by
  intro l
  induction l with
  | nil => intro j x _ _; rfl
  | cons c l ih =>
    intro j x hx hj
    have hc := c.toNat_lt
    have h3 : 256 ^ j ≤ 256 ^ 7 := Nat.pow_le_pow_right (by omega) (by simp at hj; omega)
    rw [List.map_cons, List.foldl_cons, step64 x c (Nat.lt_of_lt_of_le hx h3), List.foldl_cons]
    exact ih (j + 1) _ (by rw [Nat.pow_succ]; omega) (by simp at hj; omega)
theorem Split_any (l : List UInt8) (hl : l.length = 12) (w : World) : Calls Try.prog 22 #[arr8 l] w fun r w' => r = .returned (.tuple #[.int .u32 (Oct.be (l.take 4) : Nat), .int .u64 (Oct.be (l.drop 4) : Nat)]) ∧ Below w.heap.size w w' := by
  match l, hl with
  | [c0, c1, c2, c3, c4, c5, c6, c7, c8, c9, c10, c11], _ =>
    have h := Split_ev c0.toNat c1.toNat c2.toNat c3.toNat c4.toNat c5.toNat c6.toNat c7.toNat c8.toNat c9.toNat c10.toNat c11.toNat
    have e1 := fold32 [c0, c1, c2, c3] 0 0 (by decide) (by simp)
    have e2 := fold64 [c4, c5, c6, c7, c8, c9, c10, c11] 0 0 (by decide) (by simp)
    simp only [List.map_cons, List.map_nil] at e1 e2
    rw [e1, e2] at h
    exact Ev.calls_ans (l := []) mixed (by decide) (by simp) (by simp) (flat_args rfl) h rfl
end Go.Proofs.Ytndpobibjgcefaa.Lea
