/- Different pairs have different nonces; a nonce is determined by its pair, a counter by its bytes: 'drawbridgelaw06.LeaseNonces'. -/
import Derived.Test.YtndpobibjgcefaaLeaCodec
import Derived.Test.YtndpobibjgcefaaKit
import Derived.Test.YtndpobibjgcefaaCells
import Derived.Test.YtndpobibjgcefaaEqArr
namespace Go.Proofs.Ytndpobibjgcefaa.leaseNonces
open Go.ChangeShapes Go.WideShapes Go.ChangeAt Go.RowKit Lea

section
variable {P : Program}
theorem wp_neqArr {o : Oper} {a : Act} {w : World} {K : Act → World → Prop} {Q : Exit → Act → World → Prop} {t t2 : TypeId} {xs ys : Array Value} {r : Bool} (x y : Operand) (ho : o.op = .binOp .neq t x y t2) (hg : P.eqGuardType P.depth t = false)
    (hx : a.eval x = .agg xs) (hy : a.eval y = .agg ys) (h : (Op.equal t (.agg xs) (.agg ys)).run P w = .ok r w) (hk : K (a.put o.dst (.bool (!r))) w) : o.wp P a w K Q := by
  have hr := run_eqArr (P := P) .neq true (.inr ⟨rfl, rfl⟩) (x := x) (y := y) w hg h
  rw [Bool.xor_true] at hr
  unfold Oper.wp execOp
  simp only [ho, hx, hy]
  rw [Sem.run_bind, hr]
  exact hk
end
theorem eq12 (x y : List UInt8) (hx : x.length = 12) (hy : y.length = 12) (w : World) : (Op.equal 34 (arr8 x) (arr8 y)).run Try.prog w = .ok (decide (x = y)) w :=
  run_eql_arr8 (P := Try.prog) Try.underlying34 Try.underlying5 (by kernel_rfl) x y hx hy w

theorem cl_one (n l : Nat) : ∀ v ∈ cl n l, v.oneCell' = true := by
  intro v hv
  simp only [cl, List.mem_cons, List.not_mem_nil, or_false] at hv
  rcases hv with rfl | rfl <;> rfl
theorem str_guard (op : BinOp) (hop : op = .eql ∨ op = .neq) (x y : Operand) (l m : List UInt8) (w : World) : (eqGuard op 9 x y (strOf l) (strOf m)).run Try.prog w = .ok () w := by
  have hg : Try.prog.eqGuardType Try.prog.depth 9 = false := by kernel_rfl
  unfold strOf
  rcases hop with rfl | rfl <;> simp [eqGuard, Sem.run_bind, hg]
theorem str_neq (l : List UInt8) (w : World) : (binOp .neq 9 (strOf l) (strOf l)).run Try.prog w = .ok (.bool false) w := by
  unfold strOf binOp Op.stringOp
  simp [Sem.run_pure]
theorem take_nonce (e n : Nat) : (nonce e n).take 4 = Oct.bytesBE 4 e := by unfold nonce; rw [List.take_left' (Oct.bytesBE_length 4 e)]
theorem drop_nonce (e n : Nat) : (nonce e n).drop 4 = Oct.bytesBE 8 n := by unfold nonce; rw [List.drop_left' (Oct.bytesBE_length 4 e)]
theorem split_e (e n : Nat) (h : e < 2 ^ 32) : Oct.be ((nonce e n).take 4) = e := by rw [take_nonce, Oct.be_bytesBE]; omega
theorem split_n (e n : Nat) (h : n < 2 ^ 64) : Oct.be ((nonce e n).drop 4) = n := by rw [drop_nonce, Oct.be_bytesBE]; omega
theorem nonce_split (l : List UInt8) (h : l.length = 12) : nonce (Oct.be (l.take 4)) (Oct.be (l.drop 4)) = l := by
  have h1 := Oct.bytesBE_be (l.take 4)
  have h2 := Oct.bytesBE_be (l.drop 4)
  rw [show (l.take 4).length = 4 by rw [List.length_take]; omega] at h1
  rw [show (l.drop 4).length = 8 by rw [List.length_drop]; omega] at h2
  unfold nonce
  rw [h1, h2, List.take_append_drop]
theorem nonce_inj (e f m n : Nat) (he : e < 2 ^ 32) (hf : f < 2 ^ 32) (hm : m < 2 ^ 64) (hn : n < 2 ^ 64) : nonce e m = nonce f n ↔ e = f ∧ m = n := by
  constructor
  · intro h
    refine ⟨?_, ?_⟩
    · rw [← split_e e m he, h, split_e f n hf]
    · rw [← split_n e m hm, h, split_n f n hn]
  · rintro ⟨rfl, rfl⟩; rfl

theorem rdC_bytes (b : List UInt8) (x y : Nat) (h : rdC b = (x, y, 0)) : Oct.enc x ++ Oct.enc y = b ∧ Ok x y := by
  unfold rdC at h
  obtain ⟨x', a1, e1, h1⟩ : ∃ x a e, rdNumber b 0 0 = (x, a, e) := ⟨_, _, _, rfl⟩
  obtain ⟨y', a2, e2, h2⟩ : ∃ x a e, rdNumber b a1 e1 = (x, a, e) := ⟨_, _, _, rfl⟩
  rw [h1] at h
  simp only [h2] at h
  split at h
  · rename_i hc
    simp only [Prod.mk.injEq, and_true] at h
    obtain ⟨rfl, rfl⟩ := h
    obtain ⟨hE, hk⟩ := hc
    refine ⟨?_, hk⟩
    unfold rdEnd at hE
    split at hE
    · cases hE
    · rename_i hn
      subst hE
      have hlen : b.length ≤ a2 := by
        rcases Nat.lt_or_ge a2 b.length with h | h
        · exact absurd ⟨rfl, h⟩ hn
        · exact h
      have he1 : e1 = 0 := by
        rcases Nat.eq_zero_or_pos e1 with h | h
        · exact h
        · unfold rdNumber at h2
          rw [if_pos (by omega)] at h2
          simp only [Prod.mk.injEq] at h2
          omega
      subst he1
      unfold rdNumber at h1 h2
      rw [if_neg (by omega)] at h1 h2
      simp only [Prod.mk.injEq, List.drop_zero, Nat.zero_add] at h1 h2
      have d1 := Oct.enc_dec b x' a1 (by rw [← h1.1, ← h1.2.1, ← h1.2.2])
      have d2 := Oct.enc_dec (b.drop a1) y' (Oct.dec (b.drop a1)).2.1 (by rw [← h2.1, ← h2.2.2])
      rw [d1.2.1, d2.2.1, List.take_of_length_le (l := b.drop a1) (by rw [List.length_drop]; omega), List.take_append_drop]
  · simp at h
theorem rdC_own (n l : Nat) (h : Ok n l) : rdC (Oct.enc n ++ Oct.enc l) = (n, l, 0) := by
  have hn : n < 2 ^ 64 := by unfold Ok at h; omega
  have hl : l < 2 ^ 64 := by unfold Ok at h; omega
  have h1 := Oct.dec_enc n hn (Oct.enc l)
  have h2 := Oct.dec_enc l hl []
  rw [List.append_nil] at h2
  have hd : (Oct.enc n ++ Oct.enc l).drop (1 + Oct.nsize n) = Oct.enc l := List.drop_left' (by rw [Oct.enc_length]; omega)
  have e1 : rdNumber (Oct.enc n ++ Oct.enc l) 0 0 = (n, 1 + Oct.nsize n, 0) := by
    unfold rdNumber
    rw [if_neg (by omega), List.drop_zero, h1]
    simp
  have e2 : rdNumber (Oct.enc n ++ Oct.enc l) (1 + Oct.nsize n) 0 = (l, 1 + Oct.nsize n + (1 + Oct.nsize l), 0) := by
    unfold rdNumber
    rw [if_neg (by omega), hd, h2]
  unfold rdC
  rw [e1]
  simp only [e2]
  rw [if_pos]
  refine ⟨?_, h⟩
  unfold rdEnd
  rw [if_neg]
  rintro ⟨_, hlt⟩
  rw [List.length_append, Oct.enc_length, Oct.enc_length] at hlt
  omega
theorem rdC_cases (b : List UInt8) : (∃ x y, rdC b = (x, y, 0)) ∨ rdC b = (0, 0, 4) := by
  unfold rdC
  dsimp only
  split
  · exact .inl ⟨_, _, rfl⟩
  · exact .inr rfl

theorem long (nv cvv : Value) (e f m n : Int) (A : Option Addr) (c N : Nat) (l : List UInt8) (hl : nv = arr8 l) (cn cl' : Nat) (hc : cvv = cv cn cl') (w : World) (h : 100 < N) : Calls Try.prog 6 #[.int .u32 e, .int .u32 f, .int .u64 m, .int .u64 n, nv, cvv, .slice A N c] w fun r w' => r = .returned (.bool true) ∧ Below w.heap.size w w' := by
  have h' : (100 : Int) < (N : Int) := by omega
  subst hl
  subst hc
  unfold arr8
  go_enter Try.func6, Try.ntmps6
  go_wp2_with fail
  refine (lives_any _).mono ?_
  rintro r w1 ⟨rfl, hb1⟩
  have HB1 := Lib.hid (nextB (((Below.refl w.heap.size w).alloc (Nat.le_refl _) _).alloc (by simp <;> omega) _) (Nat.le_refl _) hb1)
  clear hb1
  go_wp2
  go_ret
  exact ⟨rfl, HB1.out⟩

set_option maxRecDepth 8000 in
set_option maxHeartbeats 40000000 in
theorem walk (l : List UInt8) (hl : l.length = 12) (e f m n : Nat) (A : Option Addr) (c : Nat) (b : List UInt8) (cn cm : Nat) (w : World) (hb : Bs w w.heap.size (.slice A b.length c) b) (hb1 : b.length ≤ 100)
    (he : e < 2 ^ 32) (hf : f < 2 ^ 32) (hm : m < 2 ^ 64) (hn : n < 2 ^ 64) (hcn : cn < 2 ^ 64) (hcm : cm < 2 ^ 64) :
    Calls Try.prog 6 #[.int .u32 (e : Int), .int .u32 (f : Int), .int .u64 (m : Int), .int .u64 (n : Int), arr8 l, cv cn cm, .slice A b.length c] w fun r w' => r = .returned (.bool true) ∧ Below w.heap.size w w' := by
  have h' : ¬ (100 : Int) < (b.length : Int) := by omega
  have HL := Lib.hid hl
  have HLm := Lib.hid (show (l.map bv).length = 12 by rw [List.length_map]; exact hl)
  have HBb := Lib.hid hb
  have HBl := Lib.hid (show b.length ≤ 35184372088832 by omega)
  have HBl2 := Lib.hid (show b.length ≤ 140737488355327 by omega)
  have Hse := Lib.hid (split_e e m he)
  have Hsn := Lib.hid (split_n e m hm)
  have Hsp := Lib.hid (nonce_split l hl)
  have Hinj := Lib.hid (nonce_inj e f m n he hf hm hn)
  have Hcm := Lib.hid hcm
  clear hl hb hb1 he hf hm hn hcn hcm
  obtain ⟨p, hp⟩ : ∃ p, Oct.be (l.take 4) = p := ⟨_, rfl⟩
  obtain ⟨q, hq⟩ : ∃ q, Oct.be (l.drop 4) = q := ⟨_, rfl⟩
  have Hp := Lib.hid hp
  have Hq := Lib.hid hq
  rw [hp, hq] at Hsp
  clear hp hq
  unfold arr8
  go_enter Try.func6, Try.ntmps6
  go_wp2_with fail
  refine (lives_any _).mono ?_
  rintro r w1 ⟨rfl, hb1⟩
  have HB1 := Lib.hid (nextB (((Below.refl w.heap.size w).alloc (Nat.le_refl _) _).alloc (by simp <;> omega) _) (Nat.le_refl _) hb1)
  have HN1 := Lib.hid (show Row w1 w.heap.size (l.map bv) 34 from ((Row.new rfl rfl).alloc _).below hb1 (by simp <;> omega))
  have HC1 := Lib.hid (show Row w1 (w.heap.size + 1) (cl cn cm) 24 from (Row.new (by simp) rfl).below hb1 (by simp <;> omega))
  clear hb1
  go_wp2_with fail
  refine (Nonce_any e m _).mono ?_
  rintro r w2 ⟨rfl, hb2⟩
  have HB2 := Lib.hid (nextB HB1.out (Nat.le_refl _) hb2)
  have HN2 := Lib.hid (HN1.out.below hb2 HN1.out.lt)
  have HC2 := Lib.hid (HC1.out.below hb2 HC1.out.lt)
  clear hb2
  unfold arr8
  go_wp2_with fail
  refine (Split_any (nonce e m) (nonce_length e m) _).mono ?_
  rw [Hse.out, Hsn.out]
  rintro r w3 ⟨rfl, hb3⟩
  have HB3 := Lib.hid (nextB HB2.out (Nat.le_refl _) hb3)
  have HN3 := Lib.hid (HN2.out.below hb3 HN2.out.lt)
  have HC3 := Lib.hid (HC2.out.below hb3 HC2.out.lt)
  clear hb3
  go_wp2_with (refine wpList_loadRow rfl 34 _ rfl rfl HN3.out Try.underlying34 rfl (by kernel_rfl) HLm.out ?_)
  refine (Split_any l HL.out _).mono ?_
  rw [Hp.out, Hq.out]
  rintro r w4 ⟨rfl, hb4⟩
  have HB4 := Lib.hid (nextB HB3.out (Nat.le_refl _) hb4)
  have HN4 := Lib.hid (HN3.out.below hb4 HN3.out.lt)
  have HC4 := Lib.hid (HC3.out.below hb4 HC3.out.lt)
  clear hb4
  go_wp2_with fail
  refine By.marks Lea.mixed Grew [By.is (.int .u32 (e : Int)),
    By.is (.int .u32 (e : Int)),
    By.is (.bool false),
    By.is (.bool false),
    By.is (.int .u64 (m : Int)),
    By.is (.int .u64 (m : Int)),
    By.is (.bool false),
    By.is (.bool false),
    By.is (.bool false),
    By.is (.int .u32 (p : Int)),
    By.is (.int .u64 (q : Int)),
    By.is (arr8 l),
    By.is (arr8 l),
    By.is (.bool false),
    By.is (.bool false),
    By.is (.bool false),
    By.is (.int .u32 (e : Int)),
    By.is (.int .u64 (m : Int)),
    By.is (arr8 (nonce e m)),
    By.is (.int .u32 (f : Int)),
    By.is (.int .u64 (n : Int)),
    By.is (arr8 (nonce f n)),
    By.is (.bool (decide (e = f ∧ m = n))),
    By.is (.int .u32 (e : Int)),
    By.is (.int .u32 (f : Int)),
    By.is (.bool (decide (e = f))),
    By.is (.bool (decide (e = f))),
    By.when (e = f) (By.is (.int .u64 (m : Int))),
    By.when (e = f) (By.is (.int .u64 (n : Int))),
    By.when (e = f) (By.is (.bool (decide (m = n)))),
    By.is (.bool (decide (e = f ∧ m = n))),
    By.is (.bool false),
    By.is (.bool false)]
    (Ev.masks _ []) (by kernel_rfl) rfl Grew.refl Grew.trans ⟨?_, ?_, ?_, ?_, ?_, ?_, ?_, ?_, ?_, ?_, ?_, ?_, ?_, ?_, ?_, ?_, ?_, ?_, ?_, ?_, ?_, ?_, ?_, ?_, ?_, ?_, ?_, ?_, ?_, ?_, ?_, ?_, ?_, trivial⟩ ?_
  · intro a w ht hs hg -- 41
    have h15 := By.same_get hs 15 (by decide) (by kernel_rfl)
    refine By.yes rfl ?_
    clear hs hg
    go_simp
    exact ⟨_, rfl, Grew.refl _, rfl⟩
  · intro a w ht hs hg -- 42
    have h0 := By.same_get hs 0 (by decide) (by kernel_rfl)
    refine By.yes rfl ?_
    clear hs hg
    go_simp
    exact ⟨_, rfl, Grew.refl _, rfl⟩
  · intro a w ht hs hg -- 43
    have h41 : a.tmps.getD 41 undef = _ := By.given_get hg 0 rfl rfl (by kernel_rfl)
    have h42 : a.tmps.getD 42 undef = _ := By.given_get hg 1 rfl rfl (by kernel_rfl)
    refine By.yes rfl ?_
    clear hs hg
    go_simp
    exact ⟨_, rfl, Grew.refl _, congrArg Value.bool (by simp)⟩
  · intro a w ht hs hg -- 44
    have h43 : a.tmps.getD 43 undef = _ := By.given_get hg 2 rfl rfl (by kernel_rfl)
    refine By.yes rfl ?_
    clear hs hg
    go_simp
    exact ⟨_, rfl, Grew.refl _, rfl⟩
  · intro a w ht hs hg -- 45
    have h16 := By.same_get hs 16 (by decide) (by kernel_rfl)
    have hg44 := By.given_get hg 3 rfl rfl (by kernel_rfl)
    refine By.yes (By.want_yes rfl rfl hg44) ?_
    clear hg44
    clear hs hg
    go_simp
    exact ⟨_, rfl, Grew.refl _, rfl⟩
  · intro a w ht hs hg -- 46
    have h2 := By.same_get hs 2 (by decide) (by kernel_rfl)
    have hg44 := By.given_get hg 3 rfl rfl (by kernel_rfl)
    refine By.yes (By.want_yes rfl rfl hg44) ?_
    clear hg44
    clear hs hg
    go_simp
    exact ⟨_, rfl, Grew.refl _, rfl⟩
  · intro a w ht hs hg -- 47
    have h45 : a.tmps.getD 45 undef = _ := By.given_get hg 4 rfl rfl (by kernel_rfl)
    have h46 : a.tmps.getD 46 undef = _ := By.given_get hg 5 rfl rfl (by kernel_rfl)
    have hg44 := By.given_get hg 3 rfl rfl (by kernel_rfl)
    refine By.yes (By.want_yes rfl rfl hg44) ?_
    clear hg44
    clear hs hg
    go_simp
    exact ⟨_, rfl, Grew.refl _, congrArg Value.bool (by simp)⟩
  · intro a w ht hs hg -- 48
    have h44 : a.tmps.getD 44 undef = _ := By.given_get hg 3 rfl rfl (by kernel_rfl)
    have h47 : a.tmps.getD 47 undef = _ := By.given_get hg 6 rfl rfl (by kernel_rfl)
    refine By.yes rfl ?_
    clear hs hg
    go_simp
    exact ⟨_, rfl, Grew.refl _, rfl⟩
  · intro a w ht hs hg -- 49
    have h48 : a.tmps.getD 48 undef = _ := By.given_get hg 7 rfl rfl (by kernel_rfl)
    refine By.yes rfl ?_
    clear hs hg
    go_simp
    exact ⟨_, rfl, Grew.refl _, rfl⟩
  · intro a w ht hs hg -- 50
    have h17 := By.same_get hs 17 (by decide) (by kernel_rfl)
    have hg49 := By.given_get hg 8 rfl rfl (by kernel_rfl)
    refine By.yes (By.want_yes rfl rfl hg49) ?_
    clear hg49
    clear hs hg
    go_simp
    exact ⟨_, rfl, Grew.refl _, rfl⟩
  · intro a w ht hs hg -- 51
    have h18 := By.same_get hs 18 (by decide) (by kernel_rfl)
    have hg49 := By.given_get hg 8 rfl rfl (by kernel_rfl)
    refine By.yes (By.want_yes rfl rfl hg49) ?_
    clear hg49
    clear hs hg
    go_simp
    exact ⟨_, rfl, Grew.refl _, rfl⟩
  · intro a w ht hs hg -- 52
    have h50 : a.tmps.getD 50 undef = _ := By.given_get hg 9 rfl rfl (by kernel_rfl)
    have h51 : a.tmps.getD 51 undef = _ := By.given_get hg 10 rfl rfl (by kernel_rfl)
    have hg49 := By.given_get hg 8 rfl rfl (by kernel_rfl)
    refine By.yes (By.want_yes rfl rfl hg49) ?_
    clear hg49
    clear hs hg
    go_simp
    refine (Nonce_any p q w).mono ?_
    rintro r w' ⟨rfl, hb⟩
    exact ⟨_, rfl, hb, congrArg arr8 Hsp.out⟩
  · intro a w ht hs hg -- 53
    have h11 := By.same_get hs 11 (by decide) (by kernel_rfl)
    have hg49 := By.given_get hg 8 rfl rfl (by kernel_rfl)
    refine By.yes (By.want_yes rfl rfl hg49) ?_
    clear hg49
    clear hs hg
    refine wp_loadRow 34 _ rfl h11 (Row.below (w := w4.drew) HN4.out ht HN4.out.lt) Try.underlying34 rfl (by kernel_rfl) HLm.out ?_
    exact ⟨_, rfl, Grew.refl _, rfl⟩
  · intro a w ht hs hg -- 54
    have h52 : a.tmps.getD 52 undef = _ := By.given_get hg 11 rfl rfl (by kernel_rfl)
    have h53 : a.tmps.getD 53 undef = _ := By.given_get hg 12 rfl rfl (by kernel_rfl)
    have hg49 := By.given_get hg 8 rfl rfl (by kernel_rfl)
    refine By.yes (By.want_yes rfl rfl hg49) ?_
    clear hg49
    clear hs hg
    refine wp_neqArr _ _ rfl (by kernel_rfl) h52 h53 (eq12 l l HL.out HL.out w) ?_
    exact ⟨_, rfl, Grew.refl _, congrArg Value.bool (by simp)⟩
  · intro a w ht hs hg -- 55
    have h49 : a.tmps.getD 49 undef = _ := By.given_get hg 8 rfl rfl (by kernel_rfl)
    have h54 : a.tmps.getD 54 undef = _ := By.given_get hg 13 rfl rfl (by kernel_rfl)
    refine By.yes rfl ?_
    clear hs hg
    go_simp
    exact ⟨_, rfl, Grew.refl _, rfl⟩
  · intro a w ht hs hg -- 56
    have h55 : a.tmps.getD 55 undef = _ := By.given_get hg 14 rfl rfl (by kernel_rfl)
    refine By.yes rfl ?_
    clear hs hg
    go_simp
    exact ⟨_, rfl, Grew.refl _, rfl⟩
  · intro a w ht hs hg -- 57
    have h0 := By.same_get hs 0 (by decide) (by kernel_rfl)
    have hg56 := By.given_get hg 15 rfl rfl (by kernel_rfl)
    refine By.yes (By.want_yes rfl rfl hg56) ?_
    clear hg56
    clear hs hg
    go_simp
    exact ⟨_, rfl, Grew.refl _, rfl⟩
  · intro a w ht hs hg -- 58
    have h2 := By.same_get hs 2 (by decide) (by kernel_rfl)
    have hg56 := By.given_get hg 15 rfl rfl (by kernel_rfl)
    refine By.yes (By.want_yes rfl rfl hg56) ?_
    clear hg56
    clear hs hg
    go_simp
    exact ⟨_, rfl, Grew.refl _, rfl⟩
  · intro a w ht hs hg -- 59
    have h57 : a.tmps.getD 57 undef = _ := By.given_get hg 16 rfl rfl (by kernel_rfl)
    have h58 : a.tmps.getD 58 undef = _ := By.given_get hg 17 rfl rfl (by kernel_rfl)
    have hg56 := By.given_get hg 15 rfl rfl (by kernel_rfl)
    refine By.yes (By.want_yes rfl rfl hg56) ?_
    clear hg56
    clear hs hg
    go_simp
    refine (Nonce_any e m w).mono ?_
    rintro r w' ⟨rfl, hb⟩
    exact ⟨_, rfl, hb, rfl⟩
  · intro a w ht hs hg -- 60
    have h1 := By.same_get hs 1 (by decide) (by kernel_rfl)
    have hg56 := By.given_get hg 15 rfl rfl (by kernel_rfl)
    refine By.yes (By.want_yes rfl rfl hg56) ?_
    clear hg56
    clear hs hg
    go_simp
    exact ⟨_, rfl, Grew.refl _, rfl⟩
  · intro a w ht hs hg -- 61
    have h3 := By.same_get hs 3 (by decide) (by kernel_rfl)
    have hg56 := By.given_get hg 15 rfl rfl (by kernel_rfl)
    refine By.yes (By.want_yes rfl rfl hg56) ?_
    clear hg56
    clear hs hg
    go_simp
    exact ⟨_, rfl, Grew.refl _, rfl⟩
  · intro a w ht hs hg -- 62
    have h60 : a.tmps.getD 60 undef = _ := By.given_get hg 19 rfl rfl (by kernel_rfl)
    have h61 : a.tmps.getD 61 undef = _ := By.given_get hg 20 rfl rfl (by kernel_rfl)
    have hg56 := By.given_get hg 15 rfl rfl (by kernel_rfl)
    refine By.yes (By.want_yes rfl rfl hg56) ?_
    clear hg56
    clear hs hg
    go_simp
    refine (Nonce_any f n w).mono ?_
    rintro r w' ⟨rfl, hb⟩
    exact ⟨_, rfl, hb, rfl⟩
  · intro a w ht hs hg -- 63
    have h59 : a.tmps.getD 59 undef = _ := By.given_get hg 18 rfl rfl (by kernel_rfl)
    have h62 : a.tmps.getD 62 undef = _ := By.given_get hg 21 rfl rfl (by kernel_rfl)
    have hg56 := By.given_get hg 15 rfl rfl (by kernel_rfl)
    refine By.yes (By.want_yes rfl rfl hg56) ?_
    clear hg56
    clear hs hg
    refine wp_eqArr _ _ rfl (by kernel_rfl) h59 h62 (eq12 _ _ (nonce_length e m) (nonce_length f n) w) ?_
    exact ⟨_, rfl, Grew.refl _, congrArg Value.bool (decide_eq_decide.2 Hinj.out)⟩
  · intro a w ht hs hg -- 64
    have h0 := By.same_get hs 0 (by decide) (by kernel_rfl)
    have hg56 := By.given_get hg 15 rfl rfl (by kernel_rfl)
    refine By.yes (By.want_yes rfl rfl hg56) ?_
    clear hg56
    clear hs hg
    go_simp
    exact ⟨_, rfl, Grew.refl _, rfl⟩
  · intro a w ht hs hg -- 65
    have h1 := By.same_get hs 1 (by decide) (by kernel_rfl)
    have hg56 := By.given_get hg 15 rfl rfl (by kernel_rfl)
    refine By.yes (By.want_yes rfl rfl hg56) ?_
    clear hg56
    clear hs hg
    go_simp
    exact ⟨_, rfl, Grew.refl _, rfl⟩
  · intro a w ht hs hg -- 66
    have h64 : a.tmps.getD 64 undef = _ := By.given_get hg 23 rfl rfl (by kernel_rfl)
    have h65 : a.tmps.getD 65 undef = _ := By.given_get hg 24 rfl rfl (by kernel_rfl)
    have hg56 := By.given_get hg 15 rfl rfl (by kernel_rfl)
    refine By.yes (By.want_yes rfl rfl hg56) ?_
    clear hg56
    clear hs hg
    go_simp
    exact ⟨_, rfl, Grew.refl _, congrArg Value.bool (by rw [Bool.eq_iff_iff]; simp; try omega)⟩
  · intro a w ht hs hg -- 67
    have h66 : a.tmps.getD 66 undef = _ := By.given_get hg 25 rfl rfl (by kernel_rfl)
    have hg56 := By.given_get hg 15 rfl rfl (by kernel_rfl)
    refine By.yes (By.want_yes rfl rfl hg56) ?_
    clear hg56
    clear hs hg
    go_simp
    exact ⟨_, rfl, Grew.refl _, rfl⟩
  · intro a w ht hs hg -- 68
    have h2 := By.same_get hs 2 (by decide) (by kernel_rfl)
    have hg67 := By.given_get hg 26 rfl rfl (by kernel_rfl)
    refine By.guarded (c := e = f) ((By.want_dec rfl rfl hg67).trans (by simp)) fun hc => ?_
    clear hg67
    clear hs hg
    go_simp
    exact ⟨_, rfl, Grew.refl _, rfl⟩
  · intro a w ht hs hg -- 69
    have h3 := By.same_get hs 3 (by decide) (by kernel_rfl)
    have hg67 := By.given_get hg 26 rfl rfl (by kernel_rfl)
    refine By.guarded (c := e = f) ((By.want_dec rfl rfl hg67).trans (by simp)) fun hc => ?_
    clear hg67
    clear hs hg
    go_simp
    exact ⟨_, rfl, Grew.refl _, rfl⟩
  · intro a w ht hs hg -- 70
    have hg67 := By.given_get hg 26 rfl rfl (by kernel_rfl)
    refine By.guarded (c := e = f) ((By.want_dec rfl rfl hg67).trans (by simp)) fun hc => ?_
    clear hg67
    have h68 : a.tmps.getD 68 undef = _ := By.when_get hc (By.given_get hg 27 rfl rfl (by kernel_rfl))
    have h69 : a.tmps.getD 69 undef = _ := By.when_get hc (By.given_get hg 28 rfl rfl (by kernel_rfl))
    clear hs hg
    go_simp
    exact ⟨_, rfl, Grew.refl _, congrArg Value.bool (by rw [Bool.eq_iff_iff]; simp; try omega)⟩
  · intro a w ht hs hg -- 71
    have h67 : a.tmps.getD 67 undef = _ := By.given_get hg 26 rfl rfl (by kernel_rfl)
    have hg56 := By.given_get hg 15 rfl rfl (by kernel_rfl)
    refine By.yes (By.want_yes rfl rfl hg56) ?_
    clear hg56
    have h70 := By.given_get hg 29 rfl rfl (by kernel_rfl)
    clear hs hg
    by_cases hef : e = f
    · have h70' := By.when_get hef h70
      have h70 : a.tmps.getD 70 undef = _ := h70'
      clear h70'
      go_simp
      exact ⟨_, rfl, Grew.refl _, congrArg Value.bool (by simp [hef])⟩
    · clear h70
      go_simp
      exact ⟨_, rfl, Grew.refl _, congrArg Value.bool (by simp [hef])⟩
  · intro a w ht hs hg -- 72
    have h63 : a.tmps.getD 63 undef = _ := By.given_get hg 22 rfl rfl (by kernel_rfl)
    have h71 : a.tmps.getD 71 undef = _ := By.given_get hg 30 rfl rfl (by kernel_rfl)
    have hg56 := By.given_get hg 15 rfl rfl (by kernel_rfl)
    refine By.yes (By.want_yes rfl rfl hg56) ?_
    clear hg56
    clear hs hg
    go_simp
    exact ⟨_, rfl, Grew.refl _, congrArg Value.bool (by simp)⟩
  · intro a w ht hs hg -- 73
    have h56 : a.tmps.getD 56 undef = _ := By.given_get hg 15 rfl rfl (by kernel_rfl)
    have h72 : a.tmps.getD 72 undef = _ := By.given_get hg 31 rfl rfl (by kernel_rfl)
    refine By.yes rfl ?_
    clear hs hg
    go_simp
    exact ⟨_, rfl, Grew.refl _, rfl⟩
  refine By.ends_is (By.ends_is (By.ends_is (By.ends_is (By.ends_is (By.ends_is (By.ends_is (By.ends_is (By.ends_is (By.ends_is (By.ends_is (By.ends_is (By.ends_is (By.ends_is (By.ends_is (By.ends_is (By.ends_is (By.ends_is (By.ends_is (By.ends_is (By.ends_is (By.ends_is (By.ends_is (By.ends_is (By.ends_is (By.ends_is (By.ends_is (By.ends_skip fun v68 => (By.ends_skip fun v69 => (By.ends_skip fun v70 => (By.ends_is (By.ends_is (By.ends_is (By.ends_nil fun w5 hw5 => ?_)))))))))))))))))))))))))))))))))
  simp only [Act.put, List.setIfInBounds_toArray, List.set_cons_succ, List.set_cons_zero]
  have HB5 := Lib.hid (nextB HB4.out (Nat.le_refl _) (show Below w4.heap.size w4 w5 from ⟨hw5.os, hw5.tape, hw5.output, hw5.size, hw5.block⟩))
  have HC5 := Lib.hid (Row.below (w := w4.drew) HC4.out hw5 HC4.out.lt)
  clear hw5
  go_wp2_with fail
  refine (Own_any _ b _ ((HBb.out.below HB5.out).more HB5.out.size) HBl2.out).mono ?_
  rintro r w6 ⟨v6, rfl, ho6, hb6⟩
  have HB6 := Lib.hid (nextB HB5.out (Nat.le_refl _) hb6)
  have HC6 := Lib.hid (HC5.out.below hb6 HC5.out.lt)
  have HO6 := Lib.hid ho6
  clear hb6 ho6
  go_wp2_with fail
  refine (Read_any _ b _ HO6.out.bs HBl.out).mono ?_
  have c6 : w.heap.size + 1 < w6.heap.size := HC6.out.lt
  by_cases hrd : ∃ x y, rdC b = (x, y, 0)
  · obtain ⟨x, y, hxy⟩ := hrd
    obtain ⟨hbb, hok⟩ := rdC_bytes b x y hxy
    have HOK := Lib.hid hok
    have HBB := Lib.hid hbb
    rw [hxy]
    clear hxy hok hbb
    rintro r w7 ⟨rfl, hb7⟩
    have HB7 := Lib.hid (nextB HB6.out (Nat.le_refl _) hb7)
    have HC7 := Lib.hid (HC6.out.below hb7 HC6.out.lt)
    have hlt7 : w.heap.size + 1 < w7.heap.size := HC7.out.lt
    clear hb7
    go_wp2_with fail
    refine (Bytes_ok x y _ HOK.out).mono ?_
    rintro r w8 ⟨v8, rfl, ho8, hb8⟩
    rw [HBB.out] at ho8
    have HB8 := Lib.hid (nextB (HB7.out.alloc (Nat.le_of_lt (Nat.lt_of_succ_lt hlt7)) _) (Nat.le_refl _) hb8)
    have HC8 := Lib.hid ((HC7.out.alloc _).below hb8 (by simp <;> omega))
    have HD8 := Lib.hid (show Row w8 w7.heap.size (cl x y) 24 from (Row.new (w := w7) rfl rfl).below hb8 (by simp <;> omega))
    have hlt8 : w.heap.size + 1 < w8.heap.size := HC8.out.lt
    have hlt87 : w7.heap.size < w8.heap.size := HD8.out.lt
    have hr1 := run_str w8 ho8.bs
    have hr2 := run_str w8 (HBb.out.below HB8.out)
    obtain ⟨A8, c8, rfl⟩ := ho8.shape
    have HO8 := Lib.hid ho8
    have hsg := str_guard .neq (.inr rfl) (.tmp 91) (.tmp 93) b b w8
    have hsn := str_neq b w8
    have q0 := cells0 HC8.out
    have q1 := cells1 HC8.out
    have u0 := cells0 HD8.out
    have u1 := cells1 HD8.out
    have u2 := frozen_row HD8.out 0
    have u3 := frozen_row HD8.out 1
    clear hb8 ho8
    go_wp2_with fail
    have HBX := HB8
    have HCX := HC8
    have HDX := HD8
    by_cases hokc : Ok cn cm
    · have HKC := Lib.hid hokc
      have HRC := Lib.hid (rdC_own cn cm hokc)
      have HEl := Lib.hid (show (Oct.enc cn ++ Oct.enc cm).length ≤ 35184372088832 by
        rw [List.length_append, Oct.enc_length, Oct.enc_length]
        have h1 := (Oct.nsize_spec cn (by unfold Ok at hokc; omega)).1
        have h2 := (Oct.nsize_spec cm (by unfold Ok at hokc; omega)).1
        omega)
      clear hokc
      refine (Bytes_ok cn cm _ HKC.out).mono ?_
      rintro r w9 ⟨v9, rfl, ho9, hb9⟩
      have HB9 := Lib.hid (nextB HBX.out (Nat.le_refl _) hb9)
      have HC9 := Lib.hid (HCX.out.below hb9 HCX.out.lt)
      have HD9 := Lib.hid (HDX.out.below hb9 HDX.out.lt)
      have HO9 := Lib.hid ho9
      clear hb9 ho9
      go_wp2_with fail
      refine (Read_any _ (Oct.enc cn ++ Oct.enc cm) _ HO9.out.bs HEl.out).mono ?_
      rw [HRC.out]
      rintro r w10 ⟨rfl, hb10⟩
      have HB10 := Lib.hid (nextB HB9.out (Nat.le_refl _) hb10)
      have HC10 := Lib.hid (HC9.out.below hb10 HC9.out.lt)
      have HD10 := Lib.hid (HD9.out.below hb10 HD9.out.lt)
      have hDw : w.heap.size ≤ w7.heap.size := by omega
      have hDc : w.heap.size + 1 ≠ w7.heap.size := by omega
      clear hb10
      have z0 := cells0 HC10.out
      have z1 := cells1 HC10.out
      have k0 := cells0 HD10.out
      have k1 := cells1 HD10.out
      have k2 := frozen_row HD10.out 0
      have k3 := frozen_row HD10.out 1
      go_wp2_with (first
        | (refine wpList_storeRow (n := 2) rfl 24 _ _ rfl rfl rfl (cs := cl cn cm) (old := cl x y) HD10.out (by kernel_rfl) rfl rfl (cl_one _ _) ?_
           obtain ⟨V, hV⟩ : ∃ V, w10.setRow w7.heap.size (cl cn cm).toArray = V := ⟨_, rfl⟩
           refine wpList_world hV ?_
           have RC := Lib.hid (show Row V (w.heap.size + 1) (cl cn cm) 24 by rw [← hV]; exact HC10.out.setOther _ _ hDc)
           have RD := Lib.hid (show Row V w7.heap.size (cl cn cm) 24 by rw [← hV]; exact HD10.out.setRow _)
           have HBV := Lib.hid (show Below w.heap.size w V by rw [← hV]; exact below_setRow HB10.out hDw _)
           have y0 := cells0 RC.out
           have y1 := cells1 RC.out
           have y4 := cells0 RD.out
           have y5 := cells1 RD.out
           clear hV)
        | fail)
      go_ret
      exact ⟨rfl, HBV.out⟩
    · have HKC := Lib.hid hokc
      clear hokc
      refine (Bytes_no cn cm _ Hcm.out HKC.out).mono ?_
      rintro r w9 ⟨rfl, hb9⟩
      have HB9 := Lib.hid (nextB HBX.out (Nat.le_refl _) hb9)
      have HC9 := Lib.hid (HCX.out.below hb9 HCX.out.lt)
      have hlt9 : w.heap.size + 1 < w9.heap.size := HC9.out.lt
      have z0 := cells0 HC9.out
      have z1 := cells1 HC9.out
      have a0 : ∀ o, (w9.alloc o).cell? ⟨w.heap.size + 1, 0, none⟩ = _ := fun o => cells0 (HC9.out.alloc o)
      have a1 : ∀ o, (w9.alloc o).cell? ⟨w.heap.size + 1, 1, none⟩ = _ := fun o => cells1 (HC9.out.alloc o)
      clear hb9
      go_wp2_with fail
      refine (Check_no cn cm _ Hcm.out HKC.out).mono ?_
      rintro r w' ⟨rfl, rfl⟩
      go_wp2_with fail
      refine (Left_no cn cm _ Hcm.out HKC.out).mono ?_
      rintro r w' ⟨rfl, rfl⟩
      go_wp2_with fail
      go_ret
      exact ⟨rfl, ((HB9.out.alloc (by omega) _).alloc (by simp <;> omega) _).alloc (by simp <;> omega) _⟩
  · have hz := (rdC_cases b).resolve_left hrd
    rw [hz]
    clear hrd hz
    rintro r w7 ⟨rfl, hb7⟩
    have HB7 := Lib.hid (nextB HB6.out (Nat.le_refl _) hb7)
    have HC7 := Lib.hid (HC6.out.below hb7 HC6.out.lt)
    have hlt7 : w.heap.size + 1 < w7.heap.size := HC7.out.lt
    have q0 : ∀ o, (w7.alloc o).cell? ⟨w.heap.size + 1, 0, none⟩ = _ := fun o => cells0 (HC7.out.alloc o)
    have q1 : ∀ o, (w7.alloc o).cell? ⟨w.heap.size + 1, 1, none⟩ = _ := fun o => cells1 (HC7.out.alloc o)
    clear hb7
    go_wp2_with fail
    have HBX := Lib.hid (HB7.out.alloc (Nat.le_of_lt (Nat.lt_of_succ_lt hlt7)) (.cells #[.int .u64 0, .int .u64 0] 24))
    have HCX := Lib.hid (HC7.out.alloc (.cells #[.int .u64 0, .int .u64 0] 24))
    have HDX := Lib.hid (show Row (w7.alloc (.cells #[.int .u64 0, .int .u64 0] 24)) w7.heap.size (cl 0 0) 24 from Row.new rfl rfl)
    by_cases hokc : Ok cn cm
    · have HKC := Lib.hid hokc
      have HRC := Lib.hid (rdC_own cn cm hokc)
      have HEl := Lib.hid (show (Oct.enc cn ++ Oct.enc cm).length ≤ 35184372088832 by
        rw [List.length_append, Oct.enc_length, Oct.enc_length]
        have h1 := (Oct.nsize_spec cn (by unfold Ok at hokc; omega)).1
        have h2 := (Oct.nsize_spec cm (by unfold Ok at hokc; omega)).1
        omega)
      clear hokc
      refine (Bytes_ok cn cm _ HKC.out).mono ?_
      rintro r w9 ⟨v9, rfl, ho9, hb9⟩
      have HB9 := Lib.hid (nextB HBX.out (Nat.le_refl _) hb9)
      have HC9 := Lib.hid (HCX.out.below hb9 HCX.out.lt)
      have HD9 := Lib.hid (HDX.out.below hb9 HDX.out.lt)
      have HO9 := Lib.hid ho9
      clear hb9 ho9
      go_wp2_with fail
      refine (Read_any _ (Oct.enc cn ++ Oct.enc cm) _ HO9.out.bs HEl.out).mono ?_
      rw [HRC.out]
      rintro r w10 ⟨rfl, hb10⟩
      have HB10 := Lib.hid (nextB HB9.out (Nat.le_refl _) hb10)
      have HC10 := Lib.hid (HC9.out.below hb10 HC9.out.lt)
      have HD10 := Lib.hid (HD9.out.below hb10 HD9.out.lt)
      have hDw : w.heap.size ≤ w7.heap.size := by omega
      have hDc : w.heap.size + 1 ≠ w7.heap.size := by omega
      clear hb10
      have z0 := cells0 HC10.out
      have z1 := cells1 HC10.out
      have k0 := cells0 HD10.out
      have k1 := cells1 HD10.out
      have k2 := frozen_row HD10.out 0
      have k3 := frozen_row HD10.out 1
      go_wp2_with (first
        | (refine wpList_storeRow (n := 2) rfl 24 _ _ rfl rfl rfl (cs := cl cn cm) (old := cl 0 0) HD10.out (by kernel_rfl) rfl rfl (cl_one _ _) ?_
           obtain ⟨V, hV⟩ : ∃ V, w10.setRow w7.heap.size (cl cn cm).toArray = V := ⟨_, rfl⟩
           refine wpList_world hV ?_
           have RC := Lib.hid (show Row V (w.heap.size + 1) (cl cn cm) 24 by rw [← hV]; exact HC10.out.setOther _ _ hDc)
           have RD := Lib.hid (show Row V w7.heap.size (cl cn cm) 24 by rw [← hV]; exact HD10.out.setRow _)
           have HBV := Lib.hid (show Below w.heap.size w V by rw [← hV]; exact below_setRow HB10.out hDw _)
           have y0 := cells0 RC.out
           have y1 := cells1 RC.out
           have y4 := cells0 RD.out
           have y5 := cells1 RD.out
           clear hV)
        | fail)
      go_ret
      exact ⟨rfl, HBV.out⟩
    · have HKC := Lib.hid hokc
      clear hokc
      refine (Bytes_no cn cm _ Hcm.out HKC.out).mono ?_
      rintro r w9 ⟨rfl, hb9⟩
      have HB9 := Lib.hid (nextB HBX.out (Nat.le_refl _) hb9)
      have HC9 := Lib.hid (HCX.out.below hb9 HCX.out.lt)
      have hlt9 : w.heap.size + 1 < w9.heap.size := HC9.out.lt
      have z0 := cells0 HC9.out
      have z1 := cells1 HC9.out
      have a0 : ∀ o, (w9.alloc o).cell? ⟨w.heap.size + 1, 0, none⟩ = _ := fun o => cells0 (HC9.out.alloc o)
      have a1 : ∀ o, (w9.alloc o).cell? ⟨w.heap.size + 1, 1, none⟩ = _ := fun o => cells1 (HC9.out.alloc o)
      clear hb9
      go_wp2_with fail
      refine (Check_no cn cm _ Hcm.out HKC.out).mono ?_
      rintro r w' ⟨rfl, rfl⟩
      go_wp2_with fail
      refine (Left_no cn cm _ Hcm.out HKC.out).mono ?_
      rintro r w' ⟨rfl, rfl⟩
      go_wp2_with fail
      go_ret
      exact ⟨rfl, ((HB9.out.alloc (by omega) _).alloc (by simp <;> omega) _).alloc (by simp <;> omega) _⟩

set_option maxRecDepth 100000 in
theorem lift (os : Os) (started : os.Started) (H : Type) (enc : TypeId × Value → H) :
    ReturnsInHanded {} Try.checked os 6 .any (Rows.leaseNoncesSpec.pre6 enc Try.prog Try.f6 Rows.leaseNoncesRow.domain false) (Rows.leaseNoncesSpec.post enc Try.prog Try.f6 false true false false) := by
  refine Law.lifted (C := Try.checked) 4 own started (by kernel_rfl) Try.func6 laid (by kernel_rfl) rfl Try.underlying4 rfl
    (fun ds hd => by
      have hd' : ds.length = 7 := hd
      match ds, hd' with
      | [d0, d1, d2, d3, d4, d5, d6], _ => rfl)
    (ChangeSpec.witness6 (enc := enc) (C := Try.checked) false ⟨#[], #[.int .u32 0, .int .u32 0, .int .u64 0, .int .u64 0, .agg #[.int .u8 0, .int .u8 0, .int .u8 0, .int .u8 0, .int .u8 0, .int .u8 0, .int .u8 0, .int .u8 0, .int .u8 0, .int .u8 0, .int .u8 0, .int .u8 0], .agg #[.int .u64 0, .int .u64 0], .slice none 0 0], []⟩ 8 (by kernel_rfl) (by kernel_rfl) (by kernel_rfl) (by kernel_rfl)) ?_
  intro W args ds ps hst
  have hA : DataW.TrodAll enc Try.prog W 0 (fun _ => true) true Try.f6.params.toList args.toList ds ps := hst.trod
  have hok := hst.okw
  have hlt := hst.lt
  rw [Try.params6] at hA hok
  obtain ⟨v0, r0, d0, e0, p0, q0, hargs, rfl, rfl, h0, hA⟩ := trodAll_cons hA
  obtain ⟨v1, r1, d1, e1, p1, q1, rfl, rfl, rfl, h1, hA⟩ := trodAll_cons hA
  obtain ⟨v2, r2, d2, e2, p2, q2, rfl, rfl, rfl, h2, hA⟩ := trodAll_cons hA
  obtain ⟨v3, r3, d3, e3, p3, q3, rfl, rfl, rfl, h3, hA⟩ := trodAll_cons hA
  obtain ⟨v4, r4, d4, e4, p4, q4, rfl, rfl, rfl, h4, hA⟩ := trodAll_cons hA
  obtain ⟨v5, r5, d5, e5, p5, q5, rfl, rfl, rfl, h5, hA⟩ := trodAll_cons hA
  obtain ⟨v6, r6, d6, e6, p6, q6, rfl, rfl, rfl, h6, hA⟩ := trodAll_cons hA
  obtain ⟨rfl, rfl, rfl⟩ := trodAll_nil hA
  obtain rfl : args = #[v0, v1, v2, v3, v4, v5, v6] := by cases args; simp_all
  obtain ⟨_, hv0⟩ := hok 0 33 v0 rfl rfl
  obtain ⟨_, hv1⟩ := hok 1 33 v1 rfl rfl
  obtain ⟨_, hv2⟩ := hok 2 22 v2 rfl rfl
  obtain ⟨_, hv3⟩ := hok 3 22 v3 rfl rfl
  obtain ⟨_, hv4⟩ := hok 4 34 v4 rfl rfl
  obtain ⟨_, hv5⟩ := hok 5 24 v5 rfl rfl
  obtain ⟨_, hv6⟩ := hok 6 35 v6 rfl rfl
  obtain ⟨e, rfl, e0', e1'⟩ := Law.int_at Try.underlying33 hv0 h0
  obtain ⟨f, rfl, f0', f1'⟩ := Law.int_at Try.underlying33 hv1 h1
  obtain ⟨m, rfl, m0', m1'⟩ := Law.int_at Try.underlying22 hv2 h2
  obtain ⟨n, rfl, n0', n1'⟩ := Law.int_at Try.underlying22 hv3 h3
  obtain ⟨l, rfl, hl⟩ := arr8_at (P := Try.prog) Try.underlying34 (by kernel_rfl) (by kernel_rfl) Try.underlying5 hv4
  obtain ⟨cn, cm, rfl, hcn, hcm⟩ := pair64_at Try.underlying24 (by kernel_rfl) (by kernel_rfl) Try.underlying22 hv5
  obtain ⟨b, hb, _⟩ := Law.bytes_at Try.underlying35 hv6 h6 (fun x hx => hlt x (by simp [hx]))
  have e0 : (0 : Int) ≤ e := e0'
  have e1 : e ≤ 4294967295 := e1'
  have f0 : (0 : Int) ≤ f := f0'
  have f1 : f ≤ 4294967295 := f1'
  have m0 : (0 : Int) ≤ m := m0'
  have m1 : m ≤ 18446744073709551615 := m1'
  have n0 : (0 : Int) ≤ n := n0'
  have n1 : n ≤ 18446744073709551615 := n1'
  obtain ⟨e, rfl⟩ := Int.eq_ofNat_of_zero_le e0
  obtain ⟨f, rfl⟩ := Int.eq_ofNat_of_zero_le f0
  obtain ⟨m, rfl⟩ := Int.eq_ofNat_of_zero_le m0
  obtain ⟨n, rfl⟩ := Int.eq_ofNat_of_zero_le n0
  have hb0 := hb
  obtain ⟨A, c, rfl, _, _⟩ := hb0
  by_cases h100 : b.length ≤ 100
  · exact walk l hl e f m n A c b cn cm W hb h100 (by omega) (by omega) (by omega) (by omega) hcn hcm
  · exact long _ _ e f m n A c b.length l rfl cn cm rfl W (by omega)

theorem over : Rows.leaseNoncesRow.holds Try.pinned (OpenSpec.ofChange Rows.leaseNoncesSpec) :=
  OpenClaim.holds_of_wide 6 Try.f6 rfl rfl rfl rfl rfl rfl rfl ⟨rfl, rfl, rfl, rfl, rfl⟩ rfl rfl rfl rfl rfl (by kernel_rfl) Try.func6 (by kernel_rfl)
    (of_decide_eq_true (by kernel_rfl)) (by unfold Func.isWrapper; first | (rw [if_pos (by decide +kernel)]; kernel_rfl) | (rw [if_neg (by decide +kernel)]; exact ⟨rfl, rfl⟩))
    (fun os started H enc _ => lift os started H enc)
theorem proved : Rows.LeaseNoncesSaid := over
#print axioms proved
end Go.Proofs.Ytndpobibjgcefaa.leaseNonces

