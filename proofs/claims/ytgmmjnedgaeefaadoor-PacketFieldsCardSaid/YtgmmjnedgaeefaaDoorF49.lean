/- Texts that the proofs share: PktSeal, PktOpen, PktLives. -/
import Derived.Test.YtgmmjnedgaeefaaDoorF29
import Derived.Test.YtgmmjnedgaeefaaDoorF34
import Derived.Test.YtgmmjnedgaeefaaDoorF38
import Derived.Test.YtgmmjnedgaeefaaDoorF42
import Derived.Test.YtgmmjnedgaeefaaDoorF43
import Derived.Test.YtgmmjnedgaeefaaDoorF44
import Derived.Test.YtgmmjnedgaeefaaDoorF48
namespace Go.Proofs.YtgmmjnedgaeefaaDoor.Pkt
open Go.RowKit
open Shk (bsM wp_ld wp_conv grew_below sstop SStop)
def dp (s e n : Nat) (b : Value) : Pk := ⟨3, 0, s, e, n, z16, z16, b⟩
def dataOk (s e n : Nat) : Prop := 1 ≤ s ∧ 1 ≤ e ∧ 1 ≤ n ∧ n ≤ 1152921504606846976
instance (s e n : Nat) : Decidable (dataOk s e n) := by unfold dataOk; infer_instance
theorem dp_ok (s e n : Nat) {b : Value} (hb : b.oneCell' = true) : (dp s e n b).Ok := ⟨rfl, rfl, hb⟩
theorem head_dp (s e n : Nat) (b : Value) : Head (dp s e n b) ↔ dataOk s e n := by
 unfold Head dp dataOk
 simp
theorem pkey_length (sec : List UInt8) (e : Nat) (z : Int) : (pkey sec e z).length = 32 := by
 rw [pkey, ← Hk.outN_end (Sha.mac [] sec) (data4 ++ tail5 e (par z)) 32 1 (by omega) (by omega)]
 exact Hk.outN_length _ _ _ _
theorem along_len (p : Pk) (hi : p.In) : (alongL p).length ≤ 60 := by
 unfold alongL
 split
 · rename_i h
   have l1 := enc_len p.kind.toNat (by rw [h.1]; decide)
   have l2 := enc_len p.ses hi.s
   have l3 := enc_len p.epo (by have := hi.e; omega)
   have l4 := enc_len p.cnt hi.c
   have l5 := enc_len 0 (by decide)
   simp [parts3]
   omega
 · simp
def sealedL (sec : List UInt8) (z : Int) (s e n : Nat) (plain : List UInt8) : List UInt8 := Aead.sealed (pkey sec e z) (Lea.nonce e n) plain (alongL (dp s e n (.slice none 0 0)))
theorem sealedL_length (sec : List UInt8) (z : Int) (s e n : Nat) (plain : List UInt8) : (sealedL sec z s e n plain).length = plain.length + 16 := Aead.sealed_length _ _ _ _
def resB (l : List UInt8) (g : Int) : By.Mark Grew := ⟨fun v w => ∃ x, v = .tuple #[x, .int .i64 g] ∧ Bs w w.heap.size x l, fun _ _ _ ⟨x, h1, h2⟩ k => ⟨x, h1, (h2.below k).more k.size⟩⟩
set_option maxRecDepth 100000 in
set_option maxHeartbeats 2000000 in
theorem clone_far (v : Value) (l : List UInt8) (w : World) (hb : Bs w w.heap.size v l) (hl : l.length ≤ 1000000) (hne : l ≠ []) : Calls Tryd.prog 34 #[v] w fun e w' => ∃ b R, e = .returned (.slice (some ⟨b, 0, none⟩) l.length l.length) ∧ w.heap.size ≤ b ∧ Row w' b (l.map bv ++ R) 5 ∧ Below w.heap.size w w' := by
 have Hb := Lib.hid hb
 have Hl := Lib.hid hl
 obtain ⟨A, c, rfl, _, _⟩ := id hb
 clear hb
 go_enter Tryd.func34, Tryd.ntmps34
 go_wp2_with (first
  | (at_builtin; refine wpList_app_bytes _ rfl _ _ rfl rfl (Own.nil w w.heap.size) rfl Hb.out (by have := Hl.out; simp; omega) (Nat.le_refl _) ?_
     intro v2 w2 ho2 hg2 _
     refine sstop ?_)
  | fail)
 unfold SStop
 rw [List.nil_append] at ho2
 have HB2 := Lib.hid ((Below.refl w.heap.size w).grown hg2 (Nat.le_refl _) (fun k hk => by cases hk))
 obtain ⟨b, c2, R, rfl, hc2, hge, hrow⟩ : ∃ b c2 R, v2 = .slice (some ⟨b, 0, none⟩) l.length c2 ∧ l.length ≤ c2 ∧ w.heap.size ≤ b ∧ Row w2 b (l.map bv ++ R) 5 := by
  rcases ho2.2 with ⟨_, h2⟩ | ⟨g, cap, cur, e, hg, hgg, k1, _, _, k4⟩
  · exact absurd (List.eq_nil_of_length_eq_zero h2) hne
  · refine ⟨g, cap, cur.toList.drop l.length, e, k1, hg, ?_⟩
    have h5 : l.map bv ++ cur.toList.drop l.length = cur.toList := by
     rw [← k4, Nat.mul_one, List.take_append_drop]
    unfold Row
    rw [h5, hgg]
 have HC := Lib.hid hrow
 have Hge := Lib.hid hge
 have hcc : (l.length : Int) ≤ (c2 : Int) := by omega
 clear ho2 hg2 hc2 hl hge hrow hne
 go_wp2
 all_goals go_ret
 all_goals exact ⟨_, _, rfl, Hge.out, HC.out, HB2.out⟩
theorem wpList_build {P : Program} {w : World} {ops : Array Oper} {rest : List Oper} {o : Oper} {a : Act} {Q : Exit → Act → World → Prop} (hgd : o.guard = none) (t : TypeId) (parts : Array (Nat × Operand)) (ho : o.op = .build t parts) {v : Value}
 (hrun : (Instr.build t (parts.map fun (i, x) => (i, a.eval x))).run P w = .ok v w) (hk : wpList P ops Q rest (a.put o.dst v) w) : wpList P ops Q (o :: rest) a w := by
 refine wpList_plain hgd fun K hK => ?_
 unfold Oper.wp execOp
 simp only [ho, Sem.run_bind, Sem.run_pure, Result.andThen_ok, hrun]
 exact hK _ _ hk
theorem l_k32 {w : World} {g : Nat} {key : List UInt8} (h : Row w g (key.map bv) 24) (hk : key.length = 32) : (loadVar 24 ⟨g, 0, none⟩).run Tryd.prog w = .ok (arr8 key) w := by
 rw [Pol.run_loadVar_sub (off := 0) (n := 32) w h Tryd.underlying24 rfl (by kernel_rfl) (by rw [List.length_map]; omega), List.drop_zero, List.take_of_length_le (by rw [List.length_map]; omega)]
 rfl
set_option maxRecDepth 100000 in
set_option maxHeartbeats 2000000 in
theorem Seal_any (sec plain : List UInt8) (hs : sec.length = 32) (z : Int) (s e n : Nat) (A : Option Addr) (c : Nat) (hp : plain.length ≤ 65536) (hd : dataOk s e n) (hsb : s < 18446744073709551616) (heb : e < 4294967296) (w : World) (ht : Tab w) (hv : Bs w w.heap.size (.slice A plain.length c) plain) : Calls Tryd.prog 21 #[arr8 sec, .int .i64 z, .int .u64 (s : Int), .int .u32 (e : Int), .int .u64 (n : Int), .slice A plain.length c] w fun x w' => (∃ b R, x = .returned (.tuple #[(dp s e n (.slice (some ⟨b, 0, none⟩) (plain.length + 16) (plain.length + 16))).val, .int .i64 0]) ∧ w.heap.size ≤ b ∧ Row w' b ((sealedL sec z s e n plain).map bv ++ R) 5) ∧ Below w.heap.size w w' := by
 have Ht := Lib.hid ht
 have Hv := Lib.hid hv
 have He := Lib.hid heb
 have hin : (dp s e n (.slice none 0 0)).In := ⟨dp_ok s e n rfl, hsb, heb, by have := hd.2.2.2; show n < 18446744073709551616; omega⟩
 have HIn := Lib.hid hin
 obtain ⟨K, hK⟩ : ∃ K, pkey sec e z = K := ⟨_, rfl⟩
 obtain ⟨N12, hN⟩ : ∃ N, Lea.nonce e n = N := ⟨_, rfl⟩
 obtain ⟨AL, hAL⟩ : ∃ N, alongL (dp s e n (.slice none 0 0)) = N := ⟨_, rfl⟩
 obtain ⟨SL, hSL⟩ : ∃ N, sealedL sec z s e n plain = N := ⟨_, rfl⟩
 have HKe := Lib.hid hK
 have HNe := Lib.hid hN
 have HAe := Lib.hid hAL
 have HSe := Lib.hid (show Aead.sealed K N12 plain AL = SL by rw [← hK, ← hN, ← hAL, ← hSL]; rfl)
 have HKl := Lib.hid (show K.length = 32 by rw [← hK]; exact pkey_length _ _ _)
 have HNl := Lib.hid (show N12.length = 12 by rw [← hN]; exact Lea.nonce_length _ _)
 have HAl := Lib.hid (show AL.length ≤ 60 by rw [← hAL]; exact along_len _ hin)
 have HSl := Lib.hid (show SL.length = plain.length + 16 by rw [← hSL]; exact sealedL_length _ _ _ _ _ _)
 rw [hSL]
 have Hhd := Lib.hid ((head_dp s e n (.slice none 0 0)).2 hd)
 clear ht hv heb hsb hin hK hN hAL hSL hd
 have HB0 := Lib.hid (show Below w.heap.size w ((w.alloc (.cells (sec.map bv).toArray 24)).alloc (.cells (nm 0).cells.toArray 40)) from ((Below.refl _ w).alloc (Nat.le_refl _) _).alloc (by simp) _)
 have HK := Lib.hid (show Row ((w.alloc (.cells (sec.map bv).toArray 24)).alloc (.cells (nm 0).cells.toArray 40)) w.heap.size (sec.map bv) 24 from (Row.new rfl rfl).alloc _)
 have HO := Lib.hid (show Row ((w.alloc (.cells (sec.map bv).toArray 24)).alloc (.cells (nm 0).cells.toArray 40)) (w.heap.size + 1) (nm 0).cells 40 from Row.new (by simp) rfl)
 have hp' : ¬ (65536 : Int) < (plain.length : Int) := by omega
 have HDo := Lib.hid (dp_ok s e n (b := .slice none 0 0) rfl)
 have Hs := Lib.hid hs
 have Hp := Lib.hid hp
 clear hs hp
 unfold arr8
 go_enter Tryd.func21, Tryd.ntmps21
 go_wp2_with (first
  | (show wpList _ _ _ (⟨some 24, _, _, _, _, _⟩ :: _) _ _
     refine wpList_build rfl _ _ rfl (v := (dp s e n (.slice none 0 0)).val) (by kernel_rfl) ?_
     refine wpList_name fun W0 hW0 => ?_
     refine sstop ?_)
  | fail)
 unfold SStop
 have HK0 := Lib.hid (show Row W0 w.heap.size (sec.map bv) 24 from hW0 ▸ HK.out)
 have HO0 := Lib.hid (show Row W0 (w.heap.size + 1) (nm 0).cells 40 from hW0 ▸ HO.out)
 have HBW := Lib.hid (show Below w.heap.size w W0 from hW0 ▸ HB0.out)
 have hs0 : W0.heap.size = w.heap.size + 1 + 1 := by rw [← hW0]; simp
 have Hg := Lib.hid (show Row (W0.alloc (.cells (nm 0).cells.toArray 40)) (w.heap.size + 1 + 1) (nm 0).cells 40 from Row.new hs0 rfl)
 clear hW0
 go_wp2_with (first
  | (show wpList _ _ _ (⟨none, Op.store 40 _ _, _, _, _, _⟩ :: _) _ _
     refine wpList_storeRow (g := w.heap.size + 1 + 1) rfl 40 _ _ rfl rfl rfl (cs := (dp s e n (.slice none 0 0)).cells) Hg.out (by kernel_rfl) (Pk.length HDo.out) (Pk.length (nm_ok 0)) (Pk.one HDo.out) ?_
     refine wpList_name fun V hV => ?_
     refine sstop ?_)
  | fail)
 unfold SStop
 have HKV := Lib.hid (show Row V w.heap.size (sec.map bv) 24 by rw [← hV]; exact (HK0.out.alloc _).setOther _ _ (by omega))
 have HOV := Lib.hid (show Row V (w.heap.size + 1) (nm 0).cells 40 by rw [← hV]; exact (HO0.out.alloc _).setOther _ _ (by omega))
 have HDV := Lib.hid (show Row V (w.heap.size + 1 + 1) (dp s e n (.slice none 0 0)).cells 40 by rw [← hV]; exact Hg.out.setRow _)
 have HBV := Lib.hid (show Below w.heap.size w V by rw [← hV]; exact below_setRow (HBW.out.alloc (by omega) _) (by omega) _)
 have HLd := Lib.hid (l_all HDV.out HDo.out)
 clear hV hs0
 go_wp2_with (first
  | (refine wpList_ld 40 rfl rfl HLd.out rfl ?_)
  | fail)
 refine (isHead_any (dp s e n (.slice none 0 0)) HDo.out V).mono ?_
 rintro x w1 ⟨rfl, hb1⟩
 have HB1 := Lib.hid (nextB HBV.out (Nat.le_refl _) hb1)
 have HK1 := Lib.hid (HKV.out.below hb1 HKV.out.lt)
 have HO1 := Lib.hid (HOV.out.below hb1 HOV.out.lt)
 have HD1 := Lib.hid (HDV.out.below hb1 HDV.out.lt)
 clear hb1
 have HV1 := Lib.hid ((Hv.out.below HB1.out).more HB1.out.size)
 have HT1 := Lib.hid (Ht.out.below HB1.out Ht.out.1)
 rw [decide_eq_true Hhd.out]
 go_wp2_with fail
 refine By.marks Pol.mixed Grew [By.is (arr8 sec),
  By.is (.int .u32 (e : Int)),
  By.is (.int .i64 z),
  By.is (arr8 K),
  By.is (.int .u32 (e : Int)),
  By.is (.int .u64 (n : Int)),
  By.is (arr8 N12),
  By.is (.slice A plain.length c),
  By.is (dp s e n (.slice none 0 0)).val,
  bsM AL,
  resB SL 0,
  resB SL 0,
  bsM SL,
  By.is (.int .i64 0),
  bsM SL,
  By.is (.int .i64 0)]
  (Ev.masks _ []) (by kernel_rfl) rfl Grew.refl Grew.trans ⟨?_, ?_, ?_, ?_, ?_, ?_, ?_, ?_, ?_, ?_, ?_, ?_, ?_, ?_, ?_, ?_, trivial⟩ ?_
 · intro a w ht hs hg
   have h6 := By.same_get hs 6 (by decide) (by kernel_rfl)
   refine By.yes rfl ?_
   clear hs hg
   have hr := l_k32 (Row.below (w := w1.drew) HK1.out ht HK1.out.lt) Hs.out
   refine wp_ld 24 _ rfl h6 hr ?_
   exact ⟨_, rfl, Grew.refl _, rfl⟩
 · intro a w ht hs hg
   have h3 := By.same_get hs 3 (by decide) (by kernel_rfl)
   refine By.yes rfl ?_
   clear hs hg
   go_simp
   exact ⟨_, rfl, Grew.refl _, rfl⟩
 · intro a w ht hs hg
   have h1 := By.same_get hs 1 (by decide) (by kernel_rfl)
   refine By.yes rfl ?_
   clear hs hg
   go_simp
   exact ⟨_, rfl, Grew.refl _, rfl⟩
 · intro a w ht hs hg
   have h30 : a.tmps.getD 30 undef = _ := By.given_get hg 0 rfl rfl (by kernel_rfl)
   have h31 : a.tmps.getD 31 undef = _ := By.given_get hg 1 rfl rfl (by kernel_rfl)
   have h32 : a.tmps.getD 32 undef = _ := By.given_get hg 2 rfl rfl (by kernel_rfl)
   refine By.yes rfl ?_
   clear hs hg
   have HTw := Lib.hid (HT1.out.below (grew_below ht) HT1.out.1)
   clear ht
   unfold arr8 at h30
   go_simp
   refine (Key_any sec Hs.out e He.out z w HTw.out).mono ?_
   rintro x w8 ⟨rfl, hb8⟩
   exact ⟨_, rfl, hb8, congrArg arr8 HKe.out⟩
 · intro a w ht hs hg
   have h3 := By.same_get hs 3 (by decide) (by kernel_rfl)
   refine By.yes rfl ?_
   clear hs hg
   go_simp
   exact ⟨_, rfl, Grew.refl _, rfl⟩
 · intro a w ht hs hg
   have h4 := By.same_get hs 4 (by decide) (by kernel_rfl)
   refine By.yes rfl ?_
   clear hs hg
   go_simp
   exact ⟨_, rfl, Grew.refl _, rfl⟩
 · intro a w ht hs hg
   have h34 : a.tmps.getD 34 undef = _ := By.given_get hg 4 rfl rfl (by kernel_rfl)
   have h35 : a.tmps.getD 35 undef = _ := By.given_get hg 5 rfl rfl (by kernel_rfl)
   refine By.yes rfl ?_
   clear hs hg
   clear ht
   go_simp
   refine (Lea.Nonce_any e n w).mono ?_
   rintro x w8 ⟨rfl, hb8⟩
   exact ⟨_, rfl, hb8, congrArg arr8 HNe.out⟩
 · intro a w ht hs hg
   have h5 := By.same_get hs 5 (by decide) (by kernel_rfl)
   refine By.yes rfl ?_
   clear hs hg
   go_simp
   exact ⟨_, rfl, Grew.refl _, rfl⟩
 · intro a w ht hs hg
   have h14 := By.same_get hs 14 (by decide) (by kernel_rfl)
   refine By.yes rfl ?_
   clear hs hg
   have hr := l_all (Row.below (w := w1.drew) HD1.out ht HD1.out.lt) HDo.out
   refine wp_ld 40 _ rfl h14 hr ?_
   exact ⟨_, rfl, Grew.refl _, rfl⟩
 · intro a w ht hs hg
   have h38 : a.tmps.getD 38 undef = _ := By.given_get hg 8 rfl rfl (by kernel_rfl)
   refine By.yes rfl ?_
   clear hs hg
   clear ht
   unfold Pk.val at h38
   go_simp
   refine (Along_any (dp s e n (.slice none 0 0)) HIn.out w).mono ?_
   rintro x w' ⟨v, rfl, hv, hb⟩
   exact ⟨_, rfl, hb, HAe.out ▸ hv.bs⟩
 · intro a w ht hs hg
   have h33 : a.tmps.getD 33 undef = _ := By.given_get hg 3 rfl rfl (by kernel_rfl)
   have h36 : a.tmps.getD 36 undef = _ := By.given_get hg 6 rfl rfl (by kernel_rfl)
   have h37 : a.tmps.getD 37 undef = _ := By.given_get hg 7 rfl rfl (by kernel_rfl)
   have h39 := By.given_get hg 9 rfl rfl (by kernel_rfl)
   refine By.yes rfl ?_
   obtain ⟨v39, hv39⟩ : ∃ v, a.tmps.getD 39 undef = v := ⟨_, rfl⟩
   replace h39 := (congrArg (fun v => ((bsM AL)).on v w) hv39).mp h39
   clear hs hg
   have HPw := Lib.hid (show Bs w w.heap.size (.slice A plain.length c) plain from (HV1.out.below (grew_below ht)).more ht.size)
   have HAw := Lib.hid h39
   obtain ⟨A9, c9, rfl, _, _⟩ := id HAw.out
   clear h39 ht
   unfold arr8 at h33 h36
   go_simp
   refine (Aead.Seal_ok K N12 plain AL _ _ HKl.out HNl.out w HPw.out HAw.out Hp.out (by have := HAl.out; omega)).mono ?_
   rintro x w8 ⟨v, rfl, ho, hb8⟩
   exact ⟨_, rfl, hb8, ⟨_, rfl, HSe.out ▸ ho.bs⟩⟩
 · intro a w ht hs hg
   have h40 := By.given_get hg 10 rfl rfl (by kernel_rfl)
   refine By.yes rfl ?_
   obtain ⟨v40, hv40⟩ : ∃ v, a.tmps.getD 40 undef = v := ⟨_, rfl⟩
   replace h40 := (congrArg (fun v => ((resB SL 0)).on v w) hv40).mp h40
   clear hs hg
   go_simp
   exact ⟨_, rfl, Grew.refl _, h40⟩
 · intro a w ht hs hg
   have h29 := By.given_get hg 11 rfl rfl (by kernel_rfl)
   refine By.yes rfl ?_
   obtain ⟨v29, hv29⟩ : ∃ v, a.tmps.getD 29 undef = v := ⟨_, rfl⟩
   replace h29 := (congrArg (fun v => ((resB SL 0)).on v w) hv29).mp h29
   clear hs hg
   obtain ⟨x, rfl, hx⟩ := h29
   have Hx := Lib.hid hx
   clear hx
   go_simp
   exact ⟨_, rfl, Grew.refl _, Hx.out⟩
 · intro a w ht hs hg
   have h29 := By.given_get hg 11 rfl rfl (by kernel_rfl)
   refine By.yes rfl ?_
   obtain ⟨v29, hv29⟩ : ∃ v, a.tmps.getD 29 undef = v := ⟨_, rfl⟩
   replace h29 := (congrArg (fun v => ((resB SL 0)).on v w) hv29).mp h29
   clear hs hg
   obtain ⟨x, rfl, hx⟩ := h29
   clear hx
   go_simp
   exact ⟨_, rfl, Grew.refl _, rfl⟩
 · intro a w ht hs hg
   have h41 := By.given_get hg 12 rfl rfl (by kernel_rfl)
   refine By.yes rfl ?_
   obtain ⟨v41, hv41⟩ : ∃ v, a.tmps.getD 41 undef = v := ⟨_, rfl⟩
   replace h41 := (congrArg (fun v => ((bsM SL)).on v w) hv41).mp h41
   clear hs hg
   have Hx := Lib.hid h41
   clear h41
   go_simp
   exact ⟨_, rfl, Grew.refl _, Hx.out⟩
 · intro a w ht hs hg
   have h42 : a.tmps.getD 42 undef = _ := By.given_get hg 13 rfl rfl (by kernel_rfl)
   refine By.yes rfl ?_
   clear hs hg
   go_simp
   exact ⟨_, rfl, Grew.refl _, rfl⟩
 refine By.ends_is (By.ends_is (By.ends_is (By.ends_is (By.ends_is (By.ends_is (By.ends_is (By.ends_is (By.ends_is (By.ends_skip fun v39 => (By.ends_skip fun v40 => (By.ends_skip fun v29 => (By.ends_skip fun v41 => (By.ends_is (By.ends_any fun v15 => (By.ends_is (By.ends_nil fun w2 hw2 => ?_))))))))))))))))
 simp only [Act.put, List.setIfInBounds_toArray, List.set_cons_succ, List.set_cons_zero]
 obtain ⟨hw, h15⟩ := hw2
 have hbw := grew_below hw
 have HB2 := Lib.hid (nextB HB1.out (Nat.le_refl _) hbw)
 have HO2 := Lib.hid (HO1.out.below hbw HO1.out.lt)
 have HD2 := Lib.hid (HD1.out.below hbw HD1.out.lt)
 have HS2 := Lib.hid (show Bs w2 w2.heap.size v15 SL from h15)
 obtain ⟨A5, c5, rfl, _, _⟩ := id HS2.out
 clear hw h15 hbw
 go_wp2_with fail
 refine (clone_far _ SL w2 HS2.out (by rw [HSl.out]; have := Hp.out; omega) (by intro h; have h2 := HSl.out; rw [h] at h2; simp at h2)).mono ?_
 rintro x w3 ⟨b6, R6, rfl, hge6, hbs, hb3⟩
 have HB3 := Lib.hid (nextB HB2.out (Nat.le_refl _) hb3)
 have HO3 := Lib.hid (HO2.out.below hb3 HO2.out.lt)
 have hd3 := HD2.out.below hb3 HD2.out.lt
 have HC3 := Lib.hid hbs
 have Hge6 := Lib.hid (show w.heap.size + 1 + 1 < b6 from Nat.lt_of_lt_of_le HD2.out.lt hge6)
 have c37 := c_bo hd3 HDo.out
 have f37 := frozen_row hd3 37
 have hset := hd3.set 37 (.slice (some ⟨b6, 0, none⟩) SL.length SL.length)
 rw [Pk.set_bo HDo.out] at hset
 have HoQ := Lib.hid (dp_ok s e n (b := .slice (some ⟨b6, 0, none⟩) SL.length SL.length) rfl)
 have HLq := Lib.hid (l_all (p := dp s e n (.slice (some ⟨b6, 0, none⟩) SL.length SL.length)) hset HoQ.out)
 have HOq := Lib.hid (HO3.out.other ⟨w.heap.size + 1 + 1, 37, none⟩ (.slice (some ⟨b6, 0, none⟩) SL.length SL.length) (by show w.heap.size + 1 ≠ w.heap.size + 1 + 1; omega))
 have HBq := Lib.hid (HB3.out.setCell (p := ⟨w.heap.size + 1 + 1, 37, none⟩) (by show w.heap.size ≤ w.heap.size + 1 + 1; omega) (.slice (some ⟨b6, 0, none⟩) SL.length SL.length))
 have HCq := Lib.hid (HC3.out.other ⟨w.heap.size + 1 + 1, 37, none⟩ (.slice (some ⟨b6, 0, none⟩) SL.length SL.length) (by have := Hge6.out; show b6 ≠ w.heap.size + 1 + 1; omega))
 clear hb3 hbs hd3 hset hge6
 go_wp2_with (first
  | (refine wpList_ld 40 rfl rfl HLq.out rfl ?_)
  | (show wpList _ _ _ (⟨none, Op.store 40 _ _, _, _, _, _⟩ :: _) _ _
     refine wpList_storeRow (g := w.heap.size + 1) rfl 40 _ _ rfl rfl rfl (cs := (dp s e n (.slice (some ⟨b6, 0, none⟩) SL.length SL.length)).cells) HOq.out (by kernel_rfl) (Pk.length HoQ.out) (Pk.length (nm_ok 0)) (Pk.one HoQ.out) ?_)
  | fail)
 refine bodyPost_ret (results_ct rfl rfl (HOq.out.setRow (dp s e n (.slice (some ⟨b6, 0, none⟩) SL.length SL.length)).cells) Tryd.underlying40 rfl (by kernel_rfl) (Pk.length HoQ.out)) rfl ?_
 refine ⟨⟨b6, R6, by rw [← HSl.out]; rfl, by have := Hge6.out; omega, ?_⟩, below_setRow HBq.out (by omega) _⟩
 exact HCq.out.setOther _ _ (by have := Hge6.out; omega)
end Go.Proofs.YtgmmjnedgaeefaaDoor.Pkt
namespace Go.Proofs.YtgmmjnedgaeefaaDoor.Pkt
open Go.RowKit
open Shk (bsM wp_ld wp_conv grew_below sstop SStop)
def tagOf (sec : List UInt8) (z : Int) (p : Pk) (c : List UInt8) : List UInt8 := Aead.tag (pkey sec p.epo z) (Lea.nonce p.epo p.cnt) c (alongL p)
def plainOf (sec : List UInt8) (z : Int) (p : Pk) (c : List UInt8) : List UInt8 := Cha.xor (pkey sec p.epo z) 1#32 (Lea.nonce p.epo p.cnt) c
def OpenR (w : World) (c t x : List UInt8) (tg : List UInt8) (e : Value) : Prop := if t = tg then ∃ v, e = .tuple #[v, .int .i64 0] ∧ Bs w w.heap.size v x else e = .tuple #[.slice none 0 0, .int .i64 12]
def openM (c t x tg : List UInt8) : By.Mark Grew := ⟨fun v w => OpenR w c t x tg v, fun v a b h k => by
 unfold OpenR at h ⊢
 split at h
 · rename_i ht
   rw [if_pos ht]
   obtain ⟨u, h1, h2⟩ := h
   exact ⟨u, h1, (h2.below k).more k.size⟩
 · rename_i ht
   rw [if_neg ht]
   exact h⟩
def OpB (w : World) (t x tg : List UInt8) (v : Value) : Prop := if t = tg then Bs w w.heap.size v x else v = .slice none 0 0
def opbM (t x tg : List UInt8) : By.Mark Grew := ⟨fun v w => OpB w t x tg v, fun v a b h k => by
 unfold OpB at h ⊢
 split at h
 · rename_i ht
   rw [if_pos ht]
   exact (h.below k).more k.size
 · rename_i ht
   rw [if_neg ht]
   exact h⟩
def opE (t tg : List UInt8) : Int := if t = tg then 0 else 12
def cOf (m : List UInt8) : List UInt8 := m.take (m.length - 16)
def tOf (m : List UInt8) : List UInt8 := m.drop (m.length - 16)
def OpenPost (sec : List UInt8) (z : Int) (p : Pk) (m : List UInt8) (w : World) (x : Ending) : Prop :=
 if chk p m.length = 0 ∧ p.kind = 3 then ∃ v, x = .returned v ∧ OpenR w (cOf m) (tOf m) (plainOf sec z p (cOf m)) (tagOf sec z p (cOf m)) v else x = .returned (.tuple #[.slice none 0 0, .int .i64 2])
set_option maxRecDepth 100000 in
set_option maxHeartbeats 2000000 in
theorem Open_any (sec : List UInt8) (hs : sec.length = 32) (z : Int) (p : Pk) (hi : p.In) (A : Option Addr) (m : List UInt8) (c0 : Nat) (hb : p.bo = .slice A m.length c0) (w : World) (ht : Tab w) (hm : Bs w w.heap.size p.bo m) :
 Calls Tryd.prog 22 #[arr8 sec, .int .i64 z, p.val] w fun x w' => OpenPost sec z p m w' x ∧ Below w.heap.size w w' := by
 obtain ⟨n, hn⟩ : ∃ n, m.length = n := ⟨_, rfl⟩
 rw [hn] at hb
 have Hbo := Lib.hid hb
 have HIn := Lib.hid hi
 have Hs := Lib.hid hs
 have Ht := Lib.hid ht
 have Hm := Lib.hid (hb ▸ hm)
 have HB0 := Lib.hid (show Below w.heap.size w ((w.alloc (.cells (sec.map bv).toArray 24)).alloc (.cells p.cells.toArray 40)) from ((Below.refl _ w).alloc (Nat.le_refl _) _).alloc (by simp) _)
 have HK := Lib.hid (show Row ((w.alloc (.cells (sec.map bv).toArray 24)).alloc (.cells p.cells.toArray 40)) w.heap.size (sec.map bv) 24 from (Row.new rfl rfl).alloc _)
 have HP := Lib.hid (show Row ((w.alloc (.cells (sec.map bv).toArray 24)).alloc (.cells p.cells.toArray 40)) (w.heap.size + 1) p.cells 40 from Row.new (by simp) rfl)
 have hld := l_all HP.out hi.ok
 unfold Pk.val at hld
 have HLd := Lib.hid hld
 have Hn := Lib.hid hn
 clear hb hi hs ht hm hld hn
 unfold arr8 Pk.val
 go_enter Tryd.func22, Tryd.ntmps22
 go_wp2_with (first
  | (refine wpList_ld 40 rfl rfl HLd.out rfl ?_)
  | fail)
 refine (Check_any p HIn.out.ok A n c0 Hbo.out _).mono ?_
 rintro x w1 ⟨rfl, hb1⟩
 have HB1 := Lib.hid (nextB HB0.out (Nat.le_refl _) hb1)
 have HK1 := Lib.hid (HK.out.below hb1 HK.out.lt)
 have HP1 := Lib.hid (HP.out.below hb1 HP.out.lt)
 have HT1 := Lib.hid (Ht.out.below HB1.out Ht.out.1)
 have HM1 := Lib.hid ((Hm.out.below HB1.out).more HB1.out.size)
 have ck := c_kind HP1.out
 clear hb1
 by_cases h : Head p ∧ BodyOk p n
 · have hc : chk p n = 0 := if_pos h
   rw [hc]
   by_cases h3 : p.kind = 3
   · rw [h3] at ck
     have hbk := h.2
     unfold BodyOk at hbk
     rw [if_pos h3] at hbk
     have Hif := Lib.hid (show chk p n = 0 ∧ p.kind = 3 from ⟨hc, h3⟩)
     obtain ⟨ci, hci⟩ : ∃ ci, cOf m = ci := ⟨_, rfl⟩
     obtain ⟨tg, htg⟩ : ∃ tg, tOf m = tg := ⟨_, rfl⟩
     have hmt : ci ++ tg = m := by rw [← hci, ← htg, cOf, tOf, List.take_append_drop]
     have Htl := Lib.hid (show tg.length = 16 by rw [← htg, tOf, List.length_drop]; have := Hn.out; omega)
     have Hcl := Lib.hid (show ci.length ≤ 65536 by rw [← hci, cOf, List.length_take]; have := Hn.out; omega)
     have HV1 := Lib.hid (show Bs w1 w1.heap.size (.slice A n c0) (ci ++ tg) by rw [hmt]; exact HM1.out)
     obtain ⟨K, hK⟩ : ∃ K, pkey sec p.epo z = K := ⟨_, rfl⟩
     obtain ⟨N12, hN⟩ : ∃ N, Lea.nonce p.epo p.cnt = N := ⟨_, rfl⟩
     obtain ⟨AL, hAL⟩ : ∃ N, alongL p = N := ⟨_, rfl⟩
     obtain ⟨TG, hTG⟩ : ∃ N, tagOf sec z p ci = N := ⟨_, rfl⟩
     obtain ⟨X, hX⟩ : ∃ N, plainOf sec z p ci = N := ⟨_, rfl⟩
     have HKe := Lib.hid hK
     have HNe := Lib.hid hN
     have HAe := Lib.hid hAL
     have HTG := Lib.hid (show Aead.tag K N12 ci AL = TG by rw [← hK, ← hN, ← hAL, ← hTG]; rfl)
     have HXe := Lib.hid (show Cha.xor K 1#32 N12 ci = X by rw [← hK, ← hN, ← hX]; rfl)
     have HKl := Lib.hid (show K.length = 32 by rw [← hK]; exact pkey_length _ _ _)
     have HNl := Lib.hid (show N12.length = 12 by rw [← hN]; exact Lea.nonce_length _ _)
     have HAl := Lib.hid (show AL.length ≤ 60 by rw [← hAL]; exact along_len _ HIn.out)
     have Hci := Lib.hid hci
     have Htg := Lib.hid htg
     have HTg := Lib.hid hTG
     have HXx := Lib.hid hX
     clear h hc h3 hbk hci htg hmt hK hN hAL hTG hX
     go_wp2_with fail
     refine By.marks Pol.mixed Grew [By.is (arr8 sec),
      By.is (.pointer (some ⟨(w.heap.size + 1), 3, none⟩)),
      By.is (.int .u32 (p.epo : Int)),
      By.is (.int .i64 z),
      By.is (arr8 K),
      By.is (.pointer (some ⟨(w.heap.size + 1), 3, none⟩)),
      By.is (.int .u32 (p.epo : Int)),
      By.is (.pointer (some ⟨(w.heap.size + 1), 4, none⟩)),
      By.is (.int .u64 (p.cnt : Int)),
      By.is (arr8 N12),
      By.is (.pointer (some ⟨(w.heap.size + 1), 37, none⟩)),
      By.is (.slice A n c0),
      By.is p.val,
      bsM AL,
      openM ci tg X TG,
      opbM tg X TG,
      By.is (.int .i64 (opE tg TG)),
      opbM tg X TG,
      By.is (.int .i64 (opE tg TG))]
      (Ev.masks _ []) (by kernel_rfl) rfl Grew.refl Grew.trans ⟨?_, ?_, ?_, ?_, ?_, ?_, ?_, ?_, ?_, ?_, ?_, ?_, ?_, ?_, ?_, ?_, ?_, ?_, ?_, trivial⟩ ?_
     · intro a w ht hs hg
       have h3 := By.same_get hs 3 (by decide) (by kernel_rfl)
       refine By.yes rfl ?_
       clear hs hg
       have hr := l_k32 (Row.below (w := w1.drew) HK1.out ht HK1.out.lt) Hs.out
       refine wp_ld 24 _ rfl h3 hr ?_
       exact ⟨_, rfl, Grew.refl _, rfl⟩
     · intro a w ht hs hg
       have h5 := By.same_get hs 5 (by decide) (by kernel_rfl)
       refine By.yes rfl ?_
       clear hs hg
       go_simp
       exact ⟨_, rfl, Grew.refl _, rfl⟩
     · intro a w ht hs hg
       have h18 : a.tmps.getD 18 undef = _ := By.given_get hg 1 rfl rfl (by kernel_rfl)
       refine By.yes rfl ?_
       clear hs hg
       have hc := c_epo (Row.below (w := w1.drew) HP1.out ht HP1.out.lt)
       clear ht
       go_simp
       exact ⟨_, rfl, Grew.refl _, rfl⟩
     · intro a w ht hs hg
       have h1 := By.same_get hs 1 (by decide) (by kernel_rfl)
       refine By.yes rfl ?_
       clear hs hg
       go_simp
       exact ⟨_, rfl, Grew.refl _, rfl⟩
     · intro a w ht hs hg
       have h17 : a.tmps.getD 17 undef = _ := By.given_get hg 0 rfl rfl (by kernel_rfl)
       have h19 : a.tmps.getD 19 undef = _ := By.given_get hg 2 rfl rfl (by kernel_rfl)
       have h20 : a.tmps.getD 20 undef = _ := By.given_get hg 3 rfl rfl (by kernel_rfl)
       refine By.yes rfl ?_
       clear hs hg
       have HTw := Lib.hid (HT1.out.below (grew_below ht) HT1.out.1)
       clear ht
       unfold arr8 at h17
       go_simp
       refine (Key_any sec Hs.out p.epo HIn.out.e z w HTw.out).mono ?_
       rintro x w8 ⟨rfl, hb8⟩
       exact ⟨_, rfl, hb8, congrArg arr8 HKe.out⟩
     · intro a w ht hs hg
       have h5 := By.same_get hs 5 (by decide) (by kernel_rfl)
       refine By.yes rfl ?_
       clear hs hg
       go_simp
       exact ⟨_, rfl, Grew.refl _, rfl⟩
     · intro a w ht hs hg
       have h22 : a.tmps.getD 22 undef = _ := By.given_get hg 5 rfl rfl (by kernel_rfl)
       refine By.yes rfl ?_
       clear hs hg
       have hc := c_epo (Row.below (w := w1.drew) HP1.out ht HP1.out.lt)
       clear ht
       go_simp
       exact ⟨_, rfl, Grew.refl _, rfl⟩
     · intro a w ht hs hg
       have h5 := By.same_get hs 5 (by decide) (by kernel_rfl)
       refine By.yes rfl ?_
       clear hs hg
       go_simp
       exact ⟨_, rfl, Grew.refl _, rfl⟩
     · intro a w ht hs hg
       have h24 : a.tmps.getD 24 undef = _ := By.given_get hg 7 rfl rfl (by kernel_rfl)
       refine By.yes rfl ?_
       clear hs hg
       have hc := c_cnt (Row.below (w := w1.drew) HP1.out ht HP1.out.lt)
       clear ht
       go_simp
       exact ⟨_, rfl, Grew.refl _, rfl⟩
     · intro a w ht hs hg
       have h23 : a.tmps.getD 23 undef = _ := By.given_get hg 6 rfl rfl (by kernel_rfl)
       have h25 : a.tmps.getD 25 undef = _ := By.given_get hg 8 rfl rfl (by kernel_rfl)
       refine By.yes rfl ?_
       clear hs hg
       clear ht
       go_simp
       refine (Lea.Nonce_any p.epo p.cnt w).mono ?_
       rintro x w8 ⟨rfl, hb8⟩
       exact ⟨_, rfl, hb8, congrArg arr8 HNe.out⟩
     · intro a w ht hs hg
       have h5 := By.same_get hs 5 (by decide) (by kernel_rfl)
       refine By.yes rfl ?_
       clear hs hg
       go_simp
       exact ⟨_, rfl, Grew.refl _, rfl⟩
     · intro a w ht hs hg
       have h27 : a.tmps.getD 27 undef = _ := By.given_get hg 10 rfl rfl (by kernel_rfl)
       refine By.yes rfl ?_
       clear hs hg
       have hc := c_bo (Row.below (w := w1.drew) HP1.out ht HP1.out.lt) HIn.out.ok
       rw [Hbo.out] at hc
       clear ht
       go_simp
       exact ⟨_, rfl, Grew.refl _, rfl⟩
     · intro a w ht hs hg
       have h5 := By.same_get hs 5 (by decide) (by kernel_rfl)
       refine By.yes rfl ?_
       clear hs hg
       have hr := l_all (Row.below (w := w1.drew) HP1.out ht HP1.out.lt) HIn.out.ok
       refine wp_ld 40 _ rfl h5 hr ?_
       exact ⟨_, rfl, Grew.refl _, rfl⟩
     · intro a w ht hs hg
       have h29 : a.tmps.getD 29 undef = _ := By.given_get hg 12 rfl rfl (by kernel_rfl)
       refine By.yes rfl ?_
       clear hs hg
       clear ht
       unfold Pk.val at h29
       go_simp
       refine (Along_any p HIn.out w).mono ?_
       rintro x w' ⟨v, rfl, hv, hb⟩
       exact ⟨_, rfl, hb, HAe.out ▸ hv.bs⟩
     · intro a w ht hs hg
       have h21 : a.tmps.getD 21 undef = _ := By.given_get hg 4 rfl rfl (by kernel_rfl)
       have h26 : a.tmps.getD 26 undef = _ := By.given_get hg 9 rfl rfl (by kernel_rfl)
       have h28 : a.tmps.getD 28 undef = _ := By.given_get hg 11 rfl rfl (by kernel_rfl)
       have h30 := By.given_get hg 13 rfl rfl (by kernel_rfl)
       refine By.yes rfl ?_
       obtain ⟨v30, hv30⟩ : ∃ v, a.tmps.getD 30 undef = v := ⟨_, rfl⟩
       replace h30 := (congrArg (fun v => ((bsM AL)).on v w) hv30).mp h30
       clear hs hg
       have HPw := Lib.hid (show Bs w w.heap.size (.slice A n c0) (ci ++ tg) from (HV1.out.below (grew_below ht)).more ht.size)
       have HAw := Lib.hid h30
       obtain ⟨A9, c9, rfl, _, _⟩ := id HAw.out
       clear h30 ht
       unfold arr8 at h21 h26
       go_simp
       refine (Aead.Open_ok K N12 ci tg AL _ _ HKl.out HNl.out Htl.out w HPw.out HAw.out Hcl.out (by have := HAl.out; omega)).mono ?_
       rintro x w8 ⟨hx, hb8⟩
       rw [show Aead.tag K N12 ci AL = TG from HTG.out, show Cha.xor K 1#32 N12 ci = X from HXe.out] at hx
       by_cases h : tg = TG
       · rw [if_pos h] at hx
         obtain ⟨v, rfl, ho⟩ := hx
         exact ⟨_, rfl, hb8, by show OpenR w8 ci tg X TG _; unfold OpenR; rw [if_pos h]; exact ⟨v, rfl, ho.bs⟩⟩
       · rw [if_neg h] at hx
         subst hx
         exact ⟨_, rfl, hb8, by show OpenR w8 ci tg X TG _; unfold OpenR; rw [if_neg h]⟩
     · intro a w ht hs hg
       have h31 := By.given_get hg 14 rfl rfl (by kernel_rfl)
       refine By.yes rfl ?_
       obtain ⟨v31, hv31⟩ : ∃ v, a.tmps.getD 31 undef = v := ⟨_, rfl⟩
       replace h31 := (congrArg (fun v => ((openM ci tg X TG)).on v w) hv31).mp h31
       clear hs hg
       have h31' : OpenR w ci tg X TG v31 := h31
       clear h31 ht
       unfold OpenR at h31'
       by_cases h : tg = TG
       · rw [if_pos h] at h31'
         obtain ⟨x, rfl, hx⟩ := h31'
         have Hx := Lib.hid hx
         have Hh := Lib.hid h
         clear hx h
         go_simp
         exact ⟨_, rfl, Grew.refl _, by show OpB _ _ _ _ _; unfold OpB; rw [if_pos Hh.out]; exact Hx.out⟩
       · rw [if_neg h] at h31'
         subst h31'
         have Hh := Lib.hid h
         clear h
         go_simp
         exact ⟨_, rfl, Grew.refl _, by show OpB _ _ _ _ _; unfold OpB; rw [if_neg Hh.out]⟩
     · intro a w ht hs hg
       have h31 := By.given_get hg 14 rfl rfl (by kernel_rfl)
       refine By.yes rfl ?_
       obtain ⟨v31, hv31⟩ : ∃ v, a.tmps.getD 31 undef = v := ⟨_, rfl⟩
       replace h31 := (congrArg (fun v => ((openM ci tg X TG)).on v w) hv31).mp h31
       clear hs hg
       have h31' : OpenR w ci tg X TG v31 := h31
       clear h31 ht
       unfold OpenR at h31'
       by_cases h : tg = TG
       · rw [if_pos h] at h31'
         obtain ⟨x, rfl, hx⟩ := h31'
         have Hh := Lib.hid h
         clear hx h
         go_simp
         exact ⟨_, rfl, Grew.refl _, congrArg (Value.int .i64) (by unfold opE; rw [if_pos Hh.out])⟩
       · rw [if_neg h] at h31'
         subst h31'
         have Hh := Lib.hid h
         clear h
         go_simp
         exact ⟨_, rfl, Grew.refl _, congrArg (Value.int .i64) (by unfold opE; rw [if_neg Hh.out])⟩
     · intro a w ht hs hg
       have h32 := By.given_get hg 15 rfl rfl (by kernel_rfl)
       refine By.yes rfl ?_
       obtain ⟨v32, hv32⟩ : ∃ v, a.tmps.getD 32 undef = v := ⟨_, rfl⟩
       replace h32 := (congrArg (fun v => ((opbM tg X TG)).on v w) hv32).mp h32
       clear hs hg
       have Hx := Lib.hid h32
       clear h32
       go_simp
       exact ⟨_, rfl, Grew.refl _, Hx.out⟩
     · intro a w ht hs hg
       have h33 : a.tmps.getD 33 undef = _ := By.given_get hg 16 rfl rfl (by kernel_rfl)
       refine By.yes rfl ?_
       clear hs hg
       go_simp
       exact ⟨_, rfl, Grew.refl _, rfl⟩
     refine By.ends_is (By.ends_is (By.ends_is (By.ends_is (By.ends_is (By.ends_is (By.ends_is (By.ends_is (By.ends_is (By.ends_is (By.ends_is (By.ends_is (By.ends_is (By.ends_skip fun v30 => (By.ends_skip fun v31 => (By.ends_skip fun v32 => (By.ends_is (By.ends_any fun v6 => (By.ends_is (By.ends_nil fun w2 hw2 => ?_)))))))))))))))))))
     simp only [Act.put, List.setIfInBounds_toArray, List.set_cons_succ, List.set_cons_zero]
     obtain ⟨hw, h6⟩ := hw2
     have HB2 := Lib.hid (nextB HB1.out (Nat.le_refl _) (grew_below hw))
     have H6 := Lib.hid (show OpB w2 tg X TG v6 from h6)
     clear hw h6
     go_wp2
     go_ret2
     refine ⟨?_, HB2.out⟩
     unfold OpenPost
     rw [Hn.out, if_pos Hif.out, Hci.out, Htg.out, HTg.out, HXx.out]
     refine ⟨_, rfl, ?_⟩
     have h6 := H6.out
     unfold OpB at h6
     show OpenR _ _ _ _ _ (.tuple #[v6, .int .i64 (opE tg TG)])
     unfold OpenR opE
     by_cases h : tg = TG
     · rw [if_pos h] at h6 ⊢
       rw [if_pos h]
       exact ⟨_, rfl, h6⟩
     · rw [if_neg h] at h6 ⊢
       rw [if_neg h, h6]
   · have hkk : (p.kind != 3) = true := by simp [h3]
     have Hif := Lib.hid (show ¬ (chk p n = 0 ∧ p.kind = 3) from fun k => h3 k.2)
     clear h hc h3
     go_wp2
     go_ret2
     exact ⟨by unfold OpenPost; rw [Hn.out, if_neg Hif.out]; rfl, HB1.out⟩
 · have hc : chk p n = 2 := if_neg h
   rw [hc]
   have Hif := Lib.hid (show ¬ (chk p n = 0 ∧ p.kind = 3) from fun k => by rw [hc] at k; exact absurd k.1 (by decide))
   clear h hc
   go_wp2
   go_ret2
   exact ⟨by unfold OpenPost; rw [Hn.out, if_neg Hif.out]; rfl, HB1.out⟩
end Go.Proofs.YtgmmjnedgaeefaaDoor.Pkt
namespace Go.Proofs.YtgmmjnedgaeefaaDoor.Pkt
open Go.RowKit
open Shk (sstop SStop)
theorem wpList_bd {P : Program} {ops : Array Oper} {rest : List Oper} {o : Oper} {a : Act} {w : World} {Q : Exit → Act → World → Prop} (t : TypeId) (parts : Array (Nat × Operand)) (ho : o.op = .build t parts) {v : Value}
 (hrun : (Instr.build t (parts.map fun (i, x) => (i, a.eval x))).run P w = .ok v w) (hw : Region.wanted o (yielded ops a.tmps) = true) (hk : wpList P ops Q rest (a.put o.dst v) w) : wpList P ops Q (o :: rest) a w :=
 BigFrame.wpList_want hw fun K hK => by
  unfold Oper.wp execOp
  simp only [ho, Sem.run_bind, Sem.run_pure, Result.andThen_ok, hrun]
  exact hK _ _ hk
theorem alongL_dp (s e n : Nat) (b c : Value) : alongL (dp s e n b) = alongL (dp s e n c) := by
 unfold alongL
 by_cases h : dataOk s e n
 · rw [if_pos ⟨rfl, (head_dp s e n b).2 h⟩, if_pos ⟨rfl, (head_dp s e n c).2 h⟩]
   rfl
 · rw [if_neg (fun k => h ((head_dp s e n b).1 k.2)), if_neg (fun k => h ((head_dp s e n c).1 k.2))]
theorem sealed_parts (sec : List UInt8) (z : Int) (s e n : Nat) (plain : List UInt8) (b : Value) :
 tOf (sealedL sec z s e n plain) = tagOf sec z (dp s e n b) (cOf (sealedL sec z s e n plain)) ∧ plainOf sec z (dp s e n b) (cOf (sealedL sec z s e n plain)) = plain := by
 have hl := sealedL_length sec z s e n plain
 have hC : cOf (sealedL sec z s e n plain) = Cha.xor (pkey sec e z) 1#32 (Lea.nonce e n) plain := by
  rw [cOf, hl, Nat.add_sub_cancel, sealedL, Aead.sealed, List.take_left' (Cha.xor_length _ _ _ _)]
 have hT : tOf (sealedL sec z s e n plain) = Aead.tag (pkey sec e z) (Lea.nonce e n) (Cha.xor (pkey sec e z) 1#32 (Lea.nonce e n) plain) (alongL (dp s e n (.slice none 0 0))) := by
  rw [tOf, hl, Nat.add_sub_cancel, sealedL, Aead.sealed, List.drop_left' (Cha.xor_length _ _ _ _)]
 refine ⟨?_, ?_⟩
 · rw [hT, hC, tagOf, alongL_dp s e n b (.slice none 0 0)]
   rfl
 · rw [hC, plainOf]
   exact Aead.xor_twice _ _ _ _
theorem chk_dp {s e n : Nat} (h : dataOk s e n) (b : Value) (m : Nat) (h1 : 16 ≤ m) (h2 : m ≤ 65552) : chk (dp s e n b) m = 0 := by
 refine if_pos ⟨(head_dp s e n b).2 h, ?_⟩
 unfold BodyOk
 rw [if_pos (show (dp s e n b).kind = 3 from rfl)]
 exact ⟨h1, h2⟩
theorem open_sealed {sec : List UInt8} {z : Int} {s e n : Nat} {plain : List UInt8} {b : Value} {w : World} {x : Ending} (h : OpenPost sec z (dp s e n b) (sealedL sec z s e n plain) w x) (hd : dataOk s e n) (hp : plain.length ≤ 65536) : ∃ v, x = .returned (.tuple #[v, .int .i64 0]) ∧ Bs w w.heap.size v plain := by
 have hl := sealedL_length sec z s e n plain
 obtain ⟨h1, h2⟩ := sealed_parts sec z s e n plain b
 unfold OpenPost at h
 rw [if_pos ⟨by rw [hl]; exact chk_dp hd b _ (by omega) (by omega), rfl⟩] at h
 obtain ⟨v, rfl, h3⟩ := h
 unfold OpenR at h3
 rw [if_pos h1, h2] at h3
 obtain ⟨u, rfl, h4⟩ := h3
 exact ⟨u, rfl, h4⟩
def hello5 : List UInt8 := [104, 101, 108, 108, 111]
def who5 : Pk := ⟨4, 0, 5, 0, 0, z16, z16, .slice none 0 0⟩
theorem who_ok : who5.Ok := ⟨rfl, rfl, rfl⟩
theorem who_in : who5.In := ⟨who_ok, by decide, by decide, by decide⟩
theorem who_chk : chk who5 0 = 0 := by
 refine if_pos ⟨?_, ?_⟩
 · unfold Head who5; simp
 · unfold BodyOk who5; simp
theorem who_wire : wire who5 [] = [1, 4, 1, 5] := by decide
def b1 : List UInt8 := 1 :: List.replicate 31 0
set_option maxRecDepth 100000 in
set_option maxHeartbeats 4000000 in
theorem lives_any (w : World) (ht : Tab w) : Calls Tryd.prog 15 #[] w fun e w' => e = .returned (.bool true) ∧ Below w.heap.size w w' := by
 have HB0 := Lib.hid (Below.refl w.heap.size w)
 have HT0 := Lib.hid ht
 obtain ⟨K, hK⟩ : ∃ K, b1 = K := ⟨_, rfl⟩
 have HKe := Lib.hid hK
 have HKl := Lib.hid (show K.length = 32 by rw [← hK]; rfl)
 obtain ⟨Y, hY⟩ : ∃ Y, who5 = Y := ⟨_, rfl⟩
 have HYe := Lib.hid hY
 have HBy := Lib.hid (show Calls Tryd.prog 18 #[Y.val] w fun e w' => ∃ v, e = .returned (.tuple #[v, .int .i64 0]) ∧ Bs w' w'.heap.size v [1, 4, 1, 5] ∧ Below w.heap.size w w' by
  rw [← hY]
  refine (Bytes_any who5 who_in none 0 [] rfl w (Bs_nil _ _)).mono ?_
  rintro e w' ⟨⟨v, rfl, h1, _⟩, hb⟩
  rw [show ([] : List UInt8).length = 0 from rfl, who_chk] at *
  exact ⟨v, rfl, who_wire ▸ (h1 rfl).bs, hb⟩)
 clear ht hK hY
 go_enter Tryd.func15, Tryd.ntmps15
 go_wp2_with (first
  | (show wpList _ _ _ (⟨some 8, _, _, _, _, _⟩ :: _) _ _; refine wpList_bd _ _ rfl (v := Y.val) (by rw [← HYe.out]; kernel_rfl) rfl ?_)
  | fail)
 refine HBy.out.mono ?_
 rintro e w1 ⟨v1, rfl, hv1, hb⟩
 have HV1 := Lib.hid hv1
 obtain ⟨A1, c1, rfl, _, _⟩ := id hv1
 clear hv1
 have HB1 := Lib.hid (nextB HB0.out (Nat.le_refl _) hb)
 have HT1 := Lib.hid (HT0.out.below hb HT0.out.1)
 clear hb
 obtain ⟨m, hconv⟩ := Hk.conv_lit w1 hello5 5 rfl (by omega)
 obtain ⟨WF, hWF⟩ : ∃ WF, (w1.alloc (.cells (hello5.map bv).toArray 5)).freeze ⟨w1.heap.size, m, none⟩ 1 = WF := ⟨_, rfl⟩
 rw [hWF] at hconv
 have hconv' : (convert 23 23 (.slice (some ⟨w1.heap.size, 0, none⟩) 5 5)).run Tryd.prog (w1.alloc (.cells #[.int .u8 104, .int .u8 101, .int .u8 108, .int .u8 108, .int .u8 111] 5)) = .ok (.slice (some ⟨w1.heap.size, 0, none⟩) 5 5) WF := hconv
 have hb : Below w1.heap.size w1 WF := hWF ▸ Hk.below_frozen ((Below.refl _ w1).alloc (Nat.le_refl _) _) (Nat.le_refl _) 1
 have HF := Lib.hid (show Bs WF WF.heap.size (.slice (some ⟨w1.heap.size, 0, none⟩) hello5.length 5) hello5 from by
  have h := Hk.bs_lit w1 hello5 5 m rfl
  rw [hWF] at h
  exact h.more (by rw [← hWF, Hk.size_freeze]; simp))
 clear hconv hWF
 have HB2 := Lib.hid (nextB HB1.out (Nat.le_refl _) hb)
 have HT2 := Lib.hid (HT1.out.below hb HT1.out.1)
 have HVF := Lib.hid ((HV1.out.below hb).more hb.size)
 clear hb
 go_wp2_with (first
  | (show wpList _ _ _ (⟨some 13, _, _, _, _, _⟩ :: _) _ _; refine wpList_bd _ _ rfl (v := arr8 K) (by rw [← HKe.out]; kernel_rfl) rfl ?_)
  | fail)
 refine (Seal_any K hello5 HKl.out 1 9 1 1 _ 5 (by decide) (by decide) (by decide) (by decide) WF HT2.out HF.out).mono ?_
 rintro e w2 ⟨⟨b, R, rfl, _, hrow⟩, hb⟩
 obtain ⟨SL, hSL⟩ : ∃ SL, sealedL K 1 9 1 1 hello5 = SL := ⟨_, rfl⟩
 have hSl : SL.length = 21 := by rw [← hSL, sealedL_length]; rfl
 rw [hSL] at hrow
 obtain ⟨P, hP⟩ : ∃ P, dp 9 1 1 (.slice (some ⟨b, 0, none⟩) 21 21) = P := ⟨_, rfl⟩
 rw [show hello5.length + 16 = 21 from rfl, hP]
 have HPe := Lib.hid hP
 have HSe := Lib.hid hSL
 have HPi := Lib.hid (show P.In by rw [← hP]; exact ⟨dp_ok 9 1 1 rfl, by show (9 : Nat) < 18446744073709551616; decide, by show (1 : Nat) < 4294967296; decide, by show (1 : Nat) < 18446744073709551616; decide⟩)
 have HPo := Lib.hid HPi.out.ok
 have HPb := Lib.hid (show P.bo = .slice (some ⟨b, 0, none⟩) SL.length 21 by rw [← hP, hSl]; rfl)
 have HSb := Lib.hid (show Bs w2 w2.heap.size (.slice (some ⟨b, 0, none⟩) 21 21) SL from bs_row hrow hSl)
 have HSl := Lib.hid hSl
 have HV2 := Lib.hid ((HVF.out.below hb).more hb.size)
 clear hrow hSL hSl hP
 have HB3 := Lib.hid (nextB HB2.out (Nat.le_refl _) hb)
 have HT3 := Lib.hid (HT2.out.below hb HT2.out.1)
 clear hb
 go_wp2_with (first
  | (show wpList _ _ _ (⟨none, Op.store 40 _ _, _, _, _, _⟩ :: _) _ _
     refine wpList_storeRow (g := w2.heap.size) rfl 40 _ _ rfl rfl rfl (cs := P.cells) (Row.new rfl rfl : Row (w2.alloc (.cells (nm 0).cells.toArray 40)) w2.heap.size (nm 0).cells 40) (by kernel_rfl) (Pk.length HPo.out) (Pk.length (nm_ok 0)) (Pk.one HPo.out) ?_
     refine wpList_name fun V hV => ?_
     refine sstop ?_)
  | fail)
 unfold SStop
 obtain ⟨W4, hV2⟩ : ∃ V2, V = V2 := ⟨V, rfl⟩
 rw [hV2] at hV ⊢
 clear hV2
 have hb : Below w2.heap.size w2 W4 := by rw [← hV]; exact (below_setRow ((Below.refl _ w2).alloc (Nat.le_refl _) _) (by omega) _)
 have HP4 := Lib.hid (show Row W4 w2.heap.size P.cells 40 by rw [← hV]; exact ((Row.new rfl rfl : Row (w2.alloc (.cells (nm 0).cells.toArray 40)) w2.heap.size (nm 0).cells 40).setRow _))
 have hbw := hb
 have HB5 := Lib.hid (nextB HB3.out (Nat.le_refl _) hb)
 have HT5 := Lib.hid (HT3.out.below hb HT3.out.1)
 clear hV hb
 have HV3 := Lib.hid ((HV2.out.below hbw).more hbw.size)
 have HS3 := Lib.hid ((HSb.out.below hbw).more hbw.size)
 clear hbw
 have HL6 := Lib.hid (l_all HP4.out HPo.out)
 go_wp2_with (first
  | (refine wpList_ld 40 rfl rfl HL6.out rfl ?_)
  | (show wpList _ _ _ (⟨some 20, _, _, _, _, _⟩ :: _) _ _; refine wpList_bd _ _ rfl (v := arr8 K) (by rw [← HKe.out]; kernel_rfl) rfl ?_)
  | fail)
 refine (Open_any K HKl.out 1 P HPi.out (some ⟨b, 0, none⟩) SL 21 HPb.out W4 HT5.out (by rw [HPb.out, HSl.out]; exact HS3.out)).mono ?_
 rintro e w9 ⟨hx, hb⟩
 rw [← HPe.out, ← HSe.out] at hx
 obtain ⟨u, rfl, hu⟩ := open_sealed hx (by decide) (by decide)
 have HU := Lib.hid hu
 obtain ⟨A2, c2, rfl, _, _⟩ := id hu
 have HV9 := Lib.hid ((HV3.out.below hb).more hb.size)
 clear hx hu
 have HB7 := Lib.hid (nextB HB5.out (Nat.le_refl _) hb)
 have HP7 := Lib.hid (HP4.out.below hb HP4.out.lt)
 have HT7 := Lib.hid (HT5.out.below hb HT5.out.1)
 clear hb
 have cx := Lib.hid (run_str w9 HV9.out)
 have cy := Lib.hid (run_str w9 HU.out)
 have hs1 : ∀ u v w, (eqGuard .eql 9 u v (strOf [1, 4, 1, 5]) (.string ⟨#[1, 4, 1, 5]⟩)).run Tryd.prog w = .ok () w := fun u v w => strg2 [1, 4, 1, 5] [1, 4, 1, 5] u v w
 have hs2 : ∀ w, (binOp .eql 9 (strOf [1, 4, 1, 5]) (.string ⟨#[1, 4, 1, 5]⟩)).run Tryd.prog w = .ok (.bool true) w := fun w => strv2 [1, 4, 1, 5] [1, 4, 1, 5] w
 have hs3 : ∀ u v w, (eqGuard .eql 9 u v (strOf hello5) (.string ⟨#[104, 101, 108, 108, 111]⟩)).run Tryd.prog w = .ok () w := fun u v w => strg2 hello5 hello5 u v w
 have hs4 : ∀ w, (binOp .eql 9 (strOf hello5) (.string ⟨#[104, 101, 108, 108, 111]⟩)).run Tryd.prog w = .ok (.bool true) w := fun w => strv2 hello5 hello5 w
 have c37 := c_bo HP7.out HPo.out
 rw [HPb.out, HSl.out] at c37
 go_wp2_with (first
  | (refine wpList_cv _ _ rfl rfl cx.out rfl ?_)
  | (refine wpList_cv _ _ rfl rfl cy.out rfl ?_)
  | fail)
 go_ret
 exact ⟨rfl, HB7.out⟩
end Go.Proofs.YtgmmjnedgaeefaaDoor.Pkt
