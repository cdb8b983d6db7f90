/- Texts that the proofs share: PktSeal, PktOpenO, PktOpenedO, SesBase, SesCheck, SesNew, SesSend, SesRec, SesGrant, SesLives, SesPut. -/
import Derived.Test.YtedmogacklbcmaaGreatDoorS12
import Derived.Test.YtedmogacklbcmaaGreatDoorS15
import Derived.Test.YtedmogacklbcmaaGreatDoorS26
import Derived.Test.YtedmogacklbcmaaGreatDoorS31
import Derived.Test.YtedmogacklbcmaaGreatDoorS32
import Derived.Test.YtedmogacklbcmaaGreatDoorS33
import Derived.Test.YtedmogacklbcmaaGreatDoorS34
import Derived.Test.YtedmogacklbcmaaGreatDoorS36
import Derived.Test.YtedmogacklbcmaaGreatDoorS38
import Derived.Test.YtedmogacklbcmaaGreatDoorS42
import Derived.Test.YtedmogacklbcmaaGreatDoorS43
import Derived.Test.YtedmogacklbcmaaGreatDoorS46
namespace Go.Proofs.YtedmogacklbcmaaGreatDoor.Pkt
open Go.RowKit
open Shk (bsM wp_ld wp_conv grew_below sstop SStop)
def dp (s e n : Nat) (b : Value) : Pk := ⟨3, 0, s, e, n, z16, z16, b⟩
def dataOk (s e n : Nat) : Prop := 1 ≤ s ∧ 1 ≤ e ∧ 1 ≤ n ∧ n ≤ 1152921504606846976
instance (s e n : Nat) : Decidable (dataOk s e n) := by unfold dataOk; infer_instance
theorem dp_ok (s e n : Nat) {b : Value} (hb : b.oneCell' = true) : (dp s e n b).Ok := ⟨rfl, rfl, hb⟩
theorem head_dp (s e n : Nat) (b : Value) : Head (dp s e n b) ↔ dataOk s e n := by
 unfold Head dp dataOk
 simp
theorem pkey_length (sec : List UInt8) (e : Nat) (z : Int) : (pkey sec e z).length = 32 := by
 rw [pkey, ← Hk.outN_end (Sha.mac [] sec) (data4 ++ tail5 e (par z)) 32 1 (by omega) (by omega)]
 exact Hk.outN_length _ _ _ _
theorem along_len (p : Pk) (hi : p.In) : (alongL p).length ≤ 60 := by
 unfold alongL
 split
 · rename_i h
   have l1 := enc_len p.kind.toNat (by rw [h.1]; decide)
   have l2 := enc_len p.ses hi.s
   have l3 := enc_len p.epo (by have := hi.e; omega)
   have l4 := enc_len p.cnt hi.c
   have l5 := enc_len 0 (by decide)
   simp [parts3]
   omega
 · simp
def sealedL (sec : List UInt8) (z : Int) (s e n : Nat) (plain : List UInt8) : List UInt8 := Aead.sealed (pkey sec e z) (Lea.nonce e n) plain (alongL (dp s e n (.slice none 0 0)))
theorem sealedL_length (sec : List UInt8) (z : Int) (s e n : Nat) (plain : List UInt8) : (sealedL sec z s e n plain).length = plain.length + 16 := Aead.sealed_length _ _ _ _
def resB (l : List UInt8) (g : Int) : By.Mark Grew := ⟨fun v w => ∃ x, v = .tuple #[x, .int .i64 g] ∧ Bs w w.heap.size x l, fun _ _ _ ⟨x, h1, h2⟩ k => ⟨x, h1, (h2.below k).more k.size⟩⟩
set_option maxRecDepth 100000 in
set_option maxHeartbeats 2000000 in
theorem clone_far (v : Value) (l : List UInt8) (w : World) (hb : Bs w w.heap.size v l) (hl : l.length ≤ 1000000) (hne : l ≠ []) : Calls Tryz.prog 50 #[v] w fun e w' => ∃ b R, e = .returned (.slice (some ⟨b, 0, none⟩) l.length l.length) ∧ w.heap.size ≤ b ∧ Row w' b (l.map bv ++ R) 5 ∧ Below w.heap.size w w' := by
 have Hb := Lib.hid hb
 have Hl := Lib.hid hl
 obtain ⟨A, c, rfl, _, _⟩ := id hb
 clear hb
 go_enter Tryz.func50, Tryz.ntmps50
 go_wp2_with (first
  | (at_builtin; refine wpList_app_bytes _ rfl _ _ rfl rfl (Own.nil w w.heap.size) rfl Hb.out (by have := Hl.out; simp; omega) (Nat.le_refl _) ?_
     intro v2 w2 ho2 hg2 _
     refine sstop ?_)
  | fail)
 unfold SStop
 rw [List.nil_append] at ho2
 have HB2 := Lib.hid ((Below.refl w.heap.size w).grown hg2 (Nat.le_refl _) (fun k hk => by cases hk))
 obtain ⟨b, c2, R, rfl, hc2, hge, hrow⟩ : ∃ b c2 R, v2 = .slice (some ⟨b, 0, none⟩) l.length c2 ∧ l.length ≤ c2 ∧ w.heap.size ≤ b ∧ Row w2 b (l.map bv ++ R) 5 := by
  rcases ho2.2 with ⟨_, h2⟩ | ⟨g, cap, cur, e, hg, hgg, k1, _, _, k4⟩
  · exact absurd (List.eq_nil_of_length_eq_zero h2) hne
  · refine ⟨g, cap, cur.toList.drop l.length, e, k1, hg, ?_⟩
    have h5 : l.map bv ++ cur.toList.drop l.length = cur.toList := by
     rw [← k4, Nat.mul_one, List.take_append_drop]
    unfold Row
    rw [h5, hgg]
 have HC := Lib.hid hrow
 have Hge := Lib.hid hge
 have hcc : (l.length : Int) ≤ (c2 : Int) := by omega
 clear ho2 hg2 hc2 hl hge hrow hne
 go_wp2
 all_goals go_ret
 all_goals exact ⟨_, _, rfl, Hge.out, HC.out, HB2.out⟩
theorem wpList_build {P : Program} {w : World} {ops : Array Oper} {rest : List Oper} {o : Oper} {a : Act} {Q : Exit → Act → World → Prop} (hgd : o.guard = none) (t : TypeId) (parts : Array (Nat × Operand)) (ho : o.op = .build t parts) {v : Value}
 (hrun : (Instr.build t (parts.map fun (i, x) => (i, a.eval x))).run P w = .ok v w) (hk : wpList P ops Q rest (a.put o.dst v) w) : wpList P ops Q (o :: rest) a w := by
 refine wpList_plain hgd fun K hK => ?_
 unfold Oper.wp execOp
 simp only [ho, Sem.run_bind, Sem.run_pure, Result.andThen_ok, hrun]
 exact hK _ _ hk
theorem l_k32 {w : World} {g : Nat} {key : List UInt8} (h : Row w g (key.map bv) 23) (hk : key.length = 32) : (loadVar 23 ⟨g, 0, none⟩).run Tryz.prog w = .ok (arr8 key) w := by
 rw [Pol.run_loadVar_sub (off := 0) (n := 32) w h Tryz.underlying23 rfl (by kernel_rfl) (by rw [List.length_map]; omega), List.drop_zero, List.take_of_length_le (by rw [List.length_map]; omega)]
 rfl
set_option maxRecDepth 100000 in
set_option maxHeartbeats 2000000 in
theorem Seal_any (sec plain : List UInt8) (hs : sec.length = 32) (z : Int) (s e n : Nat) (A : Option Addr) (c : Nat) (hp : plain.length ≤ 65536) (hd : dataOk s e n) (hsb : s < 18446744073709551616) (heb : e < 4294967296) (w : World) (ht : Tab w) (hv : Bs w w.heap.size (.slice A plain.length c) plain) : Calls Tryz.prog 29 #[arr8 sec, .int .i64 z, .int .u64 (s : Int), .int .u32 (e : Int), .int .u64 (n : Int), .slice A plain.length c] w fun x w' => (∃ b R, x = .returned (.tuple #[(dp s e n (.slice (some ⟨b, 0, none⟩) (plain.length + 16) (plain.length + 16))).val, .int .i64 0]) ∧ w.heap.size ≤ b ∧ Row w' b ((sealedL sec z s e n plain).map bv ++ R) 5) ∧ Below w.heap.size w w' := by
 have Ht := Lib.hid ht
 have Hv := Lib.hid hv
 have He := Lib.hid heb
 have hin : (dp s e n (.slice none 0 0)).In := ⟨dp_ok s e n rfl, hsb, heb, by have := hd.2.2.2; show n < 18446744073709551616; omega⟩
 have HIn := Lib.hid hin
 obtain ⟨K, hK⟩ : ∃ K, pkey sec e z = K := ⟨_, rfl⟩
 obtain ⟨N12, hN⟩ : ∃ N, Lea.nonce e n = N := ⟨_, rfl⟩
 obtain ⟨AL, hAL⟩ : ∃ N, alongL (dp s e n (.slice none 0 0)) = N := ⟨_, rfl⟩
 obtain ⟨SL, hSL⟩ : ∃ N, sealedL sec z s e n plain = N := ⟨_, rfl⟩
 have HKe := Lib.hid hK
 have HNe := Lib.hid hN
 have HAe := Lib.hid hAL
 have HSe := Lib.hid (show Aead.sealed K N12 plain AL = SL by rw [← hK, ← hN, ← hAL, ← hSL]; rfl)
 have HKl := Lib.hid (show K.length = 32 by rw [← hK]; exact pkey_length _ _ _)
 have HNl := Lib.hid (show N12.length = 12 by rw [← hN]; exact Lea.nonce_length _ _)
 have HAl := Lib.hid (show AL.length ≤ 60 by rw [← hAL]; exact along_len _ hin)
 have HSl := Lib.hid (show SL.length = plain.length + 16 by rw [← hSL]; exact sealedL_length _ _ _ _ _ _)
 rw [hSL]
 have Hhd := Lib.hid ((head_dp s e n (.slice none 0 0)).2 hd)
 clear ht hv heb hsb hin hK hN hAL hSL hd
 have HB0 := Lib.hid (show Below w.heap.size w ((w.alloc (.cells (sec.map bv).toArray 23)).alloc (.cells (nm 0).cells.toArray 40)) from ((Below.refl _ w).alloc (Nat.le_refl _) _).alloc (by simp) _)
 have HK := Lib.hid (show Row ((w.alloc (.cells (sec.map bv).toArray 23)).alloc (.cells (nm 0).cells.toArray 40)) w.heap.size (sec.map bv) 23 from (Row.new rfl rfl).alloc _)
 have HO := Lib.hid (show Row ((w.alloc (.cells (sec.map bv).toArray 23)).alloc (.cells (nm 0).cells.toArray 40)) (w.heap.size + 1) (nm 0).cells 40 from Row.new (by simp) rfl)
 have hp' : ¬ (65536 : Int) < (plain.length : Int) := by omega
 have HDo := Lib.hid (dp_ok s e n (b := .slice none 0 0) rfl)
 have Hs := Lib.hid hs
 have Hp := Lib.hid hp
 clear hs hp
 unfold arr8
 go_enter Tryz.func29, Tryz.ntmps29
 go_wp2_with (first
  | (show wpList _ _ _ (⟨some 24, _, _, _, _, _⟩ :: _) _ _
     refine wpList_build rfl _ _ rfl (v := (dp s e n (.slice none 0 0)).val) (by kernel_rfl) ?_
     refine wpList_name fun W0 hW0 => ?_
     refine sstop ?_)
  | fail)
 unfold SStop
 have HK0 := Lib.hid (show Row W0 w.heap.size (sec.map bv) 23 from hW0 ▸ HK.out)
 have HO0 := Lib.hid (show Row W0 (w.heap.size + 1) (nm 0).cells 40 from hW0 ▸ HO.out)
 have HBW := Lib.hid (show Below w.heap.size w W0 from hW0 ▸ HB0.out)
 have hs0 : W0.heap.size = w.heap.size + 1 + 1 := by rw [← hW0]; simp
 have Hg := Lib.hid (show Row (W0.alloc (.cells (nm 0).cells.toArray 40)) (w.heap.size + 1 + 1) (nm 0).cells 40 from Row.new hs0 rfl)
 clear hW0
 go_wp2_with (first
  | (show wpList _ _ _ (⟨none, Op.store 40 _ _, _, _, _, _⟩ :: _) _ _
     refine wpList_storeRow (g := w.heap.size + 1 + 1) rfl 40 _ _ rfl rfl rfl (cs := (dp s e n (.slice none 0 0)).cells) Hg.out (by kernel_rfl) (Pk.length HDo.out) (Pk.length (nm_ok 0)) (Pk.one HDo.out) ?_
     refine wpList_name fun V hV => ?_
     refine sstop ?_)
  | fail)
 unfold SStop
 have HKV := Lib.hid (show Row V w.heap.size (sec.map bv) 23 by rw [← hV]; exact (HK0.out.alloc _).setOther _ _ (by omega))
 have HOV := Lib.hid (show Row V (w.heap.size + 1) (nm 0).cells 40 by rw [← hV]; exact (HO0.out.alloc _).setOther _ _ (by omega))
 have HDV := Lib.hid (show Row V (w.heap.size + 1 + 1) (dp s e n (.slice none 0 0)).cells 40 by rw [← hV]; exact Hg.out.setRow _)
 have HBV := Lib.hid (show Below w.heap.size w V by rw [← hV]; exact below_setRow (HBW.out.alloc (by omega) _) (by omega) _)
 have HLd := Lib.hid (l_all HDV.out HDo.out)
 clear hV hs0
 go_wp2_with (first
  | (refine wpList_ld 40 rfl rfl HLd.out rfl ?_)
  | fail)
 refine (isHead_any (dp s e n (.slice none 0 0)) HDo.out V).mono ?_
 rintro x w1 ⟨rfl, hb1⟩
 have HB1 := Lib.hid (nextB HBV.out (Nat.le_refl _) hb1)
 have HK1 := Lib.hid (HKV.out.below hb1 HKV.out.lt)
 have HO1 := Lib.hid (HOV.out.below hb1 HOV.out.lt)
 have HD1 := Lib.hid (HDV.out.below hb1 HDV.out.lt)
 clear hb1
 have HV1 := Lib.hid ((Hv.out.below HB1.out).more HB1.out.size)
 have HT1 := Lib.hid (Ht.out.below HB1.out Ht.out.1)
 rw [decide_eq_true Hhd.out]
 go_wp2_with fail
 refine By.marks Pol.mixed Grew [By.is (arr8 sec),
  By.is (.int .u32 (e : Int)),
  By.is (.int .i64 z),
  By.is (arr8 K),
  By.is (.int .u32 (e : Int)),
  By.is (.int .u64 (n : Int)),
  By.is (arr8 N12),
  By.is (.slice A plain.length c),
  By.is (dp s e n (.slice none 0 0)).val,
  bsM AL,
  resB SL 0,
  resB SL 0,
  bsM SL,
  By.is (.int .i64 0),
  bsM SL,
  By.is (.int .i64 0)]
  (Ev.masks _ []) (by kernel_rfl) rfl Grew.refl Grew.trans ⟨?_, ?_, ?_, ?_, ?_, ?_, ?_, ?_, ?_, ?_, ?_, ?_, ?_, ?_, ?_, ?_, trivial⟩ ?_
 · intro a w ht hs hg
   have h6 := By.same_get hs 6 (by decide) (by kernel_rfl)
   refine By.yes rfl ?_
   clear hs hg
   have hr := l_k32 (Row.below (w := w1.drew) HK1.out ht HK1.out.lt) Hs.out
   refine wp_ld 23 _ rfl h6 hr ?_
   exact ⟨_, rfl, Grew.refl _, rfl⟩
 · intro a w ht hs hg
   have h3 := By.same_get hs 3 (by decide) (by kernel_rfl)
   refine By.yes rfl ?_
   clear hs hg
   go_simp
   exact ⟨_, rfl, Grew.refl _, rfl⟩
 · intro a w ht hs hg
   have h1 := By.same_get hs 1 (by decide) (by kernel_rfl)
   refine By.yes rfl ?_
   clear hs hg
   go_simp
   exact ⟨_, rfl, Grew.refl _, rfl⟩
 · intro a w ht hs hg
   have h30 : a.tmps.getD 30 undef = _ := By.given_get hg 0 rfl rfl (by kernel_rfl)
   have h31 : a.tmps.getD 31 undef = _ := By.given_get hg 1 rfl rfl (by kernel_rfl)
   have h32 : a.tmps.getD 32 undef = _ := By.given_get hg 2 rfl rfl (by kernel_rfl)
   refine By.yes rfl ?_
   clear hs hg
   have HTw := Lib.hid (HT1.out.below (grew_below ht) HT1.out.1)
   clear ht
   unfold arr8 at h30
   go_simp
   refine (Key_any sec Hs.out e He.out z w HTw.out).mono ?_
   rintro x w8 ⟨rfl, hb8⟩
   exact ⟨_, rfl, hb8, congrArg arr8 HKe.out⟩
 · intro a w ht hs hg
   have h3 := By.same_get hs 3 (by decide) (by kernel_rfl)
   refine By.yes rfl ?_
   clear hs hg
   go_simp
   exact ⟨_, rfl, Grew.refl _, rfl⟩
 · intro a w ht hs hg
   have h4 := By.same_get hs 4 (by decide) (by kernel_rfl)
   refine By.yes rfl ?_
   clear hs hg
   go_simp
   exact ⟨_, rfl, Grew.refl _, rfl⟩
 · intro a w ht hs hg
   have h34 : a.tmps.getD 34 undef = _ := By.given_get hg 4 rfl rfl (by kernel_rfl)
   have h35 : a.tmps.getD 35 undef = _ := By.given_get hg 5 rfl rfl (by kernel_rfl)
   refine By.yes rfl ?_
   clear hs hg
   clear ht
   go_simp
   refine (Lea.Nonce_any e n w).mono ?_
   rintro x w8 ⟨rfl, hb8⟩
   exact ⟨_, rfl, hb8, congrArg arr8 HNe.out⟩
 · intro a w ht hs hg
   have h5 := By.same_get hs 5 (by decide) (by kernel_rfl)
   refine By.yes rfl ?_
   clear hs hg
   go_simp
   exact ⟨_, rfl, Grew.refl _, rfl⟩
 · intro a w ht hs hg
   have h14 := By.same_get hs 14 (by decide) (by kernel_rfl)
   refine By.yes rfl ?_
   clear hs hg
   have hr := l_all (Row.below (w := w1.drew) HD1.out ht HD1.out.lt) HDo.out
   refine wp_ld 40 _ rfl h14 hr ?_
   exact ⟨_, rfl, Grew.refl _, rfl⟩
 · intro a w ht hs hg
   have h38 : a.tmps.getD 38 undef = _ := By.given_get hg 8 rfl rfl (by kernel_rfl)
   refine By.yes rfl ?_
   clear hs hg
   clear ht
   unfold Pk.val at h38
   go_simp
   refine (Along_any (dp s e n (.slice none 0 0)) HIn.out w).mono ?_
   rintro x w' ⟨v, rfl, hv, hb⟩
   exact ⟨_, rfl, hb, HAe.out ▸ hv.bs⟩
 · intro a w ht hs hg
   have h33 : a.tmps.getD 33 undef = _ := By.given_get hg 3 rfl rfl (by kernel_rfl)
   have h36 : a.tmps.getD 36 undef = _ := By.given_get hg 6 rfl rfl (by kernel_rfl)
   have h37 : a.tmps.getD 37 undef = _ := By.given_get hg 7 rfl rfl (by kernel_rfl)
   have h39 := By.given_get hg 9 rfl rfl (by kernel_rfl)
   refine By.yes rfl ?_
   obtain ⟨v39, hv39⟩ : ∃ v, a.tmps.getD 39 undef = v := ⟨_, rfl⟩
   replace h39 := (congrArg (fun v => ((bsM AL)).on v w) hv39).mp h39
   clear hs hg
   have HPw := Lib.hid (show Bs w w.heap.size (.slice A plain.length c) plain from (HV1.out.below (grew_below ht)).more ht.size)
   have HAw := Lib.hid h39
   obtain ⟨A9, c9, rfl, _, _⟩ := id HAw.out
   clear h39 ht
   unfold arr8 at h33 h36
   go_simp
   refine (Aead.Seal_ok K N12 plain AL _ _ HKl.out HNl.out w HPw.out HAw.out Hp.out (by have := HAl.out; omega)).mono ?_
   rintro x w8 ⟨v, rfl, ho, hb8⟩
   exact ⟨_, rfl, hb8, ⟨_, rfl, HSe.out ▸ ho.bs⟩⟩
 · intro a w ht hs hg
   have h40 := By.given_get hg 10 rfl rfl (by kernel_rfl)
   refine By.yes rfl ?_
   obtain ⟨v40, hv40⟩ : ∃ v, a.tmps.getD 40 undef = v := ⟨_, rfl⟩
   replace h40 := (congrArg (fun v => ((resB SL 0)).on v w) hv40).mp h40
   clear hs hg
   go_simp
   exact ⟨_, rfl, Grew.refl _, h40⟩
 · intro a w ht hs hg
   have h29 := By.given_get hg 11 rfl rfl (by kernel_rfl)
   refine By.yes rfl ?_
   obtain ⟨v29, hv29⟩ : ∃ v, a.tmps.getD 29 undef = v := ⟨_, rfl⟩
   replace h29 := (congrArg (fun v => ((resB SL 0)).on v w) hv29).mp h29
   clear hs hg
   obtain ⟨x, rfl, hx⟩ := h29
   have Hx := Lib.hid hx
   clear hx
   go_simp
   exact ⟨_, rfl, Grew.refl _, Hx.out⟩
 · intro a w ht hs hg
   have h29 := By.given_get hg 11 rfl rfl (by kernel_rfl)
   refine By.yes rfl ?_
   obtain ⟨v29, hv29⟩ : ∃ v, a.tmps.getD 29 undef = v := ⟨_, rfl⟩
   replace h29 := (congrArg (fun v => ((resB SL 0)).on v w) hv29).mp h29
   clear hs hg
   obtain ⟨x, rfl, hx⟩ := h29
   clear hx
   go_simp
   exact ⟨_, rfl, Grew.refl _, rfl⟩
 · intro a w ht hs hg
   have h41 := By.given_get hg 12 rfl rfl (by kernel_rfl)
   refine By.yes rfl ?_
   obtain ⟨v41, hv41⟩ : ∃ v, a.tmps.getD 41 undef = v := ⟨_, rfl⟩
   replace h41 := (congrArg (fun v => ((bsM SL)).on v w) hv41).mp h41
   clear hs hg
   have Hx := Lib.hid h41
   clear h41
   go_simp
   exact ⟨_, rfl, Grew.refl _, Hx.out⟩
 · intro a w ht hs hg
   have h42 : a.tmps.getD 42 undef = _ := By.given_get hg 13 rfl rfl (by kernel_rfl)
   refine By.yes rfl ?_
   clear hs hg
   go_simp
   exact ⟨_, rfl, Grew.refl _, rfl⟩
 refine By.ends_is (By.ends_is (By.ends_is (By.ends_is (By.ends_is (By.ends_is (By.ends_is (By.ends_is (By.ends_is (By.ends_skip fun v39 => (By.ends_skip fun v40 => (By.ends_skip fun v29 => (By.ends_skip fun v41 => (By.ends_is (By.ends_any fun v15 => (By.ends_is (By.ends_nil fun w2 hw2 => ?_))))))))))))))))
 simp only [Act.put, List.setIfInBounds_toArray, List.set_cons_succ, List.set_cons_zero]
 obtain ⟨hw, h15⟩ := hw2
 have hbw := grew_below hw
 have HB2 := Lib.hid (nextB HB1.out (Nat.le_refl _) hbw)
 have HO2 := Lib.hid (HO1.out.below hbw HO1.out.lt)
 have HD2 := Lib.hid (HD1.out.below hbw HD1.out.lt)
 have HS2 := Lib.hid (show Bs w2 w2.heap.size v15 SL from h15)
 obtain ⟨A5, c5, rfl, _, _⟩ := id HS2.out
 clear hw h15 hbw
 go_wp2_with fail
 refine (clone_far _ SL w2 HS2.out (by rw [HSl.out]; have := Hp.out; omega) (by intro h; have h2 := HSl.out; rw [h] at h2; simp at h2)).mono ?_
 rintro x w3 ⟨b6, R6, rfl, hge6, hbs, hb3⟩
 have HB3 := Lib.hid (nextB HB2.out (Nat.le_refl _) hb3)
 have HO3 := Lib.hid (HO2.out.below hb3 HO2.out.lt)
 have hd3 := HD2.out.below hb3 HD2.out.lt
 have HC3 := Lib.hid hbs
 have Hge6 := Lib.hid (show w.heap.size + 1 + 1 < b6 from Nat.lt_of_lt_of_le HD2.out.lt hge6)
 have c37 := c_bo hd3 HDo.out
 have f37 := frozen_row hd3 37
 have hset := hd3.set 37 (.slice (some ⟨b6, 0, none⟩) SL.length SL.length)
 rw [Pk.set_bo HDo.out] at hset
 have HoQ := Lib.hid (dp_ok s e n (b := .slice (some ⟨b6, 0, none⟩) SL.length SL.length) rfl)
 have HLq := Lib.hid (l_all (p := dp s e n (.slice (some ⟨b6, 0, none⟩) SL.length SL.length)) hset HoQ.out)
 have HOq := Lib.hid (HO3.out.other ⟨w.heap.size + 1 + 1, 37, none⟩ (.slice (some ⟨b6, 0, none⟩) SL.length SL.length) (by show w.heap.size + 1 ≠ w.heap.size + 1 + 1; omega))
 have HBq := Lib.hid (HB3.out.setCell (p := ⟨w.heap.size + 1 + 1, 37, none⟩) (by show w.heap.size ≤ w.heap.size + 1 + 1; omega) (.slice (some ⟨b6, 0, none⟩) SL.length SL.length))
 have HCq := Lib.hid (HC3.out.other ⟨w.heap.size + 1 + 1, 37, none⟩ (.slice (some ⟨b6, 0, none⟩) SL.length SL.length) (by have := Hge6.out; show b6 ≠ w.heap.size + 1 + 1; omega))
 clear hb3 hbs hd3 hset hge6
 go_wp2_with (first
  | (refine wpList_ld 40 rfl rfl HLq.out rfl ?_)
  | (show wpList _ _ _ (⟨none, Op.store 40 _ _, _, _, _, _⟩ :: _) _ _
     refine wpList_storeRow (g := w.heap.size + 1) rfl 40 _ _ rfl rfl rfl (cs := (dp s e n (.slice (some ⟨b6, 0, none⟩) SL.length SL.length)).cells) HOq.out (by kernel_rfl) (Pk.length HoQ.out) (Pk.length (nm_ok 0)) (Pk.one HoQ.out) ?_)
  | fail)
 refine bodyPost_ret (results_ct rfl rfl (HOq.out.setRow (dp s e n (.slice (some ⟨b6, 0, none⟩) SL.length SL.length)).cells) Tryz.underlying40 rfl (by kernel_rfl) (Pk.length HoQ.out)) rfl ?_
 refine ⟨⟨b6, R6, by rw [← HSl.out]; rfl, by have := Hge6.out; omega, ?_⟩, below_setRow HBq.out (by omega) _⟩
 exact HCq.out.setOther _ _ (by have := Hge6.out; omega)
end Go.Proofs.YtedmogacklbcmaaGreatDoor.Pkt
namespace Go.Proofs.YtedmogacklbcmaaGreatDoor.Pkt
open Go.RowKit
open Shk (bsM wp_ld wp_conv grew_below sstop SStop)
def tagOf (sec : List UInt8) (z : Int) (p : Pk) (c : List UInt8) : List UInt8 := Aead.tag (pkey sec p.epo z) (Lea.nonce p.epo p.cnt) c (alongL p)
def plainOf (sec : List UInt8) (z : Int) (p : Pk) (c : List UInt8) : List UInt8 := Cha.xor (pkey sec p.epo z) 1#32 (Lea.nonce p.epo p.cnt) c
def OpenR (lo : Nat) (w : World) (c t x : List UInt8) (tg : List UInt8) (e : Value) : Prop := if t = tg then ∃ v, e = .tuple #[v, .int .i64 0] ∧ Own w lo v x else e = .tuple #[.slice none 0 0, .int .i64 12]
def openM (lo : Nat) (c t x tg : List UInt8) : By.Mark Grew := ⟨fun v w => OpenR lo w c t x tg v, fun v a b h k => by
 unfold OpenR at h ⊢
 split at h
 · rename_i ht
   rw [if_pos ht]
   obtain ⟨u, h1, h2⟩ := h
   exact ⟨u, h1, h2.below k (Nat.le_refl _)⟩
 · rename_i ht
   rw [if_neg ht]
   exact h⟩
def OpB (lo : Nat) (w : World) (t x tg : List UInt8) (v : Value) : Prop := if t = tg then Own w lo v x else v = .slice none 0 0
def opbM (lo : Nat) (t x tg : List UInt8) : By.Mark Grew := ⟨fun v w => OpB lo w t x tg v, fun v a b h k => by
 unfold OpB at h ⊢
 split at h
 · rename_i ht
   rw [if_pos ht]
   exact h.below k (Nat.le_refl _)
 · rename_i ht
   rw [if_neg ht]
   exact h⟩
def opE (t tg : List UInt8) : Int := if t = tg then 0 else 12
def cOf (m : List UInt8) : List UInt8 := m.take (m.length - 16)
def tOf (m : List UInt8) : List UInt8 := m.drop (m.length - 16)
def OpenPost (lo : Nat) (sec : List UInt8) (z : Int) (p : Pk) (m : List UInt8) (w : World) (x : Ending) : Prop :=
 if chk p m.length = 0 ∧ p.kind = 3 then ∃ v, x = .returned v ∧ OpenR lo w (cOf m) (tOf m) (plainOf sec z p (cOf m)) (tagOf sec z p (cOf m)) v else x = .returned (.tuple #[.slice none 0 0, .int .i64 2])
set_option maxRecDepth 100000 in
set_option maxHeartbeats 2000000 in
theorem Open_any (sec : List UInt8) (hs : sec.length = 32) (z : Int) (p : Pk) (hi : p.In) (A : Option Addr) (m : List UInt8) (c0 : Nat) (hb : p.bo = .slice A m.length c0) (w : World) (ht : Tab w) (hm : Bs w w.heap.size p.bo m) :
 Calls Tryz.prog 31 #[arr8 sec, .int .i64 z, p.val] w fun x w' => OpenPost w.heap.size sec z p m w' x ∧ Below w.heap.size w w' := by
 obtain ⟨n, hn⟩ : ∃ n, m.length = n := ⟨_, rfl⟩
 rw [hn] at hb
 have Hbo := Lib.hid hb
 have HIn := Lib.hid hi
 have Hs := Lib.hid hs
 have Ht := Lib.hid ht
 have Hm := Lib.hid (hb ▸ hm)
 have HB0 := Lib.hid (show Below w.heap.size w ((w.alloc (.cells (sec.map bv).toArray 23)).alloc (.cells p.cells.toArray 40)) from ((Below.refl _ w).alloc (Nat.le_refl _) _).alloc (by simp) _)
 have HK := Lib.hid (show Row ((w.alloc (.cells (sec.map bv).toArray 23)).alloc (.cells p.cells.toArray 40)) w.heap.size (sec.map bv) 23 from (Row.new rfl rfl).alloc _)
 have HP := Lib.hid (show Row ((w.alloc (.cells (sec.map bv).toArray 23)).alloc (.cells p.cells.toArray 40)) (w.heap.size + 1) p.cells 40 from Row.new (by simp) rfl)
 have hld := l_all HP.out hi.ok
 unfold Pk.val at hld
 have HLd := Lib.hid hld
 have Hn := Lib.hid hn
 clear hb hi hs ht hm hld hn
 unfold arr8 Pk.val
 go_enter Tryz.func31, Tryz.ntmps31
 go_wp2_with (first
  | (refine wpList_ld 40 rfl rfl HLd.out rfl ?_)
  | fail)
 refine (Check_any p HIn.out.ok A n c0 Hbo.out _).mono ?_
 rintro x w1 ⟨rfl, hb1⟩
 have HB1 := Lib.hid (nextB HB0.out (Nat.le_refl _) hb1)
 obtain ⟨LO, hLO⟩ : ∃ LO, w.heap.size = LO := ⟨_, rfl⟩
 have HLO := Lib.hid hLO
 have HLE := Lib.hid (show LO ≤ w1.heap.size by rw [← hLO]; exact HB1.out.size)
 clear hLO
 have HK1 := Lib.hid (HK.out.below hb1 HK.out.lt)
 have HP1 := Lib.hid (HP.out.below hb1 HP.out.lt)
 have HT1 := Lib.hid (Ht.out.below HB1.out Ht.out.1)
 have HM1 := Lib.hid ((Hm.out.below HB1.out).more HB1.out.size)
 have ck := c_kind HP1.out
 clear hb1
 by_cases h : Head p ∧ BodyOk p n
 · have hc : chk p n = 0 := if_pos h
   rw [hc]
   by_cases h3 : p.kind = 3
   · rw [h3] at ck
     have hbk := h.2
     unfold BodyOk at hbk
     rw [if_pos h3] at hbk
     have Hif := Lib.hid (show chk p n = 0 ∧ p.kind = 3 from ⟨hc, h3⟩)
     obtain ⟨ci, hci⟩ : ∃ ci, cOf m = ci := ⟨_, rfl⟩
     obtain ⟨tg, htg⟩ : ∃ tg, tOf m = tg := ⟨_, rfl⟩
     have hmt : ci ++ tg = m := by rw [← hci, ← htg, cOf, tOf, List.take_append_drop]
     have Htl := Lib.hid (show tg.length = 16 by rw [← htg, tOf, List.length_drop]; have := Hn.out; omega)
     have Hcl := Lib.hid (show ci.length ≤ 65536 by rw [← hci, cOf, List.length_take]; have := Hn.out; omega)
     have HV1 := Lib.hid (show Bs w1 w1.heap.size (.slice A n c0) (ci ++ tg) by rw [hmt]; exact HM1.out)
     obtain ⟨K, hK⟩ : ∃ K, pkey sec p.epo z = K := ⟨_, rfl⟩
     obtain ⟨N12, hN⟩ : ∃ N, Lea.nonce p.epo p.cnt = N := ⟨_, rfl⟩
     obtain ⟨AL, hAL⟩ : ∃ N, alongL p = N := ⟨_, rfl⟩
     obtain ⟨TG, hTG⟩ : ∃ N, tagOf sec z p ci = N := ⟨_, rfl⟩
     obtain ⟨X, hX⟩ : ∃ N, plainOf sec z p ci = N := ⟨_, rfl⟩
     have HKe := Lib.hid hK
     have HNe := Lib.hid hN
     have HAe := Lib.hid hAL
     have HTG := Lib.hid (show Aead.tag K N12 ci AL = TG by rw [← hK, ← hN, ← hAL, ← hTG]; rfl)
     have HXe := Lib.hid (show Cha.xor K 1#32 N12 ci = X by rw [← hK, ← hN, ← hX]; rfl)
     have HKl := Lib.hid (show K.length = 32 by rw [← hK]; exact pkey_length _ _ _)
     have HNl := Lib.hid (show N12.length = 12 by rw [← hN]; exact Lea.nonce_length _ _)
     have HAl := Lib.hid (show AL.length ≤ 60 by rw [← hAL]; exact along_len _ HIn.out)
     have Hci := Lib.hid hci
     have Htg := Lib.hid htg
     have HTg := Lib.hid hTG
     have HXx := Lib.hid hX
     clear h hc h3 hbk hci htg hmt hK hN hAL hTG hX
     go_wp2_with fail
     refine By.marks Pol.mixed Grew [By.is (arr8 sec),
      By.is (.pointer (some ⟨(w.heap.size + 1), 3, none⟩)),
      By.is (.int .u32 (p.epo : Int)),
      By.is (.int .i64 z),
      By.is (arr8 K),
      By.is (.pointer (some ⟨(w.heap.size + 1), 3, none⟩)),
      By.is (.int .u32 (p.epo : Int)),
      By.is (.pointer (some ⟨(w.heap.size + 1), 4, none⟩)),
      By.is (.int .u64 (p.cnt : Int)),
      By.is (arr8 N12),
      By.is (.pointer (some ⟨(w.heap.size + 1), 37, none⟩)),
      By.is (.slice A n c0),
      By.is p.val,
      bsM AL,
      openM LO ci tg X TG,
      opbM LO tg X TG,
      By.is (.int .i64 (opE tg TG)),
      opbM LO tg X TG,
      By.is (.int .i64 (opE tg TG))]
      (Ev.masks _ []) (by kernel_rfl) rfl Grew.refl Grew.trans ⟨?_, ?_, ?_, ?_, ?_, ?_, ?_, ?_, ?_, ?_, ?_, ?_, ?_, ?_, ?_, ?_, ?_, ?_, ?_, trivial⟩ ?_
     · intro a w ht hs hg
       have h3 := By.same_get hs 3 (by decide) (by kernel_rfl)
       refine By.yes rfl ?_
       clear hs hg
       have hr := l_k32 (Row.below (w := w1.drew) HK1.out ht HK1.out.lt) Hs.out
       refine wp_ld 23 _ rfl h3 hr ?_
       exact ⟨_, rfl, Grew.refl _, rfl⟩
     · intro a w ht hs hg
       have h5 := By.same_get hs 5 (by decide) (by kernel_rfl)
       refine By.yes rfl ?_
       clear hs hg
       go_simp
       exact ⟨_, rfl, Grew.refl _, rfl⟩
     · intro a w ht hs hg
       have h18 : a.tmps.getD 18 undef = _ := By.given_get hg 1 rfl rfl (by kernel_rfl)
       refine By.yes rfl ?_
       clear hs hg
       have hc := c_epo (Row.below (w := w1.drew) HP1.out ht HP1.out.lt)
       clear ht
       go_simp
       exact ⟨_, rfl, Grew.refl _, rfl⟩
     · intro a w ht hs hg
       have h1 := By.same_get hs 1 (by decide) (by kernel_rfl)
       refine By.yes rfl ?_
       clear hs hg
       go_simp
       exact ⟨_, rfl, Grew.refl _, rfl⟩
     · intro a w ht hs hg
       have h17 : a.tmps.getD 17 undef = _ := By.given_get hg 0 rfl rfl (by kernel_rfl)
       have h19 : a.tmps.getD 19 undef = _ := By.given_get hg 2 rfl rfl (by kernel_rfl)
       have h20 : a.tmps.getD 20 undef = _ := By.given_get hg 3 rfl rfl (by kernel_rfl)
       refine By.yes rfl ?_
       clear hs hg
       have HTw := Lib.hid (HT1.out.below (grew_below ht) HT1.out.1)
       clear ht
       unfold arr8 at h17
       go_simp
       refine (Key_any sec Hs.out p.epo HIn.out.e z w HTw.out).mono ?_
       rintro x w8 ⟨rfl, hb8⟩
       exact ⟨_, rfl, hb8, congrArg arr8 HKe.out⟩
     · intro a w ht hs hg
       have h5 := By.same_get hs 5 (by decide) (by kernel_rfl)
       refine By.yes rfl ?_
       clear hs hg
       go_simp
       exact ⟨_, rfl, Grew.refl _, rfl⟩
     · intro a w ht hs hg
       have h22 : a.tmps.getD 22 undef = _ := By.given_get hg 5 rfl rfl (by kernel_rfl)
       refine By.yes rfl ?_
       clear hs hg
       have hc := c_epo (Row.below (w := w1.drew) HP1.out ht HP1.out.lt)
       clear ht
       go_simp
       exact ⟨_, rfl, Grew.refl _, rfl⟩
     · intro a w ht hs hg
       have h5 := By.same_get hs 5 (by decide) (by kernel_rfl)
       refine By.yes rfl ?_
       clear hs hg
       go_simp
       exact ⟨_, rfl, Grew.refl _, rfl⟩
     · intro a w ht hs hg
       have h24 : a.tmps.getD 24 undef = _ := By.given_get hg 7 rfl rfl (by kernel_rfl)
       refine By.yes rfl ?_
       clear hs hg
       have hc := c_cnt (Row.below (w := w1.drew) HP1.out ht HP1.out.lt)
       clear ht
       go_simp
       exact ⟨_, rfl, Grew.refl _, rfl⟩
     · intro a w ht hs hg
       have h23 : a.tmps.getD 23 undef = _ := By.given_get hg 6 rfl rfl (by kernel_rfl)
       have h25 : a.tmps.getD 25 undef = _ := By.given_get hg 8 rfl rfl (by kernel_rfl)
       refine By.yes rfl ?_
       clear hs hg
       clear ht
       go_simp
       refine (Lea.Nonce_any p.epo p.cnt w).mono ?_
       rintro x w8 ⟨rfl, hb8⟩
       exact ⟨_, rfl, hb8, congrArg arr8 HNe.out⟩
     · intro a w ht hs hg
       have h5 := By.same_get hs 5 (by decide) (by kernel_rfl)
       refine By.yes rfl ?_
       clear hs hg
       go_simp
       exact ⟨_, rfl, Grew.refl _, rfl⟩
     · intro a w ht hs hg
       have h27 : a.tmps.getD 27 undef = _ := By.given_get hg 10 rfl rfl (by kernel_rfl)
       refine By.yes rfl ?_
       clear hs hg
       have hc := c_bo (Row.below (w := w1.drew) HP1.out ht HP1.out.lt) HIn.out.ok
       rw [Hbo.out] at hc
       clear ht
       go_simp
       exact ⟨_, rfl, Grew.refl _, rfl⟩
     · intro a w ht hs hg
       have h5 := By.same_get hs 5 (by decide) (by kernel_rfl)
       refine By.yes rfl ?_
       clear hs hg
       have hr := l_all (Row.below (w := w1.drew) HP1.out ht HP1.out.lt) HIn.out.ok
       refine wp_ld 40 _ rfl h5 hr ?_
       exact ⟨_, rfl, Grew.refl _, rfl⟩
     · intro a w ht hs hg
       have h29 : a.tmps.getD 29 undef = _ := By.given_get hg 12 rfl rfl (by kernel_rfl)
       refine By.yes rfl ?_
       clear hs hg
       clear ht
       unfold Pk.val at h29
       go_simp
       refine (Along_any p HIn.out w).mono ?_
       rintro x w' ⟨v, rfl, hv, hb⟩
       exact ⟨_, rfl, hb, HAe.out ▸ hv.bs⟩
     · intro a w ht hs hg
       have h21 : a.tmps.getD 21 undef = _ := By.given_get hg 4 rfl rfl (by kernel_rfl)
       have h26 : a.tmps.getD 26 undef = _ := By.given_get hg 9 rfl rfl (by kernel_rfl)
       have h28 : a.tmps.getD 28 undef = _ := By.given_get hg 11 rfl rfl (by kernel_rfl)
       have h30 := By.given_get hg 13 rfl rfl (by kernel_rfl)
       refine By.yes rfl ?_
       obtain ⟨v30, hv30⟩ : ∃ v, a.tmps.getD 30 undef = v := ⟨_, rfl⟩
       replace h30 := (congrArg (fun v => ((bsM AL)).on v w) hv30).mp h30
       clear hs hg
       have HPw := Lib.hid (show Bs w w.heap.size (.slice A n c0) (ci ++ tg) from (HV1.out.below (grew_below ht)).more ht.size)
       have HAw := Lib.hid h30
       obtain ⟨A9, c9, rfl, _, _⟩ := id HAw.out
       have ht1 : w1.drew.heap.size ≤ w.heap.size := ht.size
       clear h30 ht
       unfold arr8 at h21 h26
       go_simp
       refine (Aead.Open_ok K N12 ci tg AL _ _ HKl.out HNl.out Htl.out w HPw.out HAw.out Hcl.out (by have := HAl.out; omega)).mono ?_
       rintro x w8 ⟨hx, hb8⟩
       rw [show Aead.tag K N12 ci AL = TG from HTG.out, show Cha.xor K 1#32 N12 ci = X from HXe.out] at hx
       by_cases h : tg = TG
       · rw [if_pos h] at hx
         obtain ⟨v, rfl, ho⟩ := hx
         exact ⟨_, rfl, hb8, by show OpenR LO w8 ci tg X TG _; unfold OpenR; rw [if_pos h]; exact ⟨v, rfl, ho.less (Nat.le_trans HLE.out (show w1.drew.heap.size ≤ w.heap.size from ht1))⟩⟩
       · rw [if_neg h] at hx
         subst hx
         exact ⟨_, rfl, hb8, by show OpenR LO w8 ci tg X TG _; unfold OpenR; rw [if_neg h]⟩
     · intro a w ht hs hg
       have h31 := By.given_get hg 14 rfl rfl (by kernel_rfl)
       refine By.yes rfl ?_
       obtain ⟨v31, hv31⟩ : ∃ v, a.tmps.getD 31 undef = v := ⟨_, rfl⟩
       replace h31 := (congrArg (fun v => ((openM LO ci tg X TG)).on v w) hv31).mp h31
       clear hs hg
       have h31' : OpenR LO w ci tg X TG v31 := h31
       clear h31 ht
       unfold OpenR at h31'
       by_cases h : tg = TG
       · rw [if_pos h] at h31'
         obtain ⟨x, rfl, hx⟩ := h31'
         have Hx := Lib.hid hx
         have Hh := Lib.hid h
         clear hx h
         go_simp
         exact ⟨_, rfl, Grew.refl _, by show OpB _ _ _ _ _ _; unfold OpB; rw [if_pos Hh.out]; exact Hx.out⟩
       · rw [if_neg h] at h31'
         subst h31'
         have Hh := Lib.hid h
         clear h
         go_simp
         exact ⟨_, rfl, Grew.refl _, by show OpB _ _ _ _ _ _; unfold OpB; rw [if_neg Hh.out]⟩
     · intro a w ht hs hg
       have h31 := By.given_get hg 14 rfl rfl (by kernel_rfl)
       refine By.yes rfl ?_
       obtain ⟨v31, hv31⟩ : ∃ v, a.tmps.getD 31 undef = v := ⟨_, rfl⟩
       replace h31 := (congrArg (fun v => ((openM LO ci tg X TG)).on v w) hv31).mp h31
       clear hs hg
       have h31' : OpenR LO w ci tg X TG v31 := h31
       clear h31 ht
       unfold OpenR at h31'
       by_cases h : tg = TG
       · rw [if_pos h] at h31'
         obtain ⟨x, rfl, hx⟩ := h31'
         have Hh := Lib.hid h
         clear hx h
         go_simp
         exact ⟨_, rfl, Grew.refl _, congrArg (Value.int .i64) (by unfold opE; rw [if_pos Hh.out])⟩
       · rw [if_neg h] at h31'
         subst h31'
         have Hh := Lib.hid h
         clear h
         go_simp
         exact ⟨_, rfl, Grew.refl _, congrArg (Value.int .i64) (by unfold opE; rw [if_neg Hh.out])⟩
     · intro a w ht hs hg
       have h32 := By.given_get hg 15 rfl rfl (by kernel_rfl)
       refine By.yes rfl ?_
       obtain ⟨v32, hv32⟩ : ∃ v, a.tmps.getD 32 undef = v := ⟨_, rfl⟩
       replace h32 := (congrArg (fun v => ((opbM LO tg X TG)).on v w) hv32).mp h32
       clear hs hg
       have Hx := Lib.hid h32
       clear h32
       go_simp
       exact ⟨_, rfl, Grew.refl _, Hx.out⟩
     · intro a w ht hs hg
       have h33 : a.tmps.getD 33 undef = _ := By.given_get hg 16 rfl rfl (by kernel_rfl)
       refine By.yes rfl ?_
       clear hs hg
       go_simp
       exact ⟨_, rfl, Grew.refl _, rfl⟩
     refine By.ends_is (By.ends_is (By.ends_is (By.ends_is (By.ends_is (By.ends_is (By.ends_is (By.ends_is (By.ends_is (By.ends_is (By.ends_is (By.ends_is (By.ends_is (By.ends_skip fun v30 => (By.ends_skip fun v31 => (By.ends_skip fun v32 => (By.ends_is (By.ends_any fun v6 => (By.ends_is (By.ends_nil fun w2 hw2 => ?_)))))))))))))))))))
     simp only [Act.put, List.setIfInBounds_toArray, List.set_cons_succ, List.set_cons_zero]
     obtain ⟨hw, h6⟩ := hw2
     have HB2 := Lib.hid (nextB HB1.out (Nat.le_refl _) (grew_below hw))
     have H6 := Lib.hid (show OpB LO w2 tg X TG v6 from h6)
     clear hw h6
     go_wp2
     go_ret2
     refine ⟨?_, HB2.out⟩
     unfold OpenPost
     rw [HLO.out, Hn.out, if_pos Hif.out, Hci.out, Htg.out, HTg.out, HXx.out]
     refine ⟨_, rfl, ?_⟩
     have h6 := H6.out
     unfold OpB at h6
     show OpenR _ _ _ _ _ _ (.tuple #[v6, .int .i64 (opE tg TG)])
     unfold OpenR opE
     by_cases h : tg = TG
     · rw [if_pos h] at h6 ⊢
       rw [if_pos h]
       exact ⟨_, rfl, h6⟩
     · rw [if_neg h] at h6 ⊢
       rw [if_neg h, h6]
   · have hkk : (p.kind != 3) = true := by simp [h3]
     have Hif := Lib.hid (show ¬ (chk p n = 0 ∧ p.kind = 3) from fun k => h3 k.2)
     clear h hc h3
     go_wp2
     go_ret2
     exact ⟨by unfold OpenPost; rw [Hn.out, if_neg Hif.out]; rfl, HB1.out⟩
 · have hc : chk p n = 2 := if_neg h
   rw [hc]
   have Hif := Lib.hid (show ¬ (chk p n = 0 ∧ p.kind = 3) from fun k => by rw [hc] at k; exact absurd k.1 (by decide))
   clear h hc
   go_wp2
   go_ret2
   exact ⟨by unfold OpenPost; rw [Hn.out, if_neg Hif.out]; rfl, HB1.out⟩
end Go.Proofs.YtedmogacklbcmaaGreatDoor.Pkt
namespace Go.Proofs.YtedmogacklbcmaaGreatDoor.Pkt
open Go.RowKit
open Shk (sstop SStop)
theorem alongL_dp (s e n : Nat) (b c : Value) : alongL (dp s e n b) = alongL (dp s e n c) := by
 unfold alongL
 by_cases h : dataOk s e n
 · rw [if_pos ⟨rfl, (head_dp s e n b).2 h⟩, if_pos ⟨rfl, (head_dp s e n c).2 h⟩]
   rfl
 · rw [if_neg (fun k => h ((head_dp s e n b).1 k.2)), if_neg (fun k => h ((head_dp s e n c).1 k.2))]
theorem sealed_parts (sec : List UInt8) (z : Int) (s e n : Nat) (plain : List UInt8) (b : Value) :
 tOf (sealedL sec z s e n plain) = tagOf sec z (dp s e n b) (cOf (sealedL sec z s e n plain)) ∧ plainOf sec z (dp s e n b) (cOf (sealedL sec z s e n plain)) = plain := by
 have hl := sealedL_length sec z s e n plain
 have hC : cOf (sealedL sec z s e n plain) = Cha.xor (pkey sec e z) 1#32 (Lea.nonce e n) plain := by
  rw [cOf, hl, Nat.add_sub_cancel, sealedL, Aead.sealed, List.take_left' (Cha.xor_length _ _ _ _)]
 have hT : tOf (sealedL sec z s e n plain) = Aead.tag (pkey sec e z) (Lea.nonce e n) (Cha.xor (pkey sec e z) 1#32 (Lea.nonce e n) plain) (alongL (dp s e n (.slice none 0 0))) := by
  rw [tOf, hl, Nat.add_sub_cancel, sealedL, Aead.sealed, List.drop_left' (Cha.xor_length _ _ _ _)]
 refine ⟨?_, ?_⟩
 · rw [hT, hC, tagOf, alongL_dp s e n b (.slice none 0 0)]
   rfl
 · rw [hC, plainOf]
   exact Aead.xor_twice _ _ _ _
theorem chk_dp {s e n : Nat} (h : dataOk s e n) (b : Value) (m : Nat) (h1 : 16 ≤ m) (h2 : m ≤ 65552) : chk (dp s e n b) m = 0 := by
 refine if_pos ⟨(head_dp s e n b).2 h, ?_⟩
 unfold BodyOk
 rw [if_pos (show (dp s e n b).kind = 3 from rfl)]
 exact ⟨h1, h2⟩
theorem open_sealed {sec : List UInt8} {z : Int} {s e n : Nat} {plain : List UInt8} {b : Value} {w : World} {x : Ending} {lo : Nat} (h : OpenPost lo sec z (dp s e n b) (sealedL sec z s e n plain) w x) (hd : dataOk s e n) (hp : plain.length ≤ 65536) : ∃ v, x = .returned (.tuple #[v, .int .i64 0]) ∧ Own w lo v plain := by
 have hl := sealedL_length sec z s e n plain
 obtain ⟨h1, h2⟩ := sealed_parts sec z s e n plain b
 unfold OpenPost at h
 rw [if_pos ⟨by rw [hl]; exact chk_dp hd b _ (by omega) (by omega), rfl⟩] at h
 obtain ⟨v, rfl, h3⟩ := h
 unfold OpenR at h3
 rw [if_pos h1, h2] at h3
 obtain ⟨u, rfl, h4⟩ := h3
 exact ⟨u, rfl, h4⟩
end Go.Proofs.YtedmogacklbcmaaGreatDoor.Pkt
namespace Go.Proofs.YtedmogacklbcmaaGreatDoor.Ses
open Go.RowKit
theorem wpList_bp {P : Program} {ops : Array Oper} {rest : List Oper} {o : Oper} {a : Act} {w : World} {Q : Exit → Act → World → Prop} (hgd : o.guard = none) (t : TypeId) (parts : Array (Nat × Operand)) (ho : o.op = .build t parts) {ps : Array (Nat × Value)} (hp : (parts.map fun (i, x) => (i, a.eval x)) = ps) {v : Value}
 (hrun : (Instr.build t ps).run P w = .ok v w) (hk : wpList P ops Q rest (a.put o.dst v) w) : wpList P ops Q (o :: rest) a w := by
 refine wpList_plain hgd fun K hK => ?_
 unfold Oper.wp execOp
 simp only [ho, hp, Sem.run_bind, Sem.run_pure, Result.andThen_ok, hrun]
 exact hK _ _ hk
theorem only_setRow {w : World} {g : Nat} (cs : Array Value) : w.grownBy (w.setRow g cs) (some g) := ⟨rfl, rfl, rfl, by simp [World.setRow], fun k _ hne => setRow_other w g k cs (fun e => hne (by rw [e]))⟩
theorem row_grown {w w' : World} {g k : Nat} {cs : List Value} {t : TypeId} (h : Row w k cs t) (hg : w.grownBy w' (some g)) (hne : k ≠ g) : Row w' k cs t := by
 unfold Row
 rw [hg.block k h.lt (by simpa using hne)]
 exact h
structure Ed where
 sid : Nat
 peer : Int
 sec : List UInt8
 ep : Nat
 way : Int
 n : Nat
 l : Nat
 f : Nat
 t : Nat
 s : Nat
 m : Nat
 stock : Int
namespace Ed
def ses (e : Ed) : List Value := .int .u64 (e.sid : Int) :: .int .i64 e.peer :: e.sec.map bv
def tail (e : Ed) : List Value := [.int .u32 (e.ep : Int), .int .i64 e.way, .int .u64 (e.n : Int), .int .u64 (e.l : Int), .int .u64 (e.f : Int), .int .u64 (e.t : Int), .int .u64 (e.s : Int), .int .u64 (e.m : Int), .int .i64 e.stock]
def cs (e : Ed) : List Value := e.ses ++ e.tail
def val (e : Ed) : Value := .agg e.cs.toArray
def K (e : Ed) : Prop := e.sec.length = 32
variable {e : Ed}
theorem seslen (h : e.K) : e.ses.length = 34 := by
 show (_ :: _ :: e.sec.map bv).length = 34
 simp [show e.sec.length = 32 from h]
theorem len (h : e.K) : e.cs.length = 43 := by
 show (e.ses ++ e.tail).length = 43
 rw [List.length_append, seslen h]
 rfl
theorem sone (e : Ed) : ∀ v ∈ e.ses, v.oneCell' = true := by
 intro v hv
 simp only [ses, List.mem_cons, List.mem_map] at hv
 rcases hv with rfl | rfl | ⟨u, _, rfl⟩ <;> rfl
theorem one (e : Ed) : ∀ v ∈ e.cs, v.oneCell' = true := by
 intro v hv
 rcases List.mem_append.1 hv with h | h
 · exact sone e v h
 · simp only [tail, List.mem_cons, List.not_mem_nil, or_false] at h
   rcases h with rfl | rfl | rfl | rfl | rfl | rfl | rfl | rfl | rfl <;> rfl
theorem at' (h : e.K) (i : Nat) : e.cs[34 + i]? = e.tail[i]? := by
 show (e.ses ++ e.tail)[34 + i]? = _
 rw [List.getElem?_append_right (by rw [seslen h]; omega), seslen h]
 congr 1
 omega
theorem at_ep (h : e.K) : e.cs[34]? = some (.int .u32 (e.ep : Int)) := at' h 0
theorem at_way (h : e.K) : e.cs[35]? = some (.int .i64 e.way) := at' h 1
theorem at_n (h : e.K) : e.cs[36]? = some (.int .u64 (e.n : Int)) := at' h 2
theorem at_l (h : e.K) : e.cs[37]? = some (.int .u64 (e.l : Int)) := at' h 3
theorem at_f (h : e.K) : e.cs[38]? = some (.int .u64 (e.f : Int)) := at' h 4
theorem at_t (h : e.K) : e.cs[39]? = some (.int .u64 (e.t : Int)) := at' h 5
theorem at_s (h : e.K) : e.cs[40]? = some (.int .u64 (e.s : Int)) := at' h 6
theorem at_m (h : e.K) : e.cs[41]? = some (.int .u64 (e.m : Int)) := at' h 7
theorem at_stock (h : e.K) : e.cs[42]? = some (.int .i64 e.stock) := at' h 8
theorem at_sid (e : Ed) : e.cs[0]? = some (.int .u64 (e.sid : Int)) := rfl
theorem at_peer (e : Ed) : e.cs[1]? = some (.int .i64 e.peer) := rfl
end Ed
section
variable {w : World} {g : Nat} {e : Ed} {T : TypeId}
theorem c_sid (h : Row w g e.cs T) : w.cell? ⟨g, 0, none⟩ = some (.int .u64 (e.sid : Int)) := h.cell (i := 0) (Ed.at_sid e)
theorem c_peer (h : Row w g e.cs T) : w.cell? ⟨g, 1, none⟩ = some (.int .i64 e.peer) := h.cell (i := 1) (Ed.at_peer e)
theorem c_ep (h : Row w g e.cs T) (hk : e.K) : w.cell? ⟨g, 34, none⟩ = some (.int .u32 (e.ep : Int)) := h.cell (i := 34) (Ed.at_ep hk)
theorem c_way (h : Row w g e.cs T) (hk : e.K) : w.cell? ⟨g, 35, none⟩ = some (.int .i64 e.way) := h.cell (i := 35) (Ed.at_way hk)
theorem c_n (h : Row w g e.cs T) (hk : e.K) : w.cell? ⟨g, 36, none⟩ = some (.int .u64 (e.n : Int)) := h.cell (i := 36) (Ed.at_n hk)
theorem c_l (h : Row w g e.cs T) (hk : e.K) : w.cell? ⟨g, 37, none⟩ = some (.int .u64 (e.l : Int)) := h.cell (i := 37) (Ed.at_l hk)
theorem c_f (h : Row w g e.cs T) (hk : e.K) : w.cell? ⟨g, 38, none⟩ = some (.int .u64 (e.f : Int)) := h.cell (i := 38) (Ed.at_f hk)
theorem c_t (h : Row w g e.cs T) (hk : e.K) : w.cell? ⟨g, 39, none⟩ = some (.int .u64 (e.t : Int)) := h.cell (i := 39) (Ed.at_t hk)
theorem c_s (h : Row w g e.cs T) (hk : e.K) : w.cell? ⟨g, 40, none⟩ = some (.int .u64 (e.s : Int)) := h.cell (i := 40) (Ed.at_s hk)
theorem c_m (h : Row w g e.cs T) (hk : e.K) : w.cell? ⟨g, 41, none⟩ = some (.int .u64 (e.m : Int)) := h.cell (i := 41) (Ed.at_m hk)
theorem c_stock (h : Row w g e.cs T) (hk : e.K) : w.cell? ⟨g, 42, none⟩ = some (.int .i64 e.stock) := h.cell (i := 42) (Ed.at_stock hk)
theorem l_end (h : Row w g e.cs T) (hk : e.K) : (loadVar 32 ⟨g, 0, none⟩).run Tryz.prog w = .ok e.val w := by
 rw [Pol.run_loadVar_sub (off := 0) (n := 43) w h Tryz.underlying32 rfl (by kernel_rfl) (by rw [Ed.len hk]; exact Nat.le_refl _), List.drop_zero, List.take_of_length_le (by rw [Ed.len hk]; exact Nat.le_refl _)]
 rfl
theorem l_en (h : Row w g e.cs T) (hk : e.K) : (loadVar 90 ⟨g, 0, none⟩).run Tryz.prog w = .ok e.val w := by
 rw [Pol.run_loadVar_sub (off := 0) (n := 43) w h Tryz.underlying90 rfl (by kernel_rfl) (by rw [Ed.len hk]; exact Nat.le_refl _), List.drop_zero, List.take_of_length_le (by rw [Ed.len hk]; exact Nat.le_refl _)]
 rfl
theorem l_ses (h : Row w g e.cs T) (hk : e.K) : (loadVar 25 ⟨g, 0, none⟩).run Tryz.prog w = .ok (.agg e.ses.toArray) w := by
 rw [Pol.run_loadVar_sub (off := 0) (n := 34) w h Tryz.underlying25 rfl (by kernel_rfl) (by rw [Ed.len hk]; decide), List.drop_zero]
 show _ = Result.ok (Value.agg e.ses.toArray) w
 rw [show e.cs.take 34 = e.ses from List.take_left' (Ed.seslen hk)]
theorem l_ses0 {s : Nat} {p : Int} {k : List UInt8} (h : Row w g (.int .u64 (s : Int) :: .int .i64 p :: k.map bv) T) (hk : k.length = 32) : (loadVar 25 ⟨g, 0, none⟩).run Tryz.prog w = .ok (.agg (.int .u64 (s : Int) :: .int .i64 p :: k.map bv).toArray) w := by
 rw [Pol.run_loadVar_sub (off := 0) (n := 34) w h Tryz.underlying25 rfl (by kernel_rfl) (by simp [hk]), List.drop_zero, List.take_of_length_le (by simp [hk])]
theorem l_sec (h : Row w g e.cs T) (hk : e.K) : (loadVar 23 ⟨g, 2, none⟩).run Tryz.prog w = .ok (arr8 e.sec) w := by
 rw [Pol.run_loadVar_sub (off := 2) (n := 32) w h Tryz.underlying23 rfl (by kernel_rfl) (by rw [Ed.len hk]; decide)]
 rw [show (e.cs.drop 2).take 32 = e.sec.map bv by
  show (((.int .u64 (e.sid : Int) :: .int .i64 e.peer :: e.sec.map bv) ++ e.tail).drop 2).take 32 = _
  show (e.sec.map bv ++ e.tail).take 32 = _
  exact List.take_left' (by rw [List.length_map]; exact hk)]
 rfl
end
theorem sp_out {e : Ed} (hk : e.K) (n l : Nat) : splice e.cs 36 [.int .u64 (n : Int), .int .u64 (l : Int)] = { e with n := n, l := l }.cs := by
 have h1 : e.cs = (e.ses ++ e.tail.take 2) ++ e.tail.drop 2 := by rw [List.append_assoc, List.take_append_drop]; rfl
 have hl : (e.ses ++ e.tail.take 2).length = 36 := by rw [List.length_append, Ed.seslen hk]; rfl
 unfold splice
 rw [h1, List.take_left' hl, List.drop_append, hl, List.drop_of_length_le (by rw [hl]; simp), List.nil_append]
 simp [Ed.cs, Ed.tail, Ed.ses]
theorem sp_in {e : Ed} (hk : e.K) (f t s m : Nat) : splice e.cs 38 [.int .u64 (f : Int), .int .u64 (t : Int), .int .u64 (s : Int), .int .u64 (m : Int)] = { e with f := f, t := t, s := s, m := m }.cs := by
 have h1 : e.cs = (e.ses ++ e.tail.take 4) ++ e.tail.drop 4 := by rw [List.append_assoc, List.take_append_drop]; rfl
 have hl : (e.ses ++ e.tail.take 4).length = 38 := by rw [List.length_append, Ed.seslen hk]; rfl
 unfold splice
 rw [h1, List.take_left' hl, List.drop_append, hl, List.drop_of_length_le (by rw [hl]; simp), List.nil_append]
 simp [Ed.cs, Ed.tail, Ed.ses]
def z32 : List UInt8 := List.replicate 32 0
def zed : Ed := ⟨0, 0, z32, 0, 0, 0, 0, 0, 0, 0, 0, 0⟩
theorem zed_K : zed.K := by show z32.length = 32; decide
theorem zero_End : (Tryz.prog.info? 32).bind (·.zero) = some (.agg zed.cs.toArray) := by kernel_rfl
theorem zero_en : (Tryz.prog.info? 90).bind (·.zero) = some (.agg zed.cs.toArray) := by kernel_rfl
set_option maxRecDepth 100000 in
theorem build_End0 (w : World) : (Instr.build 32 #[]).run Tryz.prog w = .ok zed.val w := by kernel_rfl
set_option maxRecDepth 100000 in
theorem build_en {e : Ed} (hk : e.K) (w : World) : (Instr.build 90 #[(0, e.val)]).run Tryz.prog w = .ok e.val w := by
 obtain ⟨sid, peer, sec, ep, way, n, l, f, t, s, m, stock⟩ := e
 match sec, hk with
 | [k0, k1, k2, k3, k4, k5, k6, k7, k8, k9, k10, k11, k12, k13, k14, k15, k16, k17, k18, k19, k20, k21, k22, k23, k24, k25, k26, k27, k28, k29, k30, k31], _ =>
   show _ = _
   kernel_rfl
set_option maxRecDepth 100000 in
theorem build_End {e : Ed} (hk : e.K) (w : World) : (Instr.build 32 #[(0, .agg e.ses.toArray), (1, .int .u32 (e.ep : Int)), (2, .int .i64 e.way), (3, Lea.cv e.n e.l), (4, Win.wv e.f e.t e.s e.m), (5, .int .i64 e.stock)]).run Tryz.prog w = .ok e.val w := by
 obtain ⟨sid, peer, sec, ep, way, n, l, f, t, s, m, stock⟩ := e
 match sec, hk with
 | [k0, k1, k2, k3, k4, k5, k6, k7, k8, k9, k10, k11, k12, k13, k14, k15, k16, k17, k18, k19, k20, k21, k22, k23, k24, k25, k26, k27, k28, k29, k30, k31], _ =>
   show _ = _
   kernel_rfl
end Go.Proofs.YtedmogacklbcmaaGreatDoor.Ses
namespace Go.Proofs.YtedmogacklbcmaaGreatDoor.Ses
open Go.RowKit
def Named (e : Ed) : Prop := 1 ≤ e.sid ∧ 1 ≤ e.peer ∧ e.peer ≤ 65536 ∧ 1 ≤ e.ep ∧ (e.way = 0 ∨ e.way = 1)
instance (e : Ed) : Decidable (Named e) := by unfold Named; infer_instance
structure Ed.In (e : Ed) : Prop where
 k : e.K
 sid : e.sid < 18446744073709551616
 ep : e.ep < 4294967296
 l : e.l < 18446744073709551616
 w : Win.Fits e.f e.t e.s e.m
def Valid (e : Ed) : Prop := Named e ∧ 1 ≤ e.stock ∧ e.stock ≤ 65536 ∧ Lea.Ok e.n e.l ∧ Win.Ok e.f e.t e.s e.m
open Classical in
noncomputable def chkE (e : Ed) : Int := if Valid e then 0 else 2
set_option maxRecDepth 100000 in
set_option maxHeartbeats 2000000 in
theorem isNamed_any (e : Ed) (hk : e.K) (w : World) : Calls Tryz.prog 55 #[e.val] w fun r w' => r = .returned (.bool (decide (Named e))) ∧ Below w.heap.size w w' := by
 obtain ⟨W, hW⟩ : ∃ W, w.alloc (.cells e.cs.toArray 90) = W := ⟨_, rfl⟩
 have hr : Row W w.heap.size e.cs 90 := hW ▸ Row.new rfl rfl
 have hb : Below w.heap.size w W := hW ▸ (Below.refl _ w).alloc (Nat.le_refl _) _
 have c0 := c_sid hr
 have c1 := c_peer hr
 have c34 := c_ep hr hk
 have c35 := c_way hr hk
 have HB := Lib.hid hb
 obtain ⟨z, hz⟩ : ∃ z, decide (Named e) = z := ⟨_, rfl⟩
 rw [hz]
 have Hz := Lib.hid hz
 clear hr hb hz
 unfold Ed.val
 obtain ⟨cs, hcs⟩ : ∃ cs, e.cs = cs := ⟨_, rfl⟩
 rw [hcs] at hW ⊢
 obtain ⟨sid, hsid⟩ : ∃ x, e.sid = x := ⟨_, rfl⟩
 obtain ⟨peer, hpeer⟩ : ∃ x, e.peer = x := ⟨_, rfl⟩
 obtain ⟨ep, hep⟩ : ∃ x, e.ep = x := ⟨_, rfl⟩
 obtain ⟨way, hway⟩ : ∃ x, e.way = x := ⟨_, rfl⟩
 rw [hsid] at c0
 rw [hpeer] at c1
 rw [hep] at c34
 rw [hway] at c35
 have hn : Named e ↔ 1 ≤ sid ∧ 1 ≤ peer ∧ peer ≤ 65536 ∧ 1 ≤ ep ∧ (way = 0 ∨ way = 1) := by unfold Named; rw [hsid, hpeer, hep, hway]
 have Hn := Lib.hid hn
 clear hn hcs hsid hpeer hep hway
 by_cases h1 : (sid : Int) < 1
 · obtain rfl : z = false := by rw [← Hz.out]; exact decide_eq_false fun h => by have := Hn.out.1 h; omega
   go_enter Tryz.func55, Tryz.ntmps55
   go_wp2
   go_ret
   exact ⟨rfl, HB.out⟩
 by_cases h2 : peer < 1
 · obtain rfl : z = false := by rw [← Hz.out]; exact decide_eq_false fun h => by have := Hn.out.1 h; omega
   go_enter Tryz.func55, Tryz.ntmps55
   go_wp2
   go_ret
   exact ⟨rfl, HB.out⟩
 by_cases h3 : 65536 < peer
 · obtain rfl : z = false := by rw [← Hz.out]; exact decide_eq_false fun h => by have := Hn.out.1 h; omega
   go_enter Tryz.func55, Tryz.ntmps55
   go_wp2
   go_ret
   exact ⟨rfl, HB.out⟩
 have hzz : z = (decide (1 ≤ (ep : Int)) && (way == 0 || way == 1)) := by
  rw [← Hz.out, Bool.eq_iff_iff, decide_eq_true_iff, Hn.out]
  simp only [Bool.and_eq_true, Bool.or_eq_true, decide_eq_true_eq, beq_iff_eq]
  omega
 subst hzz
 by_cases h4 : 1 ≤ (ep : Int)
 · cases h5 : way == 0 <;> cases h6 : way == 1 <;> (
    go_enter Tryz.func55, Tryz.ntmps55
    go_wp2
    go_ret
    exact ⟨by first | (simp [h4, h5, h6]; done) | (simp only [beq_eq_false_iff_ne, ne_eq] at h5 h6; simp [h5, h6]; exact fun _ => ⟨h5, h6⟩), HB.out⟩)
 · go_enter Tryz.func55, Tryz.ntmps55
   go_wp2
   go_ret
   exact ⟨by simp; intro h; omega, HB.out⟩
set_option maxRecDepth 100000 in
set_option maxHeartbeats 2000000 in
theorem Check_any (e : Ed) (hi : e.In) (w : World) : Calls Tryz.prog 34 #[e.val] w fun r w' => r = .returned (.int .i64 (chkE e)) ∧ Below w.heap.size w w' := by
 have hk := hi.k
 obtain ⟨W, hW⟩ : ∃ W, w.alloc (.cells e.cs.toArray 32) = W := ⟨_, rfl⟩
 have hr : Row W w.heap.size e.cs 32 := hW ▸ Row.new rfl rfl
 have hb : Below w.heap.size w W := hW ▸ (Below.refl _ w).alloc (Nat.le_refl _) _
 have HB := Lib.hid hb
 have HK := Lib.hid hk
 have HI := Lib.hid hi
 have HL0 := Lib.hid (l_end hr hk)
 have HBe := Lib.hid (build_en hk W)
 have HN := Lib.hid (fun y => isNamed_any e hk y)
 obtain ⟨ev, hev⟩ : ∃ ev, e.val = ev := ⟨_, rfl⟩
 have HEV := Lib.hid (show ev = .agg e.cs.toArray from hev.symm)
 rw [hev] at HL0 HBe HN
 obtain ⟨z, hz⟩ : ∃ z, chkE e = z := ⟨_, rfl⟩
 have Hz := Lib.hid hz
 rw [hz]
 clear hr hb hz hi hk hev
 unfold Ed.val
 go_enter Tryz.func34, Tryz.ntmps34
 go_wp2_with (first
  | (refine QB.wpList_ld 32 rfl rfl HL0.out (by kernel_rfl) ?_; clear HL0)
  | (refine wpList_bp rfl 90 _ rfl (ps := #[(0, ev)]) (by kernel_rfl) HBe.out ?_; clear HBe)
  | (refine QB.wpList_alloc rfl 90 rfl zero_en ?_; intro X1 hx1 hy1; have HX1 := Lib.hid (show Row X1 W.heap.size zed.cs 90 from hx1); have HY1 := Lib.hid hy1; clear hx1 hy1)
  | (refine wpList_storeRow rfl 90 _ _ rfl rfl (cs := e.cs) HEV.out HX1.out (by kernel_rfl) (Ed.len HK.out) (Ed.len zed_K) e.one ?_
     refine QB.name fun W1 hZ => ?_
     have hb6 : Below W.heap.size W W1 := hZ ▸ below_setRow HY1.out (Nat.le_refl _) _
     have HR := Lib.hid (show Row W1 W.heap.size e.cs 90 from hZ ▸ HX1.out.setRow _)
     have HB1 := Lib.hid (nextB HB.out (Nat.le_refl _) hb6)
     have HL1 := Lib.hid (show (loadVar 90 ⟨W.heap.size, 0, none⟩).run Tryz.prog W1 = .ok ev W1 by rw [HEV.out]; exact l_en HR.out HK.out)
     clear hZ hb6 HX1 HY1)
  | (refine QB.wpList_ld 90 rfl rfl HL1.out (by kernel_rfl) ?_; clear HL1)
  | fail)
 clear hW
 refine (HN.out W1).mono ?_
 rintro r w2 ⟨rfl, hb2⟩
 have HB2 := Lib.hid (nextB HB1.out (Nat.le_refl _) hb2)
 have HR2 := Lib.hid (HR.out.below hb2 HR.out.lt)
 have c42 := c_stock HR2.out HK.out
 obtain ⟨stock, hst⟩ : ∃ x, e.stock = x := ⟨_, rfl⟩
 rw [hst] at c42
 have HST := Lib.hid hst
 clear hb2 HN HR hst
 by_cases hN : Named e
 · have hN' : decide (Named e) = true := decide_eq_true hN
   have HNn := Lib.hid hN
   rw [hN']
   clear hN hN'
   by_cases h1 : stock < 1
   · obtain rfl : z = 2 := by rw [← Hz.out]; exact if_neg fun h => by have := h.2.1; have := HST.out; omega
     go_wp2
     go_ret
     exact ⟨rfl, HB2.out⟩
   by_cases h2 : 65536 < stock
   · obtain rfl : z = 2 := by rw [← Hz.out]; exact if_neg fun h => by have := h.2.2.1; have := HST.out; omega
     go_wp2
     go_ret
     exact ⟨rfl, HB2.out⟩
   have HS := Lib.hid (show 1 ≤ e.stock ∧ e.stock ≤ 65536 by have := HST.out; omega)
   have c36 := c_n HR2.out HK.out
   have c37 := c_l HR2.out HK.out
   go_wp2_with fail
   clear c36 c37
   by_cases hL : Lea.Ok e.n e.l
   · have HLk := Lib.hid hL
     refine (Lea.Check_ok e.n e.l w2 hL).mono ?_
     clear hL
     rintro r w3 ⟨rfl, hw3⟩
     have hb3 : Below w2.heap.size w2 w3 := hw3 ▸ (Below.refl _ w2).alloc (Nat.le_refl _) _
     have HB3 := Lib.hid (nextB HB2.out (Nat.le_refl _) hb3)
     have HR3 := Lib.hid (HR2.out.below hb3 HR2.out.lt)
     have c38 := c_f HR3.out HK.out
     have c39 := c_t HR3.out HK.out
     have c40 := c_s HR3.out HK.out
     have c41 := c_m HR3.out HK.out
     clear hw3 hb3
     go_wp2_with fail
     clear c38 c39 c40 c41
     by_cases hWi : Win.Ok e.f e.t e.s e.m
     · refine (Win.Check_ok e.f e.t e.s e.m w3 HI.out.w.2.2.1 hWi).mono ?_
       rintro r w4 ⟨rfl, hw4⟩
       have hb4 : Below w3.heap.size w3 w4 := hw4 ▸ (Below.refl _ w3).alloc (Nat.le_refl _) _
       have HB4 := Lib.hid (nextB HB3.out (Nat.le_refl _) hb4)
       obtain rfl : z = 0 := by rw [← Hz.out]; exact if_pos ⟨HNn.out, HS.out.1, HS.out.2, HLk.out, hWi⟩
       clear hw4 hb4 hWi
       go_wp2
       go_ret
       exact ⟨rfl, HB4.out⟩
     · refine (Win.Check_no e.f e.t e.s e.m w3 HI.out.w.1 HI.out.w.2.1 HI.out.w.2.2.1 HI.out.w.2.2.2 hWi).mono ?_
       rintro r w4 ⟨rfl, hw4⟩
       have hb4 : Below w3.heap.size w3 w4 := hw4 ▸ (Below.refl _ w3).alloc (Nat.le_refl _) _
       have HB4 := Lib.hid (nextB HB3.out (Nat.le_refl _) hb4)
       obtain rfl : z = 2 := by rw [← Hz.out]; exact if_neg fun h => hWi h.2.2.2.2
       clear hw4 hb4 hWi
       go_wp2
       go_ret
       exact ⟨rfl, HB4.out⟩
   · refine (Lea.Check_no e.n e.l w2 HI.out.l hL).mono ?_
     rintro r w3 ⟨rfl, hw3⟩
     have hb3 : Below w2.heap.size w2 w3 := hw3 ▸ (Below.refl _ w2).alloc (Nat.le_refl _) _
     have HB3 := Lib.hid (nextB HB2.out (Nat.le_refl _) hb3)
     obtain rfl : z = 2 := by rw [← Hz.out]; exact if_neg fun h => hL h.2.2.2.1
     clear hw3 hb3 hL
     go_wp2
     go_ret
     exact ⟨rfl, HB3.out⟩
 · have hN' : decide (Named e) = false := decide_eq_false hN
   obtain rfl : z = 2 := by rw [← Hz.out]; exact if_neg fun h => hN h.1
   rw [hN']
   clear hN hN'
   go_wp2
   go_ret
   exact ⟨rfl, HB2.out⟩
set_option maxRecDepth 100000 in
set_option maxHeartbeats 2000000 in
theorem checked_any (e : Ed) (hi : e.In) (w : World) : Calls Tryz.prog 26 #[e.val] w fun r w' => ((Valid e → r = .returned (.tuple #[e.val, .int .i64 0])) ∧ (¬ Valid e → r = .returned (.tuple #[zed.val, .int .i64 2]))) ∧ Below w.heap.size w w' := by
 have hk := hi.k
 obtain ⟨W, hW⟩ : ∃ W, w.alloc (.cells e.cs.toArray 90) = W := ⟨_, rfl⟩
 have hr : Row W w.heap.size e.cs 90 := hW ▸ Row.new rfl rfl
 have hb : Below w.heap.size w W := hW ▸ (Below.refl _ w).alloc (Nat.le_refl _) _
 have HB := Lib.hid hb
 have HK := Lib.hid hk
 have HR := Lib.hid hr
 have HC := Lib.hid (fun y => Check_any e hi y)
 obtain ⟨ev, hev⟩ : ∃ ev, e.val = ev := ⟨_, rfl⟩
 have HEV := Lib.hid (show ev = .agg e.cs.toArray from hev.symm)
 have FL := Lib.hid (fun (y : World) (h : Row y w.heap.size e.cs 90) => show (loadVar 32 ⟨w.heap.size, 0, none⟩).run Tryz.prog y = .ok ev y from hev ▸ l_end h hk)
 rw [hev] at HC ⊢
 rw [HEV.out]
 clear hr hb hi hk hev
 go_enter Tryz.func26, Tryz.ntmps26
 go_wp2_with (first
  | (refine QB.wpList_alloc rfl 32 rfl zero_End ?_; intro X1 hx1 hy1
     have HX1 := Lib.hid (show Row X1 W.heap.size zed.cs 32 from hx1)
     have HY1 := Lib.hid (nextB HB.out (Nat.le_refl _) hy1)
     have HR1 := Lib.hid (HR.out.below hy1 HR.out.lt)
     have HL := Lib.hid (FL.out X1 HR1.out)
     clear hx1 hy1 HR)
  | (refine QB.wpList_ld 32 rfl rfl HL.out (by kernel_rfl) ?_; clear HL)
  | fail)
 clear hW
 refine (HC.out X1).mono ?_
 rintro r w2 ⟨rfl, hb2⟩
 have HB2 := Lib.hid (nextB HY1.out (Nat.le_refl _) hb2)
 have HR2 := Lib.hid (HR1.out.below hb2 HR1.out.lt)
 have HX2 := Lib.hid (HX1.out.below hb2 HX1.out.lt)
 have HGE := Lib.hid (show w.heap.size ≤ W.heap.size from HB.out.size)
 clear hb2 HR1 HX1 HY1 HC
 by_cases hV : Valid e
 · rw [show chkE e = 0 from if_pos hV]
   have HV := Lib.hid hV
   have HL := Lib.hid (FL.out w2 HR2.out)
   clear hV
   go_wp2_with (first
    | (refine QB.wpList_ld 32 rfl rfl HL.out (by kernel_rfl) ?_; clear HL)
    | (refine wpList_storeRow rfl 32 _ _ rfl rfl (cs := e.cs) HEV.out HX2.out (by kernel_rfl) (Ed.len HK.out) (Ed.len zed_K) e.one ?_
       refine QB.name fun V2 hZ => ?_
       have R2 := Lib.hid (show Row V2 W.heap.size e.cs 32 from hZ ▸ HX2.out.setRow _)
       have HBV := Lib.hid (show Below w.heap.size w V2 from hZ ▸ below_setRow HB2.out HGE.out _)
       clear hZ)
    | fail)
   refine bodyPost_ret (results_ct (cs := e.cs) rfl rfl R2.out Tryz.underlying32 rfl (by kernel_rfl) (Ed.len HK.out)) rfl ?_
   exact ⟨⟨fun _ => rfl, fun h => absurd HV.out h⟩, HBV.out⟩
 · rw [show chkE e = 2 from if_neg hV]
   have HV := Lib.hid hV
   have HB0 := Lib.hid (build_End0 w2)
   clear hV
   go_wp2_with (first
    | (refine wpList_bp rfl 32 _ rfl (ps := #[]) (by kernel_rfl) HB0.out ?_; clear HB0)
    | (refine wpList_storeRow rfl 32 _ _ rfl rfl (cs := zed.cs) rfl HX2.out (by kernel_rfl) (Ed.len zed_K) (Ed.len zed_K) zed.one ?_
       refine QB.name fun V2 hZ => ?_
       have R2 := Lib.hid (show Row V2 W.heap.size zed.cs 32 from hZ ▸ HX2.out.setRow _)
       have HBV := Lib.hid (show Below w.heap.size w V2 from hZ ▸ below_setRow HB2.out HGE.out _)
       clear hZ)
    | fail)
   refine bodyPost_ret (results_ct (cs := zed.cs) rfl rfl R2.out Tryz.underlying32 rfl (by kernel_rfl) (Ed.len zed_K)) rfl ?_
   exact ⟨⟨fun h => absurd h HV.out, fun _ => rfl⟩, HBV.out⟩
end Go.Proofs.YtedmogacklbcmaaGreatDoor.Ses
namespace Go.Proofs.YtedmogacklbcmaaGreatDoor.Ses
open Go.RowKit
open Shk (wp_ld)
theorem op_bp {P : Program} {o : Oper} {a : Act} {w : World} {K : Act → World → Prop} {Q : Exit → Act → World → Prop} (t : TypeId) (parts : Array (Nat × Operand)) (ho : o.op = .build t parts) {ps : Array (Nat × Value)} (hp : (parts.map fun (i, x) => (i, a.eval x)) = ps) {v : Value} (hrun : (Instr.build t ps).run P w = .ok v w) (h : K (a.put o.dst v) w) : o.wp P a w K Q := by
 unfold Oper.wp execOp
 simp only [ho, hp, Sem.run_bind, Sem.run_pure, Result.andThen_ok, hrun]
 exact h
def newE (sid : Nat) (peer : Int) (sec : List UInt8) (ep : Nat) (way stock : Int) : Ed :=
 if way = 0 then ⟨sid, peer, sec, ep, way, 1, 1152921504606846976, 1, 0, 0, 1152921504606846977, stock⟩ else ⟨sid, peer, sec, ep, way, 1, 0, 1, 0, 0, 1, stock⟩
theorem fit1 : Win.Fits 1 0 0 1 := ⟨by decide, by decide, by decide, by decide⟩
theorem fit2 : Win.Fits 1 0 0 1152921504606846977 := ⟨by decide, by decide, by decide, by decide⟩
theorem newE_In {sid : Nat} {peer : Int} {sec : List UInt8} {ep : Nat} {way stock : Int} (hk : sec.length = 32) (hs : sid < 18446744073709551616) (he : ep < 4294967296) : (newE sid peer sec ep way stock).In := by
 unfold newE
 split
 · exact ⟨hk, hs, he, by show (1152921504606846976 : Nat) < 18446744073709551616; decide, fit2⟩
 · exact ⟨hk, hs, he, by show (0 : Nat) < 18446744073709551616; decide, fit1⟩
def newM (lo : Nat) : By.Mark Grew := ⟨fun v w => ∃ g, v = .pointer (some ⟨g, 0, none⟩) ∧ lo ≤ g ∧ Row w g zed.cs 90, fun _ _ _ ⟨g, h1, h3, h4⟩ h => ⟨g, h1, h3, h4.below h h4.lt⟩⟩
theorem ok10 : Lea.Ok 1 0 := ⟨by decide, by decide, by decide⟩
theorem wok1 : Win.Ok 1 0 0 1 := ⟨by decide, by decide, by decide, by decide, by decide, by decide, by decide⟩
set_option maxRecDepth 100000 in
set_option maxHeartbeats 4000000 in
theorem New_any (sid : Nat) (peer : Int) (sec : List UInt8) (hk : sec.length = 32) (ep : Nat) (way stock : Int) (hs : sid < 18446744073709551616) (he : ep < 4294967296) (w : World) :
 Calls Tryz.prog 7 #[.agg (.int .u64 (sid : Int) :: .int .i64 peer :: sec.map bv).toArray, .int .u32 (ep : Int), .int .i64 way, .int .i64 stock] w fun r w' => ((Valid (newE sid peer sec ep way stock) → r = .returned (.tuple #[(newE sid peer sec ep way stock).val, .int .i64 0])) ∧ (¬ Valid (newE sid peer sec ep way stock) → r = .returned (.tuple #[zed.val, .int .i64 2]))) ∧ Below w.heap.size w w' := by
 obtain ⟨E, hE⟩ : ∃ E : Ed, (⟨sid, peer, sec, ep, way, 1, 0, 1, 0, 0, 1, stock⟩ : Ed) = E := ⟨_, rfl⟩
 have HE := Lib.hid hE
 have HK := Lib.hid (show E.K by rw [← hE]; exact hk)
 have HBs := Lib.hid (show ∀ y : World, (Instr.build 32 #[(0, .agg (.int .u64 (sid : Int) :: .int .i64 peer :: sec.map bv).toArray), (1, .int .u32 (ep : Int)), (2, .int .i64 way), (3, Lea.cv 1 0), (4, Win.wv 1 0 0 1), (5, .int .i64 stock)]).run Tryz.prog y = .ok E.val y from fun y => by have h := build_End (e := E) (by rw [← hE]; exact hk) y; rw [← hE] at h ⊢; exact h)
 have HBe := Lib.hid (fun y => build_en HK.out y)
 have HNI := Lib.hid (newE_In (peer := peer) (way := way) (stock := stock) hk hs he)
 obtain ⟨X, hX⟩ : ∃ X, newE sid peer sec ep way stock = X := ⟨_, rfl⟩
 rw [hX] at HNI ⊢
 have HX := Lib.hid hX
 obtain ⟨sc, hsc⟩ : ∃ sc, (.int .u64 (sid : Int) :: .int .i64 peer :: sec.map bv : List Value) = sc := ⟨_, rfl⟩
 obtain ⟨W, hW⟩ : ∃ W, w.alloc (.cells sc.toArray 25) = W := ⟨_, rfl⟩
 have hr : Row W w.heap.size sc 25 := hW ▸ Row.new rfl rfl
 have hb : Below w.heap.size w W := hW ▸ (Below.refl _ w).alloc (Nat.le_refl _) _
 have HB := Lib.hid hb
 have HR := Lib.hid hr
 have FS := Lib.hid (fun (y : World) (h : Row y w.heap.size sc 25) => show (loadVar 25 ⟨w.heap.size, 0, none⟩).run Tryz.prog y = .ok (.agg sc.toArray) y from by rw [← hsc] at h ⊢; exact l_ses0 h hk)
 rw [hsc] at HBs ⊢
 obtain ⟨ev, hev⟩ : ∃ ev, E.val = ev := ⟨_, rfl⟩
 have HEV := Lib.hid (show ev = .agg E.cs.toArray from hev.symm)
 rw [hev] at HBs HBe
 clear hE hk hs he hX hsc hr hb hev
 go_enter Tryz.func7, Tryz.ntmps7
 go_wp2_with (first
  | (refine QB.wpList_alloc rfl 32 rfl zero_End ?_; intro X1 hx1 hy1
     have HX1 := Lib.hid (show Row X1 W.heap.size zed.cs 32 from hx1)
     have HY1 := Lib.hid (nextB HB.out (Nat.le_refl _) hy1)
     have HR1 := Lib.hid (HR.out.below hy1 HR.out.lt)
     clear hx1 hy1 HR)
  | fail)
 clear hW
 refine Tail.marksAt Pol.mixed 9 Grew [By.is (.agg sc.toArray),
  By.is (.int .u32 (ep : Int)),
  By.is (.int .i64 way),
  By.is (Lea.cv 1 0),
  By.is (Win.wv 1 0 0 1),
  By.is (.int .i64 stock),
  By.is ev,
  By.is ev,
  newM X1.heap.size]
  (Ev.masks _ []) (Nat.zero_lt_succ _) (by kernel_rfl) (by kernel_rfl) rfl Grew.refl Grew.trans ⟨?_, ?_, ?_, ?_, ?_, ?_, ?_, ?_, ?_, trivial⟩ ?_
 · intro a w1 ht hs hg
   have h4 := By.same_get hs 4 (by decide) (by kernel_rfl)
   refine By.yes rfl ?_
   clear hs hg
   have hr := FS.out w1 (Row.below (w := X1.drew) HR1.out ht HR1.out.lt)
   refine wp_ld 25 _ rfl h4 hr ?_
   exact ⟨_, rfl, Grew.refl _, rfl⟩
 · intro a w1 ht hs hg
   have h1 := By.same_get hs 1 (by decide) (by kernel_rfl)
   refine By.yes rfl ?_
   clear hs hg
   go_simp
   exact ⟨_, rfl, Grew.refl _, rfl⟩
 · intro a w1 ht hs hg
   have h2 := By.same_get hs 2 (by decide) (by kernel_rfl)
   refine By.yes rfl ?_
   clear hs hg
   go_simp
   exact ⟨_, rfl, Grew.refl _, rfl⟩
 · intro a w1 ht hs hg
   refine By.yes rfl ?_
   clear hs hg
   clear ht
   go_simp
   refine (Lea.New_any w1).mono ?_
   rintro r w2 ⟨rfl, hw2⟩
   exact ⟨_, rfl, hw2 ▸ (Below.refl _ w1).alloc (Nat.le_refl _) _, rfl⟩
 · intro a w1 ht hs hg
   refine By.yes rfl ?_
   clear hs hg
   clear ht
   go_simp
   refine (Win.New_any w1).mono ?_
   rintro r w2 ⟨rfl, hw2⟩
   exact ⟨_, rfl, hw2 ▸ (Below.refl _ w1).alloc (Nat.le_refl _) _, rfl⟩
 · intro a w1 ht hs hg
   have h3 := By.same_get hs 3 (by decide) (by kernel_rfl)
   refine By.yes rfl ?_
   clear hs hg
   go_simp
   exact ⟨_, rfl, Grew.refl _, rfl⟩
 · intro a w1 ht hs hg
   have h11 : a.tmps.getD 11 undef = _ := By.given_get hg 0 rfl rfl (by kernel_rfl)
   have h12 : a.tmps.getD 12 undef = _ := By.given_get hg 1 rfl rfl (by kernel_rfl)
   have h13 : a.tmps.getD 13 undef = _ := By.given_get hg 2 rfl rfl (by kernel_rfl)
   have h14 : a.tmps.getD 14 undef = _ := By.given_get hg 3 rfl rfl (by kernel_rfl)
   have h15 : a.tmps.getD 15 undef = _ := By.given_get hg 4 rfl rfl (by kernel_rfl)
   have h16 : a.tmps.getD 16 undef = _ := By.given_get hg 5 rfl rfl (by kernel_rfl)
   refine By.yes rfl ?_
   clear hs hg
   refine op_bp 32 _ rfl (ps := #[(0, .agg sc.toArray), (1, .int .u32 (ep : Int)), (2, .int .i64 way), (3, Lea.cv 1 0), (4, Win.wv 1 0 0 1), (5, .int .i64 stock)]) (Eq.trans (b := #[(0, a.tmps.getD 11 undef), (1, a.tmps.getD 12 undef), (2, a.tmps.getD 13 undef), (3, a.tmps.getD 14 undef), (4, a.tmps.getD 15 undef), (5, a.tmps.getD 16 undef)]) (by kernel_rfl) (by rw [h11, h12, h13, h14, h15, h16])) (HBs.out w1) ?_
   exact ⟨_, rfl, Grew.refl _, rfl⟩
 · intro a w1 ht hs hg
   have h17 : a.tmps.getD 17 undef = _ := By.given_get hg 6 rfl rfl (by kernel_rfl)
   refine By.yes rfl ?_
   clear hs hg
   refine op_bp 90 _ rfl (ps := #[(0, ev)]) (Eq.trans (b := #[(0, a.tmps.getD 17 undef)]) (by kernel_rfl) (by rw [h17])) (HBe.out w1) ?_
   exact ⟨_, rfl, Grew.refl _, rfl⟩
 · intro a w1 ht hs hg
   refine By.yes rfl ?_
   clear hs hg
   have hBw : X1.heap.size ≤ w1.heap.size := (show X1.drew.heap.size ≤ w1.heap.size from ht.size)
   refine Oper.wp_mono ?_ (show Oper.wp Tryz.prog _ a w1 (fun a' w' => a' = a.put (some 10) (.pointer (some ⟨w1.heap.size, 0, none⟩)) ∧ w' = w1.alloc (.cells zed.cs.toArray 90)) _ from by
    go_simp
    first | rfl | exact ⟨rfl, rfl⟩)
   rintro a' w' ⟨rfl, rfl⟩
   exact ⟨_, rfl, (Below.refl _ w1).alloc (Nat.le_refl _) _, _, rfl, hBw, Row.new rfl rfl⟩
 refine By.ends_is (By.ends_is (By.ends_is (By.ends_is (By.ends_is (By.ends_is (By.ends_is (By.ends_is (By.ends_any fun v10 => (By.ends_nil fun w9 hw9 => ?_)))))))))
 simp only [Act.put, List.setIfInBounds_toArray, List.set_cons_succ, List.set_cons_zero]
 simp only [List.drop_succ_cons, List.drop_zero]
 obtain ⟨hgr, g10, rfl, hg10, hr10⟩ := hw9
 have hb9 : Below X1.heap.size X1 w9 := ⟨hgr.os, hgr.tape, hgr.output, hgr.size, hgr.block⟩
 have HB9 := Lib.hid (nextB HY1.out (Nat.le_refl _) hb9)
 have HX9 := Lib.hid (HX1.out.below hb9 HX1.out.lt)
 have HR10 := Lib.hid hr10
 have HG := Lib.hid (show w.heap.size ≤ W.heap.size ∧ W.heap.size < g10 from ⟨HB.out.size, Nat.lt_of_lt_of_le HX1.out.lt hg10⟩)
 clear hgr hg10 hr10 hb9 HX1 HR1 HY1 HB HBs HBe FS
 by_cases hway : way = 0
 · have hw0 : (way == 0) = true := by rw [hway]; rfl
   have HWY := Lib.hid hway
   clear hway
   go_wp2_with (first
    | (refine wpList_storeRow rfl 90 _ _ rfl rfl (cs := E.cs) HEV.out HR10.out (by kernel_rfl) (Ed.len HK.out) (Ed.len zed_K) E.one ?_
       refine QB.name fun V hZ => ?_
       have HRE := Lib.hid (show Row V g10 E.cs 90 from hZ ▸ HR10.out.setRow _)
       have HXV := Lib.hid (row_grown HX9.out (hZ ▸ only_setRow _ : w9.grownBy V (some g10)) (by have := HG.out; omega))
       have HBV := Lib.hid (show Below w.heap.size w V from hZ ▸ below_setRow HB9.out (by have := HG.out; omega) _)
       have c35 : V.cell? ⟨g10, 35, none⟩ = some (.int .i64 way) := (c_way HRE.out HK.out).trans (by rw [← HE.out])
       have c36 : V.cell? ⟨g10, 36, none⟩ = some (.int .u64 ((1 : Nat) : Int)) := (c_n HRE.out HK.out).trans (by rw [← HE.out])
       have c37 : V.cell? ⟨g10, 37, none⟩ = some (.int .u64 ((0 : Nat) : Int)) := (c_l HRE.out HK.out).trans (by rw [← HE.out])
       clear hZ HB9 HX9 HR10)
    | fail)
   clear c35 c36 c37
   refine (Lea.Lease_ok 1 0 1152921504606846976 V ok10 (by decide) (by decide)).mono ?_
   rintro r w10 ⟨rfl, hb⟩
   rw [show 0 + min 1152921504606846976 (1152921504606846976 - 0) = 1152921504606846976 by decide]
   have HB10 := Lib.hid (nextB HBV.out (Nat.le_refl _) hb)
   have HRE10 := Lib.hid (HRE.out.below hb HRE.out.lt)
   have HX10 := Lib.hid (HXV.out.below hb HXV.out.lt)
   clear hb HBV HRE HXV
   go_wp2_with (first
    | (show wpList _ _ _ (⟨none, .store 28 (.tmp 31) (.tmp 28), _, _, _, _⟩ :: _) _ _
       refine Pol.wpList_storeSub rfl 28 (.tmp 31) (.tmp 28) rfl (cs := [.int .u64 ((1 : Nat) : Int), .int .u64 ((1152921504606846976 : Nat) : Int)]) rfl rfl HRE10.out (by kernel_rfl) rfl (by rw [Ed.len HK.out]; decide) (by intro v hv; simp only [List.mem_cons, List.not_mem_nil, or_false] at hv; rcases hv with rfl | rfl <;> rfl) ?_
       refine QB.name fun W11 hZ => ?_
       have HR11 := Lib.hid (show Row W11 g10 { E with n := 1, l := 1152921504606846976 }.cs 90 from hZ ▸ sp_out HK.out 1 1152921504606846976 ▸ HRE10.out.setRow _)
       have HX11 := Lib.hid (row_grown HX10.out (hZ ▸ only_setRow _ : w10.grownBy W11 (some g10)) (by have := HG.out; omega))
       have HB11 := Lib.hid (show Below w.heap.size w W11 from hZ ▸ below_setRow HB10.out (by have := HG.out; omega) _)
       have c38 : W11.cell? ⟨g10, 38, none⟩ = some (.int .u64 ((1 : Nat) : Int)) := (c_f HR11.out HK.out).trans (by rw [← HE.out])
       have c39 : W11.cell? ⟨g10, 39, none⟩ = some (.int .u64 ((0 : Nat) : Int)) := (c_t HR11.out HK.out).trans (by rw [← HE.out])
       have c40 : W11.cell? ⟨g10, 40, none⟩ = some (.int .u64 ((0 : Nat) : Int)) := (c_s HR11.out HK.out).trans (by rw [← HE.out])
       have c41 : W11.cell? ⟨g10, 41, none⟩ = some (.int .u64 ((1 : Nat) : Int)) := (c_m HR11.out HK.out).trans (by rw [← HE.out])
       clear hZ HB10 HX10 HRE10)
    | fail)
   clear c38 c39 c40 c41
   refine (Win.Allow_ok 1 0 0 1 1152921504606846977 W11 fit1 wok1 (by decide) (by decide)).mono ?_
   rintro r w12 ⟨rfl, hb⟩
   have HB12 := Lib.hid (nextB HB11.out (Nat.le_refl _) hb)
   have HR12 := Lib.hid (HR11.out.below hb HR11.out.lt)
   have HX12 := Lib.hid (HX11.out.below hb HX11.out.lt)
   clear hb HB11 HR11 HX11
   have HXE := Lib.hid (show ({ { E with n := 1, l := 1152921504606846976 } with f := 1, t := 0, s := 0, m := 1152921504606846977 } : Ed) = X by rw [← HX.out, ← HE.out]; unfold newE; rw [if_pos HWY.out])
   go_wp2_with (first
    | (show wpList _ _ _ (⟨none, .store 30 (.tmp 40) (.tmp 37), _, _, _, _⟩ :: _) _ _
       refine Pol.wpList_storeSub rfl 30 (.tmp 40) (.tmp 37) rfl (cs := [.int .u64 ((1 : Nat) : Int), .int .u64 ((0 : Nat) : Int), .int .u64 ((0 : Nat) : Int), .int .u64 ((1152921504606846977 : Nat) : Int)]) rfl rfl HR12.out (by kernel_rfl) rfl (by rw [Ed.len (e := { E with n := 1, l := 1152921504606846976 }) HK.out]; decide) (Win.wl_one 1 0 0 1152921504606846977) ?_
       refine QB.name fun W13 hZ => ?_
       have HRW13 := Lib.hid (show Row W13 g10 X.cs 90 from hZ ▸ HXE.out ▸ sp_in (e := { E with n := 1, l := 1152921504606846976 }) HK.out 1 0 0 1152921504606846977 ▸ HR12.out.setRow _)
       have HXW13 := Lib.hid (row_grown HX12.out (hZ ▸ only_setRow _ : w12.grownBy W13 (some g10)) (by have := HG.out; omega))
       have HBW13 := Lib.hid (show Below w.heap.size w W13 from hZ ▸ below_setRow HB12.out (by have := HG.out; omega) _)
       have HL := Lib.hid (l_en HRW13.out HNI.out.k)
       clear hZ HB12 HX12 HR12)
    | (refine QB.wpList_ld 90 rfl rfl HL.out (by kernel_rfl) ?_; clear HL)
    | fail)
   refine (checked_any X HNI.out W13).mono ?_
   rintro r w20 ⟨⟨ho, hn⟩, hb⟩
   have HB20 := Lib.hid (nextB HBW13.out (Nat.le_refl _) hb)
   have HX20 := Lib.hid (HXW13.out.below hb HXW13.out.lt)
   clear hb HBW13 HXW13
   by_cases hV : Valid X
   · have hr := ho hV
     subst hr
     have HV := Lib.hid hV
     obtain ⟨xv, hxv⟩ : ∃ xv, (X : Ed).val = xv := ⟨_, rfl⟩
     have HXV := Lib.hid (show xv = .agg (X : Ed).cs.toArray from hxv.symm)
     rw [hxv]
     clear ho hn hV hxv
     go_wp2_with (first
      | (refine wpList_storeRow rfl 32 _ _ rfl rfl (cs := (X : Ed).cs) HXV.out HX20.out (by kernel_rfl) (Ed.len HNI.out.k) (Ed.len zed_K) (Ed.one _) ?_
         refine QB.name fun V2 hZ => ?_
         have R2 := Lib.hid (show Row V2 W.heap.size (X : Ed).cs 32 from hZ ▸ HX20.out.setRow _)
         have HBZ := Lib.hid (show Below w.heap.size w V2 from hZ ▸ below_setRow HB20.out HG.out.1 _)
         clear hZ)
      | fail)
     refine bodyPost_ret (results_ct (cs := (X : Ed).cs) rfl rfl R2.out Tryz.underlying32 rfl (by kernel_rfl) (Ed.len HNI.out.k)) rfl ?_
     exact ⟨⟨fun _ => (by rw [HXV.out]; rfl), fun h => absurd HV.out h⟩, HBZ.out⟩
   · have hr := hn hV
     subst hr
     have HV := Lib.hid hV
     obtain ⟨xv, hxv⟩ : ∃ xv, zed.val = xv := ⟨_, rfl⟩
     have HXV := Lib.hid (show xv = .agg zed.cs.toArray from hxv.symm)
     rw [hxv]
     clear ho hn hV hxv
     go_wp2_with (first
      | (refine wpList_storeRow rfl 32 _ _ rfl rfl (cs := zed.cs) HXV.out HX20.out (by kernel_rfl) (Ed.len zed_K) (Ed.len zed_K) (Ed.one _) ?_
         refine QB.name fun V2 hZ => ?_
         have R2 := Lib.hid (show Row V2 W.heap.size zed.cs 32 from hZ ▸ HX20.out.setRow _)
         have HBZ := Lib.hid (show Below w.heap.size w V2 from hZ ▸ below_setRow HB20.out HG.out.1 _)
         clear hZ)
      | fail)
     refine bodyPost_ret (results_ct (cs := zed.cs) rfl rfl R2.out Tryz.underlying32 rfl (by kernel_rfl) (Ed.len zed_K)) rfl ?_
     exact ⟨⟨fun h => absurd h HV.out, fun _ => (by rw [HXV.out]; rfl)⟩, HBZ.out⟩
 · have hw0 : (way == 0) = false := by simpa using hway
   have HWY := Lib.hid hway
   have HXE := Lib.hid (show E = X by rw [← HX.out, ← HE.out]; unfold newE; rw [if_neg hway])
   clear hway
   go_wp2_with (first
    | (refine wpList_storeRow rfl 90 _ _ rfl rfl (cs := E.cs) HEV.out HR10.out (by kernel_rfl) (Ed.len HK.out) (Ed.len zed_K) E.one ?_
       refine QB.name fun V hZ => ?_
       have HRE := Lib.hid (show Row V g10 E.cs 90 from hZ ▸ HR10.out.setRow _)
       have HXV := Lib.hid (row_grown HX9.out (hZ ▸ only_setRow _ : w9.grownBy V (some g10)) (by have := HG.out; omega))
       have HBV := Lib.hid (show Below w.heap.size w V from hZ ▸ below_setRow HB9.out (by have := HG.out; omega) _)
       have c35 : V.cell? ⟨g10, 35, none⟩ = some (.int .i64 way) := (c_way HRE.out HK.out).trans (by rw [← HE.out])
       have HL := Lib.hid (l_en HRE.out HK.out)
       clear hZ HB9 HX9 HR10)
    | (refine QB.wpList_ld 90 rfl rfl HL.out (by kernel_rfl) ?_; clear HL)
    | fail)
   clear c35
   have HBV1 := HBV
   rw [HXE.out]
   refine (checked_any X HNI.out V).mono ?_
   rintro r w20 ⟨⟨ho, hn⟩, hb⟩
   have HB20 := Lib.hid (nextB HBV.out (Nat.le_refl _) hb)
   have HX20 := Lib.hid (HXV.out.below hb HXV.out.lt)
   clear hb HBV HXV
   by_cases hV : Valid X
   · have hr := ho hV
     subst hr
     have HV := Lib.hid hV
     obtain ⟨xv, hxv⟩ : ∃ xv, (X : Ed).val = xv := ⟨_, rfl⟩
     have HXV := Lib.hid (show xv = .agg (X : Ed).cs.toArray from hxv.symm)
     rw [hxv]
     clear ho hn hV hxv
     go_wp2_with (first
      | (refine wpList_storeRow rfl 32 _ _ rfl rfl (cs := (X : Ed).cs) HXV.out HX20.out (by kernel_rfl) (Ed.len HNI.out.k) (Ed.len zed_K) (Ed.one _) ?_
         refine QB.name fun V2 hZ => ?_
         have R2 := Lib.hid (show Row V2 W.heap.size (X : Ed).cs 32 from hZ ▸ HX20.out.setRow _)
         have HBZ := Lib.hid (show Below w.heap.size w V2 from hZ ▸ below_setRow HB20.out HG.out.1 _)
         clear hZ)
      | fail)
     refine bodyPost_ret (results_ct (cs := (X : Ed).cs) rfl rfl R2.out Tryz.underlying32 rfl (by kernel_rfl) (Ed.len HNI.out.k)) rfl ?_
     exact ⟨⟨fun _ => (by rw [HXV.out]; rfl), fun h => absurd HV.out h⟩, HBZ.out⟩
   · have hr := hn hV
     subst hr
     have HV := Lib.hid hV
     obtain ⟨xv, hxv⟩ : ∃ xv, zed.val = xv := ⟨_, rfl⟩
     have HXV := Lib.hid (show xv = .agg zed.cs.toArray from hxv.symm)
     rw [hxv]
     clear ho hn hV hxv
     go_wp2_with (first
      | (refine wpList_storeRow rfl 32 _ _ rfl rfl (cs := zed.cs) HXV.out HX20.out (by kernel_rfl) (Ed.len zed_K) (Ed.len zed_K) (Ed.one _) ?_
         refine QB.name fun V2 hZ => ?_
         have R2 := Lib.hid (show Row V2 W.heap.size zed.cs 32 from hZ ▸ HX20.out.setRow _)
         have HBZ := Lib.hid (show Below w.heap.size w V2 from hZ ▸ below_setRow HB20.out HG.out.1 _)
         clear hZ)
      | fail)
     refine bodyPost_ret (results_ct (cs := zed.cs) rfl rfl R2.out Tryz.underlying32 rfl (by kernel_rfl) (Ed.len zed_K)) rfl ?_
     exact ⟨⟨fun h => absurd h HV.out, fun _ => (by rw [HXV.out]; rfl)⟩, HBZ.out⟩
end Go.Proofs.YtedmogacklbcmaaGreatDoor.Ses
namespace Go.Proofs.YtedmogacklbcmaaGreatDoor.Ses
open Go.RowKit
open Shk (wp_ld)
open Pkt (dp dataOk sealedL z16 dp_ok)
set_option maxRecDepth 100000 in
set_option maxHeartbeats 2000000 in
theorem cannotSend_any (e : Ed) (hi : e.In) (hV : Valid e) (A : Option Addr) (N c : Nat) (hN : N ≤ 65536) (w : World) : Calls Tryz.prog 27 #[e.val, .slice A N c] w fun r w' => r = .returned (.int .i64 (if e.n ≤ e.l then 0 else 6)) ∧ Below w.heap.size w w' := by
 have hk := hi.k
 have hN' : ¬ (65536 : Int) < (N : Int) := by omega
 obtain ⟨W, hW⟩ : ∃ W, w.alloc (.cells e.cs.toArray 90) = W := ⟨_, rfl⟩
 have hr : Row W w.heap.size e.cs 90 := hW ▸ Row.new rfl rfl
 have hb : Below w.heap.size w W := hW ▸ (Below.refl _ w).alloc (Nat.le_refl _) _
 have HB := Lib.hid hb
 have HK := Lib.hid hk
 have HR := Lib.hid hr
 have HC := Lib.hid (fun y => Check_any e hi y)
 rw [show chkE e = 0 from if_pos hV] at HC
 have HL := Lib.hid (l_end hr hk)
 have HO := Lib.hid hV.2.2.2.1
 obtain ⟨z, hz⟩ : ∃ z : Int, (if e.n ≤ e.l then 0 else 6) = z := ⟨_, rfl⟩
 have Hz := Lib.hid hz
 rw [hz]
 clear hr hb hk hi hV hz
 unfold Ed.val at *
 go_enter Tryz.func27, Tryz.ntmps27
 go_wp2_with (first
  | (refine QB.wpList_ld 32 rfl rfl HL.out (by kernel_rfl) ?_; clear HL)
  | fail)
 refine (HC.out W).mono ?_
 rintro r w2 ⟨rfl, hb2⟩
 have HB2 := Lib.hid (nextB HB.out (Nat.le_refl _) hb2)
 have HR2 := Lib.hid (HR.out.below hb2 HR.out.lt)
 have c36 := c_n HR2.out HK.out
 have c37 := c_l HR2.out HK.out
 clear hb2 HB HR HC hW
 go_wp2_with fail
 clear c36 c37
 refine (Lea.Left_ok e.n e.l w2 HO.out).mono ?_
 rintro r w3 ⟨rfl, hw3⟩
 have HB3 := Lib.hid (show Below w.heap.size w w3 from hw3 ▸ (HB2.out.alloc HB2.out.size _).alloc (by have := HB2.out.size; simp; omega) _)
 clear hw3
 by_cases hl : e.n ≤ e.l
 · obtain rfl : z = 0 := by rw [← Hz.out]; exact if_pos hl
   have h0 : (((e.l + 1 - e.n : Nat) : Int) == 0) = false := by rw [beq_eq_false_iff_ne]; omega
   go_wp2
   go_ret
   exact ⟨rfl, HB3.out⟩
 · obtain rfl : z = 6 := by rw [← Hz.out]; exact if_neg hl
   have h0 : (((e.l + 1 - e.n : Nat) : Int) == 0) = true := by rw [beq_iff_eq]; omega
   go_wp2
   go_ret
   exact ⟨rfl, HB3.out⟩
theorem data_ok {e : Ed} (hV : Valid e) (hl : e.n ≤ e.l) : dataOk e.sid e.ep e.n := ⟨hV.1.1, hV.1.2.2.2.1, hV.2.2.2.1.1, by have := hV.2.2.2.1.2.2; omega⟩
theorem zpk : (Tryz.prog.info? 40).bind (·.zero) = some (.agg (Pkt.nm 0).cells.toArray) := by kernel_rfl
set_option maxRecDepth 100000 in
theorem build_Pk0 (w : World) : (Instr.build 40 #[]).run Tryz.prog w = .ok (.agg (Pkt.nm 0).cells.toArray) w := by kernel_rfl
theorem zctr : (Tryz.prog.info? 28).bind (·.zero) = some (.agg #[.int .u64 0, .int .u64 0]) := by kernel_rfl
structure T8 (g4 g5 : Nat) (c4 c5 : List Value) (x y : World) : Prop where
 os : y.os = x.os
 tape : y.tape = x.tape
 output : y.output = x.output
 size : x.heap.size ≤ y.heap.size
 block : ∀ i, i < x.heap.size → i ≠ g4 → i ≠ g5 → y.heap[i]? = x.heap[i]?
 r4 : Row x g4 c4 40 → Row y g4 c4 40
 r5 : Row x g5 c5 32 → Row y g5 c5 32
 l4 : ∀ n, (∃ cs, Row x g4 cs 40 ∧ cs.length = n) → ∃ cs, Row y g4 cs 40 ∧ cs.length = n
 l5 : ∀ n, (∃ cs, Row x g5 cs 32 ∧ cs.length = n) → ∃ cs, Row y g5 cs 32 ∧ cs.length = n
namespace T8
variable {g4 g5 : Nat} {c4 c5 : List Value} {x y z : World}
theorem refl (x : World) : T8 g4 g5 c4 c5 x x := ⟨rfl, rfl, rfl, Nat.le_refl _, fun _ _ _ _ => rfl, id, id, fun _ => id, fun _ => id⟩
theorem trans (h : T8 g4 g5 c4 c5 x y) (k : T8 g4 g5 c4 c5 y z) : T8 g4 g5 c4 c5 x z :=
 ⟨k.os.trans h.os, k.tape.trans h.tape, k.output.trans h.output, Nat.le_trans h.size k.size, fun i hi h4 h5 => (k.block i (Nat.lt_of_lt_of_le hi h.size) h4 h5).trans (h.block i hi h4 h5), fun r => k.r4 (h.r4 r), fun r => k.r5 (h.r5 r), fun n r => k.l4 n (h.l4 n r), fun n r => k.l5 n (h.l5 n r)⟩
theorem row {t : TypeId} {g : Nat} {cs : List Value} (h : T8 g4 g5 c4 c5 x y) (hr : Row x g cs t) (h4 : g ≠ g4) (h5 : g ≠ g5) : Row y g cs t := by
 unfold Row
 rw [h.block g hr.lt h4 h5]
 exact hr
theorem below {B : Nat} (h : T8 g4 g5 c4 c5 x y) (h4 : B ≤ g4) (h5 : B ≤ g5) (hB : B ≤ x.heap.size) : Below B x y := ⟨h.os, h.tape, h.output, h.size, fun i hi => h.block i (by omega) (by omega) (by omega)⟩
theorem row_same {t : TypeId} {g : Nat} {a b : List Value} (h : Row x g a t) (k : Row x g b t) : a = b := by
 have e := h.symm.trans k
 simp only [Option.some.injEq, Obj.cells.injEq] at e
 have := congrArg Array.toList e.1
 simpa using this
theorem store4 (hne : g4 ≠ g5) {old : List Value} (h : Row x g4 old 40) (hl : c4.length = old.length) : T8 g4 g5 c4 c5 x (x.setRow g4 c4.toArray) ∧ Row (x.setRow g4 c4.toArray) g4 c4 40 := by
 have hr : Row (x.setRow g4 c4.toArray) g4 c4 40 := h.setRow c4
 exact ⟨⟨rfl, rfl, rfl, by simp [World.setRow], fun i _ h4 _ => setRow_other x g4 i _ h4, fun _ => hr, fun r5 => r5.setOther _ _ hne.symm, fun n ⟨cs, k1, k2⟩ => ⟨c4, hr, by rw [hl, row_same h k1, k2]⟩, fun n ⟨cs, k1, k2⟩ => ⟨cs, k1.setOther _ _ hne.symm, k2⟩⟩, hr⟩
theorem store5 (hne : g4 ≠ g5) {old : List Value} (h : Row x g5 old 32) (hl : c5.length = old.length) : T8 g4 g5 c4 c5 x (x.setRow g5 c5.toArray) ∧ Row (x.setRow g5 c5.toArray) g5 c5 32 := by
 have hr : Row (x.setRow g5 c5.toArray) g5 c5 32 := h.setRow c5
 exact ⟨⟨rfl, rfl, rfl, by simp [World.setRow], fun i _ _ h5 => setRow_other x g5 i _ h5, fun r4 => r4.setOther _ _ hne, fun _ => hr, fun n ⟨cs, k1, k2⟩ => ⟨cs, k1.setOther _ _ hne, k2⟩, fun n ⟨cs, k1, k2⟩ => ⟨c5, hr, by rw [hl, row_same h k1, k2]⟩⟩, hr⟩
end T8
theorem results_cct {fn : Func} {P : Program} {w : World} {tmps : Array Value} {p q t : Tmp} {ty ty2 : TypeId} (hr : fn.results = #[.cell p ty, .cell q ty2, .tmp t]) {g g2 : Nat} {t' t2 : TypeId} {cs cs2 : List Value} {d d2 : TypeDesc}
 (hp : tmps.getD p undef = .pointer (some ⟨g, 0, none⟩)) (hq : tmps.getD q undef = .pointer (some ⟨g2, 0, none⟩)) (h : Row w g cs t') (h2 : Row w g2 cs2 t2) (hu : P.underlying ty = some d) (hu2 : P.underlying ty2 = some d2) (hd : (match d with | .struct _ | .array _ _ => true | _ => false) = true) (hd2 : (match d2 with | .struct _ | .array _ _ => true | _ => false) = true) {n n2 : Nat}
 (hi : (P.info? ty).map (·.size) = some n) (hi2 : (P.info? ty2).map (·.size) = some n2) (hn : cs.length = n) (hn2 : cs2.length = n2) : (results fn tmps).run P w = .ok (.tuple #[.agg cs.toArray, .agg cs2.toArray, tmps.getD t undef]) w := by
 have hp' : tmps[p]?.getD undef = .pointer (some ⟨g, 0, none⟩) := by simpa using hp
 have hq' : tmps[q]?.getD undef = .pointer (some ⟨g2, 0, none⟩) := by simpa using hq
 simp [results, hr, hp', hq', asAddr, run_loadVar_row w g t' ty cs.toArray (0, 0) d h hu hd (by rw [hi]; simp [hn]), run_loadVar_row w g2 t2 ty2 cs2.toArray (0, 0) d2 h2 hu2 hd2 (by rw [hi2]; simp [hn2])]
set_option maxRecDepth 100000 in
set_option maxHeartbeats 4000000 in
theorem Send_none (e : Ed) (hi : e.In) (hV : Valid e) (hl : ¬ e.n ≤ e.l) (A : Option Addr) (N c : Nat) (hN : N ≤ 65536) (w : World) : Calls Tryz.prog 9 #[e.val, .slice A N c] w fun r w' => r = .returned (.tuple #[.agg (Pkt.nm 0).cells.toArray, zed.val, .int .i64 6]) ∧ Below w.heap.size w w' := by
 have hk := hi.k
 obtain ⟨W, hW⟩ : ∃ W, w.alloc (.cells e.cs.toArray 32) = W := ⟨_, rfl⟩
 have hr : Row W w.heap.size e.cs 32 := hW ▸ Row.new rfl rfl
 have hb : Below w.heap.size w W := hW ▸ (Below.refl _ w).alloc (Nat.le_refl _) _
 have HB := Lib.hid hb
 have HK := Lib.hid hk
 have HI := Lib.hid hi
 have HVe := Lib.hid hV
 have HLE := Lib.hid hl
 have HR := Lib.hid hr
 have HC := Lib.hid (fun y => cannotSend_any e hi hV A N c hN y)
 rw [show (if e.n ≤ e.l then (0 : Int) else 6) = 6 from if_neg hl] at HC
 have FL := Lib.hid (fun (y : World) (h : Row y w.heap.size e.cs 32) => l_end h hk)
 have FN := Lib.hid (fun (y : World) (g : Nat) (h : Row y g e.cs 90) => l_en h hk)
 have HBe := Lib.hid (fun (y : World) => build_en hk y)
 obtain ⟨ev, hev⟩ : ∃ ev, e.val = ev := ⟨_, rfl⟩
 have HEV := Lib.hid (show ev = .agg e.cs.toArray from hev.symm)
 rw [hev] at HC FL FN HBe
 rw [hev, HEV.out]
 clear hr hb hk hi hV hev hl hN
 go_enter Tryz.func9, Tryz.ntmps9
 go_wp2_with (first
  | (show wpList _ _ _ (⟨some 4, _, _, _, _, _⟩ :: _) _ _
     refine QB.wpList_alloc rfl 40 rfl zpk ?_; intro X4 hx4 hy4
     have HR4 := Lib.hid (show Row X4 W.heap.size (Pkt.nm 0).cells 40 from hx4)
     have HY4 := Lib.hid (nextB HB.out (Nat.le_refl _) hy4)
     have HRe4 := Lib.hid (HR.out.below hy4 HR.out.lt)
     have HG4 := Lib.hid (show w.heap.size < W.heap.size from HR.out.lt)
     clear hx4 hy4 HR HB)
  | (show wpList _ _ _ (⟨some 5, _, _, _, _, _⟩ :: _) _ _
     refine QB.wpList_alloc rfl 32 rfl zero_End ?_; intro X5 hx5 hy5
     have HR5 := Lib.hid (show Row X5 X4.heap.size zed.cs 32 from hx5)
     have HY5 := Lib.hid (nextB HY4.out (Nat.le_refl _) hy5)
     have HRe5 := Lib.hid (HRe4.out.below hy5 HRe4.out.lt)
     have HR45 := Lib.hid (HR4.out.below hy5 HR4.out.lt)
     have HG5 := Lib.hid (show W.heap.size < X4.heap.size from HR4.out.lt)
     have HL := Lib.hid (FL.out X5 HRe5.out)
     clear hx5 hy5 HRe4 HY4 HR4)
  | (refine QB.wpList_ld 32 rfl rfl HL.out (by kernel_rfl) ?_; clear HL)
  | (refine wpList_bp rfl 90 _ rfl (ps := #[(0, ev)]) (by kernel_rfl) (HBe.out _) ?_)
  | (show wpList _ _ _ (⟨some 7, _, _, _, _, _⟩ :: _) _ _
     refine QB.wpList_alloc rfl 90 rfl zero_en ?_; intro X7 hx7 hy7
     have HX7 := Lib.hid (show Row X7 X5.heap.size zed.cs 90 from hx7); have HY7 := Lib.hid hy7; clear hx7 hy7)
  | (refine wpList_storeRow rfl 90 _ _ rfl rfl (cs := e.cs) HEV.out HX7.out (by kernel_rfl) (Ed.len HK.out) (Ed.len zed_K) e.one ?_
     refine QB.name fun W1 hZ => ?_
     have hb6 : Below X5.heap.size X5 W1 := hZ ▸ below_setRow HY7.out (Nat.le_refl _) _
     have HR7 := Lib.hid (show Row W1 X5.heap.size e.cs 90 from hZ ▸ HX7.out.setRow _)
     have HB1 := Lib.hid (nextB HY5.out (Nat.le_refl _) hb6)
     have HR51 := Lib.hid (HR5.out.below hb6 HR5.out.lt)
     have HR41 := Lib.hid (HR45.out.below hb6 HR45.out.lt)
     have HG7 := Lib.hid (show X4.heap.size < X5.heap.size from HR5.out.lt)
     have HL1 := Lib.hid (FN.out W1 _ HR7.out)
     clear hZ hb6 HX7 HY7 HY5 HR5 HR45)
  | (refine QB.wpList_ld 90 rfl rfl HL1.out (by kernel_rfl) ?_; clear HL1)
  | fail)
 obtain ⟨g4, hg4⟩ : ∃ g, W.heap.size = g := ⟨_, rfl⟩
 obtain ⟨g5, hg5⟩ : ∃ g, X4.heap.size = g := ⟨_, rfl⟩
 obtain ⟨g7, hg7⟩ : ∃ g, X5.heap.size = g := ⟨_, rfl⟩
 have HGG := Lib.hid (show w.heap.size < g4 ∧ g4 < g5 ∧ g5 < g7 by have := HG4.out; have := HG5.out; have := HG7.out; omega)
 rw [hg5] at HR51 ⊢
 rw [hg4] at HR41 ⊢
 rw [hg7] at HR7 ⊢
 clear hW hg4 hg5 hg7 HG4 HG5 HG7
 refine (HC.out W1).mono ?_
 rintro r w2 ⟨rfl, hb2⟩
 have HB2 := Lib.hid (nextB HB1.out (Nat.le_refl _) hb2)
 have HR4 := Lib.hid (HR41.out.below hb2 HR41.out.lt)
 have HR5 := Lib.hid (HR51.out.below hb2 HR51.out.lt)
 have HR7 := Lib.hid (HR7.out.below hb2 HR7.out.lt)
 clear hb2 HB1 HR41 HR51 HC
 have HB40 := Lib.hid (build_Pk0 w2)
 have HB32 := Lib.hid (fun (y : World) => build_End0 y)
 obtain ⟨zv, hzv⟩ : ∃ zv, zed.val = zv := ⟨_, rfl⟩
 have HZV := Lib.hid (show zv = .agg zed.cs.toArray from hzv.symm)
 rw [hzv] at HB32
 obtain ⟨pv, hpv⟩ : ∃ pv, Value.agg (Pkt.nm 0).cells.toArray = pv := ⟨_, rfl⟩
 have HPV := Lib.hid (show pv = .agg (Pkt.nm 0).cells.toArray from hpv.symm)
 rw [hpv] at HB40
 clear hzv hpv
 go_wp2_with (first
  | (refine wpList_bp rfl 40 _ rfl (ps := #[]) (by kernel_rfl) HB40.out ?_; clear HB40)
  | (refine wpList_bp rfl 32 _ rfl (ps := #[]) (by kernel_rfl) (HB32.out _) ?_)
  | (refine wpList_storeRow rfl 40 _ _ rfl rfl (cs := (Pkt.nm 0).cells) HPV.out HR4.out (by kernel_rfl) (Pkt.Pk.length (Pkt.nm_ok 0)) (Pkt.Pk.length (Pkt.nm_ok 0)) (Pkt.Pk.one (Pkt.nm_ok 0)) ?_
     refine QB.name fun W3 hZ => ?_
     have HR4' := Lib.hid (show Row W3 g4 (Pkt.nm 0).cells 40 from hZ ▸ HR4.out.setRow _)
     have HR5' := Lib.hid (row_grown HR5.out (hZ ▸ only_setRow _ : w2.grownBy W3 (some g4)) (by have := HGG.out; omega))
     have HB3 := Lib.hid (show Below w.heap.size w W3 from hZ ▸ below_setRow HB2.out (by have := HGG.out; omega) _)
     clear hZ HR4 HR5)
  | (refine wpList_storeRow rfl 32 _ _ rfl rfl (cs := zed.cs) HZV.out HR5'.out (by kernel_rfl) (Ed.len zed_K) (Ed.len zed_K) (Ed.one _) ?_
     refine QB.name fun W4 hZ => ?_
     have HR55 := Lib.hid (show Row W4 g5 zed.cs 32 from hZ ▸ HR5'.out.setRow _)
     have HR44 := Lib.hid (row_grown HR4'.out (hZ ▸ only_setRow _ : W3.grownBy W4 (some g5)) (by have := HGG.out; omega))
     have HB4 := Lib.hid (show Below w.heap.size w W4 from hZ ▸ below_setRow HB3.out (by have := HGG.out; omega) _)
     clear hZ HR4' HR5')
  | fail)
 refine bodyPost_ret (results_cct (cs := (Pkt.nm 0).cells) (cs2 := zed.cs) rfl rfl rfl HR44.out HR55.out Tryz.underlying40 Tryz.underlying32 rfl rfl (by kernel_rfl) (by kernel_rfl) (Pkt.Pk.length (Pkt.nm_ok 0)) (Ed.len zed_K)) rfl ?_
 exact ⟨rfl, HB4.out⟩
set_option maxRecDepth 100000 in
set_option maxHeartbeats 8000000 in
theorem Send_ok (e : Ed) (hi : e.In) (hV : Valid e) (hl : e.n ≤ e.l) (A : Option Addr) (plain : List UInt8) (c : Nat) (hN : plain.length ≤ 65536) (w : World) (ht : Tab w) (hp : Bs w w.heap.size (.slice A plain.length c) plain) :
 Calls Tryz.prog 9 #[e.val, .slice A plain.length c] w fun r w' => (∃ b R, r = .returned (.tuple #[(dp e.sid e.ep e.n (.slice (some ⟨b, 0, none⟩) (plain.length + 16) (plain.length + 16))).val, ({ e with n := e.n + 1 } : Ed).val, .int .i64 0]) ∧ w.heap.size ≤ b ∧ Row w' b ((sealedL e.sec e.way e.sid e.ep e.n plain).map bv ++ R) 5) ∧ Below w.heap.size w w' := by
 have HT := Lib.hid ht
 have HP := Lib.hid hp
 have HN := Lib.hid hN
 have HDO := Lib.hid (data_ok hV hl)
 clear ht hp
 have hk := hi.k
 obtain ⟨W, hW⟩ : ∃ W, w.alloc (.cells e.cs.toArray 32) = W := ⟨_, rfl⟩
 have hr : Row W w.heap.size e.cs 32 := hW ▸ Row.new rfl rfl
 have hb : Below w.heap.size w W := hW ▸ (Below.refl _ w).alloc (Nat.le_refl _) _
 have HB := Lib.hid hb
 have HK := Lib.hid hk
 have HI := Lib.hid hi
 have HVe := Lib.hid hV
 have HLE := Lib.hid hl
 have HR := Lib.hid hr
 have HC := Lib.hid (fun y => cannotSend_any e hi hV A plain.length c hN y)
 rw [show (if e.n ≤ e.l then (0 : Int) else 6) = 0 from if_pos hl] at HC
 have FL := Lib.hid (fun (y : World) (h : Row y w.heap.size e.cs 32) => l_end h hk)
 have FN := Lib.hid (fun (y : World) (g : Nat) (h : Row y g e.cs 90) => l_en h hk)
 have HBe := Lib.hid (fun (y : World) => build_en hk y)
 obtain ⟨ev, hev⟩ : ∃ ev, e.val = ev := ⟨_, rfl⟩
 have HEV := Lib.hid (show ev = .agg e.cs.toArray from hev.symm)
 rw [hev] at HC FL FN HBe
 rw [hev, HEV.out]
 clear hr hb hk hi hV hev hl hN
 go_enter Tryz.func9, Tryz.ntmps9
 go_wp2_with (first
  | (show wpList _ _ _ (⟨some 4, _, _, _, _, _⟩ :: _) _ _
     refine QB.wpList_alloc rfl 40 rfl zpk ?_; intro X4 hx4 hy4
     have HR4 := Lib.hid (show Row X4 W.heap.size (Pkt.nm 0).cells 40 from hx4)
     have HY4 := Lib.hid (nextB HB.out (Nat.le_refl _) hy4)
     have HRe4 := Lib.hid (HR.out.below hy4 HR.out.lt)
     have HG4 := Lib.hid (show w.heap.size < W.heap.size from HR.out.lt)
     clear hx4 hy4 HR HB)
  | (show wpList _ _ _ (⟨some 5, _, _, _, _, _⟩ :: _) _ _
     refine QB.wpList_alloc rfl 32 rfl zero_End ?_; intro X5 hx5 hy5
     have HR5 := Lib.hid (show Row X5 X4.heap.size zed.cs 32 from hx5)
     have HY5 := Lib.hid (nextB HY4.out (Nat.le_refl _) hy5)
     have HRe5 := Lib.hid (HRe4.out.below hy5 HRe4.out.lt)
     have HR45 := Lib.hid (HR4.out.below hy5 HR4.out.lt)
     have HG5 := Lib.hid (show W.heap.size < X4.heap.size from HR4.out.lt)
     have HL := Lib.hid (FL.out X5 HRe5.out)
     clear hx5 hy5 HRe4 HY4 HR4)
  | (refine QB.wpList_ld 32 rfl rfl HL.out (by kernel_rfl) ?_; clear HL)
  | (refine wpList_bp rfl 90 _ rfl (ps := #[(0, ev)]) (by kernel_rfl) (HBe.out _) ?_)
  | (show wpList _ _ _ (⟨some 7, _, _, _, _, _⟩ :: _) _ _
     refine QB.wpList_alloc rfl 90 rfl zero_en ?_; intro X7 hx7 hy7
     have HX7 := Lib.hid (show Row X7 X5.heap.size zed.cs 90 from hx7); have HY7 := Lib.hid hy7; clear hx7 hy7)
  | (refine wpList_storeRow rfl 90 _ _ rfl rfl (cs := e.cs) HEV.out HX7.out (by kernel_rfl) (Ed.len HK.out) (Ed.len zed_K) e.one ?_
     refine QB.name fun W1 hZ => ?_
     have hb6 : Below X5.heap.size X5 W1 := hZ ▸ below_setRow HY7.out (Nat.le_refl _) _
     have HR7 := Lib.hid (show Row W1 X5.heap.size e.cs 90 from hZ ▸ HX7.out.setRow _)
     have HB1 := Lib.hid (nextB HY5.out (Nat.le_refl _) hb6)
     have HR51 := Lib.hid (HR5.out.below hb6 HR5.out.lt)
     have HR41 := Lib.hid (HR45.out.below hb6 HR45.out.lt)
     have HG7 := Lib.hid (show X4.heap.size < X5.heap.size from HR5.out.lt)
     have HL1 := Lib.hid (FN.out W1 _ HR7.out)
     clear hZ hb6 HX7 HY7 HY5 HR5 HR45)
  | (refine QB.wpList_ld 90 rfl rfl HL1.out (by kernel_rfl) ?_; clear HL1)
  | fail)
 obtain ⟨g4, hg4⟩ : ∃ g, W.heap.size = g := ⟨_, rfl⟩
 obtain ⟨g5, hg5⟩ : ∃ g, X4.heap.size = g := ⟨_, rfl⟩
 obtain ⟨g7, hg7⟩ : ∃ g, X5.heap.size = g := ⟨_, rfl⟩
 have HGG := Lib.hid (show w.heap.size < g4 ∧ g4 < g5 ∧ g5 < g7 by have := HG4.out; have := HG5.out; have := HG7.out; omega)
 rw [hg5] at HR51 ⊢
 rw [hg4] at HR41 ⊢
 rw [hg7] at HR7 ⊢
 clear hW hg4 hg5 hg7 HG4 HG5 HG7
 refine (HC.out W1).mono ?_
 rintro r w2 ⟨rfl, hb2⟩
 have HB2 := Lib.hid (nextB HB1.out (Nat.le_refl _) hb2)
 have HR4 := Lib.hid (HR41.out.below hb2 HR41.out.lt)
 have HR5 := Lib.hid (HR51.out.below hb2 HR51.out.lt)
 have HR7 := Lib.hid (HR7.out.below hb2 HR7.out.lt)
 clear hb2 HB1 HR41 HR51 HC
 have c36 := c_n HR7.out HK.out
 have c37 := c_l HR7.out HK.out
 go_wp2_with fail
 clear c36 c37
 refine (Lea.Take_ok e.n e.l w2 HVe.out.2.2.2.1 HLE.out).mono ?_
 rintro r w3 ⟨rfl, hb3⟩
 have HB3 := Lib.hid (nextB HB2.out (Nat.le_refl _) hb3)
 have HR4 := Lib.hid (HR4.out.below hb3 HR4.out.lt)
 have HR5 := Lib.hid (HR5.out.below hb3 HR5.out.lt)
 have HR7 := Lib.hid (HR7.out.below hb3 HR7.out.lt)
 obtain ⟨n1, hn1⟩ : ∃ n1, e.n + 1 = n1 := ⟨_, rfl⟩
 have HN1 := Lib.hid hn1
 rw [hn1]
 have HG3 := Lib.hid (show g7 < w3.heap.size from HR7.out.lt)
 clear hb3 HB2 hn1
 have HLS := Lib.hid (fun (y : World) (h : Row y g7 e.cs 90) => l_sec h HK.out)
 obtain ⟨sv, hsv⟩ : ∃ sv, arr8 e.sec = sv := ⟨_, rfl⟩
 rw [hsv] at HLS
 have HSV := Lib.hid hsv
 clear hsv
 go_wp2_with (first
  | (show wpList _ _ _ (⟨some 10, _, _, _, _, _⟩ :: _) _ _
     refine QB.wpList_alloc rfl 28 rfl zctr ?_; intro XA hxa hya
     have HXA := Lib.hid (show Row XA w3.heap.size [.int .u64 0, .int .u64 0] 28 from hxa); have HYA := Lib.hid hya; clear hxa hya)
  | (refine wpList_storeRow rfl 28 _ _ rfl rfl (cs := [.int .u64 (n1 : Int), .int .u64 (e.l : Int)]) rfl HXA.out (by kernel_rfl) rfl rfl (by intro v hv; simp only [List.mem_cons, List.not_mem_nil, or_false] at hv; rcases hv with rfl | rfl <;> rfl) ?_
     refine QB.name fun W4 hZ => ?_
     have hb6 : Below w3.heap.size w3 W4 := hZ ▸ below_setRow HYA.out (Nat.le_refl _) _
     have HRA := Lib.hid (show Row W4 w3.heap.size [.int .u64 (n1 : Int), .int .u64 (e.l : Int)] 28 from hZ ▸ HXA.out.setRow _)
     have HB4 := Lib.hid (nextB HB3.out (Nat.le_refl _) hb6)
     have HR44 := Lib.hid (HR4.out.below hb6 HR4.out.lt)
     have HR55 := Lib.hid (HR5.out.below hb6 HR5.out.lt)
     have HR77 := Lib.hid (HR7.out.below hb6 HR7.out.lt)
     have HL := Lib.hid (HLS.out W4 HR77.out)
     have c0 := c_sid HR77.out
     have c34 := c_ep HR77.out HK.out
     have c35 := c_way HR77.out HK.out
     have HTT := Lib.hid (HT.out.below HB4.out HT.out.1)
     have HPP := Lib.hid ((HP.out.below HB4.out).more HB4.out.size)
     clear hZ hb6 HXA HYA HB3 HR4 HR5 HR7)
  | (refine QB.wpList_ld 23 rfl rfl HL.out (by kernel_rfl) ?_; clear HL)
  | fail)
 clear c0 c34 c35
 rw [← HSV.out]
 obtain ⟨gA, hgA⟩ : ∃ g, w3.heap.size = g := ⟨_, rfl⟩
 have HGA := Lib.hid (show g7 < gA by rw [← hgA]; exact HG3.out)
 rw [hgA] at HRA ⊢
 clear hgA HSV
 refine (Pkt.Seal_any e.sec plain HK.out e.way e.sid e.ep e.n A c HN.out HDO.out HI.out.sid HI.out.ep W4 HTT.out HPP.out).mono ?_
 rintro r w5 ⟨⟨b, R, rfl, hlo, hrow⟩, hb⟩
 have HB5 := Lib.hid (nextB HB4.out (Nat.le_refl _) hb)
 have HRA5 := Lib.hid (HRA.out.below hb HRA.out.lt)
 have HR44 := Lib.hid (HR44.out.below hb HR44.out.lt)
 have HR55 := Lib.hid (HR55.out.below hb HR55.out.lt)
 have HR77 := Lib.hid (HR77.out.below hb HR77.out.lt)
 have HRb := Lib.hid hrow
 have HLO := Lib.hid (show w.heap.size ≤ b ∧ gA < b from ⟨Nat.le_trans HB4.out.size hlo, Nat.lt_of_lt_of_le HRA.out.lt hlo⟩)
 obtain ⟨Pq, hPq⟩ : ∃ P, dp e.sid e.ep e.n (.slice (some ⟨b, 0, none⟩) (plain.length + 16) (plain.length + 16)) = P := ⟨_, rfl⟩
 have HPo := Lib.hid (show Pq.Ok by rw [← hPq]; exact dp_ok _ _ _ rfl)
 rw [hPq]
 have HPq := Lib.hid hPq
 obtain ⟨pv, hpv⟩ : ∃ pv, Pq.val = pv := ⟨_, rfl⟩
 have HPV := Lib.hid (show pv = .agg Pq.cells.toArray from hpv.symm)
 rw [hpv]
 clear hb HB4 HRA hrow hlo hPq hpv HTT HPP
 have HLP := Lib.hid (fun (y : World) (g : Nat) (h : Row y g Pq.cells 40) => show (loadVar 40 ⟨g, 0, none⟩).run Tryz.prog y = .ok pv y by rw [HPV.out]; exact Pkt.l_all h HPo.out)
 go_wp2_with (first
  | (show wpList _ _ _ (⟨some 12, _, _, _, _, _⟩ :: _) _ _
     refine QB.wpList_alloc rfl 40 rfl zpk ?_; intro XA hxa hya
     have HXA := Lib.hid (show Row XA w5.heap.size (Pkt.nm 0).cells 40 from hxa); have HYA := Lib.hid hya; clear hxa hya)
  | (refine wpList_storeRow rfl 40 _ _ rfl rfl (cs := Pq.cells) HPV.out HXA.out (by kernel_rfl) (Pkt.Pk.length HPo.out) (Pkt.Pk.length (Pkt.nm_ok 0)) (Pkt.Pk.one HPo.out) ?_
     refine QB.name fun W6 hZ => ?_
     have hb6 : Below w5.heap.size w5 W6 := hZ ▸ below_setRow HYA.out (Nat.le_refl _) _
     have HRP := Lib.hid (show Row W6 w5.heap.size Pq.cells 40 from hZ ▸ HXA.out.setRow _)
     have HB6 := Lib.hid (nextB HB5.out (Nat.le_refl _) hb6)
     have HR46 := Lib.hid (HR44.out.below hb6 HR44.out.lt)
     have HR56 := Lib.hid (HR55.out.below hb6 HR55.out.lt)
     have HR76 := Lib.hid (HR77.out.below hb6 HR77.out.lt)
     have HRA6 := Lib.hid (HRA5.out.below hb6 HRA5.out.lt)
     have HRb6 := Lib.hid (HRb.out.below hb6 HRb.out.lt)
     have k0 := HRA6.out.cell (i := 0) rfl
     have k1 := HRA6.out.cell (i := 1) rfl
     have HGP := Lib.hid (show b < w5.heap.size from HRb.out.lt)
     clear hZ hb6 HXA HYA HB5 HR44 HR55 HR77 HRA5 HRb)
  | (show wpList _ _ _ (⟨none, .store 28 (.tmp 54) (.tmp 52), _, _, _, _⟩ :: _) _ _
     refine Pol.wpList_storeSub rfl 28 (.tmp 54) (.tmp 52) rfl (cs := [.int .u64 (n1 : Int), .int .u64 (e.l : Int)]) rfl rfl HR76.out (by kernel_rfl) rfl (by rw [Ed.len HK.out]; simp) (by intro v hv; simp only [List.mem_cons, List.not_mem_nil, or_false] at hv; rcases hv with rfl | rfl <;> rfl) ?_
     refine QB.name fun W7 hZ => ?_
     have hgr : W6.grownBy W7 (some g7) := hZ ▸ only_setRow _
     have HR7 := Lib.hid (show Row W7 g7 ({ e with n := n1, l := e.l } : Ed).cs 90 from hZ ▸ sp_out HK.out n1 e.l ▸ HR76.out.setRow _)
     have HB7 := Lib.hid (show Below w.heap.size w W7 from hZ ▸ below_setRow HB6.out (by have := HGG.out; omega) _)
     have HR4 := Lib.hid (row_grown HR46.out hgr (by have := HGG.out; omega))
     have HR5 := Lib.hid (row_grown HR56.out hgr (by have := HGG.out; omega))
     have HRP7 := Lib.hid (row_grown HRP.out hgr (by have := HGP.out; have := HLO.out; have := HGA.out; omega))
     have HRb7 := Lib.hid (row_grown HRb6.out hgr (by have := HLO.out; have := HGA.out; omega))
     clear hZ hgr HB6 HR46 HR56 HR76 HRP HRb6)
  | fail)
 clear k0 k1
 obtain ⟨gP, hgP⟩ : ∃ g, w5.heap.size = g := ⟨_, rfl⟩
 rw [hgP] at HRP7 HGP ⊢
 clear hgP
 obtain ⟨E2, hE2⟩ : ∃ E2 : Ed, ({ e with n := n1, l := e.l } : Ed) = E2 := ⟨_, rfl⟩
 rw [hE2] at HR7
 have HE2 := Lib.hid hE2
 have HK2 := Lib.hid (show E2.K by rw [← hE2]; exact HK.out)
 obtain ⟨ew, hew⟩ : ∃ ew, E2.val = ew := ⟨_, rfl⟩
 have HEW := Lib.hid (show ew = .agg E2.cs.toArray from hew.symm)
 have HLE2 := Lib.hid (fun (y : World) (h : Row y g7 E2.cs 90) => show (loadVar 32 ⟨g7, 0, none⟩).run Tryz.prog y = .ok ew y from hew ▸ l_end h HK2.out)
 clear hE2 hew
 refine ByN.marks Pol.mixed (T8 g4 g5 Pq.cells E2.cs) [By.is pv, By.is (.pointer (some ⟨g7, 0, none⟩)), By.is ew,
  ByN.wo (fun y => Row y g4 Pq.cells 40) (fun _ _ h t => t.r4 h), ByN.wo (fun y => Row y g5 E2.cs 32) (fun _ _ h t => t.r5 h), By.is (.int .i64 0)]
  (Ev.masks _ []) (by kernel_rfl) rfl (fun _ => T8.refl _) (fun _ _ _ h k => T8.trans h k) ⟨?_, ?_, ?_, ?_, ?_, ?_, trivial⟩ ?_
 · intro a w9 ht hs hg
   have h12 := By.same_get hs 12 (by decide) (by kernel_rfl)
   refine By.yes rfl ?_
   clear hs hg
   refine wp_ld 40 _ rfl h12 (HLP.out w9 gP (ht.row (show Row W7.drew gP Pq.cells 40 from HRP7.out) (by have := HGP.out; have := HLO.out; have := HGA.out; have := HGG.out; omega) (by have := HGP.out; have := HLO.out; have := HGA.out; have := HGG.out; omega))) ?_
   exact ⟨_, rfl, T8.refl _, rfl⟩
 · intro a w9 ht hs hg
   have h7 := By.same_get hs 7 (by decide) (by kernel_rfl)
   refine By.yes rfl ?_
   clear hs hg ht
   go_simp
   exact ⟨_, rfl, T8.refl _, rfl⟩
 · intro a w9 ht hs hg
   have h56 : a.tmps.getD 56 undef = _ := ByN.given_get hg 1 rfl rfl (by kernel_rfl)
   refine By.yes rfl ?_
   clear hs hg
   refine wp_ld 32 _ rfl h56 (HLE2.out w9 (ht.row (show Row W7.drew g7 E2.cs 90 from HR7.out) (by have := HGG.out; omega) (by have := HGG.out; omega))) ?_
   exact ⟨_, rfl, T8.refl _, rfl⟩
 · intro a w9 ht hs hg
   have h4 := By.same_get hs 4 (by decide) (by kernel_rfl)
   have h55 : a.tmps.getD 55 undef = _ := ByN.given_get hg 0 rfl rfl (by kernel_rfl)
   refine By.yes rfl ?_
   clear hs hg
   obtain ⟨old, hold, hlen⟩ := ht.l4 38 ⟨_, (show Row W7.drew g4 (Pkt.nm 0).cells 40 from HR4.out), Pkt.Pk.length (Pkt.nm_ok 0)⟩
   refine Stg.wp_storeAny (n := 38) 40 _ _ rfl h4 h55 (by rw [HPV.out]; rfl) hold (by kernel_rfl) (Pkt.Pk.length HPo.out) (by rw [Pkt.Pk.length HPo.out, hlen]; exact Nat.le_refl _) (Pkt.Pk.one HPo.out) ?_
   rw [show splice old 0 Pq.cells = Pq.cells by unfold splice; rw [List.drop_of_length_le (by rw [Pkt.Pk.length HPo.out, hlen]; exact Nat.le_refl _)]; simp]
   obtain ⟨k1, k2⟩ := T8.store4 (g5 := g5) (c4 := Pq.cells) (c5 := E2.cs) (by have := HGG.out; omega) hold (by rw [Pkt.Pk.length HPo.out, hlen])
   exact ⟨_, rfl, k1, k2⟩
 · intro a w9 ht hs hg
   have h5 := By.same_get hs 5 (by decide) (by kernel_rfl)
   have h57 : a.tmps.getD 57 undef = _ := ByN.given_get hg 2 rfl rfl (by kernel_rfl)
   refine By.yes rfl ?_
   clear hs hg
   obtain ⟨old, hold, hlen⟩ := ht.l5 43 ⟨_, (show Row W7.drew g5 zed.cs 32 from HR5.out), Ed.len zed_K⟩
   refine Stg.wp_storeAny (n := 43) 32 _ _ rfl h5 h57 (by rw [HEW.out]; rfl) hold (by kernel_rfl) (Ed.len HK2.out) (by rw [Ed.len HK2.out, hlen]; exact Nat.le_refl _) (Ed.one E2) ?_
   rw [show splice old 0 E2.cs = E2.cs by unfold splice; rw [List.drop_of_length_le (by rw [Ed.len HK2.out, hlen]; exact Nat.le_refl _)]; simp]
   obtain ⟨k1, k2⟩ := T8.store5 (g4 := g4) (c4 := Pq.cells) (c5 := E2.cs) (by have := HGG.out; omega) hold (by rw [Ed.len HK2.out, hlen])
   exact ⟨_, rfl, k1, k2⟩
 · intro a w9 ht hs hg
   refine By.yes rfl ?_
   clear hs hg ht
   go_simp
   exact ⟨_, rfl, T8.refl _, rfl⟩
 refine ByN.ends_is (ByN.ends_is (ByN.ends_is (ByN.ends_any fun _ => (ByN.ends_any fun _ => (ByN.ends_is (ByN.ends_nil fun W9 hw9 => ?_))))))
 try simp only [Act.put, List.setIfInBounds_toArray, List.set_cons_succ, List.set_cons_zero]
 obtain ⟨⟨ht, hr4⟩, hr5⟩ := hw9
 have hr4 : Row W9 g4 Pq.cells 40 := hr4
 have hr5 : Row W9 g5 E2.cs 32 := hr5
 have HR4 := Lib.hid hr4
 have HR5 := Lib.hid hr5
 have HRb9 := Lib.hid (ht.row (show Row W7.drew b _ 5 from HRb7.out) (by have := HLO.out; have := HGA.out; have := HGG.out; omega) (by have := HLO.out; have := HGA.out; have := HGG.out; omega))
 have HB9 := Lib.hid (show Below w.heap.size w W9 from HB7.out.drew.trans (ht.below (x := W7.drew) (B := w.heap.size) (by have := HGG.out; omega) (by have := HGG.out; omega) HB7.out.size))
 clear ht hr4 hr5 HLP HLE2 HR7 HRP7 HRb7 HB7
 go_wp2
 refine bodyPost_ret (results_cct (cs := Pq.cells) (cs2 := E2.cs) rfl rfl rfl HR4.out HR5.out Tryz.underlying40 Tryz.underlying32 rfl rfl (by kernel_rfl) (by kernel_rfl) (Pkt.Pk.length HPo.out) (Ed.len HK2.out)) rfl ?_
 refine ⟨⟨b, R, ?_, HLO.out.1, HRb9.out⟩, HB9.out⟩
 rw [HPq.out, show ({ e with n := e.n + 1 } : Ed) = E2 by rw [← HE2.out, ← HN1.out]]
 rfl
end Go.Proofs.YtedmogacklbcmaaGreatDoor.Ses
namespace Go.Proofs.YtedmogacklbcmaaGreatDoor.Ses
open Go.RowKit
open Shk (wp_ld)
open Pkt (dp dataOk sealedL z16 dp_ok Pk chk)
theorem zwin : (Tryz.prog.info? 30).bind (·.zero) = some (.agg #[.int .u64 0, .int .u64 0, .int .u64 0, .int .u64 0]) := by kernel_rfl
noncomputable def rcnt (e : Ed) (c : Nat) : Nat := if Win.ref e.f e.t e.s e.m c = 9 then 0 else Win.ref e.f e.t e.s e.m c
noncomputable def repo (e : Ed) (p : Pk) : Nat := if p.epo < e.ep then 8 else if e.ep < p.epo then 2 else rcnt e p.cnt
noncomputable def rall (e : Ed) (p : Pk) : Nat := if p.ses ≠ e.sid then 13 else repo e p
set_option maxRecDepth 100000 in
set_option maxHeartbeats 2000000 in
theorem refCount_any (e : Ed) (hi : e.In) (p : Pk) (hp : p.In) (w : World) : Calls Tryz.prog 99 #[e.val, p.val] w fun r w' => r = .returned (.int .i64 ((rcnt e p.cnt : Nat) : Int)) ∧ Below w.heap.size w w' := by
 have hk := hi.k
 obtain ⟨W, hW⟩ : ∃ W, (w.alloc (.cells e.cs.toArray 90)).alloc (.cells p.cells.toArray 40) = W := ⟨_, rfl⟩
 have hr : Row W w.heap.size e.cs 90 := hW ▸ (Row.new rfl rfl : Row (w.alloc (.cells e.cs.toArray 90)) w.heap.size e.cs 90).alloc _
 have hq : Row W (w.heap.size + 1) p.cells 40 := hW ▸ Row.new (by simp) rfl
 have hb : Below w.heap.size w W := hW ▸ ((Below.refl _ w).alloc (Nat.le_refl _) _).alloc (by simp) _
 have HB := Lib.hid hb
 have HK := Lib.hid hk
 have HI := Lib.hid hi
 have HQ := Lib.hid hp
 have HR := Lib.hid hr
 have HP := Lib.hid hq
 obtain ⟨ev, hev⟩ : ∃ ev, e.val = ev := ⟨_, rfl⟩
 obtain ⟨pv, hpv⟩ : ∃ pv, p.val = pv := ⟨_, rfl⟩
 have HEV := Lib.hid (show ev = .agg e.cs.toArray from hev.symm)
 have HPV := Lib.hid (show pv = .agg p.cells.toArray from hpv.symm)
 have FE := Lib.hid (fun (y : World) (g : Nat) (h : Row y g e.cs 90) => show (loadVar 90 ⟨g, 0, none⟩).run Tryz.prog y = .ok ev y from hev ▸ l_en h hk)
 have FD := Lib.hid (fun (y : World) (g : Nat) (T : TypeId) (h : Row y g e.cs T) => show (loadVar 32 ⟨g, 0, none⟩).run Tryz.prog y = .ok ev y from hev ▸ l_end h hk)
 have FP := Lib.hid (fun (y : World) (g : Nat) (h : Row y g p.cells 40) => show (loadVar 40 ⟨g, 0, none⟩).run Tryz.prog y = .ok pv y by rw [← hpv]; exact Pkt.l_all h hp.ok)
 rw [hev, hpv, HEV.out, HPV.out]
 clear hr hq hb hk hi hp hev hpv
 go_enter Tryz.func99, Tryz.ntmps99
 have c38 := c_f HR.out HK.out
 have c39 := c_t HR.out HK.out
 have c40 := c_s HR.out HK.out
 have c41 := c_m HR.out HK.out
 have c4 := Pkt.c_cnt HP.out
 go_wp2_with fail
 clear c38 c39 c40 c41 c4 hW
 refine (Win.Take_any e.f e.t e.s e.m p.cnt W HI.out.w HQ.out.c).mono ?_
 rintro r w2 ⟨rfl, hb2⟩
 have HB2 := Lib.hid (nextB HB.out (Nat.le_refl _) hb2)
 obtain ⟨q, hq⟩ : ∃ q, Win.ref e.f e.t e.s e.m p.cnt = q := ⟨_, rfl⟩
 have HQ9 := Lib.hid (show rcnt e p.cnt = if q = 9 then 0 else q by unfold rcnt; rw [hq])
 rw [hq]
 clear hb2 hq HB
 by_cases h9 : q = 9
 · have h0 : ((q : Int) != 9) = false := by subst h9; rfl
   have H9 := Lib.hid h9
   clear h9
   go_wp2_with (first
    | (refine QB.wpList_alloc rfl 30 rfl zwin ?_; intro XA hxa hya
       have HXA := Lib.hid (show Row XA w2.heap.size [.int .u64 0, .int .u64 0, .int .u64 0, .int .u64 0] 30 from hxa); have HYA := Lib.hid hya; clear hxa hya)
    | (refine wpList_storeRow rfl 30 _ _ rfl rfl (cs := Win.wl _ _ _ _) rfl HXA.out (by kernel_rfl) rfl rfl (Win.wl_one _ _ _ _) ?_
       refine QB.name fun W4 hZ => ?_
       have HB4 := Lib.hid (nextB HB2.out (Nat.le_refl _) (hZ ▸ below_setRow HYA.out (Nat.le_refl _) _ : Below w2.heap.size w2 W4))
       clear hZ HXA HYA)
    | fail)
   go_ret
   exact ⟨by rw [HQ9.out, if_pos H9.out]; rfl, HB4.out⟩
 · have h0 : ((q : Int) != 9) = true := by rw [bne_iff_ne]; omega
   have H9 := Lib.hid h9
   clear h9
   go_wp2_with (first
    | (refine QB.wpList_alloc rfl 30 rfl zwin ?_; intro XA hxa hya
       have HXA := Lib.hid (show Row XA w2.heap.size [.int .u64 0, .int .u64 0, .int .u64 0, .int .u64 0] 30 from hxa); have HYA := Lib.hid hya; clear hxa hya)
    | (refine wpList_storeRow rfl 30 _ _ rfl rfl (cs := Win.wl _ _ _ _) rfl HXA.out (by kernel_rfl) rfl rfl (Win.wl_one _ _ _ _) ?_
       refine QB.name fun W4 hZ => ?_
       have HB4 := Lib.hid (nextB HB2.out (Nat.le_refl _) (hZ ▸ below_setRow HYA.out (Nat.le_refl _) _ : Below w2.heap.size w2 W4))
       clear hZ HXA HYA)
    | fail)
   go_ret
   exact ⟨by rw [HQ9.out, if_neg H9.out]; rfl, HB4.out⟩
set_option maxRecDepth 100000 in
set_option maxHeartbeats 2000000 in
theorem refEpoch_any (e : Ed) (hi : e.In) (p : Pk) (hp : p.In) (w : World) : Calls Tryz.prog 78 #[e.val, p.val] w fun r w' => r = .returned (.int .i64 ((repo e p : Nat) : Int)) ∧ Below w.heap.size w w' := by
 have hk := hi.k
 obtain ⟨W, hW⟩ : ∃ W, (w.alloc (.cells e.cs.toArray 90)).alloc (.cells p.cells.toArray 40) = W := ⟨_, rfl⟩
 have hr : Row W w.heap.size e.cs 90 := hW ▸ (Row.new rfl rfl : Row (w.alloc (.cells e.cs.toArray 90)) w.heap.size e.cs 90).alloc _
 have hq : Row W (w.heap.size + 1) p.cells 40 := hW ▸ Row.new (by simp) rfl
 have hb : Below w.heap.size w W := hW ▸ ((Below.refl _ w).alloc (Nat.le_refl _) _).alloc (by simp) _
 have HB := Lib.hid hb
 have HK := Lib.hid hk
 have HI := Lib.hid hi
 have HQ := Lib.hid hp
 have HR := Lib.hid hr
 have HP := Lib.hid hq
 obtain ⟨ev, hev⟩ : ∃ ev, e.val = ev := ⟨_, rfl⟩
 obtain ⟨pv, hpv⟩ : ∃ pv, p.val = pv := ⟨_, rfl⟩
 have HEV := Lib.hid (show ev = .agg e.cs.toArray from hev.symm)
 have HPV := Lib.hid (show pv = .agg p.cells.toArray from hpv.symm)
 have FE := Lib.hid (fun (y : World) (g : Nat) (h : Row y g e.cs 90) => show (loadVar 90 ⟨g, 0, none⟩).run Tryz.prog y = .ok ev y from hev ▸ l_en h hk)
 have FD := Lib.hid (fun (y : World) (g : Nat) (T : TypeId) (h : Row y g e.cs T) => show (loadVar 32 ⟨g, 0, none⟩).run Tryz.prog y = .ok ev y from hev ▸ l_end h hk)
 have FP := Lib.hid (fun (y : World) (g : Nat) (h : Row y g p.cells 40) => show (loadVar 40 ⟨g, 0, none⟩).run Tryz.prog y = .ok pv y by rw [← hpv]; exact Pkt.l_all h hp.ok)
 have HC := Lib.hid (fun y => refCount_any e hi p hp y)
 rw [hev, hpv] at HC
 obtain ⟨z, hz⟩ : ∃ z : Nat, repo e p = z := ⟨_, rfl⟩
 have Hz := Lib.hid hz
 rw [hz]
 clear hz
 rw [hev, hpv, HEV.out, HPV.out]
 clear hr hq hb hk hi hp hev hpv
 go_enter Tryz.func78, Tryz.ntmps78
 have HL1 := Lib.hid (FE.out W _ HR.out)
 have HL2 := Lib.hid (FP.out W _ HP.out)
 have c3 := Pkt.c_epo HP.out
 have c34 := c_ep HR.out HK.out
 obtain ⟨pe, hpe⟩ : ∃ x, p.epo = x := ⟨_, rfl⟩
 obtain ⟨ee, hee⟩ : ∃ x, e.ep = x := ⟨_, rfl⟩
 rw [hpe] at c3
 rw [hee] at c34
 have HN := Lib.hid (And.intro hpe hee)
 clear hpe hee
 by_cases h1 : (pe : Int) < (ee : Int)
 · go_wp2
   go_ret
   exact ⟨by rw [← Hz.out]; unfold repo; rw [HN.out.1, HN.out.2, if_pos (by omega)]; rfl, HB.out⟩
 by_cases h2 : (ee : Int) < (pe : Int)
 · go_wp2
   go_ret
   exact ⟨by rw [← Hz.out]; unfold repo; rw [HN.out.1, HN.out.2, if_neg (by omega), if_pos (by omega)]; rfl, HB.out⟩
 go_wp2_with (first
  | (refine QB.wpList_ld 90 rfl rfl HL1.out (by kernel_rfl) ?_; clear HL1)
  | (refine QB.wpList_ld 40 rfl rfl HL2.out (by kernel_rfl) ?_; clear HL2)
  | fail)
 refine (HC.out W).mono ?_
 rintro r w2 ⟨rfl, hb2⟩
 have HB2 := Lib.hid (nextB HB.out (Nat.le_refl _) hb2)
 clear hb2
 go_wp2
 go_ret
 exact ⟨by rw [← Hz.out]; unfold repo; rw [HN.out.1, HN.out.2, if_neg (by omega), if_neg (by omega)]; rfl, HB2.out⟩
set_option maxRecDepth 100000 in
set_option maxHeartbeats 2000000 in
theorem refSess_any (e : Ed) (hi : e.In) (p : Pk) (hp : p.In) (w : World) : Calls Tryz.prog 62 #[e.val, p.val] w fun r w' => r = .returned (.int .i64 ((rall e p : Nat) : Int)) ∧ Below w.heap.size w w' := by
 have hk := hi.k
 obtain ⟨W, hW⟩ : ∃ W, (w.alloc (.cells e.cs.toArray 90)).alloc (.cells p.cells.toArray 40) = W := ⟨_, rfl⟩
 have hr : Row W w.heap.size e.cs 90 := hW ▸ (Row.new rfl rfl : Row (w.alloc (.cells e.cs.toArray 90)) w.heap.size e.cs 90).alloc _
 have hq : Row W (w.heap.size + 1) p.cells 40 := hW ▸ Row.new (by simp) rfl
 have hb : Below w.heap.size w W := hW ▸ ((Below.refl _ w).alloc (Nat.le_refl _) _).alloc (by simp) _
 have HB := Lib.hid hb
 have HK := Lib.hid hk
 have HI := Lib.hid hi
 have HQ := Lib.hid hp
 have HR := Lib.hid hr
 have HP := Lib.hid hq
 obtain ⟨ev, hev⟩ : ∃ ev, e.val = ev := ⟨_, rfl⟩
 obtain ⟨pv, hpv⟩ : ∃ pv, p.val = pv := ⟨_, rfl⟩
 have HEV := Lib.hid (show ev = .agg e.cs.toArray from hev.symm)
 have HPV := Lib.hid (show pv = .agg p.cells.toArray from hpv.symm)
 have FE := Lib.hid (fun (y : World) (g : Nat) (h : Row y g e.cs 90) => show (loadVar 90 ⟨g, 0, none⟩).run Tryz.prog y = .ok ev y from hev ▸ l_en h hk)
 have FD := Lib.hid (fun (y : World) (g : Nat) (T : TypeId) (h : Row y g e.cs T) => show (loadVar 32 ⟨g, 0, none⟩).run Tryz.prog y = .ok ev y from hev ▸ l_end h hk)
 have FP := Lib.hid (fun (y : World) (g : Nat) (h : Row y g p.cells 40) => show (loadVar 40 ⟨g, 0, none⟩).run Tryz.prog y = .ok pv y by rw [← hpv]; exact Pkt.l_all h hp.ok)
 have HC := Lib.hid (fun y => refEpoch_any e hi p hp y)
 rw [hev, hpv] at HC
 rw [hev, hpv, HEV.out, HPV.out]
 clear hr hq hb hk hi hp hev hpv
 go_enter Tryz.func62, Tryz.ntmps62
 have HL1 := Lib.hid (FE.out W _ HR.out)
 have HL2 := Lib.hid (FP.out W _ HP.out)
 have c2 := Pkt.c_ses HP.out
 have c0 := c_sid HR.out
 by_cases h1 : p.ses = e.sid
 · have h0 : ((p.ses : Int) != (e.sid : Int)) = false := by rw [h1]; simp
   have HE1 := Lib.hid h1
   clear h1
   go_wp2_with (first
    | (refine QB.wpList_ld 90 rfl rfl HL1.out (by kernel_rfl) ?_; clear HL1)
    | (refine QB.wpList_ld 40 rfl rfl HL2.out (by kernel_rfl) ?_; clear HL2)
    | fail)
   refine (HC.out W).mono ?_
   rintro r w2 ⟨rfl, hb2⟩
   have HB2 := Lib.hid (nextB HB.out (Nat.le_refl _) hb2)
   clear hb2
   go_wp2
   go_ret
   exact ⟨by unfold rall; rw [if_neg (by simpa using HE1.out)]; rfl, HB2.out⟩
 · have h0 : ((p.ses : Int) != (e.sid : Int)) = true := by rw [bne_iff_ne]; omega
   have HE1 := Lib.hid h1
   clear h1
   go_wp2
   go_ret
   exact ⟨by unfold rall; rw [if_pos HE1.out]; rfl, HB.out⟩
set_option maxRecDepth 100000 in
set_option maxHeartbeats 2000000 in
theorem refKind_any (e : Ed) (hi : e.In) (p : Pk) (hp : p.In) (A : Option Addr) (N c : Nat) (hbo : p.bo = .slice A N c) (hck : chk p N = 0) (h3 : p.kind = 3) (w : World) : Calls Tryz.prog 51 #[e.val, p.val] w fun r w' => r = .returned (.int .i64 ((rall e p : Nat) : Int)) ∧ Below w.heap.size w w' := by
 have hk := hi.k
 obtain ⟨W, hW⟩ : ∃ W, (w.alloc (.cells e.cs.toArray 90)).alloc (.cells p.cells.toArray 40) = W := ⟨_, rfl⟩
 have hr : Row W w.heap.size e.cs 90 := hW ▸ (Row.new rfl rfl : Row (w.alloc (.cells e.cs.toArray 90)) w.heap.size e.cs 90).alloc _
 have hq : Row W (w.heap.size + 1) p.cells 40 := hW ▸ Row.new (by simp) rfl
 have hb : Below w.heap.size w W := hW ▸ ((Below.refl _ w).alloc (Nat.le_refl _) _).alloc (by simp) _
 have HB := Lib.hid hb
 have HK := Lib.hid hk
 have HI := Lib.hid hi
 have HQ := Lib.hid hp
 have HR := Lib.hid hr
 have HP := Lib.hid hq
 obtain ⟨ev, hev⟩ : ∃ ev, e.val = ev := ⟨_, rfl⟩
 obtain ⟨pv, hpv⟩ : ∃ pv, p.val = pv := ⟨_, rfl⟩
 have HEV := Lib.hid (show ev = .agg e.cs.toArray from hev.symm)
 have HPV := Lib.hid (show pv = .agg p.cells.toArray from hpv.symm)
 have FE := Lib.hid (fun (y : World) (g : Nat) (h : Row y g e.cs 90) => show (loadVar 90 ⟨g, 0, none⟩).run Tryz.prog y = .ok ev y from hev ▸ l_en h hk)
 have FD := Lib.hid (fun (y : World) (g : Nat) (T : TypeId) (h : Row y g e.cs T) => show (loadVar 32 ⟨g, 0, none⟩).run Tryz.prog y = .ok ev y from hev ▸ l_end h hk)
 have FP := Lib.hid (fun (y : World) (g : Nat) (h : Row y g p.cells 40) => show (loadVar 40 ⟨g, 0, none⟩).run Tryz.prog y = .ok pv y by rw [← hpv]; exact Pkt.l_all h hp.ok)
 have HC := Lib.hid (fun y => refSess_any e hi p hp y)
 have HCH := Lib.hid (fun y => Pkt.Check_any p hp.ok A N c hbo y)
 rw [hck] at HCH
 rw [hev, hpv] at HC
 rw [hpv] at HCH
 rw [hev, hpv, HEV.out, HPV.out]
 clear hr hq hb hk hi hp hev hpv hbo hck
 go_enter Tryz.func51, Tryz.ntmps51
 have HL2 := Lib.hid (FP.out W _ HP.out)
 go_wp2_with (first
  | (refine QB.wpList_ld 40 rfl rfl HL2.out (by kernel_rfl) ?_; clear HL2)
  | fail)
 refine (HCH.out W).mono ?_
 rintro r w1 ⟨rfl, hb1⟩
 have HB1 := Lib.hid (nextB HB.out (Nat.le_refl _) hb1)
 have HR1 := Lib.hid (HR.out.below hb1 HR.out.lt)
 have HP1 := Lib.hid (HP.out.below hb1 HP.out.lt)
 have HL1 := Lib.hid (FE.out w1 _ HR1.out)
 have HL2 := Lib.hid (FP.out w1 _ HP1.out)
 have c0 := Pkt.c_kind HP1.out
 rw [h3] at c0
 clear hb1 hW HCH HR HP h3
 go_wp2_with (first
  | (refine QB.wpList_ld 90 rfl rfl HL1.out (by kernel_rfl) ?_; clear HL1)
  | (refine QB.wpList_ld 40 rfl rfl HL2.out (by kernel_rfl) ?_; clear HL2)
  | fail)
 refine (HC.out w1).mono ?_
 rintro r w2 ⟨rfl, hb2⟩
 have HB2 := Lib.hid (nextB HB1.out (Nat.le_refl _) hb2)
 clear hb2
 go_wp2
 go_ret
 exact ⟨rfl, HB2.out⟩
set_option maxRecDepth 100000 in
set_option maxHeartbeats 2000000 in
theorem refusal_any (e : Ed) (hi : e.In) (p : Pk) (hp : p.In) (hV : Valid e) (A : Option Addr) (N c : Nat) (hbo : p.bo = .slice A N c) (hck : chk p N = 0) (h3 : p.kind = 3) (w : World) : Calls Tryz.prog 30 #[e.val, p.val] w fun r w' => r = .returned (.int .i64 ((rall e p : Nat) : Int)) ∧ Below w.heap.size w w' := by
 have hk := hi.k
 obtain ⟨W, hW⟩ : ∃ W, (w.alloc (.cells e.cs.toArray 90)).alloc (.cells p.cells.toArray 40) = W := ⟨_, rfl⟩
 have hr : Row W w.heap.size e.cs 90 := hW ▸ (Row.new rfl rfl : Row (w.alloc (.cells e.cs.toArray 90)) w.heap.size e.cs 90).alloc _
 have hq : Row W (w.heap.size + 1) p.cells 40 := hW ▸ Row.new (by simp) rfl
 have hb : Below w.heap.size w W := hW ▸ ((Below.refl _ w).alloc (Nat.le_refl _) _).alloc (by simp) _
 have HB := Lib.hid hb
 have HK := Lib.hid hk
 have HI := Lib.hid hi
 have HQ := Lib.hid hp
 have HR := Lib.hid hr
 have HP := Lib.hid hq
 obtain ⟨ev, hev⟩ : ∃ ev, e.val = ev := ⟨_, rfl⟩
 obtain ⟨pv, hpv⟩ : ∃ pv, p.val = pv := ⟨_, rfl⟩
 have HEV := Lib.hid (show ev = .agg e.cs.toArray from hev.symm)
 have HPV := Lib.hid (show pv = .agg p.cells.toArray from hpv.symm)
 have FE := Lib.hid (fun (y : World) (g : Nat) (h : Row y g e.cs 90) => show (loadVar 90 ⟨g, 0, none⟩).run Tryz.prog y = .ok ev y from hev ▸ l_en h hk)
 have FD := Lib.hid (fun (y : World) (g : Nat) (T : TypeId) (h : Row y g e.cs T) => show (loadVar 32 ⟨g, 0, none⟩).run Tryz.prog y = .ok ev y from hev ▸ l_end h hk)
 have FP := Lib.hid (fun (y : World) (g : Nat) (h : Row y g p.cells 40) => show (loadVar 40 ⟨g, 0, none⟩).run Tryz.prog y = .ok pv y by rw [← hpv]; exact Pkt.l_all h hp.ok)
 have HC := Lib.hid (fun y => refKind_any e hi p hp A N c hbo hck h3 y)
 have HCH := Lib.hid (fun y => Check_any e hi y)
 rw [show chkE e = 0 from if_pos hV] at HCH
 rw [hev, hpv] at HC
 rw [hev] at HCH
 rw [hev, hpv, HEV.out, HPV.out]
 clear hr hq hb hk hi hp hev hpv hbo hck h3 hV
 go_enter Tryz.func30, Tryz.ntmps30
 have HL0 := Lib.hid (FD.out W _ _ HR.out)
 go_wp2_with (first
  | (refine QB.wpList_ld 32 rfl rfl HL0.out (by kernel_rfl) ?_; clear HL0)
  | fail)
 refine (HCH.out W).mono ?_
 rintro r w1 ⟨rfl, hb1⟩
 have HB1 := Lib.hid (nextB HB.out (Nat.le_refl _) hb1)
 have HR1 := Lib.hid (HR.out.below hb1 HR.out.lt)
 have HP1 := Lib.hid (HP.out.below hb1 HP.out.lt)
 have HL1 := Lib.hid (FE.out w1 _ HR1.out)
 have HL2 := Lib.hid (FP.out w1 _ HP1.out)
 clear hb1 hW HCH HR HP
 go_wp2_with (first
  | (refine QB.wpList_ld 90 rfl rfl HL1.out (by kernel_rfl) ?_; clear HL1)
  | (refine QB.wpList_ld 40 rfl rfl HL2.out (by kernel_rfl) ?_; clear HL2)
  | fail)
 refine (HC.out w1).mono ?_
 rintro r w2 ⟨rfl, hb2⟩
 have HB2 := Lib.hid (nextB HB1.out (Nat.le_refl _) hb2)
 clear hb2
 go_wp2
 go_ret
 exact ⟨rfl, HB2.out⟩
set_option maxRecDepth 100000 in
theorem otherWay_any (e : Ed) (hk : e.K) (w : World) : Calls Tryz.prog 32 #[e.val] w fun r w' => r = .returned (.int .i64 (if e.way = 0 then 1 else 0)) ∧ Below w.heap.size w w' := by
 obtain ⟨W, hW⟩ : ∃ W, w.alloc (.cells e.cs.toArray 90) = W := ⟨_, rfl⟩
 have hr : Row W w.heap.size e.cs 90 := hW ▸ Row.new rfl rfl
 have hb : Below w.heap.size w W := hW ▸ (Below.refl _ w).alloc (Nat.le_refl _) _
 have HB := Lib.hid hb
 have c35 := c_way hr hk
 clear hr hb
 unfold Ed.val
 by_cases h : e.way = 0
 · have h0 : (e.way == 0) = true := by rw [h]; rfl
   rw [if_pos h]
   clear h
   go_enter Tryz.func32, Tryz.ntmps32
   go_wp2
   go_ret
   exact ⟨rfl, HB.out⟩
 · have h0 : (e.way == 0) = false := by simpa using h
   rw [if_neg h]
   clear h
   go_enter Tryz.func32, Tryz.ntmps32
   go_wp2
   go_ret
   exact ⟨rfl, HB.out⟩
set_option maxRecDepth 100000 in
set_option maxHeartbeats 4000000 in
theorem Receive_no (e : Ed) (hi : e.In) (p : Pk) (hp : p.In) (hV : Valid e) (A : Option Addr) (N c : Nat) (hbo : p.bo = .slice A N c) (hck : chk p N = 0) (h3 : p.kind = 3) (k : Nat) (hk0 : rall e p = k) (hkn : k ≠ 0) (w : World) : Calls Tryz.prog 10 #[e.val, p.val] w fun r w' => r = .returned (.tuple #[.slice none 0 0, zed.val, .int .i64 (k : Int)]) ∧ Below w.heap.size w w' := by
 have hk := hi.k
 obtain ⟨W, hW⟩ : ∃ W, (w.alloc (.cells e.cs.toArray 32)).alloc (.cells p.cells.toArray 40) = W := ⟨_, rfl⟩
 have hr : Row W w.heap.size e.cs 32 := hW ▸ (Row.new rfl rfl : Row (w.alloc (.cells e.cs.toArray 32)) w.heap.size e.cs 32).alloc _
 have hq : Row W (w.heap.size + 1) p.cells 40 := hW ▸ Row.new (by simp) rfl
 have hb : Below w.heap.size w W := hW ▸ ((Below.refl _ w).alloc (Nat.le_refl _) _).alloc (by simp) _
 have hsz : W.heap.size = w.heap.size + 1 + 1 := by rw [← hW]; simp
 have HB := Lib.hid hb
 have HSZ := Lib.hid hsz
 have HK := Lib.hid hk
 have HI := Lib.hid hi
 have HQ := Lib.hid hp
 have HR := Lib.hid hr
 have HP := Lib.hid hq
 obtain ⟨ev, hev⟩ : ∃ ev, e.val = ev := ⟨_, rfl⟩
 obtain ⟨pv, hpv⟩ : ∃ pv, p.val = pv := ⟨_, rfl⟩
 have HEV := Lib.hid (show ev = .agg e.cs.toArray from hev.symm)
 have HPV := Lib.hid (show pv = .agg p.cells.toArray from hpv.symm)
 have FE := Lib.hid (fun (y : World) (g : Nat) (h : Row y g e.cs 90) => show (loadVar 90 ⟨g, 0, none⟩).run Tryz.prog y = .ok ev y from hev ▸ l_en h hk)
 have FD := Lib.hid (fun (y : World) (h : Row y w.heap.size e.cs 32) => show (loadVar 32 ⟨w.heap.size, 0, none⟩).run Tryz.prog y = .ok ev y from hev ▸ l_end h hk)
 have FP := Lib.hid (fun (y : World) (g : Nat) (h : Row y g p.cells 40) => show (loadVar 40 ⟨g, 0, none⟩).run Tryz.prog y = .ok pv y by rw [← hpv]; exact Pkt.l_all h hp.ok)
 have HBe := Lib.hid (fun (y : World) => show (Instr.build 90 #[(0, ev)]).run Tryz.prog y = .ok ev y from hev ▸ build_en hk y)
 have HC := Lib.hid (fun y => refusal_any e hi p hp hV A N c hbo hck h3 y)
 rw [hev, hpv, hk0] at HC
 have hkz : ((k : Int) != 0) = true := by rw [bne_iff_ne]; omega
 rw [hev, hpv, HEV.out, HPV.out]
 clear hr hq hb hk hi hp hev hpv hsz hV hbo hck h3 hk0 hkn
 go_enter Tryz.func10, Tryz.ntmps10
 go_wp2_with (first
  | (show wpList _ _ _ (⟨some 5, _, _, _, _, _⟩ :: _) _ _
     refine QB.wpList_alloc rfl 32 rfl zero_End ?_; intro X5 hx5 hy5
     have HR5 := Lib.hid (show Row X5 W.heap.size zed.cs 32 from hx5)
     have HY5 := Lib.hid (nextB HB.out (Nat.le_refl _) hy5)
     have HRe5 := Lib.hid (HR.out.below hy5 HR.out.lt)
     have HRp5 := Lib.hid (HP.out.below hy5 HP.out.lt)
     have HL := Lib.hid (FD.out X5 HRe5.out)
     clear hx5 hy5 HR HP HB)
  | (refine QB.wpList_ld 32 rfl rfl HL.out (by kernel_rfl) ?_; clear HL)
  | (refine wpList_bp rfl 90 _ rfl (ps := #[(0, ev)]) (by kernel_rfl) (HBe.out _) ?_)
  | (show wpList _ _ _ (⟨some 7, _, _, _, _, _⟩ :: _) _ _
     refine QB.wpList_alloc rfl 90 rfl zero_en ?_; intro X7 hx7 hy7
     have HX7 := Lib.hid (show Row X7 X5.heap.size zed.cs 90 from hx7); have HY7 := Lib.hid hy7; clear hx7 hy7)
  | (refine wpList_storeRow rfl 90 _ _ rfl rfl (cs := e.cs) HEV.out HX7.out (by kernel_rfl) (Ed.len HK.out) (Ed.len zed_K) e.one ?_
     refine QB.name fun W1 hZ => ?_
     have hb6 : Below X5.heap.size X5 W1 := hZ ▸ below_setRow HY7.out (Nat.le_refl _) _
     have HR7 := Lib.hid (show Row W1 X5.heap.size e.cs 90 from hZ ▸ HX7.out.setRow _)
     have HB1 := Lib.hid (nextB HY5.out (Nat.le_refl _) hb6)
     have HR51 := Lib.hid (HR5.out.below hb6 HR5.out.lt)
     have HRp1 := Lib.hid (HRp5.out.below hb6 HRp5.out.lt)
     have HG7 := Lib.hid (show W.heap.size < X5.heap.size from HR5.out.lt)
     have HL1 := Lib.hid (FE.out W1 _ HR7.out)
     have HL2 := Lib.hid (FP.out W1 _ HRp1.out)
     clear hZ hb6 HX7 HY7 HY5 HR5 HRp5 HRe5)
  | (refine QB.wpList_ld 90 rfl rfl HL1.out (by kernel_rfl) ?_; clear HL1)
  | (refine QB.wpList_ld 40 rfl rfl HL2.out (by kernel_rfl) ?_; clear HL2)
  | fail)
 obtain ⟨g3, hg3⟩ : ∃ g, w.heap.size + 1 = g := ⟨_, rfl⟩
 obtain ⟨g5, hg5⟩ : ∃ g, W.heap.size = g := ⟨_, rfl⟩
 obtain ⟨g7, hg7⟩ : ∃ g, X5.heap.size = g := ⟨_, rfl⟩
 have HGG := Lib.hid (show w.heap.size < g3 ∧ g3 < g5 ∧ g5 < g7 by have := HSZ.out; have := HG7.out; omega)
 rw [hg5] at HR51 ⊢
 rw [hg3] at HRp1 ⊢
 rw [hg7] at HR7 ⊢
 clear hW hg3 hg5 hg7 HG7 HSZ FD
 refine (HC.out W1).mono ?_
 rintro r w2 ⟨rfl, hb2⟩
 have HB2 := Lib.hid (nextB HB1.out (Nat.le_refl _) hb2)
 have HRp := Lib.hid (HRp1.out.below hb2 HRp1.out.lt)
 have HR5 := Lib.hid (HR51.out.below hb2 HR51.out.lt)
 have HR7 := Lib.hid (HR7.out.below hb2 HR7.out.lt)
 clear hb2 HB1 HRp1 HR51 HC
 have HB0 := Lib.hid (build_End0 w2)
 obtain ⟨zv, hzv⟩ : ∃ zv, zed.val = zv := ⟨_, rfl⟩
 have HZV := Lib.hid (show zv = .agg zed.cs.toArray from hzv.symm)
 rw [hzv] at HB0
 clear hzv
 go_wp2_with (first
  | (refine wpList_bp rfl 32 _ rfl (ps := #[]) (by kernel_rfl) HB0.out ?_; clear HB0)
  | (refine wpList_storeRow rfl 32 _ _ rfl rfl (cs := zed.cs) HZV.out HR5.out (by kernel_rfl) (Ed.len zed_K) (Ed.len zed_K) (Ed.one _) ?_
     refine QB.name fun V2 hZ => ?_
     have R2 := Lib.hid (show Row V2 g5 zed.cs 32 from hZ ▸ HR5.out.setRow _)
     have HBZ := Lib.hid (show Below w.heap.size w V2 from hZ ▸ below_setRow HB2.out (by have := HGG.out; omega) _)
     clear hZ)
  | fail)
 refine bodyPost_ret (results_tct (cs := zed.cs) rfl rfl R2.out Tryz.underlying32 rfl (by kernel_rfl) (Ed.len zed_K)) rfl ?_
 exact ⟨by rw [show zed.val = Value.agg zed.cs.toArray from rfl]; rfl, HBZ.out⟩
theorem own_t8 {w w' : World} {g4 g5 base : Nat} {c4 c5 : List Value} {v : Value} {l : List UInt8} (h : Own w base v l) (t : T8 g4 g5 c4 c5 w w') (h4 : w.heap.size ≤ g4 ∧ g5 < base) : Own w' base v l := by
 refine ⟨h.1, ?_⟩
 rcases h.2 with h2 | ⟨g, cap, cur, e', hg, hgg, r⟩
 · exact .inl h2
 · exact .inr ⟨g, cap, cur, e', hg, by rw [t.block g (Array.getElem?_eq_some_iff.1 hgg).1 (by have := (Array.getElem?_eq_some_iff.1 hgg).1; omega) (by omega)]; exact hgg, r⟩
theorem own_kept {w w' : World} {base : Nat} {v : Value} {l : List UInt8} {g : Nat} (h : Own w base v l) (hg : w.grownBy w' (some g)) (hlt : g < base) : Own w' base v l :=
 Own.kept h hg (by cases hv : v.ownBlock with | none => exact .inl rfl | some i => exact .inr fun e => by injection e with e; have := (h.block_ge hv).1; omega)
def opM (lo : Nat) (plain : List UInt8) : By.Mark Grew := ⟨fun x w => ∃ v, x = .tuple #[v, .int .i64 0] ∧ Own w lo v plain, fun _ _ _ ⟨v, h1, h2⟩ k => ⟨v, h1, h2.below k (Nat.le_refl _)⟩⟩
def ownM (lo : Nat) (plain : List UInt8) : By.Mark Grew := ⟨fun v w => Own w lo v plain, fun _ _ _ h k => h.below k (Nat.le_refl _)⟩
theorem Open_sealed {sec : List UInt8} (hs : sec.length = 32) (z : Int) {s e n : Nat} {plain : List UInt8} (hd : dataOk s e n) (hpl : plain.length ≤ 65536) {b : Value} {A : Option Addr} {c : Nat} (hb : (dp s e n b).bo = .slice A (plain.length + 16) c) (hi : (dp s e n b).In) (w : World) (ht : Tab w) (hm : Bs w w.heap.size b (sealedL sec z s e n plain)) :
 Calls Tryz.prog 31 #[arr8 sec, .int .i64 z, (dp s e n b).val] w fun x w' => (∃ v, x = .returned (.tuple #[v, .int .i64 0]) ∧ Own w' w.heap.size v plain) ∧ Below w.heap.size w w' := by
 have hl := Pkt.sealedL_length sec z s e n plain
 refine (Pkt.Open_any sec hs z (dp s e n b) hi A (sealedL sec z s e n plain) c (by rw [hl]; exact hb) w ht hm).mono ?_
 rintro x w' ⟨h, hb⟩
 exact ⟨Pkt.open_sealed h hd hpl, hb⟩
noncomputable def took (e : Ed) (c : Nat) : Ed := { e with f := Win.tk e.f e.t e.s e.m c 0, t := Win.tk e.f e.t e.s e.m c 1, s := Win.tk e.f e.t e.s e.m c 2, m := Win.tk e.f e.t e.s e.m c 3 }
set_option maxRecDepth 100000 in
set_option maxHeartbeats 8000000 in
theorem Receive_open (e : Ed) (hi : e.In) (hV : Valid e) (ps pe pn : Nat) (bo : Value) (ow : Int) (how : (if e.way = 0 then (1 : Int) else 0) = ow) (plain : List UInt8) (hpl : plain.length ≤ 65536) (A : Option Addr) (c : Nat) (hbo : bo = .slice A (plain.length + 16) c) (hd : dataOk ps pe pn) (hps : ps = e.sid) (hpe : pe = e.ep) (hr0 : rcnt e pn = 0)
 (w : World) (ht : Tab w) (hb : Bs w w.heap.size bo (sealedL e.sec ow ps pe pn plain)) : Calls Tryz.prog 10 #[e.val, (dp ps pe pn bo).val] w fun r w' =>
  ((Win.ref e.f e.t e.s e.m pn = 0 → ∃ v, r = .returned (.tuple #[v, (took e pn).val, .int .i64 0]) ∧ Own w' w.heap.size v plain) ∧ (Win.ref e.f e.t e.s e.m pn = 9 → r = .returned (.tuple #[.slice none 0 0, zed.val, .int .i64 9]))) ∧ Below w.heap.size w w' := by
 have hp : (dp ps pe pn bo).In := ⟨dp_ok ps pe pn (by rw [hbo]; rfl), by show ps < _; rw [hps]; exact hi.sid, by show pe < _; rw [hpe]; exact hi.ep, by have := hd.2.2.2; show pn < 18446744073709551616; omega⟩
 have hck : chk (dp ps pe pn bo) (plain.length + 16) = 0 := Pkt.chk_dp hd bo _ (by omega) (by omega)
 have hk0 : rall e (dp ps pe pn bo) = 0 := by
  unfold rall repo
  show (if ps ≠ e.sid then 13 else if pe < e.ep then 8 else if e.ep < pe then 2 else rcnt e pn) = 0
  rw [if_neg (by simpa using hps), if_neg (by omega), if_neg (by omega), hr0]
 have HT := Lib.hid ht
 have HS := Lib.hid hb
 have hob := fun (y : World) (h : Below w.heap.size w y) => Open_sealed (sec := e.sec) hi.k ow hd hpl (b := bo) (A := A) (c := c) hbo hp y (ht.below h ht.1) ((hb.below h).more h.size)
 have hoth := fun (y : World) => otherWay_any e hi.k y
 rw [how] at hoth
 clear ht hb how
 obtain ⟨p, hpq⟩ : ∃ p, dp ps pe pn bo = p := ⟨_, rfl⟩
 have HCNT := Lib.hid (show p.cnt = pn by rw [← hpq]; rfl)
 have hbo' : p.bo = .slice A (plain.length + 16) c := by rw [← hpq]; exact hbo
 have h3 : p.kind = 3 := by rw [← hpq]; rfl
 rw [hpq] at hp hck hk0 hob ⊢
 clear hpq hbo hps hpe
 have hk := hi.k
 obtain ⟨W, hW⟩ : ∃ W, (w.alloc (.cells e.cs.toArray 32)).alloc (.cells p.cells.toArray 40) = W := ⟨_, rfl⟩
 have hr : Row W w.heap.size e.cs 32 := hW ▸ (Row.new rfl rfl : Row (w.alloc (.cells e.cs.toArray 32)) w.heap.size e.cs 32).alloc _
 have hq : Row W (w.heap.size + 1) p.cells 40 := hW ▸ Row.new (by simp) rfl
 have hb : Below w.heap.size w W := hW ▸ ((Below.refl _ w).alloc (Nat.le_refl _) _).alloc (by simp) _
 have hsz : W.heap.size = w.heap.size + 1 + 1 := by rw [← hW]; simp
 have HB := Lib.hid hb
 have HSZ := Lib.hid hsz
 have HK := Lib.hid hk
 have HI := Lib.hid hi
 have HQ := Lib.hid hp
 have HR := Lib.hid hr
 have HP := Lib.hid hq
 obtain ⟨ev, hev⟩ : ∃ ev, e.val = ev := ⟨_, rfl⟩
 obtain ⟨pv, hpv⟩ : ∃ pv, p.val = pv := ⟨_, rfl⟩
 have HEV := Lib.hid (show ev = .agg e.cs.toArray from hev.symm)
 have HPV := Lib.hid (show pv = .agg p.cells.toArray from hpv.symm)
 have FE := Lib.hid (fun (y : World) (g : Nat) (h : Row y g e.cs 90) => show (loadVar 90 ⟨g, 0, none⟩).run Tryz.prog y = .ok ev y from hev ▸ l_en h hk)
 have FD := Lib.hid (fun (y : World) (h : Row y w.heap.size e.cs 32) => show (loadVar 32 ⟨w.heap.size, 0, none⟩).run Tryz.prog y = .ok ev y from hev ▸ l_end h hk)
 have FP := Lib.hid (fun (y : World) (g : Nat) (h : Row y g p.cells 40) => show (loadVar 40 ⟨g, 0, none⟩).run Tryz.prog y = .ok pv y by rw [← hpv]; exact Pkt.l_all h hp.ok)
 have HBe := Lib.hid (fun (y : World) => show (Instr.build 90 #[(0, ev)]).run Tryz.prog y = .ok ev y from hev ▸ build_en hk y)
 have HC := Lib.hid (fun y => refusal_any e hi p hp hV A _ c hbo' hck h3 y)
 rw [hev, hpv, hk0] at HC
 have HOW := Lib.hid hoth
 have HOP := Lib.hid hob
 obtain ⟨sv, hsv⟩ : ∃ sv, arr8 e.sec = sv := ⟨_, rfl⟩
 have HLS := Lib.hid (fun (y : World) {g : Nat} (h : Row y g e.cs 90) => show (loadVar 23 ⟨g, 2, none⟩).run Tryz.prog y = .ok sv y from hsv ▸ l_sec h hk)
 rw [hev] at HOW
 rw [hpv, hsv] at HOP
 have HREF := Lib.hid hr0
 have HPN := Lib.hid (show pn < 2 ^ 64 by have := hd.2.2.2; omega)
 rw [hev, hpv, HEV.out, HPV.out]
 clear hr hq hb hk hi hp hev hpv hsz hV hbo' hck h3 hk0 hoth hob hsv hr0 hd hpl
 clear HT HS
 go_enter Tryz.func10, Tryz.ntmps10
 go_wp2_with (first
  | (show wpList _ _ _ (⟨some 5, _, _, _, _, _⟩ :: _) _ _
     refine QB.wpList_alloc rfl 32 rfl zero_End ?_; intro X5 hx5 hy5
     have HR5 := Lib.hid (show Row X5 W.heap.size zed.cs 32 from hx5)
     have HY5 := Lib.hid (nextB HB.out (Nat.le_refl _) hy5)
     have HRe5 := Lib.hid (HR.out.below hy5 HR.out.lt)
     have HRp5 := Lib.hid (HP.out.below hy5 HP.out.lt)
     have HL := Lib.hid (FD.out X5 HRe5.out)
     clear hx5 hy5 HR HP HB)
  | (refine QB.wpList_ld 32 rfl rfl HL.out (by kernel_rfl) ?_; clear HL)
  | (refine wpList_bp rfl 90 _ rfl (ps := #[(0, ev)]) (by kernel_rfl) (HBe.out _) ?_)
  | (show wpList _ _ _ (⟨some 7, _, _, _, _, _⟩ :: _) _ _
     refine QB.wpList_alloc rfl 90 rfl zero_en ?_; intro X7 hx7 hy7
     have HX7 := Lib.hid (show Row X7 X5.heap.size zed.cs 90 from hx7); have HY7 := Lib.hid hy7; clear hx7 hy7)
  | (refine wpList_storeRow rfl 90 _ _ rfl rfl (cs := e.cs) HEV.out HX7.out (by kernel_rfl) (Ed.len HK.out) (Ed.len zed_K) e.one ?_
     refine QB.name fun W1 hZ => ?_
     have hb6 : Below X5.heap.size X5 W1 := hZ ▸ below_setRow HY7.out (Nat.le_refl _) _
     have HR7 := Lib.hid (show Row W1 X5.heap.size e.cs 90 from hZ ▸ HX7.out.setRow _)
     have HB1 := Lib.hid (nextB HY5.out (Nat.le_refl _) hb6)
     have HR51 := Lib.hid (HR5.out.below hb6 HR5.out.lt)
     have HRp1 := Lib.hid (HRp5.out.below hb6 HRp5.out.lt)
     have HG7 := Lib.hid (show W.heap.size < X5.heap.size from HR5.out.lt)
     have HL1 := Lib.hid (FE.out W1 _ HR7.out)
     have HL2 := Lib.hid (FP.out W1 _ HRp1.out)
     clear hZ hb6 HX7 HY7 HY5 HR5 HRp5 HRe5)
  | (refine QB.wpList_ld 90 rfl rfl HL1.out (by kernel_rfl) ?_; clear HL1)
  | (refine QB.wpList_ld 40 rfl rfl HL2.out (by kernel_rfl) ?_; clear HL2)
  | fail)
 obtain ⟨g3, hg3⟩ : ∃ g, w.heap.size + 1 = g := ⟨_, rfl⟩
 obtain ⟨g5, hg5⟩ : ∃ g, W.heap.size = g := ⟨_, rfl⟩
 obtain ⟨g7, hg7⟩ : ∃ g, X5.heap.size = g := ⟨_, rfl⟩
 have HGG := Lib.hid (show w.heap.size < g3 ∧ g3 < g5 ∧ g5 < g7 by have := HSZ.out; have := HG7.out; omega)
 rw [hg5] at HR51 ⊢
 rw [hg3] at HRp1 ⊢
 rw [hg7] at HR7 ⊢
 clear hW hg3 hg5 hg7 HG7 HSZ FD
 refine (HC.out W1).mono ?_
 rintro r w2 ⟨rfl, hb2⟩
 have HB2 := Lib.hid (nextB HB1.out (Nat.le_refl _) hb2)
 have HRp := Lib.hid (HRp1.out.below hb2 HRp1.out.lt)
 have HR5 := Lib.hid (HR51.out.below hb2 HR51.out.lt)
 have HR7 := Lib.hid (HR7.out.below hb2 HR7.out.lt)
 clear hb2 HB1 HRp1 HR51 HC
 go_wp2_with fail
 refine By.marks Pol.mixed Grew [By.is (.pointer (some ⟨g7, 0, none⟩)),
  By.is (.pointer (some ⟨g7, 0, none⟩)),
  By.is (.pointer (some ⟨g7, 2, none⟩)),
  By.is sv,
  By.is ev,
  By.is (.int .i64 ow),
  By.is pv,
  (opM w2.heap.size plain),
  (opM w2.heap.size plain),
  (ownM w2.heap.size plain),
  By.is (.int .i64 0),
  (ownM w2.heap.size plain),
  By.is (.int .i64 0)]
  (Ev.masks _ []) (by kernel_rfl) rfl Grew.refl Grew.trans ⟨?_, ?_, ?_, ?_, ?_, ?_, ?_, ?_, ?_, ?_, ?_, ?_, ?_, trivial⟩ ?_
 · intro a w1 ht hs hg
   have h7 := By.same_get hs 7 (by decide) (by kernel_rfl)
   refine By.yes rfl ?_
   clear hs hg
   go_simp
   exact ⟨_, rfl, Grew.refl _, rfl⟩
 · intro a w1 ht hs hg
   have h22 : a.tmps.getD 22 undef = _ := By.given_get hg 0 rfl rfl (by kernel_rfl)
   refine By.yes rfl ?_
   clear hs hg
   go_simp
   exact ⟨_, rfl, Grew.refl _, rfl⟩
 · intro a w1 ht hs hg
   have h23 : a.tmps.getD 23 undef = _ := By.given_get hg 1 rfl rfl (by kernel_rfl)
   refine By.yes rfl ?_
   clear hs hg
   go_simp
   exact ⟨_, rfl, Grew.refl _, rfl⟩
 · intro a w1 ht hs hg
   have h24 : a.tmps.getD 24 undef = _ := By.given_get hg 2 rfl rfl (by kernel_rfl)
   refine By.yes rfl ?_
   clear hs hg
   refine wp_ld 23 _ rfl h24 (HLS.out w1 (Row.below (w := w2.drew) HR7.out ht HR7.out.lt)) ?_
   exact ⟨_, rfl, Grew.refl _, rfl⟩
 · intro a w1 ht hs hg
   have h7 := By.same_get hs 7 (by decide) (by kernel_rfl)
   refine By.yes rfl ?_
   clear hs hg
   refine wp_ld 90 _ rfl h7 (FE.out w1 g7 (Row.below (w := w2.drew) HR7.out ht HR7.out.lt)) ?_
   exact ⟨_, rfl, Grew.refl _, rfl⟩
 · intro a w1 ht hs hg
   have h26 : a.tmps.getD 26 undef = _ := By.given_get hg 4 rfl rfl (by kernel_rfl)
   refine By.yes rfl ?_
   clear hs hg
   clear ht
   go_simp
   refine (HOW.out w1).mono ?_
   rintro r w9 ⟨rfl, hb⟩
   exact ⟨_, rfl, hb, rfl⟩
 · intro a w1 ht hs hg
   have h3 := By.same_get hs 3 (by decide) (by kernel_rfl)
   refine By.yes rfl ?_
   clear hs hg
   refine wp_ld 40 _ rfl h3 (FP.out w1 g3 (Row.below (w := w2.drew) HRp.out ht HRp.out.lt)) ?_
   exact ⟨_, rfl, Grew.refl _, rfl⟩
 · intro a w1 ht hs hg
   have h25 : a.tmps.getD 25 undef = _ := By.given_get hg 3 rfl rfl (by kernel_rfl)
   have h27 : a.tmps.getD 27 undef = _ := By.given_get hg 5 rfl rfl (by kernel_rfl)
   have h28 : a.tmps.getD 28 undef = _ := By.given_get hg 6 rfl rfl (by kernel_rfl)
   refine By.yes rfl ?_
   clear hs hg
   have HOc := Lib.hid (HOP.out w1 (nextB HB2.out (Nat.le_refl _) (Shk.grew_below ht)))
   have hsz : w2.heap.size ≤ w1.heap.size := (show w2.drew.heap.size ≤ w1.heap.size from ht.size)
   clear ht
   go_simp
   refine HOc.out.mono ?_
   rintro r w9 ⟨⟨v, rfl, hv⟩, hb⟩
   exact ⟨_, rfl, hb, v, rfl, hv.less hsz⟩
 · intro a w1 ht hs hg
   have h29 := By.given_get hg 7 rfl rfl (by kernel_rfl)
   refine By.yes rfl ?_
   obtain ⟨v29, hv29⟩ : ∃ v, a.tmps.getD 29 undef = v := ⟨_, rfl⟩
   replace h29 := (congrArg (fun v => ((opM w2.heap.size plain)).on v w1) hv29).mp h29
   clear hs hg
   obtain ⟨v, rfl, hv⟩ := h29
   have Hv := Lib.hid hv
   clear hv ht
   go_simp
   exact ⟨_, rfl, Grew.refl _, v, rfl, Hv.out⟩
 · intro a w1 ht hs hg
   have h21 := By.given_get hg 8 rfl rfl (by kernel_rfl)
   refine By.yes rfl ?_
   obtain ⟨v21, hv21⟩ : ∃ v, a.tmps.getD 21 undef = v := ⟨_, rfl⟩
   replace h21 := (congrArg (fun v => ((opM w2.heap.size plain)).on v w1) hv21).mp h21
   clear hs hg
   obtain ⟨v, rfl, hv⟩ := h21
   have Hv := Lib.hid hv
   clear hv ht
   go_simp
   exact ⟨_, rfl, Grew.refl _, Hv.out⟩
 · intro a w1 ht hs hg
   have h21 := By.given_get hg 8 rfl rfl (by kernel_rfl)
   refine By.yes rfl ?_
   obtain ⟨v21, hv21⟩ : ∃ v, a.tmps.getD 21 undef = v := ⟨_, rfl⟩
   replace h21 := (congrArg (fun v => ((opM w2.heap.size plain)).on v w1) hv21).mp h21
   clear hs hg
   obtain ⟨v, rfl, hv⟩ := h21
   clear hv ht
   go_simp
   exact ⟨_, rfl, Grew.refl _, rfl⟩
 · intro a w1 ht hs hg
   have h30 := By.given_get hg 9 rfl rfl (by kernel_rfl)
   refine By.yes rfl ?_
   obtain ⟨v30, hv30⟩ : ∃ v, a.tmps.getD 30 undef = v := ⟨_, rfl⟩
   replace h30 := (congrArg (fun v => ((ownM w2.heap.size plain)).on v w1) hv30).mp h30
   clear hs hg
   have Hv := Lib.hid h30
   clear h30 ht
   go_simp
   exact ⟨_, rfl, Grew.refl _, Hv.out⟩
 · intro a w1 ht hs hg
   have h31 : a.tmps.getD 31 undef = _ := By.given_get hg 10 rfl rfl (by kernel_rfl)
   refine By.yes rfl ?_
   clear hs hg
   go_simp
   exact ⟨_, rfl, Grew.refl _, rfl⟩
 refine By.ends_is (By.ends_is (By.ends_is (By.ends_is (By.ends_is (By.ends_is (By.ends_is (By.ends_skip fun v29 => (By.ends_any fun v21 => (By.ends_skip fun v30 => (By.ends_is (By.ends_any fun v9 => (By.ends_is (By.ends_nil fun w5 hw5 => ?_)))))))))))))
 simp only [Act.put, List.setIfInBounds_toArray, List.set_cons_succ, List.set_cons_zero]
 obtain ⟨⟨hgr, _⟩, h9⟩ := hw5
 have hv5 : Own w5 w2.heap.size v9 plain := h9
 have HG2 := Lib.hid (show g7 < w2.heap.size from HR7.out.lt)
 have hb5 : Below w2.heap.size w2 w5 := ⟨hgr.os, hgr.tape, hgr.output, hgr.size, hgr.block⟩
 have HB5 := Lib.hid (nextB HB2.out (Nat.le_refl _) hb5)
 have HR5 := Lib.hid (HR5.out.below hb5 HR5.out.lt)
 have HR7 := Lib.hid (HR7.out.below hb5 HR7.out.lt)
 have HRp := Lib.hid (HRp.out.below hb5 HRp.out.lt)
 have HV5 := Lib.hid hv5
 clear hgr h9 hv5 hb5 HB2 HOP HOW HLS FP FE
 have c38 := c_f HR7.out HK.out
 have c39 := c_t HR7.out HK.out
 have c40 := c_s HR7.out HK.out
 have c41 := c_m HR7.out HK.out
 have c4 := Pkt.c_cnt HRp.out
 rw [HCNT.out] at c4
 go_wp2_with fail
 clear c38 c39 c40 c41 c4
 refine (Win.Take_any e.f e.t e.s e.m pn w5 HI.out.w HPN.out).mono ?_
 rintro r w6 ⟨rfl, hb⟩
 have HB6 := Lib.hid (nextB HB5.out (Nat.le_refl _) hb)
 have HR5 := Lib.hid (HR5.out.below hb HR5.out.lt)
 have HR7 := Lib.hid (HR7.out.below hb HR7.out.lt)
 have HV6 := Lib.hid (HV5.out.below hb (Nat.le_refl _))
 clear hb HB5 HV5 HRp
 have HSP := Lib.hid (show splice e.cs 38 (Win.wl (Win.tk e.f e.t e.s e.m pn 0) (Win.tk e.f e.t e.s e.m pn 1) (Win.tk e.f e.t e.s e.m pn 2) (Win.tk e.f e.t e.s e.m pn 3)) = (took e pn).cs from sp_in HK.out _ _ _ _)
 by_cases h0 : Win.ref e.f e.t e.s e.m pn = 0
 · have H0 := Lib.hid h0
   rw [h0]
   clear h0
   go_wp2_with (first
    | (refine QB.wpList_alloc rfl 30 rfl zwin ?_; intro XA hxa hya
       have HXA := Lib.hid (show Row XA w6.heap.size [.int .u64 0, .int .u64 0, .int .u64 0, .int .u64 0] 30 from hxa); have HYA := Lib.hid hya; clear hxa hya)
    | (refine wpList_storeRow rfl 30 _ _ rfl rfl (cs := Win.wl (Win.tk e.f e.t e.s e.m pn 0) (Win.tk e.f e.t e.s e.m pn 1) (Win.tk e.f e.t e.s e.m pn 2) (Win.tk e.f e.t e.s e.m pn 3)) rfl HXA.out (by kernel_rfl) rfl rfl (Win.wl_one _ _ _ _) ?_
       refine QB.name fun W7 hZ => ?_
       have hb7 : Below w6.heap.size w6 W7 := hZ ▸ below_setRow HYA.out (Nat.le_refl _) _
       have HRW := Lib.hid (show Row W7 w6.heap.size (Win.wl (Win.tk e.f e.t e.s e.m pn 0) (Win.tk e.f e.t e.s e.m pn 1) (Win.tk e.f e.t e.s e.m pn 2) (Win.tk e.f e.t e.s e.m pn 3)) 30 from hZ ▸ HXA.out.setRow _)
       have HB7 := Lib.hid (nextB HB6.out (Nat.le_refl _) hb7)
       have HR57 := Lib.hid (HR5.out.below hb7 HR5.out.lt)
       have HR77 := Lib.hid (HR7.out.below hb7 HR7.out.lt)
       have HV7 := Lib.hid (HV6.out.below hb7 (Nat.le_refl _))
       have HGW := Lib.hid (show g7 < w6.heap.size from HR7.out.lt)
       have k0 := HRW.out.cell (i := 0) rfl
       have k1 := HRW.out.cell (i := 1) rfl
       have k2 := HRW.out.cell (i := 2) rfl
       have k3 := HRW.out.cell (i := 3) rfl
       clear hZ hb7 HXA HYA HB6 HR5 HR7 HV6)
    | (show wpList _ _ _ (⟨none, .store 30 (.tmp 51) (.tmp 49), _, _, _, _⟩ :: _) _ _
       refine Pol.wpList_storeSub rfl 30 (.tmp 51) (.tmp 49) rfl (cs := Win.wl (Win.tk e.f e.t e.s e.m pn 0) (Win.tk e.f e.t e.s e.m pn 1) (Win.tk e.f e.t e.s e.m pn 2) (Win.tk e.f e.t e.s e.m pn 3)) rfl rfl HR77.out (by kernel_rfl) rfl (by rw [Ed.len HK.out]; simp) (Win.wl_one _ _ _ _) ?_
       refine QB.name fun W8 hZ => ?_
       have hgr : W7.grownBy W8 (some g7) := hZ ▸ only_setRow _
       have HR78 := Lib.hid (show Row W8 g7 (took e pn).cs 90 from hZ ▸ HSP.out ▸ HR77.out.setRow _)
       have HB8 := Lib.hid (show Below w.heap.size w W8 from hZ ▸ below_setRow HB7.out (by have := HGG.out; omega) _)
       have HR58 := Lib.hid (row_grown HR57.out hgr (by have := HGG.out; omega))
       have HV8 := Lib.hid (own_kept HV7.out hgr HG2.out)
       clear hZ hgr HB7 HR57 HR77 HV7)
    | fail)
   clear k0 k1 k2 k3
   obtain ⟨E2, hE2⟩ : ∃ E2 : Ed, took e pn = E2 := ⟨_, rfl⟩
   rw [hE2] at HR78
   have HE2 := Lib.hid hE2
   have HK2 := Lib.hid (show E2.K by rw [← hE2]; exact HK.out)
   obtain ⟨ew, hew⟩ : ∃ ew, E2.val = ew := ⟨_, rfl⟩
   have HEW := Lib.hid (show ew = .agg E2.cs.toArray from hew.symm)
   have HLE2 := Lib.hid (fun (y : World) (h : Row y g7 E2.cs 90) => show (loadVar 32 ⟨g7, 0, none⟩).run Tryz.prog y = .ok ew y from hew ▸ l_end h HK2.out)
   clear hE2 hew
   have HG8 := Lib.hid (show g5 < W8.heap.size ∧ g7 < W8.heap.size from ⟨HR58.out.lt, HR78.out.lt⟩)
   refine ByN.marks Pol.mixed (T8 W8.heap.size g5 [] E2.cs) [By.is v9, By.is (.pointer (some ⟨g7, 0, none⟩)), By.is ew, By.is v9,
    ByN.wo (fun y => Row y g5 E2.cs 32) (fun _ _ h t => t.r5 h), By.is (.int .i64 0)]
    (Ev.masks _ []) (by kernel_rfl) rfl (fun _ => T8.refl _) (fun _ _ _ h k => T8.trans h k) ⟨?_, ?_, ?_, ?_, ?_, ?_, trivial⟩ ?_
   · intro a w9 ht hs hg
     have h9 := By.same_get hs 9 (by decide) (by kernel_rfl)
     refine By.yes rfl ?_
     clear hs hg ht
     go_simp
     exact ⟨_, rfl, T8.refl _, rfl⟩
   · intro a w9 ht hs hg
     have h7 := By.same_get hs 7 (by decide) (by kernel_rfl)
     refine By.yes rfl ?_
     clear hs hg ht
     go_simp
     exact ⟨_, rfl, T8.refl _, rfl⟩
   · intro a w9 ht hs hg
     have h53 : a.tmps.getD 53 undef = _ := ByN.given_get hg 1 rfl rfl (by kernel_rfl)
     refine By.yes rfl ?_
     clear hs hg
     refine wp_ld 32 _ rfl h53 (HLE2.out w9 (ht.row (show Row W8.drew g7 E2.cs 90 from HR78.out) (by have := HG8.out; omega) (by have := HGG.out; omega))) ?_
     exact ⟨_, rfl, T8.refl _, rfl⟩
   · intro a w9 ht hs hg
     have h52 : a.tmps.getD 52 undef = _ := ByN.given_get hg 0 rfl rfl (by kernel_rfl)
     refine By.yes rfl ?_
     clear hs hg ht
     go_simp
     exact ⟨_, rfl, T8.refl _, rfl⟩
   · intro a w9 ht hs hg
     have h5 := By.same_get hs 5 (by decide) (by kernel_rfl)
     have h54 : a.tmps.getD 54 undef = _ := ByN.given_get hg 2 rfl rfl (by kernel_rfl)
     refine By.yes rfl ?_
     clear hs hg
     obtain ⟨old, hold, hlen⟩ := ht.l5 43 ⟨_, (show Row W8.drew g5 zed.cs 32 from HR58.out), Ed.len zed_K⟩
     refine Stg.wp_storeAny (n := 43) 32 _ _ rfl h5 h54 (by rw [HEW.out]; rfl) hold (by kernel_rfl) (Ed.len HK2.out) (by rw [Ed.len HK2.out, hlen]; exact Nat.le_refl _) (Ed.one E2) ?_
     rw [show splice old 0 E2.cs = E2.cs by unfold splice; rw [List.drop_of_length_le (by rw [Ed.len HK2.out, hlen]; exact Nat.le_refl _)]; simp]
     obtain ⟨k1, k2⟩ := T8.store5 (g4 := W8.heap.size) (c4 := []) (c5 := E2.cs) (by have := HG8.out; omega) hold (by rw [Ed.len HK2.out, hlen])
     exact ⟨_, rfl, k1, k2⟩
   · intro a w9 ht hs hg
     refine By.yes rfl ?_
     clear hs hg ht
     go_simp
     exact ⟨_, rfl, T8.refl _, rfl⟩
   refine ByN.ends_is (ByN.ends_is (ByN.ends_is (ByN.ends_is (ByN.ends_any fun _ => (ByN.ends_is (ByN.ends_nil fun W9 hw9 => ?_))))))
   try simp only [Act.put, List.setIfInBounds_toArray, List.set_cons_succ, List.set_cons_zero]
   obtain ⟨ht, hr5⟩ := hw9
   have hr5 : Row W9 g5 E2.cs 32 := hr5
   have HR5 := Lib.hid hr5
   have HV9 := Lib.hid (own_t8 HV8.out (show T8 W8.heap.size g5 [] E2.cs W8 W9 from ⟨ht.os, ht.tape, ht.output, ht.size, ht.block, ht.r4, ht.r5, ht.l4, ht.l5⟩) ⟨Nat.le_refl _, by have := HGG.out; have := HG2.out; omega⟩)
   have HB9 := Lib.hid (show Below w.heap.size w W9 from HB8.out.drew.trans (ht.below (x := W8.drew) (B := w.heap.size) (by have := HG8.out; have := HGG.out; show w.heap.size ≤ W8.heap.size; omega) (by have := HGG.out; omega) HB8.out.size))
   clear ht hr5 HLE2 HR78 HR58 HV8 HB8
   go_wp2
   refine bodyPost_ret (results_tct (cs := E2.cs) rfl rfl HR5.out Tryz.underlying32 rfl (by kernel_rfl) (Ed.len HK2.out)) rfl ?_
   exact ⟨⟨fun _ => ⟨v9, (by rw [HE2.out]; rfl), HV9.out.less (by have := HGG.out; have := HG2.out; omega)⟩, fun h => by rw [H0.out] at h; exact absurd h (by decide)⟩, HB9.out⟩
 · have h9 : Win.ref e.f e.t e.s e.m pn = 9 := by
    have h := HREF.out
    unfold rcnt at h
    split at h
    · assumption
    · exact absurd h h0
   have H9 := Lib.hid h9
   rw [h9]
   clear h0 h9
   have HB0 := Lib.hid (fun (y : World) => build_End0 y)
   obtain ⟨zv, hzv⟩ : ∃ zv, zed.val = zv := ⟨_, rfl⟩
   have HZV := Lib.hid (show zv = .agg zed.cs.toArray from hzv.symm)
   rw [hzv] at HB0
   clear hzv
   go_wp2_with (first
    | (refine QB.wpList_alloc rfl 30 rfl zwin ?_; intro XA hxa hya
       have HXA := Lib.hid (show Row XA w6.heap.size [.int .u64 0, .int .u64 0, .int .u64 0, .int .u64 0] 30 from hxa); have HYA := Lib.hid hya; clear hxa hya)
    | (refine wpList_storeRow rfl 30 _ _ rfl rfl (cs := Win.wl (Win.tk e.f e.t e.s e.m pn 0) (Win.tk e.f e.t e.s e.m pn 1) (Win.tk e.f e.t e.s e.m pn 2) (Win.tk e.f e.t e.s e.m pn 3)) rfl HXA.out (by kernel_rfl) rfl rfl (Win.wl_one _ _ _ _) ?_
       refine QB.name fun W7 hZ => ?_
       have hb7 : Below w6.heap.size w6 W7 := hZ ▸ below_setRow HYA.out (Nat.le_refl _) _
       have HRW := Lib.hid (show Row W7 w6.heap.size (Win.wl (Win.tk e.f e.t e.s e.m pn 0) (Win.tk e.f e.t e.s e.m pn 1) (Win.tk e.f e.t e.s e.m pn 2) (Win.tk e.f e.t e.s e.m pn 3)) 30 from hZ ▸ HXA.out.setRow _)
       have HB7 := Lib.hid (nextB HB6.out (Nat.le_refl _) hb7)
       have HR57 := Lib.hid (HR5.out.below hb7 HR5.out.lt)
       have HR77 := Lib.hid (HR7.out.below hb7 HR7.out.lt)
       have HV7 := Lib.hid (HV6.out.below hb7 (Nat.le_refl _))
       have HGW := Lib.hid (show g7 < w6.heap.size from HR7.out.lt)
       skip
       clear hZ hb7 HXA HYA HB6 HR5 HR7 HV6)
    | (refine wpList_bp rfl 32 _ rfl (ps := #[]) (by kernel_rfl) (HB0.out _) ?_)
    | (refine wpList_storeRow rfl 32 _ _ rfl rfl (cs := zed.cs) HZV.out HR57.out (by kernel_rfl) (Ed.len zed_K) (Ed.len zed_K) (Ed.one _) ?_
       refine QB.name fun V2 hZ => ?_
       have R2 := Lib.hid (show Row V2 g5 zed.cs 32 from hZ ▸ HR57.out.setRow _)
       have HBZ := Lib.hid (show Below w.heap.size w V2 from hZ ▸ below_setRow HB7.out (by have := HGG.out; omega) _)
       clear hZ)
    | fail)
   refine bodyPost_ret (results_tct (cs := zed.cs) rfl rfl R2.out Tryz.underlying32 rfl (by kernel_rfl) (Ed.len zed_K)) rfl ?_
   exact ⟨⟨fun h => by rw [H9.out] at h; exact absurd h (by decide), fun _ => rfl⟩, HBZ.out⟩
end Go.Proofs.YtedmogacklbcmaaGreatDoor.Ses
namespace Go.Proofs.YtedmogacklbcmaaGreatDoor.Ses
open Go.RowKit
def zrest : List Value := [.int .i64 0, .int .u32 0, .int .u64 0, .int .i64 0, .int .u64 0, .int .i64 0] ++ List.replicate 32 (.int .u8 0) ++ [.int .u32 0, .int .i64 0, .int .u64 0, .int .i64 0] ++ List.replicate 32 (.int .u8 0) ++ [.int .u64 0, .int .u32 0, .slice none 0 0, .slice none 0 0, .slice none 0 0, .slice none 0 0]
def rcs (k : Int) (s u : Nat) : List Value := .int .i64 k :: .int .u32 0 :: .int .u64 0 :: .int .u64 (s : Int) :: .int .u64 (u : Int) :: zrest
set_option maxRecDepth 100000 in
theorem zero_Rec : (Tryz.prog.info? 58).bind (·.zero) = some (.agg (rcs 0 0 0).toArray) := by kernel_rfl
set_option maxRecDepth 100000 in
theorem zrest_len : zrest.length = 80 := by kernel_rfl
theorem rcs_len (k : Int) (s u : Nat) : (rcs k s u).length = 85 := by
 show (_ :: _ :: _ :: _ :: _ :: zrest).length = 85
 simp [zrest_len]
set_option maxRecDepth 100000 in
theorem zrest_one : zrest.all (fun v => v.oneCell') = true := by kernel_rfl
theorem rcs_one (k : Int) (s u : Nat) : ∀ v ∈ rcs k s u, v.oneCell' = true := by
 intro v hv
 simp only [rcs, List.mem_cons] at hv
 rcases hv with rfl | rfl | rfl | rfl | rfl | h
 · rfl
 · rfl
 · rfl
 · rfl
 · rfl
 · exact List.all_eq_true.1 zrest_one v h
set_option maxRecDepth 100000 in
theorem build_Rec (k : Int) (s u : Int) (w : World) : (Instr.build 58 #[(0, .int .i64 k), (3, .int .u64 s), (4, .int .u64 u)]).run Tryz.prog w = .ok (.agg (.int .i64 k :: .int .u32 0 :: .int .u64 0 :: .int .u64 s :: .int .u64 u :: zrest).toArray) w := by kernel_rfl
set_option maxRecDepth 100000 in
set_option maxHeartbeats 4000000 in
theorem Leases_ok (e : Ed) (hi : e.In) (hV : Valid e) (hn : e.n = e.l + 1) (hl : e.l < 1152921504606846976) (w : World) : Calls Tryz.prog 36 #[e.val] w fun r w' => r = .returned (.tuple #[.agg (rcs 6 e.sid (e.l + min e.stock.toNat (1152921504606846976 - e.l))).toArray, .bool true]) ∧ Below w.heap.size w w' := by
 have hk := hi.k
 obtain ⟨W, hW⟩ : ∃ W, w.alloc (.cells e.cs.toArray 32) = W := ⟨_, rfl⟩
 have hr : Row W w.heap.size e.cs 32 := hW ▸ Row.new rfl rfl
 have hb : Below w.heap.size w W := hW ▸ (Below.refl _ w).alloc (Nat.le_refl _) _
 have HB := Lib.hid hb
 have HK := Lib.hid hk
 have HR := Lib.hid hr
 have HOk := Lib.hid hV.2.2.2.1
 have HNL := Lib.hid (And.intro hn hl)
 have HC := Lib.hid (fun y => Check_any e hi y)
 rw [show chkE e = 0 from if_pos hV] at HC
 obtain ⟨st, hst⟩ : ∃ n : Nat, e.stock = (n : Int) := ⟨e.stock.toNat, by have := hV.2.1; omega⟩
 have HST := Lib.hid (show e.stock = (st : Int) ∧ 0 < st ∧ st ≤ 65536 by have h1 := hV.2.1; have h2 := hV.2.2.1; omega)
 have hwst : IntKind.u64.wrap (st : Int) = (st : Int) := Lea.wrap_in _ (by omega) (by have := hV.2.2.1; omega)
 obtain ⟨ev, hev⟩ : ∃ ev, e.val = ev := ⟨_, rfl⟩
 have HEV := Lib.hid (show ev = .agg e.cs.toArray from hev.symm)
 have FD := Lib.hid (fun (y : World) (g : Nat) (T : TypeId) (h : Row y g e.cs T) => show (loadVar 32 ⟨g, 0, none⟩).run Tryz.prog y = .ok ev y from hev ▸ l_end h hk)
 have HBe := Lib.hid (fun (y : World) => show (Instr.build 90 #[(0, ev)]).run Tryz.prog y = .ok ev y from hev ▸ build_en hk y)
 obtain ⟨up, hup⟩ : ∃ up, e.l + min e.stock.toNat (1152921504606846976 - e.l) = up := ⟨_, rfl⟩
 have HUP := Lib.hid hup
 rw [hev] at HC
 rw [hup, hev, HEV.out]
 clear hr hb hk hi hV hn hl hst hev hup
 go_enter Tryz.func36, Tryz.ntmps36
 go_wp2_with (first
  | (show wpList _ _ _ (⟨some 2, _, _, _, _, _⟩ :: _) _ _
     refine QB.wpList_alloc rfl 58 rfl zero_Rec ?_; intro X2 hx2 hy2
     have HR2 := Lib.hid (show Row X2 W.heap.size (rcs 0 0 0) 58 from hx2)
     have HY2 := Lib.hid (nextB HB.out (Nat.le_refl _) hy2)
     have HRe := Lib.hid (HR.out.below hy2 HR.out.lt)
     have HL := Lib.hid (FD.out X2 _ _ HRe.out)
     have HG0 := Lib.hid (show w.heap.size < W.heap.size from HR.out.lt)
     clear hx2 hy2 HR HB)
  | (refine QB.wpList_ld 32 rfl rfl HL.out (by kernel_rfl) ?_; clear HL)
  | (refine wpList_bp rfl 90 _ rfl (ps := #[(0, ev)]) (by kernel_rfl) (HBe.out _) ?_)
  | (show wpList _ _ _ (⟨some 4, _, _, _, _, _⟩ :: _) _ _
     refine QB.wpList_alloc rfl 90 rfl zero_en ?_; intro X4 hx4 hy4
     have HX4 := Lib.hid (show Row X4 X2.heap.size zed.cs 90 from hx4); have HY4 := Lib.hid hy4; clear hx4 hy4)
  | (refine wpList_storeRow rfl 90 _ _ rfl rfl (cs := e.cs) HEV.out HX4.out (by kernel_rfl) (Ed.len HK.out) (Ed.len zed_K) e.one ?_
     refine QB.name fun W1 hZ => ?_
     have hb6 : Below X2.heap.size X2 W1 := hZ ▸ below_setRow HY4.out (Nat.le_refl _) _
     have HR4 := Lib.hid (show Row W1 X2.heap.size e.cs 90 from hZ ▸ HX4.out.setRow _)
     have HB1 := Lib.hid (nextB HY2.out (Nat.le_refl _) hb6)
     have HR21 := Lib.hid (HR2.out.below hb6 HR2.out.lt)
     have HG4 := Lib.hid (show W.heap.size < X2.heap.size from HR2.out.lt)
     have HL1 := Lib.hid (FD.out W1 _ _ HR4.out)
     clear hZ hb6 HX4 HY4 HY2 HR2 HRe)
  | (refine QB.wpList_ld 32 rfl rfl HL1.out (by kernel_rfl) ?_; clear HL1)
  | fail)
 obtain ⟨g2, hg2⟩ : ∃ g, W.heap.size = g := ⟨_, rfl⟩
 obtain ⟨g4, hg4⟩ : ∃ g, X2.heap.size = g := ⟨_, rfl⟩
 have HGG := Lib.hid (show w.heap.size < g2 ∧ g2 < g4 by have := HG0.out; have := HG4.out; omega)
 rw [hg2] at HR21 ⊢
 rw [hg4] at HR4 ⊢
 clear hW hg2 hg4 HG0 HG4 FD HBe
 refine (HC.out W1).mono ?_
 rintro r w2 ⟨rfl, hb2⟩
 have HB2 := Lib.hid (nextB HB1.out (Nat.le_refl _) hb2)
 have HR2 := Lib.hid (HR21.out.below hb2 HR21.out.lt)
 have HR4 := Lib.hid (HR4.out.below hb2 HR4.out.lt)
 have c36 := c_n HR4.out HK.out
 have c37 := c_l HR4.out HK.out
 clear hb2 HB1 HR21 HC
 go_wp2_with fail
 clear c36 c37
 refine (Lea.Left_ok e.n e.l w2 HOk.out).mono ?_
 rintro r w3 ⟨rfl, hw3⟩
 have hb3 : Below w2.heap.size w2 w3 := hw3 ▸ ((Below.refl _ w2).alloc (Nat.le_refl _) _).alloc (by simp) _
 rw [show e.l + 1 - e.n = 0 by have := HNL.out.1; omega]
 have HB3 := Lib.hid (nextB HB2.out (Nat.le_refl _) hb3)
 have HR2 := Lib.hid (HR2.out.below hb3 HR2.out.lt)
 have HR4 := Lib.hid (HR4.out.below hb3 HR4.out.lt)
 have c36 := c_n HR4.out HK.out
 have c37 := c_l HR4.out HK.out
 have c42 := c_stock HR4.out HK.out
 rw [HST.out.1] at c42
 clear hb3 hw3 HB2
 go_wp2_with fail
 clear c36 c37 c42
 refine (Lea.Lease_ok e.n e.l st w3 HOk.out HST.out.2.1 HNL.out.2).mono ?_
 rintro r w4 ⟨rfl, hb4⟩
 have hst : e.stock.toNat = st := by have := HST.out.1; omega
 have HUP2 := Lib.hid (show e.l + min st (1152921504606846976 - e.l) = up by rw [← hst]; exact HUP.out)
 rw [HUP2.out]
 have HB4 := Lib.hid (nextB HB3.out (Nat.le_refl _) hb4)
 have HR2 := Lib.hid (HR2.out.below hb4 HR2.out.lt)
 have HR4 := Lib.hid (HR4.out.below hb4 HR4.out.lt)
 have HBR := Lib.hid (fun (y : World) => build_Rec 6 (e.sid : Int) (up : Int) y)
 obtain ⟨rc, hrc⟩ : ∃ rc, rcs 6 e.sid up = rc := ⟨_, rfl⟩
 have HRC := Lib.hid hrc
 have HRL := Lib.hid (show rc.length = 85 by rw [← hrc]; exact rcs_len _ _ _)
 have HR1 := Lib.hid (show ∀ v ∈ rc, v.oneCell' = true by rw [← hrc]; exact rcs_one _ _ _)
 rw [show (Value.int .i64 6 :: .int .u32 0 :: .int .u64 0 :: .int .u64 (e.sid : Int) :: .int .u64 (up : Int) :: zrest) = rc from hrc] at HBR
 clear hb4 hst hrc HB3
 go_wp2_with (first
  | (show wpList _ _ _ (⟨some 5, _, _, _, _, _⟩ :: _) _ _
     refine QB.wpList_alloc rfl 28 rfl zctr ?_; intro XA hxa hya
     have HXA := Lib.hid (show Row XA w4.heap.size [.int .u64 0, .int .u64 0] 28 from hxa); have HYA := Lib.hid hya; clear hxa hya)
  | (refine wpList_storeRow rfl 28 _ _ rfl rfl (cs := [.int .u64 (e.n : Int), .int .u64 (up : Int)]) rfl HXA.out (by kernel_rfl) rfl rfl (by intro v hv; simp only [List.mem_cons, List.not_mem_nil, or_false] at hv; rcases hv with rfl | rfl <;> rfl) ?_
     refine QB.name fun W5 hZ => ?_
     have hb6 : Below w4.heap.size w4 W5 := hZ ▸ below_setRow HYA.out (Nat.le_refl _) _
     have HRA := Lib.hid (show Row W5 w4.heap.size [.int .u64 (e.n : Int), .int .u64 (up : Int)] 28 from hZ ▸ HXA.out.setRow _)
     have HB5 := Lib.hid (nextB HB4.out (Nat.le_refl _) hb6)
     have HR25 := Lib.hid (HR2.out.below hb6 HR2.out.lt)
     have c0 := c_sid (HR4.out.below hb6 HR4.out.lt)
     have k1 := HRA.out.cell (i := 1) rfl
     clear hZ hb6 HXA HYA HB4 HR2 HR4)
  | (refine wpList_bp rfl 58 _ rfl (ps := #[(0, .int .i64 6), (3, .int .u64 (e.sid : Int)), (4, .int .u64 (up : Int))]) (by kernel_rfl) (HBR.out _) ?_)
  | (refine wpList_storeRow rfl 58 _ _ rfl rfl (cs := rc) rfl HR25.out (by kernel_rfl) HRL.out (rcs_len 0 0 0) HR1.out ?_
     refine QB.name fun V2 hZ => ?_
     have R2 := Lib.hid (show Row V2 g2 rc 58 from hZ ▸ HR25.out.setRow _)
     have HBZ := Lib.hid (show Below w.heap.size w V2 from hZ ▸ below_setRow HB5.out (by have := HGG.out; omega) _)
     clear hZ)
  | fail)
 refine bodyPost_ret (results_ct (cs := rc) rfl rfl R2.out Tryz.underlying58 rfl (by kernel_rfl) HRL.out) rfl ?_
 exact ⟨by rw [HRC.out]; rfl, HBZ.out⟩
set_option maxRecDepth 100000 in
set_option maxHeartbeats 4000000 in
theorem leased_ok (e : Ed) (hi : e.In) (hV : Valid e) (up : Nat) (h1 : e.l < up) (h2 : up ≤ 1152921504606846976) (w : World) : Calls Tryz.prog 40 #[e.val, .int .u64 (up : Int)] w fun r w' => r = .returned (.tuple #[({ e with n := e.n, l := up } : Ed).val, .int .i64 0]) ∧ Below w.heap.size w w' := by
 have hk := hi.k
 obtain ⟨W, hW⟩ : ∃ W, w.alloc (.cells e.cs.toArray 90) = W := ⟨_, rfl⟩
 have hr : Row W w.heap.size e.cs 90 := hW ▸ Row.new rfl rfl
 have hb : Below w.heap.size w W := hW ▸ (Below.refl _ w).alloc (Nat.le_refl _) _
 have HB := Lib.hid hb
 have HK := Lib.hid hk
 have HR := Lib.hid hr
 have HOk := Lib.hid hV.2.2.2.1
 obtain ⟨dif, hdif⟩ : ∃ d, up - e.l = d := ⟨_, rfl⟩
 have HD := Lib.hid (show e.l + dif = up ∧ 0 < dif by omega)
 have HU := Lib.hid (And.intro h1 h2)
 have hmin : min (up : Int) (e.l : Int) = (e.l : Int) := by omega
 have hw : IntKind.u64.wrap ((up : Int) - (e.l : Int)) = (dif : Int) := by rw [Lea.wrap_in _ (by omega) (by omega)]; omega
 have hwm : IntKind.u64.wrap (min (up : Int) (e.l : Int)) = (e.l : Int) := by rw [hmin]; exact Lea.wrap_in _ (by omega) (by omega)
 have hlt1 : ¬ (up : Int) < (e.l : Int) := by omega
 have hlt2 : (e.l : Int) < (up : Int) := by omega
 have c36 := c_n hr hk
 have c37 := c_l hr hk
 unfold Ed.val
 clear hr hb hk hi hV h1 h2 hdif
 go_enter Tryz.func40, Tryz.ntmps40
 go_wp2_with (first
  | (show wpList _ _ _ (⟨some 4, _, _, _, _, _⟩ :: _) _ _
     refine QB.wpList_alloc rfl 32 rfl zero_End ?_; intro X4 hx4 hy4
     have HR4 := Lib.hid (show Row X4 W.heap.size zed.cs 32 from hx4)
     have HY4 := Lib.hid (nextB HB.out (Nat.le_refl _) hy4)
     have HRe := Lib.hid (HR.out.below hy4 HR.out.lt)
     have k36 := c_n HRe.out HK.out
     have k37 := c_l HRe.out HK.out
     have HGG := Lib.hid (show w.heap.size < W.heap.size from HR.out.lt)
     clear hx4 hy4 HR HB c36 c37)
  | fail)
 clear k36 k37 hW
 refine (Lea.Lease_ok e.n e.l dif X4 HOk.out HD.out.2 (by have := HU.out; omega)).mono ?_
 rintro r w5 ⟨rfl, hb5⟩
 rw [show e.l + min dif (1152921504606846976 - e.l) = up by have := HD.out; have := HU.out; omega]
 have HB5 := Lib.hid (nextB HY4.out (Nat.le_refl _) hb5)
 have HR5 := Lib.hid (HR4.out.below hb5 HR4.out.lt)
 have HRe5 := Lib.hid (HRe.out.below hb5 HRe.out.lt)
 obtain ⟨g4, hg4⟩ : ∃ g, W.heap.size = g := ⟨_, rfl⟩
 rw [hg4] at HR5 HGG ⊢
 have hne : ((up : Int) != (up : Int)) = false := by simp
 clear hb5 HY4 HR4 HRe hg4
 go_wp2_with (first
  | (show wpList _ _ _ (⟨some 6, _, _, _, _, _⟩ :: _) _ _
     refine QB.wpList_alloc rfl 28 rfl zctr ?_; intro XA hxa hya
     have HXA := Lib.hid (show Row XA w5.heap.size [.int .u64 0, .int .u64 0] 28 from hxa); have HYA := Lib.hid hya; clear hxa hya)
  | (refine wpList_storeRow rfl 28 _ _ rfl rfl (cs := [.int .u64 (e.n : Int), .int .u64 (up : Int)]) rfl HXA.out (by kernel_rfl) rfl rfl (by intro v hv; simp only [List.mem_cons, List.not_mem_nil, or_false] at hv; rcases hv with rfl | rfl <;> rfl) ?_
     refine QB.name fun W6 hZ => ?_
     have hb6 : Below w5.heap.size w5 W6 := hZ ▸ below_setRow HYA.out (Nat.le_refl _) _
     have HRA := Lib.hid (show Row W6 w5.heap.size [.int .u64 (e.n : Int), .int .u64 (up : Int)] 28 from hZ ▸ HXA.out.setRow _)
     have HB6 := Lib.hid (nextB HB5.out (Nat.le_refl _) hb6)
     have HR46 := Lib.hid (HR5.out.below hb6 HR5.out.lt)
     have HRe6 := Lib.hid (HRe5.out.below hb6 HRe5.out.lt)
     have k0 := HRA.out.cell (i := 0) rfl
     have k1 := HRA.out.cell (i := 1) rfl
     clear hZ hb6 HXA HYA HB5 HR5 HRe5)
  | (show wpList _ _ _ (⟨none, .store 28 (.tmp 34) (.tmp 32), _, _, _, _⟩ :: _) _ _
     refine Pol.wpList_storeSub rfl 28 (.tmp 34) (.tmp 32) rfl (cs := [.int .u64 (e.n : Int), .int .u64 (up : Int)]) rfl rfl HRe6.out (by kernel_rfl) rfl (by rw [Ed.len HK.out]; simp) (by intro v hv; simp only [List.mem_cons, List.not_mem_nil, or_false] at hv; rcases hv with rfl | rfl <;> rfl) ?_
     refine QB.name fun W7 hZ => ?_
     have hgr : W6.grownBy W7 (some w.heap.size) := hZ ▸ only_setRow _
     have HRe7 := Lib.hid (show Row W7 w.heap.size ({ e with n := e.n, l := up } : Ed).cs 90 from hZ ▸ sp_out HK.out e.n up ▸ HRe6.out.setRow _)
     have HB7 := Lib.hid (show Below w.heap.size w W7 from hZ ▸ below_setRow HB6.out (Nat.le_refl _) _)
     have HR47 := Lib.hid (row_grown HR46.out hgr (by have := HGG.out; omega))
     have HL := Lib.hid (show (loadVar 32 ⟨w.heap.size, 0, none⟩).run Tryz.prog W7 = .ok ({ e with n := e.n, l := up } : Ed).val W7 from l_end HRe7.out HK.out)
     clear hZ hgr HB6 HR46 HRe6)
  | (refine QB.wpList_ld 32 rfl rfl HL.out (by kernel_rfl) ?_; clear HL)
  | (refine wpList_storeRow rfl 32 _ _ rfl rfl (cs := ({ e with n := e.n, l := up } : Ed).cs) rfl HR47.out (by kernel_rfl) (Ed.len HK.out) (Ed.len zed_K) (Ed.one _) ?_
     refine QB.name fun V2 hZ => ?_
     have R2 := Lib.hid (show Row V2 g4 ({ e with n := e.n, l := up } : Ed).cs 32 from hZ ▸ HR47.out.setRow _)
     have HBZ := Lib.hid (show Below w.heap.size w V2 from hZ ▸ below_setRow HB7.out (by have := HGG.out; omega) _)
     clear hZ)
  | fail)
 clear k0 k1
 refine bodyPost_ret (results_ct (cs := ({ e with n := e.n, l := up } : Ed).cs) rfl rfl R2.out Tryz.underlying32 rfl (by kernel_rfl) (Ed.len HK.out)) rfl ?_
 exact ⟨rfl, HBZ.out⟩
set_option maxRecDepth 100000 in
set_option maxHeartbeats 4000000 in
theorem Grant_lease (e : Ed) (hi : e.In) (hV : Valid e) (up : Nat) (h1 : e.l < up) (h2 : up ≤ 1152921504606846976) (w : World) : Calls Tryz.prog 20 #[e.val, .agg (rcs 6 e.sid up).toArray] w fun r w' => r = .returned (.tuple #[({ e with n := e.n, l := up } : Ed).val, .int .i64 0]) ∧ Below w.heap.size w w' := by
 obtain ⟨rc, hrc⟩ : ∃ rc, rcs 6 e.sid up = rc := ⟨_, rfl⟩
 have r0 : rc[0]? = some (.int .i64 6) := by rw [← hrc]; rfl
 have r3 : rc[3]? = some (.int .u64 (e.sid : Int)) := by rw [← hrc]; rfl
 have r4 : rc[4]? = some (.int .u64 (up : Int)) := by rw [← hrc]; rfl
 have HRR := Lib.hid (And.intro r0 (And.intro r3 r4))
 have HLD := Lib.hid (fun y => leased_ok e hi hV up h1 h2 y)
 rw [hrc]
 clear hrc r0 r3 r4 h1 h2
 have hk := hi.k
 obtain ⟨W, hW⟩ : ∃ W, (w.alloc (.cells e.cs.toArray 32)).alloc (.cells rc.toArray 58) = W := ⟨_, rfl⟩
 have hr : Row W w.heap.size e.cs 32 := hW ▸ (Row.new rfl rfl : Row (w.alloc (.cells e.cs.toArray 32)) w.heap.size e.cs 32).alloc _
 have hb : Below w.heap.size w W := hW ▸ ((Below.refl _ w).alloc (Nat.le_refl _) _).alloc (by simp) _
 have HWS := Lib.hid (show w.heap.size < W.heap.size from hr.lt)
 have hq : Row W (w.heap.size + 1) rc 58 := hW ▸ Row.new (by simp) rfl
 have HP := Lib.hid hq
 have HB := Lib.hid hb
 have HK := Lib.hid hk
 have HR := Lib.hid hr
 have HC := Lib.hid (fun y => Check_any e hi y)
 rw [show chkE e = 0 from if_pos hV] at HC
 obtain ⟨ev, hev⟩ : ∃ ev, e.val = ev := ⟨_, rfl⟩
 have HEV := Lib.hid (show ev = .agg e.cs.toArray from hev.symm)
 have FD := Lib.hid (fun (y : World) (g : Nat) (T : TypeId) (h : Row y g e.cs T) => show (loadVar 32 ⟨g, 0, none⟩).run Tryz.prog y = .ok ev y from hev ▸ l_end h hk)
 have FE := Lib.hid (fun (y : World) (g : Nat) (h : Row y g e.cs 90) => show (loadVar 90 ⟨g, 0, none⟩).run Tryz.prog y = .ok ev y from hev ▸ l_en h hk)
 have HBe := Lib.hid (fun (y : World) => show (Instr.build 90 #[(0, ev)]).run Tryz.prog y = .ok ev y from hev ▸ build_en hk y)
 rw [hev] at HLD
 obtain ⟨xv, hxv⟩ : ∃ xv, ({ e with n := e.n, l := up } : Ed).val = xv := ⟨_, rfl⟩
 have HXV := Lib.hid (show xv = .agg ({ e with n := e.n, l := up } : Ed).cs.toArray from hxv.symm)
 rw [hxv] at HLD
 clear hxv
 rw [hev] at HC
 rw [hev, HEV.out]
 clear hr hb hk hi hV hev hq
 go_enter Tryz.func20, Tryz.ntmps20
 go_wp2_with (first
  | (show wpList _ _ _ (⟨some 4, _, _, _, _, _⟩ :: _) _ _
     refine QB.wpList_alloc rfl 32 rfl zero_End ?_; intro X2 hx2 hy2
     have HR2 := Lib.hid (show Row X2 W.heap.size zed.cs 32 from hx2)
     have HY2 := Lib.hid (nextB HB.out (Nat.le_refl _) hy2)
     have HRe := Lib.hid (HR.out.below hy2 HR.out.lt)
     have HL := Lib.hid (FD.out X2 _ _ HRe.out)
     have HP2 := Lib.hid (HP.out.below hy2 HP.out.lt)
     clear hx2 hy2 HR HB HP)
  | (refine QB.wpList_ld 32 rfl rfl HL.out (by kernel_rfl) ?_; clear HL)
  | (refine wpList_bp rfl 90 _ rfl (ps := #[(0, ev)]) (by kernel_rfl) (HBe.out _) ?_)
  | (show wpList _ _ _ (⟨some 6, _, _, _, _, _⟩ :: _) _ _
     refine QB.wpList_alloc rfl 90 rfl zero_en ?_; intro X4 hx4 hy4
     have HX4 := Lib.hid (show Row X4 X2.heap.size zed.cs 90 from hx4); have HY4 := Lib.hid hy4; clear hx4 hy4)
  | (refine wpList_storeRow rfl 90 _ _ rfl rfl (cs := e.cs) HEV.out HX4.out (by kernel_rfl) (Ed.len HK.out) (Ed.len zed_K) e.one ?_
     refine QB.name fun W1 hZ => ?_
     have hb6 : Below X2.heap.size X2 W1 := hZ ▸ below_setRow HY4.out (Nat.le_refl _) _
     have HR4 := Lib.hid (show Row W1 X2.heap.size e.cs 90 from hZ ▸ HX4.out.setRow _)
     have HB1 := Lib.hid (nextB HY2.out (Nat.le_refl _) hb6)
     have HR21 := Lib.hid (HR2.out.below hb6 HR2.out.lt)
     have HG4 := Lib.hid (show W.heap.size < X2.heap.size from HR2.out.lt)
     have HL1 := Lib.hid (FD.out W1 _ _ HR4.out)
     have HP1 := Lib.hid (HP2.out.below hb6 HP2.out.lt)
     clear hZ hb6 HX4 HY4 HY2 HR2 HRe HP2)
  | (refine QB.wpList_ld 32 rfl rfl HL1.out (by kernel_rfl) ?_; clear HL1)
  | fail)
 obtain ⟨g2, hg2⟩ : ∃ g, W.heap.size = g := ⟨_, rfl⟩
 obtain ⟨g4, hg4⟩ : ∃ g, X2.heap.size = g := ⟨_, rfl⟩
 have HGG := Lib.hid (show w.heap.size < g2 ∧ g2 < g4 by have := HWS.out; have := HG4.out; omega)
 rw [hg2] at HR21 ⊢
 rw [hg4] at HR4 ⊢
 clear hW hg2 hg4 HWS HG4 HBe
 refine (HC.out W1).mono ?_
 rintro r w2 ⟨rfl, hb2⟩
 have HB2 := Lib.hid (nextB HB1.out (Nat.le_refl _) hb2)
 have HR2 := Lib.hid (HR21.out.below hb2 HR21.out.lt)
 have HR4 := Lib.hid (HR4.out.below hb2 HR4.out.lt)
 have HP := Lib.hid (HP1.out.below hb2 HP1.out.lt)
 clear hb2 HB1 HR21 HC HP1
 have c0 := c_sid HR4.out
 have q0 := HP.out.cell HRR.out.1
 have q3 := HP.out.cell HRR.out.2.1
 have q4 := HP.out.cell HRR.out.2.2
 have HL := Lib.hid (FE.out w2 _ HR4.out)
 have hne : ((e.sid : Int) != (e.sid : Int)) = false := by simp
 go_wp2_with (first
  | (refine QB.wpList_ld 90 rfl rfl HL.out (by kernel_rfl) ?_; clear HL)
  | fail)
 clear c0 q0 q3 q4
 refine (HLD.out w2).mono ?_
 rintro r w3 ⟨rfl, hb3⟩
 have HB3 := Lib.hid (nextB HB2.out (Nat.le_refl _) hb3)
 have HR2 := Lib.hid (HR2.out.below hb3 HR2.out.lt)
 clear hb3 HB2 HLD
 go_wp2_with (first
  | (refine wpList_storeRow rfl 32 _ _ rfl rfl (cs := ({ e with n := e.n, l := up } : Ed).cs) HXV.out HR2.out (by kernel_rfl) (Ed.len HK.out) (Ed.len zed_K) (Ed.one _) ?_
     refine QB.name fun V2 hZ => ?_
     have R2 := Lib.hid (show Row V2 g2 ({ e with n := e.n, l := up } : Ed).cs 32 from hZ ▸ HR2.out.setRow _)
     have HBZ := Lib.hid (show Below w.heap.size w V2 from hZ ▸ below_setRow HB3.out (by have := HGG.out; omega) _)
     clear hZ)
  | fail)
 refine bodyPost_ret (results_ct (cs := ({ e with n := e.n, l := up } : Ed).cs) rfl rfl R2.out Tryz.underlying32 rfl (by kernel_rfl) (Ed.len HK.out)) rfl ?_
 exact ⟨rfl, HBZ.out⟩
theorem newE_valid {sid : Nat} {peer : Int} {sec : List UInt8} {ep : Nat} {way stock : Int} (h1 : 1 ≤ sid) (h2 : 1 ≤ peer ∧ peer ≤ 65536) (h3 : 1 ≤ ep) (h4 : way = 0 ∨ way = 1) (h5 : 1 ≤ stock ∧ stock ≤ 65536) : Valid (newE sid peer sec ep way stock) := by
 unfold newE
 split
 · exact ⟨⟨h1, h2.1, h2.2, h3, h4⟩, h5.1, h5.2, (⟨by decide, by decide, by decide⟩ : Lea.Ok 1 1152921504606846976), (⟨by decide, by decide, by decide, by decide, by decide, by decide, by decide⟩ : Win.Ok 1 0 0 1152921504606846977)⟩
 · exact ⟨⟨h1, h2.1, h2.2, h3, h4⟩, h5.1, h5.2, ok10, wok1⟩
set_option maxRecDepth 100000 in
set_option maxHeartbeats 4000000 in
theorem Move_ok (e : Ed) (hi : e.In) (hV : Valid e) (ep2 : Nat) (h1 : e.ep < ep2) (h2 : ep2 < 4294967296) (w : World) : Calls Tryz.prog 12 #[e.val, .int .u32 (ep2 : Int)] w fun r w' => r = .returned (.tuple #[(newE e.sid e.peer e.sec ep2 e.way e.stock).val, .int .i64 0]) ∧ Below w.heap.size w w' := by
 obtain ⟨X, hX⟩ : ∃ X, newE e.sid e.peer e.sec ep2 e.way e.stock = X := ⟨_, rfl⟩
 have HVX := Lib.hid (show Valid X by rw [← hX]; exact newE_valid hV.1.1 ⟨hV.1.2.1, hV.1.2.2.1⟩ (by omega) hV.1.2.2.2.2 ⟨hV.2.1, hV.2.2.1⟩)
 have HXI := Lib.hid (show X.In by rw [← hX]; exact newE_In hi.k hi.sid h2)
 have HNW := Lib.hid (fun y => New_any e.sid e.peer e.sec hi.k ep2 e.way e.stock hi.sid h2 y)
 rw [hX] at HNW ⊢
 have hle : ¬ (ep2 : Int) ≤ (e.ep : Int) := by omega
 have hle2 : (e.ep : Int) < (ep2 : Int) := by omega
 have FS := Lib.hid (fun (y : World) (g : Nat) (h : Row y g e.cs 90) => show (loadVar 25 ⟨g, 0, none⟩).run Tryz.prog y = .ok (.agg e.ses.toArray) y from l_ses h hi.k)
 obtain ⟨xv, hxv⟩ : ∃ xv, X.val = xv := ⟨_, rfl⟩
 have HXV := Lib.hid (show xv = .agg X.cs.toArray from hxv.symm)
 rw [hxv] at HNW ⊢
 obtain ⟨sv, hsv⟩ : ∃ sv, Value.agg (.int .u64 (e.sid : Int) :: .int .i64 e.peer :: e.sec.map bv).toArray = sv := ⟨_, rfl⟩
 rw [hsv] at HNW
 replace FS := Lib.hid (fun (y : World) (g : Nat) (h : Row y g e.cs 90) => show (loadVar 25 ⟨g, 0, none⟩).run Tryz.prog y = .ok sv y from hsv ▸ FS.out y g h)
 clear hX hxv hsv h1 h2
 have hk := hi.k
 obtain ⟨W, hW⟩ : ∃ W, w.alloc (.cells e.cs.toArray 32) = W := ⟨_, rfl⟩
 have hr : Row W w.heap.size e.cs 32 := hW ▸ Row.new rfl rfl
 have hb : Below w.heap.size w W := hW ▸ (Below.refl _ w).alloc (Nat.le_refl _) _
 have HWS := Lib.hid (show w.heap.size < W.heap.size from hr.lt)
 have HB := Lib.hid hb
 have HK := Lib.hid hk
 have HR := Lib.hid hr
 have HC := Lib.hid (fun y => Check_any e hi y)
 rw [show chkE e = 0 from if_pos hV] at HC
 obtain ⟨ev, hev⟩ : ∃ ev, e.val = ev := ⟨_, rfl⟩
 have HEV := Lib.hid (show ev = .agg e.cs.toArray from hev.symm)
 have FD := Lib.hid (fun (y : World) (g : Nat) (T : TypeId) (h : Row y g e.cs T) => show (loadVar 32 ⟨g, 0, none⟩).run Tryz.prog y = .ok ev y from hev ▸ l_end h hk)
 have FE := Lib.hid (fun (y : World) (g : Nat) (h : Row y g e.cs 90) => show (loadVar 90 ⟨g, 0, none⟩).run Tryz.prog y = .ok ev y from hev ▸ l_en h hk)
 have HBe := Lib.hid (fun (y : World) => show (Instr.build 90 #[(0, ev)]).run Tryz.prog y = .ok ev y from hev ▸ build_en hk y)
 rw [hev] at HC
 rw [hev, HEV.out]
 clear hr hb hk hi hV hev
 go_enter Tryz.func12, Tryz.ntmps12
 go_wp2_with (first
  | (show wpList _ _ _ (⟨some 4, _, _, _, _, _⟩ :: _) _ _
     refine QB.wpList_alloc rfl 32 rfl zero_End ?_; intro X2 hx2 hy2
     have HR2 := Lib.hid (show Row X2 W.heap.size zed.cs 32 from hx2)
     have HY2 := Lib.hid (nextB HB.out (Nat.le_refl _) hy2)
     have HRe := Lib.hid (HR.out.below hy2 HR.out.lt)
     have HL := Lib.hid (FD.out X2 _ _ HRe.out)
     skip
     clear hx2 hy2 HR HB)
  | (refine QB.wpList_ld 32 rfl rfl HL.out (by kernel_rfl) ?_; clear HL)
  | (refine wpList_bp rfl 90 _ rfl (ps := #[(0, ev)]) (by kernel_rfl) (HBe.out _) ?_)
  | (show wpList _ _ _ (⟨some 6, _, _, _, _, _⟩ :: _) _ _
     refine QB.wpList_alloc rfl 90 rfl zero_en ?_; intro X4 hx4 hy4
     have HX4 := Lib.hid (show Row X4 X2.heap.size zed.cs 90 from hx4); have HY4 := Lib.hid hy4; clear hx4 hy4)
  | (refine wpList_storeRow rfl 90 _ _ rfl rfl (cs := e.cs) HEV.out HX4.out (by kernel_rfl) (Ed.len HK.out) (Ed.len zed_K) e.one ?_
     refine QB.name fun W1 hZ => ?_
     have hb6 : Below X2.heap.size X2 W1 := hZ ▸ below_setRow HY4.out (Nat.le_refl _) _
     have HR4 := Lib.hid (show Row W1 X2.heap.size e.cs 90 from hZ ▸ HX4.out.setRow _)
     have HB1 := Lib.hid (nextB HY2.out (Nat.le_refl _) hb6)
     have HR21 := Lib.hid (HR2.out.below hb6 HR2.out.lt)
     have HG4 := Lib.hid (show W.heap.size < X2.heap.size from HR2.out.lt)
     have HL1 := Lib.hid (FD.out W1 _ _ HR4.out)
     skip
     clear hZ hb6 HX4 HY4 HY2 HR2 HRe)
  | (refine QB.wpList_ld 32 rfl rfl HL1.out (by kernel_rfl) ?_; clear HL1)
  | fail)
 obtain ⟨g2, hg2⟩ : ∃ g, W.heap.size = g := ⟨_, rfl⟩
 obtain ⟨g4, hg4⟩ : ∃ g, X2.heap.size = g := ⟨_, rfl⟩
 have HGG := Lib.hid (show w.heap.size < g2 ∧ g2 < g4 by have := HWS.out; have := HG4.out; omega)
 rw [hg2] at HR21 ⊢
 rw [hg4] at HR4 ⊢
 clear hW hg2 hg4 HWS HG4 HBe
 refine (HC.out W1).mono ?_
 rintro r w2 ⟨rfl, hb2⟩
 have HB2 := Lib.hid (nextB HB1.out (Nat.le_refl _) hb2)
 have HR2 := Lib.hid (HR21.out.below hb2 HR21.out.lt)
 have HR4 := Lib.hid (HR4.out.below hb2 HR4.out.lt)
 skip
 clear hb2 HB1 HR21 HC
 have c34 := c_ep HR4.out HK.out
 have c35 := c_way HR4.out HK.out
 have c42 := c_stock HR4.out HK.out
 have HL := Lib.hid (FS.out w2 _ HR4.out)
 go_wp2_with (first
  | (refine QB.wpList_ld 25 rfl rfl HL.out (by kernel_rfl) ?_; clear HL)
  | fail)
 clear c34 c35 c42
 refine (HNW.out w2).mono ?_
 rintro r w3 ⟨⟨ho, _⟩, hb3⟩
 have hr := ho HVX.out
 subst hr
 have HB3 := Lib.hid (nextB HB2.out (Nat.le_refl _) hb3)
 have HR2 := Lib.hid (HR2.out.below hb3 HR2.out.lt)
 clear hb3 HB2 HNW ho
 go_wp2_with (first
  | (refine wpList_storeRow rfl 32 _ _ rfl rfl (cs := (X).cs) HXV.out HR2.out (by kernel_rfl) (Ed.len HXI.out.k) (Ed.len zed_K) (Ed.one _) ?_
     refine QB.name fun V2 hZ => ?_
     have R2 := Lib.hid (show Row V2 g2 (X).cs 32 from hZ ▸ HR2.out.setRow _)
     have HBZ := Lib.hid (show Below w.heap.size w V2 from hZ ▸ below_setRow HB3.out (by have := HGG.out; omega) _)
     clear hZ)
  | fail)
 refine bodyPost_ret (results_ct (cs := (X).cs) rfl rfl R2.out Tryz.underlying32 rfl (by kernel_rfl) (Ed.len HXI.out.k)) rfl ?_
 exact ⟨by rw [HXV.out]; rfl, HBZ.out⟩
end Go.Proofs.YtedmogacklbcmaaGreatDoor.Ses
namespace Go.Proofs.YtedmogacklbcmaaGreatDoor.Ses
open Go.RowKit
open Pkt (dp dataOk sealedL z16 dp_ok Pk chk)
def k5 : List UInt8 := 5 :: List.replicate 31 0
theorem k5_len : k5.length = 32 := by decide
def ssc (s : Nat) (p : Int) (k : List UInt8) : List Value := .int .u64 (s : Int) :: .int .i64 p :: k.map bv
theorem ssc_len {s : Nat} {p : Int} {k : List UInt8} (h : k.length = 32) : (ssc s p k).length = 34 := by simp [ssc, h]
theorem ssc_one (s : Nat) (p : Int) (k : List UInt8) : ∀ v ∈ ssc s p k, v.oneCell' = true := by
 intro v hv
 simp only [ssc, List.mem_cons, List.mem_map] at hv
 rcases hv with rfl | rfl | ⟨u, _, rfl⟩ <;> rfl
theorem zero_Sess : (Tryz.prog.info? 25).bind (·.zero) = some (.agg (ssc 0 0 z32).toArray) := by kernel_rfl
set_option maxRecDepth 100000 in
theorem build_k5 (w : World) : (Instr.build 23 #[(0, .int .u8 5)]).run Tryz.prog w = .ok (arr8 k5) w := by kernel_rfl
set_option maxRecDepth 100000 in
theorem build_s9 (w : World) : (Instr.build 25 #[(0, .int .u64 9), (1, .int .i64 3), (2, arr8 k5)]).run Tryz.prog w = .ok (.agg (ssc 9 3 k5).toArray) w := by kernel_rfl
set_option maxRecDepth 100000 in
theorem first_any (w : World) : Calls Tryz.prog 8 #[] w fun r w' => r = .returned (.agg (ssc 9 3 k5).toArray) ∧ Below w.heap.size w w' := by
 have HB1 := Lib.hid (build_k5 (w.alloc (.cells (ssc 0 0 z32).toArray 25)))
 have HK := Lib.hid (show ∀ y : World, (Instr.build 23 #[(0, .int .u8 5)]).run Tryz.prog y = .ok (arr8 k5) y from build_k5)
 have HS := Lib.hid (show ∀ y : World, (Instr.build 25 #[(0, .int .u64 9), (1, .int .i64 3), (2, arr8 k5)]).run Tryz.prog y = .ok (.agg (ssc 9 3 k5).toArray) y from build_s9)
 obtain ⟨kv, hkv⟩ : ∃ kv, arr8 k5 = kv := ⟨_, rfl⟩
 rw [hkv] at HK HS
 obtain ⟨sc, hsc⟩ : ∃ sc, ssc 9 3 k5 = sc := ⟨_, rfl⟩
 have HSL := Lib.hid (show sc.length = 34 by rw [← hsc]; exact ssc_len k5_len)
 have HS1 := Lib.hid (show ∀ v ∈ sc, v.oneCell' = true by rw [← hsc]; exact ssc_one _ _ _)
 rw [hsc] at HS ⊢
 clear hkv hsc HB1
 go_enter Tryz.func8, Tryz.ntmps8
 go_wp2_with (first
  | (refine QB.wpList_alloc rfl 25 rfl zero_Sess ?_; intro X hx hy; have HX := Lib.hid (show Row X w.heap.size (ssc 0 0 z32) 25 from hx); have HY := Lib.hid hy; clear hx hy)
  | (refine wpList_bp rfl 23 _ rfl (ps := #[(0, .int .u8 5)]) (by kernel_rfl) (HK.out _) ?_)
  | (refine wpList_bp rfl 25 _ rfl (ps := #[(0, .int .u64 9), (1, .int .i64 3), (2, kv)]) (by kernel_rfl) (HS.out _) ?_)
  | (refine wpList_storeRow rfl 25 _ _ rfl rfl (cs := sc) rfl HX.out (by kernel_rfl) HSL.out (ssc_len (by decide)) HS1.out ?_
     refine QB.name fun V2 hZ => ?_
     have R2 := Lib.hid (show Row V2 w.heap.size sc 25 from hZ ▸ HX.out.setRow _)
     have HBZ := Lib.hid (show Below w.heap.size w V2 from hZ ▸ below_setRow HY.out (Nat.le_refl _) _)
     clear hZ)
  | fail)
 refine bodyPost_ret (results_row rfl _ rfl R2.out Tryz.underlying25 rfl (by kernel_rfl) HSL.out) rfl ?_
 exact ⟨rfl, HBZ.out⟩
theorem mok : Win.Ok 1 0 0 1152921504606846977 := ⟨by decide, by decide, by decide, by decide, by decide, by decide, by decide⟩
theorem mok1 : Win.Ok 1 1 1 1152921504606846977 := ⟨by decide, by decide, by decide, by decide, by decide, by decide, by decide⟩
theorem ref_0 : Win.ref 1 0 0 1152921504606846977 1 = 0 := by
 unfold Win.ref
 rw [if_neg (Classical.not_not.2 mok), if_neg (by decide), if_neg (by decide), if_neg (by decide), if_neg (by decide)]
theorem ref_7 : Win.ref 1 1 1 1152921504606846977 1 = 7 := by
 unfold Win.ref
 rw [if_neg (Classical.not_not.2 mok1), if_neg (by decide), if_neg (by decide), if_pos (by decide)]
def pq : Ed := ⟨9, 3, k5, 1, 0, 1, 1152921504606846976, 1, 1, 1, 1152921504606846977, 32⟩
theorem took_pq : took (newE 9 3 k5 1 0 32) 1 = pq := by
 have e : newE 9 3 k5 1 0 32 = ⟨9, 3, k5, 1, 0, 1, 1152921504606846976, 1, 0, 0, 1152921504606846977, 32⟩ := if_pos rfl
 rw [e]
 unfold took
 show (⟨9, 3, k5, 1, 0, 1, 1152921504606846976, Win.tk 1 0 0 1152921504606846977 1 0, Win.tk 1 0 0 1152921504606846977 1 1, Win.tk 1 0 0 1152921504606846977 1 2, Win.tk 1 0 0 1152921504606846977 1 3, 32⟩ : Ed) = pq
 rw [Win.tk_ok ref_0, Win.tk_ok ref_0, Win.tk_ok ref_0, Win.tk_ok ref_0]
 rfl
theorem pq_In : pq.In := ⟨k5_len, by decide, by decide, by decide, ⟨by decide, by decide, by decide, by decide⟩⟩
theorem pq_V : Valid pq := ⟨⟨by decide, by decide, by decide, by decide, .inl rfl⟩, by decide, by decide, (⟨by decide, by decide, by decide⟩ : Lea.Ok 1 1152921504606846976), mok1⟩
def hi2 : List UInt8 := [104, 105]
theorem e0_is : newE 9 3 k5 1 1 32 = ⟨9, 3, k5, 1, 1, 1, 0, 1, 0, 0, 1, 32⟩ := if_neg (by decide)
theorem ep_is : newE 9 3 k5 1 0 32 = ⟨9, 3, k5, 1, 0, 1, 1152921504606846976, 1, 0, 0, 1152921504606846977, 32⟩ := if_pos rfl
theorem n_In (way : Int) : (newE 9 3 k5 1 way 32).In := newE_In k5_len (by decide) (by decide)
theorem n_V (way : Int) (h : way = 0 ∨ way = 1) : Valid (newE 9 3 k5 1 way 32) := newE_valid (by decide) (by decide) (by decide) h (by decide)
def g1 : Ed := ⟨9, 3, k5, 1, 1, 1, 32, 1, 0, 0, 1, 32⟩
def g2 : Ed := ⟨9, 3, k5, 1, 1, 2, 32, 1, 0, 0, 1, 32⟩
theorem g1_In : g1.In := ⟨k5_len, by decide, by decide, by decide, fit1⟩
theorem g1_V : Valid g1 := ⟨⟨by decide, by decide, by decide, by decide, .inr rfl⟩, by decide, by decide, (⟨by decide, by decide, by decide⟩ : Lea.Ok 1 32), wok1⟩
theorem g2_In : g2.In := ⟨k5_len, by decide, by decide, by decide, fit1⟩
theorem g2_V : Valid g2 := ⟨⟨by decide, by decide, by decide, by decide, .inr rfl⟩, by decide, by decide, (⟨by decide, by decide, by decide⟩ : Lea.Ok 2 32), wok1⟩
theorem dp_In9 (bo : Value) {A : Option Addr} {c : Nat} (hbo : bo = .slice A 18 c) : (dp 9 1 1 bo).In := ⟨dp_ok 9 1 1 (by rw [hbo]; rfl), by show (9 : Nat) < 18446744073709551616; decide, by show (1 : Nat) < 4294967296; decide, by show (1 : Nat) < 18446744073709551616; decide⟩
theorem rec_hi (y : World) (bo : Value) (A : Option Addr) (c : Nat) (hbo : bo = .slice A 18 c) (ht : Tab y) (hb : Bs y y.heap.size bo (sealedL k5 1 9 1 1 hi2)) : Calls Tryz.prog 10 #[(newE 9 3 k5 1 0 32).val, (dp 9 1 1 bo).val] y (fun r w' => (∃ v, r = .returned (.tuple #[v, pq.val, .int .i64 0]) ∧ Own w' y.heap.size v hi2) ∧ Below y.heap.size y w') := by
 refine (Receive_open (newE 9 3 k5 1 0 32) (n_In 0) (n_V 0 (.inl rfl)) 9 1 1 bo 1 (by rw [ep_is]; rfl) hi2 (by decide) A c hbo ⟨by decide, by decide, by decide, by decide⟩ (by rw [ep_is]) (by rw [ep_is]) (by rw [ep_is]; unfold rcnt; rw [if_neg (by show Win.ref 1 0 0 1152921504606846977 1 ≠ 9; rw [ref_0]; decide)]; exact ref_0) y ht (by rw [ep_is]; exact hb)).mono ?_
 rintro r w' ⟨⟨h1, _⟩, hb'⟩
 refine ⟨?_, hb'⟩
 have h := h1 (by rw [ep_is]; exact ref_0)
 rw [took_pq] at h
 exact h
theorem rec_again (y : World) (bo : Value) (A : Option Addr) (c : Nat) (hbo : bo = .slice A 18 c) : Calls Tryz.prog 10 #[pq.val, (dp 9 1 1 bo).val] y (fun r w' => r = .returned (.tuple #[.slice none 0 0, zed.val, .int .i64 7]) ∧ Below y.heap.size y w') := by
 refine Receive_no pq pq_In (dp 9 1 1 bo) (dp_In9 bo hbo) pq_V A 18 c hbo (Pkt.chk_dp ⟨by decide, by decide, by decide, by decide⟩ bo 18 (by decide) (by decide)) rfl 7 ?_ (by decide) y
 unfold rall repo
 show (if (9 : Nat) ≠ 9 then 13 else if (1 : Nat) < 1 then 8 else if (1 : Nat) < 1 then 2 else rcnt pq 1) = 7
 rw [if_neg (by decide), if_neg (by decide), if_neg (by decide)]
 unfold rcnt
 show (if Win.ref 1 1 1 1152921504606846977 1 = 9 then 0 else Win.ref 1 1 1 1152921504606846977 1) = 7
 rw [ref_7]
 decide
theorem Shk_bs {w : World} {b : Nat} {L : List UInt8} {R : List Value} {n : Nat} (h : Row w b (L.map bv ++ R) 5) (hl : L.length = n) : Bs w w.heap.size (.slice (some ⟨b, 0, none⟩) n n) L := by
 subst hl
 exact ⟨some ⟨b, 0, none⟩, L.length, rfl, Nat.le_refl _, fun _ => ⟨b, 0, rfl, h.lt, fun i u hu => h.cell (by rw [Nat.zero_add, List.getElem?_append_left (by rw [List.length_map]; exact (List.getElem?_eq_some_iff.1 hu).1), List.getElem?_map, hu]; rfl)⟩⟩
set_option maxRecDepth 100000 in
set_option maxHeartbeats 16000000 in
theorem lives_any (w : World) (ht : Tab w) : Calls Tryz.prog 14 #[] w fun r w' => r = .returned (.bool true) ∧ Below w.heap.size w w' := by
 have HT := Lib.hid ht
 have HB := Lib.hid (Below.refl w.heap.size w)
 have HN0 := Lib.hid (fun y => New_any 9 3 k5 k5_len 1 1 32 (by decide) (by decide) y)
 have HNp := Lib.hid (fun y => New_any 9 3 k5 k5_len 1 0 32 (by decide) (by decide) y)
 have HS0 := Lib.hid (fun y => Send_none (newE 9 3 k5 1 1 32) (n_In 1) (n_V 1 (.inr rfl)) (by rw [e0_is]; decide) none 0 0 (by decide) y)
 have HLe := Lib.hid (fun y => Leases_ok (newE 9 3 k5 1 1 32) (n_In 1) (n_V 1 (.inr rfl)) (by rw [e0_is]) (by rw [e0_is]; decide) y)
 rw [show rcs 6 (newE 9 3 k5 1 1 32).sid ((newE 9 3 k5 1 1 32).l + min (newE 9 3 k5 1 1 32).stock.toNat (1152921504606846976 - (newE 9 3 k5 1 1 32).l)) = rcs 6 9 32 by rw [e0_is]; rfl] at HLe
 have HGr := Lib.hid (fun y => Grant_lease (newE 9 3 k5 1 1 32) (n_In 1) (n_V 1 (.inr rfl)) 32 (by rw [e0_is]; decide) (by decide) y)
 rw [show rcs 6 (newE 9 3 k5 1 1 32).sid 32 = rcs 6 9 32 by rw [e0_is], show ({ newE 9 3 k5 1 1 32 with n := (newE 9 3 k5 1 1 32).n, l := 32 } : Ed) = g1 by rw [e0_is]; rfl] at HGr
 have HSe := Lib.hid (fun (y : World) (A : Option Addr) (c : Nat) (ht : Tab y) (hp : Bs y y.heap.size (.slice A 2 c) hi2) => show Calls Tryz.prog 9 #[g1.val, .slice A 2 c] y (fun r w' => (∃ b R, r = .returned (.tuple #[(dp 9 1 1 (.slice (some ⟨b, 0, none⟩) 18 18)).val, g2.val, .int .i64 0]) ∧ y.heap.size ≤ b ∧ Row w' b ((sealedL k5 1 9 1 1 hi2).map bv ++ R) 5) ∧ Below y.heap.size y w') from Send_ok g1 g1_In g1_V (by decide) A hi2 c (by decide) y ht hp)
 have HRe := Lib.hid (fun (y : World) (bo : Value) (A : Option Addr) (c : Nat) (hbo : bo = .slice A 18 c) (ht : Tab y) (hb : Bs y y.heap.size bo (sealedL k5 1 9 1 1 hi2)) => show Calls Tryz.prog 10 #[(newE 9 3 k5 1 0 32).val, (dp 9 1 1 bo).val] y (fun r w' => (∃ v, r = .returned (.tuple #[v, pq.val, .int .i64 0]) ∧ Own w' y.heap.size v hi2) ∧ Below y.heap.size y w') from rec_hi y bo A c hbo ht hb)
 have HRn := Lib.hid (fun (y : World) (bo : Value) (A : Option Addr) (c : Nat) (hbo : bo = .slice A 18 c) => show Calls Tryz.prog 10 #[pq.val, (dp 9 1 1 bo).val] y (fun r w' => r = .returned (.tuple #[.slice none 0 0, zed.val, .int .i64 7]) ∧ Below y.heap.size y w') from rec_again y bo A c hbo)
 obtain ⟨rc, hrc⟩ : ∃ rc, rcs 6 9 32 = rc := ⟨_, rfl⟩
 have HRL := Lib.hid (show rc.length = 85 by rw [← hrc]; exact rcs_len _ _ _)
 have HR1 := Lib.hid (show ∀ v ∈ rc, v.oneCell' = true by rw [← hrc]; exact rcs_one _ _ _)
 have HR0 := Lib.hid (show rc[0]? = some (.int .i64 6) ∧ rc[4]? = some (.int .u64 ((32 : Nat) : Int)) by rw [← hrc]; exact ⟨rfl, rfl⟩)
 rw [hrc] at HLe HGr
 obtain ⟨sv, hsv⟩ : ∃ sv, Value.agg (ssc 9 3 k5).toArray = sv := ⟨_, rfl⟩
 have HFi := Lib.hid (fun y => first_any y)
 rw [hsv] at HFi
 replace HN0 := Lib.hid (fun y => show Calls Tryz.prog 7 #[sv, .int .u32 1, .int .i64 1, .int .i64 32] y _ from hsv ▸ HN0.out y)
 replace HNp := Lib.hid (fun y => show Calls Tryz.prog 7 #[sv, .int .u32 1, .int .i64 0, .int .i64 32] y _ from hsv ▸ HNp.out y)
 obtain ⟨e0, he0⟩ : ∃ x : Ed, newE 9 3 k5 1 1 32 = x := ⟨_, rfl⟩
 have HE0 := Lib.hid he0
 have HI0 := Lib.hid (show e0.In by rw [← he0]; exact n_In 1)
 have HV0 := Lib.hid (show Valid e0 by rw [← he0]; exact n_V 1 (.inr rfl))
 obtain ⟨v0, hv0⟩ : ∃ v, e0.val = v := ⟨_, rfl⟩
 have HW0 := Lib.hid (show v0 = .agg e0.cs.toArray from hv0.symm)
 have FL0 := Lib.hid (fun (y : World) (g : Nat) (T : TypeId) (h : Row y g e0.cs T) => show (loadVar 32 ⟨g, 0, none⟩).run Tryz.prog y = .ok v0 y from hv0 ▸ l_end h HI0.out.k)
 obtain ⟨ep, hep⟩ : ∃ x : Ed, newE 9 3 k5 1 0 32 = x := ⟨_, rfl⟩
 have HEp := Lib.hid hep
 have HIp := Lib.hid (show ep.In by rw [← hep]; exact n_In 0)
 have HVp := Lib.hid (show Valid ep by rw [← hep]; exact n_V 0 (.inl rfl))
 obtain ⟨vp, hvp⟩ : ∃ v, ep.val = v := ⟨_, rfl⟩
 have HWp := Lib.hid (show vp = .agg ep.cs.toArray from hvp.symm)
 have FLp := Lib.hid (fun (y : World) (g : Nat) (T : TypeId) (h : Row y g ep.cs T) => show (loadVar 32 ⟨g, 0, none⟩).run Tryz.prog y = .ok vp y from hvp ▸ l_end h HIp.out.k)
 obtain ⟨e1, he1⟩ : ∃ x : Ed, g1 = x := ⟨_, rfl⟩
 have HE1 := Lib.hid he1
 have HI1 := Lib.hid (show e1.In by rw [← he1]; exact g1_In)
 have HV1 := Lib.hid (show Valid e1 by rw [← he1]; exact g1_V)
 obtain ⟨v1, hv1⟩ : ∃ v, e1.val = v := ⟨_, rfl⟩
 have HW1 := Lib.hid (show v1 = .agg e1.cs.toArray from hv1.symm)
 have FL1 := Lib.hid (fun (y : World) (g : Nat) (T : TypeId) (h : Row y g e1.cs T) => show (loadVar 32 ⟨g, 0, none⟩).run Tryz.prog y = .ok v1 y from hv1 ▸ l_end h HI1.out.k)
 obtain ⟨e2, he2⟩ : ∃ x : Ed, g2 = x := ⟨_, rfl⟩
 have HE2 := Lib.hid he2
 have HI2 := Lib.hid (show e2.In by rw [← he2]; exact g2_In)
 have HV2 := Lib.hid (show Valid e2 by rw [← he2]; exact g2_V)
 obtain ⟨v2, hv2⟩ : ∃ v, e2.val = v := ⟨_, rfl⟩
 have HW2 := Lib.hid (show v2 = .agg e2.cs.toArray from hv2.symm)
 have FL2 := Lib.hid (fun (y : World) (g : Nat) (T : TypeId) (h : Row y g e2.cs T) => show (loadVar 32 ⟨g, 0, none⟩).run Tryz.prog y = .ok v2 y from hv2 ▸ l_end h HI2.out.k)
 obtain ⟨eq, heq⟩ : ∃ x : Ed, pq = x := ⟨_, rfl⟩
 have HEq := Lib.hid heq
 have HIq := Lib.hid (show eq.In by rw [← heq]; exact pq_In)
 have HVq := Lib.hid (show Valid eq by rw [← heq]; exact pq_V)
 obtain ⟨vq, hvq⟩ : ∃ v, eq.val = v := ⟨_, rfl⟩
 have HWq := Lib.hid (show vq = .agg eq.cs.toArray from hvq.symm)
 have FLq := Lib.hid (fun (y : World) (g : Nat) (T : TypeId) (h : Row y g eq.cs T) => show (loadVar 32 ⟨g, 0, none⟩).run Tryz.prog y = .ok vq y from hvq ▸ l_end h HIq.out.k)
 obtain ⟨zv, hzv⟩ : ∃ z, zed.val = z := ⟨_, rfl⟩
 have HZV := Lib.hid (show zv = .agg zed.cs.toArray from hzv.symm)
 obtain ⟨zp, hzp⟩ : ∃ z, Value.agg (Pkt.nm 0).cells.toArray = z := ⟨_, rfl⟩
 have HZP := Lib.hid (show zp = .agg (Pkt.nm 0).cells.toArray from hzp.symm)
 rw [hzv] at HS0 HRn
 rw [hzp] at HS0
 have FLr := Lib.hid (fun (y : World) (g : Nat) (h : Row y g rc 58) => show (loadVar 58 ⟨g, 0, none⟩).run Tryz.prog y = .ok (.agg rc.toArray) y by
  rw [Pol.run_loadVar_sub (off := 0) (n := 85) _ h Tryz.underlying58 rfl (by kernel_rfl) (by rw [HRL.out]; exact Nat.le_refl _), List.drop_zero, List.take_of_length_le (by rw [HRL.out]; exact Nat.le_refl _)])
 clear hzv hzp
 rw [he0, hv0] at HN0 HS0 HLe HGr
 rw [hep, hvp] at HNp HRe
 rw [he1, hv1] at HGr HSe
 rw [he2, hv2] at HSe
 rw [heq, hvq] at HRe HRn
 clear hrc hsv he0 hv0 hep hvp he1 hv1 he2 hv2 heq hvq ht
 go_enter Tryz.func14, Tryz.ntmps14
 go_wp2_with fail
 refine (HFi.out w).mono ?_
 rintro r w1 ⟨rfl, hb⟩
 have HB := Lib.hid (nextB HB.out (Nat.le_refl _) hb)
 clear hb
 go_wp2_with fail
 refine (HN0.out w1).mono ?_
 rintro r w2 ⟨⟨ho, _⟩, hb⟩
 have hr := ho HV0.out
 subst hr
 clear ho
 have HB := Lib.hid (nextB HB.out (Nat.le_refl _) hb)
 clear hb
 have HS2 := Lib.hid HB.out.size
 go_wp2_with (first
  | (show wpList _ _ _ (⟨some 1, _, _, _, _, _⟩ :: _) _ _
     refine QB.wpList_alloc rfl 32 rfl zero_End ?_; intro Y1 hx hy
     have HX1 := Lib.hid (show Row Y1 w2.heap.size zed.cs 32 from hx)
     have HY1 := Lib.hid hy
     clear hx hy)
  | (refine wpList_storeRow rfl 32 _ _ rfl rfl (cs := e0.cs) HW0.out HX1.out (by kernel_rfl) (Ed.len HI0.out.k) (Ed.len zed_K) (Ed.one _) ?_
     refine QB.name fun W3 hZ => ?_
     have hb6 : Below w2.heap.size w2 W3 := hZ ▸ below_setRow HY1.out (Nat.le_refl _) _
     have RG := Lib.hid (show Row W3 w2.heap.size e0.cs 32 from hZ ▸ HX1.out.setRow _)
     have HB := Lib.hid (nextB HB.out (Nat.le_refl _) hb6)
     clear hb6 HX1 HY1
     clear hZ)
  | fail)
 obtain ⟨gG, hgG⟩ : ∃ g, w2.heap.size = g := ⟨_, rfl⟩
 have HGG := Lib.hid (show w.heap.size ≤ gG by rw [← hgG]; exact HS2.out)
 rw [hgG] at RG ⊢
 clear hgG
 refine (HFi.out W3).mono ?_
 rintro r w4 ⟨rfl, hb⟩
 have HB := Lib.hid (nextB HB.out (Nat.le_refl _) hb)
 have RG := Lib.hid (RG.out.below hb RG.out.lt)
 clear hb
 go_wp2_with fail
 refine (HNp.out w4).mono ?_
 rintro r w5 ⟨⟨ho, _⟩, hb⟩
 have hr := ho HVp.out
 subst hr
 clear ho
 have HB := Lib.hid (nextB HB.out (Nat.le_refl _) hb)
 have RG := Lib.hid (RG.out.below hb RG.out.lt)
 clear hb
 have HGL := Lib.hid (show gG < w5.heap.size from RG.out.lt)
 go_wp2_with (first
  | (show wpList _ _ _ (⟨some 3, _, _, _, _, _⟩ :: _) _ _
     refine QB.wpList_alloc rfl 32 rfl zero_End ?_; intro Y3 hx hy
     have HX3 := Lib.hid (show Row Y3 w5.heap.size zed.cs 32 from hx)
     have HY3 := Lib.hid hy
     clear hx hy)
  | (refine wpList_storeRow rfl 32 _ _ rfl rfl (cs := ep.cs) HWp.out HX3.out (by kernel_rfl) (Ed.len HIp.out.k) (Ed.len zed_K) (Ed.one _) ?_
     refine QB.name fun W6 hZ => ?_
     have hb6 : Below w5.heap.size w5 W6 := hZ ▸ below_setRow HY3.out (Nat.le_refl _) _
     have RP := Lib.hid (show Row W6 w5.heap.size ep.cs 32 from hZ ▸ HX3.out.setRow _)
     have RG := Lib.hid (RG.out.below hb6 RG.out.lt)
     have HB := Lib.hid (nextB HB.out (Nat.le_refl _) hb6)
     have HL := Lib.hid (FL0.out W6 _ _ RG.out)
     clear hb6 HX3 HY3
     clear hZ)
  | (refine QB.wpList_ld 32 rfl rfl HL.out (by kernel_rfl) ?_; clear HL)
  | fail)
 obtain ⟨gP, hgP⟩ : ∃ g, w5.heap.size = g := ⟨_, rfl⟩
 have HGS := Lib.hid (show w.heap.size ≤ gG ∧ gG < gP by rw [← hgP]; exact ⟨HGG.out, HGL.out⟩)
 rw [hgP] at RP ⊢
 clear hgP HGG HGL
 refine (HS0.out W6).mono ?_
 rintro r w7 ⟨rfl, hb⟩
 have HB := Lib.hid (nextB HB.out (Nat.le_refl _) hb)
 have RG := Lib.hid (RG.out.below hb RG.out.lt)
 have RP := Lib.hid (RP.out.below hb RP.out.lt)
 clear hb
 go_wp2_with (first
  | (show wpList _ _ _ (⟨some 5, _, _, _, _, _⟩ :: _) _ _
     refine QB.wpList_alloc rfl 40 rfl zpk ?_; intro Y5 hx hy
     have HX5 := Lib.hid (show Row Y5 w7.heap.size (Pkt.nm 0).cells 40 from hx)
     have HY5 := Lib.hid hy
     clear hx hy)
  | (show wpList _ _ _ (⟨some 6, _, _, _, _, _⟩ :: _) _ _
     refine QB.wpList_alloc rfl 32 rfl zero_End ?_; intro Y6 hx hy
     have HX6 := Lib.hid (show Row Y6 Y5.heap.size zed.cs 32 from hx)
     have HG56 := Lib.hid (show w7.heap.size < Y5.heap.size from HX5.out.lt)
     have HX5' := Lib.hid (HX5.out.below hy HX5.out.lt)
     have HY6 := Lib.hid (nextB HY5.out (Nat.le_refl _) hy)
     clear hx hy HX5 HY5)
  | (refine wpList_storeRow rfl 40 _ _ rfl rfl (cs := (Pkt.nm 0).cells) HZP.out HX5'.out (by kernel_rfl) (Pkt.Pk.length (Pkt.nm_ok 0)) (Pkt.Pk.length (Pkt.nm_ok 0)) (Pkt.Pk.one (Pkt.nm_ok 0)) ?_
     refine QB.name fun A1 hZ => ?_
     have HX6' := Lib.hid (row_grown HX6.out (hZ ▸ only_setRow _ : Y6.grownBy A1 (some w7.heap.size)) (by have := HG56.out; omega))
     have HYA := Lib.hid (show Below w7.heap.size w7 A1 from hZ ▸ below_setRow HY6.out (Nat.le_refl _) _)
     clear HX5' HX6 HY6
     clear hZ)
  | (refine wpList_storeRow rfl 32 _ _ rfl rfl (cs := zed.cs) HZV.out HX6'.out (by kernel_rfl) (Ed.len zed_K) (Ed.len zed_K) (Ed.one _) ?_
     refine QB.name fun W8 hZ => ?_
     have hb6 : Below w7.heap.size w7 W8 := hZ ▸ below_setRow HYA.out (by have := HG56.out; omega) _
     have RG := Lib.hid (RG.out.below hb6 RG.out.lt)
     have RP := Lib.hid (RP.out.below hb6 RP.out.lt)
     have HB := Lib.hid (nextB HB.out (Nat.le_refl _) hb6)
     have HL := Lib.hid (FL0.out W8 _ _ RG.out)
     clear hb6 HX6' HYA
     clear hZ)
  | (refine QB.wpList_ld 32 rfl rfl HL.out (by kernel_rfl) ?_; clear HL)
  | fail)
 refine (HLe.out W8).mono ?_
 rintro r w9 ⟨rfl, hb⟩
 have HB := Lib.hid (nextB HB.out (Nat.le_refl _) hb)
 have RG := Lib.hid (RG.out.below hb RG.out.lt)
 have RP := Lib.hid (RP.out.below hb RP.out.lt)
 clear hb
 go_wp2_with (first
  | (show wpList _ _ _ (⟨some 8, _, _, _, _, _⟩ :: _) _ _
     refine QB.wpList_alloc rfl 58 rfl zero_Rec ?_; intro Y8 hx hy
     have HX8 := Lib.hid (show Row Y8 w9.heap.size (rcs 0 0 0) 58 from hx)
     have HY8 := Lib.hid hy
     clear hx hy)
  | (refine wpList_storeRow rfl 58 _ _ rfl rfl (cs := rc) rfl HX8.out (by kernel_rfl) HRL.out (rcs_len 0 0 0) HR1.out ?_
     refine QB.name fun W10 hZ => ?_
     have hb6 : Below w9.heap.size w9 W10 := hZ ▸ below_setRow HY8.out (Nat.le_refl _) _
     have R8 := Lib.hid (show Row W10 w9.heap.size rc 58 from hZ ▸ HX8.out.setRow _)
     have RG := Lib.hid (RG.out.below hb6 RG.out.lt)
     have RP := Lib.hid (RP.out.below hb6 RP.out.lt)
     have HB := Lib.hid (nextB HB.out (Nat.le_refl _) hb6)
     have HL := Lib.hid (FL0.out W10 _ _ RG.out)
     have HLR := Lib.hid (FLr.out W10 _ R8.out)
     have q0 := R8.out.cell HR0.out.1
     have q4 := R8.out.cell HR0.out.2
     clear hb6 HX8 HY8
     clear hZ)
  | (refine QB.wpList_ld 32 rfl rfl HL.out (by kernel_rfl) ?_; clear HL)
  | (refine QB.wpList_ld 58 rfl rfl HLR.out (by kernel_rfl) ?_; clear HLR)
  | fail)
 clear q0 q4 R8
 refine (HGr.out W10).mono ?_
 rintro r w11 ⟨rfl, hb⟩
 have HB := Lib.hid (nextB HB.out (Nat.le_refl _) hb)
 have RG := Lib.hid (RG.out.below hb RG.out.lt)
 have RP := Lib.hid (RP.out.below hb RP.out.lt)
 clear hb
 go_wp2_with (first
  | (refine wpList_storeRow rfl 32 _ _ rfl rfl (cs := e1.cs) HW1.out RG.out (by kernel_rfl) (Ed.len HI1.out.k) (Ed.len HI0.out.k) (Ed.one _) ?_
     refine QB.name fun W12 hZ => ?_
     have hgr : w11.grownBy W12 (some gG) := hZ ▸ only_setRow _
     have RG' := Lib.hid (show Row W12 gG e1.cs 32 from hZ ▸ RG.out.setRow _)
     have RP := Lib.hid (row_grown RP.out hgr (by have := HGS.out; omega))
     have HB := Lib.hid (show Below w.heap.size w W12 from hZ ▸ below_setRow HB.out (by have := HGS.out; omega) _)
     obtain ⟨m, hconv⟩ := Hk.conv_lit W12 hi2 2 rfl (by omega)
     obtain ⟨WF, hWF⟩ : ∃ WF, (W12.alloc (.cells (hi2.map bv).toArray 5)).freeze ⟨W12.heap.size, m, none⟩ 1 = WF := ⟨_, rfl⟩
     rw [hWF] at hconv
     have hconv' : (convert 38 38 (.slice (some ⟨W12.heap.size, 0, none⟩) 2 2)).run Tryz.prog (W12.alloc (.cells #[.int .u8 104, .int .u8 105] 5)) = .ok (.slice (some ⟨W12.heap.size, 0, none⟩) 2 2) WF := hconv
     have hbf : Below W12.heap.size W12 WF := hWF ▸ Hk.below_frozen ((Below.refl _ W12).alloc (Nat.le_refl _) _) (Nat.le_refl _) 1
     have HF := Lib.hid (show Bs WF WF.heap.size (.slice (some ⟨W12.heap.size, 0, none⟩) 2 2) hi2 from by
      have h := Hk.bs_lit W12 hi2 2 m rfl
      rw [hWF] at h
      exact h.more (by rw [← hWF, Hk.size_freeze]; simp))
     have HL := Lib.hid (FL1.out W12 _ _ RG'.out)
     have HBF := Lib.hid hbf
     clear hconv hWF hbf
     clear hgr
     clear hZ)
  | (refine QB.wpList_ld 32 rfl rfl HL.out (by kernel_rfl) ?_; clear HL)
  | fail)
 clear hconv' RG
 have RG := Lib.hid (RG'.out.below HBF.out RG'.out.lt)
 have RP := Lib.hid (RP.out.below HBF.out RP.out.lt)
 have HB := Lib.hid (nextB HB.out (Nat.le_refl _) HBF.out)
 clear RG' HBF
 refine (HSe.out WF _ 2 (HT.out.below HB.out HT.out.1) HF.out).mono ?_
 rintro r w13 ⟨⟨b, R, rfl, hlo, hrow⟩, hb⟩
 have HRb := Lib.hid hrow
 have HBlo := Lib.hid (show gG < b ∧ gP < b from ⟨Nat.lt_of_lt_of_le RG.out.lt hlo, Nat.lt_of_lt_of_le RP.out.lt hlo⟩)
 clear hrow hlo
 have HB := Lib.hid (nextB HB.out (Nat.le_refl _) hb)
 have RG := Lib.hid (RG.out.below hb RG.out.lt)
 have RP := Lib.hid (RP.out.below hb RP.out.lt)
 clear hb
 obtain ⟨Pq, hPq⟩ : ∃ P, dp 9 1 1 (.slice (some ⟨b, 0, none⟩) 18 18) = P := ⟨_, rfl⟩
 have HPo := Lib.hid (show Pq.Ok by rw [← hPq]; exact dp_ok _ _ _ rfl)
 have HPq := Lib.hid hPq
 obtain ⟨pv, hpv⟩ : ∃ pv, Pq.val = pv := ⟨_, rfl⟩
 have HPV := Lib.hid (show pv = .agg Pq.cells.toArray from hpv.symm)
 have HPW := Lib.hid (show pv = (dp 9 1 1 (.slice (some ⟨b, 0, none⟩) 18 18)).val by rw [hPq, hpv])
 have HLP := Lib.hid (fun (y : World) (g : Nat) (h : Row y g Pq.cells 40) => show (loadVar 40 ⟨g, 0, none⟩).run Tryz.prog y = .ok pv y by rw [HPV.out]; exact Pkt.l_all h HPo.out)
 have HGx := Lib.hid (show b < w13.heap.size ∧ gG < w13.heap.size ∧ gP < w13.heap.size from ⟨HRb.out.lt, RG.out.lt, RP.out.lt⟩)
 have HGS' := HGS
 rw [hPq, hpv]
 clear hPq hpv HF
 go_wp2_with (first
  | (show wpList _ _ _ (⟨some 10, _, _, _, _, _⟩ :: _) _ _
     refine QB.wpList_alloc rfl 40 rfl zpk ?_; intro Y10 hx hy
     have HX10 := Lib.hid (show Row Y10 w13.heap.size (Pkt.nm 0).cells 40 from hx)
     have HY10 := Lib.hid hy
     clear hx hy)
  | (refine wpList_storeRow rfl 40 _ _ rfl rfl (cs := Pq.cells) HPV.out HX10.out (by kernel_rfl) (Pkt.Pk.length HPo.out) (Pkt.Pk.length (Pkt.nm_ok 0)) (Pkt.Pk.one HPo.out) ?_
     refine QB.name fun W14 hZ => ?_
     have hb6 : Below w13.heap.size w13 W14 := hZ ▸ below_setRow HY10.out (Nat.le_refl _) _
     have R10 := Lib.hid (show Row W14 w13.heap.size Pq.cells 40 from hZ ▸ HX10.out.setRow _)
     have RG := Lib.hid (RG.out.below hb6 RG.out.lt)
     have RP := Lib.hid (RP.out.below hb6 RP.out.lt)
     have HRb := Lib.hid (HRb.out.below hb6 HRb.out.lt)
     have HB := Lib.hid (nextB HB.out (Nat.le_refl _) hb6)
     clear hb6 HX10 HY10
     clear hZ)
  | (refine wpList_storeRow rfl 32 _ _ rfl rfl (cs := e2.cs) HW2.out RG.out (by kernel_rfl) (Ed.len HI2.out.k) (Ed.len HI1.out.k) (Ed.one _) ?_
     refine QB.name fun W15 hZ => ?_
     have hgr : W14.grownBy W15 (some gG) := hZ ▸ only_setRow _
     have RG' := Lib.hid (show Row W15 gG e2.cs 32 from hZ ▸ RG.out.setRow _)
     have RP := Lib.hid (row_grown RP.out hgr (by have := HGS.out; have := HGx.out; have := HBlo.out; omega))
     have HRb := Lib.hid (row_grown HRb.out hgr (by have := HGS.out; have := HGx.out; have := HBlo.out; omega))
     have R10 := Lib.hid (row_grown R10.out hgr (by have := HGS.out; have := HGx.out; have := HBlo.out; omega))
     have HB := Lib.hid (show Below w.heap.size w W15 from hZ ▸ below_setRow HB.out (by have := HGS.out; omega) _)
     have HL := Lib.hid (FLp.out W15 _ _ RP.out)
     have HL2 := Lib.hid (HLP.out W15 _ R10.out)
     clear hgr
     clear hZ)
  | (refine QB.wpList_ld 32 rfl rfl HL.out (by kernel_rfl) ?_; clear HL)
  | (refine QB.wpList_ld 40 rfl rfl HL2.out (by kernel_rfl) ?_; clear HL2)
  | fail)
 clear RG
 have RG := Lib.hid RG'.out
 clear RG'
 have hsl := Pkt.sealedL_length k5 1 9 1 1 hi2
 have HG16 := Lib.hid (show gP < W15.heap.size from RP.out.lt)
 rw [HPW.out]
 refine (HRe.out W15 _ _ 18 rfl (HT.out.below HB.out HT.out.1) (Shk_bs HRb.out (by rw [hsl]; rfl))).mono ?_
 rintro r w16 ⟨⟨v11, rfl, hv11⟩, hb⟩
 have HV11 := Lib.hid hv11
 clear hv11
 have HB := Lib.hid (nextB HB.out (Nat.le_refl _) hb)
 have RG := Lib.hid (RG.out.below hb RG.out.lt)
 have RP := Lib.hid (RP.out.below hb RP.out.lt)
 have HRb := Lib.hid (HRb.out.below hb HRb.out.lt)
 have R10 := Lib.hid (R10.out.below hb R10.out.lt)
 clear hb
 go_wp2_with (first
  | (refine wpList_storeRow rfl 32 _ _ rfl rfl (cs := eq.cs) HWq.out RP.out (by kernel_rfl) (Ed.len HIq.out.k) (Ed.len HIp.out.k) (Ed.one _) ?_
     refine QB.name fun W17 hZ => ?_
     have hgr : w16.grownBy W17 (some gP) := hZ ▸ only_setRow _
     have RP' := Lib.hid (show Row W17 gP eq.cs 32 from hZ ▸ RP.out.setRow _)
     have RG := Lib.hid (row_grown RG.out hgr (by have := HGS.out; have := HGx.out; have := HBlo.out; omega))
     have HRb := Lib.hid (row_grown HRb.out hgr (by have := HGS.out; have := HGx.out; have := HBlo.out; omega))
     have R10 := Lib.hid (row_grown R10.out hgr (by have := HGS.out; have := HGx.out; have := HBlo.out; omega))
     have HB := Lib.hid (show Below w.heap.size w W17 from hZ ▸ below_setRow HB.out (by have := HGS.out; omega) _)
     have HV17 := Lib.hid (own_kept HV11.out hgr HG16.out)
     have HL := Lib.hid (FLq.out W17 _ _ RP'.out)
     have HL2 := Lib.hid (HLP.out W17 _ R10.out)
     clear hgr
     clear hZ)
  | (refine QB.wpList_ld 32 rfl rfl HL.out (by kernel_rfl) ?_; clear HL)
  | (refine QB.wpList_ld 40 rfl rfl HL2.out (by kernel_rfl) ?_; clear HL2)
  | fail)
 clear RP HV11
 have RP := Lib.hid RP'.out
 clear RP'
 rw [HPW.out]
 refine (HRn.out W17 _ _ 18 rfl).mono ?_
 rintro r w18 ⟨rfl, hb⟩
 have HV18 := Lib.hid (HV17.out.below hb (Nat.le_refl _))
 clear HV17
 have HB := Lib.hid (nextB HB.out (Nat.le_refl _) hb)
 have RG := Lib.hid (RG.out.below hb RG.out.lt)
 have RP := Lib.hid (RP.out.below hb RP.out.lt)
 have HRb := Lib.hid (HRb.out.below hb HRb.out.lt)
 have R10 := Lib.hid (R10.out.below hb R10.out.lt)
 clear hb
 go_wp2_with (first
  | (show wpList _ _ _ (⟨some 13, _, _, _, _, _⟩ :: _) _ _
     refine QB.wpList_alloc rfl 32 rfl zero_End ?_; intro Y13 hx hy
     have HX13 := Lib.hid (show Row Y13 w18.heap.size zed.cs 32 from hx)
     have HY13 := Lib.hid hy
     clear hx hy)
  | (refine wpList_storeRow rfl 32 _ _ rfl rfl (cs := zed.cs) HZV.out HX13.out (by kernel_rfl) (Ed.len zed_K) (Ed.len zed_K) (Ed.one _) ?_
     refine QB.name fun W19 hZ => ?_
     have hb6 : Below w18.heap.size w18 W19 := hZ ▸ below_setRow HY13.out (Nat.le_refl _) _
     have R13 := Lib.hid (show Row W19 w18.heap.size zed.cs 32 from hZ ▸ HX13.out.setRow _)
     have RG := Lib.hid (RG.out.below hb6 RG.out.lt)
     have RP := Lib.hid (RP.out.below hb6 RP.out.lt)
     have HRb := Lib.hid (HRb.out.below hb6 HRb.out.lt)
     have R10 := Lib.hid (R10.out.below hb6 R10.out.lt)
     have HB := Lib.hid (nextB HB.out (Nat.le_refl _) hb6)
     have HV19 := Lib.hid (HV18.out.below hb6 (Nat.le_refl _))
     have hstr : (convert 38 9 v11).run Tryz.prog W19 = .ok (.string { data := #[104, 105] }) W19 := run_str W19 HV19.out.bs
     have c36 : W19.cell? ⟨gG, 36, none⟩ = some (.int .u64 2) := (c_n RG.out HI2.out.k).trans (by rw [← HE2.out]; rfl)
     clear hb6 HX13 HY13
     clear hZ)
  | fail)
 go_ret
 exact ⟨rfl, HB.out⟩
end Go.Proofs.YtedmogacklbcmaaGreatDoor.Ses
namespace Go.Proofs.YtedmogacklbcmaaGreatDoor.Ses
open Go.RowKit
open Pkt (dp z16 dp_ok Pk)
def AnyRow (t : TypeId) (n : Nat) (w : World) (g : Nat) : Prop := ∃ cs, Row w g cs t ∧ cs.length = n
def HasP (lo s e n len : Nat) (L : List UInt8) (w : World) (g : Nat) : Prop := ∃ b R, lo ≤ b ∧ Row w b (L.map bv ++ R) 5 ∧ Row w g (dp s e n (.slice (some ⟨b, 0, none⟩) len len)).cells 40
structure T9 (lo s e n len : Nat) (L : List UInt8) (cN : List Value) (x y : World) : Prop where
 below : Below lo x y
 u8 : ∀ (g : Nat) (cur : Array Value), x.heap[g]? = some (Obj.cells cur 5 (0, 0)) → y.heap[g]? = some (Obj.cells cur 5 (0, 0))
 p0 : ∀ g, AnyRow 40 38 x g → AnyRow 40 38 y g
 p1 : ∀ g, HasP lo s e n len L x g → HasP lo s e n len L y g
 n0 : ∀ g, AnyRow 32 43 x g → AnyRow 32 43 y g
 n1 : ∀ g, Row x g cN 32 → Row y g cN 32
theorem rowT_ne {w : World} {g g' : Nat} {a b : List Value} {t t' : TypeId} (h : Row w g a t) (k : Row w g' b t') (ht : t ≠ t') : g ≠ g' := by
 intro e
 subst e
 have e := h.symm.trans k
 simp only [Option.some.injEq, Obj.cells.injEq] at e
 exact ht e.2.1
theorem Own.less {w : World} {b b' : Nat} {v : Value} {l : List UInt8} (h : Own w b v l) (hb : b' ≤ b) : Own w b' v l := by
 refine ⟨h.1, ?_⟩
 rcases h.2 with h2 | ⟨g, cap, cur, e', hg, r⟩
 · exact .inl h2
 · exact .inr ⟨g, cap, cur, e', by omega, r⟩
namespace T9
variable {lo s e n len : Nat} {L : List UInt8} {cN : List Value} {x y z : World}
theorem refl (x : World) : T9 lo s e n len L cN x x := ⟨Below.refl _ _, fun _ _ h => h, fun _ h => h, fun _ h => h, fun _ h => h, fun _ h => h⟩
theorem trans (h : T9 lo s e n len L cN x y) (k : T9 lo s e n len L cN y z) : T9 lo s e n len L cN x z :=
 ⟨h.below.trans k.below, fun g c r => k.u8 g c (h.u8 g c r), fun g r => k.p0 g (h.p0 g r), fun g r => k.p1 g (h.p1 g r), fun g r => k.n0 g (h.n0 g r), fun g r => k.n1 g (h.n1 g r)⟩
theorem grew (hlo : lo ≤ x.heap.size) (h : Grew x y) : T9 lo s e n len L cN x y :=
 ⟨⟨h.os, h.tape, h.output, h.size, fun k hk => h.block k (by omega)⟩, fun g cur hg => by rw [h.block g (Array.getElem?_eq_some_iff.1 hg).1]; exact hg,
   fun g ⟨cs, r, hl⟩ => ⟨cs, r.below h r.lt, hl⟩, fun g ⟨b, R, h1, h2, h3⟩ => ⟨b, R, h1, h2.below h h2.lt, h3.below h h3.lt⟩, fun g ⟨cs, r, hl⟩ => ⟨cs, r.below h r.lt, hl⟩, fun g r => r.below h r.lt⟩
theorem row (h : T9 lo s e n len L cN x y) {g : Nat} {cs : List Value} (r : Row x g cs 5) : Row y g cs 5 := h.u8 g _ r
theorem own (h : T9 lo s e n len L cN x y) {b : Nat} {v : Value} {l : List UInt8} (k : Own x b v l) : Own y b v l := by
 refine ⟨k.1, ?_⟩
 rcases k.2 with h2 | ⟨g, cap, cur, e', hg, hgg, r⟩
 · exact .inl h2
 · exact .inr ⟨g, cap, cur, e', hg, h.u8 g cur hgg, r⟩
theorem row_keep {g k : Nat} {cs : List Value} {t t' : TypeId} {old : List Value} (r : Row x g cs t) (ro : Row x k old t') (ht : t ≠ t') (c : Array Value) : Row (x.setRow k c) g cs t := r.setOther _ _ (rowT_ne r ro ht)
theorem u8_keep {g k : Nat} {cur : Array Value} {t' : TypeId} {old : List Value} (r : x.heap[g]? = some (Obj.cells cur 5 (0, 0))) (ro : Row x k old t') (ht : 5 ≠ t') (c : Array Value) : (x.setRow k c).heap[g]? = some (Obj.cells cur 5 (0, 0)) := by
 have := row_keep (cs := cur.toList) (show Row x g cur.toList 5 from r) ro ht c
 exact this
theorem storeP {g b : Nat} {R old : List Value} (hg : lo ≤ g) (ro : Row x g old 40) (hb : lo ≤ b) (rb : Row x b (L.map bv ++ R) 5) :
 T9 lo s e n len L cN x (x.setRow g (dp s e n (.slice (some ⟨b, 0, none⟩) len len)).cells.toArray) ∧ HasP lo s e n len L (x.setRow g (dp s e n (.slice (some ⟨b, 0, none⟩) len len)).cells.toArray) g := by
 obtain ⟨p, hp⟩ : ∃ p, dp s e n (.slice (some ⟨b, 0, none⟩) len len) = p := ⟨_, rfl⟩
 have hok : p.Ok := hp ▸ dp_ok s e n rfl
 rw [hp]
 have rb' : Row (x.setRow g p.cells.toArray) b (L.map bv ++ R) 5 := row_keep rb ro (by decide) _
 have rn : Row (x.setRow g p.cells.toArray) g p.cells 40 := ro.setRow _
 have hh : HasP lo s e n len L (x.setRow g p.cells.toArray) g := ⟨b, R, hb, rb', by rw [hp]; exact rn⟩
 refine ⟨⟨below_setRow (Below.refl _ _) hg _, fun g' c r => u8_keep r ro (by decide) _, fun g' ⟨cs, r, hl⟩ => ?_, fun g' ⟨b', R', h1, h2, h3⟩ => ?_, fun g' ⟨cs, r, hl⟩ => ⟨cs, row_keep r ro (by decide) _, hl⟩, fun g' r => row_keep r ro (by decide) _⟩, hh⟩
 · by_cases hgg : g' = g
   · subst hgg
     exact ⟨p.cells, rn, Pkt.Pk.length hok⟩
   · exact ⟨cs, r.setOther _ _ hgg, hl⟩
 · by_cases hgg : g' = g
   · subst hgg
     exact hh
   · exact ⟨b', R', h1, row_keep h2 ro (by decide) _, h3.setOther _ _ hgg⟩
theorem storeN {g : Nat} {old : List Value} (hg : lo ≤ g) (ro : Row x g old 32) (hl : cN.length = 43) : T9 lo s e n len L cN x (x.setRow g cN.toArray) ∧ Row (x.setRow g cN.toArray) g cN 32 := by
 have rn : Row (x.setRow g cN.toArray) g cN 32 := ro.setRow _
 refine ⟨⟨below_setRow (Below.refl _ _) hg _, fun g' c r => u8_keep r ro (by decide) _, fun g' ⟨cs, r, hl⟩ => ⟨cs, row_keep r ro (by decide) _, hl⟩, fun g' ⟨b', R', h1, h2, h3⟩ => ⟨b', R', h1, row_keep h2 ro (by decide) _, row_keep h3 ro (by decide) _⟩, fun g' ⟨cs, r, hl'⟩ => ?_, fun g' r => ?_⟩, rn⟩
 · by_cases hgg : g' = g
   · subst hgg
     exact ⟨cN, rn, hl⟩
   · exact ⟨cs, r.setOther _ _ hgg, hl'⟩
 · by_cases hgg : g' = g
   · subst hgg
     exact rn
   · exact r.setOther _ _ hgg
theorem splice_all (a b : List Value) (h : b.length = a.length) : splice a 0 b = b := by
 unfold splice
 rw [List.take_zero, List.nil_append, Nat.zero_add, List.drop_eq_nil_of_le (by omega), List.append_nil]
theorem keeps {w : World} (h : T9 lo s e n len L cN w.drew x) : Below lo w x := ⟨h.below.os, h.below.tape, h.below.output, h.below.size, h.below.block⟩
end T9
section
variable (lo s e n len : Nat) (L : List UInt8) (cN : List Value)
def own9 (l : List UInt8) : By.Mark (T9 lo s e n len L cN) := ⟨fun v w => Own w lo v l, fun _ _ _ h k => k.own h⟩
def send9 (ev : Value) : By.Mark (T9 lo s e n len L cN) := ⟨fun v w => ∃ b R, v = .tuple #[(dp s e n (.slice (some ⟨b, 0, none⟩) len len)).val, ev, .int .i64 0] ∧ lo ≤ b ∧ Row w b (L.map bv ++ R) 5, fun _ _ _ ⟨b, R, h1, h2, h3⟩ k => ⟨b, R, h1, h2, k.row h3⟩⟩
def pk9 : By.Mark (T9 lo s e n len L cN) := ⟨fun v w => ∃ b R, v = (dp s e n (.slice (some ⟨b, 0, none⟩) len len)).val ∧ lo ≤ b ∧ Row w b (L.map bv ++ R) 5, fun _ _ _ ⟨b, R, h1, h2, h3⟩ k => ⟨b, R, h1, h2, k.row h3⟩⟩
def newP9 : By.Mark (T9 lo s e n len L cN) := ⟨fun v w => ∃ g, v = .pointer (some ⟨g, 0, none⟩) ∧ lo ≤ g ∧ AnyRow 40 38 w g, fun _ _ _ ⟨g, h1, h3, h4⟩ h => ⟨g, h1, h3, h.p0 g h4⟩⟩
def newN9 : By.Mark (T9 lo s e n len L cN) := ⟨fun v w => ∃ g, v = .pointer (some ⟨g, 0, none⟩) ∧ lo ≤ g ∧ AnyRow 32 43 w g, fun _ _ _ ⟨g, h1, h3, h4⟩ h => ⟨g, h1, h3, h.n0 g h4⟩⟩
def hasP9 : By.Mark (T9 lo s e n len L cN) := ⟨fun v w => ∃ g, v = .pointer (some ⟨g, 0, none⟩) ∧ lo ≤ g ∧ HasP lo s e n len L w g, fun _ _ _ ⟨g, h1, h3, h4⟩ h => ⟨g, h1, h3, h.p1 g h4⟩⟩
def hasN9 : By.Mark (T9 lo s e n len L cN) := ⟨fun v w => ∃ g, v = .pointer (some ⟨g, 0, none⟩) ∧ lo ≤ g ∧ Row w g cN 32, fun _ _ _ ⟨g, h1, h3, h4⟩ h => ⟨g, h1, h3, h.n1 g h4⟩⟩
end
end Go.Proofs.YtedmogacklbcmaaGreatDoor.Ses
