/- A packet belongs only to its session and its epoch, as far as numbers say: 'drawbridgelaw16.SessionApart', for every argument. -/
import Derived.Test.YtedmogacklbcmaaGreatDoorS19
import Derived.Test.YtedmogacklbcmaaGreatDoorS28
import Derived.Test.YtedmogacklbcmaaGreatDoorS47
import Derived.Test.YtedmogacklbcmaaGreatDoorS48
namespace Go.Proofs.YtedmogacklbcmaaGreatDoor.sessionApart
open Go.ChangeShapes Go.WideShapes Go.ChangeAt Go.RowKit Go.Deep
open Ses
open Pkt (dp dataOk sealedL z16 dp_ok Pk chk)
open Shk (wp_ld)
set_option maxRecDepth 100000 in
theorem cells_bytes {W : World} {base : Nat} (L : List Value) (h : ∀ (i : Nat) (x : Value), L[i]? = some x → Cell.okWide Tryz.prog W .any base 5 x) : ∃ l : List UInt8, L = l.map bv := by
 refine list_choose bv L fun x hx => ?_
 obtain ⟨i, hi⟩ := List.getElem?_of_mem hx
 obtain ⟨z, rfl, h0, h1⟩ := cell_int Tryz.underlying5 (h i x hi)
 have h0' : (0 : Int) ≤ z := h0
 have h1' : z ≤ 255 := h1
 refine ⟨UInt8.ofNat z.toNat, ?_⟩
 have : ((UInt8.ofNat z.toNat).toNat : Int) = z := by rw [UInt8.toNat_ofNat']; omega
 exact congrArg (Value.int .u8) this.symm
def sesTs : List TypeId := 22 :: 3 :: List.replicate 32 5
set_option maxRecDepth 100000 in
theorem sesTs_at (i : Nat) (h : i < 32) : sesTs[2 + i]? = some 5 := by
 have h' : ∀ j, j < 32 → sesTs[2 + j]? = some 5 := by decide
 exact h' i h
set_option maxRecDepth 100000 in
theorem sess_at {W : World} {base : Nat} {v : Value} (hok : Value.okWide Tryz.prog W .any base 25 v) : ∃ (s : Nat) (p : Int) (k : List UInt8), v = .agg (ssc s p k).toArray ∧ k.length = 32 ∧ s < 18446744073709551616 := by
 obtain ⟨cs, rfl, hl, hc⟩ := cells_at (ts := sesTs) Tryz.underlying25 rfl (by kernel_rfl) (by kernel_rfl) hok
 have hl' : cs.length = 34 := hl
 match cs, hl' with
 | c0 :: c1 :: R, hR =>
   have hR' : R.length = 32 := by simpa using hR
   obtain ⟨s, rfl, hs⟩ := cell_u64 Tryz.underlying22 (hc 0 22 c0 rfl rfl)
   obtain ⟨z, rfl, _, _⟩ := cell_int Tryz.underlying3 (hc 1 3 c1 rfl rfl)
   obtain ⟨k, hk⟩ := cells_bytes (W := W) (base := base) R fun i x hx => hc (2 + i) 5 x (sesTs_at i (by have := (List.getElem?_eq_some_iff.1 hx).1; omega)) (by rw [show 2 + i = i + 1 + 1 by omega]; exact hx)
   subst hk
   exact ⟨s, z, k, rfl, by simpa using hR', by omega⟩
theorem l_sess {w : World} {g : Nat} {s : Nat} {p : Int} {k : List UInt8} {T : TypeId} (h : Row w g (ssc s p k) T) (hk : k.length = 32) : (loadVar 25 ⟨g, 0, none⟩).run Tryz.prog w = .ok (.agg (ssc s p k).toArray) w := l_ses0 h hk
theorem New_s (sid : Nat) (peer : Int) (sec : List UInt8) (hk : sec.length = 32) (ep : Nat) (way stock : Int) (hs : sid < 18446744073709551616) (he : ep < 4294967296) (w : World) :
 Calls Tryz.prog 7 #[.agg (ssc sid peer sec).toArray, .int .u32 (ep : Int), .int .i64 way, .int .i64 stock] w fun r w' => ((Valid (newE sid peer sec ep way stock) → r = .returned (.tuple #[(newE sid peer sec ep way stock).val, .int .i64 0])) ∧ (¬ Valid (newE sid peer sec ep way stock) → r = .returned (.tuple #[zed.val, .int .i64 2]))) ∧ Below w.heap.size w w' := New_any sid peer sec hk ep way stock hs he w
theorem rall_who {e : Ed} {s ep n : Nat} {b : Value} (h : s ≠ e.sid) : rall e (dp s ep n b) = 13 := if_pos h
theorem rall_old {e : Ed} {s ep n : Nat} {b : Value} (h : s = e.sid) (h2 : ep < e.ep) : rall e (dp s ep n b) = 8 := by
 unfold rall
 rw [if_neg (by show ¬ s ≠ e.sid; omega)]
 exact if_pos h2
theorem rall_new {e : Ed} {s ep n : Nat} {b : Value} (h : s = e.sid) (h2 : e.ep < ep) : rall e (dp s ep n b) = 2 := by
 unfold rall
 rw [if_neg (by show ¬ s ≠ e.sid; omega)]
 unfold repo
 rw [if_neg (by show ¬ ep < e.ep; omega)]
 exact if_pos h2
theorem new_n {sid : Nat} {peer : Int} {sec : List UInt8} {ep : Nat} {stock : Int} : newE sid peer sec ep 0 stock = ⟨sid, peer, sec, ep, 0, 1, 1152921504606846976, 1, 0, 0, 1152921504606846977, stock⟩ := if_pos rfl
def sentE (s : Nat) (p : Int) (k : List UInt8) (ep : Nat) : Ed := ⟨s, p, k, ep, 0, 2, 1152921504606846976, 1, 0, 0, 1152921504606846977, 8⟩
theorem send_new {s : Nat} {p : Int} {k : List UInt8} {ep : Nat} (hi : (newE s p k ep 0 8).In) (hV : Valid (newE s p k ep 0 8)) (A : Option Addr) (plain : List UInt8) (c : Nat) (hN : plain.length ≤ 65536) (y : World) (ht : Tab y) (hp : Bs y y.heap.size (.slice A plain.length c) plain) :
 Calls Tryz.prog 9 #[(newE s p k ep 0 8).val, .slice A plain.length c] y fun r w' => (∃ b R, r = .returned (.tuple #[(dp s ep 1 (.slice (some ⟨b, 0, none⟩) (plain.length + 16) (plain.length + 16))).val, (sentE s p k ep).val, .int .i64 0]) ∧ y.heap.size ≤ b ∧ Row w' b ((sealedL k 0 s ep 1 plain).map bv ++ R) 5) ∧ Below y.heap.size y w' := by
 rw [new_n] at hi hV ⊢
 exact Send_ok _ hi hV (by show 1 ≤ 1152921504606846976; decide) A plain c hN y ht hp
theorem new_data {s : Nat} {p : Int} {k : List UInt8} {ep : Nat} (hV : Valid (newE s p k ep 0 8)) : dataOk s ep 1 := by
 rw [new_n] at hV
 exact ⟨hV.1.1, hV.1.2.2.2.1, by decide, by decide⟩
theorem move_new {s : Nat} {p : Int} {k : List UInt8} {ep : Nat} (hi : (newE s p k ep 0 8).In) (hV : Valid (newE s p k ep 0 8)) (h : ep + 1 < 4294967296) (y : World) :
 Calls Tryz.prog 12 #[(newE s p k ep 0 8).val, .int .u32 ((ep + 1 : Nat) : Int)] y fun r w' => r = .returned (.tuple #[(newE s p k (ep + 1) 0 8).val, .int .i64 0]) ∧ Below y.heap.size y w' := by
 have h' := Move_ok (newE s p k ep 0 8) hi hV (ep + 1) (by rw [new_n]; exact Nat.lt_succ_self _) h y
 have e1 : newE (newE s p k ep 0 8).sid (newE s p k ep 0 8).peer (newE s p k ep 0 8).sec (ep + 1) (newE s p k ep 0 8).way (newE s p k ep 0 8).stock = newE s p k (ep + 1) 0 8 := by rw [new_n (ep := ep)]
 rw [e1] at h'
 exact h'
theorem move_V {s : Nat} {p : Int} {k : List UInt8} {ep : Nat} (hV : Valid (newE s p k ep 0 8)) : Valid (newE s p k (ep + 1) 0 8) := by
 rw [new_n] at hV
 exact newE_valid hV.1.1 ⟨hV.1.2.1, hV.1.2.2.1⟩ (by omega) (.inl rfl) (by decide)
theorem rec_no {e : Ed} (hi : e.In) (hV : Valid e) {s ep n : Nat} (hd : dataOk s ep n) (hs : s < 18446744073709551616) (he : ep < 4294967296) {bo : Value} {A : Option Addr} {N c : Nat} (hbo : bo = .slice A N c) (h1 : 16 ≤ N) (h2 : N ≤ 65552) {k : Nat} (hk : rall e (dp s ep n bo) = k) (hk0 : k ≠ 0) (y : World) :
 Calls Tryz.prog 10 #[e.val, (dp s ep n bo).val] y fun r w' => r = .returned (.tuple #[.slice none 0 0, zed.val, .int .i64 (k : Int)]) ∧ Below y.heap.size y w' :=
 Receive_no e hi (dp s ep n bo) ⟨dp_ok s ep n (by rw [hbo]; rfl), hs, he, by have := hd.2.2.2; show n < 18446744073709551616; omega⟩ hV A N c hbo (Pkt.chk_dp hd bo N h1 h2) rfl k hk hk0 y
def pkM (lo s e n len : Nat) (L : List UInt8) : By.Mark Grew := ⟨fun v w => ∃ b R, v = (dp s e n (.slice (some ⟨b, 0, none⟩) len len)).val ∧ lo ≤ b ∧ Row w b (L.map bv ++ R) 5, fun _ _ _ ⟨b, R, h1, h2, h3⟩ k => ⟨b, R, h1, h2, h3.below k h3.lt⟩⟩
def sendM (lo s e n len : Nat) (L : List UInt8) (ev : Value) : By.Mark Grew := ⟨fun v w => ∃ b R, v = .tuple #[(dp s e n (.slice (some ⟨b, 0, none⟩) len len)).val, ev, .int .i64 0] ∧ lo ≤ b ∧ Row w b (L.map bv ++ R) 5, fun _ _ _ ⟨b, R, h1, h2, h3⟩ k => ⟨b, R, h1, h2, h3.below k h3.lt⟩⟩
def newP (lo : Nat) : By.Mark Grew := ⟨fun v w => ∃ g, v = .pointer (some ⟨g, 0, none⟩) ∧ lo ≤ g ∧ Row w g (Pkt.nm 0).cells 40, fun _ _ _ ⟨g, h1, h3, h4⟩ h => ⟨g, h1, h3, h4.below h h4.lt⟩⟩
def newN (lo : Nat) : By.Mark Grew := ⟨fun v w => ∃ g, v = .pointer (some ⟨g, 0, none⟩) ∧ lo ≤ g ∧ Row w g zed.cs 32, fun _ _ _ ⟨g, h1, h3, h4⟩ h => ⟨g, h1, h3, h4.below h h4.lt⟩⟩
theorem u32_wrap1 (n : Nat) (h : n + 1 < 4294967296) : IntKind.u32.wrap ((n : Int) + 1) = ((n + 1 : Nat) : Int) := by
 simp only [IntKind.wrap, IntKind.bits, IntKind.signed]
 simp
 omega
theorem row_ne {w : World} {g g' : Nat} {a b : List Value} {t t' : TypeId} (h : Row w g a t) (k : Row w g' b t') (ht : t ≠ t') : g ≠ g' := by
 intro e
 subst e
 have e := h.symm.trans k
 simp only [Option.some.injEq, Obj.cells.injEq] at e
 exact ht e.2.1
set_option maxRecDepth 100000 in
set_option maxHeartbeats 16000000 in
theorem walk {w : World} (ht : Tab w) {s1 s2 : Nat} {p1 p2 : Int} {k1 k2 : List UInt8} (hk1 : k1.length = 32) (hk2 : k2.length = 32) (hs1 : s1 < 18446744073709551616) (hs2 : s2 < 18446744073709551616) {ep : Nat} (hep : ep < 4294967296) {A : Option Addr} {c : Nat} {plain : List UInt8} (hp : Bs w w.heap.size (.slice A plain.length c) plain) :
 Calls Tryz.prog 5 #[.agg (ssc s1 p1 k1).toArray, .agg (ssc s2 p2 k2).toArray, .int .u32 (ep : Int), .slice A plain.length c] w fun r w' => r = .returned (.bool true) ∧ Below w.heap.size w w' := by
 obtain ⟨sc1, hsc1⟩ : ∃ x, ssc s1 p1 k1 = x := ⟨_, rfl⟩
 obtain ⟨sc2, hsc2⟩ : ∃ x, ssc s2 p2 k2 = x := ⟨_, rfl⟩
 obtain ⟨W0, hW0⟩ : ∃ W0, (w.alloc (.cells sc1.toArray 25)).alloc (.cells sc2.toArray 25) = W0 := ⟨_, rfl⟩
 have hr1 : Row W0 w.heap.size sc1 25 := hW0 ▸ (Row.new rfl rfl : Row (w.alloc (.cells sc1.toArray 25)) w.heap.size sc1 25).alloc _
 have hr2 : Row W0 (w.heap.size + 1) sc2 25 := hW0 ▸ Row.new (by simp) rfl
 have hb0 : Below w.heap.size w W0 := hW0 ▸ ((Below.refl _ w).alloc (Nat.le_refl _) _).alloc (by simp) _
 have HB := Lib.hid hb0
 have RS := Lib.hid hr1
 have RO := Lib.hid hr2
 have HT := Lib.hid ht
 have HP := Lib.hid hp
 have HK := Lib.hid (And.intro hk1 hk2)
 have HS := Lib.hid (And.intro hs1 (And.intro hs2 hep))
 have FS := Lib.hid (fun (y : World) (g : Nat) (h : Row y g sc1 25) => show (loadVar 25 ⟨g, 0, none⟩).run Tryz.prog y = .ok (.agg sc1.toArray) y from by rw [← hsc1] at h ⊢; exact l_sess h hk1)
 have FO := Lib.hid (fun (y : World) (g : Nat) (h : Row y g sc2 25) => show (loadVar 25 ⟨g, 0, none⟩).run Tryz.prog y = .ok (.agg sc2.toArray) y from by rw [← hsc2] at h ⊢; exact l_sess h hk2)
 have q1 : sc1[0]? = some (.int .u64 (s1 : Int)) := by rw [← hsc1]; rfl
 have q2 : sc2[0]? = some (.int .u64 (s2 : Int)) := by rw [← hsc2]; rfl
 have HN1 := Lib.hid (fun (y : World) => New_s s1 p1 k1 hk1 ep 0 8 hs1 hep y)
 have HN2 := Lib.hid (fun (y : World) => New_s s2 p2 k2 hk2 ep 0 8 hs2 hep y)
 rw [hsc1] at HN1
 rw [hsc2] at HN2
 have HI1 := Lib.hid (newE_In (peer := p1) (way := 0) (stock := 8) hk1 hs1 hep)
 have HI2 := Lib.hid (newE_In (peer := p2) (way := 0) (stock := 8) hk2 hs2 hep)
 have HQ := Lib.hid (And.intro q1 q2)
 rw [hsc1, hsc2]
 clear hr1 hr2 hb0 ht hp hk1 hk2 hs1 hs2 hep hsc1 hsc2 q1 q2
 go_enter Tryz.func5, Tryz.ntmps5
 go_wp2_with fail
 refine (lives_any _ (HT.out.below HB.out HT.out.1)).mono ?_
 rintro r w1 ⟨rfl, hb⟩
 have HB := Lib.hid (nextB HB.out (Nat.le_refl _) hb)
 have RS := Lib.hid (RS.out.below hb RS.out.lt)
 have RO := Lib.hid (RO.out.below hb RO.out.lt)
 obtain ⟨gS, hgS⟩ : ∃ g, w.heap.size = g := ⟨_, rfl⟩
 obtain ⟨gO, hgO⟩ : ∃ g, w.heap.size + 1 = g := ⟨_, rfl⟩
 have HGS := Lib.hid (show w.heap.size ≤ gS ∧ gS < gO by omega)
 rw [hgS] at RS
 rw [hgO] at RO
 rw [hgO, hgS]
 clear hb hgS hgO hW0
 by_cases hl : 300 < plain.length
 · have hl' : (300 : Int) < (plain.length : Int) := by omega
   have m1 := RS.out.cell HQ.out.1
   have m2 := RO.out.cell HQ.out.2
   go_wp2
   go_ret
   exact ⟨rfl, HB.out⟩
 have hl' : ¬ (300 : Int) < (plain.length : Int) := by omega
 by_cases h0 : ep = 0
 · have h0' : ((ep : Int) == 0) = true := by rw [h0]; rfl
   go_wp2
   go_ret
   exact ⟨rfl, HB.out⟩
 have h0' : ((ep : Int) == 0) = false := by rw [beq_eq_false_iff_ne]; omega
 by_cases h2 : 2147483648 < ep
 · have h2' : (2147483648 : Int) < (ep : Int) := by omega
   go_wp2
   go_ret
   exact ⟨rfl, HB.out⟩
 have h2' : ¬ (2147483648 : Int) < (ep : Int) := by omega
 have m1 := RS.out.cell HQ.out.1
 have m2 := RO.out.cell HQ.out.2
 by_cases hid : s1 = s2
 · have hid' : ((s1 : Int) == (s2 : Int)) = true := by rw [hid]; simp
   go_wp2
   go_ret
   exact ⟨rfl, HB.out⟩
 have hid' : ((s1 : Int) == (s2 : Int)) = false := by rw [beq_eq_false_iff_ne]; omega
 have HH := Lib.hid (show plain.length ≤ 300 ∧ ep ≠ 0 ∧ ep ≤ 2147483648 ∧ s1 ≠ s2 by omega)
 have HL := Lib.hid (FS.out w1 _ RS.out)
 clear hl h0 h2 hid
 go_wp2_with (first
  | (refine QB.wpList_ld 25 rfl rfl HL.out (by kernel_rfl) ?_; clear HL)
  | fail)
 clear m1 m2
 obtain ⟨e1, he1⟩ : ∃ x : Ed, newE s1 p1 k1 ep 0 8 = x := ⟨_, rfl⟩
 obtain ⟨e2, he2⟩ : ∃ x : Ed, newE s2 p2 k2 ep 0 8 = x := ⟨_, rfl⟩
 have HE1 := Lib.hid he1
 have HE2 := Lib.hid he2
 rw [he1] at HN1 HI1
 rw [he2] at HN2 HI2
 clear he1 he2
 refine (HN1.out w1).mono ?_
 rintro r w2 ⟨⟨ho, hn⟩, hb⟩
 have HB := Lib.hid (nextB HB.out (Nat.le_refl _) hb)
 have RS := Lib.hid (RS.out.below hb RS.out.lt)
 have RO := Lib.hid (RO.out.below hb RO.out.lt)
 clear hb
 by_cases hV1 : Valid e1
 case neg =>
  have hr := hn hV1
  subst hr
  obtain ⟨zv, hzv⟩ : ∃ z, zed.val = z := ⟨_, rfl⟩
  have HZV := Lib.hid (show zv = .agg zed.cs.toArray from hzv.symm)
  rw [hzv]
  clear ho hn hV1 hzv
  go_wp2_with (first
   | (show wpList _ _ _ (⟨some 9, _, _, _, _, _⟩ :: _) _ _
      refine QB.wpList_alloc rfl 32 rfl zero_End ?_; intro Y9 hx hy
      have HX9 := Lib.hid (show Row Y9 w2.heap.size zed.cs 32 from hx)
      have HY9 := Lib.hid hy
      clear hx hy)
   | (refine wpList_storeRow rfl 32 _ _ rfl rfl (cs := zed.cs) HZV.out HX9.out (by kernel_rfl) (Ed.len zed_K) (Ed.len zed_K) (Ed.one _) ?_
      refine QB.name fun W3 hZ => ?_
      have hb6 : Below w2.heap.size w2 W3 := hZ ▸ below_setRow HY9.out (Nat.le_refl _) _
      have R9 := Lib.hid (show Row W3 w2.heap.size zed.cs 32 from hZ ▸ HX9.out.setRow _)
      have RS := Lib.hid (RS.out.below hb6 RS.out.lt)
      have RO := Lib.hid (RO.out.below hb6 RO.out.lt)
      have HB := Lib.hid (nextB HB.out (Nat.le_refl _) hb6)
      have HL := Lib.hid (FO.out W3 _ RO.out)
      clear hb6 HX9 HY9
      clear hZ)
   | (refine QB.wpList_ld 25 rfl rfl HL.out (by kernel_rfl) ?_; clear HL)
   | fail)
  refine (HN2.out W3).mono ?_
  rintro r w4 ⟨⟨ho, hn⟩, hb⟩
  have HB := Lib.hid (nextB HB.out (Nat.le_refl _) hb)
  obtain ⟨X, c2, hX, hK, hr⟩ : ∃ (X : Ed) (c2 : Int), True ∧ X.K ∧ r = .returned (.tuple #[X.val, .int .i64 c2]) := by
   by_cases hV2 : Valid e2
   · exact ⟨e2, 0, trivial, HI2.out.k, ho hV2⟩
   · exact ⟨zed, 2, trivial, zed_K, hn hV2⟩
  subst hr
  obtain ⟨xv, hxv⟩ : ∃ z, X.val = z := ⟨_, rfl⟩
  have HXV := Lib.hid (show xv = .agg X.cs.toArray from hxv.symm)
  have HXK := Lib.hid hK
  rw [hxv]
  clear hb ho hn hX hK hxv R9
  go_wp2_with (first
   | (show wpList _ _ _ (⟨some 11, _, _, _, _, _⟩ :: _) _ _
      refine QB.wpList_alloc rfl 32 rfl zero_End ?_; intro Y11 hx hy
      have HX11 := Lib.hid (show Row Y11 w4.heap.size zed.cs 32 from hx)
      have HY11 := Lib.hid hy
      clear hx hy)
   | (refine wpList_storeRow rfl 32 _ _ rfl rfl (cs := X.cs) HXV.out HX11.out (by kernel_rfl) (Ed.len HXK.out) (Ed.len zed_K) (Ed.one _) ?_
      refine QB.name fun W5 hZ => ?_
      have hb6 : Below w4.heap.size w4 W5 := hZ ▸ below_setRow HY11.out (Nat.le_refl _) _
      have R11 := Lib.hid (show Row W5 w4.heap.size X.cs 32 from hZ ▸ HX11.out.setRow _)
      have HB := Lib.hid (nextB HB.out (Nat.le_refl _) hb6)
      clear hb6 HX11 HY11
      clear hZ)
   | fail)
  go_ret
  exact ⟨rfl, HB.out⟩
 case pos =>
 have hr := ho hV1
 subst hr
 have HV1 := Lib.hid hV1
 obtain ⟨v1, hv1⟩ : ∃ v, e1.val = v := ⟨_, rfl⟩
 have HW1 := Lib.hid (show v1 = .agg e1.cs.toArray from hv1.symm)
 have FL1 := Lib.hid (fun (y : World) (g : Nat) (T : TypeId) (h : Row y g e1.cs T) => show (loadVar 32 ⟨g, 0, none⟩).run Tryz.prog y = .ok v1 y from hv1 ▸ l_end h HI1.out.k)
 rw [hv1]
 have HEV1 := Lib.hid hv1
 clear ho hn hV1 hv1
 go_wp2_with (first
  | (show wpList _ _ _ (⟨some 9, _, _, _, _, _⟩ :: _) _ _
     refine QB.wpList_alloc rfl 32 rfl zero_End ?_; intro Y9 hx hy
     have HX9 := Lib.hid (show Row Y9 w2.heap.size zed.cs 32 from hx)
     have HY9 := Lib.hid hy
     clear hx hy)
  | (refine wpList_storeRow rfl 32 _ _ rfl rfl (cs := e1.cs) HW1.out HX9.out (by kernel_rfl) (Ed.len HI1.out.k) (Ed.len zed_K) (Ed.one _) ?_
     refine QB.name fun W3 hZ => ?_
     have hb6 : Below w2.heap.size w2 W3 := hZ ▸ below_setRow HY9.out (Nat.le_refl _) _
     have R9 := Lib.hid (show Row W3 w2.heap.size e1.cs 32 from hZ ▸ HX9.out.setRow _)
     have RS := Lib.hid (RS.out.below hb6 RS.out.lt)
     have RO := Lib.hid (RO.out.below hb6 RO.out.lt)
     have HB := Lib.hid (nextB HB.out (Nat.le_refl _) hb6)
     have HL := Lib.hid (FO.out W3 _ RO.out)
     clear hb6 HX9 HY9
     clear hZ)
  | (refine QB.wpList_ld 25 rfl rfl HL.out (by kernel_rfl) ?_; clear HL)
  | fail)
 obtain ⟨g9, hg9⟩ : ∃ g, w2.heap.size = g := ⟨_, rfl⟩
 rw [hg9] at R9 ⊢
 clear hg9
 refine (HN2.out W3).mono ?_
 rintro r w4 ⟨⟨ho, hn⟩, hb⟩
 have HB := Lib.hid (nextB HB.out (Nat.le_refl _) hb)
 have RS := Lib.hid (RS.out.below hb RS.out.lt)
 have RO := Lib.hid (RO.out.below hb RO.out.lt)
 have R9 := Lib.hid (R9.out.below hb R9.out.lt)
 clear hb
 by_cases hV2 : Valid e2
 case neg =>
  have hr := hn hV2
  subst hr
  obtain ⟨zv, hzv⟩ : ∃ z, zed.val = z := ⟨_, rfl⟩
  have HZV := Lib.hid (show zv = .agg zed.cs.toArray from hzv.symm)
  rw [hzv]
  clear ho hn hV2 hzv
  go_wp2_with (first
   | (show wpList _ _ _ (⟨some 11, _, _, _, _, _⟩ :: _) _ _
      refine QB.wpList_alloc rfl 32 rfl zero_End ?_; intro Y11 hx hy
      have HX11 := Lib.hid (show Row Y11 w4.heap.size zed.cs 32 from hx)
      have HY11 := Lib.hid hy
      clear hx hy)
   | (refine wpList_storeRow rfl 32 _ _ rfl rfl (cs := zed.cs) HZV.out HX11.out (by kernel_rfl) (Ed.len zed_K) (Ed.len zed_K) (Ed.one _) ?_
      refine QB.name fun W5 hZ => ?_
      have hb6 : Below w4.heap.size w4 W5 := hZ ▸ below_setRow HY11.out (Nat.le_refl _) _
      have R11 := Lib.hid (show Row W5 w4.heap.size zed.cs 32 from hZ ▸ HX11.out.setRow _)
      have RS := Lib.hid (RS.out.below hb6 RS.out.lt)
      have RO := Lib.hid (RO.out.below hb6 RO.out.lt)
      have R9 := Lib.hid (R9.out.below hb6 R9.out.lt)
      have HB := Lib.hid (nextB HB.out (Nat.le_refl _) hb6)
      clear hb6 HX11 HY11
      clear hZ)
   | fail)
  go_ret
  exact ⟨rfl, HB.out⟩
 case pos =>
 have hr := ho hV2
 subst hr
 have HV2 := Lib.hid hV2
 obtain ⟨v2, hv2⟩ : ∃ v, e2.val = v := ⟨_, rfl⟩
 have HW2 := Lib.hid (show v2 = .agg e2.cs.toArray from hv2.symm)
 have FL2 := Lib.hid (fun (y : World) (g : Nat) (T : TypeId) (h : Row y g e2.cs T) => show (loadVar 32 ⟨g, 0, none⟩).run Tryz.prog y = .ok v2 y from hv2 ▸ l_end h HI2.out.k)
 rw [hv2]
 have HEV2 := Lib.hid hv2
 clear ho hn hV2 hv2
 go_wp2_with (first
  | (show wpList _ _ _ (⟨some 11, _, _, _, _, _⟩ :: _) _ _
     refine QB.wpList_alloc rfl 32 rfl zero_End ?_; intro Y11 hx hy
     have HX11 := Lib.hid (show Row Y11 w4.heap.size zed.cs 32 from hx)
     have HY11 := Lib.hid hy
     clear hx hy)
  | (refine wpList_storeRow rfl 32 _ _ rfl rfl (cs := e2.cs) HW2.out HX11.out (by kernel_rfl) (Ed.len HI2.out.k) (Ed.len zed_K) (Ed.one _) ?_
     refine QB.name fun W5 hZ => ?_
     have hb6 : Below w4.heap.size w4 W5 := hZ ▸ below_setRow HY11.out (Nat.le_refl _) _
     have R11 := Lib.hid (show Row W5 w4.heap.size e2.cs 32 from hZ ▸ HX11.out.setRow _)
     have RS := Lib.hid (RS.out.below hb6 RS.out.lt)
     have RO := Lib.hid (RO.out.below hb6 RO.out.lt)
     have R9 := Lib.hid (R9.out.below hb6 R9.out.lt)
     have HB := Lib.hid (nextB HB.out (Nat.le_refl _) hb6)
     clear hb6 HX11 HY11
     clear hZ)
  | fail)
 have HG11 := Lib.hid (show w4.heap.size < W5.heap.size from R11.out.lt)
 have HG9 := Lib.hid (show g9 < W5.heap.size from R9.out.lt)
 have HW5 := Lib.hid (show w.heap.size ≤ W5.heap.size from HB.out.size)
 obtain ⟨g11, hg11⟩ : ∃ g, w4.heap.size = g := ⟨_, rfl⟩
 rw [hg11] at R11 HG11 ⊢
 clear hg11
 have HSL := Lib.hid (Pkt.sealedL_length k1 0 s1 ep 1 plain)
 obtain ⟨SL, hSL⟩ : ∃ x, sealedL k1 0 s1 ep 1 plain = x := ⟨_, rfl⟩
 rw [hSL] at HSL
 obtain ⟨vs, hvs⟩ : ∃ v, (sentE s1 p1 k1 ep).val = v := ⟨_, rfl⟩
 have HVS := Lib.hid (show vs = .agg (sentE s1 p1 k1 ep).cs.toArray from hvs.symm)
 have HSE := Lib.hid (show ∀ (A : Option Addr) (c : Nat) (y : World), Tab y → Bs y y.heap.size (.slice A plain.length c) plain → Calls Tryz.prog 9 #[v1, .slice A plain.length c] y fun r w' => (∃ b R, r = .returned (.tuple #[(dp s1 ep 1 (.slice (some ⟨b, 0, none⟩) (plain.length + 16) (plain.length + 16))).val, vs, .int .i64 0]) ∧ y.heap.size ≤ b ∧ Row w' b (SL.map bv ++ R) 5) ∧ Below y.heap.size y w' from fun A c y h1 h2 => by
  have h := send_new (s := s1) (p := p1) (k := k1) (ep := ep) (by rw [HE1.out]; exact HI1.out) (by rw [HE1.out]; exact HV1.out) A plain c (by have := HH.out; omega) y h1 h2
  rw [HE1.out, HEV1.out, hSL, hvs] at h
  exact h)
 have HPL := Lib.hid (show plain.length ≤ 140737488355327 by have := HH.out; omega)
 clear hSL hvs
 obtain ⟨cS, hcS⟩ : ∃ c, (sentE s1 p1 k1 ep).cs = c := ⟨_, rfl⟩
 have HCL := Lib.hid (show cS.length = 43 from hcS ▸ Ed.len (show (sentE s1 p1 k1 ep).K from HK.out.1))
 have HC1 := Lib.hid (show ∀ v ∈ cS, v.oneCell' = true from hcS ▸ Ed.one _)
 rw [hcS] at HVS
 clear hcS
 refine ByG.marks Pol.mixed (T9 W5.heap.size s1 ep 1 (plain.length + 16) SL cS) [By.is v1,
  By.is (.slice A plain.length c),
  own9 W5.heap.size s1 ep 1 (plain.length + 16) SL cS plain,
  send9 W5.heap.size s1 ep 1 (plain.length + 16) SL cS vs,
  send9 W5.heap.size s1 ep 1 (plain.length + 16) SL cS vs,
  pk9 W5.heap.size s1 ep 1 (plain.length + 16) SL cS,
  By.is vs,
  By.is (.int .i64 0),
  newP9 W5.heap.size s1 ep 1 (plain.length + 16) SL cS,
  newN9 W5.heap.size s1 ep 1 (plain.length + 16) SL cS,
  hasP9 W5.heap.size s1 ep 1 (plain.length + 16) SL cS,
  hasN9 W5.heap.size s1 ep 1 (plain.length + 16) SL cS,
  By.is (.int .i64 0)] [] By.some_ (fun _ _ => True)
  (Ev.masks _ []) (by kernel_rfl) rfl (by kernel_rfl) rfl rfl T9.refl (fun _ _ _ => T9.trans) ⟨?_, ?_, ?_, ?_, ?_, ?_, ?_, ?_, ?_, ?_, ?_, ?_, ?_, trivial⟩ ?_
 · intro a wq ht hs hg
   have h9 := By.same_get hs 9 (by decide) (by kernel_rfl)
   refine ⟨fun _ => ?_, fun h => absurd (show true = false from h) (by decide)⟩
   clear hs hg
   refine wp_ld 32 _ rfl h9 (FL1.out wq g9 32 (Row.below R9.out ht.keeps (by have := HG9.out; omega))) ?_
   exact ⟨_, rfl, T9.refl _, rfl, fun h => absurd h (by decide)⟩
 · intro a wq ht hs hg
   have h3 := By.same_get hs 3 (by decide) (by kernel_rfl)
   refine ⟨fun _ => ?_, fun h => absurd (show true = false from h) (by decide)⟩
   clear hs hg
   go_simp
   exact ⟨_, rfl, T9.refl _, rfl⟩
 · intro a wq ht hs hg
   have h58 : a.tmps.getD 58 undef = _ := ByG.given_get hg 1 rfl rfl (by kernel_rfl)
   refine ⟨fun _ => ?_, fun h => absurd (show true = false from h) (by decide)⟩
   clear hs hg
   have hBw : W5.heap.size ≤ wq.heap.size := (show W5.drew.heap.size ≤ wq.heap.size from ht.below.size)
   have hx := Lib.hid ((Bs.below HP.out (HB.out.trans (ht.keeps.mono HW5.out))).more (HB.out.trans (ht.keeps.mono HW5.out)).size)
   clear ht
   have Hlo := Lib.hid hBw
   clear hBw
   go_simp
   refine (Own_any _ plain wq hx.out HPL.out).mono ?_
   rintro r w9 ⟨v, rfl, ho, hb⟩
   exact ⟨_, rfl, T9.grew Hlo.out hb, Own.less ho Hlo.out⟩
 · intro a wq ht hs hg
   have h57 : a.tmps.getD 57 undef = _ := ByG.given_get hg 0 rfl rfl (by kernel_rfl)
   have h59 : Own wq W5.heap.size (a.tmps.getD 59 undef) plain := ByG.given_get hg 2 rfl rfl (by kernel_rfl)
   obtain ⟨v59, hv59⟩ : ∃ v, a.tmps.getD 59 undef = v := ⟨_, rfl⟩
   rw [hv59] at h59
   refine ⟨fun _ => ?_, fun h => absurd (show true = false from h) (by decide)⟩
   clear hs hg
   have hBw : W5.heap.size ≤ wq.heap.size := (show W5.drew.heap.size ≤ wq.heap.size from ht.below.size)
   have hTq := Lib.hid (HT.out.below (HB.out.trans (ht.keeps.mono HW5.out)) HT.out.1)
   obtain ⟨A3, c3, rfl, _, _⟩ := id h59.bs
   have hx := Lib.hid h59.bs
   have Hlo := Lib.hid hBw
   clear h59 ht hBw
   go_simp
   refine (HSE.out A3 c3 wq hTq.out hx.out).mono ?_
   rintro r w9 ⟨⟨b, R, rfl, h1, h2⟩, hb⟩
   exact ⟨_, rfl, T9.grew Hlo.out hb, b, R, rfl, Nat.le_trans Hlo.out h1, h2⟩
 · intro a wq ht hs hg
   obtain ⟨b, R, hv0, h1, h2⟩ := ByG.given_get hg 3 rfl rfl (by kernel_rfl)
   have hv60 : a.tmps.getD 60 undef = _ := hv0
   clear hv0
   refine ⟨fun _ => ?_, fun h => absurd (show true = false from h) (by decide)⟩
   clear hs hg
   have Hx := Lib.hid h2
   clear h2 ht
   go_simp
   exact ⟨_, rfl, T9.refl _, b, R, rfl, h1, Hx.out⟩
 · intro a wq ht hs hg
   obtain ⟨b, R, hv0, h1, h2⟩ := ByG.given_get hg 4 rfl rfl (by kernel_rfl)
   have hv56 : a.tmps.getD 56 undef = _ := hv0
   clear hv0
   refine ⟨fun _ => ?_, fun h => absurd (show true = false from h) (by decide)⟩
   clear hs hg
   have Hx := Lib.hid h2
   clear h2 ht
   go_simp
   exact ⟨_, rfl, T9.refl _, b, R, rfl, h1, Hx.out⟩
 · intro a wq ht hs hg
   obtain ⟨b, R, hv0, h1, h2⟩ := ByG.given_get hg 4 rfl rfl (by kernel_rfl)
   have hv56 : a.tmps.getD 56 undef = _ := hv0
   clear hv0
   refine ⟨fun _ => ?_, fun h => absurd (show true = false from h) (by decide)⟩
   clear hs hg
   clear h2 ht
   go_simp
   exact ⟨_, rfl, T9.refl _, rfl⟩
 · intro a wq ht hs hg
   obtain ⟨b, R, hv0, h1, h2⟩ := ByG.given_get hg 4 rfl rfl (by kernel_rfl)
   have hv56 : a.tmps.getD 56 undef = _ := hv0
   clear hv0
   refine ⟨fun _ => ?_, fun h => absurd (show true = false from h) (by decide)⟩
   clear hs hg
   clear h2 ht
   go_simp
   exact ⟨_, rfl, T9.refl _, rfl⟩
 · intro a wq ht hs hg
   refine ⟨fun _ => ?_, fun h => absurd (show true = false from h) (by decide)⟩
   clear hs hg
   have hBw : W5.heap.size ≤ wq.heap.size := (show W5.drew.heap.size ≤ wq.heap.size from ht.below.size)
   refine Oper.wp_mono ?_ (show Oper.wp Tryz.prog _ a wq (fun a' w' => a' = a.put (some 13) (.pointer (some ⟨wq.heap.size, 0, none⟩)) ∧ w' = wq.alloc (.cells (Pkt.nm 0).cells.toArray 40)) _ from by
    go_simp
    first | rfl | exact ⟨rfl, rfl⟩)
   rintro a' w' ⟨rfl, rfl⟩
   exact ⟨_, rfl, T9.grew hBw ((Below.refl _ wq).alloc (Nat.le_refl _) _), ⟨_, rfl, hBw, _, Row.new rfl rfl, Pkt.Pk.length (Pkt.nm_ok 0)⟩, fun h => absurd h (by decide)⟩
 · intro a wq ht hs hg
   refine ⟨fun _ => ?_, fun h => absurd (show true = false from h) (by decide)⟩
   clear hs hg
   have hBw : W5.heap.size ≤ wq.heap.size := (show W5.drew.heap.size ≤ wq.heap.size from ht.below.size)
   refine Oper.wp_mono ?_ (show Oper.wp Tryz.prog _ a wq (fun a' w' => a' = a.put (some 14) (.pointer (some ⟨wq.heap.size, 0, none⟩)) ∧ w' = wq.alloc (.cells zed.cs.toArray 32)) _ from by
    go_simp
    first | rfl | exact ⟨rfl, rfl⟩)
   rintro a' w' ⟨rfl, rfl⟩
   exact ⟨_, rfl, T9.grew hBw ((Below.refl _ wq).alloc (Nat.le_refl _) _), ⟨_, rfl, hBw, _, Row.new rfl rfl, Ed.len zed_K⟩, fun h => absurd h (by decide)⟩
 · intro a wq ht hs hg
   obtain ⟨b, R, hv0, h1, h2⟩ := ByG.given_get hg 5 rfl rfl (by kernel_rfl)
   have hv : a.tmps.getD 61 undef = _ := hv0
   clear hv0
   obtain ⟨g, hx, hge, old, hold, hlen⟩ := ByG.given_get hg 8 rfl rfl (by kernel_rfl)
   have hx' : a.tmps.getD 13 undef = .pointer (some ⟨g, 0, none⟩) := hx
   clear hx
   have hok : (dp s1 ep 1 (.slice (some ⟨b, 0, none⟩) (plain.length + 16) (plain.length + 16))).Ok := dp_ok s1 ep 1 rfl
   have hpl := Pkt.Pk.length hok
   refine ⟨fun _ => ?_, fun h => absurd (show true = false from h) (by decide)⟩
   clear hs hg
   refine Stg.wp_storeAny (n := 38) (off := 0) (cs := (dp s1 ep 1 (.slice (some ⟨b, 0, none⟩) (plain.length + 16) (plain.length + 16))).cells) 40 (.tmp 13) (.tmp 61) rfl hx' hv rfl hold (by kernel_rfl) hpl (by rw [hpl, hlen]; omega) (Pkt.Pk.one hok) ?_
   rw [T9.splice_all _ _ (by rw [hpl, hlen])]
   obtain ⟨k1, k2⟩ := T9.storeP (lo := W5.heap.size) (s := s1) (e := ep) (n := 1) (len := plain.length + 16) (L := SL) (cN := cS) hge hold h1 h2
   exact ⟨_, rfl, k1, ⟨g, hx', hge, k2⟩, fun h => absurd h (by decide)⟩
 · intro a wq ht hs hg
   have hv0 := ByG.given_get hg 6 rfl rfl (by kernel_rfl)
   have hv : a.tmps.getD 62 undef = .agg cS.toArray := (show a.tmps.getD 62 undef = vs from hv0).trans HVS.out
   clear hv0
   obtain ⟨g, hx, hge, old, hold, hlen⟩ := ByG.given_get hg 9 rfl rfl (by kernel_rfl)
   have hx' : a.tmps.getD 14 undef = .pointer (some ⟨g, 0, none⟩) := hx
   clear hx
   have hpl := HCL.out
   refine ⟨fun _ => ?_, fun h => absurd (show true = false from h) (by decide)⟩
   clear hs hg
   refine Stg.wp_storeAny (n := 43) (off := 0) (cs := cS) 32 (.tmp 14) (.tmp 62) rfl hx' hv rfl hold (by kernel_rfl) hpl (by rw [hpl, hlen]; omega) HC1.out ?_
   rw [T9.splice_all _ _ (by rw [hpl, hlen])]
   obtain ⟨k1, k2⟩ := T9.storeN (lo := W5.heap.size) (s := s1) (e := ep) (n := 1) (len := plain.length + 16) (L := SL) (cN := cS) hge hold hpl
   exact ⟨_, rfl, k1, ⟨g, hx', hge, k2⟩, fun h => absurd h (by decide)⟩
 · intro a wq ht hs hg
   have h63 : a.tmps.getD 63 undef = _ := ByG.given_get hg 7 rfl rfl (by kernel_rfl)
   refine ⟨fun _ => ?_, fun h => absurd (show true = false from h) (by decide)⟩
   clear hs hg
   go_simp
   exact ⟨_, rfl, T9.refl _, rfl⟩
 refine ByG.ends_is rfl ?_
 refine ByG.ends_is rfl ?_
 refine ByG.ends_any fun v59 => ?_
 refine ByG.ends_any fun v60 => ?_
 refine ByG.ends_any fun v56 => ?_
 refine ByG.ends_any fun v61 => ?_
 refine ByG.ends_is rfl ?_
 refine ByG.ends_is rfl ?_
 refine ByG.ends_any fun v13 => ?_
 refine ByG.ends_any fun v14 => ?_
 refine ByG.ends_any fun _ => ?_
 refine ByG.ends_any fun _ => ?_
 refine ByG.ends_is rfl ?_
 refine ByG.ends_nil fun w6 hw6 => ?_
 obtain ⟨⟨⟨⟨⟨⟨⟨⟨⟨hT9, _⟩, m59⟩, m60⟩, m56⟩, m61⟩, m13⟩, m14⟩, s13⟩, s14⟩ := hw6
 obtain ⟨g13, e13, hge13, _⟩ := m13
 have e13' : v13 = .pointer (some ⟨g13, 0, none⟩) := e13
 clear e13
 subst e13'
 obtain ⟨g14, e14, hge14, _⟩ := m14
 have e14' : v14 = .pointer (some ⟨g14, 0, none⟩) := e14
 clear e14
 subst e14'
 obtain ⟨k13, e13, _, b6, R6, hb6, hr6, hp6⟩ := s13
 have e13' : Value.pointer (some ⟨g13, 0, none⟩) = .pointer (some ⟨k13, 0, none⟩) := Eq.trans (by kernel_rfl) e13
 injection e13' with e13'
 injection e13' with e13'
 injection e13' with e13'
 subst e13'
 obtain ⟨k14, e14, _, hr14⟩ := s14
 have e14' : Value.pointer (some ⟨g14, 0, none⟩) = .pointer (some ⟨k14, 0, none⟩) := Eq.trans (by kernel_rfl) e14
 injection e14' with e14'
 injection e14' with e14'
 injection e14' with e14'
 subst e14'
 clear e13 e14 m59 m60 m56 m61
 simp only [Act.put, List.setIfInBounds_toArray, List.set_cons_succ, List.set_cons_zero]
 have hk6 := hT9.keeps
 obtain ⟨zv, hzv⟩ : ∃ z, zed.val = z := ⟨_, rfl⟩
 have HZD := Lib.hid hzv
 clear hzv
 have R13 := Lib.hid hp6
 have R9 := Lib.hid (R9.out.below hk6 HG9.out)
 have R11 := Lib.hid (R11.out.below hk6 (by have := HG11.out; have := R11.out.lt; omega))
 have HB := Lib.hid (HB.out.trans (hk6.mono HW5.out))
 have HW6 := Lib.hid HB.out.size
 clear hp6 hr6 hr14 hk6 hT9 hge13 hge14 hb6
 obtain ⟨P1, hP1⟩ : ∃ P, dp s1 ep 1 (.slice (some ⟨b6, 0, none⟩) (plain.length + 16) (plain.length + 16)) = P := ⟨_, rfl⟩
 have HPo1 := Lib.hid (show P1.Ok by rw [← hP1]; exact dp_ok _ _ _ rfl)
 have HPq1 := Lib.hid hP1
 obtain ⟨pv1, hpv1⟩ : ∃ pv, P1.val = pv := ⟨_, rfl⟩
 have HPV1 := Lib.hid (show pv1 = .agg P1.cells.toArray from hpv1.symm)
 have HPW1 := Lib.hid hpv1
 have HLP1 := Lib.hid (fun (y : World) (g : Nat) (h : Row y g P1.cells 40) => show (loadVar 40 ⟨g, 0, none⟩).run Tryz.prog y = .ok pv1 y by rw [HPV1.out]; exact Pkt.l_all h HPo1.out)
 rw [hP1] at R13
 clear hP1 hpv1
 have HR2 := Lib.hid (show ∀ y, Calls Tryz.prog 10 #[v2, pv1] y fun r w' => r = .returned (.tuple #[.slice none 0 0, zv, .int .i64 13]) ∧ Below y.heap.size y w' from fun y => by
  have h := rec_no (e := e2) HI2.out HV2.out (new_data (show Valid (newE s1 p1 k1 ep 0 8) from HE1.out ▸ HV1.out)) HS.out.1 HS.out.2.2 (bo := .slice (some ⟨b6, 0, none⟩) (plain.length + 16) (plain.length + 16)) rfl (by omega) (by have := HH.out; omega) (k := 13) (rall_who (show s1 ≠ e2.sid by rw [← HE2.out, new_n]; exact HH.out.2.2.2)) (by decide) y
  rw [HPq1.out, HPW1.out, HEV2.out, HZD.out] at h
  exact h)
 have HL := Lib.hid (FL2.out w6 g11 32 R11.out)
 have HL2 := Lib.hid (HLP1.out w6 _ R13.out)
 clear R11
 go_wp2_with (first
  | (refine QB.wpList_ld 32 rfl rfl HL.out (by kernel_rfl) ?_; clear HL)
  | (refine QB.wpList_ld 40 rfl rfl HL2.out (by kernel_rfl) ?_; clear HL2)
  | fail)
 refine (HR2.out w6).mono ?_
 rintro r w7 ⟨rfl, hb⟩
 have HB := Lib.hid (nextB HB.out (Nat.le_refl _) hb)
 have R9 := Lib.hid (R9.out.below hb R9.out.lt)
 have R13 := Lib.hid (R13.out.below hb R13.out.lt)
 clear hb
 have hmv : IntKind.u32.wrap ((ep : Int) + 1) = ((ep + 1 : Nat) : Int) := u32_wrap1 ep (by have := HH.out; omega)
 obtain ⟨e3, he3⟩ : ∃ x : Ed, newE s1 p1 k1 (ep + 1) 0 8 = x := ⟨_, rfl⟩
 have HE3 := Lib.hid he3
 have HI3 := Lib.hid (show e3.In from he3 ▸ newE_In (peer := p1) (way := 0) (stock := 8) HK.out.1 HS.out.1 (by have := HH.out; omega))
 have HV3 := Lib.hid (show Valid e3 from he3 ▸ move_V (show Valid (newE s1 p1 k1 ep 0 8) from HE1.out ▸ HV1.out))
 obtain ⟨v3, hv3⟩ : ∃ v, e3.val = v := ⟨_, rfl⟩
 have HW3 := Lib.hid (show v3 = .agg e3.cs.toArray from hv3.symm)
 have HEV3 := Lib.hid hv3
 have FL3 := Lib.hid (fun (y : World) (g : Nat) (T : TypeId) (h : Row y g e3.cs T) => show (loadVar 32 ⟨g, 0, none⟩).run Tryz.prog y = .ok v3 y from hv3 ▸ l_end h HI3.out.k)
 have HMV := Lib.hid (show ∀ y, Calls Tryz.prog 12 #[v1, .int .u32 ((ep + 1 : Nat) : Int)] y fun r w' => r = .returned (.tuple #[v3, .int .i64 0]) ∧ Below y.heap.size y w' from fun y => by
  have h := move_new (s := s1) (p := p1) (k := k1) (ep := ep) (by rw [HE1.out]; exact HI1.out) (by rw [HE1.out]; exact HV1.out) (by have := HH.out; omega) y
  rw [HE1.out, HEV1.out, HE3.out, HEV3.out] at h
  exact h)
 clear he3 hv3
 have HL := Lib.hid (FL1.out w7 g9 32 R9.out)
 go_wp2_with (first
  | (refine QB.wpList_ld 32 rfl rfl HL.out (by kernel_rfl) ?_; clear HL)
  | fail)
 refine (HMV.out w7).mono ?_
 rintro r w8 ⟨rfl, hb⟩
 have HB := Lib.hid (nextB HB.out (Nat.le_refl _) hb)
 have R9 := Lib.hid (R9.out.below hb R9.out.lt)
 have R13 := Lib.hid (R13.out.below hb R13.out.lt)
 clear hb
 go_wp2_with (first
  | (show wpList _ _ _ (⟨some 15, _, _, _, _, _⟩ :: _) _ _
     refine QB.wpList_alloc rfl 32 rfl zero_End ?_; intro Y15 hx hy
     have HX15 := Lib.hid (show Row Y15 w8.heap.size zed.cs 32 from hx)
     have HY15 := Lib.hid hy
     clear hx hy)
  | (refine wpList_storeRow rfl 32 _ _ rfl rfl (cs := e3.cs) HW3.out HX15.out (by kernel_rfl) (Ed.len HI3.out.k) (Ed.len zed_K) (Ed.one _) ?_
     refine QB.name fun W9 hZ => ?_
     have hb6 : Below w8.heap.size w8 W9 := hZ ▸ below_setRow HY15.out (Nat.le_refl _) _
     have R15 := Lib.hid (show Row W9 w8.heap.size e3.cs 32 from hZ ▸ HX15.out.setRow _)
     have R9 := Lib.hid (R9.out.below hb6 R9.out.lt)
     have R13 := Lib.hid (R13.out.below hb6 R13.out.lt)
     have HB := Lib.hid (nextB HB.out (Nat.le_refl _) hb6)
     have HL := Lib.hid (FL3.out W9 _ 32 R15.out)
     have HL2 := Lib.hid (HLP1.out W9 _ R13.out)
     clear hb6 HX15 HY15
     clear hZ)
  | (refine QB.wpList_ld 32 rfl rfl HL.out (by kernel_rfl) ?_; clear HL)
  | (refine QB.wpList_ld 40 rfl rfl HL2.out (by kernel_rfl) ?_; clear HL2)
  | fail)
 obtain ⟨g15, hg15⟩ : ∃ g, w8.heap.size = g := ⟨_, rfl⟩
 rw [hg15] at R15 ⊢
 clear hg15 hmv
 have HR3 := Lib.hid (show ∀ y, Calls Tryz.prog 10 #[v3, pv1] y fun r w' => r = .returned (.tuple #[.slice none 0 0, zv, .int .i64 8]) ∧ Below y.heap.size y w' from fun y => by
  have h := rec_no (e := e3) HI3.out HV3.out (new_data (show Valid (newE s1 p1 k1 ep 0 8) from HE1.out ▸ HV1.out)) HS.out.1 HS.out.2.2 (bo := .slice (some ⟨b6, 0, none⟩) (plain.length + 16) (plain.length + 16)) rfl (by omega) (by have := HH.out; omega) (k := 8) (rall_old (show s1 = e3.sid by rw [← HE3.out, new_n]) (show ep < e3.ep by rw [← HE3.out, new_n]; exact Nat.lt_succ_self _)) (by decide) y
  rw [HPq1.out, HPW1.out, HEV3.out, HZD.out] at h
  exact h)
 clear R13
 refine (HR3.out W9).mono ?_
 rintro r w10 ⟨rfl, hb⟩
 have HB := Lib.hid (nextB HB.out (Nat.le_refl _) hb)
 have R9 := Lib.hid (R9.out.below hb R9.out.lt)
 have R15 := Lib.hid (R15.out.below hb R15.out.lt)
 clear hb
 have HL := Lib.hid (FL3.out w10 _ 32 R15.out)
 go_wp2_with (first
  | (refine QB.wpList_ld 32 rfl rfl HL.out (by kernel_rfl) ?_; clear HL)
  | fail)
 obtain ⟨SM, hSM⟩ : ∃ x, sealedL k1 0 s1 (ep + 1) 1 plain = x := ⟨_, rfl⟩
 obtain ⟨vt, hvt⟩ : ∃ v, (sentE s1 p1 k1 (ep + 1)).val = v := ⟨_, rfl⟩
 obtain ⟨cT, hcT⟩ : ∃ c, (sentE s1 p1 k1 (ep + 1)).cs = c := ⟨_, rfl⟩
 have HVT := Lib.hid (show vt = .agg cT.toArray from hcT ▸ hvt.symm)
 have HTL := Lib.hid (show cT.length = 43 from hcT ▸ Ed.len (show (sentE s1 p1 k1 (ep + 1)).K from HK.out.1))
 have HT1 := Lib.hid (show ∀ v ∈ cT, v.oneCell' = true from hcT ▸ Ed.one _)
 have HS3 := Lib.hid (show ∀ (y : World), Tab y → Bs y y.heap.size (.slice A plain.length c) plain → Calls Tryz.prog 9 #[v3, .slice A plain.length c] y fun r w' => (∃ b R, r = .returned (.tuple #[(dp s1 (ep + 1) 1 (.slice (some ⟨b, 0, none⟩) (plain.length + 16) (plain.length + 16))).val, vt, .int .i64 0]) ∧ y.heap.size ≤ b ∧ Row w' b (SM.map bv ++ R) 5) ∧ Below y.heap.size y w' from fun y h1 h2 => by
  have h := send_new (s := s1) (p := p1) (k := k1) (ep := ep + 1) (by rw [HE3.out]; exact HI3.out) (by rw [HE3.out]; exact HV3.out) A plain c (by have := HH.out; omega) y h1 h2
  rw [HE3.out, HEV3.out, hSM, hvt] at h
  exact h)
 clear hSM hvt hcT
 clear R15
 refine (HS3.out w10 (HT.out.below HB.out HT.out.1) ((Bs.below HP.out HB.out).more HB.out.size)).mono ?_
 rintro r w11 ⟨⟨b7, R7, rfl, hlo7, hrow7⟩, hb⟩
 have HB := Lib.hid (nextB HB.out (Nat.le_refl _) hb)
 have R9 := Lib.hid (R9.out.below hb R9.out.lt)
 clear hb
 clear hrow7 hlo7
 obtain ⟨P2, hP2⟩ : ∃ P, dp s1 (ep + 1) 1 (.slice (some ⟨b7, 0, none⟩) (plain.length + 16) (plain.length + 16)) = P := ⟨_, rfl⟩
 have HPo2 := Lib.hid (show P2.Ok by rw [← hP2]; exact dp_ok _ _ _ rfl)
 have HPq2 := Lib.hid hP2
 obtain ⟨pv2, hpv2⟩ : ∃ pv, P2.val = pv := ⟨_, rfl⟩
 have HPV2 := Lib.hid (show pv2 = .agg P2.cells.toArray from hpv2.symm)
 have HPW2 := Lib.hid hpv2
 have HLP2 := Lib.hid (fun (y : World) (g : Nat) (h : Row y g P2.cells 40) => show (loadVar 40 ⟨g, 0, none⟩).run Tryz.prog y = .ok pv2 y by rw [HPV2.out]; exact Pkt.l_all h HPo2.out)
 rw [hP2, hpv2]
 clear hP2 hpv2
 go_wp2_with (first
  | (show wpList _ _ _ (⟨some 16, _, _, _, _, _⟩ :: _) _ _
     refine QB.wpList_alloc rfl 40 rfl zpk ?_; intro Y16 hx hy
     have HX16 := Lib.hid (show Row Y16 w11.heap.size (Pkt.nm 0).cells 40 from hx)
     have HY16 := Lib.hid hy
     clear hx hy)
  | (show wpList _ _ _ (⟨some 17, _, _, _, _, _⟩ :: _) _ _
     refine QB.wpList_alloc rfl 32 rfl zero_End ?_; intro Y17 hx hy
     have HX17 := Lib.hid (show Row Y17 Y16.heap.size zed.cs 32 from hx)
     have HG56 := Lib.hid (show w11.heap.size < Y16.heap.size from HX16.out.lt)
     have HX16' := Lib.hid (HX16.out.below hy HX16.out.lt)
     have HY17 := Lib.hid (nextB HY16.out (Nat.le_refl _) hy)
     clear hx hy HX16 HY16)
  | (refine wpList_storeRow rfl 40 _ _ rfl rfl (cs := P2.cells) HPV2.out HX16'.out (by kernel_rfl) (Pkt.Pk.length HPo2.out) (Pkt.Pk.length (Pkt.nm_ok 0)) (Pkt.Pk.one HPo2.out) ?_
     refine QB.name fun A1 hZ => ?_
     have HX17' := Lib.hid (row_grown HX17.out (hZ ▸ only_setRow _ : Y17.grownBy A1 (some w11.heap.size)) (by have := HG56.out; omega))
     have HYA := Lib.hid (show Below w11.heap.size w11 A1 from hZ ▸ below_setRow HY17.out (Nat.le_refl _) _)
     have HP16 := Lib.hid (show Row A1 w11.heap.size P2.cells 40 from hZ ▸ HX16'.out.setRow _)
     clear HX16' HX17 HY17
     clear hZ)
  | (refine wpList_storeRow rfl 32 _ _ rfl rfl (cs := cT) HVT.out HX17'.out (by kernel_rfl) HTL.out (Ed.len zed_K) HT1.out ?_
     refine QB.name fun W12 hZ => ?_
     have hb6 : Below w11.heap.size w11 W12 := hZ ▸ below_setRow HYA.out (by have := HG56.out; omega) _
     have R16 := Lib.hid (row_grown HP16.out (hZ ▸ only_setRow _ : A1.grownBy W12 (some Y16.heap.size)) (by have := HG56.out; omega))
     have R9 := Lib.hid (R9.out.below hb6 R9.out.lt)
     have HB := Lib.hid (nextB HB.out (Nat.le_refl _) hb6)
     have HL := Lib.hid (FL1.out W12 g9 32 R9.out)
     have HL2 := Lib.hid (HLP2.out W12 _ R16.out)
     clear hb6 HX17' HYA HP16
     clear hZ)
  | (refine QB.wpList_ld 32 rfl rfl HL.out (by kernel_rfl) ?_; clear HL)
  | (refine QB.wpList_ld 40 rfl rfl HL2.out (by kernel_rfl) ?_; clear HL2)
  | fail)
 have HR1 := Lib.hid (show ∀ y, Calls Tryz.prog 10 #[v1, pv2] y fun r w' => r = .returned (.tuple #[.slice none 0 0, zv, .int .i64 2]) ∧ Below y.heap.size y w' from fun y => by
  have h := rec_no (e := e1) HI1.out HV1.out (new_data (show Valid (newE s1 p1 k1 (ep + 1) 0 8) from HE3.out ▸ HV3.out)) HS.out.1 (by have := HH.out; omega) (bo := .slice (some ⟨b7, 0, none⟩) (plain.length + 16) (plain.length + 16)) rfl (by omega) (by have := HH.out; omega) (k := 2) (rall_new (show s1 = e1.sid by rw [← HE1.out, new_n]) (show e1.ep < ep + 1 by rw [← HE1.out, new_n]; exact Nat.lt_succ_self _)) (by decide) y
  rw [HPq2.out, HPW2.out, HEV1.out, HZD.out] at h
  exact h)
 refine (HR1.out W12).mono ?_
 rintro r w13 ⟨rfl, hb⟩
 have HB := Lib.hid (nextB HB.out (Nat.le_refl _) hb)
 have R9 := Lib.hid (R9.out.below hb R9.out.lt)
 clear hb
 go_wp2
 go_ret
 exact ⟨rfl, HB.out⟩
set_option maxRecDepth 100000 in
theorem lift (os : Os) (started : os.Started) (H : Type) (enc : TypeId × Value → H) :
 ReturnsInHanded {} Tryz.checked os 5 .any (fun w args => (Rows.sessionApartSpec.pre enc Tryz.prog Tryz.f5 Rows.sessionApartRow.domain false w args ∧ laidMetH Tryz.prog Hk.laidL w) ∧ sizedMet enc Tryz.prog Tryz.f5 (OpenSpec.ofChange Rows.sessionApartSpec) false w args) (Rows.sessionApartSpec.post enc Tryz.prog Tryz.f5 false true false false) := by
 refine Hk.lifted 4 Pol.own started (by kernel_rfl) Tryz.func5 Pol.laid (by kernel_rfl) rfl Tryz.underlying4 rfl
  (fun ds hd => by
   have hd' : ds.length = 4 := hd
   match ds, hd' with
   | [d0, d1, d2, d3], _ => rfl)
  (ChangeSpec.witness_at (enc := enc) (C := Tryz.checked) (os := os) (X := fun w _ => laidMetH Tryz.prog Hk.laidL w) false (Hk.laidWorld os) #[.agg (ssc 0 0 z32).toArray, .agg (ssc 0 0 z32).toArray, .int .u32 0, .slice none 0 0] 8 rfl (by kernel_rfl) (by kernel_rfl) (by kernel_rfl) (by kernel_rfl) (by kernel_rfl) (Hk.laid_metH os _)) ?_
 intro W args ds ps hst htab
 have hA : DataW.TrodAll enc Tryz.prog W 0 (fun _ => true) true Tryz.f5.params.toList args.toList ds ps := hst.trod
 have hok := hst.okw
 have hlt := hst.lt
 rw [Tryz.params5] at hA hok
 obtain ⟨v0, v1, v2, v3, d0, d1, d2, d3, p0, p1, p2, p3, rfl, rfl, rfl, h0, h1, h2, h3⟩ := trodAll_four hA
 obtain ⟨_, hv0⟩ := hok 0 25 v0 rfl rfl
 obtain ⟨_, hv1⟩ := hok 1 25 v1 rfl rfl
 obtain ⟨_, hv2⟩ := hok 2 26 v2 rfl rfl
 obtain ⟨_, hv3⟩ := hok 3 38 v3 rfl rfl
 obtain ⟨s1, p1, k1, rfl, hk1, hs1⟩ := sess_at hv0
 obtain ⟨s2, p2, k2, rfl, hk2, hs2⟩ := sess_at hv1
 obtain ⟨e, rfl, e0', e1'⟩ := Law.int_at Tryz.underlying26 hv2 h2
 have e0 : (0 : Int) ≤ e := e0'
 obtain ⟨e, rfl⟩ := Int.eq_ofNat_of_zero_le e0
 have e1 : (e : Int) ≤ 4294967295 := e1'
 obtain ⟨b, hb, _⟩ := Law.bytes_at Tryz.underlying38 hv3 h3 (fun x hx => hlt x (by simp [hx]))
 obtain ⟨A, c, rfl, _, _⟩ := id hb
 exact walk htab hk1 hk2 hs1 hs2 (by omega) hb
theorem over : Rows.sessionApartRow.holds Tryz.pinned (OpenSpec.ofChange Rows.sessionApartSpec) :=
 OpenClaim.holds_of_wide 5 Tryz.f5 rfl rfl rfl rfl rfl rfl rfl ⟨rfl, rfl, rfl, rfl, rfl⟩ rfl rfl rfl rfl rfl (by kernel_rfl) Tryz.func5 (by kernel_rfl)
  (of_decide_eq_true (by kernel_rfl)) (by unfold Func.isWrapper; first | (rw [if_pos (by decide +kernel)]; kernel_rfl) | (rw [if_neg (by decide +kernel)]; exact ⟨rfl, rfl⟩))
  (fun os started H enc _ => lift os started H enc)
theorem proved : Rows.SessionApartCardSaid :=
 Claim7.holds_tied_plain_at .later [] [.data] true Rows.sessionApartCard.stood.harness false over (fun _ h => by cases h) (by kernel_rfl) (fun _ h => by cases h) sessionApart_row_tie rfl ⟨rfl, rfl⟩ (by kernel_rfl) rfl
  (fun f fn hf hfn => by
   obtain rfl : f = 5 := (Option.some.inj ((show Tryz.prog.funcNamed Rows.sessionApartRow.func = some 5 by kernel_rfl).symm.trans hf)).symm
   obtain rfl : fn = Tryz.f5 := (Option.some.inj (Tryz.func5.symm.trans hfn)).symm
   refine ⟨by kernel_rfl, fun j t ht => ?_⟩
   have hall : (Tryz.f5.params.toList.all fun t => Tryz.prog.wantsStandIn t == false) = true := by kernel_rfl
   have h := List.all_eq_true.1 hall t (Array.mem_toList_iff.2 (Array.mem_of_getElem? ht))
   exact eq_of_beq h)
  (by kernel_rfl)
#print axioms proved
end Go.Proofs.YtedmogacklbcmaaGreatDoor.sessionApart
