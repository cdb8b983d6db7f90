/- Texts that the proofs share: ShkBytes, ShkMark, ShkRMark. -/
import Derived.Test.YtbdpnpabpcidkaaDoorU32
import Derived.Test.YtbdpnpabpcidkaaDoorU37
import Derived.Test.YtbdpnpabpcidkaaDoorU38
namespace Go.Proofs.YtbdpnpabpcidkaaDoor.Shk
open Go.RowKit
open Pkt (Pk code_name c_peer c_ses c_epo l_all)
def p32 (z : Int) : Nat := (z % 4294967296).toNat
theorem p32_wrap (z : Int) : IntKind.u32.wrap z = ((p32 z : Nat) : Int) := by
 rw [IntKind.wrap_u32']
 unfold p32
 omega
def helloL (p : Pk) : List (List UInt8) := [Oct.bytesBE 4 (p32 p.peer), p.rnd]
theorem bs_rnd {w : World} {g : Nat} {p : Pk} (h : Row w g p.cells 40) (ho : p.Ok) : Bs w w.heap.size (.slice (some ⟨g, 5, none⟩) 16 16) p.rnd :=
 ⟨_, 16, by rw [ho.r], by rw [ho.r]; exact Nat.le_refl _, fun _ => ⟨g, 5, rfl, h.lt, fun i u hu => h.cell (by
  have hi := (List.getElem?_eq_some_iff.1 hu).1
  rw [Nat.add_comm]
  show (p.rnd.map bv ++ (p.mrk.map bv ++ [p.bo]))[i]? = _
  rw [List.getElem?_append_left (by rw [List.length_map]; exact hi), List.getElem?_map, hu]
  rfl)⟩⟩
set_option maxRecDepth 100000 in
set_option maxHeartbeats 2000000 in
theorem helloBytes_any (p : Pk) (ho : p.Ok) (w : World) : Calls Tryd.prog 59 #[p.val] w fun e w' => ∃ v, e = .returned v ∧ FullL w' v (helloL p) ∧ Below w.heap.size w w' := by
 have Ho := Lib.hid ho
 clear ho
 unfold Pk.val
 go_enter Tryd.func59, Tryd.ntmps59
 go_wp2_with fail
 refine code_name fun W0 hW0 => ?_
 have HP := Lib.hid (show Row W0 w.heap.size p.cells 40 from hW0 ▸ Row.new rfl rfl)
 have HB0 := Lib.hid (show Below w.heap.size w W0 from hW0 ▸ (Below.refl _ w).alloc (Nat.le_refl _) _)
 clear hW0
 refine By.marks Pol.mixed Grew [By.is (.pointer (some ⟨w.heap.size, 1, none⟩)),
  By.is (.int .i64 p.peer),
  By.is (.int .u32 ((p32 p.peer : Nat) : Int)),
  bsM (Oct.bytesBE 4 (p32 p.peer)),
  By.is (.pointer (some ⟨w.heap.size, 5, none⟩)),
  By.is (.slice (some ⟨w.heap.size, 5, none⟩) 16 16),
  fullM (helloL p),
  fullM (helloL p)]
  (Ev.masks _ []) (by kernel_rfl) rfl Grew.refl Grew.trans ⟨?_, ?_, ?_, ?_, ?_, ?_, ?_, ?_, trivial⟩ ?_
 · intro a w ht hs hg
   have h1 := By.same_get hs 1 (by decide) (by kernel_rfl)
   refine By.yes rfl ?_
   clear hs hg
   go_simp
   exact ⟨_, rfl, Grew.refl _, rfl⟩
 · intro a w ht hs hg
   have h3 : a.tmps.getD 3 undef = _ := By.given_get hg 0 rfl rfl (by kernel_rfl)
   refine By.yes rfl ?_
   clear hs hg
   have hc := c_peer (Row.below (w := W0.drew) HP.out ht HP.out.lt)
   clear ht
   go_simp
   exact ⟨_, rfl, Grew.refl _, rfl⟩
 · intro a w ht hs hg
   have h4 : a.tmps.getD 4 undef = _ := By.given_get hg 1 rfl rfl (by kernel_rfl)
   refine By.yes rfl ?_
   clear hs hg
   go_simp
   exact ⟨_, rfl, Grew.refl _, congrArg (Value.int .u32) (p32_wrap p.peer)⟩
 · intro a w ht hs hg
   have h5 : a.tmps.getD 5 undef = _ := By.given_get hg 2 rfl rfl (by kernel_rfl)
   refine By.yes rfl ?_
   clear hs hg
   clear ht
   go_simp
   refine (num4_any (p32 p.peer) w).mono ?_
   rintro e w' ⟨v, rfl, hv, hb⟩
   exact ⟨_, rfl, hb, hv⟩
 · intro a w ht hs hg
   have h1 := By.same_get hs 1 (by decide) (by kernel_rfl)
   refine By.yes rfl ?_
   clear hs hg
   go_simp
   exact ⟨_, rfl, Grew.refl _, rfl⟩
 · intro a w ht hs hg
   have h7 : a.tmps.getD 7 undef = _ := By.given_get hg 4 rfl rfl (by kernel_rfl)
   refine By.yes rfl ?_
   clear hs hg
   go_simp
   exact ⟨_, rfl, Grew.refl _, rfl⟩
 · intro a w ht hs hg
   have h6 := By.given_get hg 3 rfl rfl (by kernel_rfl)
   have h8 : a.tmps.getD 8 undef = _ := By.given_get hg 5 rfl rfl (by kernel_rfl)
   refine By.yes rfl ?_
   obtain ⟨v6, hv6⟩ : ∃ v, a.tmps.getD 6 undef = v := ⟨_, rfl⟩
   replace h6 := (congrArg (fun v => ((bsM (Oct.bytesBE 4 (p32 p.peer)))).on v w) hv6).mp h6
   clear hs hg
   have h2 := bs_rnd (Row.below (w := W0.drew) HP.out ht HP.out.lt) Ho.out
   refine wp_list2 (.tmp 6) (.tmp 8) rfl hv6 h6 h8 h2 ?_
   intro v' w' h hb
   exact ⟨_, rfl, hb, h⟩
 · intro a w ht hs hg
   have h9 := By.given_get hg 6 rfl rfl (by kernel_rfl)
   refine By.yes rfl ?_
   obtain ⟨v9, hv9⟩ : ∃ v, a.tmps.getD 9 undef = v := ⟨_, rfl⟩
   replace h9 := (congrArg (fun v => ((fullM (helloL p))).on v w) hv9).mp h9
   clear hs hg
   have Hx := Lib.hid h9
   clear h9
   go_simp
   exact ⟨_, rfl, Grew.refl _, Hx.out⟩
 refine By.ends_is (By.ends_is (By.ends_is (By.ends_skip fun v6 => (By.ends_is (By.ends_is (By.ends_skip fun v9 => (By.ends_any fun v2 => (By.ends_nil fun w9 hw9 => ?_))))))))
 simp only [Act.put, List.setIfInBounds_toArray, List.set_cons_succ, List.set_cons_zero]
 obtain ⟨hw, h2⟩ := hw9
 have HB9 := Lib.hid (nextB HB0.out (Nat.le_refl _) (grew_below hw))
 have HX := Lib.hid h2
 clear h2 hw
 go_wp2
 go_ret
 exact ⟨_, rfl, HX.out, HB9.out⟩
def answerL (p q : Pk) : List (List UInt8) := helloL p ++ [Oct.bytesBE 8 q.ses, Oct.bytesBE 4 q.epo, q.rnd]
set_option maxRecDepth 100000 in
set_option maxHeartbeats 2000000 in
theorem answerBytes_any (p q : Pk) (ho : p.Ok) (hq : q.Ok) (w : World) : Calls Tryd.prog 60 #[p.val, q.val] w fun e w' => ∃ v, e = .returned v ∧ Bss w' w'.heap.size v (answerL p q) ∧ Below w.heap.size w w' := by
 have Ho := Lib.hid ho
 have Hq := Lib.hid hq
 clear ho hq
 unfold Pk.val
 go_enter Tryd.func60, Tryd.ntmps60
 go_wp2_with fail
 refine code_name fun W0 hW0 => ?_
 have HP := Lib.hid (show Row W0 w.heap.size p.cells 40 from hW0 ▸ (Row.new rfl rfl).alloc _)
 have HQ := Lib.hid (show Row W0 (w.heap.size + 1) q.cells 40 from hW0 ▸ Row.new (by simp) rfl)
 have HB0 := Lib.hid (show Below w.heap.size w W0 from hW0 ▸ ((Below.refl _ w).alloc (Nat.le_refl _) _).alloc (by simp) _)
 clear hW0
 refine By.marks Pol.mixed Grew [By.is p.val,
  fullM (helloL p),
  By.is (.pointer (some ⟨(w.heap.size + 1), 2, none⟩)),
  By.is (.int .u64 (q.ses : Int)),
  bsM (Oct.bytesBE 8 q.ses),
  By.is (.pointer (some ⟨(w.heap.size + 1), 3, none⟩)),
  By.is (.int .u32 (q.epo : Int)),
  bsM (Oct.bytesBE 4 q.epo),
  By.is (.pointer (some ⟨(w.heap.size + 1), 5, none⟩)),
  By.is (.slice (some ⟨(w.heap.size + 1), 5, none⟩) 16 16),
  fullM [Oct.bytesBE 8 q.ses, Oct.bytesBE 4 q.epo, q.rnd],
  bssM (answerL p q),
  bssM (answerL p q)]
  (Ev.masks _ []) (by kernel_rfl) rfl Grew.refl Grew.trans ⟨?_, ?_, ?_, ?_, ?_, ?_, ?_, ?_, ?_, ?_, ?_, ?_, ?_, trivial⟩ ?_
 · intro a w ht hs hg
   have h2 := By.same_get hs 2 (by decide) (by kernel_rfl)
   refine By.yes rfl ?_
   clear hs hg
   have hr := l_all (Row.below (w := W0.drew) HP.out ht HP.out.lt) Ho.out
   refine wp_ld 40 _ rfl h2 hr ?_
   exact ⟨_, rfl, Grew.refl _, rfl⟩
 · intro a w ht hs hg
   have h5 : a.tmps.getD 5 undef = _ := By.given_get hg 0 rfl rfl (by kernel_rfl)
   refine By.yes rfl ?_
   clear hs hg
   clear ht
   unfold Pk.val at h5
   go_simp
   refine (helloBytes_any p Ho.out w).mono ?_
   rintro e w' ⟨v, rfl, hv, hb⟩
   exact ⟨_, rfl, hb, hv⟩
 · intro a w ht hs hg
   have h3 := By.same_get hs 3 (by decide) (by kernel_rfl)
   refine By.yes rfl ?_
   clear hs hg
   go_simp
   exact ⟨_, rfl, Grew.refl _, rfl⟩
 · intro a w ht hs hg
   have h7 : a.tmps.getD 7 undef = _ := By.given_get hg 2 rfl rfl (by kernel_rfl)
   refine By.yes rfl ?_
   clear hs hg
   have hc := c_ses (Row.below (w := W0.drew) HQ.out ht HQ.out.lt)
   clear ht
   go_simp
   exact ⟨_, rfl, Grew.refl _, rfl⟩
 · intro a w ht hs hg
   have h8 : a.tmps.getD 8 undef = _ := By.given_get hg 3 rfl rfl (by kernel_rfl)
   refine By.yes rfl ?_
   clear hs hg
   clear ht
   go_simp
   refine (num8_any q.ses w).mono ?_
   rintro e w' ⟨v, rfl, hv, hb⟩
   exact ⟨_, rfl, hb, hv⟩
 · intro a w ht hs hg
   have h3 := By.same_get hs 3 (by decide) (by kernel_rfl)
   refine By.yes rfl ?_
   clear hs hg
   go_simp
   exact ⟨_, rfl, Grew.refl _, rfl⟩
 · intro a w ht hs hg
   have h10 : a.tmps.getD 10 undef = _ := By.given_get hg 5 rfl rfl (by kernel_rfl)
   refine By.yes rfl ?_
   clear hs hg
   have hc := c_epo (Row.below (w := W0.drew) HQ.out ht HQ.out.lt)
   clear ht
   go_simp
   exact ⟨_, rfl, Grew.refl _, rfl⟩
 · intro a w ht hs hg
   have h11 : a.tmps.getD 11 undef = _ := By.given_get hg 6 rfl rfl (by kernel_rfl)
   refine By.yes rfl ?_
   clear hs hg
   clear ht
   go_simp
   refine (num4_any q.epo w).mono ?_
   rintro e w' ⟨v, rfl, hv, hb⟩
   exact ⟨_, rfl, hb, hv⟩
 · intro a w ht hs hg
   have h3 := By.same_get hs 3 (by decide) (by kernel_rfl)
   refine By.yes rfl ?_
   clear hs hg
   go_simp
   exact ⟨_, rfl, Grew.refl _, rfl⟩
 · intro a w ht hs hg
   have h13 : a.tmps.getD 13 undef = _ := By.given_get hg 8 rfl rfl (by kernel_rfl)
   refine By.yes rfl ?_
   clear hs hg
   go_simp
   exact ⟨_, rfl, Grew.refl _, rfl⟩
 · intro a w ht hs hg
   have h9 := By.given_get hg 4 rfl rfl (by kernel_rfl)
   have h12 := By.given_get hg 7 rfl rfl (by kernel_rfl)
   have h14 : a.tmps.getD 14 undef = _ := By.given_get hg 9 rfl rfl (by kernel_rfl)
   refine By.yes rfl ?_
   obtain ⟨v9, hv9⟩ : ∃ v, a.tmps.getD 9 undef = v := ⟨_, rfl⟩
   replace h9 := (congrArg (fun v => ((bsM (Oct.bytesBE 8 q.ses))).on v w) hv9).mp h9
   obtain ⟨v12, hv12⟩ : ∃ v, a.tmps.getD 12 undef = v := ⟨_, rfl⟩
   replace h12 := (congrArg (fun v => ((bsM (Oct.bytesBE 4 q.epo))).on v w) hv12).mp h12
   clear hs hg
   have h2 := bs_rnd (Row.below (w := W0.drew) HQ.out ht HQ.out.lt) Hq.out
   refine wp_list3 (.tmp 9) (.tmp 12) (.tmp 14) rfl hv9 h9 hv12 h12 h14 h2 ?_
   intro v' w' h hb
   exact ⟨_, rfl, hb, h⟩
 · intro a w ht hs hg
   have h6 := By.given_get hg 1 rfl rfl (by kernel_rfl)
   have h15 := By.given_get hg 10 rfl rfl (by kernel_rfl)
   refine By.yes rfl ?_
   obtain ⟨v6, hv6⟩ : ∃ v, a.tmps.getD 6 undef = v := ⟨_, rfl⟩
   replace h6 := (congrArg (fun v => ((fullM (helloL p))).on v w) hv6).mp h6
   obtain ⟨v15, hv15⟩ : ∃ v, a.tmps.getD 15 undef = v := ⟨_, rfl⟩
   replace h15 := (congrArg (fun v => ((fullM [Oct.bytesBE 8 q.ses, Oct.bytesBE 4 q.epo, q.rnd])).on v w) hv15).mp h15
   clear hs hg
   refine wp_app_l (.tmp 6) (.tmp 15) rfl hv6 hv15 h6 (FullL.bss h15) (by unfold helloL; simp) ?_
   intro v' w' h hb
   exact ⟨_, rfl, hb, h⟩
 · intro a w ht hs hg
   have h16 := By.given_get hg 11 rfl rfl (by kernel_rfl)
   refine By.yes rfl ?_
   obtain ⟨v16, hv16⟩ : ∃ v, a.tmps.getD 16 undef = v := ⟨_, rfl⟩
   replace h16 := (congrArg (fun v => ((bssM (answerL p q))).on v w) hv16).mp h16
   clear hs hg
   have Hx := Lib.hid h16
   clear h16
   go_simp
   exact ⟨_, rfl, Grew.refl _, Hx.out⟩
 refine By.ends_is (By.ends_skip fun v6 => (By.ends_is (By.ends_is (By.ends_skip fun v9 => (By.ends_is (By.ends_is (By.ends_skip fun v12 => (By.ends_is (By.ends_is (By.ends_skip fun v15 => (By.ends_skip fun v16 => (By.ends_any fun v4 => (By.ends_nil fun w9 hw9 => ?_)))))))))))))
 simp only [Act.put, List.setIfInBounds_toArray, List.set_cons_succ, List.set_cons_zero]
 obtain ⟨hw, h4⟩ := hw9
 have HB9 := Lib.hid (nextB HB0.out (Nat.le_refl _) (grew_below hw))
 have HX := Lib.hid h4
 clear h4 hw
 go_wp2
 go_ret
 exact ⟨_, rfl, HX.out, HB9.out⟩
end Go.Proofs.YtbdpnpabpcidkaaDoor.Shk
namespace Go.Proofs.YtbdpnpabpcidkaaDoor.Shk
open Go.RowKit
open Pkt (code_name wpList_name wpList_ld)
def mark (key b : List UInt8) : List UInt8 := (Sha.mac key b).take 16
theorem mark_length (key b : List UInt8) : (mark key b).length = 16 := by
 unfold mark
 rw [List.length_take, show (Sha.mac key b).length = 32 from Sha.sum_length _]
 rfl
def z32 : List Value := (List.replicate 32 (0 : UInt8)).map bv
def newM (lo : Nat) : By.Mark Grew := ⟨fun v w => ∃ g, v = .pointer (some ⟨g, 0, none⟩) ∧ lo ≤ g ∧ Row w g z32 24, fun _ _ _ ⟨g, h1, h2, h3⟩ k => ⟨g, h1, h2, h3.below k h3.lt⟩⟩
set_option maxRecDepth 100000 in
set_option maxHeartbeats 2000000 in
theorem Mark_any (key tb : List UInt8) (ls : List (List UInt8)) (lv : Value) (hk : key.length = 32) (htb : tb.length ≤ 100000) (w : World) (ht : Tab w) (hb : Bss w w.heap.size lv ls) (hn : ls.length ≤ 1000) (hm : ∀ l ∈ ls, l.length ≤ 1000000) (hf : ls.flatten.length ≤ 1000000) :
 Calls Tryd.prog 35 #[arr8 key, strOf tb, lv] w fun e w' => e = .returned (arr8 (mark key (tb ++ ls.flatten))) ∧ Below w.heap.size w w' := by
 have Hkl := Lib.hid hk
 have Htb := Lib.hid htb
 have Hn := Lib.hid hn
 have Hm := Lib.hid hm
 have Hf := Lib.hid hf
 obtain ⟨A, c, rfl, _, _⟩ := id hb
 obtain ⟨lv, hlv⟩ : ∃ lv, Value.slice A ls.length c = lv := ⟨_, rfl⟩
 rw [hlv] at hb ⊢
 obtain ⟨M, hM⟩ : ∃ M, Sha.mac key (tb ++ ls.flatten) = M := ⟨_, rfl⟩
 have hMl : M.length = 32 := by rw [← hM]; exact Sha.sum_length _
 obtain ⟨N16, hN⟩ : ∃ N, mark key (tb ++ ls.flatten) = N := ⟨_, rfl⟩
 have hNe : M.take 16 = N16 := by rw [← hM, ← hN]; rfl
 have HNl := Lib.hid (show (N16.map bv).length = 16 by rw [List.length_map, ← hN]; exact mark_length _ _)
 have HM := Lib.hid hM
 have HMl := Lib.hid (show (M.map bv).length = 32 by rw [List.length_map]; exact hMl)
 have HN := Lib.hid hNe
 rw [hN]
 have Hb := Lib.hid hb
 have Ht := Lib.hid ht
 obtain ⟨g0, hg0⟩ : ∃ g, w.heap.size = g := ⟨_, rfl⟩
 have Hg0 := Lib.hid hg0
 clear hk htb hn hm hf hlv hM hMl hN hNe hb ht
 unfold arr8
 go_enter Tryd.func35, Tryd.ntmps35
 go_wp2_with fail
 refine code_name fun W0 hW0 => ?_
 have HK := Lib.hid (show Row W0 g0 (key.map bv) 24 from hg0 ▸ hW0 ▸ (Row.new rfl rfl).alloc _)
 have HO := Lib.hid (show Row W0 (g0 + 1) ((List.replicate 16 (0 : UInt8)).map bv) 38 from hg0 ▸ hW0 ▸ Row.new (by simp) rfl)
 have HB0 := Lib.hid (show Below g0 w W0 from hg0 ▸ hW0 ▸ ((Below.refl _ w).alloc (Nat.le_refl _) _).alloc (by simp) _)
 have HL := Lib.hid ((Hb.out.below (hg0.symm ▸ HB0.out)).more' HB0.out.size)
 have HT := Lib.hid (Ht.out.below (hg0.symm ▸ HB0.out) Ht.out.1)
 obtain ⟨L0, hL0⟩ : ∃ L, W0.heap.size = L := ⟨_, rfl⟩
 have HL0 := Lib.hid hL0
 try rw [hg0]
 clear hW0 hL0 hg0
 refine Tail.marksAt Pol.mixed 8 Grew [By.is (.slice (some ⟨g0, 0, none⟩) 32 32),
  By.is (strOf tb),
  bsM tb,
  fullM [tb],
  By.is lv,
  bssM ([tb] ++ ls),
  By.is (arr8 M),
  newM L0]
  (Ev.masks _ []) (Nat.zero_lt_succ _) (by kernel_rfl) (by kernel_rfl) rfl Grew.refl Grew.trans ⟨?_, ?_, ?_, ?_, ?_, ?_, ?_, ?_, trivial⟩ ?_
 · intro a w ht hs hg
   have h3 := By.same_get hs 3 (by decide) (by kernel_rfl)
   refine By.yes rfl ?_
   clear hs hg
   go_simp
   exact ⟨_, rfl, Grew.refl _, rfl⟩
 · intro a w ht hs hg
   have h1 := By.same_get hs 1 (by decide) (by kernel_rfl)
   refine By.yes rfl ?_
   clear hs hg
   go_simp
   exact ⟨_, rfl, Grew.refl _, rfl⟩
 · intro a w ht hs hg
   have h9 : a.tmps.getD 9 undef = _ := By.given_get hg 1 rfl rfl (by kernel_rfl)
   refine By.yes rfl ?_
   clear hs hg
   obtain ⟨v, W, hr, hv, hb⟩ := run_bytes w tb
   refine wp_conv _ _ (.tmp 9) rfl h9 hr ?_
   exact ⟨_, rfl, hb, hv⟩
 · intro a w ht hs hg
   have h10 := By.given_get hg 2 rfl rfl (by kernel_rfl)
   refine By.yes rfl ?_
   obtain ⟨v10, hv10⟩ : ∃ v, a.tmps.getD 10 undef = v := ⟨_, rfl⟩
   replace h10 := (congrArg (fun v => ((bsM tb)).on v w) hv10).mp h10
   clear hs hg
   refine wp_list1 (.tmp 10) rfl hv10 h10 ?_
   intro v' w' h hb
   exact ⟨_, rfl, hb, h⟩
 · intro a w ht hs hg
   have h2 := By.same_get hs 2 (by decide) (by kernel_rfl)
   refine By.yes rfl ?_
   clear hs hg
   go_simp
   exact ⟨_, rfl, Grew.refl _, rfl⟩
 · intro a w ht hs hg
   have h11 := By.given_get hg 3 rfl rfl (by kernel_rfl)
   have h12 : a.tmps.getD 12 undef = _ := By.given_get hg 4 rfl rfl (by kernel_rfl)
   refine By.yes rfl ?_
   obtain ⟨v11, hv11⟩ : ∃ v, a.tmps.getD 11 undef = v := ⟨_, rfl⟩
   replace h11 := (congrArg (fun v => ((fullM [tb])).on v w) hv11).mp h11
   clear hs hg
   refine wp_app_l (.tmp 11) (.tmp 12) rfl hv11 h12 h11 ((HL.out.below (grew_below ht)).more' ht.size) (by have := Hn.out; simp; omega) ?_
   intro v' w' h hb
   exact ⟨_, rfl, hb, h⟩
 · intro a w ht hs hg
   have h8 : a.tmps.getD 8 undef = _ := By.given_get hg 0 rfl rfl (by kernel_rfl)
   have h13 := By.given_get hg 5 rfl rfl (by kernel_rfl)
   refine By.yes rfl ?_
   obtain ⟨v13, hv13⟩ : ∃ v, a.tmps.getD 13 undef = v := ⟨_, rfl⟩
   replace h13 := (congrArg (fun v => ((bssM ([tb] ++ ls))).on v w) hv13).mp h13
   clear hs hg
   have HLw := Lib.hid h13
   have HTw := Lib.hid (HT.out.below (grew_below ht) HT.out.1)
   have HKw := Lib.hid (show Bs w w.heap.size (.slice (some ⟨g0, 0, none⟩) 32 32) key by
    have h1 := (Row.below (w := W0.drew) HK.out ht HK.out.lt).bs (B := w.heap.size) (Nat.lt_of_lt_of_le HK.out.lt ht.size)
    rwa [Hkl.out] at h1)
   clear h13 ht
   go_simp
   refine (Mac_any _ _ key ([tb] ++ ls) w HTw.out HKw.out (by rw [Hkl.out]; omega) HLw.out (by have := Hn.out; simp; omega) (by
    intro l hl
    rcases List.mem_append.1 hl with h | h
    · rw [List.mem_singleton] at h; subst h; have := Htb.out; omega
    · have := Hm.out l h; omega) (by rw [List.flatten_append, List.length_append]; simp only [List.flatten_cons, List.flatten_nil, List.append_nil]; have := Htb.out; have := Hf.out; omega)).mono ?_
   rintro e w8 ⟨rfl, hb8⟩
   exact ⟨_, rfl, hb8, congrArg arr8 (by rw [show ([tb] ++ ls).flatten = tb ++ ls.flatten by simp]; exact HM.out)⟩
 · intro a w ht hs hg
   refine By.yes rfl ?_
   clear hs hg
   have hlo : L0 ≤ w.heap.size := by rw [← HL0.out]; exact ht.size
   go_simp
   exact ⟨_, rfl, (Below.refl _ w).alloc (Nat.le_refl _) _, _, rfl, hlo, Row.new rfl rfl⟩
 refine By.ends_is (By.ends_is (By.ends_skip fun v10 => (By.ends_skip fun v11 => (By.ends_is (By.ends_skip fun v13 => (By.ends_is (By.ends_any fun v7 => (By.ends_nil fun w9 hw9 => ?_))))))))
 simp only [Act.put, List.setIfInBounds_toArray, List.set_cons_succ, List.set_cons_zero]
 simp only [List.drop_succ_cons, List.drop_zero]
 obtain ⟨hw, g7, rfl, hg7, h7⟩ := hw9
 have hbw := grew_below hw
 have HB9 := Lib.hid (nextB HB0.out (Nat.le_of_eq Hg0.out.symm) hbw)
 have HO9 := Lib.hid (HO.out.below hbw HO.out.lt)
 have H7 := Lib.hid h7
 have hlt7 : g0 + 1 < g7 := by have h1 := HL0.out; have h2 := HO.out.lt; omega
 clear h7 hw hbw
 refine wpList_storeRow (g := g7) rfl 24 (.tmp 7) (.tmp 14) rfl rfl rfl (cs := M.map bv) H7.out (by kernel_rfl) HMl.out (by simp [z32]) (hbytes_one M) ?_
 refine wpList_name fun V hV => ?_
 have hr7 : Row V g7 (M.map bv) 24 := hV ▸ H7.out.setRow (M.map bv)
 have HBV := Lib.hid (show Below g0 w V from hV ▸ below_setRow HB9.out (by omega) _)
 have HOV := Lib.hid (show Row V (g0 + 1) ((List.replicate 16 (0 : UInt8)).map bv) 38 from hV ▸ HO9.out.setOther _ _ (by omega))
 have hld : (loadVar 38 ⟨g7, 0, none⟩).run Tryd.prog V = .ok (.agg (N16.map bv).toArray) V := by
  rw [Pol.run_loadVar_sub (off := 0) (n := 16) V hr7 Tryd.underlying38 rfl (by kernel_rfl) (by rw [HMl.out]; omega), List.drop_zero, ← List.map_take, HN.out]
 have HLd := Lib.hid hld
 have harr : (Instr.arrayAt 38 (.slice (some ⟨g7, 0, none⟩) 16 32)).run Tryd.prog V = .ok (.pointer (some ⟨g7, 0, none⟩)) V := by simp [Instr.arrayAt, run_underlying Tryd.underlying38]
 clear hV hr7 hld hlt7 hg7
 go_wp2_with (first
  | (refine wpList_ld 38 rfl rfl HLd.out rfl ?_)
  | (show wpList _ _ _ (⟨none, Op.store 38 _ _, _, _, _, _⟩ :: _) _ _; refine wpList_storeRow (g := g0 + 1) rfl 38 _ _ rfl rfl rfl (cs := N16.map bv) HOV.out (by kernel_rfl) HNl.out (by simp) (hbytes_one N16) ?_)
  | fail)
 refine bodyPost_ret (results_row rfl _ rfl (HOV.out.setRow (N16.map bv)) Tryd.underlying38 rfl (by kernel_rfl) HNl.out) rfl ?_
 exact ⟨rfl, by rw [Hg0.out]; exact below_setRow HBV.out (Nat.le_succ _) _⟩
end Go.Proofs.YtbdpnpabpcidkaaDoor.Shk
namespace Go.Proofs.YtbdpnpabpcidkaaDoor.Shk
open Go.RowKit
open Pkt (code_name wpList_name wpList_ld)
theorem splice_whole {α : Type} (l p : List α) (h : l.length = p.length) : splice l 0 p = p := by
 simp [splice, h]
theorem kept_below {w w1 : World} {K : Nat → Prop} {lo : Nat} (h : Ev.Keep ⟨w, K⟩ w1) (hK : ∀ k, K k → lo ≤ k) (hlo : lo ≤ w.heap.size) : Below lo w w1 :=
 ⟨h.os, h.tape, h.output, h.size, fun k hk => h.block k (by
  rintro (e | e)
  · exact absurd (Nat.lt_of_lt_of_le hk (Nat.le_trans hlo e)) (Nat.lt_irrefl _)
  · exact absurd (Nat.lt_of_lt_of_le hk (hK k e)) (Nat.lt_irrefl _))⟩
set_option maxRecDepth 100000 in
set_option maxHeartbeats 2000000 in
theorem RMark_any (key tb : List UInt8) (ls : List (List UInt8)) (lv : Value) (hk : key.length = 32) (htb : tb.length ≤ 1000) (w : World) (ht : Tab w) (hb : Bss w w.heap.size lv ls) (hn : ls.length ≤ 100) (hf : ls.flatten.length ≤ 100000) :
 Calls Tryd.prog 36 #[arr8 key, strOf tb, lv] w fun e w' => e = .returned (arr8 (mark key (tb ++ ls.flatten))) ∧ Below w.heap.size w w' := by
 have Hkl := Lib.hid hk
 have Htb := Lib.hid htb
 have Hn := Lib.hid hn
 have Hf := Lib.hid hf
 obtain ⟨A, c, rfl, hlc, hcs⟩ := id hb
 have Hcs := Lib.hid hcs
 have Hb := Lib.hid hb
 have Ht := Lib.hid ht
 obtain ⟨M, hM⟩ : ∃ M, Sha.mac key (tb ++ ls.flatten) = M := ⟨_, rfl⟩
 have hMl : M.length = 32 := by rw [← hM]; exact Sha.sum_length _
 obtain ⟨N16, hN⟩ : ∃ N, mark key (tb ++ ls.flatten) = N := ⟨_, rfl⟩
 have hNe : M.take 16 = N16 := by rw [← hM, ← hN]; rfl
 have HNl := Lib.hid (show N16.length = 16 by rw [← hN]; exact mark_length _ _)
 have HM := Lib.hid hM
 have HMl := Lib.hid (show (M.map bv).length = 32 by rw [List.length_map]; exact hMl)
 have HN := Lib.hid hNe
 rw [hN]
 clear hM hMl hN hNe
 obtain ⟨g0, hg0⟩ : ∃ g, w.heap.size = g := ⟨_, rfl⟩
 have Hg0 := Lib.hid hg0
 clear hk htb hn hf hb ht hcs hlc
 unfold arr8
 go_enter Tryd.func36, Tryd.ntmps36
 go_wp2_with (first
  | (refine wpList_name fun W0 hW0 => ?_
     have HK := Lib.hid (show Row W0 g0 (key.map bv) 24 from Hg0.out ▸ hW0 ▸ (Row.new rfl rfl).alloc _)
     have HO := Lib.hid (show Row W0 (g0 + 1) ((List.replicate 16 (0 : UInt8)).map bv) 38 from Hg0.out ▸ hW0 ▸ Row.new (by simp) rfl)
     have HB0 := Lib.hid (show Below g0 w W0 from Hg0.out ▸ hW0 ▸ ((Below.refl _ w).alloc (Nat.le_refl _) _).alloc (by simp) _)
     clear hW0
     refine wpList_conv_own W0 rfl (.tmp 11) rfl (l := tb) rfl ?_
     intro v1 w1 ho1 hb1
     refine stop ?_)
  | fail)
 unfold Stop
 have Ho1 := Lib.hid ho1
 have Hb1 := Lib.hid hb1
 clear ho1 hb1
 go_wp2_with fail
 go_loopw [7, 8] (fun vo vi wr => ∃ i : Nat, i ≤ ls.length ∧ vi = .int .i64 (i : Int) ∧ OwnC wr W0.heap.size vo (tb ++ (ls.take i).flatten) ∧ Below W0.heap.size W0 wr) (fun _ vi _ => ls.length - (intOf vi).toNat)
 case atStart => exact ⟨0, Nat.zero_le _, rfl, by rw [List.take_zero, List.flatten_nil, List.append_nil]; exact Ho1.out, Hb1.out⟩
 case round =>
  obtain ⟨i, hi, rfl, ho, hb⟩ := hrel
  have Hi := Lib.hid hi
  have HOi := Lib.hid ho
  have HB := Lib.hid hb
  have hib : (i : Int) ≤ 100 := by have := Hn.out; omega
  clear hi ho hb
  by_cases h1 : i < ls.length
  · have h1' : (i : Int) < (ls.length : Int) := by omega
    obtain ⟨b, off, rfl, hlt, hcell⟩ := Hcs.out (by rintro rfl; simp at h1)
    obtain ⟨x, hx⟩ : ∃ x, ls[i]? = some x := ⟨_, List.getElem?_eq_getElem h1⟩
    obtain ⟨u, hu, hbu⟩ := hcell i x hx
    have HWB := Lib.hid (show Below w.heap.size w wr from Hg0.out ▸ HB0.out.trans (HB.out.mono (by have := HB0.out.size; have := Hg0.out; omega)))
    have hcw := (HWB.out.cell (p := ⟨b, off + i, none⟩) hlt).trans hu
    have Hbu := Lib.hid ((hbu.below HWB.out).more HWB.out.size)
    have Hx := Lib.hid (Sha.take_flat hx)
    have Hxl := Lib.hid (show (ls.take i).flatten.length + x.length ≤ 100000 by
     have h2 := congrArg List.length (Sha.take_flat hx)
     have h3 : (ls.take (i + 1)).flatten.length ≤ ls.flatten.length := by
      conv => rhs; rw [← List.take_append_drop (i + 1) ls, List.flatten_append, List.length_append]
      omega
     rw [List.length_append] at h2
     have := Hf.out
     omega)
    clear hcell hlt hu hbu hx
    go_wp2_with (first
     | (at_builtin
        refine wpList_app_conv _ rfl (.tmp 19) (.tmp 23) rfl rfl HOi.out rfl Hbu.out (by have := Hxl.out; have := Htb.out; rw [List.length_append]; omega) HB.out.size ?_
        intro v2 w2 ho2 hb2
        refine stop ?_)
     | fail)
    unfold Stop
    have Ho2 := Lib.hid ho2
    have Hb2 := Lib.hid (HB.out.trans hb2)
    clear ho2 hb2
    go_wp2_with fail
    go_roundw
    case rel => exact ⟨i + 1, h1, by go_num, by rw [Hx.out, ← List.append_assoc]; exact Ho2.out, Hb2.out⟩
    case measure => simp [intOf]; omega
  · have h1' : ¬ (i : Int) < (ls.length : Int) := by omega
    obtain rfl : i = ls.length := by have := Hi.out; omega
    have ho1 := HOi.out
    rw [List.take_length] at ho1
    obtain ⟨L, hL⟩ : ∃ L, tb ++ ls.flatten = L := ⟨_, rfl⟩
    rw [hL] at ho1
    have HML := Lib.hid (show Sha.mac key L = M by rw [← hL]; exact HM.out)
    have HLl := Lib.hid (show L.length ≤ 200000 by rw [← hL, List.length_append]; have := Hf.out; have := Htb.out; omega)
    obtain ⟨A2, c2, rfl⟩ := ho1.shape
    have HOl := Lib.hid ho1
    clear ho1 hL
    go_wp2_with fail
    have hss := bss_new (n := 1) (ls := [L]) (vs := [.slice A2 L.length c2]) (w := wr) rfl rfl (.one HOl.out.bs)
    obtain ⟨W1, hW1⟩ : ∃ W1, wr.alloc (.cells #[.slice A2 L.length c2] 23) = W1 := ⟨_, rfl⟩
    have Hss := Lib.hid (show Bss W1 W1.heap.size (.slice (some ⟨wr.heap.size, 0, none⟩) 1 1) [L] from hW1 ▸ hss)
    have HB1 := Lib.hid (show Below W0.heap.size W0 W1 from hW1 ▸ HB.out.alloc HB.out.size _)
    have HK1 := Lib.hid (HK.out.below HB1.out HK.out.lt)
    have HO1 := Lib.hid (HO.out.below HB1.out HO.out.lt)
    have HBw := Lib.hid (nextB HB0.out (Nat.le_of_eq Hg0.out.symm) HB1.out)
    have HT1 := Lib.hid (Ht.out.below (Hg0.out.symm ▸ HBw.out) Ht.out.1)
    have HKb := Lib.hid (show Bs W1 W1.heap.size (.slice (some ⟨g0, 0, none⟩) 32 32) key by
     have h1 := HK1.out.bs (B := W1.heap.size) HK1.out.lt
     rwa [Hkl.out] at h1)
    refine calls_in hW1 ?_
    clear hW1 hss
    refine (show Calls _ _ _ _ _ from RMac_any _ _ key [L] W1 HT1.out HKb.out (by rw [Hkl.out]; omega) Hss.out (by simp) (by have := HLl.out; simp; omega)).mono ?_
    rintro e w2 ⟨rfl, hb2⟩
    have HB2 := Lib.hid (HBw.out.trans (hb2.mono (Nat.le_of_lt (Nat.lt_of_lt_of_le (by have := HO1.out.lt; omega) (Nat.le_refl _)))))
    have HO2 := Lib.hid (HO1.out.below hb2 HO1.out.lt)
    clear hb2
    rw [show Sha.mac key [L].flatten = M by rw [show [L].flatten = L by simp]; exact HML.out]
    unfold arr8
    obtain ⟨g2, hg2⟩ : ∃ g, w2.heap.size = g := ⟨_, rfl⟩
    have Hg2 := Lib.hid hg2
    clear hg2
    go_wp2_with (first
     | (show wpList _ _ _ (⟨none, Op.store 24 _ _, _, _, _, _⟩ :: _) _ _; refine wpList_storeRow (g := w2.heap.size) rfl 24 _ _ rfl rfl rfl (cs := M.map bv) (old := (List.replicate 32 (0 : UInt8)).map bv) (Row.new rfl rfl) (by kernel_rfl) HMl.out (by simp) (hbytes_one M) ?_)
     | fail)
    refine code_name fun V hV => ?_
    have HR9 := Lib.hid (show Row V w2.heap.size (M.map bv) 24 from hV ▸ ((Row.new (cs := (List.replicate 32 (0 : UInt8)).map bv) rfl rfl).setRow (M.map bv)).alloc _)
    have HR10 := Lib.hid (show Row V (w2.heap.size + 1) ((List.replicate 16 (0 : UInt8)).map bv) 38 from hV ▸ Row.new (by simp [World.setRow]) rfl)
    have HBV := Lib.hid (show Below w2.heap.size w2 V from hV ▸ (below_setRow ((Below.refl w2.heap.size w2).alloc (Nat.le_refl _) (.cells ((List.replicate 32 (0 : UInt8)).map bv).toArray 24)) (Nat.le_refl _) (M.map bv).toArray).alloc (by simp [World.setRow]) _)
    clear hV
    have HOV := Lib.hid (HO2.out.below HBV.out HO2.out.lt)
    have HBv := Lib.hid (nextB HB2.out (by have := HB0.out.size; have := Hg0.out; omega) HBV.out)
    obtain ⟨g9, hg9⟩ : ∃ g, w2.heap.size = g := ⟨_, rfl⟩
    have Hlt := Lib.hid (show g0 + 1 < g9 by have := HO2.out.lt; omega)
    rw [hg9] at HR9 HR10 ⊢
    clear hg9
    have Hsrc := Lib.hid (show ∀ j v, (N16.map bv)[j]? = some v → V.drew.cell? ((⟨g9, 0, none⟩ : Addr).add j) = some v from fun j v hj => by
     rw [show (⟨g9, 0, none⟩ : Addr).add j = ⟨g9, 0 + j, none⟩ by unfold Addr.add; split <;> simp_all]
     rw [Nat.zero_add]
     refine Row.cell (w := V.drew) HR9.out ?_
     rw [← HN.out, List.map_take, List.getElem?_take] at hj
     split at hj
     · exact hj
     · cases hj)
    go_still_tail 2, Pol.mixed
    change wpList _ _ _ _ _ V.drew
    refine wpList_copy_keep rfl (.tmp 29) (.tmp 30) 23 23 rfl 5 (by kernel_rfl) (by kernel_rfl) rfl rfl (w := V.drew) HR10.out (N16.map bv) (by rw [List.length_map, HNl.out]; rfl) Hsrc.out (by rw [List.length_map, HNl.out]; simp) (hbytes_one _) ?_
    intro w4 hc4 hk4
    rw [splice_whole _ _ (by simp only [List.length_map, List.length_replicate, HNl.out])] at hc4
    have HR11 := Lib.hid hc4
    have HO4 := Lib.hid (Row.keep (w := V.drew) HOV.out hk4 (by have := Hlt.out; omega))
    have HB4 := Lib.hid (HBv.out.drew.trans (kept_below hk4 (lo := g0) (by rintro k rfl; have := Hlt.out; omega) (by have := HOV.out.lt; show g0 ≤ V.heap.size; omega)))
    have HNm := Lib.hid (show (N16.map bv).length = 16 by rw [List.length_map]; exact HNl.out)
    have hld : (loadVar 38 ⟨g9 + 1, 0, none⟩).run Tryd.prog w4 = .ok (.agg (N16.map bv).toArray) w4 := by
     rw [Pol.run_loadVar_sub (off := 0) (n := 16) w4 HR11.out Tryd.underlying38 rfl (by kernel_rfl) (by rw [HNm.out]; omega), List.drop_zero, List.take_of_length_le (by rw [HNm.out]; omega)]
    have HLd := Lib.hid hld
    clear hc4 hk4 hld
    simp only [Act.put, List.setIfInBounds_toArray, List.set_cons_succ, List.set_cons_zero]
    go_wp2_with (first
     | (refine wpList_ld 38 rfl rfl HLd.out rfl ?_)
     | (show wpList _ _ _ (⟨none, Op.store 38 _ _, _, _, _, _⟩ :: _) _ _; refine wpList_storeRow (g := g0 + 1) rfl 38 _ _ rfl rfl rfl (cs := N16.map bv) HO4.out (by kernel_rfl) HNm.out (by simp) (hbytes_one N16) ?_)
     | fail)
    refine bodyPost_ret (results_row rfl _ rfl (HO4.out.setRow (N16.map bv)) Tryd.underlying38 rfl (by kernel_rfl) HNm.out) rfl ?_
    exact ⟨rfl, by rw [Hg0.out]; exact below_setRow HB4.out (Nat.le_succ _) _⟩
end Go.Proofs.YtbdpnpabpcidkaaDoor.Shk
