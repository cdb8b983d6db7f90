/- Texts that the proofs share: ShkBytes, ShkMark. -/
import Derived.Test.YtmfpjdbgdmmjkaaDoorQ27
import Derived.Test.YtmfpjdbgdmmjkaaDoorQ33
namespace Go.Proofs.YtmfpjdbgdmmjkaaDoor.Shk
open Go.RowKit
open Pkt (Pk code_name c_peer c_ses c_epo l_all)
/-- A peer's number, as 32 bits. -/
def p32 (z : Int) : Nat := (z % 4294967296).toNat
theorem p32_wrap (z : Int) : IntKind.u32.wrap z = ((p32 z : Nat) : Int) := by
  rw [IntKind.wrap_u32']
  unfold p32
  omega
/-- What a hello's mark is of. -/
def helloL (p : Pk) : List (List UInt8) := [Oct.bytesBE 4 (p32 p.peer), p.rnd]
theorem bs_rnd {w : World} {g : Nat} {p : Pk} (h : Row w g p.cells 40) (ho : p.Ok) : Bs w w.heap.size (.slice (some ⟨g, 5, none⟩) 16 16) p.rnd :=
  ⟨_, 16, by rw [ho.r], by rw [ho.r]; exact Nat.le_refl _, fun _ => ⟨g, 5, rfl, h.lt, fun i u hu => h.cell (by
    have hi := (List.getElem?_eq_some_iff.1 hu).1
    rw [Nat.add_comm]
    show (p.rnd.map bv ++ (p.mrk.map bv ++ [p.bo]))[i]? = _
    rw [List.getElem?_append_left (by rw [List.length_map]; exact hi), List.getElem?_map, hu]
    rfl)⟩⟩
set_option maxRecDepth 100000 in
set_option maxHeartbeats 2000000 in
theorem helloBytes_any (p : Pk) (ho : p.Ok) (w : World) : Calls Tryd.prog 62 #[p.val] w fun e w' => ∃ v, e = .returned v ∧ FullL w' v (helloL p) ∧ Below w.heap.size w w' := by
  have Ho := Lib.hid ho
  clear ho
  unfold Pk.val
  go_enter Tryd.func62, Tryd.ntmps62
  go_wp2_with fail
  refine code_name fun W0 hW0 => ?_
  have HP := Lib.hid (show Row W0 w.heap.size p.cells 40 from hW0 ▸ Row.new rfl rfl)
  have HB0 := Lib.hid (show Below w.heap.size w W0 from hW0 ▸ (Below.refl _ w).alloc (Nat.le_refl _) _)
  clear hW0
  refine By.marks Pol.mixed Grew [By.is (.pointer (some ⟨w.heap.size, 1, none⟩)),
    By.is (.int .i64 p.peer),
    By.is (.int .u32 ((p32 p.peer : Nat) : Int)),
    bsM (Oct.bytesBE 4 (p32 p.peer)),
    By.is (.pointer (some ⟨w.heap.size, 5, none⟩)),
    By.is (.slice (some ⟨w.heap.size, 5, none⟩) 16 16),
    fullM (helloL p),
    fullM (helloL p)]
    (Ev.masks _ []) (by kernel_rfl) rfl Grew.refl Grew.trans ⟨?_, ?_, ?_, ?_, ?_, ?_, ?_, ?_, trivial⟩ ?_
  · intro a w ht hs hg -- 3
    have h1 := By.same_get hs 1 (by decide) (by kernel_rfl)
    refine By.yes rfl ?_
    clear hs hg
    go_simp
    exact ⟨_, rfl, Grew.refl _, rfl⟩
  · intro a w ht hs hg -- 4
    have h3 : a.tmps.getD 3 undef = _ := By.given_get hg 0 rfl rfl (by kernel_rfl)
    refine By.yes rfl ?_
    clear hs hg
    have hc := c_peer (Row.below (w := W0.drew) HP.out ht HP.out.lt)
    clear ht
    go_simp
    exact ⟨_, rfl, Grew.refl _, rfl⟩
  · intro a w ht hs hg -- 5
    have h4 : a.tmps.getD 4 undef = _ := By.given_get hg 1 rfl rfl (by kernel_rfl)
    refine By.yes rfl ?_
    clear hs hg
    go_simp
    exact ⟨_, rfl, Grew.refl _, congrArg (Value.int .u32) (p32_wrap p.peer)⟩
  · intro a w ht hs hg -- 6
    have h5 : a.tmps.getD 5 undef = _ := By.given_get hg 2 rfl rfl (by kernel_rfl)
    refine By.yes rfl ?_
    clear hs hg
    clear ht
    go_simp
    refine (num4_any (p32 p.peer) w).mono ?_
    rintro e w' ⟨v, rfl, hv, hb⟩
    exact ⟨_, rfl, hb, hv⟩
  · intro a w ht hs hg -- 7
    have h1 := By.same_get hs 1 (by decide) (by kernel_rfl)
    refine By.yes rfl ?_
    clear hs hg
    go_simp
    exact ⟨_, rfl, Grew.refl _, rfl⟩
  · intro a w ht hs hg -- 8
    have h7 : a.tmps.getD 7 undef = _ := By.given_get hg 4 rfl rfl (by kernel_rfl)
    refine By.yes rfl ?_
    clear hs hg
    go_simp
    exact ⟨_, rfl, Grew.refl _, rfl⟩
  · intro a w ht hs hg -- 9
    have h6 := By.given_get hg 3 rfl rfl (by kernel_rfl)
    have h8 : a.tmps.getD 8 undef = _ := By.given_get hg 5 rfl rfl (by kernel_rfl)
    refine By.yes rfl ?_
    obtain ⟨v6, hv6⟩ : ∃ v, a.tmps.getD 6 undef = v := ⟨_, rfl⟩
    replace h6 := (congrArg (fun v => ((bsM (Oct.bytesBE 4 (p32 p.peer)))).on v w) hv6).mp h6
    clear hs hg
    have h2 := bs_rnd (Row.below (w := W0.drew) HP.out ht HP.out.lt) Ho.out
    refine wp_list2 (.tmp 6) (.tmp 8) rfl hv6 h6 h8 h2 ?_
    intro v' w' h hb
    exact ⟨_, rfl, hb, h⟩
  · intro a w ht hs hg -- 2
    have h9 := By.given_get hg 6 rfl rfl (by kernel_rfl)
    refine By.yes rfl ?_
    obtain ⟨v9, hv9⟩ : ∃ v, a.tmps.getD 9 undef = v := ⟨_, rfl⟩
    replace h9 := (congrArg (fun v => ((fullM (helloL p))).on v w) hv9).mp h9
    clear hs hg
    have Hx := Lib.hid h9
    clear h9
    go_simp
    exact ⟨_, rfl, Grew.refl _, Hx.out⟩
  refine By.ends_is (By.ends_is (By.ends_is (By.ends_skip fun v6 => (By.ends_is (By.ends_is (By.ends_skip fun v9 => (By.ends_any fun v2 => (By.ends_nil fun w9 hw9 => ?_))))))))
  simp only [Act.put, List.setIfInBounds_toArray, List.set_cons_succ, List.set_cons_zero]
  obtain ⟨hw, h2⟩ := hw9
  have HB9 := Lib.hid (nextB HB0.out (Nat.le_refl _) (grew_below hw))
  have HX := Lib.hid h2
  clear h2 hw
  go_wp2
  go_ret
  exact ⟨_, rfl, HX.out, HB9.out⟩
/-- What an answer's mark is of. -/
def answerL (p q : Pk) : List (List UInt8) := helloL p ++ [Oct.bytesBE 8 q.ses, Oct.bytesBE 4 q.epo, q.rnd]
set_option maxRecDepth 100000 in
set_option maxHeartbeats 2000000 in
theorem answerBytes_any (p q : Pk) (ho : p.Ok) (hq : q.Ok) (w : World) : Calls Tryd.prog 63 #[p.val, q.val] w fun e w' => ∃ v, e = .returned v ∧ Bss w' w'.heap.size v (answerL p q) ∧ Below w.heap.size w w' := by
  have Ho := Lib.hid ho
  have Hq := Lib.hid hq
  clear ho hq
  unfold Pk.val
  go_enter Tryd.func63, Tryd.ntmps63
  go_wp2_with fail
  refine code_name fun W0 hW0 => ?_
  have HP := Lib.hid (show Row W0 w.heap.size p.cells 40 from hW0 ▸ (Row.new rfl rfl).alloc _)
  have HQ := Lib.hid (show Row W0 (w.heap.size + 1) q.cells 40 from hW0 ▸ Row.new (by simp) rfl)
  have HB0 := Lib.hid (show Below w.heap.size w W0 from hW0 ▸ ((Below.refl _ w).alloc (Nat.le_refl _) _).alloc (by simp) _)
  clear hW0
  refine By.marks Pol.mixed Grew [By.is p.val,
    fullM (helloL p),
    By.is (.pointer (some ⟨(w.heap.size + 1), 2, none⟩)),
    By.is (.int .u64 (q.ses : Int)),
    bsM (Oct.bytesBE 8 q.ses),
    By.is (.pointer (some ⟨(w.heap.size + 1), 3, none⟩)),
    By.is (.int .u32 (q.epo : Int)),
    bsM (Oct.bytesBE 4 q.epo),
    By.is (.pointer (some ⟨(w.heap.size + 1), 5, none⟩)),
    By.is (.slice (some ⟨(w.heap.size + 1), 5, none⟩) 16 16),
    fullM [Oct.bytesBE 8 q.ses, Oct.bytesBE 4 q.epo, q.rnd],
    bssM (answerL p q),
    bssM (answerL p q)]
    (Ev.masks _ []) (by kernel_rfl) rfl Grew.refl Grew.trans ⟨?_, ?_, ?_, ?_, ?_, ?_, ?_, ?_, ?_, ?_, ?_, ?_, ?_, trivial⟩ ?_
  · intro a w ht hs hg -- 5
    have h2 := By.same_get hs 2 (by decide) (by kernel_rfl)
    refine By.yes rfl ?_
    clear hs hg
    have hr := l_all (Row.below (w := W0.drew) HP.out ht HP.out.lt) Ho.out
    refine wp_ld 40 _ rfl h2 hr ?_
    exact ⟨_, rfl, Grew.refl _, rfl⟩
  · intro a w ht hs hg -- 6
    have h5 : a.tmps.getD 5 undef = _ := By.given_get hg 0 rfl rfl (by kernel_rfl)
    refine By.yes rfl ?_
    clear hs hg
    clear ht
    unfold Pk.val at h5
    go_simp
    refine (helloBytes_any p Ho.out w).mono ?_
    rintro e w' ⟨v, rfl, hv, hb⟩
    exact ⟨_, rfl, hb, hv⟩
  · intro a w ht hs hg -- 7
    have h3 := By.same_get hs 3 (by decide) (by kernel_rfl)
    refine By.yes rfl ?_
    clear hs hg
    go_simp
    exact ⟨_, rfl, Grew.refl _, rfl⟩
  · intro a w ht hs hg -- 8
    have h7 : a.tmps.getD 7 undef = _ := By.given_get hg 2 rfl rfl (by kernel_rfl)
    refine By.yes rfl ?_
    clear hs hg
    have hc := c_ses (Row.below (w := W0.drew) HQ.out ht HQ.out.lt)
    clear ht
    go_simp
    exact ⟨_, rfl, Grew.refl _, rfl⟩
  · intro a w ht hs hg -- 9
    have h8 : a.tmps.getD 8 undef = _ := By.given_get hg 3 rfl rfl (by kernel_rfl)
    refine By.yes rfl ?_
    clear hs hg
    clear ht
    go_simp
    refine (num8_any q.ses w).mono ?_
    rintro e w' ⟨v, rfl, hv, hb⟩
    exact ⟨_, rfl, hb, hv⟩
  · intro a w ht hs hg -- 10
    have h3 := By.same_get hs 3 (by decide) (by kernel_rfl)
    refine By.yes rfl ?_
    clear hs hg
    go_simp
    exact ⟨_, rfl, Grew.refl _, rfl⟩
  · intro a w ht hs hg -- 11
    have h10 : a.tmps.getD 10 undef = _ := By.given_get hg 5 rfl rfl (by kernel_rfl)
    refine By.yes rfl ?_
    clear hs hg
    have hc := c_epo (Row.below (w := W0.drew) HQ.out ht HQ.out.lt)
    clear ht
    go_simp
    exact ⟨_, rfl, Grew.refl _, rfl⟩
  · intro a w ht hs hg -- 12
    have h11 : a.tmps.getD 11 undef = _ := By.given_get hg 6 rfl rfl (by kernel_rfl)
    refine By.yes rfl ?_
    clear hs hg
    clear ht
    go_simp
    refine (num4_any q.epo w).mono ?_
    rintro e w' ⟨v, rfl, hv, hb⟩
    exact ⟨_, rfl, hb, hv⟩
  · intro a w ht hs hg -- 13
    have h3 := By.same_get hs 3 (by decide) (by kernel_rfl)
    refine By.yes rfl ?_
    clear hs hg
    go_simp
    exact ⟨_, rfl, Grew.refl _, rfl⟩
  · intro a w ht hs hg -- 14
    have h13 : a.tmps.getD 13 undef = _ := By.given_get hg 8 rfl rfl (by kernel_rfl)
    refine By.yes rfl ?_
    clear hs hg
    go_simp
    exact ⟨_, rfl, Grew.refl _, rfl⟩
  · intro a w ht hs hg -- 15
    have h9 := By.given_get hg 4 rfl rfl (by kernel_rfl)
    have h12 := By.given_get hg 7 rfl rfl (by kernel_rfl)
    have h14 : a.tmps.getD 14 undef = _ := By.given_get hg 9 rfl rfl (by kernel_rfl)
    refine By.yes rfl ?_
    obtain ⟨v9, hv9⟩ : ∃ v, a.tmps.getD 9 undef = v := ⟨_, rfl⟩
    replace h9 := (congrArg (fun v => ((bsM (Oct.bytesBE 8 q.ses))).on v w) hv9).mp h9
    obtain ⟨v12, hv12⟩ : ∃ v, a.tmps.getD 12 undef = v := ⟨_, rfl⟩
    replace h12 := (congrArg (fun v => ((bsM (Oct.bytesBE 4 q.epo))).on v w) hv12).mp h12
    clear hs hg
    have h2 := bs_rnd (Row.below (w := W0.drew) HQ.out ht HQ.out.lt) Hq.out
    refine wp_list3 (.tmp 9) (.tmp 12) (.tmp 14) rfl hv9 h9 hv12 h12 h14 h2 ?_
    intro v' w' h hb
    exact ⟨_, rfl, hb, h⟩
  · intro a w ht hs hg -- 16
    have h6 := By.given_get hg 1 rfl rfl (by kernel_rfl)
    have h15 := By.given_get hg 10 rfl rfl (by kernel_rfl)
    refine By.yes rfl ?_
    obtain ⟨v6, hv6⟩ : ∃ v, a.tmps.getD 6 undef = v := ⟨_, rfl⟩
    replace h6 := (congrArg (fun v => ((fullM (helloL p))).on v w) hv6).mp h6
    obtain ⟨v15, hv15⟩ : ∃ v, a.tmps.getD 15 undef = v := ⟨_, rfl⟩
    replace h15 := (congrArg (fun v => ((fullM [Oct.bytesBE 8 q.ses, Oct.bytesBE 4 q.epo, q.rnd])).on v w) hv15).mp h15
    clear hs hg
    refine wp_app_l (.tmp 6) (.tmp 15) rfl hv6 hv15 h6 (FullL.bss h15) (by unfold helloL; simp) ?_
    intro v' w' h hb
    exact ⟨_, rfl, hb, h⟩
  · intro a w ht hs hg -- 4
    have h16 := By.given_get hg 11 rfl rfl (by kernel_rfl)
    refine By.yes rfl ?_
    obtain ⟨v16, hv16⟩ : ∃ v, a.tmps.getD 16 undef = v := ⟨_, rfl⟩
    replace h16 := (congrArg (fun v => ((bssM (answerL p q))).on v w) hv16).mp h16
    clear hs hg
    have Hx := Lib.hid h16
    clear h16
    go_simp
    exact ⟨_, rfl, Grew.refl _, Hx.out⟩
  refine By.ends_is (By.ends_skip fun v6 => (By.ends_is (By.ends_is (By.ends_skip fun v9 => (By.ends_is (By.ends_is (By.ends_skip fun v12 => (By.ends_is (By.ends_is (By.ends_skip fun v15 => (By.ends_skip fun v16 => (By.ends_any fun v4 => (By.ends_nil fun w9 hw9 => ?_)))))))))))))
  simp only [Act.put, List.setIfInBounds_toArray, List.set_cons_succ, List.set_cons_zero]
  obtain ⟨hw, h4⟩ := hw9
  have HB9 := Lib.hid (nextB HB0.out (Nat.le_refl _) (grew_below hw))
  have HX := Lib.hid h4
  clear h4 hw
  go_wp2
  go_ret
  exact ⟨_, rfl, HX.out, HB9.out⟩
end Go.Proofs.YtmfpjdbgdmmjkaaDoor.Shk
namespace Go.Proofs.YtmfpjdbgdmmjkaaDoor.Shk
open Go.RowKit
open Pkt (code_name wpList_name wpList_ld)
def mark (key b : List UInt8) : List UInt8 := (Sha.mac key b).take 16
theorem mark_length (key b : List UInt8) : (mark key b).length = 16 := by
  unfold mark
  rw [List.length_take, show (Sha.mac key b).length = 32 from Sha.sum_length _]
  rfl
def z32 : List Value := (List.replicate 32 (0 : UInt8)).map bv
def newM (lo : Nat) : By.Mark Grew := ⟨fun v w => ∃ g, v = .pointer (some ⟨g, 0, none⟩) ∧ lo ≤ g ∧ Row w g z32 24, fun _ _ _ ⟨g, h1, h2, h3⟩ k => ⟨g, h1, h2, h3.below k h3.lt⟩⟩
set_option maxRecDepth 100000 in
set_option maxHeartbeats 2000000 in
theorem Mark_any (key tb : List UInt8) (ls : List (List UInt8)) (lv : Value) (hk : key.length = 32) (htb : tb.length ≤ 100000) (w : World) (ht : Tab w) (hb : Bss w w.heap.size lv ls) (hn : ls.length ≤ 1000) (hm : ∀ l ∈ ls, l.length ≤ 1000000) (hf : ls.flatten.length ≤ 1000000) :
    Calls Tryd.prog 38 #[arr8 key, strOf tb, lv] w fun e w' => e = .returned (arr8 (mark key (tb ++ ls.flatten))) ∧ Below w.heap.size w w' := by
  have Hkl := Lib.hid hk
  have Htb := Lib.hid htb
  have Hn := Lib.hid hn
  have Hm := Lib.hid hm
  have Hf := Lib.hid hf
  obtain ⟨A, c, rfl, _, _⟩ := id hb
  obtain ⟨lv, hlv⟩ : ∃ lv, Value.slice A ls.length c = lv := ⟨_, rfl⟩
  rw [hlv] at hb ⊢
  obtain ⟨M, hM⟩ : ∃ M, Sha.mac key (tb ++ ls.flatten) = M := ⟨_, rfl⟩
  have hMl : M.length = 32 := by rw [← hM]; exact Sha.sum_length _
  obtain ⟨N16, hN⟩ : ∃ N, mark key (tb ++ ls.flatten) = N := ⟨_, rfl⟩
  have hNe : M.take 16 = N16 := by rw [← hM, ← hN]; rfl
  have HNl := Lib.hid (show (N16.map bv).length = 16 by rw [List.length_map, ← hN]; exact mark_length _ _)
  have HM := Lib.hid hM
  have HMl := Lib.hid (show (M.map bv).length = 32 by rw [List.length_map]; exact hMl)
  have HN := Lib.hid hNe
  rw [hN]
  have Hb := Lib.hid hb
  have Ht := Lib.hid ht
  obtain ⟨g0, hg0⟩ : ∃ g, w.heap.size = g := ⟨_, rfl⟩
  have Hg0 := Lib.hid hg0
  clear hk htb hn hm hf hlv hM hMl hN hNe hb ht
  unfold arr8
  go_enter Tryd.func38, Tryd.ntmps38
  go_wp2_with fail
  refine code_name fun W0 hW0 => ?_
  have HK := Lib.hid (show Row W0 g0 (key.map bv) 24 from hg0 ▸ hW0 ▸ (Row.new rfl rfl).alloc _)
  have HO := Lib.hid (show Row W0 (g0 + 1) ((List.replicate 16 (0 : UInt8)).map bv) 38 from hg0 ▸ hW0 ▸ Row.new (by simp) rfl)
  have HB0 := Lib.hid (show Below g0 w W0 from hg0 ▸ hW0 ▸ ((Below.refl _ w).alloc (Nat.le_refl _) _).alloc (by simp) _)
  have HL := Lib.hid ((Hb.out.below (hg0.symm ▸ HB0.out)).more' HB0.out.size)
  have HT := Lib.hid (Ht.out.below (hg0.symm ▸ HB0.out) Ht.out.1)
  obtain ⟨L0, hL0⟩ : ∃ L, W0.heap.size = L := ⟨_, rfl⟩
  have HL0 := Lib.hid hL0
  try rw [hg0]
  clear hW0 hL0 hg0
  refine Tail.marksAt Pol.mixed 8 Grew [By.is (.slice (some ⟨g0, 0, none⟩) 32 32),
    By.is (strOf tb),
    bsM tb,
    fullM [tb],
    By.is lv,
    bssM ([tb] ++ ls),
    By.is (arr8 M),
    newM L0]
    (Ev.masks _ []) (Nat.zero_lt_succ _) (by kernel_rfl) (by kernel_rfl) rfl Grew.refl Grew.trans ⟨?_, ?_, ?_, ?_, ?_, ?_, ?_, ?_, trivial⟩ ?_
  · intro a w ht hs hg -- 8
    have h3 := By.same_get hs 3 (by decide) (by kernel_rfl)
    refine By.yes rfl ?_
    clear hs hg
    go_simp
    exact ⟨_, rfl, Grew.refl _, rfl⟩
  · intro a w ht hs hg -- 9
    have h1 := By.same_get hs 1 (by decide) (by kernel_rfl)
    refine By.yes rfl ?_
    clear hs hg
    go_simp
    exact ⟨_, rfl, Grew.refl _, rfl⟩
  · intro a w ht hs hg -- 10
    have h9 : a.tmps.getD 9 undef = _ := By.given_get hg 1 rfl rfl (by kernel_rfl)
    refine By.yes rfl ?_
    clear hs hg
    obtain ⟨v, W, hr, hv, hb⟩ := run_bytes w tb
    refine wp_conv _ _ (.tmp 9) rfl h9 hr ?_
    exact ⟨_, rfl, hb, hv⟩
  · intro a w ht hs hg -- 11
    have h10 := By.given_get hg 2 rfl rfl (by kernel_rfl)
    refine By.yes rfl ?_
    obtain ⟨v10, hv10⟩ : ∃ v, a.tmps.getD 10 undef = v := ⟨_, rfl⟩
    replace h10 := (congrArg (fun v => ((bsM tb)).on v w) hv10).mp h10
    clear hs hg
    refine wp_list1 (.tmp 10) rfl hv10 h10 ?_
    intro v' w' h hb
    exact ⟨_, rfl, hb, h⟩
  · intro a w ht hs hg -- 12
    have h2 := By.same_get hs 2 (by decide) (by kernel_rfl)
    refine By.yes rfl ?_
    clear hs hg
    go_simp
    exact ⟨_, rfl, Grew.refl _, rfl⟩
  · intro a w ht hs hg -- 13
    have h11 := By.given_get hg 3 rfl rfl (by kernel_rfl)
    have h12 : a.tmps.getD 12 undef = _ := By.given_get hg 4 rfl rfl (by kernel_rfl)
    refine By.yes rfl ?_
    obtain ⟨v11, hv11⟩ : ∃ v, a.tmps.getD 11 undef = v := ⟨_, rfl⟩
    replace h11 := (congrArg (fun v => ((fullM [tb])).on v w) hv11).mp h11
    clear hs hg
    refine wp_app_l (.tmp 11) (.tmp 12) rfl hv11 h12 h11 ((HL.out.below (grew_below ht)).more' ht.size) (by have := Hn.out; simp; omega) ?_
    intro v' w' h hb
    exact ⟨_, rfl, hb, h⟩
  · intro a w ht hs hg -- 14
    have h8 : a.tmps.getD 8 undef = _ := By.given_get hg 0 rfl rfl (by kernel_rfl)
    have h13 := By.given_get hg 5 rfl rfl (by kernel_rfl)
    refine By.yes rfl ?_
    obtain ⟨v13, hv13⟩ : ∃ v, a.tmps.getD 13 undef = v := ⟨_, rfl⟩
    replace h13 := (congrArg (fun v => ((bssM ([tb] ++ ls))).on v w) hv13).mp h13
    clear hs hg
    have HLw := Lib.hid h13
    have HTw := Lib.hid (HT.out.below (grew_below ht) HT.out.1)
    have HKw := Lib.hid (show Bs w w.heap.size (.slice (some ⟨g0, 0, none⟩) 32 32) key by
      have h1 := (Row.below (w := W0.drew) HK.out ht HK.out.lt).bs (B := w.heap.size) (Nat.lt_of_lt_of_le HK.out.lt ht.size)
      rwa [Hkl.out] at h1)
    clear h13 ht
    go_simp
    refine (Mac_any _ _ key ([tb] ++ ls) w HTw.out HKw.out (by rw [Hkl.out]; omega) HLw.out (by have := Hn.out; simp; omega) (by
      intro l hl
      rcases List.mem_append.1 hl with h | h
      · rw [List.mem_singleton] at h; subst h; have := Htb.out; omega
      · have := Hm.out l h; omega) (by rw [List.flatten_append, List.length_append]; simp only [List.flatten_cons, List.flatten_nil, List.append_nil]; have := Htb.out; have := Hf.out; omega)).mono ?_
    rintro e w8 ⟨rfl, hb8⟩
    exact ⟨_, rfl, hb8, congrArg arr8 (by rw [show ([tb] ++ ls).flatten = tb ++ ls.flatten by simp]; exact HM.out)⟩
  · intro a w ht hs hg -- 7
    refine By.yes rfl ?_
    clear hs hg
    have hlo : L0 ≤ w.heap.size := by rw [← HL0.out]; exact ht.size
    go_simp
    exact ⟨_, rfl, (Below.refl _ w).alloc (Nat.le_refl _) _, _, rfl, hlo, Row.new rfl rfl⟩
  refine By.ends_is (By.ends_is (By.ends_skip fun v10 => (By.ends_skip fun v11 => (By.ends_is (By.ends_skip fun v13 => (By.ends_is (By.ends_any fun v7 => (By.ends_nil fun w9 hw9 => ?_))))))))
  simp only [Act.put, List.setIfInBounds_toArray, List.set_cons_succ, List.set_cons_zero]
  simp only [List.drop_succ_cons, List.drop_zero]
  obtain ⟨hw, g7, rfl, hg7, h7⟩ := hw9
  have hbw := grew_below hw
  have HB9 := Lib.hid (nextB HB0.out (Nat.le_of_eq Hg0.out.symm) hbw)
  have HO9 := Lib.hid (HO.out.below hbw HO.out.lt)
  have H7 := Lib.hid h7
  have hlt7 : g0 + 1 < g7 := by have h1 := HL0.out; have h2 := HO.out.lt; omega
  clear h7 hw hbw
  refine wpList_storeRow (g := g7) rfl 24 (.tmp 7) (.tmp 14) rfl rfl rfl (cs := M.map bv) H7.out (by kernel_rfl) HMl.out (by simp [z32]) (hbytes_one M) ?_
  refine wpList_name fun V hV => ?_
  have hr7 : Row V g7 (M.map bv) 24 := hV ▸ H7.out.setRow (M.map bv)
  have HBV := Lib.hid (show Below g0 w V from hV ▸ below_setRow HB9.out (by omega) _)
  have HOV := Lib.hid (show Row V (g0 + 1) ((List.replicate 16 (0 : UInt8)).map bv) 38 from hV ▸ HO9.out.setOther _ _ (by omega))
  have hld : (loadVar 38 ⟨g7, 0, none⟩).run Tryd.prog V = .ok (.agg (N16.map bv).toArray) V := by
    rw [Pol.run_loadVar_sub (off := 0) (n := 16) V hr7 Tryd.underlying38 rfl (by kernel_rfl) (by rw [HMl.out]; omega), List.drop_zero, ← List.map_take, HN.out]
  have HLd := Lib.hid hld
  have harr : (Instr.arrayAt 38 (.slice (some ⟨g7, 0, none⟩) 16 32)).run Tryd.prog V = .ok (.pointer (some ⟨g7, 0, none⟩)) V := by simp [Instr.arrayAt, run_underlying Tryd.underlying38]
  clear hV hr7 hld hlt7 hg7
  go_wp2_with (first
    | (refine wpList_ld 38 rfl rfl HLd.out rfl ?_)
    | (show wpList _ _ _ (⟨none, Op.store 38 _ _, _, _, _, _⟩ :: _) _ _; refine wpList_storeRow (g := g0 + 1) rfl 38 _ _ rfl rfl rfl (cs := N16.map bv) HOV.out (by kernel_rfl) HNl.out (by simp) (hbytes_one N16) ?_)
    | fail)
  refine bodyPost_ret (results_row rfl _ rfl (HOV.out.setRow (N16.map bv)) Tryd.underlying38 rfl (by kernel_rfl) HNl.out) rfl ?_
  exact ⟨rfl, by rw [Hg0.out]; exact below_setRow HBV.out (Nat.le_succ _) _⟩
end Go.Proofs.YtmfpjdbgdmmjkaaDoor.Shk
