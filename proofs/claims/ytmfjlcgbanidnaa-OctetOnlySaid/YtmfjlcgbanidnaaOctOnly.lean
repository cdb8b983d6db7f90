/- What is read, written again, is what was read: 'drawbridgelaw01.OctetOnly', for every argument. -/
import Derived.Test.YtmfjlcgbanidnaaOctRest
import Derived.Test.YtmfjlcgbanidnaaKit
import Derived.Test.YtmfjlcgbanidnaaLaw
import Derived.Test.YtmfjlcgbanidnaaOctLives
import Derived.Test.YtmfjlcgbanidnaaBy
namespace Go.Proofs.Ytmfjlcgbanidnaa.octetOnly
open Go.ChangeShapes Go.WideShapes Go.ChangeAt Go.RowKit

/-- What a block's reading without an error says. -/
theorem rdBlock_only (l m : List UInt8) (a e : Nat) (h : rdBlock l 0 0 = (m, a, e)) : a ≤ l.length ∧ m.length ≤ 1048576 ∧ (e = 0 → Oct.enc m.length ++ m = l.take a) := by
  have hU : rdUpto l 0 0 1048576 = if 1048576 < (Oct.dec l).1 then (0, (Oct.dec l).2.1, 3) else ((Oct.dec l).1, (Oct.dec l).2.1, (Oct.dec l).2.2) := by
    simp only [rdUpto, rdNumber, List.drop_zero, Nat.zero_add, ne_eq, not_true_eq_false, if_false]
  have hle := dec_le l
  unfold rdBlock at h
  rw [hU] at h
  split at h
  · simp only [rdFixed] at h
    simp at h
    obtain ⟨rfl, rfl, rfl⟩ := h
    exact ⟨hle, by simp, fun h => by cases h⟩
  · rename_i hx
    obtain ⟨x, k, d, hd⟩ : ∃ x k d, Oct.dec l = (x, k, d) := ⟨_, _, _, rfl⟩
    rw [hd] at h hx hle
    simp only at h hx hle
    simp only [rdFixed] at h
    split at h
    · rename_i h0
      simp only [Prod.mk.injEq] at h
      obtain ⟨rfl, rfl, rfl⟩ := h
      refine ⟨hle, by simp, fun he => ?_⟩
      subst he
      have hx0 : x = 0 := by omega
      subst hx0
      simpa using (Oct.enc_dec l 0 k hd).2.1
    · rename_i h0
      have hd0 : d = 0 := by omega
      subst hd0
      split at h
      · simp only [Prod.mk.injEq] at h
        obtain ⟨rfl, rfl, rfl⟩ := h
        exact ⟨hle, by simp, fun h => by cases h⟩
      · rename_i h1
        simp only [Prod.mk.injEq, Int.toNat_natCast] at h h1
        obtain ⟨rfl, rfl, rfl⟩ := h
        have hlen : ((l.drop k).take x).length = x := by rw [List.length_take, List.length_drop]; omega
        refine ⟨by omega, by omega, fun _ => ?_⟩
        rw [hlen, (Oct.enc_dec l x k hd).2.1]
        rw [← List.take_add]

theorem rdFixed_only (l y : List UInt8) (a e k : Nat) (n : Int) (h : rdFixed l 0 0 n = (y, a, e)) (hk : max 0 n = (k : Int)) : (e = 0 ↔ k ≤ l.length) ∧ (e = 0 → y = l.take k) := by
  simp only [rdFixed] at h
  split at h
  · simp only [Prod.mk.injEq] at h
    obtain ⟨rfl, rfl, rfl⟩ := h
    have : k = 0 := by omega
    subst this
    simp
  · rename_i h0
    have hn : n.toNat = k := by omega
    rw [hn] at h
    split at h
    · simp only [Prod.mk.injEq] at h
      obtain ⟨rfl, rfl, rfl⟩ := h
      exact ⟨⟨fun h => (by cases h), fun h => by omega⟩, fun h => by cases h⟩
    · simp only [Prod.mk.injEq] at h
      obtain ⟨rfl, rfl, rfl⟩ := h
      exact ⟨⟨fun _ => by omega, fun _ => rfl⟩, fun _ => by simp⟩

theorem long (A : Option Addr) (c : Nat) (l : List UInt8) (n : Int) (w : World) (h : 3000 < l.length) : Calls Try.prog 7 #[.slice A l.length c, .int .i64 n] w fun e w' => e = .returned (.bool true) ∧ Below w.heap.size w w' := by
  have h' : (3000 : Int) < (l.length : Int) := by omega
  go_enter Try.func7, Try.ntmps7
  go_wp2_with (go_at_call 16; refine (lives_any _).mono ?_; rintro e w1 ⟨rfl, hb1⟩)
  go_ret
  exact ⟨rfl, hb1⟩

set_option maxRecDepth 4000 in
set_option maxHeartbeats 1000000 in
theorem walk (A : Option Addr) (c : Nat) (l : List UInt8) (n : Int) (w : World) (hb : Bs w w.heap.size (.slice A l.length c) l) (h : l.length ≤ 3000) : Calls Try.prog 7 #[.slice A l.length c, .int .i64 n] w fun e w' => e = .returned (.bool true) ∧ Below w.heap.size w w' := by
  have h' : ¬ (3000 : Int) < (l.length : Int) := by omega
  have Hb := Lib.hid hb
  clear hb
  go_enter Try.func7, Try.ntmps7
  go_wp2_with (go_at_call 16; refine (lives_any _).mono ?_; rintro e w1 ⟨rfl, hb1⟩)
  have Hb1 := Lib.hid (Hb.out.below hb1)
  go_wp2_with fail
  refine (Own_any _ l _ (Hb1.out.more hb1.size) (by omega)).mono ?_
  rintro e w2 ⟨v2, rfl, hown2, hb2⟩
  have hb02 := nextB hb1 (Nat.le_refl _) hb2
  clear hb1 hb2
  go_wp2_with fail
  refine (New_any _ l _ hown2.bs (by omega)).mono ?_
  rintro e w3 ⟨g1, rfl, hg1, hl1, hr1, hb3⟩
  have hb03 := nextB hb02 (Nat.le_refl _) hb3
  have Hr1 := Lib.hid hr1
  have hg10 := Nat.le_trans hb02.size hg1
  clear hb02 hb3 hown2 hr1
  have Hb3 := Lib.hid (Hb.out.below hb03)
  go_wp2_with fail
  refine (Own_any _ l _ (Hb3.out.more hb03.size) (by omega)).mono ?_
  rintro e w4 ⟨v4, rfl, hown4, hb4⟩
  have hb04 := nextB hb03 (Nat.le_refl _) hb4
  have Hr1a := Lib.hid (Hr1.out.below hb4 hl1)
  clear hb03
  go_wp2_with fail
  refine (New_any _ l _ hown4.bs (by omega)).mono ?_
  rintro e w5 ⟨g2, rfl, hg2, hl2, hr2, hb5⟩
  have hb05 := nextB hb04 (Nat.le_refl _) hb5
  have Hr1b := Lib.hid (Hr1a.out.below hb5 (Nat.lt_of_lt_of_le hl1 hb4.size))
  have Hr2 := Lib.hid hr2
  have hg12 : g1 < g2 := Nat.lt_of_lt_of_le hl1 (Nat.le_trans hb4.size hg2)
  have hlo2 : g1 < w4.heap.size := Nat.lt_of_lt_of_le hl1 hb4.size
  clear hb04 hb4 hb5 hown4 hr2 Hr1 Hr1a
  have Hb5 := Lib.hid (Hb.out.below hb05)
  go_wp2_with fail
  refine (Own_any _ l _ (Hb5.out.more hb05.size) (by omega)).mono ?_
  rintro e w6 ⟨v6, rfl, hown6, hb6⟩
  have hb06 := nextB hb05 (Nat.le_refl _) hb6
  have Hr1a := Lib.hid (Hr1b.out.below hb6 (by omega))
  have Hr2a := Lib.hid (Hr2.out.below hb6 hl2)
  clear hb05
  go_wp2_with fail
  refine (New_any _ l _ hown6.bs (by omega)).mono ?_
  rintro e w7 ⟨g3, rfl, hg3, hl3, hr3, hb7⟩
  have hb07 := nextB hb06 (Nat.le_refl _) hb7
  have Hr1c := Lib.hid (Hr1a.out.below hb7 (by have := hb6.size; omega))
  have Hr2c := Lib.hid (Hr2a.out.below hb7 (by have := hb6.size; omega))
  have Hr3 := Lib.hid hr3
  have hg23 : g2 < w6.heap.size := by have := hb6.size; omega
  clear hb06 hb6 hb7 hown6 hr3 Hr1a Hr2a Hr1b Hr2
  go_wp2_with fail
  refine (RNumber_any Hr1c.out).mono ?_
  obtain ⟨x, at1, err, hrd⟩ : ∃ x a e, rdNumber l 0 0 = (x, a, e) := ⟨_, _, _, rfl⟩
  have Hrd := Lib.hid hrd
  rw [hrd]
  rintro e w8 ⟨rfl, hr1d, hgr8⟩
  have hb08 := hb07.grown hgr8 hb07.size (fun k hk => by injection hk with hk; omega)
  have Hr2d := Lib.hid (Hr2c.out.grown hgr8 (fun k hk => by injection hk with hk; omega))
  have Hr3d := Lib.hid (Hr3.out.grown hgr8 (fun k hk => by injection hk with hk; omega))
  have Hr1d := Lib.hid hr1d
  clear hr1d hgr8 Hr1c Hr2c Hr3 hb07
  have Hb8 := Lib.hid (Hb.out.below hb08)
  go_wp2_with fail
  have hle : at1 ≤ l.length := by have := rdNumber_le l 0 0 (Nat.zero_le _); rwa [hrd] at this
  have hlt : x < 2 ^ 64 := by have := rdNumber_lt l 0 0; rwa [hrd] at this
  have hcap : l.length ≤ c := by
    have := Hb.out
    obtain ⟨_, _, q, k, _⟩ := this
    simp only [Value.slice.injEq] at q
    omega
  have hex : err = 0 → Oct.enc x = l.take at1 := by
    intro he
    have := Hrd.out
    simp only [rdNumber] at this
    simp [he] at this
    exact (Oct.enc_dec l x at1 (by rw [← this.1, ← this.2.1, ← this.2.2])).2.1
  have Hex := Lib.hid hex
  clear hex
  have hi0 : (0 : Int) ≤ (at1 : Int) := by omega
  have hic : (at1 : Int) ≤ (c : Int) := by omega
  have hil : (at1 : Int) ≤ (l.length : Int) := by omega
  have hst : ∀ W, Grew w8.drew W → Rd W w2.heap.size g1 l at1 err := fun W hW => Rd.below (w := w8.drew) Hr1d.out hW (by have := Hr1d.out; obtain ⟨_, _, _, _, _, _, _, _, _, _, _, _, k⟩ := this.cells; exact k)
  have Hst := Lib.hid hst
  have hsb : ∀ W, Grew w8.drew W → Bs W w.heap.size (.slice A l.length c) l := fun W hW => Bs.below (w := w8.drew) Hb8.out (hW.mono hb08.size)
  have Hsb := Lib.hid hsb
  clear hst hsb
  refine By.marks mixed Grew [By.is (.pointer (some ⟨g1, 0, none⟩)),
    By.is (.int .i64 (err : Int)),
    By.is (.bool (decide (err = 0))),
    By.is (.bool (decide (err = 0))),
    By.when (err = 0) (By.is (.int .u64 (x : Int))),
    By.when (err = 0) (ownM w8.heap.size (Oct.enc x)),
    By.when (err = 0) (By.is (strOf (Oct.enc x))),
    By.when (err = 0) (By.is (.slice A l.length c)),
    By.when (err = 0) (By.is (.slice A l.length c)),
    By.when (err = 0) (By.is (.int .i64 l.length)),
    By.when (err = 0) (By.is (.pointer (some ⟨g1, 0, none⟩))),
    By.when (err = 0) (By.is (.int .i64 ((l.length - at1 : Nat) : Int))),
    By.when (err = 0) (By.is (.int .i64 (at1 : Int))),
    By.when (err = 0) (By.is (.slice A at1 c)),
    By.when (err = 0) (By.is (strOf (l.take at1))),
    By.when (err = 0) (By.is (.bool false)),
    By.is (.bool false)]
    (Ev.masks _ []) (by kernel_rfl) rfl Grew.refl Grew.trans ⟨?_, ?_, ?_, ?_, ?_, ?_, ?_, ?_, ?_, ?_, ?_, ?_, ?_, ?_, ?_, ?_, ?_, trivial⟩ ?_
  · intro a w ht hs hg -- 30
    have h5 := By.same_get hs 5 (by decide) (by kernel_rfl)
    refine By.yes rfl ?_
    clear hs hg
    go_simp
    exact ⟨_, rfl, Grew.refl _, rfl⟩
  · intro a w ht hs hg -- 31
    have h30 : a.tmps.getD 30 undef = _ := By.given_get hg 0 rfl rfl (by kernel_rfl)
    refine By.yes rfl ?_
    clear hs hg
    go_simp
    refine (Err_any (Hst.out w ht)).mono ?_
    rintro e w' ⟨rfl, rfl⟩
    exact ⟨_, rfl, Grew.refl _, rfl⟩
  · intro a w ht hs hg -- 32
    have h31 : a.tmps.getD 31 undef = _ := By.given_get hg 1 rfl rfl (by kernel_rfl)
    refine By.yes rfl ?_
    clear hs hg
    go_simp
    exact ⟨_, rfl, Grew.refl _, congrArg Value.bool (int_beq_zero _)⟩
  · intro a w ht hs hg -- 33
    have h32 : a.tmps.getD 32 undef = _ := By.given_get hg 2 rfl rfl (by kernel_rfl)
    refine By.yes rfl ?_
    clear hs hg
    go_simp
    exact ⟨_, rfl, Grew.refl _, rfl⟩
  · intro a w ht hs hg -- 34
    have h8 := By.same_get hs 8 (by decide) (by kernel_rfl)
    have hg33 := By.given_get hg 3 rfl rfl (by kernel_rfl)
    refine By.guarded (c := err = 0) ((By.want_dec rfl rfl hg33).trans (by simp)) fun hc => ?_
    clear hg33
    clear hs hg
    go_simp
    exact ⟨_, rfl, Grew.refl _, rfl⟩
  · intro a w ht hs hg -- 35
    have hg33 := By.given_get hg 3 rfl rfl (by kernel_rfl)
    refine By.guarded (c := err = 0) ((By.want_dec rfl rfl hg33).trans (by simp)) fun hc => ?_
    clear hg33
    have h34 : a.tmps.getD 34 undef = _ := By.when_get hc (By.given_get hg 4 rfl rfl (by kernel_rfl))
    clear hs hg
    go_simp
    refine (Number_any _ [] _ _ (Bs.nil _ _ _ _) hlt (by simp)).mono ?_
    rintro e w' ⟨v, rfl, ho, hb⟩
    exact ⟨_, rfl, hb, ho.less ht.size⟩
  · intro a w ht hs hg -- 36
    have hg33 := By.given_get hg 3 rfl rfl (by kernel_rfl)
    refine By.guarded (c := err = 0) ((By.want_dec rfl rfl hg33).trans (by simp)) fun hc => ?_
    clear hg33
    have h35 := By.when_get hc (By.given_get hg 5 rfl rfl (by kernel_rfl))
    obtain ⟨v35, hv35⟩ : ∃ v, a.tmps.getD 35 undef = v := ⟨_, rfl⟩
    replace h35 := (congrArg (fun v => (ownM w8.heap.size (Oct.enc x)).on v w) hv35).mp h35
    clear hs hg
    have hr := run_str w (Own.bs h35)
    clear h35
    go_simp
    exact ⟨_, rfl, Grew.refl _, rfl⟩
  · intro a w ht hs hg -- 37
    have h0 := By.same_get hs 0 (by decide) (by kernel_rfl)
    have hg33 := By.given_get hg 3 rfl rfl (by kernel_rfl)
    refine By.guarded (c := err = 0) ((By.want_dec rfl rfl hg33).trans (by simp)) fun hc => ?_
    clear hg33
    clear hs hg
    go_simp
    exact ⟨_, rfl, Grew.refl _, rfl⟩
  · intro a w ht hs hg -- 38
    have h0 := By.same_get hs 0 (by decide) (by kernel_rfl)
    have hg33 := By.given_get hg 3 rfl rfl (by kernel_rfl)
    refine By.guarded (c := err = 0) ((By.want_dec rfl rfl hg33).trans (by simp)) fun hc => ?_
    clear hg33
    clear hs hg
    go_simp
    exact ⟨_, rfl, Grew.refl _, rfl⟩
  · intro a w ht hs hg -- 39
    have hg33 := By.given_get hg 3 rfl rfl (by kernel_rfl)
    refine By.guarded (c := err = 0) ((By.want_dec rfl rfl hg33).trans (by simp)) fun hc => ?_
    clear hg33
    have h38 : a.tmps.getD 38 undef = _ := By.when_get hc (By.given_get hg 8 rfl rfl (by kernel_rfl))
    clear hs hg
    go_simp
    exact ⟨_, rfl, Grew.refl _, rfl⟩
  · intro a w ht hs hg -- 40
    have h5 := By.same_get hs 5 (by decide) (by kernel_rfl)
    have hg33 := By.given_get hg 3 rfl rfl (by kernel_rfl)
    refine By.guarded (c := err = 0) ((By.want_dec rfl rfl hg33).trans (by simp)) fun hc => ?_
    clear hg33
    clear hs hg
    go_simp
    exact ⟨_, rfl, Grew.refl _, rfl⟩
  · intro a w ht hs hg -- 41
    have hg33 := By.given_get hg 3 rfl rfl (by kernel_rfl)
    refine By.guarded (c := err = 0) ((By.want_dec rfl rfl hg33).trans (by simp)) fun hc => ?_
    clear hg33
    have h40 : a.tmps.getD 40 undef = _ := By.when_get hc (By.given_get hg 10 rfl rfl (by kernel_rfl))
    clear hs hg
    go_simp
    refine (Left_any (Hst.out w ht)).mono ?_
    rintro e w' ⟨rfl, n, rfl⟩
    exact ⟨_, rfl, ⟨rfl, rfl, rfl, Nat.le_refl _, fun _ _ => rfl⟩, rfl⟩
  · intro a w ht hs hg -- 42
    have hg33 := By.given_get hg 3 rfl rfl (by kernel_rfl)
    refine By.guarded (c := err = 0) ((By.want_dec rfl rfl hg33).trans (by simp)) fun hc => ?_
    clear hg33
    have h39 : a.tmps.getD 39 undef = _ := By.when_get hc (By.given_get hg 9 rfl rfl (by kernel_rfl))
    have h41 : a.tmps.getD 41 undef = _ := By.when_get hc (By.given_get hg 11 rfl rfl (by kernel_rfl))
    clear hs hg
    go_simp
    exact ⟨_, rfl, Grew.refl _, congrArg (Value.int .i64) ((IntWalk.i64_in _ (by omega)).trans (by omega))⟩
  · intro a w ht hs hg -- 43
    have hg33 := By.given_get hg 3 rfl rfl (by kernel_rfl)
    refine By.guarded (c := err = 0) ((By.want_dec rfl rfl hg33).trans (by simp)) fun hc => ?_
    clear hg33
    have h37 : a.tmps.getD 37 undef = _ := By.when_get hc (By.given_get hg 7 rfl rfl (by kernel_rfl))
    have h42 : a.tmps.getD 42 undef = _ := By.when_get hc (By.given_get hg 12 rfl rfl (by kernel_rfl))
    clear hs hg
    go_simp
    exact ⟨_, rfl, Grew.refl _, rfl⟩
  · intro a w ht hs hg -- 44
    have hg33 := By.given_get hg 3 rfl rfl (by kernel_rfl)
    refine By.guarded (c := err = 0) ((By.want_dec rfl rfl hg33).trans (by simp)) fun hc => ?_
    clear hg33
    have h43 : a.tmps.getD 43 undef = _ := By.when_get hc (By.given_get hg 13 rfl rfl (by kernel_rfl))
    clear hs hg
    have hr := run_str w ((Hsb.out w ht).take rfl hle)
    go_simp
    exact ⟨_, rfl, Grew.refl _, rfl⟩
  · intro a w ht hs hg -- 45
    have hg33 := By.given_get hg 3 rfl rfl (by kernel_rfl)
    refine By.guarded (c := err = 0) ((By.want_dec rfl rfl hg33).trans (by simp)) fun hc => ?_
    clear hg33
    have h36 : a.tmps.getD 36 undef = _ := By.when_get hc (By.given_get hg 6 rfl rfl (by kernel_rfl))
    have h44 : a.tmps.getD 44 undef = _ := By.when_get hc (By.given_get hg 14 rfl rfl (by kernel_rfl))
    clear hs hg
    go_simp
    exact ⟨_, rfl, Grew.refl _, congrArg Value.bool (by rw [ByteArray.toList_mk, ByteArray.toList_mk, Hex.out hc]; simp)⟩
  · intro a w ht hs hg -- 46
    have h45w := By.given_get hg 15 rfl rfl (by kernel_rfl)
    have h33 : a.tmps.getD 33 undef = _ := By.given_get hg 3 rfl rfl (by kernel_rfl)
    refine By.yes rfl ?_
    clear hs hg
    by_cases hc : err = 0
    · have h45 : a.tmps.getD 45 undef = _ := By.when_get hc h45w
      clear h45w
      go_simp
      exact ⟨_, rfl, Grew.refl _, rfl⟩
    · clear h45w
      go_simp
      exact ⟨_, rfl, Grew.refl _, rfl⟩
  refine By.ends_is (By.ends_is (By.ends_is (By.ends_is (By.ends_skip fun v34 => (By.ends_skip fun v35 => (By.ends_skip fun v36 => (By.ends_skip fun v37 => (By.ends_skip fun v38 => (By.ends_skip fun v39 => (By.ends_skip fun v40 => (By.ends_skip fun v41 => (By.ends_skip fun v42 => (By.ends_skip fun v43 => (By.ends_skip fun v44 => (By.ends_skip fun v45 => (By.ends_is (By.ends_nil fun w9 hw9 => ?_)))))))))))))))))
  simp only [Act.put, List.setIfInBounds_toArray, List.set_cons_succ, List.set_cons_zero]
  have hb09 := nextB hb08.drew (Nat.le_refl _) hw9
  have Hr2e := Lib.hid (Rd.below (w := w8.drew) Hr2d.out hw9 (by have := Hr2d.out; obtain ⟨_, _, _, _, _, _, _, _, _, _, _, _, k⟩ := this.cells; exact k))
  have Hr3e := Lib.hid (Rd.below (w := w8.drew) Hr3d.out hw9 (by have := Hr3d.out; obtain ⟨_, _, _, _, _, _, _, _, _, _, _, _, k⟩ := this.cells; exact k))
  clear Hst Hsb Hex Hrd hb08 Hr1d Hr2d Hr3d Hb8 hw9 hi0 hic hil hle hlt
  go_wp2_with fail
  refine (RBlock_any Hr2e.out).mono ?_
  obtain ⟨m, at2, err2, hrd⟩ : ∃ m a e, rdBlock l 0 0 = (m, a, e) := ⟨_, _, _, rfl⟩
  obtain ⟨hle, hml, hex⟩ := rdBlock_only l m at2 err2 hrd
  have Hex := Lib.hid hex
  rw [hrd]
  clear hrd hex
  rintro e w10 ⟨v10, rfl, hown10, hr2f, hgr10⟩
  have hb010 := hb09.grown hgr10 hb09.size (fun k hk => by injection hk with hk; omega)
  have Hr3f := Lib.hid (Hr3e.out.grown hgr10 (fun k hk => by injection hk with hk; omega))
  have Hr2f := Lib.hid hr2f
  have Hown10 := Lib.hid hown10
  clear hr2f hgr10 Hr3e Hr2e hb09 hown10
  go_wp2_with fail
  refine (Block_ok _ _ [] m _ (Bs.nil _ _ _ _) Hown10.out.bs (by omega) (by simp)).mono ?_
  rintro e w11 ⟨v11, rfl, hown11, hb11⟩
  have hb011 := nextB hb010 (Nat.le_refl _) hb11
  have Hr2g := Lib.hid (Hr2f.out.below hb11 (by have := Hr2f.out; obtain ⟨_, _, _, _, _, _, _, _, _, _, _, _, k⟩ := this.cells; exact k))
  have Hr3g := Lib.hid (Hr3f.out.below hb11 (by have := Hr3f.out; obtain ⟨_, _, _, _, _, _, _, _, _, _, _, _, k⟩ := this.cells; exact k))
  have Hown11 := Lib.hid hown11
  have Hb11 := Lib.hid (Hb.out.below hb011)
  clear hb010 hb11 Hr2f Hr3f Hown10 hown11
  go_wp2_with fail
  have hi0 : (0 : Int) ≤ (at2 : Int) := by omega
  have hic : (at2 : Int) ≤ (c : Int) := by omega
  have hil : (at2 : Int) ≤ (l.length : Int) := by omega
  have hst : ∀ W, Grew w11.drew W → Rd W w4.heap.size g2 l at2 err2 := fun W hW => Rd.below (w := w11.drew) Hr2g.out hW (by have := Hr2g.out; obtain ⟨_, _, _, _, _, _, _, _, _, _, _, _, k⟩ := this.cells; exact k)
  have Hst := Lib.hid hst
  have hsb : ∀ W, Grew w11.drew W → Bs W w.heap.size (.slice A l.length c) l := fun W hW => Bs.below (w := w11.drew) Hb11.out (hW.mono hb011.size)
  have Hsb := Lib.hid hsb
  have hso : ∀ W, Grew w11.drew W → Own W w10.heap.size v11 (Oct.enc m.length ++ m) := fun W hW => Own.below (w := w11.drew) Hown11.out.drew hW (Nat.le_refl _)
  have Hso := Lib.hid hso
  clear hst hsb hso
  refine By.marks mixed Grew [By.is (.pointer (some ⟨g2, 0, none⟩)),
    By.is (.int .i64 (err2 : Int)),
    By.is (.bool (decide (err2 = 0))),
    By.is (.bool (decide (err2 = 0))),
    By.when (err2 = 0) (By.is (.int .i64 0)),
    By.when (err2 = 0) (By.is (.bool false)),
    By.when (err2 = 0) (By.is (.bool false)),
    By.when (err2 = 0) (By.is v11),
    By.when (err2 = 0) (By.is (strOf (Oct.enc m.length ++ m))),
    By.when (err2 = 0) (By.is (.slice A l.length c)),
    By.when (err2 = 0) (By.is (.slice A l.length c)),
    By.when (err2 = 0) (By.is (.int .i64 l.length)),
    By.when (err2 = 0) (By.is (.pointer (some ⟨g2, 0, none⟩))),
    By.when (err2 = 0) (By.is (.int .i64 ((l.length - at2 : Nat) : Int))),
    By.when (err2 = 0) (By.is (.int .i64 (at2 : Int))),
    By.when (err2 = 0) (By.is (.slice A at2 c)),
    By.when (err2 = 0) (By.is (strOf (l.take at2))),
    By.when (err2 = 0) (By.is (.bool false)),
    By.when (err2 = 0) (By.is (.bool false)),
    By.is (.bool false)]
    (Ev.masks _ []) (by kernel_rfl) rfl Grew.refl Grew.trans ⟨?_, ?_, ?_, ?_, ?_, ?_, ?_, ?_, ?_, ?_, ?_, ?_, ?_, ?_, ?_, ?_, ?_, ?_, ?_, ?_, trivial⟩ ?_
  · intro a w ht hs hg -- 54
    have h6 := By.same_get hs 6 (by decide) (by kernel_rfl)
    refine By.yes rfl ?_
    clear hs hg
    go_simp
    exact ⟨_, rfl, Grew.refl _, rfl⟩
  · intro a w ht hs hg -- 55
    have h54 : a.tmps.getD 54 undef = _ := By.given_get hg 0 rfl rfl (by kernel_rfl)
    refine By.yes rfl ?_
    clear hs hg
    go_simp
    refine (Err_any (Hst.out w ht)).mono ?_
    rintro e w' ⟨rfl, rfl⟩
    exact ⟨_, rfl, Grew.refl _, rfl⟩
  · intro a w ht hs hg -- 56
    have h55 : a.tmps.getD 55 undef = _ := By.given_get hg 1 rfl rfl (by kernel_rfl)
    refine By.yes rfl ?_
    clear hs hg
    go_simp
    exact ⟨_, rfl, Grew.refl _, congrArg Value.bool (int_beq_zero _)⟩
  · intro a w ht hs hg -- 57
    have h56 : a.tmps.getD 56 undef = _ := By.given_get hg 2 rfl rfl (by kernel_rfl)
    refine By.yes rfl ?_
    clear hs hg
    go_simp
    exact ⟨_, rfl, Grew.refl _, rfl⟩
  · intro a w ht hs hg -- 58
    have h11 := By.same_get hs 11 (by decide) (by kernel_rfl)
    have hg57 := By.given_get hg 3 rfl rfl (by kernel_rfl)
    refine By.guarded (c := err2 = 0) ((By.want_dec rfl rfl hg57).trans (by simp)) fun hc => ?_
    clear hg57
    clear hs hg
    go_simp
    exact ⟨_, rfl, Grew.refl _, rfl⟩
  · intro a w ht hs hg -- 59
    have hg57 := By.given_get hg 3 rfl rfl (by kernel_rfl)
    refine By.guarded (c := err2 = 0) ((By.want_dec rfl rfl hg57).trans (by simp)) fun hc => ?_
    clear hg57
    have h58 : a.tmps.getD 58 undef = _ := By.when_get hc (By.given_get hg 4 rfl rfl (by kernel_rfl))
    clear hs hg
    go_simp
    exact ⟨_, rfl, Grew.refl _, rfl⟩
  · intro a w ht hs hg -- 60
    have hg57 := By.given_get hg 3 rfl rfl (by kernel_rfl)
    refine By.guarded (c := err2 = 0) ((By.want_dec rfl rfl hg57).trans (by simp)) fun hc => ?_
    clear hg57
    have h59 : a.tmps.getD 59 undef = _ := By.when_get hc (By.given_get hg 5 rfl rfl (by kernel_rfl))
    clear hs hg
    go_simp
    exact ⟨_, rfl, Grew.refl _, rfl⟩
  · intro a w ht hs hg -- 61
    have h10 := By.same_get hs 10 (by decide) (by kernel_rfl)
    have hg60 := By.given_get hg 6 rfl rfl (by kernel_rfl)
    refine By.guarded (c := err2 = 0) ((By.want_when rfl rfl hg60).trans (by simp)) fun hc => ?_
    clear hg60
    clear hs hg
    go_simp
    exact ⟨_, rfl, Grew.refl _, rfl⟩
  · intro a w ht hs hg -- 62
    have hg60 := By.given_get hg 6 rfl rfl (by kernel_rfl)
    refine By.guarded (c := err2 = 0) ((By.want_when rfl rfl hg60).trans (by simp)) fun hc => ?_
    clear hg60
    have h61 : a.tmps.getD 61 undef = _ := By.when_get hc (By.given_get hg 7 rfl rfl (by kernel_rfl))
    clear hs hg
    have hr := run_str w (Hso.out w ht).bs
    go_simp
    exact ⟨_, rfl, Grew.refl _, rfl⟩
  · intro a w ht hs hg -- 63
    have h0 := By.same_get hs 0 (by decide) (by kernel_rfl)
    have hg60 := By.given_get hg 6 rfl rfl (by kernel_rfl)
    refine By.guarded (c := err2 = 0) ((By.want_when rfl rfl hg60).trans (by simp)) fun hc => ?_
    clear hg60
    clear hs hg
    go_simp
    exact ⟨_, rfl, Grew.refl _, rfl⟩
  · intro a w ht hs hg -- 64
    have h0 := By.same_get hs 0 (by decide) (by kernel_rfl)
    have hg60 := By.given_get hg 6 rfl rfl (by kernel_rfl)
    refine By.guarded (c := err2 = 0) ((By.want_when rfl rfl hg60).trans (by simp)) fun hc => ?_
    clear hg60
    clear hs hg
    go_simp
    exact ⟨_, rfl, Grew.refl _, rfl⟩
  · intro a w ht hs hg -- 65
    have hg60 := By.given_get hg 6 rfl rfl (by kernel_rfl)
    refine By.guarded (c := err2 = 0) ((By.want_when rfl rfl hg60).trans (by simp)) fun hc => ?_
    clear hg60
    have h64 : a.tmps.getD 64 undef = _ := By.when_get hc (By.given_get hg 10 rfl rfl (by kernel_rfl))
    clear hs hg
    go_simp
    exact ⟨_, rfl, Grew.refl _, rfl⟩
  · intro a w ht hs hg -- 66
    have h6 := By.same_get hs 6 (by decide) (by kernel_rfl)
    have hg60 := By.given_get hg 6 rfl rfl (by kernel_rfl)
    refine By.guarded (c := err2 = 0) ((By.want_when rfl rfl hg60).trans (by simp)) fun hc => ?_
    clear hg60
    clear hs hg
    go_simp
    exact ⟨_, rfl, Grew.refl _, rfl⟩
  · intro a w ht hs hg -- 67
    have hg60 := By.given_get hg 6 rfl rfl (by kernel_rfl)
    refine By.guarded (c := err2 = 0) ((By.want_when rfl rfl hg60).trans (by simp)) fun hc => ?_
    clear hg60
    have h66 : a.tmps.getD 66 undef = _ := By.when_get hc (By.given_get hg 12 rfl rfl (by kernel_rfl))
    clear hs hg
    go_simp
    refine (Left_any (Hst.out w ht)).mono ?_
    rintro e w' ⟨rfl, n, rfl⟩
    exact ⟨_, rfl, ⟨rfl, rfl, rfl, Nat.le_refl _, fun _ _ => rfl⟩, rfl⟩
  · intro a w ht hs hg -- 68
    have hg60 := By.given_get hg 6 rfl rfl (by kernel_rfl)
    refine By.guarded (c := err2 = 0) ((By.want_when rfl rfl hg60).trans (by simp)) fun hc => ?_
    clear hg60
    have h65 : a.tmps.getD 65 undef = _ := By.when_get hc (By.given_get hg 11 rfl rfl (by kernel_rfl))
    have h67 : a.tmps.getD 67 undef = _ := By.when_get hc (By.given_get hg 13 rfl rfl (by kernel_rfl))
    clear hs hg
    go_simp
    exact ⟨_, rfl, Grew.refl _, congrArg (Value.int .i64) ((IntWalk.i64_in _ (by omega)).trans (by omega))⟩
  · intro a w ht hs hg -- 69
    have hg60 := By.given_get hg 6 rfl rfl (by kernel_rfl)
    refine By.guarded (c := err2 = 0) ((By.want_when rfl rfl hg60).trans (by simp)) fun hc => ?_
    clear hg60
    have h63 : a.tmps.getD 63 undef = _ := By.when_get hc (By.given_get hg 9 rfl rfl (by kernel_rfl))
    have h68 : a.tmps.getD 68 undef = _ := By.when_get hc (By.given_get hg 14 rfl rfl (by kernel_rfl))
    clear hs hg
    go_simp
    exact ⟨_, rfl, Grew.refl _, rfl⟩
  · intro a w ht hs hg -- 70
    have hg60 := By.given_get hg 6 rfl rfl (by kernel_rfl)
    refine By.guarded (c := err2 = 0) ((By.want_when rfl rfl hg60).trans (by simp)) fun hc => ?_
    clear hg60
    have h69 : a.tmps.getD 69 undef = _ := By.when_get hc (By.given_get hg 15 rfl rfl (by kernel_rfl))
    clear hs hg
    have hr := run_str w ((Hsb.out w ht).take rfl hle)
    go_simp
    exact ⟨_, rfl, Grew.refl _, rfl⟩
  · intro a w ht hs hg -- 71
    have hg60 := By.given_get hg 6 rfl rfl (by kernel_rfl)
    refine By.guarded (c := err2 = 0) ((By.want_when rfl rfl hg60).trans (by simp)) fun hc => ?_
    clear hg60
    have h62 : a.tmps.getD 62 undef = _ := By.when_get hc (By.given_get hg 8 rfl rfl (by kernel_rfl))
    have h70 : a.tmps.getD 70 undef = _ := By.when_get hc (By.given_get hg 16 rfl rfl (by kernel_rfl))
    clear hs hg
    go_simp
    exact ⟨_, rfl, Grew.refl _, congrArg Value.bool (by rw [ByteArray.toList_mk, ByteArray.toList_mk, Hex.out hc]; simp)⟩
  · intro a w ht hs hg -- 72
    have hg57 := By.given_get hg 3 rfl rfl (by kernel_rfl)
    refine By.guarded (c := err2 = 0) ((By.want_dec rfl rfl hg57).trans (by simp)) fun hc => ?_
    clear hg57
    have h60 : a.tmps.getD 60 undef = _ := By.when_get hc (By.given_get hg 6 rfl rfl (by kernel_rfl))
    have h71 : a.tmps.getD 71 undef = _ := By.when_get hc (By.given_get hg 17 rfl rfl (by kernel_rfl))
    clear hs hg
    go_simp
    exact ⟨_, rfl, Grew.refl _, rfl⟩
  · intro a w ht hs hg -- 73
    have h72w := By.given_get hg 18 rfl rfl (by kernel_rfl)
    have h57 : a.tmps.getD 57 undef = _ := By.given_get hg 3 rfl rfl (by kernel_rfl)
    refine By.yes rfl ?_
    clear hs hg
    by_cases hc : err2 = 0
    · have h72 : a.tmps.getD 72 undef = _ := By.when_get hc h72w
      clear h72w
      go_simp
      exact ⟨_, rfl, Grew.refl _, rfl⟩
    · clear h72w
      go_simp
      exact ⟨_, rfl, Grew.refl _, rfl⟩
  refine By.ends_is (By.ends_is (By.ends_is (By.ends_is (By.ends_skip fun v58 => (By.ends_skip fun v59 => (By.ends_skip fun v60 => (By.ends_skip fun v61 => (By.ends_skip fun v62 => (By.ends_skip fun v63 => (By.ends_skip fun v64 => (By.ends_skip fun v65 => (By.ends_skip fun v66 => (By.ends_skip fun v67 => (By.ends_skip fun v68 => (By.ends_skip fun v69 => (By.ends_skip fun v70 => (By.ends_skip fun v71 => (By.ends_skip fun v72 => (By.ends_is (By.ends_nil fun w12 hw12 => ?_))))))))))))))))))))
  simp only [Act.put, List.setIfInBounds_toArray, List.set_cons_succ, List.set_cons_zero]
  have hb012 := nextB hb011.drew (Nat.le_refl _) hw12
  have Hr3h := Lib.hid (Rd.below (w := w11.drew) Hr3g.out hw12 (by have := Hr3g.out; obtain ⟨_, _, _, _, _, _, _, _, _, _, _, _, k⟩ := this.cells; exact k))
  clear Hst Hsb Hso Hex hb011 Hr2g Hr3g Hb11 Hown11 hw12 hi0 hic hil hle
  go_wp2_with fail
  refine (Fixed_any n Hr3h.out).mono ?_
  obtain ⟨y, at3, err3, hrd⟩ : ∃ m a e, rdFixed l 0 0 n = (m, a, e) := ⟨_, _, _, rfl⟩
  have Hrd := Lib.hid hrd
  rw [hrd]
  clear hrd
  rintro e w13 ⟨v13, rfl, hown13, hr3i, hgr13⟩
  have hb013 := hb012.grown hgr13 hb012.size (fun k hk => by injection hk with hk; omega)
  have Hr3i := Lib.hid hr3i
  have Hown13 := Lib.hid hown13
  have Hb13 := Lib.hid (Hb.out.below hb013)
  clear hr3i hgr13 Hr3h hb012 hown13
  go_wp2_with fail
  obtain ⟨k, hk⟩ : ∃ k : Nat, max 0 n = (k : Int) := ⟨n.toNat, by omega⟩
  rw [hk]
  obtain ⟨hek, hey⟩ := rdFixed_only l y at3 err3 k n Hrd.out hk
  have Hek := Lib.hid hek
  have Hey := Lib.hid hey
  clear hek hey hk Hrd
  have hst : ∀ W, Grew w13.drew W → Rd W w6.heap.size g3 l at3 err3 := fun W hW => Rd.below (w := w13.drew) Hr3i.out hW (by have := Hr3i.out; obtain ⟨_, _, _, _, _, _, _, _, _, _, _, _, k⟩ := this.cells; exact k)
  have Hst := Lib.hid hst
  have hsb : ∀ W, Grew w13.drew W → Bs W w.heap.size (.slice A l.length c) l := fun W hW => Bs.below (w := w13.drew) Hb13.out (hW.mono hb013.size)
  have Hsb := Lib.hid hsb
  have hso : ∀ W, Grew w13.drew W → Own W w12.heap.size v13 y := fun W hW => Own.below (w := w13.drew) Hown13.out.drew hW (Nat.le_refl _)
  have Hso := Lib.hid hso
  clear hst hsb hso
  refine By.marks mixed Grew [By.is (.pointer (some ⟨g3, 0, none⟩)),
    By.is (.int .i64 (err3 : Int)),
    By.is (.bool (decide (err3 = 0))),
    By.is (.int .i64 (k : Int)),
    By.is (.slice A l.length c),
    By.is (.int .i64 l.length),
    By.is (.bool (decide (err3 = 0))),
    By.is (.bool true),
    By.is (.bool true),
    By.is (.pointer (some ⟨g3, 0, none⟩)),
    By.is (.int .i64 (err3 : Int)),
    By.is (.bool !(decide (err3 = 0))),
    By.is (.bool !(decide (err3 = 0))),
    By.when (err3 = 0) (By.is v13),
    By.when (err3 = 0) (By.is (strOf y)),
    By.when (err3 = 0) (By.is (.slice A l.length c)),
    By.when (err3 = 0) (By.is (.int .i64 (k : Int))),
    By.when (err3 = 0) (By.is (.slice A k c)),
    By.when (err3 = 0) (By.is (strOf (l.take k))),
    By.when (err3 = 0) (By.is (.bool true)),
    By.is (.bool true),
    By.is (.bool true),
    By.is (.bool true)]
    (Ev.masks _ []) (by kernel_rfl) rfl Grew.refl Grew.trans ⟨?_, ?_, ?_, ?_, ?_, ?_, ?_, ?_, ?_, ?_, ?_, ?_, ?_, ?_, ?_, ?_, ?_, ?_, ?_, ?_, ?_, ?_, ?_, trivial⟩ ?_
  · intro a w ht hs hg -- 79
    have h7 := By.same_get hs 7 (by decide) (by kernel_rfl)
    refine By.yes rfl ?_
    clear hs hg
    go_simp
    exact ⟨_, rfl, Grew.refl _, rfl⟩
  · intro a w ht hs hg -- 80
    have h79 : a.tmps.getD 79 undef = _ := By.given_get hg 0 rfl rfl (by kernel_rfl)
    refine By.yes rfl ?_
    clear hs hg
    go_simp
    refine (Err_any (Hst.out w ht)).mono ?_
    rintro e w' ⟨rfl, rfl⟩
    exact ⟨_, rfl, Grew.refl _, rfl⟩
  · intro a w ht hs hg -- 81
    have h80 : a.tmps.getD 80 undef = _ := By.given_get hg 1 rfl rfl (by kernel_rfl)
    refine By.yes rfl ?_
    clear hs hg
    go_simp
    exact ⟨_, rfl, Grew.refl _, congrArg Value.bool (int_beq_zero _)⟩
  · intro a w ht hs hg -- 82
    have h12 := By.same_get hs 12 (by decide) (by kernel_rfl)
    refine By.yes rfl ?_
    clear hs hg
    go_simp
    exact ⟨_, rfl, Grew.refl _, rfl⟩
  · intro a w ht hs hg -- 83
    have h0 := By.same_get hs 0 (by decide) (by kernel_rfl)
    refine By.yes rfl ?_
    clear hs hg
    go_simp
    exact ⟨_, rfl, Grew.refl _, rfl⟩
  · intro a w ht hs hg -- 84
    have h83 : a.tmps.getD 83 undef = _ := By.given_get hg 4 rfl rfl (by kernel_rfl)
    refine By.yes rfl ?_
    clear hs hg
    go_simp
    exact ⟨_, rfl, Grew.refl _, rfl⟩
  · intro a w ht hs hg -- 85
    have h82 : a.tmps.getD 82 undef = _ := By.given_get hg 3 rfl rfl (by kernel_rfl)
    have h84 : a.tmps.getD 84 undef = _ := By.given_get hg 5 rfl rfl (by kernel_rfl)
    refine By.yes rfl ?_
    clear hs hg
    go_simp
    exact ⟨_, rfl, Grew.refl _, congrArg Value.bool (by have := Hek.out; rw [Bool.eq_iff_iff]; simp; omega)⟩
  · intro a w ht hs hg -- 86
    have h81 : a.tmps.getD 81 undef = _ := By.given_get hg 2 rfl rfl (by kernel_rfl)
    have h85 : a.tmps.getD 85 undef = _ := By.given_get hg 6 rfl rfl (by kernel_rfl)
    refine By.yes rfl ?_
    clear hs hg
    go_simp
    exact ⟨_, rfl, Grew.refl _, rfl⟩
  · intro a w ht hs hg -- 87
    have h86 : a.tmps.getD 86 undef = _ := By.given_get hg 7 rfl rfl (by kernel_rfl)
    refine By.yes rfl ?_
    clear hs hg
    go_simp
    exact ⟨_, rfl, Grew.refl _, rfl⟩
  · intro a w ht hs hg -- 88
    have h7 := By.same_get hs 7 (by decide) (by kernel_rfl)
    have hg87 := By.given_get hg 8 rfl rfl (by kernel_rfl)
    refine By.yes (By.want_yes rfl rfl hg87) ?_
    clear hg87
    clear hs hg
    go_simp
    exact ⟨_, rfl, Grew.refl _, rfl⟩
  · intro a w ht hs hg -- 89
    have h88 : a.tmps.getD 88 undef = _ := By.given_get hg 9 rfl rfl (by kernel_rfl)
    have hg87 := By.given_get hg 8 rfl rfl (by kernel_rfl)
    refine By.yes (By.want_yes rfl rfl hg87) ?_
    clear hg87
    clear hs hg
    go_simp
    refine (Err_any (Hst.out w ht)).mono ?_
    rintro e w' ⟨rfl, rfl⟩
    exact ⟨_, rfl, Grew.refl _, rfl⟩
  · intro a w ht hs hg -- 90
    have h89 : a.tmps.getD 89 undef = _ := By.given_get hg 10 rfl rfl (by kernel_rfl)
    have hg87 := By.given_get hg 8 rfl rfl (by kernel_rfl)
    refine By.yes (By.want_yes rfl rfl hg87) ?_
    clear hg87
    clear hs hg
    go_simp
    exact ⟨_, rfl, Grew.refl _, congrArg Value.bool (int_bne_zero _)⟩
  · intro a w ht hs hg -- 91
    have h90 : a.tmps.getD 90 undef = _ := By.given_get hg 11 rfl rfl (by kernel_rfl)
    have hg87 := By.given_get hg 8 rfl rfl (by kernel_rfl)
    refine By.yes (By.want_yes rfl rfl hg87) ?_
    clear hg87
    clear hs hg
    go_simp
    exact ⟨_, rfl, Grew.refl _, rfl⟩
  · intro a w ht hs hg -- 92
    have h13 := By.same_get hs 13 (by decide) (by kernel_rfl)
    have hg91 := By.given_get hg 12 rfl rfl (by kernel_rfl)
    refine By.guarded (c := err3 = 0) ((By.want_dec rfl rfl hg91).trans (by simp)) fun hc => ?_
    clear hg91
    clear hs hg
    go_simp
    exact ⟨_, rfl, Grew.refl _, rfl⟩
  · intro a w ht hs hg -- 93
    have hg91 := By.given_get hg 12 rfl rfl (by kernel_rfl)
    refine By.guarded (c := err3 = 0) ((By.want_dec rfl rfl hg91).trans (by simp)) fun hc => ?_
    clear hg91
    have h92 : a.tmps.getD 92 undef = _ := By.when_get hc (By.given_get hg 13 rfl rfl (by kernel_rfl))
    clear hs hg
    have hr := run_str w (Hso.out w ht).bs
    go_simp
    exact ⟨_, rfl, Grew.refl _, rfl⟩
  · intro a w ht hs hg -- 94
    have h0 := By.same_get hs 0 (by decide) (by kernel_rfl)
    have hg91 := By.given_get hg 12 rfl rfl (by kernel_rfl)
    refine By.guarded (c := err3 = 0) ((By.want_dec rfl rfl hg91).trans (by simp)) fun hc => ?_
    clear hg91
    clear hs hg
    go_simp
    exact ⟨_, rfl, Grew.refl _, rfl⟩
  · intro a w ht hs hg -- 95
    have h12 := By.same_get hs 12 (by decide) (by kernel_rfl)
    have hg91 := By.given_get hg 12 rfl rfl (by kernel_rfl)
    refine By.guarded (c := err3 = 0) ((By.want_dec rfl rfl hg91).trans (by simp)) fun hc => ?_
    clear hg91
    clear hs hg
    go_simp
    exact ⟨_, rfl, Grew.refl _, rfl⟩
  · intro a w ht hs hg -- 96
    have hg91 := By.given_get hg 12 rfl rfl (by kernel_rfl)
    refine By.guarded (c := err3 = 0) ((By.want_dec rfl rfl hg91).trans (by simp)) fun hc => ?_
    clear hg91
    have h94 : a.tmps.getD 94 undef = _ := By.when_get hc (By.given_get hg 15 rfl rfl (by kernel_rfl))
    have h95 : a.tmps.getD 95 undef = _ := By.when_get hc (By.given_get hg 16 rfl rfl (by kernel_rfl))
    clear hs hg
    have hi0 : (0 : Int) ≤ (k : Int) := by omega
    have hic : (k : Int) ≤ (c : Int) := by have := Hek.out; omega
    go_simp
    exact ⟨_, rfl, Grew.refl _, rfl⟩
  · intro a w ht hs hg -- 97
    have hg91 := By.given_get hg 12 rfl rfl (by kernel_rfl)
    refine By.guarded (c := err3 = 0) ((By.want_dec rfl rfl hg91).trans (by simp)) fun hc => ?_
    clear hg91
    have h96 : a.tmps.getD 96 undef = _ := By.when_get hc (By.given_get hg 17 rfl rfl (by kernel_rfl))
    clear hs hg
    have hr := run_str w ((Hsb.out w ht).take rfl (Hek.out.1 hc))
    go_simp
    exact ⟨_, rfl, Grew.refl _, rfl⟩
  · intro a w ht hs hg -- 98
    have hg91 := By.given_get hg 12 rfl rfl (by kernel_rfl)
    refine By.guarded (c := err3 = 0) ((By.want_dec rfl rfl hg91).trans (by simp)) fun hc => ?_
    clear hg91
    have h93 : a.tmps.getD 93 undef = _ := By.when_get hc (By.given_get hg 14 rfl rfl (by kernel_rfl))
    have h97 : a.tmps.getD 97 undef = _ := By.when_get hc (By.given_get hg 18 rfl rfl (by kernel_rfl))
    clear hs hg
    go_simp
    exact ⟨_, rfl, Grew.refl _, congrArg Value.bool (by rw [ByteArray.toList_mk, ByteArray.toList_mk, Hey.out hc]; simp)⟩
  · intro a w ht hs hg -- 99
    have h98w := By.given_get hg 19 rfl rfl (by kernel_rfl)
    have h91 : a.tmps.getD 91 undef = _ := By.given_get hg 12 rfl rfl (by kernel_rfl)
    have hg87 := By.given_get hg 8 rfl rfl (by kernel_rfl)
    refine By.yes (By.want_yes rfl rfl hg87) ?_
    clear hg87
    clear hs hg
    by_cases hc : err3 = 0
    · have h98 : a.tmps.getD 98 undef = _ := By.when_get hc h98w
      clear h98w
      go_simp
      exact ⟨_, rfl, Grew.refl _, rfl⟩
    · clear h98w
      go_simp
      exact ⟨_, rfl, Grew.refl _, rfl⟩
  · intro a w ht hs hg -- 100
    have h87 : a.tmps.getD 87 undef = _ := By.given_get hg 8 rfl rfl (by kernel_rfl)
    have h99 : a.tmps.getD 99 undef = _ := By.given_get hg 20 rfl rfl (by kernel_rfl)
    refine By.yes rfl ?_
    clear hs hg
    go_simp
    exact ⟨_, rfl, Grew.refl _, rfl⟩
  · intro a w ht hs hg -- 4
    have h100 : a.tmps.getD 100 undef = _ := By.given_get hg 21 rfl rfl (by kernel_rfl)
    refine By.yes rfl ?_
    clear hs hg
    go_simp
    exact ⟨_, rfl, Grew.refl _, rfl⟩
  refine By.ends_is (By.ends_is (By.ends_is (By.ends_is (By.ends_is (By.ends_is (By.ends_is (By.ends_is (By.ends_is (By.ends_is (By.ends_is (By.ends_is (By.ends_is (By.ends_skip fun v92 => (By.ends_skip fun v93 => (By.ends_skip fun v94 => (By.ends_skip fun v95 => (By.ends_skip fun v96 => (By.ends_skip fun v97 => (By.ends_skip fun v98 => (By.ends_is (By.ends_is (By.ends_is (By.ends_nil fun w14 hw14 => ?_)))))))))))))))))))))))
  simp only [Act.put, List.setIfInBounds_toArray, List.set_cons_succ, List.set_cons_zero]
  have hb014 := nextB hb013.drew (Nat.le_refl _) hw14
  clear Hst Hsb Hso Hek Hey
  go_wp2
  go_ret
  exact ⟨rfl, hb014⟩

set_option maxRecDepth 100000 in
theorem lift (os : Os) (started : os.Started) (H : Type) (enc : TypeId × Value → H) :
    ReturnsInHanded {} Try.checked os 7 .any (Rows.octetOnlySpec.pre6 enc Try.prog Try.f7 Rows.octetOnlyRow.domain false) (Rows.octetOnlySpec.post enc Try.prog Try.f7 false true false false) := by
  refine Law.lifted (C := Try.checked) 4 own started (by kernel_rfl) Try.func7 laid (by kernel_rfl) rfl Try.underlying4 rfl
    (fun ds hd => by
      have hd' : ds.length = 2 := hd
      match ds, hd' with
      | [d0, d1], _ => rfl)
    (ChangeSpec.witness6 (enc := enc) (C := Try.checked) false ⟨#[], #[.slice none 0 0, .int .i64 0], []⟩ 8 (by kernel_rfl) (by kernel_rfl) (by kernel_rfl) (by kernel_rfl)) ?_
  intro W args ds ps hst
  have hA : DataW.TrodAll enc Try.prog W 0 (fun _ => true) true Try.f7.params.toList args.toList ds ps := hst.trod
  have hok := hst.okw
  have hlt := hst.lt
  rw [Try.params7] at hA hok
  obtain ⟨v0, v1, d0, d1, p0, p1, rfl, rfl, rfl, h0, h1⟩ := trodAll_two hA
  obtain ⟨_, hv0⟩ := hok 0 24 v0 rfl rfl
  obtain ⟨_, hv1⟩ := hok 1 3 v1 rfl rfl
  obtain ⟨l, hb, _⟩ := Law.bytes_at Try.underlying24 hv0 h0 (fun x hx => hlt x (List.mem_append_left _ hx))
  obtain ⟨n, rfl, _, _⟩ := Law.int_at Try.underlying3 hv1 h1
  have hsh := hb
  obtain ⟨A, c, rfl, _⟩ := hsh
  rcases Nat.lt_or_ge 3000 l.length with hl | hl
  · exact long A c l n W hl
  · exact walk A c l n W hb hl

theorem over : Rows.octetOnlyRow.holds Try.pinned (OpenSpec.ofChange Rows.octetOnlySpec) :=
  OpenClaim.holds_of_wide 7 Try.f7 rfl rfl rfl rfl rfl rfl rfl ⟨rfl, rfl, rfl, rfl, rfl⟩ rfl rfl rfl rfl rfl (by kernel_rfl) Try.func7 (by kernel_rfl)
    (of_decide_eq_true (by kernel_rfl)) (by unfold Func.isWrapper; first | (rw [if_pos (by decide +kernel)]; kernel_rfl) | (rw [if_neg (by decide +kernel)]; exact ⟨rfl, rfl⟩))
    (fun os started H enc _ => lift os started H enc)
theorem proved : Rows.OctetOnlySaid := over
#print axioms proved
end Go.Proofs.Ytmfjlcgbanidnaa.octetOnly
