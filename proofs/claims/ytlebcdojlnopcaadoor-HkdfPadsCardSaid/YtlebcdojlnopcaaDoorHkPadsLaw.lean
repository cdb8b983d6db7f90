/- What follows the bytes is what the document says, for whatever length (greater ones as 2^50): 'drawbridgelaw05.HkdfPads'. -/
import Derived.Test.YtlebcdojlnopcaaDoorHkPads
import Derived.Test.YtlebcdojlnopcaaDoorHkLaw
import Derived.Deep.RegionWith
namespace Go.Proofs.YtlebcdojlnopcaaDoor.hkdfPads
open Go.ChangeShapes Go.WideShapes Go.ChangeAt Go.RowKit
theorem Pad_all (z : Int) (n : Nat) (hz : (z ≤ 0 ∧ n = 0) ∨ (z = (n : Int) ∧ 0 < n)) (hn : n ≤ 1125899906842624) (w : World) : Calls Tryd.prog 12 #[.int .i64 z] w fun e w' => e = .returned (.slice (some ⟨w.heap.size, 0, none⟩) (Sha.zerosOf n + 9) (Sha.zerosOf n + 9)) ∧ Row w' w.heap.size ((Sha.pad n).map bv) 5 ∧ Below w.heap.size w w' := by
  rcases hz with ⟨h, rfl⟩ | ⟨rfl, _⟩
  · rcases Int.lt_or_eq_of_le h with h1 | rfl
    · exact Pad_neg z h1 w
    · exact Pad_any 0 hn w
  · exact Pad_any n hn w
set_option maxRecDepth 8000 in
set_option maxHeartbeats 800000 in
theorem walk (z : Int) (w : World) (ht : Tab w) : Calls Tryd.prog 5 #[.int .i64 z] w fun e w' => e = .returned (.bool true) ∧ Below w.heap.size w w' := by
  have hlv := lives_any w ht
  have Hlv := Lib.hid hlv
  clear hlv ht
  obtain ⟨z', hmin⟩ : ∃ z' : Int, (if (1125899906842624 : Int) < z then (1125899906842624 : Int) else z) = z' := ⟨_, rfl⟩
  have hmin2 : (if z < (1125899906842624 : Int) then z else (1125899906842624 : Int)) = z' := by
    rw [← hmin]
    by_cases h : z < 1125899906842624
    · rw [if_pos h, if_neg (by omega)]
    · rcases Int.lt_or_eq_of_le (Int.not_lt.1 h) with h1 | h1
      · rw [if_neg h, if_pos h1]
      · rw [if_neg h, if_neg (by omega), h1]
  obtain ⟨n, hzn, hn, hmx⟩ : ∃ n : Nat, ((z' ≤ 0 ∧ n = 0) ∨ (z' = (n : Int) ∧ 0 < n)) ∧ n ≤ 1125899906842624 ∧ (if (0 : Int) < z' then z' else 0) = (n : Int) := by
    have hle : z' ≤ 1125899906842624 := by rw [← hmin]; split <;> omega
    by_cases h : 0 < z'
    · exact ⟨z'.toNat, .inr ⟨by omega, by omega⟩, by omega, by rw [if_pos h]; omega⟩
    · exact ⟨0, .inl ⟨by omega, rfl⟩, by omega, by rw [if_neg h]; rfl⟩
  obtain ⟨M, hM⟩ : ∃ M : Int, (n : Int) = M := ⟨_, rfl⟩
  rw [hM] at hmx
  have Hn := Lib.hid (And.intro hzn hn)
  clear hzn hn
  go_enter Tryd.func5, Tryd.ntmps5
  go_wp2_with fail
  refine Hlv.out.mono ?_
  rintro e w1 ⟨rfl, hb1⟩
  have HB1 := Lib.hid hb1
  clear hb1
  go_wp2_with fail
  refine (Pad_all z' n Hn.out.1 Hn.out.2 w1).mono ?_
  rintro e w2 ⟨rfl, hr2, hb2⟩
  obtain ⟨L, hL⟩ : ∃ L, Sha.zerosOf n + 9 = L := ⟨_, rfl⟩
  have hLz := Sha.zerosOf_is n
  have hpl : (Sha.pad n).length = L := by rw [Sha.pad_length]; exact hL
  have hbs2 : Bs w2 w2.heap.size (.slice (some ⟨w1.heap.size, 0, none⟩) L L) (Sha.pad n) := by
    have h1 := hr2.bs (B := w2.heap.size) hr2.lt
    rwa [hpl] at h1
  have hc2 : w2.cell? ⟨w1.heap.size, 0, none⟩ = some (.int .u8 128) := hr2.cell rfl
  rw [hL]
  have hnn := Hn.out.2
  have hq0 : (M + (L : Int)) % 64 = 0 := by
    have h := hLz.1
    omega
  have hw1 : IntKind.i64.wrap (M + (L : Int)) = M + (L : Int) := IntWalk.i64_in _ (by omega)
  have h9 : decide ((9 : Int) ≤ (L : Int)) = true := decide_eq_true (by omega)
  have h72 : decide ((L : Int) ≤ 72) = true := decide_eq_true (by omega)
  have hL0 : (0 : Int) < (L : Int) := by omega
  obtain ⟨P, hP⟩ : ∃ P, Sha.pad n = P := ⟨_, rfl⟩
  rw [hP] at hbs2
  have HP := Lib.hid hP
  have Hbs2 := Lib.hid hbs2
  have Hc2 := Lib.hid hc2
  have Hlt2 := Lib.hid hr2.lt
  have HB2 := Lib.hid (nextB HB1.out (Nat.le_refl _) hb2)
  have hml : (.slice (some ⟨w1.heap.size, 0, none⟩) L L : Value) = .slice (some ⟨w1.heap.size, 0, none⟩) L L := rfl
  clear hL hLz hpl hbs2 hc2 hP hr2 hb2 hmin hmin2 hM hnn hml
  go_wp2_with fail
  refine Tail.marksAt Pol.mixed 11 Grew [By.is (.slice (some ⟨w1.heap.size, 0, none⟩) L L),
    By.is (strOf P),
    By.is (.int .i64 z'),
    ownM 0 P,
    By.is (strOf P),
    By.is (.bool true),
    By.is (.bool true),
    By.is (.int .i64 z'),
    By.is (.int .i64 M),
    By.is (.slice (some ⟨w1.heap.size, 0, none⟩) L L),
    By.is (.int .i64 (L : Int))]
    (Ev.masks _ []) (Nat.zero_lt_succ _) (by kernel_rfl) (by kernel_rfl) rfl Grew.refl Grew.trans ⟨?_, ?_, ?_, ?_, ?_, ?_, ?_, ?_, ?_, ?_, ?_, trivial⟩ ?_
  · intro a w ht hs hg -- 10
    have h3 := By.same_get hs 3 (by decide) (by kernel_rfl)
    refine By.yes rfl ?_
    clear hs hg
    go_simp
    exact ⟨_, rfl, Grew.refl _, rfl⟩
  · intro a w ht hs hg -- 11
    have h10 : a.tmps.getD 10 undef = _ := By.given_get hg 0 rfl rfl (by kernel_rfl)
    refine By.yes rfl ?_
    clear hs hg
    have hr := run_str w (Bs.below (w := w2.drew) Hbs2.out ht)
    go_simp
    exact ⟨_, rfl, Grew.refl _, rfl⟩
  · intro a w ht hs hg -- 12
    have h0 := By.same_get hs 0 (by decide) (by kernel_rfl)
    refine By.yes rfl ?_
    clear hs hg
    go_simp
    exact ⟨_, rfl, Grew.refl _, rfl⟩
  · intro a w ht hs hg -- 13
    have h12 : a.tmps.getD 12 undef = _ := By.given_get hg 2 rfl rfl (by kernel_rfl)
    refine By.yes rfl ?_
    clear hs hg
    go_simp
    refine (RPad_at z' n Hn.out.1 Hn.out.2 w).mono ?_
    rintro e w' ⟨v, rfl, ho, hb⟩
    rw [HP.out] at ho
    exact ⟨_, rfl, hb, ho.less (Nat.zero_le _)⟩
  · intro a w ht hs hg -- 14
    have h13 := By.given_get hg 3 rfl rfl (by kernel_rfl)
    refine By.yes rfl ?_
    obtain ⟨v13, hv13⟩ : ∃ v, a.tmps.getD 13 undef = v := ⟨_, rfl⟩
    replace h13 := (congrArg (fun v => (ownM 0 P).on v w) hv13).mp h13
    clear hs hg
    have hr := run_str w (Own.bs h13)
    go_simp
    exact ⟨_, rfl, Grew.refl _, rfl⟩
  · intro a w ht hs hg -- 15
    have h11 : a.tmps.getD 11 undef = _ := By.given_get hg 1 rfl rfl (by kernel_rfl)
    have h14 : a.tmps.getD 14 undef = _ := By.given_get hg 4 rfl rfl (by kernel_rfl)
    refine By.yes rfl ?_
    clear hs hg
    go_simp
    exact ⟨_, rfl, Grew.refl _, congrArg Value.bool (by simp)⟩
  · intro a w ht hs hg -- 16
    have h15 : a.tmps.getD 15 undef = _ := By.given_get hg 5 rfl rfl (by kernel_rfl)
    refine By.yes rfl ?_
    clear hs hg
    go_simp
    exact ⟨_, rfl, Grew.refl _, rfl⟩
  · intro a w ht hs hg -- 17
    have h0 := By.same_get hs 0 (by decide) (by kernel_rfl)
    have hg16 := By.given_get hg 6 rfl rfl (by kernel_rfl)
    refine By.yes (By.want_yes rfl rfl hg16) ?_
    clear hg16 hs hg
    go_simp
    exact ⟨_, rfl, Grew.refl _, rfl⟩
  · intro a w ht hs hg -- 18
    have h17 : a.tmps.getD 17 undef = _ := By.given_get hg 7 rfl rfl (by kernel_rfl)
    have hg16 := By.given_get hg 6 rfl rfl (by kernel_rfl)
    refine By.yes (By.want_yes rfl rfl hg16) ?_
    clear hg16 hs hg
    go_simp
    exact ⟨_, rfl, Grew.refl _, rfl⟩
  · intro a w ht hs hg -- 19
    have h3 := By.same_get hs 3 (by decide) (by kernel_rfl)
    have hg16 := By.given_get hg 6 rfl rfl (by kernel_rfl)
    refine By.yes (By.want_yes rfl rfl hg16) ?_
    clear hg16 hs hg
    go_simp
    exact ⟨_, rfl, Grew.refl _, rfl⟩
  · intro a w ht hs hg -- 20
    have h19 : a.tmps.getD 19 undef = _ := By.given_get hg 9 rfl rfl (by kernel_rfl)
    have hg16 := By.given_get hg 6 rfl rfl (by kernel_rfl)
    refine By.yes (By.want_yes rfl rfl hg16) ?_
    clear hg16 hs hg
    go_simp
    exact ⟨_, rfl, Grew.refl _, rfl⟩
  generalize hLd : List.drop 11 _ = Ld
  refine By.ends_is ?_
  refine By.ends_is ?_
  refine By.ends_is ?_
  refine By.ends_skip fun v13 => ?_
  refine By.ends_is ?_
  refine By.ends_is ?_
  refine By.ends_is ?_
  refine By.ends_is ?_
  refine By.ends_is ?_
  refine By.ends_is ?_
  refine By.ends_is ?_
  refine By.ends_nil fun w9 hw9 => ?_
  subst hLd
  simp only [Act.put, List.setIfInBounds_toArray, List.set_cons_succ, List.set_cons_zero]
  simp only [List.drop_succ_cons, List.drop_zero]
  have hb29 : Below w2.heap.size w2 w9 := ⟨hw9.os, hw9.tape, hw9.output, hw9.size, hw9.block⟩
  have hc9 : w9.cell? ⟨w1.heap.size, 0, none⟩ = some (.int .u8 128) := (hb29.cell (p := ⟨w1.heap.size, 0, none⟩) Hlt2.out).trans Hc2.out
  have HB3 := Lib.hid (nextB HB2.out (Nat.le_refl _) hb29)
  clear hw9 hb29
  unfold strOf
  go_wp2
  go_ret
  exact ⟨rfl, HB3.out⟩

set_option maxRecDepth 100000 in
theorem lift (os : Os) (started : os.Started) (H : Type) (enc : TypeId × Value → H) :
    ReturnsInHanded {} Tryd.checked os 5 .any (fun w args => (Rows.hkdfPadsSpec.pre enc Tryd.prog Tryd.f5 Rows.hkdfPadsRow.domain false w args ∧ laidMetH Tryd.prog Hk.laidL w) ∧ sizedMet enc Tryd.prog Tryd.f5 (OpenSpec.ofChange Rows.hkdfPadsSpec) false w args) (Rows.hkdfPadsSpec.post enc Tryd.prog Tryd.f5 false true false false) := by
  refine Hk.lifted 4 Pol.own started (by kernel_rfl) Tryd.func5 Pol.laid (by kernel_rfl) rfl Tryd.underlying4 rfl
    (fun ds hd => by
      have hd' : ds.length = 1 := hd
      match ds, hd' with
      | [d0], _ => rfl)
    (ChangeSpec.witness_at (enc := enc) (C := Tryd.checked) (os := os) (X := fun w _ => laidMetH Tryd.prog Hk.laidL w) false (Hk.laidWorld os) #[.int .i64 0] 8 rfl (by kernel_rfl) (by kernel_rfl) (by kernel_rfl) (by kernel_rfl) (by kernel_rfl) (Hk.laid_metH os _)) ?_
  intro W args ds ps hst htab
  have hA : DataW.TrodAll enc Tryd.prog W 0 (fun _ => true) true Tryd.f5.params.toList args.toList ds ps := hst.trod
  have hok := hst.okw
  have hlt := hst.lt
  rw [Tryd.params5] at hA hok
  obtain ⟨v0, d0, rfl, rfl, h0⟩ := trodAll_one hA
  obtain ⟨_, hv0⟩ := hok 0 2 v0 rfl rfl
  obtain ⟨z, rfl, _⟩ := Law.int_at Tryd.underlying2 hv0 h0
  exact walk z W htab

theorem over : Rows.hkdfPadsRow.holds Tryd.pinned (OpenSpec.ofChange Rows.hkdfPadsSpec) :=
  OpenClaim.holds_of_wide 5 Tryd.f5 rfl rfl rfl rfl rfl rfl rfl ⟨rfl, rfl, rfl, rfl, rfl⟩ rfl rfl rfl rfl rfl (by kernel_rfl) Tryd.func5 (by kernel_rfl)
    (of_decide_eq_true (by kernel_rfl)) (by unfold Func.isWrapper; first | (rw [if_pos (by decide +kernel)]; kernel_rfl) | (rw [if_neg (by decide +kernel)]; exact ⟨rfl, rfl⟩))
    (fun os started H enc _ => lift os started H enc)
theorem proved : Rows.HkdfPadsCardSaid :=
  Claim7.holds_tied_plain_at .later [] [.data] true Rows.hkdfPadsCard.stood.harness false over (fun _ h => by cases h) (by kernel_rfl) (fun _ h => by cases h) hkdfPads_row_tie rfl ⟨rfl, rfl⟩ (by kernel_rfl) rfl
    (fun f fn hf hfn => by
      obtain rfl : f = 5 := (Option.some.inj ((show Tryd.prog.funcNamed Rows.hkdfPadsRow.func = some 5 by kernel_rfl).symm.trans hf)).symm
      obtain rfl : fn = Tryd.f5 := (Option.some.inj (Tryd.func5.symm.trans hfn)).symm
      refine ⟨by kernel_rfl, fun j t ht => ?_⟩
      have hall : (Tryd.f5.params.toList.all fun t => Tryd.prog.wantsStandIn t == false) = true := by kernel_rfl
      have h := List.all_eq_true.1 hall t (Array.mem_toList_iff.2 (Array.mem_of_getElem? ht))
      exact eq_of_beq h)
    (by kernel_rfl)
#print axioms proved
end Go.Proofs.YtlebcdojlnopcaaDoor.hkdfPads
