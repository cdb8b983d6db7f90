/- Two numbers that are accepted in either order lead to the same window: 'drawbridgelaw07.WindowCommutes'. -/
import Derived.Test.YtnpmlbpnlflkkaaWinComA
import Derived.Test.YtnpmlbpnlflkkaaWinComB
import Derived.Test.YtnpmlbpnlflkkaaWinComC
import Derived.Test.YtnpmlbpnlflkkaaWinLives
import Derived.Test.YtnpmlbpnlflkkaaWinArgs
import Derived.Test.YtnpmlbpnlflkkaaBy
import Derived.Deep.QuietTactic
import Derived.BigQuiet
namespace Go.Proofs.Ytnpmlbpnlflkkaa.windowCommutes
open Go.ChangeShapes Go.WideShapes Go.ChangeAt Go.RowKit Win


theorem eq_guard (op : BinOp) (hop : op = .eql ∨ op = .neq) (x y : Operand) (a b c d a' b' c' d' : Nat) (W : World) : (eqGuard op 35 x y (wv a b c d) (wv a' b' c' d')).run Try.prog W = .ok () W := by
  have hg : Try.prog.eqGuardType Try.prog.depth 35 = false := by kernel_rfl
  rcases hop with rfl | rfl <;> simp [eqGuard, Sem.run_bind, hg]
theorem eq_same (a b c d : Nat) (W : World) : (binOp .eql 35 (wv a b c d) (wv a b c d)).run Try.prog W = .ok (.bool true) W := by
  go_simp
theorem ne_same (a b c d : Nat) (W : World) : (binOp .neq 35 (wv a b c d) (wv a b c d)).run Try.prog W = .ok (.bool false) W := by
  go_simp
theorem ref_more {f t s l k n : Nat} (h1 : Ok f t s l) (hk : k ≤ 1152921504606846977) (hlk : l < k) (hn : n < l) : ref f t s k n = ref f t s l n := by
  have h2 : Ok f t s k := by obtain ⟨a, b, c, d, e, g⟩ := h1; exact ⟨a, by omega, hk, d, by omega, g⟩
  unfold ref
  simp only [h1, h2, not_true_eq_false, if_false, show ¬ k ≤ n by omega, show ¬ l ≤ n by omega]

theorem all (f t s l n m k : Nat) (w : World) (hF : Fits f t s l) (hn : n < 2 ^ 64) (hm : m < 2 ^ 64) (hk : k < 2 ^ 64) :
    Calls Try.prog 8 #[wv f t s l, .int .u64 (n : Int), .int .u64 (m : Int), .int .u64 (k : Int)] w fun e w' => e = .returned (.bool true) ∧ Below w.heap.size w w' := by
  have FA := tk_fits hF hn
  have FC := tk_fits hF hm
  have HT1 := Lib.hid (fun W : World => Take_any f t s l n W hF hn)
  have HT2 := Lib.hid (fun W : World => Take_any _ _ _ _ m W FA hm)
  have HT3 := Lib.hid (fun W : World => Take_any f t s l m W hF hm)
  have HT4 := Lib.hid (fun W : World => Take_any _ _ _ _ n W FC hn)
  have z : ∀ x : Nat, x = 0 → ((x : Int) == 0) = true := fun x h => by rw [h]; rfl
  have nz : ∀ x : Nat, x ≠ 0 → ((x : Int) == 0) = false := fun x h => by rw [beq_eq_false_iff_ne]; omega
  have z' : ∀ x : Nat, x = 0 → ((x : Int) != 0) = false := fun x h => by rw [h]; rfl
  have nz' : ∀ x : Nat, x ≠ 0 → ((x : Int) != 0) = true := fun x h => by simp only [bne_iff_ne, ne_eq]; omega
  have HS : ∀ l', Hid (∀ W : World, Calls Try.prog 25 #[wv f t s l', .int .u64 (m : Int)] W fun e w' => e = .returned (.bool (Win.seen t s m)) ∧ Below W.heap.size W w') := fun l' W => by
    refine (Seen_any f t s l' m W hF.2.1 hF.2.2.1).mono ?_
    rintro e w' ⟨rfl, rfl⟩
    exact ⟨rfl, (Below.refl _ _).alloc (Nat.le_refl _) _⟩
  -- the five ways of the first half
  have five : ref f t s l n = 0 → ref (tk f t s l n 0) (tk f t s l n 1) (tk f t s l n 2) (tk f t s l n 3) m = 0 → ref f t s l m = 0 → ref (tk f t s l m 0) (tk f t s l m 1) (tk f t s l m 2) (tk f t s l m 3) n = 0 →
      ((n : Int) == (m : Int)) = false ∧ ∀ i, tk (tk f t s l m 0) (tk f t s l m 1) (tk f t s l m 2) (tk f t s l m 3) n i = tk (tk f t s l n 0) (tk f t s l n 1) (tk f t s l n 2) (tk f t s l n 3) m i := by
    intro h1 h2 h3 h4
    refine ⟨?_, fun i => ?_⟩
    · rw [beq_eq_false_iff_ne]
      intro h
      have h : n = m := by omega
      subst h
      have hs := seen_self hF h1
      simp only [tk_ok h1] at h2
      have := (ref_ok h2).2.2.2.2.2.1
      rw [show [f, takeT t n, takeS t s n, l].getD 1 0 = takeT t n from rfl, show [f, takeT t n, takeS t s n, l].getD 2 0 = takeS t s n from rfl] at this
      rw [hs] at this
      cases this
    · rw [tk_ok h2, tk_ok h4]
      simp only [tk_ok h1] at h2 ⊢
      simp only [tk_ok h3] at h4 ⊢
      have e1 := takeT_comm t n m
      have e2 := takeS_comm hF hn hm h1 h2 h3 h4
      simp only [List.getD_cons_zero, List.getD_cons_succ]
      rw [e1, e2]
  by_cases q1 : ref f t s l n = 0
  case neg =>
    by_cases hr : al f t s l k = 0
    · obtain ⟨hok, hk1, hlk⟩ := al_ok hr
      have HA : Hid (∀ W : World, Calls Try.prog 17 #[wv f t s l, .int .u64 (k : Int)] W fun e w' => e = .returned (.tuple #[wv f t s k, .int .i64 (al f t s l k : Int)]) ∧ Below W.heap.size W w') := fun W => by rw [hr]; exact Allow_ok f t s l k W hF hok hk1 hlk
      have FK : Fits f t s k := ⟨hF.1, hF.2.1, hF.2.2.1, hk⟩
      have HT5 := Lib.hid (fun W : World => Take_any f t s k n W FK hn)
      have HJ : Hid (n < l → ref f t s k n = ref f t s l n) := fun h => ref_more hok hk1 hlk h
      by_cases hnl : l ≤ n
      · exact walk1okg _ _ _ _ _ _ _ _ _ _ _ _ _ _ _ _ _ _ _ _ _ _ _ _ _ _ _ _ _ _ _ _ _ _ w HT1 HT2 HT3 HT4 HA HT5 (HS k) (HS l) HJ (nz _ q1) (z' _ hr) (decide_eq_true hnl)
      · by_cases hj : ref f t s k n = 0
        · have h1 : ref f t s l n = 0 := by rw [← ref_more hok hk1 hlk (by omega)]; exact hj
          exact absurd h1 q1
        · exact walk1okj _ _ _ _ _ _ _ _ _ _ _ _ _ _ _ _ _ _ _ _ _ _ _ _ _ _ _ _ _ _ _ _ _ _ w HT1 HT2 HT3 HT4 HA HT5 (HS k) (HS l) HJ (nz _ q1) (z' _ hr) (decide_eq_false hnl) (nz' _ hj)
    · have HA := Lib.hid (fun W : World => Allow_any f t s l k W hF)
      exact walk1no _ _ _ _ _ _ _ _ _ _ _ _ _ _ _ _ _ _ _ _ _ _ _ _ _ _ _ _ _ _ _ _ w HT1 HT2 HT3 HT4 HA (nz _ q1) (nz' _ hr)
  by_cases q2 : ref (tk f t s l n 0) (tk f t s l n 1) (tk f t s l n 2) (tk f t s l n 3) m = 0
  case neg =>
    by_cases hr : al f t s l k = 0
    · obtain ⟨hok, hk1, hlk⟩ := al_ok hr
      have HA : Hid (∀ W : World, Calls Try.prog 17 #[wv f t s l, .int .u64 (k : Int)] W fun e w' => e = .returned (.tuple #[wv f t s k, .int .i64 (al f t s l k : Int)]) ∧ Below W.heap.size W w') := fun W => by rw [hr]; exact Allow_ok f t s l k W hF hok hk1 hlk
      have FK : Fits f t s k := ⟨hF.1, hF.2.1, hF.2.2.1, hk⟩
      have HT5 := Lib.hid (fun W : World => Take_any f t s k n W FK hn)
      have HJ : Hid (n < l → ref f t s k n = ref f t s l n) := fun h => ref_more hok hk1 hlk h
      by_cases hnl : l ≤ n
      · exact walk2okg _ _ _ _ _ _ _ _ _ _ _ _ _ _ _ _ _ _ _ _ _ _ _ _ _ _ _ _ _ _ _ _ _ _ w HT1 HT2 HT3 HT4 HA HT5 (HS k) (HS l) HJ (z _ q1) (nz _ q2) (z' _ hr) (decide_eq_true hnl)
      · by_cases hj : ref f t s k n = 0
        · have h1 : ref f t s l n = 0 := by rw [← ref_more hok hk1 hlk (by omega)]; exact hj
          simp only [tk_ok h1, tk_ok hj, List.getD_cons_zero, List.getD_cons_succ] at HT5 HT1 HT2 q2
          exact walk2oky _ _ _ _ _ _ _ _ _ _ _ _ _ _ _ _ _ _ _ _ _ _ _ _ _ _ _ _ _ _ _ w HT1 HT2 HT3 HT4 HA HT5 (HS k) (HS l) HJ (Lib.hid ⟨fun W => eq_guard _ (.inl rfl) _ _ _ _ _ _ _ _ _ _ W, eq_same _ _ _ _⟩) (z _ q1) (nz _ q2) (z' _ hr) (decide_eq_false hnl) (z' _ hj)
        · exact walk2okj _ _ _ _ _ _ _ _ _ _ _ _ _ _ _ _ _ _ _ _ _ _ _ _ _ _ _ _ _ _ _ _ _ _ w HT1 HT2 HT3 HT4 HA HT5 (HS k) (HS l) HJ (z _ q1) (nz _ q2) (z' _ hr) (decide_eq_false hnl) (nz' _ hj)
    · have HA := Lib.hid (fun W : World => Allow_any f t s l k W hF)
      exact walk2no _ _ _ _ _ _ _ _ _ _ _ _ _ _ _ _ _ _ _ _ _ _ _ _ _ _ _ _ _ _ _ _ w HT1 HT2 HT3 HT4 HA (z _ q1) (nz _ q2) (nz' _ hr)
  by_cases q3 : ref f t s l m = 0
  case neg =>
    by_cases hr : al f t s l k = 0
    · obtain ⟨hok, hk1, hlk⟩ := al_ok hr
      have HA : Hid (∀ W : World, Calls Try.prog 17 #[wv f t s l, .int .u64 (k : Int)] W fun e w' => e = .returned (.tuple #[wv f t s k, .int .i64 (al f t s l k : Int)]) ∧ Below W.heap.size W w') := fun W => by rw [hr]; exact Allow_ok f t s l k W hF hok hk1 hlk
      have FK : Fits f t s k := ⟨hF.1, hF.2.1, hF.2.2.1, hk⟩
      have HT5 := Lib.hid (fun W : World => Take_any f t s k n W FK hn)
      have HJ : Hid (n < l → ref f t s k n = ref f t s l n) := fun h => ref_more hok hk1 hlk h
      by_cases hnl : l ≤ n
      · exact walk3okg _ _ _ _ _ _ _ _ _ _ _ _ _ _ _ _ _ _ _ _ _ _ _ _ _ _ _ _ _ _ _ _ _ _ w HT1 HT2 HT3 HT4 HA HT5 (HS k) (HS l) HJ (z _ q1) (z _ q2) (nz _ q3) (z' _ hr) (decide_eq_true hnl)
      · by_cases hj : ref f t s k n = 0
        · have h1 : ref f t s l n = 0 := by rw [← ref_more hok hk1 hlk (by omega)]; exact hj
          simp only [tk_ok h1, tk_ok hj, List.getD_cons_zero, List.getD_cons_succ] at HT5 HT1 HT2 q2
          exact walk3oky _ _ _ _ _ _ _ _ _ _ _ _ _ _ _ _ _ _ _ _ _ _ _ _ _ _ _ _ _ _ _ w HT1 HT2 HT3 HT4 HA HT5 (HS k) (HS l) HJ (Lib.hid ⟨fun W => eq_guard _ (.inl rfl) _ _ _ _ _ _ _ _ _ _ W, eq_same _ _ _ _⟩) (z _ q1) (z _ q2) (nz _ q3) (z' _ hr) (decide_eq_false hnl) (z' _ hj)
        · exact walk3okj _ _ _ _ _ _ _ _ _ _ _ _ _ _ _ _ _ _ _ _ _ _ _ _ _ _ _ _ _ _ _ _ _ _ w HT1 HT2 HT3 HT4 HA HT5 (HS k) (HS l) HJ (z _ q1) (z _ q2) (nz _ q3) (z' _ hr) (decide_eq_false hnl) (nz' _ hj)
    · have HA := Lib.hid (fun W : World => Allow_any f t s l k W hF)
      exact walk3no _ _ _ _ _ _ _ _ _ _ _ _ _ _ _ _ _ _ _ _ _ _ _ _ _ _ _ _ _ _ _ _ w HT1 HT2 HT3 HT4 HA (z _ q1) (z _ q2) (nz _ q3) (nz' _ hr)
  by_cases q4 : ref (tk f t s l m 0) (tk f t s l m 1) (tk f t s l m 2) (tk f t s l m 3) n = 0
  case neg =>
    by_cases hr : al f t s l k = 0
    · obtain ⟨hok, hk1, hlk⟩ := al_ok hr
      have HA : Hid (∀ W : World, Calls Try.prog 17 #[wv f t s l, .int .u64 (k : Int)] W fun e w' => e = .returned (.tuple #[wv f t s k, .int .i64 (al f t s l k : Int)]) ∧ Below W.heap.size W w') := fun W => by rw [hr]; exact Allow_ok f t s l k W hF hok hk1 hlk
      have FK : Fits f t s k := ⟨hF.1, hF.2.1, hF.2.2.1, hk⟩
      have HT5 := Lib.hid (fun W : World => Take_any f t s k n W FK hn)
      have HJ : Hid (n < l → ref f t s k n = ref f t s l n) := fun h => ref_more hok hk1 hlk h
      by_cases hnl : l ≤ n
      · exact walk4okg _ _ _ _ _ _ _ _ _ _ _ _ _ _ _ _ _ _ _ _ _ _ _ _ _ _ _ _ _ _ _ _ _ _ w HT1 HT2 HT3 HT4 HA HT5 (HS k) (HS l) HJ (z _ q1) (z _ q2) (z _ q3) (nz _ q4) (z' _ hr) (decide_eq_true hnl)
      · by_cases hj : ref f t s k n = 0
        · have h1 : ref f t s l n = 0 := by rw [← ref_more hok hk1 hlk (by omega)]; exact hj
          simp only [tk_ok h1, tk_ok hj, List.getD_cons_zero, List.getD_cons_succ] at HT5 HT1 HT2 q2
          exact walk4oky _ _ _ _ _ _ _ _ _ _ _ _ _ _ _ _ _ _ _ _ _ _ _ _ _ _ _ _ _ _ _ w HT1 HT2 HT3 HT4 HA HT5 (HS k) (HS l) HJ (Lib.hid ⟨fun W => eq_guard _ (.inl rfl) _ _ _ _ _ _ _ _ _ _ W, eq_same _ _ _ _⟩) (z _ q1) (z _ q2) (z _ q3) (nz _ q4) (z' _ hr) (decide_eq_false hnl) (z' _ hj)
        · exact walk4okj _ _ _ _ _ _ _ _ _ _ _ _ _ _ _ _ _ _ _ _ _ _ _ _ _ _ _ _ _ _ _ _ _ _ w HT1 HT2 HT3 HT4 HA HT5 (HS k) (HS l) HJ (z _ q1) (z _ q2) (z _ q3) (nz _ q4) (z' _ hr) (decide_eq_false hnl) (nz' _ hj)
    · have HA := Lib.hid (fun W : World => Allow_any f t s l k W hF)
      exact walk4no _ _ _ _ _ _ _ _ _ _ _ _ _ _ _ _ _ _ _ _ _ _ _ _ _ _ _ _ _ _ _ _ w HT1 HT2 HT3 HT4 HA (z _ q1) (z _ q2) (z _ q3) (nz _ q4) (nz' _ hr)
  obtain ⟨q5, hbd⟩ := five q1 q2 q3 q4
  have HT4' := HT4
  simp only [hbd] at HT4'
  by_cases hr : al f t s l k = 0
  · obtain ⟨hok, hk1, hlk⟩ := al_ok hr
    have HA : Hid (∀ W : World, Calls Try.prog 17 #[wv f t s l, .int .u64 (k : Int)] W fun e w' => e = .returned (.tuple #[wv f t s k, .int .i64 (al f t s l k : Int)]) ∧ Below W.heap.size W w') := fun W => by rw [hr]; exact Allow_ok f t s l k W hF hok hk1 hlk
    have FK : Fits f t s k := ⟨hF.1, hF.2.1, hF.2.2.1, hk⟩
    have HT5 := Lib.hid (fun W : World => Take_any f t s k n W FK hn)
    have HJ : Hid (n < l → ref f t s k n = ref f t s l n) := fun h => ref_more hok hk1 hlk h
    by_cases hnl : l ≤ n
    · exact walk5okg _ _ _ _ _ _ _ _ _ _ _ _ _ _ _ _ _ _ _ _ _ _ _ _ _ _ _ _ _ _ w HT1 HT2 HT3 HT4' HA HT5 (HS k) (HS l) HJ (z _ q1) (z _ q2) (z _ q3) (z _ q4) q5 (z' _ hr) (decide_eq_true hnl) (Lib.hid ⟨fun W => eq_guard _ (.inr rfl) _ _ _ _ _ _ _ _ _ _ W, ne_same _ _ _ _⟩)
    · by_cases hj : ref f t s k n = 0
      · have h1 : ref f t s l n = 0 := by rw [← ref_more hok hk1 hlk (by omega)]; exact hj
        simp only [tk_ok h1, tk_ok hj, List.getD_cons_zero, List.getD_cons_succ] at HT5 HT1 HT2 q2 HT4'
        exact walk5oky _ _ _ _ _ _ _ _ _ _ _ _ _ _ _ _ _ _ _ _ _ _ _ _ _ _ _ w HT1 HT2 HT3 HT4' HA HT5 (HS k) (HS l) HJ (Lib.hid ⟨fun W => eq_guard _ (.inl rfl) _ _ _ _ _ _ _ _ _ _ W, eq_same _ _ _ _⟩) (z _ q1) (z _ q2) (z _ q3) (z _ q4) q5 (z' _ hr) (decide_eq_false hnl) (z' _ hj) (Lib.hid ⟨fun W => eq_guard _ (.inr rfl) _ _ _ _ _ _ _ _ _ _ W, ne_same _ _ _ _⟩)
      · exact walk5okj _ _ _ _ _ _ _ _ _ _ _ _ _ _ _ _ _ _ _ _ _ _ _ _ _ _ _ _ _ _ w HT1 HT2 HT3 HT4' HA HT5 (HS k) (HS l) HJ (z _ q1) (z _ q2) (z _ q3) (z _ q4) q5 (z' _ hr) (decide_eq_false hnl) (nz' _ hj) (Lib.hid ⟨fun W => eq_guard _ (.inr rfl) _ _ _ _ _ _ _ _ _ _ W, ne_same _ _ _ _⟩)
  · have HA := Lib.hid (fun W : World => Allow_any f t s l k W hF)
    exact walk5no _ _ _ _ _ _ _ _ _ _ _ _ _ _ _ _ _ _ _ _ _ _ _ _ _ _ _ _ w HT1 HT2 HT3 HT4' HA (z _ q1) (z _ q2) (z _ q3) (z _ q4) q5 (nz' _ hr) (Lib.hid ⟨fun W => eq_guard _ (.inr rfl) _ _ _ _ _ _ _ _ _ _ W, ne_same _ _ _ _⟩)

set_option maxRecDepth 100000 in
theorem lift (os : Os) (started : os.Started) (H : Type) (enc : TypeId × Value → H) :
    ReturnsInHanded {} Try.checked os 8 .any (Rows.windowCommutesSpec.pre6 enc Try.prog Try.f8 Rows.windowCommutesRow.domain false) (Rows.windowCommutesSpec.post enc Try.prog Try.f8 false true false false) := by
  refine Law.lifted (C := Try.checked) 4 own started (by kernel_rfl) Try.func8 laid (by kernel_rfl) rfl Try.underlying4 rfl
    (fun ds hd => by
      have hd' : ds.length = 4 := hd
      match ds, hd' with
      | [d0, d1, d2, d3], _ => rfl)
    (ChangeSpec.witness6 (enc := enc) (C := Try.checked) false ⟨#[], #[.agg #[.int .u64 0, .int .u64 0, .int .u64 0, .int .u64 0], .int .u64 0, .int .u64 0, .int .u64 0], []⟩ 8 (by kernel_rfl) (by kernel_rfl) (by kernel_rfl) (by kernel_rfl)) ?_
  intro W args ds ps hst
  have hA : DataW.TrodAll enc Try.prog W 0 (fun _ => true) true Try.f8.params.toList args.toList ds ps := hst.trod
  have hok := hst.okw
  have hlt := hst.lt
  rw [Try.params8] at hA hok
  obtain ⟨v0, v1, v2, v3, d0, d1, d2, d3, p0, p1, p2, p3, rfl, rfl, rfl, h0, h1, h2, h3⟩ := trodAll_four hA
  obtain ⟨_, hv0⟩ := hok 0 35 v0 rfl rfl
  obtain ⟨_, hv1⟩ := hok 1 24 v1 rfl rfl
  obtain ⟨_, hv2⟩ := hok 2 24 v2 rfl rfl
  obtain ⟨_, hv3⟩ := hok 3 24 v3 rfl rfl
  obtain ⟨f, t, s, l, rfl, hf, ht, hs, hl⟩ := quad64_at Try.underlying35 (by kernel_rfl) (by kernel_rfl) Try.underlying24 hv0
  obtain ⟨n, rfl, n0', n1'⟩ := Law.int_at Try.underlying24 hv1 h1
  obtain ⟨m, rfl, m0', m1'⟩ := Law.int_at Try.underlying24 hv2 h2
  obtain ⟨k, rfl, k0', k1'⟩ := Law.int_at Try.underlying24 hv3 h3
  have n0 : (0 : Int) ≤ n := n0'
  have n1 : n ≤ 18446744073709551615 := n1'
  have m0 : (0 : Int) ≤ m := m0'
  have m1 : m ≤ 18446744073709551615 := m1'
  have k0 : (0 : Int) ≤ k := k0'
  have k1 : k ≤ 18446744073709551615 := k1'
  obtain ⟨n, rfl⟩ := Int.eq_ofNat_of_zero_le n0
  obtain ⟨m, rfl⟩ := Int.eq_ofNat_of_zero_le m0
  obtain ⟨k, rfl⟩ := Int.eq_ofNat_of_zero_le k0
  exact all f t s l n m k W ⟨hf, ht, hs, hl⟩ (by omega) (by omega) (by omega)

theorem over : Rows.windowCommutesRow.holds Try.pinned (OpenSpec.ofChange Rows.windowCommutesSpec) :=
  OpenClaim.holds_of_wide 8 Try.f8 rfl rfl rfl rfl rfl rfl rfl ⟨rfl, rfl, rfl, rfl, rfl⟩ rfl rfl rfl rfl rfl (by kernel_rfl) Try.func8 (by kernel_rfl)
    (of_decide_eq_true (by kernel_rfl)) (by unfold Func.isWrapper; first | (rw [if_pos (by decide +kernel)]; kernel_rfl) | (rw [if_neg (by decide +kernel)]; exact ⟨rfl, rfl⟩))
    (fun os started H enc _ => lift os started H enc)
theorem proved : Rows.WindowCommutesSaid := over
#print axioms proved
end Go.Proofs.Ytnpmlbpnlflkkaa.windowCommutes

