/- lease: the reference's calls. -/
import Derived.Test.YtndpobibjgcefaaLeaCodec
namespace Go.Proofs.Ytndpobibjgcefaa.Lea
open Go.RowKit

theorem RCheck_ok (n l : Nat) (w : World) (h : Ok n l) : Calls Try.prog 27 #[cv n l] w fun e w' => e = .returned (.int .i64 0) ∧ w' = co w n l := by
  obtain ⟨h1, h2, h3⟩ := h
  have e1 : ¬ (1152921504606846976 : Int) < (l : Int) := by omega
  have e2 : ¬ (n : Int) < 1 := by omega
  have e3 : ¬ (l : Int) + 1 < (n : Int) := by omega
  have e4 : IntKind.u64.wrap ((l : Int) + 1) = (l : Int) + 1 := wrap_in _ (by omega) (by omega)
  clear h1 h2 h3
  go_enter Try.func27, Try.ntmps27
  go_wp2
  go_ret
  exact ⟨rfl, rfl⟩
theorem RCheck_no (n l : Nat) (w : World) (hl : l < 2 ^ 64) (h : ¬ Ok n l) : Calls Try.prog 27 #[cv n l] w fun e w' => e = .returned (.int .i64 2) ∧ w' = co w n l := by
  unfold Ok at h
  by_cases h2 : (n : Int) < 1
  · clear h hl
    go_enter Try.func27, Try.ntmps27
    go_wp2
    go_ret
    exact ⟨rfl, rfl⟩
  · by_cases h1 : (1152921504606846976 : Int) < (l : Int)
    · clear h hl
      go_enter Try.func27, Try.ntmps27
      go_wp2
      go_ret
      exact ⟨rfl, rfl⟩
    · have h3 : (l : Int) + 1 < (n : Int) := by omega
      have e4 : IntKind.u64.wrap ((l : Int) + 1) = (l : Int) + 1 := wrap_in _ (by omega) (by omega)
      clear h hl
      go_enter Try.func27, Try.ntmps27
      go_wp2
      go_ret
      exact ⟨rfl, rfl⟩
theorem RLeft_ok (n l : Nat) (w : World) (h : Ok n l) : Calls Try.prog 28 #[cv n l] w fun e w' => e = .returned (.int .u64 ((l + 1 - n : Nat) : Int)) ∧ Below w.heap.size w w' := by
  have H := Lib.hid h
  obtain ⟨h1, h2, h3⟩ := h
  have e4 : IntKind.u64.wrap ((l : Int) + 1) = (l : Int) + 1 := wrap_in _ (by omega) (by omega)
  have e5 : IntKind.u64.wrap ((l : Int) + 1 - (n : Int)) = ((l + 1 - n : Nat) : Int) := by rw [wrap_in _ (by omega) (by omega)]; omega
  clear h1 h2 h3
  go_enter Try.func28, Try.ntmps28
  go_wp2_with (go_at_call 27; refine (RCheck_ok _ _ _ H.out).mono ?_; rintro e w' ⟨rfl, rfl⟩)
  go_ret
  exact ⟨rfl, (by repeat (first | exact Below.refl _ _ | refine Below.alloc ?_ (by simp <;> omega) _))⟩
theorem RLeft_no (n l : Nat) (w : World) (hl : l < 2 ^ 64) (h : ¬ Ok n l) : Calls Try.prog 28 #[cv n l] w fun e w' => e = .returned (.int .u64 0) ∧ Below w.heap.size w w' := by
  have H := Lib.hid h
  have HL := Lib.hid hl
  clear h hl
  go_enter Try.func28, Try.ntmps28
  go_wp2_with (go_at_call 27; refine (RCheck_no _ _ _ HL.out H.out).mono ?_; rintro e w' ⟨rfl, rfl⟩)
  go_ret
  exact ⟨rfl, (by repeat (first | exact Below.refl _ _ | refine Below.alloc ?_ (by simp <;> omega) _))⟩
theorem RTake_no (n l : Nat) (w : World) (hl : l < 2 ^ 64) (h : ¬ Ok n l) : Calls Try.prog 13 #[cv n l] w fun e w' => e = .returned (.tuple #[.int .u64 0, cv 0 0, .int .i64 2]) ∧ Below w.heap.size w w' := by
  have H := Lib.hid h
  have HL := Lib.hid hl
  clear h hl
  go_enter Try.func13, Try.ntmps13
  go_wp2_with (first
    | (go_at_call 27; refine (RCheck_no _ _ _ HL.out H.out).mono ?_; rintro e w' ⟨rfl, rfl⟩))
  refine bodyPost_ret (results_tct (t' := 24) (cs := [.int .u64 0, .int .u64 0]) rfl rfl (by repeat (first | exact Row.new rfl rfl | (refine Row.new ?_ rfl; simp; done) | refine Row.alloc ?_ _)) Try.underlying24 rfl (by kernel_rfl) rfl) rfl ?_
  exact ⟨rfl, (by repeat (first | exact Below.refl _ _ | refine Below.alloc ?_ (by simp <;> omega) _))⟩
theorem RTake_none (n l : Nat) (w : World) (h : Ok n l) (hn : n = l + 1) : Calls Try.prog 13 #[cv n l] w fun e w' => e = .returned (.tuple #[.int .u64 0, cv 0 0, .int .i64 6]) ∧ Below w.heap.size w w' := by
  have H := Lib.hid h
  have hz : (l : Int) < (n : Int) := by omega
  clear h hn
  go_enter Try.func13, Try.ntmps13
  go_wp2_with (first
    | (go_at_call 27; refine (RCheck_ok _ _ _ H.out).mono ?_; rintro e w' ⟨rfl, rfl⟩))
  refine bodyPost_ret (results_tct (t' := 24) (cs := [.int .u64 0, .int .u64 0]) rfl rfl (by repeat (first | exact Row.new rfl rfl | (refine Row.new ?_ rfl; simp; done) | refine Row.alloc ?_ _)) Try.underlying24 rfl (by kernel_rfl) rfl) rfl ?_
  exact ⟨rfl, (by repeat (first | exact Below.refl _ _ | refine Below.alloc ?_ (by simp <;> omega) _))⟩
theorem RTake_ok (n l : Nat) (w : World) (h : Ok n l) (hn : n ≤ l) : Calls Try.prog 13 #[cv n l] w fun e w' => e = .returned (.tuple #[.int .u64 (n : Int), cv (n + 1) l, .int .i64 0]) ∧ Below w.heap.size w w' := by
  have H := Lib.hid h
  have hz : ¬ (l : Int) < (n : Int) := by omega
  have e4 : IntKind.u64.wrap ((n : Int) + 1) = ((n + 1 : Nat) : Int) := by unfold Ok at h; rw [wrap_in _ (by omega) (by omega)]; omega
  clear h hn
  go_enter Try.func13, Try.ntmps13
  go_wp2_with (first
    | (go_at_call 27; refine (RCheck_ok _ _ _ H.out).mono ?_; rintro e w' ⟨rfl, rfl⟩))
  obtain ⟨V, hV⟩ : ∃ V, co ((w.alloc (.cells #[.int .u64 (n : Int), .int .u64 (l : Int)] 24)).alloc (.cells #[.int .u64 0, .int .u64 0] 24)) n l = V := ⟨_, rfl⟩
  rw [hV]
  have r0 : Row V w.heap.size [.int .u64 (n : Int), .int .u64 (l : Int)] 24 := by rw [← hV]; exact ((Row.new rfl rfl).alloc _).alloc _
  have r1 : Row V (w.heap.size + 1) [.int .u64 0, .int .u64 0] 24 := by rw [← hV]; exact (Row.new (by simp) rfl).alloc _
  have hb : Below w.heap.size w V := by rw [← hV]; exact (((Below.refl _ w).alloc (Nat.le_refl _) _).alloc (by simp) _).alloc (by simp <;> omega) _
  have Hb := Lib.hid hb
  have R1 := Lib.hid r1
  have q0 : V.cell? ⟨w.heap.size, 0, none⟩ = some (.int .u64 (n : Int)) := r0.cell rfl
  have q3 : V.cell? ⟨w.heap.size, 1, none⟩ = some (.int .u64 (l : Int)) := r0.cell rfl
  have q1 : V.cell? ⟨w.heap.size + 1, 0, none⟩ = some (.int .u64 0) := r1.cell rfl
  have q2 : V.cell? ⟨w.heap.size + 1, 1, none⟩ = some (.int .u64 0) := r1.cell rfl
  have f1 : V.frozen? ⟨w.heap.size + 1, 0, none⟩ = false := frozen_row r1 0
  have f2 : V.frozen? ⟨w.heap.size + 1, 1, none⟩ = false := frozen_row r1 1
  clear hV hb r1
  go_region
  go_wp2
  have r := ((R1.out.set 0 (.int .u64 ((n : Int) + 1))).set 1 (.int .u64 (l : Int))).drewN 1
  refine bodyPost_ret (results_tct rfl rfl r Try.underlying24 rfl (by kernel_rfl) rfl) rfl ?_
  exact ⟨by simp, ((Hb.out.setCell (by simp) _).setCell (by simp) _).drew⟩
theorem RRecover_no (n l : Nat) (w : World) (hl : l < 2 ^ 64) (h : ¬ Ok n l) : Calls Try.prog 16 #[cv n l] w fun e w' => e = .returned (.tuple #[cv 0 0, .int .i64 2]) ∧ Below w.heap.size w w' := by
  have H := Lib.hid h
  have HL := Lib.hid hl
  clear h hl
  go_enter Try.func16, Try.ntmps16
  go_wp2_with (first
    | (go_at_call 27; refine (RCheck_no _ _ _ HL.out H.out).mono ?_; rintro e w' ⟨rfl, rfl⟩))
  refine bodyPost_ret (results_ct (t' := 24) (cs := [.int .u64 0, .int .u64 0]) rfl rfl (by repeat (first | exact Row.new rfl rfl | (refine Row.new ?_ rfl; simp; done) | refine Row.alloc ?_ _)) Try.underlying24 rfl (by kernel_rfl) rfl) rfl ?_
  exact ⟨rfl, (by repeat (first | exact Below.refl _ _ | refine Below.alloc ?_ (by simp <;> omega) _))⟩
theorem RRecover_ok (n l : Nat) (w : World) (h : Ok n l) : Calls Try.prog 16 #[cv n l] w fun e w' => e = .returned (.tuple #[cv (l + 1) l, .int .i64 0]) ∧ Below w.heap.size w w' := by
  have H := Lib.hid h
  obtain ⟨h1, h2, h3⟩ := h
  have e4 : IntKind.u64.wrap ((l : Int) + 1) = ((l + 1 : Nat) : Int) := by rw [wrap_in _ (by omega) (by omega)]; omega
  clear h1 h2 h3
  go_enter Try.func16, Try.ntmps16
  go_wp2_with (first
    | (go_at_call 27; refine (RCheck_ok _ _ _ H.out).mono ?_; rintro e w' ⟨rfl, rfl⟩))
  refine bodyPost_ret (results_ct (t' := 24) (cs := [.int .u64 ((l : Int) + 1), .int .u64 (l : Int)]) rfl rfl (by repeat (first | exact Row.new rfl rfl | (refine Row.new ?_ rfl; simp; done) | refine Row.alloc ?_ _)) Try.underlying24 rfl (by kernel_rfl) rfl) rfl ?_
  exact ⟨by simp, (by repeat (first | exact Below.refl _ _ | refine Below.alloc ?_ (by simp <;> omega) _))⟩
theorem RLease_no (n l : Nat) (k : Int) (w : World) (hl : l < 2 ^ 64) (h : ¬ Ok n l) : Calls Try.prog 14 #[cv n l, .int .u64 k] w fun e w' => e = .returned (.tuple #[cv 0 0, .int .i64 2]) ∧ Below w.heap.size w w' := by
  have H := Lib.hid h
  have HL := Lib.hid hl
  clear h hl
  go_enter Try.func14, Try.ntmps14
  go_wp2_with (first
    | (go_at_call 27; refine (RCheck_no _ _ _ HL.out H.out).mono ?_; rintro e w' ⟨rfl, rfl⟩))
  refine bodyPost_ret (results_ct (t' := 24) (cs := [.int .u64 0, .int .u64 0]) rfl rfl (by repeat (first | exact Row.new rfl rfl | (refine Row.new ?_ rfl; simp; done) | refine Row.alloc ?_ _)) Try.underlying24 rfl (by kernel_rfl) rfl) rfl ?_
  exact ⟨rfl, (by repeat (first | exact Below.refl _ _ | refine Below.alloc ?_ (by simp <;> omega) _))⟩
theorem RLease_arg (n l : Nat) (w : World) (h : Ok n l) : Calls Try.prog 14 #[cv n l, .int .u64 0] w fun e w' => e = .returned (.tuple #[cv 0 0, .int .i64 2]) ∧ Below w.heap.size w w' := by
  have H := Lib.hid h
  clear h
  go_enter Try.func14, Try.ntmps14
  go_wp2_with (first
    | (go_at_call 27; refine (RCheck_ok _ _ _ H.out).mono ?_; rintro e w' ⟨rfl, rfl⟩))
  refine bodyPost_ret (results_ct (t' := 24) (cs := [.int .u64 0, .int .u64 0]) rfl rfl (by repeat (first | exact Row.new rfl rfl | (refine Row.new ?_ rfl; simp; done) | refine Row.alloc ?_ _)) Try.underlying24 rfl (by kernel_rfl) rfl) rfl ?_
  exact ⟨rfl, (by repeat (first | exact Below.refl _ _ | refine Below.alloc ?_ (by simp <;> omega) _))⟩
theorem RLease_full (n l k : Nat) (w : World) (h : Ok n l) (hl : l = 1152921504606846976) (hk : 0 < k) : Calls Try.prog 14 #[cv n l, .int .u64 (k : Int)] w fun e w' => e = .returned (.tuple #[cv 0 0, .int .i64 9]) ∧ Below w.heap.size w w' := by
  have H := Lib.hid h
  have e5 : ((k : Int) == 0) = false := by rw [beq_eq_false_iff_ne]; omega
  have e6 : ((l : Int) == 1152921504606846976) = true := by subst hl; rfl
  clear h hl
  go_enter Try.func14, Try.ntmps14
  go_wp2_with (first
    | (go_at_call 27; refine (RCheck_ok _ _ _ H.out).mono ?_; rintro e w' ⟨rfl, rfl⟩))
  refine bodyPost_ret (results_ct (t' := 24) (cs := [.int .u64 0, .int .u64 0]) rfl rfl (by repeat (first | exact Row.new rfl rfl | (refine Row.new ?_ rfl; simp; done) | refine Row.alloc ?_ _)) Try.underlying24 rfl (by kernel_rfl) rfl) rfl ?_
  exact ⟨rfl, (by repeat (first | exact Below.refl _ _ | refine Below.alloc ?_ (by simp <;> omega) _))⟩
theorem RLease_ok (n l k : Nat) (w : World) (h : Ok n l) (hk : 0 < k) (hl : l < 1152921504606846976) : Calls Try.prog 14 #[cv n l, .int .u64 (k : Int)] w fun e w' => e = .returned (.tuple #[cv n (l + min k (1152921504606846976 - l)), .int .i64 0]) ∧ Below w.heap.size w w' := by
  have H := Lib.hid h
  have HE := Lib.hid (lease_val k l hl)
  obtain ⟨h1, h2, h3⟩ := h
  have e5 : ((k : Int) == 0) = false := by rw [beq_eq_false_iff_ne]; omega
  have e6 : ((l : Int) == 1152921504606846976) = false := by rw [beq_eq_false_iff_ne]; omega
  have e7 : IntKind.u64.wrap ((1152921504606846976 : Int) - (l : Int)) = (1152921504606846976 : Int) - (l : Int) := wrap_in _ (by omega) (by omega)
  have e8 : IntKind.u64.wrap ((l : Int) + min (k : Int) (1152921504606846976 - (l : Int))) = (l : Int) + min (k : Int) (1152921504606846976 - (l : Int)) := wrap_in _ (by omega) (by omega)
  clear h1 h2 h3
  go_enter Try.func14, Try.ntmps14
  go_wp2_with (first
    | (go_at_call 27; refine (RCheck_ok _ _ _ H.out).mono ?_; rintro e w' ⟨rfl, rfl⟩))
  refine bodyPost_ret (results_ct (t' := 24) (cs := [.int .u64 (n : Int), .int .u64 ((l : Int) + min (k : Int) (1152921504606846976 - (l : Int)))]) rfl rfl (by repeat (first | exact Row.new rfl rfl | (refine Row.new ?_ rfl; simp; done) | refine Row.alloc ?_ _)) Try.underlying24 rfl (by kernel_rfl) rfl) rfl ?_
  exact ⟨by rw [HE.out]; rfl, (by repeat (first | exact Below.refl _ _ | refine Below.alloc ?_ (by simp <;> omega) _))⟩

theorem lease_nonceR (e n : Nat) : Ev.ans Try.prog 2000 25 #[.int .u32 (e : Int), .int .u64 (n : Int)] [] = some (.agg ((nonceI e n).map u1).toArray) := by
  set_option maxRecDepth 100000 in kernel_rfl
theorem RNonce_any (e n : Nat) (w : World) : Calls Try.prog 25 #[.int .u32 (e : Int), .int .u64 (n : Int)] w fun r w' => r = .returned (arr8 (nonce e n)) ∧ Below w.heap.size w w' := by
  have h := lease_nonceR e n
  rw [nonce_ev] at h
  exact Ev.calls_ans (l := []) mixed (by decide) (by simp) (by simp) (flat_args rfl) h (flat2_bv _)
def stepR (k : IntKind) (x c : Int) : Int := oadd k (omul k x ((256 : Nat) : Int)) (k.wrap c)
set_option maxRecDepth 100000 in
theorem RSplit_ev (c0 c1 c2 c3 c4 c5 c6 c7 c8 c9 c10 c11 : Int) : Ev.ans Try.prog 2000 23 #[.agg #[u1 c0, u1 c1, u1 c2, u1 c3, u1 c4, u1 c5, u1 c6, u1 c7, u1 c8, u1 c9, u1 c10, u1 c11]] [] =
    some (.tuple #[.int .u32 ([c0, c1, c2, c3].foldl (stepR .u32) ((0 : Nat) : Int)), .int .u64 ([c4, c5, c6, c7, c8, c9, c10, c11].foldl (stepR .u64) ((0 : Nat) : Int))]) := by kernel_rfl

theorem step32R (x : Nat) (c : UInt8) (h : x < 16777216) : stepR .u32 (x : Int) (c.toNat : Int) = ((x * 256 + c.toNat : Nat) : Int) := by
  have hc := c.toNat_lt
  unfold stepR omul oadd
  rw [wrap_u32 c.toNat (by omega), ← Int.natCast_mul, wrap_u32 _ (by omega), ← Int.natCast_add, wrap_u32 _ (by omega)]
theorem step64R (x : Nat) (c : UInt8) (h : x < 72057594037927936) : stepR .u64 (x : Int) (c.toNat : Int) = ((x * 256 + c.toNat : Nat) : Int) := by
  have hc := c.toNat_lt
  unfold stepR omul oadd
  rw [wrap_u64 c.toNat (by omega), ← Int.natCast_mul, wrap_u64 _ (by omega), ← Int.natCast_add, wrap_u64 _ (by omega)]
theorem fold32R : ∀ (l : List UInt8) (j x : Nat), x < 256 ^ j → j + l.length ≤ 4 → (l.map fun c => (c.toNat : Int)).foldl (stepR .u32) (x : Int) = ((l.foldl (fun x b => x * 256 + b.toNat) x : Nat) : Int) := by
  intro l
  induction l with
  | nil => intro j x _ _; rfl
  | cons c l ih =>
    intro j x hx hj
    have hc := c.toNat_lt
    have h3 : 256 ^ j ≤ 256 ^ 3 := Nat.pow_le_pow_right (by omega) (by simp at hj; omega)
    rw [List.map_cons, List.foldl_cons, step32R x c (Nat.lt_of_lt_of_le hx h3), List.foldl_cons]
    exact ih (j + 1) _ (by rw [Nat.pow_succ]; omega) (by simp at hj; omega)
theorem fold64R : ∀ (l : List UInt8) (j x : Nat), x < 256 ^ j → j + l.length ≤ 8 → (l.map fun c => (c.toNat : Int)).foldl (stepR .u64) (x : Int) = ((l.foldl (fun x b => x * 256 + b.toNat) x : Nat) : Int) := by
  intro l
  induction l with
  | nil => intro j x _ _; rfl
  | cons c l ih =>
    intro j x hx hj
    have hc := c.toNat_lt
    have h3 : 256 ^ j ≤ 256 ^ 7 := Nat.pow_le_pow_right (by omega) (by simp at hj; omega)
    rw [List.map_cons, List.foldl_cons, step64R x c (Nat.lt_of_lt_of_le hx h3), List.foldl_cons]
    exact ih (j + 1) _ (by rw [Nat.pow_succ]; omega) (by simp at hj; omega)
theorem RSplit_any (l : List UInt8) (hl : l.length = 12) (w : World) : Calls Try.prog 23 #[arr8 l] w fun r w' => r = .returned (.tuple #[.int .u32 (Oct.be (l.take 4) : Nat), .int .u64 (Oct.be (l.drop 4) : Nat)]) ∧ Below w.heap.size w w' := by
  match l, hl with
  | [c0, c1, c2, c3, c4, c5, c6, c7, c8, c9, c10, c11], _ =>
    have h := RSplit_ev c0.toNat c1.toNat c2.toNat c3.toNat c4.toNat c5.toNat c6.toNat c7.toNat c8.toNat c9.toNat c10.toNat c11.toNat
    have e1 := fold32R [c0, c1, c2, c3] 0 0 (by decide) (by simp)
    have e2 := fold64R [c4, c5, c6, c7, c8, c9, c10, c11] 0 0 (by decide) (by simp)
    simp only [List.map_cons, List.map_nil] at e1 e2
    rw [e1, e2] at h
    exact Ev.calls_ans (l := []) mixed (by decide) (by simp) (by simp) (flat_args rfl) h rfl
/-! ### What the calls answer, for every counter -/
instance (n l : Nat) : Decidable (Ok n l) := by unfold Ok; infer_instance
def tk (n l : Nat) : Nat × Nat × Nat × Nat := if Ok n l then if n ≤ l then (n, n + 1, l, 0) else (0, 0, 0, 6) else (0, 0, 0, 2)
def ls (n l k : Nat) : Nat × Nat × Nat := if Ok n l then if k = 0 then (0, 0, 2) else if l = 1152921504606846976 then (0, 0, 9) else (n, l + min k (1152921504606846976 - l), 0) else (0, 0, 2)
def rc (n l : Nat) : Nat × Nat × Nat := if Ok n l then (l + 1, l, 0) else (0, 0, 2)
def lf (n l : Nat) : Nat := if Ok n l then l + 1 - n else 0
def ck (n l : Nat) : Nat := if Ok n l then 0 else 2

theorem Take_all (n l : Nat) (hl : l < 2 ^ 64) (w : World) : Calls Try.prog 10 #[cv n l] w fun e w' => e = .returned (.tuple #[.int .u64 ((tk n l).1 : Nat), cv (tk n l).2.1 (tk n l).2.2.1, .int .i64 ((tk n l).2.2.2 : Nat)]) ∧ Below w.heap.size w w' := by
  unfold tk
  by_cases h : Ok n l
  · rw [if_pos h]
    by_cases hn : n ≤ l
    · rw [if_pos hn]; exact Take_ok n l w h hn
    · rw [if_neg hn]; exact Take_none n l w h (by unfold Ok at h; omega)
  · rw [if_neg h]; exact Take_no n l w hl h
theorem Lease_all (n l k : Nat) (hl : l < 2 ^ 64) (w : World) : Calls Try.prog 8 #[cv n l, .int .u64 (k : Int)] w fun e w' => e = .returned (.tuple #[cv (ls n l k).1 (ls n l k).2.1, .int .i64 ((ls n l k).2.2 : Nat)]) ∧ Below w.heap.size w w' := by
  unfold ls
  by_cases h : Ok n l
  · rw [if_pos h]
    by_cases hk : k = 0
    · subst hk; rw [if_pos rfl]; exact Lease_arg n l w h
    · rw [if_neg hk]
      by_cases hm : l = 1152921504606846976
      · rw [if_pos hm]; exact Lease_full n l k w h hm (by omega)
      · rw [if_neg hm]; exact Lease_ok n l k w h (by omega) (by unfold Ok at h; omega)
  · rw [if_neg h]; exact Lease_no n l k w hl h
theorem Recover_all (n l : Nat) (hl : l < 2 ^ 64) (w : World) : Calls Try.prog 15 #[cv n l] w fun e w' => e = .returned (.tuple #[cv (rc n l).1 (rc n l).2.1, .int .i64 ((rc n l).2.2 : Nat)]) ∧ Below w.heap.size w w' := by
  unfold rc
  by_cases h : Ok n l
  · rw [if_pos h]; exact Recover_ok n l w h
  · rw [if_neg h]; exact Recover_no n l w hl h
theorem Check_all (n l : Nat) (hl : l < 2 ^ 64) (w : World) : Calls Try.prog 26 #[cv n l] w fun e w' => e = .returned (.int .i64 (ck n l : Nat)) ∧ Below w.heap.size w w' := by
  unfold ck
  by_cases h : Ok n l
  · rw [if_pos h]; exact (Check_ok n l w h).mono fun e w' ⟨h1, h2⟩ => ⟨h1, by rw [h2]; exact (Below.refl _ w).alloc (Nat.le_refl _) _⟩
  · rw [if_neg h]; exact (Check_no n l w hl h).mono fun e w' ⟨h1, h2⟩ => ⟨h1, by rw [h2]; exact (Below.refl _ w).alloc (Nat.le_refl _) _⟩

theorem RTake_all (n l : Nat) (hl : l < 2 ^ 64) (w : World) : Calls Try.prog 13 #[cv n l] w fun e w' => e = .returned (.tuple #[.int .u64 ((tk n l).1 : Nat), cv (tk n l).2.1 (tk n l).2.2.1, .int .i64 ((tk n l).2.2.2 : Nat)]) ∧ Below w.heap.size w w' := by
  unfold tk
  by_cases h : Ok n l
  · rw [if_pos h]
    by_cases hn : n ≤ l
    · rw [if_pos hn]; exact RTake_ok n l w h hn
    · rw [if_neg hn]; exact RTake_none n l w h (by unfold Ok at h; omega)
  · rw [if_neg h]; exact RTake_no n l w hl h
theorem RLease_all (n l k : Nat) (hl : l < 2 ^ 64) (w : World) : Calls Try.prog 14 #[cv n l, .int .u64 (k : Int)] w fun e w' => e = .returned (.tuple #[cv (ls n l k).1 (ls n l k).2.1, .int .i64 ((ls n l k).2.2 : Nat)]) ∧ Below w.heap.size w w' := by
  unfold ls
  by_cases h : Ok n l
  · rw [if_pos h]
    by_cases hk : k = 0
    · subst hk; rw [if_pos rfl]; exact RLease_arg n l w h
    · rw [if_neg hk]
      by_cases hm : l = 1152921504606846976
      · rw [if_pos hm]; exact RLease_full n l k w h hm (by omega)
      · rw [if_neg hm]; exact RLease_ok n l k w h (by omega) (by unfold Ok at h; omega)
  · rw [if_neg h]; exact RLease_no n l k w hl h
theorem RRecover_all (n l : Nat) (hl : l < 2 ^ 64) (w : World) : Calls Try.prog 16 #[cv n l] w fun e w' => e = .returned (.tuple #[cv (rc n l).1 (rc n l).2.1, .int .i64 ((rc n l).2.2 : Nat)]) ∧ Below w.heap.size w w' := by
  unfold rc
  by_cases h : Ok n l
  · rw [if_pos h]; exact RRecover_ok n l w h
  · rw [if_neg h]; exact RRecover_no n l w hl h
theorem RCheck_all (n l : Nat) (hl : l < 2 ^ 64) (w : World) : Calls Try.prog 27 #[cv n l] w fun e w' => e = .returned (.int .i64 (ck n l : Nat)) ∧ Below w.heap.size w w' := by
  unfold ck
  by_cases h : Ok n l
  · rw [if_pos h]; exact (RCheck_ok n l w h).mono fun e w' ⟨h1, h2⟩ => ⟨h1, by rw [h2]; exact (Below.refl _ w).alloc (Nat.le_refl _) _⟩
  · rw [if_neg h]; exact (RCheck_no n l w hl h).mono fun e w' ⟨h1, h2⟩ => ⟨h1, by rw [h2]; exact (Below.refl _ w).alloc (Nat.le_refl _) _⟩
end Go.Proofs.Ytndpobibjgcefaa.Lea
