/- Texts that the proofs share: LeaCalls. -/
import Derived.Test.YtedmogacklbcmaaGreatDoorS24
import Derived.Test.YtedmogacklbcmaaGreatDoorS26
import Derived.RegionTactic
import Derived.ChangeAlike
namespace Go.Proofs.YtedmogacklbcmaaGreatDoor.Lea
open Go.RowKit
abbrev cv (n l : Nat) : Value := .agg #[.int .u64 (n : Int), .int .u64 (l : Int)]
def Ok (n l : Nat) : Prop := 1 ≤ n ∧ n ≤ l + 1 ∧ l ≤ 1152921504606846976
abbrev co (w : World) (n l : Nat) : World := w.alloc (.cells #[.int .u64 (n : Int), .int .u64 (l : Int)] 28)
theorem wrap_in (x : Int) (h0 : 0 ≤ x) (h1 : x < 18446744073709551616) : IntKind.u64.wrap x = x := by
 simp only [IntKind.wrap, IntKind.bits, IntKind.signed]
 simp
 omega
theorem Check_ok (n l : Nat) (w : World) (h : Ok n l) : Calls Tryz.prog 42 #[cv n l] w fun e w' => e = .returned (.int .i64 0) ∧ w' = co w n l := by
 obtain ⟨h1, h2, h3⟩ := h
 have e1 : ¬ (1152921504606846976 : Int) < (l : Int) := by omega
 have e2 : ¬ (n : Int) < 1 := by omega
 have e3 : ¬ (l : Int) + 1 < (n : Int) := by omega
 have e4 : IntKind.u64.wrap ((l : Int) + 1) = (l : Int) + 1 := wrap_in _ (by omega) (by omega)
 clear h1 h2 h3
 go_enter Tryz.func42, Tryz.ntmps42
 go_wp2
 go_ret
 exact ⟨rfl, rfl⟩
theorem Check_no (n l : Nat) (w : World) (hl : l < 2 ^ 64) (h : ¬ Ok n l) : Calls Tryz.prog 42 #[cv n l] w fun e w' => e = .returned (.int .i64 2) ∧ w' = co w n l := by
 unfold Ok at h
 by_cases h1 : (1152921504606846976 : Int) < (l : Int)
 · clear h hl
   go_enter Tryz.func42, Tryz.ntmps42
   go_wp2
   go_ret
   exact ⟨rfl, rfl⟩
 · by_cases h2 : (n : Int) < 1
   · clear h hl
     go_enter Tryz.func42, Tryz.ntmps42
     go_wp2
     go_ret
     exact ⟨rfl, rfl⟩
   · have h3 : (l : Int) + 1 < (n : Int) := by omega
     have e4 : IntKind.u64.wrap ((l : Int) + 1) = (l : Int) + 1 := wrap_in _ (by omega) (by omega)
     clear h hl
     go_enter Tryz.func42, Tryz.ntmps42
     go_wp2
     go_ret
     exact ⟨rfl, rfl⟩
theorem Left_ok (n l : Nat) (w : World) (h : Ok n l) : Calls Tryz.prog 44 #[cv n l] w fun e w' => e = .returned (.int .u64 ((l + 1 - n : Nat) : Int)) ∧ w' = co (co w n l) n l := by
 have H := Lib.hid h
 obtain ⟨h1, h2, h3⟩ := h
 have e4 : IntKind.u64.wrap ((l : Int) + 1) = (l : Int) + 1 := wrap_in _ (by omega) (by omega)
 have e5 : IntKind.u64.wrap ((l : Int) + 1 - (n : Int)) = ((l + 1 - n : Nat) : Int) := by rw [wrap_in _ (by omega) (by omega)]; omega
 clear h1 h2 h3
 go_enter Tryz.func44, Tryz.ntmps44
 go_wp2_with (go_at_call 42; refine (Check_ok _ _ _ H.out).mono ?_; rintro e w' ⟨rfl, rfl⟩)
 go_ret
 exact ⟨rfl, rfl⟩
theorem New_any (w : World) : Calls Tryz.prog 22 #[] w fun e w' => e = .returned (cv 1 0) ∧ w' = co w 1 0 := by
 go_enter Tryz.func22, Tryz.ntmps22
 go_wp2
 refine bodyPost_ret (results_row rfl _ rfl (Row.new (cs := [.int .u64 1, .int .u64 0]) rfl rfl) Tryz.underlying28 rfl (by kernel_rfl) rfl) rfl ?_
 exact ⟨rfl, rfl⟩
theorem Take_ok (n l : Nat) (w : World) (h : Ok n l) (hn : n ≤ l) : Calls Tryz.prog 28 #[cv n l] w fun e w' => e = .returned (.tuple #[.int .u64 (n : Int), cv (n + 1) l, .int .i64 0]) ∧ Below w.heap.size w w' := by
 have H := Lib.hid h
 obtain ⟨h1, h2, h3⟩ := h
 have e4 : IntKind.u64.wrap ((n : Int) + 1) = ((n + 1 : Nat) : Int) := by rw [wrap_in _ (by omega) (by omega)]; omega
 have e5 : (((l + 1 - n : Nat) : Int) == 0) = false := by rw [beq_eq_false_iff_ne]; omega
 clear h1 h2 h3 hn
 go_enter Tryz.func28, Tryz.ntmps28
 go_wp2_with (first
  | (go_at_call 42; refine (Check_ok _ _ _ H.out).mono ?_; rintro e w' ⟨rfl, rfl⟩)
  | (go_at_call 44; refine (Left_ok _ _ _ H.out).mono ?_; rintro e w' ⟨rfl, rfl⟩))
 obtain ⟨V, hV⟩ : ∃ V, (co (co (co ((w.alloc (.cells #[.int .u64 (n : Int), .int .u64 (l : Int)] 28)).alloc (.cells #[.int .u64 0, .int .u64 0] 28)) n l) n l) n l).alloc (.cells #[.int .u64 ((n : Int) + 1), .int .u64 (l : Int)] 28) = V := ⟨_, rfl⟩
 rw [hV]
 have r0 : Row V w.heap.size [.int .u64 (n : Int), .int .u64 (l : Int)] 28 := by rw [← hV]; exact (((((Row.new rfl rfl).alloc _).alloc _).alloc _).alloc _).alloc _
 have r1 : Row V (w.heap.size + 1) [.int .u64 0, .int .u64 0] 28 := by rw [← hV]; exact ((((Row.new (by simp) rfl).alloc _).alloc _).alloc _).alloc _
 have r5 : Row V (w.heap.size + 1 + 1 + 1 + 1 + 1) [.int .u64 ((n : Int) + 1), .int .u64 (l : Int)] 28 := by rw [← hV]; exact Row.new (by simp) rfl
 have hb : Below w.heap.size w V := by rw [← hV]; exact ((((((Below.refl _ w).alloc (Nat.le_refl _) _).alloc (by simp) _).alloc (by simp; omega) _).alloc (by simp; omega) _).alloc (by simp; omega) _).alloc (by simp; omega) _
 have Hb := Lib.hid hb
 have R1 := Lib.hid r1
 have q0 : V.cell? ⟨w.heap.size, 0, none⟩ = some (.int .u64 (n : Int)) := r0.cell rfl
 have q1 : V.cell? ⟨w.heap.size + 1, 0, none⟩ = some (.int .u64 0) := r1.cell rfl
 have q2 : V.cell? ⟨w.heap.size + 1, 1, none⟩ = some (.int .u64 0) := r1.cell rfl
 have f1 : V.frozen? ⟨w.heap.size + 1, 0, none⟩ = false := frozen_row r1 0
 have f2 : V.frozen? ⟨w.heap.size + 1, 1, none⟩ = false := frozen_row r1 1
 have q5 : V.cell? ⟨w.heap.size + 1 + 1 + 1 + 1 + 1, 0, none⟩ = some (.int .u64 ((n : Int) + 1)) := r5.cell rfl
 have q6 : V.cell? ⟨w.heap.size + 1 + 1 + 1 + 1 + 1, 1, none⟩ = some (.int .u64 (l : Int)) := r5.cell rfl
 clear hV hb r1
 go_region
 go_wp2
 have r := ((R1.out.set 0 (.int .u64 ((n : Int) + 1))).set 1 (.int .u64 (l : Int))).drewN 1
 refine bodyPost_ret (results_tct rfl rfl r Tryz.underlying28 rfl (by kernel_rfl) rfl) rfl ?_
 exact ⟨by simp, ((Hb.out.setCell (by simp) _).setCell (by simp) _).drew⟩
theorem Take_no (n l : Nat) (w : World) (hl : l < 2 ^ 64) (h : ¬ Ok n l) : Calls Tryz.prog 28 #[cv n l] w fun e w' => e = .returned (.tuple #[.int .u64 0, cv 0 0, .int .i64 2]) ∧ Below w.heap.size w w' := by
 have H := Lib.hid h
 have HL := Lib.hid hl
 clear h hl
 go_enter Tryz.func28, Tryz.ntmps28
 go_wp2_with (first
  | (go_at_call 42; refine (Check_no _ _ _ HL.out H.out).mono ?_; rintro e w' ⟨rfl, rfl⟩))
 refine bodyPost_ret (results_tct (t' := 28) (cs := [.int .u64 0, .int .u64 0]) rfl rfl (by repeat (first | exact Row.new rfl rfl | (refine Row.new ?_ rfl; simp; done) | refine Row.alloc ?_ _)) Tryz.underlying28 rfl (by kernel_rfl) rfl) rfl ?_
 exact ⟨rfl, (by repeat (first | exact Below.refl _ _ | refine Below.alloc ?_ (by simp <;> omega) _))⟩
theorem lease_val (k l : Nat) (hl : l < 1152921504606846976) : (l : Int) + min (k : Int) (1152921504606846976 - (l : Int)) = ((l + min k (1152921504606846976 - l) : Nat) : Int) := by omega
theorem Lease_ok (n l k : Nat) (w : World) (h : Ok n l) (hk : 0 < k) (hl : l < 1152921504606846976) : Calls Tryz.prog 24 #[cv n l, .int .u64 (k : Int)] w fun e w' => e = .returned (.tuple #[cv n (l + min k (1152921504606846976 - l)), .int .i64 0]) ∧ Below w.heap.size w w' := by
 have H := Lib.hid h
 have HE := Lib.hid (lease_val k l hl)
 obtain ⟨h1, h2, h3⟩ := h
 have e5 : ((k : Int) == 0) = false := by rw [beq_eq_false_iff_ne]; omega
 have e6 : ((1152921504606846976 : Int) - (l : Int) == 0) = false := by rw [beq_eq_false_iff_ne]; omega
 have e7 : IntKind.u64.wrap ((1152921504606846976 : Int) - (l : Int)) = (1152921504606846976 : Int) - (l : Int) := wrap_in _ (by omega) (by omega)
 have e8 : IntKind.u64.wrap ((l : Int) + min (k : Int) (1152921504606846976 - (l : Int))) = (l : Int) + min (k : Int) (1152921504606846976 - (l : Int)) := wrap_in _ (by omega) (by omega)
 clear h1 h2 h3
 go_enter Tryz.func24, Tryz.ntmps24
 go_wp2_with (first
  | (go_at_call 42; refine (Check_ok _ _ _ H.out).mono ?_; rintro e w' ⟨rfl, rfl⟩))
 refine bodyPost_ret (results_ct (t' := 28) (cs := [.int .u64 (n : Int), .int .u64 ((l : Int) + min (k : Int) (1152921504606846976 - (l : Int)))]) rfl rfl (by repeat (first | exact Row.new rfl rfl | (refine Row.new ?_ rfl; simp; done) | refine Row.alloc ?_ _)) Tryz.underlying28 rfl (by kernel_rfl) rfl) rfl ?_
 exact ⟨by rw [HE.out]; rfl, (by repeat (first | exact Below.refl _ _ | refine Below.alloc ?_ (by simp <;> omega) _))⟩
end Go.Proofs.YtedmogacklbcmaaGreatDoor.Lea
