/- window: Allow, Recover, New. -/
import Derived.Test.YtnpmlbpnlflkkaaWinCalls2
namespace Go.Proofs.Ytnpmlbpnlflkkaa.Win
open Go.RowKit

theorem New_any (w : World) : Calls Try.prog 18 #[] w fun e w' => e = .returned (wv 1 0 0 1) ∧ w' = co w 1 0 0 1 := by
  go_enter Try.func18, Try.ntmps18
  go_wp2
  refine bodyPost_ret (results_row rfl _ rfl (Row.new (cs := [.int .u64 1, .int .u64 0, .int .u64 0, .int .u64 1]) rfl rfl) Try.underlying35 rfl (by kernel_rfl) rfl) rfl ?_
  exact ⟨rfl, rfl⟩
theorem Allow_no (f t s l : Nat) (k : Int) (w : World) (hF : Fits f t s l) (h : ¬ Ok f t s l) : Calls Try.prog 17 #[wv f t s l, .int .u64 k] w fun e w' => e = .returned (.tuple #[wv 0 0 0 0, .int .i64 2]) ∧ Below w.heap.size w w' := by
  have HF := Lib.hid hF
  have H := Lib.hid h
  clear hF h
  go_enter Try.func17, Try.ntmps17
  go_wp2_with (go_at_call 22; refine (Check_no _ _ _ _ _ HF.out.1 HF.out.2.1 HF.out.2.2.1 HF.out.2.2.2 H.out).mono ?_; rintro e w' ⟨rfl, rfl⟩)
  refine bodyPost_ret (results_ct (t' := 35) (cs := wl 0 0 0 0) rfl rfl (by repeat (first | exact Row.new rfl rfl | (refine Row.new ?_ rfl; simp; done) | refine Row.alloc ?_ _)) Try.underlying35 rfl (by kernel_rfl) rfl) rfl ?_
  exact ⟨rfl, (by repeat (first | exact Below.refl _ _ | refine Below.alloc ?_ (by simp <;> omega) _))⟩
theorem Allow_arg (f t s l k : Nat) (w : World) (hF : Fits f t s l) (h : Ok f t s l) (hk : 1152921504606846977 < k) : Calls Try.prog 17 #[wv f t s l, .int .u64 (k : Int)] w fun e w' => e = .returned (.tuple #[wv 0 0 0 0, .int .i64 2]) ∧ Below w.heap.size w w' := by
  have HF := Lib.hid hF
  have H := Lib.hid h
  have e1 : (1152921504606846977 : Int) < (k : Int) := by omega
  clear hF h hk
  go_enter Try.func17, Try.ntmps17
  go_wp2_with (go_at_call 22; refine (Check_ok _ _ _ _ _ HF.out.2.2.1 H.out).mono ?_; rintro e w' ⟨rfl, rfl⟩)
  refine bodyPost_ret (results_ct (t' := 35) (cs := wl 0 0 0 0) rfl rfl (by repeat (first | exact Row.new rfl rfl | (refine Row.new ?_ rfl; simp; done) | refine Row.alloc ?_ _)) Try.underlying35 rfl (by kernel_rfl) rfl) rfl ?_
  exact ⟨rfl, (by repeat (first | exact Below.refl _ _ | refine Below.alloc ?_ (by simp <;> omega) _))⟩
theorem Allow_old (f t s l k : Nat) (w : World) (hF : Fits f t s l) (h : Ok f t s l) (hk : k ≤ 1152921504606846977) (hl : k ≤ l) : Calls Try.prog 17 #[wv f t s l, .int .u64 (k : Int)] w fun e w' => e = .returned (.tuple #[wv 0 0 0 0, .int .i64 8]) ∧ Below w.heap.size w w' := by
  have HF := Lib.hid hF
  have H := Lib.hid h
  have e1 : ¬ (1152921504606846977 : Int) < (k : Int) := by omega
  have e2 : (k : Int) ≤ (l : Int) := by omega
  clear hF h hk hl
  go_enter Try.func17, Try.ntmps17
  go_wp2_with (go_at_call 22; refine (Check_ok _ _ _ _ _ HF.out.2.2.1 H.out).mono ?_; rintro e w' ⟨rfl, rfl⟩)
  refine bodyPost_ret (results_ct (t' := 35) (cs := wl 0 0 0 0) rfl rfl (by repeat (first | exact Row.new rfl rfl | (refine Row.new ?_ rfl; simp; done) | refine Row.alloc ?_ _)) Try.underlying35 rfl (by kernel_rfl) rfl) rfl ?_
  exact ⟨rfl, (by repeat (first | exact Below.refl _ _ | refine Below.alloc ?_ (by simp <;> omega) _))⟩
theorem Allow_ok (f t s l k : Nat) (w : World) (hF : Fits f t s l) (h : Ok f t s l) (hk : k ≤ 1152921504606846977) (hl : l < k) : Calls Try.prog 17 #[wv f t s l, .int .u64 (k : Int)] w fun e w' => e = .returned (.tuple #[wv f t s k, .int .i64 0]) ∧ Below w.heap.size w w' := by
  have HF := Lib.hid hF
  have H := Lib.hid h
  have e1 : ¬ (1152921504606846977 : Int) < (k : Int) := by omega
  have e2 : ¬ (k : Int) ≤ (l : Int) := by omega
  clear hF h hk hl
  go_enter Try.func17, Try.ntmps17
  go_wp2_with (go_at_call 22; refine (Check_ok _ _ _ _ _ HF.out.2.2.1 H.out).mono ?_; rintro e w' ⟨rfl, rfl⟩)
  refine bodyPost_ret (results_ct (t' := 35) (cs := wl f t s k) rfl rfl (by repeat (first | exact Row.new rfl rfl | (refine Row.new ?_ rfl; simp; done) | refine Row.alloc ?_ _)) Try.underlying35 rfl (by kernel_rfl) rfl) rfl ?_
  exact ⟨rfl, (by repeat (first | exact Below.refl _ _ | refine Below.alloc ?_ (by simp <;> omega) _))⟩
theorem Recover_no (f t s l : Nat) (w : World) (hF : Fits f t s l) (h : ¬ Ok f t s l) : Calls Try.prog 20 #[wv f t s l] w fun e w' => e = .returned (.tuple #[wv 0 0 0 0, .int .i64 2]) ∧ Below w.heap.size w w' := by
  have HF := Lib.hid hF
  have H := Lib.hid h
  clear hF h
  go_enter Try.func20, Try.ntmps20
  go_wp2_with (go_at_call 22; refine (Check_no _ _ _ _ _ HF.out.1 HF.out.2.1 HF.out.2.2.1 HF.out.2.2.2 H.out).mono ?_; rintro e w' ⟨rfl, rfl⟩)
  refine bodyPost_ret (results_ct (t' := 35) (cs := wl 0 0 0 0) rfl rfl (by repeat (first | exact Row.new rfl rfl | (refine Row.new ?_ rfl; simp; done) | refine Row.alloc ?_ _)) Try.underlying35 rfl (by kernel_rfl) rfl) rfl ?_
  exact ⟨rfl, (by repeat (first | exact Below.refl _ _ | refine Below.alloc ?_ (by simp <;> omega) _))⟩
theorem Recover_ok (f t s l : Nat) (w : World) (hF : Fits f t s l) (h : Ok f t s l) : Calls Try.prog 20 #[wv f t s l] w fun e w' => e = .returned (.tuple #[wv l (l - 1) 0 l, .int .i64 0]) ∧ Below w.heap.size w w' := by
  have HF := Lib.hid hF
  have H := Lib.hid h
  have e4 : IntKind.u64.wrap ((l : Int) - 1) = ((l - 1 : Nat) : Int) := by obtain ⟨h1, h2, h3, _⟩ := h; rw [wrap_in _ (by omega) (by omega)]; omega
  clear hF h
  generalize l - 1 = m at e4
  go_enter Try.func20, Try.ntmps20
  go_wp2_with (go_at_call 22; refine (Check_ok _ _ _ _ _ HF.out.2.2.1 H.out).mono ?_; rintro e w' ⟨rfl, rfl⟩)
  refine bodyPost_ret (results_ct (t' := 35) (cs := wl l m 0 l) rfl rfl (by repeat (first | exact Row.new rfl rfl | (refine Row.new ?_ rfl; simp; done) | refine Row.alloc ?_ _)) Try.underlying35 rfl (by kernel_rfl) rfl) rfl ?_
  exact ⟨rfl, (by repeat (first | exact Below.refl _ _ | refine Below.alloc ?_ (by simp <;> omega) _))⟩
end Go.Proofs.Ytnpmlbpnlflkkaa.Win
