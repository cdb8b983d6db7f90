/- config: IDs, masks, prefixes. -/
import Derived.Test.YtlphmbefcbhhpaaFrame
import Derived.Test.YtlphmbefcbhhpaaRow
namespace Go.Proofs.Ytlphmbefcbhhpaa.Cfg
open Go.RowKit
def isIDB (x : Int) : Bool := decide (1 ≤ x) && decide (x ≤ 65536)
set_option maxRecDepth 100000 in
theorem isID_any (x : Int) (w : World) : Calls Try.prog 80 #[.int .i64 x] w fun e w' => e = .returned (.bool (isIDB x)) ∧ w = w' := by
  by_cases h1 : (1 : Int) ≤ x
  · by_cases h2 : x ≤ 65536
    · go_enter Try.func80, Try.ntmps80
      go_wp2
      go_ret
      exact ⟨by simp [isIDB, h1, h2], rfl⟩
    · go_enter Try.func80, Try.ntmps80
      go_wp2
      go_ret
      exact ⟨by simp [isIDB, h1, h2], rfl⟩
  · go_enter Try.func80, Try.ntmps80
    go_wp2
    go_ret
    exact ⟨by simp [isIDB]; omega, rfl⟩
/-- The mask of a prefix of b bits. -/
def maskZ (b : Int) : Int := if b < 0 then 0 else if 32 < b then 4294967295 else 4294967295 * 2 ^ (32 - b).toNat % 4294967296
set_option maxRecDepth 100000 in
theorem Mask_any (b : Int) (w : World) : Calls Try.prog 37 #[.int .i64 b] w fun e w' => e = .returned (.int .u32 (maskZ b)) ∧ w = w' := by
  unfold maskZ
  by_cases h1 : b < 0
  · have h2 : (0 : Int) ≤ 32 := by decide
    rw [if_pos h1]
    go_enter Try.func37, Try.ntmps37
    go_wp2
    all_goals
      first
      | omega
      | (go_ret; exact ⟨rfl, rfl⟩)
  · by_cases h2 : 32 < b
    · rw [if_neg h1, if_pos h2]
      go_enter Try.func37, Try.ntmps37
      go_wp2
      all_goals
        first
        | omega
        | (go_ret; exact ⟨rfl, rfl⟩)
    · rw [if_neg h1, if_neg h2]
      go_enter Try.func37, Try.ntmps37
      go_wp2
      all_goals
        first
        | omega
        | (go_ret; exact ⟨rfl, rfl⟩)
theorem maskZ_in (b : Int) : 0 ≤ maskZ b ∧ maskZ b < 4294967296 := by
  unfold maskZ
  split
  · decide
  · split
    · decide
    · exact ⟨Int.emod_nonneg _ (by decide), Int.emod_lt_of_pos _ (by decide)⟩
/-- Is a an address with nothing behind its first b bits? -/
def prefB (a b : Int) : Bool := decide (0 ≤ b) && decide (b ≤ 32) && (bits .andNot .u32 a (maskZ b) == 0)
set_option maxRecDepth 100000 in
theorem isPrefix_any (a b : Int) (w : World) : Calls Try.prog 82 #[.int .u32 a, .int .i64 b] w fun e w' => e = .returned (.bool (prefB a b)) ∧ w = w' := by
  by_cases h1 : (0 : Int) ≤ b
  · by_cases h2 : b ≤ 32
    · have e : prefB a b = (bits .andNot .u32 a (maskZ b) == 0) := by simp [prefB, h1, h2]
      rw [e]
      have HP := Lib.hid (Mask_any b)
      obtain ⟨m, hm⟩ : ∃ m, maskZ b = m := ⟨_, rfl⟩
      rw [hm] at HP ⊢
      clear hm e
      go_enter Try.func82, Try.ntmps82
      go_wp2_with (first | (go_at_call 37; refine (HP.out _).mono ?_; rintro e w' ⟨rfl, rfl⟩) | fail)
      go_ret
      exact ⟨rfl, rfl⟩
    · have e : prefB a b = false := by simp [prefB, h2]
      rw [e]
      clear e
      have h3 : 32 < b := by omega
      go_enter Try.func82, Try.ntmps82
      go_wp2
      go_ret
      exact ⟨rfl, rfl⟩
  · have e : prefB a b = false := by simp [prefB, h1]
    rw [e]
    clear e
    go_enter Try.func82, Try.ntmps82
    go_wp2
    go_ret
    exact ⟨rfl, rfl⟩
end Go.Proofs.Ytlphmbefcbhhpaa.Cfg
