/- window: what taking does, as plain maths. -/
import Derived.Test.YtnpmlbpnlflkkaaWinCalls3
namespace Go.Proofs.Ytnpmlbpnlflkkaa.Win
open Go.RowKit

theorem tb_up (t s n i : Nat) (h : t < n) : (takeS t s n).testBit i = (decide (i < 64) && decide (n - t ≤ i) && s.testBit (i - (n - t)) || decide (i = 0)) := by
  unfold takeS
  rw [if_pos h, Nat.testBit_or, Nat.testBit_mod_two_pow, Nat.testBit_shiftLeft]
  have h1 : Nat.testBit 1 i = decide (i = 0) := by
    rw [show (1 : Nat) = 2 ^ 0 by rfl, Nat.testBit_two_pow]
    rw [decide_eq_decide]; omega
  rw [h1]
  simp [Bool.and_assoc]
theorem tb_in (t s n i : Nat) (h : ¬ t < n) : (takeS t s n).testBit i = (s.testBit i || decide (i = t - n)) := by
  unfold takeS
  rw [if_neg h, Nat.testBit_or, Nat.testBit_two_pow]
  congr 1
  rw [decide_eq_decide]; omega
theorem takeT_up (t n : Nat) (h : t < n) : takeT t n = n := if_pos h
theorem takeT_in (t n : Nat) (h : ¬ t < n) : takeT t n = t := if_neg h
/-- What 'n can be taken' says. -/
theorem ref_ok {f t s l n : Nat} (h : ref f t s l n = 0) : Ok f t s l ∧ n ≠ 0 ∧ n ≤ 1152921504606846976 ∧ f ≤ n ∧ ¬ (n ≤ t ∧ 64 ≤ t - n) ∧ seen t s n = false ∧ n < l := by
  unfold ref at h
  split at h; · cases h
  rename_i h1
  split at h; · cases h
  split at h; · cases h
  split at h; · cases h
  rename_i h4
  split at h; · cases h
  exact ⟨Classical.not_not.1 h1, by omega, by omega, by omega, by omega, by simpa using h4, by omega⟩
theorem lt64_of_bits {s : Nat} (h : ∀ i, 64 ≤ i → s.testBit i = false) : s < 2 ^ 64 := by
  exact Nat.lt_pow_two_of_testBit s h
theorem high {s : Nat} (h : s < 2 ^ 64) (i : Nat) (hi : 64 ≤ i) : s.testBit i = false :=
  Nat.testBit_lt_two_pow (Nat.lt_of_lt_of_le h (Nat.pow_le_pow_right (by omega) hi))
theorem fits_take {f t s l n : Nat} (hF : Fits f t s l) (hn : n < 2 ^ 64) (h : ref f t s l n = 0) : Fits f (takeT t n) (takeS t s n) l := by
  obtain ⟨hf, ht, hs, hl⟩ := hF
  obtain ⟨_, _, _, _, hd, _⟩ := ref_ok h
  refine ⟨hf, ?_, ?_, hl⟩
  · unfold takeT; split <;> omega
  · unfold takeS
    split
    · exact Nat.or_lt_two_pow (Nat.mod_lt _ (by omega)) (by omega)
    · exact Nat.or_lt_two_pow hs (Nat.pow_lt_pow_right (by omega) (by omega))
theorem mod2 (s : Nat) : s % 2 = 1 ↔ s.testBit 0 = true := by
  rw [Nat.testBit_zero]; simp
theorem ok_take {f t s l n : Nat} (hF : Fits f t s l) (h : ref f t s l n = 0) : Ok f (takeT t n) (takeS t s n) l := by
  obtain ⟨⟨h1, h2, h3, h4, h5, h6, h7⟩, hn0, hnM, hfn, hd, hsn, hnl⟩ := ref_ok h
  by_cases hlt : t < n
  · rw [takeT_up t n hlt]
    refine ⟨h1, h2, h3, by omega, by omega, ?_, ?_⟩
    · unfold takeS
      rw [if_pos hlt]
      refine Nat.or_lt_two_pow ?_ ?_
      · refine Nat.lt_of_le_of_lt (Nat.mod_le _ _) ?_
        rw [Nat.shiftLeft_eq, show n + 1 - f = (t + 1 - f) + (n - t) by omega, Nat.pow_add]
        exact Nat.mul_lt_mul_of_pos_right h6 (Nat.pow_pos (by omega))
      · exact Nat.lt_of_lt_of_le (by omega : 1 < 2 ^ 1) (Nat.pow_le_pow_right (by omega) (by omega))
    · rw [mod2, tb_up t s n 0 hlt]
      simp; omega
  · rw [takeT_in t n hlt]
    refine ⟨h1, h2, h3, h4, h5, ?_, ?_⟩
    · unfold takeS
      rw [if_neg hlt]
      exact Nat.or_lt_two_pow h6 (Nat.pow_lt_pow_right (by omega) (by omega))
    · rw [mod2, tb_in t s n 0 hlt]
      have : s.testBit 0 = true := (mod2 s).1 (h7.2 (by omega))
      rw [this]
      simp; omega
/-- What is seen behind a number was taken. -/
theorem seen_take {f t s l n x : Nat} (hF : Fits f t s l) (h : ref f t s l n = 0) : seen (takeT t n) (takeS t s n) x = true ↔ (x = n ∨ (seen t s x = true ∧ takeT t n - x < 64)) := by
  obtain ⟨hf, ht, hs, hl⟩ := hF
  obtain ⟨_, hn0, hnM, hfn, hd, hsn, hnl⟩ := ref_ok h
  unfold seen
  by_cases hlt : t < n
  · rw [takeT_up t n hlt, tb_up t s n _ hlt]
    simp only [Bool.and_eq_true, Bool.or_eq_true, decide_eq_true_eq]
    constructor
    · rintro ⟨h1, ⟨⟨h2, h3⟩, h4⟩ | h5⟩
      · right
        rw [show n - x - (n - t) = t - x by omega] at h4
        exact ⟨⟨by omega, h4⟩, by omega⟩
      · left; omega
    · rintro (rfl | ⟨⟨h1, h2⟩, h3⟩)
      · exact ⟨Nat.le_refl _, .inr (by omega)⟩
      · refine ⟨by omega, .inl ⟨⟨h3, by omega⟩, ?_⟩⟩
        rw [show n - x - (n - t) = t - x by omega]
        exact h2
  · rw [takeT_in t n hlt, tb_in t s n _ hlt]
    simp only [Bool.and_eq_true, Bool.or_eq_true, decide_eq_true_eq]
    constructor
    · rintro ⟨h1, h2 | h2⟩
      · right
        refine ⟨⟨h1, h2⟩, ?_⟩
        rcases Nat.lt_or_ge (t - x) 64 with h | h
        · exact h
        · rw [high hs _ h] at h2; cases h2
      · left; omega
    · rintro (rfl | ⟨⟨h1, h2⟩, h3⟩)
      · exact ⟨by omega, .inr rfl⟩
      · exact ⟨h1, .inl h2⟩
/-- A number that was taken was seen. -/
theorem seen_self {f t s l n : Nat} (hF : Fits f t s l) (h : ref f t s l n = 0) : seen (takeT t n) (takeS t s n) n = true := (seen_take hF h).2 (.inl rfl)
theorem takeT_max (t n : Nat) : takeT t n = max t n := by unfold takeT; split <;> omega
theorem takeT_comm (t n m : Nat) : takeT (takeT t n) m = takeT (takeT t m) n := by simp only [takeT_max]; omega
/-- Two numbers that are taken in either order lead to the same bits. -/
theorem takeS_comm {f t s l n m : Nat} (hF : Fits f t s l) (hn : n < 2 ^ 64) (hm : m < 2 ^ 64) (h1 : ref f t s l n = 0) (h2 : ref f (takeT t n) (takeS t s n) l m = 0) (h3 : ref f t s l m = 0)
    (h4 : ref f (takeT t m) (takeS t s m) l n = 0) : takeS (takeT t n) (takeS t s n) m = takeS (takeT t m) (takeS t s m) n := by
  have F1 := fits_take hF hn h1
  have F3 := fits_take hF hm h3
  have F2 := fits_take F1 hm h2
  have F4 := fits_take F3 hn h4
  have o2 := ok_take F1 h2
  apply Nat.eq_of_testBit_eq
  intro i
  rcases Nat.lt_or_ge 63 i with hi | hi
  · rw [high F2.2.2.1 i hi, high F4.2.2.1 i hi]
  obtain ⟨T, hT⟩ : ∃ T, takeT (takeT t n) m = T := ⟨_, rfl⟩
  have hT' : takeT (takeT t m) n = T := by rw [← hT, takeT_comm]
  rcases Nat.lt_or_ge T i with hiT | hiT
  · -- bits above Top are clear
    have c2 := o2.2.2.2.2.2.1
    have o4 := ok_take F3 h4
    have c4 := o4.2.2.2.2.2.1
    rw [hT] at c2
    rw [hT'] at c4
    have e1 := o2.1
    rw [Nat.testBit_lt_two_pow (Nat.lt_of_lt_of_le c2 (Nat.pow_le_pow_right (by omega) (by omega))), Nat.testBit_lt_two_pow (Nat.lt_of_lt_of_le c4 (Nat.pow_le_pow_right (by omega) (by omega)))]
  · have k2 := seen_take (x := T - i) F1 h2
    have k4 := seen_take (x := T - i) F3 h4
    have k1 := seen_take (x := T - i) hF h1
    have k3 := seen_take (x := T - i) hF h3
    rw [hT] at k2
    rw [hT'] at k4
    have g2 : seen T (takeS (takeT t n) (takeS t s n) m) (T - i) = (takeS (takeT t n) (takeS t s n) m).testBit i := by
      unfold seen; rw [show T - (T - i) = i by omega]; simp
    have g4 : seen T (takeS (takeT t m) (takeS t s m) n) (T - i) = (takeS (takeT t m) (takeS t s m) n).testBit i := by
      unfold seen; rw [show T - (T - i) = i by omega]; simp
    rw [← g2, ← g4, Bool.eq_iff_iff, k2, k4, k1, k3]
    have hA : takeT t n ≤ T := by rw [← hT]; simp only [takeT_max]; omega
    have hB : takeT t m ≤ T := by rw [← hT']; simp only [takeT_max]; omega
    have d1 : T - (T - i) < 64 := by omega
    constructor
    · rintro (h | ⟨h | ⟨h, h'⟩, h''⟩)
      · exact .inr ⟨.inl h, d1⟩
      · exact .inl h
      · exact .inr ⟨.inr ⟨h, by omega⟩, d1⟩
    · rintro (h | ⟨h | ⟨h, h'⟩, h''⟩)
      · exact .inr ⟨.inl h, d1⟩
      · exact .inl h
      · exact .inr ⟨.inr ⟨h, by omega⟩, d1⟩
end Go.Proofs.Ytnpmlbpnlflkkaa.Win
