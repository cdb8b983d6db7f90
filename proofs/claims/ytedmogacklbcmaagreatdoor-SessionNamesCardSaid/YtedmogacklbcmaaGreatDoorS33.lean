/- Texts that the proofs share: WinCalls, WinCalls2, WinCalls3, WinPure, WinAny. -/
import Derived.Test.YtedmogacklbcmaaGreatDoorS17
import Derived.Test.YtedmogacklbcmaaGreatDoorS24
import Derived.Test.YtedmogacklbcmaaGreatDoorS26
import Derived.RegionTactic
import Derived.ChangeAlike
namespace Go.Proofs.YtedmogacklbcmaaGreatDoor.Win
open Go.RowKit
abbrev wv (f t s l : Nat) : Value := .agg #[.int .u64 (f : Int), .int .u64 (t : Int), .int .u64 (s : Int), .int .u64 (l : Int)]
def Ok (f t s l : Nat) : Prop := 1 ≤ f ∧ f ≤ l ∧ l ≤ 1152921504606846977 ∧ f ≤ t + 1 ∧ t + 1 ≤ l ∧ s < 2 ^ (t + 1 - f) ∧ (s % 2 = 1 ↔ f ≤ t)
abbrev co (w : World) (f t s l : Nat) : World := w.alloc (.cells #[.int .u64 (f : Int), .int .u64 (t : Int), .int .u64 (s : Int), .int .u64 (l : Int)] 30)
theorem wrap_in (x : Int) (h0 : 0 ≤ x) (h1 : x < 18446744073709551616) : IntKind.u64.wrap x = x := by
 simp only [IntKind.wrap, IntKind.bits, IntKind.signed]
 simp
 omega
theorem shr_any (s d : Nat) (hs : s < 2 ^ 64) : Op.shift .shr .u64 (s : Int) .u64 (d : Int) = pure (.int .u64 ((s >>> d : Nat) : Int)) := by
 rw [shift_shr_any _ _ _ _ (by omega)]
 congr 2
 have e : min (d : Int).toNat IntKind.u64.bits = min d 64 := by simp [IntKind.bits]
 rw [e, Nat.shiftRight_eq_div_pow]
 rcases Nat.lt_or_ge d 64 with h | h
 · rw [show min d 64 = d by omega]; simp
 · rw [show min d 64 = 64 by omega]
   have h1 : s / 2 ^ d = 0 := Nat.div_eq_of_lt (Nat.lt_of_lt_of_le hs (Nat.pow_le_pow_right (by omega) h))
   have h2 : s / 2 ^ 64 = 0 := Nat.div_eq_of_lt hs
   rw [h1, ← h2]
   simp
theorem shl_any (s d : Nat) : Op.shift .shl .u64 (s : Int) .u64 (d : Int) = pure (.int .u64 (((s <<< d) % 2 ^ 64 : Nat) : Int)) := by
 rw [shift_shl_any _ _ _ _ (by omega)]
 congr 2
 have e : min (d : Int).toNat IntKind.u64.bits = min d 64 := by simp [IntKind.bits]
 rw [e, Nat.shiftLeft_eq]
 have hw : ∀ n : Nat, IntKind.u64.wrap (n : Int) = ((n % 2 ^ 64 : Nat) : Int) := by
  intro n
  simp only [IntKind.wrap, IntKind.bits, IntKind.signed]
  simp
  try omega
 rw [show ((s : Int) * 2 ^ min d 64) = ((s * 2 ^ min d 64 : Nat) : Int) by simp, hw]
 rcases Nat.lt_or_ge d 64 with h | h
 · rw [show min d 64 = d by omega]
 · rw [show min d 64 = 64 by omega]
   have h1 : s * 2 ^ 64 % 2 ^ 64 = 0 := Nat.mul_mod_left _ _
   have h2 : s * 2 ^ d % 2 ^ 64 = 0 := by
    rw [show d = (d - 64) + 64 by omega, Nat.pow_add, ← Nat.mul_assoc]
    exact Nat.mul_mod_left _ _
   rw [h1, h2]
theorem and_any (s d : Nat) (hs : s < 2 ^ 64) (hd : d < 2 ^ 64) : Op.intBits .and .u64 (s : Int) (d : Int) = pure (.int .u64 ((s &&& d : Nat) : Int)) := by
 have h : ((BitVec.ofInt 64 (s : Int)) &&& (BitVec.ofInt 64 (d : Int))).toNat = s &&& d := by
  rw [BitVec.toNat_and]
  simp only [BitVec.ofInt_natCast, BitVec.toNat_ofNat]
  rw [Nat.mod_eq_of_lt hs, Nat.mod_eq_of_lt hd]
 have hl : s &&& d < 2 ^ 64 := Nat.and_lt_two_pow _ hd
 show (pure (.int .u64 (IntKind.u64.wrap (((BitVec.ofInt 64 (s : Int)) &&& (BitVec.ofInt 64 (d : Int))).toNat : Int))) : Sem Value) = _
 rw [h, wrap_in _ (by omega) (by omega)]
theorem or_any (s d : Nat) (hs : s < 2 ^ 64) (hd : d < 2 ^ 64) : Op.intBits .or .u64 (s : Int) (d : Int) = pure (.int .u64 ((s ||| d : Nat) : Int)) := by
 have h : ((BitVec.ofInt 64 (s : Int)) ||| (BitVec.ofInt 64 (d : Int))).toNat = s ||| d := by
  rw [BitVec.toNat_or]
  simp only [BitVec.ofInt_natCast, BitVec.toNat_ofNat]
  rw [Nat.mod_eq_of_lt hs, Nat.mod_eq_of_lt hd]
 have hl : s ||| d < 2 ^ 64 := Nat.or_lt_two_pow hs hd
 show (pure (.int .u64 (IntKind.u64.wrap (((BitVec.ofInt 64 (s : Int)) ||| (BitVec.ofInt 64 (d : Int))).toNat : Int))) : Sem Value) = _
 rw [h, wrap_in _ (by omega) (by omega)]
theorem and_one (s : Nat) (hs : s < 2 ^ 64) : Op.intBits .and .u64 (s : Int) 1 = pure (.int .u64 ((s % 2 : Nat) : Int)) := by
 have h := and_any s 1 hs (by omega)
 rw [Nat.and_one_is_mod] at h
 exact h
theorem Check_ok (f t s l : Nat) (w : World) (hs : s < 2 ^ 64) (h : Ok f t s l) : Calls Tryz.prog 43 #[wv f t s l] w fun e w' => e = .returned (.int .i64 0) ∧ w' = co w f t s l := by
 obtain ⟨h1, h2, h3, h4, h5, h6, h7⟩ := h
 have e1 : ¬ (f : Int) < 1 := by omega
 have e2 : ¬ (l : Int) < (f : Int) := by omega
 have e3 : ¬ (1152921504606846977 : Int) < (l : Int) := by omega
 have e4 : IntKind.u64.wrap ((f : Int) - 1) = (f : Int) - 1 := wrap_in _ (by omega) (by omega)
 have e5 : ¬ (t : Int) < (f : Int) - 1 := by omega
 have e6 : IntKind.u64.wrap ((l : Int) - 1) = (l : Int) - 1 := wrap_in _ (by omega) (by omega)
 have e7 : ¬ (l : Int) - 1 < (t : Int) := by omega
 have e8 : IntKind.u64.wrap ((t : Int) + 1) = (t : Int) + 1 := wrap_in _ (by omega) (by omega)
 obtain ⟨d, hd⟩ : ∃ d, t + 1 - f = d := ⟨_, rfl⟩
 have e9 : IntKind.u64.wrap ((t : Int) + 1 - (f : Int)) = (d : Int) := by rw [wrap_in _ (by omega) (by omega)]; omega
 have s1 : Op.shift .shr .u64 (s : Int) .u64 (d : Int) = pure (.int .u64 0) := by
  rw [shr_any s d hs, Nat.shiftRight_eq_div_pow, Nat.div_eq_of_lt (by rw [← hd]; exact h6)]; rfl
 have s2 := and_one s hs
 obtain ⟨c, hc1, hc2⟩ : ∃ c : Bool, (((s % 2 : Nat) : Int) == 1) = c ∧ decide (0 < (d : Int)) = c := by
  refine ⟨_, rfl, ?_⟩
  rw [Bool.eq_iff_iff]
  simp only [decide_eq_true_eq, beq_iff_eq]
  omega
 clear h1 h2 h3 h4 h5 h6 h7 hd hs
 generalize ((s % 2 : Nat) : Int) = r at s2 hc1
 generalize (d : Int) = z at e9 s1 hc2
 go_enter Tryz.func43, Tryz.ntmps43
 cases c <;> (go_wp2; go_ret; exact ⟨rfl, rfl⟩)
theorem Check_no (f t s l : Nat) (w : World) (hf : f < 2 ^ 64) (ht : t < 2 ^ 64) (hs : s < 2 ^ 64) (hl : l < 2 ^ 64) (h : ¬ Ok f t s l) : Calls Tryz.prog 43 #[wv f t s l] w fun e w' => e = .returned (.int .i64 2) ∧ w' = co w f t s l := by
 unfold Ok at h
 by_cases h1 : (f : Int) < 1
 · clear h hf ht hs hl
   go_enter Tryz.func43, Tryz.ntmps43
   go_wp2
   go_ret
   exact ⟨rfl, rfl⟩
 by_cases h2 : (l : Int) < (f : Int)
 · clear h hf ht hs hl
   go_enter Tryz.func43, Tryz.ntmps43
   go_wp2
   go_ret
   exact ⟨rfl, rfl⟩
 by_cases h3 : (1152921504606846977 : Int) < (l : Int)
 · clear h hf ht hs hl
   go_enter Tryz.func43, Tryz.ntmps43
   go_wp2
   go_ret
   exact ⟨rfl, rfl⟩
 have e4 : IntKind.u64.wrap ((f : Int) - 1) = (f : Int) - 1 := wrap_in _ (by omega) (by omega)
 by_cases h4 : (t : Int) < (f : Int) - 1
 · clear h hf ht hs hl
   go_enter Tryz.func43, Tryz.ntmps43
   go_wp2
   go_ret
   exact ⟨rfl, rfl⟩
 have e6 : IntKind.u64.wrap ((l : Int) - 1) = (l : Int) - 1 := wrap_in _ (by omega) (by omega)
 by_cases h5 : (l : Int) - 1 < (t : Int)
 · clear h hf ht hs hl
   go_enter Tryz.func43, Tryz.ntmps43
   go_wp2
   go_ret
   exact ⟨rfl, rfl⟩
 have e8 : IntKind.u64.wrap ((t : Int) + 1) = (t : Int) + 1 := wrap_in _ (by omega) (by omega)
 obtain ⟨d, hd⟩ : ∃ d, t + 1 - f = d := ⟨_, rfl⟩
 rw [hd] at h
 have e9 : IntKind.u64.wrap ((t : Int) + 1 - (f : Int)) = (d : Int) := by rw [wrap_in _ (by omega) (by omega)]; omega
 have s2 := and_one s hs
 by_cases h6 : s < 2 ^ d
 · have s1 : Op.shift .shr .u64 (s : Int) .u64 (d : Int) = pure (.int .u64 0) := by
    rw [shr_any s d hs, Nat.shiftRight_eq_div_pow, Nat.div_eq_of_lt h6]; rfl
   have h7 : ¬ (s % 2 = 1 ↔ f ≤ t) := fun h7 => h ⟨by omega, by omega, by omega, by omega, by omega, h6, h7⟩
   obtain ⟨c, hc1, hc2⟩ : ∃ c : Bool, (((s % 2 : Nat) : Int) == 1) = c ∧ decide (0 < (d : Int)) = !c := by
    refine ⟨_, rfl, ?_⟩
    rcases Nat.mod_two_eq_zero_or_one s with h8 | h8
    · rw [h8]
      rw [h8] at h7
      have : decide (0 < (d : Int)) = true := by rw [decide_eq_true_eq]; omega
      rw [this]; rfl
    · rw [h8]
      rw [h8] at h7
      have : decide (0 < (d : Int)) = false := by rw [decide_eq_false_iff_not]; omega
      rw [this]; rfl
   clear h hf ht hs hl h6 h7 hd
   generalize ((s % 2 : Nat) : Int) = r at s2 hc1
   generalize (d : Int) = z at e9 s1 hc2
   go_enter Tryz.func43, Tryz.ntmps43
   cases c <;> (simp only [Bool.not_true, Bool.not_false] at hc2; go_wp2; go_ret; exact ⟨rfl, rfl⟩)
 · have s1 := shr_any s d hs
   have hne : (((s >>> d : Nat) : Int) != 0) = true := by
    rw [Nat.shiftRight_eq_div_pow]
    have : 0 < s / 2 ^ d := Nat.div_pos (by omega) (Nat.pow_pos (by omega))
    simp only [bne_iff_ne, ne_eq]
    omega
   clear h hf ht hs hl h6 hd
   generalize ((s >>> d : Nat) : Int) = r at s1 hne
   go_enter Tryz.func43, Tryz.ntmps43
   go_wp2
   go_ret
   exact ⟨rfl, rfl⟩
def seen (t s n : Nat) : Bool := decide (n ≤ t) && s.testBit (t - n)
theorem Seen_any (f t s l n : Nat) (w : World) (ht : t < 2 ^ 64) (hs : s < 2 ^ 64) : Calls Tryz.prog 65 #[wv f t s l, .int .u64 (n : Int)] w fun e w' => e = .returned (.bool (seen t s n)) ∧ w' = co w f t s l := by
 by_cases h1 : n ≤ t
 · have e1 : (n : Int) ≤ (t : Int) := by omega
   have e2 : IntKind.u64.wrap ((t : Int) - (n : Int)) = ((t - n : Nat) : Int) := by rw [wrap_in _ (by omega) (by omega)]; omega
   have s1 := shr_any s (t - n) hs
   have hl : s >>> (t - n) < 2 ^ 64 := Nat.lt_of_le_of_lt (by rw [Nat.shiftRight_eq_div_pow]; exact Nat.div_le_self _ _) hs
   have s2 := and_one _ hl
   obtain ⟨c, hc1, hc2⟩ : ∃ c : Bool, (((s >>> (t - n) % 2 : Nat) : Int) == 1) = c ∧ seen t s n = c := by
    refine ⟨_, rfl, ?_⟩
    unfold seen
    rw [decide_eq_true h1, Bool.true_and, Nat.testBit_eq_decide_div_mod_eq, Nat.shiftRight_eq_div_pow]
    rw [Bool.eq_iff_iff]
    simp only [decide_eq_true_eq, beq_iff_eq]
    omega
   rw [hc2]
   clear h1 ht hs hl hc2
   generalize ((t - n : Nat) : Int) = d at e2 s1
   generalize ((s >>> (t - n) % 2 : Nat) : Int) = r at s2 hc1
   generalize ((s >>> (t - n) : Nat) : Int) = q at s1 s2
   go_enter Tryz.func65, Tryz.ntmps65
   go_wp2
   go_ret
   exact ⟨rfl, rfl⟩
 · have e1 : ¬ (n : Int) ≤ (t : Int) := by omega
   have hc : seen t s n = false := by unfold seen; rw [decide_eq_false h1]; rfl
   rw [hc]
   clear h1 ht hs hc
   go_enter Tryz.func65, Tryz.ntmps65
   go_wp2
   go_ret
   exact ⟨rfl, rfl⟩
def Fits (f t s l : Nat) : Prop := f < 2 ^ 64 ∧ t < 2 ^ 64 ∧ s < 2 ^ 64 ∧ l < 2 ^ 64
open Classical in
noncomputable def ref (f t s l n : Nat) : Nat :=
 if ¬ Ok f t s l then 2 else if n = 0 ∨ 1152921504606846976 < n then 2 else if n < f ∨ (n ≤ t ∧ 64 ≤ t - n) then 8 else if seen t s n = true then 7 else if l ≤ n then 9 else 0
theorem two_below (w : World) (o1 o2 : Obj) : Below w.heap.size w ((w.alloc o1).alloc o2) := ((Below.refl _ _).alloc (Nat.le_refl _) _).alloc (by simp) _
theorem three_below (w : World) (o1 o2 o3 : Obj) : Below w.heap.size w (((w.alloc o1).alloc o2).alloc o3) := (two_below _ _ _).alloc (by simp; omega) _
theorem Ref_bad (f t s l n : Nat) (w : World) (hF : Fits f t s l) (h : ¬ Ok f t s l) : Calls Tryz.prog 54 #[wv f t s l, .int .u64 (n : Int)] w fun e w' => e = .returned (.int .i64 2) ∧ Below w.heap.size w w' := by
 have HF := Lib.hid hF
 have H := Lib.hid h
 clear hF h
 go_enter Tryz.func54, Tryz.ntmps54
 go_wp2_with (go_at_call 43; refine (Check_no _ _ _ _ _ HF.out.1 HF.out.2.1 HF.out.2.2.1 HF.out.2.2.2 H.out).mono ?_; rintro e w' ⟨rfl, rfl⟩)
 go_ret
 exact ⟨rfl, two_below _ _ _⟩
theorem Ref_arg (f t s l n : Nat) (w : World) (hF : Fits f t s l) (h : Ok f t s l) (hn : n = 0 ∨ 1152921504606846976 < n) : Calls Tryz.prog 54 #[wv f t s l, .int .u64 (n : Int)] w fun e w' => e = .returned (.int .i64 2) ∧ Below w.heap.size w w' := by
 have HF := Lib.hid hF
 have H := Lib.hid h
 clear hF h
 by_cases h0 : n = 0
 · subst h0
   clear hn
   go_enter Tryz.func54, Tryz.ntmps54
   go_wp2_with (go_at_call 43; refine (Check_ok _ _ _ _ _ HF.out.2.2.1 H.out).mono ?_; rintro e w' ⟨rfl, rfl⟩)
   go_ret
   exact ⟨rfl, two_below _ _ _⟩
 · have e1 : ((n : Int) == 0) = false := by rw [beq_eq_false_iff_ne]; omega
   have e2 : (1152921504606846976 : Int) < (n : Int) := by omega
   clear hn h0
   go_enter Tryz.func54, Tryz.ntmps54
   go_wp2_with (go_at_call 43; refine (Check_ok _ _ _ _ _ HF.out.2.2.1 H.out).mono ?_; rintro e w' ⟨rfl, rfl⟩)
   go_ret
   exact ⟨rfl, two_below _ _ _⟩
theorem Ref_old (f t s l n : Nat) (w : World) (hF : Fits f t s l) (h : Ok f t s l) (hn : n ≠ 0 ∧ n ≤ 1152921504606846976) (ho : n < f ∨ (n ≤ t ∧ 64 ≤ t - n)) : Calls Tryz.prog 54 #[wv f t s l, .int .u64 (n : Int)] w fun e w' => e = .returned (.int .i64 8) ∧ Below w.heap.size w w' := by
 have HF := Lib.hid hF
 have H := Lib.hid h
 have e1 : ((n : Int) == 0) = false := by rw [beq_eq_false_iff_ne]; omega
 have e2 : ¬ (1152921504606846976 : Int) < (n : Int) := by omega
 by_cases h0 : n < f
 · have e3 : (n : Int) < (f : Int) := by omega
   clear hn h0 ho hF h
   go_enter Tryz.func54, Tryz.ntmps54
   go_wp2_with (go_at_call 43; refine (Check_ok _ _ _ _ _ HF.out.2.2.1 H.out).mono ?_; rintro e w' ⟨rfl, rfl⟩)
   go_ret
   exact ⟨rfl, two_below _ _ _⟩
 · have e3 : ¬ (n : Int) < (f : Int) := by omega
   have e4 : (n : Int) ≤ (t : Int) := by omega
   have e5 : IntKind.u64.wrap ((t : Int) - (n : Int)) = ((t - n : Nat) : Int) := by obtain ⟨_, ht, _⟩ := hF; rw [wrap_in _ (by omega) (by omega)]; omega
   have e6 : (64 : Int) ≤ ((t - n : Nat) : Int) := by omega
   clear hn h0 ho hF h
   generalize ((t - n : Nat) : Int) = z at e5 e6
   go_enter Tryz.func54, Tryz.ntmps54
   go_wp2_with (go_at_call 43; refine (Check_ok _ _ _ _ _ HF.out.2.2.1 H.out).mono ?_; rintro e w' ⟨rfl, rfl⟩)
   go_ret
   exact ⟨rfl, two_below _ _ _⟩
theorem Ref_rest (f t s l n : Nat) (w : World) (hF : Fits f t s l) (h : Ok f t s l) (hn : n ≠ 0 ∧ n ≤ 1152921504606846976) (ho : ¬ (n < f ∨ (n ≤ t ∧ 64 ≤ t - n))) :
 Calls Tryz.prog 54 #[wv f t s l, .int .u64 (n : Int)] w fun e w' => e = .returned (.int .i64 (if seen t s n = true then 7 else if l ≤ n then 9 else 0 : Int)) ∧ Below w.heap.size w w' := by
 have HF := Lib.hid hF
 have H := Lib.hid h
 have e1 : ((n : Int) == 0) = false := by rw [beq_eq_false_iff_ne]; omega
 have e2 : ¬ (1152921504606846976 : Int) < (n : Int) := by omega
 have e3 : ¬ (n : Int) < (f : Int) := by omega
 obtain ⟨r, hr⟩ : ∃ r : Int, (if seen t s n = true then 7 else if l ≤ n then 9 else 0 : Int) = r := ⟨_, rfl⟩
 rw [hr]
 obtain ⟨sn, hsn⟩ : ∃ sn, seen t s n = sn := ⟨_, rfl⟩
 rw [hsn] at hr
 have HSN := Lib.hid hsn
 obtain ⟨c, hc1, hc2⟩ : ∃ c : Bool, decide (n ≤ t) = c ∧ (c = true → IntKind.u64.wrap ((t : Int) - (n : Int)) = ((t - n : Nat) : Int) ∧ ¬ (64 : Int) ≤ ((t - n : Nat) : Int)) := by
  refine ⟨_, rfl, fun hc => ?_⟩
  rw [decide_eq_true_eq] at hc
  obtain ⟨_, ht, _⟩ := hF
  refine ⟨?_, by omega⟩
  rw [wrap_in _ (by omega) (by omega)]; omega
 obtain ⟨g, hg1, hg2⟩ : ∃ g : Bool, decide (l ≤ n) = g ∧ (sn = true ∧ r = 7 ∨ sn = false ∧ g = true ∧ r = 9 ∨ sn = false ∧ g = false ∧ r = 0) := by
  refine ⟨_, rfl, ?_⟩
  rw [← hr]
  cases sn
  · by_cases hln : l ≤ n
    · right; left; simp [hln]
    · right; right; simp [hln]
  · left; simp
 have c1 : (decide ((n : Int) ≤ (t : Int))) = c := by rw [← hc1, decide_eq_decide]; omega
 have HS := Lib.hid (fun W : World => Seen_any f t s l n W hF.2.1 hF.2.2.1)
 rw [hsn] at HS
 clear hn ho hF h hr hsn hc1
 cases c
 · clear hc2
   rw [decide_eq_false_iff_not] at c1
   rcases hg2 with ⟨rfl, rfl⟩ | ⟨rfl, rfl, rfl⟩ | ⟨rfl, rfl, rfl⟩ <;>
   (go_enter Tryz.func54, Tryz.ntmps54
    go_wp2_with (first
     | (go_at_call 43; refine (Check_ok _ _ _ _ _ HF.out.2.2.1 H.out).mono ?_; rintro e w' ⟨rfl, rfl⟩)
     | (go_at_call 65; refine (HS.out _).mono ?_; rintro e w' ⟨rfl, rfl⟩))
    go_ret
    exact ⟨rfl, three_below _ _ _ _⟩)
 · obtain ⟨d1, d2⟩ := hc2 rfl
   rw [decide_eq_true_eq] at c1
   clear hc2
   generalize ((t - n : Nat) : Int) = z at d1 d2
   rcases hg2 with ⟨rfl, rfl⟩ | ⟨rfl, rfl, rfl⟩ | ⟨rfl, rfl, rfl⟩ <;>
   (go_enter Tryz.func54, Tryz.ntmps54
    go_wp2_with (first
     | (go_at_call 43; refine (Check_ok _ _ _ _ _ HF.out.2.2.1 H.out).mono ?_; rintro e w' ⟨rfl, rfl⟩)
     | (go_at_call 65; refine (HS.out _).mono ?_; rintro e w' ⟨rfl, rfl⟩))
    go_ret
    exact ⟨rfl, three_below _ _ _ _⟩)
theorem Ref_any (f t s l n : Nat) (w : World) (hF : Fits f t s l) : Calls Tryz.prog 54 #[wv f t s l, .int .u64 (n : Int)] w fun e w' => e = .returned (.int .i64 (ref f t s l n : Int)) ∧ Below w.heap.size w w' := by
 unfold ref
 by_cases h1 : Ok f t s l
 · rw [if_neg (by simpa using h1)]
   by_cases h2 : n = 0 ∨ 1152921504606846976 < n
   · rw [if_pos h2]; exact Ref_arg f t s l n w hF h1 h2
   rw [if_neg h2]
   by_cases h3 : n < f ∨ (n ≤ t ∧ 64 ≤ t - n)
   · rw [if_pos h3]; exact Ref_old f t s l n w hF h1 (by omega) h3
   rw [if_neg h3]
   refine (Ref_rest f t s l n w hF h1 (by omega) h3).mono ?_
   rintro e w' ⟨rfl, hb⟩
   refine ⟨?_, hb⟩
   by_cases h4 : seen t s n = true
   · rw [if_pos h4, if_pos h4]; rfl
   rw [if_neg h4, if_neg h4]
   by_cases h5 : l ≤ n
   · rw [if_pos h5, if_pos h5]; rfl
   · rw [if_neg h5, if_neg h5]; rfl
 · rw [if_pos h1]; exact Ref_bad f t s l n w hF h1
end Go.Proofs.YtedmogacklbcmaaGreatDoor.Win
namespace Go.Proofs.YtedmogacklbcmaaGreatDoor.Win
open Go.RowKit
abbrev wl (f t s l : Nat) : List Value := [.int .u64 (f : Int), .int .u64 (t : Int), .int .u64 (s : Int), .int .u64 (l : Int)]
def takeS (t s n : Nat) : Nat := if t < n then (s <<< (n - t)) % 2 ^ 64 ||| 1 else s ||| 2 ^ (t - n)
def takeT (t n : Nat) : Nat := if t < n then n else t
theorem wl_one (f t s l : Nat) : ∀ v ∈ wl f t s l, v.oneCell' = true := by
 intro v hv
 simp only [wl, List.mem_cons, List.not_mem_nil, or_false] at hv
 rcases hv with rfl | rfl | rfl | rfl <;> rfl
theorem Take_no (f t s l n k : Nat) (w : World) (hF : Fits f t s l) (h : ref f t s l n = k) (hk : k ≠ 0) : Calls Tryz.prog 33 #[wv f t s l, .int .u64 (n : Int)] w fun e w' => e = .returned (.tuple #[wv 0 0 0 0, .int .i64 (k : Int)]) ∧ Below w.heap.size w w' := by
 have HR := Lib.hid (fun W : World => Ref_any f t s l n W hF)
 rw [h] at HR
 have hk2 : ((k : Int) != 0) = true := by simp only [bne_iff_ne, ne_eq]; omega
 clear h hk hF
 go_enter Tryz.func33, Tryz.ntmps33
 go_wp2_with fail
 refine (HR.out _).mono ?_
 rintro e V ⟨rfl, hb⟩
 have R1 := Lib.hid (show Row V (w.heap.size + 1) (wl 0 0 0 0) 30 from (Row.new (by simp) rfl).below hb (by simp))
 have HB := Lib.hid (show Below w.heap.size w V from nextB (two_below w _ _) (Nat.le_refl _) hb)
 clear hb
 go_wp2_with (first
  | (refine wpList_storeRow (n := 4) rfl 30 _ _ rfl rfl rfl (cs := wl 0 0 0 0) (old := wl 0 0 0 0) R1.out (by kernel_rfl) rfl rfl (wl_one _ _ _ _) ?_
     obtain ⟨V2, hV2⟩ : ∃ V2, V.setRow (w.heap.size + 1) (wl 0 0 0 0).toArray = V2 := ⟨_, rfl⟩
     refine wpList_world hV2 ?_
     have R2 := Lib.hid (show Row V2 (w.heap.size + 1) (wl 0 0 0 0) 30 by rw [← hV2]; exact R1.out.setRow _)
     have HB2 := Lib.hid (show Below w.heap.size w V2 by rw [← hV2]; exact below_setRow HB.out (by omega) _)
     clear hV2)
  | fail)
 refine bodyPost_ret (results_ct (t' := 30) (cs := wl 0 0 0 0) rfl rfl R2.out Tryz.underlying30 rfl (by kernel_rfl) rfl) rfl ?_
 exact ⟨rfl, HB2.out⟩
theorem Take_up (f t s l n : Nat) (w : World) (hF : Fits f t s l) (hn : n < 2 ^ 64) (h : ref f t s l n = 0) (hlt : t < n) : Calls Tryz.prog 33 #[wv f t s l, .int .u64 (n : Int)] w fun e w' => e = .returned (.tuple #[wv f (takeT t n) (takeS t s n) l, .int .i64 0]) ∧ Below w.heap.size w w' := by
 have HR := Lib.hid (fun W : World => Ref_any f t s l n W hF)
 rw [h] at HR
 have hd : ¬ (n ≤ t ∧ 64 ≤ t - n) := by
  unfold ref at h
  repeat (split at h; · cases h)
  omega
 obtain ⟨_, ht, hs, _⟩ := hF
 have e1 : (t : Int) < (n : Int) := by omega
 have e2 : IntKind.u64.wrap ((n : Int) - (t : Int)) = ((n - t : Nat) : Int) := by rw [wrap_in _ (by omega) (by omega)]; omega
 have s1 := shl_any s (n - t)
 have hq : (s <<< (n - t)) % 2 ^ 64 < 2 ^ 64 := Nat.mod_lt _ (by omega)
 have s3 := or_any _ 1 hq (by omega)
 unfold takeT takeS
 rw [if_pos hlt, if_pos hlt]
 generalize (s <<< (n - t)) % 2 ^ 64 = q at s1 s3
 have s3 : Op.intBits .or .u64 (q : Int) 1 = pure (.int .u64 ((q ||| 1 : Nat) : Int)) := s3
 generalize q ||| 1 = q' at s3
 have s2 : Op.shift .shl .u64 1 .u64 0 = (pure (.int .u64 1) : Sem Value) := shl_any 1 0
 clear hlt hd ht hs hn h hq
 generalize ((n - t : Nat) : Int) = z at e2 s1
 go_enter Tryz.func33, Tryz.ntmps33
 go_wp2_with fail
 refine (HR.out _).mono ?_
 rintro e V ⟨rfl, hb⟩
 have r0 : Row V w.heap.size (wl f t s l) 30 := ((Row.new rfl rfl).alloc _).below hb (by simp; omega)
 have R1 := Lib.hid (show Row V (w.heap.size + 1) (wl 0 0 0 0) 30 from (Row.new (by simp) rfl).below hb (by simp))
 have HB := Lib.hid (show Below w.heap.size w V from nextB (two_below w _ _) (Nat.le_refl _) hb)
 have hV : w.heap.size + 1 < V.heap.size := R1.out.lt
 have p0 : ∀ o, (V.alloc o).cell? ⟨w.heap.size, 0, none⟩ = some (.int .u64 (f : Int)) := fun o => (r0.alloc o).cell rfl
 have p1 : ∀ o, (V.alloc o).cell? ⟨w.heap.size, 1, none⟩ = some (.int .u64 (t : Int)) := fun o => (r0.alloc o).cell rfl
 have p2 : ∀ o, (V.alloc o).cell? ⟨w.heap.size, 2, none⟩ = some (.int .u64 (s : Int)) := fun o => (r0.alloc o).cell rfl
 have p3 : ∀ o, (V.alloc o).cell? ⟨w.heap.size, 3, none⟩ = some (.int .u64 (l : Int)) := fun o => (r0.alloc o).cell rfl
 have o0 : V.cell? ⟨w.heap.size, 0, none⟩ = some (.int .u64 (f : Int)) := r0.cell rfl
 have o1 : V.cell? ⟨w.heap.size, 1, none⟩ = some (.int .u64 (t : Int)) := r0.cell rfl
 have o2 : V.cell? ⟨w.heap.size, 2, none⟩ = some (.int .u64 (s : Int)) := r0.cell rfl
 have o3 : V.cell? ⟨w.heap.size, 3, none⟩ = some (.int .u64 (l : Int)) := r0.cell rfl
 clear hb r0
 go_wp2_with (first
  | (refine wpList_storeRow (n := 4) rfl 30 _ _ rfl rfl rfl (cs := wl f n q' l) (old := wl 0 0 0 0) (R1.out.alloc _) (by kernel_rfl) rfl rfl (wl_one _ _ _ _) ?_
     obtain ⟨V2, hV2⟩ : ∃ V2, (V.alloc (.cells #[.int .u64 (f : Int), .int .u64 (n : Int), .int .u64 (q' : Int), .int .u64 (l : Int)] 30)).setRow (w.heap.size + 1) (wl f n q' l).toArray = V2 := ⟨_, rfl⟩
     refine wpList_world hV2 ?_
     have R2 := Lib.hid (show Row V2 (w.heap.size + 1) (wl f n q' l) 30 by rw [← hV2]; exact (R1.out.alloc _).setRow _)
     have HB2 := Lib.hid (show Below w.heap.size w V2 by rw [← hV2]; exact below_setRow (HB.out.alloc (by omega) _) (by omega) _)
     clear hV2)
  | fail)
 refine bodyPost_ret (results_ct (t' := 30) (cs := wl f n q' l) rfl rfl R2.out Tryz.underlying30 rfl (by kernel_rfl) rfl) rfl ?_
 exact ⟨rfl, HB2.out⟩
theorem Take_in (f t s l n : Nat) (w : World) (hF : Fits f t s l) (hn : n < 2 ^ 64) (h : ref f t s l n = 0) (hlt : ¬ t < n) : Calls Tryz.prog 33 #[wv f t s l, .int .u64 (n : Int)] w fun e w' => e = .returned (.tuple #[wv f (takeT t n) (takeS t s n) l, .int .i64 0]) ∧ Below w.heap.size w w' := by
 have HR := Lib.hid (fun W : World => Ref_any f t s l n W hF)
 rw [h] at HR
 have hd : ¬ (n ≤ t ∧ 64 ≤ t - n) := by
  unfold ref at h
  repeat (split at h; · cases h)
  omega
 obtain ⟨_, ht, hs, _⟩ := hF
 have e1 : ¬ (t : Int) < (n : Int) := by omega
 have e2 : IntKind.u64.wrap ((t : Int) - (n : Int)) = ((t - n : Nat) : Int) := by rw [wrap_in _ (by omega) (by omega)]; omega
 have s1 : Op.shift .shl .u64 1 .u64 ((t - n : Nat) : Int) = pure (.int .u64 ((2 ^ (t - n) : Nat) : Int)) := by
  have h1 := shl_any 1 (t - n)
  rw [Nat.one_shiftLeft, Nat.mod_eq_of_lt (Nat.pow_lt_pow_right (by omega) (by omega))] at h1
  exact h1
 have s3 := or_any s (2 ^ (t - n)) hs (Nat.pow_lt_pow_right (by omega) (by omega))
 unfold takeT takeS
 rw [if_neg hlt, if_neg hlt]
 generalize s ||| 2 ^ (t - n) = q' at s3
 clear hlt hd ht hs hn h
 generalize ((2 ^ (t - n) : Nat) : Int) = y at s1 s3
 generalize ((t - n : Nat) : Int) = z at e2 s1
 go_enter Tryz.func33, Tryz.ntmps33
 go_wp2_with fail
 refine (HR.out _).mono ?_
 rintro e V ⟨rfl, hb⟩
 have r0 : Row V w.heap.size (wl f t s l) 30 := ((Row.new rfl rfl).alloc _).below hb (by simp; omega)
 have R1 := Lib.hid (show Row V (w.heap.size + 1) (wl 0 0 0 0) 30 from (Row.new (by simp) rfl).below hb (by simp))
 have HB := Lib.hid (show Below w.heap.size w V from nextB (two_below w _ _) (Nat.le_refl _) hb)
 have hV : w.heap.size + 1 < V.heap.size := R1.out.lt
 have p0 : ∀ o, (V.alloc o).cell? ⟨w.heap.size, 0, none⟩ = some (.int .u64 (f : Int)) := fun o => (r0.alloc o).cell rfl
 have p1 : ∀ o, (V.alloc o).cell? ⟨w.heap.size, 1, none⟩ = some (.int .u64 (t : Int)) := fun o => (r0.alloc o).cell rfl
 have p2 : ∀ o, (V.alloc o).cell? ⟨w.heap.size, 2, none⟩ = some (.int .u64 (s : Int)) := fun o => (r0.alloc o).cell rfl
 have p3 : ∀ o, (V.alloc o).cell? ⟨w.heap.size, 3, none⟩ = some (.int .u64 (l : Int)) := fun o => (r0.alloc o).cell rfl
 have o0 : V.cell? ⟨w.heap.size, 0, none⟩ = some (.int .u64 (f : Int)) := r0.cell rfl
 have o1 : V.cell? ⟨w.heap.size, 1, none⟩ = some (.int .u64 (t : Int)) := r0.cell rfl
 have o2 : V.cell? ⟨w.heap.size, 2, none⟩ = some (.int .u64 (s : Int)) := r0.cell rfl
 have o3 : V.cell? ⟨w.heap.size, 3, none⟩ = some (.int .u64 (l : Int)) := r0.cell rfl
 clear hb r0
 go_wp2_with (first
  | (refine wpList_storeRow (n := 4) rfl 30 _ _ rfl rfl rfl (cs := wl f t q' l) (old := wl 0 0 0 0) (R1.out.alloc _) (by kernel_rfl) rfl rfl (wl_one _ _ _ _) ?_
     obtain ⟨V2, hV2⟩ : ∃ V2, (V.alloc (.cells #[.int .u64 (f : Int), .int .u64 (t : Int), .int .u64 (q' : Int), .int .u64 (l : Int)] 30)).setRow (w.heap.size + 1) (wl f t q' l).toArray = V2 := ⟨_, rfl⟩
     refine wpList_world hV2 ?_
     have R2 := Lib.hid (show Row V2 (w.heap.size + 1) (wl f t q' l) 30 by rw [← hV2]; exact (R1.out.alloc _).setRow _)
     have HB2 := Lib.hid (show Below w.heap.size w V2 by rw [← hV2]; exact below_setRow (HB.out.alloc (by omega) _) (by omega) _)
     clear hV2)
  | fail)
 refine bodyPost_ret (results_ct (t' := 30) (cs := wl f t q' l) rfl rfl R2.out Tryz.underlying30 rfl (by kernel_rfl) rfl) rfl ?_
 exact ⟨rfl, HB2.out⟩
theorem Take_ok (f t s l n : Nat) (w : World) (hF : Fits f t s l) (hn : n < 2 ^ 64) (h : ref f t s l n = 0) : Calls Tryz.prog 33 #[wv f t s l, .int .u64 (n : Int)] w fun e w' => e = .returned (.tuple #[wv f (takeT t n) (takeS t s n) l, .int .i64 0]) ∧ Below w.heap.size w w' := by
 by_cases hlt : t < n
 · exact Take_up f t s l n w hF hn h hlt
 · exact Take_in f t s l n w hF hn h hlt
end Go.Proofs.YtedmogacklbcmaaGreatDoor.Win
namespace Go.Proofs.YtedmogacklbcmaaGreatDoor.Win
open Go.RowKit
theorem New_any (w : World) : Calls Tryz.prog 23 #[] w fun e w' => e = .returned (wv 1 0 0 1) ∧ w' = co w 1 0 0 1 := by
 go_enter Tryz.func23, Tryz.ntmps23
 go_wp2
 refine bodyPost_ret (results_row rfl _ rfl (Row.new (cs := [.int .u64 1, .int .u64 0, .int .u64 0, .int .u64 1]) rfl rfl) Tryz.underlying30 rfl (by kernel_rfl) rfl) rfl ?_
 exact ⟨rfl, rfl⟩
theorem Allow_ok (f t s l k : Nat) (w : World) (hF : Fits f t s l) (h : Ok f t s l) (hk : k ≤ 1152921504606846977) (hl : l < k) : Calls Tryz.prog 25 #[wv f t s l, .int .u64 (k : Int)] w fun e w' => e = .returned (.tuple #[wv f t s k, .int .i64 0]) ∧ Below w.heap.size w w' := by
 have HF := Lib.hid hF
 have H := Lib.hid h
 have e1 : ¬ (1152921504606846977 : Int) < (k : Int) := by omega
 have e2 : ¬ (k : Int) ≤ (l : Int) := by omega
 clear hF h hk hl
 go_enter Tryz.func25, Tryz.ntmps25
 go_wp2_with (go_at_call 43; refine (Check_ok _ _ _ _ _ HF.out.2.2.1 H.out).mono ?_; rintro e w' ⟨rfl, rfl⟩)
 refine bodyPost_ret (results_ct (t' := 30) (cs := wl f t s k) rfl rfl (by repeat (first | exact Row.new rfl rfl | (refine Row.new ?_ rfl; simp; done) | refine Row.alloc ?_ _)) Tryz.underlying30 rfl (by kernel_rfl) rfl) rfl ?_
 exact ⟨rfl, (by repeat (first | exact Below.refl _ _ | refine Below.alloc ?_ (by simp <;> omega) _))⟩
end Go.Proofs.YtedmogacklbcmaaGreatDoor.Win
namespace Go.Proofs.YtedmogacklbcmaaGreatDoor.Win
open Go.RowKit
end Go.Proofs.YtedmogacklbcmaaGreatDoor.Win
namespace Go.Proofs.YtedmogacklbcmaaGreatDoor.Win
open Go.RowKit
noncomputable def tk (f t s l n i : Nat) : Nat := if ref f t s l n = 0 then [f, takeT t n, takeS t s n, l].getD i 0 else 0
theorem tk_ok {f t s l n : Nat} (h : ref f t s l n = 0) (i : Nat) : tk f t s l n i = [f, takeT t n, takeS t s n, l].getD i 0 := if_pos h
theorem tk_no {f t s l n : Nat} (h : ref f t s l n ≠ 0) (i : Nat) : tk f t s l n i = 0 := if_neg h
theorem Take_any (f t s l n : Nat) (w : World) (hF : Fits f t s l) (hn : n < 2 ^ 64) : Calls Tryz.prog 33 #[wv f t s l, .int .u64 (n : Int)] w fun e w' =>
 e = .returned (.tuple #[wv (tk f t s l n 0) (tk f t s l n 1) (tk f t s l n 2) (tk f t s l n 3), .int .i64 (ref f t s l n : Int)]) ∧ Below w.heap.size w w' := by
 by_cases h : ref f t s l n = 0
 · simp only [tk_ok h, h]
   exact Take_ok f t s l n w hF hn h
 · simp only [tk_no h]
   exact Take_no f t s l n _ w hF rfl h
open Classical in
noncomputable def al (f t s l k : Nat) : Nat := if ¬ Ok f t s l then 2 else if 1152921504606846977 < k then 2 else if k ≤ l then 8 else 0
noncomputable def aw (f t s l k i : Nat) : Nat := if al f t s l k = 0 then [f, t, s, k].getD i 0 else 0
end Go.Proofs.YtedmogacklbcmaaGreatDoor.Win
