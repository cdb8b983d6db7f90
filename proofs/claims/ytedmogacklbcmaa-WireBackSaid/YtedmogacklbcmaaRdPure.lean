/- The reader of bytes: what is read is what was written, and the other way round. -/
import Derived.Test.YtedmogacklbcmaaOctEnd
import Derived.Test.YtedmogacklbcmaaOctFix
namespace Go.Proofs.Ytedmogacklbcmaa.RdP
open Go.RowKit
theorem num_own (x : Nat) (hx : x < 18446744073709551616) (p r : List UInt8) : rdNumber (p ++ (Oct.enc x ++ r)) p.length 0 = (x, (p ++ Oct.enc x).length, 0) := by
  have h := Oct.dec_enc x hx r
  unfold rdNumber
  rw [if_neg (by omega), List.drop_left, h, List.length_append, Oct.enc_length]
  show (x, p.length + (1 + Oct.nsize x), 0) = _
  rw [Nat.add_comm 1]
theorem upto_own (x most : Nat) (hx : x < 18446744073709551616) (hm : x ≤ most) (p r : List UInt8) : rdUpto (p ++ (Oct.enc x ++ r)) p.length 0 most = (x, (p ++ Oct.enc x).length, 0) := by
  unfold rdUpto
  rw [num_own x hx]
  exact if_neg (by show ¬ most < x; omega)
theorem fixed_own (l : List UInt8) (n : Int) (hn : (l.length : Int) = n) (h0 : 0 < n) (p r : List UInt8) : rdFixed (p ++ (l ++ r)) p.length 0 n = (l, (p ++ l).length, 0) := by
  subst hn
  unfold rdFixed
  rw [if_neg (by omega), if_neg (by simp), List.drop_left, Int.toNat_natCast, List.take_left, List.length_append]
theorem block_own (m : List UInt8) (hm : m.length ≤ 1048576) (p r : List UInt8) : rdBlock (p ++ (Oct.enc m.length ++ (m ++ r))) p.length 0 = (m, (p ++ (Oct.enc m.length ++ m)).length, 0) := by
  unfold rdBlock
  rw [upto_own m.length 1048576 (by omega) hm]
  show rdFixed _ (p ++ Oct.enc m.length).length 0 (m.length : Int) = _
  rcases Nat.eq_zero_or_pos m.length with h | h
  · have e : m = [] := List.eq_nil_of_length_eq_zero h
    subst e
    unfold rdFixed
    rw [if_pos (.inr (by simp))]
    simp
  · rw [← List.append_assoc p, fixed_own m m.length rfl (by omega), ← List.append_assoc]
theorem end_own (b : List UInt8) : rdEnd b b.length 0 = 0 := if_neg (by omega)
theorem end_zero {b : List UInt8} {a e : Nat} (h : rdEnd b a e = 0) : e = 0 ∧ b.drop a = [] := by
  unfold rdEnd at h
  split at h
  · cases h
  · rename_i hn
    subst h
    refine ⟨rfl, List.drop_eq_nil_of_le ?_⟩
    rcases Nat.lt_or_ge a b.length with h | h
    · exact absurd ⟨rfl, h⟩ hn
    · exact h
theorem num_zero {b : List UInt8} {a e x a' : Nat} (h : rdNumber b a e = (x, a', 0)) : e = 0 ∧ b.drop a = Oct.enc x ++ b.drop a' ∧ x < 18446744073709551616 := by
  unfold rdNumber at h
  split at h
  · simp only [Prod.mk.injEq] at h
    omega
  · simp only [Prod.mk.injEq] at h
    have d := Oct.enc_dec (b.drop a) x (Oct.dec (b.drop a)).2.1 (by rw [← h.1, ← h.2.2])
    refine ⟨by omega, ?_, d.2.2⟩
    rw [d.2.1, ← h.2.1, ← List.drop_drop, List.take_append_drop]
theorem upto_zero {b : List UInt8} {a e most x a' : Nat} (h : rdUpto b a e most = (x, a', 0)) : e = 0 ∧ b.drop a = Oct.enc x ++ b.drop a' ∧ x ≤ most ∧ x < 18446744073709551616 := by
  unfold rdUpto at h
  split at h
  · simp only [Prod.mk.injEq] at h
    omega
  · rename_i hm
    rw [h] at hm
    obtain ⟨h1, h2, h3⟩ := num_zero h
    exact ⟨h1, h2, by simpa using hm, h3⟩
theorem upto_le (b : List UInt8) (a e most : Nat) : (rdUpto b a e most).1 ≤ most := by
  unfold rdUpto
  split
  · exact Nat.zero_le _
  · omega
theorem fixed_zero {b : List UInt8} {a e a' : Nat} {n : Int} {l : List UInt8} (h : rdFixed b a e n = (l, a', 0)) : e = 0 ∧ b.drop a = l ++ b.drop a' ∧ (l.length : Int) = max n 0 := by
  unfold rdFixed at h
  split at h
  · rename_i h1
    simp only [Prod.mk.injEq] at h
    obtain ⟨rfl, rfl, rfl⟩ := h
    refine ⟨rfl, rfl, ?_⟩
    simp
    omega
  · split at h
    · simp only [Prod.mk.injEq] at h
      omega
    · rename_i h1 h2
      simp only [Prod.mk.injEq] at h
      obtain ⟨rfl, rfl, _⟩ := h
      refine ⟨by omega, by rw [← List.drop_drop, List.take_append_drop], ?_⟩
      rw [List.length_take, List.length_drop]
      omega
theorem block_zero {b : List UInt8} {a e a' : Nat} {l : List UInt8} (h : rdBlock b a e = (l, a', 0)) : e = 0 ∧ b.drop a = Oct.enc l.length ++ (l ++ b.drop a') ∧ l.length ≤ 1048576 := by
  unfold rdBlock at h
  obtain ⟨x, a1, e1, hu⟩ : ∃ x a1 e1, rdUpto b a e 1048576 = (x, a1, e1) := ⟨_, _, _, rfl⟩
  rw [hu] at h
  obtain ⟨h1, h2, h3⟩ := fixed_zero h
  simp only at h1 h2 h3
  subst h1
  obtain ⟨k1, k2, k3, k4⟩ := upto_zero hu
  have hx : x = l.length := by omega
  subst hx
  exact ⟨k1, by rw [k2, h2], k3⟩
theorem fixed_len (b : List UInt8) (a e : Nat) (n : Nat) : (rdFixed b a e n).1.length ≤ n := by
  unfold rdFixed
  split
  · simp
  · split
    · simp
    · simp [List.length_take]; omega
end Go.Proofs.Ytedmogacklbcmaa.RdP
