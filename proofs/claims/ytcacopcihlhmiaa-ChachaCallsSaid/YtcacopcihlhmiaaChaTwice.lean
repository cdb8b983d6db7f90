/- Xor twice; in two parts; the first bytes of a key stream. -/
import Derived.Test.YtcacopcihlhmiaaChaStream
namespace Go.Proofs.Ytcacopcihlhmiaa
namespace Cha
theorem xor_xor (key : List UInt8) (c : BitVec 32) (nonce l : List UInt8) : xor key c nonce (xor key c nonce l) = l := by
  apply List.ext_getElem?
  intro i
  by_cases hi : i < l.length
  · have h := List.getElem?_eq_getElem hi
    rw [xor_at _ _ _ _ _ _ (xor_at _ _ _ _ _ _ h), h, UInt8.xor_assoc, UInt8.xor_self, UInt8.xor_zero]
  · rw [List.getElem?_eq_none (by rw [xor_length, xor_length]; omega), List.getElem?_eq_none (by omega)]
theorem stream_add (key : List UInt8) (c : BitVec 32) (nonce : List UInt8) (k i : Nat) : stream key (c + BitVec.ofNat 32 k) nonce i = stream key c nonce (64 * k + i) := by
  unfold stream
  rw [show (64 * k + i) / 64 = k + i / 64 by omega, show (64 * k + i) % 64 = i % 64 by omega, BitVec.ofNat_add, BitVec.add_assoc]
theorem xor_split (key : List UInt8) (c : BitVec 32) (nonce l : List UInt8) (k : Nat) (h : 64 * k ≤ l.length) : xor key c nonce (l.take (64 * k)) ++ xor key (c + BitVec.ofNat 32 k) nonce (l.drop (64 * k)) = xor key c nonce l := by
  have hl : (xor key c nonce (l.take (64 * k))).length = 64 * k := by rw [xor_length, List.length_take]; omega
  apply List.ext_getElem?
  intro i
  by_cases hi : i < l.length
  · have hu := List.getElem?_eq_getElem hi
    rw [xor_at _ _ _ _ _ _ hu]
    by_cases h1 : i < 64 * k
    · rw [List.getElem?_append_left (by omega)]
      exact xor_at _ _ _ _ _ _ (by rw [List.getElem?_take, if_pos h1, hu])
    · rw [List.getElem?_append_right (by omega), hl, xor_at _ _ _ _ _ (l[i]) (by rw [List.getElem?_drop, show 64 * k + (i - 64 * k) = i by omega, hu]), stream_add, show 64 * k + (i - 64 * k) = i by omega]
  · rw [List.getElem?_eq_none (by rw [List.length_append, hl, xor_length, List.length_drop]; omega), List.getElem?_eq_none (by rw [xor_length]; omega)]
theorem xor_first (key : List UInt8) (c : BitVec 32) (nonce : List UInt8) (n m : Nat) (hm : m ≤ 64) (hn : m ≤ n) : (xor key c nonce (List.replicate n 0)).take m = (block key c nonce).take m := by
  apply List.ext_getElem?
  intro i
  rw [List.getElem?_take, List.getElem?_take]
  by_cases hi : i < m
  · rw [if_pos hi, if_pos hi, xor_at _ _ _ _ _ 0 (by rw [List.getElem?_replicate, if_pos (by omega)]), UInt8.zero_xor]
    have e := stream_at key c nonce 0 i (by omega)
    rw [Nat.mul_zero, Nat.zero_add] at e
    rw [e, show c + BitVec.ofNat 32 0 = c by simp, List.getD_eq_getElem?_getD, List.getElem?_eq_getElem (by rw [block_length]; omega)]
    rfl
  · rw [if_neg hi, if_neg hi]
theorem err_zero (c : BitVec 32) (n : Nat) (h : ¬ long c n) : err c n = 0 := by
  unfold long at h
  unfold err
  rw [if_neg h]
theorem long_less (c : BitVec 32) (n m : Nat) (h : ¬ long c n) (hm : m ≤ n) : ¬ long c m := by
  unfold long at *
  have : (m + 63) / 64 ≤ (n + 63) / 64 := Nat.div_le_div_right (by omega)
  omega
/-- The second part's counter is there, or nothing is left for it. -/
theorem long_rest (c : BitVec 32) (n k : Nat) (h : ¬ long c n) (hk : 64 * k ≤ n) : (c.toNat + k < 4294967296 ∧ ¬ long (c + BitVec.ofNat 32 k) (n - 64 * k)) ∨ (4294967296 ≤ c.toNat + k ∧ n = 64 * k) := by
  unfold long at *
  have hc := c.isLt
  rw [BitVec.toNat_add, BitVec.toNat_ofNat]
  by_cases h1 : c.toNat + k < 4294967296
  · refine .inl ⟨h1, ?_⟩
    rw [show (c.toNat + k % 2 ^ 32) % 2 ^ 32 = c.toNat + k by omega]
    omega
  · exact .inr ⟨by omega, by omega⟩
end Cha
end Go.Proofs.Ytcacopcihlhmiaa
