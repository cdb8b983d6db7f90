/- A key, and the same followed by zero bytes up to a block, have the same HMAC; that of a longer key is that of its sum. -/
import Derived.Test.YtpllbnioncjhaaaDoorHkExpand
namespace Go.Proofs.YtpllbnioncjhaaaDoor
namespace Sha
theorem masked_zeros (key : List UInt8) (k : Nat) (m : UInt8) (h : key.length + k ≤ 64) : masked (key ++ List.replicate k 0) m = masked key m := by
  simp [masked]
  omega
theorem short_zeros (key : List UInt8) (k : Nat) (h : key.length + k ≤ 64) : short (key ++ List.replicate k 0) = key ++ List.replicate k 0 := by
  rw [short, if_neg (by simp; omega)]
theorem short_self (key : List UInt8) (h : key.length ≤ 64) : short key = key := by
  rw [short, if_neg (by omega)]
theorem mac_zeros (key l : List UInt8) (k : Nat) (h : key.length + k ≤ 64) : mac (key ++ List.replicate k 0) l = mac key l := by
  rw [mac, mac, short_zeros key k h, short_self key (by omega), masked_zeros key k _ h, masked_zeros key k _ h]
theorem mac_sum (key l : List UInt8) (h : 64 < key.length) : mac (sum key) l = mac key l := by
  have h32 : (sum key).length = 32 := sum_length key
  rw [mac, mac, short_self (sum key) (by omega), show short key = sum key by rw [short, if_pos h]]
end Sha
namespace Hk
theorem outL_32 (key info : List UInt8) : outL key info 32 = tN key info 1 := by
  have h := tN_length key info 0
  rw [outL, show (32 + 31) / 32 = 1 by omega, catN, catN, List.nil_append]
  exact List.take_of_length_le (by omega)
theorem catN_prefix (key info : List UInt8) (i d : Nat) : ∃ r, catN key info (i + d) = catN key info i ++ r := by
  induction d with
  | zero => exact ⟨[], by simp⟩
  | succ d ih =>
    obtain ⟨r, hr⟩ := ih
    exact ⟨r ++ tN key info (i + d + 1), by rw [← Nat.add_assoc, catN, hr, List.append_assoc]⟩
/-- A longer expansion begins with a shorter one. -/
theorem outL_take (key info : List UInt8) (m n : Nat) (h : m ≤ n) : (outL key info n).take m = outL key info m := by
  obtain ⟨r, hr⟩ := catN_prefix key info ((m + 31) / 32) ((n + 31) / 32 - (m + 31) / 32)
  rw [show (m + 31) / 32 + ((n + 31) / 32 - (m + 31) / 32) = (n + 31) / 32 by omega] at hr
  rw [outL, outL, hr, List.take_take, Nat.min_eq_left h, List.take_append_of_le_length (by rw [catN_length]; omega)]
end Hk
end Go.Proofs.YtpllbnioncjhaaaDoor
