/- Tags as numbers. -/
import Derived.Test.YtpllbnioncjhaaaPolKey
namespace Go.Proofs.Ytpllbnioncjhaaa
namespace Pol
open Poly (L)
theorem blockAt_lt (l : List UInt8) (i : Nat) : blockAt l i < 1361129467683753853853498429727072845824 := by
  have h1 := Poly.le_lt ((l.drop (16 * i)).take 16)
  have h2 : 256 ^ ((l.drop (16 * i)).take 16).length ≤ 256 ^ 16 := Nat.pow_le_pow_right (by decide) (by rw [List.length_take]; omega)
  unfold blockAt
  rw [e256] at h2 ⊢
  omega
theorem lastBlock_lt (l : List UInt8) : Poly.le (l.drop (16 * (l.length / 16))) + 256 ^ (l.length % 16) < 1361129467683753853853498429727072845824 := by
  have h1 := Poly.le_lt (l.drop (16 * (l.length / 16)))
  have h2 : 256 ^ (l.drop (16 * (l.length / 16))).length ≤ 256 ^ 16 := Nat.pow_le_pow_right (by decide) (by rw [List.length_drop]; omega)
  have h3 : 256 ^ (l.length % 16) ≤ 256 ^ 16 := Nat.pow_le_pow_right (by decide) (by omega)
  rw [e256] at h2 h3
  omega
theorem finL_loose {r : L} (hr : Poly.Fit r) (l : List UInt8) : Poly.Loose (finL r l) := by
  unfold finL
  split
  · exact Poly.next_loose (sumN_loose hr l _) hr (lastBlock_lt l)
  · exact sumN_loose hr l _
/-- What s is added to. -/
def hashL (r : L) (l : List UInt8) : Nat := Poly.val (finL r l) % Poly.P
theorem tagL_is {r : L} (hr : Poly.Fit r) (s : L) (l : List UInt8) : tagL r s l = Poly.bytes16 (hashL r l + Poly.val s) := by
  unfold tagL hashL
  rw [(Poly.red_val (finL_loose hr l)).1]
theorem tagK_is {key : List UInt8} (h : key.length = 32) (l : List UInt8) : tagK key l = Poly.bytes16 (hashL (rOf key) l + Poly.le (key.drop 16)) := by
  unfold tagK
  rw [tagL_is (rOf_fit h)]
  unfold sOf
  rw [Poly.limbs_val]
/-- A number of sixteen bytes less another one. -/
def lessB (a b : List UInt8) : List UInt8 := Poly.bytes16 (Poly.le a + 340282366920938463463374607431768211456 - Poly.le b)
theorem lessB_length (a b : List UInt8) : (lessB a b).length = 16 := Poly.bytes16_length _
theorem le_lt16 {a : List UInt8} (h : a.length = 16) : Poly.le a < 340282366920938463463374607431768211456 := by
  have := Poly.le_lt a
  rw [h, e256] at this
  exact this
theorem le_less {a b : List UInt8} : Poly.le (lessB a b) = (Poly.le a + 340282366920938463463374607431768211456 - Poly.le b) % 340282366920938463463374607431768211456 := Poly.le_bytes16 _
theorem clampB_take : ∀ key other : List UInt8, key.length = 32 → other.length = 32 → key.take 16 = other.take 16 → clampB key = clampB other
  | [_, _, _, _, _, _, _, _, _, _, _, _, _, _, _, _, _, _, _, _, _, _, _, _, _, _, _, _, _, _, _, _], [_, _, _, _, _, _, _, _, _, _, _, _, _, _, _, _, _, _, _, _, _, _, _, _, _, _, _, _, _, _, _, _], _, _, h => by
    simp only [List.take_succ_cons, List.take_zero, List.cons.injEq, and_true] at h
    obtain ⟨rfl, rfl, rfl, rfl, rfl, rfl, rfl, rfl, rfl, rfl, rfl, rfl, rfl, rfl, rfl, rfl⟩ := h
    rfl
theorem adds {key other : List UInt8} (hk : key.length = 32) (ho : other.length = 32) (h : key.take 16 = other.take 16) (l : List UInt8) : lessB (tagK other l) (tagK key l) = lessB (other.drop 16) (key.drop 16) := by
  have h1 := le_lt16 (a := key.drop 16) (by rw [List.length_drop]; omega)
  have h2 := le_lt16 (a := other.drop 16) (by rw [List.length_drop]; omega)
  unfold lessB
  apply Poly.bytes16_inj
  rw [tagK_is hk, tagK_is ho, Poly.le_bytes16, Poly.le_bytes16]
  have e : rOf other = rOf key := by unfold rOf; rw [clampB_take key other hk ho h]
  rw [e]
  generalize hashL (rOf key) l = x
  generalize Poly.le (key.drop 16) = a at *
  generalize Poly.le (other.drop 16) = b at *
  omega
theorem val_zero : Poly.val zeroL = 0 := by decide
theorem zero_mod : (0 : Nat) % Poly.P = 0 := Nat.zero_mod _
theorem sumN_zero (l : List UInt8) : ∀ n, Poly.val (sumN zeroL l n) % Poly.P = 0
  | 0 => by
    show Poly.val zeroL % Poly.P = 0
    rw [val_zero, zero_mod]
  | n + 1 => by
    simp only [sumN]
    rw [Poly.next_mod, val_zero, Nat.mul_zero, zero_mod]
theorem hash_zero (l : List UInt8) : hashL zeroL l = 0 := by
  unfold hashL finL
  split
  · rw [Poly.next_mod, val_zero, Nat.mul_zero, zero_mod]
  · exact sumN_zero l _
theorem limbs_zero : Poly.limbs 0 = zeroL := rfl
/-- The hash, as a fold of numbers. -/
def hashN (r : Nat) (l : List UInt8) : Nat → Nat
  | 0 => 0
  | n + 1 => (hashN r l n + blockAt l n) * r % Poly.P
theorem sumN_mod (r : L) (l : List UInt8) : ∀ n, Poly.val (sumN r l n) % Poly.P = hashN (Poly.val r) l n
  | 0 => by
    show Poly.val zeroL % Poly.P = 0
    rw [val_zero, zero_mod]
  | n + 1 => by
    simp only [sumN, hashN]
    rw [Poly.next_mod, ← sumN_mod r l n, Nat.mul_mod, Nat.add_mod]
    conv => rhs; rw [Nat.mul_mod, Nat.add_mod, Nat.mod_mod]
theorem hash_full (r : L) {l : List UInt8} (h : l.length % 16 = 0) : hashL r l = hashN (Poly.val r) l (l.length / 16) := by
  unfold hashL finL
  rw [if_neg (by omega)]
  exact sumN_mod r l _
theorem hash_short (r : L) {l : List UInt8} (h : l.length < 16) (h0 : 0 < l.length) : hashL r l = (Poly.le l + 256 ^ l.length) * Poly.val r % Poly.P := by
  unfold hashL finL
  rw [if_pos (by omega), Poly.next_mod]
  unfold sumL
  rw [Nat.div_eq_of_lt h, Nat.mod_eq_of_lt h]
  simp only [sumN, Nat.mul_zero, List.drop_zero]
  rw [val_zero, Nat.zero_add]
end Pol
end Go.Proofs.Ytpllbnioncjhaaa
