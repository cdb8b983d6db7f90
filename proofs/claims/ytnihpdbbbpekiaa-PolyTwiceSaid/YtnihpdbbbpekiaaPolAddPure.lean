/- Keys that differ in a half. -/
import Derived.Test.YtnihpdbbbpekiaaPolMath
namespace Go.Proofs.Ytnihpdbbbpekiaa
namespace Pol
open Poly (L)
theorem tag_none {key : List UInt8} (h : key.length = 32) (l : List UInt8) : tagK (List.replicate 16 0 ++ key.drop 16) l = key.drop 16 := by
  have hl : (List.replicate 16 (0 : UInt8) ++ key.drop 16).length = 32 := by rw [List.length_append, List.length_replicate, List.length_drop]; omega
  have hd : (List.replicate 16 (0 : UInt8) ++ key.drop 16).drop 16 = key.drop 16 := List.drop_left' (by simp)
  have hr : rOf (List.replicate 16 0 ++ key.drop 16) = zeroL := by
    unfold rOf
    rw [clampB_take (List.replicate 16 0 ++ key.drop 16) (List.replicate 32 0) hl (by decide) (by rw [List.take_left' (by simp)]; rfl)]
    rw [show Poly.le (clampB (List.replicate 32 0)) = 0 by decide]
    rfl
  rw [tagK_is hl, hr, hash_zero, hd, Nat.zero_add]
  exact Poly.bytes16_le _ (by rw [List.length_drop]; omega)
theorem and_twice (a b : UInt8) : a &&& b &&& b = a &&& b := by rw [UInt8.and_assoc, UInt8.and_self]
theorem clamp_twice : ∀ key rest : List UInt8, key.length = 32 → clampB (clampB key ++ rest) = clampB key
  | [_, _, _, _, _, _, _, _, _, _, _, _, _, _, _, _, _, _, _, _, _, _, _, _, _, _, _, _, _, _, _, _], _, _ => by
    simp only [clampB, List.cons_append, and_twice]
theorem tag_clamped {key : List UInt8} (h : key.length = 32) (l : List UInt8) : tagK (clampB key ++ key.drop 16) l = tagK key l := by
  have hl : (clampB key ++ key.drop 16).length = 32 := by rw [List.length_append, clampB_length key h, List.length_drop]; omega
  have hd : (clampB key ++ key.drop 16).drop 16 = key.drop 16 := List.drop_left' (clampB_length key h)
  rw [tagK_is hl, tagK_is h, hd]
  unfold rOf
  rw [clamp_twice key _ h]
theorem tag_other {key s : List UInt8} (h : key.length = 32) (hs : s.length = 16) (l : List UInt8) : lessB (tagK (key.take 16 ++ s) l) (tagK key l) = lessB s (key.drop 16) := by
  have h1 : (key.take 16).length = 16 := by rw [List.length_take]; omega
  have := adds (key := key) (other := key.take 16 ++ s) h (by rw [List.length_append, h1, hs]) (by rw [List.take_left' h1]) l
  rw [List.drop_left' h1] at this
  exact this
/-- A key whose r is 2. -/
def key2 (s : List UInt8) : List UInt8 := 2 :: (List.replicate 15 0 ++ s)
theorem key2_length {s : List UInt8} (h : s.length = 16) : (key2 s).length = 32 := by simp [key2, h]
theorem key2_r {s : List UInt8} (h : s.length = 16) : Poly.val (rOf (key2 s)) = 2 := by
  unfold rOf
  rw [clampB_take (key2 s) (key2 (List.replicate 16 0)) (key2_length h) (by decide) rfl, Poly.limbs_val]
  decide
theorem key2_s (s : List UInt8) : (key2 s).drop 16 = s := by
  show (2 :: (List.replicate 15 0 ++ s)).drop 16 = s
  rw [List.drop_succ_cons]
  exact List.drop_left' (by simp)
def xOf (b : List UInt8) : List UInt8 := if b.length < 16 then b ++ 1 :: List.replicate (15 - b.length) 0 else b
theorem le_zeros : ∀ n, Poly.le (List.replicate n 0) = 0
  | 0 => rfl
  | n + 1 => by
    rw [List.replicate_succ]
    show (0 : UInt8).toNat + 256 * Poly.le (List.replicate n 0) = 0
    rw [le_zeros n]
    rfl
theorem twice_mod (x y z : Nat) (hx : x < 340282366920938463463374607431768211456) (hy : y < 340282366920938463463374607431768211456) (hz : z % 340282366920938463463374607431768211456 = 2 * x % 340282366920938463463374607431768211456) :
    ((z + y) % 340282366920938463463374607431768211456 + 340282366920938463463374607431768211456 - y) % 340282366920938463463374607431768211456 = (x + 340282366920938463463374607431768211456 - (0 + 340282366920938463463374607431768211456 - x) % 340282366920938463463374607431768211456) % 340282366920938463463374607431768211456 := by
  have h1 : ((z + y) % 340282366920938463463374607431768211456 + 340282366920938463463374607431768211456 - y) % 340282366920938463463374607431768211456 = z % 340282366920938463463374607431768211456 := by omega
  rw [h1, hz]
  omega
theorem twice {b s : List UInt8} (hs : s.length = 16) (h0 : 0 < b.length) (h16 : b.length ≤ 16) (hb : b.length = 16 → (b.getD 15 0).toNat ≤ 127) : lessB (tagK (key2 s) b) s = lessB (xOf b) (lessB (List.replicate 16 0) (xOf b)) := by
  have hsl := le_lt16 hs
  have hP : Poly.P = 1361129467683753853853498429727072845819 := rfl
  have hx : (xOf b).length = 16 := by
    unfold xOf
    split
    · simp; omega
    · omega
  have hxl := le_lt16 hx
  unfold lessB
  apply Poly.bytes16_inj
  rw [Poly.le_bytes16, le_zeros, tagK_is (key2_length hs), key2_s, Poly.le_bytes16]
  rcases Nat.lt_or_ge b.length 16 with h | h
  · have e : Poly.le (xOf b) = Poly.le b + 256 ^ b.length := by
      unfold xOf
      rw [if_pos h, Poly.le_append]
      show _ + 256 ^ b.length * ((1 : UInt8).toNat + 256 * Poly.le (List.replicate (15 - b.length) 0)) = _
      rw [le_zeros]
      simp
    rw [hash_short _ h h0, key2_r hs, ← e, hP]
    apply twice_mod _ _ _ hxl hsl
    rw [Nat.mod_eq_of_lt (show Poly.le (xOf b) * 2 < 1361129467683753853853498429727072845819 by omega), Nat.mul_comm]
  · have hl16 : b.length = 16 := by omega
    have e : xOf b = b := by unfold xOf; rw [if_neg (by omega)]
    rw [hash_full _ (by omega), hl16, key2_r hs, e]
    rw [e] at hxl
    have hb2 : blockAt b 0 = Poly.le b + 340282366920938463463374607431768211456 := by
      unfold blockAt
      rw [Nat.mul_zero, List.drop_zero, List.take_of_length_le (by omega), e256]
    show ((((hashN 2 b 0 + blockAt b 0) * 2 % Poly.P) + _) % _ + _ - _) % _ = _
    rw [show hashN 2 b 0 = 0 from rfl, Nat.zero_add, hb2, hP]
    have hlt : Poly.le b < 170141183460469231731687303715884105728 := by
      have ht := take_getD15 hl16
      have h1 := Poly.le_lt (b.take 15)
      rw [ht, Poly.le_append]
      have hlen : (b.take 15).length = 15 := by rw [List.length_take]; omega
      rw [hlen] at h1 ⊢
      have h2 := hb hl16
      have e15 : (256 : Nat) ^ 15 = 1329227995784915872903807060280344576 := by decide
      rw [e15] at h1 ⊢
      show _ + 1329227995784915872903807060280344576 * ((b.getD 15 0).toNat + 256 * 0) < _
      omega
    apply twice_mod _ _ _ hxl hsl
    rw [Nat.mod_eq_of_lt (show (Poly.le b + 340282366920938463463374607431768211456) * 2 < 1361129467683753853853498429727072845819 by omega)]
    omega
where
  take_getD15 {b : List UInt8} (h : b.length = 16) : b = b.take 15 ++ [b.getD 15 0] := by
    have := List.take_succ_eq_append_getElem (l := b) (i := 15) (by omega)
    rw [List.take_of_length_le (by omega)] at this
    rw [List.getD_eq_getElem?_getD, List.getElem?_eq_getElem (by omega)]
    exact this
end Pol
end Go.Proofs.Ytnihpdbbbpekiaa
