/- The key stream, over bytes. -/
import Derived.Test.YtpllbnioncjhaaaChaPure
namespace Go.Proofs.Ytpllbnioncjhaaa
open Go.RowKit
namespace Cha
def stream (key : List UInt8) (c : BitVec 32) (nonce : List UInt8) (i : Nat) : UInt8 := (block key (c + BitVec.ofNat 32 (i / 64)) nonce).getD (i % 64) 0
/-- Bytes xor those of the key stream. -/
def xor (key : List UInt8) (c : BitVec 32) (nonce l : List UInt8) : List UInt8 := l.mapIdx fun i u => u ^^^ stream key c nonce i
theorem xor_length (key : List UInt8) (c : BitVec 32) (nonce l : List UInt8) : (xor key c nonce l).length = l.length := by simp [xor]
theorem xor_at (key : List UInt8) (c : BitVec 32) (nonce l : List UInt8) (i : Nat) (u : UInt8) (h : l[i]? = some u) : (xor key c nonce l)[i]? = some (u ^^^ stream key c nonce i) := by
  rw [xor, List.getElem?_mapIdx, h]
  rfl
theorem stream_at (key : List UInt8) (c : BitVec 32) (nonce : List UInt8) (k i : Nat) (hi : i < 64) : stream key c nonce (64 * k + i) = (block key (c + BitVec.ofNat 32 k) nonce).getD i 0 := by
  rw [stream, show (64 * k + i) / 64 = k by omega, show (64 * k + i) % 64 = i by omega]
/-- More counters are needed than there are. -/
def long (c : BitVec 32) (n : Nat) : Prop := 4294967296 - c.toNat < (n + 63) / 64
/-- What Xor returns, and with which error. -/
def err (c : BitVec 32) (n : Nat) : Nat := if 4294967296 - c.toNat < (n + 63) / 64 then 3 else 0
def out (key : List UInt8) (c : BitVec 32) (nonce l : List UInt8) : List UInt8 := if 4294967296 - c.toNat < (l.length + 63) / 64 then [] else xor key c nonce l
theorem err_cases (c : BitVec 32) (n : Nat) : (err c n = 3 ∧ long c n) ∨ (err c n = 0 ∧ ¬ long c n) := by
  unfold err long
  split <;> simp_all
theorem out_ok (key : List UInt8) (c : BitVec 32) (nonce l : List UInt8) (h : err c l.length = 0) : out key c nonce l = xor key c nonce l := by
  unfold err at h
  unfold out
  split
  · rename_i hc; rw [if_pos hc] at h; cases h
  · rfl
theorem out_long (key : List UInt8) (c : BitVec 32) (nonce l : List UInt8) (h : long c l.length) : out key c nonce l = [] := by
  unfold long at h
  unfold out
  rw [if_pos h]
/-- Block after block. -/
def ks (key : List UInt8) (c : BitVec 32) (nonce : List UInt8) : Nat → List UInt8
  | 0 => []
  | k + 1 => ks key c nonce k ++ block key (c + BitVec.ofNat 32 k) nonce
theorem ks_length (key : List UInt8) (c : BitVec 32) (nonce : List UInt8) (k : Nat) : (ks key c nonce k).length = 64 * k := by
  induction k with
  | zero => rfl
  | succ k ih => rw [ks, List.length_append, ih, block_length]; omega
theorem ks_at (key : List UInt8) (c : BitVec 32) (nonce : List UInt8) (k i : Nat) (h : i < 64 * k) : (ks key c nonce k)[i]? = some (stream key c nonce i) := by
  induction k with
  | zero => omega
  | succ k ih =>
    rw [ks]
    by_cases hi : i < 64 * k
    · rw [List.getElem?_append_left (by rw [ks_length]; exact hi)]
      exact ih hi
    · rw [List.getElem?_append_right (by rw [ks_length]; omega), ks_length]
      have e := stream_at key c nonce k (i - 64 * k) (by omega)
      rw [show 64 * k + (i - 64 * k) = i by omega] at e
      rw [e, List.getD_eq_getElem?_getD, List.getElem?_eq_getElem (by rw [block_length]; omega)]
      rfl
theorem xor_zeros (key : List UInt8) (c : BitVec 32) (nonce : List UInt8) (n k : Nat) (h : n ≤ 64 * k) : xor key c nonce (List.replicate n 0) = (ks key c nonce k).take n := by
  apply List.ext_getElem?
  intro i
  rw [List.getElem?_take]
  by_cases hi : i < n
  · rw [if_pos hi, ks_at _ _ _ _ _ (by omega), xor_at _ _ _ _ _ 0 (by rw [List.getElem?_replicate, if_pos hi])]
    exact congrArg some (UInt8.zero_xor)
  · rw [if_neg hi, List.getElem?_eq_none (by rw [xor_length, List.length_replicate]; omega)]
def fillN (b : List UInt8) (n : Nat) : List UInt8 := b.take n ++ List.replicate (b.length - n) 0
theorem fillN_length (b : List UInt8) (n : Nat) : (fillN b n).length = b.length := by
  rw [fillN, List.length_append, List.length_take, List.length_replicate]
  omega
theorem fillN_zero (b : List UInt8) : fillN b 0 = List.replicate b.length 0 := by simp [fillN]
theorem fillN_all (b : List UInt8) (n : Nat) (h : b.length ≤ n) : fillN b n = b := by
  rw [fillN, List.take_of_length_le h, show b.length - n = 0 by omega, List.replicate_zero, List.append_nil]
theorem fillN_set (b : List UInt8) (n : Nat) (u : UInt8) (hu : b[n]? = some u) : (fillN b n).set n u = fillN b (n + 1) := by
  have hn : n < b.length := (List.getElem?_eq_some_iff.1 hu).1
  apply List.ext_getElem?
  intro k
  rw [List.getElem?_set]
  unfold fillN
  simp only [List.getElem?_append, List.length_append, List.length_take, List.length_replicate, List.getElem?_take, List.getElem?_replicate]
  by_cases h1 : n = k
  · subst h1
    simp [show min n b.length = n by omega, show min (n + 1) b.length = n + 1 by omega, hu, show n < n + (b.length - n) by omega]
  · by_cases h2 : k < n
    · simp [h1, show min n b.length = n by omega, show min (n + 1) b.length = n + 1 by omega, h2, show k < n + 1 by omega]
    · simp only [h1, show min n b.length = n by omega, show min (n + 1) b.length = n + 1 by omega, h2, show ¬ k < n + 1 by omega, if_false]
      by_cases h3 : k < b.length
      · rw [if_pos (by omega), if_pos (by omega)]
      · rw [if_neg (by omega), if_neg (by omega)]
end Cha
theorem w8_xor (x y : UInt8) : bits .xor .u8 (x.toNat : Int) (y.toNat : Int) = ((x ^^^ y).toNat : Int) := by
  show IntKind.u8.wrap ((BitVec.ofInt 8 (x.toNat : Int) ^^^ BitVec.ofInt 8 (y.toNat : Int)).toNat : Int) = _
  have h1 := (x ^^^ y).toNat_lt
  simp only [BitVec.ofInt_natCast, BitVec.toNat_xor, BitVec.toNat_ofNat, UInt8.toNat_xor] at h1 ⊢
  rw [Nat.mod_eq_of_lt x.toNat_lt, Nat.mod_eq_of_lt y.toNat_lt]
  simp only [IntKind.wrap, IntKind.bits, IntKind.signed]
  simp
  omega
theorem w_addn (x : BitVec 32) (k : Nat) : ((x.toNat : Int) + (k : Int)) % (4294967296 : Int) = ((x + BitVec.ofNat 32 k).toNat : Int) := by
  rw [BitVec.toNat_add, BitVec.toNat_ofNat]
  omega
theorem w_add1 (x : BitVec 32) : ((x.toNat : Int) + 1) % (4294967296 : Int) = ((x + 1#32).toNat : Int) := w_add x 1#32
end Go.Proofs.Ytpllbnioncjhaaa
