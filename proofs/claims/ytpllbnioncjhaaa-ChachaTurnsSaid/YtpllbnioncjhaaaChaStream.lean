
/- The key stream, over bytes. -/
import Derived.Test.YtpllbnioncjhaaaW32
namespace Go.Proofs.Ytpllbnioncjhaaa
namespace Cha
def rotl (x : BitVec 32) (n m : Nat) : BitVec 32 := x <<< n ||| x >>> m
structure Q where
  a : BitVec 32
  b : BitVec 32
  c : BitVec 32
  d : BitVec 32
def half (q : Q) (n1 m1 n2 m2 : Nat) : Q :=
  let a := q.a + q.b
  let d := rotl (q.d ^^^ a) n1 m1
  let c := q.c + d
  let b := rotl (q.b ^^^ c) n2 m2
  ⟨a, b, c, d⟩
def quarter (q : Q) : Q := half (half q 16 16 12 20) 8 24 7 25
def at_ (s : List (BitVec 32)) (i : Nat) : BitVec 32 := s.getD i 0#32
/-- A quarter round on four words of a state. -/
def qr (s : List (BitVec 32)) (i : Nat × Nat × Nat × Nat) : List (BitVec 32) :=
  let q := quarter ⟨at_ s i.1, at_ s i.2.1, at_ s i.2.2.1, at_ s i.2.2.2⟩
  (((s.set i.1 q.a).set i.2.1 q.b).set i.2.2.1 q.c).set i.2.2.2 q.d
def table : List (Nat × Nat × Nat × Nat) := [(0, 4, 8, 12), (1, 5, 9, 13), (2, 6, 10, 14), (3, 7, 11, 15), (0, 5, 10, 15), (1, 6, 11, 12), (2, 7, 8, 13), (3, 4, 9, 14)]
def round (s : List (BitVec 32)) : List (BitVec 32) := table.foldl qr s
theorem qr_length (s : List (BitVec 32)) (i) : (qr s i).length = s.length := by simp [qr]
theorem fold_length (l : List (Nat × Nat × Nat × Nat)) : ∀ s : List (BitVec 32), (l.foldl qr s).length = s.length := by
  induction l with
  | nil => intro s; rfl
  | cons i l ih => intro s; rw [List.foldl_cons, ih, qr_length]
theorem round_length (s : List (BitVec 32)) : (round s).length = s.length := fold_length _ _
def rounds : Nat → List (BitVec 32) → List (BitVec 32)
  | 0, s => s
  | n + 1, s => round (rounds n s)
theorem rounds_length (n : Nat) (s : List (BitVec 32)) : (rounds n s).length = s.length := by
  induction n with
  | zero => rfl
  | succ n ih => rw [rounds, round_length, ih]

def le4 (a b c d : UInt8) : BitVec 32 := wb a ||| wb b <<< 8 ||| wb c <<< 16 ||| wb d <<< 24
theorem wb_bit (u : UInt8) (i : Nat) (h : 8 ≤ i) : (wb u).getLsbD i = false := by
  rw [wb, BitVec.getLsbD_ofNat]
  rw [Nat.testBit_lt_two_pow (Nat.lt_of_lt_of_le u.toNat_lt (Nat.pow_le_pow_right (by decide) h))]
  simp
theorem le4_add (a b c d : UInt8) : wb a + wb b <<< 8 + wb c <<< 16 + wb d <<< 24 = le4 a b c d := by
  have h1 : wb a &&& wb b <<< 8 = 0#32 := by
    apply BitVec.eq_of_getLsbD_eq
    intro i hi
    simp only [BitVec.getLsbD_and, BitVec.getLsbD_shiftLeft, BitVec.getLsbD_zero, hi, decide_true, Bool.true_and]
    by_cases h : i < 8
    · simp [h]
    · simp [h, wb_bit a i (by omega)]
  have h2 : (wb a ||| wb b <<< 8) &&& wb c <<< 16 = 0#32 := by
    apply BitVec.eq_of_getLsbD_eq
    intro i hi
    simp only [BitVec.getLsbD_and, BitVec.getLsbD_or, BitVec.getLsbD_shiftLeft, BitVec.getLsbD_zero, hi, decide_true, Bool.true_and]
    by_cases h : i < 16
    · simp [h]
    · simp [h, wb_bit a i (by omega), wb_bit b (i - 8) (by omega)]
  have h3 : (wb a ||| wb b <<< 8 ||| wb c <<< 16) &&& wb d <<< 24 = 0#32 := by
    apply BitVec.eq_of_getLsbD_eq
    intro i hi
    simp only [BitVec.getLsbD_and, BitVec.getLsbD_or, BitVec.getLsbD_shiftLeft, BitVec.getLsbD_zero, hi, decide_true, Bool.true_and]
    by_cases h : i < 24
    · simp [h]
    · simp [h, wb_bit a i (by omega), wb_bit b (i - 8) (by omega), wb_bit c (i - 16) (by omega)]
  unfold le4
  rw [BitVec.add_eq_or_of_and_eq_zero _ _ h1, BitVec.add_eq_or_of_and_eq_zero _ _ h2, BitVec.add_eq_or_of_and_eq_zero _ _ h3]

/-- The word at byte i of a row. -/
def word (l : List UInt8) (i : Nat) : BitVec 32 := le4 (l.getD i 0) (l.getD (i + 1) 0) (l.getD (i + 2) 0) (l.getD (i + 3) 0)
def state0 (counter : BitVec 32) : List (BitVec 32) :=
  [0x61707865#32, 0x3320646e#32, 0x79622d32#32, 0x6b206574#32, 0#32, 0#32, 0#32, 0#32, 0#32, 0#32, 0#32, 0#32, counter, 0#32, 0#32, 0#32]
def stKey (key : List UInt8) (s : List (BitVec 32)) : Nat → List (BitVec 32)
  | 0 => s
  | i + 1 => (stKey key s i).set (4 + i) (word key (4 * i))
def stNonce (nonce : List UInt8) (s : List (BitVec 32)) : Nat → List (BitVec 32)
  | 0 => s
  | i + 1 => (stNonce nonce s i).set (13 + i) (word nonce (4 * i))
theorem stKey_length (key : List UInt8) (s : List (BitVec 32)) (i : Nat) : (stKey key s i).length = s.length := by
  induction i with
  | zero => rfl
  | succ i ih => rw [stKey, List.length_set, ih]
theorem stNonce_length (key : List UInt8) (s : List (BitVec 32)) (i : Nat) : (stNonce key s i).length = s.length := by
  induction i with
  | zero => rfl
  | succ i ih => rw [stNonce, List.length_set, ih]
def state (key : List UInt8) (counter : BitVec 32) (nonce : List UInt8) : List (BitVec 32) := stNonce nonce (stKey key (state0 counter) 8) 3
theorem state_length (key : List UInt8) (counter : BitVec 32) (nonce : List UInt8) : (state key counter nonce).length = 16 := by
  rw [state, stNonce_length, stKey_length]
  rfl

def byteOf (x : BitVec 32) (j : Nat) : UInt8 := UInt8.ofNat ((x >>> (8 * j)).toNat % 256)
def bytesOf (x : BitVec 32) : List UInt8 := [byteOf x 0, byteOf x 1, byteOf x 2, byteOf x 3]
def sums (s t : List (BitVec 32)) : List (BitVec 32) := List.zipWith (· + ·) s t
def block (key : List UInt8) (counter : BitVec 32) (nonce : List UInt8) : List UInt8 :=
  (sums (rounds 10 (state key counter nonce)) (state key counter nonce)).flatMap bytesOf
theorem flat_at : ∀ (l : List (BitVec 32)) (i j : Nat), j < 4 → (l.flatMap bytesOf)[4 * i + j]? = l[i]?.map fun x => byteOf x j := by
  intro l
  induction l with
  | nil => intro i j _; simp
  | cons x l ih =>
    intro i j hj
    rw [List.flatMap_cons]
    cases i with
    | zero =>
      have h4 : j < (bytesOf x).length := hj
      rw [Nat.mul_zero, Nat.zero_add, List.getElem?_append_left h4]
      match j, hj with
      | 0, _ => rfl
      | 1, _ => rfl
      | 2, _ => rfl
      | 3, _ => rfl
    | succ i =>
      have h4 : (bytesOf x).length = 4 := rfl
      rw [List.getElem?_append_right (by omega), h4, show 4 * (i + 1) + j - 4 = 4 * i + j by omega, ih i j hj]
      rfl
theorem sums_at (r s : List (BitVec 32)) (i : Nat) (hr : i < r.length) (hs : i < s.length) : (sums r s)[i]? = some (at_ r i + at_ s i) := by
  unfold sums at_
  rw [List.getElem?_zipWith, List.getElem?_eq_getElem hr, List.getElem?_eq_getElem hs, List.getD_eq_getElem?_getD, List.getD_eq_getElem?_getD, List.getElem?_eq_getElem hr, List.getElem?_eq_getElem hs]
  rfl
/-- As many bytes as are written, then zeros. -/
def fill (b : List UInt8) (n : Nat) : List UInt8 := b.take n ++ List.replicate (64 - n) 0
theorem fill_length (b : List UInt8) (n : Nat) (hb : b.length = 64) (hn : n ≤ 64) : (fill b n).length = 64 := by
  rw [fill, List.length_append, List.length_take, List.length_replicate]
  omega
theorem fill_set (b : List UInt8) (n : Nat) (u : UInt8) (hb : b.length = 64) (hn : n < 64) (hu : b[n]? = some u) : (fill b n).set n u = fill b (n + 1) := by
  apply List.ext_getElem?
  intro k
  rw [List.getElem?_set]
  unfold fill
  simp only [List.getElem?_append, List.length_append, List.length_take, List.length_replicate, List.getElem?_take, List.getElem?_replicate, hb]
  by_cases h1 : n = k
  · subst h1
    simp [show min n 64 = n by omega, show min (n + 1) 64 = n + 1 by omega, hu, show n < n + (64 - n) by omega]
  · by_cases h2 : k < n
    · simp [h1, show min n 64 = n by omega, show min (n + 1) 64 = n + 1 by omega, h2, show k < n + 1 by omega]
    · simp [h1, show min n 64 = n by omega, show min (n + 1) 64 = n + 1 by omega, h2, show ¬ k < n + 1 by omega]
      by_cases h3 : k - n < 64 - n
      · simp [h3]
        omega
      · simp [h3]
        omega
theorem fill_all (b : List UInt8) (hb : b.length = 64) : fill b 64 = b := by
  rw [fill, List.take_of_length_le (by omega), show 64 - 64 = 0 from rfl, List.replicate_zero, List.append_nil]
theorem flat_length (l : List (BitVec 32)) : (l.flatMap bytesOf).length = 4 * l.length := by
  induction l with
  | nil => rfl
  | cons x l ih =>
    rw [List.flatMap_cons, List.length_append, ih, show (bytesOf x).length = 4 from rfl, List.length_cons]
    omega
theorem block_length (key : List UInt8) (counter : BitVec 32) (nonce : List UInt8) : (block key counter nonce).length = 64 := by
  rw [block, flat_length, sums, List.length_zipWith, rounds_length, state_length]
  rfl
theorem byteOf_is (x : BitVec 32) (j : Nat) : bv (byteOf x j) = .int .u8 ((x >>> (8 * j)).toNat % 256 : Nat) := by
  unfold bv byteOf
  rw [UInt8.toNat_ofNat']
  congr 2
  omega
end Cha
end Go.Proofs.Ytpllbnioncjhaaa
namespace Go.Proofs.Ytpllbnioncjhaaa
open Go.RowKit
namespace Cha
def stream (key : List UInt8) (c : BitVec 32) (nonce : List UInt8) (i : Nat) : UInt8 := (block key (c + BitVec.ofNat 32 (i / 64)) nonce).getD (i % 64) 0
/-- Bytes xor those of the key stream. -/
def xor (key : List UInt8) (c : BitVec 32) (nonce l : List UInt8) : List UInt8 := l.mapIdx fun i u => u ^^^ stream key c nonce i
theorem xor_length (key : List UInt8) (c : BitVec 32) (nonce l : List UInt8) : (xor key c nonce l).length = l.length := by simp [xor]
theorem xor_at (key : List UInt8) (c : BitVec 32) (nonce l : List UInt8) (i : Nat) (u : UInt8) (h : l[i]? = some u) : (xor key c nonce l)[i]? = some (u ^^^ stream key c nonce i) := by
  rw [xor, List.getElem?_mapIdx, h]
  rfl
theorem stream_at (key : List UInt8) (c : BitVec 32) (nonce : List UInt8) (k i : Nat) (hi : i < 64) : stream key c nonce (64 * k + i) = (block key (c + BitVec.ofNat 32 k) nonce).getD i 0 := by
  rw [stream, show (64 * k + i) / 64 = k by omega, show (64 * k + i) % 64 = i by omega]
/-- More counters are needed than there are. -/
def long (c : BitVec 32) (n : Nat) : Prop := 4294967296 - c.toNat < (n + 63) / 64
/-- What Xor returns, and with which error. -/
def err (c : BitVec 32) (n : Nat) : Nat := if 4294967296 - c.toNat < (n + 63) / 64 then 3 else 0
def out (key : List UInt8) (c : BitVec 32) (nonce l : List UInt8) : List UInt8 := if 4294967296 - c.toNat < (l.length + 63) / 64 then [] else xor key c nonce l
theorem err_cases (c : BitVec 32) (n : Nat) : (err c n = 3 ∧ long c n) ∨ (err c n = 0 ∧ ¬ long c n) := by
  unfold err long
  split <;> simp_all
theorem out_ok (key : List UInt8) (c : BitVec 32) (nonce l : List UInt8) (h : err c l.length = 0) : out key c nonce l = xor key c nonce l := by
  unfold err at h
  unfold out
  split
  · rename_i hc; rw [if_pos hc] at h; cases h
  · rfl
theorem out_long (key : List UInt8) (c : BitVec 32) (nonce l : List UInt8) (h : long c l.length) : out key c nonce l = [] := by
  unfold long at h
  unfold out
  rw [if_pos h]
/-- Block after block. -/
def ks (key : List UInt8) (c : BitVec 32) (nonce : List UInt8) : Nat → List UInt8
  | 0 => []
  | k + 1 => ks key c nonce k ++ block key (c + BitVec.ofNat 32 k) nonce
theorem ks_length (key : List UInt8) (c : BitVec 32) (nonce : List UInt8) (k : Nat) : (ks key c nonce k).length = 64 * k := by
  induction k with
  | zero => rfl
  | succ k ih => rw [ks, List.length_append, ih, block_length]; omega
theorem ks_at (key : List UInt8) (c : BitVec 32) (nonce : List UInt8) (k i : Nat) (h : i < 64 * k) : (ks key c nonce k)[i]? = some (stream key c nonce i) := by
  induction k with
  | zero => omega
  | succ k ih =>
    rw [ks]
    by_cases hi : i < 64 * k
    · rw [List.getElem?_append_left (by rw [ks_length]; exact hi)]
      exact ih hi
    · rw [List.getElem?_append_right (by rw [ks_length]; omega), ks_length]
      have e := stream_at key c nonce k (i - 64 * k) (by omega)
      rw [show 64 * k + (i - 64 * k) = i by omega] at e
      rw [e, List.getD_eq_getElem?_getD, List.getElem?_eq_getElem (by rw [block_length]; omega)]
      rfl
theorem xor_zeros (key : List UInt8) (c : BitVec 32) (nonce : List UInt8) (n k : Nat) (h : n ≤ 64 * k) : xor key c nonce (List.replicate n 0) = (ks key c nonce k).take n := by
  apply List.ext_getElem?
  intro i
  rw [List.getElem?_take]
  by_cases hi : i < n
  · rw [if_pos hi, ks_at _ _ _ _ _ (by omega), xor_at _ _ _ _ _ 0 (by rw [List.getElem?_replicate, if_pos hi])]
    exact congrArg some (UInt8.zero_xor)
  · rw [if_neg hi, List.getElem?_eq_none (by rw [xor_length, List.length_replicate]; omega)]
def fillN (b : List UInt8) (n : Nat) : List UInt8 := b.take n ++ List.replicate (b.length - n) 0
theorem fillN_length (b : List UInt8) (n : Nat) : (fillN b n).length = b.length := by
  rw [fillN, List.length_append, List.length_take, List.length_replicate]
  omega
theorem fillN_zero (b : List UInt8) : fillN b 0 = List.replicate b.length 0 := by simp [fillN]
theorem fillN_all (b : List UInt8) (n : Nat) (h : b.length ≤ n) : fillN b n = b := by
  rw [fillN, List.take_of_length_le h, show b.length - n = 0 by omega, List.replicate_zero, List.append_nil]
theorem fillN_set (b : List UInt8) (n : Nat) (u : UInt8) (hu : b[n]? = some u) : (fillN b n).set n u = fillN b (n + 1) := by
  have hn : n < b.length := (List.getElem?_eq_some_iff.1 hu).1
  apply List.ext_getElem?
  intro k
  rw [List.getElem?_set]
  unfold fillN
  simp only [List.getElem?_append, List.length_append, List.length_take, List.length_replicate, List.getElem?_take, List.getElem?_replicate]
  by_cases h1 : n = k
  · subst h1
    simp [show min n b.length = n by omega, show min (n + 1) b.length = n + 1 by omega, hu, show n < n + (b.length - n) by omega]
  · by_cases h2 : k < n
    · simp [h1, show min n b.length = n by omega, show min (n + 1) b.length = n + 1 by omega, h2, show k < n + 1 by omega]
    · simp only [h1, show min n b.length = n by omega, show min (n + 1) b.length = n + 1 by omega, h2, show ¬ k < n + 1 by omega, if_false]
      by_cases h3 : k < b.length
      · rw [if_pos (by omega), if_pos (by omega)]
      · rw [if_neg (by omega), if_neg (by omega)]
end Cha
theorem w8_xor (x y : UInt8) : bits .xor .u8 (x.toNat : Int) (y.toNat : Int) = ((x ^^^ y).toNat : Int) := by
  show IntKind.u8.wrap ((BitVec.ofInt 8 (x.toNat : Int) ^^^ BitVec.ofInt 8 (y.toNat : Int)).toNat : Int) = _
  have h1 := (x ^^^ y).toNat_lt
  simp only [BitVec.ofInt_natCast, BitVec.toNat_xor, BitVec.toNat_ofNat, UInt8.toNat_xor] at h1 ⊢
  rw [Nat.mod_eq_of_lt x.toNat_lt, Nat.mod_eq_of_lt y.toNat_lt]
  simp only [IntKind.wrap, IntKind.bits, IntKind.signed]
  simp
  omega
theorem w_addn (x : BitVec 32) (k : Nat) : ((x.toNat : Int) + (k : Int)) % (4294967296 : Int) = ((x + BitVec.ofNat 32 k).toNat : Int) := by
  rw [BitVec.toNat_add, BitVec.toNat_ofNat]
  omega
theorem w_add1 (x : BitVec 32) : ((x.toNat : Int) + 1) % (4294967296 : Int) = ((x + 1#32).toNat : Int) := w_add x 1#32
end Go.Proofs.Ytpllbnioncjhaaa
