/- SHA-256 and HMAC as plain functions of lists of bytes. -/
import Derived.Test.YtpllbnioncjhaaaDoorW32
namespace Go.Proofs.YtpllbnioncjhaaaDoor
namespace Sha
abbrev Wd := BitVec 32
def rotr (x : Wd) (n : Nat) : Wd := x <<< (32 - n) ||| x >>> n
def K : List Wd := [0x428a2f98#32, 0x71374491#32, 0xb5c0fbcf#32, 0xe9b5dba5#32, 0x3956c25b#32, 0x59f111f1#32, 0x923f82a4#32, 0xab1c5ed5#32, 0xd807aa98#32, 0x12835b01#32, 0x243185be#32, 0x550c7dc3#32, 0x72be5d74#32, 0x80deb1fe#32, 0x9bdc06a7#32, 0xc19bf174#32, 0xe49b69c1#32, 0xefbe4786#32, 0x0fc19dc6#32, 0x240ca1cc#32, 0x2de92c6f#32, 0x4a7484aa#32, 0x5cb0a9dc#32, 0x76f988da#32, 0x983e5152#32, 0xa831c66d#32, 0xb00327c8#32, 0xbf597fc7#32, 0xc6e00bf3#32, 0xd5a79147#32, 0x06ca6351#32, 0x14292967#32, 0x27b70a85#32, 0x2e1b2138#32, 0x4d2c6dfc#32, 0x53380d13#32, 0x650a7354#32, 0x766a0abb#32, 0x81c2c92e#32, 0x92722c85#32, 0xa2bfe8a1#32, 0xa81a664b#32, 0xc24b8b70#32, 0xc76c51a3#32, 0xd192e819#32, 0xd6990624#32, 0xf40e3585#32, 0x106aa070#32, 0x19a4c116#32, 0x1e376c08#32, 0x2748774c#32, 0x34b0bcb5#32, 0x391c0cb3#32, 0x4ed8aa4a#32, 0x5b9cca4f#32, 0x682e6ff3#32, 0x748f82ee#32, 0x78a5636f#32, 0x84c87814#32, 0x8cc70208#32, 0x90befffa#32, 0xa4506ceb#32, 0xbef9a3f7#32, 0xc67178f2#32]
def at_ (s : List Wd) (i : Nat) : Wd := s.getD i 0#32
def s0 (x : Wd) : Wd := rotr x 7 ^^^ rotr x 18 ^^^ x >>> 3
def s1 (x : Wd) : Wd := rotr x 17 ^^^ rotr x 19 ^^^ x >>> 10
def S0 (x : Wd) : Wd := rotr x 2 ^^^ rotr x 13 ^^^ rotr x 22
def S1 (x : Wd) : Wd := rotr x 6 ^^^ rotr x 11 ^^^ rotr x 25
def next (w : List Wd) (i : Nat) : Wd := s1 (at_ w (i + 14)) + at_ w (i + 9) + s0 (at_ w (i + 1)) + at_ w i
/-- The words of all rounds, as far as they are worked out. -/
def sched (m : List Wd) : Nat → List Wd
  | 0 => m ++ List.replicate 48 0#32
  | i + 1 => (sched m i).set (16 + i) (next (sched m i) i)
structure St where
  a : Wd
  b : Wd
  c : Wd
  d : Wd
  e : Wd
  f : Wd
  g : Wd
  h : Wd
def tOf (s : St) (k w : Wd) : Wd := s.h + S1 s.e + (s.e &&& s.f ^^^ ~~~ s.e &&& s.g) + k + w
def uOf (s : St) : Wd := S0 s.a + (s.a &&& s.b ^^^ s.a &&& s.c ^^^ s.b &&& s.c)
def rnd (s : St) (k w : Wd) : St := ⟨tOf s k w + uOf s, s.a, s.b, s.c, s.d + tOf s k w, s.e, s.f, s.g⟩
def rnds (w : List Wd) (s : St) : Nat → St
  | 0 => s
  | i + 1 => rnd (rnds w s i) (at_ K i) (at_ w i)
def St.toList (s : St) : List Wd := [s.a, s.b, s.c, s.d, s.e, s.f, s.g, s.h]
def ofList (s : List Wd) : St := ⟨at_ s 0, at_ s 1, at_ s 2, at_ s 3, at_ s 4, at_ s 5, at_ s 6, at_ s 7⟩
def comp (s m : List Wd) : List Wd := List.zipWith (· + ·) s (rnds (sched m 48) (ofList s) 64).toList
/-- A byte that goes into its word, the n-th of a block. -/
def put (B : List Wd) (n : Nat) (c : UInt8) : List Wd := B.set (n / 4) (at_ B (n / 4) <<< 8 ||| wb c)
def feed : List Wd → Nat → List UInt8 → List Wd
  | B, _, [] => B
  | B, n, c :: l => feed (put B n c) (n + 1) l
def zeros16 : List Wd := List.replicate 16 0#32
def words (l : List UInt8) : List Wd := feed zeros16 0 (l.take 64)
def blocks : Nat → List Wd → List UInt8 → List Wd
  | 0, s, _ => s
  | n + 1, s, l => blocks n (comp s (words l)) (l.drop 64)
def byteOf (x : Wd) (j : Nat) : UInt8 := UInt8.ofNat ((x >>> (24 - 8 * j)).toNat % 256)
def start : List Wd := [0x6a09e667#32, 0xbb67ae85#32, 0x3c6ef372#32, 0xa54ff53a#32, 0x510e527f#32, 0x9b05688c#32, 0x1f83d9ab#32, 0x5be0cd19#32]
def zerosOf (n : Nat) : Nat := (119 - n % 64) % 64
def lenByte (n i : Nat) : UInt8 := UInt8.ofNat (n * 8 / 2 ^ (8 * i) % 256)
def pad (n : Nat) : List UInt8 := 0x80 :: (List.replicate (zerosOf n) 0 ++ [lenByte n 7, lenByte n 6, lenByte n 5, lenByte n 4, lenByte n 3, lenByte n 2, lenByte n 1, lenByte n 0])
def outOf (s : List Wd) : List UInt8 := s.flatMap fun x => [byteOf x 0, byteOf x 1, byteOf x 2, byteOf x 3]
def full (l : List UInt8) : List UInt8 := l ++ pad l.length
def sum (l : List UInt8) : List UInt8 := outOf (blocks ((full l).length / 64) start (full l))
/-- A key, padded to a block, each byte xor the mask. -/
def masked (key : List UInt8) (m : UInt8) : List UInt8 := (key ++ List.replicate (64 - key.length) 0).map (m ^^^ ·)
def short (key : List UInt8) : List UInt8 := if 64 < key.length then sum key else key
def mac (key l : List UInt8) : List UInt8 := sum (masked (short key) 0x5c ++ sum (masked (short key) 0x36 ++ l))

theorem sched_length (m : List Wd) (i : Nat) : (sched m i).length = m.length + 48 := by
  induction i with
  | zero => simp [sched]
  | succ i ih => rw [sched, List.length_set, ih]
theorem comp_length (s m : List Wd) (h : s.length = 8) : (comp s m).length = 8 := by
  rw [comp, List.length_zipWith, h]
  rfl
theorem put_length (B : List Wd) (n : Nat) (c : UInt8) : (put B n c).length = B.length := by rw [put, List.length_set]
theorem feed_length : ∀ (l : List UInt8) (B : List Wd) (n : Nat), (feed B n l).length = B.length := by
  intro l
  induction l with
  | nil => intro B n; rfl
  | cons c l ih => intro B n; rw [feed, ih, put_length]
theorem feed_append : ∀ (l m : List UInt8) (B : List Wd) (n : Nat), feed B n (l ++ m) = feed (feed B n l) (n + l.length) m := by
  intro l
  induction l with
  | nil => intro m B n; rfl
  | cons c l ih =>
    intro m B n
    rw [List.cons_append, feed, ih, feed, List.length_cons]
    congr 1
    omega
theorem words_length (l : List UInt8) : (words l).length = 16 := by rw [words, feed_length]; rfl
theorem blocks_length : ∀ (n : Nat) (s : List Wd) (l : List UInt8), s.length = 8 → (blocks n s l).length = 8 := by
  intro n
  induction n with
  | zero => intro s l h; exact h
  | succ n ih => intro s l h; rw [blocks]; exact ih _ _ (comp_length _ _ h)
theorem outOf_length (s : List Wd) : (outOf s).length = 4 * s.length := by
  induction s with
  | nil => rfl
  | cons x s ih =>
    rw [outOf, List.flatMap_cons, List.length_append]
    rw [outOf] at ih
    rw [ih, List.length_cons]
    simp
    omega
theorem sum_length (l : List UInt8) : (sum l).length = 32 := by
  rw [sum, outOf_length, blocks_length _ _ _ rfl]
theorem pad_length (n : Nat) : (pad n).length = zerosOf n + 9 := by
  simp [pad]
theorem zerosOf_is (n : Nat) : (n + zerosOf n + 9) % 64 = 0 ∧ zerosOf n < 64 := by
  unfold zerosOf
  omega
theorem full_length (l : List UInt8) : (full l).length = l.length + zerosOf l.length + 9 := by
  rw [full, List.length_append, pad_length]
  omega
theorem masked_length (key : List UInt8) (m : UInt8) (h : key.length ≤ 64) : (masked key m).length = 64 := by
  simp [masked]
  omega
theorem short_length (key : List UInt8) : (short key).length ≤ 64 := by
  unfold short
  split
  · rw [sum_length]; omega
  · omega
theorem mac_length (key l : List UInt8) : (mac key l).length = 32 := sum_length _
theorem outOf_at : ∀ (l : List Wd) (i j : Nat), j < 4 → (outOf l)[4 * i + j]? = l[i]?.map fun x => byteOf x j := by
  intro l
  induction l with
  | nil => intro i j _; simp [outOf]
  | cons x l ih =>
    intro i j hj
    unfold outOf at ih ⊢
    rw [List.flatMap_cons]
    cases i with
    | zero =>
      rw [Nat.mul_zero, Nat.zero_add, List.getElem?_append_left hj]
      match j, hj with
      | 0, _ => rfl
      | 1, _ => rfl
      | 2, _ => rfl
      | 3, _ => rfl
    | succ i =>
      rw [List.getElem?_append_right (by simp; omega)]
      rw [show 4 * (i + 1) + j - [byteOf x 0, byteOf x 1, byteOf x 2, byteOf x 3].length = 4 * i + j by simp; omega, ih i j hj]
      rfl
theorem byteOf_is (x : Wd) (j : Nat) : bv (byteOf x j) = .int .u8 ((x >>> (24 - 8 * j)).toNat % 256 : Nat) := by
  unfold bv byteOf
  rw [UInt8.toNat_ofNat']
  congr 2
  omega
/-- The words of a block whose bytes begin with these. -/
theorem words_app (l m : List UInt8) (h : l.length = 64) : words (l ++ m) = feed zeros16 0 l := by
  rw [words, List.take_append_of_le_length (by omega), List.take_of_length_le (by omega)]
end Sha
end Go.Proofs.YtpllbnioncjhaaaDoor
