/- Sealing, as bytes. -/
import Derived.Test.YtpllbnioncjhaaaPolKey
import Derived.Test.YtpllbnioncjhaaaChaStream
import Derived.Test.YtpllbnioncjhaaaPolMath
namespace Go.Proofs.Ytpllbnioncjhaaa
open Go.RowKit
namespace Aead
set_option maxRecDepth 100000
def eqAcc : List Int → List Int → Int → Int
  | x :: xs, y :: ys, acc => eqAcc xs ys (oor .u8 acc (oxor .u8 x y))
  | _, _, acc => acc
theorem Equal_ev : ∀ a b : List Int, a.length = 16 → b.length = 16 → Ev.ans Try.prog 2000 17 #[.agg (a.map PolyI.u8).toArray, .agg (b.map PolyI.u8).toArray] [] = some (.bool (eqAcc a b ((0 : Nat) : Int) == ((0 : Nat) : Int)))
  | [_, _, _, _, _, _, _, _, _, _, _, _, _, _, _, _], [_, _, _, _, _, _, _, _, _, _, _, _, _, _, _, _], _, _ => by kernel_rfl
def byteI (x : Int) (n : Nat) : Value := PolyI.u8 (IntKind.u8.wrap (oshr (IntKind.u64.wrap x) n))
def eight (x : Int) : List Value := [byteI x 0, byteI x 8, byteI x 16, byteI x 24, byteI x 32, byteI x 40, byteI x 48, byteI x 56]
theorem lengths_ev (a c : Int) : Ev.ans Try.prog 4000 43 #[.int .i64 a, .int .i64 c] [] = some (.agg (eight a ++ eight c).toArray) := by kernel_rfl
end Aead
end Go.Proofs.Ytpllbnioncjhaaa
namespace Go.Proofs.Ytpllbnioncjhaaa
namespace Aead
def zpad (n : Nat) : List UInt8 := List.replicate ((16 - n % 16) % 16) 0
def padB (l : List UInt8) : List UInt8 := l ++ zpad l.length
def le8 (n : Nat) : List UInt8 := [UInt8.ofNat n, UInt8.ofNat (n / 256), UInt8.ofNat (n / 65536), UInt8.ofNat (n / 16777216), UInt8.ofNat (n / 4294967296), UInt8.ofNat (n / 1099511627776), UInt8.ofNat (n / 281474976710656), UInt8.ofNat (n / 72057594037927936)]
def once (key nonce : List UInt8) : List UInt8 := (Cha.block key 0#32 nonce).take 32
/-- What the tag is of. -/
def body (cipher along : List UInt8) : List UInt8 := padB along ++ padB cipher ++ (le8 along.length ++ le8 cipher.length)
def tag (key nonce cipher along : List UInt8) : List UInt8 := Pol.tagK (once key nonce) (body cipher along)
def sealed (key nonce plain along : List UInt8) : List UInt8 := Cha.xor key 1#32 nonce plain ++ tag key nonce (Cha.xor key 1#32 nonce plain) along
theorem once_length (key nonce : List UInt8) : (once key nonce).length = 32 := by
  unfold once
  rw [List.length_take, Cha.block_length]
  rfl
theorem tag_length (key nonce cipher along : List UInt8) : (tag key nonce cipher along).length = 16 := Pol.tagK_length _ _
theorem padB_length (l : List UInt8) : (padB l).length ≤ l.length + 15 := by
  unfold padB zpad
  rw [List.length_append, List.length_replicate]
  omega
theorem body_length (cipher along : List UInt8) : (body cipher along).length ≤ cipher.length + along.length + 46 := by
  unfold body
  have h1 := padB_length cipher
  have h2 := padB_length along
  simp only [List.length_append, le8, List.length_cons, List.length_nil]
  omega
theorem padB_full (l : List UInt8) : (padB l).length % 16 = 0 := by
  unfold padB zpad
  rw [List.length_append, List.length_replicate]
  omega
theorem sealed_length (key nonce plain along : List UInt8) : (sealed key nonce plain along).length = plain.length + 16 := by
  unfold sealed
  rw [List.length_append, Cha.xor_length, tag_length]
theorem xor_twice (key : List UInt8) (c : BitVec 32) (nonce l : List UInt8) : Cha.xor key c nonce (Cha.xor key c nonce l) = l := by
  apply List.ext_getElem?
  intro i
  cases h : l[i]? with
  | none => exact List.getElem?_eq_none (by rw [Cha.xor_length, Cha.xor_length]; exact List.getElem?_eq_none_iff.1 h)
  | some u =>
    rw [Cha.xor_at _ _ _ _ _ _ (Cha.xor_at _ _ _ _ _ _ h)]
    rw [UInt8.xor_assoc, UInt8.xor_self, UInt8.xor_zero]
/-- Equal, of numbers as of bytes. -/
theorem or_is (a b : UInt8) : oor .u8 (a.toNat : Int) (b.toNat : Int) = ((a ||| b).toNat : Int) := by
  show IntKind.u8.wrap ((BitVec.ofInt 8 (a.toNat : Int) ||| BitVec.ofInt 8 (b.toNat : Int)).toNat : Int) = _
  have h := (a ||| b).toNat_lt
  simp only [BitVec.ofInt_natCast, BitVec.toNat_or, BitVec.toNat_ofNat]
  rw [Nat.mod_eq_of_lt a.toNat_lt, Nat.mod_eq_of_lt b.toNat_lt, ← UInt8.toNat_or]
  exact wrap_u8 _ h
theorem xor_is (a b : UInt8) : oxor .u8 (a.toNat : Int) (b.toNat : Int) = ((a ^^^ b).toNat : Int) := by
  show IntKind.u8.wrap ((BitVec.ofInt 8 (a.toNat : Int) ^^^ BitVec.ofInt 8 (b.toNat : Int)).toNat : Int) = _
  have h := (a ^^^ b).toNat_lt
  simp only [BitVec.ofInt_natCast, BitVec.toNat_xor, BitVec.toNat_ofNat]
  rw [Nat.mod_eq_of_lt a.toNat_lt, Nat.mod_eq_of_lt b.toNat_lt, ← UInt8.toNat_xor]
  exact wrap_u8 _ h
theorem or_zero (a b : UInt8) : (a ||| b) = 0 ↔ a = 0 ∧ b = 0 := by
  constructor
  · intro h
    have h' : (a.toBitVec ||| b.toBitVec) = 0#8 := congrArg UInt8.toBitVec h
    rw [BitVec.or_eq_zero_iff] at h'
    exact ⟨UInt8.toBitVec_inj.1 h'.1, UInt8.toBitVec_inj.1 h'.2⟩
  · rintro ⟨rfl, rfl⟩
    rfl
theorem xor_zero (a b : UInt8) : (a ^^^ b) = 0 ↔ a = b := by
  constructor
  · intro h
    have h2 : (a ^^^ b) ^^^ b = 0 ^^^ b := by rw [h]
    rw [UInt8.xor_assoc, UInt8.xor_self, UInt8.xor_zero, UInt8.zero_xor] at h2
    exact h2
  · rintro rfl
    exact UInt8.xor_self
def accB : List UInt8 → List UInt8 → UInt8 → UInt8
  | x :: xs, y :: ys, acc => accB xs ys (acc ||| (x ^^^ y))
  | _, _, acc => acc
theorem eqAcc_is : ∀ (a b : List UInt8) (acc : UInt8), eqAcc (PolyI.nums a) (PolyI.nums b) (acc.toNat : Int) = ((accB a b acc).toNat : Int)
  | [], _, _ => rfl
  | _ :: _, [], _ => rfl
  | x :: xs, y :: ys, acc => by
    show eqAcc (PolyI.nums xs) (PolyI.nums ys) (oor .u8 (acc.toNat : Int) (oxor .u8 (x.toNat : Int) (y.toNat : Int))) = _
    rw [xor_is, or_is]
    exact eqAcc_is xs ys _
theorem accB_zero : ∀ (a b : List UInt8) (acc : UInt8), a.length = b.length → (accB a b acc = 0 ↔ acc = 0 ∧ a = b)
  | [], [], acc, _ => by simp [accB]
  | [], _ :: _, _, h => by simp at h
  | _ :: _, [], _, h => by simp at h
  | x :: xs, y :: ys, acc, h => by
    show accB xs ys _ = 0 ↔ _
    rw [accB_zero xs ys _ (by simpa using h), or_zero, xor_zero, List.cons.injEq, and_assoc]
theorem equal_is {a b : List UInt8} (ha : a.length = 16) (hb : b.length = 16) : (eqAcc (PolyI.nums a) (PolyI.nums b) ((0 : Nat) : Int) == ((0 : Nat) : Int)) = decide (a = b) := by
  have h := eqAcc_is a b 0
  rw [show ((0 : UInt8).toNat : Int) = ((0 : Nat) : Int) from rfl] at h
  rw [h, Bool.eq_iff_iff]
  simp only [beq_iff_eq, decide_eq_true_eq, Int.natCast_inj]
  have h2 := accB_zero a b 0 (by omega)
  rw [← UInt8.toNat_inj] at h2
  rw [show (0 : UInt8).toNat = 0 from rfl] at h2
  rw [h2]
  simp
/-- Lengths. -/
theorem byte_at (n k : Nat) (h : n < 18446744073709551616) : byteI (n : Int) k = bv (UInt8.ofNat (n / 2 ^ k)) := by
  unfold byteI
  rw [wrap_u64 _ h, oshr_nat]
  unfold PolyI.u8 bv
  congr 1
theorem eight_is (n : Nat) (h : n < 18446744073709551616) : eight (n : Int) = (le8 n).map bv := by
  simp only [eight, byte_at _ _ h]
  simp [le8]
end Aead
end Go.Proofs.Ytpllbnioncjhaaa
