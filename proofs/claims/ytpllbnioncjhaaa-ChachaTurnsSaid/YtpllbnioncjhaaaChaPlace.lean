/- Each byte has its own place in a state. -/
import Derived.Test.YtpllbnioncjhaaaChaStream
namespace Go.Proofs.Ytpllbnioncjhaaa
namespace Cha
theorem or_xor (x y : BitVec 32) (h : x &&& y = 0#32) : x ||| y = x ^^^ y := by
  rw [← BitVec.add_eq_or_of_and_eq_zero x y h]
  apply BitVec.eq_of_getLsbD_eq
  intro i hi
  rw [BitVec.add_eq_or_of_and_eq_zero x y h, BitVec.getLsbD_or, BitVec.getLsbD_xor]
  have := congrArg (fun z => z.getLsbD i) h
  simp only [BitVec.getLsbD_and, BitVec.getLsbD_zero] at this
  cases hx : x.getLsbD i <;> cases hy : y.getLsbD i <;> simp_all
theorem le4_xor (a b c d : UInt8) : le4 a b c d = wb a ^^^ wb b <<< 8 ^^^ wb c <<< 16 ^^^ wb d <<< 24 := by
  have h1 : wb a &&& wb b <<< 8 = 0#32 := by
    apply BitVec.eq_of_getLsbD_eq
    intro i hi
    simp only [BitVec.getLsbD_and, BitVec.getLsbD_shiftLeft, BitVec.getLsbD_zero, hi, decide_true, Bool.true_and]
    by_cases h : i < 8
    · simp [h]
    · simp [h, wb_bit a i (by omega)]
  have h2 : (wb a ||| wb b <<< 8) &&& wb c <<< 16 = 0#32 := by
    apply BitVec.eq_of_getLsbD_eq
    intro i hi
    simp only [BitVec.getLsbD_and, BitVec.getLsbD_or, BitVec.getLsbD_shiftLeft, BitVec.getLsbD_zero, hi, decide_true, Bool.true_and]
    by_cases h : i < 16
    · simp [h]
    · simp [h, wb_bit a i (by omega), wb_bit b (i - 8) (by omega)]
  have h3 : (wb a ||| wb b <<< 8 ||| wb c <<< 16) &&& wb d <<< 24 = 0#32 := by
    apply BitVec.eq_of_getLsbD_eq
    intro i hi
    simp only [BitVec.getLsbD_and, BitVec.getLsbD_or, BitVec.getLsbD_shiftLeft, BitVec.getLsbD_zero, hi, decide_true, Bool.true_and]
    by_cases h : i < 24
    · simp [h]
    · simp [h, wb_bit a i (by omega), wb_bit b (i - 8) (by omega), wb_bit c (i - 16) (by omega)]
  unfold le4
  rw [or_xor _ _ h3, or_xor _ _ h2, or_xor _ _ h1]
theorem wb_xor (x y : UInt8) : wb (x ^^^ y) = wb x ^^^ wb y := by
  apply BitVec.eq_of_toNat_eq
  have h1 := x.toNat_lt
  have h2 := y.toNat_lt
  have h3 := (x ^^^ y).toNat_lt
  unfold wb
  rw [BitVec.toNat_xor, BitVec.toNat_ofNat, BitVec.toNat_ofNat, BitVec.toNat_ofNat, Nat.mod_eq_of_lt (by omega), Nat.mod_eq_of_lt (by omega), Nat.mod_eq_of_lt (by omega), UInt8.toNat_xor]
/-- A byte that is changed changes its word by it. -/
theorem word_set (l : List UInt8) (k j : Nat) (by_ : UInt8) (hk : k < l.length) (hj : k / 4 = j) : word l (4 * j) ^^^ word (l.set k (l.getD k 0 ^^^ by_)) (4 * j) = wb by_ <<< (8 * (k % 4)) := by
  have hg : ∀ m, (l.set k (l.getD k 0 ^^^ by_)).getD m 0 = if m = k then l.getD k 0 ^^^ by_ else l.getD m 0 := by
    intro m
    rw [List.getD_eq_getElem?_getD, List.getElem?_set]
    by_cases h : k = m
    · subst h; simp [hk]
    · rw [if_neg h, if_neg (fun e => h e.symm), List.getD_eq_getElem?_getD]
  unfold word
  rw [le4_xor, le4_xor, hg, hg, hg, hg]
  obtain h | h | h | h : k % 4 = 0 ∨ k % 4 = 1 ∨ k % 4 = 2 ∨ k % 4 = 3 := by omega
  · have e : 4 * j = k := by omega
    rw [h, if_pos e, if_neg (by omega), if_neg (by omega), if_neg (by omega), wb_xor, e]
    generalize wb (l.getD k 0) = A
    generalize wb (l.getD (k + 1) 0) <<< 8 = B
    generalize wb (l.getD (k + 2) 0) <<< 16 = C
    generalize wb (l.getD (k + 3) 0) <<< 24 = D
    generalize wb by_ = Y
    simp
    ext i hi
    simp
    cases A[i] <;> cases B[i] <;> cases C[i] <;> cases D[i] <;> cases Y[i] <;> rfl
  · have e : 4 * j + 1 = k := by omega
    rw [h, if_neg (by omega), if_pos e, if_neg (by omega), if_neg (by omega), wb_xor, ← e, BitVec.shiftLeft_xor_distrib]
    generalize wb (l.getD (4 * j) 0) = A
    generalize wb (l.getD (4 * j + 1) 0) <<< 8 = B
    generalize wb (l.getD (4 * j + 2) 0) <<< 16 = C
    generalize wb (l.getD (4 * j + 3) 0) <<< 24 = D
    generalize wb by_ <<< 8 = Y
    show _ = Y
    ext i hi
    simp
    cases A[i] <;> cases B[i] <;> cases C[i] <;> cases D[i] <;> cases Y[i] <;> rfl
  · have e : 4 * j + 2 = k := by omega
    rw [h, if_neg (by omega), if_neg (by omega), if_pos e, if_neg (by omega), wb_xor, ← e, BitVec.shiftLeft_xor_distrib]
    generalize wb (l.getD (4 * j) 0) = A
    generalize wb (l.getD (4 * j + 1) 0) <<< 8 = B
    generalize wb (l.getD (4 * j + 2) 0) <<< 16 = C
    generalize wb (l.getD (4 * j + 3) 0) <<< 24 = D
    generalize wb by_ <<< 16 = Y
    show _ = Y
    ext i hi
    simp
    cases A[i] <;> cases B[i] <;> cases C[i] <;> cases D[i] <;> cases Y[i] <;> rfl
  · have e : 4 * j + 3 = k := by omega
    rw [h, if_neg (by omega), if_neg (by omega), if_neg (by omega), if_pos e, wb_xor, ← e, BitVec.shiftLeft_xor_distrib]
    generalize wb (l.getD (4 * j) 0) = A
    generalize wb (l.getD (4 * j + 1) 0) <<< 8 = B
    generalize wb (l.getD (4 * j + 2) 0) <<< 16 = C
    generalize wb (l.getD (4 * j + 3) 0) <<< 24 = D
    generalize wb by_ <<< 24 = Y
    show _ = Y
    ext i hi
    simp
    cases A[i] <;> cases B[i] <;> cases C[i] <;> cases D[i] <;> cases Y[i] <;> rfl
theorem word_other (l : List UInt8) (k j : Nat) (u : UInt8) (hj : k / 4 ≠ j) : word (l.set k u) (4 * j) = word l (4 * j) := by
  have hg : ∀ m, m ≠ k → (l.set k u).getD m 0 = l.getD m 0 := by
    intro m h
    rw [List.getD_eq_getElem?_getD, List.getElem?_set, if_neg (fun e => h e.symm), List.getD_eq_getElem?_getD]
  unfold word
  rw [hg _ (by omega), hg _ (by omega), hg _ (by omega), hg _ (by omega)]

theorem stKey_at (key : List UInt8) (s : List (BitVec 32)) (hs : s.length = 16) (m i : Nat) (hm : m ≤ 8) (hi : i < 16) : at_ (stKey key s m) i = if 4 ≤ i ∧ i < 4 + m then word key (4 * (i - 4)) else at_ s i := by
  induction m with
  | zero => rw [stKey, if_neg (by omega)]
  | succ m ih =>
    rw [stKey, at_, List.getD_eq_getElem?_getD, List.getElem?_set]
    by_cases h : 4 + m = i
    · subst h
      rw [if_pos rfl, if_pos (by rw [stKey_length]; omega), if_pos (by omega), show 4 + m - 4 = m by omega]
      rfl
    · rw [if_neg h, ← List.getD_eq_getElem?_getD]
      have := ih (by omega)
      rw [at_] at this
      rw [this]
      by_cases h2 : 4 ≤ i ∧ i < 4 + m
      · rw [if_pos h2, if_pos (by omega)]
      · rw [if_neg h2, if_neg (by omega)]
theorem stNonce_at (key : List UInt8) (s : List (BitVec 32)) (hs : s.length = 16) (m i : Nat) (hm : m ≤ 3) (hi : i < 16) : at_ (stNonce key s m) i = if 13 ≤ i ∧ i < 13 + m then word key (4 * (i - 13)) else at_ s i := by
  induction m with
  | zero => rw [stNonce, if_neg (by omega)]
  | succ m ih =>
    rw [stNonce, at_, List.getD_eq_getElem?_getD, List.getElem?_set]
    by_cases h : 13 + m = i
    · subst h
      rw [if_pos rfl, if_pos (by rw [stNonce_length]; omega), if_pos (by omega), show 13 + m - 13 = m by omega]
      rfl
    · rw [if_neg h, ← List.getD_eq_getElem?_getD]
      have := ih (by omega)
      rw [at_] at this
      rw [this]
      by_cases h2 : 13 ≤ i ∧ i < 13 + m
      · rw [if_pos h2, if_pos (by omega)]
      · rw [if_neg h2, if_neg (by omega)]
theorem state_at (key : List UInt8) (c : BitVec 32) (nonce : List UInt8) (i : Nat) (hi : i < 16) :
    at_ (state key c nonce) i = if 13 ≤ i then word nonce (4 * (i - 13)) else if 4 ≤ i ∧ i < 12 then word key (4 * (i - 4)) else at_ (state0 c) i := by
  rw [state, stNonce_at _ _ (by rw [stKey_length]; rfl) 3 i (by omega) hi]
  by_cases h : 13 ≤ i
  · rw [if_pos (by omega), if_pos h]
  · rw [if_neg (by omega), if_neg h, stKey_at _ _ rfl 8 i (by omega) hi]
/-- The key with a byte changed. -/
def poke (l : List UInt8) (k : Nat) (u : UInt8) : List UInt8 := l.set k (l.getD k 0 ^^^ u)
theorem poke_length (l : List UInt8) (k : Nat) (u : UInt8) : (poke l k u).length = l.length := by simp [poke]
theorem diff_key (key nonce : List UInt8) (c : BitVec 32) (k : Nat) (u : UInt8) (hk : key.length = 32) (h : k < 32) (i : Nat) (hi : i < 16) :
    at_ (state key c nonce) i ^^^ at_ (state (poke key k u) c nonce) i = if i = 4 + k / 4 then wb u <<< (8 * (k % 4)) else 0#32 := by
  rw [state_at _ _ _ _ hi, state_at _ _ _ _ hi]
  by_cases h1 : 13 ≤ i
  · rw [if_pos h1, if_pos h1, if_neg (by omega), BitVec.xor_self]
  · rw [if_neg h1, if_neg h1]
    by_cases h2 : 4 ≤ i ∧ i < 12
    · rw [if_pos h2, if_pos h2]
      by_cases h3 : i = 4 + k / 4
      · rw [if_pos h3]
        exact word_set key k (i - 4) u (by omega) (by omega)
      · rw [if_neg h3, poke, word_other _ _ _ _ (by omega), BitVec.xor_self]
    · rw [if_neg h2, if_neg h2, if_neg (by omega), BitVec.xor_self]
theorem diff_nonce (key nonce : List UInt8) (c : BitVec 32) (n : Nat) (u : UInt8) (hn : nonce.length = 12) (h : n < 12) :
    at_ (state key c (poke nonce n u)) (13 + n / 4) ^^^ at_ (state key c nonce) (13 + n / 4) = wb u <<< (8 * (n % 4)) := by
  rw [state_at _ _ _ _ (by omega), state_at _ _ _ _ (by omega), if_pos (by omega), if_pos (by omega), show 13 + n / 4 - 13 = n / 4 by omega, BitVec.xor_comm]
  exact word_set nonce n (n / 4) u (by omega) rfl
theorem state_head (key nonce : List UInt8) (c : BitVec 32) : at_ (state key c nonce) 0 = 0x61707865#32 ∧ at_ (state key c nonce) 1 = 0x3320646e#32 ∧ at_ (state key c nonce) 2 = 0x79622d32#32 ∧ at_ (state key c nonce) 3 = 0x6b206574#32 ∧ at_ (state key c nonce) 12 = c := by
  refine ⟨?_, ?_, ?_, ?_, ?_⟩ <;> rw [state_at _ _ _ _ (by omega)] <;> rfl
end Cha
end Go.Proofs.Ytpllbnioncjhaaa
