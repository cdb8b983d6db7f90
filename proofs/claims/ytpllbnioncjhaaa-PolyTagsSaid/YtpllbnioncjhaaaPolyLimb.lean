/- Numbers in limbs of 26 bits, modulo 2^130 - 5. -/
import Derived.Test.YtpllbnioncjhaaaW32
namespace Go.Proofs.Ytpllbnioncjhaaa
namespace Poly
structure L where
  a0 : Nat
  a1 : Nat
  a2 : Nat
  a3 : Nat
  a4 : Nat
def P : Nat := 1361129467683753853853498429727072845819
def val (a : L) : Nat := a.a0 + a.a1 * 67108864 + a.a2 * 4503599627370496 + a.a3 * 302231454903657293676544 + a.a4 * 20282409603651670423947251286016
def carry (a : L) : L × Nat :=
  let t1 := a.a1 + a.a0 / 67108864
  let t2 := a.a2 + t1 / 67108864
  let t3 := a.a3 + t2 / 67108864
  let t4 := a.a4 + t3 / 67108864
  (⟨a.a0 % 67108864, t1 % 67108864, t2 % 67108864, t3 % 67108864, t4 % 67108864⟩, t4 / 67108864)
theorem carry_val (a : L) : val (carry a).1 + (carry a).2 * 1361129467683753853853498429727072845824 = val a := by
  simp only [carry, val]
  omega
def fold (a : L) : L :=
  let b := (carry a).1
  let t := b.a0 + 5 * (carry a).2
  ⟨t % 67108864, b.a1 + t / 67108864, b.a2, b.a3, b.a4⟩
theorem fold_val (a : L) : val (fold a) + (carry a).2 * P = val a := by
  rw [← carry_val a]
  simp only [fold, val, P]
  omega
theorem fold_mod (a : L) : val (fold a) % P = val a % P := by
  rw [← fold_val a, Nat.add_mul_mod_self_right]
def times (a b : L) : L :=
  ⟨a.a0*b.a0 + 5*(a.a1*b.a4+a.a2*b.a3+a.a3*b.a2+a.a4*b.a1),
   a.a0*b.a1 + a.a1*b.a0 + 5*(a.a2*b.a4+a.a3*b.a3+a.a4*b.a2),
   a.a0*b.a2 + a.a1*b.a1 + a.a2*b.a0 + 5*(a.a3*b.a4+a.a4*b.a3),
   a.a0*b.a3 + a.a1*b.a2 + a.a2*b.a1 + a.a3*b.a0 + 5*(a.a4*b.a4),
   a.a0*b.a4 + a.a1*b.a3 + a.a2*b.a2 + a.a3*b.a1 + a.a4*b.a0⟩
def high (a b : L) : Nat := (a.a1*b.a4+a.a2*b.a3+a.a3*b.a2+a.a4*b.a1) + (a.a2*b.a4+a.a3*b.a3+a.a4*b.a2) * 67108864 + (a.a3*b.a4+a.a4*b.a3) * 4503599627370496 + a.a4*b.a4 * 302231454903657293676544
theorem times_val (a b : L) : val a * val b = val (times a b) + high a b * P := by
  have e : ∀ x c y d : Nat, x * c * (y * d) = x * y * (c * d) := fun x c y d => Nat.mul_mul_mul_comm x c y d
  have e1 : ∀ x c y : Nat, x * c * y = x * y * c := fun x c y => Nat.mul_right_comm x c y
  have e2 : ∀ x y d : Nat, x * (y * d) = x * y * d := fun x y d => (Nat.mul_assoc x y d).symm
  obtain ⟨a0, a1, a2, a3, a4⟩ := a
  obtain ⟨b0, b1, b2, b3, b4⟩ := b
  simp only [val, times, high, P]
  simp only [Nat.add_mul, Nat.mul_add]
  simp only [e, e1 _ _ b0]
  simp only [e2 a0]
  generalize a0 * b0 = x00
  generalize a0 * b1 = x01
  generalize a0 * b2 = x02
  generalize a0 * b3 = x03
  generalize a0 * b4 = x04
  generalize a1 * b0 = x10
  generalize a1 * b1 = x11
  generalize a1 * b2 = x12
  generalize a1 * b3 = x13
  generalize a1 * b4 = x14
  generalize a2 * b0 = x20
  generalize a2 * b1 = x21
  generalize a2 * b2 = x22
  generalize a2 * b3 = x23
  generalize a2 * b4 = x24
  generalize a3 * b0 = x30
  generalize a3 * b1 = x31
  generalize a3 * b2 = x32
  generalize a3 * b3 = x33
  generalize a3 * b4 = x34
  generalize a4 * b0 = x40
  generalize a4 * b1 = x41
  generalize a4 * b2 = x42
  generalize a4 * b3 = x43
  generalize a4 * b4 = x44
  omega
def Fit (a : L) : Prop := a.a0 < 67108864 ∧ a.a1 < 67108864 ∧ a.a2 < 67108864 ∧ a.a3 < 67108864 ∧ a.a4 < 67108864
def Loose (a : L) : Prop := a.a0 < 67108864 ∧ a.a1 < 100663296 ∧ a.a2 < 67108864 ∧ a.a3 < 67108864 ∧ a.a4 < 67108864
theorem Fit.loose {a : L} (h : Fit a) : Loose a := by obtain ⟨h0, h1, h2, h3, h4⟩ := h; exact ⟨h0, by omega, h2, h3, h4⟩
def limbs (n : Nat) : L := ⟨n % 67108864, n / 67108864 % 67108864, n / 4503599627370496 % 67108864, n / 302231454903657293676544 % 67108864, n / 20282409603651670423947251286016⟩
theorem limbs_val (n : Nat) : val (limbs n) = n := by simp only [val, limbs]; omega
theorem limbs_fit {n : Nat} (h : n < 1361129467683753853853498429727072845824) : Fit (limbs n) := by simp only [Fit, limbs]; omega
def plus (a b : L) : L := ⟨a.a0 + b.a0, a.a1 + b.a1, a.a2 + b.a2, a.a3 + b.a3, a.a4 + b.a4⟩
theorem plus_val (a b : L) : val (plus a b) = val a + val b := by simp only [val, plus]; omega
def next (sum r : L) (n : Nat) : L := fold (times (plus sum (limbs n)) r)
def Sum3 (a : L) : Prop := a.a0 < 201326592 ∧ a.a1 < 201326592 ∧ a.a2 < 201326592 ∧ a.a3 < 201326592 ∧ a.a4 < 201326592
def Wide (a : L) : Prop := a.a0 < 288230376151711744 ∧ a.a1 < 288230376151711744 ∧ a.a2 < 288230376151711744 ∧ a.a3 < 288230376151711744 ∧ a.a4 < 288230376151711744
theorem prod_le {x y : Nat} (hx : x < 201326592) (hy : y < 67108864) : x * y < 13510798882111488 := by
  have := Nat.mul_le_mul (show x ≤ 201326591 by omega) (show y ≤ 67108863 by omega)
  omega
theorem plus_sum3 {a b : L} (ha : Loose a) (hb : Fit b) : Sum3 (plus a b) := by
  obtain ⟨h0, h1, h2, h3, h4⟩ := ha
  obtain ⟨k0, k1, k2, k3, k4⟩ := hb
  simp only [Sum3, plus]
  omega
theorem times_wide {a b : L} (ha : Sum3 a) (hb : Fit b) : Wide (times a b) := by
  obtain ⟨h0, h1, h2, h3, h4⟩ := ha
  obtain ⟨k0, k1, k2, k3, k4⟩ := hb
  have p00 := prod_le h0 k0
  have p01 := prod_le h0 k1
  have p02 := prod_le h0 k2
  have p03 := prod_le h0 k3
  have p04 := prod_le h0 k4
  have p10 := prod_le h1 k0
  have p11 := prod_le h1 k1
  have p12 := prod_le h1 k2
  have p13 := prod_le h1 k3
  have p14 := prod_le h1 k4
  have p20 := prod_le h2 k0
  have p21 := prod_le h2 k1
  have p22 := prod_le h2 k2
  have p23 := prod_le h2 k3
  have p24 := prod_le h2 k4
  have p30 := prod_le h3 k0
  have p31 := prod_le h3 k1
  have p32 := prod_le h3 k2
  have p33 := prod_le h3 k3
  have p34 := prod_le h3 k4
  have p40 := prod_le h4 k0
  have p41 := prod_le h4 k1
  have p42 := prod_le h4 k2
  have p43 := prod_le h4 k3
  have p44 := prod_le h4 k4
  simp only [Wide, times]
  refine ⟨?_, ?_, ?_, ?_, ?_⟩ <;> omega
theorem carry_fit (a : L) : Fit (carry a).1 := by
  simp only [Fit, carry]
  omega
theorem carry_over {a : L} (h : Wide a) : (carry a).2 < 8589934592 := by
  obtain ⟨h0, h1, h2, h3, h4⟩ := h
  simp only [carry]
  omega
theorem fold_loose {a : L} (h : Wide a) : Loose (fold a) := by
  have h1 := carry_fit a
  have h2 := carry_over h
  obtain ⟨b, o⟩ : ∃ x, x = carry a := ⟨_, rfl⟩
  obtain ⟨k0, k1, k2, k3, k4⟩ := h1
  simp only [Loose, fold]
  omega
theorem next_loose {sum r : L} {n : Nat} (hs : Loose sum) (hr : Fit r) (hn : n < 1361129467683753853853498429727072845824) : Loose (next sum r n) :=
  fold_loose (times_wide (plus_sum3 hs (limbs_fit hn)) hr)
theorem next_mod (sum r : L) (n : Nat) : val (next sum r n) % P = (val sum + n) * val r % P := by
  unfold next
  rw [fold_mod]
  have h := times_val (plus sum (limbs n)) r
  rw [plus_val, limbs_val] at h
  rw [h, Nat.add_mul_mod_self_right]
theorem fold_fit {a : L} (h : Loose a) : Fit (fold a) := by
  obtain ⟨h0, h1, h2, h3, h4⟩ := h
  have hf := carry_fit a
  have hv := carry_val a
  have hva : val a < 1361129467683753853853498429727072845824 + 33554432 * 67108864 := by
    simp only [val]
    omega
  obtain ⟨b, hb⟩ : ∃ b, (carry a).1 = b := ⟨_, rfl⟩
  obtain ⟨o, ho⟩ : ∃ o, (carry a).2 = o := ⟨_, rfl⟩
  rw [hb] at hf
  rw [hb, ho] at hv
  obtain ⟨k0, k1, k2, k3, k4⟩ := hf
  have e : fold a = ⟨(b.a0 + 5 * o) % 67108864, b.a1 + (b.a0 + 5 * o) / 67108864, b.a2, b.a3, b.a4⟩ := by simp only [fold, hb, ho]
  rw [e]
  simp only [Fit]
  have ho1 : o = 0 ∨ o = 1 := by
    unfold val at hv
    unfold val at hva
    omega
  refine ⟨Nat.mod_lt _ (by decide), ?_, k2, k3, k4⟩
  rcases ho1 with rfl | rfl
  · omega
  · have : b.a1 < 33554433 := by
      rw [← hv] at hva
      unfold val at hva
      omega
    omega
theorem val_lt {a : L} (h : Fit a) : val a < 1361129467683753853853498429727072845824 := by
  obtain ⟨h0, h1, h2, h3, h4⟩ := h
  simp only [val]
  omega
/-- The modulus. -/
def pl : L := ⟨67108859, 67108863, 67108863, 67108863, 67108863⟩
def minus (a b : L) : L × Nat :=
  let t0 := (a.a0 + 18446744073709551616 - b.a0) % 18446744073709551616
  let o0 := t0 / 9223372036854775808
  let t1 := (a.a1 + 18446744073709551616 - (b.a1 + o0)) % 18446744073709551616
  let o1 := t1 / 9223372036854775808
  let t2 := (a.a2 + 18446744073709551616 - (b.a2 + o1)) % 18446744073709551616
  let o2 := t2 / 9223372036854775808
  let t3 := (a.a3 + 18446744073709551616 - (b.a3 + o2)) % 18446744073709551616
  let o3 := t3 / 9223372036854775808
  let t4 := (a.a4 + 18446744073709551616 - (b.a4 + o3)) % 18446744073709551616
  let o4 := t4 / 9223372036854775808
  (⟨t0 % 67108864, t1 % 67108864, t2 % 67108864, t3 % 67108864, t4 % 67108864⟩, o4)
theorem minus_step (a b o : Nat) (ha : a < 67108864) (hb : b < 67108864) (ho : o ≤ 1) :
    (a + 18446744073709551616 - (b + o)) % 18446744073709551616 % 67108864 + b + o = a + (a + 18446744073709551616 - (b + o)) % 18446744073709551616 / 9223372036854775808 * 67108864 ∧ (a + 18446744073709551616 - (b + o)) % 18446744073709551616 / 9223372036854775808 ≤ 1 := by
  by_cases h : b + o ≤ a
  · have e : (a + 18446744073709551616 - (b + o)) % 18446744073709551616 = a - (b + o) := by omega
    rw [e]
    omega
  · have e : (a + 18446744073709551616 - (b + o)) % 18446744073709551616 = a + 18446744073709551616 - (b + o) := by omega
    rw [e]
    omega
theorem minus_any {a b : L} (ha : Fit a) (hb : Fit b) : val (minus a b).1 + val b = val a + (minus a b).2 * 1361129467683753853853498429727072845824 ∧ (minus a b).2 ≤ 1 ∧ Fit (minus a b).1 := by
  obtain ⟨a0, a1, a2, a3, a4⟩ := a
  obtain ⟨b0, b1, b2, b3, b4⟩ := b
  obtain ⟨h0, h1, h2, h3, h4⟩ := ha
  obtain ⟨k0, k1, k2, k3, k4⟩ := hb
  simp only at h0 h1 h2 h3 h4 k0 k1 k2 k3 k4
  have s0 := minus_step a0 b0 0 h0 k0 (by decide)
  simp only [Nat.add_zero] at s0
  simp only [val, Fit, minus]
  obtain ⟨t0, e0⟩ : ∃ t, (a0 + 18446744073709551616 - b0) % 18446744073709551616 = t := ⟨_, rfl⟩
  rw [e0] at s0 ⊢
  have s1 := minus_step a1 b1 _ h1 k1 s0.2
  obtain ⟨t1, e1⟩ : ∃ t, (a1 + 18446744073709551616 - (b1 + t0 / 9223372036854775808)) % 18446744073709551616 = t := ⟨_, rfl⟩
  rw [e1] at s1 ⊢
  have s2 := minus_step a2 b2 _ h2 k2 s1.2
  obtain ⟨t2, e2⟩ : ∃ t, (a2 + 18446744073709551616 - (b2 + t1 / 9223372036854775808)) % 18446744073709551616 = t := ⟨_, rfl⟩
  rw [e2] at s2 ⊢
  have s3 := minus_step a3 b3 _ h3 k3 s2.2
  obtain ⟨t3, e3⟩ : ∃ t, (a3 + 18446744073709551616 - (b3 + t2 / 9223372036854775808)) % 18446744073709551616 = t := ⟨_, rfl⟩
  rw [e3] at s3 ⊢
  have s4 := minus_step a4 b4 _ h4 k4 s3.2
  obtain ⟨t4, e4⟩ : ∃ t, (a4 + 18446744073709551616 - (b4 + t3 / 9223372036854775808)) % 18446744073709551616 = t := ⟨_, rfl⟩
  rw [e4] at s4 ⊢
  clear e0 e1 e2 e3 e4 h0 h1 h2 h3 h4 k0 k1 k2 k3 k4
  refine ⟨?_, s4.2, Nat.mod_lt _ (by decide), Nat.mod_lt _ (by decide), Nat.mod_lt _ (by decide), Nat.mod_lt _ (by decide), Nat.mod_lt _ (by decide)⟩
  obtain ⟨s0, _⟩ := s0
  obtain ⟨s1, _⟩ := s1
  obtain ⟨s2, _⟩ := s2
  obtain ⟨s3, _⟩ := s3
  obtain ⟨s4, _⟩ := s4
  generalize t0 % 67108864 = d0 at *
  generalize t1 % 67108864 = d1 at *
  generalize t2 % 67108864 = d2 at *
  generalize t3 % 67108864 = d3 at *
  generalize t4 % 67108864 = d4 at *
  generalize t0 / 9223372036854775808 = o0 at *
  generalize t1 / 9223372036854775808 = o1 at *
  generalize t2 / 9223372036854775808 = o2 at *
  generalize t3 / 9223372036854775808 = o3 at *
  generalize t4 / 9223372036854775808 = o4 at *
  omega
theorem pl_val : val pl = P := rfl
theorem pl_fit : Fit pl := by simp only [Fit, pl]; decide
theorem minus_val {a : L} (ha : Fit a) : val (minus a pl).1 + P = val a + (minus a pl).2 * 1361129467683753853853498429727072845824 ∧ (minus a pl).2 ≤ 1 ∧ Fit (minus a pl).1 := by
  have := minus_any ha pl_fit
  rwa [pl_val] at this
def red (sum : L) : L := let s := fold sum; if (minus s pl).2 = 1 then s else (minus s pl).1
theorem red_val {sum : L} (h : Loose sum) : val (red sum) = val sum % P ∧ Fit (red sum) := by
  have hf := fold_fit h
  obtain ⟨m1, m2, m3⟩ := minus_val hf
  have hv := val_lt hf
  rw [← fold_mod]
  have hd := val_lt m3
  simp only [red]
  unfold P at *
  by_cases ho : (minus (fold sum) pl).2 = 1
  · rw [if_pos ho]
    refine ⟨?_, hf⟩
    rw [ho] at m1
    rw [Nat.mod_eq_of_lt (by omega)]
  · rw [if_neg ho]
    refine ⟨?_, m3⟩
    have : (minus (fold sum) pl).2 = 0 := by omega
    rw [this] at m1
    omega

/-! ### Numbers of bytes -/
def le : List UInt8 → Nat
  | [] => 0
  | u :: l => u.toNat + 256 * le l
theorem le_lt (l : List UInt8) : le l < 256 ^ l.length := by
  induction l with
  | nil => decide
  | cons u l ih =>
    have := u.toNat_lt
    rw [le, List.length_cons, Nat.pow_succ]
    omega
theorem le_append (l m : List UInt8) : le (l ++ m) = le l + 256 ^ l.length * le m := by
  induction l with
  | nil => simp [le]
  | cons u l ih =>
    rw [List.cons_append, le, le, ih, List.length_cons, Nat.pow_succ, Nat.mul_add, Nat.add_assoc, ← Nat.mul_assoc, Nat.mul_comm 256 (256 ^ l.length)]
def bytes16 (n : Nat) : List UInt8 := (List.range 16).map fun i => UInt8.ofNat (n / 256 ^ i)
theorem bytes16_length (n : Nat) : (bytes16 n).length = 16 := by simp [bytes16]
def bytesN (n : Nat) : Nat → List UInt8
  | 0 => []
  | k + 1 => UInt8.ofNat n :: bytesN (n / 256) k
theorem bytes16_is (n : Nat) : bytes16 n = bytesN n 16 := by
  unfold bytes16 bytesN
  have e : ∀ k, bytesN n k = (List.range k).map fun i => UInt8.ofNat (n / 256 ^ i) := by
    intro k
    induction k generalizing n with
    | zero => rfl
    | succ k ih =>
      rw [bytesN, ih, List.range_succ_eq_map, List.map_cons, List.map_map]
      congr 1
      · simp
      · apply List.map_congr_left
        intro i _
        simp only [Function.comp_apply]
        rw [Nat.div_div_eq_div_mul, Nat.pow_succ, Nat.mul_comm]
  exact (e 16).symm
theorem le_bytesN (k : Nat) : ∀ n, le (bytesN n k) = n % 256 ^ k := by
  induction k with
  | zero => intro n; rw [Nat.pow_zero, Nat.mod_one]; rfl
  | succ k ih =>
    intro n
    have e : 256 ^ (k + 1) = 256 * 256 ^ k := by rw [Nat.pow_succ, Nat.mul_comm]
    rw [bytesN, le, ih, UInt8.toNat_ofNat', e, Nat.mod_mul]
theorem le_bytes16 (n : Nat) : le (bytes16 n) = n % 340282366920938463463374607431768211456 := by
  rw [bytes16_is, le_bytesN]
theorem bytesN_le : ∀ l : List UInt8, bytesN (le l) l.length = l := by
  intro l
  induction l with
  | nil => rfl
  | cons u l ih =>
    have hu := u.toNat_lt
    rw [le, List.length_cons, bytesN]
    rw [show (u.toNat + 256 * le l) / 256 = le l by omega, ih]
    congr 1
    apply UInt8.toNat.inj
    rw [UInt8.toNat_ofNat']
    omega
theorem bytes16_le (l : List UInt8) (h : l.length = 16) : bytes16 (le l) = l := by rw [bytes16_is, ← h]; exact bytesN_le l
theorem bytes16_mod (n : Nat) : bytes16 (n % 340282366920938463463374607431768211456) = bytes16 n := by
  rw [← le_bytes16, bytes16_le _ (bytes16_length n)]
theorem bytes16_inj {m n : Nat} (h : m % 340282366920938463463374607431768211456 = n % 340282366920938463463374607431768211456) : bytes16 m = bytes16 n := by rw [← bytes16_mod m, h, bytes16_mod]
theorem or_add (x y k : Nat) (h : x < 2 ^ k) : x ||| y * 2 ^ k = x + y * 2 ^ k := by
  rw [← Nat.shiftLeft_eq, Nat.or_comm, ← Nat.shiftLeft_add_eq_or_of_lt h, Nat.add_comm]
end Poly
end Go.Proofs.Ytpllbnioncjhaaa
