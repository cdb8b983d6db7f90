/- The checksum is linear; a change within 32 bits changes it. -/
import Derived.Test.YtmfjlcgbanidnaaOctSum
namespace Go.Proofs.Ytmfjlcgbanidnaa
namespace Crc

theorem step_eq (x : BitVec 32) : step x = if x.getLsbD 0 = true then (x >>> 1) ^^^ 0xedb88320#32 else x >>> 1 := by
  unfold step
  have h : x.getLsbD 0 = decide (x.toNat % 2 = 1) := by rw [BitVec.getLsbD, Nat.testBit_zero]
  rw [h]
  by_cases h2 : x.toNat % 2 = 1 <;> simp [h2]
theorem step_xor (x y : BitVec 32) : step (x ^^^ y) = step x ^^^ step y := by
  rw [step_eq, step_eq, step_eq, BitVec.getLsbD_xor]
  cases hx : x.getLsbD 0 <;> cases hy : y.getLsbD 0 <;> simp only [Bool.xor_false, Bool.false_xor, Bool.xor_true, Bool.not_false, Bool.not_true, if_true, Bool.false_eq_true, if_false]
  all_goals
    apply BitVec.eq_of_getLsbD_eq
    intro i hi
    try simp only [BitVec.getLsbD_xor, BitVec.getLsbD_ushiftRight]
    try (cases x.getLsbD (1 + i) <;> cases y.getLsbD (1 + i) <;> cases (0xedb88320#32).getLsbD i <;> rfl)
theorem step_zero : step 0#32 = 0#32 := rfl
theorem step_inj0 (x : BitVec 32) (h : step x = 0#32) : x = 0#32 := by
  rw [step_eq] at h
  cases hx : x.getLsbD 0 with
  | true =>
    rw [hx, if_pos rfl] at h
    have := congrArg (fun z => z.getLsbD 31) h
    simp [BitVec.getLsbD_xor, BitVec.getLsbD_ushiftRight] at this
  | false =>
    rw [hx, if_neg (by decide)] at h
    apply BitVec.eq_of_getLsbD_eq
    intro i hi
    rw [BitVec.getLsbD_zero]
    cases i with
    | zero => exact hx
    | succ i =>
      have := congrArg (fun z => z.getLsbD i) h
      simp only [BitVec.getLsbD_ushiftRight, BitVec.getLsbD_zero] at this
      rw [Nat.add_comm]
      exact this
theorem steps_zero (n : Nat) : steps n 0#32 = 0#32 := by
  induction n with
  | zero => rfl
  | succ n ih => rw [steps, ih, step_zero]
theorem steps_xor (n : Nat) (x y : BitVec 32) : steps n (x ^^^ y) = steps n x ^^^ steps n y := by
  induction n with
  | zero => rfl
  | succ n ih => rw [steps, ih, step_xor]; rfl
theorem steps_inj0 (n : Nat) (x : BitVec 32) (h : steps n x = 0#32) : x = 0#32 := by
  induction n with
  | zero => exact h
  | succ n ih => exact ih (step_inj0 _ h)
theorem steps_step (n : Nat) (x : BitVec 32) : steps n (step x) = steps (n + 1) x := by
  induction n with
  | zero => rfl
  | succ n ih => rw [steps, ih]; rfl
theorem steps_add (n m : Nat) (x : BitVec 32) : steps n (steps m x) = steps (n + m) x := by
  induction n with
  | zero => rw [Nat.zero_add]; rfl
  | succ n ih => rw [steps, ih, Nat.add_right_comm]; rfl

/-- A bit as a word. -/
def bit (b : Bool) : BitVec 32 := if b then 1#32 else 0#32
def feed (s : BitVec 32) (bs : List Bool) : BitVec 32 := bs.foldl (fun s b => step (s ^^^ bit b)) s
theorem feed_append (s : BitVec 32) (a b : List Bool) : feed s (a ++ b) = feed (feed s a) b := by simp [feed]
theorem feed_falses (n : Nat) : ∀ s, feed s (List.replicate n false) = steps n s := by
  induction n with
  | zero => intro s; rfl
  | succ n ih =>
    intro s
    rw [List.replicate_succ, feed, List.foldl_cons]
    have := ih (step (s ^^^ bit false))
    rw [feed] at this
    rw [this, show bit false = 0#32 from rfl, BitVec.xor_zero, steps_step]
theorem feed_xor : ∀ (a b : List Bool), a.length = b.length → ∀ s t, feed (s ^^^ t) (List.zipWith xor a b) = feed s a ^^^ feed t b := by
  intro a
  induction a with
  | nil => intro b h s t; cases b with
    | nil => rfl
    | cons => simp at h
  | cons x a ih =>
    intro b h s t
    cases b with
    | nil => simp at h
    | cons y b =>
      have hb : bit (xor x y) = bit x ^^^ bit y := by cases x <;> cases y <;> decide
      rw [List.zipWith_cons_cons]
      simp only [feed, List.foldl_cons]
      have e : step (s ^^^ t ^^^ bit (xor x y)) = step (s ^^^ bit x) ^^^ step (t ^^^ bit y) := by
        rw [← step_xor, hb]
        congr 1
        rw [BitVec.xor_assoc, BitVec.xor_assoc]
        congr 1
        rw [← BitVec.xor_assoc, BitVec.xor_comm t (bit x), BitVec.xor_assoc]
      rw [e]
      exact ih b (by simpa using h) _ _

/-- The lowest n bits, the lowest first. -/
def bitsN : Nat → BitVec 32 → List Bool
  | 0, _ => []
  | n + 1, v => v.getLsbD 0 :: bitsN n (v >>> 1)
theorem bitsN_length (n : Nat) : ∀ v, (bitsN n v).length = n := by
  induction n with
  | zero => intro v; rfl
  | succ n ih => intro v; rw [bitsN, List.length_cons, ih]
theorem bitsN_at (n : Nat) : ∀ (v : BitVec 32) (i : Nat), i < n → (bitsN n v)[i]? = some (v.getLsbD i) := by
  induction n with
  | zero => intro v i h; omega
  | succ n ih =>
    intro v i h
    rw [bitsN]
    cases i with
    | zero => rfl
    | succ i =>
      rw [List.getElem?_cons_succ, ih _ i (by omega), BitVec.getLsbD_ushiftRight, Nat.add_comm]
theorem step_low (v : BitVec 32) : step v = step (bit (v.getLsbD 0)) ^^^ (v >>> 1) := by
  rw [step_eq, step_eq]
  cases h : v.getLsbD 0
  · simp [bit]
  · simp only [bit, if_true]
    rw [show (1#32).getLsbD 0 = true from rfl, if_pos rfl, BitVec.xor_comm]
    congr 1
theorem feed_bits (n : Nat) : ∀ (v s : BitVec 32), (∀ i, n ≤ i → v.getLsbD i = false) → feed s (bitsN n v) = steps n (s ^^^ v) := by
  induction n with
  | zero =>
    intro v s h
    have : v = 0#32 := by
      apply BitVec.eq_of_getLsbD_eq
      intro i hi
      rw [h i (by omega), BitVec.getLsbD_zero]
    subst this
    simp [bitsN, feed, steps]
  | succ n ih =>
    intro v s h
    rw [bitsN]
    show feed (step (s ^^^ bit (v.getLsbD 0))) (bitsN n (v >>> 1)) = _
    rw [ih (v >>> 1) _ (fun i hi => by rw [BitVec.getLsbD_ushiftRight]; exact h _ (by omega)), ← steps_step, step_xor, step_xor, step_low v, BitVec.xor_assoc]

/-- All bits of bytes. -/
def bitsOf (l : List UInt8) : List Bool := l.flatMap fun u => bitsN 8 (wb u)
theorem wb_bit (u : UInt8) (i : Nat) (h : 8 ≤ i) : (wb u).getLsbD i = false := by
  rw [wb, BitVec.getLsbD_ofNat, Nat.testBit_lt_two_pow (Nat.lt_of_lt_of_le u.toNat_lt (Nat.pow_le_pow_right (by decide) h))]
  simp
theorem bytes_feed (l : List UInt8) : ∀ s, bytes s l = feed s (bitsOf l) := by
  induction l with
  | nil => intro s; rfl
  | cons u l ih =>
    intro s
    have e : bitsOf (u :: l) = bitsN 8 (wb u) ++ bitsOf l := by rw [bitsOf, List.flatMap_cons]; rfl
    show bytes (byte s u) l = _
    rw [ih, e, feed_append, feed_bits 8 (wb u) s (fun i hi => wb_bit u i hi)]
    rfl
theorem bitsOf_length (l : List UInt8) : (bitsOf l).length = 8 * l.length := by
  induction l with
  | nil => rfl
  | cons u l ih => rw [bitsOf, List.flatMap_cons, List.length_append, bitsN_length]; rw [bitsOf] at ih; rw [ih, List.length_cons]; omega
theorem bitsOf_at : ∀ (l : List UInt8) (q r : Nat), r < 8 → (bitsOf l)[8 * q + r]? = l[q]?.map fun u => (wb u).getLsbD r := by
  intro l
  induction l with
  | nil => intro q r _; simp [bitsOf]
  | cons u l ih =>
    intro q r hr
    rw [bitsOf, List.flatMap_cons]
    cases q with
    | zero =>
      rw [List.getElem?_append_left (by rw [bitsN_length]; omega), Nat.mul_zero, Nat.zero_add, bitsN_at _ _ _ hr]
      rfl
    | succ q =>
      rw [List.getElem?_append_right (by rw [bitsN_length]; omega), bitsN_length, show 8 * (q + 1) + r - 8 = 8 * q + r by omega]
      have := ih q r hr
      rw [bitsOf] at this
      rw [this]
      rfl
/-- A change within 32 bits in a row is a change of the checksum. -/
theorem sees (b c : List UInt8) (k : Nat) (ch : BitVec 32) (hl : c.length = b.length) (hk : k + 32 ≤ 8 * b.length) (hch : ch ≠ 0#32)
    (h : ∀ n, n < 8 * b.length → (bitsOf c)[n]? = (bitsOf b)[n]?.map fun v => xor v (decide (k ≤ n ∧ n < k + 32) && ch.getLsbD (n - k))) : bytes 0xffffffff#32 c ≠ bytes 0xffffffff#32 b := by
  intro he
  rw [bytes_feed, bytes_feed] at he
  have hz := feed_xor (bitsOf b) (bitsOf c) (by rw [bitsOf_length, bitsOf_length, hl]) 0xffffffff#32 0xffffffff#32
  rw [he, BitVec.xor_self, BitVec.xor_self] at hz
  have hd : List.zipWith xor (bitsOf b) (bitsOf c) = List.replicate k false ++ bitsN 32 ch ++ List.replicate (8 * b.length - (k + 32)) false := by
    apply List.ext_getElem?
    intro n
    rw [List.getElem?_zipWith]
    by_cases hn : n < 8 * b.length
    · have hb := List.getElem?_eq_getElem (show n < (bitsOf b).length by rw [bitsOf_length]; exact hn)
      rw [h n hn, hb]
      simp only [Option.map_some, List.append_assoc]
      by_cases h1 : n < k
      · rw [List.getElem?_append_left (by rw [List.length_replicate]; exact h1), List.getElem?_replicate, if_pos h1]
        simp [show ¬ k ≤ n by omega]
      · rw [List.getElem?_append_right (by rw [List.length_replicate]; omega), List.length_replicate]
        by_cases h2 : n < k + 32
        · rw [List.getElem?_append_left (by rw [bitsN_length]; omega), bitsN_at _ _ _ (by omega)]
          simp [show k ≤ n by omega, h2]
        · rw [List.getElem?_append_right (by rw [bitsN_length]; omega), bitsN_length, List.getElem?_replicate, if_pos (by omega)]
          simp [h2]
    · have hb := List.getElem?_eq_none (show (bitsOf b).length ≤ n by rw [bitsOf_length]; omega)
      rw [hb, List.getElem?_eq_none (show (List.replicate k false ++ bitsN 32 ch ++ List.replicate (8 * b.length - (k + 32)) false).length ≤ n by rw [List.length_append, List.length_append, List.length_replicate, List.length_replicate, bitsN_length]; omega)]
  rw [hd, feed_append, feed_append, feed_falses, feed_falses, steps_zero, feed_bits 32 ch 0#32 (fun i hi => BitVec.getLsbD_of_ge _ _ hi), BitVec.zero_xor, steps_add] at hz
  exact hch (steps_inj0 _ _ hz)
/-- One bit of a row of bytes, changed. -/
def flip (l : List UInt8) (n : Nat) : List UInt8 := l.set (n / 8) (l.getD (n / 8) 0 ^^^ UInt8.ofNat (2 ^ (n % 8)))
theorem flip_length (l : List UInt8) (n : Nat) : (flip l n).length = l.length := by simp [flip]
theorem wb_flip (u : UInt8) (r q : Nat) (hr : r < 8) (hq : q < 8) : (wb (u ^^^ UInt8.ofNat (2 ^ r))).getLsbD q = xor ((wb u).getLsbD q) (decide (q = r)) := by
  have h2 : 2 ^ r < 256 := Nat.lt_of_lt_of_le (Nat.pow_lt_pow_right (by decide) hr) (by decide)
  have e : ∀ v : UInt8, (wb v).getLsbD q = v.toNat.testBit q := by
    intro v
    rw [wb, BitVec.getLsbD_ofNat]
    simp [show q < 32 by omega]
  rw [e, e, UInt8.toNat_xor, Nat.testBit_xor, UInt8.toNat_ofNat', Nat.mod_eq_of_lt (by omega), Nat.testBit_two_pow]
  congr 1
  simp [eq_comm]
theorem flip_bits (l : List UInt8) (n m : Nat) (hn : n < 8 * l.length) : (bitsOf (flip l n))[m]? = (bitsOf l)[m]?.map fun v => xor v (decide (m = n)) := by
  have hm : m = 8 * (m / 8) + m % 8 := by omega
  rw [hm, bitsOf_at _ _ _ (by omega), bitsOf_at _ _ _ (by omega), ← hm, flip, List.getElem?_set]
  by_cases h : n / 8 = m / 8
  · rw [if_pos h, if_pos (by omega)]
    have hu := List.getElem?_eq_getElem (show m / 8 < l.length by omega)
    rw [hu, h, List.getD_eq_getElem?_getD, hu]
    simp only [Option.getD_some, Option.map_some, Option.some.injEq]
    rw [wb_flip _ _ _ (by omega) (by omega)]
    congr 1
    rw [decide_eq_decide]
    omega
  · rw [if_neg h]
    have hne : m ≠ n := by rintro rfl; exact h rfl
    simp [hne]
    cases l[m / 8]? <;> rfl
def flips (b : List UInt8) (k : Nat) (ch : BitVec 32) : Nat → List UInt8
  | 0 => b
  | i + 1 => if ch.getLsbD i = true then flip (flips b k ch i) (k + i) else flips b k ch i
theorem flips_length (b : List UInt8) (k : Nat) (ch : BitVec 32) (i : Nat) : (flips b k ch i).length = b.length := by
  induction i with
  | zero => rfl
  | succ i ih =>
    rw [flips]
    split
    · rw [flip_length, ih]
    · exact ih
theorem flips_bits (b : List UInt8) (k : Nat) (ch : BitVec 32) (i : Nat) (hk : k + i ≤ 8 * b.length) (m : Nat) :
    (bitsOf (flips b k ch i))[m]? = (bitsOf b)[m]?.map fun v => xor v (decide (k ≤ m ∧ m < k + i) && ch.getLsbD (m - k)) := by
  induction i with
  | zero =>
    rw [flips]
    have : ¬ (k ≤ m ∧ m < k + 0) := by omega
    have e : (fun v => xor v (decide (k ≤ m ∧ m < k + 0) && ch.getLsbD (m - k))) = id := by
      funext v
      simp only [decide_eq_false this, Bool.false_and, Bool.xor_false, id]
    rw [e, Option.map_id]
    rfl
  | succ i ih =>
    have hi := ih (by omega)
    rw [flips]
    by_cases h : ch.getLsbD i = true
    · rw [if_pos h, flip_bits _ _ _ (by rw [flips_length]; omega), hi, Option.map_map]
      congr 1
      funext v
      simp only [Function.comp]
      by_cases h1 : m = k + i
      · subst h1
        rw [show k + i - k = i by omega, h]
        simp
      · by_cases h2 : k ≤ m ∧ m < k + i
        · have : k ≤ m ∧ m < k + (i + 1) := by omega
          simp [h1, h2, this]
        · have : ¬ (k ≤ m ∧ m < k + (i + 1)) := by omega
          simp only [h1, h2, this, decide_false, Bool.false_and, Bool.xor_false]
    · rw [if_neg h, hi]
      congr 1
      funext v
      by_cases h1 : m = k + i
      · subst h1
        rw [show k + i - k = i by omega]
        have : ch.getLsbD i = false := by simpa using h
        simp [this]
      · by_cases h2 : k ≤ m ∧ m < k + i
        · have : k ≤ m ∧ m < k + (i + 1) := by omega
          simp [h2, this]
        · have : ¬ (k ≤ m ∧ m < k + (i + 1)) := by omega
          simp only [h2, this]
theorem all_cut (s : BitVec 32) (a b : List UInt8) : all s [a, b] = bytes s (a ++ b) := by simp [all, bytes, List.foldl_append]
theorem all_one (s : BitVec 32) (a : List UInt8) : all s [a] = bytes s a := rfl
end Crc
end Go.Proofs.Ytmfjlcgbanidnaa
