/- Numbers as bytes, the highest first: plain facts. -/
import Derived.Lib.BitFns
import Derived.Lib.ItoaNum
namespace Go.Proofs.Ytedmogacklbcmaa
namespace Oct

/-- The number whose bytes are these, the highest first. -/
def be (l : List UInt8) : Nat := l.foldl (fun x b => x * 256 + b.toNat) 0
theorem be_snoc (l : List UInt8) (b : UInt8) : be (l ++ [b]) = be l * 256 + b.toNat := by simp [be]
theorem be_nil : be [] = 0 := rfl

/-- Whatever holds of the empty list, and of a list with one more at its end, holds of all. -/
theorem snoc_ind {α : Type} {p : List α → Prop} (h0 : p []) (h1 : ∀ l a, p l → p (l ++ [a])) (l : List α) : p l := by
  have key : ∀ n (l : List α), l.length = n → p l := by
    intro n
    induction n with
    | zero => intro l hl; have := List.eq_nil_of_length_eq_zero hl; subst this; exact h0
    | succ n ih =>
      intro l hl
      have hne : l ≠ [] := by intro h; subst h; simp at hl
      rw [← List.dropLast_concat_getLast hne]
      exact h1 _ _ (ih _ (by simp [hl]))
  exact key _ l rfl

theorem be_lt (l : List UInt8) : be l < 256 ^ l.length := by
  induction l using snoc_ind with
  | h0 => simp [be]
  | h1 l b ih =>
    rw [be_snoc, List.length_append, List.length_singleton, Nat.pow_succ]
    have := b.toNat_lt
    omega
theorem be_take {l : List UInt8} {k : Nat} {u : UInt8} (hu : l[k]? = some u) : be (l.take (k + 1)) = be (l.take k) * 256 + u.toNat := by
  rw [List.take_add_one, hu]
  exact be_snoc _ _
theorem be_small (l : List UInt8) (h : l.length ≤ 7) : be l < 2 ^ 56 := by
  have h1 := be_lt l
  have h2 : 256 ^ l.length ≤ 256 ^ 7 := Nat.pow_le_pow_right (by omega) h
  have h3 : (256 : Nat) ^ 7 = 2 ^ 56 := by decide
  omega
theorem be_cons (u : UInt8) (l : List UInt8) : be (u :: l) = u.toNat * 256 ^ l.length + be l := by
  induction l using snoc_ind with
  | h0 => simp [be]
  | h1 l b ih =>
    rw [← List.cons_append, be_snoc, ih, be_snoc, List.length_append, List.length_singleton, Nat.pow_succ, Nat.add_mul, Nat.mul_assoc]
    omega

/-- The last k bytes of a number, the highest first. -/
def bytesBE : Nat → Nat → List UInt8
  | 0, _ => []
  | k + 1, x => bytesBE k (x / 256) ++ [UInt8.ofNat (x % 256)]
theorem bytesBE_length (k : Nat) : ∀ x, (bytesBE k x).length = k := by
  induction k with
  | zero => intro x; rfl
  | succ k ih => intro x; simp [bytesBE, ih]
theorem be_bytesBE (k : Nat) : ∀ x, be (bytesBE k x) = x % 256 ^ k := by
  induction k with
  | zero => intro x; simp [bytesBE, be, Nat.mod_one]
  | succ k ih =>
    intro x
    have h1 : (UInt8.ofNat (x % 256)).toNat = x % 256 := by simp [UInt8.toNat_ofNat']
    rw [bytesBE, be_snoc, ih, h1, Nat.pow_succ, Nat.mul_comm (256 ^ k) 256, Nat.mod_mul]
    omega
theorem bytesBE_be (l : List UInt8) : bytesBE l.length (be l) = l := by
  induction l using snoc_ind with
  | h0 => rfl
  | h1 l b ih =>
    have hb := b.toNat_lt
    rw [List.length_append, List.length_singleton, bytesBE, be_snoc]
    have h1 : (be l * 256 + b.toNat) / 256 = be l := by omega
    have h2 : (be l * 256 + b.toNat) % 256 = b.toNat := by omega
    rw [h1, h2, ih]
    simp

/-- How many bytes a number needs. -/
def nsize (x : Nat) : Nat := (Lib.bitLen x + 7) / 8
theorem nsize_zero : nsize 0 = 0 := by decide
theorem nsize_spec (x : Nat) (hx : x < 2 ^ 64) : nsize x ≤ 8 ∧ x < 256 ^ nsize x ∧ (x ≠ 0 → 0 < nsize x ∧ 256 ^ (nsize x - 1) ≤ x) := by
  by_cases h0 : x = 0
  · subst h0; exact ⟨by decide, by decide, fun h => absurd rfl h⟩
  · have h := Lib.bitLenAux_bounds 64 x hx h0
    have hL : Lib.bitLen x ≤ 64 := Lib.bitLen_le x 64 (by omega) hx
    have e : Lib.bitLenAux 64 x = Lib.bitLen x := rfl
    rw [e] at h
    obtain ⟨h1, h2, h3⟩ := h
    have p : ∀ k, (256 : Nat) ^ k = 2 ^ (8 * k) := by intro k; rw [Nat.pow_mul]
    unfold nsize
    refine ⟨by omega, ?_, fun _ => ⟨by omega, ?_⟩⟩
    · rw [p]; exact Nat.lt_of_lt_of_le h3 (Nat.pow_le_pow_right (by omega) (by omega))
    · rw [p]; exact Nat.le_trans (Nat.pow_le_pow_right (by omega) (by omega)) h2
theorem nsize_unique (x k : Nat) (hx : x < 2 ^ 64) (h1 : x < 256 ^ k) (h2 : 0 < k → 256 ^ (k - 1) ≤ x) : nsize x = k := by
  obtain ⟨_, s1, s2⟩ := nsize_spec x hx
  by_cases h0 : x = 0
  · subst h0
    rw [nsize_zero]
    rcases Nat.eq_zero_or_pos k with hk | hk
    · exact hk.symm
    · have := h2 hk
      have := Nat.pow_pos (n := k - 1) (show 0 < 256 by omega)
      omega
  · obtain ⟨s3, s4⟩ := s2 h0
    have hk : 0 < k := by
      rcases Nat.eq_zero_or_pos k with hk | hk
      · subst hk; simp at h1; omega
      · exact hk
    have a : nsize x - 1 < k := (Nat.pow_lt_pow_iff_right (show 1 < 256 by omega)).1 (Nat.lt_of_le_of_lt s4 h1)
    have b : k - 1 < nsize x := (Nat.pow_lt_pow_iff_right (show 1 < 256 by omega)).1 (Nat.lt_of_le_of_lt (h2 hk) s1)
    omega

/-- The bytes of a number. -/
def enc (x : Nat) : List UInt8 := UInt8.ofNat (nsize x) :: bytesBE (nsize x) x
theorem enc_length (x : Nat) : (enc x).length = nsize x + 1 := by simp [enc, bytesBE_length]
theorem be_enc (x : Nat) (hx : x < 2 ^ 64) : be (bytesBE (nsize x) x) = x := by
  rw [be_bytesBE, Nat.mod_eq_of_lt (nsize_spec x hx).2.1]
theorem head_enc (x : Nat) (hx : x < 2 ^ 64) {u : UInt8} (h : (bytesBE (nsize x) x)[0]? = some u) : u.toNat ≠ 0 := by
  intro hu
  have hl := bytesBE_length (nsize x) x
  cases hb : bytesBE (nsize x) x with
  | nil => rw [hb] at h; simp at h
  | cons v r =>
    rw [hb] at h hl
    simp at h
    subst h
    have h1 := be_enc x hx
    rw [hb, be_cons, hu, Nat.zero_mul, Nat.zero_add] at h1
    have h2 := be_lt r
    have hlen : r.length = nsize x - 1 := by simp at hl; omega
    by_cases h0 : x = 0
    · subst h0; rw [nsize_zero] at hl; simp at hl
    · have := ((nsize_spec x hx).2.2 h0).2
      rw [hlen] at h2
      omega
/-- Bytes that are read as a number are that number's own. -/
theorem enc_be (l : List UInt8) (h8 : l.length ≤ 8) (h : ∀ u, l[0]? = some u → u.toNat ≠ 0) : nsize (be l) = l.length ∧ enc (be l) = UInt8.ofNat l.length :: l ∧ be l < 2 ^ 64 := by
  have hlt : be l < 2 ^ 64 := by
    have h1 := be_lt l
    have h2 : 256 ^ l.length ≤ 256 ^ 8 := Nat.pow_le_pow_right (by omega) h8
    have h3 : (256 : Nat) ^ 8 = 2 ^ 64 := by decide
    omega
  have hn : nsize (be l) = l.length := by
    refine nsize_unique _ _ hlt (be_lt l) fun hpos => ?_
    cases l with
    | nil => simp at hpos
    | cons u r =>
      have hu := h u rfl
      rw [be_cons]
      have : 1 * 256 ^ r.length ≤ u.toNat * 256 ^ r.length := Nat.mul_le_mul_right _ (by omega)
      simp at this ⊢
      omega
  exact ⟨hn, by rw [enc, hn, bytesBE_be], hlt⟩

/-- What a reader finds at the beginning of these bytes: the number, how many bytes it takes, the error. -/
def dec (l : List UInt8) : Nat × Nat × Nat :=
  match l with
  | [] => (0, 0, 5)
  | h :: t =>
    if 8 < h.toNat then (0, 0, 4)
    else if t.length < h.toNat then (0, 0, 5)
    else if 0 < h.toNat ∧ (t[0]?.map UInt8.toNat) = some 0 then (0, 0, 4)
    else (be (t.take h.toNat), 1 + h.toNat, 0)

theorem dec_enc (x : Nat) (hx : x < 2 ^ 64) (r : List UInt8) : dec (enc x ++ r) = (x, 1 + nsize x, 0) := by
  have hs := (nsize_spec x hx).1
  have hn : (UInt8.ofNat (nsize x)).toNat = nsize x := by rw [UInt8.toNat_ofNat']; omega
  have hl := bytesBE_length (nsize x) x
  simp only [enc, List.cons_append, dec, hn]
  rw [if_neg (by omega), if_neg (by rw [List.length_append, hl]; omega), if_neg, List.take_left' hl, be_enc x hx]
  rintro ⟨h0, h1⟩
  have hpos : 0 < (bytesBE (nsize x) x).length := by omega
  rw [List.getElem?_append_left hpos, List.getElem?_eq_getElem hpos] at h1
  simp only [Option.map_some, Option.some.injEq] at h1
  exact head_enc x hx (List.getElem?_eq_getElem hpos) h1

/-- What is read is written as just these bytes. -/
theorem enc_dec (l : List UInt8) (x n : Nat) (h : dec l = (x, n, 0)) : n ≤ l.length ∧ enc x = l.take n ∧ x < 2 ^ 64 := by
  cases l with
  | nil => simp [dec] at h
  | cons u t =>
    simp only [dec] at h
    split at h
    · simp at h
    · split at h
      · simp at h
      · split at h
        · simp at h
        · rename_i h1 h2 h3
          simp only [Prod.mk.injEq, and_true] at h
          obtain ⟨rfl, rfl⟩ := h
          have hlen : (t.take u.toNat).length = u.toNat := by rw [List.length_take]; omega
          have hz : ∀ v, (t.take u.toNat)[0]? = some v → v.toNat ≠ 0 := by
            intro v hv h0
            rw [List.getElem?_take] at hv
            split at hv
            · rename_i hpos
              exact h3 ⟨hpos, by rw [hv]; simp [h0]⟩
            · cases hv
          obtain ⟨e1, e2, e3⟩ := enc_be (t.take u.toNat) (by omega) hz
          refine ⟨by simp; omega, ?_, e3⟩
          rw [e2, hlen, Nat.add_comm 1, List.take_succ_cons]
          congr 1
          exact UInt8.ofNat_toNat
end Oct
end Go.Proofs.Ytedmogacklbcmaa
