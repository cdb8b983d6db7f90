/- Texts that the proofs share: OctPure. -/
import Derived.Lib.BitFns
import Derived.Lib.ItoaNum
namespace Go.Proofs.YtgmmjnedgaeefaaDoor
namespace Oct
def be (l : List UInt8) : Nat := l.foldl (fun x b => x * 256 + b.toNat) 0
theorem be_snoc (l : List UInt8) (b : UInt8) : be (l ++ [b]) = be l * 256 + b.toNat := by simp [be]
theorem snoc_ind {α : Type} {p : List α → Prop} (h0 : p []) (h1 : ∀ l a, p l → p (l ++ [a])) (l : List α) : p l := by
 have key : ∀ n (l : List α), l.length = n → p l := by
  intro n
  induction n with
  | zero => intro l hl; have := List.eq_nil_of_length_eq_zero hl; subst this; exact h0
  | succ n ih =>
    intro l hl
    have hne : l ≠ [] := by intro h; subst h; simp at hl
    rw [← List.dropLast_concat_getLast hne]
    exact h1 _ _ (ih _ (by simp [hl]))
 exact key _ l rfl
theorem be_lt (l : List UInt8) : be l < 256 ^ l.length := by
 induction l using snoc_ind with
 | h0 => simp [be]
 | h1 l b ih =>
   rw [be_snoc, List.length_append, List.length_singleton, Nat.pow_succ]
   have := b.toNat_lt
   omega
theorem be_cons (u : UInt8) (l : List UInt8) : be (u :: l) = u.toNat * 256 ^ l.length + be l := by
 induction l using snoc_ind with
 | h0 => simp [be]
 | h1 l b ih =>
   rw [← List.cons_append, be_snoc, ih, be_snoc, List.length_append, List.length_singleton, Nat.pow_succ, Nat.add_mul, Nat.mul_assoc]
   omega
def bytesBE : Nat → Nat → List UInt8
 | 0, _ => []
 | k + 1, x => bytesBE k (x / 256) ++ [UInt8.ofNat (x % 256)]
theorem bytesBE_length (k : Nat) : ∀ x, (bytesBE k x).length = k := by
 induction k with
 | zero => intro x; rfl
 | succ k ih => intro x; simp [bytesBE, ih]
theorem be_bytesBE (k : Nat) : ∀ x, be (bytesBE k x) = x % 256 ^ k := by
 induction k with
 | zero => intro x; simp [bytesBE, be, Nat.mod_one]
 | succ k ih =>
   intro x
   have h1 : (UInt8.ofNat (x % 256)).toNat = x % 256 := by simp [UInt8.toNat_ofNat']
   rw [bytesBE, be_snoc, ih, h1, Nat.pow_succ, Nat.mul_comm (256 ^ k) 256, Nat.mod_mul]
   omega
def nsize (x : Nat) : Nat := (Lib.bitLen x + 7) / 8
theorem nsize_zero : nsize 0 = 0 := by decide
theorem nsize_spec (x : Nat) (hx : x < 2 ^ 64) : nsize x ≤ 8 ∧ x < 256 ^ nsize x ∧ (x ≠ 0 → 0 < nsize x ∧ 256 ^ (nsize x - 1) ≤ x) := by
 by_cases h0 : x = 0
 · subst h0; exact ⟨by decide, by decide, fun h => absurd rfl h⟩
 · have h := Lib.bitLenAux_bounds 64 x hx h0
   have hL : Lib.bitLen x ≤ 64 := Lib.bitLen_le x 64 (by omega) hx
   have e : Lib.bitLenAux 64 x = Lib.bitLen x := rfl
   rw [e] at h
   obtain ⟨h1, h2, h3⟩ := h
   have p : ∀ k, (256 : Nat) ^ k = 2 ^ (8 * k) := by intro k; rw [Nat.pow_mul]
   unfold nsize
   refine ⟨by omega, ?_, fun _ => ⟨by omega, ?_⟩⟩
   · rw [p]; exact Nat.lt_of_lt_of_le h3 (Nat.pow_le_pow_right (by omega) (by omega))
   · rw [p]; exact Nat.le_trans (Nat.pow_le_pow_right (by omega) (by omega)) h2
def enc (x : Nat) : List UInt8 := UInt8.ofNat (nsize x) :: bytesBE (nsize x) x
theorem enc_length (x : Nat) : (enc x).length = nsize x + 1 := by simp [enc, bytesBE_length]
theorem be_enc (x : Nat) (hx : x < 2 ^ 64) : be (bytesBE (nsize x) x) = x := by
 rw [be_bytesBE, Nat.mod_eq_of_lt (nsize_spec x hx).2.1]
theorem head_enc (x : Nat) (hx : x < 2 ^ 64) {u : UInt8} (h : (bytesBE (nsize x) x)[0]? = some u) : u.toNat ≠ 0 := by
 intro hu
 have hl := bytesBE_length (nsize x) x
 cases hb : bytesBE (nsize x) x with
 | nil => rw [hb] at h; simp at h
 | cons v r =>
   rw [hb] at h hl
   simp at h
   subst h
   have h1 := be_enc x hx
   rw [hb, be_cons, hu, Nat.zero_mul, Nat.zero_add] at h1
   have h2 := be_lt r
   have hlen : r.length = nsize x - 1 := by simp at hl; omega
   by_cases h0 : x = 0
   · subst h0; rw [nsize_zero] at hl; simp at hl
   · have := ((nsize_spec x hx).2.2 h0).2
     rw [hlen] at h2
     omega
def dec (l : List UInt8) : Nat × Nat × Nat :=
 match l with
 | [] => (0, 0, 5)
 | h :: t =>
   if 8 < h.toNat then (0, 0, 4)
   else if t.length < h.toNat then (0, 0, 5)
   else if 0 < h.toNat ∧ (t[0]?.map UInt8.toNat) = some 0 then (0, 0, 4)
   else (be (t.take h.toNat), 1 + h.toNat, 0)
theorem dec_enc (x : Nat) (hx : x < 2 ^ 64) (r : List UInt8) : dec (enc x ++ r) = (x, 1 + nsize x, 0) := by
 have hs := (nsize_spec x hx).1
 have hn : (UInt8.ofNat (nsize x)).toNat = nsize x := by rw [UInt8.toNat_ofNat']; omega
 have hl := bytesBE_length (nsize x) x
 simp only [enc, List.cons_append, dec, hn]
 rw [if_neg (by omega), if_neg (by rw [List.length_append, hl]; omega), if_neg, List.take_left' hl, be_enc x hx]
 rintro ⟨h0, h1⟩
 have hpos : 0 < (bytesBE (nsize x) x).length := by omega
 rw [List.getElem?_append_left hpos, List.getElem?_eq_getElem hpos] at h1
 simp only [Option.map_some, Option.some.injEq] at h1
 exact head_enc x hx (List.getElem?_eq_getElem hpos) h1
end Oct
end Go.Proofs.YtgmmjnedgaeefaaDoor
