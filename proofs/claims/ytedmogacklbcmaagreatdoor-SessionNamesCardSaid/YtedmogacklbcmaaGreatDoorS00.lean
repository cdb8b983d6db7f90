/- Texts that the proofs share: OctPure. -/
import Derived.Lib.BitFns
import Derived.Lib.ItoaNum
namespace Go.Proofs.YtedmogacklbcmaaGreatDoor
namespace Oct
def be (l : List UInt8) : Nat := l.foldl (fun x b => x * 256 + b.toNat) 0
def bytesBE : Nat → Nat → List UInt8
 | 0, _ => []
 | k + 1, x => bytesBE k (x / 256) ++ [UInt8.ofNat (x % 256)]
theorem bytesBE_length (k : Nat) : ∀ x, (bytesBE k x).length = k := by
 induction k with
 | zero => intro x; rfl
 | succ k ih => intro x; simp [bytesBE, ih]
def nsize (x : Nat) : Nat := (Lib.bitLen x + 7) / 8
theorem nsize_spec (x : Nat) (hx : x < 2 ^ 64) : nsize x ≤ 8 ∧ x < 256 ^ nsize x ∧ (x ≠ 0 → 0 < nsize x ∧ 256 ^ (nsize x - 1) ≤ x) := by
 by_cases h0 : x = 0
 · subst h0; exact ⟨by decide, by decide, fun h => absurd rfl h⟩
 · have h := Lib.bitLenAux_bounds 64 x hx h0
   have hL : Lib.bitLen x ≤ 64 := Lib.bitLen_le x 64 (by omega) hx
   have e : Lib.bitLenAux 64 x = Lib.bitLen x := rfl
   rw [e] at h
   obtain ⟨h1, h2, h3⟩ := h
   have p : ∀ k, (256 : Nat) ^ k = 2 ^ (8 * k) := by intro k; rw [Nat.pow_mul]
   unfold nsize
   refine ⟨by omega, ?_, fun _ => ⟨by omega, ?_⟩⟩
   · rw [p]; exact Nat.lt_of_lt_of_le h3 (Nat.pow_le_pow_right (by omega) (by omega))
   · rw [p]; exact Nat.le_trans (Nat.pow_le_pow_right (by omega) (by omega)) h2
def enc (x : Nat) : List UInt8 := UInt8.ofNat (nsize x) :: bytesBE (nsize x) x
theorem enc_length (x : Nat) : (enc x).length = nsize x + 1 := by simp [enc, bytesBE_length]
end Oct
end Go.Proofs.YtedmogacklbcmaaGreatDoor
