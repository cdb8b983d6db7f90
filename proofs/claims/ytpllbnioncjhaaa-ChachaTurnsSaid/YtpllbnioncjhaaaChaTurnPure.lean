/- Rounds can be turned back, states tell their keys apart. -/
import Derived.Test.YtpllbnioncjhaaaChaUndo
import Derived.Test.YtpllbnioncjhaaaChaPlace
namespace Go.Proofs.Ytpllbnioncjhaaa
namespace Cha
theorem wb_toNat (u : UInt8) : (wb u).toNat = u.toNat := by
  have := u.toNat_lt
  simp only [wb, BitVec.toNat_ofNat]
  omega
theorem le4_toNat (a b c d : UInt8) : (le4 a b c d).toNat = a.toNat + b.toNat * 256 + c.toNat * 65536 + d.toNat * 16777216 := by
  rw [← le4_add]
  have l0 := a.toNat_lt
  have l1 := b.toNat_lt
  have l2 := c.toNat_lt
  have l3 := d.toNat_lt
  simp only [BitVec.toNat_add, BitVec.toNat_shiftLeft, Nat.shiftLeft_eq, wb_toNat]
  omega
theorem le4_inj {a b c d a' b' c' d' : UInt8} (h : le4 a b c d = le4 a' b' c' d') : a = a' ∧ b = b' ∧ c = c' ∧ d = d' := by
  have h := congrArg BitVec.toNat h
  rw [le4_toNat, le4_toNat] at h
  have l0 := a.toNat_lt
  have l1 := b.toNat_lt
  have l2 := c.toNat_lt
  have l3 := d.toNat_lt
  have m0 := a'.toNat_lt
  have m1 := b'.toNat_lt
  have m2 := c'.toNat_lt
  have m3 := d'.toNat_lt
  refine ⟨?_, ?_, ?_, ?_⟩ <;> (apply UInt8.toNat_inj.1; omega)
theorem word_inj {k l : List UInt8} (hk : k.length = 32) (hl : l.length = 32) (h : ∀ i, i < 8 → word k (4 * i) = word l (4 * i)) : k = l := by
  have key : ∀ j, j < 32 → k.getD j 0 = l.getD j 0 := by
    intro j hj
    obtain ⟨h0, h1, h2, h3⟩ := le4_inj (h (j / 4) (by omega))
    have hr : j % 4 < 4 := Nat.mod_lt _ (by omega)
    rcases (show j % 4 = 0 ∨ j % 4 = 1 ∨ j % 4 = 2 ∨ j % 4 = 3 by omega) with e | e | e | e
    · rw [show j = 4 * (j / 4) by omega]; exact h0
    · rw [show j = 4 * (j / 4) + 1 by omega]; exact h1
    · rw [show j = 4 * (j / 4) + 2 by omega]; exact h2
    · rw [show j = 4 * (j / 4) + 3 by omega]; exact h3
  apply List.ext_getElem (by omega)
  intro j h1 h2
  have := key j (by omega)
  rw [List.getD_eq_getElem?_getD, List.getD_eq_getElem?_getD, List.getElem?_eq_getElem h1, List.getElem?_eq_getElem h2] at this
  exact this
theorem state_key {k l : List UInt8} {c : BitVec 32} {n : List UInt8} (hk : k.length = 32) (hl : l.length = 32) : state k c n = state l c n ↔ k = l := by
  constructor
  · intro h
    refine word_inj hk hl fun i hi => ?_
    have h1 := state_at k c n (4 + i) (by omega)
    have h2 := state_at l c n (4 + i) (by omega)
    rw [h] at h1
    have h3 := h1.symm.trans h2
    rw [show 4 + i - 4 = i by omega] at h3
    simpa [show ¬ 13 ≤ 4 + i by omega, show 4 ≤ 4 + i ∧ 4 + i < 12 by omega, show 4 + i < 12 by omega] using h3
  · rintro rfl; rfl
theorem state_ctr {k : List UInt8} {c : BitVec 32} {n : List UInt8} : state k (c + 1#32) n ≠ state k c n := by
  intro h
  have h1 := (state_head k n (c + 1#32)).2.2.2.2
  have h2 := (state_head k n c).2.2.2.2
  rw [h] at h1
  have h3 := h1.symm.trans h2
  have h4 := congrArg BitVec.toNat h3
  have := c.isLt
  simp only [BitVec.toNat_add, BitVec.toNat_ofNat] at h4
  omega
/-- The state that i of the quarter rounds were undone in. -/
def back (w : List (BitVec 32)) (i : Nat) : List (BitVec 32) := (table.take (8 - i)).foldl qr w
theorem back_length (w : List (BitVec 32)) (i : Nat) : (back w i).length = w.length := fold_length _ _
end Cha
end Go.Proofs.Ytpllbnioncjhaaa
