/- The verifier's kit: a pick; bytes as a string. -/
import Derived.Test.YtedmogacklbcmaaMem
import Derived.Test.YtedmogacklbcmaaBy
import Derived.Lib.Hide
import Derived.Outline
import Derived.WalkKit
import Derived.Laws.IdiomStrings
import Derived.Great.BuildSlice
import Derived.IntWalk
namespace Go.Proofs.Ytedmogacklbcmaa
open Go.RowKit

theorem int_beq_zero (n : Nat) : (((n : Nat) : Int) == 0) = decide (n = 0) := by rw [Bool.eq_iff_iff]; simp
theorem int_bne_zero (n : Nat) : (((n : Nat) : Int) != 0) = !decide (n = 0) := by unfold bne; rw [int_beq_zero]

def strOf (l : List UInt8) : Value := .string ⟨l.toArray⟩
/-- 'string(b)'. -/
theorem run_str (w : World) {B : Nat} {v : Value} {l : List UInt8} (h : Bs w B v l) : (convert 31 9 v).run Try.prog w = .ok (strOf l) w := by
  obtain ⟨A, c, rfl, hc, hcs⟩ := h
  by_cases hne : l = []
  · subst hne
    cases A with
    | none =>
      rw [run_convert_bytes_string w _ _ 5 none _ _ Try.underlying31 Try.underlying5 Try.underlying9]
      rfl
    | some a =>
      have := run_convert_bytes_back (P := Try.prog) w 31 9 5 a c [] Try.underlying31 Try.underlying5 Try.underlying9 (fun j hj => by simp at hj)
      exact this
  · obtain ⟨b, off, rfl, _, h3⟩ := hcs hne
    exact run_convert_bytes_back (P := Try.prog) w 31 9 5 ⟨b, off, none⟩ c l Try.underlying31 Try.underlying5 Try.underlying9 (fun j hj => by
      rw [show (⟨b, off, none⟩ : Addr).add j = ⟨b, off + j, none⟩ by unfold Addr.add; split <;> simp_all]
      exact h3 j _ (List.getElem?_eq_getElem hj))

theorem run_strless (l m : List UInt8) (w : World) : (binOp .lss 9 (strOf l) (strOf m)).run Try.prog w = .ok (.bool (Op.bytesLess l m)) w := by
  unfold strOf binOp Op.stringOp
  simp [Sem.run_pure]

/-- Bytes of the region's own. -/
def ownM (lo : Nat) (l : List UInt8) : By.Mark Grew := ⟨fun v w => Own w lo v l, fun _ _ _ h k => h.below k (Nat.le_refl _)⟩
end Go.Proofs.Ytedmogacklbcmaa
