/- Struct values: results that are read out of cells. -/
import Derived.Test.YtedmogacklbcmaaRow
import Derived.Test.YtedmogacklbcmaaBy
namespace Go.Proofs.Ytedmogacklbcmaa
open Go.RowKit
/-- A pointer to a row from B on. -/
def rowS (B : Nat) (cs : List Value) (t : TypeId) : By.Mark Grew := ⟨fun v w => ∃ q, v = .pointer (some ⟨q, 0, none⟩) ∧ B ≤ q ∧ Row w q cs t, fun _ _ _ ⟨q, h1, h2, h3⟩ k => ⟨q, h1, h2, h3.below k h3.lt⟩⟩
section
variable {P : Program} {fn : Func} {tmps : Array Value} {w : World}
theorem results_ct {p t : Tmp} {ty : TypeId} (hr : fn.results = #[.cell p ty, .tmp t]) {g : Nat} {t' : TypeId} {cs : List Value} {d : TypeDesc}
    (hp : tmps.getD p undef = .pointer (some ⟨g, 0, none⟩)) (h : Row w g cs t') (hu : P.underlying ty = some d) (hd : (match d with | .struct _ | .array _ _ => true | _ => false) = true) {n : Nat}
    (hi : (P.info? ty).map (·.size) = some n) (hn : cs.length = n) : (results fn tmps).run P w = .ok (.tuple #[.agg cs.toArray, tmps.getD t undef]) w := by
  have hp' : tmps[p]?.getD undef = .pointer (some ⟨g, 0, none⟩) := by simpa using hp
  simp [results, hr, hp', asAddr, run_loadVar_row w g t' ty cs.toArray (0, 0) d h hu hd (by rw [hi]; simp [hn])]
theorem results_tct {p t u : Tmp} {ty : TypeId} (hr : fn.results = #[.tmp u, .cell p ty, .tmp t]) {g : Nat} {t' : TypeId} {cs : List Value} {d : TypeDesc}
    (hp : tmps.getD p undef = .pointer (some ⟨g, 0, none⟩)) (h : Row w g cs t') (hu : P.underlying ty = some d) (hd : (match d with | .struct _ | .array _ _ => true | _ => false) = true) {n : Nat}
    (hi : (P.info? ty).map (·.size) = some n) (hn : cs.length = n) : (results fn tmps).run P w = .ok (.tuple #[tmps.getD u undef, .agg cs.toArray, tmps.getD t undef]) w := by
  have hp' : tmps[p]?.getD undef = .pointer (some ⟨g, 0, none⟩) := by simpa using hp
  simp [results, hr, hp', asAddr, run_loadVar_row w g t' ty cs.toArray (0, 0) d h hu hd (by rw [hi]; simp [hn])]
end
end Go.Proofs.Ytedmogacklbcmaa
