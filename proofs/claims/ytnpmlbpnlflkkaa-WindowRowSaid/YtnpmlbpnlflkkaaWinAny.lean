/- window: what Take and Allow answer, whatever is asked. -/
import Derived.Test.YtnpmlbpnlflkkaaWinPure
namespace Go.Proofs.Ytnpmlbpnlflkkaa.Win
open Go.RowKit

/-- The window that Take answers. -/
noncomputable def tk (f t s l n i : Nat) : Nat := if ref f t s l n = 0 then [f, takeT t n, takeS t s n, l].getD i 0 else 0
theorem tk_ok {f t s l n : Nat} (h : ref f t s l n = 0) (i : Nat) : tk f t s l n i = [f, takeT t n, takeS t s n, l].getD i 0 := if_pos h
theorem tk_no {f t s l n : Nat} (h : ref f t s l n ≠ 0) (i : Nat) : tk f t s l n i = 0 := if_neg h
theorem Take_any (f t s l n : Nat) (w : World) (hF : Fits f t s l) (hn : n < 2 ^ 64) : Calls Try.prog 19 #[wv f t s l, .int .u64 (n : Int)] w fun e w' =>
    e = .returned (.tuple #[wv (tk f t s l n 0) (tk f t s l n 1) (tk f t s l n 2) (tk f t s l n 3), .int .i64 (ref f t s l n : Int)]) ∧ Below w.heap.size w w' := by
  by_cases h : ref f t s l n = 0
  · simp only [tk_ok h, h]
    exact Take_ok f t s l n w hF hn h
  · simp only [tk_no h]
    exact Take_no f t s l n _ w hF rfl h
theorem tk_fits {f t s l n : Nat} (hF : Fits f t s l) (hn : n < 2 ^ 64) : Fits (tk f t s l n 0) (tk f t s l n 1) (tk f t s l n 2) (tk f t s l n 3) := by
  by_cases h : ref f t s l n = 0
  · simp only [tk_ok h]; exact fits_take hF hn h
  · simp only [tk_no h]; refine ⟨?_, ?_, ?_, ?_⟩ <;> omega
open Classical in
noncomputable def al (f t s l k : Nat) : Nat := if ¬ Ok f t s l then 2 else if 1152921504606846977 < k then 2 else if k ≤ l then 8 else 0
noncomputable def aw (f t s l k i : Nat) : Nat := if al f t s l k = 0 then [f, t, s, k].getD i 0 else 0
theorem al_ok {f t s l k : Nat} (h : al f t s l k = 0) : Ok f t s l ∧ k ≤ 1152921504606846977 ∧ l < k := by
  unfold al at h
  split at h; · cases h
  rename_i h1
  split at h; · cases h
  split at h; · cases h
  exact ⟨Classical.not_not.1 h1, by omega, by omega⟩
theorem Allow_any (f t s l k : Nat) (w : World) (hF : Fits f t s l) : Calls Try.prog 17 #[wv f t s l, .int .u64 (k : Int)] w fun e w' =>
    e = .returned (.tuple #[wv (aw f t s l k 0) (aw f t s l k 1) (aw f t s l k 2) (aw f t s l k 3), .int .i64 (al f t s l k : Int)]) ∧ Below w.heap.size w w' := by
  by_cases h : al f t s l k = 0
  · obtain ⟨h1, h2, h3⟩ := al_ok h
    unfold aw
    simp only [h, if_true]
    exact Allow_ok f t s l k w hF h1 h2 h3
  · unfold aw
    simp only [h, if_false]
    unfold al
    by_cases h1 : Ok f t s l
    · rw [if_neg (by simpa using h1)]
      by_cases h2 : 1152921504606846977 < k
      · rw [if_pos h2]; exact Allow_arg f t s l k w hF h1 h2
      rw [if_neg h2]
      by_cases h3 : k ≤ l
      · rw [if_pos h3]; exact Allow_old f t s l k w hF h1 (by omega) h3
      · refine absurd ?_ h
        unfold al
        rw [if_neg (by simpa using h1), if_neg h2, if_neg h3]
    · rw [if_pos h1]; exact Allow_no f t s l k w hF h1
/-- A row's cells, also when others were made. -/
theorem quad {W : World} {g f t s l : Nat} (h : Row W g (wl f t s l) 35) : W.cell? ⟨g, 0, none⟩ = some (.int .u64 (f : Int)) ∧ W.cell? ⟨g, 1, none⟩ = some (.int .u64 (t : Int)) ∧ W.cell? ⟨g, 2, none⟩ = some (.int .u64 (s : Int)) ∧ W.cell? ⟨g, 3, none⟩ = some (.int .u64 (l : Int)) :=
  ⟨h.cell rfl, h.cell rfl, h.cell rfl, h.cell rfl⟩
theorem quadA {W : World} {g f t s l : Nat} (h : Row W g (wl f t s l) 35) : (∀ o, (W.alloc o).cell? ⟨g, 0, none⟩ = some (.int .u64 (f : Int))) ∧ (∀ o, (W.alloc o).cell? ⟨g, 1, none⟩ = some (.int .u64 (t : Int))) ∧
    (∀ o, (W.alloc o).cell? ⟨g, 2, none⟩ = some (.int .u64 (s : Int))) ∧ (∀ o, (W.alloc o).cell? ⟨g, 3, none⟩ = some (.int .u64 (l : Int))) :=
  ⟨fun o => (h.alloc o).cell rfl, fun o => (h.alloc o).cell rfl, fun o => (h.alloc o).cell rfl, fun o => (h.alloc o).cell rfl⟩
end Go.Proofs.Ytnpmlbpnlflkkaa.Win
