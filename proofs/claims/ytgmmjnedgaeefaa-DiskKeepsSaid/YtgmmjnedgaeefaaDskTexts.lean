/- disk: lists of strings that are the same. -/
import Derived.Test.YtgmmjnedgaeefaaDskNames
import Derived.Test.YtgmmjnedgaeefaaDskCrash
namespace Go.Proofs.Ytgmmjnedgaeefaa.Dsk
open Go.RowKit Go.Maps Go.Sort Go.Shelf
/-- A slice that reads as these strings, in a block below B. -/
def Ss (w : World) (B : Nat) (v : Value) (l : List Name) : Prop :=
  ∃ A c, v = .slice A l.length c ∧ l.length ≤ c ∧ (l ≠ [] → ∃ b off, A = some ⟨b, off, none⟩ ∧ b < B ∧ ∀ (i : Nat) (s : Name), l[i]? = some s → w.cell? ⟨b, off + i, none⟩ = some (sv s))
theorem Ss.below {w w' : World} {B : Nat} {v : Value} {l : List Name} (h : Ss w B v l) (hb : Below B w w') : Ss w' B v l := by
  obtain ⟨A, c, h1, h2, h3⟩ := h
  refine ⟨A, c, h1, h2, fun hne => ?_⟩
  obtain ⟨b, off, e, hlt, h4⟩ := h3 hne
  exact ⟨b, off, e, hlt, fun i s hs => (hb.cell (p := ⟨b, off + i, none⟩) hlt).trans (h4 i s hs)⟩
theorem Ss.more {w : World} {B B' : Nat} {v : Value} {l : List Name} (h : Ss w B v l) (hB : B ≤ B') : Ss w B' v l := by
  obtain ⟨A, c, h1, h2, h3⟩ := h
  refine ⟨A, c, h1, h2, fun hne => ?_⟩
  obtain ⟨b, off, e, hlt, h4⟩ := h3 hne
  exact ⟨b, off, e, by omega, h4⟩
theorem OwnS.ss {w : World} {base : Nat} {v : Value} {l : List Name} (h : OwnS w base v l) : Ss w w.heap.size v l := by
  obtain ⟨A, c, h1, h2, h3⟩ := h.cells
  refine ⟨A, c, h1, h2, fun hne => ?_⟩
  obtain ⟨g, e, _, hlt, h4⟩ := h3 hne
  exact ⟨g, 0, e, hlt, fun i s hs => by rw [Nat.zero_add]; exact h4 i s hs⟩
theorem str_neg (x y : Name) (u v : Operand) (w : World) : (eqGuard .neq 9 u v (sv x) (sv y)).run Try.prog w = .ok () w := by
  unfold sv
  simp [eqGuard]
theorem str_ne (x y : Name) (w : World) : (binOp .neq 9 (sv x) (sv y)).run Try.prog w = .ok (.bool (decide (x ≠ y))) w := by
  unfold sv binOp Op.stringOp
  simp [Sem.run_pure]
  by_cases h : x = y
  · subst h; simp
  · have : (x == y) = false := beq_eq_false_iff_ne.2 h
    simp [h]
set_option maxRecDepth 100000 in
set_option maxHeartbeats 1000000 in
theorem Texts_same {w : World} {va vb : Value} {l : List Name} (ha : Ss w w.heap.size va l) (hb : Ss w w.heap.size vb l) (hl : l.length ≤ 1000000) :
    Calls Try.prog 14 #[va, vb] w fun e w' => e = .returned (.bool true) ∧ Below w.heap.size w w' := by
  obtain ⟨A1, c1, rfl, k1, h1⟩ := ha
  obtain ⟨A2, c2, rfl, k2, h2⟩ := hb
  have H1 := Lib.hid h1
  have H2 := Lib.hid h2
  clear h1 h2
  go_enter Try.func14, Try.ntmps14
  go_wp2
  go_loopw [5] (fun iv wr => ∃ i : Nat, i ≤ l.length ∧ iv = .int .i64 (i : Int) ∧ Below w.heap.size w wr) (fun iv _ => l.length - (intOf iv).toNat)
  case atStart => exact ⟨0, Nat.zero_le _, rfl, Below.refl _ _⟩
  case round =>
    obtain ⟨i, hi, rfl, hb⟩ := hrel
    have HB := Lib.hid hb
    clear hb
    by_cases h1 : i < l.length
    · have h1' : (i : Int) < (l.length : Int) := by omega
      obtain ⟨b1, o1, rfl, hlt1, hc1⟩ := H1.out (by intro e; subst e; simp at h1)
      obtain ⟨b2, o2, rfl, hlt2, hc2⟩ := H2.out (by intro e; subst e; simp at h1)
      obtain ⟨s, hs⟩ : ∃ s, l[i]? = some s := ⟨_, List.getElem?_eq_getElem h1⟩
      have e1 := (HB.out.cell (p := ⟨b1, o1 + i, none⟩) hlt1).trans (hc1 i s hs)
      have e2 := (HB.out.cell (p := ⟨b2, o2 + i, none⟩) hlt2).trans (hc2 i s hs)
      have e3 : ∀ W, (binOp .neq 9 (sv s) (sv s)).run Try.prog W = .ok (.bool false) W := fun W => (str_ne s s W).trans (by simp)
      have e4 : ∀ u v W, (eqGuard .neq 9 u v (sv s) (sv s)).run Try.prog W = .ok () W := fun u v W => str_neg s s u v W
      clear hc1 hc2 hs
      go_wp2_with fail
      go_quiet (fail)
      rename_i nq
      go_wp2
      go_roundw
      case rel => exact ⟨i + 1, h1, by go_num, HB.out.trans ⟨rfl, rfl, rfl, Nat.le_refl _, fun _ _ => rfl⟩⟩
      case measure => simp [intOf]; omega
    · have h1' : ¬ (i : Int) < (l.length : Int) := by omega
      go_wp2
      go_ret
      exact ⟨rfl, HB.out⟩
end Go.Proofs.Ytgmmjnedgaeefaa.Dsk
