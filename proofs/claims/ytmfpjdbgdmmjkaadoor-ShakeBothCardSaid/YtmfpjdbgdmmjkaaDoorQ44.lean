/- Texts that the proofs share: ShkMix. -/
import Derived.Test.YtmfpjdbgdmmjkaaDoorQ39
import Derived.Test.YtmfpjdbgdmmjkaaDoorQ41
namespace Go.Proofs.YtmfpjdbgdmmjkaaDoor.Shk
open Go.RowKit
open Pkt (Pk nm z16)
/-- The first i bytes changed. -/
def mixN (m ch : List UInt8) : Nat → List UInt8
  | 0 => m
  | i + 1 => (mixN m ch i).set i ((mixN m ch i).getD i 0 ^^^ ch.getD i 0)
theorem mixN_length (m ch : List UInt8) : ∀ i, (mixN m ch i).length = m.length
  | 0 => rfl
  | i + 1 => by rw [mixN, List.length_set]; exact mixN_length m ch i
theorem mixN_at (m ch : List UInt8) (hm : m.length = 16) (j : Nat) (hj : j < 16) : ∀ i, (mixN m ch i).getD j 0 = if j < i then m.getD j 0 ^^^ ch.getD j 0 else m.getD j 0
  | 0 => by simp [mixN]
  | i + 1 => by
    have hl := mixN_length m ch i
    have ih := mixN_at m ch hm j hj i
    rw [mixN, List.getD_eq_getElem?_getD, List.getElem?_set]
    by_cases h : i = j
    · subst h
      rw [if_pos rfl, if_pos (by omega), if_pos (by omega)]
      rw [ih, if_neg (by omega)]
      rfl
    · rw [if_neg h, ← List.getD_eq_getElem?_getD, ih]
      by_cases h2 : j < i
      · rw [if_pos h2, if_pos (by omega)]
      · rw [if_neg h2, if_neg (by omega)]
theorem mixN_ne (m ch : List UInt8) (hm : m.length = 16) (hc : ch.length = 16) (h : ch ≠ List.replicate 16 0) : mixN m ch 16 ≠ m := by
  intro e
  refine h (List.ext_getElem (by rw [hc]; simp) fun j h1 h2 => ?_)
  have hj : j < 16 := by omega
  have k := mixN_at m ch hm j hj 16
  rw [e, if_pos hj] at k
  rw [List.getElem_replicate]
  have k2 : ch.getD j 0 = 0 := by
    have k3 : m.getD j 0 ^^^ m.getD j 0 = m.getD j 0 ^^^ (m.getD j 0 ^^^ ch.getD j 0) := congrArg (m.getD j 0 ^^^ ·) k
    rw [← UInt8.xor_assoc, UInt8.xor_self, UInt8.zero_xor] at k3
    exact k3.symm
  rw [List.getD_eq_getElem?_getD, List.getElem?_eq_getElem h1] at k2
  exact k2
/-- A packet with another mark. -/
def wm (p : Pk) (m : List UInt8) : Pk := { p with mrk := m }
theorem wm_ok {p : Pk} (h : p.Ok) {m : List UInt8} (hm : m.length = 16) : (wm p m).Ok := ⟨h.r, hm, h.b⟩
theorem wm_self (p : Pk) : wm p p.mrk = p := rfl
theorem wm_set {p : Pk} (h : p.Ok) (m : List UInt8) (i : Nat) (hi : i < m.length) (x : UInt8) : (wm p m).cells.set (21 + i) (bv x) = (wm p (m.set i x)).cells := by
  rw [show 21 + i = 16 + i + 5 by omega]
  show _ :: _ :: _ :: _ :: _ :: (p.rnd.map bv ++ (m.map bv ++ [p.bo])).set (16 + i) (bv x) = _ :: _ :: _ :: _ :: _ :: (p.rnd.map bv ++ ((m.set i x).map bv ++ [p.bo]))
  rw [List.set_append_right _ _ (by rw [List.length_map, h.r]; omega), List.length_map, h.r, show 16 + i - 16 = i by omega, List.set_append_left _ _ (by rw [List.length_map]; exact hi), List.map_set]
  rfl
theorem wm_splice {p : Pk} (h : p.Ok) (m : List UInt8) (i : Nat) (hi : i < m.length) (hm : m.length = 16) (x : UInt8) : splice (wm p m).cells (21 + i) [bv x] = (wm p (m.set i x)).cells := by
  rw [← wm_set h m i hi x, splice, List.set_eq_take_append_cons_drop, if_pos (by rw [Pk.length (wm_ok h hm)]; omega)]
  simp
theorem wm_cell {p : Pk} (h : p.Ok) (m : List UInt8) (i : Nat) (hi : i < m.length) : (wm p m).cells[21 + i]? = some (bv (m.getD i 0)) := by
  rw [show 21 + i = 16 + i + 5 by omega]
  show (p.rnd.map bv ++ (m.map bv ++ [p.bo]))[16 + i]? = _
  rw [List.getElem?_append_right (by rw [List.length_map, h.r]; omega), List.length_map, h.r, show 16 + i - 16 = i by omega, List.getElem?_append_left (by rw [List.length_map]; exact hi), List.getElem?_map, List.getElem?_eq_getElem hi, List.getD_eq_getElem?_getD, List.getElem?_eq_getElem hi]
  rfl
theorem ch_cell (m : List UInt8) (i : Nat) (hi : i < m.length) : (m.map bv)[i]? = some (bv (m.getD i 0)) := by
  rw [List.getElem?_map, List.getElem?_eq_getElem hi, List.getD_eq_getElem?_getD, List.getElem?_eq_getElem hi]
  rfl
/-- A new packet of a region's own. -/
def newP (lo : Nat) : By.Mark Grew := ⟨fun v w => ∃ g, v = .pointer (some ⟨g, 0, none⟩) ∧ g < w.heap.size ∧ lo ≤ g ∧ Row w g (nm 0).cells 40, fun _ _ _ ⟨g, h1, h2, h3, h4⟩ h => ⟨g, h1, Nat.lt_of_lt_of_le h2 h.size, h3, h4.below h h2⟩⟩
theorem newP_at (w : World) {lo : Nat} (h : lo ≤ w.heap.size) : (newP lo).on (.pointer (some ⟨w.heap.size, 0, none⟩)) (w.alloc (.cells (nm 0).cells.toArray 40)) := ⟨_, rfl, by simp, h, Row.new rfl rfl⟩
theorem newP_ne {w : World} {lo : Nat} {x : Value} (h : (newP lo).on x w) : (Value.pointer (some ⟨w.heap.size, 0, none⟩)) ≠ x := by
  obtain ⟨g, rfl, hlt, _⟩ := h
  intro e
  simp only [Value.pointer.injEq, Option.some.injEq, Addr.mk.injEq] at e
  omega
theorem ckH_wm (key : List UInt8) (z : Int) (r m : List UInt8) (h : helloOk z) (hm : m ≠ (helloP key z r).mrk) : ckH key (wm (helloP key z r) m) 0 = 12 := by
  have h1 := ckH_hp key z r m h
  rw [if_neg (show ¬ m = mark key (hello5 ++ (helloL (hp z r z16)).flatten) from hm)] at h1
  exact h1
theorem ckA_wm (key : List UInt8) (p : Pk) (s e : Nat) (r m : List UInt8) (h : ansOk s e) (hm : m ≠ (answerP key p s e r).mrk) : ckA key p (wm (answerP key p s e r) m) 0 = 12 := by
  have h1 := ckA_ap key p s e r m h
  rw [if_neg (show ¬ m = mark key (answer6 ++ (answerL p (ap s e r z16)).flatten) from hm)] at h1
  exact h1
end Go.Proofs.YtmfpjdbgdmmjkaaDoor.Shk
