/- The four words of a quarter round, put back one after the other. -/
import Derived.Test.YtpllbnioncjhaaaChaTurnPure
import Derived.Test.YtpllbnioncjhaaaStage
namespace Go.Proofs.Ytpllbnioncjhaaa
namespace Cha
open Go.RowKit
/-- The first s of the puts. -/
def setsN (L : List (BitVec 32)) (js : List (Nat × BitVec 32)) (s : Nat) : List (BitVec 32) := (js.take s).foldl (fun L j => L.set j.1 j.2) L
theorem setsN_length (L : List (BitVec 32)) (js : List (Nat × BitVec 32)) (s : Nat) : (setsN L js s).length = L.length := by
  unfold setsN
  generalize js.take s = l
  induction l generalizing L with
  | nil => rfl
  | cons j l ih => rw [List.foldl_cons, ih, List.length_set]
theorem set_same {L : List (BitVec 32)} {i : Nat} {x : BitVec 32} (h : L[i]? = some x) : L.set i x = L := by
  apply List.ext_getElem?
  intro j
  rw [List.getElem?_set]
  split
  · rename_i e
    subst e
    rw [h]
    have := (List.getElem?_eq_some_iff.1 h).1
    simp [this]
  · rfl
theorem splice_one (l : List Value) (i : Nat) (v : Value) (h : i < l.length) : splice l i [v] = l.set i v := by
  unfold splice
  rw [List.set_eq_take_append_cons_drop, if_pos h]
  rfl
structure Four (p q r o : Nat) : Prop where
  fp : p < 16
  fq : q < 16
  fr : r < 16
  fo : o < 16
  d : p ≠ q ∧ p ≠ r ∧ p ≠ o ∧ q ≠ r ∧ q ≠ o ∧ r ≠ o
def js (T : List (BitVec 32)) (p q r o : Nat) : List (Nat × BitVec 32) := [(p, at_ T p), (q, at_ T q), (r, at_ T r), (o, at_ T o)]
def stage (L T : List (BitVec 32)) (p q r o s : Nat) : List (BitVec 32) := setsN L (js T p q r o) s
theorem stage0 (L T : List (BitVec 32)) (p q r o : Nat) : stage L T p q r o 0 = L := rfl
theorem stage_ge (L T : List (BitVec 32)) (p q r o s : Nat) (h : 4 ≤ s) : stage L T p q r o s = stage L T p q r o 4 := by
  unfold stage setsN
  rw [List.take_of_length_le (show (js T p q r o).length ≤ s from h)]
  rfl
theorem at_four (L : List (BitVec 32)) (hL : L.length = 16) {p q r o : Nat} (h : Four p q r o) (x : Nat → BitVec 32) (i : Nat) (hi : i < 16) :
    ((((L.set p (x p)).set q (x q)).set r (x r)).set o (x o))[i]? = some (if i = p ∨ i = q ∨ i = r ∨ i = o then x i else at_ L i) := by
  have hd := h.d
  have e : L[i]? = some (at_ L i) := by
    unfold at_
    rw [List.getD_eq_getElem?_getD, List.getElem?_eq_getElem (by omega)]
    rfl
  simp only [List.getElem?_set, List.length_set, hL]
  by_cases h4 : o = i
  · subst h4; simp [hi]
  by_cases h3 : r = i
  · subst h3; simp [h4, hi]
  by_cases h2 : q = i
  · subst h2; simp [h4, h3, hi]
  by_cases h1 : p = i
  · subst h1; simp [h4, h3, h2, hi]
  simp only [h4, h3, h2, h1, if_false, e]
  rw [if_neg (by omega)]
theorem stage_end (T : List (BitVec 32)) (hT : T.length = 16) {p q r o : Nat} (h : Four p q r o) : stage (qr T (p, q, r, o)) T p q r o 4 = T := by
  apply List.ext_getElem?
  intro i
  by_cases hi : i < 16
  · show ((((((qr T (p, q, r, o)).set p (at_ T p)).set q (at_ T q)).set r (at_ T r)).set o (at_ T o)))[i]? = _
    rw [at_four _ (by rw [qr_length]; exact hT) h (at_ T) i hi]
    have e : T[i]? = some (at_ T i) := by
      unfold at_
      rw [List.getD_eq_getElem?_getD, List.getElem?_eq_getElem (by omega)]
      rfl
    rw [e]
    split
    · rfl
    · rename_i hn
      congr 1
      unfold qr at_
      simp only
      rw [List.getD_eq_getElem?_getD, List.getElem?_set_ne (by omega), List.getElem?_set_ne (by omega), List.getElem?_set_ne (by omega), List.getElem?_set_ne (by omega), ← List.getD_eq_getElem?_getD]
  · rw [List.getElem?_eq_none (by unfold stage; rw [setsN_length, qr_length]; omega), List.getElem?_eq_none (by omega)]
section
variable (L T : List (BitVec 32)) (hL : L.length = 16) {p q r o : Nat} (F : Four p q r o)
include hL F
theorem stage_get1 (s : Nat) (h : 1 ≤ s) : (stage L T p q r o s)[p]? = some (at_ T p) := by
  rcases (show s = 1 ∨ s = 2 ∨ s = 3 ∨ 4 ≤ s by omega) with rfl | rfl | rfl | h4
  · show (L.set p (at_ T p))[p]? = _
    rw [List.getElem?_set_self (by rw [hL]; exact F.fp)]
  · show ((L.set p (at_ T p)).set q (at_ T q))[p]? = _
    rw [List.getElem?_set_ne (Ne.symm F.d.1), List.getElem?_set_self (by rw [hL]; exact F.fp)]
  · show (((L.set p (at_ T p)).set q (at_ T q)).set r (at_ T r))[p]? = _
    rw [List.getElem?_set_ne (Ne.symm F.d.2.1), List.getElem?_set_ne (Ne.symm F.d.1), List.getElem?_set_self (by rw [hL]; exact F.fp)]
  · rw [stage_ge _ _ _ _ _ _ _ h4]
    show ((((L.set p (at_ T p)).set q (at_ T q)).set r (at_ T r)).set o (at_ T o))[p]? = _
    rw [List.getElem?_set_ne (Ne.symm F.d.2.2.1), List.getElem?_set_ne (Ne.symm F.d.2.1), List.getElem?_set_ne (Ne.symm F.d.1), List.getElem?_set_self (by rw [hL]; exact F.fp)]
theorem stage_put1 (s : Nat) (h : 1 ≤ s + 1) : splice ((stage L T p q r o s).map wv) p [wv (at_ T p)] = (stage L T p q r o (max s 1)).map wv := by
  have hlen : (stage L T p q r o s).length = 16 := by unfold stage; rw [setsN_length]; exact hL
  rw [splice_one _ _ _ (by rw [List.length_map, hlen]; exact F.fp), ← List.map_set]
  congr 1
  rcases (show s = 0 ∨ 1 ≤ s by omega) with rfl | h2
  · rfl
  · rw [show max s 1 = s by omega]
    exact set_same (stage_get1 L T hL F s h2)
theorem stage_get2 (s : Nat) (h : 2 ≤ s) : (stage L T p q r o s)[q]? = some (at_ T q) := by
  rcases (show s = 2 ∨ s = 3 ∨ 4 ≤ s by omega) with rfl | rfl | h4
  · show ((L.set p (at_ T p)).set q (at_ T q))[q]? = _
    rw [List.getElem?_set_self (by simp only [List.length_set]; rw [hL]; exact F.fq)]
  · show (((L.set p (at_ T p)).set q (at_ T q)).set r (at_ T r))[q]? = _
    rw [List.getElem?_set_ne (Ne.symm F.d.2.2.2.1), List.getElem?_set_self (by simp only [List.length_set]; rw [hL]; exact F.fq)]
  · rw [stage_ge _ _ _ _ _ _ _ h4]
    show ((((L.set p (at_ T p)).set q (at_ T q)).set r (at_ T r)).set o (at_ T o))[q]? = _
    rw [List.getElem?_set_ne (Ne.symm F.d.2.2.2.2.1), List.getElem?_set_ne (Ne.symm F.d.2.2.2.1), List.getElem?_set_self (by simp only [List.length_set]; rw [hL]; exact F.fq)]
theorem stage_put2 (s : Nat) (h : 2 ≤ s + 1) : splice ((stage L T p q r o s).map wv) q [wv (at_ T q)] = (stage L T p q r o (max s 2)).map wv := by
  have hlen : (stage L T p q r o s).length = 16 := by unfold stage; rw [setsN_length]; exact hL
  rw [splice_one _ _ _ (by rw [List.length_map, hlen]; exact F.fq), ← List.map_set]
  congr 1
  rcases (show s = 1 ∨ 2 ≤ s by omega) with rfl | h2
  · rfl
  · rw [show max s 2 = s by omega]
    exact set_same (stage_get2 L T hL F s h2)
theorem stage_get3 (s : Nat) (h : 3 ≤ s) : (stage L T p q r o s)[r]? = some (at_ T r) := by
  rcases (show s = 3 ∨ 4 ≤ s by omega) with rfl | h4
  · show (((L.set p (at_ T p)).set q (at_ T q)).set r (at_ T r))[r]? = _
    rw [List.getElem?_set_self (by simp only [List.length_set]; rw [hL]; exact F.fr)]
  · rw [stage_ge _ _ _ _ _ _ _ h4]
    show ((((L.set p (at_ T p)).set q (at_ T q)).set r (at_ T r)).set o (at_ T o))[r]? = _
    rw [List.getElem?_set_ne (Ne.symm F.d.2.2.2.2.2), List.getElem?_set_self (by simp only [List.length_set]; rw [hL]; exact F.fr)]
theorem stage_put3 (s : Nat) (h : 3 ≤ s + 1) : splice ((stage L T p q r o s).map wv) r [wv (at_ T r)] = (stage L T p q r o (max s 3)).map wv := by
  have hlen : (stage L T p q r o s).length = 16 := by unfold stage; rw [setsN_length]; exact hL
  rw [splice_one _ _ _ (by rw [List.length_map, hlen]; exact F.fr), ← List.map_set]
  congr 1
  rcases (show s = 2 ∨ 3 ≤ s by omega) with rfl | h2
  · rfl
  · rw [show max s 3 = s by omega]
    exact set_same (stage_get3 L T hL F s h2)
theorem stage_get4 (s : Nat) (h : 4 ≤ s) : (stage L T p q r o s)[o]? = some (at_ T o) := by
  have h4 := h
  rw [stage_ge _ _ _ _ _ _ _ h4]
  show ((((L.set p (at_ T p)).set q (at_ T q)).set r (at_ T r)).set o (at_ T o))[o]? = _
  rw [List.getElem?_set_self (by simp only [List.length_set]; rw [hL]; exact F.fo)]
theorem stage_put4 (s : Nat) (h : 4 ≤ s + 1) : splice ((stage L T p q r o s).map wv) o [wv (at_ T o)] = (stage L T p q r o (max s 4)).map wv := by
  have hlen : (stage L T p q r o s).length = 16 := by unfold stage; rw [setsN_length]; exact hL
  rw [splice_one _ _ _ (by rw [List.length_map, hlen]; exact F.fo), ← List.map_set]
  congr 1
  rcases (show s = 3 ∨ 4 ≤ s by omega) with rfl | h2
  · rfl
  · rw [show max s 4 = s by omega]
    exact set_same (stage_get4 L T hL F s h2)
end
theorem qr_get (T : List (BitVec 32)) (hT : T.length = 16) {p q r o : Nat} (F : Four p q r o) (Q : Q) (hQ : quarter ⟨at_ T p, at_ T q, at_ T r, at_ T o⟩ = Q) :
    (qr T (p, q, r, o))[p]? = some Q.a ∧ (qr T (p, q, r, o))[q]? = some Q.b ∧ (qr T (p, q, r, o))[r]? = some Q.c ∧ (qr T (p, q, r, o))[o]? = some Q.d := by
  unfold qr
  simp only [hQ]
  refine ⟨?_, ?_, ?_, ?_⟩
  · rw [List.getElem?_set_ne (Ne.symm F.d.2.2.1), List.getElem?_set_ne (Ne.symm F.d.2.1), List.getElem?_set_ne (Ne.symm F.d.1), List.getElem?_set_self (by rw [hT]; exact F.fp)]
  · rw [List.getElem?_set_ne (Ne.symm F.d.2.2.2.2.1), List.getElem?_set_ne (Ne.symm F.d.2.2.2.1), List.getElem?_set_self (by simp only [List.length_set]; rw [hT]; exact F.fq)]
  · rw [List.getElem?_set_ne (Ne.symm F.d.2.2.2.2.2), List.getElem?_set_self (by simp only [List.length_set]; rw [hT]; exact F.fr)]
  · rw [List.getElem?_set_self (by simp only [List.length_set]; rw [hT]; exact F.fo)]
end Cha
end Go.Proofs.Ytpllbnioncjhaaa
