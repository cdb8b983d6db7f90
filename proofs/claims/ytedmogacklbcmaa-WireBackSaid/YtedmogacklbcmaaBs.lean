/- What a slice of a slice reads as. -/
import Derived.Test.YtedmogacklbcmaaMem
namespace Go.Proofs.Ytedmogacklbcmaa
open Go.RowKit

theorem Bs.take {w : World} {B : Nat} {A : Option Addr} {c m : Nat} {l : List UInt8} (h : Bs w B (.slice A m c) l) (hm : m = l.length) {k : Nat} (hk : k ≤ l.length) : Bs w B (.slice A k c) (l.take k) := by
  subst hm
  obtain ⟨A', c', he, hc, hcs⟩ := h
  simp only [Value.slice.injEq] at he
  obtain ⟨rfl, _, rfl⟩ := he
  have hlen : (l.take k).length = k := by rw [List.length_take]; omega
  refine ⟨A, c, by rw [hlen], by omega, fun hne => ?_⟩
  obtain ⟨b, off, rfl, h2, h3⟩ := hcs (by intro h; subst h; simp at hne)
  refine ⟨b, off, rfl, h2, fun i u hu => ?_⟩
  rw [List.getElem?_take] at hu
  split at hu
  · exact h3 i u hu
  · cases hu
theorem Bs.cut {w : World} {B : Nat} {A : Option Addr} {c : Nat} {l : List UInt8} (h : Bs w B (.slice A l.length c) l) {k : Nat} (hk : k ≤ l.length) : Bs w B (.slice (if c = k then A else A.map (·.add k)) (l.length - k) (c - k)) (l.drop k) := by
  obtain ⟨A', c', he, hc, hcs⟩ := h
  simp only [Value.slice.injEq] at he
  obtain ⟨rfl, _, rfl⟩ := he
  refine ⟨_, c - k, by rw [List.length_drop], by rw [List.length_drop]; omega, fun hne => ?_⟩
  have hlt : k < l.length := by
    rcases Nat.lt_or_ge k l.length with h | h
    · exact h
    · exact absurd (List.drop_eq_nil_of_le h) hne
  obtain ⟨b, off, rfl, h2, h3⟩ := hcs (by intro h; subst h; simp at hlt)
  rw [if_neg (by omega)]
  refine ⟨b, off + k, ?_, h2, fun i u hu => ?_⟩
  · simp only [Option.map_some, Option.some.injEq]
    unfold Addr.add; split <;> simp_all
  · rw [List.getElem?_drop] at hu
    have := h3 _ u hu
    rwa [← Nat.add_assoc] at this
theorem Bs.heap {w W : World} {B : Nat} {v : Value} {l : List UInt8} (h : Bs w B v l) (hW : W.heap = w.heap) : Bs W B v l := h.keep fun b o _ => by simp only [World.cell?, hW]
end Go.Proofs.Ytedmogacklbcmaa
