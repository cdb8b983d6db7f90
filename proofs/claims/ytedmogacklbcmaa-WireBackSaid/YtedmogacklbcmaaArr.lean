/- Arrays of words and of bytes, as values and as arguments. -/
import Derived.Test.YtedmogacklbcmaaW32
import Derived.Test.YtedmogacklbcmaaLaw
namespace Go.Proofs.Ytedmogacklbcmaa
open Go.ChangeShapes Go.WideShapes Go.RowKit

/-- An array of words. -/
def arr32 (s : List (BitVec 32)) : Value := .agg (s.map wv).toArray
/-- An array of bytes. -/
def arr8 (l : List UInt8) : Value := .agg (l.map bv).toArray

theorem list_choose {α β : Type} (f : β → α) : ∀ l : List α, (∀ x ∈ l, ∃ y, x = f y) → ∃ m : List β, l = m.map f := by
  intro l
  induction l with
  | nil => intro _; exact ⟨[], rfl⟩
  | cons x l ih =>
    intro h
    obtain ⟨y, rfl⟩ := h x (List.mem_cons_self ..)
    obtain ⟨m, rfl⟩ := ih fun z hz => h z (List.mem_cons_of_mem _ hz)
    exact ⟨y :: m, rfl⟩

section
variable {P : Program} {W : World} {base : Nat}
/-- An argument that is an array of an integer kind. -/
theorem ints_at {t e : TypeId} {n : Nat} {k : IntKind} {v : Value} (hu : P.underlying t = some (.array n e)) (hc : P.cellTypes P.depth t = some (List.replicate n e)) (hn : P.cellsOf t = n) (he : P.underlying e = some (.int k))
    (hv : Value.okWide P W .any base t v) : ∃ cs : List Value, v = .agg cs.toArray ∧ cs.length = n ∧ ∀ x ∈ cs, ∃ z : Int, x = .int k z ∧ k.min ≤ z ∧ z ≤ k.max := by
  simp only [Value.okWide, hu] at hv
  obtain ⟨cs, rfl, hsz, ts, hts, _, hcell⟩ := hv
  rw [hc] at hts
  injection hts with hts
  subst hts
  refine ⟨cs.toList, rfl, by rw [Array.length_toList, hsz, hn], fun x hx => ?_⟩
  obtain ⟨i, hi⟩ := List.getElem?_of_mem hx
  obtain ⟨u, hu1, hok⟩ := hcell i x (by simpa using hi)
  have hue : u = e := by
    rw [List.getElem?_replicate] at hu1
    split at hu1
    · injection hu1 with h; exact h.symm
    · cases hu1
  subst hue
  unfold Cell.okWide at hok
  rw [he] at hok
  cases x <;> simp only [Cell.ok, he] at hok
  obtain ⟨rfl, hh⟩ := hok
  exact ⟨_, rfl, hh⟩

theorem arr32_at {t e : TypeId} {n : Nat} {v : Value} (hu : P.underlying t = some (.array n e)) (hc : P.cellTypes P.depth t = some (List.replicate n e)) (hn : P.cellsOf t = n) (he : P.underlying e = some (.int .u32))
    (hv : Value.okWide P W .any base t v) : ∃ s : List (BitVec 32), v = arr32 s ∧ s.length = n := by
  obtain ⟨cs, rfl, hl, h⟩ := ints_at hu hc hn he hv
  obtain ⟨s, rfl⟩ := list_choose wv cs fun x hx => by
    obtain ⟨z, rfl, h0, h1⟩ := h x hx
    have h0' : 0 ≤ z := h0
    have h1' : z ≤ 4294967295 := h1
    refine ⟨BitVec.ofNat 32 z.toNat, ?_⟩
    have : ((BitVec.ofNat 32 z.toNat).toNat : Int) = z := by rw [BitVec.toNat_ofNat]; omega
    exact congrArg (Value.int .u32) this.symm
  exact ⟨s, rfl, by simpa using hl⟩
theorem arr8_at {t e : TypeId} {n : Nat} {v : Value} (hu : P.underlying t = some (.array n e)) (hc : P.cellTypes P.depth t = some (List.replicate n e)) (hn : P.cellsOf t = n) (he : P.underlying e = some (.int .u8))
    (hv : Value.okWide P W .any base t v) : ∃ l : List UInt8, v = arr8 l ∧ l.length = n := by
  obtain ⟨cs, rfl, hl, h⟩ := ints_at hu hc hn he hv
  obtain ⟨l, rfl⟩ := list_choose bv cs fun x hx => by
    obtain ⟨z, rfl, h0, h1⟩ := h x hx
    have h0' : 0 ≤ z := h0
    have h1' : z ≤ 255 := h1
    refine ⟨UInt8.ofNat z.toNat, ?_⟩
    unfold bv
    rw [UInt8.toNat_ofNat']
    exact congrArg (Value.int .u8) (by omega)
  exact ⟨l, rfl, by simpa using hl⟩
theorem word_at {t : TypeId} {v : Value} (he : P.underlying t = some (.int .u32)) (hv : Value.okWide P W .any base t v) : ∃ x : BitVec 32, v = wv x := by
  unfold Value.okWide at hv
  rw [he] at hv
  simp only at hv
  unfold Cell.okWide at hv
  rw [he] at hv
  cases v <;> simp only [Cell.ok, he] at hv
  obtain ⟨rfl, h0, h1⟩ := hv
  rename_i z
  have h0' : 0 ≤ z := h0
  have h1' : z ≤ 4294967295 := h1
  refine ⟨BitVec.ofNat 32 z.toNat, ?_⟩
  have : ((BitVec.ofNat 32 z.toNat).toNat : Int) = z := by rw [BitVec.toNat_ofNat]; omega
  exact congrArg (Value.int .u32) this.symm
end
end Go.Proofs.Ytedmogacklbcmaa
