/- config: by which route an address goes, in plain terms. -/
import Derived.Test.YtlphmbefcbhhpaaCfgLook
import Derived.Test.YtlphmbefcbhhpaaCfgSetRoute
namespace Go.Proofs.Ytlphmbefcbhhpaa.Cfg
theorem u32_wrap (n : Nat) (h : n < 4294967296) : IntKind.u32.wrap (n : Int) = (n : Int) := by
  simp only [IntKind.wrap, IntKind.bits, IntKind.signed]
  simp
  omega
theorem u_xor (x y : BitVec 32) : bits .xor .u32 (x.toNat : Int) (y.toNat : Int) = ((x ^^^ y).toNat : Int) := by
  show IntKind.u32.wrap ((BitVec.ofInt 32 (x.toNat : Int) ^^^ BitVec.ofInt 32 (y.toNat : Int)).toNat : Int) = _
  simp only [BitVec.ofInt_natCast, BitVec.ofNat_toNat, BitVec.setWidth_eq]
  exact u32_wrap _ (x ^^^ y).isLt
theorem u_and (x y : BitVec 32) : bits .and .u32 (x.toNat : Int) (y.toNat : Int) = ((x &&& y).toNat : Int) := by
  show IntKind.u32.wrap ((BitVec.ofInt 32 (x.toNat : Int) &&& BitVec.ofInt 32 (y.toNat : Int)).toNat : Int) = _
  simp only [BitVec.ofInt_natCast, BitVec.ofNat_toNat, BitVec.setWidth_eq]
  exact u32_wrap _ (x &&& y).isLt
theorem u_andNot (x y : BitVec 32) : bits .andNot .u32 (x.toNat : Int) (y.toNat : Int) = ((x &&& ~~~y).toNat : Int) := by
  show IntKind.u32.wrap ((BitVec.ofInt 32 (x.toNat : Int) &&& ~~~ BitVec.ofInt 32 (y.toNat : Int)).toNat : Int) = _
  simp only [BitVec.ofInt_natCast, BitVec.ofNat_toNat, BitVec.setWidth_eq]
  exact u32_wrap _ (x &&& ~~~y).isLt
theorem as_word {x : Int} (h0 : 0 ≤ x) (h1 : x ≤ 4294967295) : ∃ b : BitVec 32, x = (b.toNat : Int) := ⟨BitVec.ofNat 32 x.toNat, by rw [BitVec.toNat_ofNat]; omega⟩
theorem word_lead (X Y M : BitVec 32) (h : X &&& ~~~M = 0#32) : ((X ^^^ Y) &&& M = 0#32) ↔ (Y &&& M = X) := by
  have hX : ∀ i, i < 32 → (X.getLsbD i && !M.getLsbD i) = false := by
    intro i hi
    have := congrArg (fun b => BitVec.getLsbD b i) h
    simpa [hi] using this
  constructor
  · intro h1
    apply BitVec.eq_of_getLsbD_eq
    intro i hi
    have h2 := congrArg (fun b => BitVec.getLsbD b i) h1
    have h3 := hX i hi
    simp only [BitVec.getLsbD_and, BitVec.getLsbD_xor, BitVec.getLsbD_zero] at h2 ⊢
    revert h2 h3
    cases X.getLsbD i <;> cases Y.getLsbD i <;> cases M.getLsbD i <;> simp
  · intro h1
    apply BitVec.eq_of_getLsbD_eq
    intro i hi
    have h2 := congrArg (fun b => BitVec.getLsbD b i) h1
    have h3 := hX i hi
    simp only [BitVec.getLsbD_and, BitVec.getLsbD_xor, BitVec.getLsbD_zero] at h2 ⊢
    revert h2 h3
    cases X.getLsbD i <;> cases Y.getLsbD i <;> cases M.getLsbD i <;> simp
theorem lead_iff {r : Rt} {a : Int} (hv : prefB r.addr r.bits = true) (h0 : 0 ≤ r.addr ∧ r.addr ≤ 4294967295) (h1 : 0 ≤ a ∧ a ≤ 4294967295) : leadB r a = true ↔ bits .and .u32 a (maskZ r.bits) = r.addr := by
  obtain ⟨X, hX⟩ := as_word h0.1 h0.2
  obtain ⟨Y, hY⟩ := as_word h1.1 h1.2
  obtain ⟨M, hM⟩ := as_word (maskZ_in r.bits).1 (by have := (maskZ_in r.bits).2; omega)
  have hp : bits .andNot .u32 r.addr (maskZ r.bits) = 0 := by
    unfold prefB at hv
    simp only [Bool.and_eq_true, beq_iff_eq] at hv
    exact hv.2
  unfold leadB
  rw [hX, hM, u_andNot] at hp
  rw [hX, hY, hM, u_xor, u_and, u_and]
  have e0 : X &&& ~~~M = 0#32 := by apply BitVec.eq_of_toNat_eq; rw [BitVec.toNat_ofNat]; omega
  have hw := word_lead X Y M e0
  rw [beq_iff_eq]
  constructor
  · intro h
    have : (X ^^^ Y) &&& M = 0#32 := by apply BitVec.eq_of_toNat_eq; rw [BitVec.toNat_ofNat]; omega
    rw [hw.1 this]
  · intro h
    have : Y &&& M = X := BitVec.eq_of_toNat_eq (by omega)
    rw [hw.2 this]
    rfl
/-- Routes as a valid configuration has them. -/
structure Rts (l : List Rt) : Prop where
  ord : Ord Rt.key l
  pre : ∀ r ∈ l, prefB r.addr r.bits = true
  inn : ∀ r ∈ l, 0 ≤ r.addr ∧ r.addr ≤ 4294967295
section
variable {l : List Rt} {a : Int} (hl : Rts l) (ha : 0 ≤ a ∧ a ≤ 4294967295)
include hl ha
theorem lead_one {r s : Rt} (hr : r ∈ l) (hs : prefB s.addr s.bits = true) (hs2 : 0 ≤ s.addr ∧ s.addr ≤ 4294967295) (h1 : leadB r a = true) (h2 : leadB s a = true) (hb : r.bits = s.bits) : r.key = s.key := by
  have e1 := (lead_iff (hl.pre r hr) (hl.inn r hr) ha).1 h1
  have e2 := (lead_iff hs hs2 ha).1 h2
  rw [hb] at e1
  show (r.addr, r.bits) = (s.addr, s.bits)
  rw [← e1, e2, hb]
theorem best_uniq {b c : Option Rt} (h1 : BestOf l a b) (h2 : BestOf l a c) : b = c := by
  cases b with
  | none =>
    cases c with
    | none => rfl
    | some s => have := h1 s h2.1; rw [h2.2.1] at this; cases this
  | some r =>
    cases c with
    | none => have := h2 r h1.1; rw [h1.2.1] at this; cases this
    | some s =>
      have hb : r.bits = s.bits := Int.le_antisymm (h2.2.2 r h1.1 h1.2.1) (h1.2.2 s h2.1 h2.2.1)
      rw [hl.ord.one h1.1 h2.1 (lead_one hl ha h1.1 (hl.pre s h2.1) (hl.inn s h2.1) h1.2.1 h2.2.1 hb)]
variable {n : Rt}
/-- A prefix that the address does not begin with changes nothing. -/
theorem best_other {b c : Option Rt} (hn : leadB n a = false) (h1 : BestOf l a b) (h2 : BestOf (setR l n) a c) : b = c := by
  have same : ∀ x : Rt, x.key = n.key → leadB x a = leadB n a := by
    intro x hx
    have hx' : (x.addr, x.bits) = (n.addr, n.bits) := hx
    simp only [Prod.mk.injEq] at hx'
    unfold leadB
    rw [hx'.1, hx'.2]
  refine best_uniq hl ha h1 ?_
  cases c with
  | none =>
    intro x hx
    by_cases hk : x.key = n.key
    · rw [same x hk, hn]
    · exact h2 x (mem_put.2 (.inr ⟨hx, hk⟩))
  | some r =>
    obtain ⟨k1, k2, k3⟩ := h2
    rcases mem_put.1 k1 with rfl | ⟨hr, _⟩
    · rw [hn] at k2; cases k2
    · refine ⟨hr, k2, fun x hx hlx => ?_⟩
      by_cases hk : x.key = n.key
      · rw [same x hk, hn] at hlx; cases hlx
      · exact k3 x (mem_put.2 (.inr ⟨hx, hk⟩)) hlx
/-- A prefix that is shorter than another one changes nothing. -/
theorem best_longer {b c : Option Rt} {r : Rt} (hr : r ∈ l) (hlr : leadB r a = true) (hb : n.bits < r.bits) (h1 : BestOf l a b) (h2 : BestOf (setR l n) a c) : b = c := by
  refine best_uniq hl ha h1 ?_
  have hk : r.key ≠ n.key := by
    intro e
    have e' : (r.addr, r.bits) = (n.addr, n.bits) := e
    simp only [Prod.mk.injEq] at e'
    omega
  have hrd : r ∈ setR l n := mem_put.2 (.inr ⟨hr, hk⟩)
  cases c with
  | none => have := h2 r hrd; rw [hlr] at this; cases this
  | some s =>
    obtain ⟨k1, k2, k3⟩ := h2
    have hs := k3 r hrd hlr
    rcases mem_put.1 k1 with rfl | ⟨hs', _⟩
    · omega
    · refine ⟨hs', k2, fun x hx hlx => ?_⟩
      by_cases hkx : x.key = n.key
      · have e' : (x.addr, x.bits) = (n.addr, n.bits) := hkx
        simp only [Prod.mk.injEq] at e'
        omega
      · exact k3 x (mem_put.2 (.inr ⟨hx, hkx⟩)) hlx
/-- .. else it is the one. -/
theorem best_new {c : Option Rt} (hp : prefB n.addr n.bits = true) (hi : 0 ≤ n.addr ∧ n.addr ≤ 4294967295) (hln : leadB n a = true) (hm : ∀ x ∈ l, leadB x a = true → x.bits ≤ n.bits) (h2 : BestOf (setR l n) a c) : c = some n := by
  have hnd : n ∈ setR l n := mem_put.2 (.inl rfl)
  cases c with
  | none => have := h2 n hnd; rw [hln] at this; cases this
  | some s =>
    obtain ⟨k1, k2, k3⟩ := h2
    rcases mem_put.1 k1 with rfl | ⟨hs, hk⟩
    · rfl
    · have e1 := k3 n hnd hln
      have e2 := hm s hs k2
      exact absurd (lead_one hl ha hs hp hi k2 hln (by omega)) hk
end
end Go.Proofs.Ytlphmbefcbhhpaa.Cfg
