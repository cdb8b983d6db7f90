/- A region that draws its order and writes one row in a chain of stores that float among the others: the row goes through stages. -/
import Derived.Test.YtedmogacklbcmaaByN
import Derived.Test.YtedmogacklbcmaaRow
import Derived.Test.YtedmogacklbcmaaSubRow
namespace Go.Proofs.Ytedmogacklbcmaa.Stg
open Go.RowKit
/-- All blocks but one stay; that one goes from stage to stage. -/
structure St (gn : Nat) (cells : Nat → List Value) (t : TypeId) (x y : World) : Prop where
  os : y.os = x.os
  tape : y.tape = x.tape
  output : y.output = x.output
  size : x.heap.size ≤ y.heap.size
  block : ∀ k, k < x.heap.size → k ≠ gn → y.heap[k]? = x.heap[k]?
  up : ∀ s, Row x gn (cells s) t → ∃ s', s ≤ s' ∧ Row y gn (cells s') t
section
variable {gn : Nat} {cells : Nat → List Value} {t : TypeId}
theorem St.refl (x : World) : St gn cells t x x := ⟨rfl, rfl, rfl, Nat.le_refl _, fun _ _ _ => rfl, fun s h => ⟨s, Nat.le_refl _, h⟩⟩
theorem St.trans (x y z : World) (h : St gn cells t x y) (k : St gn cells t y z) : St gn cells t x z :=
  ⟨k.os.trans h.os, k.tape.trans h.tape, k.output.trans h.output, Nat.le_trans h.size k.size, fun i hi hne => (k.block i (Nat.lt_of_lt_of_le hi h.size) hne).trans (h.block i hi hne), fun s hs => by
    obtain ⟨s1, h1, r1⟩ := h.up s hs
    obtain ⟨s2, h2, r2⟩ := k.up s1 r1
    exact ⟨s2, Nat.le_trans h1 h2, r2⟩⟩
theorem St.row {x y : World} {g : Nat} {cs : List Value} {u : TypeId} (h : St gn cells t x y) (hr : Row x g cs u) (hne : g ≠ gn) : Row y g cs u := by
  unfold Row
  rw [h.block g hr.lt hne]
  exact hr
theorem St.below {x y : World} {B : Nat} (h : St gn cells t x y) (hB : B ≤ gn) (hs : B ≤ x.heap.size) : Below B x y :=
  ⟨h.os, h.tape, h.output, h.size, fun k hk => h.block k (Nat.lt_of_lt_of_le hk hs) (by omega)⟩
theorem St.of_below {x y : World} (h : Below x.heap.size x y) (hg : gn < x.heap.size) : St gn cells t x y :=
  ⟨h.os, h.tape, h.output, h.size, fun k hk _ => h.block k hk, fun s hr => ⟨s, Nat.le_refl _, hr.below h hg⟩⟩
/-- The row has come to stage k. -/
def stM (gn : Nat) (cells : Nat → List Value) (t : TypeId) (k : Nat) : By.Mark (St gn cells t) := ByN.wo (fun w => ∃ s, k ≤ s ∧ Row w gn (cells s) t) fun x y ⟨s, h1, h2⟩ h => by
  obtain ⟨s', h3, h4⟩ := h.up s h2
  exact ⟨s', Nat.le_trans h1 h3, h4⟩
theorem wp_storeAny {P : Program} {o : Oper} {a : Act} {w : World} {K : Act → World → Prop} {Q : Exit → Act → World → Prop} (ty : TypeId) (x y : Operand) (ho : o.op = .store ty x y)
    {g off : Nat} {v : Value} {cs old : List Value} (hx : a.eval x = .pointer (some ⟨g, off, none⟩)) (hy : a.eval y = v) (hv : v.cells = cs.toArray) {u : TypeId} (h : Row w g old u)
    {n : Nat} (hi : (P.info? ty).map (·.size) = some n) (hn : cs.length = n) (hfit : off + cs.length ≤ old.length) (h1 : ∀ v ∈ cs, v.oneCell' = true)
    (hk : K (a.put o.dst undef) (w.setRow g (splice old off cs).toArray)) : o.wp P a w K Q := by
  have hrun := run_storeCells_at (P := P) g off u cs 0 old.toArray w h (by simpa using hfit) h1
  cases hq : P.info? ty with
  | none => simp [hq] at hi
  | some i =>
    have hs : i.size = cs.length := by simp [hq] at hi; omega
    have hrun2 : (storeVar ty ⟨g, off, none⟩ v).run P w = .ok () (w.setRow g (splice old off cs).toArray) := by
      simp [storeVar, sizeOf, typeInfo, hq, hv, hs, hrun, splice]
    unfold Oper.wp execOp
    simp only [ho, hx, hy, Instr.storeAt, Instr.sureAddr, Sem.run_bind, Sem.run_pure, Result.andThen_ok, hrun2]
    exact hk
theorem St.store {w w' : World} {k s0 : Nat} (upd : List Value → List Value) (h0 : Row w gn (cells s0) t) (hk : k ≤ s0 + 1) (hu : ∀ s, k ≤ s + 1 → upd (cells s) = cells (max s k)) (hw : Row w' gn (upd (cells s0)) t)
    (h1 : w'.os = w.os) (h2 : w'.tape = w.tape) (h3 : w'.output = w.output) (h4 : w.heap.size ≤ w'.heap.size) (h5 : ∀ i, i < w.heap.size → i ≠ gn → w'.heap[i]? = w.heap[i]?) :
    St gn cells t w w' ∧ ∃ s, k ≤ s ∧ Row w' gn (cells s) t := by
  rw [hu s0 hk] at hw
  refine ⟨⟨h1, h2, h3, h4, h5, fun s hs => ?_⟩, max s0 k, Nat.le_max_right _ _, hw⟩
  by_cases hle : s ≤ max s0 k
  · exact ⟨_, hle, hw⟩
  · refine ⟨s, Nat.le_refl _, ?_⟩
    have e : cells s = cells s0 := by
      have e1 : (cells s).toArray = (cells s0).toArray := by
        have := hs.symm.trans h0
        simp only [Option.some.injEq, Obj.cells.injEq] at this
        exact this.1
      exact congrArg Array.toList e1
    have e2 := hu s (by omega)
    rw [e, hu s0 hk, show max s k = s by omega] at e2
    rw [← e2]
    exact hw
/-- A store of the chain. -/
theorem wp_stage {P : Program} {o : Oper} {a : Act} {w : World} {Q : Exit → Act → World → Prop} (k : Nat) (ty : TypeId) (x y : Operand) (ho : o.op = .store ty x y) (_ : o.dst = none)
    {off n : Nat} {v : Value} (cs : List Value) (hx : a.eval x = .pointer (some ⟨gn, off, none⟩)) (hy : a.eval y = v) (hv : v.cells = cs.toArray) (h : ∃ s, k ≤ s + 1 ∧ Row w gn (cells s) t)
    (hi : (P.info? ty).map (·.size) = some n) (hn : cs.length = n) (hfit : ∀ s, off + cs.length ≤ (cells s).length) (h1 : ∀ v ∈ cs, v.oneCell' = true) (hu : ∀ s, k ≤ s + 1 → splice (cells s) off cs = cells (max s k)) :
    o.wp P a w (fun a' w' => ∃ v, a' = a.put o.dst v ∧ St gn cells t w w' ∧ (stM gn cells t k).on (ByN.vo o v) w') Q := by
  obtain ⟨s0, hk, h0⟩ := h
  refine wp_storeAny ty x y ho hx hy hv h0 hi hn (hfit s0) h1 ?_
  obtain ⟨h2, h3⟩ := St.store (fun l => splice l off cs) (w' := w.setRow gn (splice (cells s0) off cs).toArray) h0 hk hu (h0.setRow _) rfl rfl rfl (by simp [World.setRow]) (fun i _ hne => setRow_other w gn i _ hne)
  exact ⟨undef, rfl, h2, h3⟩
end
end Go.Proofs.Ytedmogacklbcmaa.Stg
