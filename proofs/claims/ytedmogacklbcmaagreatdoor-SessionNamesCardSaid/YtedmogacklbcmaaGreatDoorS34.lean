/- Texts that the proofs share: SubRow, Stage, AeadExtra. -/
import Derived.Test.YtedmogacklbcmaaGreatDoorS12
import Derived.Test.YtedmogacklbcmaaGreatDoorS16
import Derived.Test.YtedmogacklbcmaaGreatDoorS17
import Derived.Test.YtedmogacklbcmaaGreatDoorS19
import Derived.Test.YtedmogacklbcmaaGreatDoorS26
import Derived.ProofKit
import Derived.Below
import Derived.Laws.CopyOwn
import Derived.Test.YtedmogacklbcmaaGreatDoorRows
namespace Go.Proofs.YtedmogacklbcmaaGreatDoor.Pol
open Go.RowKit
theorem own : ownKnob Tryz.prog.godebug = none := by kernel_rfl
set_option maxRecDepth 100000 in
theorem mixed : Tryz.prog.follows .mixedOrders = true := by kernel_rfl
theorem laid : laidOutB Tryz.prog = true := by kernel_rfl
end Go.Proofs.YtedmogacklbcmaaGreatDoor.Pol
namespace Go.Proofs.YtedmogacklbcmaaGreatDoor
open Go.RowKit
namespace Pol
theorem flat_args {β : Ev.Pl} {l : List Value} (h : l.all Ev.flat = true) : Ev.VL β l l := .of_flat (List.all_eq_true.1 h)
section
variable {P : Program}
theorem run_loadVar_sub (w : World) {g off n : Nat} {t ty : TypeId} {cs : List Value} {d : TypeDesc} (h : Row w g cs t) (hu : P.underlying ty = some d) (hd : (match d with | .struct _ | .array _ _ => true | _ => false) = true)
 (hi : (P.info? ty).map (·.size) = some n) (hn : off + n ≤ cs.length) : (loadVar ty ⟨g, off, none⟩).run P w = .ok (.agg ((cs.drop off).take n).toArray) w := by
 have hlen : ((cs.drop off).take n).length = n := by rw [List.length_take, List.length_drop]; omega
 have hl : (loadCells ⟨g, off, none⟩ ((cs.drop off).take n).length).run P w = .ok ((cs.drop off).take n).toArray w :=
  run_loadCells_list (P := P) w ⟨g, off, none⟩ ((cs.drop off).take n) (fun j v hv => by
   have hadd : (⟨g, off, none⟩ : Addr).add j = ⟨g, off + j, none⟩ := by unfold Addr.add; split <;> simp_all
   rw [List.getElem?_take] at hv
   split at hv
   · rw [List.getElem?_drop] at hv
     rw [hadd]
     exact h.cell hv
   · cases hv)
 rw [hlen] at hl
 cases hq : P.info? ty with
 | none => simp [hq] at hi
 | some i =>
   have hs : i.size = n := by simpa [hq] using hi
   have hagg : (isAgg ty).run P w = .ok true w := by
    unfold isAgg
    rw [Sem.run_bind, run_underlying hu w]
    cases d <;> simp_all
   simp [loadVar, Sem.run_bind, hagg, sizeOf, typeInfo, hq, hs, hl]
theorem wp_loadSub {o : Oper} {a : Act} {w : World} {K : Act → World → Prop} {Q : Exit → Act → World → Prop} (ty : TypeId) (x : Operand) (ho : o.op = .load ty x)
 {g off n : Nat} (hx : a.eval x = .pointer (some ⟨g, off, none⟩)) {t : TypeId} {cs : List Value} {d : TypeDesc} (h : Row w g cs t) (hu : P.underlying ty = some d) (hd : (match d with | .struct _ | .array _ _ => true | _ => false) = true)
 (hi : (P.info? ty).map (·.size) = some n) (hn : off + n ≤ cs.length) (hk : K (a.put o.dst (.agg ((cs.drop off).take n).toArray)) w) : o.wp P a w K Q := by
 unfold Oper.wp execOp
 simp only [ho, hx, Instr.loadAt, Instr.sureAddr, Sem.run_bind, Sem.run_pure, Result.andThen_ok, run_loadVar_sub w h hu hd hi hn]
 exact hk
theorem wpList_loadSub {ops : Array Oper} {rest : List Oper} {o : Oper} {a : Act} {w : World} {Q : Exit → Act → World → Prop} (hgd : o.guard = none) (ty : TypeId) (x : Operand) (ho : o.op = .load ty x)
 {g off n : Nat} (hx : a.eval x = .pointer (some ⟨g, off, none⟩)) {t : TypeId} {cs : List Value} {d : TypeDesc} (h : Row w g cs t) (hu : P.underlying ty = some d) (hd : (match d with | .struct _ | .array _ _ => true | _ => false) = true)
 (hi : (P.info? ty).map (·.size) = some n) (hn : off + n ≤ cs.length) (hk : wpList P ops Q rest (a.put o.dst (.agg ((cs.drop off).take n).toArray)) w) : wpList P ops Q (o :: rest) a w :=
 wpList_plain hgd fun _ hK => wp_loadSub ty x ho hx h hu hd hi hn (hK _ _ hk)
end
section
variable {P : Program}
theorem wpList_storeSub {ops : Array Oper} {rest : List Oper} {o : Oper} {a : Act} {w : World} {Q : Exit → Act → World → Prop} (hgd : o.guard = none) (ty : TypeId) (x y : Operand) (ho : o.op = .store ty x y)
 {g off : Nat} {cs old : List Value} (hx : a.eval x = .pointer (some ⟨g, off, none⟩)) (hy : a.eval y = .agg cs.toArray) {t : TypeId} (h : Row w g old t)
 {n : Nat} (hi : (P.info? ty).map (·.size) = some n) (hn : cs.length = n) (hfit : off + cs.length ≤ old.length) (h1 : ∀ v ∈ cs, v.oneCell' = true)
 (hk : wpList P ops Q rest (a.put o.dst undef) (w.setRow g (splice old off cs).toArray)) : wpList P ops Q (o :: rest) a w := by
 refine wpList_plain hgd fun K hK => ?_
 have hrun := run_storeCells_at (P := P) g off t cs 0 old.toArray w h (by simpa using hfit) h1
 cases hq : P.info? ty with
 | none => simp [hq] at hi
 | some i =>
   have hs : i.size = cs.length := by simp [hq] at hi; omega
   have hrun2 : (storeVar ty ⟨g, off, none⟩ (.agg cs.toArray)).run P w = .ok () (w.setRow g (splice old off cs).toArray) := by
    simp [storeVar, sizeOf, typeInfo, hq, Value.cells, hs, hrun, splice]
   unfold Oper.wp execOp
   simp only [ho, hx, hy, Instr.storeAt, Instr.sureAddr, Sem.run_bind, Sem.run_pure, Result.andThen_ok, hrun2]
   exact hK _ _ hk
end
end Pol
end Go.Proofs.YtedmogacklbcmaaGreatDoor
namespace Go.Proofs.YtedmogacklbcmaaGreatDoor.Stg
open Go.RowKit
structure St (gn : Nat) (cells : Nat → List Value) (t : TypeId) (x y : World) : Prop where
 os : y.os = x.os
 tape : y.tape = x.tape
 output : y.output = x.output
 size : x.heap.size ≤ y.heap.size
 block : ∀ k, k < x.heap.size → k ≠ gn → y.heap[k]? = x.heap[k]?
 up : ∀ s, Row x gn (cells s) t → ∃ s', s ≤ s' ∧ Row y gn (cells s') t
section
variable {gn : Nat} {cells : Nat → List Value} {t : TypeId}
theorem St.refl (x : World) : St gn cells t x x := ⟨rfl, rfl, rfl, Nat.le_refl _, fun _ _ _ => rfl, fun s h => ⟨s, Nat.le_refl _, h⟩⟩
theorem St.trans (x y z : World) (h : St gn cells t x y) (k : St gn cells t y z) : St gn cells t x z :=
 ⟨k.os.trans h.os, k.tape.trans h.tape, k.output.trans h.output, Nat.le_trans h.size k.size, fun i hi hne => (k.block i (Nat.lt_of_lt_of_le hi h.size) hne).trans (h.block i hi hne), fun s hs => by
  obtain ⟨s1, h1, r1⟩ := h.up s hs
  obtain ⟨s2, h2, r2⟩ := k.up s1 r1
  exact ⟨s2, Nat.le_trans h1 h2, r2⟩⟩
theorem St.row {x y : World} {g : Nat} {cs : List Value} {u : TypeId} (h : St gn cells t x y) (hr : Row x g cs u) (hne : g ≠ gn) : Row y g cs u := by
 unfold Row
 rw [h.block g hr.lt hne]
 exact hr
theorem St.below {x y : World} {B : Nat} (h : St gn cells t x y) (hB : B ≤ gn) (hs : B ≤ x.heap.size) : Below B x y :=
 ⟨h.os, h.tape, h.output, h.size, fun k hk => h.block k (Nat.lt_of_lt_of_le hk hs) (by omega)⟩
def stM (gn : Nat) (cells : Nat → List Value) (t : TypeId) (k : Nat) : By.Mark (St gn cells t) := ByN.wo (fun w => ∃ s, k ≤ s ∧ Row w gn (cells s) t) fun x y ⟨s, h1, h2⟩ h => by
 obtain ⟨s', h3, h4⟩ := h.up s h2
 exact ⟨s', Nat.le_trans h1 h3, h4⟩
theorem wp_storeAny {P : Program} {o : Oper} {a : Act} {w : World} {K : Act → World → Prop} {Q : Exit → Act → World → Prop} (ty : TypeId) (x y : Operand) (ho : o.op = .store ty x y)
 {g off : Nat} {v : Value} {cs old : List Value} (hx : a.eval x = .pointer (some ⟨g, off, none⟩)) (hy : a.eval y = v) (hv : v.cells = cs.toArray) {u : TypeId} (h : Row w g old u)
 {n : Nat} (hi : (P.info? ty).map (·.size) = some n) (hn : cs.length = n) (hfit : off + cs.length ≤ old.length) (h1 : ∀ v ∈ cs, v.oneCell' = true)
 (hk : K (a.put o.dst undef) (w.setRow g (splice old off cs).toArray)) : o.wp P a w K Q := by
 have hrun := run_storeCells_at (P := P) g off u cs 0 old.toArray w h (by simpa using hfit) h1
 cases hq : P.info? ty with
 | none => simp [hq] at hi
 | some i =>
   have hs : i.size = cs.length := by simp [hq] at hi; omega
   have hrun2 : (storeVar ty ⟨g, off, none⟩ v).run P w = .ok () (w.setRow g (splice old off cs).toArray) := by
    simp [storeVar, sizeOf, typeInfo, hq, hv, hs, hrun, splice]
   unfold Oper.wp execOp
   simp only [ho, hx, hy, Instr.storeAt, Instr.sureAddr, Sem.run_bind, Sem.run_pure, Result.andThen_ok, hrun2]
   exact hk
theorem St.store {w w' : World} {k s0 : Nat} (upd : List Value → List Value) (h0 : Row w gn (cells s0) t) (hk : k ≤ s0 + 1) (hu : ∀ s, k ≤ s + 1 → upd (cells s) = cells (max s k)) (hw : Row w' gn (upd (cells s0)) t)
 (h1 : w'.os = w.os) (h2 : w'.tape = w.tape) (h3 : w'.output = w.output) (h4 : w.heap.size ≤ w'.heap.size) (h5 : ∀ i, i < w.heap.size → i ≠ gn → w'.heap[i]? = w.heap[i]?) :
 St gn cells t w w' ∧ ∃ s, k ≤ s ∧ Row w' gn (cells s) t := by
 rw [hu s0 hk] at hw
 refine ⟨⟨h1, h2, h3, h4, h5, fun s hs => ?_⟩, max s0 k, Nat.le_max_right _ _, hw⟩
 by_cases hle : s ≤ max s0 k
 · exact ⟨_, hle, hw⟩
 · refine ⟨s, Nat.le_refl _, ?_⟩
   have e : cells s = cells s0 := by
    have e1 : (cells s).toArray = (cells s0).toArray := by
     have := hs.symm.trans h0
     simp only [Option.some.injEq, Obj.cells.injEq] at this
     exact this.1
    exact congrArg Array.toList e1
   have e2 := hu s (by omega)
   rw [e, hu s0 hk, show max s k = s by omega] at e2
   rw [← e2]
   exact hw
theorem wp_stage {P : Program} {o : Oper} {a : Act} {w : World} {Q : Exit → Act → World → Prop} (k : Nat) (ty : TypeId) (x y : Operand) (ho : o.op = .store ty x y) (_ : o.dst = none)
 {off n : Nat} {v : Value} (cs : List Value) (hx : a.eval x = .pointer (some ⟨gn, off, none⟩)) (hy : a.eval y = v) (hv : v.cells = cs.toArray) (h : ∃ s, k ≤ s + 1 ∧ Row w gn (cells s) t)
 (hi : (P.info? ty).map (·.size) = some n) (hn : cs.length = n) (hfit : ∀ s, off + cs.length ≤ (cells s).length) (h1 : ∀ v ∈ cs, v.oneCell' = true) (hu : ∀ s, k ≤ s + 1 → splice (cells s) off cs = cells (max s k)) :
 o.wp P a w (fun a' w' => ∃ v, a' = a.put o.dst v ∧ St gn cells t w w' ∧ (stM gn cells t k).on (ByN.vo o v) w') Q := by
 obtain ⟨s0, hk, h0⟩ := h
 refine wp_storeAny ty x y ho hx hy hv h0 hi hn (hfit s0) h1 ?_
 obtain ⟨h2, h3⟩ := St.store (fun l => splice l off cs) (w' := w.setRow gn (splice (cells s0) off cs).toArray) h0 hk hu (h0.setRow _) rfl rfl rfl (by simp [World.setRow]) (fun i _ hne => setRow_other w gn i _ hne)
 exact ⟨undef, rfl, h2, h3⟩
end
end Go.Proofs.YtedmogacklbcmaaGreatDoor.Stg
namespace Go.Proofs.YtedmogacklbcmaaGreatDoor
open Go.RowKit
namespace Aead
open Pol (own mixed laid)
theorem Extra_ev : Ev.ans Tryz.prog 1000 79 #[] [] = some (.int .i64 16) := by kernel_rfl
theorem Extra_any (w : World) : Calls Tryz.prog 79 #[] w fun e w' => e = .returned (.int .i64 16) ∧ Below w.heap.size w w' :=
 Ev.calls_ans (l := []) mixed (by decide) (by simp) (by simp) (Pol.flat_args rfl) Extra_ev rfl
end Aead
end Go.Proofs.YtedmogacklbcmaaGreatDoor
