/- Texts that the proofs share: ShkKit. -/
import Derived.Test.YtedmogacklbcmaaGreatDoorS22
import Derived.Test.YtedmogacklbcmaaGreatDoorS37
import Derived.Test.YtedmogacklbcmaaGreatDoorS40
import Derived.Test.YtedmogacklbcmaaGreatDoorS41
namespace Go.Proofs.YtedmogacklbcmaaGreatDoor.Shk
open Go.RowKit
def SStop (p : Prop) : Prop := p
theorem sstop {p : Prop} (h : SStop p) : p := h
def FullL (w : World) (v : Value) (ls : List (List UInt8)) : Prop := ∃ g vs, v = .slice (some ⟨g, 0, none⟩) vs.length vs.length ∧ vs ≠ [] ∧ g < w.heap.size ∧ (∀ (i : Nat) (u : Value), vs[i]? = some u → w.cell? ⟨g, i, none⟩ = some u) ∧ Reads w w.heap.size vs ls
theorem FullL.below {w w' : World} {v : Value} {ls : List (List UInt8)} (h : FullL w v ls) (hb : Below w.heap.size w w') : FullL w' v ls := by
 obtain ⟨g, vs, h1, h2, h3, h4, h5⟩ := h
 exact ⟨g, vs, h1, h2, Nat.lt_of_lt_of_le h3 hb.size, fun i u hu => (hb.cell (p := ⟨g, i, none⟩) h3).trans (h4 i u hu), (h5.below hb).more hb.size⟩
def bsM (l : List UInt8) : By.Mark Grew := ⟨fun v w => Bs w w.heap.size v l, fun _ _ _ h k => (h.below k).more k.size⟩
theorem wp_conv {o : Oper} {a : Act} {w : World} {K : Act → World → Prop} {Q : Exit → Act → World → Prop} (s t : TypeId) (x : Operand) (ho : o.op = .convert s t x) {v v' : Value} {w' : World} (hx : a.eval x = v) (hr : (convert s t v).run Tryz.prog w = .ok v' w')
 (h : K (a.put o.dst v') w') : o.wp Tryz.prog a w K Q := by
 unfold Oper.wp execOp
 simp only [ho, Sem.run_bind, Sem.run_pure, Result.andThen_ok, hx, hr]
 exact h
theorem wp_ld {P : Program} {o : Oper} {a : Act} {w : World} {K : Act → World → Prop} {Q : Exit → Act → World → Prop} (ty : TypeId) (x : Operand) (ho : o.op = .load ty x) {ad : Addr} {v : Value} (hx : a.eval x = .pointer (some ad)) (hrun : (loadVar ty ad).run P w = .ok v w)
 (h : K (a.put o.dst v) w) : o.wp P a w K Q := by
 unfold Oper.wp execOp
 simp only [ho, hx, Instr.loadAt, Instr.sureAddr, Sem.run_bind, Sem.run_pure, Result.andThen_ok, hrun]
 exact h
theorem grew_below {w x : World} (h : Grew w.drew x) : Below w.heap.size w x := ⟨h.os, h.tape, h.output, h.size, h.block⟩
end Go.Proofs.YtedmogacklbcmaaGreatDoor.Shk
