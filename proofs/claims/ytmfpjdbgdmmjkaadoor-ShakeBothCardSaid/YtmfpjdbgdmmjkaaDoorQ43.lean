/- Texts that the proofs share: EqKit. -/
import Derived.Test.YtmfpjdbgdmmjkaaDoorQ16
import Derived.Test.YtmfpjdbgdmmjkaaDoorQ25
namespace Go.Proofs.YtmfpjdbgdmmjkaaDoor
open Go.RowKit
section
variable {P : Program}
theorem wp_neqArr {o : Oper} {a : Act} {w : World} {K : Act → World → Prop} {Q : Exit → Act → World → Prop} {t t2 : TypeId} {xs ys : Array Value} {r : Bool} (x y : Operand) (ho : o.op = .binOp .neq t x y t2) (hg : P.eqGuardType P.depth t = false)
    (hx : a.eval x = .agg xs) (hy : a.eval y = .agg ys) (h : (Op.equal t (.agg xs) (.agg ys)).run P w = .ok r w) (hk : K (a.put o.dst (.bool (!r))) w) : o.wp P a w K Q := by
  have hr := run_eqArr (P := P) .neq true (.inr ⟨rfl, rfl⟩) (x := x) (y := y) w hg h
  rw [Bool.xor_true] at hr
  unfold Oper.wp execOp
  simp only [ho, hx, hy]
  rw [Sem.run_bind, hr]
  exact hk
end
theorem eq16 (x y : List UInt8) (hx : x.length = 16) (hy : y.length = 16) (w : World) : (Op.equal 38 (arr8 x) (arr8 y)).run Tryd.prog w = .ok (decide (x = y)) w :=
  run_eql_arr8 (P := Tryd.prog) Tryd.underlying38 Tryd.underlying5 (by kernel_rfl) x y hx hy w
theorem guard16 (op : BinOp) (hop : op = .eql ∨ op = .neq) (x y : Operand) (xs ys : Array Value) (w : World) : (eqGuard op 38 x y (.agg xs) (.agg ys)).run Tryd.prog w = .ok () w := by
  have hg : Tryd.prog.eqGuardType Tryd.prog.depth 38 = false := by kernel_rfl
  rcases hop with rfl | rfl <;> simp [eqGuard, Sem.run_bind, hg]
theorem eql16 (a b : List UInt8) (ha : a.length = 16) (hb : b.length = 16) (w : World) : (binOp .eql 38 (arr8 a) (arr8 b)).run Tryd.prog w = .ok (.bool (decide (a = b))) w := by
  have h := eq16 a b ha hb w
  unfold arr8 at h ⊢
  simp [binOp, Sem.run_bind, h]
theorem neq16 (a b : List UInt8) (ha : a.length = 16) (hb : b.length = 16) (w : World) : (binOp .neq 38 (arr8 a) (arr8 b)).run Tryd.prog w = .ok (.bool (!decide (a = b))) w := by
  have h := eq16 a b ha hb w
  unfold arr8 at h ⊢
  simp [binOp, Sem.run_bind, h]
end Go.Proofs.YtmfpjdbgdmmjkaaDoor
