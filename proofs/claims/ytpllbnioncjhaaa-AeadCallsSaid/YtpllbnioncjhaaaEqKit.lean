/- Arrays of sixteen bytes, compared. -/
import Derived.Test.YtpllbnioncjhaaaEqArr
import Derived.Test.YtpllbnioncjhaaaPolBase
namespace Go.Proofs.Ytpllbnioncjhaaa
open Go.RowKit
section
variable {P : Program}
theorem wp_neqArr {o : Oper} {a : Act} {w : World} {K : Act → World → Prop} {Q : Exit → Act → World → Prop} {t t2 : TypeId} {xs ys : Array Value} {r : Bool} (x y : Operand) (ho : o.op = .binOp .neq t x y t2) (hg : P.eqGuardType P.depth t = false)
    (hx : a.eval x = .agg xs) (hy : a.eval y = .agg ys) (h : (Op.equal t (.agg xs) (.agg ys)).run P w = .ok r w) (hk : K (a.put o.dst (.bool (!r))) w) : o.wp P a w K Q := by
  have hr := run_eqArr (P := P) .neq true (.inr ⟨rfl, rfl⟩) (x := x) (y := y) w hg h
  rw [Bool.xor_true] at hr
  unfold Oper.wp execOp
  simp only [ho, hx, hy]
  rw [Sem.run_bind, hr]
  exact hk
end
theorem eq16 (x y : List UInt8) (hx : x.length = 16) (hy : y.length = 16) (w : World) : (Op.equal 35 (arr8 x) (arr8 y)).run Try.prog w = .ok (decide (x = y)) w :=
  run_eql_arr8 (P := Try.prog) Try.underlying35 Try.underlying5 (by kernel_rfl) x y hx hy w
theorem guard16 (op : BinOp) (hop : op = .eql ∨ op = .neq) (x y : Operand) (xs ys : Array Value) (w : World) : (eqGuard op 35 x y (.agg xs) (.agg ys)).run Try.prog w = .ok () w := by
  have hg : Try.prog.eqGuardType Try.prog.depth 35 = false := by kernel_rfl
  rcases hop with rfl | rfl <;> simp [eqGuard, Sem.run_bind, hg]
theorem eql16 (a b : List UInt8) (ha : a.length = 16) (hb : b.length = 16) (w : World) : (binOp .eql 35 (arr8 a) (arr8 b)).run Try.prog w = .ok (.bool (decide (a = b))) w := by
  have h := eq16 a b ha hb w
  unfold arr8 at h ⊢
  simp [binOp, Sem.run_bind, h]
theorem neq16 (a b : List UInt8) (ha : a.length = 16) (hb : b.length = 16) (w : World) : (binOp .neq 35 (arr8 a) (arr8 b)).run Try.prog w = .ok (.bool (!decide (a = b))) w := by
  have h := eq16 a b ha hb w
  unfold arr8 at h ⊢
  simp [binOp, Sem.run_bind, h]
end Go.Proofs.Ytpllbnioncjhaaa
