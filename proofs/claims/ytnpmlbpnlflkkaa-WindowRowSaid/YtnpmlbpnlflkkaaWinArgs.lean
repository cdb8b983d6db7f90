/- A struct of four uint64, out of an argument. -/
import Derived.Test.YtnpmlbpnlflkkaaCells
namespace Go.Proofs.Ytnpmlbpnlflkkaa
open Go.RowKit Go.WideShapes
section
variable {P : Program} {W : World} {base : Nat}
theorem quad64_at {t e : TypeId} {fs : Array Field} {v : Value} (hu : P.underlying t = some (.struct fs)) (hc : P.cellTypes P.depth t = some [e, e, e, e]) (hn : P.cellsOf t = 4) (he : P.underlying e = some (.int .u64)) (hv : Value.okWide P W .any base t v) :
    ∃ a b c d : Nat, v = .agg #[.int .u64 (a : Int), .int .u64 (b : Int), .int .u64 (c : Int), .int .u64 (d : Int)] ∧ a < 2 ^ 64 ∧ b < 2 ^ 64 ∧ c < 2 ^ 64 ∧ d < 2 ^ 64 := by
  obtain ⟨cs, rfl, hl, hcs⟩ := cells_at hu rfl hc hn hv
  have hl4 : cs.length = 4 := hl
  match cs, hl4 with
  | [x, y, z, u], _ =>
    obtain ⟨a, rfl, ha⟩ := cell_u64 he (hcs 0 e x rfl rfl)
    obtain ⟨b, rfl, hb⟩ := cell_u64 he (hcs 1 e y rfl rfl)
    obtain ⟨c, rfl, hc'⟩ := cell_u64 he (hcs 2 e z rfl rfl)
    obtain ⟨d, rfl, hd⟩ := cell_u64 he (hcs 3 e u rfl rfl)
    exact ⟨a, b, c, d, rfl, ha, hb, hc', hd⟩
end
end Go.Proofs.Ytnpmlbpnlflkkaa
