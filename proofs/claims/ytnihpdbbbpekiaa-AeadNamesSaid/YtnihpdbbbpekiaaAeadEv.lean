/- Sealing: the functions without memory of others. -/
import Derived.Test.YtnihpdbbbpekiaaPolKey
import Derived.Test.YtnihpdbbbpekiaaChaStream
namespace Go.Proofs.Ytnihpdbbbpekiaa
open Go.RowKit
namespace Aead
set_option maxRecDepth 100000
def eqAcc : List Int → List Int → Int → Int
  | x :: xs, y :: ys, acc => eqAcc xs ys (oor .u8 acc (oxor .u8 x y))
  | _, _, acc => acc
theorem Equal_ev : ∀ a b : List Int, a.length = 16 → b.length = 16 → Ev.ans Try.prog 2000 32 #[.agg (a.map PolyI.u8).toArray, .agg (b.map PolyI.u8).toArray] [] = some (.bool (eqAcc a b ((0 : Nat) : Int) == ((0 : Nat) : Int)))
  | [_, _, _, _, _, _, _, _, _, _, _, _, _, _, _, _], [_, _, _, _, _, _, _, _, _, _, _, _, _, _, _, _], _, _ => by kernel_rfl
def byteI (x : Int) (n : Nat) : Value := PolyI.u8 (IntKind.u8.wrap (oshr (IntKind.u64.wrap x) n))
def eight (x : Int) : List Value := [byteI x 0, byteI x 8, byteI x 16, byteI x 24, byteI x 32, byteI x 40, byteI x 48, byteI x 56]
theorem lengths_ev (a c : Int) : Ev.ans Try.prog 4000 65 #[.int .i64 a, .int .i64 c] [] = some (.agg (eight a ++ eight c).toArray) := by kernel_rfl
theorem Extra_ev : Ev.ans Try.prog 1000 39 #[] [] = some (.int .i64 16) := by kernel_rfl
end Aead
end Go.Proofs.Ytnihpdbbbpekiaa
