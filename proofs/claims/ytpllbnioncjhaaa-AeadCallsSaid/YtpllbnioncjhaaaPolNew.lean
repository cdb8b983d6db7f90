/- A mac that is made; the bytes of r. -/
import Derived.Test.YtpllbnioncjhaaaPolCalls
namespace Go.Proofs.Ytpllbnioncjhaaa
open Go.RowKit
namespace PolyI
set_option maxRecDepth 100000
abbrev c15 (x : Int) : Int := oand .u8 x ((15 : Nat) : Int)
abbrev c252 (x : Int) : Int := oand .u8 x ((252 : Nat) : Int)
def clamp : List Int → List Int
  | k0 :: k1 :: k2 :: k3 :: k4 :: k5 :: k6 :: k7 :: k8 :: k9 :: k10 :: k11 :: k12 :: k13 :: k14 :: k15 :: _ => [k0, k1, k2, c15 k3, c252 k4, k5, k6, c15 k7, c252 k8, k9, k10, c15 k11, c252 k12, k13, k14, c15 k15]
  | _ => []
def rclamp : List Int → List Int
  | k0 :: k1 :: k2 :: k3 :: k4 :: k5 :: k6 :: k7 :: k8 :: k9 :: k10 :: k11 :: k12 :: k13 :: k14 :: k15 :: _ => [k0, k1, k2, r15 k3, r252 k4, k5, k6, r15 k7, r252 k8, k9, k10, r15 k11, r252 k12, k13, k14, r15 k15]
  | _ => []
where
  r15 (x : Int) : Int := x.tmod 16
  r252 (x : Int) : Int := omul .u8 (IntKind.u8.wrap (x.tdiv 4)) 4
def lcells (a : I5) : List Value := [u6 a.a0, u6 a.a1, u6 a.a2, u6 a.a3, u6 a.a4]
def newCells (key : List Int) : List Value :=
  .bool true :: (lcells (number (clamp key) ((0 : Nat) : Int)) ++ (lcells (number (key.drop 16) ((0 : Nat) : Int)) ++ ([u6 ((0 : Nat) : Int), u6 ((0 : Nat) : Int), u6 ((0 : Nat) : Int), u6 ((0 : Nat) : Int), u6 ((0 : Nat) : Int)] ++ (List.replicate 16 (u8 ((0 : Nat) : Int)) ++ [.int .i64 ((0 : Nat) : Int)]))))
theorem Clamp_ev : ∀ key : List Int, key.length = 32 → Ev.ans Try.prog 1000 15 #[.agg (key.map u8).toArray] [] = some (.agg ((clamp key).map u8).toArray)
  | [_, _, _, _, _, _, _, _, _, _, _, _, _, _, _, _, _, _, _, _, _, _, _, _, _, _, _, _, _, _, _, _], _ => by kernel_rfl
theorem New_ev : ∀ key : List Int, key.length = 32 → Ev.ansBlk Try.prog 2000 32 #[.agg (key.map u8).toArray] [] = some ⟨newCells key, 73, 0⟩
  | [_, _, _, _, _, _, _, _, _, _, _, _, _, _, _, _, _, _, _, _, _, _, _, _, _, _, _, _, _, _, _, _], _ => by kernel_rfl
end PolyI
end Go.Proofs.Ytpllbnioncjhaaa
