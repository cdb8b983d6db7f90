/- Texts that the proofs share: PolyEv. -/
import Derived.Test.YtedmogacklbcmaaGreatDoorS19
import Derived.Test.YtedmogacklbcmaaGreatDoorRows
namespace Go.Proofs.YtedmogacklbcmaaGreatDoor
open Go.RowKit
namespace PolyI
set_option maxRecDepth 100000
abbrev u6 (x : Int) : Value := .int .u64 x
abbrev u8 (x : Int) : Value := .int .u8 x
structure I5 where
 a0 : Int
 a1 : Int
 a2 : Int
 a3 : Int
 a4 : Int
def I5.v (a : I5) : Value := .agg #[u6 a.a0, u6 a.a1, u6 a.a2, u6 a.a3, u6 a.a4]
abbrev low : Int := ((67108863 : Nat) : Int)
abbrev add (x y : Int) : Int := oadd .u64 x y
abbrev mul (x y : Int) : Int := omul .u64 x y
abbrev sub (x y : Int) : Int := osub .u64 x y
abbrev and (x y : Int) : Int := oand .u64 x y
abbrev or (x y : Int) : Int := oor .u64 x y
def plus (a b : I5) : I5 := ⟨add a.a0 b.a0, add a.a1 b.a1, add a.a2 b.a2, add a.a3 b.a3, add a.a4 b.a4⟩
def carryT0 (a : I5) : Int := add a.a0 ((0 : Nat) : Int)
def carryT1 (a : I5) : Int := add a.a1 (oshr (carryT0 a) 26)
def carryT2 (a : I5) : Int := add a.a2 (oshr (carryT1 a) 26)
def carryT3 (a : I5) : Int := add a.a3 (oshr (carryT2 a) 26)
def carryT4 (a : I5) : Int := add a.a4 (oshr (carryT3 a) 26)
def carry (a : I5) : I5 := ⟨and (carryT0 a) low, and (carryT1 a) low, and (carryT2 a) low, and (carryT3 a) low, and (carryT4 a) low⟩
def over (a : I5) : Int := oshr (carryT4 a) 26
def times (a b : I5) : I5 := ⟨(add (mul a.a0 b.a0) (mul ((5 : Nat) : Int) (add (add (add (mul a.a1 b.a4) (mul a.a2 b.a3)) (mul a.a3 b.a2)) (mul a.a4 b.a1)))),
 (add (add (mul a.a0 b.a1) (mul a.a1 b.a0)) (mul ((5 : Nat) : Int) (add (add (mul a.a2 b.a4) (mul a.a3 b.a3)) (mul a.a4 b.a2)))),
 (add (add (add (mul a.a0 b.a2) (mul a.a1 b.a1)) (mul a.a2 b.a0)) (mul ((5 : Nat) : Int) (add (mul a.a3 b.a4) (mul a.a4 b.a3)))),
 (add (add (add (add (mul a.a0 b.a3) (mul a.a1 b.a2)) (mul a.a2 b.a1)) (mul a.a3 b.a0)) (mul ((5 : Nat) : Int) (mul a.a4 b.a4))),
 (add (add (add (add (mul a.a0 b.a4) (mul a.a1 b.a3)) (mul a.a2 b.a2)) (mul a.a3 b.a1)) (mul a.a4 b.a0))⟩
def foldT (a : I5) : Int := add (carry a).a0 (mul ((5 : Nat) : Int) (over a))
def fold (a : I5) : I5 := ⟨and (foldT a) low, add (carry a).a1 (oshr (foldT a) 26), (carry a).a2, (carry a).a3, (carry a).a4⟩
def minusT0 (a : I5) : Int := sub a.a0 (add ((67108859 : Nat) : Int) ((0 : Nat) : Int))
def minusT1 (a : I5) : Int := sub a.a1 (add ((67108863 : Nat) : Int) (oshr (minusT0 a) 63))
def minusT2 (a : I5) : Int := sub a.a2 (add ((67108863 : Nat) : Int) (oshr (minusT1 a) 63))
def minusT3 (a : I5) : Int := sub a.a3 (add ((67108863 : Nat) : Int) (oshr (minusT2 a) 63))
def minusT4 (a : I5) : Int := sub a.a4 (add ((67108863 : Nat) : Int) (oshr (minusT3 a) 63))
def borrow (a : I5) : Int := oshr (minusT4 a) 63
def keep (a : I5) : Int := IntKind.u64.wrap (((0 : Nat) : Int) - borrow a)
def reduce (a : I5) : I5 := let s := fold a; ⟨or (and s.a0 (keep s)) (oandn .u64 (and (minusT0 s) low) (keep s)), or (and s.a1 (keep s)) (oandn .u64 (and (minusT1 s) low) (keep s)), or (and s.a2 (keep s)) (oandn .u64 (and (minusT2 s) low) (keep s)), or (and s.a3 (keep s)) (oandn .u64 (and (minusT3 s) low) (keep s)), or (and s.a4 (keep s)) (oandn .u64 (and (minusT4 s) low) (keep s))⟩
def lowX (a : I5) : Int := or (or a.a0 (oshl .u64 a.a1 26)) (oshl .u64 a.a2 52)
def highX (a : I5) : Int := or (or (oshr a.a2 12) (oshl .u64 a.a3 14)) (oshl .u64 a.a4 40)
def byte (x : Int) (n : Nat) : Int := IntKind.u8.wrap (oshr x n)
def bytes (a : I5) : Value := .agg #[u8 (byte (lowX a) 0), u8 (byte (lowX a) 8), u8 (byte (lowX a) 16), u8 (byte (lowX a) 24), u8 (byte (lowX a) 32), u8 (byte (lowX a) 40), u8 (byte (lowX a) 48), u8 (byte (lowX a) 56), u8 (byte (highX a) 0), u8 (byte (highX a) 8), u8 (byte (highX a) 16), u8 (byte (highX a) 24), u8 (byte (highX a) 32), u8 (byte (highX a) 40), u8 (byte (highX a) 48), u8 (byte (highX a) 56)]
def at_ (l : List Int) (above : Int) (i : Nat) : Int := (l ++ [above]).getD i ((0 : Nat) : Int)
def part (l : List Int) (above : Int) (i k : Nat) : Int := oshl .u64 (IntKind.u64.wrap (at_ l above (i + k))) (8 * k)
def word (l : List Int) (above : Int) (i : Nat) : Int := or (or (or (or (or (or (or (or ((0 : Nat) : Int) (part l above i 0)) (part l above i 1)) (part l above i 2)) (part l above i 3)) (part l above i 4)) (part l above i 5)) (part l above i 6)) (part l above i 7)
def number (l : List Int) (above : Int) : I5 :=
 ⟨and (word l above 0) low, and (oshr (word l above 0) 26) low, and (or (oshr (word l above 0) 52) (oshl .u64 (word l above 8) 12)) low, and (oshr (word l above 8) 14) low,
  or (oshr (word l above 8) 40) (oshl .u64 (IntKind.u64.wrap (at_ l above 16)) 24)⟩
def next (s r : I5) (l : List Int) : I5 := fold (times (plus s (number l ((1 : Nat) : Int))) r)
theorem plus_ev (a b : I5) : Ev.ans Tryz.prog 2000 87 #[a.v, b.v] [] = some (plus a b).v := by kernel_rfl
theorem carry_ev (a : I5) : Ev.ans Tryz.prog 2000 86 #[a.v] [] = some (.tuple #[(carry a).v, u6 (over a)]) := by kernel_rfl
theorem reduce_ev (a : I5) : Ev.ans Tryz.prog 2000 88 #[a.v] [] = some (reduce a).v := by kernel_rfl
theorem bytes_ev (a : I5) : Ev.ans Tryz.prog 2000 89 #[a.v] [] = some (bytes a) := by kernel_rfl
def cells (l : List Int) : List Value := l.map u8
theorem next_ev (s r : I5) : ∀ l : List Int, 0 < l.length → l.length ≤ 16 → Ev.ans Tryz.prog 2000 85 #[s.v, r.v, .slice (some ⟨0, 0, none⟩) l.length l.length] [⟨cells l, 5, 3⟩] = some (next s r l).v
 | [], h, _ => absurd h (by decide)
 | [c0], _, _ => by kernel_rfl
 | [c0, c1], _, _ => by kernel_rfl
 | [c0, c1, c2], _, _ => by kernel_rfl
 | [c0, c1, c2, c3], _, _ => by kernel_rfl
 | [c0, c1, c2, c3, c4], _, _ => by kernel_rfl
 | [c0, c1, c2, c3, c4, c5], _, _ => by kernel_rfl
 | [c0, c1, c2, c3, c4, c5, c6], _, _ => by kernel_rfl
 | [c0, c1, c2, c3, c4, c5, c6, c7], _, _ => by kernel_rfl
 | [c0, c1, c2, c3, c4, c5, c6, c7, c8], _, _ => by kernel_rfl
 | [c0, c1, c2, c3, c4, c5, c6, c7, c8, c9], _, _ => by kernel_rfl
 | [c0, c1, c2, c3, c4, c5, c6, c7, c8, c9, c10], _, _ => by kernel_rfl
 | [c0, c1, c2, c3, c4, c5, c6, c7, c8, c9, c10, c11], _, _ => by kernel_rfl
 | [c0, c1, c2, c3, c4, c5, c6, c7, c8, c9, c10, c11, c12], _, _ => by kernel_rfl
 | [c0, c1, c2, c3, c4, c5, c6, c7, c8, c9, c10, c11, c12, c13], _, _ => by kernel_rfl
 | [c0, c1, c2, c3, c4, c5, c6, c7, c8, c9, c10, c11, c12, c13, c14], _, _ => by kernel_rfl
 | [c0, c1, c2, c3, c4, c5, c6, c7, c8, c9, c10, c11, c12, c13, c14, c15], _, _ => by kernel_rfl
 | c0 :: c1 :: c2 :: c3 :: c4 :: c5 :: c6 :: c7 :: c8 :: c9 :: c10 :: c11 :: c12 :: c13 :: c14 :: c15 :: c16 :: l, _, h => absurd h (by simp)
end PolyI
end Go.Proofs.YtedmogacklbcmaaGreatDoor
