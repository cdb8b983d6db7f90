/- Texts that the proofs share: OctPure. -/
import Derived.Lib.BitFns
import Derived.Lib.ItoaNum
namespace Go.Proofs.YtbdpnpabpcidkaaDoor
namespace Oct
def be (l : List UInt8) : Nat := l.foldl (fun x b => x * 256 + b.toNat) 0
def bytesBE : Nat → Nat → List UInt8
 | 0, _ => []
 | k + 1, x => bytesBE k (x / 256) ++ [UInt8.ofNat (x % 256)]
theorem bytesBE_length (k : Nat) : ∀ x, (bytesBE k x).length = k := by
 induction k with
 | zero => intro x; rfl
 | succ k ih => intro x; simp [bytesBE, ih]
def nsize (x : Nat) : Nat := (Lib.bitLen x + 7) / 8
def enc (x : Nat) : List UInt8 := UInt8.ofNat (nsize x) :: bytesBE (nsize x) x
end Oct
end Go.Proofs.YtbdpnpabpcidkaaDoor
