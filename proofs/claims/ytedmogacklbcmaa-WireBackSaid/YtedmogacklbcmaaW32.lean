/- Words of 32 bits: what the model's operations on 'uint32' come to, as operations on BitVec 32. -/
import Derived.Test.YtedmogacklbcmaaKitBase
namespace Go.Proofs.Ytedmogacklbcmaa
open Go.RowKit

/-- A word as the model has it. -/
abbrev wv (x : BitVec 32) : Value := .int .u32 (x.toNat : Int)

theorem wrap_u32_lt (n : Nat) (h : n < 4294967296) : IntKind.u32.wrap (n : Int) = (n : Int) := by
  simp only [IntKind.wrap, IntKind.bits, IntKind.signed]
  simp
  omega

theorem w_or (x y : BitVec 32) : bits .or .u32 (x.toNat : Int) (y.toNat : Int) = ((x ||| y).toNat : Int) := by
  show IntKind.u32.wrap ((BitVec.ofInt 32 (x.toNat : Int) ||| BitVec.ofInt 32 (y.toNat : Int)).toNat : Int) = _
  simp only [BitVec.ofInt_natCast, BitVec.ofNat_toNat, BitVec.setWidth_eq]
  exact wrap_u32_lt _ (x ||| y).isLt
theorem w_xor (x y : BitVec 32) : bits .xor .u32 (x.toNat : Int) (y.toNat : Int) = ((x ^^^ y).toNat : Int) := by
  show IntKind.u32.wrap ((BitVec.ofInt 32 (x.toNat : Int) ^^^ BitVec.ofInt 32 (y.toNat : Int)).toNat : Int) = _
  simp only [BitVec.ofInt_natCast, BitVec.ofNat_toNat, BitVec.setWidth_eq]
  exact wrap_u32_lt _ (x ^^^ y).isLt
theorem w_and (x y : BitVec 32) : bits .and .u32 (x.toNat : Int) (y.toNat : Int) = ((x &&& y).toNat : Int) := by
  show IntKind.u32.wrap ((BitVec.ofInt 32 (x.toNat : Int) &&& BitVec.ofInt 32 (y.toNat : Int)).toNat : Int) = _
  simp only [BitVec.ofInt_natCast, BitVec.ofNat_toNat, BitVec.setWidth_eq]
  exact wrap_u32_lt _ (x &&& y).isLt
theorem w_add (x y : BitVec 32) : ((x.toNat : Int) + (y.toNat : Int)) % (4294967296 : Int) = ((x + y).toNat : Int) := by
  rw [BitVec.toNat_add]
  omega
theorem w_sub (x y : BitVec 32) : ((x.toNat : Int) - (y.toNat : Int)) % (4294967296 : Int) = ((x - y).toNat : Int) := by
  rw [BitVec.toNat_sub]
  have := x.isLt
  have := y.isLt
  omega
theorem w_shl (x : BitVec 32) (n : Nat) : ((x.toNat : Int) * ((2 ^ n : Nat) : Int)) % (4294967296 : Int) = ((x <<< n).toNat : Int) := by
  rw [BitVec.toNat_shiftLeft, Nat.shiftLeft_eq]
  omega
theorem w_shr (x : BitVec 32) (n : Nat) : (x.toNat : Int) / ((2 ^ n : Nat) : Int) = ((x >>> n).toNat : Int) := by
  rw [BitVec.toNat_ushiftRight, Nat.shiftRight_eq_div_pow]
  omega
theorem w_beq (x y : BitVec 32) : ((x.toNat : Int) == (y.toNat : Int)) = decide (x = y) := by
  rw [Bool.eq_iff_iff]
  simp [← BitVec.toNat_inj]
  omega
theorem w_shl1 (x : BitVec 32) : (x.toNat : Int) * (2 : Int) % (4294967296 : Int) = ((x <<< 1).toNat : Int) := w_shl x 1
theorem w_shl7 (x : BitVec 32) : (x.toNat : Int) * (128 : Int) % (4294967296 : Int) = ((x <<< 7).toNat : Int) := w_shl x 7
theorem w_shl8 (x : BitVec 32) : (x.toNat : Int) * (256 : Int) % (4294967296 : Int) = ((x <<< 8).toNat : Int) := w_shl x 8
theorem w_shl12 (x : BitVec 32) : (x.toNat : Int) * (4096 : Int) % (4294967296 : Int) = ((x <<< 12).toNat : Int) := w_shl x 12
theorem w_shl16 (x : BitVec 32) : (x.toNat : Int) * (65536 : Int) % (4294967296 : Int) = ((x <<< 16).toNat : Int) := w_shl x 16
theorem w_shl20 (x : BitVec 32) : (x.toNat : Int) * (1048576 : Int) % (4294967296 : Int) = ((x <<< 20).toNat : Int) := w_shl x 20
theorem w_shl24 (x : BitVec 32) : (x.toNat : Int) * (16777216 : Int) % (4294967296 : Int) = ((x <<< 24).toNat : Int) := w_shl x 24
theorem w_shl25 (x : BitVec 32) : (x.toNat : Int) * (33554432 : Int) % (4294967296 : Int) = ((x <<< 25).toNat : Int) := w_shl x 25
theorem w_shr1 (x : BitVec 32) : (x.toNat : Int) / (2 : Int) = ((x >>> 1).toNat : Int) := w_shr x 1
theorem w_shr7 (x : BitVec 32) : (x.toNat : Int) / (128 : Int) = ((x >>> 7).toNat : Int) := w_shr x 7
theorem w_shr8 (x : BitVec 32) : (x.toNat : Int) / (256 : Int) = ((x >>> 8).toNat : Int) := w_shr x 8
theorem w_shr12 (x : BitVec 32) : (x.toNat : Int) / (4096 : Int) = ((x >>> 12).toNat : Int) := w_shr x 12
theorem w_shr16 (x : BitVec 32) : (x.toNat : Int) / (65536 : Int) = ((x >>> 16).toNat : Int) := w_shr x 16
theorem w_shr20 (x : BitVec 32) : (x.toNat : Int) / (1048576 : Int) = ((x >>> 20).toNat : Int) := w_shr x 20
theorem w_shr24 (x : BitVec 32) : (x.toNat : Int) / (16777216 : Int) = ((x >>> 24).toNat : Int) := w_shr x 24
theorem w_shr25 (x : BitVec 32) : (x.toNat : Int) / (33554432 : Int) = ((x >>> 25).toNat : Int) := w_shr x 25
/-- A byte as a word. -/
def wb (u : UInt8) : BitVec 32 := BitVec.ofNat 32 u.toNat
theorem w_byte (u : UInt8) : (u.toNat : Int) = ((wb u).toNat : Int) := by
  have := u.toNat_lt
  simp only [wb, BitVec.toNat_ofNat]
  omega
theorem w_wb (c : UInt8) : (c.toNat : Int) % 4294967296 = ((wb c).toNat : Int) := by
  have := c.toNat_lt
  simp only [wb, BitVec.toNat_ofNat]
  omega
theorem results_tmp4 {fn : Func} {t u v x : Tmp} (h : fn.results = #[.tmp t, .tmp u, .tmp v, .tmp x]) (tmps : Array Value) (P : Program) (w : World) :
    (results fn tmps).run P w = .ok (.tuple #[tmps.getD t undef, tmps.getD u undef, tmps.getD v undef, tmps.getD x undef]) w := by
  simp [results, h]
end Go.Proofs.Ytedmogacklbcmaa
