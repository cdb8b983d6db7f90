/- A quarter round undone; the reference's quarter round and words. -/
import Derived.Test.YtpllbnioncjhaaaChaWord
namespace Go.Proofs.Ytpllbnioncjhaaa
open Go.RowKit

namespace Cha
theorem rotl_rotl (x : BitVec 32) (n m : Nat) (h : n + m = 32) : (rotl x n m) >>> n ||| (rotl x n m) <<< m = x := by
  apply BitVec.eq_of_getLsbD_eq
  intro i hi
  simp only [rotl, BitVec.getLsbD_or, BitVec.getLsbD_ushiftRight, BitVec.getLsbD_shiftLeft]
  by_cases h1 : i < m
  · have e1 : n + i < 32 := by omega
    have e2 : ¬ n + i < n := by omega
    have e3 : n + i - n = i := by omega
    have e4 : x.getLsbD (m + (n + i)) = false := BitVec.getLsbD_of_ge _ _ (by omega)
    simp [h1, e1, e2, e3, e4]
  · have e1 : ¬ n + i < 32 := by omega
    have e4 : x.getLsbD (m + (n + i)) = false := BitVec.getLsbD_of_ge _ _ (by omega)
    have e5 : i - m < 32 := by omega
    have e6 : i - m < n := by omega
    have e7 : m + (i - m) = i := by omega
    simp [h1, hi, e1, e4, e5, e6, e7]
def unhalf (q : Q) (n1 m1 n2 m2 : Nat) : Q :=
  let b := (q.b >>> n2 ||| q.b <<< m2) ^^^ q.c
  let c := q.c - q.d
  let d := (q.d >>> n1 ||| q.d <<< m1) ^^^ q.a
  let a := q.a - b
  ⟨a, b, c, d⟩
theorem unhalf_half (q : Q) (n1 m1 n2 m2 : Nat) (h1 : n1 + m1 = 32) (h2 : n2 + m2 = 32) : unhalf (half q n1 m1 n2 m2) n1 m1 n2 m2 = q := by
  obtain ⟨a, b, c, d⟩ := q
  simp only [half, unhalf, rotl_rotl _ _ _ h1, rotl_rotl _ _ _ h2, Q.mk.injEq]
  have x1 : ∀ u v : BitVec 32, u ^^^ v ^^^ v = u := fun u v => by rw [BitVec.xor_assoc, BitVec.xor_self, BitVec.xor_zero]
  have x2 : ∀ u v : BitVec 32, u + v - v = u := fun u v => BitVec.add_sub_cancel u v
  simp only [x1, x2, and_self]
def undo (q : Q) : Q := unhalf (unhalf q 8 24 7 25) 16 16 12 20
theorem undo_quarter (q : Q) : undo (quarter q) = q := by
  unfold undo quarter
  rw [unhalf_half _ _ _ _ _ rfl rfl, unhalf_half _ _ _ _ _ rfl rfl]
end Cha

theorem turn_any (x : BitVec 32) (n m : Nat) (hn : n + m = 32) (w : World) : Calls Try.prog 65 #[wv x, .int .u64 (n : Int)] w fun e w' => e = .returned (wv (Cha.rotl x n m)) ∧ w = w' := by
  have e1 : (x.toNat : Int) * 2 ^ n % 4294967296 = ((x <<< n).toNat : Int) := by rw [← w_shl x n, Int.natCast_pow]; rfl
  have e2 : (x.toNat : Int) / 2 ^ (32 - n) = ((x >>> m).toNat : Int) := by rw [show 32 - n = m by omega, ← w_shr x m, Int.natCast_pow]; rfl
  have E1 := Lib.hid e1
  have E2 := Lib.hid e2
  clear e1 e2
  go_enter Try.func65, Try.ntmps65
  go_wp2
  rw [E1.out, E2.out, w_or]
  go_ret
  exact ⟨rfl, rfl⟩

set_option maxRecDepth 4000 in
theorem Undo_any (q : Cha.Q) (w : World) : Calls Try.prog 8 #[wv q.a, wv q.b, wv q.c, wv q.d] w fun e w' => e = .returned (qv (Cha.undo q)) ∧ w = w' := by
  obtain ⟨a, b, c, d⟩ := q
  go_enter Try.func8, Try.ntmps8
  go_wp2
  simp only [w_xor, w_sub, w_shr7, w_shl25, w_shr12, w_shl20, w_shr8, w_shl24, w_or, w_shr16, w_shl16]
  refine bodyPost_ret (results_tmp4 rfl _ _ _) rfl ?_
  exact ⟨rfl, rfl⟩

set_option maxHeartbeats 1000000 in
theorem Rword_any (b off n c : Nat) (u0 u1 u2 u3 : UInt8) (w : World) (h0 : w.cell? ⟨b, off, none⟩ = some (bv u0)) (h1 : w.cell? ⟨b, off + 1, none⟩ = some (bv u1)) (h2 : w.cell? ⟨b, off + 2, none⟩ = some (bv u2)) (h3 : w.cell? ⟨b, off + 3, none⟩ = some (bv u3)) (hn : 4 ≤ n) :
    Calls Try.prog 63 #[.slice (some ⟨b, off, none⟩) n c] w fun e w' => e = .returned (wv (Cha.le4 u0 u1 u2 u3)) ∧ ∃ m, w' = w.drewN m := by
  have hn0 : (0 : Int) < (n : Int) := by omega
  have hn1 : (1 : Int) < (n : Int) := by omega
  have hn2 : (2 : Int) < (n : Int) := by omega
  have hn3 : (3 : Int) < (n : Int) := by omega
  unfold bv at h0 h1 h2 h3
  go_enter Try.func63, Try.ntmps63
  go_wp2
  go_quiet (fail)
  go_wp2
  go_ret
  have e : ((((u0.toNat : Int) + (u1.toNat : Int) % 4294967296 * 256 + (u2.toNat : Int) % 4294967296 * 65536) % 4294967296 + (u3.toNat : Int) % 4294967296 * 16777216 % 4294967296) % 4294967296) = ((Cha.le4 u0 u1 u2 u3).toNat : Int) := by
    rw [← Cha.le4_add]
    have l0 := u0.toNat_lt
    have l1 := u1.toNat_lt
    have l2 := u2.toNat_lt
    have l3 := u3.toNat_lt
    simp only [BitVec.toNat_add, BitVec.toNat_shiftLeft, Nat.shiftLeft_eq, wb, BitVec.toNat_ofNat]
    omega
  exact ⟨congrArg (fun n => Ending.returned (Value.int .u32 n)) e, _, rfl⟩
end Go.Proofs.Ytpllbnioncjhaaa
