/- Texts that the proofs share: LeaNonce, ShkNum, ShkRBig. -/
import Derived.Test.YtbdpnpabpcidkaaDoorU00
import Derived.Test.YtbdpnpabpcidkaaDoorU17
import Derived.Test.YtbdpnpabpcidkaaDoorU19
import Derived.Test.YtbdpnpabpcidkaaDoorU30
import Derived.Test.YtbdpnpabpcidkaaDoorU31
namespace Go.Proofs.YtbdpnpabpcidkaaDoor.Lea
open Go.RowKit
abbrev u1 (x : Int) : Value := .int .u8 x
theorem byte_ev (x k : Nat) : u1 (IntKind.u8.wrap (oshr (x : Int) k)) = bv (UInt8.ofNat (x / 2 ^ k % 256)) := by
 rw [oshr_nat, IntKind.wrap_u8']
 unfold bv
 simp [UInt8.toNat_ofNat']
theorem flat_args {l : List Value} (h : (l.all Ev.flat) = true) : Ev.VL (Ev.pl []) l l := Ev.VL.of_flat (List.all_eq_true.1 h)
end Go.Proofs.YtbdpnpabpcidkaaDoor.Lea
namespace Go.Proofs.YtbdpnpabpcidkaaDoor.Shk
open Go.RowKit
open Lea (u1)
def u8n (x : Int) : Value := .int .u8 x
def nums (l : List UInt8) : List Int := l.map fun u => (u.toNat : Int)
theorem cells_nums (l : List UInt8) : (nums l).map u8n = l.map bv := by simp [u8n, nums, bv]
theorem wrap8 (n : Nat) (h : n < 256) : IntKind.u8.wrap ((n : Nat) : Int) = ((n : Nat) : Int) := IntWalk.u8_in _ (by omega)
def eqAcc : List Int → List Int → Int → Int
 | x :: xs, y :: ys, acc => eqAcc xs ys (oor .u8 acc (oxor .u8 x y))
 | _, _, acc => acc
theorem or_is (a b : UInt8) : oor .u8 (a.toNat : Int) (b.toNat : Int) = ((a ||| b).toNat : Int) := by
 show IntKind.u8.wrap ((BitVec.ofInt 8 (a.toNat : Int) ||| BitVec.ofInt 8 (b.toNat : Int)).toNat : Int) = _
 have h := (a ||| b).toNat_lt
 simp only [BitVec.ofInt_natCast, BitVec.toNat_or, BitVec.toNat_ofNat]
 rw [Nat.mod_eq_of_lt a.toNat_lt, Nat.mod_eq_of_lt b.toNat_lt, ← UInt8.toNat_or]
 exact wrap8 _ h
theorem xor_is (a b : UInt8) : oxor .u8 (a.toNat : Int) (b.toNat : Int) = ((a ^^^ b).toNat : Int) := by
 show IntKind.u8.wrap ((BitVec.ofInt 8 (a.toNat : Int) ^^^ BitVec.ofInt 8 (b.toNat : Int)).toNat : Int) = _
 have h := (a ^^^ b).toNat_lt
 simp only [BitVec.ofInt_natCast, BitVec.toNat_xor, BitVec.toNat_ofNat]
 rw [Nat.mod_eq_of_lt a.toNat_lt, Nat.mod_eq_of_lt b.toNat_lt, ← UInt8.toNat_xor]
 exact wrap8 _ h
theorem or_zero (a b : UInt8) : (a ||| b) = 0 ↔ a = 0 ∧ b = 0 := by
 constructor
 · intro h
   have h' : (a.toBitVec ||| b.toBitVec) = 0#8 := congrArg UInt8.toBitVec h
   rw [BitVec.or_eq_zero_iff] at h'
   exact ⟨UInt8.toBitVec_inj.1 h'.1, UInt8.toBitVec_inj.1 h'.2⟩
 · rintro ⟨rfl, rfl⟩
   rfl
theorem xor_zero (a b : UInt8) : (a ^^^ b) = 0 ↔ a = b := by
 constructor
 · intro h
   have h2 : (a ^^^ b) ^^^ b = 0 ^^^ b := by rw [h]
   rw [UInt8.xor_assoc, UInt8.xor_self, UInt8.xor_zero, UInt8.zero_xor] at h2
   exact h2
 · rintro rfl
   exact UInt8.xor_self
def accB : List UInt8 → List UInt8 → UInt8 → UInt8
 | x :: xs, y :: ys, acc => accB xs ys (acc ||| (x ^^^ y))
 | _, _, acc => acc
theorem eqAcc_is : ∀ (a b : List UInt8) (acc : UInt8), eqAcc (nums a) (nums b) (acc.toNat : Int) = ((accB a b acc).toNat : Int)
 | [], _, _ => rfl
 | _ :: _, [], _ => rfl
 | x :: xs, y :: ys, acc => by
   show eqAcc (nums xs) (nums ys) (oor .u8 (acc.toNat : Int) (oxor .u8 (x.toNat : Int) (y.toNat : Int))) = _
   rw [xor_is, or_is]
   exact eqAcc_is xs ys _
theorem accB_zero : ∀ (a b : List UInt8) (acc : UInt8), a.length = b.length → (accB a b acc = 0 ↔ acc = 0 ∧ a = b)
 | [], [], acc, _ => by simp [accB]
 | [], _ :: _, _, h => by simp at h
 | _ :: _, [], _, h => by simp at h
 | x :: xs, y :: ys, acc, h => by
   show accB xs ys _ = 0 ↔ _
   rw [accB_zero xs ys _ (by simpa using h), or_zero, xor_zero, List.cons.injEq, and_assoc]
theorem equal_is {a b : List UInt8} (ha : a.length = 16) (hb : b.length = 16) : (eqAcc (nums a) (nums b) ((0 : Nat) : Int) == ((0 : Nat) : Int)) = decide (a = b) := by
 have h := eqAcc_is a b 0
 rw [show ((0 : UInt8).toNat : Int) = ((0 : Nat) : Int) from rfl] at h
 rw [h, Bool.eq_iff_iff]
 simp only [beq_iff_eq, decide_eq_true_eq, Int.natCast_inj]
 have h2 := accB_zero a b 0 (by omega)
 rw [← UInt8.toNat_inj] at h2
 rw [show (0 : UInt8).toNat = 0 from rfl] at h2
 rw [h2]
 simp
def I4 (x : Int) : List Int := [IntKind.u8.wrap (oshr x 24), IntKind.u8.wrap (oshr x 16), IntKind.u8.wrap (oshr x 8), IntKind.u8.wrap (oshr x 0)]
def I8 (n : Int) : List Int := [IntKind.u8.wrap (oshr n 56), IntKind.u8.wrap (oshr n 48), IntKind.u8.wrap (oshr n 40), IntKind.u8.wrap (oshr n 32), IntKind.u8.wrap (oshr n 24), IntKind.u8.wrap (oshr n 16), IntKind.u8.wrap (oshr n 8), IntKind.u8.wrap (oshr n 0)]
set_option maxRecDepth 100000 in
theorem num4_ev (x : Int) : Ev.ansSl Tryd.prog 4000 85 #[.int .u32 x] [] = some ((I4 x).map u1) := by kernel_rfl
set_option maxRecDepth 100000 in
theorem num8_ev (x : Int) : Ev.ansSl Tryd.prog 4000 66 #[.int .u64 x] [] = some ((I8 x).map u1) := by kernel_rfl
theorem I4_is (x : Nat) : (I4 (x : Int)).map u1 = (Oct.bytesBE 4 x).map bv := by
 simp only [I4, List.map_cons, List.map_nil, Lea.byte_ev, Oct.bytesBE, Nat.div_div_eq_div_mul, List.nil_append, List.cons_append]
 simp only [Nat.reducePow, Nat.reduceMul, Nat.div_one]
theorem I8_is (x : Nat) : (I8 (x : Int)).map u1 = (Oct.bytesBE 8 x).map bv := by
 simp only [I8, List.map_cons, List.map_nil, Lea.byte_ev, Oct.bytesBE, Nat.div_div_eq_div_mul, List.nil_append, List.cons_append]
 simp only [Nat.reducePow, Nat.reduceMul, Nat.div_one]
theorem num4_any (x : Nat) (w : World) : Calls Tryd.prog 85 #[.int .u32 (x : Int)] w fun e w' => ∃ v, e = .returned v ∧ Bs w' w'.heap.size v (Oct.bytesBE 4 x) ∧ Below w.heap.size w w' :=
 Ev.calls_bs (l := []) (show Tryd.prog.follows .mixedOrders = true by kernel_rfl) (by decide) (by simp) (by simp) (Lea.flat_args rfl) (num4_ev (x : Int)) _ (I4_is x)
theorem num8_any (x : Nat) (w : World) : Calls Tryd.prog 66 #[.int .u64 (x : Int)] w fun e w' => ∃ v, e = .returned v ∧ Bs w' w'.heap.size v (Oct.bytesBE 8 x) ∧ Below w.heap.size w w' :=
 Ev.calls_bs (l := []) (show Tryd.prog.follows .mixedOrders = true by kernel_rfl) (by decide) (by simp) (by simp) (Lea.flat_args rfl) (num8_ev (x : Int)) _ (I8_is x)
theorem flat_arr (l : List UInt8) : Ev.flat (arr8 l) = true := by
 simp only [arr8, Ev.flat, List.all_eq_true]
 intro v hv
 simp at hv
 obtain ⟨u, _, rfl⟩ := hv
 rfl
theorem isSame_ev : ∀ a b : List Int, a.length = 16 → b.length = 16 → Ev.ans Tryd.prog 2000 86 #[.agg (a.map u8n).toArray, .agg (b.map u8n).toArray] [] = some (.bool (eqAcc a b ((0 : Nat) : Int) == ((0 : Nat) : Int)))
 | [_, _, _, _, _, _, _, _, _, _, _, _, _, _, _, _], [_, _, _, _, _, _, _, _, _, _, _, _, _, _, _, _], _, _ => by kernel_rfl
theorem isSame_any {a b : List UInt8} (ha : a.length = 16) (hb : b.length = 16) (w : World) : Calls Tryd.prog 86 #[arr8 a, arr8 b] w fun e w' => e = .returned (.bool (decide (a = b))) ∧ Below w.heap.size w w' := by
 have h := isSame_ev (nums a) (nums b) (by simp [nums, ha]) (by simp [nums, hb])
 rw [show (nums a).map u8n = a.map bv from cells_nums a, show (nums b).map u8n = b.map bv from cells_nums b, equal_is ha hb] at h
 exact Ev.calls_ans (l := []) (show Tryd.prog.follows .mixedOrders = true by kernel_rfl) (by decide) (by simp) (by simp) (Lea.flat_args (by simp only [List.all_cons, List.all_nil, flat_arr, Bool.and_self])) h rfl
end Go.Proofs.YtbdpnpabpcidkaaDoor.Shk
namespace Go.Proofs.YtbdpnpabpcidkaaDoor.Shk
open Go.RowKit
open Lea (u1)
set_option maxRecDepth 100000 in
theorem big4_ev (x : Int) : Ev.ansSl Tryd.prog 6000 68 #[.int .u64 x, .int .i64 4] [] = some ((I4 x).map u1) := by kernel_rfl
set_option maxRecDepth 100000 in
theorem big8_ev (x : Int) : Ev.ansSl Tryd.prog 6000 68 #[.int .u64 x, .int .i64 8] [] = some ((I8 x).map u1) := by kernel_rfl
theorem big4_any (x : Nat) (w : World) : Calls Tryd.prog 68 #[.int .u64 (x : Int), .int .i64 4] w fun e w' => ∃ v, e = .returned v ∧ Bs w' w'.heap.size v (Oct.bytesBE 4 x) ∧ Below w.heap.size w w' :=
 Ev.calls_bs (l := []) (show Tryd.prog.follows .mixedOrders = true by kernel_rfl) (by decide) (by simp) (by simp) (Lea.flat_args rfl) (big4_ev (x : Int)) _ (I4_is x)
theorem big8_any (x : Nat) (w : World) : Calls Tryd.prog 68 #[.int .u64 (x : Int), .int .i64 8] w fun e w' => ∃ v, e = .returned v ∧ Bs w' w'.heap.size v (Oct.bytesBE 8 x) ∧ Below w.heap.size w w' :=
 Ev.calls_bs (l := []) (show Tryd.prog.follows .mixedOrders = true by kernel_rfl) (by decide) (by simp) (by simp) (Lea.flat_args rfl) (big8_ev (x : Int)) _ (I8_is x)
end Go.Proofs.YtbdpnpabpcidkaaDoor.Shk
