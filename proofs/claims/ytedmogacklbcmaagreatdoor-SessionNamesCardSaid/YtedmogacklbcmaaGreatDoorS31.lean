/- Texts that the proofs share: LeaNonce. -/
import Derived.Test.YtedmogacklbcmaaGreatDoorS00
import Derived.Test.YtedmogacklbcmaaGreatDoorS19
import Derived.Test.YtedmogacklbcmaaGreatDoorS29
namespace Go.Proofs.YtedmogacklbcmaaGreatDoor.Lea
open Go.RowKit
abbrev u1 (x : Int) : Value := .int .u8 x
def nonceI (e n : Int) : List Int := [IntKind.u8.wrap (oshr e 24), IntKind.u8.wrap (oshr e 16), IntKind.u8.wrap (oshr e 8), IntKind.u8.wrap (oshr e 0), IntKind.u8.wrap (oshr n 56), IntKind.u8.wrap (oshr n 48), IntKind.u8.wrap (oshr n 40), IntKind.u8.wrap (oshr n 32), IntKind.u8.wrap (oshr n 24), IntKind.u8.wrap (oshr n 16), IntKind.u8.wrap (oshr n 8), IntKind.u8.wrap (oshr n 0)]
set_option maxRecDepth 100000 in
theorem Nonce_ev (e n : Int) : Ev.ans Tryz.prog 1000 48 #[.int .u32 e, .int .u64 n] [] = some (.agg ((nonceI e n).map u1).toArray) := by kernel_rfl
theorem byte_ev (x k : Nat) : u1 (IntKind.u8.wrap (oshr (x : Int) k)) = bv (UInt8.ofNat (x / 2 ^ k % 256)) := by
 rw [oshr_nat, IntKind.wrap_u8']
 unfold bv
 simp [UInt8.toNat_ofNat']
def nonce (e n : Nat) : List UInt8 := Oct.bytesBE 4 e ++ Oct.bytesBE 8 n
theorem nonce_length (e n : Nat) : (nonce e n).length = 12 := by simp [nonce, Oct.bytesBE_length]
theorem nonce_ev (e n : Nat) : (nonceI e n).map u1 = (nonce e n).map bv := by
 simp only [nonceI, List.map_cons, List.map_nil, byte_ev, nonce, Oct.bytesBE, Nat.div_div_eq_div_mul, List.nil_append, List.cons_append]
 simp only [Nat.reducePow, Nat.reduceMul, Nat.div_one]
theorem flat_args {l : List Value} (h : (l.all Ev.flat) = true) : Ev.VL (Ev.pl []) l l := Ev.VL.of_flat (List.all_eq_true.1 h)
theorem flat2_bv (l : List UInt8) : Ev.flat2 (.agg (l.map bv).toArray) = true := by
 simp only [Ev.flat2, Ev.flat, List.all_eq_true]
 intro v hv
 simp at hv
 obtain ⟨u, _, rfl⟩ := hv
 rfl
theorem Nonce_any (e n : Nat) (w : World) : Calls Tryz.prog 48 #[.int .u32 (e : Int), .int .u64 (n : Int)] w fun r w' => r = .returned (arr8 (nonce e n)) ∧ Below w.heap.size w w' := by
 have h := Nonce_ev (e : Int) (n : Int)
 rw [nonce_ev] at h
 exact Ev.calls_ans (l := []) (show Tryz.prog.follows .mixedOrders = true by kernel_rfl) (by decide) (by simp) (by simp) (flat_args rfl) h (flat2_bv _)
end Go.Proofs.YtedmogacklbcmaaGreatDoor.Lea
