/- Texts that the proofs share: ChaWord. -/
import Derived.Test.YtedmogacklbcmaaGreatDoorS19
import Derived.BigQuiet
namespace Go.Proofs.YtedmogacklbcmaaGreatDoor
open Go.RowKit
theorem word_any (b off n c : Nat) (u0 u1 u2 u3 : UInt8) (w : World) (h0 : w.cell? ⟨b, off, none⟩ = some (bv u0)) (h1 : w.cell? ⟨b, off + 1, none⟩ = some (bv u1)) (h2 : w.cell? ⟨b, off + 2, none⟩ = some (bv u2)) (h3 : w.cell? ⟨b, off + 3, none⟩ = some (bv u3)) (hn : 4 ≤ n) :
 Calls Tryz.prog 100 #[.slice (some ⟨b, off, none⟩) n c] w fun e w' => e = .returned (wv (Cha.le4 u0 u1 u2 u3)) ∧ ∃ m, w' = w.drewN m := by
 have hn0 : (0 : Int) < (n : Int) := by omega
 have hn1 : (1 : Int) < (n : Int) := by omega
 have hn2 : (2 : Int) < (n : Int) := by omega
 have hn3 : (3 : Int) < (n : Int) := by omega
 unfold bv at h0 h1 h2 h3
 go_enter Tryz.func100, Tryz.ntmps100
 go_wp2
 go_quiet (fail)
 go_wp2
 go_ret
 refine ⟨?_, _, rfl⟩
 simp only [w_wb, w_shl8, w_shl16, w_shl24, w_or]
 rfl
def qv (q : Cha.Q) : Value := .tuple #[wv q.a, wv q.b, wv q.c, wv q.d]
set_option maxRecDepth 4000 in
theorem half16_any (q : Cha.Q) (w : World) : Calls Tryz.prog 110 #[wv q.a, wv q.b, wv q.c, wv q.d, .int .u64 16, .int .u64 12] w fun e w' => e = .returned (qv (Cha.half q 16 16 12 20)) ∧ w = w' := by
 obtain ⟨a, b, c, d⟩ := q
 go_enter Tryz.func110, Tryz.ntmps110
 go_wp2
 simp only [w_xor, w_add, w_shl16, w_shr16, w_or, w_shl12, w_shr20]
 refine bodyPost_ret (results_tmp4 rfl _ _ _) rfl ?_
 exact ⟨rfl, rfl⟩
set_option maxRecDepth 4000 in
theorem half8_any (q : Cha.Q) (w : World) : Calls Tryz.prog 110 #[wv q.a, wv q.b, wv q.c, wv q.d, .int .u64 8, .int .u64 7] w fun e w' => e = .returned (qv (Cha.half q 8 24 7 25)) ∧ w = w' := by
 obtain ⟨a, b, c, d⟩ := q
 go_enter Tryz.func110, Tryz.ntmps110
 go_wp2
 simp only [w_xor, w_add, w_shl8, w_shr24, w_or, w_shl7, w_shr25]
 refine bodyPost_ret (results_tmp4 rfl _ _ _) rfl ?_
 exact ⟨rfl, rfl⟩
theorem Quarter_any (q : Cha.Q) (w : World) : Calls Tryz.prog 101 #[wv q.a, wv q.b, wv q.c, wv q.d] w fun e w' => e = .returned (qv (Cha.quarter q)) ∧ w = w' := by
 go_enter Tryz.func101, Tryz.ntmps101
 go_wp2_with fail
 refine (half16_any _ _).mono ?_
 rintro e w' ⟨rfl, rfl⟩
 unfold qv
 go_wp2_with fail
 refine (half8_any _ _).mono ?_
 rintro e w' ⟨rfl, rfl⟩
 unfold qv
 go_wp2
 refine bodyPost_ret (results_tmp4 rfl _ _ _) rfl ?_
 exact ⟨rfl, rfl⟩
end Go.Proofs.YtedmogacklbcmaaGreatDoor
