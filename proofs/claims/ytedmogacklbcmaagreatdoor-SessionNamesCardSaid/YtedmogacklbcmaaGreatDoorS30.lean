/- Texts that the proofs share: ChaRound. -/
import Derived.Test.YtedmogacklbcmaaGreatDoorS23
import Derived.Test.YtedmogacklbcmaaGreatDoorS29
namespace Go.Proofs.YtedmogacklbcmaaGreatDoor
open Go.RowKit
theorem list16 {α : Type} (s : List α) (h : s.length = 16) : ∃ a0 a1 a2 a3 a4 a5 a6 a7 a8 a9 a10 a11 a12 a13 a14 a15, s = [a0, a1, a2, a3, a4, a5, a6, a7, a8, a9, a10, a11, a12, a13, a14, a15] := by
 match s, h with
 | [a0, a1, a2, a3, a4, a5, a6, a7, a8, a9, a10, a11, a12, a13, a14, a15], _ => exact ⟨_, _, _, _, _, _, _, _, _, _, _, _, _, _, _, _, rfl⟩
set_option maxRecDepth 8000 in
set_option maxHeartbeats 4000000 in
theorem Round_any (s : List (BitVec 32)) (hs : s.length = 16) (w : World) : Calls Tryz.prog 81 #[arr32 s] w fun e w' => e = .returned (arr32 (Cha.round s)) ∧ Below w.heap.size w w' := by
 obtain ⟨a0, a1, a2, a3, a4, a5, a6, a7, a8, a9, a10, a11, a12, a13, a14, a15, rfl⟩ := list16 s hs
 clear hs
 go_enter Tryz.func81, Tryz.ntmps81
 simp only [arr32, List.map_cons, List.map_nil]
 go_wp2_with fail
 refine (Quarter_any ⟨a0, a4, a8, a12⟩ _).mono ?_
 rintro e w' ⟨rfl, rfl⟩
 obtain ⟨q0, hq0⟩ : ∃ q, Cha.quarter ⟨a0, a4, a8, a12⟩ = q := ⟨_, rfl⟩
 rw [hq0]
 have Hq0 := Lib.hid hq0
 clear hq0
 unfold qv
 go_wp2_with fail
 refine (Quarter_any ⟨a1, a5, a9, a13⟩ _).mono ?_
 rintro e w' ⟨rfl, rfl⟩
 obtain ⟨q1, hq1⟩ : ∃ q, Cha.quarter ⟨a1, a5, a9, a13⟩ = q := ⟨_, rfl⟩
 rw [hq1]
 have Hq1 := Lib.hid hq1
 clear hq1
 unfold qv
 go_wp2_with fail
 refine (Quarter_any ⟨a2, a6, a10, a14⟩ _).mono ?_
 rintro e w' ⟨rfl, rfl⟩
 obtain ⟨q2, hq2⟩ : ∃ q, Cha.quarter ⟨a2, a6, a10, a14⟩ = q := ⟨_, rfl⟩
 rw [hq2]
 have Hq2 := Lib.hid hq2
 clear hq2
 unfold qv
 go_wp2_with fail
 refine (Quarter_any ⟨a3, a7, a11, a15⟩ _).mono ?_
 rintro e w' ⟨rfl, rfl⟩
 obtain ⟨q3, hq3⟩ : ∃ q, Cha.quarter ⟨a3, a7, a11, a15⟩ = q := ⟨_, rfl⟩
 rw [hq3]
 have Hq3 := Lib.hid hq3
 clear hq3
 unfold qv
 go_wp2_with fail
 refine (Quarter_any ⟨q0.a, q1.b, q2.c, q3.d⟩ _).mono ?_
 rintro e w' ⟨rfl, rfl⟩
 obtain ⟨q4, hq4⟩ : ∃ q, Cha.quarter ⟨q0.a, q1.b, q2.c, q3.d⟩ = q := ⟨_, rfl⟩
 rw [hq4]
 have Hq4 := Lib.hid hq4
 clear hq4
 unfold qv
 go_wp2_with fail
 refine (Quarter_any ⟨q1.a, q2.b, q3.c, q0.d⟩ _).mono ?_
 rintro e w' ⟨rfl, rfl⟩
 obtain ⟨q5, hq5⟩ : ∃ q, Cha.quarter ⟨q1.a, q2.b, q3.c, q0.d⟩ = q := ⟨_, rfl⟩
 rw [hq5]
 have Hq5 := Lib.hid hq5
 clear hq5
 unfold qv
 go_wp2_with fail
 refine (Quarter_any ⟨q2.a, q3.b, q0.c, q1.d⟩ _).mono ?_
 rintro e w' ⟨rfl, rfl⟩
 obtain ⟨q6, hq6⟩ : ∃ q, Cha.quarter ⟨q2.a, q3.b, q0.c, q1.d⟩ = q := ⟨_, rfl⟩
 rw [hq6]
 have Hq6 := Lib.hid hq6
 clear hq6
 unfold qv
 go_wp2_with fail
 refine (Quarter_any ⟨q3.a, q0.b, q1.c, q2.d⟩ _).mono ?_
 rintro e w' ⟨rfl, rfl⟩
 obtain ⟨q7, hq7⟩ : ∃ q, Cha.quarter ⟨q3.a, q0.b, q1.c, q2.d⟩ = q := ⟨_, rfl⟩
 rw [hq7]
 have Hq7 := Lib.hid hq7
 clear hq7
 unfold qv
 go_wp2
 have hr : Cha.round [a0, a1, a2, a3, a4, a5, a6, a7, a8, a9, a10, a11, a12, a13, a14, a15] = [q4.a, q5.a, q6.a, q7.a, q7.b, q4.b, q5.b, q6.b, q6.c, q7.c, q4.c, q5.c, q5.d, q6.d, q7.d, q4.d] := by
  simp only [Cha.round, Cha.table, List.foldl_cons, List.foldl_nil, Cha.qr, Cha.at_, List.getD_cons_zero, List.getD_cons_succ, List.set_cons_zero, List.set_cons_succ, Hq0.out, Hq1.out, Hq2.out, Hq3.out, Hq4.out, Hq5.out, Hq6.out, Hq7.out]
 rw [hr]
 refine bodyPost_ret (results_cell_row rfl _ _ (w.heap.size + 1) 147 _ (0, 0) _ rfl (heap_alloc2_new w _ _) Tryz.underlying147 rfl (by kernel_rfl)) rfl ?_
 exact ⟨rfl, ((Below.refl _ w).alloc (Nat.le_refl _) _).alloc (by simp) _⟩
end Go.Proofs.YtedmogacklbcmaaGreatDoor
