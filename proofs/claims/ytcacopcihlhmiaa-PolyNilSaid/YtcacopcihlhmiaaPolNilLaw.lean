/- A mac that is nil returns ErrNil, or nothing: 'drawbridgelaw03.PolyNil', for every argument. -/
import Derived.Test.YtcacopcihlhmiaaPolLives
import Derived.Test.YtcacopcihlhmiaaLaw
namespace Go.Proofs.Ytcacopcihlhmiaa.polyNil
open Go.ChangeShapes Go.WideShapes Go.ChangeAt Go.RowKit
open Pol (own mixed laid)
theorem Write_nil (v : Value) (w : World) : Calls Try.prog 27 #[.pointer none, v] w fun e w' => e = .returned (.int .i64 1) ∧ w = w' := by
  go_enter Try.func27, Try.ntmps27
  go_wp2_with (go_at_call 45; refine (Pol.valid_nil _).mono ?_; rintro e w' ⟨rfl, rfl⟩)
  go_ret
  exact ⟨rfl, rfl⟩
theorem Size_nil (w : World) : Calls Try.prog 31 #[.pointer none] w fun e w' => e = .returned (.int .i64 0) ∧ w = w' := by
  go_enter Try.func31, Try.ntmps31
  go_wp2_with (go_at_call 45; refine (Pol.valid_nil _).mono ?_; rintro e w' ⟨rfl, rfl⟩)
  go_ret
  exact ⟨rfl, rfl⟩
theorem MTag_nil_ev : Ev.ans Try.prog 2000 30 #[.pointer none] [] = some (arr8 (List.replicate 16 0)) := by kernel_rfl
theorem MTag_nil (w : World) : Calls Try.prog 30 #[.pointer none] w fun e w' => e = .returned (arr8 (List.replicate 16 0)) ∧ Below w.heap.size w w' :=
  Ev.calls_ans (l := []) mixed (by decide) (by simp) (by simp) (Pol.flat_args rfl) MTag_nil_ev rfl
theorem guard_eq (x y : Operand) (xs ys : Array Value) (w : World) : (eqGuard .eql 46 x y (.agg xs) (.agg ys)).run Try.prog w = .ok () w := by
  have hg : Try.prog.eqGuardType Try.prog.depth 46 = false := by kernel_rfl
  simp [eqGuard, Sem.run_bind, hg]
theorem bin_eq (w : World) : (binOp .eql 46 (arr8 [0, 0, 0, 0, 0, 0, 0, 0, 0, 0, 0, 0, 0, 0, 0, 0]) (.agg #[Value.int .u8 0, Value.int .u8 0, Value.int .u8 0, Value.int .u8 0, Value.int .u8 0, Value.int .u8 0, Value.int .u8 0, Value.int .u8 0, Value.int .u8 0, Value.int .u8 0, Value.int .u8 0, Value.int .u8 0, Value.int .u8 0, Value.int .u8 0, Value.int .u8 0, Value.int .u8 0])).run Try.prog w = .ok (.bool true) w := by
  have h := run_eql_arr8 (P := Try.prog) Try.underlying46 Try.underlying5 (by kernel_rfl) [0, 0, 0, 0, 0, 0, 0, 0, 0, 0, 0, 0, 0, 0, 0, 0] [0, 0, 0, 0, 0, 0, 0, 0, 0, 0, 0, 0, 0, 0, 0, 0] rfl rfl w
  have e : (arr8 [0, 0, 0, 0, 0, 0, 0, 0, 0, 0, 0, 0, 0, 0, 0, 0]) = .agg #[Value.int .u8 0, Value.int .u8 0, Value.int .u8 0, Value.int .u8 0, Value.int .u8 0, Value.int .u8 0, Value.int .u8 0, Value.int .u8 0, Value.int .u8 0, Value.int .u8 0, Value.int .u8 0, Value.int .u8 0, Value.int .u8 0, Value.int .u8 0, Value.int .u8 0, Value.int .u8 0] := rfl
  rw [e] at h ⊢
  simp [binOp, Sem.run_bind, h]

set_option maxHeartbeats 1000000 in
theorem walk (v : Value) (w : World) : Calls Try.prog 8 #[v] w fun e w' => e = .returned (.bool true) ∧ Below w.heap.size w w' := by
  have hq1 : ∀ w', (eqGuard .eql 46 (.tmp 17) (.tmp 18) (arr8 [0, 0, 0, 0, 0, 0, 0, 0, 0, 0, 0, 0, 0, 0, 0, 0]) (.agg #[Value.int .u8 0, Value.int .u8 0, Value.int .u8 0, Value.int .u8 0, Value.int .u8 0, Value.int .u8 0, Value.int .u8 0, Value.int .u8 0, Value.int .u8 0, Value.int .u8 0, Value.int .u8 0, Value.int .u8 0, Value.int .u8 0, Value.int .u8 0, Value.int .u8 0, Value.int .u8 0])).run Try.prog w' = .ok () w' := fun w' => guard_eq _ _ _ _ w'
  have hq2 := bin_eq
  go_enter Try.func8, Try.ntmps8
  go_wp2_with (first
    | (go_at_call 28; refine (Pol.lives_any _).mono ?_; rintro e w1 ⟨rfl, hb1⟩; have Hb1 := Lib.hid hb1; clear hb1)
    | (go_at_call 27; refine (Write_nil _ _).mono ?_; rintro e w' ⟨rfl, rfl⟩)
    | (go_at_call 31; refine (Size_nil _).mono ?_; rintro e w' ⟨rfl, rfl⟩)
    | (go_at_call 30; refine (MTag_nil _).mono ?_; rintro e w2 ⟨rfl, hb2⟩; have Hb2 := Lib.hid (nextB Hb1.out (Nat.le_refl _) hb2); clear hb2)
    | fail)
  go_ret
  exact ⟨by simp, Hb2.out⟩

set_option maxRecDepth 100000 in
theorem lift (os : Os) (started : os.Started) (H : Type) (enc : TypeId × Value → H) :
    ReturnsInHanded {} Try.checked os 8 .any (Rows.polyNilSpec.pre6 enc Try.prog Try.f8 Rows.polyNilRow.domain false) (Rows.polyNilSpec.post enc Try.prog Try.f8 false true false false) := by
  refine Law.lifted (C := Try.checked) 4 own started (by kernel_rfl) Try.func8 laid (by kernel_rfl) rfl Try.underlying4 rfl
    (fun ds hd => by
      have hd' : ds.length = 1 := hd
      match ds, hd' with
      | [d], _ => rfl)
    (ChangeSpec.witness6 (enc := enc) (C := Try.checked) false ⟨#[], #[.slice none 0 0], []⟩ 8 (by kernel_rfl) (by kernel_rfl) (by kernel_rfl) (by kernel_rfl)) ?_
  intro W args ds ps hst
  have hA : DataW.TrodAll enc Try.prog W 0 (fun _ => true) true Try.f8.params.toList args.toList ds ps := hst.trod
  rw [Try.params8] at hA
  obtain ⟨v0, d0, rfl, rfl, h0⟩ := trodAll_one hA
  exact walk v0 W

theorem over : Rows.polyNilRow.holds Try.pinned (OpenSpec.ofChange Rows.polyNilSpec) :=
  OpenClaim.holds_of_wide 8 Try.f8 rfl rfl rfl rfl rfl rfl rfl ⟨rfl, rfl, rfl, rfl, rfl⟩ rfl rfl rfl rfl rfl (by kernel_rfl) Try.func8 (by kernel_rfl)
    (of_decide_eq_true (by kernel_rfl)) (by unfold Func.isWrapper; first | (rw [if_pos (by decide +kernel)]; kernel_rfl) | (rw [if_neg (by decide +kernel)]; exact ⟨rfl, rfl⟩))
    (fun os started H enc _ => lift os started H enc)
theorem proved : Rows.PolyNilSaid := over
#print axioms proved
end Go.Proofs.Ytcacopcihlhmiaa.polyNil
