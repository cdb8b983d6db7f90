/- config: the order of peers and of routes. -/
import Derived.Test.YtlphmbefcbhhpaaCfgMem
import Derived.Test.YtlphmbefcbhhpaaRowStep
import Derived.StillTail
import Derived.StillTailTactics
namespace Go.Proofs.Ytlphmbefcbhhpaa.Cfg
open Go.RowKit
set_option maxRecDepth 100000 in
theorem mixed : Try.prog.follows .mixedOrders = true := by kernel_rfl
theorem same_of {f : FuncId} {args : Array Value} {w : World} {v : Value} (h : Calls Try.prog f args w fun e w' => e = .returned v ∧ w = w') : Calls Try.prog f args w fun e w' => e = .returned v ∧ w' = w := h.mono fun _ _ ⟨a, b⟩ => ⟨a, b.symm⟩
def cmpZ (x y : Int) : Int := if x < y then -1 else if y < x then 1 else 0
set_option maxRecDepth 100000 in
theorem nanI_any (x : Int) (w : World) : Calls Try.prog 164 #[.int .i64 x] w fun e w' => e = .returned (.bool false) ∧ w = w' := by
  go_enter Try.func164, Try.ntmps164
  go_wp2
  go_ret
  exact ⟨rfl, rfl⟩
set_option maxRecDepth 100000 in
theorem nanU_any (x : Int) (w : World) : Calls Try.prog 165 #[.int .u32 x] w fun e w' => e = .returned (.bool false) ∧ w = w' := by
  go_enter Try.func165, Try.ntmps165
  go_wp2
  go_ret
  exact ⟨rfl, rfl⟩
set_option maxRecDepth 100000 in
theorem cmpI_any (x y : Int) (w : World) : Calls Try.prog 136 #[.int .i64 x, .int .i64 y] w fun e w' => e = .returned (.int .i64 (cmpZ x y)) ∧ w = w' := by
  by_cases h1 : x < y
  · rw [show cmpZ x y = -1 from if_pos h1]
    go_enter Try.func136, Try.ntmps136
    go_wp2_with (first | (go_at_call 164; refine (nanI_any _ _).mono ?_; rintro e w' ⟨rfl, rfl⟩) | fail)
    go_ret
    exact ⟨rfl, rfl⟩
  · by_cases h2 : y < x
    · rw [show cmpZ x y = 1 by unfold cmpZ; rw [if_neg h1, if_pos h2]]
      go_enter Try.func136, Try.ntmps136
      go_wp2_with (first | (go_at_call 164; refine (nanI_any _ _).mono ?_; rintro e w' ⟨rfl, rfl⟩) | fail)
      go_ret
      exact ⟨rfl, rfl⟩
    · rw [show cmpZ x y = 0 by unfold cmpZ; rw [if_neg h1, if_neg h2]]
      go_enter Try.func136, Try.ntmps136
      go_wp2_with (first | (go_at_call 164; refine (nanI_any _ _).mono ?_; rintro e w' ⟨rfl, rfl⟩) | fail)
      go_ret
      exact ⟨rfl, rfl⟩
set_option maxRecDepth 100000 in
theorem cmpU_any (x y : Int) (w : World) : Calls Try.prog 138 #[.int .u32 x, .int .u32 y] w fun e w' => e = .returned (.int .i64 (cmpZ x y)) ∧ w = w' := by
  by_cases h1 : x < y
  · rw [show cmpZ x y = -1 from if_pos h1]
    go_enter Try.func138, Try.ntmps138
    go_wp2_with (first | (go_at_call 165; refine (nanU_any _ _).mono ?_; rintro e w' ⟨rfl, rfl⟩) | fail)
    go_ret
    exact ⟨rfl, rfl⟩
  · by_cases h2 : y < x
    · rw [show cmpZ x y = 1 by unfold cmpZ; rw [if_neg h1, if_pos h2]]
      go_enter Try.func138, Try.ntmps138
      go_wp2_with (first | (go_at_call 165; refine (nanU_any _ _).mono ?_; rintro e w' ⟨rfl, rfl⟩) | fail)
      go_ret
      exact ⟨rfl, rfl⟩
    · rw [show cmpZ x y = 0 by unfold cmpZ; rw [if_neg h1, if_neg h2]]
      go_enter Try.func138, Try.ntmps138
      go_wp2_with (first | (go_at_call 165; refine (nanU_any _ _).mono ?_; rintro e w' ⟨rfl, rfl⟩) | fail)
      go_ret
      exact ⟨rfl, rfl⟩
def orZ (x y : Int) : Int := if x ≠ 0 then x else y
set_option maxRecDepth 100000 in
theorem or_two {w : World} {g : Nat} {x y : Int} {t : TypeId} (hr : Row w g [.int .i64 x, .int .i64 y] t) : Calls Try.prog 137 #[.slice (some ⟨g, 0, none⟩) 2 2] w fun e w' => e = .returned (.int .i64 (orZ x y)) ∧ w = w' := by
  have c0 : w.cell? ⟨g, 0, none⟩ = some (.int .i64 x) := hr.cell rfl
  have c1 : w.cell? ⟨g, 1, none⟩ = some (.int .i64 y) := hr.cell rfl
  clear hr
  obtain ⟨z, hz⟩ : ∃ z, orZ x y = z := ⟨_, rfl⟩
  rw [hz]
  have Hz := Lib.hid hz
  clear hz
  go_enter Try.func137, Try.ntmps137
  go_wp2
  go_loopw [8] (fun iv wr => wr = w ∧ ∃ i : Nat, iv = .int .i64 (i : Int) ∧ i ≤ 2 ∧ (1 ≤ i → x = 0) ∧ (2 ≤ i → y = 0)) (fun iv _ => 2 - (intOf iv).toNat)
  case atStart => exact ⟨rfl, 0, rfl, by omega, by omega, by omega⟩
  case round =>
    obtain ⟨rfl, i, rfl, hi, hx, hy⟩ := hrel
    match i, hi with
    | 0, _ =>
      clear hx hy
      by_cases h1 : x = 0
      · subst h1
        go_wp2
        go_roundw
        case rel => exact ⟨trivial, 1, by simp, by omega, fun _ => trivial, by omega⟩
        case measure => decide
      · have h2 : (x == 0) = false := by simpa using h1
        go_wp2
        go_ret
        exact ⟨by have h := Hz.out; simp [orZ, h1] at h; subst h; rfl, rfl⟩
    | 1, _ =>
      have hx' := hx (by omega)
      subst hx'
      clear hx hy
      by_cases h1 : y = 0
      · subst h1
        go_wp2
        go_roundw
        case rel => exact ⟨trivial, 2, by simp, by omega, fun _ => trivial, fun _ => trivial⟩
        case measure => decide
      · have h2 : (y == 0) = false := by simpa using h1
        go_wp2
        go_ret
        exact ⟨by have h := Hz.out; simp [orZ, h1] at h; subst h; rfl, rfl⟩
    | 2, _ =>
      have hx' := hx (by omega)
      have hy' := hy (by omega)
      subst hx' hy'
      go_wp2
      go_ret
      exact ⟨by have h := Hz.out; simp [orZ] at h; subst h; rfl, rfl⟩
set_option maxRecDepth 100000 in
theorem byID_any (m : Mb) (id : Int) (w : World) : Calls Try.prog 81 #[m.val, .int .i64 id] w fun e w' => e = .returned (.int .i64 (cmpZ m.id id)) ∧ Below w.heap.size w w' := by
  unfold Mb.val
  have hr : Row (w.alloc (.cells m.cs.toArray 83)) w.heap.size m.cs 83 := Row.new rfl rfl
  have c0 : (w.alloc (.cells m.cs.toArray 83)).cell? ⟨w.heap.size, 0, none⟩ = some (.int .i64 m.id) := hr.cell rfl
  clear hr
  go_enter Try.func81, Try.ntmps81
  go_wp2_with (first | (go_at_call 136; refine (cmpI_any _ _ _).mono ?_; rintro e w' ⟨rfl, rfl⟩) | fail)
  go_ret
  exact ⟨rfl, (Below.refl _ w).alloc (Nat.le_refl _) _⟩
/-- Where a route is from an address and bits in the order of routes. -/
def preZ (r : Rt) (a b : Int) : Int := orZ (cmpZ r.addr a) (cmpZ r.bits b)
set_option maxRecDepth 100000 in
set_option maxHeartbeats 1000000 in
theorem byPre_any (r : Rt) (a b : Int) (w : World) : Calls Try.prog 83 #[r.val, .int .u32 a, .int .i64 b] w fun e w' => e = .returned (.int .i64 (preZ r a b)) ∧ Below w.heap.size w w' := by
  unfold Rt.val
  have hr : Row (w.alloc (.cells r.cs.toArray 87)) w.heap.size r.cs 87 := Row.new rfl rfl
  have c0 : (w.alloc (.cells r.cs.toArray 87)).cell? ⟨w.heap.size, 0, none⟩ = some (.int .u32 r.addr) := hr.cell rfl
  have c1 : (w.alloc (.cells r.cs.toArray 87)).cell? ⟨w.heap.size, 1, none⟩ = some (.int .i64 r.bits) := hr.cell rfl
  clear hr
  unfold preZ
  obtain ⟨x, hx⟩ : ∃ x, cmpZ r.addr a = x := ⟨_, rfl⟩
  obtain ⟨y, hy⟩ : ∃ y, cmpZ r.bits b = y := ⟨_, rfl⟩
  have HX := Lib.hid (fun W => hx ▸ cmpU_any r.addr a W)
  have HY := Lib.hid (fun W => hy ▸ cmpI_any r.bits b W)
  rw [hx, hy]
  clear hx hy
  go_enter Try.func83, Try.ntmps83
  go_wp2_with fail
  obtain ⟨W, hW⟩ : ∃ W, w.alloc (.cells r.cs.toArray 87) = W := ⟨_, rfl⟩
  have hB : Below w.heap.size w W := hW ▸ (Below.refl _ w).alloc (Nat.le_refl _) _
  rw [hW] at c0 c1 ⊢
  have HB := Lib.hid hB
  have HO := Lib.hid (fun (W2 : World) t => or_two (w := (W2.alloc (.cells #[.int .i64 x, .int .i64 y] t)).drew) (x := x) (y := y) (show Row (W2.alloc (.cells #[.int .i64 x, .int .i64 y] t)) W2.heap.size _ t from Row.new rfl rfl))
  clear hW hB
  refine wp_region_still_tail 8 mixed (by kernel_rfl) ?_
  simp only [List.take_succ_cons, List.take_zero, List.drop_succ_cons, List.drop_zero]
  repeat (first | still_step | still_call (same_of (HX.out _)) | still_call (same_of (HY.out _)))
  try refine wpStill_nil ?_
  change wpList _ _ _ _ _ W.drew
  clear c0 c1
  go_wp2_with (first | (go_at_call 137; refine (HO.out _ _).mono ?_; rintro e w' ⟨rfl, rfl⟩) | fail)
  go_ret
  exact ⟨rfl, (HB.out.alloc HB.out.size _).drew⟩
end Go.Proofs.Ytlphmbefcbhhpaa.Cfg
