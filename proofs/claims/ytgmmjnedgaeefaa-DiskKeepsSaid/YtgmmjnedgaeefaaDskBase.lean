/- disk: what an operation begins with. -/
import Derived.Test.YtgmmjnedgaeefaaDskMem
import Derived.Test.YtgmmjnedgaeefaaShelf
namespace Go.Proofs.Ytgmmjnedgaeefaa.Dsk
open Go.RowKit Go.Maps Go.Sort Go.Shelf
def pv (p : Nat) : Value := .pointer (some ⟨p, 0, none⟩)
def drow (m : Nat) (d : Dk) : List Value := [.map (some m), .int .i64 d.left, .bool d.off, .int .i64 d.fuse]
theorem ne_map (m : Nat) (w : World) : (binOp .neq 56 (.map (some m)) (.map none)).run Try.prog w = .ok (.bool true) w := by
  kernel_rfl
set_option maxRecDepth 100000 in
theorem valid_row {w : World} {p m : Nat} {d : Dk} (h : Row w p (drow m d) 58) : Calls Try.prog 28 #[pv p] w fun e w' => e = .returned (.bool true) ∧ w = w' := by
  have h0 : w.cell? ⟨p, 0, none⟩ = some (.map (some m)) := h.cell rfl
  have h1 : ∀ W, (binOp .neq 56 (.map (some m)) (.map none)).run Try.prog W = .ok (.bool true) W := ne_map m
  unfold pv
  go_enter Try.func28, Try.ntmps28
  go_wp2
  go_ret
  exact ⟨rfl, rfl⟩
theorem valid_at {w : World} {B : Nat} {L : Lab} {p : Nat} {d : Dk} (h : At w B L p d) : Calls Try.prog 28 #[pv p] w fun e w' => e = .returned (.bool true) ∧ w = w' := by
  obtain ⟨_, _, m, D, _, hr, _⟩ := h
  exact valid_row hr
set_option maxRecDepth 100000 in
theorem valid_nil (w : World) : Calls Try.prog 28 #[.pointer none] w fun e w' => e = .returned (.bool false) ∧ w = w' := by
  go_enter Try.func28, Try.ntmps28
  go_wp2
  go_ret
  exact ⟨rfl, rfl⟩
/-- No name has c. -/
def foreign (c : Nat) : Bool := (decide (c ≠ 46) && (decide (c < 48) || decide (57 < c))) && (decide (c < 97) || decide (122 < c))
theorem foreign_any (c : Nat) (w : World) : Calls Try.prog 44 #[.int .i32 (c : Int)] w fun e w' => e = .returned (.bool (foreign c)) ∧ w = w' := by
  go_enter Try.func44, Try.ntmps44
  go_wp2
  all_goals (go_ret; refine ⟨congrArg Ending.returned (?_ : Value.bool _ = Value.bool _), rfl⟩; congr 1; simp only [foreign])
  all_goals (rw [Bool.eq_iff_iff]; simp; omega)
theorem pred_foreign (w : World) : PredAt Try.prog 44 #[] encR foreign w := fun W c _ =>
  (foreign_any c W).mono fun e w' h => ⟨h.1, ⟨0, h.2.symm⟩⟩
/-- Has a file such a name? -/
def okName (s : Name) : Bool := decide (1 ≤ s.length) && decide (s.length ≤ 40) && !decide (0 ≤ Lib.idxFunc foreign true ⟨s.toArray⟩)
theorem eg (args : Array Value) (w : World) : (callFunc 44 args).run Try.prog w = .ok (.enter 44 args) w := enters_of Try.func44 (by kernel_rfl) rfl args w
set_option maxRecDepth 100000 in
theorem isName_any (s : Name) (w : World) : Calls Try.prog 37 #[sv s] w fun e w' => e = .returned (.bool (okName s)) ∧ Below w.heap.size w w' := by
  unfold sv
  by_cases h1 : 1 ≤ s.length
  · have h3 : (1 : Int) ≤ (s.length : Int) := by omega
    by_cases h2 : s.length ≤ 40
    · have h4 : (s.length : Int) ≤ 40 := by omega
      go_enter Try.func37, Try.ntmps37
      go_wp2_with (go_at_call 43; refine (Try.strings_ContainsFunc 44 #[] eg foreign _ _ (pred_foreign _)).mono ?_; rintro e w' ⟨rfl, hb⟩; have Hb := Lib.hid hb; clear hb)
      go_ret
      exact ⟨by simp [okName, h1, h2], Hb.out⟩
    · have h4 : ¬ (s.length : Int) ≤ 40 := by omega
      go_enter Try.func37, Try.ntmps37
      go_wp2
      go_ret
      exact ⟨by simp [okName, h2], Below.refl _ _⟩
  · have h3 : ¬ (1 : Int) ≤ (s.length : Int) := by omega
    go_enter Try.func37, Try.ntmps37
    go_wp2
    go_ret
    exact ⟨by simp [okName, h1], Below.refl _ _⟩
/-- The disk's own row is another from now on. -/
theorem At.row {w w' : World} {B : Nat} {L : Lab} {p : Nat} {d d' : Dk} (h : At w B L p d) (hk : Keep (fun x => x = p) w w') (hr : ∀ m, Row w p (drow m d) 58 → Row w' p (drow m d') 58) (hf : d'.files = d.files) : At w' B L p d' := by
  obtain ⟨h1, h2, m, D, h3, h4, h5⟩ := h
  refine ⟨fun b hb => ⟨(h1 b hb).1, Nat.lt_of_lt_of_le (h1 b hb).2 hk.size⟩, h2, m, D, h3, hr m h4, ?_⟩
  rw [hf]
  refine h5.keep hk ?_ ?_ fun _ _ e => e
  · rintro rfl; rw [h2] at h3; simp at h3
  · rintro b j s hb hj rfl; rw [h2] at hb; simp at hb; omega
theorem At.step {w w' : World} {B : Nat} {L : Lab} {p : Nat} {d : Dk} (h : At w B L p d) (hk : Keep (fun x => x = p) w w') : Step L L w w' :=
  ⟨hk.mono fun x _ e => by subst e; rw [h.lp]; simp, fun _ _ => rfl⟩
theorem At.cells {w : World} {B : Nat} {L : Lab} {p : Nat} {d : Dk} (h : At w B L p d) : ∃ m, Row w p (drow m d) 58 := by
  obtain ⟨h1, h2, m, D, h3, h4, h5⟩ := h
  exact ⟨m, h4⟩
set_option maxRecDepth 100000 in
set_option maxHeartbeats 1000000 in
theorem begin_at {w : World} {B : Nat} {L : Lab} {p : Nat} {d : Dk} (h : At w B L p d) (s : Name) (hfz : d.fuse ≤ 9223372036854775807 ∧ -9223372036854775808 ≤ d.fuse) :
    Calls Try.prog 25 #[pv p, sv s] w fun e w' => e = .returned (.int .i64 (begE (okName s) d)) ∧ At w' B L p (begD (okName s) d) ∧ Step L L w w' := by
  have Hat := Lib.hid h
  obtain ⟨m, hr⟩ := h.cells
  have Hr := Lib.hid hr
  have Hz := Lib.hid hfz
  clear h hr hfz
  cases ho : okName s with
  | false =>
    unfold pv
    go_enter Try.func25, Try.ntmps25
    go_wp2_with (first
      | (go_at_call 28; refine (valid_row Hr.out).mono ?_; rintro e w' ⟨rfl, rfl⟩)
      | (go_at_call 37; refine (isName_any s _).mono ?_; rintro e w1 ⟨rfl, hb⟩; have Hb := Lib.hid hb; clear hb))
    go_ret
    exact ⟨by simp [begE], by simpa [begD] using Hat.out.new Hb.out, Step.new Hb.out⟩
  | true =>
    have hcells : ∀ w1 : World, Below w.heap.size w w1 → (w1.cell? ⟨p, 2, none⟩ = some (.bool d.off) ∧ w1.cell? ⟨p, 3, none⟩ = some (.int .i64 d.fuse)) ∧ w1.frozen? ⟨p, 2, none⟩ = false ∧ w1.frozen? ⟨p, 3, none⟩ = false := fun w1 hb =>
      ⟨⟨(Hr.out.below hb Hr.out.lt).cell rfl, (Hr.out.below hb Hr.out.lt).cell rfl⟩, frozen_row (Hr.out.below hb Hr.out.lt) _, frozen_row (Hr.out.below hb Hr.out.lt) _⟩
    have Hcells := Lib.hid hcells
    clear hcells
    by_cases hf : d.fuse = 0
    · unfold pv
      go_enter Try.func25, Try.ntmps25
      go_wp2_with (first
        | (go_at_call 28; refine (valid_row Hr.out).mono ?_; rintro e w' ⟨rfl, rfl⟩)
        | (go_at_call 37; refine (isName_any s _).mono ?_; rintro e w1 ⟨rfl, hb⟩; obtain ⟨⟨c2, c3⟩, f2, f3⟩ := Hcells.out w1 hb; have Hb := Lib.hid hb; clear hb))
      go_ret
      refine ⟨by simp [begE, hf], Hat.out.row ((Keep.of_new Hb.out _).trans (Keep.setCell w1 ⟨p, 2, none⟩ _)) (fun m hm => ?_) (begD_files _ _), Hat.out.step ((Keep.of_new Hb.out _).trans (Keep.setCell w1 ⟨p, 2, none⟩ _))⟩
      refine ((hm.below Hb.out hm.lt).set 2 _).same ?_
      simp [drow, begD, hf]
    · cases hoff : d.off with
      | true =>
        unfold pv
        go_enter Try.func25, Try.ntmps25
        go_wp2_with (first
          | (go_at_call 28; refine (valid_row Hr.out).mono ?_; rintro e w' ⟨rfl, rfl⟩)
          | (go_at_call 37; refine (isName_any s _).mono ?_; rintro e w1 ⟨rfl, hb⟩; obtain ⟨⟨c2, c3⟩, f2, f3⟩ := Hcells.out w1 hb; have Hb := Lib.hid hb; clear hb))
        go_ret
        exact ⟨by simp [begE, hoff], by simpa [begD, hf, hoff] using Hat.out.new Hb.out, Step.new Hb.out⟩
      | false =>
        by_cases hp : 0 < d.fuse
        · have hw : wrap64 (d.fuse - 1) = d.fuse - 1 := by
            have := Hz.out
            unfold wrap64
            omega
          unfold pv
          go_enter Try.func25, Try.ntmps25
          go_wp2_with (first
            | (go_at_call 28; refine (valid_row Hr.out).mono ?_; rintro e w' ⟨rfl, rfl⟩)
            | (go_at_call 37; refine (isName_any s _).mono ?_; rintro e w1 ⟨rfl, hb⟩; obtain ⟨⟨c2, c3⟩, f2, f3⟩ := Hcells.out w1 hb; have Hb := Lib.hid hb; clear hb))
          go_ret
          refine ⟨by simp [begE, hf, hoff], Hat.out.row ((Keep.of_new Hb.out _).trans (Keep.setCell w1 ⟨p, 3, none⟩ _)) (fun m hm => ?_) (begD_files _ _), Hat.out.step ((Keep.of_new Hb.out _).trans (Keep.setCell w1 ⟨p, 3, none⟩ _))⟩
          refine ((hm.below Hb.out hm.lt).set 3 _).same ?_
          simp [drow, begD, hf, hp, hoff]
        · unfold pv
          go_enter Try.func25, Try.ntmps25
          go_wp2_with (first
            | (go_at_call 28; refine (valid_row Hr.out).mono ?_; rintro e w' ⟨rfl, rfl⟩)
            | (go_at_call 37; refine (isName_any s _).mono ?_; rintro e w1 ⟨rfl, hb⟩; obtain ⟨⟨c2, c3⟩, f2, f3⟩ := Hcells.out w1 hb; have Hb := Lib.hid hb; clear hb))
          go_ret
          have e : begD true d = d := by
            unfold begD
            rw [if_neg (by simp), if_neg hf, if_neg (by simp [hoff]), if_neg (by omega)]
          exact ⟨by simp [begE, hf, hoff], by rw [e]; exact Hat.out.new Hb.out, Step.new Hb.out⟩
end Go.Proofs.Ytgmmjnedgaeefaa.Dsk
