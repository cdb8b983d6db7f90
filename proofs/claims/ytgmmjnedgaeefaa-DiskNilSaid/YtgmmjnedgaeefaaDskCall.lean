/- disk: the law's 'call'. -/
import Derived.Test.YtgmmjnedgaeefaaDskSmall
import Derived.Test.YtgmmjnedgaeefaaDskNil
import Derived.Test.YtgmmjnedgaeefaaDskInts
import Derived.Test.YtgmmjnedgaeefaaDskConcat
import Derived.Test.YtgmmjnedgaeefaaDskAppend
import Derived.Test.YtgmmjnedgaeefaaKitPick
import Derived.Test.YtgmmjnedgaeefaaKit
import Derived.Deep.RegionWith
namespace Go.Proofs.Ytgmmjnedgaeefaa.Dsk
open Go.RowKit Go.Deep
theorem box_act {w : World} {cs : List Value} {a : Ac} (h : AcAt w w.heap.size cs a) (o : Obj) (ho : o = .cells cs.toArray 39) :
    ∃ vb vp, Row (w.alloc o) w.heap.size [.int .i64 a.kind, sv a.name, vb, .int .i64 a.n, vp] 39 ∧ Bs w w.heap.size vb a.b ∧ IsL w w.heap.size vp a.parts ∧ in64 a.kind ∧ in64 a.n := by
  obtain ⟨vb, vp, rfl, h1, h2, h3, h4⟩ := h
  exact ⟨vb, vp, Row.new rfl ho, h1, h2, h3, h4⟩
set_option maxRecDepth 100000 in
set_option maxHeartbeats 4000000 in
theorem Call_nil {w : World} {cs : List Value} {a : Ac} (h : AcAt w w.heap.size cs a) (hb : a.b.length ≤ 140737488355327) (hp : a.parts.length ≤ 17592186044415) :
    Calls Try.prog 19 #[.pointer none, .agg cs.toArray] w fun e w' => e = .returned (.tuple #[.string ⟨#[]⟩, .int .i64 1]) ∧ Below w.heap.size w w' := by
  obtain ⟨vb, vp, rfl, hvb, hvp, hk, hn⟩ := h
  obtain ⟨A1, c1, rfl, _, _⟩ := id hvb
  obtain ⟨A2, c2, rfl, _, _⟩ := id hvp
  have Hvb := Lib.hid hvb
  have Hvp := Lib.hid hvp
  have Hpk := Lib.hid (pick_in a.kind 7 (by decide))
  obtain ⟨k, hk'⟩ : ∃ k, pick a.kind 7 = k := ⟨_, rfl⟩
  rw [hk'] at Hpk
  have HP := Lib.hid (fun W => Pick_any a.kind 7 W hk ⟨by decide, by decide⟩)
  rw [hk'] at HP
  clear hvb hvp hk hk'
  by_cases k2 : k = 2
  · subst k2
    go_enter Try.func19, Try.ntmps19
    go_wp2_with (first
      | (go_at_call 23; refine (HP.out _).mono ?_; rintro e w' ⟨rfl, rfl⟩)
      | (go_at_call 10; refine (Sync_nil _ _).mono ?_; rintro e w' ⟨rfl, rfl⟩)
      | fail)
    go_ret2
    exact ⟨rfl, (Below.refl _ w).alloc (Nat.le_refl _) _⟩
  by_cases k3 : k = 3
  · subst k3
    go_enter Try.func19, Try.ntmps19
    go_wp2_with (first
      | (go_at_call 23; refine (HP.out _).mono ?_; rintro e w' ⟨rfl, rfl⟩)
      | (go_at_call 34; refine (Remove_nil _ _).mono ?_; rintro e w' ⟨rfl, rfl⟩)
      | fail)
    go_ret2
    exact ⟨rfl, (Below.refl _ w).alloc (Nat.le_refl _) _⟩
  by_cases k4 : k = 4
  · subst k4
    have hcv : ∀ W, (convert 27 9 (.slice none 0 0)).run Try.prog W = .ok (.string ⟨#[]⟩) W := fun W => run_str W (Bs.nil W 0 none 0)
    go_enter Try.func19, Try.ntmps19
    go_wp2_with (first
      | (go_at_call 23; refine (HP.out _).mono ?_; rintro e w' ⟨rfl, rfl⟩)
      | (go_at_call 12; refine (Read_nil _ _).mono ?_; rintro e w' ⟨rfl, rfl⟩)
      | fail)
    go_ret2
    exact ⟨rfl, (Below.refl _ w).alloc (Nat.le_refl _) _⟩
  by_cases k5 : k = 5
  · subst k5
    go_enter Try.func19, Try.ntmps19
    go_wp2_with (first
      | (go_at_call 23; refine (HP.out _).mono ?_; rintro e w' ⟨rfl, rfl⟩)
      | (go_at_call 16; refine (Fuse_nil _ _).mono ?_; rintro e w' ⟨rfl, rfl⟩)
      | fail)
    go_ret2
    exact ⟨rfl, (Below.refl _ w).alloc (Nat.le_refl _) _⟩
  by_cases k6 : k = 6
  · subst k6
    go_enter Try.func19, Try.ntmps19
    go_wp2_with (first
      | (go_at_call 23; refine (HP.out _).mono ?_; rintro e w' ⟨rfl, rfl⟩)
      | (go_at_call 11; refine (Crash_nil _ _).mono ?_; rintro e w' ⟨rfl, rfl⟩)
      | (at_builtin; refine wpList_app_ints _ rfl _ _ rfl rfl (ownI_at _ (w.heap.size + 1) (by simp)) rfl (Hvp.out.below (((Below.refl w.heap.size w).alloc (Nat.le_refl _) _).alloc (by simp) _)) (by simp; omega) (by simp) ?_
         intro v2 w2 ho hg _
         have HB2 := Lib.hid ((((Below.refl w.heap.size w).alloc (Nat.le_refl _) _).alloc (by simp) _).grown hg (by simp; omega) (fun k hk => by cases hk; exact Nat.le_succ _))
         obtain ⟨A3, c3, rfl, _, _⟩ := ho.cells
         clear ho hg)
      | fail)
    go_ret2
    exact ⟨rfl, HB2.out⟩
  go_enter Try.func19, Try.ntmps19
  go_wp2_with (first
    | (go_at_call 23; refine (HP.out _).mono ?_; rintro e w' ⟨rfl, rfl⟩)
    | fail)
  obtain ⟨W, hW⟩ : ∃ W, w.alloc (Obj.cells #[Value.int .i64 a.kind, sv a.name, Value.slice A1 a.b.length c1, Value.int .i64 a.n, Value.slice A2 a.parts.length c2] 39) = W := ⟨_, rfl⟩
  rw [hW]
  have hrow : Row W w.heap.size [Value.int .i64 a.kind, sv a.name, Value.slice A1 a.b.length c1, Value.int .i64 a.n, Value.slice A2 a.parts.length c2] 39 := by rw [← hW]; exact Row.new rfl rfl
  have hBW : Below w.heap.size w W := by rw [← hW]; exact (Below.refl _ w).alloc (Nat.le_refl _) _
  have hown := Own_any (Value.slice A1 a.b.length c1) a.b W.drew ((Hvb.out.below hBW).more hBW.size) (by omega)
  have e1 : W.cell? ⟨w.heap.size, 1, none⟩ = some (sv a.name) := hrow.cell rfl
  have e2 : W.cell? ⟨w.heap.size, 2, none⟩ = some (Value.slice A1 a.b.length c1) := hrow.cell rfl
  have HBW := Lib.hid hBW
  have HO := Lib.hid hown
  have Hrow := Lib.hid hrow
  clear hW hrow hBW hown
  go_region_with (first
    | (go_at_call 35; refine HO.out.mono ?_; rintro e w2 ⟨v, rfl, ho, hb⟩
       have e3 : w2.cell? ⟨w.heap.size, 1, none⟩ = some (sv a.name) := (hb.cell (p := ⟨w.heap.size, 1, none⟩) Hrow.out.lt).trans e1
       obtain ⟨A3, c3, rfl⟩ := ho.shape
       have HB2 := Lib.hid (HBW.out.drew.trans (hb.mono (show w.heap.size ≤ W.drew.heap.size from HBW.out.size)))
       clear ho hb)
    | (go_at_call 9; refine (Append_nil _ _ _).mono ?_; rintro e w' ⟨rfl, rfl⟩))
  all_goals
    go_wp2
    go_ret2
    exact ⟨rfl, HB2.out⟩
end Go.Proofs.Ytgmmjnedgaeefaa.Dsk
