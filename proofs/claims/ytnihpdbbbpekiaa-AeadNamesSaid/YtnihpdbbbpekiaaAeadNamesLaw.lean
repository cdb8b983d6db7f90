/- The examples of chapter 4 have the results that it states: 'drawbridgelaw04.AeadNames'. -/
import Derived.Test.YtnihpdbbbpekiaaAeadLives
import Derived.Test.YtnihpdbbbpekiaaAeadOpen
namespace Go.Proofs.Ytnihpdbbbpekiaa.aeadNames
open Go.ChangeShapes Go.WideShapes Go.ChangeAt Go.RowKit
open Pol (own mixed laid)
set_option maxRecDepth 100000 in
set_option maxHeartbeats 1000000 in
theorem walk (w : World) : Calls Try.prog 10 #[] w fun e w' => e = .returned (.bool true) ∧ Below w.heap.size w w' := by
  go_enter Try.func10, Try.ntmps10
  go_wp2_with (first
    | (at_make; refine wpList_make_bytes _ rfl _ _ rfl 15 rfl rfl (by omega) ?_; intro w1 hrow1 hg1)
    | fail)
  have hB1 := (Below.refl w.heap.size w).grown hg1 (Nat.le_refl _) (fun k hk => by cases hk)
  have HB1 := Lib.hid hB1
  clear hB1 hrow1 hg1
  refine (Aead.Open_more (List.replicate 32 0) (List.replicate 12 0) _ _ 15 15 (by decide) w1).mono ?_
  rintro e w2 ⟨rfl, hb2⟩
  have HB2 := Lib.hid (nextB HB1.out (Nat.le_refl _) hb2)
  clear hb2
  go_wp2_with (first
    | (at_make; refine wpList_make_bytes _ rfl _ _ rfl 65537 rfl rfl (by omega) ?_; intro w3 hrow3 hg3)
    | fail)
  have HB3 := Lib.hid (HB2.out.grown hg3 HB2.out.size (fun k hk => by cases hk))
  clear hrow3 hg3
  refine (Aead.Seal_long (List.replicate 32 0) (List.replicate 12 0) _ _ 65537 0 65537 0 (by decide) w3).mono ?_
  rintro e w4 ⟨rfl, hb4⟩
  have HB4 := Lib.hid (nextB HB3.out (Nat.le_refl _) hb4)
  clear hb4
  go_wp2_with (first
    | (at_make; refine wpList_make_bytes _ rfl _ _ rfl 65537 rfl rfl (by omega) ?_; intro w5 hrow5 hg5)
    | fail)
  have HB5 := Lib.hid (HB4.out.grown hg5 HB4.out.size (fun k hk => by cases hk))
  clear hrow5 hg5
  refine (Aead.Seal_long (List.replicate 32 0) (List.replicate 12 0) _ _ 0 65537 0 65537 (by decide) w5).mono ?_
  rintro e w6 ⟨rfl, hb6⟩
  have HB6 := Lib.hid (nextB HB5.out (Nat.le_refl _) hb6)
  clear hb6
  go_wp2_with (first
    | (go_at_call 38; refine (Aead.lives_any _).mono ?_; rintro e w7 ⟨rfl, hb7⟩; have HB7 := Lib.hid (nextB HB6.out (Nat.le_refl _) hb7); clear hb7)
    | (go_at_call 39; refine (Aead.Extra_any _).mono ?_; rintro e w8 ⟨rfl, hb8⟩; have HB8 := Lib.hid (nextB HB7.out (Nat.le_refl _) hb8); clear hb8)
    | fail)
  go_ret
  exact ⟨rfl, HB8.out⟩

set_option maxRecDepth 100000 in
theorem lifted (os : Os) (started : os.Started) (H : Type) (enc : TypeId × Value → H) :
    ReturnsInHanded {} Try.checked os 10 .any (Rows.aeadNamesSpec.pre6 enc Try.prog Try.f10 Rows.aeadNamesRow.domain false) (Rows.aeadNamesSpec.post enc Try.prog Try.f10 false true false false) := by
  refine returnsInHanded_of_change (C := Try.checked) own started (by kernel_rfl) Try.func10
    (ChangeSpec.witness6 (enc := enc) (C := Try.checked) false ⟨#[], #[], []⟩ 8 (by kernel_rfl) (by kernel_rfl) (by kernel_rfl) (by kernel_rfl)) ?_
  intro W base args ds gs before hval0 hW hcnd _
  have hW' := hW
  obtain ⟨p, q, hA0, hV, rfl, hfz, hnd⟩ := hW
  have hA : DataW.TrodAll enc Try.prog W 0 (fun _ => true) true Try.f10.params.toList args.toList ds p := hA0
  rw [Try.params10] at hA
  obtain ⟨rfl, rfl, rfl⟩ := trodAll_none hA
  obtain ⟨rfl, rfl⟩ := trodVars_none hV
  clear hA0 hval0
  simp only [List.append_nil] at hW'
  refine (walk W).mono fun e W' ⟨he, hg⟩ => ?_
  subst he
  exact ⟨_, rfl, post_of_below (pa := []) (pv := []) hW' (fun _ _ _ => (trodAll_cons_mk (shut_bool Try.underlying4 _) trodAll_mk0)) (fun sp _ => rfl) (fun _ _ => rfl) rfl
    hg (ok_one (by kernel_rfl) rfl (okWide_bool_mk Try.underlying4 _))⟩

theorem over : Rows.aeadNamesRow.holds Try.pinned (OpenSpec.ofChange Rows.aeadNamesSpec) :=
  OpenClaim.holds_of_wide 10 Try.f10 rfl rfl rfl rfl rfl rfl rfl ⟨rfl, rfl, rfl, rfl, rfl⟩ rfl rfl rfl rfl rfl (by kernel_rfl) Try.func10 (by kernel_rfl)
    (of_decide_eq_true (by kernel_rfl)) (by unfold Func.isWrapper; first | (rw [if_pos (by decide +kernel)]; kernel_rfl) | (rw [if_neg (by decide +kernel)]; exact ⟨rfl, rfl⟩))
    (fun os started H enc _ => lifted os started H enc)

theorem proved : Rows.AeadNamesSaid := over
#print axioms proved
end Go.Proofs.Ytnihpdbbbpekiaa.aeadNames
