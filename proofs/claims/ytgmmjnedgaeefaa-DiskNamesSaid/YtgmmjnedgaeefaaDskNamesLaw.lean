/- The chapter's examples: 'drawbridgelaw12.DiskNames'. -/
import Derived.Test.YtgmmjnedgaeefaaDskLives
import Derived.Test.YtgmmjnedgaeefaaDskTexts
import Derived.Test.YtgmmjnedgaeefaaLaw
namespace Go.Proofs.Ytgmmjnedgaeefaa.diskNames
open Go.ChangeShapes Go.WideShapes Go.ChangeAt Go.RowKit
open Dsk
theorem own : ownKnob Try.checked.prog.godebug = none := by kernel_rfl
theorem laid : laidOutB Try.checked.prog = true := by kernel_rfl
def d4 : Dk := ⟨[([97], ⟨[120, 121], [122], true⟩), ([98], ⟨[], [113], false⟩)], 96, false, -1⟩
def d5 : Dk := ⟨[([97], ⟨[120, 121, 122], [], true⟩)], 97, false, -1⟩
def d6 : Dk := { d5 with fuse := 1 }
def d7 : Dk := { d5 with fuse := 0 }
def d8 : Dk := { d5 with fuse := 0, off := true }
theorem to_d4 : appD (okName [98]) d3 [98] [113] = d4 ∧ appE (okName [98]) d3 [113] = 0 := by rw [ok_b]; exact ⟨rfl, rfl⟩
theorem names_d4 : names d4.files = [[97], [98]] := by
  show List.mergeSort [[97], [98]] (fun x y : List UInt8 => decide (x ≤ y)) = [[97], [98]]
  refine List.mergeSort_of_pairwise ?_
  decide
theorem to_d5 : crashD d4 [1] = d5 := by
  unfold crashD
  rw [names_d4]
  rfl
theorem to_d7 : appD (okName [97]) d6 [97] [] = d7 ∧ appE (okName [97]) d6 [] = 0 := by rw [ok_a]; exact ⟨rfl, rfl⟩
theorem to_d8 : appD (okName [97]) d7 [97] [] = d8 ∧ appE (okName [97]) d7 [] = 11 := by rw [ok_a]; exact ⟨rfl, rfl⟩
theorem ok_A : okName [65] = false := by kernel_rfl
theorem to_d9 : synD (okName [65]) d8 [65] = d8 ∧ synE (okName [65]) d8 [65] = 2 := by rw [ok_A]; exact ⟨rfl, rfl⟩
theorem free_nil (L : Lab) : Free L (.slice none 0 0) := fun b hb => by simp [Value.ownBlock] at hb
theorem isF_one {w : World} {B : Nat} {L : Lab} {p : Nat} {d : Dk} (h : At w B L p d) (x : Int) (o : Obj) (ho : o = .cells #[.int .i64 x] 3) :
    At (w.alloc o) B L p d ∧ IsF (w.alloc o) L (.slice (some ⟨w.heap.size, 0, none⟩) 1 1) [x] ∧ Step L L w (w.alloc o) := by
  subst ho
  have hb : Below w.heap.size w (w.alloc (.cells #[.int .i64 x] 3)) := (Below.refl _ w).alloc (Nat.le_refl _) _
  have hr : Row (w.alloc (.cells #[.int .i64 x] 3)) w.heap.size [.int .i64 x] 3 := Row.new rfl rfl
  refine ⟨h.new hb, ⟨_, 1, rfl, by simp, fun _ => ⟨w.heap.size, 0, rfl, by simp, ?_, fun i y hy => ?_⟩⟩, Step.new hb⟩
  · cases hL : L w.heap.size with
    | none => rfl
    | some x => have := (h.lab w.heap.size (by rw [hL]; simp)).2; omega
  · match i, hy with
    | 0, hy => cases hy; exact hr.cell rfl
    | k + 1, hy => simp at hy
theorem ss_one (w : World) (s : Name) (o : Obj) (ho : o = .cells #[sv s] 9) : Ss (w.alloc o) (w.alloc o).heap.size (.slice (some ⟨w.heap.size, 0, none⟩) 1 1) [s] := by
  subst ho
  have hr : Row (w.alloc (.cells #[sv s] 9)) w.heap.size [sv s] 9 := Row.new rfl rfl
  refine ⟨_, 1, rfl, by simp, fun _ => ⟨w.heap.size, 0, rfl, by simp, fun i y hy => ?_⟩⟩
  match i, hy with
  | 0, hy => cases hy; exact hr.cell rfl
  | k + 1, hy => simp at hy
set_option maxRecDepth 100000 in
set_option maxHeartbeats 4000000 in
theorem walk (w : World) : Calls Try.prog 3 #[] w fun e w' => e = .returned (.bool true) ∧ Below w.heap.size w w' := by
  have TK := Lib.hid True.intro
  go_enter Try.func3, Try.ntmps3
  go_wp2_with (first
    | (go_at_call 8; have tk := TK; clear tk TK; refine (New_ok 100 (by decide) (by decide) _).mono ?_; rintro e w1 ⟨rfl, hat, hb⟩
       obtain ⟨W1, hc1, hl⟩ := lit_bytes hat [120, 121] 2 rfl (by decide) (.cells #[.int .u8 120, .int .u8 121] 5) rfl
       have H1 := Lib.hid hl; have A1 := Lib.hid hat; have HB1 := Lib.hid hb; clear hat hb hl; unfold pv)
    | (go_at_call 9
       have hl := H1.out
       refine (Append_at hl.1 [97] (by decide) (by decide) (by decide) (by decide) (by decide) _ [120, 121] hl.2.1 hl.2.2.1).mono ?_
       rintro e w2 ⟨rfl, L2, hat, hst⟩
       have H2 := Lib.hid (show At w2 w.heap.size L2 (w.heap.size + 1) d1 from to_d1.1 ▸ hat)
       have S2 := Lib.hid (hl.2.2.2.trans hst)
       clear hat hst hl H1 hc1)
    | (go_at_call 10
       refine (Sync_at H2.out [97] (by decide) (by decide) (by decide)).mono ?_
       rintro e w3 ⟨rfl, L3, hat, hst⟩
       obtain ⟨W3, hc3, hl⟩ := lit_bytes (show At w3 w.heap.size L3 (w.heap.size + 1) d2 from to_d2.1 ▸ hat) [122] 1 rfl (by decide) (.cells #[.int .u8 122] 5) rfl
       have H3 := Lib.hid hl
       have S3 := Lib.hid (S2.out.trans hst)
       clear hat hst H2 S2 hl)
    | (go_at_call 9
       have hl := H3.out
       refine (Append_at hl.1 [97] (by decide) (by decide) (by decide) (by decide) (by decide) _ [122] hl.2.1 hl.2.2.1).mono ?_
       rintro e w4 ⟨rfl, L4, hat, hst⟩
       obtain ⟨W4, hc4, hl4⟩ := lit_bytes (show At w4 w.heap.size L4 (w.heap.size + 1) d3 from to_d3.1 ▸ hat) [113] 1 rfl (by decide) (.cells #[.int .u8 113] 5) rfl
       have H4 := Lib.hid hl4
       have S4 := Lib.hid (S3.out.trans (hl.2.2.2.trans hst))
       clear hat hst hl hl4 H3 S3 hc3)
    | (go_at_call 9
       have hl := H4.out
       refine (Append_at hl.1 [98] (by decide) (by decide) (by decide) (by decide) (by decide) _ [113] hl.2.1 hl.2.2.1).mono ?_
       rintro e w5 ⟨rfl, L5, hat, hst⟩
       have H5 := Lib.hid (isF_one (show At w5 w.heap.size L5 (w.heap.size + 1) d4 from to_d4.1 ▸ hat) 1 (.cells #[.int .i64 1] 3) rfl)
       have S5 := Lib.hid (S4.out.trans (hl.2.2.2.trans hst))
       clear hat hst hl H4 S4 hc4)
    | (go_at_call 11
       have hl := H5.out
       refine (Crash_at hl.1 (by decide) (by decide) (by decide) (by decide) _ [1] hl.2.1).mono ?_
       rintro e w6 ⟨rfl, L6, hat, hst⟩
       have H6 := Lib.hid (show At w6 w.heap.size L6 (w.heap.size + 1) d5 from to_d5 ▸ hat)
       have S6 := Lib.hid (S5.out.trans (hl.2.2.trans hst))
       clear hat hst hl H5 S5)
    | (go_at_call 12
       refine (Read_ok H6.out [97] (by decide) (by decide) (F := ⟨[120, 121, 122], [], true⟩) rfl).mono ?_
       rintro e w7 ⟨v, rfl, hbs, hb⟩
       obtain ⟨A7, c7, rfl, _, _⟩ := id hbs
       have H7 := Lib.hid (H6.out.new hb)
       have S7 := Lib.hid (S6.out.trans (Step.new hb))
       have HBS := Lib.hid hbs
       clear hbs hb H6 S6)
    | (go_at_call 13
       refine (lives_any _).mono ?_
       rintro e w8 ⟨rfl, hb⟩
       have H8 := Lib.hid (H7.out.new hb)
       have S8 := Lib.hid (S7.out.trans (Step.new hb))
       have hstr : (convert 27 9 (.slice A7 (Fil.all ⟨[120, 121, 122], [], true⟩).length c7)).run Try.prog w8 = .ok (.string { data := #[120, 121, 122] }) w8 := run_str w8 (HBS.out.below hb)
       clear hb H7 S7)
    | (go_at_call 15
       refine (Names_at H8.out (by decide)).mono ?_
       rintro e w9 ⟨v, rfl, ho, hb⟩
       have hss : Ss w9 w9.heap.size v [[97]] := by have := ho.ss; rwa [show d5.files = [([97], ⟨[120, 121, 122], [], true⟩)] from rfl, names_one] at this
       have ho1 := ss_one w9 [97] (.cells #[.string { data := #[97] }] 9) rfl
       have hss9 := (hss.below ((Below.refl _ w9).alloc (Nat.le_refl _) (.cells #[.string { data := #[97] }] 9))).more (B' := (w9.alloc (.cells #[.string { data := #[97] }] 9)).heap.size) (by simp)
       have HT := Lib.hid (Texts_same hss9 ho1 (by decide))
       have H9 := Lib.hid ((H8.out.new hb).new ((Below.refl _ w9).alloc (Nat.le_refl _) (.cells #[.string { data := #[97] }] 9)))
       have S9 := Lib.hid ((S8.out.trans (Step.new hb)).trans (Step.new ((Below.refl _ w9).alloc (Nat.le_refl _) (.cells #[.string { data := #[97] }] 9))))
       obtain ⟨A9, c9, rfl, _, _⟩ := hss
       clear hb ho ho1 hss9 H8 S8 hstr)
    | (go_at_call 14
       refine HT.out.mono ?_
       rintro e w10 ⟨rfl, hb⟩
       have H10 := Lib.hid (H9.out.new hb)
       have S10 := Lib.hid (S9.out.trans (Step.new hb))
       clear hb H9 S9 HT)
    | (go_at_call 16
       refine (Fuse_at H10.out 1).mono ?_
       rintro e w11 ⟨rfl, hat, hst⟩
       have H11 := Lib.hid (show At w11 w.heap.size L6 (w.heap.size + 1) d6 from hat)
       have S11 := Lib.hid (S10.out.trans hst)
       clear hat hst H10 S10)
    | (go_at_call 8; have tk := H11; clear tk; refine (New_no (-1) (by decide) _).mono ?_; rintro e w' ⟨rfl, rfl⟩)
    | (go_at_call 9
       refine (Append_at H11.out [97] (by decide) (by decide) (by decide) (by decide) (by decide) _ [] (Bs.nil _ _ _ _) (free_nil _)).mono ?_
       rintro e w12 ⟨rfl, L12, hat, hst⟩
       rw [to_d7.2]
       have H12 := Lib.hid (show At w12 w.heap.size L12 (w.heap.size + 1) d7 from to_d7.1 ▸ hat)
       have S12 := Lib.hid (S11.out.trans hst)
       clear hat hst H11 S11)
    | (go_at_call 9
       refine (Append_at H12.out [97] (by decide) (by decide) (by decide) (by decide) (by decide) _ [] (Bs.nil _ _ _ _) (free_nil _)).mono ?_
       rintro e w13 ⟨rfl, L13, hat, hst⟩
       rw [to_d8.2]
       have H13 := Lib.hid (show At w13 w.heap.size L13 (w.heap.size + 1) d8 from to_d8.1 ▸ hat)
       have S13 := Lib.hid (S12.out.trans hst)
       clear hat hst H12 S12)
    | (go_at_call 17; refine (On_at H13.out).mono ?_; rintro e w' ⟨rfl, rfl⟩)
    | (go_at_call 10
       refine (Sync_at H13.out [65] (by decide) (by decide) (by decide)).mono ?_
       rintro e w14 ⟨rfl, L14, hat, hst⟩
       rw [to_d9.2]
       have S14 := Lib.hid (S13.out.trans hst)
       clear hat hst H13 S13)
    | fail)
  go_ret
  exact ⟨rfl, HB1.out.trans (S14.out.below A1.out)⟩
set_option maxRecDepth 100000 in
theorem lifted (os : Os) (started : os.Started) (H : Type) (enc : TypeId × Value → H) :
    ReturnsInHanded {} Try.checked os 3 .any (Rows.diskNamesSpec.pre6 enc Try.prog Try.f3 Rows.diskNamesRow.domain false) (Rows.diskNamesSpec.post enc Try.prog Try.f3 false true false false) := by
  refine returnsInHanded_of_change (C := Try.checked) own started (by kernel_rfl) Try.func3
    (ChangeSpec.witness6 (enc := enc) (C := Try.checked) false ⟨#[], #[], []⟩ 8 (by kernel_rfl) (by kernel_rfl) (by kernel_rfl) (by kernel_rfl)) ?_
  intro W base args ds gs before hval0 hW hcnd _
  have hW' := hW
  obtain ⟨p, q, hA0, hV, rfl, hfz, hnd⟩ := hW
  have hA : DataW.TrodAll enc Try.prog W 0 (fun _ => true) true Try.f3.params.toList args.toList ds p := hA0
  rw [Try.params3] at hA
  obtain ⟨rfl, rfl, rfl⟩ := trodAll_none hA
  obtain ⟨rfl, rfl⟩ := trodVars_none hV
  clear hA0 hval0
  simp only [List.append_nil] at hW'
  refine (walk W).mono fun e W' ⟨he, hg⟩ => ?_
  subst he
  exact ⟨_, rfl, post_of_below (pa := []) (pv := []) hW' (fun _ _ _ => (trodAll_cons_mk (shut_bool Try.underlying4 _) trodAll_mk0)) (fun sp _ => rfl) (fun _ _ => rfl) rfl
    hg (ok_one (by kernel_rfl) rfl (okWide_bool_mk Try.underlying4 _))⟩

theorem over : Rows.diskNamesRow.holds Try.pinned (OpenSpec.ofChange Rows.diskNamesSpec) :=
  OpenClaim.holds_of_wide 3 Try.f3 rfl rfl rfl rfl rfl rfl rfl ⟨rfl, rfl, rfl, rfl, rfl⟩ rfl rfl rfl rfl rfl (by kernel_rfl) Try.func3 (by kernel_rfl)
    (of_decide_eq_true (by kernel_rfl)) (by unfold Func.isWrapper; first | (rw [if_pos (by decide +kernel)]; kernel_rfl) | (rw [if_neg (by decide +kernel)]; exact ⟨rfl, rfl⟩))
    (fun os started H enc _ => lifted os started H enc)

theorem proved : Rows.DiskNamesSaid := over
#print axioms proved
end Go.Proofs.Ytgmmjnedgaeefaa.diskNames
