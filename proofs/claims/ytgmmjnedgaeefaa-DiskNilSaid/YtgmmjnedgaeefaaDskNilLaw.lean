/- A disk that is nil returns ErrNil, or nothing: 'drawbridgelaw12.DiskNil', for every call. -/
import Derived.Test.YtgmmjnedgaeefaaDskCall
import Derived.Test.YtgmmjnedgaeefaaDskLives
import Derived.Test.YtgmmjnedgaeefaaLawSized
namespace Go.Proofs.Ytgmmjnedgaeefaa.diskNil
open Go.ChangeShapes Go.WideShapes Go.ChangeAt Go.RowKit
open Dsk
theorem own : ownKnob Try.checked.prog.godebug = none := by kernel_rfl
theorem laid : laidOutB Try.checked.prog = true := by kernel_rfl
theorem acs_one {w : World} {cs : List Value} {a : Ac} (h : AcAt w w.heap.size cs a) (o : Obj) (ho : o = .cells cs.toArray 39) : Acs (w.alloc o) (w.alloc o).heap.size (.slice (some ⟨w.heap.size, 0, none⟩) 1 1) [a] := by
  subst ho
  have hr : Row (w.alloc (.cells cs.toArray 39)) w.heap.size cs 39 := Row.new rfl rfl
  have hb : Below w.heap.size w (w.alloc (.cells cs.toArray 39)) := (Below.refl _ w).alloc (Nat.le_refl _) _
  refine ⟨_, 1, rfl, by simp, fun _ => ⟨w.heap.size, 0, rfl, by simp, fun i y hy => ?_⟩⟩
  match i, hy with
  | 0, hy =>
    cases hy
    refine ⟨cs, (h.below hb).more (by simp), fun j hj => ?_⟩
    have hl : cs[j]? = some (cs[j]'(by rw [h.len]; exact hj)) := List.getElem?_eq_getElem (by rw [h.len]; exact hj)
    rw [hl]
    rw [Nat.zero_mul, Nat.zero_add, Nat.zero_add]
    exact hr.cell hl
  | k + 1, hy => simp at hy
set_option maxRecDepth 100000 in
set_option maxHeartbeats 4000000 in
theorem walk {w : World} {cs : List Value} {a : Ac} (h : AcAt w w.heap.size cs a) (hbl : a.b.length ≤ 140737488355327) (hpl : a.parts.length ≤ 17592186044415) : Calls Try.prog 4 #[.agg cs.toArray] w fun e w' => e = .returned (.bool true) ∧ Below w.heap.size w w' := by
  obtain ⟨vb, vp, rfl, hvb, hvp, hk, hn⟩ := h
  obtain ⟨A1, c1, rfl, _, _⟩ := id hvb
  obtain ⟨A2, c2, rfl, _, _⟩ := id hvp
  have HA := Lib.hid (show AcAt w w.heap.size [.int .i64 a.kind, sv a.name, .slice A1 a.b.length c1, .int .i64 a.n, .slice A2 a.parts.length c2] a from ⟨_, _, rfl, hvb, hvp, hk, hn⟩)
  clear hvb hvp hk hn
  go_enter Try.func4, Try.ntmps4
  go_wp2_with (first
    | (go_at_call 13
       refine (lives_any _).mono ?_
       rintro e w1 ⟨rfl, hb⟩
       have hb0 : Below w.heap.size w (w.alloc (Obj.cells #[.int .i64 a.kind, sv a.name, .slice A1 a.b.length c1, .int .i64 a.n, .slice A2 a.parts.length c2] 39)) := (Below.refl _ w).alloc (Nat.le_refl _) _
       have hr0 : Row (w.alloc (Obj.cells #[.int .i64 a.kind, sv a.name, .slice A1 a.b.length c1, .int .i64 a.n, .slice A2 a.parts.length c2] 39)) w.heap.size [.int .i64 a.kind, sv a.name, .slice A1 a.b.length c1, .int .i64 a.n, .slice A2 a.parts.length c2] 39 := Row.new rfl rfl
       have HR := Lib.hid (hr0.below hb hr0.lt)
       have HB := Lib.hid (hb0.trans (hb.mono hb0.size))
       have HA1 := Lib.hid (((HA.out.below hb0).below (hb.mono hb0.size)).more (Nat.le_trans hb0.size hb.size))
       have e0 := HR.out.cell (i := 0) rfl
       have e1 := HR.out.cell (i := 1) rfl
       have e2 := HR.out.cell (i := 2) rfl
       have e3 := HR.out.cell (i := 3) rfl
       have e4 := HR.out.cell (i := 4) rfl
       clear hb hb0 hr0)
    | (go_at_call 18
       have hac := acs_one HA1.out (Obj.cells #[.int .i64 a.kind, sv a.name, .slice A1 a.b.length c1, .int .i64 a.n, .slice A2 a.parts.length c2] 39) rfl
       refine (small_any hac (by unfold maxLen; simp)).mono ?_
       rintro e w2 ⟨rfl, hb⟩
       have hb0 : Below w1.heap.size w1 (w1.alloc (Obj.cells #[.int .i64 a.kind, sv a.name, .slice A1 a.b.length c1, .int .i64 a.n, .slice A2 a.parts.length c2] 39)) := (Below.refl _ w1).alloc (Nat.le_refl _) _
       have hb2 : Below w1.heap.size w1 w2 := hb0.trans (hb.mono hb0.size)
       have HR2 := Lib.hid (HR.out.below hb2 HR.out.lt)
       have HB2 := Lib.hid (nextB HB.out (Nat.le_refl _) hb2)
       have HA2 := Lib.hid ((HA1.out.below hb2).more hb2.size)
       have e0' := HR2.out.cell (i := 0) rfl
       have e1' := HR2.out.cell (i := 1) rfl
       have e2' := HR2.out.cell (i := 2) rfl
       have e3' := HR2.out.cell (i := 3) rfl
       have e4' := HR2.out.cell (i := 4) rfl
       have HC := Lib.hid (Call_nil HA2.out hbl hpl)
       clear hac hb hb0 hb2 e0 e1 e2 e3 e4)
    | (go_at_call 19
       refine HC.out.mono ?_
       rintro e w3 ⟨rfl, hb⟩
       have HR3 := Lib.hid (HR2.out.below hb HR2.out.lt)
       have HB3 := Lib.hid (nextB HB2.out (Nat.le_refl _) hb)
       have e1'' := HR3.out.cell (i := 1) rfl
       clear hb e0' e1' e2' e3' e4')
    | (go_at_call 15; refine (Names_nil _).mono ?_; rintro e w' ⟨rfl, rfl⟩)
    | (go_at_call 20; refine (Size_nil _ _).mono ?_; rintro e w' ⟨rfl, rfl⟩)
    | (go_at_call 21; refine (Left_nil _).mono ?_; rintro e w' ⟨rfl, rfl⟩)
    | (go_at_call 17; refine (On_nil _).mono ?_; rintro e w' ⟨rfl, rfl⟩)
    | (go_at_call 22; refine (Safe_nil _).mono ?_; rintro e w' ⟨rfl, rfl⟩)
    | fail)
  all_goals
    go_ret
    first | exact ⟨rfl, HB3.out⟩ | exact ⟨rfl, HB2.out⟩

set_option maxRecDepth 100000 in
theorem lift (os : Os) (started : os.Started) (H : Type) (enc : TypeId × Value → H) :
    ReturnsInHanded {} Try.checked os 4 .any (Rows.diskNilSpec.pre6 enc Try.prog Try.f4 Rows.diskNilRow.domain false) (Rows.diskNilSpec.post enc Try.prog Try.f4 false true false false) := by
  refine Law.liftedS (C := Try.checked) 4 own started (by kernel_rfl) Try.func4 laid (by kernel_rfl) rfl Try.underlying4 rfl
    (fun ds hd => by
      have hd' : ds.length = 1 := hd
      match ds, hd' with
      | [d0], _ => rfl)
    (ChangeSpec.witness6 (enc := enc) (C := Try.checked) false ⟨#[], #[.agg #[.int .i64 0, .string ⟨#[]⟩, .slice none 0 0, .int .i64 0, .slice none 0 0]], []⟩ 8 (by kernel_rfl) (by kernel_rfl) (by kernel_rfl) (by kernel_rfl)) ?_
  intro W args ds ps hst hsz
  have hA : DataW.TrodAll enc Try.prog W 0 (fun _ => true) true Try.f4.params.toList args.toList ds ps := hst.trod
  have hok := hst.okw
  have hlt := hst.lt
  rw [Try.params4] at hA hok
  obtain ⟨v0, d0, rfl, rfl, h0⟩ := trodAll_one hA
  obtain ⟨_, hv0⟩ := hok 0 39 v0 rfl rfl
  obtain ⟨cs, a, rfl, hA, _, hR⟩ := act_at hv0 h0 hlt
  obtain ⟨hb, hp⟩ := hR reachBytes (hsz 0 39 d0 (by rw [Try.params4]; rfl) rfl)
  unfold reachBytes at hb hp
  exact walk hA (by omega) (by omega)

theorem over : Rows.diskNilRow.holds Try.pinned (OpenSpec.ofChange Rows.diskNilSpec) :=
  OpenClaim.holds_of_wide 4 Try.f4 rfl rfl rfl rfl rfl rfl rfl ⟨rfl, rfl, rfl, rfl, rfl⟩ rfl rfl rfl rfl rfl (by kernel_rfl) Try.func4 (by kernel_rfl)
    (of_decide_eq_true (by kernel_rfl)) (by unfold Func.isWrapper; first | (rw [if_pos (by decide +kernel)]; kernel_rfl) | (rw [if_neg (by decide +kernel)]; exact ⟨rfl, rfl⟩))
    (fun os started H enc _ => lift os started H enc)
theorem proved : Rows.DiskNilSaid := over
#print axioms proved
end Go.Proofs.Ytgmmjnedgaeefaa.diskNil
