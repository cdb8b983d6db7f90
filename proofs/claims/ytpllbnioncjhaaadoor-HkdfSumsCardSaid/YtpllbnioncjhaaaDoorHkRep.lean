/- bytes.Repeat of one byte, 64 times. -/
import Derived.Test.YtpllbnioncjhaaaDoorHkSum
import Derived.Lib.MakeNoZero
import Derived.Test.YtpllbnioncjhaaaDoorByJ
namespace Go.Proofs.YtpllbnioncjhaaaDoor
open Go.RowKit

theorem and1 : bits .and .u64 1 4294967295 = 1 := by decide
theorem and64 : bits .and .u64 64 4294967295 = 64 := by decide
theorem and0 : bits .and .u64 0 4294967295 = 0 := by decide
theorem mul64_any (w : World) : Calls Tryd.prog 88 #[.int .u64 1, .int .u64 64] w fun e w1 => e = .returned (.tuple #[.int .u64 0, .int .u64 64]) ∧ w = w1 := by
  have h1 := and1
  have h2 := and64
  have h3 := and0
  go_enter Tryd.func88, Tryd.ntmps88
  go_wp2
  refine bodyPost_ret (results_tmp2 rfl _ _ _) rfl ?_
  exact ⟨rfl, rfl⟩
theorem mul_any (w : World) : Calls Tryd.prog 69 #[.int .u64 1, .int .u64 64] w fun e w1 => e = .returned (.tuple #[.int .u64 0, .int .u64 64]) ∧ w = w1 := by
  go_enter Tryd.func69, Tryd.ntmps69
  go_wp2_with (first
    | (go_at_call 88; refine (mul64_any _).mono ?_; rintro e w1 ⟨rfl, rfl⟩)
    | fail)
  refine bodyPost_ret (results_tmp2 rfl _ _ _) rfl ?_
  exact ⟨rfl, rfl⟩

theorem splice_rep {α : Type} (v : α) (p : Nat) (R : List α) : splice (List.replicate p v ++ R) p (List.replicate p v) = List.replicate (p + p) v ++ R.drop p := by
  have e1 : (List.replicate p v ++ R).take p = List.replicate p v := by rw [List.take_append_of_le_length (by simp)]; simp
  have e2 : (List.replicate p v ++ R).drop (p + p) = R.drop p := by
    rw [List.drop_append, List.drop_of_length_le (by simp), List.nil_append, List.length_replicate]
    congr 1
    omega
  rw [splice, List.length_replicate, e1, e2, ← List.append_assoc, List.replicate_append_replicate]

set_option maxRecDepth 8000 in
set_option maxHeartbeats 1000000 in
theorem Rep_any (x : UInt8) (gb : Nat) (w : World) (hb : w.cell? ⟨gb, 0, none⟩ = some (bv x)) (hlt : gb < w.heap.size) :
    Calls Tryd.prog 56 #[.slice (some ⟨gb, 0, none⟩) 1 1, .int .i64 64] w fun e w' => ∃ g R, e = .returned (.slice (some ⟨g, 0, none⟩) 64 64) ∧ w.heap.size ≤ g ∧ Row w' g ((List.replicate 64 x).map bv ++ R) 5 ∧ Below w.heap.size w w' := by
  have Hb := Lib.hid hb
  have Hlt := Lib.hid hlt
  clear hb hlt
  obtain ⟨cs, hrunM, hle, _⟩ := Lib.run_makeNoZero (P := Tryd.prog) w #[3] 22 5 Tryd.underlying22 64 (by omega)
  have hcall : (callFunc 70 #[.int .i64 64]).run Tryd.prog w = .ok (.value (.slice (some ⟨w.heap.size, 0, none⟩) 64 cs.size)) ((w.alloc (.cells cs 5)).drewN 2) := by
    rw [run_callFunc_extern Tryd.func70 (by kernel_rfl) (by kernel_rfl) (by kernel_rfl) (e := Extern.BytealgMakeNoZero.makeNoZero #[3] #[22]) (by kernel_rfl), show (Value.int .i64 64) = .int .i64 ((64 : Nat) : Int) from rfl, hrunM]
    rfl
  have hcap : (64 : Int) ≤ (cs.size : Int) := by omega
  have Hle := Lib.hid hle
  have hsrc : ∀ (j : Nat) (v : Value), [bv x][j]? = some v → ((w.alloc (.cells cs 5)).drewN 2).cell? ((⟨gb, 0, none⟩ : Addr).add j) = some v := by
    intro j v hj
    cases j with
    | zero =>
      simp at hj
      subst hj
      rw [show (⟨gb, 0, none⟩ : Addr).add 0 = ⟨gb, 0, none⟩ by unfold Addr.add; split <;> simp_all]
      exact (World.cell?_alloc_lt w (.cells cs 5) ⟨gb, 0, none⟩ Hlt.out).trans Hb.out
    | succ j => simp at hj
  have Hsrc := Lib.hid hsrc
  have hrow0 : Row ((w.alloc (.cells cs 5)).drewN 2) w.heap.size cs.toList 5 := Row.drewN (Row.new rfl (by simp)) 2
  have Hrow0 := Lib.hid hrow0
  clear hrunM hle hsrc hrow0
  go_enter Tryd.func56, Tryd.ntmps56
  go_wp2_with (first
    | (go_at_call 69; refine (mul_any _).mono ?_; rintro e w1 ⟨rfl, rfl⟩)
    | (show wpList _ _ _ (⟨some 60, _, _, _, _, _⟩ :: _) _ _; go_loud (
       refine wpList_copy_keep rfl (.tmp 58) (.tmp 59) 22 22 rfl 5 (by kernel_rfl) (by kernel_rfl) rfl rfl Hrow0.out [bv x] (by rfl) Hsrc.out (by have := Hle.out; simp; omega) (by intro v hv; simp at hv; subst hv; rfl) ?_
       intro W hr hk
       have Hr := Lib.hid hr
       have Hk := Lib.hid hk
       clear hr hk))
    | fail)
  have hb0 : Below w.heap.size w W := Below.keep (((Below.refl _ w).alloc (Nat.le_refl _) (.cells cs 5)).drew.drew) Hk.out (by show w.heap.size ≤ (w.alloc _).heap.size; simp) (Nat.le_refl _)
  have hr0 : ∃ R, R.length + 1 = cs.size ∧ Row W w.heap.size ((List.replicate 1 x).map bv ++ R) 5 := by
    refine ⟨cs.toList.drop 1, by have := Hle.out; simp; omega, Hr.out.same ?_⟩
    simp [splice]
  obtain ⟨R0, hR0, hr0⟩ := hr0
  have Hb0 := Lib.hid hb0
  have Hr0 := Lib.hid hr0
  have HR0 := Lib.hid hR0
  clear hb0 hr0 hR0
  go_loopw [10] (fun pv wr => ∃ (p : Nat) (R : List Value), (p = 1 ∨ p = 2 ∨ p = 4 ∨ p = 8 ∨ p = 16 ∨ p = 32 ∨ p = 64) ∧ pv = .int .i64 (p : Int) ∧ R.length + p = cs.size ∧ Row wr w.heap.size ((List.replicate p x).map bv ++ R) 5 ∧ Below w.heap.size w wr) (fun pv _ => 64 - (intOf pv).toNat)
  case atStart => exact ⟨1, R0, by omega, rfl, HR0.out, Hr0.out, Hb0.out⟩
  case round =>
    obtain ⟨p, R, hp, rfl, hR, hr, hb⟩ := hrel
    have Hp := Lib.hid hp
    have HR := Lib.hid hR
    have Hr := Lib.hid hr
    have Hbl := Lib.hid hb
    clear hp hR hr hb
    by_cases h64 : p < 64
    · have h64' : (p : Int) < 64 := by omega
      have hpm : ¬ (64 : Int) < (p : Int) := by omega
      have hp0 : 0 < p := by have := Hp.out; omega
      have hne : ¬ (64 = p) := by omega
      have hwp : IntKind.i64.wrap ((p : Int) + (p : Int)) = (p : Int) + (p : Int) := IntWalk.i64_in _ (by omega)
      have hmin : min p (64 - p) = p := by have := Hp.out; omega
      have hmin' : Nat.min p (64 - p) = p := hmin
      have Hsrc2 : Hid (∀ (j : Nat) (v : Value), (List.replicate p (bv x))[j]? = some v → wr.drew.cell? ((⟨w.heap.size, 0, none⟩ : Addr).add j) = some v) := fun j v hj => by
        rw [show (⟨w.heap.size, 0, none⟩ : Addr).add j = ⟨w.heap.size, 0 + j, none⟩ by unfold Addr.add; split <;> simp_all, Nat.zero_add]
        refine Row.cell (w := wr.drew) Hr.out ?_
        have hlt : j < p := by have := (List.getElem?_eq_some_iff.1 hj).1; simpa using this
        rw [List.getElem?_append_left (by simpa using hlt), List.map_replicate]
        exact hj
      have Hfit : Hid (p + (List.replicate p (bv x)).length ≤ ((List.replicate p x).map bv ++ R).length) := by have h1 := HR.out; have h2 := Hle.out; have h3 := Hp.out; show p + _ ≤ _; simp; omega
      have Hlen : Hid ((List.replicate p (bv x)).length = Nat.min p (64 - p)) := by show _ = _; rw [hmin']; simp
      have Hone : Hid (∀ v ∈ List.replicate p (bv x), v.oneCell' = true) := fun v hv => by rw [List.eq_of_mem_replicate hv]; rfl
      clear hmin hmin'
      go_wp2_with fail
      go_region_law (refine step_copy_splice rfl (.tmp 70) (.tmp 73) 22 22 rfl 5 (by kernel_rfl) (by kernel_rfl) (some ⟨w.heap.size, p, none⟩) (some ⟨w.heap.size, 0, none⟩) (64 - p) (64 - p) p 64 (by simp [Act.eval, Act.put]) (by simp [Act.eval, Act.put]) w.heap.size p ((List.replicate p x).map bv ++ R) 5 Hr.out (List.replicate p (bv x)) Hlen.out (fun _ => ⟨rfl, _, rfl, Hsrc2.out⟩) Hfit.out Hone.out w.heap.size w Hbl.out.drew (Nat.le_refl _) ?_; intro w4 hg4 hb4)
      have Hg4 : Row w4 w.heap.size (splice ((List.replicate p x).map bv ++ R) p (List.replicate p (bv x))) 5 := hg4
      have Hb4 := Lib.hid hb4
      have hR4 : ∃ R2, R2.length + (p + p) = cs.size ∧ Row w4 w.heap.size ((List.replicate (p + p) x).map bv ++ R2) 5 := by
        refine ⟨R.drop p, ?_, Hg4.same ?_⟩
        · have h1 := HR.out
          have h2 := Hle.out
          have h3 := Hp.out
          rw [List.length_drop]
          omega
        · rw [List.map_replicate, List.map_replicate, splice_rep]
      have HR4 := Lib.hid hR4
      clear hg4 hb4 Hg4 hR4
      simp only [Act.put, List.getElem_toArray, List.getElem_cons_succ, List.getElem_cons_zero, List.setIfInBounds_toArray, List.set_cons_succ, List.set_cons_zero]
      go_wp2
      go_roundw
      case rel =>
        obtain ⟨R2, h1, h2⟩ := HR4.out
        exact ⟨p + p, R2, by have := Hp.out; omega, by simp, h1, h2, Hb4.out⟩
      case measure => simp [intOf]; omega
    · have h64' : ¬ (p : Int) < 64 := by omega
      have : p = 64 := by have := Hp.out; omega
      subst this
      go_wp2
      go_ret
      first
        | exact ⟨w.heap.size, rfl, Nat.le_refl _, ⟨R, Hr.out⟩, Hbl.out⟩
        | exact ⟨w.heap.size, R, rfl, Nat.le_refl _, Hr.out, Hbl.out⟩
end Go.Proofs.YtpllbnioncjhaaaDoor
