/- disk: Names. -/
import Derived.Test.YtgmmjnedgaeefaaDskCalls
import Derived.Test.YtgmmjnedgaeefaaIter
namespace Go.Proofs.Ytgmmjnedgaeefaa.Dsk
open Go.RowKit Go.Maps Go.Sort Go.Shelf
/-- A slice of the call's own that holds these strings. -/
def OwnS (w : World) (base : Nat) (v : Value) (l : List Name) : Prop := w.ownsRow base 9 1 v l.length (l.map encStr)
theorem OwnS.less {w : World} {base base' : Nat} {v : Value} {l : List Name} (h : OwnS w base v l) (hb : base' ≤ base) : OwnS w base' v l := by
  refine ⟨h.1, ?_⟩
  rcases h.2 with h2 | ⟨g, cap, cur, e, hg, r⟩
  · exact .inl h2
  · exact .inr ⟨g, cap, cur, e, by omega, r⟩
theorem names_len (l : Fs) : (names l).length = l.length := by rw [(names_perm l).length_eq]; simp [keys]
set_option maxHeartbeats 1000000 in
set_option maxRecDepth 100000 in
theorem Names_at {w : World} {B : Nat} {L : Lab} {p : Nat} {d : Dk} (h : At w B L p d) (hN : d.files.length ≤ 1000000) :
    Calls Try.prog 15 #[pv p] w fun e w' => ∃ v, e = .returned v ∧ OwnS w' w.heap.size v (names d.files) ∧ Below w.heap.size w w' := by
  obtain ⟨h1, h2, m, D, h3, hr, h5⟩ := h
  have c0 : w.cell? ⟨p, 0, none⟩ = some (.map (some m)) := hr.cell rfl
  have Hr := Lib.hid (show Row w p (drow m d) 58 from hr)
  have Hf := Lib.hid h5
  have Hmax : Hid (Maps.size D ≤ maxLen ∧ Maps.size D * 16 ≤ 140737488355328) := by
    rw [h5.size]
    have h6 : d.files.length ≤ maxLen ∧ d.files.length * 16 ≤ 140737488355328 := by unfold maxLen; omega
    exact h6
  clear h1 h2 h3 hr h5
  refine (callsIn_wide (n := 6)).1 ?_
  have hfK : Fence.wide.fn 33 := trivial
  have hfS : Fence.wide.fn 32 := trivial
  have hfV : Fence.wide.fn 28 := trivial
  unfold pv
  refine callsIn_of_wp Try.func15 rfl trivial ?_ rfl
  simp only [Try.ntmps15, List.size_toArray, List.length_cons, List.length_nil, Nat.reduceAdd, Nat.reduceSub, Array.replicate_succ, Array.replicate_zero, List.push_toArray, List.append_toArray, List.nil_append, List.cons_append]
  gi_wp2_with (first
    | (gi_at_call 28; refine (callsIn_wide.2 (valid_row Hr.out)).mono ?_; rintro e w' ⟨rfl, rfl⟩)
    | (gi_at_call 33; refine (Try.maps_Keys_33 _ _).mono ?_; rintro e w' ⟨rfl, rfl⟩)
    | (gi_at_call 32; refine (Try.slices_Sorted_keys_32_33 m (Maps.size D) D refElem w Hf.out.map Hmax.out.1 Hmax.out.2).mono ?_; rintro e w' ⟨v, ss, rfl, hS, hrow, hnil, hb⟩; have HS := Lib.hid hS; have Hrow := Lib.hid hrow; have Hb := Lib.hid hb; clear hS hrow hnil hb))
  go_ret
  have hp := Hf.out.perm
  have e1 : (ss.mergeSort fun x y => decide (x ≤ y)) = names d.files := mergeSort_of_perm (HS.out.trans hp.symm)
  have e2 : ss.length = (names d.files).length := by rw [← e1, List.length_mergeSort]
  refine ⟨v, rfl, ?_, ((Below.refl _ w).alloc (Nat.le_refl _) _).trans (Hb.out.mono (by simp))⟩
  have h7 := Hrow.out
  rw [e1, e2] at h7
  exact OwnS.less h7 (by simp)
end Go.Proofs.Ytgmmjnedgaeefaa.Dsk
