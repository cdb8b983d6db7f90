/- disk: which calls are gone through. -/
import Derived.Test.YtgmmjnedgaeefaaDskActs
namespace Go.Proofs.Ytgmmjnedgaeefaa.Dsk
open Go.ChangeShapes Go.WideShapes Go.RowKit Go.Deep
section
variable {H : Type} {enc : TypeId × Value → H}
theorem weights_all {P : Program} {e : TypeId} : ∀ (l : List (DataW H)) (d : DataW H), d ∈ l → ∀ n ∈ d.weights P e, n ∈ DataW.weightsAll P e l
  | x :: r, d, h, n, hn => by
    simp only [DataW.weightsAll, List.mem_append]
    rcases List.mem_cons.1 h with rfl | h
    · exact .inl hn
    · exact .inr (weights_all r d h n hn)
set_option maxRecDepth 100000 in
/-- A call as an argument. -/
theorem act_at {W : World} {base : Nat} {sp : Nat → Bool} {v : Value} {d : DataW H} {ps : List MemPlace} (hok : Value.okWide Try.prog W .any base 39 v)
    (h : DataW.Trod enc Try.prog W 0 sp true 39 v d ps) (hlt : ∀ x ∈ ps, x.block < W.heap.size) :
    ∃ (cs : List Value) (a : Ac), v = .agg cs.toArray ∧ AcAt W W.heap.size cs a ∧ a.name.length ≤ maxLen ∧ ∀ R : Nat, (∀ n ∈ d.weights Try.prog 39, n ≤ R) → a.b.length ≤ R ∧ a.parts.length * 8 ≤ R := by
  obtain ⟨cs, rfl, hl, hc⟩ := cells_at (ts := [3, 9, 27, 3, 30]) Try.underlying39 rfl (by kernel_rfl) (by kernel_rfl) hok
  obtain ⟨fuel, hf⟩ := h
  obtain ⟨a, h1, h2⟩ := act_trod (cs := cs) (by simpa [Value.cells] using hf) hlt
  exact ⟨cs, a, rfl, h1, h2⟩
set_option maxRecDepth 100000 in
theorem acts_trod {W : World} {base : Nat} {sp : Nat → Bool} {v : Value} {d : DataW H} {ps : List MemPlace} (hok : Value.okWide Try.prog W .any base 41 v)
    (h : DataW.Trod enc Try.prog W 0 sp true 41 v d ps) (hlt : ∀ x ∈ ps, x.block < W.heap.size) :
    ∃ l : List Ac, Acs W W.heap.size v l ∧ l.length ≤ maxLen ∧ (∀ a ∈ l, a.name.length ≤ maxLen) ∧ ∀ R : Nat, (∀ n ∈ d.weights Try.prog 41, n ≤ R) → ∀ a ∈ l, a.b.length ≤ R ∧ a.parts.length * 8 ≤ R := by
  obtain ⟨A, n, c, rfl⟩ := okWide_slice Try.underlying41 hok
  obtain ⟨fuel, hf⟩ := h
  have hC : Try.prog.cellsOf 39 = 5 := by kernel_rfl
  rcases open_slice Try.underlying41 hf with ⟨hcs, hx⟩ | ⟨a, len, cap, m, k, D, Pl, hcs, _, hl, hm, hmm, hx, hi⟩
  · simp only [Value.cells, List.cons.injEq, Value.slice.injEq, and_true] at hcs
    obtain ⟨rfl, rfl, rfl⟩ := hcs
    exact ⟨[], ⟨none, 0, rfl, Nat.le_refl _, fun h => absurd rfl h⟩, by simp, fun a ha => by simp at ha, fun R _ a ha => by simp at ha⟩
  · simp only [Value.cells, List.cons.injEq, Value.slice.injEq, and_true] at hcs
    obtain ⟨rfl, rfl, rfl⟩ := hcs
    simp only [Prod.mk.injEq] at hx
    obtain ⟨rfl, rfl⟩ := hx
    have hle : n ≤ m := by rw [hmm]; split <;> omega
    have hin : ∀ i, ∃ z : Ac, i < n → (∃ cs, AcAt W W.heap.size cs z ∧ ∀ j, j < 5 → W.cell? (a.add (i * 5 + j)) = cs[j]?) ∧ z.name.length ≤ maxLen ∧ ∀ R : Nat, (∀ x ∈ (D i).weights Try.prog 39, x ≤ R) → z.b.length ≤ R ∧ z.parts.length * 8 ≤ R := by
      intro i
      by_cases hin : i < n
      · obtain ⟨cs', hc, ht'⟩ := hi i (by omega)
        rw [hC] at hc
        obtain ⟨_, hcl, hat⟩ := World.cells?_some hc
        obtain ⟨z, h1, h2⟩ := act_trod ht' (fun y hy => hlt y (List.mem_append_right _ (List.mem_flatMap.2 ⟨i, List.mem_range.2 (by omega), hy⟩)))
        exact ⟨z, fun _ => ⟨⟨cs', h1, fun j hj => by rw [← add_assoc]; exact hat j hj⟩, h2⟩⟩
      · exact ⟨⟨0, [], [], 0, []⟩, fun h => absurd h hin⟩
    obtain ⟨g, hg⟩ : ∃ g : Nat → Ac, ∀ i, i < n → (∃ cs, AcAt W W.heap.size cs (g i) ∧ ∀ j, j < 5 → W.cell? (a.add (i * 5 + j)) = cs[j]?) ∧ (g i).name.length ≤ maxLen ∧ ∀ R : Nat, (∀ x ∈ (D i).weights Try.prog 39, x ≤ R) → (g i).b.length ≤ R ∧ (g i).parts.length * 8 ≤ R :=
      ⟨fun i => (hin i).choose, fun i h1 => (hin i).choose_spec h1⟩
    have hgi : ∀ (i : Nat) (z : Ac), ((List.range n).map g)[i]? = some z → i < n ∧ g i = z := by
      intro i z hz
      rw [List.getElem?_map, Option.map_eq_some_iff] at hz
      obtain ⟨i', h1, h2⟩ := hz
      obtain ⟨h3, h4⟩ := List.getElem?_eq_some_iff.1 h1
      simp only [List.length_range, List.getElem_range] at h3 h4
      subst h4
      exact ⟨h3, h2⟩
    refine ⟨(List.range n).map g, ⟨some a, c, by simp, by simp; omega, fun hne => ?_⟩, by simp; omega, fun z hz => ?_, fun R hR z hz => ?_⟩
    · have hn0 : 0 < n := by
        rcases Nat.eq_zero_or_pos n with rfl | h
        · simp at hne
        · exact h
      obtain ⟨b, off, spot⟩ := a
      have hspot : spot = none := by
        obtain ⟨⟨cs, h1, h2⟩, _⟩ := hg 0 hn0
        have h3 := h2 0 (by omega)
        obtain ⟨vb, vp, rfl, _⟩ := h1
        rw [Nat.zero_mul] at h3
        exact spot_none h3
      subst hspot
      refine ⟨b, off, rfl, hlt (.cell b off) (List.mem_append_left _ (MemPlace.mem_row.2 ⟨0, by rw [hC]; omega, by simp⟩)), fun i z hz => ?_⟩
      obtain ⟨hin', rfl⟩ := hgi i z hz
      obtain ⟨⟨cs, h1, h2⟩, _⟩ := hg i hin'
      exact ⟨cs, h1, fun j hj => by have := h2 j hj; rwa [add_none] at this⟩
    · obtain ⟨i, hi', rfl⟩ := List.mem_map.1 hz
      exact (hg i (List.mem_range.1 hi')).2.1
    · obtain ⟨i, hi', rfl⟩ := List.mem_map.1 hz
      refine (hg i (List.mem_range.1 hi')).2.2 R fun x hx => hR x ?_
      simp only [DataW.weights, Try.underlying41]
      refine List.mem_cons_of_mem _ (List.mem_append_left _ ?_)
      exact weights_all ((List.range n).map D) (D i) (List.mem_map.2 ⟨i, hi', rfl⟩) x hx
end
/-- What a call weighs. -/
def wt (a : Ac) : Nat := min a.name.length 3000 + min a.b.length 3000 + min a.parts.length 3000
def sumW (l : List Ac) : Nat → Nat
  | 0 => 0
  | i + 1 => sumW l i + (match l[i]? with | some a => wt a | none => 0)
def smallB (l : List Ac) : Bool := decide (l.length ≤ 100) && decide (sumW l (min l.length 101) ≤ 3000)
theorem sumW_le (l : List Ac) : ∀ i, sumW l i ≤ 9000 * i
  | 0 => by simp [sumW]
  | i + 1 => by
    have := sumW_le l i
    have hw : ∀ a, wt a ≤ 9000 := fun a => by unfold wt; omega
    unfold sumW
    split
    · rename_i a _
      have := hw a
      omega
    · omega
set_option maxRecDepth 100000 in
set_option maxHeartbeats 1000000 in
theorem small_any {w : World} {v : Value} {l : List Ac} (h : Acs w w.heap.size v l) (hl : l.length ≤ maxLen) : Calls Try.prog 18 #[v] w fun e w' => e = .returned (.bool (smallB l)) ∧ Below w.heap.size w w' := by
  obtain ⟨A, c, rfl, hc, hcs⟩ := h
  have Hcs := Lib.hid hcs
  clear hcs
  go_enter Try.func18, Try.ntmps18
  go_wp2
  go_loopw [4, 3] (fun iv nv wr => ∃ i : Nat, i ≤ l.length ∧ i ≤ 101 ∧ iv = .int .i64 (i : Int) ∧ nv = .int .i64 (sumW l i : Int) ∧ Below w.heap.size w wr) (fun iv _ _ => l.length - (intOf iv).toNat)
  case atStart => exact ⟨0, Nat.zero_le _, by omega, rfl, rfl, Below.refl _ _⟩
  case round =>
    obtain ⟨i, hi, hi2, rfl, rfl, hb⟩ := hrel
    have HB := Lib.hid hb
    have Hsl := Lib.hid (sumW_le l i)
    clear hb
    by_cases h1 : i < l.length
    · have h1' : (i : Int) < (l.length : Int) := by omega
      by_cases h2 : i ≤ 100
      · have h2' : (i : Int) ≤ 100 := by omega
        obtain ⟨b, off, rfl, hlt, hcell⟩ := Hcs.out (by intro e; subst e; simp at h1)
        obtain ⟨a, ha⟩ : ∃ a, l[i]? = some a := ⟨_, List.getElem?_eq_getElem h1⟩
        obtain ⟨cs, hac, hat⟩ := hcell i a ha
        obtain ⟨vb, vp, rfl, hvb, hvp, hk1, hk2⟩ := hac
        obtain ⟨A1, c1, rfl, _, _⟩ := hvb
        obtain ⟨A2, c2, rfl, _, _⟩ := hvp
        have e1 := (HB.out.cell (p := ⟨b, off + (i * 5 + 1), none⟩) hlt).trans (hat 1 (by decide))
        have e2 := (HB.out.cell (p := ⟨b, off + (i * 5 + 2), none⟩) hlt).trans (hat 2 (by decide))
        have e4 := (HB.out.cell (p := ⟨b, off + (i * 5 + 4), none⟩) hlt).trans (hat 4 (by decide))
        simp only [List.getElem?_cons_succ, List.getElem?_cons_zero, ← Nat.add_assoc] at e1 e2 e4
        unfold sv at e1
        have hnx : sumW l (i + 1) = sumW l i + wt a := by rw [sumW, ha]
        have Hnx := Lib.hid hnx
        clear hcell hat hnx ha
        go_wp2_with fail
        go_quiet (fail)
        rename_i nq
        go_wp2
        go_roundw
        case rel =>
          refine ⟨i + 1, h1, by omega, by go_num, ?_, HB.out.trans ⟨rfl, rfl, rfl, Nat.le_refl _, fun _ _ => rfl⟩⟩
          rw [Hnx.out]
          congr 1
          have := Hsl.out
          unfold wt wrap64
          omega
        case measure => simp [intOf]; omega
      · have h2' : ¬ (i : Int) ≤ 100 := by omega
        have h3' : ¬ (l.length : Int) ≤ 100 := by omega
        go_wp2
        go_ret
        refine ⟨?_, HB.out⟩
        have e : smallB l = false := by unfold smallB; rw [decide_eq_false (by omega)]; rfl
        rw [e]
        rfl
    · have h1' : ¬ (i : Int) < (l.length : Int) := by omega
      have hil : i = l.length := by omega
      subst hil
      have e : smallB l = (decide (l.length ≤ 100) && decide (sumW l l.length ≤ 3000)) := by
        unfold smallB
        rw [Nat.min_eq_left (by omega)]
      have He := Lib.hid e
      clear e
      by_cases h4 : l.length ≤ 100
      · have h4' : (l.length : Int) ≤ 100 := by omega
        go_wp2
        go_ret
        refine ⟨?_, HB.out⟩
        rw [He.out]
        by_cases h5 : sumW l l.length ≤ 3000
        · simp [h4, h5]; omega
        · simp [h4, h5]; omega
      · have h4' : ¬ (l.length : Int) ≤ 100 := by omega
        go_wp2
        go_ret
        exact ⟨by rw [He.out]; simp [h4], HB.out⟩
end Go.Proofs.Ytgmmjnedgaeefaa.Dsk
