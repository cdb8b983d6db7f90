/- disk: two lists of files that are the same. -/
import Derived.Test.YtgmmjnedgaeefaaDskSafe
namespace Go.Proofs.Ytgmmjnedgaeefaa.Dsk
open Go.RowKit Go.Maps Go.Sort Go.Shelf
/-- A slice that reads as these files. -/
def FAt (w : World) (B : Nat) (v : Value) (l : List (Name × List UInt8)) : Prop := ∃ A c, v = .slice A l.length c ∧ (l ≠ [] → ∃ g, A = some ⟨g, 0, none⟩ ∧ g < B ∧
  ∀ (j : Nat) (t : Name × List UInt8), l[j]? = some t → w.cell? ⟨g, j * 2, none⟩ = some (.string { data := t.1.toArray }) ∧ ∃ x, w.cell? ⟨g, j * 2 + 1, none⟩ = some x ∧ Bs w B x t.2)
theorem OwnF.at {w : World} {base : Nat} {v : Value} {l : List (Name × List UInt8)} (h : OwnF w base v l) : FAt w w.heap.size v l := by
  obtain ⟨cs, h1, h2⟩ := h
  rcases id h1.2 with ⟨rfl, hl⟩ | ⟨g, cap, cur, rfl, hb, hg, hnc, _⟩
  · exact ⟨none, 0, by rw [hl], fun hne => absurd (List.eq_nil_of_length_eq_zero hl) hne⟩
  · refine ⟨_, cap, rfl, fun _ => ⟨g, rfl, (Array.getElem?_eq_some_iff.1 hg).1, fun j t ht => ?_⟩⟩
    obtain ⟨h3, x, h4, h5, _⟩ := h2 j t ht
    have hc : ∀ i u, cs[i]? = some u → w.cell? ⟨g, i, none⟩ = some u := fun i u hu => by
      have := World.ownsRow.cells h1 (g := g) rfl i u hu
      rwa [show (⟨g, 0, none⟩ : Addr).add i = ⟨g, 0 + i, none⟩ by unfold Addr.add; split <;> simp_all, Nat.zero_add] at this
    exact ⟨hc _ _ h3, x, hc _ _ h4, h5.bs⟩
theorem FAt.below {w w' : World} {B : Nat} {v : Value} {l : List (Name × List UInt8)} (h : FAt w B v l) (hb : Below B w w') : FAt w' B v l := by
  obtain ⟨A, c, h1, h2⟩ := h
  refine ⟨A, c, h1, fun hne => ?_⟩
  obtain ⟨g, e, hlt, h3⟩ := h2 hne
  refine ⟨g, e, hlt, fun j t ht => ?_⟩
  obtain ⟨h4, x, h5, h6⟩ := h3 j t ht
  exact ⟨(hb.cell (p := ⟨g, j * 2, none⟩) hlt).trans h4, x, (hb.cell (p := ⟨g, j * 2 + 1, none⟩) hlt).trans h5, h6.below hb⟩
theorem FAt.more {w : World} {B B' : Nat} {v : Value} {l : List (Name × List UInt8)} (h : FAt w B v l) (hB : B ≤ B') : FAt w B' v l := by
  obtain ⟨A, c, h1, h2⟩ := h
  refine ⟨A, c, h1, fun hne => ?_⟩
  obtain ⟨g, e, hlt, h3⟩ := h2 hne
  refine ⟨g, e, by omega, fun j t ht => ?_⟩
  obtain ⟨h4, x, h5, h6⟩ := h3 j t ht
  exact ⟨h4, x, h5, h6.more hB⟩
set_option maxRecDepth 100000 in
set_option maxHeartbeats 1000000 in
theorem Files_same {w : World} {va vb : Value} {l : List (Name × List UInt8)} (ha : FAt w w.heap.size va l) (hb : FAt w w.heap.size vb l) (hl : l.length ≤ 1000000) :
    Calls Try.prog 24 #[va, vb] w fun e w' => e = .returned (.bool true) ∧ Below w.heap.size w w' := by
  obtain ⟨A1, c1, rfl, h1⟩ := ha
  obtain ⟨A2, c2, rfl, h2⟩ := hb
  have H1 := Lib.hid h1
  have H2 := Lib.hid h2
  clear h1 h2
  go_enter Try.func24, Try.ntmps24
  go_wp2
  go_loopw [5] (fun iv wr => ∃ i : Nat, i ≤ l.length ∧ iv = .int .i64 (i : Int) ∧ Below w.heap.size w wr) (fun iv _ => l.length - (intOf iv).toNat)
  case atStart => exact ⟨0, Nat.zero_le _, rfl, Below.refl _ _⟩
  case round =>
    obtain ⟨i, hi, rfl, hb⟩ := hrel
    have HB := Lib.hid hb
    clear hb
    by_cases h1 : i < l.length
    · have h1' : (i : Int) < (l.length : Int) := by omega
      obtain ⟨⟨s, t⟩, hs⟩ : ∃ t, l[i]? = some t := ⟨_, List.getElem?_eq_getElem h1⟩
      obtain ⟨g1, rfl, hlt1, hc1⟩ := H1.out (by intro e; subst e; simp at h1)
      obtain ⟨g2, rfl, hlt2, hc2⟩ := H2.out (by intro e; subst e; simp at h1)
      obtain ⟨k1, x1, k2, k3⟩ := hc1 i _ hs
      obtain ⟨k4, x2, k5, k6⟩ := hc2 i _ hs
      have e1 := (HB.out.cell (p := ⟨g1, i * 2, none⟩) hlt1).trans k1
      have e2 := (HB.out.cell (p := ⟨g1, i * 2 + 1, none⟩) hlt1).trans k2
      have e3 := (HB.out.cell (p := ⟨g2, i * 2, none⟩) hlt2).trans k4
      have e4 := (HB.out.cell (p := ⟨g2, i * 2 + 1, none⟩) hlt2).trans k5
      have r1 := fun n => run_str (wr.drewN n) (k3.below (HB.out.trans (⟨rfl, rfl, rfl, Nat.le_refl _, fun _ _ => rfl⟩ : Below w.heap.size wr (wr.drewN n))))
      have r2 := fun n => run_str (wr.drewN n) (k6.below (HB.out.trans (⟨rfl, rfl, rfl, Nat.le_refl _, fun _ _ => rfl⟩ : Below w.heap.size wr (wr.drewN n))))
      obtain ⟨A3, c3, rfl, _, _⟩ := id k3
      obtain ⟨A4, c4, rfl, _, _⟩ := id k6
      unfold strOf at r1 r2
      simp only at e1 e3
      clear hc1 hc2 hs k1 k2 k3 k4 k5 k6
      go_wp2_with fail
      go_quiet (fail)
      rename_i nq
      go_wp2
      go_roundw
      case rel => exact ⟨i + 1, h1, by go_num, HB.out.trans ⟨rfl, rfl, rfl, Nat.le_refl _, fun _ _ => rfl⟩⟩
      case measure => simp [intOf]; omega
    · have h1' : ¬ (i : Int) < (l.length : Int) := by omega
      go_wp2
      go_ret
      exact ⟨rfl, HB.out⟩
end Go.Proofs.Ytgmmjnedgaeefaa.Dsk
