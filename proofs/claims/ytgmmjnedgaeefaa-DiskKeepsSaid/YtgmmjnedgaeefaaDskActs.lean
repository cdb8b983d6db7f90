/- disk: the law's calls as arguments: a call, a list of calls. -/
import Derived.Test.YtgmmjnedgaeefaaDskMem
import Derived.Test.YtgmmjnedgaeefaaDskBase
import Derived.Test.YtgmmjnedgaeefaaArgs
import Derived.Test.YtgmmjnedgaeefaaCells
import Derived.SizedLaws
namespace Go.Proofs.Ytgmmjnedgaeefaa.Dsk
open Go.ChangeShapes Go.WideShapes Go.RowKit Go.Deep
/-- A call. -/
structure Ac where
  kind : Int
  name : Name
  b : List UInt8
  n : Int
  parts : List Int
/-- A slice that reads as these ints, in a block below B. -/
def IsL (w : World) (B : Nat) (v : Value) (ps : List Int) : Prop :=
  ∃ A c, v = .slice A ps.length c ∧ ps.length ≤ c ∧ (ps ≠ [] → ∃ b off, A = some ⟨b, off, none⟩ ∧ b < B ∧ ∀ (i : Nat) (x : Int), ps[i]? = some x → w.cell? ⟨b, off + i, none⟩ = some (.int .i64 x))
theorem IsL.below {w w' : World} {B : Nat} {v : Value} {ps : List Int} (h : IsL w B v ps) (hb : Below B w w') : IsL w' B v ps := by
  obtain ⟨A, c, h1, h2, h3⟩ := h
  refine ⟨A, c, h1, h2, fun hne => ?_⟩
  obtain ⟨b, off, e, hlt, h4⟩ := h3 hne
  exact ⟨b, off, e, hlt, fun i x hx => (hb.cell (p := ⟨b, off + i, none⟩) hlt).trans (h4 i x hx)⟩
theorem IsL.more {w : World} {B B' : Nat} {v : Value} {ps : List Int} (h : IsL w B v ps) (hB : B ≤ B') : IsL w B' v ps := by
  obtain ⟨A, c, h1, h2, h3⟩ := h
  refine ⟨A, c, h1, h2, fun hne => ?_⟩
  obtain ⟨b, off, e, hlt, h4⟩ := h3 hne
  exact ⟨b, off, e, by omega, h4⟩
def in64 (x : Int) : Prop := -9223372036854775808 ≤ x ∧ x ≤ 9223372036854775807
/-- Five cells that read as a call. -/
def AcAt (w : World) (B : Nat) (cs : List Value) (a : Ac) : Prop :=
  ∃ vb vp, cs = [.int .i64 a.kind, sv a.name, vb, .int .i64 a.n, vp] ∧ Bs w B vb a.b ∧ IsL w B vp a.parts ∧ in64 a.kind ∧ in64 a.n
theorem AcAt.below {w w' : World} {B : Nat} {cs : List Value} {a : Ac} (h : AcAt w B cs a) (hb : Below B w w') : AcAt w' B cs a := by
  obtain ⟨vb, vp, h1, h2, h3, h4⟩ := h
  exact ⟨vb, vp, h1, h2.below hb, h3.below hb, h4⟩
theorem AcAt.more {w : World} {B B' : Nat} {cs : List Value} {a : Ac} (h : AcAt w B cs a) (hB : B ≤ B') : AcAt w B' cs a := by
  obtain ⟨vb, vp, h1, h2, h3, h4⟩ := h
  exact ⟨vb, vp, h1, h2.more hB, h3.more hB, h4⟩
/-- A list of calls in memory, below B. -/
def Acs (w : World) (B : Nat) (v : Value) (l : List Ac) : Prop :=
  ∃ A c, v = .slice A l.length c ∧ l.length ≤ c ∧ (l ≠ [] → ∃ b off, A = some ⟨b, off, none⟩ ∧ b < B ∧ ∀ (i : Nat) (a : Ac), l[i]? = some a → ∃ cs, AcAt w B cs a ∧ ∀ j, j < 5 → w.cell? ⟨b, off + (i * 5 + j), none⟩ = cs[j]?)
theorem AcAt.len {w : World} {B : Nat} {cs : List Value} {a : Ac} (h : AcAt w B cs a) : cs.length = 5 := by
  obtain ⟨vb, vp, rfl, _⟩ := h; rfl
theorem Acs.below {w w' : World} {B : Nat} {v : Value} {l : List Ac} (h : Acs w B v l) (hb : Below B w w') : Acs w' B v l := by
  obtain ⟨A, c, h1, h2, h3⟩ := h
  refine ⟨A, c, h1, h2, fun hne => ?_⟩
  obtain ⟨b, off, e, hlt, h4⟩ := h3 hne
  refine ⟨b, off, e, hlt, fun i a ha => ?_⟩
  obtain ⟨cs, h5, h6⟩ := h4 i a ha
  exact ⟨cs, h5.below hb, fun j hj => (hb.cell (p := ⟨b, off + (i * 5 + j), none⟩) hlt).trans (h6 j hj)⟩
theorem Acs.more {w : World} {B B' : Nat} {v : Value} {l : List Ac} (h : Acs w B v l) (hB : B ≤ B') : Acs w B' v l := by
  obtain ⟨A, c, h1, h2, h3⟩ := h
  refine ⟨A, c, h1, h2, fun hne => ?_⟩
  obtain ⟨b, off, e, hlt, h4⟩ := h3 hne
  refine ⟨b, off, e, by omega, fun i a ha => ?_⟩
  obtain ⟨cs, h5, h6⟩ := h4 i a ha
  exact ⟨cs, h5.more hB, h6⟩
section
variable {H : Type} {enc : TypeId × Value → H}
set_option maxRecDepth 100000 in
/-- Ints, out of a reading. -/
theorem ints_trod {W : World} {sp : Nat → Bool} {fuel : Nat} {v : Value} {x : DataW H × List MemPlace} {t : TypeId} (ht : Try.prog.underlying t = some (.slice 3)) (h : DataW.trod enc Try.prog W 0 sp true fuel t [v] = some x)
    (hlt : ∀ y ∈ x.2, y.block < W.heap.size) : ∃ l : List Int, IsL W W.heap.size v l ∧ l.length ≤ maxLen := by
  have hcell1 : Try.prog.cellsOf 3 = 1 := by kernel_rfl
  rcases open_ints ht Try.underlying3 hcell1 h with ⟨hcs, hx⟩ | ⟨a, len, cap, zs, hcs, _, hl, hm, hz, hx, hcell, hwz⟩
  · simp only [List.cons.injEq, and_true] at hcs
    subst hcs
    exact ⟨[], ⟨none, 0, rfl, Nat.le_refl _, fun h => absurd rfl h⟩, by simp⟩
  · simp only [List.cons.injEq, and_true] at hcs
    subst hcs
    subst hx
    have hle : len ≤ zs.length := by rw [hz]; split <;> omega
    refine ⟨zs.take len, ⟨some a, cap, by simp [Nat.min_eq_left hle], by simp; omega, fun hne => ?_⟩, by simp; omega⟩
    have hn0 : 0 < len := by
      rcases Nat.eq_zero_or_pos len with rfl | h
      · simp at hne
      · exact h
    obtain ⟨b, off, spot⟩ := a
    have hspot : spot = none := spot_none (hcell 0 (by omega))
    subst hspot
    refine ⟨b, off, rfl, hlt (.cell b off) (MemPlace.mem_row.2 ⟨0, by omega, by simp⟩), fun i u hu => ?_⟩
    rw [List.getElem?_take] at hu
    split at hu
    · have hi : i < zs.length := by omega
      have hg : zs.getD i 0 = u := by rw [List.getD_eq_getElem?_getD, hu]; rfl
      have hc := hcell i hi
      rw [hg, add_none] at hc
      exact hc
    · cases hu
/-- What a slice of bytes weighs. -/
theorem bytes_weight {W : World} {sp : Nat → Bool} {fuel B : Nat} {v : Value} {x : DataW H × List MemPlace} {t : TypeId} (ht : Try.prog.underlying t = some (.slice 5)) (h : DataW.trod enc Try.prog W 0 sp true fuel t [v] = some x)
    {l : List UInt8} (hb : Bs W B v l) {R : Nat} (hw : ∀ n ∈ x.1.weights Try.prog t, n ≤ R) : l.length ≤ R := by
  have hcell1 : Try.prog.cellsOf 5 = 1 := by kernel_rfl
  have hbo : Try.prog.bytesOf 5 = 1 := by kernel_rfl
  obtain ⟨A, c, rfl, _, _⟩ := hb
  rcases open_ints ht Try.underlying5 hcell1 h with ⟨hcs, hx⟩ | ⟨a, len, cap, zs, hcs, _, hl, hm, hz, hx, hcell, hwz⟩
  · simp only [List.cons.injEq, Value.slice.injEq, and_true] at hcs
    omega
  · simp only [List.cons.injEq, Value.slice.injEq, and_true] at hcs
    have hle : len ≤ zs.length := by rw [hz]; split <;> omega
    subst hx
    have h1 := hw _ (by simp only [DataW.weights, ht]; exact List.mem_cons_self)
    rw [hbo] at h1
    simp [lits] at h1
    omega
theorem ints_weight {W : World} {sp : Nat → Bool} {fuel B : Nat} {v : Value} {x : DataW H × List MemPlace} {t : TypeId} (ht : Try.prog.underlying t = some (.slice 3)) (h : DataW.trod enc Try.prog W 0 sp true fuel t [v] = some x)
    {l : List Int} (hb : IsL W B v l) {R : Nat} (hw : ∀ n ∈ x.1.weights Try.prog t, n ≤ R) : l.length * 8 ≤ R := by
  have hcell1 : Try.prog.cellsOf 3 = 1 := by kernel_rfl
  have hbo : Try.prog.bytesOf 3 = 8 := by kernel_rfl
  obtain ⟨A, c, rfl, _, _⟩ := hb
  rcases open_ints ht Try.underlying3 hcell1 h with ⟨hcs, hx⟩ | ⟨a, len, cap, zs, hcs, _, hl, hm, hz, hx, hcell, hwz⟩
  · simp only [List.cons.injEq, Value.slice.injEq, and_true] at hcs
    omega
  · simp only [List.cons.injEq, Value.slice.injEq, and_true] at hcs
    have hle : len ≤ zs.length := by rw [hz]; split <;> omega
    subst hx
    have h1 := hw _ (by simp only [DataW.weights, ht]; exact List.mem_cons_self)
    rw [hbo] at h1
    simp [lits] at h1
    omega
/-- The five fields. -/
theorem act_fields : ∃ fs : Array Field, Try.prog.underlying 39 = some (.struct fs) ∧ fs.size = 5 ∧ oneCellFields Try.prog fs = true ∧ (fs.toList.map (·.type)) = [3, 9, 27, 3, 30] :=
  ⟨_, Try.underlying39, rfl, by kernel_rfl, rfl⟩
set_option maxRecDepth 100000 in
theorem act_trod {W : World} {sp : Nat → Bool} {fuel : Nat} {cs : List Value} {x : DataW H × List MemPlace} (h : DataW.trod enc Try.prog W 0 sp true fuel 39 cs = some x) (hlt : ∀ y ∈ x.2, y.block < W.heap.size) :
    ∃ a : Ac, AcAt W W.heap.size cs a ∧ a.name.length ≤ maxLen ∧ ∀ R : Nat, (∀ n ∈ x.1.weights Try.prog 39, n ≤ R) → a.b.length ≤ R ∧ a.parts.length * 8 ≤ R := by
  obtain ⟨fs, hfs, hsz, hone, htys⟩ := act_fields
  obtain ⟨xs, n', _, hx, hcl, hxl, hfd⟩ := DataW.trod_struct hfs h
  have hcl' : cs.length = 5 := hcl
  obtain ⟨c0, c1, c2, c3, c4, hcs⟩ : ∃ c0 c1 c2 c3 c4, cs = [c0, c1, c2, c3, c4] := by
    match cs, hcl' with
    | [c0, c1, c2, c3, c4], _ => exact ⟨c0, c1, c2, c3, c4, rfl⟩
  have hft : ∀ j, j < 5 → ∃ f : Field, fs[j]? = some f ∧ some f.type = ([3, 9, 27, 3, 30] : List TypeId)[j]? := by
    intro j hj
    have h1 : fs[j]? = some (fs[j]'(by omega)) := Array.getElem?_eq_getElem (by omega)
    refine ⟨_, h1, ?_⟩
    rw [← htys, List.getElem?_map, Array.getElem?_toList, h1]
    rfl
  have hat : ∀ j (hj : j < 5) (t : TypeId), ([3, 9, 27, 3, 30] : List TypeId)[j]? = some t → ∃ y, xs[j]? = some y ∧ DataW.trod enc Try.prog W 0 sp true n' t [cs[j]'(by omega)] = some y := by
    intro j hj t ht
    obtain ⟨f, h1, h2⟩ := hft j hj
    rw [ht] at h2
    injection h2 with h2
    have h3 := hfd j f h1
    obtain ⟨h4, h5⟩ := hone_of hone j f h1
    rw [h4, h5, h2] at h3
    have h6 : (cs.drop j).take 1 = [cs[j]'(by omega)] := by
      rw [List.drop_eq_getElem_cons (by omega)]
      rfl
    rw [h6] at h3
    have h7 : xs[j]? = some (xs[j]'(by omega)) := List.getElem?_eq_getElem (by omega)
    exact ⟨_, h7, by rw [h3, h7]⟩
  have hpl : ∀ (j : Nat) y, xs[j]? = some y → ∀ z ∈ y.2, z.block < W.heap.size := fun j y hy z hz => hlt z (by rw [hx]; exact List.mem_flatMap.2 ⟨y, List.mem_of_getElem? hy, hz⟩)
  subst hcs
  obtain ⟨y0, _, g0⟩ := hat 0 (by decide) 3 rfl
  obtain ⟨y1, _, g1⟩ := hat 1 (by decide) 9 rfl
  obtain ⟨y2, e2, g2⟩ := hat 2 (by decide) 27 rfl
  obtain ⟨y3, _, g3⟩ := hat 3 (by decide) 3 rfl
  obtain ⟨y4, e4, g4⟩ := hat 4 (by decide) 30 rfl
  obtain ⟨k, hk, _, hkw⟩ := DataW.trod_int Try.underlying3 g0
  obtain ⟨s, hs, _, hsl⟩ := DataW.trod_string Try.underlying9 g1
  obtain ⟨b, hb, hbl⟩ := bytes_trod Try.underlying27 g2 (hpl 2 y2 e2)
  obtain ⟨n, hn, _, hnw⟩ := DataW.trod_int Try.underlying3 g3
  obtain ⟨p, hp, hpl'⟩ := ints_trod Try.underlying30 g4 (hpl 4 y4 e4)
  simp only [List.getElem_cons_zero, List.getElem_cons_succ, List.cons.injEq, and_true] at hk hs hn hb hp
  simp only [Lit.wf, Bool.and_eq_true, decide_eq_true_eq, show IntKind.i64.min = -9223372036854775808 from rfl, show IntKind.i64.max = 9223372036854775807 from rfl] at hkw hnw
  have hwt : ∀ (j : Nat) (t : TypeId) y, ([3, 9, 27, 3, 30] : List TypeId)[j]? = some t → xs[j]? = some y → ∀ R : Nat, (∀ n ∈ x.1.weights Try.prog 39, n ≤ R) → ∀ n ∈ y.1.weights Try.prog t, n ≤ R := by
    intro j t y ht hy R hR n hn
    refine hR n ?_
    rw [hx]
    simp only [DataW.weights, hfs]
    exact DataW.weights_mem_each (j := j) (t := t) (d := y.1) (by rw [htys]; exact ht) (by rw [List.getElem?_map, hy]; rfl) n hn
  refine ⟨⟨k, s.data.toList, b, n, p⟩, ⟨c2, c4, ?_, hb, hp, hkw, hnw⟩, by rw [Array.length_toList]; exact hsl, fun R hR => ?_⟩
  · rw [hk, hs, hn]
    simp [sv]
  · exact ⟨bytes_weight Try.underlying27 g2 hb (hwt 2 27 y2 rfl e2 R hR), ints_weight Try.underlying30 g4 hp (hwt 4 30 y4 rfl e4 R hR)⟩
end
end Go.Proofs.Ytgmmjnedgaeefaa.Dsk
