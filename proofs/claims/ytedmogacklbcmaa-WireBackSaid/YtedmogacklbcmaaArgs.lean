/- What arguments read as: bytes, lists of bytes, lists of numbers, lists of records of numbers. -/
import Derived.Test.YtedmogacklbcmaaMem
import Derived.Deep.Slices
import Derived.Deep.Fields
import Derived.ChangeSame
namespace Go.Proofs.Ytedmogacklbcmaa
open Go.ChangeShapes Go.WideShapes Go.RowKit Go.Deep

section
variable {H : Type} {enc : TypeId × Value → H}

theorem add_none (b off i : Nat) : (⟨b, off, none⟩ : Addr).add i = ⟨b, off + i, none⟩ := by unfold Addr.add; split <;> simp_all
theorem spot_none {w : World} {a : Addr} {v : Value} (h : w.cell? (a.add 0) = some v) : a.spot = none := by simpa [Addr.add] using World.cell?_spot h
theorem add_assoc (a : Addr) (i j : Nat) : (a.add i).add j = a.add (i + j) := by
  unfold Addr.add
  by_cases hi : i = 0 <;> by_cases hj : j = 0 <;> simp [hi, hj, Nat.add_assoc]

set_option maxRecDepth 100000 in
/-- Bytes, out of a reading. -/
theorem bytes_trod {W : World} {sp : Nat → Bool} {fuel : Nat} {v : Value} {x : DataW H × List MemPlace} {t : TypeId} (ht : Try.prog.underlying t = some (.slice 5)) (h : DataW.trod enc Try.prog W 0 sp true fuel t [v] = some x)
    (hlt : ∀ y ∈ x.2, y.block < W.heap.size) : ∃ l : List UInt8, Bs W W.heap.size v l ∧ l.length ≤ maxLen := by
  have hcell1 : Try.prog.cellsOf 5 = 1 := by kernel_rfl
  rcases open_ints ht Try.underlying5 hcell1 h with ⟨hcs, hx⟩ | ⟨a, len, cap, zs, hcs, _, hl, hm, hz, hx, hcell, hwz⟩
  · simp only [List.cons.injEq, and_true] at hcs
    subst hcs
    exact ⟨[], Bs.nil _ _ _ _, by simp⟩
  · simp only [List.cons.injEq, and_true] at hcs
    subst hcs
    subst hx
    have hle : len ≤ zs.length := by rw [hz]; split <;> omega
    refine ⟨(zs.take len).map fun z => UInt8.ofNat z.toNat, ⟨some a, cap, by simp [Nat.min_eq_left hle], by simp; omega, fun hne => ?_⟩, by simp; omega⟩
    have hn0 : 0 < len := by
      rcases Nat.eq_zero_or_pos len with rfl | h
      · simp at hne
      · exact h
    obtain ⟨b, off, spot⟩ := a
    have hspot : spot = none := spot_none (hcell 0 (by omega))
    subst hspot
    refine ⟨b, off, rfl, hlt (.cell b off) (MemPlace.mem_row.2 ⟨0, by omega, by simp⟩), fun i u hu => ?_⟩
    rw [List.getElem?_map, Option.map_eq_some_iff] at hu
    obtain ⟨z, hz1, rfl⟩ := hu
    rw [List.getElem?_take] at hz1
    split at hz1
    · have hi : i < zs.length := by omega
      have hg : zs.getD i 0 = z := by rw [List.getD_eq_getElem?_getD, hz1]; rfl
      have hc := hcell i hi
      rw [hg] at hc
      have hwf := hwz z (List.mem_of_getElem? hz1)
      simp only [Lit.wf, Bool.and_eq_true, decide_eq_true_eq, show IntKind.u8.min = 0 from rfl, show IntKind.u8.max = 255 from rfl] at hwf
      rw [add_none] at hc
      rw [hc]
      unfold bv
      congr 2
      simp [UInt8.toNat_ofNat']
      omega
    · cases hz1

/-- A list of lists of bytes, in blocks below B. -/
def Bss (w : World) (B : Nat) (v : Value) (ls : List (List UInt8)) : Prop :=
  ∃ A c, v = .slice A ls.length c ∧ ls.length ≤ c ∧ (ls ≠ [] → ∃ b off, A = some ⟨b, off, none⟩ ∧ b < B ∧ ∀ (i : Nat) (l : List UInt8), ls[i]? = some l → ∃ u, w.cell? ⟨b, off + i, none⟩ = some u ∧ Bs w B u l)
theorem Bss.below {w w' : World} {B : Nat} {v : Value} {ls : List (List UInt8)} (h : Bss w B v ls) (hb : Below B w w') : Bss w' B v ls := by
  obtain ⟨A, c, h1, h2, h3⟩ := h
  refine ⟨A, c, h1, h2, fun hne => ?_⟩
  obtain ⟨b, off, e, hlt, h4⟩ := h3 hne
  refine ⟨b, off, e, hlt, fun i l hl => ?_⟩
  obtain ⟨u, h5, h6⟩ := h4 i l hl
  exact ⟨u, (hb.cell (p := ⟨b, off + i, none⟩) hlt).trans h5, h6.below hb⟩

set_option maxRecDepth 100000 in
theorem lists_trod {W : World} {t : TypeId} {base : Nat} {sp : Nat → Bool} {v : Value} {d : DataW H} {ps : List MemPlace} (ht : Try.prog.underlying t = some (.slice 31)) (hok : Value.okWide Try.prog W .any base t v)
    (h : DataW.Trod enc Try.prog W 0 sp true t v d ps) (hlt : ∀ x ∈ ps, x.block < W.heap.size) : ∃ ls : List (List UInt8), Bss W W.heap.size v ls ∧ ls.length ≤ maxLen := by
  obtain ⟨A, n, c, rfl⟩ := okWide_slice ht hok
  obtain ⟨fuel, hf⟩ := h
  have hcell1 : Try.prog.cellsOf 31 = 1 := by kernel_rfl
  rcases open_slice1 ht hcell1 hf with ⟨hcs, hx⟩ | ⟨a, len, cap, m, k, V, D, Pl, hcs, _, hl, hm, hmm, hx, hi⟩
  · simp only [Value.cells, List.cons.injEq, Value.slice.injEq, and_true] at hcs
    obtain ⟨rfl, rfl, rfl⟩ := hcs
    exact ⟨[], ⟨none, 0, rfl, Nat.le_refl _, fun h => absurd rfl h⟩, by simp⟩
  · simp only [Value.cells, List.cons.injEq, Value.slice.injEq, and_true] at hcs
    obtain ⟨rfl, rfl, rfl⟩ := hcs
    simp only [Prod.mk.injEq] at hx
    obtain ⟨rfl, rfl⟩ := hx
    have hle : n ≤ m := by rw [hmm]; split <;> omega
    have hin : ∀ i, i < n → ∃ l : List UInt8, Bs W W.heap.size (V i) l := by
      intro i hin
      obtain ⟨_, h2⟩ := hi i (by omega)
      obtain ⟨l, h3, _⟩ := bytes_trod Try.underlying31 h2 (fun y hy => hlt y (List.mem_append_right _ (List.mem_flatMap.2 ⟨i, List.mem_range.2 (by omega), hy⟩)))
      exact ⟨l, h3⟩
    have hex : ∀ k, k ≤ n → ∃ ls : List (List UInt8), ls.length = k ∧ ∀ (i : Nat) (l : List UInt8), ls[i]? = some l → Bs W W.heap.size (V i) l := by
      intro k
      induction k with
      | zero => exact fun _ => ⟨[], rfl, fun i l h => by simp at h⟩
      | succ k ih =>
        intro hk
        obtain ⟨ls, h1, h2⟩ := ih (by omega)
        obtain ⟨l, h3⟩ := hin k (by omega)
        refine ⟨ls ++ [l], by simp [h1], fun i l' hl' => ?_⟩
        rw [List.getElem?_append] at hl'
        split at hl'
        · exact h2 i l' hl'
        · rename_i hge
          rw [h1] at hl' hge
          cases hik : i - k with
          | zero =>
            rw [hik] at hl'
            simp at hl'
            subst hl'
            have : i = k := by omega
            subst this
            exact h3
          | succ q => rw [hik] at hl'; simp at hl'
    obtain ⟨ls, h1, h2⟩ := hex n (Nat.le_refl _)
    refine ⟨ls, ⟨some a, c, by rw [h1], by omega, fun hne => ?_⟩, by omega⟩
    have hn0 : 0 < n := by
      rcases Nat.eq_zero_or_pos n with rfl | h
      · exact absurd (List.eq_nil_of_length_eq_zero h1) hne
      · exact h
    obtain ⟨b, off, spot⟩ := a
    have hspot : spot = none := spot_none (hi 0 (by omega)).1
    subst hspot
    refine ⟨b, off, rfl, hlt (.cell b off) (List.mem_append_left _ (MemPlace.mem_row.2 ⟨0, by omega, by simp⟩)), fun i l hl' => ?_⟩
    have hin' : i < n := by rw [← h1]; exact (List.getElem?_eq_some_iff.1 hl').1
    have := (hi i (by omega)).1
    rw [add_none] at this
    exact ⟨V i, this, h2 i l hl'⟩

/-- A list of numbers without a sign, in a block below B. -/
def Ws (w : World) (B : Nat) (v : Value) (xs : List Nat) : Prop :=
  ∃ A c, v = .slice A xs.length c ∧ xs.length ≤ c ∧ (xs ≠ [] → ∃ b off, A = some ⟨b, off, none⟩ ∧ b < B ∧ ∀ (i : Nat) (x : Nat), xs[i]? = some x → w.cell? ⟨b, off + i, none⟩ = some (.int .u64 (x : Int)))
theorem Ws.below {w w' : World} {B : Nat} {v : Value} {xs : List Nat} (h : Ws w B v xs) (hb : Below B w w') : Ws w' B v xs := by
  obtain ⟨A, c, h1, h2, h3⟩ := h
  refine ⟨A, c, h1, h2, fun hne => ?_⟩
  obtain ⟨b, off, e, hlt, h4⟩ := h3 hne
  exact ⟨b, off, e, hlt, fun i x hx => (hb.cell (p := ⟨b, off + i, none⟩) hlt).trans (h4 i x hx)⟩

set_option maxRecDepth 100000 in
theorem words_trod {W : World} {t e : TypeId} {base : Nat} {sp : Nat → Bool} {v : Value} {d : DataW H} {ps : List MemPlace} (ht : Try.prog.underlying t = some (.slice e)) (he : Try.prog.underlying e = some (.int .u64)) (hc1 : Try.prog.cellsOf e = 1)
    (hok : Value.okWide Try.prog W .any base t v) (h : DataW.Trod enc Try.prog W 0 sp true t v d ps) (hlt : ∀ x ∈ ps, x.block < W.heap.size) : ∃ xs : List Nat, Ws W W.heap.size v xs ∧ xs.length ≤ maxLen ∧ ∀ x ∈ xs, x < 2 ^ 64 := by
  obtain ⟨A, n, c, rfl⟩ := okWide_slice ht hok
  obtain ⟨fuel, hf⟩ := h
  rcases open_ints ht he hc1 hf with ⟨hcs, hx⟩ | ⟨a, len, cap, zs, hcs, _, hl, hm, hz, hx, hcell, hwz⟩
  · simp only [Value.cells, List.cons.injEq, Value.slice.injEq, and_true] at hcs
    obtain ⟨rfl, rfl, rfl⟩ := hcs
    exact ⟨[], ⟨none, 0, rfl, Nat.le_refl _, fun h => absurd rfl h⟩, by simp, by simp⟩
  · simp only [Value.cells, List.cons.injEq, Value.slice.injEq, and_true] at hcs
    obtain ⟨rfl, rfl, rfl⟩ := hcs
    simp only [Prod.mk.injEq] at hx
    obtain ⟨rfl, rfl⟩ := hx
    have hle : n ≤ zs.length := by rw [hz]; split <;> omega
    have hnn : ∀ z ∈ zs, 0 ≤ z ∧ z < 2 ^ 64 := by
      intro z hz'
      have := hwz z hz'
      simp only [Lit.wf, Bool.and_eq_true, decide_eq_true_eq, show IntKind.u64.min = 0 from rfl, show IntKind.u64.max = 18446744073709551615 from rfl] at this
      omega
    refine ⟨(zs.take n).map Int.toNat, ⟨some a, c, by simp [Nat.min_eq_left hle], by simp; omega, fun hne => ?_⟩, by simp; omega, fun x hx => ?_⟩
    · have hn0 : 0 < n := by
        rcases Nat.eq_zero_or_pos n with rfl | h
        · simp at hne
        · exact h
      obtain ⟨b, off, spot⟩ := a
      have hspot : spot = none := spot_none (hcell 0 (by omega))
      subst hspot
      refine ⟨b, off, rfl, hlt (.cell b off) (MemPlace.mem_row.2 ⟨0, by omega, by simp⟩), fun i u hu => ?_⟩
      rw [List.getElem?_map, Option.map_eq_some_iff] at hu
      obtain ⟨z, hz1, rfl⟩ := hu
      rw [List.getElem?_take] at hz1
      split at hz1
      · have hi : i < zs.length := by omega
        have hg : zs.getD i 0 = z := by rw [List.getD_eq_getElem?_getD, hz1]; rfl
        have hc := hcell i hi
        rw [hg, add_none] at hc
        rw [hc]
        have := hnn z (List.mem_of_getElem? hz1)
        congr 2
        omega
      · cases hz1
    · obtain ⟨z, hz', rfl⟩ := List.mem_map.1 hx
      have := hnn z (List.mem_of_mem_take hz')
      omega

/-- A list of records of k numbers, in a block below B. -/
def Recs (w : World) (B : Nat) (v : Value) (k n : Nat) (f : Nat → Nat → Int) : Prop :=
  ∃ A c, v = .slice A n c ∧ n ≤ c ∧ (0 < n → ∃ b off, A = some ⟨b, off, none⟩ ∧ b < B ∧ ∀ i, i < n → ∀ j, j < k → w.cell? ⟨b, off + (i * k + j), none⟩ = some (.int .i64 (f i j)))
theorem Recs.below {w w' : World} {B : Nat} {v : Value} {k n : Nat} {f : Nat → Nat → Int} (h : Recs w B v k n f) (hb : Below B w w') : Recs w' B v k n f := by
  obtain ⟨A, c, h1, h2, h3⟩ := h
  refine ⟨A, c, h1, h2, fun hne => ?_⟩
  obtain ⟨b, off, e, hlt, h4⟩ := h3 hne
  exact ⟨b, off, e, hlt, fun i hi j hj => (hb.cell (p := ⟨b, _, none⟩) hlt).trans (h4 i hi j hj)⟩

set_option maxRecDepth 100000 in
theorem recs_trod {W : World} {t e : TypeId} {fs : Array Field} {base : Nat} {sp : Nat → Bool} {v : Value} {d : DataW H} {ps : List MemPlace} (ht : Try.prog.underlying t = some (.slice e)) (he : Try.prog.underlying e = some (.struct fs))
    (hpos : 0 < fs.size) (hone : oneCellFields Try.prog fs = true) (hC : Try.prog.cellsOf e = fs.size) (h64 : ∀ (j : Nat) (f : Field), fs[j]? = some f → Try.prog.underlying f.type = some (.int .i64)) (hok : Value.okWide Try.prog W .any base t v)
    (h : DataW.Trod enc Try.prog W 0 sp true t v d ps) (hlt : ∀ x ∈ ps, x.block < W.heap.size) :
    ∃ (n : Nat) (f : Nat → Nat → Int), Recs W W.heap.size v fs.size n f ∧ n ≤ maxLen ∧ ∀ i, i < n → ∀ j, j < fs.size → -9223372036854775808 ≤ f i j ∧ f i j ≤ 9223372036854775807 := by
  obtain ⟨A, n, c, rfl⟩ := okWide_slice ht hok
  obtain ⟨fuel, hf⟩ := h
  rcases open_slice ht hf with ⟨hcs, hx⟩ | ⟨a, len, cap, m, k, D, Pl, hcs, _, hl, hm, hmm, hx, hi⟩
  · simp only [Value.cells, List.cons.injEq, Value.slice.injEq, and_true] at hcs
    obtain ⟨rfl, rfl, rfl⟩ := hcs
    exact ⟨0, fun _ _ => 0, ⟨none, 0, rfl, Nat.le_refl _, fun h => absurd h (by omega)⟩, by omega, fun i hi => absurd hi (by omega)⟩
  · simp only [Value.cells, List.cons.injEq, Value.slice.injEq, and_true] at hcs
    obtain ⟨rfl, rfl, rfl⟩ := hcs
    simp only [Prod.mk.injEq] at hx
    obtain ⟨rfl, rfl⟩ := hx
    have hle : n ≤ m := by rw [hmm]; split <;> omega
    have hin : ∀ i j, ∃ z : Int, i < n → j < fs.size → W.cell? (a.add (i * fs.size + j)) = some (.int .i64 z) ∧ -9223372036854775808 ≤ z ∧ z ≤ 9223372036854775807 := by
      intro i j
      by_cases hin : i < n
      · by_cases hjn : j < fs.size
        · obtain ⟨cs', hc, ht'⟩ := hi i (by omega)
          rw [hC] at hc
          obtain ⟨ys, n', _, _, _, hyl, hfd⟩ := DataW.trod_struct he ht'
          obtain ⟨_, hcl, hat⟩ := World.cells?_some hc
          have hj : fs[j]? = some fs[j] := Array.getElem?_eq_getElem hjn
          obtain ⟨ho, hk⟩ := hone_of hone j _ hj
          have h1 := hfd j _ hj
          rw [ho, hk] at h1
          have hone' : (cs'.drop j).take 1 = [cs'[j]'(by omega)] := by
            rw [List.drop_eq_getElem_cons (by omega)]
            rfl
          rw [hone', List.getElem?_eq_getElem (by omega)] at h1
          obtain ⟨z, hz, _, hwf⟩ := DataW.trod_int (h64 j _ hj) h1
          simp only [Lit.wf, Bool.and_eq_true, decide_eq_true_eq] at hwf
          simp only [List.cons.injEq, and_true] at hz
          refine ⟨z, fun _ _ => ⟨?_, hwf⟩⟩
          have := hat j hjn
          rw [List.getElem?_eq_getElem (by omega), hz] at this
          rw [← this]
          rw [add_assoc]
        · exact ⟨0, fun _ h => absurd h hjn⟩
      · exact ⟨0, fun h => absurd h hin⟩
    obtain ⟨g, hg⟩ : ∃ g : Nat → Nat → Int, ∀ i j, i < n → j < fs.size → W.cell? (a.add (i * fs.size + j)) = some (.int .i64 (g i j)) ∧ -9223372036854775808 ≤ g i j ∧ g i j ≤ 9223372036854775807 :=
      ⟨fun i j => (hin i j).choose, fun i j h1 h2 => (hin i j).choose_spec h1 h2⟩
    refine ⟨n, g, ⟨some a, c, rfl, hl, fun hn0 => ?_⟩, by omega, fun i hi' j hj => (hg i j hi' hj).2⟩
    obtain ⟨b, off, spot⟩ := a
    have hspot : spot = none := by
      have h00 := (hg 0 0 hn0 hpos).1
      rw [Nat.zero_mul] at h00
      exact spot_none h00
    subst hspot
    refine ⟨b, off, rfl, hlt (.cell b off) (List.mem_append_left _ (MemPlace.mem_row.2 ⟨0, by rw [hC]; exact Nat.mul_pos (by omega) hpos, by simp⟩)), fun i hi' j hj => ?_⟩
    have := (hg i j hi' hj).1
    rwa [add_none] at this
end
end Go.Proofs.Ytedmogacklbcmaa
