/- Arguments that are structs of numbers. -/
import Derived.Test.YtedmogacklbcmaaLaw
import Derived.Test.YtedmogacklbcmaaArgs
namespace Go.Proofs.Ytedmogacklbcmaa
open Go.ChangeShapes Go.WideShapes Go.RowKit Go.Deep
section
variable {P : Program} {W : World} {base : Nat}
/-- An argument whose cells are these kinds'. -/
theorem cells_at {t : TypeId} {d : TypeDesc} {v : Value} {ts : List TypeId} (hu : P.underlying t = some d) (hd : (match d with | .struct _ | .array _ _ => true | _ => false) = true) (hc : P.cellTypes P.depth t = some ts) (hn : P.cellsOf t = ts.length)
    (hv : Value.okWide P W .any base t v) : ∃ cs : List Value, v = .agg cs.toArray ∧ cs.length = ts.length ∧ ∀ (i : Nat) (u : TypeId) (x : Value), ts[i]? = some u → cs[i]? = some x → Cell.okWide P W .any base u x := by
  have key : ∃ cs, v = .agg cs ∧ cs.size = P.cellsOf t ∧ Row.okWide P W .any base t cs := by
    unfold Value.okWide at hv
    rw [hu] at hv
    cases d <;> simp at hd <;> exact hv
  obtain ⟨cs, rfl, hsz, ts', hts, _, hcell⟩ := key
  rw [hc] at hts
  injection hts with hts
  subst hts
  refine ⟨cs.toList, rfl, by rw [Array.length_toList, hsz, hn], fun i u x hu' hx => ?_⟩
  obtain ⟨u', h1, h2⟩ := hcell i x (by simpa using hx)
  have hi : i < ts.length := (List.getElem?_eq_some_iff.1 hu').1
  rw [Nat.mod_eq_of_lt hi, hu'] at h1
  injection h1 with h1
  subst h1
  exact h2
theorem cell_int {u : TypeId} {x : Value} {k : IntKind} (he : P.underlying u = some (.int k)) (h : Cell.okWide P W .any base u x) : ∃ z : Int, x = .int k z ∧ k.min ≤ z ∧ z ≤ k.max := by
  unfold Cell.okWide at h
  rw [he] at h
  cases x <;> simp only [Cell.ok, he] at h
  obtain ⟨rfl, hh⟩ := h
  exact ⟨_, rfl, hh⟩
theorem cell_u64 {u : TypeId} {x : Value} (he : P.underlying u = some (.int .u64)) (h : Cell.okWide P W .any base u x) : ∃ n : Nat, x = .int .u64 (n : Int) ∧ n < 2 ^ 64 := by
  obtain ⟨z, rfl, h0, h1⟩ := cell_int he h
  have h0' : (0 : Int) ≤ z := h0
  have h1' : z ≤ 18446744073709551615 := h1
  exact ⟨z.toNat, by congr 1; omega, by omega⟩
/-- A pair of numbers without a sign. -/
theorem pair64_at {t e : TypeId} {fs : Array Field} {v : Value} (hu : P.underlying t = some (.struct fs)) (hc : P.cellTypes P.depth t = some [e, e]) (hn : P.cellsOf t = 2) (he : P.underlying e = some (.int .u64)) (hv : Value.okWide P W .any base t v) :
    ∃ n l : Nat, v = .agg #[.int .u64 (n : Int), .int .u64 (l : Int)] ∧ n < 2 ^ 64 ∧ l < 2 ^ 64 := by
  obtain ⟨cs, rfl, hl, h⟩ := cells_at hu rfl hc hn hv
  match cs, hl with
  | [x, y], _ =>
    obtain ⟨n, rfl, hn⟩ := cell_u64 he (h 0 e _ rfl rfl)
    obtain ⟨l, rfl, hl⟩ := cell_u64 he (h 1 e _ rfl rfl)
    exact ⟨n, l, rfl, hn, hl⟩
end
section
variable {H : Type} {enc : TypeId × Value → H}
/-- A list of records of k numbers, in a block below B. -/
def RecsK (w : World) (B : Nat) (v : Value) (ks : List IntKind) (k n : Nat) (f : Nat → Nat → Int) : Prop :=
  ∃ A c, v = .slice A n c ∧ n ≤ c ∧ (0 < n → ∃ b off, A = some ⟨b, off, none⟩ ∧ b < B ∧ ∀ i, i < n → ∀ j, j < k → w.cell? ⟨b, off + (i * k + j), none⟩ = some (.int (ks.getD j .i64) (f i j)))
theorem RecsK.below {w w' : World} {B : Nat} {v : Value} {ks : List IntKind} {k n : Nat} {f : Nat → Nat → Int} (h : RecsK w B v ks k n f) (hb : Below B w w') : RecsK w' B v ks k n f := by
  obtain ⟨A, c, h1, h2, h3⟩ := h
  refine ⟨A, c, h1, h2, fun hne => ?_⟩
  obtain ⟨b, off, e, hlt, h4⟩ := h3 hne
  exact ⟨b, off, e, hlt, fun i hi j hj => (hb.cell (p := ⟨b, _, none⟩) hlt).trans (h4 i hi j hj)⟩

set_option maxRecDepth 100000 in
theorem recsK_trod {W : World} {t e : TypeId} {fs : Array Field} {base : Nat} {sp : Nat → Bool} {v : Value} {d : DataW H} {ps : List MemPlace} (ht : Try.prog.underlying t = some (.slice e)) (he : Try.prog.underlying e = some (.struct fs))
    (hpos : 0 < fs.size) (hone : oneCellFields Try.prog fs = true) (hC : Try.prog.cellsOf e = fs.size) (ks : List IntKind) (h64 : ∀ (j : Nat) (f : Field), fs[j]? = some f → Try.prog.underlying f.type = some (.int (ks.getD j .i64))) (hok : Value.okWide Try.prog W .any base t v)
    (h : DataW.Trod enc Try.prog W 0 sp true t v d ps) (hlt : ∀ x ∈ ps, x.block < W.heap.size) :
    ∃ (n : Nat) (f : Nat → Nat → Int), RecsK W W.heap.size v ks fs.size n f ∧ n ≤ maxLen ∧ ∀ i, i < n → ∀ j, j < fs.size → (ks.getD j .i64).min ≤ f i j ∧ f i j ≤ (ks.getD j .i64).max := by
  obtain ⟨A, n, c, rfl⟩ := okWide_slice ht hok
  obtain ⟨fuel, hf⟩ := h
  rcases open_slice ht hf with ⟨hcs, hx⟩ | ⟨a, len, cap, m, k, D, Pl, hcs, _, hl, hm, hmm, hx, hi⟩
  · simp only [Value.cells, List.cons.injEq, Value.slice.injEq, and_true] at hcs
    obtain ⟨rfl, rfl, rfl⟩ := hcs
    exact ⟨0, fun _ _ => 0, ⟨none, 0, rfl, Nat.le_refl _, fun h => absurd h (by omega)⟩, by omega, fun i hi => absurd hi (by omega)⟩
  · simp only [Value.cells, List.cons.injEq, Value.slice.injEq, and_true] at hcs
    obtain ⟨rfl, rfl, rfl⟩ := hcs
    simp only [Prod.mk.injEq] at hx
    obtain ⟨rfl, rfl⟩ := hx
    have hle : n ≤ m := by rw [hmm]; split <;> omega
    have hin : ∀ i j, ∃ z : Int, i < n → j < fs.size → W.cell? (a.add (i * fs.size + j)) = some (.int (ks.getD j .i64) z) ∧ (ks.getD j .i64).min ≤ z ∧ z ≤ (ks.getD j .i64).max := by
      intro i j
      by_cases hin : i < n
      · by_cases hjn : j < fs.size
        · obtain ⟨cs', hc, ht'⟩ := hi i (by omega)
          rw [hC] at hc
          obtain ⟨ys, n', _, _, _, hyl, hfd⟩ := DataW.trod_struct he ht'
          obtain ⟨_, hcl, hat⟩ := World.cells?_some hc
          have hj : fs[j]? = some fs[j] := Array.getElem?_eq_getElem hjn
          obtain ⟨ho, hk⟩ := hone_of hone j _ hj
          have h1 := hfd j _ hj
          rw [ho, hk] at h1
          have hone' : (cs'.drop j).take 1 = [cs'[j]'(by omega)] := by
            rw [List.drop_eq_getElem_cons (by omega)]
            rfl
          rw [hone', List.getElem?_eq_getElem (by omega)] at h1
          obtain ⟨z, hz, _, hwf⟩ := DataW.trod_int (h64 j _ hj) h1
          simp only [Lit.wf, Bool.and_eq_true, decide_eq_true_eq] at hwf
          simp only [List.cons.injEq, and_true] at hz
          refine ⟨z, fun _ _ => ⟨?_, hwf⟩⟩
          have := hat j hjn
          rw [List.getElem?_eq_getElem (by omega), hz] at this
          rw [← this]
          rw [add_assoc]
        · exact ⟨0, fun _ h => absurd h hjn⟩
      · exact ⟨0, fun h => absurd h hin⟩
    obtain ⟨g, hg⟩ : ∃ g : Nat → Nat → Int, ∀ i j, i < n → j < fs.size → W.cell? (a.add (i * fs.size + j)) = some (.int (ks.getD j .i64) (g i j)) ∧ (ks.getD j .i64).min ≤ g i j ∧ g i j ≤ (ks.getD j .i64).max :=
      ⟨fun i j => (hin i j).choose, fun i j h1 h2 => (hin i j).choose_spec h1 h2⟩
    refine ⟨n, g, ⟨some a, c, rfl, hl, fun hn0 => ?_⟩, by omega, fun i hi' j hj => (hg i j hi' hj).2⟩
    obtain ⟨b, off, spot⟩ := a
    have hspot : spot = none := by
      have h00 := (hg 0 0 hn0 hpos).1
      rw [Nat.zero_mul] at h00
      exact spot_none h00
    subst hspot
    refine ⟨b, off, rfl, hlt (.cell b off) (List.mem_append_left _ (MemPlace.mem_row.2 ⟨0, by rw [hC]; exact Nat.mul_pos (by omega) hpos, by simp⟩)), fun i hi' j hj => ?_⟩
    have := (hg i j hi' hj).1
    rwa [add_none] at this
end
end Go.Proofs.Ytedmogacklbcmaa
