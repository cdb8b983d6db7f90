/- window: lists of numbers, rows of numbers of the call's own; which numbers are left. -/
import Derived.Test.YtnpmlbpnlflkkaaWinAny
import Derived.Test.YtnpmlbpnlflkkaaArgs
namespace Go.Proofs.Ytnpmlbpnlflkkaa.Win
open Go.ChangeShapes Go.WideShapes Go.RowKit Go.Deep
section
variable {H : Type} {enc : TypeId × Value → H}
/-- A list of numbers with a sign, in a block below B. -/
def Zs (w : World) (B : Nat) (v : Value) (n : Nat) (z : Nat → Int) : Prop :=
  ∃ A c, v = .slice A n c ∧ (0 < n → ∃ b off, A = some ⟨b, off, none⟩ ∧ b < B ∧ ∀ i, i < n → w.cell? ⟨b, off + i, none⟩ = some (.int .i64 (z i)))
theorem ints_trod {W : World} {t : TypeId} {base : Nat} {sp : Nat → Bool} {v : Value} {d : DataW H} {ps : List MemPlace} (ht : Try.prog.underlying t = some (.slice 3))
    (hok : Value.okWide Try.prog W .any base t v) (h : DataW.Trod enc Try.prog W 0 sp true t v d ps) (hlt : ∀ x ∈ ps, x.block < W.heap.size) : ∃ n z, Zs W W.heap.size v n z ∧ n ≤ maxLen ∧ ∀ i, i < n → -9223372036854775808 ≤ z i ∧ z i ≤ 9223372036854775807 := by
  have hc1 : Try.prog.cellsOf 3 = 1 := by kernel_rfl
  obtain ⟨A, n, c, rfl⟩ := okWide_slice ht hok
  obtain ⟨fuel, hf⟩ := h
  rcases open_ints ht Try.underlying3 hc1 hf with ⟨hcs, hx⟩ | ⟨a, len, cap, zs, hcs, _, hl, hm, hz, hx, hcell, hwz⟩
  · simp only [Value.cells, List.cons.injEq, Value.slice.injEq, and_true] at hcs
    obtain ⟨rfl, rfl, rfl⟩ := hcs
    exact ⟨0, fun _ => 0, ⟨none, 0, rfl, fun h => absurd h (by omega)⟩, by simp, fun i hi => absurd hi (by omega)⟩
  · simp only [Value.cells, List.cons.injEq, Value.slice.injEq, and_true] at hcs
    obtain ⟨rfl, rfl, rfl⟩ := hcs
    simp only [Prod.mk.injEq] at hx
    obtain ⟨rfl, rfl⟩ := hx
    have hle : n ≤ zs.length := by rw [hz]; split <;> omega
    refine ⟨n, fun i => zs.getD i 0, ⟨some a, c, rfl, fun hn0 => ?_⟩, by omega, fun i hi => ?_⟩
    · obtain ⟨b, off, spot⟩ := a
      have hspot : spot = none := spot_none (hcell 0 (by omega))
      subst hspot
      refine ⟨b, off, rfl, hlt (.cell b off) (MemPlace.mem_row.2 ⟨0, by omega, by simp⟩), fun i hi => ?_⟩
      have hc := hcell i (by omega)
      rw [add_none] at hc
      exact hc
    · have hi' : i < zs.length := by omega
      have := hwz (zs.getD i 0) (by rw [List.getD_eq_getElem?_getD, List.getElem?_eq_getElem hi']; exact List.getElem_mem hi')
      simp only [Lit.wf, Bool.and_eq_true, decide_eq_true_eq, show IntKind.i64.min = -9223372036854775808 from rfl, show IntKind.i64.max = 9223372036854775807 from rfl] at this
      exact this
end
/-- A row of the call's own, as cells. -/
theorem own_row {w : World} {base n : Nat} {v : Value} {xs : List Value} {e : TypeId} (h : w.ownsRow base e 1 v n xs) (hn : 0 < n) :
    ∃ g cap cs, v = .slice (some ⟨g, 0, none⟩) n cap ∧ base ≤ g ∧ Row w g cs e ∧ ∀ (j : Nat) (x : Value), xs[j]? = some x → cs[j]? = some x := by
  rcases h.2 with ⟨rfl, hl⟩ | ⟨g, cap, cur, rfl, hbg, hg, hnc, _⟩
  · omega
  · refine ⟨g, cap, cur.toList, rfl, hbg, by unfold Row; simpa using hg, fun j x hx => ?_⟩
    have hc := h.cells (g := g) rfl j x hx
    rw [show (⟨g, 0, none⟩ : Addr).add j = ⟨g, j, none⟩ by unfold Addr.add; split <;> simp_all] at hc
    have h2 : Row w g cur.toList e := by unfold Row; simpa using hg
    cases hq : cur.toList[j]? with
    | none =>
      exfalso
      simp [World.cell?, hg] at hc
      simp at hq
      rw [Array.getElem?_eq_none_iff.2 (by omega)] at hc
      simp at hc
    | some y =>
      have := h2.cell hq
      rw [this] at hc
      exact hc
/-- The numbers in their order: all of them between, no two alike. -/
structure Good (o : Nat → Nat) (n F : Nat) : Prop where
  lo : ∀ j, j < n → F < o j ∧ o j ≤ F + n
  inj : ∀ a b, a < n → b < n → o a = o b → a = b
def swap (o : Nat → Nat) (i k : Nat) : Nat → Nat := fun j => if j = k then o i else if j = i then o k else o j
theorem Good.swap {o : Nat → Nat} {n F i k : Nat} (h : Good o n F) (hi : i < n) (hk : k < n) : Good (Win.swap o i k) n F := by
  constructor
  · intro j hj
    unfold Win.swap
    split
    · exact h.lo i hi
    split
    · exact h.lo k hk
    · exact h.lo j hj
  · intro a b ha hb hab
    have va : ∀ x, (x = k ∧ Win.swap o i k x = o i) ∨ (x ≠ k ∧ x = i ∧ Win.swap o i k x = o k) ∨ (x ≠ k ∧ x ≠ i ∧ Win.swap o i k x = o x) := by
      intro x
      unfold Win.swap
      by_cases h1 : x = k
      · left; exact ⟨h1, if_pos h1⟩
      · right
        rw [if_neg h1]
        by_cases h2 : x = i
        · left; exact ⟨h1, h2, if_pos h2⟩
        · right; exact ⟨h1, h2, if_neg h2⟩
    rcases va a with ⟨e1, v1⟩ | ⟨e1, e2, v1⟩ | ⟨e1, e2, v1⟩ <;> rcases va b with ⟨e3, v2⟩ | ⟨e3, e4, v2⟩ | ⟨e3, e4, v2⟩ <;> rw [v1, v2] at hab <;> first | omega | (have := h.inj _ _ (by omega) (by omega) hab; omega)
/-- The cells of a row are these numbers. -/
def Nums (cs : List Value) (o : Nat → Nat) (n : Nat) : Prop := ∀ j, j < n → cs[j]? = some (.int .u64 (o j : Int))
theorem Nums.swap {cs : List Value} {o : Nat → Nat} {n i k : Nat} (h : Nums cs o n) (hi : i < n) (hk : k < n) : Nums ((cs.set i (.int .u64 (o k : Int))).set k (.int .u64 (o i : Int))) (Win.swap o i k) n := by
  intro j hj
  have hl : ∀ a, a < n → a < cs.length := fun a ha => (List.getElem?_eq_some_iff.1 (h a ha)).1
  have li := hl i hi
  have lk := hl k hk
  unfold Win.swap
  rw [List.getElem?_set]
  by_cases h1 : k = j
  · subst h1
    rw [if_pos rfl, if_pos (by rw [List.length_set]; exact lk), if_pos rfl]
  · rw [if_neg h1, if_neg (by omega), List.getElem?_set]
    by_cases h2 : i = j
    · subst h2
      rw [if_pos rfl, if_pos li, if_pos rfl]
    · rw [if_neg h2, if_neg (by omega)]
      exact h j hj
/-- What was seen came before. -/
def Came (t s : Nat) (o : Nat → Nat) (i : Nat) : Prop := ∀ x, seen t s x = true → ∃ j, j < i ∧ o j = x
theorem Came.more {t s i : Nat} {o : Nat → Nat} (h : Came t s o i) : Came t s o (i + 1) := fun x hx => by
  obtain ⟨j, hj, e⟩ := h x hx
  exact ⟨j, by omega, e⟩
theorem Came.take {f t s l i : Nat} {o : Nat → Nat} (h : Came t s o i) (hF : Fits f t s l) (hr : ref f t s l (o i) = 0) : Came (takeT t (o i)) (takeS t s (o i)) o (i + 1) := fun x hx => by
  rw [seen_take hF hr] at hx
  rcases hx with rfl | ⟨hx, _⟩
  · exact ⟨i, by omega, rfl⟩
  · exact h.more x hx
/-- A number that comes for the first time is taken, or it is too old. -/
theorem ref_first {f t s l i n F : Nat} {o : Nat → Nat} (hk : Ok f t s l) (hF : F < 1125899906842624) (hn : n < 200) (hf : f = 1 + F) (hl : l = F + n + 2) (hg : Good o n F) (hi : i < n) (hc : Came t s o i) :
    ref f t s l (o i) = 0 ∨ (ref f t s l (o i) = 8 ∧ o i ≤ t ∧ 64 ≤ t - o i) := by
  obtain ⟨h1, h2⟩ := hg.lo i hi
  have hs : seen t s (o i) = false := by
    cases hq : seen t s (o i) with
    | false => rfl
    | true =>
      obtain ⟨j, hj, e⟩ := hc (o i) hq
      have := hg.inj j i (by omega) hi e
      omega
  unfold ref
  rw [if_neg (by simpa using hk), if_neg (by omega)]
  by_cases ho : o i < f ∨ (o i ≤ t ∧ 64 ≤ t - o i)
  · rw [if_pos ho]
    exact .inr ⟨rfl, by omega, by omega⟩
  · rw [if_neg ho, if_neg (by rw [hs]; simp), if_neg (by omega)]
    exact .inl rfl
/-- A number that was taken is there. -/
theorem ref_again {f t s l n : Nat} (hF : Fits f t s l) (hr : ref f t s l n = 0) : ref f (takeT t n) (takeS t s n) l n = 7 := by
  have hk := ok_take hF hr
  have hs := seen_self hF hr
  obtain ⟨_, h1, h2, h3, h4, _, h6⟩ := ref_ok hr
  unfold ref
  rw [if_neg (by simpa using hk), if_neg (by omega), if_neg, if_pos hs]
  rw [takeT_max]
  omega
end Go.Proofs.Ytnpmlbpnlflkkaa.Win
