/- Texts that the proofs share: Args. -/
import Derived.Test.YtbdpnpabpcidkaaDoorU18
import Derived.Deep.Slices
import Derived.Deep.Fields
import Derived.ChangeSame
namespace Go.Proofs.YtbdpnpabpcidkaaDoor
open Go.ChangeShapes Go.WideShapes Go.RowKit Go.Deep
section
variable {H : Type} {enc : TypeId × Value → H}
theorem add_none (b off i : Nat) : (⟨b, off, none⟩ : Addr).add i = ⟨b, off + i, none⟩ := by unfold Addr.add; split <;> simp_all
theorem spot_none {w : World} {a : Addr} {v : Value} (h : w.cell? (a.add 0) = some v) : a.spot = none := by simpa [Addr.add] using World.cell?_spot h
theorem add_assoc (a : Addr) (i j : Nat) : (a.add i).add j = a.add (i + j) := by
 unfold Addr.add
 by_cases hi : i = 0 <;> by_cases hj : j = 0 <;> simp [hi, hj, Nat.add_assoc]
set_option maxRecDepth 100000 in
theorem bytes_trod {W : World} {sp : Nat → Bool} {fuel : Nat} {v : Value} {x : DataW H × List MemPlace} {t : TypeId} (ht : Tryd.prog.underlying t = some (.slice 5)) (h : DataW.trod enc Tryd.prog W 0 sp true fuel t [v] = some x)
 (hlt : ∀ y ∈ x.2, y.block < W.heap.size) : ∃ l : List UInt8, Bs W W.heap.size v l ∧ l.length ≤ maxLen := by
 have hcell1 : Tryd.prog.cellsOf 5 = 1 := by kernel_rfl
 rcases open_ints ht Tryd.underlying5 hcell1 h with ⟨hcs, hx⟩ | ⟨a, len, cap, zs, hcs, _, hl, hm, hz, hx, hcell, hwz⟩
 · simp only [List.cons.injEq, and_true] at hcs
   subst hcs
   exact ⟨[], Bs.nil _ _ _ _, by simp⟩
 · simp only [List.cons.injEq, and_true] at hcs
   subst hcs
   subst hx
   have hle : len ≤ zs.length := by rw [hz]; split <;> omega
   refine ⟨(zs.take len).map fun z => UInt8.ofNat z.toNat, ⟨some a, cap, by simp [Nat.min_eq_left hle], by simp; omega, fun hne => ?_⟩, by simp; omega⟩
   have hn0 : 0 < len := by
    rcases Nat.eq_zero_or_pos len with rfl | h
    · simp at hne
    · exact h
   obtain ⟨b, off, spot⟩ := a
   have hspot : spot = none := spot_none (hcell 0 (by omega))
   subst hspot
   refine ⟨b, off, rfl, hlt (.cell b off) (MemPlace.mem_row.2 ⟨0, by omega, by simp⟩), fun i u hu => ?_⟩
   rw [List.getElem?_map, Option.map_eq_some_iff] at hu
   obtain ⟨z, hz1, rfl⟩ := hu
   rw [List.getElem?_take] at hz1
   split at hz1
   · have hi : i < zs.length := by omega
     have hg : zs.getD i 0 = z := by rw [List.getD_eq_getElem?_getD, hz1]; rfl
     have hc := hcell i hi
     rw [hg] at hc
     have hwf := hwz z (List.mem_of_getElem? hz1)
     simp only [Lit.wf, Bool.and_eq_true, decide_eq_true_eq, show IntKind.u8.min = 0 from rfl, show IntKind.u8.max = 255 from rfl] at hwf
     rw [add_none] at hc
     rw [hc]
     unfold bv
     congr 2
     simp [UInt8.toNat_ofNat']
     omega
   · cases hz1
def Bss (w : World) (B : Nat) (v : Value) (ls : List (List UInt8)) : Prop :=
 ∃ A c, v = .slice A ls.length c ∧ ls.length ≤ c ∧ (ls ≠ [] → ∃ b off, A = some ⟨b, off, none⟩ ∧ b < B ∧ ∀ (i : Nat) (l : List UInt8), ls[i]? = some l → ∃ u, w.cell? ⟨b, off + i, none⟩ = some u ∧ Bs w B u l)
theorem Bss.below {w w' : World} {B : Nat} {v : Value} {ls : List (List UInt8)} (h : Bss w B v ls) (hb : Below B w w') : Bss w' B v ls := by
 obtain ⟨A, c, h1, h2, h3⟩ := h
 refine ⟨A, c, h1, h2, fun hne => ?_⟩
 obtain ⟨b, off, e, hlt, h4⟩ := h3 hne
 refine ⟨b, off, e, hlt, fun i l hl => ?_⟩
 obtain ⟨u, h5, h6⟩ := h4 i l hl
 exact ⟨u, (hb.cell (p := ⟨b, off + i, none⟩) hlt).trans h5, h6.below hb⟩
set_option maxRecDepth 100000 in
theorem lists_trod {W : World} {t : TypeId} {base : Nat} {sp : Nat → Bool} {v : Value} {d : DataW H} {ps : List MemPlace} (ht : Tryd.prog.underlying t = some (.slice 23)) (hok : Value.okWide Tryd.prog W .any base t v)
 (h : DataW.Trod enc Tryd.prog W 0 sp true t v d ps) (hlt : ∀ x ∈ ps, x.block < W.heap.size) : ∃ ls : List (List UInt8), Bss W W.heap.size v ls ∧ ls.length ≤ maxLen := by
 obtain ⟨A, n, c, rfl⟩ := okWide_slice ht hok
 obtain ⟨fuel, hf⟩ := h
 have hcell1 : Tryd.prog.cellsOf 23 = 1 := by kernel_rfl
 rcases open_slice1 ht hcell1 hf with ⟨hcs, hx⟩ | ⟨a, len, cap, m, k, V, D, Pl, hcs, _, hl, hm, hmm, hx, hi⟩
 · simp only [Value.cells, List.cons.injEq, Value.slice.injEq, and_true] at hcs
   obtain ⟨rfl, rfl, rfl⟩ := hcs
   exact ⟨[], ⟨none, 0, rfl, Nat.le_refl _, fun h => absurd rfl h⟩, by simp⟩
 · simp only [Value.cells, List.cons.injEq, Value.slice.injEq, and_true] at hcs
   obtain ⟨rfl, rfl, rfl⟩ := hcs
   simp only [Prod.mk.injEq] at hx
   obtain ⟨rfl, rfl⟩ := hx
   have hle : n ≤ m := by rw [hmm]; split <;> omega
   have hin : ∀ i, i < n → ∃ l : List UInt8, Bs W W.heap.size (V i) l := by
    intro i hin
    obtain ⟨_, h2⟩ := hi i (by omega)
    obtain ⟨l, h3, _⟩ := bytes_trod Tryd.underlying23 h2 (fun y hy => hlt y (List.mem_append_right _ (List.mem_flatMap.2 ⟨i, List.mem_range.2 (by omega), hy⟩)))
    exact ⟨l, h3⟩
   have hex : ∀ k, k ≤ n → ∃ ls : List (List UInt8), ls.length = k ∧ ∀ (i : Nat) (l : List UInt8), ls[i]? = some l → Bs W W.heap.size (V i) l := by
    intro k
    induction k with
    | zero => exact fun _ => ⟨[], rfl, fun i l h => by simp at h⟩
    | succ k ih =>
      intro hk
      obtain ⟨ls, h1, h2⟩ := ih (by omega)
      obtain ⟨l, h3⟩ := hin k (by omega)
      refine ⟨ls ++ [l], by simp [h1], fun i l' hl' => ?_⟩
      rw [List.getElem?_append] at hl'
      split at hl'
      · exact h2 i l' hl'
      · rename_i hge
        rw [h1] at hl' hge
        cases hik : i - k with
        | zero =>
          rw [hik] at hl'
          simp at hl'
          subst hl'
          have : i = k := by omega
          subst this
          exact h3
        | succ q => rw [hik] at hl'; simp at hl'
   obtain ⟨ls, h1, h2⟩ := hex n (Nat.le_refl _)
   refine ⟨ls, ⟨some a, c, by rw [h1], by omega, fun hne => ?_⟩, by omega⟩
   have hn0 : 0 < n := by
    rcases Nat.eq_zero_or_pos n with rfl | h
    · exact absurd (List.eq_nil_of_length_eq_zero h1) hne
    · exact h
   obtain ⟨b, off, spot⟩ := a
   have hspot : spot = none := spot_none (hi 0 (by omega)).1
   subst hspot
   refine ⟨b, off, rfl, hlt (.cell b off) (List.mem_append_left _ (MemPlace.mem_row.2 ⟨0, by omega, by simp⟩)), fun i l hl' => ?_⟩
   have hin' : i < n := by rw [← h1]; exact (List.getElem?_eq_some_iff.1 hl').1
   have := (hi i (by omega)).1
   rw [add_none] at this
   exact ⟨V i, this, h2 i l hl'⟩
def Ws (w : World) (B : Nat) (v : Value) (xs : List Nat) : Prop :=
 ∃ A c, v = .slice A xs.length c ∧ xs.length ≤ c ∧ (xs ≠ [] → ∃ b off, A = some ⟨b, off, none⟩ ∧ b < B ∧ ∀ (i : Nat) (x : Nat), xs[i]? = some x → w.cell? ⟨b, off + i, none⟩ = some (.int .u64 (x : Int)))
theorem Ws.below {w w' : World} {B : Nat} {v : Value} {xs : List Nat} (h : Ws w B v xs) (hb : Below B w w') : Ws w' B v xs := by
 obtain ⟨A, c, h1, h2, h3⟩ := h
 refine ⟨A, c, h1, h2, fun hne => ?_⟩
 obtain ⟨b, off, e, hlt, h4⟩ := h3 hne
 exact ⟨b, off, e, hlt, fun i x hx => (hb.cell (p := ⟨b, off + i, none⟩) hlt).trans (h4 i x hx)⟩
def Recs (w : World) (B : Nat) (v : Value) (k n : Nat) (f : Nat → Nat → Int) : Prop :=
 ∃ A c, v = .slice A n c ∧ n ≤ c ∧ (0 < n → ∃ b off, A = some ⟨b, off, none⟩ ∧ b < B ∧ ∀ i, i < n → ∀ j, j < k → w.cell? ⟨b, off + (i * k + j), none⟩ = some (.int .i64 (f i j)))
theorem Recs.below {w w' : World} {B : Nat} {v : Value} {k n : Nat} {f : Nat → Nat → Int} (h : Recs w B v k n f) (hb : Below B w w') : Recs w' B v k n f := by
 obtain ⟨A, c, h1, h2, h3⟩ := h
 refine ⟨A, c, h1, h2, fun hne => ?_⟩
 obtain ⟨b, off, e, hlt, h4⟩ := h3 hne
 exact ⟨b, off, e, hlt, fun i hi j hj => (hb.cell (p := ⟨b, _, none⟩) hlt).trans (h4 i hi j hj)⟩
end
end Go.Proofs.YtbdpnpabpcidkaaDoor
