/- Texts that the proofs share: Args. -/
import Derived.Test.YtgmmjnedgaeefaaDoorF19
import Derived.Deep.Slices
import Derived.Deep.Fields
import Derived.ChangeSame
namespace Go.Proofs.YtgmmjnedgaeefaaDoor
open Go.ChangeShapes Go.WideShapes Go.RowKit Go.Deep
section
variable {H : Type} {enc : TypeId × Value → H}
theorem add_none (b off i : Nat) : (⟨b, off, none⟩ : Addr).add i = ⟨b, off + i, none⟩ := by unfold Addr.add; split <;> simp_all
theorem spot_none {w : World} {a : Addr} {v : Value} (h : w.cell? (a.add 0) = some v) : a.spot = none := by simpa [Addr.add] using World.cell?_spot h
theorem add_assoc (a : Addr) (i j : Nat) : (a.add i).add j = a.add (i + j) := by
 unfold Addr.add
 by_cases hi : i = 0 <;> by_cases hj : j = 0 <;> simp [hi, hj, Nat.add_assoc]
set_option maxRecDepth 100000 in
theorem bytes_trod {W : World} {sp : Nat → Bool} {fuel : Nat} {v : Value} {x : DataW H × List MemPlace} {t : TypeId} (ht : Tryd.prog.underlying t = some (.slice 5)) (h : DataW.trod enc Tryd.prog W 0 sp true fuel t [v] = some x)
 (hlt : ∀ y ∈ x.2, y.block < W.heap.size) : ∃ l : List UInt8, Bs W W.heap.size v l ∧ l.length ≤ maxLen := by
 have hcell1 : Tryd.prog.cellsOf 5 = 1 := by kernel_rfl
 rcases open_ints ht Tryd.underlying5 hcell1 h with ⟨hcs, hx⟩ | ⟨a, len, cap, zs, hcs, _, hl, hm, hz, hx, hcell, hwz⟩
 · simp only [List.cons.injEq, and_true] at hcs
   subst hcs
   exact ⟨[], Bs.nil _ _ _ _, by simp⟩
 · simp only [List.cons.injEq, and_true] at hcs
   subst hcs
   subst hx
   have hle : len ≤ zs.length := by rw [hz]; split <;> omega
   refine ⟨(zs.take len).map fun z => UInt8.ofNat z.toNat, ⟨some a, cap, by simp [Nat.min_eq_left hle], by simp; omega, fun hne => ?_⟩, by simp; omega⟩
   have hn0 : 0 < len := by
    rcases Nat.eq_zero_or_pos len with rfl | h
    · simp at hne
    · exact h
   obtain ⟨b, off, spot⟩ := a
   have hspot : spot = none := spot_none (hcell 0 (by omega))
   subst hspot
   refine ⟨b, off, rfl, hlt (.cell b off) (MemPlace.mem_row.2 ⟨0, by omega, by simp⟩), fun i u hu => ?_⟩
   rw [List.getElem?_map, Option.map_eq_some_iff] at hu
   obtain ⟨z, hz1, rfl⟩ := hu
   rw [List.getElem?_take] at hz1
   split at hz1
   · have hi : i < zs.length := by omega
     have hg : zs.getD i 0 = z := by rw [List.getD_eq_getElem?_getD, hz1]; rfl
     have hc := hcell i hi
     rw [hg] at hc
     have hwf := hwz z (List.mem_of_getElem? hz1)
     simp only [Lit.wf, Bool.and_eq_true, decide_eq_true_eq, show IntKind.u8.min = 0 from rfl, show IntKind.u8.max = 255 from rfl] at hwf
     rw [add_none] at hc
     rw [hc]
     unfold bv
     congr 2
     simp [UInt8.toNat_ofNat']
     omega
   · cases hz1
def Bss (w : World) (B : Nat) (v : Value) (ls : List (List UInt8)) : Prop :=
 ∃ A c, v = .slice A ls.length c ∧ ls.length ≤ c ∧ (ls ≠ [] → ∃ b off, A = some ⟨b, off, none⟩ ∧ b < B ∧ ∀ (i : Nat) (l : List UInt8), ls[i]? = some l → ∃ u, w.cell? ⟨b, off + i, none⟩ = some u ∧ Bs w B u l)
theorem Bss.below {w w' : World} {B : Nat} {v : Value} {ls : List (List UInt8)} (h : Bss w B v ls) (hb : Below B w w') : Bss w' B v ls := by
 obtain ⟨A, c, h1, h2, h3⟩ := h
 refine ⟨A, c, h1, h2, fun hne => ?_⟩
 obtain ⟨b, off, e, hlt, h4⟩ := h3 hne
 refine ⟨b, off, e, hlt, fun i l hl => ?_⟩
 obtain ⟨u, h5, h6⟩ := h4 i l hl
 exact ⟨u, (hb.cell (p := ⟨b, off + i, none⟩) hlt).trans h5, h6.below hb⟩
def Ws (w : World) (B : Nat) (v : Value) (xs : List Nat) : Prop :=
 ∃ A c, v = .slice A xs.length c ∧ xs.length ≤ c ∧ (xs ≠ [] → ∃ b off, A = some ⟨b, off, none⟩ ∧ b < B ∧ ∀ (i : Nat) (x : Nat), xs[i]? = some x → w.cell? ⟨b, off + i, none⟩ = some (.int .u64 (x : Int)))
theorem Ws.below {w w' : World} {B : Nat} {v : Value} {xs : List Nat} (h : Ws w B v xs) (hb : Below B w w') : Ws w' B v xs := by
 obtain ⟨A, c, h1, h2, h3⟩ := h
 refine ⟨A, c, h1, h2, fun hne => ?_⟩
 obtain ⟨b, off, e, hlt, h4⟩ := h3 hne
 exact ⟨b, off, e, hlt, fun i x hx => (hb.cell (p := ⟨b, off + i, none⟩) hlt).trans (h4 i x hx)⟩
def Recs (w : World) (B : Nat) (v : Value) (k n : Nat) (f : Nat → Nat → Int) : Prop :=
 ∃ A c, v = .slice A n c ∧ n ≤ c ∧ (0 < n → ∃ b off, A = some ⟨b, off, none⟩ ∧ b < B ∧ ∀ i, i < n → ∀ j, j < k → w.cell? ⟨b, off + (i * k + j), none⟩ = some (.int .i64 (f i j)))
theorem Recs.below {w w' : World} {B : Nat} {v : Value} {k n : Nat} {f : Nat → Nat → Int} (h : Recs w B v k n f) (hb : Below B w w') : Recs w' B v k n f := by
 obtain ⟨A, c, h1, h2, h3⟩ := h
 refine ⟨A, c, h1, h2, fun hne => ?_⟩
 obtain ⟨b, off, e, hlt, h4⟩ := h3 hne
 exact ⟨b, off, e, hlt, fun i hi j hj => (hb.cell (p := ⟨b, _, none⟩) hlt).trans (h4 i hi j hj)⟩
end
end Go.Proofs.YtgmmjnedgaeefaaDoor
