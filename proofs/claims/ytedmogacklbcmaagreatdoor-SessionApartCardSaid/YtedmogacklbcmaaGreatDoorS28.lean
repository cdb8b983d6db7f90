/- Texts that the proofs share: Cells. -/
import Derived.Test.YtedmogacklbcmaaGreatDoorS20
import Derived.Test.YtedmogacklbcmaaGreatDoorS27
namespace Go.Proofs.YtedmogacklbcmaaGreatDoor
open Go.ChangeShapes Go.WideShapes Go.RowKit Go.Deep
section
variable {P : Program} {W : World} {base : Nat}
theorem cells_at {t : TypeId} {d : TypeDesc} {v : Value} {ts : List TypeId} (hu : P.underlying t = some d) (hd : (match d with | .struct _ | .array _ _ => true | _ => false) = true) (hc : P.cellTypes P.depth t = some ts) (hn : P.cellsOf t = ts.length)
 (hv : Value.okWide P W .any base t v) : ∃ cs : List Value, v = .agg cs.toArray ∧ cs.length = ts.length ∧ ∀ (i : Nat) (u : TypeId) (x : Value), ts[i]? = some u → cs[i]? = some x → Cell.okWide P W .any base u x := by
 have key : ∃ cs, v = .agg cs ∧ cs.size = P.cellsOf t ∧ Row.okWide P W .any base t cs := by
  unfold Value.okWide at hv
  rw [hu] at hv
  cases d <;> simp at hd <;> exact hv
 obtain ⟨cs, rfl, hsz, ts', hts, _, hcell⟩ := key
 rw [hc] at hts
 injection hts with hts
 subst hts
 refine ⟨cs.toList, rfl, by rw [Array.length_toList, hsz, hn], fun i u x hu' hx => ?_⟩
 obtain ⟨u', h1, h2⟩ := hcell i x (by simpa using hx)
 have hi : i < ts.length := (List.getElem?_eq_some_iff.1 hu').1
 rw [Nat.mod_eq_of_lt hi, hu'] at h1
 injection h1 with h1
 subst h1
 exact h2
theorem cell_int {u : TypeId} {x : Value} {k : IntKind} (he : P.underlying u = some (.int k)) (h : Cell.okWide P W .any base u x) : ∃ z : Int, x = .int k z ∧ k.min ≤ z ∧ z ≤ k.max := by
 unfold Cell.okWide at h
 rw [he] at h
 cases x <;> simp only [Cell.ok, he] at h
 obtain ⟨rfl, hh⟩ := h
 exact ⟨_, rfl, hh⟩
theorem cell_u64 {u : TypeId} {x : Value} (he : P.underlying u = some (.int .u64)) (h : Cell.okWide P W .any base u x) : ∃ n : Nat, x = .int .u64 (n : Int) ∧ n < 2 ^ 64 := by
 obtain ⟨z, rfl, h0, h1⟩ := cell_int he h
 have h0' : (0 : Int) ≤ z := h0
 have h1' : z ≤ 18446744073709551615 := h1
 exact ⟨z.toNat, by congr 1; omega, by omega⟩
end
section
variable {H : Type} {enc : TypeId × Value → H}
def RecsK (w : World) (B : Nat) (v : Value) (ks : List IntKind) (k n : Nat) (f : Nat → Nat → Int) : Prop :=
 ∃ A c, v = .slice A n c ∧ n ≤ c ∧ (0 < n → ∃ b off, A = some ⟨b, off, none⟩ ∧ b < B ∧ ∀ i, i < n → ∀ j, j < k → w.cell? ⟨b, off + (i * k + j), none⟩ = some (.int (ks.getD j .i64) (f i j)))
theorem RecsK.below {w w' : World} {B : Nat} {v : Value} {ks : List IntKind} {k n : Nat} {f : Nat → Nat → Int} (h : RecsK w B v ks k n f) (hb : Below B w w') : RecsK w' B v ks k n f := by
 obtain ⟨A, c, h1, h2, h3⟩ := h
 refine ⟨A, c, h1, h2, fun hne => ?_⟩
 obtain ⟨b, off, e, hlt, h4⟩ := h3 hne
 exact ⟨b, off, e, hlt, fun i hi j hj => (hb.cell (p := ⟨b, _, none⟩) hlt).trans (h4 i hi j hj)⟩
end
end Go.Proofs.YtedmogacklbcmaaGreatDoor
