/- Texts that the proofs share: Args. -/
import Derived.Test.YtedmogacklbcmaaGreatDoorS18
import Derived.Deep.Slices
import Derived.Deep.Fields
import Derived.ChangeSame
namespace Go.Proofs.YtedmogacklbcmaaGreatDoor
open Go.ChangeShapes Go.WideShapes Go.RowKit Go.Deep
section
variable {H : Type} {enc : TypeId × Value → H}
theorem add_assoc (a : Addr) (i j : Nat) : (a.add i).add j = a.add (i + j) := by
 unfold Addr.add
 by_cases hi : i = 0 <;> by_cases hj : j = 0 <;> simp [hi, hj, Nat.add_assoc]
def Bss (w : World) (B : Nat) (v : Value) (ls : List (List UInt8)) : Prop :=
 ∃ A c, v = .slice A ls.length c ∧ ls.length ≤ c ∧ (ls ≠ [] → ∃ b off, A = some ⟨b, off, none⟩ ∧ b < B ∧ ∀ (i : Nat) (l : List UInt8), ls[i]? = some l → ∃ u, w.cell? ⟨b, off + i, none⟩ = some u ∧ Bs w B u l)
theorem Bss.below {w w' : World} {B : Nat} {v : Value} {ls : List (List UInt8)} (h : Bss w B v ls) (hb : Below B w w') : Bss w' B v ls := by
 obtain ⟨A, c, h1, h2, h3⟩ := h
 refine ⟨A, c, h1, h2, fun hne => ?_⟩
 obtain ⟨b, off, e, hlt, h4⟩ := h3 hne
 refine ⟨b, off, e, hlt, fun i l hl => ?_⟩
 obtain ⟨u, h5, h6⟩ := h4 i l hl
 exact ⟨u, (hb.cell (p := ⟨b, off + i, none⟩) hlt).trans h5, h6.below hb⟩
def Ws (w : World) (B : Nat) (v : Value) (xs : List Nat) : Prop :=
 ∃ A c, v = .slice A xs.length c ∧ xs.length ≤ c ∧ (xs ≠ [] → ∃ b off, A = some ⟨b, off, none⟩ ∧ b < B ∧ ∀ (i : Nat) (x : Nat), xs[i]? = some x → w.cell? ⟨b, off + i, none⟩ = some (.int .u64 (x : Int)))
theorem Ws.below {w w' : World} {B : Nat} {v : Value} {xs : List Nat} (h : Ws w B v xs) (hb : Below B w w') : Ws w' B v xs := by
 obtain ⟨A, c, h1, h2, h3⟩ := h
 refine ⟨A, c, h1, h2, fun hne => ?_⟩
 obtain ⟨b, off, e, hlt, h4⟩ := h3 hne
 exact ⟨b, off, e, hlt, fun i x hx => (hb.cell (p := ⟨b, off + i, none⟩) hlt).trans (h4 i x hx)⟩
def Recs (w : World) (B : Nat) (v : Value) (k n : Nat) (f : Nat → Nat → Int) : Prop :=
 ∃ A c, v = .slice A n c ∧ n ≤ c ∧ (0 < n → ∃ b off, A = some ⟨b, off, none⟩ ∧ b < B ∧ ∀ i, i < n → ∀ j, j < k → w.cell? ⟨b, off + (i * k + j), none⟩ = some (.int .i64 (f i j)))
theorem Recs.below {w w' : World} {B : Nat} {v : Value} {k n : Nat} {f : Nat → Nat → Int} (h : Recs w B v k n f) (hb : Below B w w') : Recs w' B v k n f := by
 obtain ⟨A, c, h1, h2, h3⟩ := h
 refine ⟨A, c, h1, h2, fun hne => ?_⟩
 obtain ⟨b, off, e, hlt, h4⟩ := h3 hne
 exact ⟨b, off, e, hlt, fun i hi j hj => (hb.cell (p := ⟨b, _, none⟩) hlt).trans (h4 i hi j hj)⟩
end
end Go.Proofs.YtedmogacklbcmaaGreatDoor
