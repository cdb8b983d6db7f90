/- Lists of numbers in memory that an append beside them leaves alone; rows that grow. -/
import Derived.Test.YtiogadhgbkpemaaOctMake
import Derived.Test.YtiogadhgbkpemaaRow
namespace Go.Proofs.Ytiogadhgbkpemaa.Num
open Go.RowKit
section
variable {w w' : World} {row row2 : Option Nat} {v : Value} {ns : List Nat}
/-- A slice that reads as these numbers, outside of a row. -/
def U64s (w : World) (row : Option Nat) (v : Value) (ns : List Nat) : Prop :=
  ∃ A c, v = .slice A ns.length c ∧ ns.length ≤ c ∧ (ns ≠ [] → ∃ b off, A = some ⟨b, off, none⟩ ∧ b < w.heap.size ∧ row ≠ some b ∧ ∀ (i n : Nat), ns[i]? = some n → w.cell? ⟨b, off + i, none⟩ = some (.int .u64 (n : Int)))
theorem U64s.grown (h : U64s w row v ns) (hg : w.grownBy w' row) : U64s w' row v ns := by
  obtain ⟨A, c, h1, h2, h3⟩ := h
  refine ⟨A, c, h1, h2, fun hne => ?_⟩
  obtain ⟨b, off, e, hlt, hr, hc⟩ := h3 hne
  exact ⟨b, off, e, Nat.lt_of_lt_of_le hlt hg.size, hr, fun i n hn => (World.cell?_of_block (a := ⟨b, off + i, none⟩) (hg.block b hlt (fun e => hr e.symm))).trans (hc i n hn)⟩
theorem U64s.turn (h : U64s w row v ns) (hr : row2 = row ∨ ∃ g, row2 = some g ∧ w.heap.size ≤ g) : U64s w row2 v ns := by
  obtain ⟨A, c, h1, h2, h3⟩ := h
  refine ⟨A, c, h1, h2, fun hne => ?_⟩
  obtain ⟨b, off, e, hlt, hrr, hc⟩ := h3 hne
  refine ⟨b, off, e, hlt, ?_, hc⟩
  rcases hr with rfl | ⟨g, rfl, hg⟩
  · exact hrr
  · intro e2
    injection e2 with e2
    omega
theorem U64s.shape (h : U64s w row v ns) : ∃ A c, v = .slice A ns.length c ∧ ns.length ≤ c := by
  obtain ⟨A, c, h1, h2, _⟩ := h
  exact ⟨A, c, h1, h2⟩
theorem U64s.at {A : Option Addr} {n c : Nat} (h : U64s w row (.slice A n c) ns) {i x : Nat} (hx : ns[i]? = some x) : ∃ b off, A = some ⟨b, off, none⟩ ∧ w.cell? ⟨b, off + i, none⟩ = some (.int .u64 (x : Int)) := by
  obtain ⟨A', c', e, _, h3⟩ := h
  simp only [Value.slice.injEq] at e
  obtain ⟨rfl, _, rfl⟩ := e
  obtain ⟨b, off, e, _, _, hc⟩ := h3 (by intro e; rw [e] at hx; simp at hx)
  exact ⟨b, off, e, hc i x hx⟩
end
def u64v (n : Nat) : Value := .int .u64 (n : Int)
/-- A new row of numbers. -/
theorem u64s_new {w : World} {g : Nat} {t : TypeId} {ns : List Nat} {row : Option Nat} (h : Row w g (ns.map u64v) t) (hr : row ≠ some g) : U64s w row (.slice (some ⟨g, 0, none⟩) ns.length ns.length) ns := by
  refine ⟨_, _, rfl, Nat.le_refl _, fun _ => ⟨g, 0, rfl, h.lt, hr, fun i n hn => h.cell ?_⟩⟩
  rw [Nat.zero_add, List.getElem?_map, hn]
  rfl
/-- The bytes of numbers. -/
def encs (ns : List Nat) : List UInt8 := ns.flatMap Oct.enc
theorem encs_take {ns : List Nat} {k n : Nat} (h : ns[k]? = some n) : encs (ns.take (k + 1)) = encs (ns.take k) ++ Oct.enc n := by
  unfold encs
  rw [List.take_add_one, h, List.flatMap_append]
  simp
theorem enc_le {n : Nat} (h : n < 2 ^ 64) : (Oct.enc n).length ≤ 9 := by
  rw [Oct.enc_length]
  have := (Oct.nsize_spec n h).1
  omega
theorem encs_le : ∀ {ns : List Nat}, (∀ n ∈ ns, n < 2 ^ 64) → (encs ns).length ≤ 9 * ns.length
  | [], _ => by simp [encs]
  | x :: r, h => by
    have h1 := encs_le (ns := r) fun n hn => h n (List.mem_cons_of_mem _ hn)
    have h2 := enc_le (h x List.mem_cons_self)
    show (Oct.enc x ++ encs r).length ≤ _
    rw [List.length_append, List.length_cons]
    omega
/-- A row of one's own that grew: in place, or somewhere new. -/
structure Grow (w w' : World) (v v' : Value) (base : Nat) (l : List UInt8) : Prop where
  own : Own w' base v' l
  keep : w.grownBy w' v.ownBlock
  blk : v'.ownBlock = v.ownBlock ∨ ∃ g, v'.ownBlock = some g ∧ w.heap.size ≤ g
theorem grown_trans {a b c : World} {row row' : Option Nat} (h : a.grownBy b row) (h2 : b.grownBy c row') (hr : row' = row ∨ ∃ g, row' = some g ∧ a.heap.size ≤ g) : a.grownBy c row := by
  refine ⟨h2.os.trans h.os, h2.tape.trans h.tape, h2.output.trans h.output, Nat.le_trans h.size h2.size, fun i hi hne => (h2.block i (Nat.lt_of_lt_of_le hi h.size) ?_).trans (h.block i hi hne)⟩
  rcases hr with rfl | ⟨g, rfl, hg⟩
  · exact hne
  · intro e
    injection e with e
    omega
theorem Grow.refl {w : World} {v : Value} {base : Nat} {l : List UInt8} (h : Own w base v l) : Grow w w v v base l := ⟨h, ⟨rfl, rfl, rfl, Nat.le_refl _, fun _ _ _ => rfl⟩, .inl rfl⟩
theorem Grow.trans {a b c : World} {v v' v'' : Value} {base : Nat} {l l' : List UInt8} (h : Grow a b v v' base l) (k : Grow b c v' v'' base l') : Grow a c v v'' base l' := by
  refine ⟨k.own, grown_trans h.keep k.keep h.blk, ?_⟩
  rcases k.blk with e | ⟨g, e, hg⟩
  · rw [e]; exact h.blk
  · exact .inr ⟨g, e, Nat.le_trans h.keep.size hg⟩
theorem only_below {a w : World} (h : Below a.heap.size a w) (row : Option Nat) : a.grownBy w row := ⟨h.os, h.tape, h.output, h.size, fun i hi _ => h.block i hi⟩
/-- Something new beside it. -/
theorem Grow.below {a b c : World} {v v' : Value} {base : Nat} {l : List UInt8} (h : Grow a b v v' base l) (k : Below b.heap.size b c) : Grow a c v v' base l :=
  ⟨h.own.below k (Nat.le_refl _), grown_trans h.keep (only_below k v.ownBlock) (.inl rfl), h.blk⟩
/-- Below the base nothing has turned. -/
theorem Grow.under {a b : World} {v v' : Value} {base B : Nat} {l l0 : List UInt8} (h : Grow a b v v' base l) (h0 : Own a base v l0) (hB : B ≤ base) (hBa : B ≤ a.heap.size) : Below B a b :=
  ⟨h.keep.os, h.keep.tape, h.keep.output, h.keep.size, fun i hi => h.keep.block i (by omega) fun e => by have := (h0.block_ge e.symm).1; omega⟩
end Go.Proofs.Ytiogadhgbkpemaa.Num
