/- Texts that the proofs share: PktArgs. -/
import Derived.Test.YtgmmjnedgaeefaaDoorF31
import Derived.Test.YtgmmjnedgaeefaaDoorF44
namespace Go.Proofs.YtgmmjnedgaeefaaDoor.Pkt
open Go.ChangeShapes Go.WideShapes Go.RowKit Go.Deep
section
variable {H : Type} {enc : TypeId × Value → H}
set_option maxRecDepth 100000 in
theorem cells_bytes {W : World} {base : Nat} (L : List Value) (h : ∀ (i : Nat) (x : Value), L[i]? = some x → Cell.okWide Tryd.prog W .any base 5 x) : ∃ l : List UInt8, L = l.map bv := by
 refine list_choose bv L fun x hx => ?_
 obtain ⟨i, hi⟩ := List.getElem?_of_mem hx
 obtain ⟨z, rfl, h0, h1⟩ := cell_int Tryd.underlying5 (h i x hi)
 have h0' : (0 : Int) ≤ z := h0
 have h1' : z ≤ 255 := h1
 refine ⟨UInt8.ofNat z.toNat, ?_⟩
 have : ((UInt8.ofNat z.toNat).toNat : Int) = z := by rw [UInt8.toNat_ofNat']; omega
 exact congrArg (Value.int .u8) this.symm
def pkTs : List TypeId := 3 :: 3 :: 36 :: 37 :: 36 :: (List.replicate 16 5 ++ (List.replicate 16 5 ++ [23]))
theorem pkTs_at (k i : Nat) (h1 : 5 ≤ k) (h2 : k + i < 37) : pkTs[k + i]? = some 5 := by
 have h : ∀ j, j < 37 → 5 ≤ j → pkTs[j]? = some 5 := by decide
 exact h _ h2 (by omega)
set_option maxRecDepth 100000 in
theorem packet_at {W : World} {base : Nat} {sp : Nat → Bool} {v : Value} {d : DataW H} {ps : List MemPlace} (hok : Value.okWide Tryd.prog W .any base 40 v)
 (h : DataW.Trod enc Tryd.prog W 0 sp true 40 v d ps) (hlt : ∀ x ∈ ps, x.block < W.heap.size) :
 ∃ (p : Pk) (m : List UInt8) (A : Option Addr) (c : Nat), v = p.val ∧ p.In ∧ p.bo = .slice A m.length c ∧ Bs W W.heap.size p.bo m ∧ m.length < 9223372036854775808 ∧
   (-9223372036854775808 ≤ p.kind ∧ p.kind ≤ 9223372036854775807) ∧ (-9223372036854775808 ≤ p.peer ∧ p.peer ≤ 9223372036854775807) := by
 obtain ⟨cs, rfl, hl, hc⟩ := cells_at (ts := pkTs) Tryd.underlying40 rfl (by kernel_rfl) (by kernel_rfl) hok
 have hl' : cs.length = 38 := hl
 match cs, hl' with
 | c0 :: c1 :: c2 :: c3 :: c4 :: R, hR =>
   have hR' : R.length = 33 := by simpa using hR
   obtain ⟨k, rfl, k0, k1⟩ := cell_int Tryd.underlying3 (hc 0 3 c0 rfl rfl)
   obtain ⟨z, rfl, z0, z1⟩ := cell_int Tryd.underlying3 (hc 1 3 c1 rfl rfl)
   obtain ⟨s, rfl, hs⟩ := cell_u64 Tryd.underlying36 (hc 2 36 c2 rfl rfl)
   obtain ⟨e, rfl, e0, e1⟩ := cell_int Tryd.underlying37 (hc 3 37 c3 rfl rfl)
   obtain ⟨n, rfl, hn⟩ := cell_u64 Tryd.underlying36 (hc 4 36 c4 rfl rfl)
   have e0' : (0 : Int) ≤ e := e0
   have e1' : e ≤ 4294967295 := e1
   obtain ⟨e, rfl⟩ : ∃ m : Nat, e = (m : Int) := ⟨e.toNat, by omega⟩
   obtain ⟨r, hr⟩ := cells_bytes (W := W) (base := base) (R.take 16) fun i x hx => by
    rw [List.getElem?_take] at hx
    split at hx
    · exact hc (5 + i) 5 x (pkTs_at 5 i (by omega) (by omega)) (by rw [show 5 + i = i + 1 + 1 + 1 + 1 + 1 by omega]; exact hx)
    · cases hx
   obtain ⟨q, hq⟩ := cells_bytes (W := W) (base := base) ((R.drop 16).take 16) fun i x hx => by
    rw [List.getElem?_take] at hx
    split at hx
    · rw [List.getElem?_drop] at hx
      exact hc (21 + i) 5 x (pkTs_at 21 i (by omega) (by omega)) (by rw [show 21 + i = (16 + i) + 1 + 1 + 1 + 1 + 1 by omega]; exact hx)
    · cases hx
   obtain ⟨b, hb⟩ : ∃ b, R.drop 32 = [b] := by
    have h1 : (R.drop 32).length = 1 := by rw [List.length_drop, hR']
    match hd : R.drop 32, h1 with
    | [b], _ => exact ⟨b, rfl⟩
   have hcs : R = r.map bv ++ (q.map bv ++ [b]) := by
    rw [← hr, ← hq, ← hb, show R.drop 32 = (R.drop 16).drop 16 by rw [List.drop_drop], List.take_append_drop, List.take_append_drop]
   have hrl : r.length = 16 := by
    have := congrArg List.length hr
    rw [List.length_take, hR', List.length_map] at this
    exact this.symm
   have hql : q.length = 16 := by
    have := congrArg List.length hq
    rw [List.length_take, List.length_drop, hR', List.length_map] at this
    exact this.symm
   obtain ⟨fuel, hf⟩ := h
   obtain ⟨xs, n', _, hx, _, hxl, hfd⟩ := DataW.trod_struct Tryd.underlying40 hf
   have h7 := hfd 7 _ rfl
   have hx7 : ∃ y, xs[7]? = some y := ⟨_, List.getElem?_eq_getElem (by rw [hxl]; decide)⟩
   obtain ⟨y, hy⟩ := hx7
   rw [hy] at h7
   have hb1 : ((Value.agg (Value.int .i64 k :: .int .i64 z :: .int .u64 (s : Int) :: .int .u32 (e : Int) :: .int .u64 (n : Int) :: R).toArray).cells.toList.drop 37).take 1 = [b] := by
    show ((R.drop 32).take 1) = [b]
    rw [hb]
    rfl
   have h7' : DataW.trod enc Tryd.prog W 0 sp true n' 23 [b] = some y := by rw [← hb1]; exact h7
   simp only [Prod.mk.injEq] at hx
   obtain ⟨m, hm, hml⟩ := bytes_trod Tryd.underlying23 h7' (fun x hx' => hlt x (by rw [hx.2]; exact List.mem_flatMap.2 ⟨y, List.mem_of_getElem? hy, hx'⟩))
   have hm' := hm
   obtain ⟨A, c, rfl, _, _⟩ := hm'
   refine ⟨⟨k, z, s, e, n, r, q, .slice A m.length c⟩, m, A, c, ?_, ⟨⟨hrl, hql, rfl⟩, hs, by show e < _; omega, hn⟩, rfl, hm, by unfold maxLen at hml; omega, ⟨k0, k1⟩, ⟨z0, z1⟩⟩
   rw [hcs]
   rfl
end
end Go.Proofs.YtgmmjnedgaeefaaDoor.Pkt
