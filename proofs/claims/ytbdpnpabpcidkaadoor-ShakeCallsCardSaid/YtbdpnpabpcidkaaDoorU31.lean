/- Texts that the proofs share: EvBs. -/
import Derived.Test.YtbdpnpabpcidkaaDoorU19
import Derived.Test.YtbdpnpabpcidkaaDoorU30
namespace Go.Proofs.YtbdpnpabpcidkaaDoor.Ev
open Go.RowKit
def ansSl (P : Program) (n : Nat) (f : FuncId) (args : Array Value) (l : List Blk) : Option (List Value) :=
 match evBody P (evC P n) f args (aw l) with
 | some (.slice (some ⟨i, 0, none⟩) m c, a) => match a.heap.get i with
   | some b => if m ≤ b.cells.length ∧ m ≤ c ∧ b.kind < 2 then some (b.cells.take m) else none
   | none => none
 | _ => none
theorem calls_bs {P : Program} (hm : P.follows .mixedOrders = true) {n : Nat} {f : FuncId} {args args' : Array Value} {cs : List Value} {w : World} {l : List (Blk × BI)} (hl : l.length ≤ 1000000) (hg : ∀ x ∈ l, Given w (fun _ => False) x)
 (h3 : ∀ x ∈ l, x.1.kind = 3) (hargs : VL (pl l) args.toList args'.toList) (h : ansSl P n f args (l.map (·.1)) = some cs) (bs : List UInt8) (hb : cs = bs.map bv) :
 Calls P f args' w fun e w1 => ∃ v, e = .returned v ∧ Bs w1 w1.heap.size v bs ∧ Below w.heap.size w w1 := by
 subst hb
 unfold ansSl at h
 split at h
 · rename_i i m c a1 he
   split at h
   · rename_i b hbl
     split at h
     · rename_i hc
       obtain ⟨hc1, hc2, hk⟩ := hc
       injection h with h
       refine (calls_given hm hl hg (fun i j x y hx _ hk => by have := h3 x (List.mem_of_getElem? hx); omega) hargs he).mono ?_
       rintro e w1 ⟨β1, v', rfl, _, k2, k3⟩
       obtain ⟨a', bi, rfl, hva, k4⟩ := k3.sliceOf
       obtain ⟨_, bi', k5, rfl⟩ := hva
       rw [k4] at k5; injection k5 with k5; subst k5
       obtain ⟨bj, cur, fz, g1, g2, g3, g4, g5, g6, g7, g8⟩ := k2.blk i b hbl hk
       rw [k4] at g1; injection g1 with g1; subst g1
       have hlen : bs.length = m := by
        have := congrArg List.length h
        rw [List.length_take, List.length_map] at this
        omega
       refine ⟨_, rfl, ⟨some ⟨bi.blk, 0, none⟩, c + bi.ext, by rw [hlen, g3]; rfl, by omega, fun _ => ⟨bi.blk, 0, rfl, ?_, fun j u hu => ?_⟩⟩, k2.below.below fun _ h => h⟩
       · rcases Nat.lt_or_ge bi.blk w1.heap.size with h' | h'
         · exact h'
         · rw [Array.getElem?_eq_none h'] at g4; cases g4
       · have hj : b.cells[j]? = some (bv u) := by
          have h2 : (b.cells.take m)[j]? = some (bv u) := by rw [h, List.getElem?_map, hu]; rfl
          rw [List.getElem?_take] at h2
          split at h2
          · exact h2
          · cases h2
         obtain ⟨v', h5, h6⟩ := g8.get hj
         have := h6.flat_eq (v := bv u) rfl
         subst this
         have h7 : cur[j]? = some (bv u) := by
          rw [List.getElem?_take] at h5
          split at h5
          · rw [← Array.getElem?_toList]; exact h5
          · cases h5
         simp only [World.cell?, g4, Nat.zero_add, h7]
         rfl
     · cases h
   · cases h
 · cases h
end Go.Proofs.YtbdpnpabpcidkaaDoor.Ev
