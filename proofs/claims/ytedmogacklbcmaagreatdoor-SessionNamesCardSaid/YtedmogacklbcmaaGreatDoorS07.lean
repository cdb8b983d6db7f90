/- Texts that the proofs share: EvApp. -/
import Derived.Test.YtedmogacklbcmaaGreatDoorS06
namespace Go.Proofs.YtedmogacklbcmaaGreatDoor
namespace Ev
open Go.RowKit
section
variable {P : Program} {w0 : Base} {β : Pl}
theorem add_off {a : Addr} (h : a.spot = none) (j : Nat) : a.add j = ⟨a.block, a.off + j, none⟩ := by
 obtain ⟨b, o, s⟩ := a
 simp only at h; subst h
 unfold Addr.add
 by_cases hj : j = 0
 · simp [hj]
 · simp [hj]
theorem src_sound {a : AW} {w : World} (he : EmbR P w0 β a w) {size n : Nat} {x x' : Value} {new : List Value} (hx : VR β x x') (hs : srcCells a size x = some (n, new)) :
 ∃ new', VL β new new' ∧ new.length = n * size ∧ (∀ W : World, (Builtin.lenOf x').run P W = .ok n W) ∧
   ∀ k, k ≤ n → ∀ W : World, W.heap = w.heap → (Builtin.firstCells size k x').run P W = .ok (new'.take (k * size)).toArray W := by
 unfold srcCells at hs
 split at hs
 · simp only [Option.some.injEq, Prod.mk.injEq] at hs
   obtain ⟨rfl, rfl⟩ := hs
   have := hx.flat_eq (v := .slice none 0 0) rfl
   subst this
   refine ⟨[], .nil β, by simp, fun W => rfl, fun k _ W _ => ?_⟩
   simp [Builtin.firstCells]
 · rename_i p m c
   split at hs
   · rename_i b hsp hb
     split at hs
     · rename_i hc
       simp only [Option.some.injEq, Prod.mk.injEq] at hs
       obtain ⟨rfl, rfl⟩ := hs
       obtain ⟨p', bi, rfl, hp, hbi⟩ := hx.sliceOf
       obtain ⟨cs, g8, g4⟩ := he.cells hb hc.1 hbi
       obtain ⟨_, bk, hbk, rfl⟩ := hp
       rw [hbi] at hbk; injection hbk with hbk; subst hbk
       have hlen : (cs.drop p.off).length = b.cells.length - p.off := by
        simp only [List.length_drop]; rw [g8.1]
       refine ⟨(cs.drop p.off).take (m * size), (g8.drop _).take _, ?_, fun W => rfl, fun k hk W hW => ?_⟩
       · simp only [List.length_take, List.length_drop]; omega
       · have hk2 : k * size ≤ m * size := Nat.mul_le_mul_right _ hk
         rw [List.take_take, Nat.min_eq_left hk2]
         have hl2 : ((cs.drop p.off).take (k * size)).length = k * size := by
          rw [List.length_take, hlen]; omega
         refine run_firstCells_some W size k _ m (c + bi.ext) _ hl2 ?_
         intro j v hj
         rw [List.getElem?_take] at hj
         split at hj
         · rename_i hjk
           rw [List.getElem?_drop] at hj
           rw [add_off rfl]
           have := g4 _ v hj
           simp only [World.cell?, hW] at this ⊢
           rwa [Nat.add_assoc]
         · cases hj
     · cases hs
   · cases hs
 · rename_i s
   split at hs
   · rename_i h1
     simp only [Option.some.injEq, Prod.mk.injEq] at hs
     obtain ⟨rfl, rfl⟩ := hs
     have := hx.flat_eq (v := .string s) rfl
     subst this
     subst h1
     refine ⟨_, .of_flat fun v hv => ?_, ?_, fun W => rfl, fun k hk W _ => ?_⟩
     · simp only [List.mem_map] at hv
       obtain ⟨b, _, rfl⟩ := hv
       rfl
     · simp
     · simp only [Builtin.firstCells, Sem.run_pure, Nat.mul_one]
       congr 1
       apply Array.ext'
       simp [ByteArray.data_extract]
   · cases hs
 · cases hs
theorem store_all {a1 : AW} {p p' : Addr} (hp : VA β p p') : ∀ (l l' : List Value) (i : Nat) {a : AW} {w : World}, Emb P w0 β a w → (∀ v ∈ l, v.oneCell' = true) → VL β l l' → storeAll a p l i = some a1 →
 ∃ w1, (storeCells p' l' i).run P w = .ok () w1 ∧ Emb P w0 β a1 w1 := by
 intro l
 induction l with
 | nil =>
   intro l' i a w he _ hl h
   have : l' = [] := List.eq_nil_of_length_eq_zero (by simpa using hl.1.symm)
   subst this
   simp only [storeAll, Option.some.injEq] at h
   subst h
   exact ⟨w, rfl, he⟩
 | cons v r ih =>
   intro l' i a w he ho hl h
   cases l' with
   | nil => have := hl.1; simp at this
   | cons v' r' =>
     simp only [storeAll] at h
     cases hc : a.setCell (p.add i) v with
     | none => rw [hc] at h; cases h
     | some a2 =>
       rw [hc] at h
       obtain ⟨k1, ⟨u, k2⟩, k3⟩ := he.setCell (hp.add i) hl.head hc
       obtain ⟨w1, k4, k5⟩ := ih r' (i + 1) k3 (fun v hv => ho v (List.mem_cons_of_mem _ hv)) hl.tail h
       refine ⟨w1, ?_, k5⟩
       simp only [storeCells, Sem.run_bind]
       rw [run_store P w _ _ _ (hl.head.one (ho v (List.mem_cons_self ..))), k2]
       simp only [k1, Bool.false_eq_true, if_false, Result.andThen_ok]
       exact k4
theorem run_append_fit {ty1 ty2 ty e : TypeId} {d : TypeDesc} {i : TypeInfo} (hu1 : P.underlying ty1 = some (.slice e)) (hu2 : P.underlying ty2 = some d) (hd : d = .string ∨ ∃ e2, d = .slice e2) (hi : P.info? e = some i)
 {x : Value} {n m c : Nat} {base : Option Addr} {w : World} {new : Array Value} (hlen : (Builtin.lenOf x).run P w = .ok n w) (hnew : (Builtin.firstCells i.size n x).run P w = .ok new w) (hfit : m + n ≤ c) :
 (Builtin.append_ #[ty1, ty2] ty #[.slice base m c, x]).run P w = (match base with
  | some a => (storeCells (a.add (m * i.size)) new.toList).run P w
  | none => .ok () w).andThen fun _ w' => .ok (.slice base (m + n) c) w' := by
 rcases hd with rfl | ⟨e2, rfl⟩ <;> cases base <;> simp [Builtin.append_, run_underlying hu1, run_underlying hu2, sizeOf, typeInfo, hi, hlen, hnew, hfit]
theorem run_append_more {ty1 ty2 ty e : TypeId} {d : TypeDesc} {i : TypeInfo} {z : Value} (hu1 : P.underlying ty1 = some (.slice e)) (hu2 : P.underlying ty2 = some d) (hd : d = .string ∨ ∃ e2, d = .slice e2) (hi : P.info? e = some i) (hz : i.zero = some z)
 {x : Value} {n m c : Nat} {base : Option Addr} {w : World} {new old : Array Value} (hlen : (Builtin.lenOf x).run P w = .ok n w)
 (hnew : (Builtin.firstCells i.size n x).run P w.drew = .ok new w.drew) (hold : (Builtin.firstCells i.size m (.slice base m c)).run P w.drew = .ok old w.drew)
 (hfit : ¬ m + n ≤ c) (hb : i.bytes ≤ 100000) (hn : m + n ≤ 1000000) :
 (Builtin.append_ #[ty1, ty2] ty #[.slice base m c, x]).run P w =
  .ok (.slice (some ⟨w.heap.size, 0, none⟩) (m + n) (grownCap w (m + n) c e)) (w.drew.alloc (.cells (old ++ new ++ Builtin.zeroCells z.cells (grownCap w (m + n) c e - (m + n))) e)) := by
 have h63 : ¬ (9223372036854775807 < ((m : Int) + (n : Int))) := by omega
 have hle : Builtin.nextslicecap (m + n) c * i.bytes ≤ 281474976710656 := by
  refine growslice_fits (by omega) ?_
  have : (m + n) * i.bytes ≤ 1000000 * 100000 := Nat.mul_le_mul hn hb
  omega
 have h48 : ¬ (281474976710656 < Builtin.nextslicecap (m + n) c * i.bytes) := by omega
 rcases hd with rfl | ⟨e2, rfl⟩ <;> simp [Builtin.append_, run_underlying hu1, run_underlying hu2, sizeOf, typeInfo, zeroValue, hi, hz, hlen, hfit, h63, h48, Question.forced, hnew, hold, newRow, grownCap]
theorem zflat_zero {e : TypeId} {i : TypeInfo} (h : zflat P e = true) (hi : P.info? e = some i) : ∃ z, i.zero = some z ∧ flat z = true ∧ z.cells.size = i.size := by
 unfold zflat at h
 rw [hi] at h
 simp only at h
 cases hz : i.zero with
 | none => rw [hz] at h; cases h
 | some z =>
   rw [hz] at h
   simp only [Bool.and_eq_true, beq_iff_eq] at h
   exact ⟨z, rfl, h.1, h.2⟩
theorem Emb.drew {a : AW} {w : World} (he : Emb P w0 β a w) : Emb P w0 β a w.drew := .mk' he.below.drew he.fresh he.blk he.inj he.imp he.kinds (he.maps.keep (Le.refl β) (fun _ _ _ h _ _ => h) fun _ _ _ h => h)
theorem Emb.kill {a a1 : AW} {w : World} (he : Emb P w0 β a w) {i : Nat} {b : Blk} (hb : a.heap.get i = some b) (hk0 : b.kind < 2) (h : a.upd i { b with kind := 2 } = some a1) :
 Emb P w0 β a1 w ∧ a1.next = a.next ∧ ∀ j, a1.heap.get j = if j = i then some { b with kind := 2 } else a.heap.get j := by
 unfold AW.upd at h
 split at h
 · rename_i hp la hput hla
   injection h with h; subst h
   have hget := Tr.get_put hput
   refine ⟨.mk' he.below ?_ ?_ ?_ ?_ ?_ ?_, rfl, hget⟩
   · intro j hj
     obtain ⟨g1, g2⟩ := he.fresh j hj
     refine ⟨?_, g2⟩
     rw [hget, if_neg]
     · exact g1
     · rintro rfl; rw [g1] at hb; cases hb
   · intro j c hj hk
     rw [hget] at hj
     split at hj
     · injection hj with hj; subst hj; simp at hk
     · exact he.blk j c hj hk
   · intro j k c d bj bk hj hkc hk hkd hbj hbk hblk
     rw [hget] at hj hk
     split at hj
     · injection hj with hj; subst hj; simp at hkc
     · split at hk
       · injection hk with hk; subst hk; simp at hkd
       · exact he.inj j k c d bj bk hj hkc hk hkd hbj hbk hblk
   · intro j c hj hk
     rw [hget] at hj
     split at hj
     · injection hj with hj; subst hj; simp at hk
     · exact he.imp j c hj hk
   · intro j c hj
     rw [hget] at hj
     split at hj
     · injection hj with hj; subst hj; simp
     · exact he.kinds j c hj
   · refine he.maps.keep (Le.refl β) (fun j c l hj hk2 hcl => ?_) fun _ _ _ h => h
     rw [hget] at hj
     split at hj
     · injection hj with hj; subst hj
       obtain ⟨_, _, _, _, _, _, _, _, _, _, q8⟩ := he.blk i b hb hk0
       simp only at hcl
       rw [hcl] at q8
       exact (not_mark q8).elim
     · exact hj
 · cases h
theorem store_raw {g : Nat} {e : TypeId} {fz : Nat × Nat} : ∀ (l : List Value) (off i : Nat) (cur : Array Value) (w : World), w.heap[g]? = some (.cells cur e fz) → (fz.1 = fz.2 ∨ cur.size ≤ fz.1) → off + i + l.length ≤ cur.size → (∀ v ∈ l, v.oneCell' = true) →
 ∃ w1 cur1, (storeCells ⟨g, off, none⟩ l i).run P w = .ok () w1 ∧ w1.heap[g]? = some (.cells cur1 e fz) ∧ cur1.size = cur.size ∧ cur1.toList.take (off + i) = cur.toList.take (off + i) ∧ (cur1.toList.drop (off + i)).take l.length = l ∧
   w.grownBy w1 (some g) ∧ w1.heap.size = w.heap.size := by
 intro l
 induction l with
 | nil =>
   intro off i cur w hg _ _ _
   exact ⟨w, cur, rfl, hg, rfl, rfl, by simp, ⟨rfl, rfl, rfl, Nat.le_refl _, fun _ _ _ => rfl⟩, rfl⟩
 | cons v r ih =>
   intro off i cur w hg hf hlen ho
   simp only [List.length_cons] at hlen
   have hadd : (⟨g, off, none⟩ : Addr).add i = ⟨g, off + i, none⟩ := add_off rfl i
   have hcell : w.cell? ⟨g, off + i, none⟩ = some (cur[off + i]'(by omega)) := by
    simp [World.cell?, hg, show off + i < cur.size by omega]
   have hfr : w.frozen? ⟨g, off + i, none⟩ = false := by
    obtain ⟨lo, hi⟩ := fz
    simp only at hf
    simp only [World.frozen?, hg]
    rcases hf with hf | hf
    · subst hf; simp
    · simp; omega
   have hset : (w.setCell ⟨g, off + i, none⟩ v).heap[g]? = some (.cells (cur.setIfInBounds (off + i) v) e fz) := by
    simp [World.setCell, Array.getElem?_modify, hg]
   obtain ⟨w1, cur1, k1, k2, k3, k4, k5, k6, k7⟩ := ih off (i + 1) (cur.setIfInBounds (off + i) v) (w.setCell ⟨g, off + i, none⟩ v) hset (by simpa using hf) (by simp; omega) (fun v hv => ho v (List.mem_cons_of_mem _ hv))
   refine ⟨w1, cur1, ?_, k2, by simpa using k3, ?_, ?_, ?_, ?_⟩
   · simp only [storeCells, Sem.run_bind, hadd]
     rw [run_store P w _ v _ (ho v (List.mem_cons_self ..)), hcell]
     simp only [hfr, Bool.false_eq_true, if_false, Result.andThen_ok]
     exact k1
   · have := congrArg (List.take (off + i)) k4
     rw [List.take_take, List.take_take, Nat.min_eq_left (by omega)] at this
     rw [this, Array.toList_setIfInBounds, List.take_set_of_le (by omega)]
   · have h1 : cur1.toList[off + i]? = some v := by
      have := congrArg (fun l => l[off + i]?) k4
      simp only [List.getElem?_take] at this
      rw [if_pos (by omega), if_pos (by omega)] at this
      rw [this]
      simp [show off + i < cur.size by omega]
     have hd : cur1.toList.drop (off + i) = v :: cur1.toList.drop (off + (i + 1)) := by
      have hlt : off + i < cur1.toList.length := (List.getElem?_eq_some_iff.1 h1).1
      rw [List.drop_eq_getElem_cons hlt]
      have := (List.getElem?_eq_some_iff.1 h1).2
      rw [this]; rfl
     rw [hd, List.length_cons, List.take_succ_cons, k5]
   · refine ⟨k6.os, k6.tape, k6.output, by rw [k7]; simp [World.setCell], fun k hk hne => ?_⟩
     rw [k6.block k (by simpa [World.setCell] using hk) hne]
     exact Below.heap_setCell _ _ _ _ (fun e => hne (by subst e; rfl))
   · rw [k7]; simp [World.setCell]
theorem Emb.regrow {a a1 a2 : AW} {w w1 : World} (he : Emb P w0 β a w) {i : Nat} {b : Blk} {bi : BI} (hb : a.heap.get i = some b) (hk : b.kind < 2) (hbi : β i = some bi) (hkill : a.upd i { b with kind := 2 } = some a1)
 {l : List Value} {cur1 : Array Value} {fz : Nat × Nat} {ext : Nat} (hg : w1.heap[bi.blk]? = some (.cells cur1 b.elem fz)) (hf : fz.1 = fz.2 ∨ cur1.size ≤ fz.1) (hs : cur1.size = l.length + ext * P.cellsOf b.elem)
 (hl : VL β l (cur1.toList.take l.length)) (hn : a1.new ⟨l, b.elem, 1⟩ = some a2) (hgr : w.grownBy w1 (some bi.blk)) :
 Le β (grow β a.next ⟨bi.blk, 0, ext⟩) ∧ Emb P w0 (grow β a.next ⟨bi.blk, 0, ext⟩) a2 w1 := by
 obtain ⟨he1, hnext, hget⟩ := he.kill hb hk hkill
 obtain ⟨hp, la, cl, hput, rfl⟩ := AW.new_some hn
 have hnone := he.fresh a.next (Nat.le_refl _)
 have hle : Le β (grow β a.next ⟨bi.blk, 0, ext⟩) := .grow hnone.2
 obtain ⟨bj, cur, fz0, g1, g2, g3, g4, _⟩ := he.blk i b hb hk
 rw [hbi] at g1; injection g1 with g1; subst g1
 have hine : i ≠ a.next := by rintro rfl; rw [hnone.1] at hb; cases hb
 have hget2 : ∀ j, hp.get j = if j = a.next then some ⟨l, b.elem, 1⟩ else if j = i then some { b with kind := 2 } else a.heap.get j := by
  intro j
  rw [Tr.get_put hput, hnext]
  split
  · rfl
  · exact hget j
 refine ⟨hle, .mk' ⟨hgr.os.trans he.below.os, hgr.tape.trans he.below.tape, hgr.output.trans he.below.output, Nat.le_trans he.below.size hgr.size, fun k hkk => ?_⟩ ?_ ?_ ?_ ?_ ?_ ?_⟩
 · rw [hgr.block k (Nat.lt_of_lt_of_le (Nat.lt_of_not_le fun e => hkk (.inl e)) he.below.size) (fun e => by injection e with e; exact hkk (by rw [e]; exact g2))]
   exact he.below.block k hkk
 · intro j hj
   rw [hnext] at hj
   obtain ⟨q1, q2⟩ := he.fresh j (by simp at hj; omega)
   refine ⟨?_, ?_⟩
   · rw [hget2, if_neg (by simp at hj; omega), if_neg]
     · exact q1
     · rintro rfl; rw [q1] at hb; cases hb
   · unfold grow; rw [if_neg (by simp at hj; omega)]; exact q2
 · intro j c hj hkc
   rw [hget2] at hj
   by_cases hje : j = a.next
   · rw [if_pos hje] at hj
     injection hj with hj; subst hj
     exact ⟨⟨bi.blk, 0, ext⟩, cur1, fz, by simp [grow, hje], g2, rfl, hg, hf, hs, fun h => by simp at h, hl.mono hle⟩
   · rw [if_neg hje] at hj
     by_cases hji : j = i
     · rw [if_pos hji] at hj; injection hj with hj; subst hj; simp at hkc
     · rw [if_neg hji] at hj
       obtain ⟨bj, cur', fz', q1, q2, q3, q4, q5, q6, q7, q8⟩ := he.blk j c hj hkc
       refine ⟨bj, cur', fz', hle _ _ q1, q2, q3, ?_, q5, q6, q7, q8.mono hle⟩
       have hne : bj.blk ≠ bi.blk := fun e => hji (he.inj j i c b bj bi hj hkc hb hk q1 hbi e)
       rw [hgr.block bj.blk (Array.getElem?_eq_some_iff.1 q4).1 (fun e => hne (by injection e))]
       exact q4
 · intro j k c d bj bk hj hkc hk' hkd hbj hbk hblk
   rw [hget2] at hj hk'
   have small : ∀ j c bj, j ≠ a.next → (if j = a.next then some ⟨l, b.elem, 1⟩ else if j = i then some { b with kind := 2 } else a.heap.get j) = some c → c.kind < 2 → grow β a.next ⟨bi.blk, 0, ext⟩ j = some bj →
    a.heap.get j = some c ∧ β j = some bj ∧ j ≠ i := by
    intro j c bj hne h1 h2 h3
    rw [if_neg hne] at h1
    unfold grow at h3
    rw [if_neg hne] at h3
    by_cases hji : j = i
    · rw [if_pos hji] at h1; injection h1 with h1; subst h1; simp at h2
    · rw [if_neg hji] at h1; exact ⟨h1, h3, hji⟩
   by_cases hje : j = a.next
   · by_cases hke : k = a.next
     · rw [hje, hke]
     · obtain ⟨q1, q2, q3⟩ := small k d bk hke hk' hkd hbk
       simp only [grow, hje, if_true, Option.some.injEq] at hbj
       subst hbj
       exact absurd (he.inj k i d b bk bi q1 hkd hb hk q2 hbi hblk.symm) q3
   · obtain ⟨q1, q2, q3⟩ := small j c bj hje hj hkc hbj
     by_cases hke : k = a.next
     · simp only [grow, hke, if_true, Option.some.injEq] at hbk
       subst hbk
       exact absurd (he.inj j i c b bj bi q1 hkc hb hk q2 hbi hblk) q3
     · obtain ⟨r1, r2, _⟩ := small k d bk hke hk' hkd hbk
       exact he.inj j k c d bj bk q1 hkc r1 hkd q2 r2 hblk
 · intro j c hj hkc
   rw [hget2] at hj
   by_cases hje : j = a.next
   · rw [if_pos hje] at hj; injection hj with hj; subst hj; simp at hkc
   · rw [if_neg hje] at hj
     by_cases hji : j = i
     · rw [if_pos hji] at hj; injection hj with hj; subst hj; simp at hkc
     · rw [if_neg hji] at hj
       obtain ⟨bj, h1, h2, h3⟩ := he.imp j c hj hkc
       exact ⟨bj, hle _ _ h1, h2, fun m v hv => by obtain ⟨v', h4, h5⟩ := h3 m v hv; exact ⟨v', h4, h5.mono hle⟩⟩
 · intro j c hj
   rw [hget2] at hj
   by_cases hje : j = a.next
   · rw [if_pos hje] at hj; injection hj with hj; subst hj; simp
   · rw [if_neg hje] at hj
     by_cases hji : j = i
     · rw [if_pos hji] at hj; injection hj with hj; subst hj; simp
     · rw [if_neg hji] at hj; exact he.kinds j c hj
 · refine he1.maps.keep hle (fun j c l' hj hk2 _ => ?_) fun g es c hg0 => ?_
   · rw [Tr.get_put hput, hnext] at hj
     split at hj
     · injection hj with hj; subst hj; simp at hk2
     · exact hj
   · rw [hgr.block g (Array.getElem?_eq_some_iff.1 hg0).1 (fun e => by injection e with e; subst e; rw [g4] at hg0; cases hg0)]
     exact hg0
theorem size_zero (z : Array Value) (n : Nat) : (Builtin.zeroCells z n).size = n * z.size := by simp [Builtin.zeroCells]
theorem notInt_desc {t : TypeId} (h : notInt P t = true) : ∃ d, P.underlying t = some d ∧ (d = .string ∨ ∃ e2, d = .slice e2) := by
 unfold notInt at h
 split at h
 · rename_i e hu; exact ⟨_, hu, .inr ⟨e, rfl⟩⟩
 · rename_i hu; exact ⟨_, hu, .inl rfl⟩
 · cases h
theorem more_sound {a a1 : AW} {w : World} (he : Emb P w0 β a w) {e : TypeId} {i : TypeInfo} {z : Value} (hi : P.info? e = some i) (hz : z.cells.size = i.size) {l l' : List Value} (hl : VL β l l') {need c : Nat} (_hlen : l.length = need * i.size)
 (hn : a.new ⟨l, e, 1⟩ = some a1) : ∃ β1, Le β β1 ∧ Emb P w0 β1 a1 (w.drew.alloc (.cells (l'.toArray ++ Builtin.zeroCells z.cells (grownCap w need c e - need)) e)) ∧
  VR β1 (.slice (some ⟨a.next, 0, none⟩) need need) (.slice (some ⟨w.heap.size, 0, none⟩) need (grownCap w need c e)) := by
 have hge := grownCap_ge w need c e
 have hsz : P.cellsOf e = i.size := by simp [Program.cellsOf, hi]
 have hcur : (l'.toArray ++ Builtin.zeroCells z.cells (grownCap w need c e - need)).size = l.length + (grownCap w need c e - need) * P.cellsOf e := by
  rw [Array.size_append, size_zero, hsz, hz, List.size_toArray, hl.1]
 obtain ⟨h1, h2⟩ := he.drew.new (k := 1) (fz := (0, 0)) (ext := grownCap w need c e - need) (by omega) (.inl rfl) hcur (fun h => by cases h) (by
  rw [Array.toList_append, List.toList_toArray, hl.1, List.take_left' rfl]; exact hl) hn
 refine ⟨_, h1, h2, ?_⟩
 have hg : grow β a.next ⟨w.drew.heap.size, 0, grownCap w need c e - need⟩ a.next = some ⟨w.heap.size, 0, grownCap w need c e - need⟩ := by unfold grow; rw [if_pos rfl]; rfl
 have := VR.slice (β := grow β a.next ⟨w.drew.heap.size, 0, grownCap w need c e - need⟩) (a := ⟨a.next, 0, none⟩) (a' := ⟨w.heap.size, 0, none⟩) (n := need) (c := need) (bi := ⟨w.heap.size, 0, grownCap w need c e - need⟩) ⟨rfl, _, hg, by simp⟩ hg
 simp only at this
 rw [show need + (grownCap w need c e - need) = grownCap w need c e by omega] at this
 exact this
theorem append_sound {a a1 : AW} {w : World} (he : Emb P w0 β a w) {ty1 ty2 ty : TypeId} {s s' x x' v : Value} (hs : VR β s s') (hx : VR β x x') (hv : evAppend P a ty1 ty2 s x = some (v, a1)) :
 ∃ β1 v' w1, (Builtin.append_ #[ty1, ty2] ty #[s', x']).run P w = .ok v' w1 ∧ Le β β1 ∧ Emb P w0 β1 a1 w1 ∧ VR β1 v v' := by
 unfold evAppend at hv
 split at hv
 case h_2 => cases hv
 rename_i e hu1
 split at hv
 case h_2 => cases hv
 rename_i i hi
 split at hv
 case isFalse => cases hv
 rename_i hcond
 simp only [Bool.and_eq_true, decide_eq_true_eq] at hcond
 obtain ⟨⟨⟨hzf, hni⟩, hby⟩, hpos⟩ := hcond
 obtain ⟨d, hu2, hd⟩ := notInt_desc hni
 obtain ⟨z, hz, hzfl, hzs⟩ := zflat_zero hzf hi
 have hsz : P.cellsOf e = i.size := by simp [Program.cellsOf, hi]
 split at hv
 case h_2 => cases hv
 rename_i n new hsrc
 split at hv
 · cases hv
 rename_i hone
 have hone' : ∀ v ∈ new, v.oneCell' = true := by
  simp only [Bool.not_eq_true, Bool.not_eq_false', List.all_eq_true] at hone
  exact hone
 obtain ⟨new', hnl, hnlen, hlen, hcells⟩ := src_sound he.toEmbR hx hsrc
 have hnl' : new'.length = n * i.size := by rw [← hnl.1]; exact hnlen
 have hnew : ∀ W : World, W.heap = w.heap → (Builtin.firstCells i.size n x').run P W = .ok new'.toArray W := by
  intro W hW
  have := hcells n (Nat.le_refl _) W hW
  rwa [List.take_of_length_le (by omega)] at this
 split at hv
 · -- onto nil
   have := hs.flat_eq (v := .slice none 0 0) rfl
   subst this
   split at hv
   · rename_i h0
     subst h0
     simp only [Option.some.injEq, Prod.mk.injEq] at hv
     obtain ⟨rfl, rfl⟩ := hv
     refine ⟨β, .slice none 0 0, w, ?_, Le.refl β, he, .flat rfl⟩
     rw [run_append_fit hu1 hu2 hd hi (hlen w) (hnew w rfl) (by omega)]
     rfl
   · rename_i h0
     split at hv
     · rename_i hle
       split at hv
       · rename_i a2 hn
         simp only [Option.some.injEq, Prod.mk.injEq] at hv
         obtain ⟨rfl, rfl⟩ := hv
         have hrun := run_append_more (ty := ty) hu1 hu2 hd hi hz (base := none) (m := 0) (c := 0) (old := #[]) (hlen w) (hnew w.drew rfl) (by simp [Builtin.firstCells]) (by omega) hby (by omega)
         obtain ⟨β1, k1, k2, k3⟩ := more_sound he hi hzs hnl (need := n) (c := 0) hnlen hn
         refine ⟨β1, _, _, ?_, k1, k2, k3⟩
         rw [hrun]
         simp
       · cases hv
     · cases hv
 · -- onto a slice
   rename_i p m c
   obtain ⟨p', bi, rfl, hp, hbi⟩ := hs.sliceOf
   split at hv
   · rename_i hfit
     split at hv
     · rename_i a2 hst
       simp only [Option.some.injEq, Prod.mk.injEq] at hv
       obtain ⟨rfl, rfl⟩ := hv
       obtain ⟨w1, k1, k2⟩ := store_all (hp.add (m * i.size)) new new' 0 he hone' hnl hst
       refine ⟨β, .slice (some p') (m + n) (c + bi.ext), w1, ?_, Le.refl β, k2, .slice hp hbi⟩
       rw [run_append_fit hu1 hu2 hd hi (hlen w) (hnew w rfl) (by omega)]
       simp only [k1, Result.andThen_ok]
     · cases hv
   · rename_i hfit
     split at hv
     case h_2 => cases hv
     rename_i b hsp hb
     split at hv
     case isFalse => cases hv
     rename_i hc
     obtain ⟨c1, c2, c3, c4, c5⟩ := hc
     have hold : ∀ hk : b.kind < 2, ∃ old', VL β (b.cells.take (m * i.size)) old' ∧ (b.cells.take (m * i.size)).length = m * i.size ∧ (Builtin.firstCells i.size m (.slice (some p') m (c + bi.ext))).run P w.drew = .ok old'.toArray w.drew := by
      intro hk
      have hmc : m * i.size ≤ c * i.size := Nat.mul_le_mul_right _ c4
      have hsrc2 : srcCells a i.size (.slice (some p) m c) = some (m, (b.cells.drop p.off).take (m * i.size)) := by
       unfold srcCells
       simp only [hsp, hb]
       rw [if_pos ⟨by omega, by omega⟩]
      obtain ⟨old', q1, q2, _, q4⟩ := src_sound he.toEmbR hs hsrc2
      rw [c2, List.drop_zero] at q1 q2
      refine ⟨old', q1, q2, ?_⟩
      have := q4 m (Nat.le_refl _) w.drew rfl
      rwa [List.take_of_length_le (by rw [← q1.1]; omega)] at this
     split at hv
     · rename_i hk0
       obtain ⟨old', q1, q2, q3⟩ := hold (by omega)
       split at hv
       · rename_i a2 hn
         simp only [Option.some.injEq, Prod.mk.injEq] at hv
         obtain ⟨rfl, rfl⟩ := hv
         obtain ⟨bj, cur, fz, g1, g2, g3, g4, g5, g6, g7, g8⟩ := he.blk _ b hb (by omega)
         rw [hbi] at g1; injection g1 with g1; subst g1
         have hext := (g7 hk0).1
         have hrun := run_append_more (ty := ty) hu1 hu2 hd hi hz (hlen w) (hnew w.drew rfl) q3 (by omega) hby c1
         obtain ⟨β1, k1, k2, k3⟩ := more_sound he hi hzs (q1.append hnl) (need := m + n) (c := c + bi.ext) (by rw [List.length_append, q2, hnlen, Nat.add_mul]) hn
         refine ⟨β1, _, _, ?_, k1, k2, k3⟩
         rw [hrun]
         simp
       · cases hv
     · rename_i hk0
       split at hv
       case isFalse => cases hv
       rename_i hk1
       obtain ⟨old', q1, q2, q3⟩ := hold (by omega)
       split at hv
       case h_2 => cases hv
       rename_i a2 hkill
       split at hv
       case h_2 => cases hv
       rename_i a3 hn
       simp only [Option.some.injEq, Prod.mk.injEq] at hv
       obtain ⟨rfl, rfl⟩ := hv
       obtain ⟨bj, cur, fz, g1, g2, g3, g4, g5, g6, g7, g8⟩ := he.blk _ b hb (by omega)
       rw [hbi] at g1; injection g1 with g1; subst g1
       obtain ⟨he1, hnext, hget⟩ := he.kill hb (by omega) hkill
       have hcat : (b.cells.take (m * i.size) ++ new).length = (m + n) * i.size := by rw [List.length_append, q2, hnlen, Nat.add_mul]
       by_cases hroom : m + n ≤ c + bi.ext
       · -- in place
         obtain ⟨_, bk, hbk, rfl⟩ := hp
         rw [hbi] at hbk; injection hbk with hbk; subst hbk
         have hmc : m * i.size ≤ c * i.size := Nat.mul_le_mul_right _ c4
         have hcursz : cur.size = (c + bi.ext) * i.size := by rw [g6, c5, hsz, ← c3, Nat.add_mul]
         have hneed : (m + n) * i.size ≤ (c + bi.ext) * i.size := Nat.mul_le_mul_right _ hroom
         have hadd : (⟨bi.blk, bi.off + p.off, none⟩ : Addr).add (m * i.size) = ⟨bi.blk, m * i.size, none⟩ := by rw [add_off rfl]; simp [g3, c2]
         obtain ⟨w1, cur1, r1, r2, r3, r4, r5, r6, r7⟩ := store_raw (P := P) new' (m * i.size) 0 cur w g4 g5 (by rw [Nat.add_zero, hnl', hcursz, ← Nat.add_mul]; exact hneed) (fun v' hv' => by
          obtain ⟨j, hj⟩ := List.getElem?_of_mem hv'
          have hjl : j < new.length := by rw [hnl.1]; exact (List.getElem?_eq_some_iff.1 hj).1
          exact (hnl.2 j new[j] v' (List.getElem?_eq_getElem hjl) hj).one (hone' _ (List.getElem_mem hjl)))
         simp only [Nat.add_zero] at r4 r5
         have hcells1 : cur1.toList.take ((m + n) * i.size) = cur.toList.take (m * i.size) ++ new' := by
          rw [Nat.add_mul, List.take_add, r4, ← hnl', r5]
         have hold2 : VL β (b.cells.take (m * i.size)) (cur.toList.take (m * i.size)) := by
          have := g8.take (m * i.size)
          rwa [List.take_take, Nat.min_eq_left (by omega)] at this
         have hlv : VL β (b.cells.take (m * i.size) ++ new) (cur1.toList.take (b.cells.take (m * i.size) ++ new).length) := by
          rw [hcat, hcells1]; exact hold2.append hnl
         rw [← c5] at hn
         obtain ⟨k1, k2⟩ := he.regrow hb (by omega) hbi hkill (l := b.cells.take (m * i.size) ++ new) (cur1 := cur1) (fz := fz) (ext := c + bi.ext - (m + n)) r2 (by rw [r3]; exact g5) (by
          rw [hcat, r3, hcursz, c5, hsz, ← Nat.add_mul]; congr 1; omega) hlv hn r6
         refine ⟨_, .slice (some ⟨bi.blk, bi.off + p.off, none⟩) (m + n) (c + bi.ext), w1, ?_, k1, k2, ?_⟩
         · rw [run_append_fit hu1 hu2 hd hi (hlen w) (hnew w rfl) hroom]
           simp only [hadd]
           rw [r1]
           rfl
         · have hgw : grow β a.next ⟨bi.blk, 0, c + bi.ext - (m + n)⟩ a.next = some ⟨bi.blk, 0, c + bi.ext - (m + n)⟩ := by unfold grow; rw [if_pos rfl]
           have := VR.slice (β := grow β a.next ⟨bi.blk, 0, c + bi.ext - (m + n)⟩) (a := ⟨a.next, 0, none⟩) (a' := ⟨bi.blk, bi.off + p.off, none⟩) (n := m + n) (c := m + n) (bi := ⟨bi.blk, 0, c + bi.ext - (m + n)⟩) ⟨rfl, _, hgw, by simp [g3, c2]⟩ hgw
           simp only at this
           rw [show m + n + (c + bi.ext - (m + n)) = c + bi.ext by omega] at this
           exact this
       · -- a new row
         have hrun := run_append_more (ty := ty) hu1 hu2 hd hi hz (hlen w) (hnew w.drew rfl) q3 hroom hby c1
         obtain ⟨β1, k1, k2, k3⟩ := more_sound he1 hi hzs (q1.append hnl) (need := m + n) (c := c + bi.ext) hcat hn
         rw [hnext] at k3
         refine ⟨β1, _, _, ?_, k1, k2, k3⟩
         rw [hrun]
         simp
 · cases hv
theorem copy_sound {a a1 : AW} {w : World} (he : Emb P w0 β a w) {ty1 ty2 ty : TypeId} {s s' x x' v : Value} (hs : VR β s s') (hx : VR β x x') (hv : evCopy P a ty1 s x = some (v, a1)) :
 ∃ v' w1, (Builtin.copy_ #[ty1, ty2] ty #[s', x']).run P w = .ok v' w1 ∧ Emb P w0 β a1 w1 ∧ VR β v v' := by
 unfold evCopy at hv
 split at hv
 case h_2 => cases hv
 rename_i e hu1
 split at hv
 case h_2 => cases hv
 rename_i i hi
 split at hv
 case h_2 => cases hv
 rename_i n new hsrc
 split at hv
 · cases hv
 rename_i hone
 have hone' : ∀ v ∈ new, v.oneCell' = true := by
  simp only [Bool.not_eq_true, Bool.not_eq_false', List.all_eq_true] at hone
  exact hone
 obtain ⟨new', hnl, hnlen, hlen, hcells⟩ := src_sound he.toEmbR hx hsrc
 split at hv
 · have := hs.flat_eq (v := .slice none 0 0) rfl
   subst this
   simp only [Option.some.injEq, Prod.mk.injEq] at hv
   obtain ⟨rfl, rfl⟩ := hv
   refine ⟨.int .i64 0, w, ?_, he, .flat rfl⟩
   have h0 : Nat.min n 0 = 0 := by simp
   have hc0 := hcells 0 (by omega) w rfl
   simp only [Nat.zero_mul, List.take_zero] at hc0
   simp [Builtin.copy_, run_underlying hu1, sizeOf, typeInfo, hi, hlen, hc0, goInt]
 · rename_i p m c
   obtain ⟨p', bi, rfl, hp, hbi⟩ := hs.sliceOf
   split at hv
   · rename_i a2 hst
     simp only [Option.some.injEq, Prod.mk.injEq] at hv
     obtain ⟨rfl, rfl⟩ := hv
     obtain ⟨w1, k1, k2⟩ := store_all hp (new.take (Nat.min n m * i.size)) (new'.take (Nat.min n m * i.size)) 0 he (fun v hv => hone' v (List.mem_of_mem_take hv)) (hnl.take _) hst
     refine ⟨.int .i64 (Nat.min n m), w1, ?_, k2, .flat rfl⟩
     have hc0 := hcells (Nat.min n m) (Nat.min_le_left _ _) w rfl
     simp [Builtin.copy_, run_underlying hu1, sizeOf, typeInfo, hi, hlen, hc0, k1, goInt]
   · cases hv
 · cases hv
end
end Ev
end Go.Proofs.YtedmogacklbcmaaGreatDoor
