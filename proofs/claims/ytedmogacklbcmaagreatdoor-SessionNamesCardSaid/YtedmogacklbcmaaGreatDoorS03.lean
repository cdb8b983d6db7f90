/- Texts that the proofs share: EvSim. -/
import Derived.Test.YtedmogacklbcmaaGreatDoorS02
import Derived.Laws.Rows
namespace Go.Proofs.YtedmogacklbcmaaGreatDoor
namespace Ev
open Go.RowKit
section
variable {P : Program} {w0 : Base} {β : Pl}
theorem AW.cell_some {a : AW} {p : Addr} {v : Value} (h : a.cell p = some v) : p.spot = none ∧ ∃ b, a.heap.get p.block = some b ∧ b.kind ≠ 2 ∧ b.cells[p.off]? = some v := by
 unfold AW.cell at h
 split at h
 · rename_i b h1 h2
   split at h
   · rename_i hk; exact ⟨h1, b, h2, hk, h⟩
   · cases h
 · cases h
theorem Keep.cell {b : Base} {w : World} (h : Keep b w) {p : Addr} (hp : ¬ b.Mine p.block) : w.cell? p = b.w.cell? p := World.cell?_of_block (h.block p.block hp)
theorem EmbR.cell {a : AW} {w : World} (he : EmbR P w0 β a w) {p p' : Addr} (hp : VA β p p') {v : Value} (hc : a.cell p = some v) : ∃ v', w.cell? p' = some v' ∧ VR β v v' := by
 obtain ⟨_, b, hb, hk2, hv⟩ := AW.cell_some hc
 obtain ⟨_, bi, hbi, rfl⟩ := hp
 rcases Nat.lt_or_ge b.kind 2 with hk | hk
 · obtain ⟨bj, cur, fz, h1, _, h3, h4, _, h6, _, h8⟩ := he.blk _ b hb hk
   rw [hbi] at h1; injection h1 with h1; subst h1
   obtain ⟨v', h9, h10⟩ := h8.get hv
   have hlt : p.off < b.cells.length := (List.getElem?_eq_some_iff.1 hv).1
   rw [List.getElem?_take, if_pos hlt] at h9
   refine ⟨v', ?_, h10⟩
   simp only [World.cell?, h4, h3, Nat.zero_add, Option.isSome_none, Bool.false_eq_true, if_false]
   simpa using h9
 · obtain ⟨bj, h1, h2, h3⟩ := he.imp _ b hb (by have := he.kinds _ b hb; omega)
   rw [hbi] at h1; injection h1 with h1; subst h1
   obtain ⟨v', h4, h5⟩ := h3 _ v hv
   exact ⟨v', by rw [he.below.cell (p := ⟨bi.blk, bi.off + p.off, none⟩) h2]; exact h4, h5⟩
theorem vl_choose {Q : Nat → Value → Prop} : ∀ (l : List Value) (i : Nat), (∀ (j : Nat) (v : Value), l[j]? = some v → ∃ v', Q (i + j) v' ∧ VR β v v') → ∃ l', VL β l l' ∧ ∀ (j : Nat) (v' : Value), l'[j]? = some v' → Q (i + j) v' := by
 intro l
 induction l with
 | nil => intro i _; exact ⟨[], .nil β, by simp⟩
 | cons v l ih =>
   intro i h
   obtain ⟨v', h1, h2⟩ := h 0 v rfl
   obtain ⟨l', h3, h4⟩ := ih (i + 1) fun j u hu => by
    have := h (j + 1) u (by simpa using hu)
    rwa [show i + 1 + j = i + (j + 1) by omega]
   refine ⟨v' :: l', .cons h2 h3, fun j u hu => ?_⟩
   cases j with
   | zero => simp at hu; subst hu; exact h1
   | succ j =>
     have := h4 j u (by simpa using hu)
     rwa [show i + 1 + j = i + (j + 1) by omega] at this
theorem EmbR.cells {a : AW} {w : World} (he : EmbR P w0 β a w) {i : Nat} {b : Blk} (hb : a.heap.get i = some b) (hk2 : b.kind ≠ 2) {bi : BI} (hbi : β i = some bi) :
 ∃ cs', VL β b.cells cs' ∧ ∀ (j : Nat) (v' : Value), cs'[j]? = some v' → w.cell? ⟨bi.blk, bi.off + j, none⟩ = some v' := by
 have := vl_choose (β := β) (Q := fun j v' => w.cell? ⟨bi.blk, bi.off + j, none⟩ = some v') b.cells 0 fun j v hv => by
  obtain ⟨v', h1, h2⟩ := he.cell (p := ⟨i, j, none⟩) (p' := ⟨bi.blk, bi.off + j, none⟩) ⟨rfl, bi, hbi, rfl⟩ (v := v) (by simp only [AW.cell, hb, if_pos hk2]; exact hv)
  exact ⟨v', by rw [Nat.zero_add]; exact h1, h2⟩
 obtain ⟨l', h1, h2⟩ := this
 exact ⟨l', h1, fun j v' hj => by have := h2 j v' hj; rwa [Nat.zero_add] at this⟩
theorem VR.one {v v' : Value} (h : VR β v v') (ho : v.oneCell' = true) : v'.oneCell' = true := by
 cases h <;> first | exact ho | rfl
theorem AW.setCell_some {a a1 : AW} {p : Addr} {v : Value} (h : a.setCell p v = some a1) : p.spot = none ∧ ∃ b hp la cl, a.heap.get p.block = some b ∧ b.kind < 2 ∧ p.off < b.cells.length ∧
 a.heap.put p.block { b with cells := b.cells.set p.off v } = some hp ∧ a1 = ⟨hp, a.next, la, cl, a.obl, a.hints⟩ := by
 unfold AW.setCell at h
 split at h
 · rename_i b h1 h2
   split at h
   · rename_i hk
     unfold AW.upd at h
     split at h
     · rename_i hp la hput hla
       injection h with h
       exact ⟨h1, b, hp, la, _, h2, hk.1, hk.2, hput, h.symm⟩
     · cases h
   · cases h
 · cases h
theorem Emb.setCell {a a1 : AW} {w : World} (he : Emb P w0 β a w) {p p' : Addr} (hp : VA β p p') {v v' : Value} (hv : VR β v v') (hc : a.setCell p v = some a1) :
 w.frozen? p' = false ∧ (∃ u, w.cell? p' = some u) ∧ Emb P w0 β a1 (w.setCell p' v') := by
 obtain ⟨_, b, hp1, la, cl, hb, hk, hlt, hput, rfl⟩ := AW.setCell_some hc
 obtain ⟨_, bi, hbi, rfl⟩ := hp
 obtain ⟨bj, cur, fz, h1, h2, h3, h4, h5, h6, h7, h8⟩ := he.blk _ b hb hk
 rw [hbi] at h1; injection h1 with h1; subst h1
 have hsz : p.off < cur.size := by omega
 refine ⟨?_, ⟨cur[p.off], ?_⟩, ?_⟩
 · simp only [World.frozen?, h4, h3, Nat.zero_add]
   obtain ⟨lo, hi⟩ := fz
   simp only at h5
   rcases h5 with h5 | h5
   · subst h5; simp
   · simp; omega
 · simp [World.cell?, h4, h3, hsz]
 · have hgrow : (w.setCell ⟨bi.blk, bi.off + p.off, none⟩ v').heap[bi.blk]? = some (.cells (cur.setIfInBounds p.off v') b.elem fz) := by
    simp [World.setCell, Array.getElem?_modify, h4, h3]
   refine .mk' (he.below.setCell h2 _) ?_ ?_ ?_ ?_ ?_ ?_
   · intro i hi
     obtain ⟨g1, g2⟩ := he.fresh i hi
     refine ⟨?_, g2⟩
     rw [Tr.get_put hput, if_neg]
     · exact g1
     · rintro rfl; rw [g1] at hb; cases hb
   · intro i c hi hkc
     rw [Tr.get_put hput] at hi
     by_cases hie : i = p.block
     · rw [if_pos hie] at hi
       injection hi with hi
       subst hi
       subst hie
       refine ⟨bi, _, fz, hbi, h2, h3, hgrow, by simpa using h5, by simpa using h6, h7, ?_⟩
       simp only [Array.toList_setIfInBounds, List.length_set, List.take_set]
       exact h8.set _ hv
     · rw [if_neg hie] at hi
       obtain ⟨bj, cur', fz', g1, g2, g3, g4, g5⟩ := he.blk i c hi hkc
       refine ⟨bj, cur', fz', g1, g2, g3, ?_, g5⟩
       have hne : bj.blk ≠ bi.blk := fun e => hie (he.inj i p.block c b bj bi hi hkc hb hk g1 hbi e)
       rw [Below.heap_setCell _ _ _ _ hne]
       exact g4
   · intro i j c d bi' bj' hi hkc hj hkd hbi' hbj' hblk
     rw [Tr.get_put hput] at hi hj
     have get : ∀ i c, (if i = p.block then some { b with cells := b.cells.set p.off v } else a.heap.get i) = some c → c.kind < 2 → ∃ c', a.heap.get i = some c' ∧ c'.kind < 2 := by
      intro i c hi hkc
      by_cases hie : i = p.block
      · subst hie; exact ⟨b, hb, hk⟩
      · rw [if_neg hie] at hi; exact ⟨c, hi, hkc⟩
     obtain ⟨c', hi', hkc'⟩ := get i c hi hkc
     obtain ⟨d', hj', hkd'⟩ := get j d hj hkd
     exact he.inj i j c' d' bi' bj' hi' hkc' hj' hkd' hbi' hbj' hblk
   · intro i c hi hkc
     rw [Tr.get_put hput] at hi
     by_cases hie : i = p.block
     · rw [if_pos hie] at hi; injection hi with hi; subst hi; simp only at hkc; omega
     · rw [if_neg hie] at hi; exact he.imp i c hi hkc
   · intro i c hi
     rw [Tr.get_put hput] at hi
     by_cases hie : i = p.block
     · rw [if_pos hie] at hi; injection hi with hi; subst hi; exact he.kinds _ b hb
     · rw [if_neg hie] at hi; exact he.kinds i c hi
   · refine he.maps.keep (Le.refl β) (fun i c l hi hk2 _ => ?_) fun g es c hg => ?_
     · rw [Tr.get_put hput] at hi
       by_cases hie : i = p.block
       · rw [if_pos hie] at hi; injection hi with hi; subst hi; simp only at hk2; omega
       · rw [if_neg hie] at hi; exact hi
     · rw [Below.heap_setCell _ _ _ _ (fun e => by subst e; rw [h4] at hg; cases hg)]
       exact hg
theorem sim_store {p p' : Addr} (hp : VA β p p') {v v' : Value} (hv : VR β v v') (m : Mode) : SimAt P w0 β (store p v m) (store p' v' m) fun _ _ _ => True := by
 intro a w x a1 he hr
 have key : v.oneCell' = true ∧ ∃ a2, a.setCell p v = some a2 ∧ a1 = a2 := by
  cases v <;> simp only [store, arun] at hr <;> first
   | cases hr
   | (refine ⟨rfl, ?_⟩
      cases hc : a.setCell p _ with
      | none => rw [hc] at hr; cases hr
      | some a2 => rw [hc] at hr; simp only [Option.some.injEq, Prod.mk.injEq] at hr; exact ⟨a2, rfl, hr.2.symm⟩)
 obtain ⟨ho, a2, hc, rfl⟩ := key
 obtain ⟨h1, ⟨u, h2⟩, h3⟩ := he.setCell hp hv hc
 refine ⟨β, (), w.setCell p' v', ?_, Le.refl β, h3, trivial⟩
 rw [run_store P w p' v' m (hv.one ho), h2]
 simp [h1]
theorem AW.new_some {a a1 : AW} {b : Blk} (h : a.new b = some a1) : ∃ hp la cl, a.heap.put a.next b = some hp ∧ a1 = ⟨hp, a.next + 1, la, cl, a.obl, a.hints⟩ := by
 unfold AW.new at h
 split at h
 · rename_i hp la hput hla; injection h with h; exact ⟨hp, la, _, hput, h.symm⟩
 · cases h
def grow (β : Pl) (i : Nat) (bi : BI) : Pl := fun j => if j = i then some bi else β j
theorem Le.grow {i : Nat} {bi : BI} (h : β i = none) : Le β (grow β i bi) := by
 intro j b hj
 unfold Ev.grow
 split
 · rename_i e; subst e; rw [h] at hj; cases hj
 · exact hj
theorem Emb.new {a a1 : AW} {w : World} (he : Emb P w0 β a w) {l : List Value} {cur : Array Value} {e : TypeId} {fz : Nat × Nat} {ext k : Nat} (hk : k < 2) (hf : fz.1 = fz.2 ∨ cur.size ≤ fz.1)
 (hs : cur.size = l.length + ext * P.cellsOf e) (h0 : k = 0 → ext = 0 ∧ fz = (0, 0)) (hl : VL β l (cur.toList.take l.length)) (hn : a.new ⟨l, e, k⟩ = some a1) :
 Le β (grow β a.next ⟨w.heap.size, 0, ext⟩) ∧ Emb P w0 (grow β a.next ⟨w.heap.size, 0, ext⟩) a1 { w with heap := w.heap.push (.cells cur e fz) } := by
 obtain ⟨hp, la, cl, hput, rfl⟩ := AW.new_some hn
 have hnone := he.fresh a.next (Nat.le_refl _)
 have hle : Le β (grow β a.next ⟨w.heap.size, 0, ext⟩) := .grow hnone.2
 have hold : ∀ i b, a.heap.get i = some b → i ≠ a.next := by rintro i b hi rfl; rw [hnone.1] at hi; cases hi
 have hpush : ∀ g, g < w.heap.size → (w.heap.push (.cells cur e fz))[g]? = w.heap[g]? := fun g hg => by rw [Array.getElem?_push, if_neg (by omega)]
 refine ⟨hle, .mk' (he.below.alloc _) ?_ ?_ ?_ ?_ ?_ ?_⟩
 · intro i hi
   obtain ⟨g1, g2⟩ := he.fresh i (by simp at hi; omega)
   refine ⟨?_, ?_⟩
   · rw [Tr.get_put hput, if_neg (by simp at hi; omega)]; exact g1
   · unfold grow; rw [if_neg (by simp at hi; omega)]; exact g2
 · intro i b hi hkb
   rw [Tr.get_put hput] at hi
   by_cases hie : i = a.next
   · rw [if_pos hie] at hi
     injection hi with hi
     subst hi
     refine ⟨⟨w.heap.size, 0, ext⟩, cur, fz, by simp [grow, hie], .inl he.below.size, rfl, by simp, hf, hs, h0, hl.mono hle⟩
   · rw [if_neg hie] at hi
     obtain ⟨bj, cur', fz', g1, g2, g3, g4, g5, g6, g7, g8⟩ := he.blk i b hi hkb
     refine ⟨bj, cur', fz', hle _ _ g1, g2, g3, ?_, g5, g6, g7, g8.mono hle⟩
     have hlt : bj.blk < w.heap.size := (Array.getElem?_eq_some_iff.1 g4).1
     rw [← g4]; exact hpush _ hlt
 · intro i j b c bi bj hi hkb hj hkc hbi hbj hblk
   rw [Tr.get_put hput] at hi hj
   have small : ∀ i b bi, i ≠ a.next → (if i = a.next then some ⟨l, e, k⟩ else a.heap.get i) = some b → b.kind < 2 → grow β a.next ⟨w.heap.size, 0, ext⟩ i = some bi → a.heap.get i = some b ∧ β i = some bi ∧ bi.blk < w.heap.size := by
    intro i b bi hne h1 h2 h3
    rw [if_neg hne] at h1
    unfold grow at h3
    rw [if_neg hne] at h3
    obtain ⟨bj, cur', fz', g1, _, _, g4, _⟩ := he.blk i b h1 h2
    rw [h3] at g1; injection g1 with g1; subst g1
    exact ⟨h1, h3, (Array.getElem?_eq_some_iff.1 g4).1⟩
   by_cases hie : i = a.next
   · by_cases hje : j = a.next
     · rw [hie, hje]
     · obtain ⟨_, _, hlt⟩ := small j c bj hje hj hkc hbj
       simp only [grow, hie, if_true, Option.some.injEq] at hbi
       subst hbi
       simp only at hblk
       omega
   · obtain ⟨h1, h2, hlt⟩ := small i b bi hie hi hkb hbi
     by_cases hje : j = a.next
     · simp only [grow, hje, if_true, Option.some.injEq] at hbj
       subst hbj
       simp only at hblk
       omega
     · obtain ⟨k1, k2, _⟩ := small j c bj hje hj hkc hbj
       exact he.inj i j b c bi bj h1 hkb k1 hkc h2 k2 hblk
 · intro i b hi hkb
   rw [Tr.get_put hput] at hi
   by_cases hie : i = a.next
   · rw [if_pos hie] at hi; injection hi with hi; subst hi; simp only at hkb; omega
   · rw [if_neg hie] at hi
     obtain ⟨bi, h1, h2, h3⟩ := he.imp i b hi hkb
     exact ⟨bi, hle _ _ h1, h2, fun j v hv => by obtain ⟨v', h4, h5⟩ := h3 j v hv; exact ⟨v', h4, h5.mono hle⟩⟩
 · intro i b hi
   rw [Tr.get_put hput] at hi
   by_cases hie : i = a.next
   · rw [if_pos hie] at hi; injection hi with hi; subst hi; simp only; omega
   · rw [if_neg hie] at hi; exact he.kinds i b hi
 · refine he.maps.keep hle (fun i c l' hi hk2 _ => ?_) fun g es c hg => ?_
   · rw [Tr.get_put hput] at hi
     by_cases hie : i = a.next
     · rw [if_pos hie] at hi; injection hi with hi; subst hi; simp only at hk2; omega
     · rw [if_neg hie] at hi; exact hi
   · rw [← hg]; exact hpush g (Array.getElem?_eq_some_iff.1 hg).1
def NA (β : Pl) (a a' : Addr) : Prop := VA β a a' ∧ ∃ g, β a.block = some ⟨g, 0, 0⟩
theorem NA.slice {β : Pl} {a a' : Addr} (h : NA β a a') (n c : Nat) : VR β (.slice (some a) n c) (.slice (some a') n c) := by
 obtain ⟨h1, g, h2⟩ := h
 exact VR.slice (bi := ⟨g, 0, 0⟩) h1 h2
theorem sim_newRow {e : TypeId} {c c' : Array Value} (hc : VL β c.toList c'.toList) : SimAt P w0 β (newRow e c) (newRow e c') NA := by
 refine sim_bind (R := fun β1 r r' => NA β1 ⟨r, 0, none⟩ ⟨r', 0, none⟩) ?_ (fun β1 r r' _ h => sim_pure h)
 intro a w x a1 he hr
 simp only [newObj, arun, if_true] at hr
 cases hn : a.new ⟨c.toList, e, 0⟩ with
 | none => rw [hn] at hr; cases hr
 | some a2 =>
   rw [hn] at hr
   simp only [Option.some.injEq, Prod.mk.injEq] at hr
   obtain ⟨rfl, rfl⟩ := hr
   have hlen : c'.toList.take c.toList.length = c'.toList := by rw [hc.1]; exact List.take_length
   obtain ⟨h1, h2⟩ := he.new (k := 0) (ext := 0) (fz := (0, 0)) (cur := c') (by omega) (.inl rfl) (by have := hc.1; simp at this ⊢; omega) (fun _ => ⟨rfl, rfl⟩) (by rw [hlen]; exact hc) hn
   exact ⟨_, _, _, rfl, h1, h2, ⟨rfl, ⟨w.heap.size, 0, 0⟩, by simp [grow], rfl⟩, w.heap.size, by simp [grow]⟩
theorem sim_typeInfo (t : TypeId) : SimAt P w0 β (typeInfo t) (typeInfo t) fun _ x x' => x' = x ∧ P.info? t = some x := by
 cases h : P.info? t with
 | none =>
   refine sim_none fun a => ?_
   show arun P (Sem.bind program _) a = none
   simp [arun_bind, program, arun, h, stuck]
 | some i =>
   refine (sim_fix i (fun a => ?_) (fun w => ?_)).mono (fun _ x x' _ ⟨h1, h2⟩ => by subst h1; subst h2; exact ⟨rfl, rfl⟩)
   · show arun P (Sem.bind program _) a = _
     simp [arun_bind, program, arun, h, Pure.pure]
   · simp [typeInfo, h]
theorem sim_underlying (t : TypeId) : SimAt P w0 β (underlying t) (underlying t) fun _ x x' => x' = x ∧ P.underlying t = some x := by
 cases h : P.underlying t with
 | none =>
   refine sim_none fun a => ?_
   show arun P (Sem.bind program _) a = none
   simp [arun_bind, program, arun, h, stuck]
 | some i =>
   refine (sim_fix i (fun a => ?_) (fun w => ?_)).mono (fun _ x x' _ ⟨h1, h2⟩ => by subst h1; subst h2; exact ⟨rfl, rfl⟩)
   · show arun P (Sem.bind program _) a = _
     simp [arun_bind, program, arun, h, Pure.pure]
   · simp [underlying, h]
theorem sim_sizeOf (t : TypeId) : SimAt P w0 β (sizeOf t) (sizeOf t) fun _ x x' => x' = x ∧ ∃ i, P.info? t = some i ∧ i.size = x :=
 sim_bind (sim_typeInfo t) fun _ _ _ _ ⟨h, hi⟩ => by subst h; exact sim_pure ⟨rfl, _, hi, rfl⟩
theorem sim_storeCells {p p' : Addr} : ∀ {β : Pl} (l l' : List Value) (i : Nat), VA β p p' → VL β l l' → SimAt P w0 β (storeCells p l i) (storeCells p' l' i) fun _ _ _ => True := by
 intro β l
 induction l generalizing β with
 | nil =>
   intro l' i _ hl
   have : l' = [] := List.eq_nil_of_length_eq_zero (by simpa using hl.1.symm)
   subst this
   exact sim_pure trivial
 | cons v r ih =>
   intro l' i hp hl
   cases l' with
   | nil => have := hl.1; simp at this
   | cons v' r' => exact sim_bind (sim_store (hp.add i) hl.head .plain) fun β1 _ _ hle _ => ih r' (i + 1) (hp.mono hle) (hl.tail.mono hle)
theorem sim_storeVar (t : TypeId) {p p' : Addr} (hp : VA β p p') {v v' : Value} (hv : VR β v v') : SimAt P w0 β (storeVar t p v) (storeVar t p' v') fun _ _ _ => True := by
 refine sim_bind (sim_sizeOf t) fun β1 n n' hle h => ?_
 obtain ⟨rfl, _⟩ := h
 have hc := (hv.mono hle).cells
 have hs : v'.cells.size = v.cells.size := by have := hc.1; simpa using this.symm
 rw [hs]
 by_cases hne : v.cells.size = n'
 · rw [if_neg (by simpa using hne), if_neg (by simpa using hne)]
   exact sim_storeCells _ _ 0 (hp.mono hle) hc
 · refine sim_none fun a => ?_
   rw [if_pos hne]
   rfl
end
end Ev
end Go.Proofs.YtedmogacklbcmaaGreatDoor
