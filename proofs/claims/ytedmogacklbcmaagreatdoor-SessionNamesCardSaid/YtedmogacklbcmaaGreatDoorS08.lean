/- Texts that the proofs share: EvOp. -/
import Derived.Test.YtedmogacklbcmaaGreatDoorS07
namespace Go.Proofs.YtedmogacklbcmaaGreatDoor
namespace Ev
open Go.RowKit
section
variable {P : Program} {w0 : Base} {β : Pl} {t : Tr Value} {ρ : Operand → Value}
theorem Emb.newMap {a a1 : AW} {w : World} (he : Emb P w0 β a w) (hn : a.new ⟨[mapMark], 0, 2⟩ = some a1) :
 Le β (grow β a.next ⟨w.heap.size, 0, 0⟩) ∧ Emb P w0 (grow β a.next ⟨w.heap.size, 0, 0⟩) a1 (w.alloc (.map #[] 0)) ∧ VR (grow β a.next ⟨w.heap.size, 0, 0⟩) (.map (some a.next)) (.map (some w.heap.size)) := by
 obtain ⟨hp, la, cl, hput, rfl⟩ := AW.new_some hn
 have hnone := he.fresh a.next (Nat.le_refl _)
 have hle : Le β (grow β a.next ⟨w.heap.size, 0, 0⟩) := .grow hnone.2
 have hpush : ∀ g, g < w.heap.size → (w.alloc (.map #[] 0)).heap[g]? = w.heap[g]? := fun g hg => Below.heap_alloc _ _ _ hg
 have hgn : grow β a.next ⟨w.heap.size, 0, 0⟩ a.next = some ⟨w.heap.size, 0, 0⟩ := by simp [grow]
 have old : ∀ i b, (if i = a.next then some ⟨[mapMark], 0, 2⟩ else a.heap.get i) = some b → b.kind ≠ 2 → a.heap.get i = some b := by
  intro i b h hk
  split at h
  · injection h with h; subst h; exact absurd rfl hk
  · exact h
 have hβ : ∀ i b bi, a.heap.get i = some b → grow β a.next ⟨w.heap.size, 0, 0⟩ i = some bi → β i = some bi := by
  intro i b bi h1 h2
  unfold grow at h2
  rw [if_neg (by rintro rfl; rw [hnone.1] at h1; cases h1)] at h2
  exact h2
 refine ⟨hle, .mk' (he.below.alloc _) ?_ ?_ ?_ ?_ ?_ ?_, VR.map hgn⟩
 · intro i hi
   obtain ⟨g1, g2⟩ := he.fresh i (by simp at hi; omega)
   refine ⟨?_, ?_⟩
   · rw [Tr.get_put hput, if_neg (by simp at hi; omega)]; exact g1
   · unfold grow; rw [if_neg (by simp at hi; omega)]; exact g2
 · intro i b hi hkb
   rw [Tr.get_put hput] at hi
   have hi' := old i b hi (by omega)
   obtain ⟨bj, cur', fz', g1, g2, g3, g4, g5, g6, g7, g8⟩ := he.blk i b hi' hkb
   refine ⟨bj, cur', fz', hle _ _ g1, g2, g3, ?_, g5, g6, g7, g8.mono hle⟩
   rw [hpush _ (Array.getElem?_eq_some_iff.1 g4).1]; exact g4
 · intro i j b c bi bj hi hkb hj hkc hbi hbj hblk
   rw [Tr.get_put hput] at hi hj
   have hi' := old i b hi (by omega)
   have hj' := old j c hj (by omega)
   exact he.inj i j b c bi bj hi' hkb hj' hkc (hβ i b bi hi' hbi) (hβ j c bj hj' hbj) hblk
 · intro i b hi hkb
   rw [Tr.get_put hput] at hi
   obtain ⟨bi, h1, h2, h3⟩ := he.imp i b (old i b hi (by omega)) hkb
   exact ⟨bi, hle _ _ h1, h2, fun j v hv => by obtain ⟨v', h4, h5⟩ := h3 j v hv; exact ⟨v', h4, h5.mono hle⟩⟩
 · intro i b hi
   rw [Tr.get_put hput] at hi
   split at hi
   · injection hi with hi; subst hi; simp
   · exact he.kinds i b hi
 · have small : ∀ i b l bi, i ≠ a.next → (if i = a.next then some (⟨[mapMark], 0, 2⟩ : Blk) else a.heap.get i) = some b → b.kind = 2 → b.cells = mapMark :: l → grow β a.next ⟨w.heap.size, 0, 0⟩ i = some bi →
    a.heap.get i = some b ∧ β i = some bi ∧ bi.blk < w.heap.size := by
    intro i b l bi hne h1 h2 h3 h4
    rw [if_neg hne] at h1
    have h5 := hβ i b bi h1 h4
    obtain ⟨bj, es, clock, q1, _, q3, _⟩ := he.maps.map i b l h1 h2 h3
    rw [h5] at q1; injection q1 with q1; subst q1
    exact ⟨h1, h5, (Array.getElem?_eq_some_iff.1 q3).1⟩
   refine ⟨fun i b l hi hk hc => ?_, fun i j b c l m bi bj hi hk hc hj hk' hc' hbi hbj hblk => ?_⟩
   · rw [Tr.get_put hput] at hi
     by_cases hie : i = a.next
     · rw [if_pos hie] at hi
       injection hi with hi; subst hi
       simp only [List.cons.injEq, true_and] at hc
       subst hc; subst hie
       exact ⟨_, #[], 0, hgn, .inl he.below.size, (MapKept.heap_alloc w _).1, .nil _⟩
     · rw [if_neg hie] at hi
       obtain ⟨bj, es, clock, q1, q2, q3, q4⟩ := he.maps.map i b l hi hk hc
       exact ⟨bj, es, clock, hle _ _ q1, q2, by rw [hpush _ (Array.getElem?_eq_some_iff.1 q3).1]; exact q3, q4.mono hle⟩
   · rw [Tr.get_put hput] at hi hj
     by_cases hie : i = a.next
     · by_cases hje : j = a.next
       · rw [hie, hje]
       · obtain ⟨_, _, hlt⟩ := small j c m bj hje hj hk' hc' hbj
         rw [hie, hgn] at hbi
         injection hbi with hbi; subst hbi
         simp only at hblk; omega
     · obtain ⟨h1, h2, hlt⟩ := small i b l bi hie hi hk hc hbi
       by_cases hje : j = a.next
       · rw [hje, hgn] at hbj
         injection hbj with hbj; subst hbj
         simp only at hblk; omega
       · obtain ⟨k1, k2, _⟩ := small j c m bj hje hj hk' hc' hbj
         exact he.maps.inj i j b c l m bi bj h1 hk hc k1 hk' hc' h2 k2 hblk
theorem makeMap_run {ty : TypeId} {r : Option Operand} (h : Ops β t ρ (.makeMap ty r)) (hh : mapHint P (eval t) ty r = true) {w : World} : (Instr.makeMap ty (r.map ρ)).run P w = .ok (.map (some w.heap.size)) (w.alloc (.map #[] 0)) := by
 cases r with
 | none => simp [Instr.makeMap]
 | some x =>
   unfold mapHint at hh
   simp only at hh
   split at hh
   · rename_i k n kt et hx hu
     have hx' := h x (by simp [Op.operands])
     rw [hx] at hx'
     have := hx'.int
     simp [Instr.makeMap, run_underlying hu, this, asInt, asIntOf]
   · cases hh
theorem run_check {kt : TypeId} {d : TypeDesc} {k : Value} (hkt : P.underlying kt = some d) (hkd : (∃ k, d = .int k) ∨ d = .string ∨ d = .bool) (e : Bool) (w : World) : (Instr.checkKey e 10000 kt k).run P w = .ok () w := by
 suffices h : ∀ n, (Instr.checkKey e (n + 1) kt k).run P w = .ok () w from h 9999
 intro n
 unfold Instr.checkKey
 rw [Sem.run_bind, run_underlying hkt]
 rcases hkd with ⟨q, rfl⟩ | rfl | rfl <;> cases k <;> rfl
theorem Emb.setMap {a a1 : AW} {w : World} (he : Emb P w0 β a w) {r : Nat} {b : Blk} {l : List Value} (hb : a.heap.get r = some b) (hk : b.kind = 2) (hcl : b.cells = mapMark :: l) {bi : BI} (hbi : β r = some bi)
 {l' : List Value} {es' : Array MapEntry} {c' : Nat} (hl : VL β l' (es'.toList.map entryV)) (hu : a.upd r ⟨mapMark :: l', 0, 2⟩ = some a1) :
 Emb P w0 β a1 { w with heap := w.heap.setIfInBounds bi.blk (.map es' c') } := by
 obtain ⟨bj, es, clock, q1, q2, q3, q4⟩ := he.maps.map r b l hb hk hcl
 rw [hbi] at q1; injection q1 with q1; subst q1
 have hlt : bi.blk < w.heap.size := (Array.getElem?_eq_some_iff.1 q3).1
 have hother : ∀ k, k ≠ bi.blk → (w.heap.setIfInBounds bi.blk (.map es' c'))[k]? = w.heap[k]? := fun k hk => by simp [Ne.symm hk]
 have hself : (w.heap.setIfInBounds bi.blk (.map es' c'))[bi.blk]? = some (.map es' c') := by simp [hlt]
 unfold AW.upd at hu
 split at hu
 case h_2 => cases hu
 rename_i hp la hput hla
 injection hu with hu; subst hu
 have hget := Tr.get_put hput
 have old : ∀ i c, hp.get i = some c → c.kind ≠ 2 → a.heap.get i = some c := by
  intro i c h hk
  rw [hget] at h
  split at h
  · injection h with h; subst h; exact absurd rfl hk
  · exact h
 refine .mk' ⟨he.below.os, he.below.tape, he.below.output, by simpa using he.below.size, fun k hkk => by rw [hother k (fun e => hkk (by rw [e]; exact q2))]; exact he.below.block k hkk⟩ ?_ ?_ ?_ ?_ ?_ ?_
 · intro i hi
   obtain ⟨g1, g2⟩ := he.fresh i hi
   refine ⟨?_, g2⟩
   rw [hget, if_neg]
   · exact g1
   · rintro rfl; rw [g1] at hb; cases hb
 · intro i c hi hkc
   obtain ⟨bj, cur, fz, g1, g2, g3, g4, g5⟩ := he.blk i c (old i c hi (by omega)) hkc
   exact ⟨bj, cur, fz, g1, g2, g3, by rw [hother _ (fun e => by rw [e, q3] at g4; cases g4)]; exact g4, g5⟩
 · intro i j c d bi' bj' hi hkc hj hkd
   exact he.inj i j c d bi' bj' (old i c hi (by omega)) hkc (old j d hj (by omega)) hkd
 · intro i c hi hkc
   exact he.imp i c (old i c hi (by omega)) hkc
 · intro i c hi
   rw [hget] at hi
   split at hi
   · injection hi with hi; subst hi; simp
   · exact he.kinds i c hi
 · have was : ∀ i c m, hp.get i = some c → c.kind = 2 → c.cells = mapMark :: m → ∃ c0 m0, a.heap.get i = some c0 ∧ c0.kind = 2 ∧ c0.cells = mapMark :: m0 := by
    intro i c m h1 h2 h3
    rw [hget] at h1
    split at h1
    · rename_i e; subst e; exact ⟨b, l, hb, hk, hcl⟩
    · exact ⟨c, m, h1, h2, h3⟩
   refine ⟨fun i c m hi hk2 hc => ?_, fun i j c d m n bi' bj' hi hk2 hc hj hk3 hd => ?_⟩
   · rw [hget] at hi
     by_cases hir : i = r
     · rw [if_pos hir] at hi
       injection hi with hi; subst hi; subst hir
       simp only [List.cons.injEq, true_and] at hc
       subst hc
       exact ⟨bi, es', c', hbi, q2, hself, hl⟩
     · rw [if_neg hir] at hi
       obtain ⟨bj, es2, c2, r1, r2, r3, r4⟩ := he.maps.map i c m hi hk2 hc
       refine ⟨bj, es2, c2, r1, r2, ?_, r4⟩
       rw [hother _ (fun e => hir (he.maps.inj i r c b m l bj bi hi hk2 hc hb hk hcl r1 hbi e))]
       exact r3
   · obtain ⟨c0, m0, s1, s2, s3⟩ := was i c m hi hk2 hc
     obtain ⟨d0, n0, t1, t2, t3⟩ := was j d n hj hk3 hd
     exact he.maps.inj i j c0 d0 m0 n0 bi' bj' s1 s2 s3 t1 t2 t3
theorem VR.pair {k x x' : Value} (hf : Ev.flat k = true) (hx : VR β x x') : VR β (.tuple #[k, x]) (.tuple #[k, x']) := by
 refine .tuple rfl fun i y y' h1 h2 => ?_
 rcases i with _ | _ | i
 · simp at h1 h2; subst h1; subst h2; exact .flat hf
 · simp at h1 h2; subst h1; subst h2; exact hx
 · simp at h1
theorem mapPut_sound {a a1 : AW} {w : World} (he : Emb P w0 β a w) {ty : TypeId} {m m' k k' x x' : Value} (hm : VR β m m') (hk : VR β k k') (hx : VR β x x') (hv : evMapPut P a ty m k x = some a1) :
 ∃ w1, (Instr.mapUpdate ty m' k' x').run P w = .ok () w1 ∧ Emb P w0 β a1 w1 := by
 unfold evMapPut at hv
 split at hv
 case h_2 => cases hv
 rename_i r kt et hu
 split at hv
 case h_2 => cases hv
 rename_i d l hd hl
 split at hv
 case isFalse => cases hv
 rename_i hf
 have := hk.flat_eq hf
 subst this
 obtain ⟨bi, hbi, rfl⟩ := hm.mapOf
 obtain ⟨b, hb, hk2, hcl⟩ := mapOf_some hl
 obtain ⟨bj, es, clock, h1, _, h3, h4⟩ := he.maps.map r b l hb hk2 hcl
 rw [hbi] at h1; injection h1 with h1; subst h1
 obtain ⟨hkt, hkd⟩ := keyKind_spec hd
 have hchk := run_check (k := k') hkt hkd false w
 have hget := MapKept.run_getObj_map (P := P) h3
 split at hv
 · rename_i sr hss hfi
   rcases mapFind_sound l es.toList 0 h4 _ hfi with ⟨_, g2⟩ | ⟨j, v2, v', g1, _⟩
   · have hfk := MapKept.run_findKey (P := P) (w := w) hkt g2
     refine ⟨_, ?_, he.setMap hb hk2 hcl hbi (es' := es.push { key := k', val := x', born := clock }) (c' := clock + 1) ?_ hv⟩
     · simp [Instr.mapUpdate, run_underlying hu, hget, hchk, hfk, MapKept.run_setObj_map _ h3]
     · rw [Array.toList_push, List.map_append]
       exact h4.push (VR.pair hf hx)
   · cases g1
 · rename_i sr i v1 hss hfi
   rcases mapFind_sound l es.toList 0 h4 _ hfi with ⟨g1, _⟩ | ⟨j, v2, v', g1, g2, g3, g4, g5⟩
   · cases g1
   · simp only [Option.some.injEq, Prod.mk.injEq, Nat.zero_add] at g1 g2
     obtain ⟨rfl, rfl⟩ := g1
     have hfk := MapKept.run_findKey (P := P) (w := w) hkt g2
     have hlt : i < es.size := by simpa using g4
     have hkey : es[i].key = k' := g5 _ (by simp [hlt])
     obtain ⟨_, _, _, hik⟩ := sameNow_flat hss
     have hks : (Instr.keyThatStays k' k').run P w = .ok k' w := by simp [Instr.keyThatStays, hik]
     refine ⟨_, ?_, he.setMap hb hk2 hcl hbi (es' := es.modify i fun e => { e with key := k', val := x' }) (c' := clock) ?_ hv⟩
     · simp [Instr.mapUpdate, run_underlying hu, hget, hchk, hfk, hlt, hkey, hks, MapKept.run_setObj_map _ h3]
     · have e : (es.modify i fun e => { e with key := k', val := x' }).toList.map entryV = (es.toList.map entryV).set i (.tuple #[k', x']) := by
        apply List.ext_getElem?
        intro n
        simp only [List.getElem?_map, Array.getElem?_toList, Array.getElem?_modify, List.getElem?_set, List.length_map, Array.length_toList]
        by_cases hin : i = n
        · subst hin; simp [hlt, entryV]
        · simp [hin]
       rw [e]
       exact h4.set i (VR.pair hf hx)
 · cases hv
theorem clear_sound {a a1 : AW} {w : World} (he : Emb P w0 β a w) {ty ty' : TypeId} {s s' : Value} (hs : VR β s s') (hv : evClear P a ty s = some a1) :
 ∃ w1, (Builtin.clear_ #[ty] ty' #[s']).run P w = .ok (.tuple #[]) w1 ∧ Emb P w0 β a1 w1 := by
 unfold evClear at hv
 split at hv
 · rename_i e hu
   injection hv with hv; subst hv
   have := hs.flat_eq (v := .slice none 0 0) rfl
   subst this
   exact ⟨w, by simp [Builtin.clear_, run_underlying hu], he⟩
 · rename_i p n c e hu
   obtain ⟨p', bi, rfl, hp, hbi⟩ := hs.sliceOf
   split at hv
   · rename_i h0
     subst h0
     injection hv with hv; subst hv
     exact ⟨w, by simp [Builtin.clear_, run_underlying hu], he⟩
   · rename_i h0
     split at hv
     case isFalse => cases hv
     rename_i hz
     split at hv
     case h_2 => cases hv
     rename_i z hzz
     split at hv
     case isFalse => cases hv
     rename_i hone
     unfold zflat at hz
     cases hi : P.info? e with
     | none => rw [hi] at hz; cases hz
     | some inf =>
       rw [hi] at hz hzz
       simp only [Option.bind_some] at hzz
       dsimp only at hz
       rw [hzz] at hz
       simp only [Bool.and_eq_true] at hz
       have hmem : ∀ v ∈ (Builtin.zeroCells z.cells n).toList, v ∈ z.cells.toList := by
        intro v hv
        simp only [Builtin.zeroCells, Array.toList_map, List.mem_map] at hv
        obtain ⟨i, him, rfl⟩ := hv
        have hi0 : i < n * z.cells.size := by simpa using him
        have hs : 0 < z.cells.size := by
         rcases Nat.eq_zero_or_pos z.cells.size with h | h
         · rw [h] at hi0; simp at hi0
         · exact h
        have hlt := Nat.mod_lt i hs
        rw [getElem!_pos z.cells _ hlt]
        exact Array.mem_toList_iff.2 (Array.getElem_mem _)
       have hfl : ∀ v ∈ z.cells.toList, flat v = true := by
        intro v hv
        obtain ⟨i, hi2⟩ := List.getElem?_of_mem hv
        have := (VR.cells (β := β) (.flat hz.1 : VR β z z))
        cases z with
        | agg cs =>
          have h1 := hz.1
          simp only [flat, List.all_eq_true] at h1
          exact atom_flat (h1 v hv)
        | _ => simp only [Value.cells, List.mem_singleton] at hv; subst hv; exact hz.1
       obtain ⟨w1, k1, k2⟩ := store_all hp (Builtin.zeroCells z.cells n).toList (Builtin.zeroCells z.cells n).toList 0 he (fun v hv => by
        simp only [List.all_eq_true] at hone; exact hone v (hmem v hv)) (.of_flat fun v hv => hfl v (hmem v hv)) hv
       refine ⟨w1, ?_, k2⟩
       have hn : ∀ m, n ≠ 0 → (match n, m with | 0, _ => (0 : Nat) | _, m => m) = m := by intro m h; cases n <;> simp_all
       cases n with
       | zero => exact absurd rfl h0
       | succ n => simp [Builtin.clear_, run_underlying hu, zeroValue, typeInfo, hi, hzz, k1]
 · cases hv
end
end Ev
end Go.Proofs.YtedmogacklbcmaaGreatDoor
namespace Go.Proofs.YtedmogacklbcmaaGreatDoor
namespace Ev
open Go.RowKit
section
variable {P : Program} {w0 : Base} {β : Pl} {t : Tr Value} {ρ : Operand → Value} {o : Oper}
def OpRes (P : Program) (w0 : Base) (β : Pl) (a1 : AW) (r : Result Next) : AN → Prop
 | .value v => ∃ β1 w1 v', r = .ok (.value v') w1 ∧ Le β β1 ∧ Emb P w0 β1 a1 w1 ∧ VR β1 v v'
 | .skip => ∃ β1 w1, r = .ok .skip w1 ∧ Le β β1 ∧ Emb P w0 β1 a1 w1
 | .enter f args => ∃ β1 w1 args', r = .ok (.enter f args') w1 ∧ Le β β1 ∧ Emb P w0 β1 a1 w1 ∧ VL β1 args.toList args'.toList
theorem res_of_sim {a a1 : AW} {w : World} (he : Emb P w0 β a w) {s s' : Sem Value} (h : SimAt P w0 β s s' VR) {r : AN} (hr : (match arun P s a with | some (v, w') => some (AN.value v, w') | none => none) = some (r, a1)) :
 OpRes P w0 β a1 ((do pure (Next.value (← s')) : Sem Next).run P w) r := by
 cases hs : arun P s a with
 | none => rw [hs] at hr; cases hr
 | some q =>
   obtain ⟨v, a2⟩ := q
   rw [hs] at hr
   simp only [Option.some.injEq, Prod.mk.injEq] at hr
   obtain ⟨rfl, rfl⟩ := hr
   obtain ⟨β1, v', w1, k1, k2, k3, k4⟩ := h a w v a2 he hs
   refine ⟨β1, w1, v', ?_, k2, k3, k4⟩
   rw [Sem.run_bind, k1]; rfl
theorem VL.map {args : Array Operand} (h : ∀ x, x ∈ args → VR β (eval t x) (ρ x)) : VL β (args.map (eval t)).toList (args.map ρ).toList := by
 refine ⟨by simp, fun i v v' h1 h2 => ?_⟩
 simp only [Array.toList_map, List.getElem?_map, Option.map_eq_some_iff] at h1 h2
 obtain ⟨x, hx, rfl⟩ := h1
 obtain ⟨y, hy, rfl⟩ := h2
 rw [hx] at hy; injection hy with hy; subst hy
 exact h x (by rw [← Array.mem_toList_iff]; exact List.mem_of_getElem? hx)
theorem Emb.freeze {a : AW} {w : World} (he : Emb P w0 β a w) {i : Nat} {b : Blk} {bi : BI} (hb : a.heap.get i = some b) (hk1 : b.kind = 1) (hbi : β i = some bi) :
 ∃ n, (w.shape? bi.blk) = some (b.elem, n) ∧ Emb P w0 β a (w.freeze ⟨bi.blk, n, none⟩ 1) := by
 have hk : b.kind < 2 := by omega
 obtain ⟨bj, cur, fz, g1, g2, g3, g4, g5, g6, g7, g8⟩ := he.blk i b hb hk
 rw [hbi] at g1; injection g1 with g1; subst g1
 refine ⟨cur.size, by simp [World.shape?, g4], ?_⟩
 have hfr : ∃ fz', (w.freeze ⟨bi.blk, cur.size, none⟩ 1).heap[bi.blk]? = some (.cells cur b.elem fz') ∧ (fz'.1 = fz'.2 ∨ cur.size ≤ fz'.1) := by
  obtain ⟨lo, hi⟩ := fz
  simp only at g5
  by_cases hlh : lo = hi
  · refine ⟨(cur.size, cur.size + 1), ?_, .inr (Nat.le_refl _)⟩
    simp [World.freeze, Array.getElem?_modify, g4, hlh]
  · refine ⟨(min lo cur.size, max hi (cur.size + 1)), ?_, .inr ?_⟩
    · simp [World.freeze, Array.getElem?_modify, g4, hlh]
    · rcases g5 with g5 | g5
      · exact absurd g5 hlh
      · simp only; omega
 obtain ⟨fz', q1, q2⟩ := hfr
 have hother : ∀ k, k ≠ bi.blk → (w.freeze ⟨bi.blk, cur.size, none⟩ 1).heap[k]? = w.heap[k]? := by
  intro k hk
  simp [World.freeze, Array.getElem?_modify, Ne.symm hk]
 have hsize : (w.freeze ⟨bi.blk, cur.size, none⟩ 1).heap.size = w.heap.size := by simp [World.freeze]
 refine .mk' ⟨he.below.os, he.below.tape, he.below.output, by rw [hsize]; exact he.below.size, fun k hk => by rw [hother k (fun e => hk (by rw [e]; exact g2))]; exact he.below.block k hk⟩ he.fresh ?_ he.inj he.imp he.kinds (he.maps.keep (Le.refl β) (fun _ _ _ h _ _ => h) fun g es c hg => by rw [hother g (fun e => by subst e; rw [g4] at hg; cases hg)]; exact hg)
 intro j c hj hkc
 obtain ⟨bj, cur', fz2, r1, r2, r3, r4, r5, r6, r7, r8⟩ := he.blk j c hj hkc
 by_cases hblk : bj.blk = bi.blk
 · have hji := he.inj j i c b bj bi hj hkc hb hk r1 hbi hblk
   subst hji
   rw [hb] at hj; injection hj with hj; subst hj
   rw [hbi] at r1; injection r1 with r1; subst r1
   exact ⟨bi, cur, fz', hbi, g2, g3, q1, q2, g6, fun h => by omega, g8⟩
 · exact ⟨bj, cur', fz2, r1, r2, r3, by rw [hother _ hblk]; exact r4, r5, r6, r7, r8⟩
theorem bytesOf_ints : ∀ (l l' : List Value) (s b : ByteArray), VL β l l' → bytesOf l s = some b → ∃ ns : List Int, l' = ns.map (Value.int .u8) ∧ b = ns.foldl (fun r n => r.push (UInt8.ofNat n.toNat)) s := by
 intro l
 induction l with
 | nil =>
   intro l' s b hl h
   have : l' = [] := List.eq_nil_of_length_eq_zero (by simpa using hl.1.symm)
   subst this
   simp only [bytesOf, Option.some.injEq] at h
   exact ⟨[], rfl, by subst h; rfl⟩
 | cons v r ih =>
   intro l' s b hl h
   cases l' with
   | nil => have := hl.1; simp at this
   | cons v' r' =>
     unfold bytesOf at h
     split at h
     · rename_i h0; cases h0
     · rename_i n r0 h0
       injection h0 with h1 h2
       subst h1; subst h2
       obtain ⟨ns, k1, k2⟩ := ih r' _ b hl.tail h
       have := hl.head.int
       subst this
       exact ⟨n :: ns, by rw [k1]; rfl, by rw [k2]; rfl⟩
     · cases h
theorem Emb.loosen {a a1 : AW} {w : World} (he : Emb P w0 β a w) {i : Nat} {b : Blk} (hb : a.heap.get i = some b) (hk : b.kind < 2) (h : a.upd i { b with kind := 1 } = some a1) :
 Emb P w0 β a1 w ∧ a1.heap.get i = some { b with kind := 1 } := by
 unfold AW.upd at h
 split at h
 · rename_i hp la hput hla
   injection h with h; subst h
   have hget := Tr.get_put hput
   have back : ∀ j c, hp.get j = some c → ∃ c0, a.heap.get j = some c0 ∧ c0.cells = c.cells ∧ c0.elem = c.elem ∧ (c.kind < 2 → c0.kind < 2) ∧ (c.kind = 0 → c0.kind = 0) ∧ (c.kind = 3 → c0.kind = 3 ∧ c0 = c) ∧ c.kind ≤ 3 := by
    intro j c hj
    rw [hget] at hj
    by_cases hji : j = i
    · rw [if_pos hji] at hj; injection hj with hj; subst hj; subst hji
      exact ⟨b, hb, rfl, rfl, fun _ => hk, fun h => by simp at h, fun h => by simp at h, by simp⟩
    · rw [if_neg hji] at hj
      exact ⟨c, hj, rfl, rfl, fun h => h, fun h => h, fun h => ⟨h, rfl⟩, he.kinds j c hj⟩
   refine ⟨.mk' he.below ?_ ?_ ?_ ?_ ?_ ?_, by rw [hget, if_pos rfl]⟩
   · intro j hj
     obtain ⟨g1, g2⟩ := he.fresh j hj
     refine ⟨?_, g2⟩
     rw [hget, if_neg]
     · exact g1
     · rintro rfl; rw [g1] at hb; cases hb
   · intro j c hj hkc
     obtain ⟨c0, q1, q2, q3, q4, q5, _⟩ := back j c hj
     obtain ⟨bj, cur, fz, r1, r2, r3, r4, r5, r6, r7, r8⟩ := he.blk j c0 q1 (q4 hkc)
     exact ⟨bj, cur, fz, r1, r2, r3, by rw [← q3]; exact r4, r5, by rw [← q2, ← q3]; exact r6, fun h => r7 (q5 h), by rw [← q2]; exact r8⟩
   · intro j k c d bj bk hj hkc hk' hkd hbj hbk hblk
     obtain ⟨c0, q1, _, _, q4, _⟩ := back j c hj
     obtain ⟨d0, s1, _, _, s4, _⟩ := back k d hk'
     exact he.inj j k c0 d0 bj bk q1 (q4 hkc) s1 (s4 hkd) hbj hbk hblk
   · intro j c hj hkc
     obtain ⟨c0, q1, _, _, _, _, q6, _⟩ := back j c hj
     obtain ⟨q7, rfl⟩ := q6 hkc
     exact he.imp j c0 q1 q7
   · intro j c hj
     obtain ⟨_, _, _, _, _, _, _, q8⟩ := back j c hj
     exact q8
   · refine he.maps.keep (Le.refl β) (fun j c l hj hk2 _ => ?_) fun _ _ _ h => h
     rw [hget] at hj
     split at hj
     · injection hj with hj; subst hj; simp at hk2
     · exact hj
 · cases h
theorem mark_run {W : World} {g n : Nat} {e : TypeId} (h : W.shape? g = some (e, n)) : (markStringish ⟨g, 0, none⟩).run P W = .ok () (W.freeze ⟨g, n, none⟩ 1) := by
 simp only [markStringish, Sem.run_bind, run_shape, Result.andThen_ok, h]
 rfl
theorem convert_sound {a a1 : AW} {w : World} (he : Emb P w0 β a w) {s d : TypeId} {x x' : Value} (hx : VR β x x') {r : AN} (hv : evConvert P a s d x = some (r, a1)) :
 OpRes P w0 β a1 ((do pure (Next.value (← convert s d x')) : Sem Next).run P w) r := by
 unfold evConvert at hv
 split at hv
 · rename_i e hu1 hu2
   have := hx.flat_eq (v := .slice none 0 0) rfl
   subst this
   split at hv
   · rename_i hu3
     simp only [Option.some.injEq, Prod.mk.injEq] at hv
     obtain ⟨rfl, rfl⟩ := hv
     refine ⟨β, w, .string .empty, ?_, Le.refl β, he, .flat rfl⟩
     rw [Sem.run_bind, run_convert_bytes_string w s d e none 0 0 hu1 hu3 hu2]
     rfl
   · cases hv
 · rename_i p n c e hu1 hu2
   obtain ⟨p', bi, rfl, hp, hbi⟩ := hx.sliceOf
   split at hv
   · rename_i q l hu3 hsrc
     split at hv
     · rename_i b hby
       simp only [Option.some.injEq, Prod.mk.injEq] at hv
       obtain ⟨rfl, rfl⟩ := hv
       obtain ⟨new', k1, k2, k3, k4⟩ := src_sound he.toEmbR hx hsrc
       obtain ⟨ns, m1, m2⟩ := bytesOf_ints _ _ _ _ k1 hby
       have hq : q = n := by
        have := k3 w
        simp only [Builtin.lenOf, Sem.run_pure] at this
        injection this with this; exact this.symm
       subst hq
       refine ⟨β, w, .string b, ?_, Le.refl β, he, .flat rfl⟩
       rw [Sem.run_bind, run_convert_bytes_string w s d e _ _ _ hu1 hu3 hu2]
       have hlc := k4 q (Nat.le_refl _) w rfl
       rw [List.take_of_length_le (by rw [← k1.1]; omega), m1] at hlc
       simp only [Builtin.firstCells, Nat.mul_one] at hlc
       rw [run_bytesToString w p' q (c + bi.ext) ns hlc, m2]
       rfl
     · cases hv
   · cases hv
 · rename_i p n c e e' hu1 hu2
   obtain ⟨p', bi, rfl, hp, hbi⟩ := hx.sliceOf
   split at hv
   · rename_i b hsd hu3 hb
     split at hv
     · rename_i hc
       split at hv
       case h_2 => cases hv
       rename_i a2 hup
       simp only [Option.some.injEq, Prod.mk.injEq] at hv
       obtain ⟨rfl, rfl⟩ := hv
       obtain ⟨he2, hb2⟩ := he.loosen hb hc.1 hup
       obtain ⟨m, k1, k2⟩ := he2.freeze hb2 rfl hbi
       obtain ⟨_, bk, hbk, rfl⟩ := hp
       rw [hbi] at hbk; injection hbk with hbk; subst hbk
       have hsd' : s = d := by simpa using hsd
       subst hsd'
       refine ⟨β, _, .slice (some ⟨bi.blk, bi.off + p.off, none⟩) n (c + bi.ext), ?_, Le.refl β, k2, hx⟩
       obtain ⟨_, rfl⟩ := hc
       simp [convert, run_underlying hu1, run_underlying hu3, markStringish, k1]
     · cases hv
   · cases hv
 · rename_i b e hu1 hu2
   have := hx.flat_eq (v := .string b) rfl
   subst this
   split at hv
   · rename_i hu3
     split at hv
     · rename_i a2 hn
       split at hv
       · rename_i hc
         simp only [Option.some.injEq, Prod.mk.injEq] at hv
         obtain ⟨rfl, rfl⟩ := hv
         have hcap : b.size ≤ grownCap w b.size 0 e := grownCap_ge w b.size 0 e
         have hcur : (b.data.map (fun b => Value.int .u8 b.toNat) ++ Array.replicate (grownCap w b.size 0 e - b.size) (Value.int .u8 0)).size = (b.data.toList.map fun b => Value.int .u8 b.toNat).length + (grownCap w b.size 0 e - b.size) * P.cellsOf e := by
          simp [hc.1]
         have htl : ((b.data.map (fun b => Value.int .u8 b.toNat) ++ Array.replicate (grownCap w b.size 0 e - b.size) (Value.int .u8 0)).toList.take (b.data.toList.map fun b => Value.int .u8 b.toNat).length) = (b.data.toList.map fun b => Value.int .u8 b.toNat) := by
          rw [Array.toList_append, Array.toList_map, List.take_left' rfl]
         obtain ⟨h1, h2⟩ := he.drew.new (k := 1) (fz := (0, 0)) (ext := grownCap w b.size 0 e - b.size) (by omega) (.inl rfl) hcur (fun h => by cases h) (by
          rw [htl]
          exact .of_flat fun v hv => by simp only [List.mem_map] at hv; obtain ⟨b, _, rfl⟩ := hv; rfl) hn
         have hg : grow β a.next ⟨w.drew.heap.size, 0, grownCap w b.size 0 e - b.size⟩ a.next = some ⟨w.heap.size, 0, grownCap w b.size 0 e - b.size⟩ := by unfold grow; rw [if_pos rfl]; rfl
         obtain ⟨hp, la, cl, hput, rfl⟩ := AW.new_some hn
         obtain ⟨n, m1, m2⟩ := h2.freeze (i := a.next) (b := ⟨_, e, 1⟩) (by rw [Tr.get_put hput, if_pos rfl]) (by simp) hg
         refine ⟨_, _, .slice (some ⟨w.heap.size, 0, none⟩) b.size (grownCap w b.size 0 e), ?_, h1, m2, ?_⟩
         · have hch : (choose (.appendCap b.size 0 e)).run P w = .ok (grownCap w b.size 0 e) w.drew := by
            rw [run_choose]; rfl
           have hmk := mark_run (P := P) m1
           have hcv : (convert s d (.string b)).run P w = (Conv.stringToBytes e b).run P w := by
            simp [convert, run_underlying hu1, run_underlying hu2, run_underlying hu3]
           rw [Sem.run_bind, hcv]
           simp only [Conv.stringToBytes, Sem.run_bind, hch, Result.andThen_ok, newRow, run_newObj, Sem.run_pure]
           have hsz : w.drew.heap.size = w.heap.size := rfl
           rw [hsz]
           simp only at hmk
           rw [hmk]
           rfl
         · have := VR.slice (β := grow β a.next ⟨w.drew.heap.size, 0, grownCap w b.size 0 e - b.size⟩) (a := ⟨a.next, 0, none⟩) (a' := ⟨w.heap.size, 0, none⟩) (n := b.size) (c := b.size) (bi := ⟨w.heap.size, 0, grownCap w b.size 0 e - b.size⟩) ⟨rfl, _, hg, by simp⟩ hg
           simp only at this
           rw [show b.size + (grownCap w b.size 0 e - b.size) = grownCap w b.size 0 e by omega] at this
           exact this
       · cases hv
     · cases hv
   · cases hv
 · cases hv
theorem arr_two {args : Array Operand} {x y : Operand} (h : args.toList = [x, y]) : args = #[x, y] := by rw [← Array.toArray_toList (xs := args), h]
theorem arr_two' {args : Array TypeId} {x y : TypeId} (h : args.toList = [x, y]) : args = #[x, y] := by rw [← Array.toArray_toList (xs := args), h]
theorem elemOf_spec {ty e : TypeId} (h : elemOf P ty = some e) : P.underlying ty = some (.slice e) := by
 unfold elemOf at h
 split at h
 · rename_i e' hu; injection h with h; subst h; exact hu
 · cases h
theorem Parts.mapLe {ps : Array (Nat × Operand)} (h : ∀ x, x ∈ ps.toList.map (·.2) → VR β (eval t x) (ρ x)) (β1 : Pl) (hle : Le β β1) :
 Parts β1 ((ps.map fun (i, x) => (i, eval t x)).toList) ((ps.map fun (i, x) => (i, ρ x)).toList) :=
 Parts.map fun x hx => (h x hx).mono hle
theorem mem_sound {a a1 : AW} {w : World} (he : Emb P w0 β a w) (h : Ops β t ρ o.op) {r : AN} (hv : evMem P t o a = some (r, a1)) :
 OpRes P w0 β a1 ((execOp ρ o).run P w) r := by
 obtain ⟨dst, op, type, pos, after, guard⟩ := o
 simp only at h
 unfold evMem at hv
 simp only at hv
 split at hv
 · -- alloc
   rename_i e
   split at hv
   · rename_i hz; exact res_of_sim he (sim_alloc hz) hv
   · cases hv
 · -- box
   rename_i e x
   exact res_of_sim he (sim_box (h x (by simp [Op.operands]))) hv
 · -- build
   rename_i ty ps
   split at hv
   · rename_i hz
     refine res_of_sim he (sim_build hz (Parts.map fun x hx => h x ?_)) hv
     simpa [Op.operands] using hx
   · cases hv
 · -- buildSlice
   rename_i ty n ps
   split at hv
   · rename_i e hel
     split at hv
     · rename_i hz
       refine res_of_sim he (sim_buildSlice (elemOf_spec hel) hz n (Parts.mapLe fun x hx => h x ?_)) hv
       simpa [Op.operands] using hx
     · cases hv
   · cases hv
 · -- makeSlice
   rename_i ty l c
   split at hv
   · rename_i e hel
     split at hv
     · rename_i hz
       simp only [Bool.and_eq_true] at hz
       obtain ⟨⟨hz, hl⟩, hc⟩ := hz
       have e1 := (h l (by simp [Op.operands])).flat_eq hl
       have e2 := (h c (by simp [Op.operands])).flat_eq hc
       simp only [execOp, e1, e2]
       exact res_of_sim he (sim_makeSlice (elemOf_spec hel) hz _ _) hv
     · cases hv
   · cases hv
 · -- store
   rename_i ty x y
   split at hv
   · rename_i p hp
     have hx := h x (by simp [Op.operands])
     rw [hp] at hx
     obtain ⟨p', h1, h2⟩ := hx.pointer
     split at hv
     · rename_i u a2 hs
       simp only [Option.some.injEq, Prod.mk.injEq] at hv
       obtain ⟨rfl, rfl⟩ := hv
       obtain ⟨β1, x', w1, k1, k2, k3, _⟩ := sim_storeVar ty h2 (h y (by simp [Op.operands])) a w u a2 he hs
       refine ⟨β1, w1, ?_, k2, k3⟩
       simp only [execOp, Instr.storeAt, h1, Instr.sureAddr, pure_bind, Sem.run_bind, k1, Result.andThen_ok, Sem.run_pure]
     · cases hv
   · cases hv
 · -- slice
   rename_i ty x lo hi
   cases hsl : evSlice P a ty (eval t x) (lo.map (eval t)) (hi.map (eval t)) with
   | none => rw [hsl] at hv; cases hv
   | some v =>
     rw [hsl] at hv
     simp only [Option.map_some, Option.some.injEq, Prod.mk.injEq] at hv
     obtain ⟨rfl, rfl⟩ := hv
     obtain ⟨v', k1, k2⟩ := slice_sound he.toEmbR (lo' := lo.map ρ) (hi' := hi.map ρ) (h x (by simp [Op.operands])) (by
      intro y hy
      cases lo with
      | none => cases hy
      | some z => simp only [Option.map_some, Option.some.injEq] at hy; subst hy; exact ⟨_, rfl, h z (by simp [Op.operands])⟩) (by cases lo <;> simp) (by
      intro y hy
      cases hi with
      | none => cases hy
      | some z => simp only [Option.map_some, Option.some.injEq] at hy; subst hy; exact ⟨_, rfl, h z (by cases lo <;> simp [Op.operands])⟩) (by cases hi <;> simp) hsl
     refine ⟨β, w, v', ?_, Le.refl β, he, k2⟩
     simp only [execOp, Option.map_none, Sem.run_bind, k1, Result.andThen_ok, Sem.run_pure]
 · -- convert
   rename_i s d x
   exact convert_sound he (h x (by simp [Op.operands])) hv
 · -- makeMap
   rename_i ty r
   split at hv
   case isFalse => cases hv
   rename_i hh
   split at hv
   case h_2 => cases hv
   rename_i a2 hn
   simp only [Option.some.injEq, Prod.mk.injEq] at hv
   obtain ⟨rfl, rfl⟩ := hv
   obtain ⟨k1, k2, k3⟩ := he.newMap hn
   refine ⟨_, _, .map (some w.heap.size), ?_, k1, k2, k3⟩
   simp only [execOp]
   rw [Sem.run_bind, makeMap_run h hh]
   rfl
 · -- mapUpdate
   rename_i ty m k x
   split at hv
   case h_2 => cases hv
   rename_i a2 hp
   simp only [Option.some.injEq, Prod.mk.injEq] at hv
   obtain ⟨rfl, rfl⟩ := hv
   obtain ⟨w1, k1, k2⟩ := mapPut_sound he (h m (by simp [Op.operands])) (h k (by simp [Op.operands])) (h x (by simp [Op.operands])) hp
   refine ⟨β, w1, ?_, Le.refl β, k2⟩
   simp only [execOp, Sem.run_bind, k1, Result.andThen_ok, Sem.run_pure]
 · -- insert
   rename_i ty m k x
   split at hv
   case h_2 => cases hv
   rename_i a2 hp
   simp only [Option.some.injEq, Prod.mk.injEq] at hv
   obtain ⟨rfl, rfl⟩ := hv
   obtain ⟨w1, k1, k2⟩ := mapPut_sound he (h m (by simp [Op.operands])) (h k (by simp [Op.operands])) (h x (by simp [Op.operands])) hp
   refine ⟨β, w1, ?_, Le.refl β, k2⟩
   simp only [execOp, Sem.run_bind, k1, Result.andThen_ok, Sem.run_pure]
 · -- call
   rename_i c
   obtain ⟨callee, args, argTypes⟩ := c
   simp only at hv
   split at hv
   · rename_i f
     split at hv
     case h_2 => cases hv
     rename_i g first caps hfv
     split at hv
     · rename_i hb
       simp only [Option.some.injEq, Prod.mk.injEq] at hv
       obtain ⟨rfl, rfl⟩ := hv
       have hf := h f (by simp [Op.operands, Call.operands])
       rw [hfv] at hf
       obtain ⟨first', caps', hf, hl1, hl2⟩ := hf.funcOf
       unfold hasBody at hb
       split at hb
       · rename_i fn hfn
         simp only [Bool.and_eq_true, bne_iff_ne, ne_eq] at hb
         refine ⟨β, w, first' ++ args.map ρ ++ caps', ?_, Le.refl β, he, by
          simp only [Array.toList_append]
          exact (hl1.append (VL.map fun x hx => h x (by simp [Op.operands, Call.operands, hx]))).append hl2⟩
         have hbody : ¬ fn.body = none := by
          intro hbo; rw [hbo] at hb; simp at hb
         have hname : ¬ fn.name = "runtime.NumGoroutine" := hb.1
         simp [execOp, resolve, hf, Deferred.ofValue, invoke, callFunc, hfn, hname, hbody]
       · cases hb
     · cases hv
   · rename_i s ty hargs htys
     split at hv
     case h_2 => cases hv
     rename_i a2 hcl
     simp only [Option.some.injEq, Prod.mk.injEq] at hv
     obtain ⟨rfl, rfl⟩ := hv
     have e1 : args = #[s] := by rw [← Array.toArray_toList (xs := args), hargs]
     have e2 : argTypes = #[ty] := by rw [← Array.toArray_toList (xs := argTypes), htys]
     subst e1; subst e2
     obtain ⟨w1, k1, k2⟩ := clear_sound (ty' := type) he (h s (by simp [Op.operands, Call.operands])) hcl
     refine ⟨β, w1, .tuple #[], ?_, Le.refl β, k2, .flat rfl⟩
     simp [execOp, resolve, invoke, builtin, k1]
   · rename_i s x ty1 ty2 hargs htys
     have e1 := arr_two hargs
     have e2 := arr_two' htys
     subst e1; subst e2
     cases ha : evAppend P a ty1 ty2 (eval t s) (eval t x) with
     | none => rw [ha] at hv; cases hv
     | some q =>
       obtain ⟨v, a2⟩ := q
       rw [ha] at hv
       simp only [Option.some.injEq, Prod.mk.injEq] at hv
       obtain ⟨rfl, rfl⟩ := hv
       obtain ⟨β1, v', w1, k1, k2, k3, k4⟩ := append_sound (ty := type) he (h s (by simp [Op.operands, Call.operands])) (h x (by simp [Op.operands, Call.operands])) ha
       refine ⟨β1, w1, v', ?_, k2, k3, k4⟩
       simp [execOp, resolve, invoke, builtin, k1]
   · rename_i s x ty1 ty2 hargs htys
     have e1 := arr_two hargs
     have e2 := arr_two' htys
     subst e1; subst e2
     cases ha : evCopy P a ty1 (eval t s) (eval t x) with
     | none => rw [ha] at hv; cases hv
     | some q =>
       obtain ⟨v, a2⟩ := q
       rw [ha] at hv
       simp only [Option.some.injEq, Prod.mk.injEq] at hv
       obtain ⟨rfl, rfl⟩ := hv
       obtain ⟨v', w1, k1, k2, k3⟩ := copy_sound (ty2 := ty2) (ty := type) he (h s (by simp [Op.operands, Call.operands])) (h x (by simp [Op.operands, Call.operands])) ha
       refine ⟨β, w1, v', ?_, Le.refl β, k2, k3⟩
       simp [execOp, resolve, invoke, builtin, k1]
   · cases hv
 · cases hv
theorem ops_of {act : Act} (ht : ∀ x, x ∈ o.op.operands → ∀ k, x = .tmp k → VR β (eval t x) (act.eval x)) (hok : (o.op.operands.toList.all okOpnd) = true) : Ops β t act.eval o.op := by
 intro x hx
 simp only [List.all_eq_true] at hok
 have hk := hok x (by simpa using hx)
 cases x with
 | tmp k => exact ht _ hx k rfl
 | const v => exact .flat hk
 | global g => cases hk
 | func f => exact .func (.func f) rfl (by simp) rfl (by simp)
theorem float_sound {a : AW} {w : World} (he : EmbR P w0 β a w) (h : Ops β t ρ o.op) {v : Value} (hv : evFloat P t o a = some v) :
 ∃ v', (execOp ρ o).run P w = .ok (.value v') w ∧ VR β v v' := by
 unfold evFloat at hv
 split at hv
 · exact load_sound he h hv
 · obtain ⟨v', k1, k2⟩ := pure_sound h hv
   exact ⟨v', k1 w, k2⟩
theorem op_sound {a a1 : AW} {w : World} {act : Act} (he : Emb P w0 β a w) (ht : ∀ x, x ∈ o.op.operands → ∀ k, x = .tmp k → VR β (eval t x) (act.eval x)) {r : AN} (hv : evOp P t o a = some (r, a1)) :
 OpRes P w0 β a1 ((execOp act.eval o).run P w) r := by
 unfold evOp at hv
 split at hv
 · rename_i hok
   have h := ops_of ht hok
   split at hv
   · split at hv
     · rename_i v hf
       simp only [Option.some.injEq, Prod.mk.injEq] at hv
       obtain ⟨rfl, rfl⟩ := hv
       obtain ⟨v', k1, k2⟩ := float_sound he.toEmbR h hf
       exact ⟨β, w, v', k1, Le.refl β, he, k2⟩
     · cases hv
   · exact mem_sound he h hv
 · cases hv
end
end Ev
end Go.Proofs.YtedmogacklbcmaaGreatDoor
