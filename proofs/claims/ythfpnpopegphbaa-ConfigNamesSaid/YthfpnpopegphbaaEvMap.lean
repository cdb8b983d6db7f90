/- Maps, and 'clear', answer as the model's do. -/
import Derived.Test.YthfpnpopegphbaaEvApp
namespace Go.Proofs.Ythfpnpopegphbaa
namespace Ev
open Go.RowKit

section
variable {P : Program} {w0 : Base} {β : Pl} {t : Tr Value} {ρ : Operand → Value}

theorem Emb.newMap {a a1 : AW} {w : World} (he : Emb P w0 β a w) (hn : a.new ⟨[mapMark], 0, 2⟩ = some a1) :
    Le β (grow β a.next ⟨w.heap.size, 0, 0⟩) ∧ Emb P w0 (grow β a.next ⟨w.heap.size, 0, 0⟩) a1 (w.alloc (.map #[] 0)) ∧ VR (grow β a.next ⟨w.heap.size, 0, 0⟩) (.map (some a.next)) (.map (some w.heap.size)) := by
  obtain ⟨hp, la, cl, hput, rfl⟩ := AW.new_some hn
  have hnone := he.fresh a.next (Nat.le_refl _)
  have hle : Le β (grow β a.next ⟨w.heap.size, 0, 0⟩) := .grow hnone.2
  have hpush : ∀ g, g < w.heap.size → (w.alloc (.map #[] 0)).heap[g]? = w.heap[g]? := fun g hg => Below.heap_alloc _ _ _ hg
  have hgn : grow β a.next ⟨w.heap.size, 0, 0⟩ a.next = some ⟨w.heap.size, 0, 0⟩ := by simp [grow]
  have old : ∀ i b, (if i = a.next then some ⟨[mapMark], 0, 2⟩ else a.heap.get i) = some b → b.kind ≠ 2 → a.heap.get i = some b := by
    intro i b h hk
    split at h
    · injection h with h; subst h; exact absurd rfl hk
    · exact h
  have hβ : ∀ i b bi, a.heap.get i = some b → grow β a.next ⟨w.heap.size, 0, 0⟩ i = some bi → β i = some bi := by
    intro i b bi h1 h2
    unfold grow at h2
    rw [if_neg (by rintro rfl; rw [hnone.1] at h1; cases h1)] at h2
    exact h2
  refine ⟨hle, .mk' (he.below.alloc _) ?_ ?_ ?_ ?_ ?_ ?_, VR.map hgn⟩
  · intro i hi
    obtain ⟨g1, g2⟩ := he.fresh i (by simp at hi; omega)
    refine ⟨?_, ?_⟩
    · rw [Tr.get_put hput, if_neg (by simp at hi; omega)]; exact g1
    · unfold grow; rw [if_neg (by simp at hi; omega)]; exact g2
  · intro i b hi hkb
    rw [Tr.get_put hput] at hi
    have hi' := old i b hi (by omega)
    obtain ⟨bj, cur', fz', g1, g2, g3, g4, g5, g6, g7, g8⟩ := he.blk i b hi' hkb
    refine ⟨bj, cur', fz', hle _ _ g1, g2, g3, ?_, g5, g6, g7, g8.mono hle⟩
    rw [hpush _ (Array.getElem?_eq_some_iff.1 g4).1]; exact g4
  · intro i j b c bi bj hi hkb hj hkc hbi hbj hblk
    rw [Tr.get_put hput] at hi hj
    have hi' := old i b hi (by omega)
    have hj' := old j c hj (by omega)
    exact he.inj i j b c bi bj hi' hkb hj' hkc (hβ i b bi hi' hbi) (hβ j c bj hj' hbj) hblk
  · intro i b hi hkb
    rw [Tr.get_put hput] at hi
    obtain ⟨bi, h1, h2, h3⟩ := he.imp i b (old i b hi (by omega)) hkb
    exact ⟨bi, hle _ _ h1, h2, fun j v hv => by obtain ⟨v', h4, h5⟩ := h3 j v hv; exact ⟨v', h4, h5.mono hle⟩⟩
  · intro i b hi
    rw [Tr.get_put hput] at hi
    split at hi
    · injection hi with hi; subst hi; simp
    · exact he.kinds i b hi
  · have small : ∀ i b l bi, i ≠ a.next → (if i = a.next then some (⟨[mapMark], 0, 2⟩ : Blk) else a.heap.get i) = some b → b.kind = 2 → b.cells = mapMark :: l → grow β a.next ⟨w.heap.size, 0, 0⟩ i = some bi →
        a.heap.get i = some b ∧ β i = some bi ∧ bi.blk < w.heap.size := by
      intro i b l bi hne h1 h2 h3 h4
      rw [if_neg hne] at h1
      have h5 := hβ i b bi h1 h4
      obtain ⟨bj, es, clock, q1, _, q3, _⟩ := he.maps.map i b l h1 h2 h3
      rw [h5] at q1; injection q1 with q1; subst q1
      exact ⟨h1, h5, (Array.getElem?_eq_some_iff.1 q3).1⟩
    refine ⟨fun i b l hi hk hc => ?_, fun i j b c l m bi bj hi hk hc hj hk' hc' hbi hbj hblk => ?_⟩
    · rw [Tr.get_put hput] at hi
      by_cases hie : i = a.next
      · rw [if_pos hie] at hi
        injection hi with hi; subst hi
        simp only [List.cons.injEq, true_and] at hc
        subst hc; subst hie
        exact ⟨_, #[], 0, hgn, .inl he.below.size, (MapKept.heap_alloc w _).1, .nil _⟩
      · rw [if_neg hie] at hi
        obtain ⟨bj, es, clock, q1, q2, q3, q4⟩ := he.maps.map i b l hi hk hc
        exact ⟨bj, es, clock, hle _ _ q1, q2, by rw [hpush _ (Array.getElem?_eq_some_iff.1 q3).1]; exact q3, q4.mono hle⟩
    · rw [Tr.get_put hput] at hi hj
      by_cases hie : i = a.next
      · by_cases hje : j = a.next
        · rw [hie, hje]
        · obtain ⟨_, _, hlt⟩ := small j c m bj hje hj hk' hc' hbj
          rw [hie, hgn] at hbi
          injection hbi with hbi; subst hbi
          simp only at hblk; omega
      · obtain ⟨h1, h2, hlt⟩ := small i b l bi hie hi hk hc hbi
        by_cases hje : j = a.next
        · rw [hje, hgn] at hbj
          injection hbj with hbj; subst hbj
          simp only at hblk; omega
        · obtain ⟨k1, k2, _⟩ := small j c m bj hje hj hk' hc' hbj
          exact he.maps.inj i j b c l m bi bj h1 hk hc k1 hk' hc' h2 k2 hblk

theorem makeMap_run {ty : TypeId} {r : Option Operand} (h : Ops β t ρ (.makeMap ty r)) (hh : mapHint P (eval t) ty r = true) {w : World} : (Instr.makeMap ty (r.map ρ)).run P w = .ok (.map (some w.heap.size)) (w.alloc (.map #[] 0)) := by
  cases r with
  | none => simp [Instr.makeMap]
  | some x =>
    unfold mapHint at hh
    simp only at hh
    split at hh
    · rename_i k n kt et hx hu
      have hx' := h x (by simp [Op.operands])
      rw [hx] at hx'
      have := hx'.int
      simp [Instr.makeMap, run_underlying hu, this, asInt, asIntOf]
    · cases hh

theorem run_check {kt : TypeId} {d : TypeDesc} {k : Value} (hkt : P.underlying kt = some d) (hkd : (∃ k, d = .int k) ∨ d = .string ∨ d = .bool) (e : Bool) (w : World) : (Instr.checkKey e 10000 kt k).run P w = .ok () w := by
  suffices h : ∀ n, (Instr.checkKey e (n + 1) kt k).run P w = .ok () w from h 9999
  intro n
  unfold Instr.checkKey
  rw [Sem.run_bind, run_underlying hkt]
  rcases hkd with ⟨q, rfl⟩ | rfl | rfl <;> cases k <;> rfl

/-- A map's entries are changed. -/
theorem Emb.setMap {a a1 : AW} {w : World} (he : Emb P w0 β a w) {r : Nat} {b : Blk} {l : List Value} (hb : a.heap.get r = some b) (hk : b.kind = 2) (hcl : b.cells = mapMark :: l) {bi : BI} (hbi : β r = some bi)
    {l' : List Value} {es' : Array MapEntry} {c' : Nat} (hl : VL β l' (es'.toList.map entryV)) (hu : a.upd r ⟨mapMark :: l', 0, 2⟩ = some a1) :
    Emb P w0 β a1 { w with heap := w.heap.setIfInBounds bi.blk (.map es' c') } := by
  obtain ⟨bj, es, clock, q1, q2, q3, q4⟩ := he.maps.map r b l hb hk hcl
  rw [hbi] at q1; injection q1 with q1; subst q1
  have hlt : bi.blk < w.heap.size := (Array.getElem?_eq_some_iff.1 q3).1
  have hother : ∀ k, k ≠ bi.blk → (w.heap.setIfInBounds bi.blk (.map es' c'))[k]? = w.heap[k]? := fun k hk => by simp [Ne.symm hk]
  have hself : (w.heap.setIfInBounds bi.blk (.map es' c'))[bi.blk]? = some (.map es' c') := by simp [hlt]
  unfold AW.upd at hu
  split at hu
  case h_2 => cases hu
  rename_i hp la hput hla
  injection hu with hu; subst hu
  have hget := Tr.get_put hput
  have old : ∀ i c, hp.get i = some c → c.kind ≠ 2 → a.heap.get i = some c := by
    intro i c h hk
    rw [hget] at h
    split at h
    · injection h with h; subst h; exact absurd rfl hk
    · exact h
  refine .mk' ⟨he.below.os, he.below.tape, he.below.output, by simpa using he.below.size, fun k hkk => by rw [hother k (fun e => hkk (by rw [e]; exact q2))]; exact he.below.block k hkk⟩ ?_ ?_ ?_ ?_ ?_ ?_
  · intro i hi
    obtain ⟨g1, g2⟩ := he.fresh i hi
    refine ⟨?_, g2⟩
    rw [hget, if_neg]
    · exact g1
    · rintro rfl; rw [g1] at hb; cases hb
  · intro i c hi hkc
    obtain ⟨bj, cur, fz, g1, g2, g3, g4, g5⟩ := he.blk i c (old i c hi (by omega)) hkc
    exact ⟨bj, cur, fz, g1, g2, g3, by rw [hother _ (fun e => by rw [e, q3] at g4; cases g4)]; exact g4, g5⟩
  · intro i j c d bi' bj' hi hkc hj hkd
    exact he.inj i j c d bi' bj' (old i c hi (by omega)) hkc (old j d hj (by omega)) hkd
  · intro i c hi hkc
    exact he.imp i c (old i c hi (by omega)) hkc
  · intro i c hi
    rw [hget] at hi
    split at hi
    · injection hi with hi; subst hi; simp
    · exact he.kinds i c hi
  · have was : ∀ i c m, hp.get i = some c → c.kind = 2 → c.cells = mapMark :: m → ∃ c0 m0, a.heap.get i = some c0 ∧ c0.kind = 2 ∧ c0.cells = mapMark :: m0 := by
      intro i c m h1 h2 h3
      rw [hget] at h1
      split at h1
      · rename_i e; subst e; exact ⟨b, l, hb, hk, hcl⟩
      · exact ⟨c, m, h1, h2, h3⟩
    refine ⟨fun i c m hi hk2 hc => ?_, fun i j c d m n bi' bj' hi hk2 hc hj hk3 hd => ?_⟩
    · rw [hget] at hi
      by_cases hir : i = r
      · rw [if_pos hir] at hi
        injection hi with hi; subst hi; subst hir
        simp only [List.cons.injEq, true_and] at hc
        subst hc
        exact ⟨bi, es', c', hbi, q2, hself, hl⟩
      · rw [if_neg hir] at hi
        obtain ⟨bj, es2, c2, r1, r2, r3, r4⟩ := he.maps.map i c m hi hk2 hc
        refine ⟨bj, es2, c2, r1, r2, ?_, r4⟩
        rw [hother _ (fun e => hir (he.maps.inj i r c b m l bj bi hi hk2 hc hb hk hcl r1 hbi e))]
        exact r3
    · obtain ⟨c0, m0, s1, s2, s3⟩ := was i c m hi hk2 hc
      obtain ⟨d0, n0, t1, t2, t3⟩ := was j d n hj hk3 hd
      exact he.maps.inj i j c0 d0 m0 n0 bi' bj' s1 s2 s3 t1 t2 t3

theorem VR.pair {k x x' : Value} (hf : Ev.flat k = true) (hx : VR β x x') : VR β (.tuple #[k, x]) (.tuple #[k, x']) := by
  refine .tuple rfl fun i y y' h1 h2 => ?_
  rcases i with _ | _ | i
  · simp at h1 h2; subst h1; subst h2; exact .flat hf
  · simp at h1 h2; subst h1; subst h2; exact hx
  · simp at h1

theorem mapPut_sound {a a1 : AW} {w : World} (he : Emb P w0 β a w) {ty : TypeId} {m m' k k' x x' : Value} (hm : VR β m m') (hk : VR β k k') (hx : VR β x x') (hv : evMapPut P a ty m k x = some a1) :
    ∃ w1, (Instr.mapUpdate ty m' k' x').run P w = .ok () w1 ∧ Emb P w0 β a1 w1 := by
  unfold evMapPut at hv
  split at hv
  case h_2 => cases hv
  rename_i r kt et hu
  split at hv
  case h_2 => cases hv
  rename_i d l hd hl
  split at hv
  case isFalse => cases hv
  rename_i hf
  have := hk.flat_eq hf
  subst this
  obtain ⟨bi, hbi, rfl⟩ := hm.mapOf
  obtain ⟨b, hb, hk2, hcl⟩ := mapOf_some hl
  obtain ⟨bj, es, clock, h1, _, h3, h4⟩ := he.maps.map r b l hb hk2 hcl
  rw [hbi] at h1; injection h1 with h1; subst h1
  obtain ⟨hkt, hkd⟩ := keyKind_spec hd
  have hchk := run_check (k := k') hkt hkd false w
  have hget := MapKept.run_getObj_map (P := P) h3
  split at hv
  · rename_i sr hss hfi
    rcases mapFind_sound l es.toList 0 h4 _ hfi with ⟨_, g2⟩ | ⟨j, v2, v', g1, _⟩
    · have hfk := MapKept.run_findKey (P := P) (w := w) hkt g2
      refine ⟨_, ?_, he.setMap hb hk2 hcl hbi (es' := es.push { key := k', val := x', born := clock }) (c' := clock + 1) ?_ hv⟩
      · simp [Instr.mapUpdate, run_underlying hu, hget, hchk, hfk, MapKept.run_setObj_map _ h3]
      · rw [Array.toList_push, List.map_append]
        exact h4.push (VR.pair hf hx)
    · cases g1
  · rename_i sr i v1 hss hfi
    rcases mapFind_sound l es.toList 0 h4 _ hfi with ⟨g1, _⟩ | ⟨j, v2, v', g1, g2, g3, g4, g5⟩
    · cases g1
    · simp only [Option.some.injEq, Prod.mk.injEq, Nat.zero_add] at g1 g2
      obtain ⟨rfl, rfl⟩ := g1
      have hfk := MapKept.run_findKey (P := P) (w := w) hkt g2
      have hlt : i < es.size := by simpa using g4
      have hkey : es[i].key = k' := g5 _ (by simp [hlt])
      obtain ⟨_, _, _, hik⟩ := sameNow_flat hss
      have hks : (Instr.keyThatStays k' k').run P w = .ok k' w := by simp [Instr.keyThatStays, hik]
      refine ⟨_, ?_, he.setMap hb hk2 hcl hbi (es' := es.modify i fun e => { e with key := k', val := x' }) (c' := clock) ?_ hv⟩
      · simp [Instr.mapUpdate, run_underlying hu, hget, hchk, hfk, hlt, hkey, hks, MapKept.run_setObj_map _ h3]
      · have e : (es.modify i fun e => { e with key := k', val := x' }).toList.map entryV = (es.toList.map entryV).set i (.tuple #[k', x']) := by
          apply List.ext_getElem?
          intro n
          simp only [List.getElem?_map, Array.getElem?_toList, Array.getElem?_modify, List.getElem?_set, List.length_map, Array.length_toList]
          by_cases hin : i = n
          · subst hin; simp [hlt, entryV]
          · simp [hin]
        rw [e]
        exact h4.set i (VR.pair hf hx)
  · cases hv

theorem clear_sound {a a1 : AW} {w : World} (he : Emb P w0 β a w) {ty ty' : TypeId} {s s' : Value} (hs : VR β s s') (hv : evClear P a ty s = some a1) :
    ∃ w1, (Builtin.clear_ #[ty] ty' #[s']).run P w = .ok (.tuple #[]) w1 ∧ Emb P w0 β a1 w1 := by
  unfold evClear at hv
  split at hv
  · rename_i e hu
    injection hv with hv; subst hv
    have := hs.flat_eq (v := .slice none 0 0) rfl
    subst this
    exact ⟨w, by simp [Builtin.clear_, run_underlying hu], he⟩
  · rename_i p n c e hu
    obtain ⟨p', bi, rfl, hp, hbi⟩ := hs.sliceOf
    split at hv
    · rename_i h0
      subst h0
      injection hv with hv; subst hv
      exact ⟨w, by simp [Builtin.clear_, run_underlying hu], he⟩
    · rename_i h0
      split at hv
      case isFalse => cases hv
      rename_i hz
      split at hv
      case h_2 => cases hv
      rename_i z hzz
      split at hv
      case isFalse => cases hv
      rename_i hone
      unfold zflat at hz
      cases hi : P.info? e with
      | none => rw [hi] at hz; cases hz
      | some inf =>
        rw [hi] at hz hzz
        simp only [Option.bind_some] at hzz
        dsimp only at hz
        rw [hzz] at hz
        simp only [Bool.and_eq_true] at hz
        have hmem : ∀ v ∈ (Builtin.zeroCells z.cells n).toList, v ∈ z.cells.toList := by
          intro v hv
          simp only [Builtin.zeroCells, Array.toList_map, List.mem_map] at hv
          obtain ⟨i, him, rfl⟩ := hv
          have hi0 : i < n * z.cells.size := by simpa using him
          have hs : 0 < z.cells.size := by
            rcases Nat.eq_zero_or_pos z.cells.size with h | h
            · rw [h] at hi0; simp at hi0
            · exact h
          have hlt := Nat.mod_lt i hs
          rw [getElem!_pos z.cells _ hlt]
          exact Array.mem_toList_iff.2 (Array.getElem_mem _)
        have hfl : ∀ v ∈ z.cells.toList, flat v = true := by
          intro v hv
          obtain ⟨i, hi2⟩ := List.getElem?_of_mem hv
          have := (VR.cells (β := β) (.flat hz.1 : VR β z z))
          cases z with
          | agg cs =>
            have h1 := hz.1
            simp only [flat, List.all_eq_true] at h1
            exact atom_flat (h1 v hv)
          | _ => simp only [Value.cells, List.mem_singleton] at hv; subst hv; exact hz.1
        obtain ⟨w1, k1, k2⟩ := store_all hp (Builtin.zeroCells z.cells n).toList (Builtin.zeroCells z.cells n).toList 0 he (fun v hv => by
          simp only [List.all_eq_true] at hone; exact hone v (hmem v hv)) (.of_flat fun v hv => hfl v (hmem v hv)) hv
        refine ⟨w1, ?_, k2⟩
        have hn : ∀ m, n ≠ 0 → (match n, m with | 0, _ => (0 : Nat) | _, m => m) = m := by intro m h; cases n <;> simp_all
        cases n with
        | zero => exact absurd rfl h0
        | succ n => simp [Builtin.clear_, run_underlying hu, zeroValue, typeInfo, hi, hzz, k1]
  · cases hv
end
end Ev
end Go.Proofs.Ythfpnpopegphbaa
