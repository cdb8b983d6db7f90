/- Allocs that may come early: what they make lies in the model's memory ahead of its place in the evaluator's. -/
import Derived.Test.YthfpnpopegphbaaEvFree
namespace Go.Proofs.Ythfpnpopegphbaa
namespace Ev
open Go.RowKit

theorem bounded_narrow {β γ : Pl} {n : Nat} (h : ∀ i b, i < n → γ i = some b → β i = some b) : ∀ (d : Nat) (v v' : Value), VR γ v v' → bounded d n v = true → VR β v v' := by
  have atoms : ∀ v v' : Value, VR γ v v' → bounded 0 n v = true → VR β v v' := by
    intro v v' hv hb
    cases hv with
    | flat hf => exact .flat hf
    | ptr ha =>
      obtain ⟨h1, bi, h2, h3⟩ := ha
      exact .ptr ⟨h1, bi, h _ _ (of_decide_eq_true hb) h2, h3⟩
    | slice ha hbi =>
      obtain ⟨h1, bi, h2, h3⟩ := ha
      exact .slice ⟨h1, bi, h _ _ (of_decide_eq_true hb) h2, h3⟩ (h _ _ (of_decide_eq_true hb) hbi)
    | agg hs hh => have := VR.flat_eq (VR.agg hs hh) hb; rw [this]; exact .flat hb
    | tuple hs hh => have := VR.flat_eq (VR.tuple hs hh) hb; rw [this]; exact .flat hb
    | func fn _ _ _ _ => simp [bounded, Ev.flat, atom] at hb
    | map hm => exact .map (h _ _ (of_decide_eq_true hb) hm)
  intro d
  induction d with
  | zero => exact atoms
  | succ d ih =>
    intro v v' hv hb
    have lists : ∀ (cs cs' : Array Value), cs.toList.all (bounded d n) = true → (∀ (i : Nat) (v v' : Value), cs[i]? = some v → cs'[i]? = some v' → VR γ v v') → ∀ (i : Nat) (v v' : Value), cs[i]? = some v → cs'[i]? = some v' → VR β v v' := by
      intro cs cs' hb hh i x x' h1 h2
      simp only [List.all_eq_true] at hb
      exact ih x x' (hh i x x' h1 h2) (hb x (by rw [Array.mem_toList_iff]; exact Array.mem_of_getElem? h1))
    cases hv with
    | flat hf => exact .flat hf
    | ptr ha => exact atoms _ _ (.ptr ha) hb
    | slice ha hbi => exact atoms _ _ (.slice ha hbi) hb
    | agg hs hh => exact .agg hs (lists _ _ hb hh)
    | tuple hs hh => exact .tuple hs (lists _ _ hb hh)
    | func fn hs hh ks kk =>
      simp only [bounded, Bool.and_eq_true] at hb
      exact .func fn hs (lists _ _ hb.1 hh) ks (lists _ _ hb.2 kk)
    | map hm => exact atoms _ _ (.map hm) hb

section
variable {P : Program} {w0 : Base} {β : Pl} {call : CallF} {ops : Array Oper}

theorem EmbR.widen {γ : Pl} {a : AW} {w : World} (he : EmbR P w0 β a w) (hle : Le β γ) (hon : ∀ i b, a.heap.get i = some b → γ i = β i) : EmbR P w0 γ a w := by
  refine ⟨he.below, ?_, ?_, ?_, he.kinds, ?_⟩
  · intro i b hi hk
    obtain ⟨bi, cur, fz, g1, g2, g3, g4, g5, g6, g7, g8⟩ := he.blk i b hi hk
    exact ⟨bi, cur, fz, hle _ _ g1, g2, g3, g4, g5, g6, g7, g8.mono hle⟩
  · intro i j b c bi bj hi hk hj hk' h1 h2
    exact he.inj i j b c bi bj hi hk hj hk' ((hon i b hi).symm.trans h1) ((hon j c hj).symm.trans h2)
  · intro i b hi hk
    obtain ⟨bi, h1, h2, h3⟩ := he.imp i b hi hk
    exact ⟨bi, hle _ _ h1, h2, fun j v hv => by obtain ⟨v', h4, h5⟩ := h3 j v hv; exact ⟨v', h4, h5.mono hle⟩⟩
  · exact he.maps.keep hle (fun _ _ _ h _ _ => h) fun _ _ _ h => h

/-- The model's memory may have a block more. -/
theorem Emb.grows {a : AW} {w : World} (he : Emb P w0 β a w) (o : Obj) : Emb P w0 β a (w.alloc o) := by
  have hp : ∀ g, g < w.heap.size → (w.alloc o).heap[g]? = w.heap[g]? := fun g hg => Below.heap_alloc _ _ _ hg
  refine .mk' (he.below.alloc o) he.fresh ?_ he.inj he.imp he.kinds (he.maps.keep (Le.refl β) (fun _ _ _ h _ _ => h) fun k es c hk => by rw [hp k (Array.getElem?_eq_some_iff.1 hk).1]; exact hk)
  intro i b hi hk
  obtain ⟨bi, cur, fz, g1, g2, g3, g4, g5⟩ := he.blk i b hi hk
  exact ⟨bi, cur, fz, g1, g2, g3, by rw [hp _ (Array.getElem?_eq_some_iff.1 g4).1]; exact g4, g5⟩

/-- A block that is there already becomes the evaluator's next one. -/
theorem Emb.adopt {a a1 : AW} {w : World} (he : Emb P w0 β a w) {g : Nat} {cur : Array Value} {e : TypeId} (hg : w.heap[g]? = some (.cells cur e (0, 0))) (hm : w0.Mine g)
    (hoff : ∀ j c bj, a.heap.get j = some c → c.kind < 2 → β j = some bj → bj.blk ≠ g) (hfl : ∀ v ∈ cur.toList, flat v = true) (hn : a.new ⟨cur.toList, e, 0⟩ = some a1) :
    Le β (grow β a.next ⟨g, 0, 0⟩) ∧ Emb P w0 (grow β a.next ⟨g, 0, 0⟩) a1 w := by
  obtain ⟨hp, la, cl, hput, rfl⟩ := AW.new_some hn
  have hnone := he.fresh a.next (Nat.le_refl _)
  have hle : Le β (grow β a.next ⟨g, 0, 0⟩) := .grow hnone.2
  have hgn : grow β a.next ⟨g, 0, 0⟩ a.next = some ⟨g, 0, 0⟩ := by simp [grow]
  have hβ : ∀ i b bi, a.heap.get i = some b → grow β a.next ⟨g, 0, 0⟩ i = some bi → β i = some bi := by
    intro i b bi h1 h2
    unfold grow at h2
    rw [if_neg (by rintro rfl; rw [hnone.1] at h1; cases h1)] at h2
    exact h2
  refine ⟨hle, .mk' he.below ?_ ?_ ?_ ?_ ?_ ?_⟩
  · intro i hi
    obtain ⟨g1, g2⟩ := he.fresh i (by simp at hi; omega)
    refine ⟨?_, ?_⟩
    · rw [Tr.get_put hput, if_neg (by simp at hi; omega)]; exact g1
    · unfold grow; rw [if_neg (by simp at hi; omega)]; exact g2
  · intro i b hi hkb
    rw [Tr.get_put hput] at hi
    by_cases hie : i = a.next
    · rw [if_pos hie] at hi
      injection hi with hi; subst hi; subst hie
      refine ⟨⟨g, 0, 0⟩, cur, (0, 0), hgn, hm, rfl, hg, .inl rfl, by simp, fun _ => ⟨rfl, rfl⟩, ?_⟩
      rw [List.take_length]
      exact .of_flat hfl
    · rw [if_neg hie] at hi
      obtain ⟨bj, cur', fz', g1, g2, g3, g4, g5, g6, g7, g8⟩ := he.blk i b hi hkb
      exact ⟨bj, cur', fz', hle _ _ g1, g2, g3, g4, g5, g6, g7, g8.mono hle⟩
  · intro i j b c bi bj hi hkb hj hkc hbi hbj hblk
    rw [Tr.get_put hput] at hi hj
    by_cases hie : i = a.next
    · by_cases hje : j = a.next
      · rw [hie, hje]
      · rw [if_neg hje] at hj
        rw [hie, hgn] at hbi
        injection hbi with hbi; subst hbi
        exact absurd hblk.symm (hoff j c bj hj hkc (hβ j c bj hj hbj))
    · rw [if_neg hie] at hi
      by_cases hje : j = a.next
      · rw [hje, hgn] at hbj
        injection hbj with hbj; subst hbj
        exact absurd hblk (hoff i b bi hi hkb (hβ i b bi hi hbi))
      · rw [if_neg hje] at hj
        exact he.inj i j b c bi bj hi hkb hj hkc (hβ i b bi hi hbi) (hβ j c bj hj hbj) hblk
  · intro i b hi hkb
    rw [Tr.get_put hput] at hi
    split at hi
    · injection hi with hi; subst hi; simp at hkb
    · obtain ⟨bi, h1, h2, h3⟩ := he.imp i b hi hkb
      exact ⟨bi, hle _ _ h1, h2, fun j v hv => by obtain ⟨v', h4, h5⟩ := h3 j v hv; exact ⟨v', h4, h5.mono hle⟩⟩
  · intro i b hi
    rw [Tr.get_put hput] at hi
    split at hi
    · injection hi with hi; subst hi; simp
    · exact he.kinds i b hi
  · refine he.maps.keep hle (fun i b l hi hk2 _ => ?_) fun _ _ _ h => h
    rw [Tr.get_put hput] at hi
    split at hi
    · injection hi with hi; subst hi; simp at hk2
    · exact hi

/-- The memory as it is now, without some blocks, as what a call starts from. -/
def Base.now (b : Base) (w : World) (S : Nat → Prop) : Base := ⟨w, fun k => b.Mine k ∧ ¬ S k⟩
theorem Emb.rebase {a : AW} {w : World} (he : Emb P w0 β a w) {S : Nat → Prop} (hS : ∀ j c bj, a.heap.get j = some c → c.kind < 2 → β j = some bj → ¬ S bj.blk)
    (hc : ∀ g, S g → ∃ cur e fz, w.heap[g]? = some (.cells cur e fz)) : Emb P (w0.now w S) β a w := by
  refine .mk' ⟨rfl, rfl, rfl, Nat.le_refl _, fun _ _ => rfl⟩ he.fresh ?_ he.inj ?_ he.kinds ⟨?_, he.maps.inj⟩
  · intro i b hi hk
    obtain ⟨bi, cur, fz, g1, g2, g3⟩ := he.blk i b hi hk
    exact ⟨bi, cur, fz, g1, .inr ⟨g2, hS i b bi hi hk g1⟩, g3⟩
  · intro i b hi hk
    obtain ⟨bi, h1, h2, h3⟩ := he.imp i b hi hk
    have hlt : bi.blk < w0.w.heap.size := Nat.lt_of_not_le fun e => h2 (.inl e)
    refine ⟨bi, h1, ?_, fun j v hv => ?_⟩
    · rintro (e | e)
      · have e' : w.heap.size ≤ bi.blk := e
        have := he.below.size
        omega
      · exact h2 e.1
    · obtain ⟨v', h4, h5⟩ := h3 j v hv
      exact ⟨v', by rw [show (w0.now w S).w = w from rfl, he.below.cell (p := ⟨bi.blk, bi.off + j, none⟩) h2]; exact h4, h5⟩
  · intro i b l hi hk hcl
    obtain ⟨bi, es, clock, q1, q2, q3, q4⟩ := he.maps.map i b l hi hk hcl
    refine ⟨bi, es, clock, q1, .inr ⟨q2, fun hs => ?_⟩, q3, q4⟩
    obtain ⟨cur, e, fz, hcc⟩ := hc _ hs
    rw [q3] at hcc; cases hcc
theorem Emb.unbase {β2 : Pl} {a a1 : AW} {w w1 : World} {S : Nat → Prop} (he' : Emb P (w0.now w S) β2 a1 w1) (he : Emb P w0 β a w) (hle : Le β β2) (hs : Since a a1) : Emb P w0 β2 a1 w1 := by
  have hmine : ∀ k, (w0.now w S).Mine k → w0.Mine k := by
    rintro k (e | e)
    · have e' : w.heap.size ≤ k := e
      exact .inl (Nat.le_trans he.below.size e')
    · exact e.1
  have hb := he'.below
  refine .mk' ⟨hb.os.trans he.below.os, hb.tape.trans he.below.tape, hb.output.trans he.below.output, Nat.le_trans he.below.size hb.size, fun k hk => ?_⟩ he'.fresh ?_ he'.inj ?_ he'.kinds ⟨?_, he'.maps.inj⟩
  · rw [hb.block k fun e => hk (hmine k e)]
    exact he.below.block k hk
  · intro i b hi hk
    obtain ⟨bi, cur, fz, g1, g2, g3⟩ := he'.blk i b hi hk
    exact ⟨bi, cur, fz, g1, hmine _ g2, g3⟩
  · intro i b hi hk
    obtain ⟨bi, h1, h2, h3⟩ := he.imp i b (hs.1.2.2 i b hi hk) hk
    exact ⟨bi, hle _ _ h1, h2, fun j v hv => by obtain ⟨v', h4, h5⟩ := h3 j v hv; exact ⟨v', h4, h5.mono hle⟩⟩
  · intro i b l hi hk hcl
    obtain ⟨bi, es, clock, q1, q2, q3⟩ := he'.maps.map i b l hi hk hcl
    exact ⟨bi, es, clock, q1, hmine _ q2, q3⟩

/-- What a type's variable begins as. -/
def ZeroOf (P : Program) (e : TypeId) (z : Value) : Prop := ∃ i, P.info? e = some i ∧ i.zero = some z ∧ flat z = true
theorem ZeroOf.cells {e : TypeId} {z : Value} (h : ZeroOf P e z) : ∀ v ∈ z.cells.toList, flat v = true := by
  obtain ⟨i, _, _, hz⟩ := h
  intro v hv
  cases z with
  | agg cs =>
    simp only [flat, List.all_eq_true] at hz
    exact atom_flat (hz v hv)
  | _ => simp only [Value.cells, List.mem_singleton] at hv; subst hv; exact hz
theorem ZeroOf.uniq {e : TypeId} {z z' : Value} (h : ZeroOf P e z) (h' : ZeroOf P e z') : z' = z := by
  obtain ⟨i, h1, h2, _⟩ := h
  obtain ⟨j, k1, k2, _⟩ := h'
  rw [h1] at k1; injection k1 with k1; subst k1
  rw [h2] at k2; injection k2 with k2; exact k2.symm
theorem alloc_val {t : Tr Value} {o : Oper} {a a1 : AW} {v : Value} {e : TypeId} (ho : o.op = .alloc e) (hg : o.guard = none) (hv : stepV P call ops t o a = some (v, a1)) :
    ∃ z, ZeroOf P e z ∧ a.new ⟨z.cells.toList, e, 0⟩ = some a1 ∧ v = .pointer (some ⟨a.next, 0, none⟩) := by
  have hok : (o.op.operands.toList.all okOpnd) = true := by rw [ho]; rfl
  have hfl : isFloat t o.op = false := by rw [ho]; rfl
  unfold stepV guardYes at hv
  rw [hg] at hv
  simp only at hv
  cases hop : evOp P t o a with
  | none => rw [hop] at hv; cases hv
  | some q =>
    obtain ⟨r, a2⟩ := q
    rw [hop] at hv
    unfold evOp at hop
    rw [if_pos hok, if_neg (by simp [hfl])] at hop
    unfold evMem at hop
    rw [ho] at hop
    simp only at hop
    split at hop
    case isFalse => cases hop
    rename_i hz
    unfold zflat at hz
    cases hi : P.info? e with
    | none => rw [hi] at hz; cases hz
    | some i =>
      rw [hi] at hz
      dsimp only at hz
      cases hzz : i.zero with
      | none => rw [hzz] at hz; cases hz
      | some z =>
        rw [hzz] at hz
        simp only [Bool.and_eq_true] at hz
        have harun : arun P (Instr.alloc e true (.tuple #[])) a = match a.new ⟨z.cells.toList, e, 0⟩ with | some w' => some (.pointer (some ⟨a.next, 0, none⟩), w') | none => none := by
          have h1 : arun P (zeroValue e) a = some (z, a) := by
            show arun P (Sem.bind (Sem.bind program _) _) a = _
            simp [arun_bind, program, arun, hi, hzz, Pure.pure]
          show arun P (Sem.bind (zeroValue e) fun zero => Sem.bind (newRow e zero.cells) fun x => pure (Value.pointer (some x))) a = _
          rw [arun_bind, h1]
          simp only
          show arun P (Sem.bind (Sem.bind (newObj (.cells z.cells e)) fun r => pure (⟨r, 0, none⟩ : Addr)) fun x => pure (Value.pointer (some x))) a = _
          rw [arun_bind, arun_bind]
          simp only [newObj, arun, if_true]
          cases a.new ⟨z.cells.toList, e, 0⟩ <;> rfl
        rw [harun] at hop
        cases hn : a.new ⟨z.cells.toList, e, 0⟩ with
        | none => rw [hn] at hop; cases hop
        | some a3 =>
          rw [hn] at hop
          simp only [Option.some.injEq, Prod.mk.injEq] at hop
          obtain ⟨rfl, rfl⟩ := hop
          simp only [Option.some.injEq, Prod.mk.injEq] at hv
          exact ⟨z, ⟨i, hi, hzz, hz.1⟩, by rw [← hv.2]; exact hn, hv.1.symm⟩
theorem alloc_run {e : TypeId} {z : Value} (h : ZeroOf P e z) (w : World) : (Instr.alloc e true (.tuple #[])).run P w = .ok (.pointer (some ⟨w.heap.size, 0, none⟩)) (w.alloc (.cells z.cells e)) := by
  obtain ⟨i, h1, h2, _⟩ := h
  simp [Instr.alloc, zeroValue, typeInfo, h1, h2, newVar, newRow]

/-- An operation that touches no memory, or only loads. -/
theorem stepV_float {a : AW} {w : World} {act : Act} {t : Tr Value} {o : Oper} {i : Nat} (hi : ops[i]? = some o) (he : EmbR P w0 β a w) (hfl : isFloat t o.op = true)
    (ht : ∀ k, k ∈ o.looksAt ops → VR β ((t.get k).getD undef) (act.tmps.getD k undef)) {v : Value} {a1 : AW} (hv : stepV P call ops t o a = some (v, a1)) {Q : Exit → Act → World → Prop} {K : Act → World → Prop}
    (hK : ∀ v', VR β v v' → K (act.put o.dst v') w) : wpOp P ops Q i K act w := by
  unfold wpOp
  simp only [hi]
  unfold stepV at hv
  cases hg : guardYes ops t o with
  | none => rw [hg] at hv; cases hv
  | some b =>
    rw [guard_sound ht hg]
    rw [hg] at hv
    cases b with
    | false =>
      simp only [Option.some.injEq, Prod.mk.injEq] at hv
      obtain ⟨rfl, _⟩ := hv
      simp only [Bool.false_eq_true, if_false]
      exact hK undef (.flat rfl)
    | true =>
      simp only at hv
      simp only [if_true]
      refine .inl ?_
      unfold Oper.wp
      unfold evOp at hv
      by_cases hok : (o.op.operands.toList.all okOpnd) = true
      · rw [if_pos hok, if_pos hfl] at hv
        cases hf : evFloat P t o a with
        | none => rw [hf] at hv; cases hv
        | some u =>
          rw [hf] at hv
          simp only [Option.some.injEq, Prod.mk.injEq] at hv
          obtain ⟨rfl, _⟩ := hv
          obtain ⟨v', k1, k2⟩ := float_sound he (ops_of (act := act) (fun x hx k hk => by
            subst hk
            refine ht k ?_
            unfold Oper.looksAt
            exact List.mem_append_left _ (List.mem_filterMap.2 ⟨.tmp k, by simpa using hx, rfl⟩)) hok) hf
          rw [k1]
          exact hK v' k2
      · rw [if_neg hok] at hv; cases hv
end
end Ev
end Go.Proofs.Ythfpnpopegphbaa
