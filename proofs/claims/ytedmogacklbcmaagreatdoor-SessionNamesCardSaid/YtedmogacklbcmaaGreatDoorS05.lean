/- Texts that the proofs share: EvSince. -/
import Derived.Test.YtedmogacklbcmaaGreatDoorS01
import Derived.Test.YtedmogacklbcmaaGreatDoorS03
namespace Go.Proofs.YtedmogacklbcmaaGreatDoor
namespace Ev
open Go.RowKit
def Since (a b : AW) : Prop := (a.clock ≤ b.clock ∧ a.next ≤ b.next ∧ (∀ i c, b.heap.get i = some c → c.kind = 3 → a.heap.get i = some c) ∧ ∀ p : Prop, p ∈ a.obl → p ∈ b.obl) ∧ ∀ i, (∀ t, b.last.get i = some t → t < a.clock) → b.heap.get i = a.heap.get i ∧ b.last.get i = a.last.get i
theorem Since.refl (a : AW) : Since a a := ⟨⟨Nat.le_refl _, Nat.le_refl _, fun _ _ h _ => h, fun _ h => h⟩, fun _ _ => ⟨rfl, rfl⟩⟩
theorem Since.trans {a b c : AW} (h : Since a b) (k : Since b c) : Since a c := by
 refine ⟨⟨Nat.le_trans h.1.1 k.1.1, Nat.le_trans h.1.2.1 k.1.2.1, fun i c h1 h2 => h.1.2.2.1 i c (k.1.2.2.1 i c h1 h2) h2, fun p hp => k.1.2.2.2 p (h.1.2.2.2 p hp)⟩, fun i hi => ?_⟩
 obtain ⟨k1, k2⟩ := k.2 i fun t ht => Nat.lt_of_lt_of_le (hi t ht) h.1.1
 obtain ⟨h1, h2⟩ := h.2 i fun t ht => hi t (by rw [k2]; exact ht)
 exact ⟨k1.trans h1, k2.trans h2⟩
theorem put_since {a : AW} {i n : Nat} {b : Blk} {h : Tr Blk} {l : Tr Nat} (hk : b.kind ≠ 3) (hn : a.next ≤ n) (hh : a.heap.put i b = some h) (hl : a.last.put i a.clock = some l) : Since a ⟨h, n, l, a.clock + 1, a.obl, a.hints⟩ := by
 refine ⟨⟨Nat.le_succ _, hn, fun j c hj hc => ?_, fun _ h => h⟩, fun j hj => ?_⟩
 · simp only at hj
   rw [Tr.get_put hh] at hj
   split at hj
   · injection hj with hj; subst hj; exact absurd hc hk
   · exact hj
 by_cases e : j = i
 · subst e
   have := hj a.clock (by simp only; rw [Tr.get_put hl, if_pos rfl])
   omega
 · simp only
   rw [Tr.get_put hh, Tr.get_put hl, if_neg e, if_neg e]
   exact ⟨rfl, rfl⟩
theorem new_since {a a1 : AW} {b : Blk} (h : a.new b = some a1) (hk : b.kind ≠ 3) : Since a a1 := by
 unfold AW.new at h
 split at h
 · rename_i h1 h2; injection h with h; subst h; exact put_since hk (Nat.le_succ _) h1 h2
 · cases h
theorem upd_since {a a1 : AW} {i : Nat} {b : Blk} (h : a.upd i b = some a1) (hk : b.kind ≠ 3) : Since a a1 := by
 unfold AW.upd at h
 split at h
 · rename_i h1 h2; injection h with h; subst h; exact put_since hk (Nat.le_refl _) h1 h2
 · cases h
theorem setCell_since {a a1 : AW} {p : Addr} {v : Value} (h : a.setCell p v = some a1) : Since a a1 := by
 unfold AW.setCell at h
 split at h
 · split at h
   · rename_i hk
     exact upd_since h (by simp only; omega)
   · cases h
 · cases h
theorem arun_since {α : Type} {P : Program} (s : Sem α) : ∀ {a a1 : AW} {x : α}, arun P s a = some (x, a1) → Since a a1 := by
 induction s with
 | pure y => intro a a1 x h; simp only [arun, Option.some.injEq, Prod.mk.injEq] at h; rw [← h.2]; exact .refl _
 | load m p k ih =>
   intro a a1 x h
   simp only [arun] at h
   split at h
   · exact ih _ h
   · cases h
 | store m p v k ih =>
   intro a a1 x h
   cases v <;> simp only [arun] at h <;> first
    | cases h
    | (split at h
       · exact (setCell_since ‹_›).trans (ih h)
       · cases h)
 | new o k ih =>
   intro a a1 x h
   cases o <;> simp only [arun] at h <;> try cases h
   split at h
   · split at h
     · exact (new_since ‹_› (by simp)).trans (ih _ h)
     · cases h
   · cases h
 | shape r k ih =>
   intro a a1 x h
   simp only [arun] at h
   split at h
   · split at h
     · exact ih _ h
     · cases h
   · cases h
 | freeze p n k ih =>
   intro a a1 x h
   simp only [arun] at h
   split at h
   · split at h
     · exact ih h
     · cases h
   · cases h
 | choose q k ih =>
   intro a a1 x h
   simp only [arun] at h
   split at h
   · exact ih _ h
   · cases h
 | program k ih => intro a a1 x h; simp only [arun] at h; exact ih _ h
 | mark m k ih => intro a a1 x h; simp only [arun] at h; exact ih h
 | _ => intro a a1 x h; simp [arun] at h
theorem storeAll_since : ∀ {l : List Value} {a a1 : AW} {p : Addr} {i : Nat}, storeAll a p l i = some a1 → Since a a1 := by
 intro l
 induction l with
 | nil => intro a a1 p i h; simp only [storeAll, Option.some.injEq] at h; subst h; exact .refl _
 | cons v l ih =>
   intro a a1 p i h
   simp only [storeAll] at h
   split at h
   · exact (setCell_since ‹_›).trans (ih h)
   · cases h
theorem evAppend_since {P : Program} {a a1 : AW} {t u : TypeId} {s x v : Value} (h : evAppend P a t u s x = some (v, a1)) : Since a a1 := by
 unfold evAppend at h
 repeat' split at h
 all_goals first
  | (cases h; done)
  | (simp only [Option.some.injEq, Prod.mk.injEq] at h
     obtain ⟨_, rfl⟩ := h
     first
      | exact .refl _
      | exact new_since ‹_› (by simp)
      | exact storeAll_since ‹_›
      | exact (upd_since ‹_› (by simp)).trans (new_since ‹_› (by simp)))
theorem evCopy_since {P : Program} {a a1 : AW} {t : TypeId} {s x v : Value} (h : evCopy P a t s x = some (v, a1)) : Since a a1 := by
 unfold evCopy at h
 repeat' split at h
 all_goals first
  | (cases h; done)
  | (simp only [Option.some.injEq, Prod.mk.injEq] at h
     obtain ⟨_, rfl⟩ := h
     first
      | exact .refl _
      | exact storeAll_since ‹_›)
theorem evConvert_since {P : Program} {a a1 : AW} {s d : TypeId} {x : Value} {r : AN} (h : evConvert P a s d x = some (r, a1)) : Since a a1 := by
 unfold evConvert at h
 repeat' split at h
 all_goals first
  | (cases h; done)
  | (simp only [Option.some.injEq, Prod.mk.injEq] at h
     obtain ⟨_, rfl⟩ := h
     first
      | exact .refl _
      | exact upd_since ‹_› (by simp)
      | exact new_since ‹_› (by simp))
theorem evMapPut_since {P : Program} {a a1 : AW} {ty : TypeId} {m k x : Value} (h : evMapPut P a ty m k x = some a1) : Since a a1 := by
 unfold evMapPut at h
 repeat' split at h
 all_goals first
  | (cases h; done)
  | exact upd_since h (by simp)
theorem evClear_since {P : Program} {a a1 : AW} {ty : TypeId} {s : Value} (h : evClear P a ty s = some a1) : Since a a1 := by
 unfold evClear at h
 repeat' split at h
 all_goals first
  | (cases h; done)
  | exact storeAll_since h
  | (injection h with h; subst h; exact .refl _)
theorem wrapped_since {a a1 : AW} {q : Option (Value × AW)} {r : AN} (h : (match q with | some (v, w') => some (AN.value v, w') | none => none) = some (r, a1)) (hq : ∀ v b, q = some (v, b) → Since a b) : Since a a1 := by
 split at h
 · simp only [Option.some.injEq, Prod.mk.injEq] at h
   obtain ⟨_, rfl⟩ := h
   exact hq _ _ rfl
 · cases h
theorem evMem_since {P : Program} {t : Tr Value} {o : Oper} {a a1 : AW} {r : AN} (h : evMem P t o a = some (r, a1)) : Since a a1 := by
 unfold evMem at h
 simp only at h
 split at h
 · split at h
   · exact wrapped_since h fun _ _ e => arun_since _ e
   · cases h
 · exact wrapped_since h fun _ _ e => arun_since _ e
 · split at h
   · exact wrapped_since h fun _ _ e => arun_since _ e
   · cases h
 · split at h
   · split at h
     · exact wrapped_since h fun _ _ e => arun_since _ e
     · cases h
   · cases h
 · split at h
   · split at h
     · exact wrapped_since h fun _ _ e => arun_since _ e
     · cases h
   · cases h
 · split at h
   · split at h
     · simp only [Option.some.injEq, Prod.mk.injEq] at h
       obtain ⟨_, rfl⟩ := h
       exact arun_since _ ‹_›
     · cases h
   · cases h
 · refine wrapped_since h fun v b e => ?_
   rw [Option.map_eq_some_iff] at e
   obtain ⟨u, _, e⟩ := e
   simp only [Prod.mk.injEq] at e
   rw [e.2]; exact .refl _
 · exact evConvert_since h
 · split at h
   · split at h
     · simp only [Option.some.injEq, Prod.mk.injEq] at h
       obtain ⟨_, rfl⟩ := h
       exact new_since ‹_› (by simp)
     · cases h
   · cases h
 · split at h
   · simp only [Option.some.injEq, Prod.mk.injEq] at h
     obtain ⟨_, rfl⟩ := h
     exact evMapPut_since ‹_›
   · cases h
 · split at h
   · simp only [Option.some.injEq, Prod.mk.injEq] at h
     obtain ⟨_, rfl⟩ := h
     exact evMapPut_since ‹_›
   · cases h
 · split at h
   · split at h
     · split at h
       · simp only [Option.some.injEq, Prod.mk.injEq] at h
         obtain ⟨_, rfl⟩ := h
         exact .refl _
       · cases h
     · cases h
   · split at h
     · simp only [Option.some.injEq, Prod.mk.injEq] at h
       obtain ⟨_, rfl⟩ := h
       exact evClear_since ‹_›
     · cases h
   · exact wrapped_since h fun _ _ e => evAppend_since e
   · exact wrapped_since h fun _ _ e => evCopy_since e
   · cases h
 · cases h
theorem evOp_since {P : Program} {t : Tr Value} {o : Oper} {a a1 : AW} {r : AN} (h : evOp P t o a = some (r, a1)) : Since a a1 := by
 unfold evOp at h
 split at h
 · split at h
   · split at h
     · simp only [Option.some.injEq, Prod.mk.injEq] at h
       obtain ⟨_, rfl⟩ := h
       exact .refl _
     · cases h
   · exact evMem_since h
 · cases h
def CallSince (call : CallF) : Prop := ∀ f args a v a1, call f args a = some (v, a1) → Since a a1
section
variable {P : Program} {call : CallF} {ops : Array Oper}
theorem stepV_since (hc : CallSince call) {t : Tr Value} {o : Oper} {a a1 : AW} {v : Value} (h : stepV P call ops t o a = some (v, a1)) : Since a a1 := by
 unfold stepV at h
 split at h
 · simp only [Option.some.injEq, Prod.mk.injEq] at h
   obtain ⟨_, rfl⟩ := h
   exact .refl _
 · split at h
   · simp only [Option.some.injEq, Prod.mk.injEq] at h
     obtain ⟨_, rfl⟩ := h
     exact evOp_since ‹_›
   · simp only [Option.some.injEq, Prod.mk.injEq] at h
     obtain ⟨_, rfl⟩ := h
     exact evOp_since ‹_›
   · exact (evOp_since ‹_›).trans (hc _ _ _ _ _ h)
   · cases h
 · cases h
theorem put_w {s s' : St} {dst : Option Tmp} {v : Value} {a : AW} (h : s.put dst v a = some s') : s'.w = a := by
 unfold St.put at h
 split at h
 · split at h
   · split at h
     · injection h with h; subst h; rfl
     · cases h
   · cases h
 · injection h with h; subst h; rfl
theorem step_since (hc : CallSince call) {o : Oper} {s s' : St} (h : step P call ops o s = some s') : Since s.w s'.w := by
 unfold step at h
 split at h
 · rw [put_w h]; exact stepV_since hc ‹_›
 · cases h
theorem evOps_since (hc : CallSince call) : ∀ {l : List Oper} {s s' : St}, evOps P call ops l s = some s' → Since s.w s'.w := by
 intro l
 induction l with
 | nil => intro s s' h; simp only [evOps, Option.some.injEq] at h; subst h; exact .refl _
 | cons o l ih =>
   intro s s' h
   simp only [evOps] at h
   split at h
   · exact (step_since hc ‹_›).trans (ih h)
   · cases h
theorem trace_since (hc : CallSince call) : ∀ (l : List Oper) (s : St) (sts : List St), trace P call ops l s = some sts → ∀ (n i : Nat) (si sj : St), sts[i]? = some si → sts[i + n]? = some sj → Since si.w sj.w := by
 intro l
 induction l with
 | nil =>
   intro s sts h n i si sj hi hj
   simp only [trace, Option.some.injEq] at h
   subst h
   cases i with
   | zero =>
     cases n with
     | zero => simp at hi hj; subst hi; subst hj; exact .refl _
     | succ n => simp at hj
   | succ i => simp at hi
 | cons o r ih =>
   intro s sts h n i si sj hi hj
   unfold trace at h
   split at h
   · rename_i s1 hst
     split at h
     · rename_i l' hl'
       injection h with h; subst h
       cases i with
       | zero =>
         simp at hi; subst hi
         cases n with
         | zero => simp at hj; subst hj; exact .refl _
         | succ n =>
           have h0 : l'[0]? = some s1 := by
            cases r with
            | nil => simp only [trace, Option.some.injEq] at hl'; subst hl'; rfl
            | cons o2 r2 =>
              unfold trace at hl'
              split at hl'
              · split at hl'
                · injection hl' with hl'; subst hl'; rfl
                · cases hl'
              · cases hl'
           exact (step_since hc hst).trans (ih s1 l' hl' n 0 s1 sj h0 (by rw [Nat.zero_add] at hj ⊢; simpa using hj))
       | succ i => exact ih s1 l' hl' n i si sj (by simpa using hi) (by rw [show i + 1 + n = (i + n) + 1 by omega] at hj; simpa using hj)
     · cases h
   · cases h
theorem evDraw_since (hc : CallSince call) {s s' : St} (h : evDraw P call ops s = some s') : Since s.w s'.w := by
 unfold evDraw at h
 split at h
 · rename_i sts ht
   split at h
   · have h0 : sts[0]? = some s := by
      revert ht
      generalize ops.toList = l
      intro ht
      cases l with
      | nil => simp only [trace, Option.some.injEq] at ht; subst ht; rfl
      | cons o2 r2 =>
        unfold trace at ht
        split at ht
        · split at ht
          · injection ht with ht; subst ht; rfl
          · cases ht
        · cases ht
     exact trace_since hc _ _ _ ht ops.size 0 s s' h0 (by rw [Nat.zero_add]; exact h)
   · cases h
 · cases h
theorem evBody_since {ev : Code → St → Option (Ex × St)} (h : ∀ c s e s', ev c s = some (e, s') → Since s.w s'.w) : CallSince (evBody P ev) := by
 intro f args a v a1 hv
 unfold evBody at hv
 split at hv
 · split at hv
   · split at hv
     · split at hv
       · split at hv
         · simp only [Option.some.injEq, Prod.mk.injEq] at hv
           obtain ⟨_, rfl⟩ := hv
           exact h _ _ _ _ ‹_›
         · cases hv
       · split at hv
         · simp only [Option.some.injEq, Prod.mk.injEq] at hv
           obtain ⟨_, rfl⟩ := hv
           exact h _ _ _ _ ‹_›
         · cases hv
       · cases hv
     · cases hv
   · cases hv
 · cases hv
theorem evC_since : ∀ (n : Nat) (c : Code) (s : St) (e : Ex) (s' : St), evC P n c s = some (e, s') → Since s.w s'.w := by
 intro n
 induction n with
 | zero => intro c s e s' h; simp [evC] at h
 | succ n ih =>
   intro c s e s' h
   have hc := evBody_since (P := P) ih
   have one : ∀ {e1 : Ex}, (some (e1, s) : Option (Ex × St)) = some (e, s') → Since s.w s'.w := fun h => by
    simp only [Option.some.injEq, Prod.mk.injEq] at h; rw [← h.2]; exact .refl _
   cases c with
   | skip => simp only [evC] at h; exact one h
   | label l => simp only [evC] at h; exact one h
   | exit id => simp only [evC] at h; exact one h
   | ret => simp only [evC] at h; exact one h
   | region id ops draw =>
     simp only [evC] at h
     split at h
     · rename_i s1 hs1
       simp only [Option.some.injEq, Prod.mk.injEq] at h
       obtain ⟨_, rfl⟩ := h
       split at hs1
       · exact evDraw_since hc hs1
       · exact evOps_since hc hs1
     · cases h
   | seq x y =>
     simp only [evC] at h
     split at h
     · exact (ih _ _ _ _ ‹_›).trans (ih _ _ _ _ h)
     · exact ih _ _ _ _ h
   | cond c t e' =>
     simp only [evC] at h
     split at h
     · split at h
       · exact ih _ _ _ _ h
       · exact ih _ _ _ _ h
       · cases h
     · cases h
   | block id b =>
     simp only [evC] at h
     split at h
     · split at h
       · simp only [Option.some.injEq, Prod.mk.injEq] at h
         obtain ⟨_, rfl⟩ := h
         exact ih _ _ _ _ ‹_›
       · simp only [Option.some.injEq, Prod.mk.injEq] at h
         obtain ⟨_, rfl⟩ := h
         exact ih _ _ _ _ ‹_›
     · exact ih _ _ _ _ h
   | loop b =>
     simp only [evC] at h
     split at h
     · exact (ih _ _ _ _ ‹_›).trans (ih _ _ _ _ h)
     · exact ih _ _ _ _ h
   | _ => simp [evC] at h
theorem loadCells_dep {p : Addr} {a b : AW} (h : a.heap.get p.block = b.heap.get p.block) : ∀ (n i : Nat) (acc r : Array Value) (a1 : AW), arun P (loadCellsFrom p i n acc) a = some (r, a1) → ∃ b1, arun P (loadCellsFrom p i n acc) b = some (r, b1) := by
 intro n
 induction n with
 | zero => intro i acc r a1 hr; simp only [loadCellsFrom, Pure.pure, arun, Option.some.injEq, Prod.mk.injEq] at hr ⊢; exact ⟨b, hr.1, rfl⟩
 | succ n ih =>
   intro i acc r a1 hr
   have hc : ∀ a : AW, arun P (loadCellsFrom p i (n + 1) acc) a = match a.cell (p.add i) with | some v => arun P (loadCellsFrom p (i + 1) n (acc.push v)) a | none => none := by
    intro a
    show arun P (Sem.bind (load (p.add i)) _) a = _
    rw [arun_bind]
    simp only [load, arun]
    cases a.cell (p.add i) <;> rfl
   have hcell : a.cell (p.add i) = b.cell (p.add i) := by
    have hb : (p.add i).block = p.block := by unfold Addr.add; split <;> rfl
    simp only [AW.cell, hb, h]
   rw [hc] at hr
   rw [hc, ← hcell]
   split at hr
   · exact ih _ _ _ _ hr
   · cases hr
theorem loadVar_dep {ty : TypeId} {p : Addr} {a b a1 : AW} {v : Value} (h : a.heap.get p.block = b.heap.get p.block) (hr : arun P (loadVar ty p) a = some (v, a1)) : ∃ b1, arun P (loadVar ty p) b = some (v, b1) := by
 have hagg : ∀ a b : AW, (arun P (isAgg ty) a).map (·.1) = (arun P (isAgg ty) b).map (·.1) := by
  intro a b
  show (arun P (Sem.bind (underlying ty) _) a).map _ = (arun P (Sem.bind (underlying ty) _) b).map _
  rw [arun_bind, arun_bind]
  have hu : ∀ a : AW, arun P (underlying ty) a = match P.underlying ty with | some d => some (d, a) | none => none := by
   intro a
   show arun P (Sem.bind program _) a = _
   simp only [arun_bind, program, arun]
   cases P.underlying ty <;> rfl
  rw [hu, hu]
  cases P.underlying ty with
  | none => rfl
  | some d => cases d <;> rfl
 have hsz : ∀ a : AW, arun P (sizeOf ty) a = match P.info? ty with | some i => some (i.size, a) | none => none := by
  intro a
  show arun P (Sem.bind (Sem.bind program _) _) a = _
  simp only [arun_bind, program, arun]
  cases P.info? ty <;> rfl
 have keep : ∀ (a : AW) x a1, arun P (isAgg ty) a = some (x, a1) → a1 = a := by
  intro a x a1 hx
  have hu : ∀ a : AW, arun P (underlying ty) a = match P.underlying ty with | some d => some (d, a) | none => none := by
   intro a
   show arun P (Sem.bind program _) a = _
   simp only [arun_bind, program, arun]
   cases P.underlying ty <;> rfl
  have hx' : arun P (Sem.bind (underlying ty) fun d => match d with | .struct _ | .array _ _ => pure true | _ => pure false) a = some (x, a1) := hx
  rw [arun_bind, hu] at hx'
  cases hd : P.underlying ty with
  | none => rw [hd] at hx'; cases hx'
  | some d =>
    rw [hd] at hx'
    cases d <;> simp only [Pure.pure, arun, Option.some.injEq, Prod.mk.injEq] at hx' <;> exact hx'.2.symm
 have hl : ∀ a : AW, arun P (loadVar ty p) a = match arun P (isAgg ty) a with
  | some (c, a1) => arun P (if c = true then Sem.bind (sizeOf ty) fun n => Sem.bind (loadCells p n) fun l => pure (.agg l) else load p) a1
  | none => none := by
  intro a
  show arun P (Sem.bind (isAgg ty) _) a = _
  rw [arun_bind]
  cases arun P (isAgg ty) a with
  | none => rfl
  | some q =>
    obtain ⟨c, a2⟩ := q
    cases c <;> rfl
 rw [hl] at hr
 rw [hl]
 have hab := hagg a b
 cases ha : arun P (isAgg ty) a with
 | none => rw [ha] at hr; cases hr
 | some q =>
   obtain ⟨c, a2⟩ := q
   have e2 := keep _ _ _ ha
   subst e2
   rw [ha] at hr hab
   cases hb : arun P (isAgg ty) b with
   | none => rw [hb] at hab; cases hab
   | some q =>
     obtain ⟨c', b2⟩ := q
     have e3 := keep _ _ _ hb
     subst e3
     rw [hb] at hab
     simp only [Option.map_some, Option.some.injEq] at hab
     subst hab
     simp only at hr ⊢
     cases c with
     | true =>
       simp only [if_true, arun_bind, hsz] at hr ⊢
       cases hi : P.info? ty with
       | none => rw [hi] at hr; cases hr
       | some i =>
         rw [hi] at hr
         simp only at hr ⊢
         cases hc : arun P (loadCells p i.size) a2 with
         | none => rw [hc] at hr; cases hr
         | some q =>
           obtain ⟨r, a3⟩ := q
           rw [hc] at hr
           obtain ⟨b1, hb1⟩ := loadCells_dep h _ _ _ _ _ (show arun P (loadCellsFrom p 0 i.size #[]) a2 = some (r, a3) from hc)
           rw [show arun P (loadCells p i.size) b2 = some (r, b1) from hb1]
           simp only [Pure.pure, arun, Option.some.injEq, Prod.mk.injEq] at hr ⊢
           exact ⟨b1, hr.1, rfl⟩
     | false =>
       simp only [Bool.false_eq_true, if_false, load, arun] at hr ⊢
       have hcell : a2.cell p = b2.cell p := by simp only [AW.cell, h]
       rw [← hcell]
       cases hc : a2.cell p with
       | none => rw [hc] at hr; cases hr
       | some u =>
         rw [hc] at hr
         simp only [Option.some.injEq, Prod.mk.injEq] at hr ⊢
         exact ⟨b2, hr.1, rfl⟩
theorem still_same {t : Tr Value} {o : Oper} {a b b1 : AW} {v : Value} (hs : Since a b ∨ Since b a) (h : still t o.op a b = true) (hv : stepV P call ops t o b = some (v, b1)) : ∃ a1, stepV P call ops t o a = some (v, a1) := by
 obtain ⟨dst, op, type, pos, after, guard⟩ := o
 have hun : ∀ r, unwritten a b r = true → b.heap.get r = a.heap.get r := by
  intro r h
  unfold unwritten at h
  rw [Bool.and_eq_true] at h
  rcases hs with hs | hs
  · refine (hs.2 r fun t ht => ?_).1
    have h2 := h.2
    rw [ht] at h2
    have := of_decide_eq_true h2
    omega
  · refine (hs.2 r fun t ht => ?_).1.symm
    have h1 := h.1
    rw [ht] at h1
    have := of_decide_eq_true h1
    omega
 unfold still at h
 simp only at h
 split at h
 case h_3 => cases h
 case h_2 =>
  rename_i ty x k ok
  split at h
  case h_2 => cases h
  rename_i r hr
  have hlk : evLookup P b ty (eval t x) (eval t k) ok = evLookup P a ty (eval t x) (eval t k) ok := by
   have hm : b.mapOf r = a.mapOf r := by unfold AW.mapOf; rw [hun r h]
   rw [hr]
   cases hu : P.underlying ty with
   | none => simp only [evLookup, hu]
   | some d => cases d <;> simp only [evLookup, hu, hm]
  unfold stepV at hv ⊢
  cases hg : guardYes ops t ⟨dst, .lookup ty x k ok, type, pos, after, guard⟩ with
  | none => rw [hg] at hv; cases hv
  | some q =>
    rw [hg] at hv
    cases q with
    | false =>
      simp only [Option.some.injEq, Prod.mk.injEq] at hv ⊢
      exact ⟨a, hv.1, rfl⟩
    | true =>
      have hev : ∀ a, evOp P t ⟨dst, .lookup ty x k ok, type, pos, after, guard⟩ a = if ((Op.lookup ty x k ok).operands.toList.all okOpnd) = true then (match evLookup P a ty (eval t x) (eval t k) ok with | some v => some (AN.value v, a) | none => none) else none := by
       intro a
       simp only [evOp, isFloat, isLoad, Bool.true_or, if_true, evFloat, evLoad]
       cases evLookup P a ty (eval t x) (eval t k) ok <;> rfl
      simp only [hev] at hv ⊢
      by_cases hok : ((Op.lookup ty x k ok).operands.toList.all okOpnd) = true
      · rw [if_pos hok] at hv
        rw [if_pos hok, ← hlk]
        cases hr : evLookup P b ty (eval t x) (eval t k) ok with
        | none => rw [hr] at hv; cases hv
        | some u =>
          rw [hr] at hv
          simp only [Option.some.injEq, Prod.mk.injEq] at hv ⊢
          exact ⟨a, hv.1, rfl⟩
      · rw [if_neg hok] at hv; cases hv
 rename_i ty x
 split at h
 case h_2 => cases h
 rename_i p hp
 have hblk := hun p.block h
 unfold stepV at hv ⊢
 cases hg : guardYes ops t ⟨dst, .load ty x, type, pos, after, guard⟩ with
 | none => rw [hg] at hv; cases hv
 | some q =>
   rw [hg] at hv
   cases q with
   | false =>
     simp only [Option.some.injEq, Prod.mk.injEq] at hv ⊢
     exact ⟨a, hv.1, rfl⟩
   | true =>
     have hev : ∀ a, evOp P t ⟨dst, .load ty x, type, pos, after, guard⟩ a = if ((Op.load ty x).operands.toList.all okOpnd) = true then (match arun P (loadVar ty p) a with | some (v, _) => some (AN.value v, a) | none => none) else none := by
      intro a
      simp only [evOp, isFloat, isLoad, Bool.true_or, if_true, evFloat, evLoad, hp]
      cases arun P (loadVar ty p) a <;> rfl
     simp only [hev] at hv ⊢
     by_cases hok : ((Op.load ty x).operands.toList.all okOpnd) = true
     · rw [if_pos hok] at hv
       rw [if_pos hok]
       cases hr : arun P (loadVar ty p) b with
       | none => rw [hr] at hv; cases hv
       | some q =>
         obtain ⟨u, b2⟩ := q
         rw [hr] at hv
         obtain ⟨a2, ha⟩ := loadVar_dep hblk hr
         rw [ha]
         simp only [Option.some.injEq, Prod.mk.injEq] at hv ⊢
         exact ⟨a, hv.1, rfl⟩
     · rw [if_neg hok] at hv; cases hv
end
end Ev
end Go.Proofs.YtedmogacklbcmaaGreatDoor
