/- Texts that the proofs share: EvSeq. -/
import Derived.Test.YtedmogacklbcmaaGreatDoorS08
namespace Go.Proofs.YtedmogacklbcmaaGreatDoor
namespace Ev
open Go.RowKit
def CallOk (P : Program) (w0 : Base) (call : CallF) : Prop :=
 ∀ β a w f args args' v a1, Emb P w0 β a w → VL β args.toList args'.toList → call f args a = some (v, a1) →
   Calls P f args' w fun e w1 => ∃ β1 v', e = .returned v' ∧ Le β β1 ∧ Emb P w0 β1 a1 w1 ∧ VR β1 v v'
section
variable {P : Program} {w0 : Base} {β : Pl} {call : CallF} {ops : Array Oper}
theorem getD_undef {l : Array Value} {k : Nat} {v : Value} (h : l.getD k undef = v) (hv : v ≠ undef) : l[k]? = some v := by
 rw [Array.getD_eq_getD_getElem?] at h
 cases hk : l[k]? with
 | none => rw [hk] at h; exact absurd h.symm hv
 | some x => rw [hk] at h; simpa using h
theorem guard_sound {t : Tr Value} {act : Act} {o : Oper} (ht : ∀ k, k ∈ o.looksAt ops → VR β ((t.get k).getD undef) (act.tmps.getD k undef)) {b : Bool} (h : guardYes ops t o = some b) :
 Region.wanted o (yielded ops act.tmps) = b := by
 unfold guardYes at h
 unfold Region.wanted
 cases hg : o.guard with
 | none => rw [hg] at h; simp only [Option.some.injEq] at h; exact h
 | some jw =>
   obtain ⟨j, want⟩ := jw
   rw [hg] at h
   simp only at h ⊢
   cases hd : (ops[j]?).bind (·.dst) with
   | none => rw [hd] at h; cases h
   | some d =>
     rw [hd] at h
     simp only at h
     split at h
     · rename_i c hc
       have hr := ht d (by
        unfold Oper.looksAt
        rw [hg]
        simp [hd])
       rw [hc] at hr
       have hr := hr.bool
       have hk := getD_undef hr (by simp [undef])
       injection h with h
       subst h
       unfold yielded
       rw [hd]
       simp only [Option.bind_some, hk]
       cases c <;> cases want <;> rfl
     · rename_i cs hc
       have hr := ht d (by
        unfold Oper.looksAt
        rw [hg]
        simp [hd])
       rw [hc] at hr
       injection h with h
       subst h
       obtain ⟨cs', hk⟩ : ∃ cs', act.tmps.getD d undef = .tuple cs' := by
        simp only [Option.getD_some] at hr
        generalize act.tmps.getD d undef = x at hr
        cases hr with
        | flat _ => exact ⟨_, rfl⟩
        | tuple _ _ => exact ⟨_, rfl⟩
       unfold yielded
       rw [hd]
       simp only [Option.bind_some]
       rw [Array.getD_eq_getD_getElem?] at hk
       cases hx : act.tmps[d]? with
       | none => cases want <;> rfl
       | some x =>
         rw [hx] at hk
         simp only [Option.getD_some] at hk
         subst hk
         cases want <;> rfl
     · cases h
theorem stepV_sound (hcall : CallOk P w0 call) {a a1 : AW} {w : World} {act : Act} {t : Tr Value} {o : Oper} {i : Nat} (hi : ops[i]? = some o) (he : Emb P w0 β a w)
 (ht : ∀ k, k ∈ o.looksAt ops → VR β ((t.get k).getD undef) (act.tmps.getD k undef)) {v : Value} (hv : stepV P call ops t o a = some (v, a1)) {Q : Exit → Act → World → Prop} {K : Act → World → Prop}
 (hK : ∀ β1 v' w1, Le β β1 → Emb P w0 β1 a1 w1 → VR β1 v v' → K (act.put o.dst v') w1) : wpOp P ops Q i K act w := by
 unfold wpOp
 simp only [hi]
 unfold stepV at hv
 cases hg : guardYes ops t o with
 | none => rw [hg] at hv; cases hv
 | some b =>
   rw [guard_sound ht hg]
   rw [hg] at hv
   cases b with
   | false =>
     simp only [Option.some.injEq, Prod.mk.injEq] at hv
     obtain ⟨rfl, rfl⟩ := hv
     simp only [Bool.false_eq_true, if_false]
     exact hK β undef w (Le.refl β) he (.flat rfl)
   | true =>
     simp only at hv
     simp only [if_true]
     refine .inl ?_
     unfold Oper.wp
     cases hop : evOp P t o a with
     | none => rw [hop] at hv; cases hv
     | some q =>
       obtain ⟨r, a2⟩ := q
       rw [hop] at hv
       have hs := op_sound (act := act) he (fun x hx k hk => by
        subst hk
        refine ht k ?_
        unfold Oper.looksAt
        exact List.mem_append_left _ (List.mem_filterMap.2 ⟨.tmp k, by simpa using hx, rfl⟩)) hop
       cases r with
       | value u =>
         simp only [Option.some.injEq, Prod.mk.injEq] at hv
         obtain ⟨rfl, rfl⟩ := hv
         obtain ⟨β1, w1, v', k1, k2, k3, k4⟩ := hs
         rw [k1]
         exact hK β1 v' w1 k2 k3 k4
       | skip =>
         simp only [Option.some.injEq, Prod.mk.injEq] at hv
         obtain ⟨rfl, rfl⟩ := hv
         obtain ⟨β1, w1, k1, k2, k3⟩ := hs
         rw [k1]
         exact hK β1 undef w1 k2 k3 (.flat rfl)
       | enter f args =>
         obtain ⟨β1, w1, args', k1, k2, k3, k4⟩ := hs
         rw [k1]
         simp only [Oper.upon]
         refine (hcall β1 a2 w1 f args args' v a1 k3 k4 hv).mono ?_
         rintro e w2 ⟨β2, v', rfl, m1, m2, m3⟩
         exact hK β2 v' w2 (k2.trans m1) m2 m3
structure Slots (β : Pl) (s : St) (act : Act) : Prop where
 rel : ∀ k, VR β ((s.tmps.get k).getD undef) (act.tmps.getD k undef)
 size : s.n = act.tmps.size
theorem Slots.mono {β1 : Pl} {s : St} {act : Act} (h : Slots β s act) (hle : Le β β1) : Slots β1 s act := ⟨fun k => (h.rel k).mono hle, h.size⟩
theorem put_get {s s' : St} {dst : Option Tmp} {v : Value} {a : AW} (h : s.put dst v a = some s') : s'.w = a ∧ s'.n = s.n ∧ (∀ d, dst = some d → d < s.n) ∧ ∀ k, s'.tmps.get k = if dst = some k then some v else s.tmps.get k := by
 unfold St.put at h
 cases dst with
 | none => simp only [Option.some.injEq] at h; subst h; exact ⟨rfl, rfl, by simp, fun k => by simp⟩
 | some d =>
   simp only at h
   split at h
   · rename_i hd
     split at h
     · rename_i t ht
       injection h with h; subst h
       refine ⟨rfl, rfl, fun d' hd' => by injection hd' with hd'; subst hd'; exact hd, fun k => ?_⟩
       rw [Tr.get_put ht]
       by_cases hk : k = d
       · simp [hk]
       · rw [if_neg hk, if_neg (by simpa using Ne.symm hk)]
     · cases h
   · cases h
theorem act_put_getD (act : Act) (dst : Option Tmp) (v : Value) (k : Nat) : (act.put dst v).tmps.getD k undef = if dst = some k ∧ k < act.tmps.size then v else act.tmps.getD k undef := by
 cases dst with
 | none => simp [Act.put]
 | some d =>
   simp only [Act.put, Array.getD_eq_getD_getElem?, Array.getElem?_setIfInBounds]
   by_cases hd : d = k
   · subst hd
     by_cases hs : d < act.tmps.size
     · simp [hs]
     · simp [hs]
   · rw [if_neg hd, if_neg (by simp [hd])]
theorem act_put_size (act : Act) (dst : Option Tmp) (v : Value) : (act.put dst v).tmps.size = act.tmps.size := by cases dst <;> simp [Act.put]
theorem act_put_defers (act : Act) (dst : Option Tmp) (v : Value) : (act.put dst v).defers = act.defers := by cases dst <;> rfl
theorem Slots.put {s s' : St} {act : Act} {dst : Option Tmp} {v v' : Value} {a : AW} (h : Slots β s act) (hp : s.put dst v a = some s') (hv : VR β v v') : Slots β s' (act.put dst v') := by
 obtain ⟨_, h2, h3, h4⟩ := put_get hp
 refine ⟨fun k => ?_, by rw [h2, act_put_size]; exact h.size⟩
 rw [h4, act_put_getD]
 by_cases hd : dst = some k
 · have := h3 k hd
   rw [if_pos hd, if_pos ⟨hd, h.size ▸ this⟩]
   exact hv
 · rw [if_neg hd, if_neg (by simp [hd])]
   exact h.rel k
theorem evOps_sound (hcall : CallOk P w0 call) {Q : Exit → Act → World → Prop} : ∀ (l : List Oper) (i : Nat) (β : Pl) (s s' : St) (act : Act) (w : World), (∀ j o, l[j]? = some o → ops[i + j]? = some o) →
 Emb P w0 β s.w w → Slots β s act → evOps P call ops l s = some s' →
 (∀ β1 act1 w1, Le β β1 → Emb P w0 β1 s'.w w1 → Slots β1 s' act1 → act1.defers = act.defers → Q .normal act1 w1) → wpOps P ops Q (List.range' i l.length) act w := by
 intro l
 induction l with
 | nil =>
   intro i β s s' act w _ he hs h hQ
   simp only [evOps, Option.some.injEq] at h
   subst h
   exact hQ β act w (Le.refl β) he hs rfl
 | cons o r ih =>
   intro i β s s' act w hl he hs h hQ
   simp only [evOps] at h
   cases hst : step P call ops o s with
   | none => rw [hst] at h; cases h
   | some s1 =>
     rw [hst] at h
     unfold step at hst
     cases hv : stepV P call ops s.tmps o s.w with
     | none => rw [hv] at hst; cases hst
     | some q =>
       obtain ⟨v, a1⟩ := q
       rw [hv] at hst
       simp only at hst
       rw [List.length_cons, List.range'_succ, wpOps_cons]
       refine stepV_sound hcall (by simpa using hl 0 o rfl) he (fun k _ => hs.rel k) hv ?_
       intro β1 v' w1 h1 h2 h3
       refine ih (i + 1) β1 s1 s' _ w1 (fun j o' ho => ?_) ?_ ((hs.mono h1).put hst h3) h ?_
       · have := hl (j + 1) o' (by simpa using ho)
         rwa [show i + 1 + j = i + (j + 1) by omega]
       · rw [(put_get hst).1]; exact h2
       · intro β2 act2 w2 k1 k2 k3 k4
         exact hQ β2 act2 w2 (h1.trans k1) k2 k3 (by rw [k4, act_put_defers])
end
end Ev
end Go.Proofs.YtedmogacklbcmaaGreatDoor
