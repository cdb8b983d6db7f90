/- Texts that the proofs share: EvAll. -/
import Derived.Test.YtedmogacklbcmaaGreatDoorS10
import Derived.LoopN
namespace Go.Proofs.YtedmogacklbcmaaGreatDoor
namespace Ev
open Go.RowKit
def Ex.exit' : Ex → Exit
 | .normal => .normal
 | .exit id => .exit id
 | .ret => .ret
section
variable {P : Program} {w0 : Base}
def CodeOk (P : Program) (w0 : Base) (ev : Code → St → Option (Ex × St)) : Prop :=
 ∀ c s e s', ev c s = some (e, s') → ∀ β act w, Emb P w0 β s.w w → Slots β s act → ∀ Q : Exit → Act → World → Prop,
   (∀ β1 act1 w1, Le β β1 → Emb P w0 β1 s'.w w1 → Slots β1 s' act1 → act1.defers = act.defers → Q e.exit' act1 w1) → c.wp P Q act w
theorem initTmps_get : ∀ (l : List Value) (i : Nat) (t t' : Tr Value), initTmps i l t = some t' → ∀ k, t'.get k = if i ≤ k then (match l[k - i]? with | some v => some v | none => t.get k) else t.get k := by
 intro l
 induction l with
 | nil => intro i t t' h k; simp only [initTmps, Option.some.injEq] at h; subst h; simp
 | cons v r ih =>
   intro i t t' h k
   unfold initTmps at h
   split at h
   · rename_i t1 ht
     rw [ih (i + 1) t1 t' h k, Tr.get_put ht]
     rcases Nat.lt_trichotomy k i with hk | hk | hk
     · simp [show ¬ i + 1 ≤ k by omega, show ¬ i ≤ k by omega, show k ≠ i by omega]
     · subst hk
       rw [if_neg (by omega), if_pos rfl, if_pos (Nat.le_refl _), Nat.sub_self]
       rfl
     · have e : k - i = (k - (i + 1)) + 1 := by omega
       rw [e, List.getElem?_cons_succ]
       simp [show i + 1 ≤ k by omega, show i ≤ k by omega, show k ≠ i by omega]
   · cases h
theorem results_list {β : Pl} {s : St} {act : Act} (hs : Slots β s act) {w : World} (he : Emb P w0 β s.w w) : ∀ (rs : List ResultVar) (l : List Value), evResults P s.tmps s.w rs = some l →
 ∃ l', (rs.mapM (m := Sem) fun | .tmp t => pure (act.tmps.getD t undef) | .cell a t => do loadVar t (← asAddr (act.tmps.getD a undef))).run P w = .ok l' w ∧ VL β l l' := by
 intro rs
 induction rs with
 | nil => intro l h; simp only [evResults, Option.some.injEq] at h; subst h; exact ⟨[], by simp, .nil β⟩
 | cons r rest ih =>
   intro l h
   cases r with
   | cell a t =>
     have hrel := hs.rel a
     simp only [evResults] at h
     split at h
     · rename_i p hp
       rw [hp] at hrel
       obtain ⟨p', h1, h2⟩ := hrel.pointer
       split at h
       · rename_i v a1 hv
         obtain ⟨v', k1, k2⟩ := loadVar_sound he.toEmbR h2 hv
         cases hr : evResults P s.tmps s.w rest with
         | none => rw [hr] at h; cases h
         | some l1 =>
           rw [hr] at h
           simp only [Option.some.injEq] at h
           subst h
           obtain ⟨l', g1, g2⟩ := ih l1 hr
           refine ⟨v' :: l', ?_, .cons k2 g2⟩
           rw [List.mapM_cons]
           have ha : (asAddr (act.tmps.getD a undef)).run P w = .ok p' w := by rw [h1]; rfl
           simp only [Sem.run_bind, ha, k1, g1, Result.andThen_ok, Sem.run_pure]
       · cases h
     · cases h
   | tmp t =>
     simp only [evResults] at h
     cases hr : evResults P s.tmps s.w rest with
     | none => rw [hr] at h; cases h
     | some l1 =>
       rw [hr] at h
       simp only [Option.some.injEq] at h
       subst h
       obtain ⟨l', h1, h2⟩ := ih l1 hr
       refine ⟨act.tmps.getD t undef :: l', ?_, .cons (hs.rel t) h2⟩
       rw [List.mapM_cons]
       simp only [pure_bind, Sem.run_bind, h1, Result.andThen_ok, Sem.run_pure]
theorem results_sound {β : Pl} {s : St} {act : Act} (hs : Slots β s act) {w : World} (he : Emb P w0 β s.w w) {fn : Func} {l : List Value} (h : evResults P s.tmps s.w fn.results.toList = some l) :
 ∃ v', (results fn act.tmps).run P w = .ok v' w ∧ VR β (tupled l) v' := by
 obtain ⟨l', h1, h2⟩ := results_list hs he _ l h
 have hrun : (results fn act.tmps).run P w = .ok (if h : l'.toArray.size = 1 then l'.toArray[0] else .tuple l'.toArray) w := by
  unfold results
  rw [Array.mapM_eq_mapM_toList, map_eq_pure_bind, Sem.run_bind, Sem.run_bind]
  erw [h1]
  rfl
 refine ⟨_, hrun, ?_⟩
 cases l with
 | nil =>
   have : l' = [] := List.eq_nil_of_length_eq_zero (by simpa using h2.1.symm)
   subst this
   exact .flat rfl
 | cons v r =>
   cases l' with
   | nil => have := h2.1; simp at this
   | cons v' r' =>
     cases r with
     | nil =>
       have : r' = [] := List.eq_nil_of_length_eq_zero (by have := h2.1; simpa using this.symm)
       subst this
       exact h2.head
     | cons u q =>
       cases r' with
       | nil => have := h2.1; simp at this
       | cons u' q' =>
         have hne : ¬ (v' :: u' :: q').toArray.size = 1 := by simp
         rw [dif_neg hne]
         refine .tuple (by have := h2.1; simpa using this) fun i x x' q1 q2 => h2.2 i x x' (by simpa using q1) (by simpa using q2)
theorem body_sound {ev : Code → St → Option (Ex × St)} (h : CodeOk P w0 ev) : CallOk P w0 (evBody P ev) := by
 intro β a w f args args' v a1 he hl hv
 unfold evBody at hv
 split at hv
 case h_2 => cases hv
 rename_i fn hf
 split at hv
 case h_2 => cases hv
 rename_i c t hb ht
 split at hv
 case isFalse => cases hv
 rename_i hsz
 have hslots : Slots β ⟨t, fn.ntmps, a⟩ { tmps := args' ++ Array.replicate (fn.ntmps - args'.size) undef, defers := [] } := by
  have hsize : args'.size = args.size := by have := hl.1; simpa using this.symm
  refine ⟨fun k => ?_, by simp [hsize]; omega⟩
  rw [initTmps_get _ _ _ _ ht k, if_pos (Nat.zero_le _), Nat.sub_zero]
  simp only [Array.getD_eq_getD_getElem?]
  cases hk : args.toList[k]? with
  | some v =>
    obtain ⟨v', h1, h2⟩ := hl.get hk
    have hlt : k < args'.size := by
     have := (List.getElem?_eq_some_iff.1 h1).1; simpa using this
    rw [Array.getElem?_append_left hlt]
    have : args'[k]? = some v' := by simpa using h1
    rw [this]
    exact h2
  | none =>
    have hge : args'.size ≤ k := by
     rw [hsize]
     rcases Nat.lt_or_ge k args.size with h1 | h1
     · have : args.toList[k]? = some (args.toList[k]'(by simpa using h1)) := List.getElem?_eq_getElem _
       rw [this] at hk; cases hk
     · exact h1
    rw [Array.getElem?_append_right hge, Array.getElem?_replicate]
    simp only [Tr.get_lf, Option.getD_none]
    split <;> exact .flat rfl
 have fin : ∀ (e : Ex) (s : St) (l : List Value), ev c ⟨t, fn.ntmps, a⟩ = some (e, s) → (e = .normal ∨ e = .ret) → evResults P s.tmps s.w fn.results.toList = some l → v = tupled l → a1 = s.w →
  Calls P f args' w fun e w1 => ∃ β1 v', e = .returned v' ∧ Le β β1 ∧ Emb P w0 β1 a1 w1 ∧ VR β1 v v' := by
  intro e s l hev he' hres hv1 ha1
  refine calls_of_wp hf hb ?_
  refine h c _ e s hev β _ w he hslots _ fun β1 act1 w1 k1 k2 k3 k4 => ?_
  obtain ⟨v', r1, r2⟩ := results_sound k3 k2 hres
  have hpost : act1.defers = [] ∧ ∃ v', (results fn act1.tmps).run P w1 = .ok v' w1 ∧ ∃ β1 v'', Ending.returned v' = .returned v'' ∧ Le β β1 ∧ Emb P w0 β1 a1 w1 ∧ VR β1 v v'' :=
   ⟨k4, v', r1, β1, v', rfl, k1, by rw [ha1]; exact k2, by rw [hv1]; exact r2⟩
  rcases he' with rfl | rfl <;> exact hpost
 split at hv
 · rename_i s hev
   split at hv
   · rename_i l hres
     simp only [Option.some.injEq, Prod.mk.injEq] at hv
     exact fin .normal s l hev (.inl rfl) hres hv.1.symm hv.2.symm
   · cases hv
 · rename_i s hev
   split at hv
   · rename_i l hres
     simp only [Option.some.injEq, Prod.mk.injEq] at hv
     exact fin .ret s l hev (.inr rfl) hres hv.1.symm hv.2.symm
   · cases hv
 · cases hv
theorem code_sound' (hm : P.follows .mixedOrders = true) : ∀ n w0, CodeOk P w0 (evC P n) := by
 intro n
 induction n using Nat.strongRecOn with
 | _ n ihs =>
 intro w0
 cases n with
 | zero => intro c s e s' h; simp [evC] at h
 | succ n =>
   intro c s e s' h β act w he hs Q hQ
   have ih := ihs n (by omega) w0
   have hcall := body_sound ih
   have hcalls : ∀ w0, CallOk P w0 (evBody P (evC P n)) := fun w0 => body_sound (ihs n (by omega) w0)
   cases c with
   | skip =>
     simp only [evC, Option.some.injEq, Prod.mk.injEq] at h
     obtain ⟨rfl, rfl⟩ := h
     exact wp_skip (hQ β act w (Le.refl β) he hs rfl)
   | label l =>
     simp only [evC, Option.some.injEq, Prod.mk.injEq] at h
     obtain ⟨rfl, rfl⟩ := h
     exact wp_label (hQ β act w (Le.refl β) he hs rfl)
   | exit id =>
     simp only [evC, Option.some.injEq, Prod.mk.injEq] at h
     obtain ⟨rfl, rfl⟩ := h
     exact wp_exit (hQ β act w (Le.refl β) he hs rfl)
   | ret =>
     simp only [evC, Option.some.injEq, Prod.mk.injEq] at h
     obtain ⟨rfl, rfl⟩ := h
     exact wp_ret (hQ β act w (Le.refl β) he hs rfl)
   | region id ops draw =>
     simp only [evC] at h
     split at h
     · rename_i s1 hs1
       simp only [Option.some.injEq, Prod.mk.injEq] at h
       obtain ⟨rfl, rfl⟩ := h
       cases draw with
       | true =>
         simp only [if_true] at hs1
         exact evDraw_sound hcalls (evBody_since (evC_since n)) hm he hs hs1 hQ
       | false =>
         simp only [Bool.false_eq_true, if_false] at hs1
         refine wp_region ?_
         have := evOps_sound (ops := ops) (Q := Q) hcall ops.toList 0 β s s1 act w (fun j o ho => by simpa using ho) he hs hs1 hQ
         rwa [← List.range_eq_range', Array.length_toList] at this
     · cases h
   | seq x y =>
     simp only [evC] at h
     refine wp_seq ?_
     cases hx : evC P n x s with
     | none => rw [hx] at h; cases h
     | some q =>
       obtain ⟨e1, s1⟩ := q
       rw [hx] at h
       refine ih x s e1 s1 hx β act w he hs _ fun β1 act1 w1 k1 k2 k3 k4 => ?_
       cases e1 with
       | normal =>
         simp only at h
         exact ih y s1 e s' h β1 act1 w1 k2 k3 Q fun β2 act2 w2 m1 m2 m3 m4 => hQ β2 act2 w2 (k1.trans m1) m2 m3 (m4.trans k4)
       | exit id =>
         simp only [Option.some.injEq, Prod.mk.injEq] at h
         obtain ⟨rfl, rfl⟩ := h
         exact hQ β1 act1 w1 k1 k2 k3 k4
       | ret =>
         simp only [Option.some.injEq, Prod.mk.injEq] at h
         obtain ⟨rfl, rfl⟩ := h
         exact hQ β1 act1 w1 k1 k2 k3 k4
   | cond c t e' =>
     simp only [evC] at h
     split at h
     · rename_i k
       have hr := hs.rel k
       split at h
       · rename_i hc
         have hc' : act.eval (.tmp k) = .bool true := by
          have : VR β (.bool true) (act.tmps.getD k undef) := by
           have := hr; rw [show (s.tmps.get k).getD undef = .bool true from hc] at this; exact this
          exact this.bool
         exact wp_cond_true hc' (ih t s e s' h β act w he hs Q hQ)
       · rename_i hc
         have hc' : act.eval (.tmp k) = .bool false := by
          have : VR β (.bool false) (act.tmps.getD k undef) := by
           have := hr; rw [show (s.tmps.get k).getD undef = .bool false from hc] at this; exact this
          exact this.bool
         exact wp_cond_false hc' (ih e' s e s' h β act w he hs Q hQ)
       · cases h
     · cases h
   | block id b =>
     simp only [evC] at h
     refine wp_block ?_
     cases hx : evC P n b s with
     | none => rw [hx] at h; cases h
     | some q =>
       obtain ⟨e1, s1⟩ := q
       rw [hx] at h
       refine ih b s e1 s1 hx β act w he hs _ fun β1 act1 w1 k1 k2 k3 k4 => ?_
       cases e1 with
       | normal =>
         simp only [Option.some.injEq, Prod.mk.injEq] at h
         obtain ⟨rfl, rfl⟩ := h
         exact hQ β1 act1 w1 k1 k2 k3 k4
       | exit i =>
         simp only at h
         simp only [Ex.exit', Exit.inBlock]
         split at h
         · rename_i hi
           simp only [Option.some.injEq, Prod.mk.injEq] at h
           obtain ⟨rfl, rfl⟩ := h
           rw [if_pos hi]
           exact hQ β1 act1 w1 k1 k2 k3 k4
         · rename_i hi
           simp only [Option.some.injEq, Prod.mk.injEq] at h
           obtain ⟨rfl, rfl⟩ := h
           rw [if_neg hi]
           exact hQ β1 act1 w1 k1 k2 k3 k4
       | ret =>
         simp only [Option.some.injEq, Prod.mk.injEq] at h
         obtain ⟨rfl, rfl⟩ := h
         exact hQ β1 act1 w1 k1 k2 k3 k4
   | loop b =>
     refine wp_loop_rounds (n + 1) ?_
     have key : ∀ m, m ≤ n + 1 → ∀ (s s' : St) (e : Ex) β act w, evC P m (.loop b) s = some (e, s') → Emb P w0 β s.w w → Slots β s act → (∀ β1 act1 w1, Le β β1 → Emb P w0 β1 s'.w w1 → Slots β1 s' act1 → act1.defers = act.defers → Q e.exit' act1 w1) →
      Code.rounds P b Q m act w := by
      intro m
      induction m with
      | zero => intro _ s s' e β act w h; simp [evC] at h
      | succ m ihm =>
        intro hmn s s' e β act w h he hs hQ
        simp only [evC] at h
        rw [rounds_succ]
        cases hx : evC P m b s with
        | none => rw [hx] at h; cases h
        | some q =>
          obtain ⟨e1, s1⟩ := q
          rw [hx] at h
          have hcode : CodeOk P w0 (evC P m) := ihs m (by omega) w0
          refine hcode b s e1 s1 hx β act w he hs _ fun β1 act1 w1 k1 k2 k3 k4 => ?_
          cases e1 with
          | normal =>
            simp only at h
            exact ihm (by omega) s1 s' e β1 act1 w1 h k2 k3 fun β2 act2 w2 m1 m2 m3 m4 => hQ β2 act2 w2 (k1.trans m1) m2 m3 (m4.trans k4)
          | exit id =>
            simp only [Option.some.injEq, Prod.mk.injEq] at h
            obtain ⟨rfl, rfl⟩ := h
            exact hQ β1 act1 w1 k1 k2 k3 k4
          | ret =>
            simp only [Option.some.injEq, Prod.mk.injEq] at h
            obtain ⟨rfl, rfl⟩ := h
            exact hQ β1 act1 w1 k1 k2 k3 k4
     exact key (n + 1) (Nat.le_refl _) s s' e β act w h he hs hQ
   | _ => simp [evC] at h
theorem code_sound (hm : P.follows .mixedOrders = true) (n : Nat) : CodeOk P w0 (evC P n) := code_sound' hm n w0
def only (w : World) : Base := ⟨w, fun _ => False⟩
theorem Emb.start (P : Program) (w : World) : Emb P (only w) (fun _ => none) .empty w :=
 .mk' ⟨rfl, rfl, rfl, Nat.le_refl _, fun _ _ => rfl⟩ (fun _ _ => ⟨rfl, rfl⟩) (fun _ _ h => by cases h) (fun _ _ _ _ _ _ h => by cases h) (fun _ _ h => by cases h) (fun _ _ h => by cases h) ⟨(fun _ _ _ h => by cases h), (fun _ _ _ _ _ _ _ _ h => by cases h)⟩
end
end Ev
end Go.Proofs.YtedmogacklbcmaaGreatDoor
