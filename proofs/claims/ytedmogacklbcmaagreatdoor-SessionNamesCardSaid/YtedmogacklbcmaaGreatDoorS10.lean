/- Texts that the proofs share: EvDraw. -/
import Derived.Test.YtedmogacklbcmaaGreatDoorS05
import Derived.Test.YtedmogacklbcmaaGreatDoorS09
namespace Go.Proofs.YtedmogacklbcmaaGreatDoor
namespace Ev
open Go.RowKit
inductive Anc (ops : Array Oper) : Nat → Nat → Prop where
 | one {i : Nat} {o : Oper} {e : Edge} (h : ops[i]? = some o) (he : e ∈ o.after) (hb : Region.binds .any e = true) : Anc ops i e.on
 | more {i j : Nat} {o : Oper} {e : Edge} (h : ops[i]? = some o) (he : e ∈ o.after) (hb : Region.binds .any e = true) (ha : Anc ops e.on j) : Anc ops i j
theorem Anc.listed {ops : Array Oper} {L : Nat → Prop} (hc : ∀ i o, L i → ops[i]? = some o → ∀ e ∈ o.after, Region.binds .any e = true → L e.on) {i j : Nat} (h : Anc ops i j) : L i → L j := by
 induction h with
 | one h he hb => intro hi; exact hc _ _ hi h _ he hb
 | more h he hb _ ih => intro hi; exact ih (hc _ _ hi h _ he hb)
theorem Anc.ready {ops : Array Oper} {L : Nat → Prop} (hc : ∀ i o, L i → ops[i]? = some o → ∀ e ∈ o.after, Region.binds .any e = true → L e.on) {i j : Nat} (h : Anc ops i j)
 {o : Oper} (ho : ops[i]? = some o) (hr : ∀ e ∈ o.after, Region.binds .any e = true → L e.on) : L j := by
 cases h with
 | one h he hb => rw [ho] at h; injection h with h; subst h; exact hr _ he hb
 | more h he hb ha => rw [ho] at h; injection h with h; subst h; exact ha.listed hc (hr _ he hb)
theorem maskOf_spec (acc : List Nat) (j : Nat) : ∀ es : List Edge, (maskOf acc es).testBit j = true → ∃ e ∈ es, Region.binds .any e = true ∧ (j = e.on ∨ (acc.getD e.on 0).testBit j = true)
 | [], h => by simp [maskOf] at h
 | e :: r, h => by
   unfold maskOf at h
   split at h
   · rename_i hb
     simp only [Nat.testBit_or, Bool.or_eq_true, Nat.testBit_two_pow, decide_eq_true_eq] at h
     rcases h with (h | h) | h
     · exact ⟨e, List.mem_cons_self .., hb, .inl h.symm⟩
     · exact ⟨e, List.mem_cons_self .., hb, .inr h⟩
     · obtain ⟨e', h1, h2⟩ := maskOf_spec acc j r h
       exact ⟨e', List.mem_cons_of_mem _ h1, h2⟩
   · obtain ⟨e', h1, h2⟩ := maskOf_spec acc j r h
     exact ⟨e', List.mem_cons_of_mem _ h1, h2⟩
theorem masks_spec (ops : Array Oper) : ∀ (r : List Oper) (acc : List Nat), (∀ j o, r[j]? = some o → ops[acc.length + j]? = some o) → (∀ i j, (acc.getD i 0).testBit j = true → Anc ops i j) →
 ∀ i j, ((masks r acc).getD i 0).testBit j = true → Anc ops i j := by
 intro r
 induction r with
 | nil => intro acc _ h; exact h
 | cons o r ih =>
   intro acc ho hacc
   unfold masks
   refine ih _ (fun j o' h => ?_) (fun i j h => ?_)
   · have := ho (j + 1) o' (by simpa using h)
     rw [List.length_append, List.length_singleton]
     rwa [show acc.length + 1 + j = acc.length + (j + 1) by omega]
   · rw [List.getD_eq_getElem?_getD] at h
     by_cases hi : i < acc.length
     · rw [List.getElem?_append_left hi] at h
       exact hacc i j (by rw [List.getD_eq_getElem?_getD]; exact h)
     · rw [List.getElem?_append_right (by omega)] at h
       by_cases he : i = acc.length
       · subst he
         simp only [Nat.sub_self, List.getElem?_cons_zero, Option.getD_some] at h
         obtain ⟨e, h1, h2, h3⟩ := maskOf_spec acc j _ h
         have hop := ho 0 o rfl
         simp only [Nat.add_zero] at hop
         rw [Array.mem_toList_iff] at h1
         rcases h3 with rfl | h3
         · exact .one hop h1 h2
         · exact .more hop h1 h2 (hacc _ _ h3)
       · have : ¬ i - acc.length < 1 := by omega
         rw [List.getElem?_eq_none (by simp; omega)] at h
         simp at h
theorem eqAtom_eq {a b : Value} (h : eqAtom a b = true) : a = b := by
 unfold eqAtom at h
 split at h
 · rw [eq_of_beq h]
 · rw [Bool.and_eq_true] at h
   rw [of_decide_eq_true h.1, eq_of_beq h.2]
 · rename_i a b
   obtain ⟨⟨a⟩⟩ := a
   obtain ⟨⟨b⟩⟩ := b
   have := eq_of_beq h
   simp only at this
   rw [this]
 · rw [of_decide_eq_true h]
 · rw [Bool.and_eq_true, Bool.and_eq_true] at h
   rw [of_decide_eq_true h.1.1, eq_of_beq h.1.2, eq_of_beq h.2]
 · rfl
 · rfl
 · cases h
theorem eqList_eq : ∀ {l m : List Value}, eqList l m = true → l = m
 | [], [], _ => rfl
 | a :: l, b :: m, h => by
   simp only [eqList, Bool.and_eq_true] at h
   rw [eqAtom_eq h.1, eqList_eq h.2]
 | [], _ :: _, h => by simp [eqList] at h
 | _ :: _, [], h => by simp [eqList] at h
theorem eqV_eq {a b : Value} (h : eqV a b = true) : a = b := by
 unfold eqV at h
 split at h
 · rename_i x y
   have := eqList_eq h
   rw [← Array.toArray_toList (xs := x), this]
 · exact eqAtom_eq h
section
variable {P : Program} {w0 : Base} {β : Pl} {call : CallF} {ops : Array Oper}
theorem trace_spec : ∀ (l : List Oper) (s : St) (sts : List St), trace P call ops l s = some sts →
 sts.length = l.length + 1 ∧ sts[0]? = some s ∧ ∀ (i : Nat) (o : Oper), l[i]? = some o → ∃ si si', sts[i]? = some si ∧ sts[i + 1]? = some si' ∧ step P call ops o si = some si' := by
 intro l
 induction l with
 | nil => intro s sts h; simp only [trace, Option.some.injEq] at h; subst h; exact ⟨rfl, rfl, fun i o h => by simp at h⟩
 | cons o r ih =>
   intro s sts h
   unfold trace at h
   split at h
   · rename_i s1 hst
     split at h
     · rename_i l' hl'
       injection h with h; subst h
       obtain ⟨h1, h2, h3⟩ := ih s1 l' hl'
       refine ⟨by simp [h1], rfl, fun i o' ho => ?_⟩
       cases i with
       | zero =>
         simp at ho; subst ho
         exact ⟨s, s1, rfl, by simpa using h2, hst⟩
       | succ i =>
         obtain ⟨si, si', k1, k2, k3⟩ := h3 i o' (by simpa using ho)
         exact ⟨si, si', by simpa using k1, by simpa using k2, k3⟩
     · cases h
   · cases h
theorem float_keeps {t : Tr Value} {o : Oper} {a a1 : AW} {v : Value} (hf : isFloat t o.op = true) (h : stepV P call ops t o a = some (v, a1)) :
 a1 = a ∧ (isLoad o.op = false → ∀ a', stepV P call ops t o a' = some (v, a')) ∧ ∀ a' v' a2, stepV P call ops t o a' = some (v', a2) → a2 = a' := by
 have one : ∀ a r a1, evOp P t o a = some (r, a1) → a1 = a ∧ ∃ v, r = .value v := by
  intro a r a1 h
  unfold evOp at h
  by_cases hok : (o.op.operands.toList.all okOpnd) = true
  · rw [if_pos hok, if_pos hf] at h
    cases hp : evFloat P t o a with
    | none => rw [hp] at h; cases h
    | some u => rw [hp] at h; simp only [Option.some.injEq, Prod.mk.injEq] at h; exact ⟨h.2.symm, u, h.1.symm⟩
  · rw [if_neg hok] at h; cases h
 have gen : ∀ a v a1, stepV P call ops t o a = some (v, a1) → a1 = a := by
  intro a v a1 h
  unfold stepV at h
  split at h
  · injection h with h; injection h with _ h; exact h.symm
  · cases hq : evOp P t o a with
    | none => rw [hq] at h; cases h
    | some q =>
      obtain ⟨r, a2⟩ := q
      obtain ⟨e1, u, e2⟩ := one a r a2 hq
      subst e1; subst e2
      rw [hq] at h
      simp only [Option.some.injEq, Prod.mk.injEq] at h
      exact h.2.symm
  · cases h
 refine ⟨gen a v a1 h, fun hl a' => ?_, gen⟩
 have ha := gen a v a1 h
 subst ha
 unfold stepV at h ⊢
 cases hg : guardYes ops t o with
 | none => rw [hg] at h; cases h
 | some b =>
   rw [hg] at h
   cases b with
   | false => simp only [Option.some.injEq, Prod.mk.injEq] at h ⊢; exact ⟨h.1, trivial⟩
   | true =>
     simp only at h ⊢
     unfold evOp at h ⊢
     by_cases hok : (o.op.operands.toList.all okOpnd) = true
     · rw [if_pos hok, if_pos hf] at h ⊢
       simp only [evFloat, hl, Bool.false_eq_true, if_false] at h ⊢
       cases hp : evPure P t o with
       | none => rw [hp] at h; cases h
       | some u => rw [hp] at h; simp only [Option.some.injEq, Prod.mk.injEq] at h ⊢; exact ⟨h.1, trivial⟩
     · rw [if_neg hok] at h; cases h
def Ch (lts : List Nat) (sts : List St) (c : Nat) (oc : Oper) : Prop := ∃ sc, sts[c]? = some sc ∧ isFloat sc.tmps oc.op = false ∧ c ∉ lts
structure Free (P : Program) (call : CallF) (ops : Array Oper) (sts : List St) (lts : List Nat) : Prop where
 edges : ∀ (i : Nat) (o : Oper), ops[i]? = some o → ∀ e ∈ o.after, Region.binds .any e = true → e.on < i
 uniq : ∀ (i j : Nat) (oi oj : Oper) (d : Tmp), i ≠ j → ops[i]? = some oi → ops[j]? = some oj → oj.dst = some d → oi.dst ≠ some d
 slots : ∀ (i j : Nat) (oi oj : Oper) (d : Tmp), i ≠ j → ops[i]? = some oi → ops[j]? = some oj → oj.dst = some d → d ∈ oi.looksAt ops → Anc ops (max i j) (min i j)
 chain : ∀ (c c' : Nat) (o o' : Oper), ops[c]? = some o → ops[c']? = some o' → Ch lts sts c o → Ch lts sts c' o' → c < c' → Anc ops c' c
 loads : ∀ (i : Nat) (o : Oper), ops[i]? = some o → isLoad o.op = true → ∀ k, (k = 0 ∨ ∃ (c : Nat) (oc : Oper), ops[c]? = some oc ∧ Ch lts sts c oc ∧ k = c + 1) →
  (∀ (c : Nat) (oc : Oper), ops[c]? = some oc → Ch lts sts c oc → c < k → ¬ Anc ops c i) →
  (∀ (c : Nat) (oc : Oper), ops[c]? = some oc → Ch lts sts c oc → k ≤ c → ¬ Anc ops i c) →
  ∃ sk si v a v' a', sts[k]? = some sk ∧ sts[i]? = some si ∧ stepV P call ops si.tmps o sk.w = some (v, a) ∧ stepV P call ops si.tmps o si.w = some (v', a') ∧ v = v'
 late : ∀ (f : Nat) (o : Oper), f ∈ lts → ops[f]? = some o → ∃ e, o.op = .alloc e ∧ o.guard = none
 behind : ∀ (f c : Nat) (o oc : Oper), f ∈ lts → ops[f]? = some o → ops[c]? = some oc → Ch lts sts c oc → f < c → Anc ops c f
 bnd : lts = [] ∨ ∀ (c : Nat) (oc : Oper) (sc : St), ops[c]? = some oc → sts[c]? = some sc → Ch lts sts c oc → ∀ k ∈ oc.looksAt ops, bounded 4 sc.w.next ((sc.tmps.get k).getD undef) = true
theorem mem_zip {l : List Oper} {x : Oper × Nat} (h : x ∈ l.zipIdx) : l[x.2]? = some x.1 := by
 obtain ⟨o, i⟩ := x
 rw [List.mem_zipIdx_iff_getElem?] at h
 simpa using h
theorem zip_mem {l : List Oper} {i : Nat} {o : Oper} (h : l[i]? = some o) : (o, i) ∈ l.zipIdx := by
 rw [List.mem_zipIdx_iff_getElem?]; simpa using h
theorem same_mem {s : St} {sts : List St} (ht : trace P call ops ops.toList s = some sts) : ∀ (n i : Nat) (si sj : St), sts[i]? = some si → sts[i + n]? = some sj →
 (∀ (c : Nat) (oc : Oper) (sc : St), ops[c]? = some oc → sts[c]? = some sc → i ≤ c → c < i + n → isFloat sc.tmps oc.op = true) → sj.w = si.w := by
 obtain ⟨hl, _, hst⟩ := trace_spec _ _ _ ht
 intro n
 induction n with
 | zero => intro i si sj hi hj _; rw [Nat.add_zero, hi] at hj; injection hj with hj; rw [hj]
 | succ n ih =>
   intro i si sj hi hj hc
   have hlt : i + (n + 1) < sts.length := (List.getElem?_eq_some_iff.1 hj).1
   have hlt' : i + n < ops.toList.length := by omega
   obtain ⟨sk, sk', k1, k2, k3⟩ := hst (i + n) _ (List.getElem?_eq_getElem hlt')
   have hop : ops[i + n]? = some (ops.toList[i + n]'hlt') := by
    rw [← Array.getElem?_toList]
    exact List.getElem?_eq_getElem hlt'
   rw [show i + n + 1 = i + (n + 1) by omega, hj] at k2
   injection k2 with k2
   subst k2
   have hw := ih i si sk hi k1 fun c oc sc q1 q2 q3 q4 => hc c oc sc q1 q2 q3 (by omega)
   rw [← hw]
   have hf := hc (i + n) _ sk hop k1 (by omega) (by omega)
   unfold step at k3
   cases hv : stepV P call ops sk.tmps (ops.toList[i + n]'hlt') sk.w with
   | none => rw [hv] at k3; cases k3
   | some q =>
     obtain ⟨v, a⟩ := q
     rw [hv] at k3
     rw [(put_get k3).1]
     exact (float_keeps hf hv).1
theorem free_spec (hcs : CallSince call) {s : St} {sts : List St} {lts : List Nat} (ht : trace P call ops ops.toList s = some sts) (hlen : ∀ (i : Nat) (o : Oper), ops[i]? = some o → ∃ si, sts[i]? = some si) (h : orderFree P call ops sts lts = true) : Free P call ops sts lts := by
 unfold orderFree at h
 simp only [Bool.and_eq_true] at h
 obtain ⟨⟨⟨⟨⟨h1, h2⟩, h3⟩, h4⟩, h5⟩, h6⟩ := h
 have hanc : ∀ i j, ((masks ops.toList []).getD i 0).testBit j = true → Anc ops i j := masks_spec ops ops.toList [] (fun j o h => by simpa using h) (fun i j h => by simp at h)
 have hz : ∀ {i : Nat} {o : Oper}, ops[i]? = some o → (o, i) ∈ ops.toList.zipIdx := fun h => zip_mem (by simpa using h)
 have hnon : ∀ {c : Nat} {o : Oper} {sc : St}, ops[c]? = some o → sts[c]? = some sc → isFloat sc.tmps o.op = false →
  c ∈ (ops.toList.zipIdx.filter fun x => !isFloat (match sts[x.2]? with | some s => s.tmps | none => .lf) x.1.op).map (·.2) := by
  intro c o sc ho hs hf
  refine List.mem_map.2 ⟨(o, c), List.mem_filter.2 ⟨hz ho, ?_⟩, rfl⟩
  simp only [hs, hf, Bool.not_false]
 have hch : ∀ {c : Nat} {o : Oper}, ops[c]? = some o → Ch lts sts c o →
  c ∈ ((ops.toList.zipIdx.filter fun x => !isFloat (match sts[x.2]? with | some s => s.tmps | none => .lf) x.1.op).map (·.2)).filter fun c => !lts.contains c := by
  rintro c o ho ⟨sc, hs, hf, hn⟩
  refine List.mem_filter.2 ⟨hnon ho hs hf, ?_⟩
  simpa using hn
 have hch' : ∀ {c : Nat}, c ∈ ((ops.toList.zipIdx.filter fun x => !isFloat (match sts[x.2]? with | some s => s.tmps | none => .lf) x.1.op).map (·.2)).filter (fun c => !lts.contains c) →
  ∃ o, ops[c]? = some o ∧ Ch lts sts c o := by
  intro c hc
  obtain ⟨hc, hn⟩ := List.mem_filter.1 hc
  obtain ⟨⟨o, i⟩, hx, rfl⟩ := List.mem_map.1 hc
  obtain ⟨hx1, hx2⟩ := List.mem_filter.1 hx
  have ho : ops[i]? = some o := by simpa using mem_zip hx1
  obtain ⟨si, hsi⟩ := hlen i o ho
  refine ⟨o, ho, si, hsi, ?_, by simpa using hn⟩
  simp only [hsi] at hx2
  simpa using hx2
 refine ⟨?_, ?_, ?_, ?_, ?_, ?_, ?_, ?_⟩
 · intro i o ho e he hb
   simp only [List.all_eq_true] at h1
   have := h1 (o, i) (hz ho) e (by simpa using he)
   simpa [hb] using this
 · intro i j oi oj d hij hi hj hd
   simp only [List.all_eq_true] at h2
   have := h2 (oi, i) (hz hi) (oj, j) (hz hj)
   simp only [hd, Bool.or_eq_true, beq_iff_eq, hij, false_or, Bool.and_eq_true, bne_iff_ne, ne_eq] at this
   exact this.1
 · intro i j oi oj d hij hi hj hd hl
   simp only [List.all_eq_true] at h2
   have := h2 (oi, i) (hz hi) (oj, j) (hz hj)
   simp only [hd, Bool.or_eq_true, beq_iff_eq, hij, false_or, Bool.and_eq_true, bne_iff_ne, ne_eq, Bool.not_eq_true'] at this
   refine hanc _ _ (this.2.resolve_left ?_)
   simpa using hl
 · intro c c' o o' ho ho' hf hf' hcc
   rw [List.all_eq_true] at h3
   have := h3 c (hch ho hf)
   rw [List.all_eq_true] at this
   have := this c' (hch ho' hf')
   simp only [Bool.or_eq_true, Bool.not_eq_true', decide_eq_false_iff_not, hcc, not_true_eq_false, false_or] at this
   exact hanc _ _ this
 · intro i o ho hl k hk hk1 hk2
   rw [List.all_eq_true] at h4
   have := h4 (o, i) (hz ho)
   simp only [hl, Bool.not_true, Bool.false_or] at this
   rw [List.all_eq_true] at this
   have := this k (by
    rcases hk with rfl | ⟨c, oc, q1, q2, rfl⟩
    · exact List.mem_cons_self ..
    · exact List.mem_cons_of_mem _ (List.mem_map.2 ⟨c, hch q1 q2, rfl⟩))
   simp only [Bool.or_eq_true, Bool.not_eq_true', Bool.and_eq_false_iff] at this
   rcases this with ((this | this) | this) | this
   · exfalso
     rw [List.all_eq_false] at this
     obtain ⟨c, hc, hcc⟩ := this
     obtain ⟨oc, q1, q2⟩ := hch' hc
     simp only [Bool.or_eq_true, Bool.not_eq_true', decide_eq_false_iff_not, not_or, Bool.not_eq_false, Nat.not_lt, Nat.not_le] at hcc
     exact hk1 c oc q1 q2 hcc.1 (hanc _ _ hcc.2)
   · exfalso
     rw [List.all_eq_false] at this
     obtain ⟨c, hc, hcc⟩ := this
     obtain ⟨oc, q1, q2⟩ := hch' hc
     simp only [Bool.or_eq_true, Bool.not_eq_true', decide_eq_true_eq, not_or, Bool.not_eq_false, Nat.not_lt] at hcc
     exact hk2 c oc q1 q2 hcc.1 (hanc _ _ hcc.2)
   · obtain ⟨si, hsi⟩ := hlen i o ho
     obtain ⟨hl1, hz0, hst⟩ := trace_spec _ _ _ ht
     have hk' : ∃ sk, sts[k]? = some sk := by
      rcases hk with rfl | ⟨c, oc, q1, q2, rfl⟩
      · exact ⟨s, hz0⟩
      · have : c < ops.size := (Array.getElem?_eq_some_iff.1 q1).1
        exact ⟨_, List.getElem?_eq_getElem (by rw [hl1, Array.length_toList]; omega)⟩
     obtain ⟨sk, hsk⟩ := hk'
     obtain ⟨si0, si1, j1, _, j3⟩ := hst i o (by simpa using ho)
     rw [hsi] at j1
     injection j1 with j1
     subst j1
     have hnone : ∀ (c : Nat) (oc : Oper) (sc : St), ops[c]? = some oc → sts[c]? = some sc → min k i ≤ c → c < max k i → isFloat sc.tmps oc.op = true := by
      intro c oc sc q1 q2 q3 q4
      cases hf : isFloat sc.tmps oc.op with
      | true => rfl
      | false =>
        rw [List.all_eq_true] at this
        have := this c (hnon q1 q2 hf)
        simp only [Bool.not_eq_true', Bool.and_eq_false_iff, decide_eq_false_iff_not] at this
        rcases this with this | this
        · exact absurd q3 this
        · exact absurd q4 this
     have hw : sk.w = si.w := by
      rcases Nat.le_total k i with hki | hki
      · have := same_mem ht (i - k) k sk si hsk (by rw [show k + (i - k) = i by omega]; exact hsi) fun c oc sc q1 q2 q3 q4 => hnone c oc sc q1 q2 (by omega) (by omega)
        exact this.symm
      · exact same_mem ht (k - i) i si sk hsi (by rw [show i + (k - i) = k by omega]; exact hsk) fun c oc sc q1 q2 q3 q4 => hnone c oc sc q1 q2 (by omega) (by omega)
     unfold step at j3
     cases hv : stepV P call ops si.tmps o si.w with
     | none => rw [hv] at j3; cases j3
     | some q =>
       obtain ⟨v, a⟩ := q
       exact ⟨sk, si, v, a, v, a, hsk, hsi, by rw [hw]; exact hv, hv, rfl⟩
   · split at this
     · rename_i sk si hsk hsi
       rw [Bool.or_eq_true] at this
       rcases this with this | this
       · obtain ⟨_, _, hst⟩ := trace_spec _ _ _ ht
         obtain ⟨si0, si1, j1, _, j3⟩ := hst i o (by simpa using ho)
         rw [hsi] at j1
         injection j1 with j1
         subst j1
         have hsince : Since sk.w si.w ∨ Since si.w sk.w := by
          rcases Nat.le_total k i with hki | hki
          · exact .inl (trace_since hcs _ _ _ ht (i - k) k sk si hsk (by rw [show k + (i - k) = i by omega]; exact hsi))
          · exact .inr (trace_since hcs _ _ _ ht (k - i) i si sk hsi (by rw [show i + (k - i) = k by omega]; exact hsk))
         unfold step at j3
         cases hv : stepV P call ops si.tmps o si.w with
         | none => rw [hv] at j3; cases j3
         | some q =>
           obtain ⟨v, a⟩ := q
           obtain ⟨a1, ha1⟩ := still_same hsince this hv
           exact ⟨sk, si, v, a1, v, a, hsk, hsi, ha1, hv, rfl⟩
       split at this
       · rename_i v a v' a' e1 e2
         exact ⟨sk, si, v, a, v', a', hsk, hsi, e1, e2, eqV_eq this⟩
       · cases this
     · cases this
 · intro f o hf ho
   rw [List.all_eq_true] at h5
   have := h5 (o, f) (hz ho)
   have hc : lts.contains f = true := by simpa using hf
   simp only [hc, Bool.not_true, Bool.false_or, Bool.and_eq_true] at this
   obtain ⟨⟨k1, k2⟩, _⟩ := this
   have kop : ∃ e, o.op = .alloc e := by
    generalize o.op = op at k1
    cases op <;> first | exact ⟨_, rfl⟩ | cases k1
   obtain ⟨e, he⟩ := kop
   exact ⟨e, he, by simpa using k2⟩
 · intro f c o oc hf ho hoc hcc hlt
   rw [List.all_eq_true] at h5
   have := h5 (o, f) (hz ho)
   have hc : lts.contains f = true := by simpa using hf
   simp only [hc, Bool.not_true, Bool.false_or, Bool.and_eq_true] at this
   have := this.2
   rw [List.all_eq_true] at this
   have := this c (hch hoc hcc)
   simp only [Bool.or_eq_true, Bool.not_eq_true', decide_eq_false_iff_not, hlt, not_true_eq_false, false_or] at this
   exact hanc _ _ this
 · rw [Bool.or_eq_true] at h6
   rcases h6 with h6 | h6
   · exact .inl (by simpa using h6)
   · refine .inr fun c oc sc hoc hsc hcc k hk => ?_
     rw [List.all_eq_true] at h6
     have := h6 (oc, c) (hz hoc)
     rw [Bool.or_eq_true] at this
     rcases this with this | this
     · exfalso
       rw [Bool.not_eq_true'] at this
       have h8 := List.contains_iff_mem.2 (hch hoc hcc)
       exact absurd (h8.symm.trans this) (by decide)
     · simp only [hsc, List.all_eq_true] at this
       exact this k hk
end
end Ev
end Go.Proofs.YtedmogacklbcmaaGreatDoor
namespace Go.Proofs.YtedmogacklbcmaaGreatDoor
namespace Ev
open Go.RowKit
theorem bounded_narrow {β γ : Pl} {n : Nat} (h : ∀ i b, i < n → γ i = some b → β i = some b) : ∀ (d : Nat) (v v' : Value), VR γ v v' → bounded d n v = true → VR β v v' := by
 have atoms : ∀ v v' : Value, VR γ v v' → bounded 0 n v = true → VR β v v' := by
  intro v v' hv hb
  cases hv with
  | flat hf => exact .flat hf
  | ptr ha =>
    obtain ⟨h1, bi, h2, h3⟩ := ha
    exact .ptr ⟨h1, bi, h _ _ (of_decide_eq_true hb) h2, h3⟩
  | slice ha hbi =>
    obtain ⟨h1, bi, h2, h3⟩ := ha
    exact .slice ⟨h1, bi, h _ _ (of_decide_eq_true hb) h2, h3⟩ (h _ _ (of_decide_eq_true hb) hbi)
  | agg hs hh => have := VR.flat_eq (VR.agg hs hh) hb; rw [this]; exact .flat hb
  | tuple hs hh => have := VR.flat_eq (VR.tuple hs hh) hb; rw [this]; exact .flat hb
  | func fn _ _ _ _ => simp [bounded, Ev.flat, atom] at hb
  | map hm => exact .map (h _ _ (of_decide_eq_true hb) hm)
 intro d
 induction d with
 | zero => exact atoms
 | succ d ih =>
   intro v v' hv hb
   have lists : ∀ (cs cs' : Array Value), cs.toList.all (bounded d n) = true → (∀ (i : Nat) (v v' : Value), cs[i]? = some v → cs'[i]? = some v' → VR γ v v') → ∀ (i : Nat) (v v' : Value), cs[i]? = some v → cs'[i]? = some v' → VR β v v' := by
    intro cs cs' hb hh i x x' h1 h2
    simp only [List.all_eq_true] at hb
    exact ih x x' (hh i x x' h1 h2) (hb x (by rw [Array.mem_toList_iff]; exact Array.mem_of_getElem? h1))
   cases hv with
   | flat hf => exact .flat hf
   | ptr ha => exact atoms _ _ (.ptr ha) hb
   | slice ha hbi => exact atoms _ _ (.slice ha hbi) hb
   | agg hs hh => exact .agg hs (lists _ _ hb hh)
   | tuple hs hh => exact .tuple hs (lists _ _ hb hh)
   | func fn hs hh ks kk =>
     simp only [bounded, Bool.and_eq_true] at hb
     exact .func fn hs (lists _ _ hb.1 hh) ks (lists _ _ hb.2 kk)
   | map hm => exact atoms _ _ (.map hm) hb
section
variable {P : Program} {w0 : Base} {β : Pl} {call : CallF} {ops : Array Oper}
theorem EmbR.widen {γ : Pl} {a : AW} {w : World} (he : EmbR P w0 β a w) (hle : Le β γ) (hon : ∀ i b, a.heap.get i = some b → γ i = β i) : EmbR P w0 γ a w := by
 refine ⟨he.below, ?_, ?_, ?_, he.kinds, ?_⟩
 · intro i b hi hk
   obtain ⟨bi, cur, fz, g1, g2, g3, g4, g5, g6, g7, g8⟩ := he.blk i b hi hk
   exact ⟨bi, cur, fz, hle _ _ g1, g2, g3, g4, g5, g6, g7, g8.mono hle⟩
 · intro i j b c bi bj hi hk hj hk' h1 h2
   exact he.inj i j b c bi bj hi hk hj hk' ((hon i b hi).symm.trans h1) ((hon j c hj).symm.trans h2)
 · intro i b hi hk
   obtain ⟨bi, h1, h2, h3⟩ := he.imp i b hi hk
   exact ⟨bi, hle _ _ h1, h2, fun j v hv => by obtain ⟨v', h4, h5⟩ := h3 j v hv; exact ⟨v', h4, h5.mono hle⟩⟩
 · exact he.maps.keep hle (fun _ _ _ h _ _ => h) fun _ _ _ h => h
theorem Emb.grows {a : AW} {w : World} (he : Emb P w0 β a w) (o : Obj) : Emb P w0 β a (w.alloc o) := by
 have hp : ∀ g, g < w.heap.size → (w.alloc o).heap[g]? = w.heap[g]? := fun g hg => Below.heap_alloc _ _ _ hg
 refine .mk' (he.below.alloc o) he.fresh ?_ he.inj he.imp he.kinds (he.maps.keep (Le.refl β) (fun _ _ _ h _ _ => h) fun k es c hk => by rw [hp k (Array.getElem?_eq_some_iff.1 hk).1]; exact hk)
 intro i b hi hk
 obtain ⟨bi, cur, fz, g1, g2, g3, g4, g5⟩ := he.blk i b hi hk
 exact ⟨bi, cur, fz, g1, g2, g3, by rw [hp _ (Array.getElem?_eq_some_iff.1 g4).1]; exact g4, g5⟩
theorem Emb.adopt {a a1 : AW} {w : World} (he : Emb P w0 β a w) {g : Nat} {cur : Array Value} {e : TypeId} (hg : w.heap[g]? = some (.cells cur e (0, 0))) (hm : w0.Mine g)
 (hoff : ∀ j c bj, a.heap.get j = some c → c.kind < 2 → β j = some bj → bj.blk ≠ g) (hfl : ∀ v ∈ cur.toList, flat v = true) (hn : a.new ⟨cur.toList, e, 0⟩ = some a1) :
 Le β (grow β a.next ⟨g, 0, 0⟩) ∧ Emb P w0 (grow β a.next ⟨g, 0, 0⟩) a1 w := by
 obtain ⟨hp, la, cl, hput, rfl⟩ := AW.new_some hn
 have hnone := he.fresh a.next (Nat.le_refl _)
 have hle : Le β (grow β a.next ⟨g, 0, 0⟩) := .grow hnone.2
 have hgn : grow β a.next ⟨g, 0, 0⟩ a.next = some ⟨g, 0, 0⟩ := by simp [grow]
 have hβ : ∀ i b bi, a.heap.get i = some b → grow β a.next ⟨g, 0, 0⟩ i = some bi → β i = some bi := by
  intro i b bi h1 h2
  unfold grow at h2
  rw [if_neg (by rintro rfl; rw [hnone.1] at h1; cases h1)] at h2
  exact h2
 refine ⟨hle, .mk' he.below ?_ ?_ ?_ ?_ ?_ ?_⟩
 · intro i hi
   obtain ⟨g1, g2⟩ := he.fresh i (by simp at hi; omega)
   refine ⟨?_, ?_⟩
   · rw [Tr.get_put hput, if_neg (by simp at hi; omega)]; exact g1
   · unfold grow; rw [if_neg (by simp at hi; omega)]; exact g2
 · intro i b hi hkb
   rw [Tr.get_put hput] at hi
   by_cases hie : i = a.next
   · rw [if_pos hie] at hi
     injection hi with hi; subst hi; subst hie
     refine ⟨⟨g, 0, 0⟩, cur, (0, 0), hgn, hm, rfl, hg, .inl rfl, by simp, fun _ => ⟨rfl, rfl⟩, ?_⟩
     rw [List.take_length]
     exact .of_flat hfl
   · rw [if_neg hie] at hi
     obtain ⟨bj, cur', fz', g1, g2, g3, g4, g5, g6, g7, g8⟩ := he.blk i b hi hkb
     exact ⟨bj, cur', fz', hle _ _ g1, g2, g3, g4, g5, g6, g7, g8.mono hle⟩
 · intro i j b c bi bj hi hkb hj hkc hbi hbj hblk
   rw [Tr.get_put hput] at hi hj
   by_cases hie : i = a.next
   · by_cases hje : j = a.next
     · rw [hie, hje]
     · rw [if_neg hje] at hj
       rw [hie, hgn] at hbi
       injection hbi with hbi; subst hbi
       exact absurd hblk.symm (hoff j c bj hj hkc (hβ j c bj hj hbj))
   · rw [if_neg hie] at hi
     by_cases hje : j = a.next
     · rw [hje, hgn] at hbj
       injection hbj with hbj; subst hbj
       exact absurd hblk (hoff i b bi hi hkb (hβ i b bi hi hbi))
     · rw [if_neg hje] at hj
       exact he.inj i j b c bi bj hi hkb hj hkc (hβ i b bi hi hbi) (hβ j c bj hj hbj) hblk
 · intro i b hi hkb
   rw [Tr.get_put hput] at hi
   split at hi
   · injection hi with hi; subst hi; simp at hkb
   · obtain ⟨bi, h1, h2, h3⟩ := he.imp i b hi hkb
     exact ⟨bi, hle _ _ h1, h2, fun j v hv => by obtain ⟨v', h4, h5⟩ := h3 j v hv; exact ⟨v', h4, h5.mono hle⟩⟩
 · intro i b hi
   rw [Tr.get_put hput] at hi
   split at hi
   · injection hi with hi; subst hi; simp
   · exact he.kinds i b hi
 · refine he.maps.keep hle (fun i b l hi hk2 _ => ?_) fun _ _ _ h => h
   rw [Tr.get_put hput] at hi
   split at hi
   · injection hi with hi; subst hi; simp at hk2
   · exact hi
def Base.now (b : Base) (w : World) (S : Nat → Prop) : Base := ⟨w, fun k => b.Mine k ∧ ¬ S k⟩
theorem Emb.rebase {a : AW} {w : World} (he : Emb P w0 β a w) {S : Nat → Prop} (hS : ∀ j c bj, a.heap.get j = some c → c.kind < 2 → β j = some bj → ¬ S bj.blk)
 (hc : ∀ g, S g → ∃ cur e fz, w.heap[g]? = some (.cells cur e fz)) : Emb P (w0.now w S) β a w := by
 refine .mk' ⟨rfl, rfl, rfl, Nat.le_refl _, fun _ _ => rfl⟩ he.fresh ?_ he.inj ?_ he.kinds ⟨?_, he.maps.inj⟩
 · intro i b hi hk
   obtain ⟨bi, cur, fz, g1, g2, g3⟩ := he.blk i b hi hk
   exact ⟨bi, cur, fz, g1, .inr ⟨g2, hS i b bi hi hk g1⟩, g3⟩
 · intro i b hi hk
   obtain ⟨bi, h1, h2, h3⟩ := he.imp i b hi hk
   have hlt : bi.blk < w0.w.heap.size := Nat.lt_of_not_le fun e => h2 (.inl e)
   refine ⟨bi, h1, ?_, fun j v hv => ?_⟩
   · rintro (e | e)
     · have e' : w.heap.size ≤ bi.blk := e
       have := he.below.size
       omega
     · exact h2 e.1
   · obtain ⟨v', h4, h5⟩ := h3 j v hv
     exact ⟨v', by rw [show (w0.now w S).w = w from rfl, he.below.cell (p := ⟨bi.blk, bi.off + j, none⟩) h2]; exact h4, h5⟩
 · intro i b l hi hk hcl
   obtain ⟨bi, es, clock, q1, q2, q3, q4⟩ := he.maps.map i b l hi hk hcl
   refine ⟨bi, es, clock, q1, .inr ⟨q2, fun hs => ?_⟩, q3, q4⟩
   obtain ⟨cur, e, fz, hcc⟩ := hc _ hs
   rw [q3] at hcc; cases hcc
theorem Emb.unbase {β2 : Pl} {a a1 : AW} {w w1 : World} {S : Nat → Prop} (he' : Emb P (w0.now w S) β2 a1 w1) (he : Emb P w0 β a w) (hle : Le β β2) (hs : Since a a1) : Emb P w0 β2 a1 w1 := by
 have hmine : ∀ k, (w0.now w S).Mine k → w0.Mine k := by
  rintro k (e | e)
  · have e' : w.heap.size ≤ k := e
    exact .inl (Nat.le_trans he.below.size e')
  · exact e.1
 have hb := he'.below
 refine .mk' ⟨hb.os.trans he.below.os, hb.tape.trans he.below.tape, hb.output.trans he.below.output, Nat.le_trans he.below.size hb.size, fun k hk => ?_⟩ he'.fresh ?_ he'.inj ?_ he'.kinds ⟨?_, he'.maps.inj⟩
 · rw [hb.block k fun e => hk (hmine k e)]
   exact he.below.block k hk
 · intro i b hi hk
   obtain ⟨bi, cur, fz, g1, g2, g3⟩ := he'.blk i b hi hk
   exact ⟨bi, cur, fz, g1, hmine _ g2, g3⟩
 · intro i b hi hk
   obtain ⟨bi, h1, h2, h3⟩ := he.imp i b (hs.1.2.2.1 i b hi hk) hk
   exact ⟨bi, hle _ _ h1, h2, fun j v hv => by obtain ⟨v', h4, h5⟩ := h3 j v hv; exact ⟨v', h4, h5.mono hle⟩⟩
 · intro i b l hi hk hcl
   obtain ⟨bi, es, clock, q1, q2, q3⟩ := he'.maps.map i b l hi hk hcl
   exact ⟨bi, es, clock, q1, hmine _ q2, q3⟩
def ZeroOf (P : Program) (e : TypeId) (z : Value) : Prop := ∃ i, P.info? e = some i ∧ i.zero = some z ∧ flat z = true
theorem ZeroOf.cells {e : TypeId} {z : Value} (h : ZeroOf P e z) : ∀ v ∈ z.cells.toList, flat v = true := by
 obtain ⟨i, _, _, hz⟩ := h
 intro v hv
 cases z with
 | agg cs =>
   simp only [flat, List.all_eq_true] at hz
   exact atom_flat (hz v hv)
 | _ => simp only [Value.cells, List.mem_singleton] at hv; subst hv; exact hz
theorem ZeroOf.uniq {e : TypeId} {z z' : Value} (h : ZeroOf P e z) (h' : ZeroOf P e z') : z' = z := by
 obtain ⟨i, h1, h2, _⟩ := h
 obtain ⟨j, k1, k2, _⟩ := h'
 rw [h1] at k1; injection k1 with k1; subst k1
 rw [h2] at k2; injection k2 with k2; exact k2.symm
theorem alloc_val {t : Tr Value} {o : Oper} {a a1 : AW} {v : Value} {e : TypeId} (ho : o.op = .alloc e) (hg : o.guard = none) (hv : stepV P call ops t o a = some (v, a1)) :
 ∃ z, ZeroOf P e z ∧ a.new ⟨z.cells.toList, e, 0⟩ = some a1 ∧ v = .pointer (some ⟨a.next, 0, none⟩) := by
 have hok : (o.op.operands.toList.all okOpnd) = true := by rw [ho]; rfl
 have hfl : isFloat t o.op = false := by rw [ho]; rfl
 unfold stepV guardYes at hv
 rw [hg] at hv
 simp only at hv
 cases hop : evOp P t o a with
 | none => rw [hop] at hv; cases hv
 | some q =>
   obtain ⟨r, a2⟩ := q
   rw [hop] at hv
   unfold evOp at hop
   rw [if_pos hok, if_neg (by simp [hfl])] at hop
   unfold evMem at hop
   rw [ho] at hop
   simp only at hop
   split at hop
   case isFalse => cases hop
   rename_i hz
   unfold zflat at hz
   cases hi : P.info? e with
   | none => rw [hi] at hz; cases hz
   | some i =>
     rw [hi] at hz
     dsimp only at hz
     cases hzz : i.zero with
     | none => rw [hzz] at hz; cases hz
     | some z =>
       rw [hzz] at hz
       simp only [Bool.and_eq_true] at hz
       have harun : arun P (Instr.alloc e true (.tuple #[])) a = match a.new ⟨z.cells.toList, e, 0⟩ with | some w' => some (.pointer (some ⟨a.next, 0, none⟩), w') | none => none := by
        have h1 : arun P (zeroValue e) a = some (z, a) := by
         show arun P (Sem.bind (Sem.bind program _) _) a = _
         simp [arun_bind, program, arun, hi, hzz, Pure.pure]
        show arun P (Sem.bind (zeroValue e) fun zero => Sem.bind (newRow e zero.cells) fun x => pure (Value.pointer (some x))) a = _
        rw [arun_bind, h1]
        simp only
        show arun P (Sem.bind (Sem.bind (newObj (.cells z.cells e)) fun r => pure (⟨r, 0, none⟩ : Addr)) fun x => pure (Value.pointer (some x))) a = _
        rw [arun_bind, arun_bind]
        simp only [newObj, arun, if_true]
        cases a.new ⟨z.cells.toList, e, 0⟩ <;> rfl
       rw [harun] at hop
       cases hn : a.new ⟨z.cells.toList, e, 0⟩ with
       | none => rw [hn] at hop; cases hop
       | some a3 =>
         rw [hn] at hop
         simp only [Option.some.injEq, Prod.mk.injEq] at hop
         obtain ⟨rfl, rfl⟩ := hop
         simp only [Option.some.injEq, Prod.mk.injEq] at hv
         exact ⟨z, ⟨i, hi, hzz, hz.1⟩, by rw [← hv.2]; exact hn, hv.1.symm⟩
theorem alloc_run {e : TypeId} {z : Value} (h : ZeroOf P e z) (w : World) : (Instr.alloc e true (.tuple #[])).run P w = .ok (.pointer (some ⟨w.heap.size, 0, none⟩)) (w.alloc (.cells z.cells e)) := by
 obtain ⟨i, h1, h2, _⟩ := h
 simp [Instr.alloc, zeroValue, typeInfo, h1, h2, newVar, newRow]
theorem stepV_float {a : AW} {w : World} {act : Act} {t : Tr Value} {o : Oper} {i : Nat} (hi : ops[i]? = some o) (he : EmbR P w0 β a w) (hfl : isFloat t o.op = true)
 (ht : ∀ k, k ∈ o.looksAt ops → VR β ((t.get k).getD undef) (act.tmps.getD k undef)) {v : Value} {a1 : AW} (hv : stepV P call ops t o a = some (v, a1)) {Q : Exit → Act → World → Prop} {K : Act → World → Prop}
 (hK : ∀ v', VR β v v' → K (act.put o.dst v') w) : wpOp P ops Q i K act w := by
 unfold wpOp
 simp only [hi]
 unfold stepV at hv
 cases hg : guardYes ops t o with
 | none => rw [hg] at hv; cases hv
 | some b =>
   rw [guard_sound ht hg]
   rw [hg] at hv
   cases b with
   | false =>
     simp only [Option.some.injEq, Prod.mk.injEq] at hv
     obtain ⟨rfl, _⟩ := hv
     simp only [Bool.false_eq_true, if_false]
     exact hK undef (.flat rfl)
   | true =>
     simp only at hv
     simp only [if_true]
     refine .inl ?_
     unfold Oper.wp
     unfold evOp at hv
     by_cases hok : (o.op.operands.toList.all okOpnd) = true
     · rw [if_pos hok, if_pos hfl] at hv
       cases hf : evFloat P t o a with
       | none => rw [hf] at hv; cases hv
       | some u =>
         rw [hf] at hv
         simp only [Option.some.injEq, Prod.mk.injEq] at hv
         obtain ⟨rfl, _⟩ := hv
         obtain ⟨v', k1, k2⟩ := float_sound he (ops_of (act := act) (fun x hx k hk => by
          subst hk
          refine ht k ?_
          unfold Oper.looksAt
          exact List.mem_append_left _ (List.mem_filterMap.2 ⟨.tmp k, by simpa using hx, rfl⟩)) hok) hf
         rw [k1]
         exact hK v' k2
     · rw [if_neg hok] at hv; cases hv
end
end Ev
end Go.Proofs.YtedmogacklbcmaaGreatDoor
namespace Go.Proofs.YtedmogacklbcmaaGreatDoor
namespace Ev
open Go.RowKit
section
variable {P : Program} {w0 : Base} {call : CallF} {ops : Array Oper}
structure Txt (P : Program) (call : CallF) (ops : Array Oper) (s : St) (s' : St) (sts : List St) : Prop where
 first : sts[0]? = some s
 last : sts[ops.size]? = some s'
 next : ∀ (i : Nat) (o : Oper), ops[i]? = some o → ∃ si si', sts[i]? = some si ∧ sts[i + 1]? = some si' ∧ step P call ops o si = some si'
theorem step_put {o : Oper} {s s' : St} (h : step P call ops o s = some s') : ∃ v a, stepV P call ops s.tmps o s.w = some (v, a) ∧ s.put o.dst v a = some s' := by
 unfold step at h
 cases hv : stepV P call ops s.tmps o s.w with
 | none => rw [hv] at h; cases h
 | some q => obtain ⟨v, a⟩ := q; rw [hv] at h; exact ⟨v, a, rfl, h⟩
theorem Txt.early {s s' : St} {sts : List St} (h : Txt P call ops s s' sts) (k : Nat) : ∀ (i : Nat) (si : St), i ≤ ops.size → sts[i]? = some si → (∀ (j : Nat) (o : Oper), j < i → ops[j]? = some o → o.dst ≠ some k) → si.tmps.get k = s.tmps.get k ∧ si.n = s.n := by
 intro i
 induction i with
 | zero => intro si _ hs _; rw [h.first] at hs; injection hs with hs; subst hs; exact ⟨rfl, rfl⟩
 | succ i ih =>
   intro si hi hs hw
   obtain ⟨sj, sj', h1, h2, h3⟩ := h.next i ops[i] (Array.getElem?_eq_getElem (by omega))
   rw [hs] at h2; injection h2 with h2; subst h2
   obtain ⟨v, a, _, h5⟩ := step_put h3
   obtain ⟨_, h6, _, h7⟩ := put_get h5
   obtain ⟨k1, k2⟩ := ih sj (by omega) h1 (fun j o hj ho => hw j o (by omega) ho)
   refine ⟨?_, h6.trans k2⟩
   rw [h7, if_neg (hw i _ (by omega) (Array.getElem?_eq_getElem (by omega)))]
   exact k1
theorem Txt.late {s s' : St} {sts : List St} (h : Txt P call ops s s' sts) (k : Nat) : ∀ (d i : Nat) (si : St), i + d = ops.size → sts[i]? = some si → (∀ (j : Nat) (o : Oper), i ≤ j → ops[j]? = some o → o.dst ≠ some k) → s'.tmps.get k = si.tmps.get k := by
 intro d
 induction d with
 | zero => intro i si hi hs _; have : i = ops.size := by omega
           subst this; rw [h.last] at hs; injection hs with hs; subst hs; rfl
 | succ d ih =>
   intro i si hi hs hw
   obtain ⟨sj, sj', h1, h2, h3⟩ := h.next i ops[i] (Array.getElem?_eq_getElem (by omega))
   rw [hs] at h1; injection h1 with h1; subst h1
   obtain ⟨v, a, _, h5⟩ := step_put h3
   obtain ⟨_, h6, _, h7⟩ := put_get h5
   rw [ih (i + 1) sj' (by omega) h2 (fun j o hj ho => hw j o (by omega) ho), h7, if_neg (hw i _ (by omega) (Array.getElem?_eq_getElem (by omega)))]
theorem Txt.still {s s' : St} {sts : List St} (h : Txt P call ops s s' sts) : ∀ (d i : Nat) (si sj : St), i + d ≤ ops.size → sts[i]? = some si → sts[i + d]? = some sj →
 (∀ (c : Nat) (oc : Oper) (sc : St), i ≤ c → c < i + d → ops[c]? = some oc → sts[c]? = some sc → isFloat sc.tmps oc.op = true) → sj.w = si.w := by
 intro d
 induction d with
 | zero => intro i si sj _ h1 h2 _; rw [Nat.add_zero, h1] at h2; injection h2 with h2; subst h2; rfl
 | succ d ih =>
   intro i si sj hi h1 h2 hf
   obtain ⟨sk, sk', k1, k2, k3⟩ := h.next i ops[i] (Array.getElem?_eq_getElem (by omega))
   rw [h1] at k1; injection k1 with k1; subst k1
   obtain ⟨v, a, h4, h5⟩ := step_put k3
   obtain ⟨h6, _⟩ := put_get h5
   have hfl := hf i _ si (Nat.le_refl _) (by omega) (Array.getElem?_eq_getElem (by omega)) h1
   have ha := (float_keeps hfl h4).1
   rw [ih (i + 1) sk' sj (by omega) k2 (by rwa [show i + 1 + d = i + (d + 1) by omega]) (fun c oc sc q1 q2 q3 q4 => hf c oc sc (by omega) (by omega) q3 q4), h6, ha]
theorem Txt.since (hcs : CallSince call) {s s' : St} {sts : List St} (h : Txt P call ops s s' sts) : ∀ (d i : Nat) (si sj : St), i + d ≤ ops.size → sts[i]? = some si → sts[i + d]? = some sj → Since si.w sj.w := by
 intro d
 induction d with
 | zero => intro i si sj _ h1 h2; rw [Nat.add_zero, h1] at h2; injection h2 with h2; subst h2; exact .refl _
 | succ d ih =>
   intro i si sj hi h1 h2
   obtain ⟨sk, sk', k1, k2, k3⟩ := h.next i ops[i] (Array.getElem?_eq_getElem (by omega))
   rw [h1] at k1; injection k1 with k1; subst k1
   exact (step_since hcs k3).trans (ih (i + 1) sk' sj (by omega) k2 (by rwa [show i + 1 + d = i + (d + 1) by omega]))
def gam (β1 : Pl) (pg : Nat → Option Nat) : Pl := fun i => match pg i with
 | some g => some ⟨g, 0, 0⟩
 | none => β1 i
structure Pend (P : Program) (w0 : Base) (β1 : Pl) (ops : Array Oper) (sts : List St) (lts : List Nat) (L : Array Bool) (m : Nat) (a : AW) (w : World) (pg : Nat → Option Nat) : Prop where
 ahead : ∀ i g, pg i = some g → a.next ≤ i
 row : ∀ i g, pg i = some g → w0.Mine g ∧ ∃ (f : Nat) (o : Oper) (sf : St) (e : TypeId) (z : Value), f ∈ lts ∧ m ≤ f ∧ ops[f]? = some o ∧ sts[f]? = some sf ∧ sf.w.next = i ∧ o.op = .alloc e ∧ ZeroOf P e z ∧ w.heap[g]? = some (.cells z.cells e (0, 0)) ∧ L.getD f false = true
 has : ∀ (f : Nat) (sf : St), f ∈ lts → sts[f]? = some sf → m ≤ f → L.getD f false = true → ∃ g, pg sf.w.next = some g
 inj : ∀ i j g, pg i = some g → pg j = some g → i = j
 off : ∀ i g j c bj, pg i = some g → a.heap.get j = some c → c.kind < 2 → β1 j = some bj → bj.blk ≠ g
theorem le_gam {β1 : Pl} {pg : Nat → Option Nat} {a : AW} {w : World} (he : Emb P w0 β1 a w) (h : ∀ i g, pg i = some g → a.next ≤ i) : Le β1 (gam β1 pg) := by
 intro i b hi
 unfold gam
 cases hp : pg i with
 | none => exact hi
 | some g => rw [(he.fresh i (h i g hp)).2] at hi; cases hi
theorem gam_heap {β1 : Pl} {pg : Nat → Option Nat} {a : AW} {w : World} (he : Emb P w0 β1 a w) (h : ∀ i g, pg i = some g → a.next ≤ i) : ∀ i b, a.heap.get i = some b → gam β1 pg i = β1 i := by
 intro i b hi
 unfold gam
 cases hp : pg i with
 | none => rfl
 | some g => rw [(he.fresh i (h i g hp)).1] at hi; cases hi
structure Mid (P : Program) (w0 : Base) (β : Pl) (call : CallF) (ops : Array Oper) (s s' : St) (sts : List St) (lts : List Nat) (defers : List Deferred) (L : Array Bool) (act : Act) (w : World) : Prop where
 size : L.size = ops.size
 closed : ∀ (i : Nat) (o : Oper), L.getD i false = true → ops[i]? = some o → ∀ e ∈ o.after, Region.binds .any e = true → L.getD e.on false = true
 defers : act.defers = defers
 asize : s.n = act.tmps.size
 mem : ∃ (β1 : Pl) (m : Nat) (sm : St) (pg : Nat → Option Nat), Le β β1 ∧ sts[m]? = some sm ∧ m ≤ ops.size ∧ Emb P w0 β1 sm.w w ∧
  (m = 0 ∨ ∃ (c : Nat) (oc : Oper), ops[c]? = some oc ∧ Ch lts sts c oc ∧ m = c + 1) ∧
  (∀ (c : Nat) (oc : Oper), ops[c]? = some oc → Ch lts sts c oc → (L.getD c false = true ↔ c < m)) ∧
  Pend P w0 β1 ops sts lts L m sm.w w pg ∧
  (∀ k, (∀ (j : Nat) (o : Oper), ops[j]? = some o → o.dst = some k → L.getD j false = false) → VR (gam β1 pg) ((s.tmps.get k).getD undef) (act.tmps.getD k undef)) ∧
  (∀ (j : Nat) (o : Oper) (k : Nat), ops[j]? = some o → o.dst = some k → L.getD j false = true → VR (gam β1 pg) ((s'.tmps.get k).getD undef) (act.tmps.getD k undef))
theorem late_step {s s' : St} {sts : List St} {lts : List Nat} (ht : Txt P call ops s s' sts) (hf : Free P call ops sts lts) {f : Nat} {o : Oper} {sf sf' : St} (hfl : f ∈ lts) (ho : ops[f]? = some o) (hs : sts[f]? = some sf) (hs' : sts[f + 1]? = some sf') :
 ∃ e z, o.op = .alloc e ∧ o.guard = none ∧ ZeroOf P e z ∧ sf.w.new ⟨z.cells.toList, e, 0⟩ = some sf'.w ∧ sf'.w.next = sf.w.next + 1 := by
 obtain ⟨e, h1, h2⟩ := hf.late f o hfl ho
 obtain ⟨si, si', k1, k2, k3⟩ := ht.next f o ho
 rw [hs] at k1; injection k1 with k1; subst k1
 rw [hs'] at k2; injection k2 with k2; subst k2
 obtain ⟨v, a1, hv, hput⟩ := step_put k3
 obtain ⟨z, z1, z2, z3⟩ := alloc_val h1 h2 hv
 have hw := (put_get hput).1
 rw [hw]
 refine ⟨e, z, h1, h2, z1, z2, ?_⟩
 obtain ⟨hp, la, cl, hp1, hp2⟩ := AW.new_some z2
 rw [hp2]
theorem adopt_all (hcs : CallSince call) {s s' : St} {sts : List St} {lts : List Nat} (hbnd : ∀ f ∈ lts, f < ops.size) (ht : Txt P call ops s s' sts) (hf : Free P call ops sts lts) {L : Array Bool} {w : World} :
 ∀ (d m : Nat) (sm sj : St) (β1 : Pl) (pg : Nat → Option Nat), m + d ≤ ops.size → sts[m]? = some sm → sts[m + d]? = some sj → Emb P w0 β1 sm.w w → Pend P w0 β1 ops sts lts L m sm.w w pg →
   (∀ f, f ∈ lts → m ≤ f → f < m + d → L.getD f false = true) → (∀ (c : Nat) (oc : Oper), m ≤ c → c < m + d → ops[c]? = some oc → ¬ Ch lts sts c oc) →
   ∃ β2 pg2, Le β1 β2 ∧ Emb P w0 β2 sj.w w ∧ Pend P w0 β2 ops sts lts L (m + d) sj.w w pg2 ∧ Le (gam β1 pg) (gam β2 pg2) := by
 intro d
 induction d with
 | zero =>
   intro m sm sj β1 pg _ h1 h2 he hp _ _
   rw [Nat.add_zero, h1] at h2; injection h2 with h2; subst h2
   exact ⟨β1, pg, Le.refl _, he, hp, Le.refl _⟩
 | succ d ih =>
   intro m sm sj β1 pg hm h1 h2 he hp hL hC
   have hlt : m < ops.size := by omega
   have hop : ops[m]? = some ops[m] := Array.getElem?_eq_getElem hlt
   obtain ⟨si, s1, k1, k2, k3⟩ := ht.next m _ hop
   rw [h1] at k1; injection k1 with k1; subst k1
   have hsince := step_since hcs k3
   have one : ∃ β2 pg2, Le β1 β2 ∧ Emb P w0 β2 s1.w w ∧ Pend P w0 β2 ops sts lts L (m + 1) s1.w w pg2 ∧ Le (gam β1 pg) (gam β2 pg2) := by
    by_cases hml : m ∈ lts
    · obtain ⟨e, z, z1, z2, z3, z4, z5⟩ := late_step ht hf hml hop h1 k2
      obtain ⟨g, hg⟩ := hp.has m sm hml h1 (Nat.le_refl _) (hL m hml (Nat.le_refl _) (by omega))
      obtain ⟨r1, f, o, sf, e', z', r2, r3, r4, r5, r6, r7, r8, r9, _⟩ := hp.row _ g hg
      have hfm : f = m := by
       by_cases hfm : f = m
       · exact hfm
       · exfalso
         have h3 := ht.since hcs (f - (m + 1)) (m + 1) s1 sf (by have := (Array.getElem?_eq_some_iff.1 r4).1; omega) k2 (by rw [show m + 1 + (f - (m + 1)) = f by omega]; exact r5)
         have := h3.1.2.1
         omega
      subst hfm
      rw [hop] at r4; injection r4 with r4; subst r4
      rw [z1] at r7; injection r7 with r7; subst r7
      have := z3.uniq r8
      subst this
      obtain ⟨q1, q2⟩ := he.adopt r9 r1 (fun j c bj => hp.off _ g j c bj hg) z3.cells z4
      refine ⟨_, fun i => if i = sm.w.next then none else pg i, q1, q2, ⟨?_, ?_, ?_, ?_, ?_⟩, ?_⟩
      · intro i g' hi
        split at hi
        · cases hi
        · have := hp.ahead i g' hi; omega
      · intro i g' hi
        split at hi
        · cases hi
        · rename_i hne
          obtain ⟨t1, f', o', sf', e', z', t2, t3, t4, t5, t6, t7⟩ := hp.row i g' hi
          refine ⟨t1, f', o', sf', e', z', t2, ?_, t4, t5, t6, t7⟩
          have : f' ≠ f := by
           rintro rfl
           rw [h1] at t5; injection t5 with t5; subst t5
           exact hne t6.symm
          omega
      · intro f' sf' t1 t2 t3 t4
        have hne : sf'.w.next ≠ sm.w.next := by
         have h3 := ht.since hcs (f' - (f + 1)) (f + 1) s1 sf' (by have := hbnd f' t1; omega) k2 (by rw [show f + 1 + (f' - (f + 1)) = f' by omega]; exact t2)
         have := h3.1.2.1
         omega
        obtain ⟨g', hg'⟩ := hp.has f' sf' t1 t2 (by omega) t4
        exact ⟨g', by simp only [if_neg hne]; exact hg'⟩
      · intro i j g' hi hj
        split at hi
        · cases hi
        · split at hj
          · cases hj
          · exact hp.inj i j g' hi hj
      · intro i g' j c bj hi hj hk hbj
        split at hi
        · cases hi
        · rename_i hne
          obtain ⟨hpp, la, cl, hput, hs1⟩ := AW.new_some z4
          rw [hs1] at hj
          simp only at hj
          rw [Tr.get_put hput] at hj
          unfold grow at hbj
          by_cases hjn : j = sm.w.next
          · rw [if_pos hjn] at hbj
            injection hbj with hbj; subst hbj
            intro e
            simp only at e
            subst e
            exact hne (hp.inj i _ g hi hg)
          · rw [if_neg hjn] at hj hbj
            exact hp.off i g' j c bj hi hj hk hbj
      · intro i b hi
        unfold gam at hi ⊢
        by_cases hin : i = sm.w.next
        · subst hin
          rw [hg] at hi
          simp only [if_true]
          rw [← hi]
          simp [grow]
        · simp only [if_neg hin]
          cases hpi : pg i with
          | some g' => rw [hpi] at hi; exact hi
          | none =>
            rw [hpi] at hi
            simp only
            unfold grow
            rw [if_neg hin]
            exact hi
    · have hfl : isFloat sm.tmps ops[m].op = true := by
       cases hfl : isFloat sm.tmps ops[m].op with
       | true => rfl
       | false => exact absurd ⟨sm, h1, hfl, hml⟩ (hC m _ (Nat.le_refl _) (by omega) hop)
      obtain ⟨v, a, h4, h5⟩ := step_put k3
      have hw : s1.w = sm.w := by rw [(put_get h5).1]; exact (float_keeps hfl h4).1
      rw [hw]
      refine ⟨β1, pg, Le.refl _, he, ⟨hp.ahead, ?_, fun f sf q1 q2 q3 => hp.has f sf q1 q2 (by omega), hp.inj, hp.off⟩, Le.refl _⟩
      intro i g hi
      obtain ⟨t1, f', o', sf', e', z', t2, t3, t4⟩ := hp.row i g hi
      have : f' ≠ m := by rintro rfl; exact hml t2
      exact ⟨t1, f', o', sf', e', z', t2, by omega, t4⟩
   obtain ⟨β2, pg2, q1, q2, q3, q4⟩ := one
   obtain ⟨β3, pg3, r1, r2, r3, r4⟩ := ih (m + 1) s1 sj β2 pg2 (by omega) k2 (by rwa [show m + 1 + d = m + (d + 1) by omega]) q2 q3 (fun f t1 t2 t3 => hL f t1 (by omega) (by omega)) (fun c oc t1 t2 => hC c oc (by omega) (by omega))
   exact ⟨β3, pg3, q1.trans r1, r2, by rwa [show m + (d + 1) = m + 1 + d by omega], q4.trans r4⟩
theorem set_getD (L : Array Bool) (i j : Nat) (h : i < L.size) : (L.setIfInBounds i true).getD j false = if j = i then true else L.getD j false := by
 rw [Array.getD_eq_getD_getElem?, Array.getElem?_setIfInBounds, Array.getD_eq_getD_getElem?]
 by_cases hj : i = j
 · subst hj; simp [h]
 · rw [if_neg hj, if_neg (Ne.symm hj)]
theorem mid_step (hcall : ∀ w0, CallOk P w0 call) (hcs : CallSince call) {β : Pl} {s s' : St} {sts : List St} {lts : List Nat} (hbnd : ∀ f ∈ lts, f < ops.size) {df : List Deferred} (ht : Txt P call ops s s' sts) (hf : Free P call ops sts lts) {L : Array Bool} {act : Act} {w : World}
 (h : Mid P w0 β call ops s s' sts lts df L act w) {i : Nat} (hi : i ∈ Region.ready .any ops L) {Q : Exit → Act → World → Prop} {K : Act → World → Prop}
 (hK : ∀ act1 w1, Mid P w0 β call ops s s' sts lts df (L.setIfInBounds i true) act1 w1 → K act1 w1) : wpOp P ops Q i K act w := by
 obtain ⟨hun, o, ho, hpre⟩ := mem_ready.1 hi
 have hlt : i < ops.size := (Array.getElem?_eq_some_iff.1 ho).1
 have hiL : i < L.size := by rw [h.size]; exact hlt
 have hnot : L.getD i false = false := by
  rw [Array.getD_eq_getD_getElem?, Array.getElem?_eq_getElem hiL] at hun ⊢
  simpa using hun
 obtain ⟨β1, m, sm, pg, h1, h2, h2b, h3, h4, h5, hpd, h6, h7⟩ := h.mem
 obtain ⟨si, si', k1, k2, k3⟩ := ht.next i o ho
 obtain ⟨v, a1, hv, hput⟩ := step_put k3
 obtain ⟨p1, p2, p3, p4⟩ := put_get hput
 have hanc : ∀ j, Anc ops i j → L.getD j false = true := fun j hj => hj.ready (L := fun j => L.getD j false = true) h.closed ho hpre
 have hafter : ∀ j, Anc ops j i → L.getD j false = false := by
  intro j hj
  cases hb : L.getD j false with
  | false => rfl
  | true => have := hj.listed (L := fun j => L.getD j false = true) h.closed hb; simp only [hnot] at this; cases this
 have hslots : ∀ k, k ∈ o.looksAt ops → VR (gam β1 pg) ((si.tmps.get k).getD undef) (act.tmps.getD k undef) := by
  intro k hk
  by_cases hw : ∃ (j : Nat) (oj : Oper), ops[j]? = some oj ∧ oj.dst = some k
  · obtain ⟨j, oj, hj, hd⟩ := hw
    have huniq : ∀ (j' : Nat) (o' : Oper), ops[j']? = some o' → o'.dst = some k → j' = j := by
     intro j' o' hj' hd'
     by_cases hne : j' = j
     · exact hne
     · exact absurd hd' (hf.uniq j' j o' oj k hne hj' hj hd)
    by_cases hji : j = i
    · subst hji
      have e1 := (ht.early k j si (by omega) k1 (fun j' o' hj' ho' hd' => by have := huniq j' o' ho' hd'; omega)).1
      rw [e1]
      exact h6 k fun j' o' ho' hd' => by rw [huniq j' o' ho' hd']; exact hnot
    · have hs := hf.slots i j o oj k (Ne.symm hji) ho hj hd hk
      rcases Nat.lt_or_ge j i with hlt' | hge
      · rw [Nat.max_eq_left (by omega), Nat.min_eq_right (by omega)] at hs
        have hL := hanc j hs
        have e1 := ht.late k (ops.size - i) i si (by omega) k1 (fun j' o' hj' ho' hd' => by have := huniq j' o' ho' hd'; omega)
        rw [← e1]
        exact h7 j oj k hj hd hL
      · rw [Nat.max_eq_right (by omega), Nat.min_eq_left (by omega)] at hs
        have hL := hafter j hs
        have e1 := (ht.early k i si (by omega) k1 (fun j' o' hj' ho' hd' => by have := huniq j' o' ho' hd'; omega)).1
        rw [e1]
        exact h6 k fun j' o' ho' hd' => by rw [huniq j' o' ho' hd']; exact hL
  · have e1 := (ht.early k i si (by omega) k1 (fun j o' _ ho' hd' => hw ⟨j, o', ho', hd'⟩)).1
    rw [e1]
    exact h6 k fun j o' ho' hd' => absurd ⟨j, o', ho', hd'⟩ hw
 have hfinish : ∀ (β2 : Pl) (v' : Value) (w1 : World) (m' : Nat) (sm' : St) (pg' : Nat → Option Nat), Le β1 β2 → Le (gam β1 pg) (gam β2 pg') → sts[m']? = some sm' → m' ≤ ops.size → Emb P w0 β2 sm'.w w1 → VR (gam β2 pg') v v' →
  (m' = 0 ∨ ∃ (c : Nat) (oc : Oper), ops[c]? = some oc ∧ Ch lts sts c oc ∧ m' = c + 1) →
  (∀ (c : Nat) (oc : Oper), ops[c]? = some oc → Ch lts sts c oc → ((L.setIfInBounds i true).getD c false = true ↔ c < m')) →
  Pend P w0 β2 ops sts lts (L.setIfInBounds i true) m' sm'.w w1 pg' →
  K (act.put o.dst v') w1 := by
  intro β2 v' w1 m' sm' pg' q1 q1g q2 q2b q3 q4 q5 q6 q7
  refine hK _ _ ⟨by simpa using h.size, ?_, by rw [act_put_defers]; exact h.defers, by rw [act_put_size]; exact h.asize, β2, m', sm', pg', h1.trans q1, q2, q2b, q3, q5, q6, q7, ?_, ?_⟩
  · intro j oj hj hoj e he hb
    rw [set_getD L i _ hiL] at hj ⊢
    split
    · rfl
    · by_cases hji : j = i
      · subst hji; rw [ho] at hoj; injection hoj with hoj; subst hoj; exact hpre e he hb
      · rw [if_neg hji] at hj; exact h.closed j oj hj hoj e he hb
  · intro k hk
    rw [act_put_getD]
    have hd : o.dst ≠ some k := by
     intro hd
     have := hk i o ho hd
     rw [set_getD L i i hiL] at this
     simp at this
    rw [if_neg (by simp [hd])]
    refine (h6 k fun j oj hoj hdj => ?_).mono q1g
    have := hk j oj hoj hdj
    rw [set_getD L i j hiL] at this
    by_cases hji : j = i
    · rw [if_pos hji] at this; cases this
    · rwa [if_neg hji] at this
  · intro j oj k hoj hdj hj
    rw [set_getD L i j hiL] at hj
    rw [act_put_getD]
    by_cases hji : j = i
    · subst hji
      rw [ho] at hoj; injection hoj with hoj; subst hoj
      have hsn : si.n = s.n := by
       by_cases h0 : ∃ (k' : Nat), ∀ (j' : Nat) (o' : Oper), j' < j → ops[j']? = some o' → o'.dst ≠ some k'
       · obtain ⟨k', hk'⟩ := h0
         exact (ht.early k' j si (by omega) k1 hk').2
       · -- the slot itself is written once
         refine (ht.early k j si (by omega) k1 fun j' o' hj' ho' hd' => ?_).2
         exact hf.uniq j' j o' o k (by omega) ho' ho hdj hd'
      have hkn := p3 k hdj
      rw [if_pos ⟨hdj, by have := h.asize; have : k < s.n := hsn ▸ hkn; omega⟩]
      have e1 := ht.late k (ops.size - (j + 1)) (j + 1) si' (by omega) k2 (fun j' o' hj' ho' hd' => hf.uniq j' j o' o k (by omega) ho' ho hdj hd')
      rw [e1, p4, if_pos hdj]
      exact q4
    · rw [if_neg hji] at hj
      rw [if_neg (by rintro ⟨hd, _⟩; exact hf.uniq i j o oj k (Ne.symm hji) ho hoj hdj hd)]
      exact (h7 j oj k hoj hdj hj).mono q1g
 have hkeep : ∀ (f : Nat), f ≠ i → (L.setIfInBounds i true).getD f false = L.getD f false := fun f hne => by rw [set_getD L i f hiL, if_neg hne]
 have hplace : (∀ (c : Nat) (oc : Oper), ops[c]? = some oc → Ch lts sts c oc → i < c → Anc ops c i) → m ≤ i := by
  intro hb
  rcases h4 with rfl | ⟨c, oc, r1, r2, rfl⟩
  · omega
  · have hcL := (h5 c oc r1 r2).2 (by omega)
    rcases Nat.lt_trichotomy c i with hc | hc | hc
    · omega
    · subst hc; rw [hnot] at hcL; cases hcL
    · rw [hafter c (hb c oc r1 r2 hc)] at hcL; cases hcL
 cases hfl : isFloat si.tmps o.op with
 | true =>
   obtain ⟨g1, g2, g3⟩ := float_keeps hfl hv
   have hstep : stepV P call ops si.tmps o sm.w = some (v, sm.w) := by
    cases hl : isLoad o.op with
    | false => exact g2 hl sm.w
    | true =>
      obtain ⟨sk, sj, u, b, u', b', r1, r2, r3, r4, r5⟩ := hf.loads i o ho hl m h4 (fun c oc q1 q2 hcm hac => by
       have := (h5 c oc q1 q2).2 hcm
       rw [hafter c hac] at this; cases this) (fun c oc q1 q2 hcm hac => by
       have := (h5 c oc q1 q2).1 (hanc c hac)
       omega)
      rw [h2] at r1; injection r1 with r1; subst r1
      rw [k1] at r2; injection r2 with r2; subst r2
      rw [hv] at r4
      simp only [Option.some.injEq, Prod.mk.injEq] at r4
      have := g3 sm.w u b r3
      rw [r3, this, r5, ← r4.1]
   have hil : i ∉ lts := by
    intro hil
    obtain ⟨e, he, _⟩ := hf.late i o hil ho
    rw [he] at hfl; cases hfl
   refine stepV_float ho (h3.toEmbR.widen (le_gam h3 hpd.ahead) (gam_heap h3 hpd.ahead)) hfl hslots hstep fun v' q3 => ?_
   refine hfinish β1 v' w m sm pg (Le.refl _) (Le.refl _) h2 h2b h3 q3 h4 (fun c oc r1 r2 => ?_) ⟨hpd.ahead, (fun j g hj => by
    obtain ⟨t1, f, o', sf, e', z', t2, t3, t4, t5, t6, t7, t8, t9, t10⟩ := hpd.row j g hj
    exact ⟨t1, f, o', sf, e', z', t2, t3, t4, t5, t6, t7, t8, t9, by rw [hkeep f (by rintro rfl; exact hil t2)]; exact t10⟩), fun f sf t1 t2 t3 t4 => hpd.has f sf t1 t2 t3 (by rwa [hkeep f (by rintro rfl; exact hil t1)] at t4), hpd.inj, hpd.off⟩
   have hci : c ≠ i := by
    rintro rfl
    rw [ho] at r1; injection r1 with r1; subst r1
    obtain ⟨sc, r3, r4, _⟩ := r2
    rw [k1] at r3; injection r3 with r3; subst r3
    rw [hfl] at r4; cases r4
   rw [hkeep c hci]; exact h5 c oc r1 r2
 | false =>
   by_cases hil : i ∈ lts
   · -- an alloc that may come early
     have hmi : m ≤ i := hplace fun c oc r1 r2 r3 => hf.behind i c o oc hil ho r1 r2 r3
     obtain ⟨e, he, hgd⟩ := hf.late i o hil ho
     obtain ⟨z, z1, z2, z3⟩ := alloc_val he hgd hv
     subst z3
     have hnx : sm.w.next ≤ si.w.next := (ht.since hcs (i - m) m sm si (by omega) h2 (by rw [show m + (i - m) = i by omega]; exact k1)).1.2.1
     have hpn : pg si.w.next = none := by
      cases hp : pg si.w.next with
      | none => rfl
      | some g =>
        exfalso
        obtain ⟨_, f, o', sf, e', z', t2, t3, t4, t5, t6, t7, t8, t9, t10⟩ := hpd.row _ g hp
        rcases Nat.lt_trichotomy f i with hlt' | heq | hgt
        · obtain ⟨sf', hsf'⟩ : ∃ sf', sts[f + 1]? = some sf' := by
           obtain ⟨_, sf', _, q, _⟩ := ht.next f o' t4
           exact ⟨sf', q⟩
          obtain ⟨_, _, _, _, _, _, u6⟩ := late_step ht hf t2 t4 t5 hsf'
          have := (ht.since hcs (i - (f + 1)) (f + 1) sf' si (by omega) hsf' (by rw [show f + 1 + (i - (f + 1)) = i by omega]; exact k1)).1.2.1
          omega
        · subst heq
          rw [hnot] at t10; cases t10
        · obtain ⟨_, _, _, _, _, _, u6⟩ := late_step ht hf hil ho k1 k2
          have := (ht.since hcs (f - (i + 1)) (i + 1) si' sf (by have := hbnd f t2; omega) k2 (by rw [show i + 1 + (f - (i + 1)) = f by omega]; exact t5)).1.2.1
          omega
     unfold wpOp
     simp only [ho]
     have hw : Region.wanted o (yielded ops act.tmps) = true := by unfold Region.wanted; rw [hgd]
     rw [hw]
     simp only [if_true]
     refine .inl ?_
     unfold Oper.wp
     have hex : (execOp act.eval o).run P w = .ok (.value (.pointer (some ⟨w.heap.size, 0, none⟩))) (w.alloc (.cells z.cells e)) := by
      simp only [execOp, he, Sem.run_bind, alloc_run z1 w, Result.andThen_ok, Sem.run_pure]
     rw [hex]
     have hle : Le (gam β1 pg) (gam β1 fun j => if j = si.w.next then some w.heap.size else pg j) := by
      intro j b hj
      unfold gam at hj ⊢
      by_cases hjn : j = si.w.next
      · subst hjn
        rw [hpn] at hj
        simp only at hj
        rw [(h3.fresh _ hnx).2] at hj; cases hj
      · simp only [if_neg hjn]; exact hj
     refine hfinish β1 _ _ m sm _ (Le.refl _) hle h2 h2b (h3.grows _) ?_ h4 (fun c oc r1 r2 => ?_) ⟨?_, ?_, ?_, ?_, ?_⟩
     · refine .ptr ⟨rfl, ⟨w.heap.size, 0, 0⟩, ?_, by simp⟩
       simp [gam]
     · have hci : c ≠ i := by
        rintro rfl
        obtain ⟨_, _, _, r3⟩ := r2
        exact r3 hil
       rw [hkeep c hci]; exact h5 c oc r1 r2
     · intro j g hj
       split at hj
       · rename_i hjn; omega
       · exact hpd.ahead j g hj
     · intro j g hj
       split at hj
       · rename_i hjn
         injection hj with hj; subst hj
         exact ⟨.inl h3.below.size, i, o, si, e, z, hil, hmi, ho, k1, hjn.symm, he, z1, (MapKept.heap_alloc w _).1, by rw [set_getD L i i hiL]; simp⟩
       · obtain ⟨t1, f, o', sf, e', z', t2, t3, t4, t5, t6, t7, t8, t9, t10⟩ := hpd.row j g hj
         exact ⟨t1, f, o', sf, e', z', t2, t3, t4, t5, t6, t7, t8, by rw [(MapKept.heap_alloc w _).2 g (Array.getElem?_eq_some_iff.1 t9).1]; exact t9, by rw [set_getD L i f hiL]; split <;> simp_all⟩
     · intro f sf t1 t2 t3 t4
       by_cases hfi : f = i
       · subst hfi
         rw [k1] at t2; injection t2 with t2; subst t2
         exact ⟨_, if_pos rfl⟩
       · rw [hkeep f hfi] at t4
         obtain ⟨g, hg⟩ := hpd.has f sf t1 t2 t3 t4
         refine ⟨g, ?_⟩
         rw [if_neg]
         · exact hg
         · intro hn; rw [hn, hpn] at hg; cases hg
     · intro j j' g hj hj'
       have old : ∀ j g, pg j = some g → g ≠ w.heap.size := by
        intro j g hj
        obtain ⟨_, _, _, _, _, _, _, _, _, _, _, _, _, t9, _⟩ := hpd.row j g hj
        have := (Array.getElem?_eq_some_iff.1 t9).1
        omega
       split at hj
       · split at hj'
         · omega
         · injection hj with hj; subst hj
           exact absurd rfl (old _ _ hj')
       · split at hj'
         · injection hj' with hj'; subst hj'
           exact absurd rfl (old _ _ hj)
         · exact hpd.inj j j' g hj hj'
     · intro j g k c bk hj hk hkk hbk
       split at hj
       · injection hj with hj; subst hj
         obtain ⟨bi, _, _, g1, _, _, g4, _⟩ := h3.blk k c hk hkk
         rw [hbk] at g1; injection g1 with g1; subst g1
         have := (Array.getElem?_eq_some_iff.1 g4).1
         omega
       · exact hpd.off j g k c bk hj hk hkk hbk
   · -- the next one of the chain
     have hci : Ch lts sts i o := ⟨si, k1, hfl, hil⟩
     have hmi : m ≤ i := hplace fun c oc r1 r2 r3 => hf.chain i c o oc ho r1 hci r2 r3
     have hbetween : ∀ (c : Nat) (oc : Oper), m ≤ c → c < m + (i - m) → ops[c]? = some oc → ¬ Ch lts sts c oc := by
      intro c oc hmc hlt' r1 r2
      have hL := hanc c (hf.chain c i oc o r1 ho r2 hci (by omega))
      have := (h5 c oc r1 r2).1 hL
      omega
     obtain ⟨β2, pg2, a1', a2, a3, a4⟩ := adopt_all hcs hbnd ht hf (i - m) m sm si β1 pg (by omega) h2 (by rw [show m + (i - m) = i by omega]; exact k1) h3 hpd (fun f t1 t2 t3 => hanc f (by
      obtain ⟨of, hof⟩ : ∃ of, ops[f]? = some of := ⟨_, Array.getElem?_eq_getElem (hbnd f t1)⟩
      exact hf.behind f i of o t1 hof ho hci (by omega))) hbetween
     rw [show m + (i - m) = i by omega] at a3
     have hrow := a3.row
     have hreb : Emb P (w0.now w fun g => ∃ j, pg2 j = some g) β2 si.w w := a2.rebase (fun j c bj q1 q2 q3 q4 => by
      obtain ⟨j', hj'⟩ := q4
      exact a3.off j' _ j c bj hj' q1 q2 q3 rfl) (fun g ⟨j, hj⟩ => by
      obtain ⟨_, _, _, _, _, _, _, _, _, _, _, _, _, t9, _⟩ := hrow j g hj
      exact ⟨_, _, _, t9⟩)
     have hslots2 : ∀ k, k ∈ o.looksAt ops → VR β2 ((si.tmps.get k).getD undef) (act.tmps.getD k undef) := by
      intro k hk
      have hg := (hslots k hk).mono a4
      rcases hf.bnd with hb | hb
      · have hnone : ∀ j, pg2 j = none := by
         intro j
         cases hj : pg2 j with
         | none => rfl
         | some g =>
           obtain ⟨_, f, _, _, _, _, t2, _⟩ := hrow j g hj
           rw [hb] at t2; cases t2
        have : gam β2 pg2 = β2 := by funext j; unfold gam; rw [hnone j]
        rwa [this] at hg
      · refine bounded_narrow (n := si.w.next) (fun j b hj hgj => ?_) 4 _ _ hg (hb i o si ho k1 hci k hk)
        unfold gam at hgj
        cases hp : pg2 j with
        | none => rw [hp] at hgj; exact hgj
        | some g => have := a3.ahead j g hp; omega
     refine stepV_sound (hcall _) ho hreb hslots2 hv fun β3 v' w1 q1 q2 q3 => ?_
     rw [← p1] at q2
     have hsince : Since si.w si'.w := step_since hcs k3
     have he3 := q2.unbase a2 q1 hsince
     have hahead : ∀ j g, pg2 j = some g → si'.w.next ≤ j := by
      intro j g hj
      obtain ⟨_, f, o', sf, e', z', t2, t3, t4, t5, t6, t7⟩ := hrow j g hj
      have hne : f ≠ i := by rintro rfl; exact hil t2
      have := (ht.since hcs (f - (i + 1)) (i + 1) si' sf (by have := hbnd f t2; omega) k2 (by rw [show i + 1 + (f - (i + 1)) = f by omega]; exact t5)).1.2.1
      omega
     have hg3 : Le (gam β2 pg2) (gam β3 pg2) := by
      intro j b hj
      unfold gam at hj ⊢
      cases hp : pg2 j with
      | some g => rw [hp] at hj; exact hj
      | none => rw [hp] at hj; exact q1 _ _ hj
     refine hfinish β3 v' w1 (i + 1) si' pg2 (a1'.trans q1) (a4.trans hg3) k2 (by omega) he3 (q3.mono (le_gam he3 hahead)) (.inr ⟨i, o, ho, hci, rfl⟩) (fun c oc r1 r2 => ?_) ⟨hahead, ?_, ?_, a3.inj, ?_⟩
     · by_cases hci' : c = i
       · subst hci'
         rw [set_getD L c c hiL]; simp
       · rw [hkeep c hci']
         constructor
         · intro hL
           have := (h5 c oc r1 r2).1 hL
           omega
         · intro hc
           exact hanc c (hf.chain c i oc o r1 ho r2 hci (by omega))
     · intro j g hj
       obtain ⟨t1, f, o', sf, e', z', t2, t3, t4, t5, t6, t7, t8, t9, t10⟩ := hrow j g hj
       have hne : f ≠ i := by rintro rfl; exact hil t2
       refine ⟨t1, f, o', sf, e', z', t2, by omega, t4, t5, t6, t7, t8, ?_, by rw [hkeep f hne]; exact t10⟩
       have hlt' := (Array.getElem?_eq_some_iff.1 t9).1
       rw [q2.below.block g (by
        rintro (e | e)
        · have e' : w.heap.size ≤ g := e
          omega
        · exact e.2 ⟨j, hj⟩)]
       exact t9
     · intro f sf t1 t2 t3 t4
       have hne : f ≠ i := by rintro rfl; exact hil t1
       rw [hkeep f hne] at t4
       exact a3.has f sf t1 t2 (by omega) t4
     · intro j g k c bk hj hk hkk hbk
       obtain ⟨bi, _, _, g1, g2, _, g4, _⟩ := q2.blk k c hk hkk
       rw [hbk] at g1; injection g1 with g1; subst g1
       intro e
       obtain ⟨_, _, _, _, _, _, _, _, _, _, _, _, _, t9, _⟩ := hrow j g hj
       have hlt' := (Array.getElem?_eq_some_iff.1 t9).1
       rcases g2 with g2 | g2
       · have e' : w.heap.size ≤ bk.blk := g2
         omega
       · exact g2.2 ⟨j, by rw [e]; exact hj⟩
theorem mid_done (hcs : CallSince call) {β : Pl} {s s' : St} {sts : List St} {lts : List Nat} (hbnd : ∀ f ∈ lts, f < ops.size) {df : List Deferred} (ht : Txt P call ops s s' sts) (hf : Free P call ops sts lts) {L : Array Bool} {act : Act} {w : World}
 (h : Mid P w0 β call ops s s' sts lts df L act w) (hr : Region.ready .any ops L = []) : ∃ β1, Le β β1 ∧ Emb P w0 β1 s'.w w ∧ Slots β1 s' act := by
 have hall : ∀ i, i < ops.size → L.getD i false = true := by
  intro i
  induction i using Nat.strongRecOn with
  | _ i ih =>
    intro hi
    cases hL : L.getD i false with
    | true => rfl
    | false =>
      have : i ∈ Region.ready .any ops L := by
       refine mem_ready.2 ⟨?_, ops[i], Array.getElem?_eq_getElem hi, fun e he hb => ?_⟩
       · have hiL : i < L.size := by rw [h.size]; exact hi
         rw [Array.getD_eq_getD_getElem?, Array.getElem?_eq_getElem hiL] at hL ⊢
         simpa using hL
       · have hlt := hf.edges i _ (Array.getElem?_eq_getElem hi) e he hb
         exact ih e.on hlt (by omega)
      rw [hr] at this; cases this
 obtain ⟨β1, m, sm, pg, h1, h2, h2b, h3, h4, h5, hpd, h6, h7⟩ := h.mem
 obtain ⟨β2, pg2, a1, a2, a3, a4⟩ := adopt_all hcs hbnd ht hf (ops.size - m) m sm s' β1 pg (by omega) h2 (by rw [show m + (ops.size - m) = ops.size by omega]; exact ht.last) h3 hpd (fun f t1 _ _ => hall f (hbnd f t1)) (fun c oc q1 q2 r1 r2 => by
  have := (h5 c oc r1 r2).1 (hall c (by omega)); omega)
 have hnone : ∀ j, pg2 j = none := by
  intro j
  cases hj : pg2 j with
  | none => rfl
  | some g =>
    obtain ⟨_, f, _, _, _, _, t2, t3, _⟩ := a3.row j g hj
    have := hbnd f t2
    omega
 have hgam : gam β2 pg2 = β2 := by funext j; unfold gam; rw [hnone j]
 rw [hgam] at a4
 refine ⟨β2, h1.trans a1, a2, fun k => ?_, ?_⟩
 · by_cases hk : ∃ (j : Nat) (oj : Oper), ops[j]? = some oj ∧ oj.dst = some k
   · obtain ⟨j, oj, hj, hd⟩ := hk
     exact (h7 j oj k hj hd (hall j (Array.getElem?_eq_some_iff.1 hj).1)).mono a4
   · have e1 := (ht.early k ops.size s' (Nat.le_refl _) ht.last (fun j o' _ ho' hd' => hk ⟨j, o', ho', hd'⟩)).1
     rw [e1]
     exact (h6 k fun j o' ho' hd' => absurd ⟨j, o', ho', hd'⟩ hk).mono a4
 · have : s'.n = s.n := by
    have key : ∀ i si, i ≤ ops.size → sts[i]? = some si → si.n = s.n := by
     intro i
     induction i with
     | zero => intro si _ hs; rw [ht.first] at hs; injection hs with hs; subst hs; rfl
     | succ i ih =>
       intro si hi hs
       obtain ⟨sj, sj', r1, r2, r3⟩ := ht.next i ops[i] (Array.getElem?_eq_getElem (by omega))
       rw [hs] at r2; injection r2 with r2; subst r2
       obtain ⟨v, a, _, h5⟩ := step_put r3
       exact (put_get h5).2.1.trans (ih sj (by omega) r1)
    exact key ops.size s' (Nat.le_refl _) ht.last
   rw [this]; exact h.asize
theorem any_sound (hcall : ∀ w0, CallOk P w0 call) (hcs : CallSince call) {β : Pl} {s s' : St} {sts : List St} {lts : List Nat} (hbnd : ∀ f ∈ lts, f < ops.size) {df : List Deferred} (ht : Txt P call ops s s' sts) (hf : Free P call ops sts lts) {Q : Exit → Act → World → Prop}
 (hQ : ∀ β1 act1 w1, Le β β1 → Emb P w0 β1 s'.w w1 → Slots β1 s' act1 → act1.defers = df → Q .normal act1 w1) :
 ∀ (fuel : Nat) (L : Array Bool) (act : Act) (w : World), L.toList.count false ≤ fuel → Mid P w0 β call ops s s' sts lts df L act w → wpAny P .any ops Q fuel L act w := by
 have hnorm : ∀ (L : Array Bool) (act : Act) (w : World), Mid P w0 β call ops s s' sts lts df L act w → Region.ready .any ops L = [] → Q .normal act w := by
  intro L act w h hr
  obtain ⟨β1, h1, h2, h3⟩ := mid_done hcs hbnd ht hf h hr
  exact hQ β1 act w h1 h2 h3 h.defers
 intro fuel
 induction fuel with
 | zero =>
   intro L act w hc h
   have hr : Region.ready .any ops L = [] := by
    cases hrr : Region.ready .any ops L with
    | nil => rfl
    | cons i r =>
      have hi : i ∈ Region.ready .any ops L := by rw [hrr]; exact List.mem_cons_self ..
      obtain ⟨hun, o, ho, _⟩ := mem_ready.1 hi
      have hlt : i < L.size := by rw [h.size]; exact (Array.getElem?_eq_some_iff.1 ho).1
      rw [Array.getD_eq_getD_getElem?, Array.getElem?_eq_getElem hlt] at hun
      have hm : false ∈ L.toList := by
       rw [Array.mem_toList_iff]
       have : L[i] = false := by simpa using hun
       rw [← this]; exact Array.getElem_mem hlt
      have := List.count_pos_iff.2 hm
      omega
   exact ⟨hr, hnorm L act w h hr⟩
 | succ fuel ih =>
   intro L act w hc h
   refine ⟨hnorm L act w h, fun i hi => ?_⟩
   refine mid_step hcall hcs hbnd ht hf h hi fun act1 w1 h1 => ih _ act1 w1 ?_ h1
   obtain ⟨hun, o, ho, _⟩ := mem_ready.1 hi
   have hlt : i < L.size := by rw [h.size]; exact (Array.getElem?_eq_some_iff.1 ho).1
   rw [Array.getD_eq_getD_getElem?, Array.getElem?_eq_getElem hlt] at hun
   have hb : L.toList[i]'(by simpa using hlt) = false := by simpa using hun
   have hcs := List.count_set (a := true) (b := false) (l := L.toList) (i := i) (by simpa using hlt)
   rw [hb] at hcs
   have e1 : (if (false == false) = true then 1 else 0) = 1 := rfl
   have e2 : (if (true == false) = true then 1 else 0) = 0 := rfl
   rw [e1, e2] at hcs
   rw [Array.toList_setIfInBounds, hcs]
   omega
theorem evDraw_sound (hcall : ∀ w0, CallOk P w0 call) (hcs : CallSince call) (hm : P.follows .mixedOrders = true) {β : Pl} {s s' : St} {act : Act} {w : World} {id : Nat} (he : Emb P w0 β s.w w) (hs : Slots β s act) (h : evDraw P call ops s = some s') {Q : Exit → Act → World → Prop}
 (hQ : ∀ β1 act1 w1, Le β β1 → Emb P w0 β1 s'.w w1 → Slots β1 s' act1 → act1.defers = act.defers → Q .normal act1 w1) : (Code.region id ops true).wp P Q act w := by
 unfold evDraw at h
 split at h
 · rename_i sts htr
   split at h
   · rename_i hof
     obtain ⟨t1, t2, t3⟩ := trace_spec _ _ _ htr
     have ht : Txt P call ops s s' sts := ⟨t2, h, fun i o ho => t3 i o (by simpa using ho)⟩
     have hf := free_spec hcs htr (fun i o ho => by obtain ⟨si, _, h1, _⟩ := ht.next i o ho; exact ⟨si, h1⟩) hof
     refine wp_region_any hm ?_
     have hbnd : ∀ f ∈ lateOnes ops sts, f < ops.size := by
      intro f hf
      obtain ⟨⟨o, i⟩, hx, rfl⟩ := List.mem_map.1 hf
      have := mem_zip (List.mem_filter.1 hx).1
      have := (List.getElem?_eq_some_iff.1 this).1
      simpa using this
     have hgam : gam β (fun _ => none) = β := rfl
     refine any_sound hcall hcs hbnd ht hf (df := act.defers) hQ ops.size _ act _ ?_ ⟨by simp, ?_, rfl, hs.size, β, 0, s, fun _ => none, Le.refl β, t2, by omega, he.drew, .inl rfl, ?_, ⟨by simp, by simp, ?_, by simp, by simp⟩, ?_, ?_⟩
     · simp
     · intro i o hi
       simp [Array.getD_eq_getD_getElem?, Array.getElem?_replicate] at hi
       split at hi <;> simp at hi
     · intro c oc _ _
       simp [Array.getD_eq_getD_getElem?, Array.getElem?_replicate]
       split <;> simp
     · intro f sf _ _ _ hj
       simp [Array.getD_eq_getD_getElem?, Array.getElem?_replicate] at hj
       split at hj <;> simp at hj
     · intro k _; exact hs.rel k
     · intro j o k _ _ hj
       simp [Array.getD_eq_getD_getElem?, Array.getElem?_replicate] at hj
       split at hj <;> simp at hj
   · cases h
 · cases h
end
end Ev
end Go.Proofs.YtedmogacklbcmaaGreatDoor
