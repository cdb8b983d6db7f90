/- A region whose operations may go in any order that their edges allow. -/
import Derived.Test.YthfpnpopegphbaaEvSeq
import Derived.Test.YthfpnpopegphbaaEvSince
namespace Go.Proofs.Ythfpnpopegphbaa
namespace Ev
open Go.RowKit

/-- What must have gone ahead of an operation. -/
inductive Anc (ops : Array Oper) : Nat → Nat → Prop where
  | one {i : Nat} {o : Oper} {e : Edge} (h : ops[i]? = some o) (he : e ∈ o.after) (hb : Region.binds .any e = true) : Anc ops i e.on
  | more {i j : Nat} {o : Oper} {e : Edge} (h : ops[i]? = some o) (he : e ∈ o.after) (hb : Region.binds .any e = true) (ha : Anc ops e.on j) : Anc ops i j

theorem Anc.listed {ops : Array Oper} {L : Nat → Prop} (hc : ∀ i o, L i → ops[i]? = some o → ∀ e ∈ o.after, Region.binds .any e = true → L e.on) {i j : Nat} (h : Anc ops i j) : L i → L j := by
  induction h with
  | one h he hb => intro hi; exact hc _ _ hi h _ he hb
  | more h he hb _ ih => intro hi; exact ih (hc _ _ hi h _ he hb)

theorem Anc.ready {ops : Array Oper} {L : Nat → Prop} (hc : ∀ i o, L i → ops[i]? = some o → ∀ e ∈ o.after, Region.binds .any e = true → L e.on) {i j : Nat} (h : Anc ops i j)
    {o : Oper} (ho : ops[i]? = some o) (hr : ∀ e ∈ o.after, Region.binds .any e = true → L e.on) : L j := by
  cases h with
  | one h he hb => rw [ho] at h; injection h with h; subst h; exact hr _ he hb
  | more h he hb ha => rw [ho] at h; injection h with h; subst h; exact ha.listed hc (hr _ he hb)

theorem maskOf_spec (acc : List Nat) (j : Nat) : ∀ es : List Edge, (maskOf acc es).testBit j = true → ∃ e ∈ es, Region.binds .any e = true ∧ (j = e.on ∨ (acc.getD e.on 0).testBit j = true)
  | [], h => by simp [maskOf] at h
  | e :: r, h => by
    unfold maskOf at h
    split at h
    · rename_i hb
      simp only [Nat.testBit_or, Bool.or_eq_true, Nat.testBit_two_pow, decide_eq_true_eq] at h
      rcases h with (h | h) | h
      · exact ⟨e, List.mem_cons_self .., hb, .inl h.symm⟩
      · exact ⟨e, List.mem_cons_self .., hb, .inr h⟩
      · obtain ⟨e', h1, h2⟩ := maskOf_spec acc j r h
        exact ⟨e', List.mem_cons_of_mem _ h1, h2⟩
    · obtain ⟨e', h1, h2⟩ := maskOf_spec acc j r h
      exact ⟨e', List.mem_cons_of_mem _ h1, h2⟩

theorem masks_spec (ops : Array Oper) : ∀ (r : List Oper) (acc : List Nat), (∀ j o, r[j]? = some o → ops[acc.length + j]? = some o) → (∀ i j, (acc.getD i 0).testBit j = true → Anc ops i j) →
    ∀ i j, ((masks r acc).getD i 0).testBit j = true → Anc ops i j := by
  intro r
  induction r with
  | nil => intro acc _ h; exact h
  | cons o r ih =>
    intro acc ho hacc
    unfold masks
    refine ih _ (fun j o' h => ?_) (fun i j h => ?_)
    · have := ho (j + 1) o' (by simpa using h)
      rw [List.length_append, List.length_singleton]
      rwa [show acc.length + 1 + j = acc.length + (j + 1) by omega]
    · rw [List.getD_eq_getElem?_getD] at h
      by_cases hi : i < acc.length
      · rw [List.getElem?_append_left hi] at h
        exact hacc i j (by rw [List.getD_eq_getElem?_getD]; exact h)
      · rw [List.getElem?_append_right (by omega)] at h
        by_cases he : i = acc.length
        · subst he
          simp only [Nat.sub_self, List.getElem?_cons_zero, Option.getD_some] at h
          obtain ⟨e, h1, h2, h3⟩ := maskOf_spec acc j _ h
          have hop := ho 0 o rfl
          simp only [Nat.add_zero] at hop
          rw [Array.mem_toList_iff] at h1
          rcases h3 with rfl | h3
          · exact .one hop h1 h2
          · exact .more hop h1 h2 (hacc _ _ h3)
        · have : ¬ i - acc.length < 1 := by omega
          rw [List.getElem?_eq_none (by simp; omega)] at h
          simp at h

theorem eqAtom_eq {a b : Value} (h : eqAtom a b = true) : a = b := by
  unfold eqAtom at h
  split at h
  · rw [eq_of_beq h]
  · rw [Bool.and_eq_true] at h
    rw [of_decide_eq_true h.1, eq_of_beq h.2]
  · rename_i a b
    obtain ⟨⟨a⟩⟩ := a
    obtain ⟨⟨b⟩⟩ := b
    have := eq_of_beq h
    simp only at this
    rw [this]
  · rw [of_decide_eq_true h]
  · rw [Bool.and_eq_true, Bool.and_eq_true] at h
    rw [of_decide_eq_true h.1.1, eq_of_beq h.1.2, eq_of_beq h.2]
  · rfl
  · rfl
  · cases h
theorem eqList_eq : ∀ {l m : List Value}, eqList l m = true → l = m
  | [], [], _ => rfl
  | a :: l, b :: m, h => by
    simp only [eqList, Bool.and_eq_true] at h
    rw [eqAtom_eq h.1, eqList_eq h.2]
  | [], _ :: _, h => by simp [eqList] at h
  | _ :: _, [], h => by simp [eqList] at h
theorem eqV_eq {a b : Value} (h : eqV a b = true) : a = b := by
  unfold eqV at h
  split at h
  · rename_i x y
    have := eqList_eq h
    rw [← Array.toArray_toList (xs := x), this]
  · exact eqAtom_eq h

section
variable {P : Program} {w0 : Base} {β : Pl} {call : CallF} {ops : Array Oper}

theorem trace_spec : ∀ (l : List Oper) (s : St) (sts : List St), trace P call ops l s = some sts →
    sts.length = l.length + 1 ∧ sts[0]? = some s ∧ ∀ (i : Nat) (o : Oper), l[i]? = some o → ∃ si si', sts[i]? = some si ∧ sts[i + 1]? = some si' ∧ step P call ops o si = some si' := by
  intro l
  induction l with
  | nil => intro s sts h; simp only [trace, Option.some.injEq] at h; subst h; exact ⟨rfl, rfl, fun i o h => by simp at h⟩
  | cons o r ih =>
    intro s sts h
    unfold trace at h
    split at h
    · rename_i s1 hst
      split at h
      · rename_i l' hl'
        injection h with h; subst h
        obtain ⟨h1, h2, h3⟩ := ih s1 l' hl'
        refine ⟨by simp [h1], rfl, fun i o' ho => ?_⟩
        cases i with
        | zero =>
          simp at ho; subst ho
          exact ⟨s, s1, rfl, by simpa using h2, hst⟩
        | succ i =>
          obtain ⟨si, si', k1, k2, k3⟩ := h3 i o' (by simpa using ho)
          exact ⟨si, si', by simpa using k1, by simpa using k2, k3⟩
      · cases h
    · cases h

/-- An operation that isn't of the chain leaves the evaluator's memory alone. -/
theorem float_keeps {t : Tr Value} {o : Oper} {a a1 : AW} {v : Value} (hf : isFloat t o.op = true) (h : stepV P call ops t o a = some (v, a1)) :
    a1 = a ∧ (isLoad o.op = false → ∀ a', stepV P call ops t o a' = some (v, a')) ∧ ∀ a' v' a2, stepV P call ops t o a' = some (v', a2) → a2 = a' := by
  have one : ∀ a r a1, evOp P t o a = some (r, a1) → a1 = a ∧ ∃ v, r = .value v := by
    intro a r a1 h
    unfold evOp at h
    by_cases hok : (o.op.operands.toList.all okOpnd) = true
    · rw [if_pos hok, if_pos hf] at h
      cases hp : evFloat P t o a with
      | none => rw [hp] at h; cases h
      | some u => rw [hp] at h; simp only [Option.some.injEq, Prod.mk.injEq] at h; exact ⟨h.2.symm, u, h.1.symm⟩
    · rw [if_neg hok] at h; cases h
  have gen : ∀ a v a1, stepV P call ops t o a = some (v, a1) → a1 = a := by
    intro a v a1 h
    unfold stepV at h
    split at h
    · injection h with h; injection h with _ h; exact h.symm
    · cases hq : evOp P t o a with
      | none => rw [hq] at h; cases h
      | some q =>
        obtain ⟨r, a2⟩ := q
        obtain ⟨e1, u, e2⟩ := one a r a2 hq
        subst e1; subst e2
        rw [hq] at h
        simp only [Option.some.injEq, Prod.mk.injEq] at h
        exact h.2.symm
    · cases h
  refine ⟨gen a v a1 h, fun hl a' => ?_, gen⟩
  have ha := gen a v a1 h
  subst ha
  unfold stepV at h ⊢
  cases hg : guardYes ops t o with
  | none => rw [hg] at h; cases h
  | some b =>
    rw [hg] at h
    cases b with
    | false => simp only [Option.some.injEq, Prod.mk.injEq] at h ⊢; exact ⟨h.1, trivial⟩
    | true =>
      simp only at h ⊢
      unfold evOp at h ⊢
      by_cases hok : (o.op.operands.toList.all okOpnd) = true
      · rw [if_pos hok, if_pos hf] at h ⊢
        simp only [evFloat, hl, Bool.false_eq_true, if_false] at h ⊢
        cases hp : evPure P t o with
        | none => rw [hp] at h; cases h
        | some u => rw [hp] at h; simp only [Option.some.injEq, Prod.mk.injEq] at h ⊢; exact ⟨h.1, trivial⟩
      · rw [if_neg hok] at h; cases h

/-- What reads or writes memory, but for the allocs that may come early. -/
def Ch (lts : List Nat) (sts : List St) (c : Nat) (oc : Oper) : Prop := ∃ sc, sts[c]? = some sc ∧ isFloat sc.tmps oc.op = false ∧ c ∉ lts

/-- What the check of an order says. -/
structure Free (P : Program) (call : CallF) (ops : Array Oper) (sts : List St) (lts : List Nat) : Prop where
  edges : ∀ (i : Nat) (o : Oper), ops[i]? = some o → ∀ e ∈ o.after, Region.binds .any e = true → e.on < i
  uniq : ∀ (i j : Nat) (oi oj : Oper) (d : Tmp), i ≠ j → ops[i]? = some oi → ops[j]? = some oj → oj.dst = some d → oi.dst ≠ some d
  slots : ∀ (i j : Nat) (oi oj : Oper) (d : Tmp), i ≠ j → ops[i]? = some oi → ops[j]? = some oj → oj.dst = some d → d ∈ oi.looksAt ops → Anc ops (max i j) (min i j)
  chain : ∀ (c c' : Nat) (o o' : Oper), ops[c]? = some o → ops[c']? = some o' → Ch lts sts c o → Ch lts sts c' o' → c < c' → Anc ops c' c
  loads : ∀ (i : Nat) (o : Oper), ops[i]? = some o → isLoad o.op = true → ∀ k, (k = 0 ∨ ∃ (c : Nat) (oc : Oper), ops[c]? = some oc ∧ Ch lts sts c oc ∧ k = c + 1) →
    (∀ (c : Nat) (oc : Oper), ops[c]? = some oc → Ch lts sts c oc → c < k → ¬ Anc ops c i) →
    (∀ (c : Nat) (oc : Oper), ops[c]? = some oc → Ch lts sts c oc → k ≤ c → ¬ Anc ops i c) →
    ∃ sk si v a v' a', sts[k]? = some sk ∧ sts[i]? = some si ∧ stepV P call ops si.tmps o sk.w = some (v, a) ∧ stepV P call ops si.tmps o si.w = some (v', a') ∧ v = v'
  late : ∀ (f : Nat) (o : Oper), f ∈ lts → ops[f]? = some o → ∃ e, o.op = .alloc e ∧ o.guard = none
  behind : ∀ (f c : Nat) (o oc : Oper), f ∈ lts → ops[f]? = some o → ops[c]? = some oc → Ch lts sts c oc → f < c → Anc ops c f
  bnd : lts = [] ∨ ∀ (c : Nat) (oc : Oper) (sc : St), ops[c]? = some oc → sts[c]? = some sc → Ch lts sts c oc → ∀ k ∈ oc.looksAt ops, bounded 4 sc.w.next ((sc.tmps.get k).getD undef) = true

theorem mem_zip {l : List Oper} {x : Oper × Nat} (h : x ∈ l.zipIdx) : l[x.2]? = some x.1 := by
  obtain ⟨o, i⟩ := x
  rw [List.mem_zipIdx_iff_getElem?] at h
  simpa using h
theorem zip_mem {l : List Oper} {i : Nat} {o : Oper} (h : l[i]? = some o) : (o, i) ∈ l.zipIdx := by
  rw [List.mem_zipIdx_iff_getElem?]; simpa using h

/-- Between two states of a trace with no operation of the chain between them memory is the same. -/
theorem same_mem {s : St} {sts : List St} (ht : trace P call ops ops.toList s = some sts) : ∀ (n i : Nat) (si sj : St), sts[i]? = some si → sts[i + n]? = some sj →
    (∀ (c : Nat) (oc : Oper) (sc : St), ops[c]? = some oc → sts[c]? = some sc → i ≤ c → c < i + n → isFloat sc.tmps oc.op = true) → sj.w = si.w := by
  obtain ⟨hl, _, hst⟩ := trace_spec _ _ _ ht
  intro n
  induction n with
  | zero => intro i si sj hi hj _; rw [Nat.add_zero, hi] at hj; injection hj with hj; rw [hj]
  | succ n ih =>
    intro i si sj hi hj hc
    have hlt : i + (n + 1) < sts.length := (List.getElem?_eq_some_iff.1 hj).1
    have hlt' : i + n < ops.toList.length := by omega
    obtain ⟨sk, sk', k1, k2, k3⟩ := hst (i + n) _ (List.getElem?_eq_getElem hlt')
    have hop : ops[i + n]? = some (ops.toList[i + n]'hlt') := by
      rw [← Array.getElem?_toList]
      exact List.getElem?_eq_getElem hlt'
    rw [show i + n + 1 = i + (n + 1) by omega, hj] at k2
    injection k2 with k2
    subst k2
    have hw := ih i si sk hi k1 fun c oc sc q1 q2 q3 q4 => hc c oc sc q1 q2 q3 (by omega)
    rw [← hw]
    have hf := hc (i + n) _ sk hop k1 (by omega) (by omega)
    unfold step at k3
    cases hv : stepV P call ops sk.tmps (ops.toList[i + n]'hlt') sk.w with
    | none => rw [hv] at k3; cases k3
    | some q =>
      obtain ⟨v, a⟩ := q
      rw [hv] at k3
      rw [(put_get k3).1]
      exact (float_keeps hf hv).1

theorem free_spec (hcs : CallSince call) {s : St} {sts : List St} {lts : List Nat} (ht : trace P call ops ops.toList s = some sts) (hlen : ∀ (i : Nat) (o : Oper), ops[i]? = some o → ∃ si, sts[i]? = some si) (h : orderFree P call ops sts lts = true) : Free P call ops sts lts := by
  unfold orderFree at h
  simp only [Bool.and_eq_true] at h
  obtain ⟨⟨⟨⟨⟨h1, h2⟩, h3⟩, h4⟩, h5⟩, h6⟩ := h
  have hanc : ∀ i j, ((masks ops.toList []).getD i 0).testBit j = true → Anc ops i j := masks_spec ops ops.toList [] (fun j o h => by simpa using h) (fun i j h => by simp at h)
  have hz : ∀ {i : Nat} {o : Oper}, ops[i]? = some o → (o, i) ∈ ops.toList.zipIdx := fun h => zip_mem (by simpa using h)
  have hnon : ∀ {c : Nat} {o : Oper} {sc : St}, ops[c]? = some o → sts[c]? = some sc → isFloat sc.tmps o.op = false →
      c ∈ (ops.toList.zipIdx.filter fun x => !isFloat (match sts[x.2]? with | some s => s.tmps | none => .lf) x.1.op).map (·.2) := by
    intro c o sc ho hs hf
    refine List.mem_map.2 ⟨(o, c), List.mem_filter.2 ⟨hz ho, ?_⟩, rfl⟩
    simp only [hs, hf, Bool.not_false]
  have hch : ∀ {c : Nat} {o : Oper}, ops[c]? = some o → Ch lts sts c o →
      c ∈ ((ops.toList.zipIdx.filter fun x => !isFloat (match sts[x.2]? with | some s => s.tmps | none => .lf) x.1.op).map (·.2)).filter fun c => !lts.contains c := by
    rintro c o ho ⟨sc, hs, hf, hn⟩
    refine List.mem_filter.2 ⟨hnon ho hs hf, ?_⟩
    simpa using hn
  have hch' : ∀ {c : Nat}, c ∈ ((ops.toList.zipIdx.filter fun x => !isFloat (match sts[x.2]? with | some s => s.tmps | none => .lf) x.1.op).map (·.2)).filter (fun c => !lts.contains c) →
      ∃ o, ops[c]? = some o ∧ Ch lts sts c o := by
    intro c hc
    obtain ⟨hc, hn⟩ := List.mem_filter.1 hc
    obtain ⟨⟨o, i⟩, hx, rfl⟩ := List.mem_map.1 hc
    obtain ⟨hx1, hx2⟩ := List.mem_filter.1 hx
    have ho : ops[i]? = some o := by simpa using mem_zip hx1
    obtain ⟨si, hsi⟩ := hlen i o ho
    refine ⟨o, ho, si, hsi, ?_, by simpa using hn⟩
    simp only [hsi] at hx2
    simpa using hx2
  refine ⟨?_, ?_, ?_, ?_, ?_, ?_, ?_, ?_⟩
  · intro i o ho e he hb
    simp only [List.all_eq_true] at h1
    have := h1 (o, i) (hz ho) e (by simpa using he)
    simpa [hb] using this
  · intro i j oi oj d hij hi hj hd
    simp only [List.all_eq_true] at h2
    have := h2 (oi, i) (hz hi) (oj, j) (hz hj)
    simp only [hd, Bool.or_eq_true, beq_iff_eq, hij, false_or, Bool.and_eq_true, bne_iff_ne, ne_eq] at this
    exact this.1
  · intro i j oi oj d hij hi hj hd hl
    simp only [List.all_eq_true] at h2
    have := h2 (oi, i) (hz hi) (oj, j) (hz hj)
    simp only [hd, Bool.or_eq_true, beq_iff_eq, hij, false_or, Bool.and_eq_true, bne_iff_ne, ne_eq, Bool.not_eq_true'] at this
    refine hanc _ _ (this.2.resolve_left ?_)
    simpa using hl
  · intro c c' o o' ho ho' hf hf' hcc
    rw [List.all_eq_true] at h3
    have := h3 c (hch ho hf)
    rw [List.all_eq_true] at this
    have := this c' (hch ho' hf')
    simp only [Bool.or_eq_true, Bool.not_eq_true', decide_eq_false_iff_not, hcc, not_true_eq_false, false_or] at this
    exact hanc _ _ this
  · intro i o ho hl k hk hk1 hk2
    rw [List.all_eq_true] at h4
    have := h4 (o, i) (hz ho)
    simp only [hl, Bool.not_true, Bool.false_or] at this
    rw [List.all_eq_true] at this
    have := this k (by
      rcases hk with rfl | ⟨c, oc, q1, q2, rfl⟩
      · exact List.mem_cons_self ..
      · exact List.mem_cons_of_mem _ (List.mem_map.2 ⟨c, hch q1 q2, rfl⟩))
    simp only [Bool.or_eq_true, Bool.not_eq_true', Bool.and_eq_false_iff] at this
    rcases this with ((this | this) | this) | this
    · exfalso
      rw [List.all_eq_false] at this
      obtain ⟨c, hc, hcc⟩ := this
      obtain ⟨oc, q1, q2⟩ := hch' hc
      simp only [Bool.or_eq_true, Bool.not_eq_true', decide_eq_false_iff_not, not_or, Bool.not_eq_false, Nat.not_lt, Nat.not_le] at hcc
      exact hk1 c oc q1 q2 hcc.1 (hanc _ _ hcc.2)
    · exfalso
      rw [List.all_eq_false] at this
      obtain ⟨c, hc, hcc⟩ := this
      obtain ⟨oc, q1, q2⟩ := hch' hc
      simp only [Bool.or_eq_true, Bool.not_eq_true', decide_eq_true_eq, not_or, Bool.not_eq_false, Nat.not_lt, Nat.not_le] at hcc
      exact hk2 c oc q1 q2 hcc.1 (hanc _ _ hcc.2)
    · obtain ⟨si, hsi⟩ := hlen i o ho
      obtain ⟨hl1, hz0, hst⟩ := trace_spec _ _ _ ht
      have hk' : ∃ sk, sts[k]? = some sk := by
        rcases hk with rfl | ⟨c, oc, q1, q2, rfl⟩
        · exact ⟨s, hz0⟩
        · have : c < ops.size := (Array.getElem?_eq_some_iff.1 q1).1
          exact ⟨_, List.getElem?_eq_getElem (by rw [hl1, Array.length_toList]; omega)⟩
      obtain ⟨sk, hsk⟩ := hk'
      obtain ⟨si0, si1, j1, _, j3⟩ := hst i o (by simpa using ho)
      rw [hsi] at j1
      injection j1 with j1
      subst j1
      have hnone : ∀ (c : Nat) (oc : Oper) (sc : St), ops[c]? = some oc → sts[c]? = some sc → min k i ≤ c → c < max k i → isFloat sc.tmps oc.op = true := by
        intro c oc sc q1 q2 q3 q4
        cases hf : isFloat sc.tmps oc.op with
        | true => rfl
        | false =>
          rw [List.all_eq_true] at this
          have := this c (hnon q1 q2 hf)
          simp only [Bool.not_eq_true', Bool.and_eq_false_iff, decide_eq_false_iff_not] at this
          rcases this with this | this
          · exact absurd q3 this
          · exact absurd q4 this
      have hw : sk.w = si.w := by
        rcases Nat.le_total k i with hki | hki
        · have := same_mem ht (i - k) k sk si hsk (by rw [show k + (i - k) = i by omega]; exact hsi) fun c oc sc q1 q2 q3 q4 => hnone c oc sc q1 q2 (by omega) (by omega)
          exact this.symm
        · exact same_mem ht (k - i) i si sk hsi (by rw [show i + (k - i) = k by omega]; exact hsk) fun c oc sc q1 q2 q3 q4 => hnone c oc sc q1 q2 (by omega) (by omega)
      unfold step at j3
      cases hv : stepV P call ops si.tmps o si.w with
      | none => rw [hv] at j3; cases j3
      | some q =>
        obtain ⟨v, a⟩ := q
        exact ⟨sk, si, v, a, v, a, hsk, hsi, by rw [hw]; exact hv, hv, rfl⟩
    · split at this
      · rename_i sk si hsk hsi
        rw [Bool.or_eq_true] at this
        rcases this with this | this
        · obtain ⟨_, _, hst⟩ := trace_spec _ _ _ ht
          obtain ⟨si0, si1, j1, _, j3⟩ := hst i o (by simpa using ho)
          rw [hsi] at j1
          injection j1 with j1
          subst j1
          have hsince : Since sk.w si.w ∨ Since si.w sk.w := by
            rcases Nat.le_total k i with hki | hki
            · exact .inl (trace_since hcs _ _ _ ht (i - k) k sk si hsk (by rw [show k + (i - k) = i by omega]; exact hsi))
            · exact .inr (trace_since hcs _ _ _ ht (k - i) i si sk hsi (by rw [show i + (k - i) = k by omega]; exact hsk))
          unfold step at j3
          cases hv : stepV P call ops si.tmps o si.w with
          | none => rw [hv] at j3; cases j3
          | some q =>
            obtain ⟨v, a⟩ := q
            obtain ⟨a1, ha1⟩ := still_same hsince this hv
            exact ⟨sk, si, v, a1, v, a, hsk, hsi, ha1, hv, rfl⟩
        split at this
        · rename_i v a v' a' e1 e2
          exact ⟨sk, si, v, a, v', a', hsk, hsi, e1, e2, eqV_eq this⟩
        · cases this
      · cases this
  · intro f o hf ho
    rw [List.all_eq_true] at h5
    have := h5 (o, f) (hz ho)
    have hc : lts.contains f = true := by simpa using hf
    simp only [hc, Bool.not_true, Bool.false_or, Bool.and_eq_true] at this
    obtain ⟨⟨k1, k2⟩, _⟩ := this
    have kop : ∃ e, o.op = .alloc e := by
      generalize o.op = op at k1
      cases op <;> first | exact ⟨_, rfl⟩ | cases k1
    obtain ⟨e, he⟩ := kop
    exact ⟨e, he, by simpa using k2⟩
  · intro f c o oc hf ho hoc hcc hlt
    rw [List.all_eq_true] at h5
    have := h5 (o, f) (hz ho)
    have hc : lts.contains f = true := by simpa using hf
    simp only [hc, Bool.not_true, Bool.false_or, Bool.and_eq_true] at this
    have := this.2
    rw [List.all_eq_true] at this
    have := this c (hch hoc hcc)
    simp only [Bool.or_eq_true, Bool.not_eq_true', decide_eq_false_iff_not, hlt, not_true_eq_false, false_or] at this
    exact hanc _ _ this
  · rw [Bool.or_eq_true] at h6
    rcases h6 with h6 | h6
    · exact .inl (by simpa using h6)
    · refine .inr fun c oc sc hoc hsc hcc k hk => ?_
      rw [List.all_eq_true] at h6
      have := h6 (oc, c) (hz hoc)
      rw [Bool.or_eq_true] at this
      rcases this with this | this
      · exfalso
        rw [Bool.not_eq_true'] at this
        have h8 := List.contains_iff_mem.2 (hch hoc hcc)
        exact absurd (h8.symm.trans this) (by decide)
      · simp only [hsc, List.all_eq_true] at this
        exact this k hk
end
end Ev
end Go.Proofs.Ythfpnpopegphbaa
