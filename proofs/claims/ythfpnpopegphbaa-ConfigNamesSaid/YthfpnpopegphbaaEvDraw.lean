/- The model's region, in whatever order, comes to what the evaluator's comes to in the order of the text. -/
import Derived.Test.YthfpnpopegphbaaEvLate
namespace Go.Proofs.Ythfpnpopegphbaa
namespace Ev
open Go.RowKit

section
variable {P : Program} {w0 : Base} {call : CallF} {ops : Array Oper}

/-- The states in the order of the text. -/
structure Txt (P : Program) (call : CallF) (ops : Array Oper) (s : St) (s' : St) (sts : List St) : Prop where
  first : sts[0]? = some s
  last : sts[ops.size]? = some s'
  next : ∀ (i : Nat) (o : Oper), ops[i]? = some o → ∃ si si', sts[i]? = some si ∧ sts[i + 1]? = some si' ∧ step P call ops o si = some si'

theorem step_put {o : Oper} {s s' : St} (h : step P call ops o s = some s') : ∃ v a, stepV P call ops s.tmps o s.w = some (v, a) ∧ s.put o.dst v a = some s' := by
  unfold step at h
  cases hv : stepV P call ops s.tmps o s.w with
  | none => rw [hv] at h; cases h
  | some q => obtain ⟨v, a⟩ := q; rw [hv] at h; exact ⟨v, a, rfl, h⟩

/-- A slot that nothing wrote yet. -/
theorem Txt.early {s s' : St} {sts : List St} (h : Txt P call ops s s' sts) (k : Nat) : ∀ (i : Nat) (si : St), i ≤ ops.size → sts[i]? = some si → (∀ (j : Nat) (o : Oper), j < i → ops[j]? = some o → o.dst ≠ some k) → si.tmps.get k = s.tmps.get k ∧ si.n = s.n := by
  intro i
  induction i with
  | zero => intro si _ hs _; rw [h.first] at hs; injection hs with hs; subst hs; exact ⟨rfl, rfl⟩
  | succ i ih =>
    intro si hi hs hw
    obtain ⟨sj, sj', h1, h2, h3⟩ := h.next i ops[i] (Array.getElem?_eq_getElem (by omega))
    rw [hs] at h2; injection h2 with h2; subst h2
    obtain ⟨v, a, _, h5⟩ := step_put h3
    obtain ⟨_, h6, _, h7⟩ := put_get h5
    obtain ⟨k1, k2⟩ := ih sj (by omega) h1 (fun j o hj ho => hw j o (by omega) ho)
    refine ⟨?_, h6.trans k2⟩
    rw [h7, if_neg (hw i _ (by omega) (Array.getElem?_eq_getElem (by omega)))]
    exact k1

/-- A slot that nothing writes any more. -/
theorem Txt.late {s s' : St} {sts : List St} (h : Txt P call ops s s' sts) (k : Nat) : ∀ (d i : Nat) (si : St), i + d = ops.size → sts[i]? = some si → (∀ (j : Nat) (o : Oper), i ≤ j → ops[j]? = some o → o.dst ≠ some k) → s'.tmps.get k = si.tmps.get k := by
  intro d
  induction d with
  | zero => intro i si hi hs _; have : i = ops.size := by omega
            subst this; rw [h.last] at hs; injection hs with hs; subst hs; rfl
  | succ d ih =>
    intro i si hi hs hw
    obtain ⟨sj, sj', h1, h2, h3⟩ := h.next i ops[i] (Array.getElem?_eq_getElem (by omega))
    rw [hs] at h1; injection h1 with h1; subst h1
    obtain ⟨v, a, _, h5⟩ := step_put h3
    obtain ⟨_, h6, _, h7⟩ := put_get h5
    rw [ih (i + 1) sj' (by omega) h2 (fun j o hj ho => hw j o (by omega) ho), h7, if_neg (hw i _ (by omega) (Array.getElem?_eq_getElem (by omega)))]

/-- Memory stays between two operations of the chain. -/
theorem Txt.still {s s' : St} {sts : List St} (h : Txt P call ops s s' sts) : ∀ (d i : Nat) (si sj : St), i + d ≤ ops.size → sts[i]? = some si → sts[i + d]? = some sj →
    (∀ (c : Nat) (oc : Oper) (sc : St), i ≤ c → c < i + d → ops[c]? = some oc → sts[c]? = some sc → isFloat sc.tmps oc.op = true) → sj.w = si.w := by
  intro d
  induction d with
  | zero => intro i si sj _ h1 h2 _; rw [Nat.add_zero, h1] at h2; injection h2 with h2; subst h2; rfl
  | succ d ih =>
    intro i si sj hi h1 h2 hf
    obtain ⟨sk, sk', k1, k2, k3⟩ := h.next i ops[i] (Array.getElem?_eq_getElem (by omega))
    rw [h1] at k1; injection k1 with k1; subst k1
    obtain ⟨v, a, h4, h5⟩ := step_put k3
    obtain ⟨h6, _⟩ := put_get h5
    have hfl := hf i _ si (Nat.le_refl _) (by omega) (Array.getElem?_eq_getElem (by omega)) h1
    have ha := (float_keeps hfl h4).1
    rw [ih (i + 1) sk' sj (by omega) k2 (by rwa [show i + 1 + d = i + (d + 1) by omega]) (fun c oc sc q1 q2 q3 q4 => hf c oc sc (by omega) (by omega) q3 q4), h6, ha]

theorem Txt.since (hcs : CallSince call) {s s' : St} {sts : List St} (h : Txt P call ops s s' sts) : ∀ (d i : Nat) (si sj : St), i + d ≤ ops.size → sts[i]? = some si → sts[i + d]? = some sj → Since si.w sj.w := by
  intro d
  induction d with
  | zero => intro i si sj _ h1 h2; rw [Nat.add_zero, h1] at h2; injection h2 with h2; subst h2; exact .refl _
  | succ d ih =>
    intro i si sj hi h1 h2
    obtain ⟨sk, sk', k1, k2, k3⟩ := h.next i ops[i] (Array.getElem?_eq_getElem (by omega))
    rw [h1] at k1; injection k1 with k1; subst k1
    exact (step_since hcs k3).trans (ih (i + 1) sk' sj (by omega) k2 (by rwa [show i + 1 + d = i + (d + 1) by omega]))

/-- Where blocks lie, those that came early too. -/
def gam (β1 : Pl) (pg : Nat → Option Nat) : Pl := fun i => match pg i with
  | some g => some ⟨g, 0, 0⟩
  | none => β1 i

/-- The blocks that came early: 'pg' says which block of the model's memory the evaluator's next ones will be. -/
structure Pend (P : Program) (w0 : Base) (β1 : Pl) (ops : Array Oper) (sts : List St) (lts : List Nat) (L : Array Bool) (m : Nat) (a : AW) (w : World) (pg : Nat → Option Nat) : Prop where
  ahead : ∀ i g, pg i = some g → a.next ≤ i
  row : ∀ i g, pg i = some g → w0.Mine g ∧ ∃ (f : Nat) (o : Oper) (sf : St) (e : TypeId) (z : Value), f ∈ lts ∧ m ≤ f ∧ ops[f]? = some o ∧ sts[f]? = some sf ∧ sf.w.next = i ∧ o.op = .alloc e ∧ ZeroOf P e z ∧ w.heap[g]? = some (.cells z.cells e (0, 0)) ∧ L.getD f false = true
  has : ∀ (f : Nat) (sf : St), f ∈ lts → sts[f]? = some sf → m ≤ f → L.getD f false = true → ∃ g, pg sf.w.next = some g
  inj : ∀ i j g, pg i = some g → pg j = some g → i = j
  off : ∀ i g j c bj, pg i = some g → a.heap.get j = some c → c.kind < 2 → β1 j = some bj → bj.blk ≠ g

theorem le_gam {β1 : Pl} {pg : Nat → Option Nat} {a : AW} {w : World} (he : Emb P w0 β1 a w) (h : ∀ i g, pg i = some g → a.next ≤ i) : Le β1 (gam β1 pg) := by
  intro i b hi
  unfold gam
  cases hp : pg i with
  | none => exact hi
  | some g => rw [(he.fresh i (h i g hp)).2] at hi; cases hi
theorem gam_heap {β1 : Pl} {pg : Nat → Option Nat} {a : AW} {w : World} (he : Emb P w0 β1 a w) (h : ∀ i g, pg i = some g → a.next ≤ i) : ∀ i b, a.heap.get i = some b → gam β1 pg i = β1 i := by
  intro i b hi
  unfold gam
  cases hp : pg i with
  | none => rfl
  | some g => rw [(he.fresh i (h i g hp)).1] at hi; cases hi

/-- What holds while some operations have been done. -/
structure Mid (P : Program) (w0 : Base) (β : Pl) (call : CallF) (ops : Array Oper) (s s' : St) (sts : List St) (lts : List Nat) (defers : List Deferred) (L : Array Bool) (act : Act) (w : World) : Prop where
  size : L.size = ops.size
  closed : ∀ (i : Nat) (o : Oper), L.getD i false = true → ops[i]? = some o → ∀ e ∈ o.after, Region.binds .any e = true → L.getD e.on false = true
  defers : act.defers = defers
  asize : s.n = act.tmps.size
  mem : ∃ (β1 : Pl) (m : Nat) (sm : St) (pg : Nat → Option Nat), Le β β1 ∧ sts[m]? = some sm ∧ m ≤ ops.size ∧ Emb P w0 β1 sm.w w ∧
    (m = 0 ∨ ∃ (c : Nat) (oc : Oper), ops[c]? = some oc ∧ Ch lts sts c oc ∧ m = c + 1) ∧
    (∀ (c : Nat) (oc : Oper), ops[c]? = some oc → Ch lts sts c oc → (L.getD c false = true ↔ c < m)) ∧
    Pend P w0 β1 ops sts lts L m sm.w w pg ∧
    (∀ k, (∀ (j : Nat) (o : Oper), ops[j]? = some o → o.dst = some k → L.getD j false = false) → VR (gam β1 pg) ((s.tmps.get k).getD undef) (act.tmps.getD k undef)) ∧
    (∀ (j : Nat) (o : Oper) (k : Nat), ops[j]? = some o → o.dst = some k → L.getD j false = true → VR (gam β1 pg) ((s'.tmps.get k).getD undef) (act.tmps.getD k undef))

theorem late_step {s s' : St} {sts : List St} {lts : List Nat} (ht : Txt P call ops s s' sts) (hf : Free P call ops sts lts) {f : Nat} {o : Oper} {sf sf' : St} (hfl : f ∈ lts) (ho : ops[f]? = some o) (hs : sts[f]? = some sf) (hs' : sts[f + 1]? = some sf') :
    ∃ e z, o.op = .alloc e ∧ o.guard = none ∧ ZeroOf P e z ∧ sf.w.new ⟨z.cells.toList, e, 0⟩ = some sf'.w ∧ sf'.w.next = sf.w.next + 1 := by
  obtain ⟨e, h1, h2⟩ := hf.late f o hfl ho
  obtain ⟨si, si', k1, k2, k3⟩ := ht.next f o ho
  rw [hs] at k1; injection k1 with k1; subst k1
  rw [hs'] at k2; injection k2 with k2; subst k2
  obtain ⟨v, a1, hv, hput⟩ := step_put k3
  obtain ⟨z, z1, z2, z3⟩ := alloc_val h1 h2 hv
  have hw := (put_get hput).1
  rw [hw]
  refine ⟨e, z, h1, h2, z1, z2, ?_⟩
  obtain ⟨hp, la, cl, hp1, hp2⟩ := AW.new_some z2
  rw [hp2]

/-- What came early up to a place of the text becomes the evaluator's. -/
theorem adopt_all (hcs : CallSince call) {s s' : St} {sts : List St} {lts : List Nat} (hbnd : ∀ f ∈ lts, f < ops.size) (ht : Txt P call ops s s' sts) (hf : Free P call ops sts lts) {L : Array Bool} {w : World} :
    ∀ (d m : Nat) (sm sj : St) (β1 : Pl) (pg : Nat → Option Nat), m + d ≤ ops.size → sts[m]? = some sm → sts[m + d]? = some sj → Emb P w0 β1 sm.w w → Pend P w0 β1 ops sts lts L m sm.w w pg →
      (∀ f, f ∈ lts → m ≤ f → f < m + d → L.getD f false = true) → (∀ (c : Nat) (oc : Oper), m ≤ c → c < m + d → ops[c]? = some oc → ¬ Ch lts sts c oc) →
      ∃ β2 pg2, Le β1 β2 ∧ Emb P w0 β2 sj.w w ∧ Pend P w0 β2 ops sts lts L (m + d) sj.w w pg2 ∧ Le (gam β1 pg) (gam β2 pg2) := by
  intro d
  induction d with
  | zero =>
    intro m sm sj β1 pg _ h1 h2 he hp _ _
    rw [Nat.add_zero, h1] at h2; injection h2 with h2; subst h2
    exact ⟨β1, pg, Le.refl _, he, hp, Le.refl _⟩
  | succ d ih =>
    intro m sm sj β1 pg hm h1 h2 he hp hL hC
    have hlt : m < ops.size := by omega
    have hop : ops[m]? = some ops[m] := Array.getElem?_eq_getElem hlt
    obtain ⟨si, s1, k1, k2, k3⟩ := ht.next m _ hop
    rw [h1] at k1; injection k1 with k1; subst k1
    have hsince := step_since hcs k3
    -- the step
    have one : ∃ β2 pg2, Le β1 β2 ∧ Emb P w0 β2 s1.w w ∧ Pend P w0 β2 ops sts lts L (m + 1) s1.w w pg2 ∧ Le (gam β1 pg) (gam β2 pg2) := by
      by_cases hml : m ∈ lts
      · obtain ⟨e, z, z1, z2, z3, z4, z5⟩ := late_step ht hf hml hop h1 k2
        obtain ⟨g, hg⟩ := hp.has m sm hml h1 (Nat.le_refl _) (hL m hml (Nat.le_refl _) (by omega))
        obtain ⟨r1, f, o, sf, e', z', r2, r3, r4, r5, r6, r7, r8, r9, _⟩ := hp.row _ g hg
        have hfm : f = m := by
          by_cases hfm : f = m
          · exact hfm
          · exfalso
            have h3 := ht.since hcs (f - (m + 1)) (m + 1) s1 sf (by have := (Array.getElem?_eq_some_iff.1 r4).1; omega) k2 (by rw [show m + 1 + (f - (m + 1)) = f by omega]; exact r5)
            have := h3.1.2.1
            omega
        subst hfm
        rw [hop] at r4; injection r4 with r4; subst r4
        rw [z1] at r7; injection r7 with r7; subst r7
        have := z3.uniq r8
        subst this
        obtain ⟨q1, q2⟩ := he.adopt r9 r1 (fun j c bj => hp.off _ g j c bj hg) z3.cells z4
        refine ⟨_, fun i => if i = sm.w.next then none else pg i, q1, q2, ⟨?_, ?_, ?_, ?_, ?_⟩, ?_⟩
        · intro i g' hi
          split at hi
          · cases hi
          · have := hp.ahead i g' hi; omega
        · intro i g' hi
          split at hi
          · cases hi
          · rename_i hne
            obtain ⟨t1, f', o', sf', e', z', t2, t3, t4, t5, t6, t7⟩ := hp.row i g' hi
            refine ⟨t1, f', o', sf', e', z', t2, ?_, t4, t5, t6, t7⟩
            have : f' ≠ f := by
              rintro rfl
              rw [h1] at t5; injection t5 with t5; subst t5
              exact hne t6.symm
            omega
        · intro f' sf' t1 t2 t3 t4
          have hne : sf'.w.next ≠ sm.w.next := by
            have h3 := ht.since hcs (f' - (f + 1)) (f + 1) s1 sf' (by have := hbnd f' t1; omega) k2 (by rw [show f + 1 + (f' - (f + 1)) = f' by omega]; exact t2)
            have := h3.1.2.1
            omega
          obtain ⟨g', hg'⟩ := hp.has f' sf' t1 t2 (by omega) t4
          exact ⟨g', by simp only [if_neg hne]; exact hg'⟩
        · intro i j g' hi hj
          split at hi
          · cases hi
          · split at hj
            · cases hj
            · exact hp.inj i j g' hi hj
        · intro i g' j c bj hi hj hk hbj
          split at hi
          · cases hi
          · rename_i hne
            obtain ⟨hpp, la, cl, hput, hs1⟩ := AW.new_some z4
            rw [hs1] at hj
            simp only at hj
            rw [Tr.get_put hput] at hj
            unfold grow at hbj
            by_cases hjn : j = sm.w.next
            · rw [if_pos hjn] at hbj
              injection hbj with hbj; subst hbj
              intro e
              simp only at e
              subst e
              exact hne (hp.inj i _ g hi hg)
            · rw [if_neg hjn] at hj hbj
              exact hp.off i g' j c bj hi hj hk hbj
        · intro i b hi
          unfold gam at hi ⊢
          by_cases hin : i = sm.w.next
          · subst hin
            rw [hg] at hi
            simp only [if_true]
            rw [← hi]
            simp [grow]
          · simp only [if_neg hin]
            cases hpi : pg i with
            | some g' => rw [hpi] at hi; exact hi
            | none =>
              rw [hpi] at hi
              simp only
              unfold grow
              rw [if_neg hin]
              exact hi
      · have hfl : isFloat sm.tmps ops[m].op = true := by
          cases hfl : isFloat sm.tmps ops[m].op with
          | true => rfl
          | false => exact absurd ⟨sm, h1, hfl, hml⟩ (hC m _ (Nat.le_refl _) (by omega) hop)
        obtain ⟨v, a, h4, h5⟩ := step_put k3
        have hw : s1.w = sm.w := by rw [(put_get h5).1]; exact (float_keeps hfl h4).1
        rw [hw]
        refine ⟨β1, pg, Le.refl _, he, ⟨hp.ahead, ?_, fun f sf q1 q2 q3 => hp.has f sf q1 q2 (by omega), hp.inj, hp.off⟩, Le.refl _⟩
        intro i g hi
        obtain ⟨t1, f', o', sf', e', z', t2, t3, t4⟩ := hp.row i g hi
        have : f' ≠ m := by rintro rfl; exact hml t2
        exact ⟨t1, f', o', sf', e', z', t2, by omega, t4⟩
    obtain ⟨β2, pg2, q1, q2, q3, q4⟩ := one
    obtain ⟨β3, pg3, r1, r2, r3, r4⟩ := ih (m + 1) s1 sj β2 pg2 (by omega) k2 (by rwa [show m + 1 + d = m + (d + 1) by omega]) q2 q3 (fun f t1 t2 t3 => hL f t1 (by omega) (by omega)) (fun c oc t1 t2 => hC c oc (by omega) (by omega))
    exact ⟨β3, pg3, q1.trans r1, r2, by rwa [show m + (d + 1) = m + 1 + d by omega], q4.trans r4⟩

theorem set_getD (L : Array Bool) (i j : Nat) (h : i < L.size) : (L.setIfInBounds i true).getD j false = if j = i then true else L.getD j false := by
  rw [Array.getD_eq_getD_getElem?, Array.getElem?_setIfInBounds, Array.getD_eq_getD_getElem?]
  by_cases hj : i = j
  · subst hj; simp [h]
  · rw [if_neg hj, if_neg (Ne.symm hj)]

theorem mid_step (hcall : ∀ w0, CallOk P w0 call) (hcs : CallSince call) {β : Pl} {s s' : St} {sts : List St} {lts : List Nat} (hbnd : ∀ f ∈ lts, f < ops.size) {df : List Deferred} (ht : Txt P call ops s s' sts) (hf : Free P call ops sts lts) {L : Array Bool} {act : Act} {w : World}
    (h : Mid P w0 β call ops s s' sts lts df L act w) {i : Nat} (hi : i ∈ Region.ready .any ops L) {Q : Exit → Act → World → Prop} {K : Act → World → Prop}
    (hK : ∀ act1 w1, Mid P w0 β call ops s s' sts lts df (L.setIfInBounds i true) act1 w1 → K act1 w1) : wpOp P ops Q i K act w := by
  obtain ⟨hun, o, ho, hpre⟩ := mem_ready.1 hi
  have hlt : i < ops.size := (Array.getElem?_eq_some_iff.1 ho).1
  have hiL : i < L.size := by rw [h.size]; exact hlt
  have hnot : L.getD i false = false := by
    rw [Array.getD_eq_getD_getElem?, Array.getElem?_eq_getElem hiL] at hun ⊢
    simpa using hun
  obtain ⟨β1, m, sm, pg, h1, h2, h2b, h3, h4, h5, hpd, h6, h7⟩ := h.mem
  obtain ⟨si, si', k1, k2, k3⟩ := ht.next i o ho
  obtain ⟨v, a1, hv, hput⟩ := step_put k3
  obtain ⟨p1, p2, p3, p4⟩ := put_get hput
  -- what has gone ahead
  have hanc : ∀ j, Anc ops i j → L.getD j false = true := fun j hj => hj.ready (L := fun j => L.getD j false = true) h.closed ho hpre
  have hafter : ∀ j, Anc ops j i → L.getD j false = false := by
    intro j hj
    cases hb : L.getD j false with
    | false => rfl
    | true => have := hj.listed (L := fun j => L.getD j false = true) h.closed hb; simp only [hnot] at this; cases this
  -- the slots that it looks at
  have hslots : ∀ k, k ∈ o.looksAt ops → VR (gam β1 pg) ((si.tmps.get k).getD undef) (act.tmps.getD k undef) := by
    intro k hk
    by_cases hw : ∃ (j : Nat) (oj : Oper), ops[j]? = some oj ∧ oj.dst = some k
    · obtain ⟨j, oj, hj, hd⟩ := hw
      have huniq : ∀ (j' : Nat) (o' : Oper), ops[j']? = some o' → o'.dst = some k → j' = j := by
        intro j' o' hj' hd'
        by_cases hne : j' = j
        · exact hne
        · exact absurd hd' (hf.uniq j' j o' oj k hne hj' hj hd)
      by_cases hji : j = i
      · subst hji
        have e1 := (ht.early k j si (by omega) k1 (fun j' o' hj' ho' hd' => by have := huniq j' o' ho' hd'; omega)).1
        rw [e1]
        exact h6 k fun j' o' ho' hd' => by rw [huniq j' o' ho' hd']; exact hnot
      · have hs := hf.slots i j o oj k (Ne.symm hji) ho hj hd hk
        rcases Nat.lt_or_ge j i with hlt' | hge
        · rw [Nat.max_eq_left (by omega), Nat.min_eq_right (by omega)] at hs
          have hL := hanc j hs
          have e1 := ht.late k (ops.size - i) i si (by omega) k1 (fun j' o' hj' ho' hd' => by have := huniq j' o' ho' hd'; omega)
          rw [← e1]
          exact h7 j oj k hj hd hL
        · rw [Nat.max_eq_right (by omega), Nat.min_eq_left (by omega)] at hs
          have hL := hafter j hs
          have e1 := (ht.early k i si (by omega) k1 (fun j' o' hj' ho' hd' => by have := huniq j' o' ho' hd'; omega)).1
          rw [e1]
          exact h6 k fun j' o' ho' hd' => by rw [huniq j' o' ho' hd']; exact hL
    · have e1 := (ht.early k i si (by omega) k1 (fun j o' _ ho' hd' => hw ⟨j, o', ho', hd'⟩)).1
      rw [e1]
      exact h6 k fun j o' ho' hd' => absurd ⟨j, o', ho', hd'⟩ hw
  -- its value at the end, and what is left of the invariant
  have hfinish : ∀ (β2 : Pl) (v' : Value) (w1 : World) (m' : Nat) (sm' : St) (pg' : Nat → Option Nat), Le β1 β2 → Le (gam β1 pg) (gam β2 pg') → sts[m']? = some sm' → m' ≤ ops.size → Emb P w0 β2 sm'.w w1 → VR (gam β2 pg') v v' →
      (m' = 0 ∨ ∃ (c : Nat) (oc : Oper), ops[c]? = some oc ∧ Ch lts sts c oc ∧ m' = c + 1) →
      (∀ (c : Nat) (oc : Oper), ops[c]? = some oc → Ch lts sts c oc → ((L.setIfInBounds i true).getD c false = true ↔ c < m')) →
      Pend P w0 β2 ops sts lts (L.setIfInBounds i true) m' sm'.w w1 pg' →
      K (act.put o.dst v') w1 := by
    intro β2 v' w1 m' sm' pg' q1 q1g q2 q2b q3 q4 q5 q6 q7
    refine hK _ _ ⟨by simpa using h.size, ?_, by rw [act_put_defers]; exact h.defers, by rw [act_put_size]; exact h.asize, β2, m', sm', pg', h1.trans q1, q2, q2b, q3, q5, q6, q7, ?_, ?_⟩
    · intro j oj hj hoj e he hb
      rw [set_getD L i _ hiL] at hj ⊢
      split
      · rfl
      · by_cases hji : j = i
        · subst hji; rw [ho] at hoj; injection hoj with hoj; subst hoj; exact hpre e he hb
        · rw [if_neg hji] at hj; exact h.closed j oj hj hoj e he hb
    · intro k hk
      rw [act_put_getD]
      have hd : o.dst ≠ some k := by
        intro hd
        have := hk i o ho hd
        rw [set_getD L i i hiL] at this
        simp at this
      rw [if_neg (by simp [hd])]
      refine (h6 k fun j oj hoj hdj => ?_).mono q1g
      have := hk j oj hoj hdj
      rw [set_getD L i j hiL] at this
      by_cases hji : j = i
      · rw [if_pos hji] at this; cases this
      · rwa [if_neg hji] at this
    · intro j oj k hoj hdj hj
      rw [set_getD L i j hiL] at hj
      rw [act_put_getD]
      by_cases hji : j = i
      · subst hji
        rw [ho] at hoj; injection hoj with hoj; subst hoj
        have hsn : si.n = s.n := by
          by_cases h0 : ∃ (k' : Nat), ∀ (j' : Nat) (o' : Oper), j' < j → ops[j']? = some o' → o'.dst ≠ some k'
          · obtain ⟨k', hk'⟩ := h0
            exact (ht.early k' j si (by omega) k1 hk').2
          · -- the slot itself is written once
            refine (ht.early k j si (by omega) k1 fun j' o' hj' ho' hd' => ?_).2
            exact hf.uniq j' j o' o k (by omega) ho' ho hdj hd'
        have hkn := p3 k hdj
        rw [if_pos ⟨hdj, by have := h.asize; have : k < s.n := hsn ▸ hkn; omega⟩]
        have e1 := ht.late k (ops.size - (j + 1)) (j + 1) si' (by omega) k2 (fun j' o' hj' ho' hd' => hf.uniq j' j o' o k (by omega) ho' ho hdj hd')
        rw [e1, p4, if_pos hdj]
        exact q4
      · rw [if_neg hji] at hj
        rw [if_neg (by rintro ⟨hd, _⟩; exact hf.uniq i j o oj k (Ne.symm hji) ho hoj hdj hd)]
        exact (h7 j oj k hoj hdj hj).mono q1g
  have hkeep : ∀ (f : Nat), f ≠ i → (L.setIfInBounds i true).getD f false = L.getD f false := fun f hne => by rw [set_getD L i f hiL, if_neg hne]
  -- the chain's place and that of an operation that is to be done
  have hplace : (∀ (c : Nat) (oc : Oper), ops[c]? = some oc → Ch lts sts c oc → i < c → Anc ops c i) → m ≤ i := by
    intro hb
    rcases h4 with rfl | ⟨c, oc, r1, r2, rfl⟩
    · omega
    · have hcL := (h5 c oc r1 r2).2 (by omega)
      rcases Nat.lt_trichotomy c i with hc | hc | hc
      · omega
      · subst hc; rw [hnot] at hcL; cases hcL
      · rw [hafter c (hb c oc r1 r2 hc)] at hcL; cases hcL
  cases hfl : isFloat si.tmps o.op with
  | true =>
    -- it doesn't touch memory, or only loads
    obtain ⟨g1, g2, g3⟩ := float_keeps hfl hv
    have hstep : stepV P call ops si.tmps o sm.w = some (v, sm.w) := by
      cases hl : isLoad o.op with
      | false => exact g2 hl sm.w
      | true =>
        obtain ⟨sk, sj, u, b, u', b', r1, r2, r3, r4, r5⟩ := hf.loads i o ho hl m h4 (fun c oc q1 q2 hcm hac => by
            have := (h5 c oc q1 q2).2 hcm
            rw [hafter c hac] at this; cases this) (fun c oc q1 q2 hcm hac => by
            have := (h5 c oc q1 q2).1 (hanc c hac)
            omega)
        rw [h2] at r1; injection r1 with r1; subst r1
        rw [k1] at r2; injection r2 with r2; subst r2
        rw [hv] at r4
        simp only [Option.some.injEq, Prod.mk.injEq] at r4
        have := g3 sm.w u b r3
        rw [r3, this, r5, ← r4.1]
    have hil : i ∉ lts := by
      intro hil
      obtain ⟨e, he, _⟩ := hf.late i o hil ho
      rw [he] at hfl; cases hfl
    refine stepV_float ho (h3.toEmbR.widen (le_gam h3 hpd.ahead) (gam_heap h3 hpd.ahead)) hfl hslots hstep fun v' q3 => ?_
    refine hfinish β1 v' w m sm pg (Le.refl _) (Le.refl _) h2 h2b h3 q3 h4 (fun c oc r1 r2 => ?_) ⟨hpd.ahead, (fun j g hj => by
      obtain ⟨t1, f, o', sf, e', z', t2, t3, t4, t5, t6, t7, t8, t9, t10⟩ := hpd.row j g hj
      exact ⟨t1, f, o', sf, e', z', t2, t3, t4, t5, t6, t7, t8, t9, by rw [hkeep f (by rintro rfl; exact hil t2)]; exact t10⟩), fun f sf t1 t2 t3 t4 => hpd.has f sf t1 t2 t3 (by rwa [hkeep f (by rintro rfl; exact hil t1)] at t4), hpd.inj, hpd.off⟩
    have hci : c ≠ i := by
      rintro rfl
      rw [ho] at r1; injection r1 with r1; subst r1
      obtain ⟨sc, r3, r4, _⟩ := r2
      rw [k1] at r3; injection r3 with r3; subst r3
      rw [hfl] at r4; cases r4
    rw [hkeep c hci]; exact h5 c oc r1 r2
  | false =>
    by_cases hil : i ∈ lts
    · -- an alloc that may come early
      have hmi : m ≤ i := hplace fun c oc r1 r2 r3 => hf.behind i c o oc hil ho r1 r2 r3
      obtain ⟨e, he, hgd⟩ := hf.late i o hil ho
      obtain ⟨z, z1, z2, z3⟩ := alloc_val he hgd hv
      subst z3
      have hnx : sm.w.next ≤ si.w.next := (ht.since hcs (i - m) m sm si (by omega) h2 (by rw [show m + (i - m) = i by omega]; exact k1)).1.2.1
      have hpn : pg si.w.next = none := by
        cases hp : pg si.w.next with
        | none => rfl
        | some g =>
          exfalso
          obtain ⟨_, f, o', sf, e', z', t2, t3, t4, t5, t6, t7, t8, t9, t10⟩ := hpd.row _ g hp
          rcases Nat.lt_trichotomy f i with hlt' | heq | hgt
          · obtain ⟨sf', hsf'⟩ : ∃ sf', sts[f + 1]? = some sf' := by
              obtain ⟨_, sf', _, q, _⟩ := ht.next f o' t4
              exact ⟨sf', q⟩
            obtain ⟨_, _, _, _, _, _, u6⟩ := late_step ht hf t2 t4 t5 hsf'
            have := (ht.since hcs (i - (f + 1)) (f + 1) sf' si (by omega) hsf' (by rw [show f + 1 + (i - (f + 1)) = i by omega]; exact k1)).1.2.1
            omega
          · subst heq
            rw [hnot] at t10; cases t10
          · obtain ⟨_, _, _, _, _, _, u6⟩ := late_step ht hf hil ho k1 k2
            have := (ht.since hcs (f - (i + 1)) (i + 1) si' sf (by have := hbnd f t2; omega) k2 (by rw [show i + 1 + (f - (i + 1)) = f by omega]; exact t5)).1.2.1
            omega
      unfold wpOp
      simp only [ho]
      have hw : Region.wanted o (yielded ops act.tmps) = true := by unfold Region.wanted; rw [hgd]
      rw [hw]
      simp only [if_true]
      refine .inl ?_
      unfold Oper.wp
      have hex : (execOp act.eval o).run P w = .ok (.value (.pointer (some ⟨w.heap.size, 0, none⟩))) (w.alloc (.cells z.cells e)) := by
        simp only [execOp, he, Sem.run_bind, alloc_run z1 w, Result.andThen_ok, Sem.run_pure]
      rw [hex]
      have hle : Le (gam β1 pg) (gam β1 fun j => if j = si.w.next then some w.heap.size else pg j) := by
        intro j b hj
        unfold gam at hj ⊢
        by_cases hjn : j = si.w.next
        · subst hjn
          rw [hpn] at hj
          simp only at hj
          rw [(h3.fresh _ hnx).2] at hj; cases hj
        · simp only [if_neg hjn]; exact hj
      refine hfinish β1 _ _ m sm _ (Le.refl _) hle h2 h2b (h3.grows _) ?_ h4 (fun c oc r1 r2 => ?_) ⟨?_, ?_, ?_, ?_, ?_⟩
      · refine .ptr ⟨rfl, ⟨w.heap.size, 0, 0⟩, ?_, by simp⟩
        simp [gam]
      · have hci : c ≠ i := by
          rintro rfl
          obtain ⟨_, _, _, r3⟩ := r2
          exact r3 hil
        rw [hkeep c hci]; exact h5 c oc r1 r2
      · intro j g hj
        split at hj
        · rename_i hjn; omega
        · exact hpd.ahead j g hj
      · intro j g hj
        split at hj
        · rename_i hjn
          injection hj with hj; subst hj
          exact ⟨.inl h3.below.size, i, o, si, e, z, hil, hmi, ho, k1, hjn.symm, he, z1, (MapKept.heap_alloc w _).1, by rw [set_getD L i i hiL]; simp⟩
        · obtain ⟨t1, f, o', sf, e', z', t2, t3, t4, t5, t6, t7, t8, t9, t10⟩ := hpd.row j g hj
          exact ⟨t1, f, o', sf, e', z', t2, t3, t4, t5, t6, t7, t8, by rw [(MapKept.heap_alloc w _).2 g (Array.getElem?_eq_some_iff.1 t9).1]; exact t9, by rw [set_getD L i f hiL]; split <;> simp_all⟩
      · intro f sf t1 t2 t3 t4
        by_cases hfi : f = i
        · subst hfi
          rw [k1] at t2; injection t2 with t2; subst t2
          exact ⟨_, if_pos rfl⟩
        · rw [hkeep f hfi] at t4
          obtain ⟨g, hg⟩ := hpd.has f sf t1 t2 t3 t4
          refine ⟨g, ?_⟩
          rw [if_neg]
          · exact hg
          · intro hn; rw [hn, hpn] at hg; cases hg
      · intro j j' g hj hj'
        have old : ∀ j g, pg j = some g → g ≠ w.heap.size := by
          intro j g hj
          obtain ⟨_, _, _, _, _, _, _, _, _, _, _, _, _, t9, _⟩ := hpd.row j g hj
          have := (Array.getElem?_eq_some_iff.1 t9).1
          omega
        split at hj
        · split at hj'
          · omega
          · injection hj with hj; subst hj
            exact absurd rfl (old _ _ hj')
        · split at hj'
          · injection hj' with hj'; subst hj'
            exact absurd rfl (old _ _ hj)
          · exact hpd.inj j j' g hj hj'
      · intro j g k c bk hj hk hkk hbk
        split at hj
        · injection hj with hj; subst hj
          obtain ⟨bi, _, _, g1, _, _, g4, _⟩ := h3.blk k c hk hkk
          rw [hbk] at g1; injection g1 with g1; subst g1
          have := (Array.getElem?_eq_some_iff.1 g4).1
          omega
        · exact hpd.off j g k c bk hj hk hkk hbk
    · -- the next one of the chain
      have hci : Ch lts sts i o := ⟨si, k1, hfl, hil⟩
      have hmi : m ≤ i := hplace fun c oc r1 r2 r3 => hf.chain i c o oc ho r1 hci r2 r3
      have hbetween : ∀ (c : Nat) (oc : Oper), m ≤ c → c < m + (i - m) → ops[c]? = some oc → ¬ Ch lts sts c oc := by
        intro c oc hmc hlt' r1 r2
        have hL := hanc c (hf.chain c i oc o r1 ho r2 hci (by omega))
        have := (h5 c oc r1 r2).1 hL
        omega
      obtain ⟨β2, pg2, a1', a2, a3, a4⟩ := adopt_all hcs hbnd ht hf (i - m) m sm si β1 pg (by omega) h2 (by rw [show m + (i - m) = i by omega]; exact k1) h3 hpd (fun f t1 t2 t3 => hanc f (by
        obtain ⟨of, hof⟩ : ∃ of, ops[f]? = some of := ⟨_, Array.getElem?_eq_getElem (hbnd f t1)⟩
        exact hf.behind f i of o t1 hof ho hci (by omega))) hbetween
      rw [show m + (i - m) = i by omega] at a3
      have hrow := a3.row
      have hreb : Emb P (w0.now w fun g => ∃ j, pg2 j = some g) β2 si.w w := a2.rebase (fun j c bj q1 q2 q3 q4 => by
          obtain ⟨j', hj'⟩ := q4
          exact a3.off j' _ j c bj hj' q1 q2 q3 rfl) (fun g ⟨j, hj⟩ => by
          obtain ⟨_, _, _, _, _, _, _, _, _, _, _, _, _, t9, _⟩ := hrow j g hj
          exact ⟨_, _, _, t9⟩)
      have hslots2 : ∀ k, k ∈ o.looksAt ops → VR β2 ((si.tmps.get k).getD undef) (act.tmps.getD k undef) := by
        intro k hk
        have hg := (hslots k hk).mono a4
        rcases hf.bnd with hb | hb
        · have hnone : ∀ j, pg2 j = none := by
            intro j
            cases hj : pg2 j with
            | none => rfl
            | some g =>
              obtain ⟨_, f, _, _, _, _, t2, _⟩ := hrow j g hj
              rw [hb] at t2; cases t2
          have : gam β2 pg2 = β2 := by funext j; unfold gam; rw [hnone j]
          rwa [this] at hg
        · refine bounded_narrow (n := si.w.next) (fun j b hj hgj => ?_) 4 _ _ hg (hb i o si ho k1 hci k hk)
          unfold gam at hgj
          cases hp : pg2 j with
          | none => rw [hp] at hgj; exact hgj
          | some g => have := a3.ahead j g hp; omega
      refine stepV_sound (hcall _) ho hreb hslots2 hv fun β3 v' w1 q1 q2 q3 => ?_
      rw [← p1] at q2
      have hsince : Since si.w si'.w := step_since hcs k3
      have he3 := q2.unbase a2 q1 hsince
      have hahead : ∀ j g, pg2 j = some g → si'.w.next ≤ j := by
        intro j g hj
        obtain ⟨_, f, o', sf, e', z', t2, t3, t4, t5, t6, t7⟩ := hrow j g hj
        have hne : f ≠ i := by rintro rfl; exact hil t2
        have := (ht.since hcs (f - (i + 1)) (i + 1) si' sf (by have := hbnd f t2; omega) k2 (by rw [show i + 1 + (f - (i + 1)) = f by omega]; exact t5)).1.2.1
        omega
      have hg3 : Le (gam β2 pg2) (gam β3 pg2) := by
        intro j b hj
        unfold gam at hj ⊢
        cases hp : pg2 j with
        | some g => rw [hp] at hj; exact hj
        | none => rw [hp] at hj; exact q1 _ _ hj
      refine hfinish β3 v' w1 (i + 1) si' pg2 (a1'.trans q1) (a4.trans hg3) k2 (by omega) he3 (q3.mono (le_gam he3 hahead)) (.inr ⟨i, o, ho, hci, rfl⟩) (fun c oc r1 r2 => ?_) ⟨hahead, ?_, ?_, a3.inj, ?_⟩
      · by_cases hci' : c = i
        · subst hci'
          rw [set_getD L c c hiL]; simp
        · rw [hkeep c hci']
          constructor
          · intro hL
            have := (h5 c oc r1 r2).1 hL
            omega
          · intro hc
            exact hanc c (hf.chain c i oc o r1 ho r2 hci (by omega))
      · intro j g hj
        obtain ⟨t1, f, o', sf, e', z', t2, t3, t4, t5, t6, t7, t8, t9, t10⟩ := hrow j g hj
        have hne : f ≠ i := by rintro rfl; exact hil t2
        refine ⟨t1, f, o', sf, e', z', t2, by omega, t4, t5, t6, t7, t8, ?_, by rw [hkeep f hne]; exact t10⟩
        have hlt' := (Array.getElem?_eq_some_iff.1 t9).1
        rw [q2.below.block g (by
          rintro (e | e)
          · have e' : w.heap.size ≤ g := e
            omega
          · exact e.2 ⟨j, hj⟩)]
        exact t9
      · intro f sf t1 t2 t3 t4
        have hne : f ≠ i := by rintro rfl; exact hil t1
        rw [hkeep f hne] at t4
        exact a3.has f sf t1 t2 (by omega) t4
      · intro j g k c bk hj hk hkk hbk
        obtain ⟨bi, _, _, g1, g2, _, g4, _⟩ := q2.blk k c hk hkk
        rw [hbk] at g1; injection g1 with g1; subst g1
        intro e
        obtain ⟨_, _, _, _, _, _, _, _, _, _, _, _, _, t9, _⟩ := hrow j g hj
        have hlt' := (Array.getElem?_eq_some_iff.1 t9).1
        rcases g2 with g2 | g2
        · have e' : w.heap.size ≤ bk.blk := g2
          omega
        · exact g2.2 ⟨j, by rw [e]; exact hj⟩

theorem mid_done (hcs : CallSince call) {β : Pl} {s s' : St} {sts : List St} {lts : List Nat} (hbnd : ∀ f ∈ lts, f < ops.size) {df : List Deferred} (ht : Txt P call ops s s' sts) (hf : Free P call ops sts lts) {L : Array Bool} {act : Act} {w : World}
    (h : Mid P w0 β call ops s s' sts lts df L act w) (hr : Region.ready .any ops L = []) : ∃ β1, Le β β1 ∧ Emb P w0 β1 s'.w w ∧ Slots β1 s' act := by
  have hall : ∀ i, i < ops.size → L.getD i false = true := by
    intro i
    induction i using Nat.strongRecOn with
    | _ i ih =>
      intro hi
      cases hL : L.getD i false with
      | true => rfl
      | false =>
        have : i ∈ Region.ready .any ops L := by
          refine mem_ready.2 ⟨?_, ops[i], Array.getElem?_eq_getElem hi, fun e he hb => ?_⟩
          · have hiL : i < L.size := by rw [h.size]; exact hi
            rw [Array.getD_eq_getD_getElem?, Array.getElem?_eq_getElem hiL] at hL ⊢
            simpa using hL
          · have hlt := hf.edges i _ (Array.getElem?_eq_getElem hi) e he hb
            exact ih e.on hlt (by omega)
        rw [hr] at this; cases this
  obtain ⟨β1, m, sm, pg, h1, h2, h2b, h3, h4, h5, hpd, h6, h7⟩ := h.mem
  obtain ⟨β2, pg2, a1, a2, a3, a4⟩ := adopt_all hcs hbnd ht hf (ops.size - m) m sm s' β1 pg (by omega) h2 (by rw [show m + (ops.size - m) = ops.size by omega]; exact ht.last) h3 hpd (fun f t1 _ _ => hall f (hbnd f t1)) (fun c oc q1 q2 r1 r2 => by
    have := (h5 c oc r1 r2).1 (hall c (by omega)); omega)
  have hnone : ∀ j, pg2 j = none := by
    intro j
    cases hj : pg2 j with
    | none => rfl
    | some g =>
      obtain ⟨_, f, _, _, _, _, t2, t3, _⟩ := a3.row j g hj
      have := hbnd f t2
      omega
  have hgam : gam β2 pg2 = β2 := by funext j; unfold gam; rw [hnone j]
  rw [hgam] at a4
  refine ⟨β2, h1.trans a1, a2, fun k => ?_, ?_⟩
  · by_cases hk : ∃ (j : Nat) (oj : Oper), ops[j]? = some oj ∧ oj.dst = some k
    · obtain ⟨j, oj, hj, hd⟩ := hk
      exact (h7 j oj k hj hd (hall j (Array.getElem?_eq_some_iff.1 hj).1)).mono a4
    · have e1 := (ht.early k ops.size s' (Nat.le_refl _) ht.last (fun j o' _ ho' hd' => hk ⟨j, o', ho', hd'⟩)).1
      rw [e1]
      exact (h6 k fun j o' ho' hd' => absurd ⟨j, o', ho', hd'⟩ hk).mono a4
  · have : s'.n = s.n := by
      have key : ∀ i si, i ≤ ops.size → sts[i]? = some si → si.n = s.n := by
        intro i
        induction i with
        | zero => intro si _ hs; rw [ht.first] at hs; injection hs with hs; subst hs; rfl
        | succ i ih =>
          intro si hi hs
          obtain ⟨sj, sj', r1, r2, r3⟩ := ht.next i ops[i] (Array.getElem?_eq_getElem (by omega))
          rw [hs] at r2; injection r2 with r2; subst r2
          obtain ⟨v, a, _, h5⟩ := step_put r3
          exact (put_get h5).2.1.trans (ih sj (by omega) r1)
      exact key ops.size s' (Nat.le_refl _) ht.last
    rw [this]; exact h.asize

theorem any_sound (hcall : ∀ w0, CallOk P w0 call) (hcs : CallSince call) {β : Pl} {s s' : St} {sts : List St} {lts : List Nat} (hbnd : ∀ f ∈ lts, f < ops.size) {df : List Deferred} (ht : Txt P call ops s s' sts) (hf : Free P call ops sts lts) {Q : Exit → Act → World → Prop}
    (hQ : ∀ β1 act1 w1, Le β β1 → Emb P w0 β1 s'.w w1 → Slots β1 s' act1 → act1.defers = df → Q .normal act1 w1) :
    ∀ (fuel : Nat) (L : Array Bool) (act : Act) (w : World), L.toList.count false ≤ fuel → Mid P w0 β call ops s s' sts lts df L act w → wpAny P .any ops Q fuel L act w := by
  have hnorm : ∀ (L : Array Bool) (act : Act) (w : World), Mid P w0 β call ops s s' sts lts df L act w → Region.ready .any ops L = [] → Q .normal act w := by
    intro L act w h hr
    obtain ⟨β1, h1, h2, h3⟩ := mid_done hcs hbnd ht hf h hr
    exact hQ β1 act w h1 h2 h3 h.defers
  intro fuel
  induction fuel with
  | zero =>
    intro L act w hc h
    have hr : Region.ready .any ops L = [] := by
      cases hrr : Region.ready .any ops L with
      | nil => rfl
      | cons i r =>
        have hi : i ∈ Region.ready .any ops L := by rw [hrr]; exact List.mem_cons_self ..
        obtain ⟨hun, o, ho, _⟩ := mem_ready.1 hi
        have hlt : i < L.size := by rw [h.size]; exact (Array.getElem?_eq_some_iff.1 ho).1
        rw [Array.getD_eq_getD_getElem?, Array.getElem?_eq_getElem hlt] at hun
        have hm : false ∈ L.toList := by
          rw [Array.mem_toList_iff]
          have : L[i] = false := by simpa using hun
          rw [← this]; exact Array.getElem_mem hlt
        have := List.count_pos_iff.2 hm
        omega
    exact ⟨hr, hnorm L act w h hr⟩
  | succ fuel ih =>
    intro L act w hc h
    refine ⟨hnorm L act w h, fun i hi => ?_⟩
    refine mid_step hcall hcs hbnd ht hf h hi fun act1 w1 h1 => ih _ act1 w1 ?_ h1
    obtain ⟨hun, o, ho, _⟩ := mem_ready.1 hi
    have hlt : i < L.size := by rw [h.size]; exact (Array.getElem?_eq_some_iff.1 ho).1
    rw [Array.getD_eq_getD_getElem?, Array.getElem?_eq_getElem hlt] at hun
    have hb : L.toList[i]'(by simpa using hlt) = false := by simpa using hun
    have hcs := List.count_set (a := true) (b := false) (l := L.toList) (i := i) (by simpa using hlt)
    rw [hb] at hcs
    have e1 : (if (false == false) = true then 1 else 0) = 1 := rfl
    have e2 : (if (true == false) = true then 1 else 0) = 0 := rfl
    rw [e1, e2] at hcs
    rw [Array.toList_setIfInBounds, hcs]
    omega

theorem evDraw_sound (hcall : ∀ w0, CallOk P w0 call) (hcs : CallSince call) (hm : P.follows .mixedOrders = true) {β : Pl} {s s' : St} {act : Act} {w : World} {id : Nat} (he : Emb P w0 β s.w w) (hs : Slots β s act) (h : evDraw P call ops s = some s') {Q : Exit → Act → World → Prop}
    (hQ : ∀ β1 act1 w1, Le β β1 → Emb P w0 β1 s'.w w1 → Slots β1 s' act1 → act1.defers = act.defers → Q .normal act1 w1) : (Code.region id ops true).wp P Q act w := by
  unfold evDraw at h
  split at h
  · rename_i sts htr
    split at h
    · rename_i hof
      obtain ⟨t1, t2, t3⟩ := trace_spec _ _ _ htr
      have ht : Txt P call ops s s' sts := ⟨t2, h, fun i o ho => t3 i o (by simpa using ho)⟩
      have hf := free_spec hcs htr (fun i o ho => by obtain ⟨si, _, h1, _⟩ := ht.next i o ho; exact ⟨si, h1⟩) hof
      refine wp_region_any hm ?_
      have hbnd : ∀ f ∈ lateOnes ops sts, f < ops.size := by
        intro f hf
        obtain ⟨⟨o, i⟩, hx, rfl⟩ := List.mem_map.1 hf
        have := mem_zip (List.mem_filter.1 hx).1
        have := (List.getElem?_eq_some_iff.1 this).1
        simpa using this
      have hgam : gam β (fun _ => none) = β := rfl
      refine any_sound hcall hcs hbnd ht hf (df := act.defers) hQ ops.size _ act _ ?_ ⟨by simp, ?_, rfl, hs.size, β, 0, s, fun _ => none, Le.refl β, t2, by omega, he.drew, .inl rfl, ?_, ⟨by simp, by simp, ?_, by simp, by simp⟩, ?_, ?_⟩
      · simp
      · intro i o hi
        simp [Array.getD_eq_getD_getElem?, Array.getElem?_replicate] at hi
        split at hi <;> simp at hi
      · intro c oc _ _
        simp [Array.getD_eq_getD_getElem?, Array.getElem?_replicate]
        split <;> simp
      · intro f sf _ _ _ hj
        simp [Array.getD_eq_getD_getElem?, Array.getElem?_replicate] at hj
        split at hj <;> simp at hj
      · intro k _; exact hs.rel k
      · intro j o k _ _ hj
        simp [Array.getD_eq_getD_getElem?, Array.getElem?_replicate] at hj
        split at hj <;> simp at hj
    · cases h
  · cases h
end
end Ev
end Go.Proofs.Ythfpnpopegphbaa
