/- The model's region, in whatever order, comes to what the evaluator's comes to in the order of the text. -/
import Derived.Test.YtnpmlbpnlflkkaaEvFree
namespace Go.Proofs.Ytnpmlbpnlflkkaa
namespace Ev
open Go.RowKit

section
variable {P : Program} {w0 : Base} {call : CallF} {ops : Array Oper}

/-- The states in the order of the text. -/
structure Txt (P : Program) (call : CallF) (ops : Array Oper) (s : St) (s' : St) (sts : List St) : Prop where
  first : sts[0]? = some s
  last : sts[ops.size]? = some s'
  next : ∀ (i : Nat) (o : Oper), ops[i]? = some o → ∃ si si', sts[i]? = some si ∧ sts[i + 1]? = some si' ∧ step P call ops o si = some si'

theorem step_put {o : Oper} {s s' : St} (h : step P call ops o s = some s') : ∃ v a, stepV P call ops s.tmps o s.w = some (v, a) ∧ s.put o.dst v a = some s' := by
  unfold step at h
  cases hv : stepV P call ops s.tmps o s.w with
  | none => rw [hv] at h; cases h
  | some q => obtain ⟨v, a⟩ := q; rw [hv] at h; exact ⟨v, a, rfl, h⟩

/-- A slot that nothing wrote yet. -/
theorem Txt.early {s s' : St} {sts : List St} (h : Txt P call ops s s' sts) (k : Nat) : ∀ (i : Nat) (si : St), i ≤ ops.size → sts[i]? = some si → (∀ (j : Nat) (o : Oper), j < i → ops[j]? = some o → o.dst ≠ some k) → si.tmps.get k = s.tmps.get k ∧ si.n = s.n := by
  intro i
  induction i with
  | zero => intro si _ hs _; rw [h.first] at hs; injection hs with hs; subst hs; exact ⟨rfl, rfl⟩
  | succ i ih =>
    intro si hi hs hw
    obtain ⟨sj, sj', h1, h2, h3⟩ := h.next i ops[i] (Array.getElem?_eq_getElem (by omega))
    rw [hs] at h2; injection h2 with h2; subst h2
    obtain ⟨v, a, _, h5⟩ := step_put h3
    obtain ⟨_, h6, _, h7⟩ := put_get h5
    obtain ⟨k1, k2⟩ := ih sj (by omega) h1 (fun j o hj ho => hw j o (by omega) ho)
    refine ⟨?_, h6.trans k2⟩
    rw [h7, if_neg (hw i _ (by omega) (Array.getElem?_eq_getElem (by omega)))]
    exact k1

/-- A slot that nothing writes any more. -/
theorem Txt.late {s s' : St} {sts : List St} (h : Txt P call ops s s' sts) (k : Nat) : ∀ (d i : Nat) (si : St), i + d = ops.size → sts[i]? = some si → (∀ (j : Nat) (o : Oper), i ≤ j → ops[j]? = some o → o.dst ≠ some k) → s'.tmps.get k = si.tmps.get k := by
  intro d
  induction d with
  | zero => intro i si hi hs _; have : i = ops.size := by omega
            subst this; rw [h.last] at hs; injection hs with hs; subst hs; rfl
  | succ d ih =>
    intro i si hi hs hw
    obtain ⟨sj, sj', h1, h2, h3⟩ := h.next i ops[i] (Array.getElem?_eq_getElem (by omega))
    rw [hs] at h1; injection h1 with h1; subst h1
    obtain ⟨v, a, _, h5⟩ := step_put h3
    obtain ⟨_, h6, _, h7⟩ := put_get h5
    rw [ih (i + 1) sj' (by omega) h2 (fun j o hj ho => hw j o (by omega) ho), h7, if_neg (hw i _ (by omega) (Array.getElem?_eq_getElem (by omega)))]

/-- Memory stays between two operations of the chain. -/
theorem Txt.still {s s' : St} {sts : List St} (h : Txt P call ops s s' sts) : ∀ (d i : Nat) (si sj : St), i + d ≤ ops.size → sts[i]? = some si → sts[i + d]? = some sj →
    (∀ (c : Nat) (oc : Oper) (sc : St), i ≤ c → c < i + d → ops[c]? = some oc → sts[c]? = some sc → isFloat sc.tmps oc.op = true) → sj.w = si.w := by
  intro d
  induction d with
  | zero => intro i si sj _ h1 h2 _; rw [Nat.add_zero, h1] at h2; injection h2 with h2; subst h2; rfl
  | succ d ih =>
    intro i si sj hi h1 h2 hf
    obtain ⟨sk, sk', k1, k2, k3⟩ := h.next i ops[i] (Array.getElem?_eq_getElem (by omega))
    rw [h1] at k1; injection k1 with k1; subst k1
    obtain ⟨v, a, h4, h5⟩ := step_put k3
    obtain ⟨h6, _⟩ := put_get h5
    have hfl := hf i _ si (Nat.le_refl _) (by omega) (Array.getElem?_eq_getElem (by omega)) h1
    have ha := (float_keeps hfl h4).1
    rw [ih (i + 1) sk' sj (by omega) k2 (by rwa [show i + 1 + d = i + (d + 1) by omega]) (fun c oc sc q1 q2 q3 q4 => hf c oc sc (by omega) (by omega) q3 q4), h6, ha]

/-- What holds while some operations have been done. -/
structure Mid (P : Program) (w0 : Base) (β : Pl) (call : CallF) (ops : Array Oper) (s s' : St) (sts : List St) (defers : List Deferred) (L : Array Bool) (act : Act) (w : World) : Prop where
  size : L.size = ops.size
  closed : ∀ (i : Nat) (o : Oper), L.getD i false = true → ops[i]? = some o → ∀ e ∈ o.after, Region.binds .any e = true → L.getD e.on false = true
  defers : act.defers = defers
  asize : s.n = act.tmps.size
  mem : ∃ (β1 : Pl) (m : Nat) (sm : St), Le β β1 ∧ sts[m]? = some sm ∧ m ≤ ops.size ∧ Emb P w0 β1 sm.w w ∧
    (m = 0 ∨ ∃ (c : Nat) (oc : Oper) (sc : St), ops[c]? = some oc ∧ sts[c]? = some sc ∧ isFloat sc.tmps oc.op = false ∧ m = c + 1) ∧
    (∀ (c : Nat) (oc : Oper) (sc : St), ops[c]? = some oc → sts[c]? = some sc → isFloat sc.tmps oc.op = false → (L.getD c false = true ↔ c < m)) ∧
    (∀ k, (∀ (j : Nat) (o : Oper), ops[j]? = some o → o.dst = some k → L.getD j false = false) → VR β1 ((s.tmps.get k).getD undef) (act.tmps.getD k undef)) ∧
    (∀ (j : Nat) (o : Oper) (k : Nat), ops[j]? = some o → o.dst = some k → L.getD j false = true → VR β1 ((s'.tmps.get k).getD undef) (act.tmps.getD k undef))

theorem set_getD (L : Array Bool) (i j : Nat) (h : i < L.size) : (L.setIfInBounds i true).getD j false = if j = i then true else L.getD j false := by
  rw [Array.getD_eq_getD_getElem?, Array.getElem?_setIfInBounds, Array.getD_eq_getD_getElem?]
  by_cases hj : i = j
  · subst hj; simp [h]
  · rw [if_neg hj, if_neg (Ne.symm hj)]

theorem mid_step (hcall : CallOk P w0 call) {β : Pl} {s s' : St} {sts : List St} {df : List Deferred} (ht : Txt P call ops s s' sts) (hf : Free P call ops sts) {L : Array Bool} {act : Act} {w : World}
    (h : Mid P w0 β call ops s s' sts df L act w) {i : Nat} (hi : i ∈ Region.ready .any ops L) {Q : Exit → Act → World → Prop} {K : Act → World → Prop}
    (hK : ∀ act1 w1, Mid P w0 β call ops s s' sts df (L.setIfInBounds i true) act1 w1 → K act1 w1) : wpOp P ops Q i K act w := by
  obtain ⟨hun, o, ho, hpre⟩ := mem_ready.1 hi
  have hlt : i < ops.size := (Array.getElem?_eq_some_iff.1 ho).1
  have hiL : i < L.size := by rw [h.size]; exact hlt
  have hnot : L.getD i false = false := by
    rw [Array.getD_eq_getD_getElem?, Array.getElem?_eq_getElem hiL] at hun ⊢
    simpa using hun
  obtain ⟨β1, m, sm, h1, h2, h2b, h3, h4, h5, h6, h7⟩ := h.mem
  obtain ⟨si, si', k1, k2, k3⟩ := ht.next i o ho
  obtain ⟨v, a1, hv, hput⟩ := step_put k3
  obtain ⟨p1, p2, p3, p4⟩ := put_get hput
  -- what has gone ahead
  have hanc : ∀ j, Anc ops i j → L.getD j false = true := fun j hj => hj.ready (L := fun j => L.getD j false = true) h.closed ho hpre
  have hafter : ∀ j, Anc ops j i → L.getD j false = false := by
    intro j hj
    cases hb : L.getD j false with
    | false => rfl
    | true => have := hj.listed (L := fun j => L.getD j false = true) h.closed hb; simp only [hnot] at this; cases this
  -- the slots that it looks at
  have hslots : ∀ k, k ∈ o.looksAt ops → VR β1 ((si.tmps.get k).getD undef) (act.tmps.getD k undef) := by
    intro k hk
    by_cases hw : ∃ (j : Nat) (oj : Oper), ops[j]? = some oj ∧ oj.dst = some k
    · obtain ⟨j, oj, hj, hd⟩ := hw
      have huniq : ∀ (j' : Nat) (o' : Oper), ops[j']? = some o' → o'.dst = some k → j' = j := by
        intro j' o' hj' hd'
        by_cases hne : j' = j
        · exact hne
        · exact absurd hd' (hf.uniq j' j o' oj k hne hj' hj hd)
      by_cases hji : j = i
      · subst hji
        have e1 := (ht.early k j si (by omega) k1 (fun j' o' hj' ho' hd' => by have := huniq j' o' ho' hd'; omega)).1
        rw [e1]
        exact h6 k fun j' o' ho' hd' => by rw [huniq j' o' ho' hd']; exact hnot
      · have hs := hf.slots i j o oj k (Ne.symm hji) ho hj hd hk
        rcases Nat.lt_or_ge j i with hlt' | hge
        · rw [Nat.max_eq_left (by omega), Nat.min_eq_right (by omega)] at hs
          have hL := hanc j hs
          have e1 := ht.late k (ops.size - i) i si (by omega) k1 (fun j' o' hj' ho' hd' => by have := huniq j' o' ho' hd'; omega)
          rw [← e1]
          exact h7 j oj k hj hd hL
        · rw [Nat.max_eq_right (by omega), Nat.min_eq_left (by omega)] at hs
          have hL := hafter j hs
          have e1 := (ht.early k i si (by omega) k1 (fun j' o' hj' ho' hd' => by have := huniq j' o' ho' hd'; omega)).1
          rw [e1]
          exact h6 k fun j' o' ho' hd' => by rw [huniq j' o' ho' hd']; exact hL
    · have e1 := (ht.early k i si (by omega) k1 (fun j o' _ ho' hd' => hw ⟨j, o', ho', hd'⟩)).1
      rw [e1]
      exact h6 k fun j o' ho' hd' => absurd ⟨j, o', ho', hd'⟩ hw
  -- its value at the end, and what is left of the invariant
  have hfinish : ∀ (β2 : Pl) (v' : Value) (w1 : World) (m' : Nat) (sm' : St), Le β1 β2 → sts[m']? = some sm' → m' ≤ ops.size → Emb P w0 β2 sm'.w w1 → VR β2 v v' →
      (m' = 0 ∨ ∃ (c : Nat) (oc : Oper) (sc : St), ops[c]? = some oc ∧ sts[c]? = some sc ∧ isFloat sc.tmps oc.op = false ∧ m' = c + 1) →
      (∀ (c : Nat) (oc : Oper) (sc : St), ops[c]? = some oc → sts[c]? = some sc → isFloat sc.tmps oc.op = false → ((L.setIfInBounds i true).getD c false = true ↔ c < m')) →
      K (act.put o.dst v') w1 := by
    intro β2 v' w1 m' sm' q1 q2 q2b q3 q4 q5 q6
    refine hK _ _ ⟨by simpa using h.size, ?_, by rw [act_put_defers]; exact h.defers, by rw [act_put_size]; exact h.asize, β2, m', sm', h1.trans q1, q2, q2b, q3, q5, q6, ?_, ?_⟩
    · intro j oj hj hoj e he hb
      rw [set_getD L i _ hiL] at hj ⊢
      split
      · rfl
      · by_cases hji : j = i
        · subst hji; rw [ho] at hoj; injection hoj with hoj; subst hoj; exact hpre e he hb
        · rw [if_neg hji] at hj; exact h.closed j oj hj hoj e he hb
    · intro k hk
      rw [act_put_getD]
      have hd : o.dst ≠ some k := by
        intro hd
        have := hk i o ho hd
        rw [set_getD L i i hiL] at this
        simp at this
      rw [if_neg (by simp [hd])]
      refine (h6 k fun j oj hoj hdj => ?_).mono q1
      have := hk j oj hoj hdj
      rw [set_getD L i j hiL] at this
      by_cases hji : j = i
      · rw [if_pos hji] at this; cases this
      · rwa [if_neg hji] at this
    · intro j oj k hoj hdj hj
      rw [set_getD L i j hiL] at hj
      rw [act_put_getD]
      by_cases hji : j = i
      · subst hji
        rw [ho] at hoj; injection hoj with hoj; subst hoj
        have hsn : si.n = s.n := by
          by_cases h0 : ∃ (k' : Nat), ∀ (j' : Nat) (o' : Oper), j' < j → ops[j']? = some o' → o'.dst ≠ some k'
          · obtain ⟨k', hk'⟩ := h0
            exact (ht.early k' j si (by omega) k1 hk').2
          · -- the slot itself is written once
            refine (ht.early k j si (by omega) k1 fun j' o' hj' ho' hd' => ?_).2
            exact hf.uniq j' j o' o k (by omega) ho' ho hdj hd'
        have hkn := p3 k hdj
        rw [if_pos ⟨hdj, by have := h.asize; have : k < s.n := hsn ▸ hkn; omega⟩]
        have e1 := ht.late k (ops.size - (j + 1)) (j + 1) si' (by omega) k2 (fun j' o' hj' ho' hd' => hf.uniq j' j o' o k (by omega) ho' ho hdj hd')
        rw [e1, p4, if_pos hdj]
        exact q4
      · rw [if_neg hji] at hj
        rw [if_neg (by rintro ⟨hd, _⟩; exact hf.uniq i j o oj k (Ne.symm hji) ho hoj hdj hd)]
        exact (h7 j oj k hoj hdj hj).mono q1
  cases hfl : isFloat si.tmps o.op with
  | true =>
    -- it doesn't touch memory, or only loads
    obtain ⟨g1, g2, g3⟩ := float_keeps hfl hv
    have hstep : stepV P call ops si.tmps o sm.w = some (v, sm.w) := by
      cases hl : isLoad o.op with
      | false => exact g2 hl sm.w
      | true =>
        obtain ⟨sk, sj, u, b, u', b', r1, r2, r3, r4, r5⟩ := hf.loads i o ho hl m h4 (fun c oc sc q1 q2 q3 hcm hac => by
            have := (h5 c oc sc q1 q2 q3).2 hcm
            rw [hafter c hac] at this; cases this) (fun c oc sc q1 q2 q3 hcm hac => by
            have := (h5 c oc sc q1 q2 q3).1 (hanc c hac)
            omega)
        rw [h2] at r1; injection r1 with r1; subst r1
        rw [k1] at r2; injection r2 with r2; subst r2
        rw [hv] at r4
        simp only [Option.some.injEq, Prod.mk.injEq] at r4
        have := g3 sm.w u b r3
        rw [r3, this, r5, ← r4.1]
    refine stepV_sound hcall ho h3 hslots hstep fun β2 v' w1 q1 q2 q3 => ?_
    refine hfinish β2 v' w1 m sm q1 h2 h2b q2 q3 h4 fun c oc sc r1 r2 r3 => ?_
    rw [set_getD L i c hiL]
    by_cases hci : c = i
    · exfalso
      subst hci
      rw [ho] at r1; injection r1 with r1; subst r1
      rw [k1] at r2; injection r2 with r2; subst r2
      rw [hfl] at r3; cases r3
    · rw [if_neg hci]; exact h5 c oc sc r1 r2 r3
  | false =>
    -- the next one of the chain
    have hmi : m ≤ i := by
      rcases h4 with rfl | ⟨c, oc, sc, r1, r2, r3, rfl⟩
      · omega
      · have hcL := (h5 c oc sc r1 r2 r3).2 (by omega)
        rcases Nat.lt_trichotomy c i with hc | hc | hc
        · omega
        · subst hc; rw [hnot] at hcL; cases hcL
        · have := hf.chain i c o oc si sc ho r1 k1 r2 hfl r3 hc
          rw [hafter c this] at hcL; cases hcL
    have hbetween : ∀ (c : Nat) (oc : Oper) (sc : St), m ≤ c → c < i → ops[c]? = some oc → sts[c]? = some sc → isFloat sc.tmps oc.op = true := by
      intro c oc sc hmc hci r1 r2
      cases hfc : isFloat sc.tmps oc.op with
      | true => rfl
      | false =>
        have hL := hanc c (hf.chain c i oc o sc si r1 ho r2 k1 hfc hfl hci)
        have := (h5 c oc sc r1 r2 hfc).1 hL
        omega
    have hw : si.w = sm.w := ht.still (i - m) m sm si (by omega) h2 (by rw [show m + (i - m) = i by omega]; exact k1) (fun c oc sc q1 q2 => hbetween c oc sc q1 (by omega))
    rw [hw] at hv
    refine stepV_sound hcall ho h3 hslots hv fun β2 v' w1 q1 q2 q3 => ?_
    refine hfinish β2 v' w1 (i + 1) si' q1 k2 (by omega) (by rw [p1]; exact q2) q3 (.inr ⟨i, o, si, ho, k1, hfl, rfl⟩) fun c oc sc r1 r2 r3 => ?_
    rw [set_getD L i c hiL]
    by_cases hci : c = i
    · subst hci; simp
    · rw [if_neg hci]
      constructor
      · intro hL
        have := (h5 c oc sc r1 r2 r3).1 hL
        omega
      · intro hc
        have hci' : c < i := by omega
        exact hanc c (hf.chain c i oc o sc si r1 ho r2 k1 r3 hfl hci')

theorem mid_done {β : Pl} {s s' : St} {sts : List St} {df : List Deferred} (ht : Txt P call ops s s' sts) (hf : Free P call ops sts) {L : Array Bool} {act : Act} {w : World}
    (h : Mid P w0 β call ops s s' sts df L act w) (hr : Region.ready .any ops L = []) : ∃ β1, Le β β1 ∧ Emb P w0 β1 s'.w w ∧ Slots β1 s' act := by
  have hall : ∀ i, i < ops.size → L.getD i false = true := by
    intro i
    induction i using Nat.strongRecOn with
    | _ i ih =>
      intro hi
      cases hL : L.getD i false with
      | true => rfl
      | false =>
        have : i ∈ Region.ready .any ops L := by
          refine mem_ready.2 ⟨?_, ops[i], Array.getElem?_eq_getElem hi, fun e he hb => ?_⟩
          · have hiL : i < L.size := by rw [h.size]; exact hi
            rw [Array.getD_eq_getD_getElem?, Array.getElem?_eq_getElem hiL] at hL ⊢
            simpa using hL
          · have hlt := hf.edges i _ (Array.getElem?_eq_getElem hi) e he hb
            exact ih e.on hlt (by omega)
        rw [hr] at this; cases this
  obtain ⟨β1, m, sm, h1, h2, h2b, h3, h4, h5, h6, h7⟩ := h.mem
  have hw : s'.w = sm.w := ht.still (ops.size - m) m sm s' (by omega) h2 (by rw [show m + (ops.size - m) = ops.size by omega]; exact ht.last) (fun c oc sc q1 q2 r1 r2 => by
    cases hfc : isFloat sc.tmps oc.op with
    | true => rfl
    | false => have := (h5 c oc sc r1 r2 hfc).1 (hall c (by omega)); omega)
  refine ⟨β1, h1, by rw [hw]; exact h3, fun k => ?_, ?_⟩
  · by_cases hk : ∃ (j : Nat) (oj : Oper), ops[j]? = some oj ∧ oj.dst = some k
    · obtain ⟨j, oj, hj, hd⟩ := hk
      exact h7 j oj k hj hd (hall j (Array.getElem?_eq_some_iff.1 hj).1)
    · have e1 := (ht.early k ops.size s' (Nat.le_refl _) ht.last (fun j o' _ ho' hd' => hk ⟨j, o', ho', hd'⟩)).1
      rw [e1]
      exact h6 k fun j o' ho' hd' => absurd ⟨j, o', ho', hd'⟩ hk
  · have : s'.n = s.n := by
      have key : ∀ i si, i ≤ ops.size → sts[i]? = some si → si.n = s.n := by
        intro i
        induction i with
        | zero => intro si _ hs; rw [ht.first] at hs; injection hs with hs; subst hs; rfl
        | succ i ih =>
          intro si hi hs
          obtain ⟨sj, sj', r1, r2, r3⟩ := ht.next i ops[i] (Array.getElem?_eq_getElem (by omega))
          rw [hs] at r2; injection r2 with r2; subst r2
          obtain ⟨v, a, _, h5⟩ := step_put r3
          exact (put_get h5).2.1.trans (ih sj (by omega) r1)
      exact key ops.size s' (Nat.le_refl _) ht.last
    rw [this]; exact h.asize

theorem any_sound (hcall : CallOk P w0 call) {β : Pl} {s s' : St} {sts : List St} {df : List Deferred} (ht : Txt P call ops s s' sts) (hf : Free P call ops sts) {Q : Exit → Act → World → Prop}
    (hQ : ∀ β1 act1 w1, Le β β1 → Emb P w0 β1 s'.w w1 → Slots β1 s' act1 → act1.defers = df → Q .normal act1 w1) :
    ∀ (fuel : Nat) (L : Array Bool) (act : Act) (w : World), L.toList.count false ≤ fuel → Mid P w0 β call ops s s' sts df L act w → wpAny P .any ops Q fuel L act w := by
  have hnorm : ∀ (L : Array Bool) (act : Act) (w : World), Mid P w0 β call ops s s' sts df L act w → Region.ready .any ops L = [] → Q .normal act w := by
    intro L act w h hr
    obtain ⟨β1, h1, h2, h3⟩ := mid_done ht hf h hr
    exact hQ β1 act w h1 h2 h3 h.defers
  intro fuel
  induction fuel with
  | zero =>
    intro L act w hc h
    have hr : Region.ready .any ops L = [] := by
      cases hrr : Region.ready .any ops L with
      | nil => rfl
      | cons i r =>
        have hi : i ∈ Region.ready .any ops L := by rw [hrr]; exact List.mem_cons_self ..
        obtain ⟨hun, o, ho, _⟩ := mem_ready.1 hi
        have hlt : i < L.size := by rw [h.size]; exact (Array.getElem?_eq_some_iff.1 ho).1
        rw [Array.getD_eq_getD_getElem?, Array.getElem?_eq_getElem hlt] at hun
        have hm : false ∈ L.toList := by
          rw [Array.mem_toList_iff]
          have : L[i] = false := by simpa using hun
          rw [← this]; exact Array.getElem_mem hlt
        have := List.count_pos_iff.2 hm
        omega
    exact ⟨hr, hnorm L act w h hr⟩
  | succ fuel ih =>
    intro L act w hc h
    refine ⟨hnorm L act w h, fun i hi => ?_⟩
    refine mid_step hcall ht hf h hi fun act1 w1 h1 => ih _ act1 w1 ?_ h1
    obtain ⟨hun, o, ho, _⟩ := mem_ready.1 hi
    have hlt : i < L.size := by rw [h.size]; exact (Array.getElem?_eq_some_iff.1 ho).1
    rw [Array.getD_eq_getD_getElem?, Array.getElem?_eq_getElem hlt] at hun
    have hb : L.toList[i]'(by simpa using hlt) = false := by simpa using hun
    have hcs := List.count_set (a := true) (b := false) (l := L.toList) (i := i) (by simpa using hlt)
    rw [hb] at hcs
    have e1 : (if (false == false) = true then 1 else 0) = 1 := rfl
    have e2 : (if (true == false) = true then 1 else 0) = 0 := rfl
    rw [e1, e2] at hcs
    rw [Array.toList_setIfInBounds, hcs]
    omega

theorem evDraw_sound (hcall : CallOk P w0 call) (hcs : CallSince call) (hm : P.follows .mixedOrders = true) {β : Pl} {s s' : St} {act : Act} {w : World} {id : Nat} (he : Emb P w0 β s.w w) (hs : Slots β s act) (h : evDraw P call ops s = some s') {Q : Exit → Act → World → Prop}
    (hQ : ∀ β1 act1 w1, Le β β1 → Emb P w0 β1 s'.w w1 → Slots β1 s' act1 → act1.defers = act.defers → Q .normal act1 w1) : (Code.region id ops true).wp P Q act w := by
  unfold evDraw at h
  split at h
  · rename_i sts htr
    split at h
    · rename_i hof
      obtain ⟨t1, t2, t3⟩ := trace_spec _ _ _ htr
      have ht : Txt P call ops s s' sts := ⟨t2, h, fun i o ho => t3 i o (by simpa using ho)⟩
      have hf := free_spec hcs htr (fun i o ho => by obtain ⟨si, _, h1, _⟩ := ht.next i o ho; exact ⟨si, h1⟩) hof
      refine wp_region_any hm ?_
      refine any_sound hcall ht hf (df := act.defers) hQ ops.size _ act _ ?_ ⟨by simp, ?_, rfl, hs.size, β, 0, s, Le.refl β, t2, by omega, he.drew, .inl rfl, ?_, ?_, ?_⟩
      · simp
      · intro i o hi
        simp [Array.getD_eq_getD_getElem?, Array.getElem?_replicate] at hi
        split at hi <;> simp at hi
      · intro c oc sc _ _ _
        simp [Array.getD_eq_getD_getElem?, Array.getElem?_replicate]
        split <;> simp
      · intro k _; exact hs.rel k
      · intro j o k _ _ hj
        simp [Array.getD_eq_getD_getElem?, Array.getElem?_replicate] at hj
        split at hj <;> simp at hj
    · cases h
  · cases h
end
end Ev
end Go.Proofs.Ytnpmlbpnlflkkaa
