/- By's rule for regions with a line of operations that go one behind the other and change the world from stage to stage (calls of a reader), while others float among them: an operation of the line knows the stage, what floats knows that it is not past the ones that wait for it. -/
import Derived.Test.YtedmogacklbcmaaByN
namespace Go.Proofs.Ytedmogacklbcmaa
namespace ByL
open Go.RowKit Ev By ByN

section
variable {P : Program} {ops : Array Oper} {Q : Exit → Act → World → Prop} {V : Nat → Value → World → Prop} {T : World → World → Prop} {F : Nat → World → World → Prop} {K : Nat → Option Nat} {R : Nat → World → Prop} {n : Nat} {a0 : Act} {w0 : World}
def nxt (o : Option Nat) (s : Nat) : Nat := match o with
  | some k => k + 1
  | none => s
def Can (P : Program) (ops : Array Oper) (Q : Exit → Act → World → Prop) (V : Nat → Value → World → Prop) (T : World → World → Prop) (F : Nat → World → World → Prop) (K : Nat → Option Nat) (R : Nat → World → Prop) (a0 : Act) (w0 : World) (i : Nat) (o : Oper) : Prop :=
  ∀ (a : Act) (w : World) (s : Nat), T w0 w → R s w → (∀ k, K i = some k → s = k) → (∀ j k, K j = some k → Anc ops j i → s ≤ k) → (∀ t, (∀ (j : Nat) (oj : Oper), ops[j]? = some oj → oj.dst = some t → Anc ops j i) → a.tmps.getD t undef = a0.tmps.getD t undef) →
    (∀ (j : Nat) (oj : Oper), Anc ops i j → ops[j]? = some oj → V j (sl a oj) w) →
    (Region.wanted o (yielded ops a.tmps) = true → o.wp P a w (fun a' w' => ∃ v, a' = a.put o.dst v ∧ T w w' ∧ F s w w' ∧ R (nxt (K i) s) w' ∧ V i (vo o v) w') Q) ∧ (Region.wanted o (yielded ops a.tmps) = false → V i undef w ∧ R (nxt (K i) s) w)

structure Mid (ops : Array Oper) (V : Nat → Value → World → Prop) (T : World → World → Prop) (K : Nat → Option Nat) (R : Nat → World → Prop) (n : Nat) (a0 : Act) (w0 : World) (L : Array Bool) (a : Act) (w : World) : Prop where
  size : L.size = ops.size
  closed : ∀ (i : Nat) (o : Oper), L.getD i false = true → ops[i]? = some o → ∀ e ∈ o.after, Region.binds .any e = true → L.getD e.on false = true
  defers : a.defers = a0.defers
  asize : a.tmps.size = a0.tmps.size
  tr : T w0 w
  stg : ∃ s, R s w ∧ s ≤ n ∧ ∀ j k, K j = some k → (L.getD j false = true ↔ k < s)
  done : ∀ (j : Nat) (o : Oper), L.getD j false = true → ops[j]? = some o → V j (sl a o) w
  keep : ∀ t, (∀ (j : Nat) (o : Oper), ops[j]? = some o → o.dst = some t → L.getD j false = false) → a.tmps.getD t undef = a0.tmps.getD t undef

theorem Mid.step (hKb : ∀ j k, K j = some k → k < n) (hK1 : ∀ j j' k, K j = some k → K j' = some k → j = j') (hK2 : ∀ j k, K j = some (k + 1) → ∃ j', K j' = some k ∧ Anc ops j j') (hT : ∀ x y z : World, T x y → T y z → T x z) (hF0 : ∀ s x, F s x x) (hV : ∀ (i : Nat) (v : Value) (x y : World) (s : Nat), V i v x → T x y → F s x y → (∀ k, K i = some k → k < s) → V i v y) (hf : Fit ops a0.tmps.size)
    (hc : ∀ (i : Nat) (o : Oper), ops[i]? = some o → Can P ops Q V T F K R a0 w0 i o) (hT0 : ∀ x, T x x) {L : Array Bool} {a : Act} {w : World} (h : Mid ops V T K R n a0 w0 L a w) {i : Nat} (hi : i ∈ Region.ready .any ops L)
    {C : Act → World → Prop} (hK : ∀ a1 w1, Mid ops V T K R n a0 w0 (L.setIfInBounds i true) a1 w1 → C a1 w1) : wpOp P ops Q i C a w := by
  obtain ⟨hun, o, ho, hpre⟩ := mem_ready.1 hi
  have hlt : i < ops.size := (Array.getElem?_eq_some_iff.1 ho).1
  have hiL : i < L.size := by rw [h.size]; exact hlt
  have hnot : L.getD i false = false := by
    rw [Array.getD_eq_getD_getElem?, Array.getElem?_eq_getElem hiL] at hun ⊢
    simpa using hun
  have hpre' : ∀ e ∈ o.after, Region.binds .any e = true → L.getD e.on false = true := hpre
  obtain ⟨s, hRs, hsn, hst⟩ := h.stg
  have hsk : ∀ k, K i = some k → s = k := by
    intro k hk
    have h1 : ¬ k < s := fun hlt => by rw [(hst i k hk).2 hlt] at hnot; cases hnot
    cases k with
    | zero => omega
    | succ k =>
      obtain ⟨j', hj', hanc⟩ := hK2 i k hk
      have hd := hanc.ready (L := fun k => L.getD k false = true) (fun k ok hk hok => h.closed k ok hk hok) ho hpre'
      have := (hst j' k hj').1 hd
      omega
  have hsle : ∀ j k, K j = some k → Anc ops j i → s ≤ k := by
    intro j k hk hanc
    rcases Nat.lt_or_ge k s with hlt | hge
    · have hjl := (hst j k hk).2 hlt
      have := hanc.listed (L := fun k => L.getD k false = true) (fun k ok hk hok => h.closed k ok hk hok) hjl
      rw [hnot] at this
      cases this
    · exact hge
  have hnn : nxt (K i) s ≤ n := by
    cases hki : K i with
    | none => exact hsn
    | some k => exact hKb i k hki
  have hstn : ∀ j k, K j = some k → ((L.setIfInBounds i true).getD j false = true ↔ k < nxt (K i) s) := by
    intro j k hk
    rw [set_getD L i _ hiL]
    cases hki : K i with
    | none =>
      have hne : ¬ j = i := fun e => by rw [← e, hk] at hki; cases hki
      rw [if_neg hne]
      exact hst j k hk
    | some k' =>
      have := hsk k' hki
      subst this
      show _ ↔ k < s + 1
      by_cases hij : j = i
      · rw [if_pos hij]
        subst hij
        rw [hk] at hki
        injection hki with e
        simp
        omega
      · rw [if_neg hij]
        have hne : k ≠ s := fun e => hij (hK1 j i s (by rw [hk, e]) hki)
        have := hst j k hk
        rw [this]
        omega
  have hnext : ∀ (v : Value) (w' : World), T w w' → F s w w' → R (nxt (K i) s) w' → V i (vo o v) w' → Mid ops V T K R n a0 w0 (L.setIfInBounds i true) (a.put o.dst v) w' := by
    intro v w' ht hF' hR' hv
    refine ⟨by simp [h.size], ?_, (act_put_defers a o.dst v).trans h.defers, (act_put_size a o.dst v).trans h.asize, hT _ _ _ h.tr ht, ⟨_, hR', hnn, hstn⟩, ?_, ?_⟩
    · intro j oj hj hoj e he hb
      rw [set_getD L i _ hiL] at hj ⊢
      split
      · rfl
      · split at hj
        · rename_i hji
          subst hji
          rw [ho] at hoj; injection hoj with hoj; subst hoj
          exact hpre' e he hb
        · exact h.closed j oj hj hoj e he hb
    · intro j oj hj hoj
      rw [set_getD L i _ hiL] at hj
      split at hj
      · rename_i hji
        subst hji
        rw [ho] at hoj; injection hoj with hoj; subst hoj
        rw [sl_put a o v (fun d hd => by rw [h.asize]; exact hf.small _ _ _ ho hd)]
        exact hv
      · rename_i hji
        rw [sl_other a o oj v (fun d hd hd' => hji (hf.one _ _ _ _ _ hoj ho hd hd'))]
        exact hV _ _ _ _ s (h.done j oj hj hoj) ht hF' fun k hk => (hst j k hk).1 hj
    · intro t hkt
      rw [act_put_getD]
      rw [if_neg (by
        rintro ⟨hd, _⟩
        have := hkt i o ho hd
        rw [set_getD L i _ hiL, if_pos rfl] at this
        cases this)]
      refine h.keep t fun j oj hoj hd => ?_
      have := hkt j oj hoj hd
      rw [set_getD L i _ hiL] at this
      split at this
      · cases this
      · exact this
  obtain ⟨h1, h2⟩ := hc i o ho a w s h.tr hRs hsk hsle
    (fun t ht => h.keep t fun j oj hoj hd => by
      cases hjl : L.getD j false with
      | false => rfl
      | true =>
        have := (ht j oj hoj hd).listed (L := fun k => L.getD k false = true) (fun k ok hk hok => h.closed k ok hk hok) hjl
        rw [hnot] at this; cases this)
    (fun j oj hanc hoj => h.done j oj (hanc.ready (L := fun k => L.getD k false = true) (fun k ok hk hok => h.closed k ok hk hok) ho hpre') hoj)
  unfold wpOp
  simp only [ho]
  cases hw : Region.wanted o (yielded ops a.tmps) with
  | true =>
    rw [if_pos rfl]
    refine .inl (Oper.wp_mono ?_ (h1 hw))
    rintro a' w' ⟨v, rfl, ht, hF', hR', hv⟩
    exact hK _ _ (hnext v w' ht hF' hR' hv)
  | false =>
    rw [if_neg (by simp)]
    exact hK _ _ (hnext undef w (hT0 w) (hF0 s w) (h2 hw).2 (by rw [vo_undef]; exact (h2 hw).1))

theorem Mid.all (hf : Fit ops a0.tmps.size) {L : Array Bool} {a : Act} {w : World} (h : Mid ops V T K R n a0 w0 L a w) (hr : Region.ready .any ops L = []) : ∀ (n i : Nat), i < n → i < ops.size → L.getD i false = true := by
  intro n
  induction n with
  | zero => intro i hi; omega
  | succ n ih =>
    intro i hi hlt
    cases hl : L.getD i false with
    | true => rfl
    | false =>
      have hm : i ∈ Region.ready .any ops L := mem_ready.2 ⟨by
        have hiL : i < L.size := by rw [h.size]; exact hlt
        rw [Array.getD_eq_getD_getElem?, Array.getElem?_eq_getElem hiL] at hl ⊢
        simpa using hl, ops[i], Array.getElem?_eq_getElem hlt, fun e he hb => by
        have hlt2 := hf.back i ops[i] (Array.getElem?_eq_getElem hlt) e he hb
        exact ih e.on (by omega) (by omega)⟩
      rw [hr] at hm
      cases hm

theorem any (hKb : ∀ j k, K j = some k → k < n) (hK1 : ∀ j j' k, K j = some k → K j' = some k → j = j') (hK2 : ∀ j k, K j = some (k + 1) → ∃ j', K j' = some k ∧ Anc ops j j') (hT0 : ∀ x, T x x) (hT : ∀ x y z : World, T x y → T y z → T x z) (hF0 : ∀ s x, F s x x) (hV : ∀ (i : Nat) (v : Value) (x y : World) (s : Nat), V i v x → T x y → F s x y → (∀ k, K i = some k → k < s) → V i v y) (hf : Fit ops a0.tmps.size)
    (hc : ∀ (i : Nat) (o : Oper), ops[i]? = some o → Can P ops Q V T F K R a0 w0 i o)
    (hend : ∀ (L : Array Bool) (a : Act) (w : World), Mid ops V T K R n a0 w0 L a w → (∀ i, i < ops.size → L.getD i false = true) → Q .normal a w) :
    ∀ (fuel : Nat) (L : Array Bool) (a : Act) (w : World), L.toList.count false ≤ fuel → Mid ops V T K R n a0 w0 L a w → wpAny P .any ops Q fuel L a w := by
  have hnorm : ∀ (L : Array Bool) (a : Act) (w : World), Mid ops V T K R n a0 w0 L a w → Region.ready .any ops L = [] → Q .normal a w := fun L a w h hr => hend L a w h fun i hi => h.all hf hr (i + 1) i (by omega) hi
  intro fuel
  induction fuel with
  | zero =>
    intro L a w hcn h
    have hr : Region.ready .any ops L = [] := by
      cases hrr : Region.ready .any ops L with
      | nil => rfl
      | cons i r =>
        have hi : i ∈ Region.ready .any ops L := by rw [hrr]; exact List.mem_cons_self ..
        obtain ⟨hun, o, ho, _⟩ := mem_ready.1 hi
        have hlt : i < L.size := by rw [h.size]; exact (Array.getElem?_eq_some_iff.1 ho).1
        rw [Array.getD_eq_getD_getElem?, Array.getElem?_eq_getElem hlt] at hun
        have hm : false ∈ L.toList := by
          rw [Array.mem_toList_iff]
          have : L[i] = false := by simpa using hun
          rw [← this]; exact Array.getElem_mem hlt
        have := List.count_pos_iff.2 hm
        omega
    exact ⟨hr, hnorm L a w h hr⟩
  | succ fuel ih =>
    intro L a w hcn h
    refine ⟨hnorm L a w h, fun i hi => ?_⟩
    refine h.step hKb hK1 hK2 hT hF0 hV hf hc hT0 hi fun a1 w1 h1 => ih _ a1 w1 ?_ h1
    obtain ⟨hun, o, ho, _⟩ := mem_ready.1 hi
    have hlt : i < L.size := by rw [h.size]; exact (Array.getElem?_eq_some_iff.1 ho).1
    rw [Array.getD_eq_getD_getElem?, Array.getElem?_eq_getElem hlt] at hun
    have hb : L.toList[i]'(by simpa using hlt) = false := by simpa using hun
    have hcs := List.count_set (a := true) (b := false) (l := L.toList) (i := i) (by simpa using hlt)
    rw [hb] at hcs
    have e1 : (if (false == false) = true then 1 else 0) = 1 := rfl
    have e2 : (if (true == false) = true then 1 else 0) = 0 := rfl
    rw [e1, e2] at hcs
    rw [Array.toList_setIfInBounds, hcs]
    omega

/-- The end, by the values of the slots in the text's order. -/
theorem Mid.puts (hf : Fit ops a0.tmps.size) {L : Array Bool} {a : Act} {w : World} (h : Mid ops V T K R n a0 w0 L a w) (hall : ∀ i, i < ops.size → L.getD i false = true) :
    ∃ vs : List Value, vs.length = ops.size ∧ a = By.puts ops.toList vs a0 ∧ ∀ (j : Nat) (o : Oper) (v : Value), ops[j]? = some o → vs[j]? = some v → V j (vo o v) w := by
  have hvs : ∀ (j : Nat) (o : Oper), ops[j]? = some o → (ops.toList.map fun o : Oper => a.tmps.getD (o.dst.getD 0) undef)[j]? = some (a.tmps.getD (o.dst.getD 0) undef) := by
    intro j o hj
    rw [List.getElem?_map, Array.getElem?_toList, hj]
    rfl
  refine ⟨ops.toList.map fun o => a.tmps.getD (o.dst.getD 0) undef, by simp, ?_, ?_⟩
  · refine act_ext (by rw [puts_size, h.asize]) (by rw [puts_defers, h.defers]) fun t ht => ?_
    by_cases hex : ∃ o ∈ ops.toList, o.dst = some t
    · obtain ⟨o, ho, hd⟩ := hex
      obtain ⟨j, hj⟩ := List.getElem?_of_mem ho
      have hj' : ops[j]? = some o := by rwa [Array.getElem?_toList] at hj
      rw [puts_at ops.toList _ a0 j o _ t (fun i j o o' d q1 q2 => hf.one i j o o' d (by rwa [Array.getElem?_toList] at q1) (by rwa [Array.getElem?_toList] at q2)) hj (hvs j o hj') hd (hf.small _ _ _ hj' hd), hd]
      rfl
    · rw [puts_other _ _ _ _ (fun o ho hd => hex ⟨o, ho, hd⟩)]
      exact h.keep t fun j o hj hd => (hex ⟨o, by rw [Array.mem_toList_iff]; exact Array.mem_of_getElem? hj, hd⟩).elim
  · intro j o v hj hv
    rw [hvs j o hj] at hv
    injection hv with hv
    subst hv
    rw [sl_eq]
    exact h.done j o (hall j (Array.getElem?_eq_some_iff.1 hj).1) hj

/-- THE RULE. -/
theorem region (hm : P.follows .mixedOrders = true) (n : Nat) (hKb : ∀ j k, K j = some k → k < n ∧ j < ops.size) (hKt : n = 0 ∨ ∃ j, K j = some (n - 1)) (hK1 : ∀ j j' k, K j = some k → K j' = some k → j = j') (hK2 : ∀ j k, K j = some (k + 1) → ∃ j', K j' = some k ∧ Anc ops j j') {id : Nat} {W : World} {A : Act} (hf : Fit ops A.tmps.size)
    (T : World → World → Prop) (F : Nat → World → World → Prop) (V : Nat → Value → World → Prop) (hT0 : ∀ x, T x x) (hT : ∀ x y z : World, T x y → T y z → T x z)
    (hF0 : ∀ s x, F s x x) (hV : ∀ (i : Nat) (v : Value) (x y : World) (s : Nat), V i v x → T x y → F s x y → (∀ k, K i = some k → k < s) → V i v y) (hR : R 0 W.drew)
    (hc : ∀ (i : Nat) (o : Oper), ops[i]? = some o → Can P ops Q V T F K R A W.drew i o)
    (hend : ∀ (vs : List Value) (w : World), vs.length = ops.size → T W.drew w ∧ R n w → (∀ (j : Nat) (o : Oper) (v : Value), ops[j]? = some o → vs[j]? = some v → V j (vo o v) w) → Q .normal (puts ops.toList vs A) w) :
    (Code.region id ops true).wp P Q A W := by
  refine wp_region_any hm ?_
  refine any (V := V) (T := T) (F := F) (K := K) (R := R) (n := n) (a0 := A) (w0 := W.drew) (fun j k h => (hKb j k h).1) hK1 hK2 hT0 hT hF0 hV hf hc (fun L a w h hall => ?_) ops.size _ A _ ?_ ⟨by simp, ?_, rfl, rfl, hT0 _, ⟨0, hR, Nat.zero_le _, ?_⟩, ?_, fun _ _ => rfl⟩
  · obtain ⟨vs, h1, rfl, h3⟩ := h.puts hf hall
    obtain ⟨s, hRs, hsn, hst⟩ := h.stg
    have hs : s = n := by
      rcases hKt with h0 | ⟨j, hj⟩
      · omega
      · have := (hst j _ hj).1 (hall j (hKb j _ hj).2)
        omega
    subst hs
    exact hend vs w h1 ⟨h.tr, hRs⟩ h3
  · simp
  · intro i o hi
    simp [Array.getD_eq_getD_getElem?, Array.getElem?_replicate] at hi
    split at hi <;> simp at hi
  · intro j k hj
    simp [Array.getD_eq_getD_getElem?, Array.getElem?_replicate]
    split <;> simp
  · intro j o hj
    simp [Array.getD_eq_getD_getElem?, Array.getElem?_replicate] at hj
    split at hj <;> simp at hj
end

/-! ### The rule over lists -/
section
variable {P : Program} {Q : Exit → Act → World → Prop} {T : World → World → Prop}
def kk (Ks : List (Option Nat)) (i : Nat) : Option Nat := Ks.getD i none
/-- The line is in order: each but the first waits for the one ahead of it. -/
def lineB (Ks : List (Option Nat)) (ms : List Nat) (n m : Nat) : Bool :=
  decide (Ks.length = m) && ((n == 0) || (List.range m).any fun j => kk Ks j == some (n - 1)) &&
  (List.range m).all fun j => match kk Ks j with
    | none => true
    | some k => decide (k < n) && ((List.range m).all fun j' => j' == j || kk Ks j' != some k) && (k == 0 || (List.range m).any fun j' => kk Ks j' == some (k - 1) && (ms.getD j 0).testBit j')
theorem kk_lt {Ks : List (Option Nat)} {j k : Nat} (h : kk Ks j = some k) : j < Ks.length := by
  rcases Nat.lt_or_ge j Ks.length with h1 | h1
  · exact h1
  · unfold kk at h
    rw [List.getD_eq_getElem?_getD, List.getElem?_eq_none h1] at h
    cases h
theorem line_of {Ks : List (Option Nat)} {ms : List Nat} {n m : Nat} (h : lineB Ks ms n m = true) : (∀ j k, kk Ks j = some k → k < n ∧ j < m) ∧ (n = 0 ∨ ∃ j, kk Ks j = some (n - 1)) ∧ (∀ j j' k, kk Ks j = some k → kk Ks j' = some k → j = j') ∧
    (∀ j k, kk Ks j = some (k + 1) → ∃ j', kk Ks j' = some k ∧ (ms.getD j 0).testBit j' = true) := by
  simp only [lineB, Bool.and_eq_true, decide_eq_true_eq, Bool.or_eq_true, beq_iff_eq, List.any_eq_true, List.all_eq_true, List.mem_range] at h
  obtain ⟨⟨hl, ht⟩, ha⟩ := h
  have hj : ∀ j k, kk Ks j = some k → j < m := fun j k hk => by have := kk_lt hk; omega
  have hx : ∀ j k, kk Ks j = some k → (k < n ∧ ∀ j', j' < m → j' = j ∨ kk Ks j' ≠ some k) ∧ (k = 0 ∨ ∃ j', j' < m ∧ kk Ks j' = some (k - 1) ∧ (ms.getD j 0).testBit j' = true) := by
    intro j k hk
    have h1 := ha j (hj j k hk)
    rw [hk] at h1
    simp only [Bool.and_eq_true, decide_eq_true_eq, Bool.or_eq_true, beq_iff_eq, List.any_eq_true, List.all_eq_true, List.mem_range, bne_iff_ne] at h1
    exact h1
  refine ⟨fun j k hk => ⟨(hx j k hk).1.1, hj j k hk⟩, ?_, fun j j' k hk hk' => ?_, fun j k hk => ?_⟩
  · rcases ht with h0 | ⟨j, _, h1⟩
    · exact .inl h0
    · exact .inr ⟨j, h1⟩
  · rcases (hx j k hk).1.2 j' (hj j' k hk') with e | e
    · exact e.symm
    · exact absurd hk' e
  · rcases (hx j _ hk).2 with e | ⟨j', _, h1, h2⟩
    · omega
    · exact ⟨j', h1, h2⟩
/-- What is asked of each operation. -/
def Each (P : Program) (Q : Exit → Act → World → Prop) (T : World → World → Prop) (F : Nat → World → World → Prop) (Ks : List (Option Nat)) (R : Nat → World → Prop) (A : Act) (W : World) (l : List Oper) (ms : List Nat) (Vs : List (Value → World → Prop)) : Nat → List Oper → List (Value → World → Prop) → Prop
  | i, o :: r, V :: Vr => (∀ (a : Act) (w : World) (s : Nat), T W w → R s w → (∀ k, kk Ks i = some k → s = k) → (∀ j k, kk Ks j = some k → (ms.getD j 0).testBit i = true → s ≤ k) → same a A l ms i (o.looksAt l.toArray) → ByN.given a w l Vs (ms.getD i 0) →
      (ByN.want l a o = true → o.wp P a w (fun a' w' => ∃ v, a' = a.put o.dst v ∧ T w w' ∧ F s w w' ∧ R (nxt (kk Ks i) s) w' ∧ V (vo o v) w') Q) ∧ (ByN.want l a o = false → V undef w ∧ R (nxt (kk Ks i) s) w)) ∧ Each P Q T F Ks R A W l ms Vs (i + 1) r Vr
  | _, [], [] => True
  | _, _, _ => False

theorem Each.at {F : Nat → World → World → Prop} {Ks : List (Option Nat)} {R : Nat → World → Prop} {A : Act} {W : World} {l : List Oper} {ms : List Nat} {Vs : List (Value → World → Prop)} : ∀ (k : Nat) (r : List Oper) (Vr : List (Value → World → Prop)), Each P Q T F Ks R A W l ms Vs k r Vr → r.length = Vr.length ∧ ∀ (j : Nat) (o : Oper) (V : Value → World → Prop), r[j]? = some o → Vr[j]? = some V →
    ∀ (a : Act) (w : World) (s : Nat), T W w → R s w → (∀ x, kk Ks (k + j) = some x → s = x) → (∀ y x, kk Ks y = some x → (ms.getD y 0).testBit (k + j) = true → s ≤ x) → same a A l ms (k + j) (o.looksAt l.toArray) → ByN.given a w l Vs (ms.getD (k + j) 0) →
      (ByN.want l a o = true → o.wp P a w (fun a' w' => ∃ v, a' = a.put o.dst v ∧ T w w' ∧ F s w w' ∧ R (nxt (kk Ks (k + j)) s) w' ∧ V (vo o v) w') Q) ∧ (ByN.want l a o = false → V undef w ∧ R (nxt (kk Ks (k + j)) s) w)
  | k, [], [], _ => ⟨rfl, fun j o V h => by simp at h⟩
  | k, [], _ :: _, h => by simp [Each] at h
  | k, _ :: _, [], h => by simp [Each] at h
  | k, o :: r, V :: Vr, h => by
    obtain ⟨h1, h2⟩ := h
    obtain ⟨h3, h4⟩ := Each.at (k + 1) r Vr h2
    refine ⟨by simp [h3], fun j o' V' hj hV => ?_⟩
    cases j with
    | zero =>
      simp only [List.getElem?_cons_zero, Option.some.injEq] at hj hV
      subst hj; subst hV
      exact h1
    | succ j =>
      have := h4 j o' V' (by simpa using hj) (by simpa using hV)
      rwa [show k + 1 + j = k + (j + 1) by omega] at this

/-- What an operation leaves; in the line: where, and what comes behind it there keeps it. -/
structure Mark (T : World → World → Prop) (F : Nat → World → World → Prop) where
  on : Value → World → Prop
  lim : Option Nat
  stays : ∀ (v : Value) (x y : World) (s : Nat), on v x → T x y → F s x y → (∀ k, lim = some k → k < s) → on v y
variable {T : World → World → Prop} {F : Nat → World → World → Prop}
/-- THE RULE, BY MARKS: 'Ms': what each operation leaves; 'ms': the masks of what goes ahead of each; 'R': the world from stage to stage. -/
theorem marks (hm : P.follows .mixedOrders = true) (T : World → World → Prop) (F : Nat → World → World → Prop) (R : Nat → World → Prop) (n : Nat) (Ms : List (Mark T F)) (ms : List Nat) {id : Nat} {l : List Oper} {W : World} {A : Act} (hf : ByN.fitB l A.tmps.size = true) (hms : masks l [] = ms) (hln : lineB (Ms.map (·.lim)) ms n l.length = true)
    (hT0 : ∀ x, T x x) (hT : ∀ x y z, T x y → T y z → T x z) (hF0 : ∀ s x, F s x x) (hR : R 0 W.drew)
    (hc : Each P Q T F (Ms.map (·.lim)) R A W.drew l ms (Ms.map (·.on)) 0 l (Ms.map (·.on))) (hend : ByN.Ends Q l (Ms.map (·.on)) A (fun w => T W.drew w ∧ R n w)) : (Code.region id l.toArray true).wp P Q A W := by
  obtain ⟨hlen, hat⟩ := Each.at 0 l (Ms.map (·.on)) hc
  have hanc : ∀ i j, (ms.getD i 0).testBit j = true → Anc l.toArray i j := by
    intro i j h
    rw [← hms] at h
    exact masks_spec l.toArray l [] (fun j o h => by simpa using h) (fun i j h => by simp at h) i j h
  obtain ⟨q1, q2, q3, q4⟩ := line_of hln
  refine region (K := kk (Ms.map (·.lim))) (R := R) hm n (fun j k h => by simpa using q1 j k h) q2 q3 (fun j k h => by obtain ⟨j', h1, h2⟩ := q4 j k h; exact ⟨j', h1, hanc j j' h2⟩) (fit_of hf) T F (fun i v w => ∀ V, (Ms.map (·.on))[i]? = some V → V v w) hT0 hT hF0 (fun i v x y s h ht hF hk V hV' => ?_) hR ?_ ?_
  · rw [List.getElem?_map] at hV'
    cases hM : Ms[i]? with
    | none => rw [hM] at hV'; cases hV'
    | some M =>
      rw [hM] at hV'
      injection hV' with e
      subst e
      refine M.stays v x y s (h _ (by rw [List.getElem?_map, hM]; rfl)) ht hF fun k hkl => hk k ?_
      unfold kk
      rw [List.getD_eq_getElem?_getD, List.getElem?_map, hM]
      exact hkl
  · intro i o hi a w s htr hRs hk1 hk2 hs hg
    have hi' : l[i]? = some o := by simpa using hi
    obtain ⟨V, hVi⟩ : ∃ V, (Ms.map (·.on))[i]? = some V := ⟨_, List.getElem?_eq_getElem (by rw [← hlen]; exact (List.getElem?_eq_some_iff.1 hi').1)⟩
    rw [ByN.want_eq]
    have := hat i o V hi' hVi a w s htr hRs (by rw [Nat.zero_add]; exact hk1) (by rw [Nat.zero_add]; exact fun y x hy hb => hk2 y x hy (hanc y i hb))
      (same_of _ fun t ht => by
        rw [Nat.zero_add] at ht
        refine hs t fun j oj hj hd => hanc j i ?_
        have hz := List.all_eq_true.1 ht (oj, j) (zip_mem (by simpa using hj))
        simpa [hd] using hz)
      (ByN.given_of _ _ _ fun j oj Vj hj hVj hb => by
        rw [Nat.zero_add] at hb
        exact hg j oj (hanc i j hb) (by simpa using hj) Vj hVj)
    rw [Nat.zero_add] at this
    refine ⟨fun h => Oper.wp_mono ?_ (this.1 h), fun h => ⟨fun V' hV' => by rw [hVi] at hV'; injection hV' with e; subst e; exact (this.2 h).1, (this.2 h).2⟩⟩
    rintro a' w' ⟨v, h1, h2, h2', h3, h4⟩
    exact ⟨v, h1, h2, h2', h3, fun V' hV' => by rw [hVi] at hV'; injection hV' with e; subst e; exact h4⟩
  · intro vs w hlv htr hv
    exact ByN.Ends.use l (Ms.map (·.on)) A _ vs w hlen (by simpa using hlv) hend htr fun j o v V h0 h1 h2 => hv j o v (by simpa using h0) h1 V h2
/-- A value alone, in any place. -/
def is (x : Value) (k : Option Nat) : Mark T F := ⟨fun v _ => v = x, k, fun _ _ _ _ h _ _ _ => h⟩
def isN (k : Option Nat) : Mark T F := ⟨fun _ _ => True, k, fun _ _ _ _ h _ _ _ => h⟩
theorem ends_is {o : Oper} {r : List Oper} {x : Value} {k : Option Nat} {Ms : List (Mark T F)} {a : Act} {G : World → Prop} (h : ByN.Ends Q r (Ms.map (·.on)) (a.put o.dst x) G) : ByN.Ends Q (o :: r) ((is x k :: Ms).map (·.on)) a G := by
  intro v
  by_cases hv : vo o v = x
  · cases hd : o.dst with
    | none =>
      have e : a.put o.dst v = a.put o.dst x := by rw [hd]; rfl
      rw [hd] at e h
      rw [e]
      exact ByN.Ends.weak (fun w hw => hw.1) h
    | some d =>
      have e : v = x := by unfold vo at hv; rw [hd] at hv; exact hv
      subst e
      rw [hd] at h
      exact ByN.Ends.weak (fun w hw => hw.1) h
  · exact ByN.Ends.weak (fun w hw => hv hw.2) (ByN.ends_none _ _ _)
theorem ends_any {o : Oper} {r : List Oper} {M : Mark T F} {Ms : List (Mark T F)} {a : Act} {G : World → Prop} (h : ∀ v, ByN.Ends Q r (Ms.map (·.on)) (a.put o.dst v) (fun w => G w ∧ M.on (vo o v) w)) : ByN.Ends Q (o :: r) ((M :: Ms).map (·.on)) a G := h
theorem ends_nil {a : Act} {G : World → Prop} (h : ∀ w, G w → Q .normal a w) : ByN.Ends Q [] (([] : List (Mark T F)).map (·.on)) a G := h
theorem ends_skip {o : Oper} {r : List Oper} {M : Mark T F} {Ms : List (Mark T F)} {a : Act} {G : World → Prop} (h : ∀ v, ByN.Ends Q r (Ms.map (·.on)) (a.put o.dst v) G) : ByN.Ends Q (o :: r) ((M :: Ms).map (·.on)) a G :=
  fun v => ByN.Ends.weak (fun _ hw => hw.1) (h v)
theorem yes {p q : Prop} {b : Bool} (hw : b = true) (h : p) : (b = true → p) ∧ (b = false → q) := ⟨fun _ => h, fun e => by rw [hw] at e; cases e⟩
end
end ByL
end Go.Proofs.Ytedmogacklbcmaa
