/- Tail's rule with a pair of operations (two allocations) whose values are told apart. -/
import Derived.Test.YtigjbgjjngeinaaTail
namespace Go.Proofs.Ytigjbgjjngeinaa
namespace ByD
open Go.RowKit Ev By

section
variable {P : Program} {ops : Array Oper} {Q : Exit → Act → World → Prop} {V : Nat → Value → World → Prop} {T : World → World → Prop} {a0 : Act} {w0 : World} {I K : Nat} {D : Value → Value → Prop}
def Can (P : Program) (ops : Array Oper) (Q : Exit → Act → World → Prop) (V : Nat → Value → World → Prop) (T : World → World → Prop) (I K : Nat) (D : Value → Value → Prop) (a0 : Act) (w0 : World) (i : Nat) (o : Oper) : Prop :=
  ∀ (a : Act) (w : World), T w0 w → (∀ t, (∀ (j : Nat) (oj : Oper), ops[j]? = some oj → oj.dst = some t → Anc ops j i) → a.tmps.getD t undef = a0.tmps.getD t undef) →
    (∀ (j : Nat) (oj : Oper) (d : Tmp), Anc ops i j → ops[j]? = some oj → oj.dst = some d → V j (a.tmps.getD d undef) w) →
    (Region.wanted o (yielded ops a.tmps) = true → o.wp P a w (fun a' w' => ∃ v, a' = a.put o.dst v ∧ T w w' ∧ V i v w' ∧ (i = I → ∀ x, V K x w → D v x) ∧ (i = K → ∀ x, V I x w → D x v)) Q) ∧ (Region.wanted o (yielded ops a.tmps) = false → V i undef w ∧ i ≠ I ∧ i ≠ K)

structure Mid (ops : Array Oper) (V : Nat → Value → World → Prop) (T : World → World → Prop) (I K : Nat) (D : Value → Value → Prop) (a0 : Act) (w0 : World) (L : Array Bool) (a : Act) (w : World) : Prop where
  base : By.Mid ops V T a0 w0 L a w
  pair : ∀ (oI oK : Oper) (dI dK : Tmp), L.getD I false = true → L.getD K false = true → ops[I]? = some oI → ops[K]? = some oK → oI.dst = some dI → oK.dst = some dK → D (a.tmps.getD dI undef) (a.tmps.getD dK undef)

theorem Mid.step (hIK : I ≠ K) (hT : ∀ x y z : World, T x y → T y z → T x z) (hV : ∀ (i : Nat) (v : Value) (x y : World), V i v x → T x y → V i v y) (hf : Fit ops a0.tmps.size)
    (hc : ∀ (i : Nat) (o : Oper), ops[i]? = some o → Can P ops Q V T I K D a0 w0 i o) (hT0 : ∀ x, T x x) {L : Array Bool} {a : Act} {w : World} (hm : Mid ops V T I K D a0 w0 L a w) {i : Nat} (hi : i ∈ Region.ready .any ops L)
    {K' : Act → World → Prop} (hK : ∀ a1 w1, Mid ops V T I K D a0 w0 (L.setIfInBounds i true) a1 w1 → K' a1 w1) : wpOp P ops Q i K' a w := by
  have h := hm.base
  obtain ⟨hun, o, ho, hpre⟩ := mem_ready.1 hi
  have hlt : i < ops.size := (Array.getElem?_eq_some_iff.1 ho).1
  have hiL : i < L.size := by rw [h.size]; exact hlt
  have hnot : L.getD i false = false := by
    rw [Array.getD_eq_getD_getElem?, Array.getElem?_eq_getElem hiL] at hun ⊢
    simpa using hun
  have hpre' : ∀ e ∈ o.after, Region.binds .any e = true → L.getD e.on false = true := hpre
  have hnext : ∀ (v : Value) (w' : World), T w w' → V i v w' → By.Mid ops V T a0 w0 (L.setIfInBounds i true) (a.put o.dst v) w' := by
    intro v w' ht hv
    refine ⟨by simp [h.size], ?_, (act_put_defers a o.dst v).trans h.defers, (act_put_size a o.dst v).trans h.asize, hT _ _ _ h.tr ht, ?_, ?_⟩
    · intro j oj hj hoj e he hb
      rw [set_getD L i _ hiL] at hj ⊢
      split
      · rfl
      · split at hj
        · rename_i hji
          subst hji
          rw [ho] at hoj; injection hoj with hoj; subst hoj
          exact hpre' e he hb
        · exact h.closed j oj hj hoj e he hb
    · intro j oj d hj hoj hd
      rw [set_getD L i _ hiL] at hj
      rw [act_put_getD]
      split at hj
      · rename_i hji
        subst hji
        rw [ho] at hoj; injection hoj with hoj; subst hoj
        rw [if_pos ⟨hd, by rw [h.asize]; exact hf.small _ _ _ ho hd⟩]
        exact hv
      · rename_i hji
        rw [if_neg (by rintro ⟨hd', _⟩; exact hji (hf.one _ _ _ _ _ hoj ho hd hd'))]
        exact hV _ _ _ _ (h.done j oj d hj hoj hd) ht
    · intro t hkt
      rw [act_put_getD]
      rw [if_neg (by
        rintro ⟨hd, _⟩
        have := hkt i o ho hd
        rw [set_getD L i _ hiL, if_pos rfl] at this
        cases this)]
      refine h.keep t fun j oj hoj hd => ?_
      have := hkt j oj hoj hd
      rw [set_getD L i _ hiL] at this
      split at this
      · cases this
      · exact this
  have hpair : ∀ (v : Value) (w' : World), (i = I → ∀ x, V K x w → D v x) → (i = K → ∀ x, V I x w → D x v) → ∀ (oI oK : Oper) (dI dK : Tmp), (L.setIfInBounds i true).getD I false = true → (L.setIfInBounds i true).getD K false = true → ops[I]? = some oI → ops[K]? = some oK → oI.dst = some dI → oK.dst = some dK → D ((a.put o.dst v).tmps.getD dI undef) ((a.put o.dst v).tmps.getD dK undef) := by
    intro v w' hp1 hp2 oI oK dI dK hLI hLK hoI hoK hdI hdK
    rw [set_getD L i _ hiL] at hLI hLK
    have hne : dI ≠ dK := fun e => hIK (hf.one _ _ _ _ _ hoI hoK hdI (e ▸ hdK))
    rw [act_put_getD, act_put_getD]
    by_cases hiI : i = I
    · subst hiI
      rw [ho] at hoI; injection hoI with hoI; subst hoI
      rw [if_pos ⟨hdI, by rw [h.asize]; exact hf.small _ _ _ ho hdI⟩, if_neg (fun hh => hne (by have := hdI.symm.trans hh.1; injection this))]
      rw [if_neg (fun e => hIK e.symm)] at hLK
      exact hp1 rfl _ (h.done K oK dK hLK hoK hdK)
    · by_cases hiK : i = K
      · subst hiK
        rw [ho] at hoK; injection hoK with hoK; subst hoK
        rw [if_neg (fun hh => hne (by have := hdK.symm.trans hh.1; injection this with e; exact e.symm)), if_pos ⟨hdK, by rw [h.asize]; exact hf.small _ _ _ ho hdK⟩]
        rw [if_neg (fun e => hiI e.symm)] at hLI
        exact hp2 rfl _ (h.done I oI dI hLI hoI hdI)
      · rw [if_neg (fun hh => hiI (hf.one _ _ _ _ _ ho hoI hh.1 hdI)), if_neg (fun hh => hiK (hf.one _ _ _ _ _ ho hoK hh.1 hdK))]
        rw [if_neg (fun e => hiI e.symm)] at hLI
        rw [if_neg (fun e => hiK e.symm)] at hLK
        exact hm.pair oI oK dI dK hLI hLK hoI hoK hdI hdK
  obtain ⟨h1, h2⟩ := hc i o ho a w h.tr
    (fun t ht => h.keep t fun j oj hoj hd => by
      cases hjl : L.getD j false with
      | false => rfl
      | true =>
        have := (ht j oj hoj hd).listed (L := fun k => L.getD k false = true) (fun k ok hk hok => h.closed k ok hk hok) hjl
        rw [hnot] at this; cases this)
    (fun j oj d hanc hoj hd => h.done j oj d (hanc.ready (L := fun k => L.getD k false = true) (fun k ok hk hok => h.closed k ok hk hok) ho hpre') hoj hd)
  unfold wpOp
  simp only [ho]
  cases hw : Region.wanted o (yielded ops a.tmps) with
  | true =>
    rw [if_pos rfl]
    refine .inl (Oper.wp_mono ?_ (h1 hw))
    rintro a' w' ⟨v, rfl, ht, hv, hp1, hp2⟩
    exact hK _ _ ⟨hnext v w' ht hv, hpair v w' hp1 hp2⟩
  | false =>
    rw [if_neg (by simp)]
    exact hK _ _ ⟨hnext undef w (hT0 w) (h2 hw).1, hpair undef w (fun e => absurd e (h2 hw).2.1) (fun e => absurd e (h2 hw).2.2)⟩

end
section
variable {P : Program} {Q : Exit → Act → World → Prop} {V : Nat → Value → World → Prop} {T : World → World → Prop} {a0 : Act} {w0 : World} {I K : Nat} {D : Value → Value → Prop}
open Tail (tailB getD_left count_zero)
theorem loop (hIK : I ≠ K) (l r : List Oper) (hn : 0 < r.length) (hB : tailB l r = true) (hT0 : ∀ x, T x x) (hT : ∀ x y z : World, T x y → T y z → T x z) (hV : ∀ (i : Nat) (v : Value) (x y : World), V i v x → T x y → V i v y) (hf : Fit l.toArray a0.tmps.size)
    (hc : ∀ (i : Nat) (o : Oper), l.toArray[i]? = some o → Can P l.toArray Q V T I K D a0 w0 i o)
    (hend : ∀ (L : Array Bool) (a : Act) (w : World), Mid l.toArray V T I K D a0 w0 L a w → (∀ i, i < l.toArray.size → L.getD i false = true) → wpList P (l ++ r).toArray Q r a w) :
    ∀ (fuel : Nat) (L : Array Bool) (a : Act) (w : World), L.toList.count false = fuel → Mid l.toArray V T I K D a0 w0 L a w → wpAny P .any (l ++ r).toArray Q (fuel + r.length) (L ++ Array.replicate r.length false) a w := by
  simp only [tailB, Bool.and_eq_true, List.all_eq_true] at hB
  obtain ⟨⟨hg, hs⟩, hq⟩ := hB
  intro fuel
  induction fuel with
  | zero =>
    intro L a w hcn hmm
    have h := hmm.base
    have hL : L = Array.replicate l.length true := by
      have hz := count_zero L.toList hcn
      have hsz : L.size = l.length := by have := h.size; simpa using this
      rw [Array.length_toList, hsz] at hz
      rw [← Array.toArray_toList (xs := L), hz]
      simp
    have hall : ∀ i, i < l.toArray.size → L.getD i false = true := by
      intro i hi
      rw [hL, Array.getD_eq_getD_getElem?, Array.getElem?_replicate, if_pos (by simpa using hi)]
      rfl
    have hw := hend L a w hmm hall
    subst hL
    rw [Nat.zero_add]
    exact wpAny_of_seq r l.length _ a w (fun j => by
      rw [List.getElem?_toArray, List.getElem?_append_right (by omega)]
      congr 1
      omega) hq hw
  | succ fuel ih =>
    intro L a w hcn hmm
    have h := hmm.base
    have hsz : L.size = l.length := by have := h.size; simpa using this
    -- some operation of 'l' is left
    have hleft : ∃ i, i < l.length ∧ L.getD i false = false := by
      have hm : false ∈ L.toList := List.count_pos_iff.1 (by omega)
      obtain ⟨i, hi, he⟩ := List.getElem_of_mem hm
      refine ⟨i, by rw [← hsz]; simpa using hi, ?_⟩
      rw [Array.getD_eq_getD_getElem?, Array.getElem?_eq_getElem (by simpa using hi)]
      simpa using he
    have hsub : ∀ i, i ∈ Region.ready .any (l ++ r).toArray (L ++ Array.replicate r.length false) → i < l.length ∧ i ∈ Region.ready .any l.toArray L := by
      intro i hi
      obtain ⟨hun, o, ho, hpre⟩ := mem_ready.1 hi
      by_cases hil : i < l.length
      · refine ⟨hil, mem_ready.2 ⟨?_, o, ?_, fun e he hb => ?_⟩⟩
        · rwa [getD_left _ _ _ _ (by omega)] at hun
        · rw [List.getElem?_toArray, List.getElem?_append_left hil] at ho
          simpa using ho
        · have hlt : e.on < i := hf.back i o (by rw [List.getElem?_toArray, List.getElem?_append_left hil] at ho; simpa using ho) e he hb
          have := hpre e he hb
          rwa [getD_left _ _ _ _ (by omega)] at this
      · exfalso
        obtain ⟨j, hj, hjf⟩ := hleft
        rw [List.getElem?_toArray, List.getElem?_append_right (by omega)] at ho
        have hk : i - l.length < r.length := (List.getElem?_eq_some_iff.1 ho).1
        have hanc : Anc (l ++ r).toArray i j := by
          have := masks_spec (l ++ r).toArray (l ++ r) [] (fun j o h => by simpa using h) (fun i j h => by simp at h) i j (by
            have := hs (i - l.length) (List.mem_range.2 hk) j (List.mem_range.2 hj)
            rwa [show l.length + (i - l.length) = i by omega] at this)
          exact this
        have ho2 : (l ++ r).toArray[i]? = some o := by rw [List.getElem?_toArray, List.getElem?_append_right (by omega)]; exact ho
        have hL := Anc.ready (L := fun k => (L ++ Array.replicate r.length false).getD k false = true) (fun i o hi ho e he hb => by
          have hil : i < l.length := by
            refine Nat.lt_of_not_le fun hge => ?_
            have h1 : (L ++ Array.replicate r.length false).getD i false = true := hi
            rw [Array.getD_eq_getD_getElem?, Array.getElem?_append_right (by omega), Array.getElem?_replicate] at h1
            split at h1 <;> simp at h1
          have hlt : e.on < i := hf.back i o (by rw [List.getElem?_toArray, List.getElem?_append_left hil] at ho; simpa using ho) e he hb
          show (L ++ Array.replicate r.length false).getD e.on false = true
          rw [getD_left _ _ _ _ (by omega)]
          refine h.closed i o ?_ (by rw [List.getElem?_toArray, List.getElem?_append_left hil] at ho; simpa using ho) e he hb
          have h1 : (L ++ Array.replicate r.length false).getD i false = true := hi
          rwa [getD_left _ _ _ _ (by omega)] at h1) hanc ho2 hpre
        have hL2 : (L ++ Array.replicate r.length false).getD j false = true := hL
        rw [getD_left _ _ _ _ (by omega), hjf] at hL2
        cases hL2
    rw [show fuel + 1 + r.length = (fuel + r.length) + 1 by omega]
    refine ⟨fun hr => ?_, fun i hi => ?_⟩
    · exfalso
      have hr0 : Region.ready .any l.toArray L = [] := by
        cases hrr : Region.ready .any l.toArray L with
        | nil => rfl
        | cons i q =>
          have hi : i ∈ Region.ready .any l.toArray L := by rw [hrr]; exact List.mem_cons_self ..
          obtain ⟨hun, o, ho, hpre⟩ := mem_ready.1 hi
          have hil : i < l.length := by have := (Array.getElem?_eq_some_iff.1 ho).1; simpa using this
          have hm : i ∈ Region.ready .any (l ++ r).toArray (L ++ Array.replicate r.length false) := by
            refine mem_ready.2 ⟨?_, o, ?_, fun e he hb => ?_⟩
            · rw [getD_left _ _ _ _ (by omega)]; exact hun
            · rw [List.getElem?_toArray, List.getElem?_append_left hil]; simpa using ho
            · have hlt : e.on < i := hf.back i o ho e he hb
              rw [getD_left _ _ _ _ (by omega)]
              exact hpre e he hb
          rw [hr] at hm; cases hm
      obtain ⟨i, hi, hif⟩ := hleft
      have := h.all hf hr0 (i + 1) i (by omega) (by simpa using hi)
      rw [this] at hif; cases hif
    · obtain ⟨hil, hi0⟩ := hsub i hi
      have hstep : wpOp P l.toArray Q i (wpAny P .any (l ++ r).toArray Q (fuel + r.length) ((L ++ Array.replicate r.length false).setIfInBounds i true)) a w := by
        refine hmm.step hIK hT hV hf hc hT0 hi0 fun a1 w1 h1m => ?_
        have h1 := h1m.base
        have hset : (L ++ Array.replicate r.length false).setIfInBounds i true = L.setIfInBounds i true ++ Array.replicate r.length false := by
          apply Array.ext_getElem?
          intro k
          rw [Array.getElem?_setIfInBounds]
          by_cases hk : k < L.size
          · rw [Array.getElem?_append_left (xs := L) hk, Array.getElem?_append_left (xs := L.setIfInBounds i true) (by simpa using hk), Array.getElem?_setIfInBounds]
            by_cases hik : i = k
            · subst hik
              rw [if_pos rfl, if_pos rfl, if_pos (by simp; omega), if_pos hk]
            · rw [if_neg hik, if_neg hik]
          · rw [Array.getElem?_append_right (xs := L) (by omega), Array.getElem?_append_right (xs := L.setIfInBounds i true) (by simp; omega), if_neg (by omega)]
            simp
        rw [hset]
        refine ih _ a1 w1 ?_ h1m
        obtain ⟨hun, o, ho, _⟩ := mem_ready.1 hi0
        have hlt : i < L.size := by omega
        rw [Array.getD_eq_getD_getElem?, Array.getElem?_eq_getElem hlt] at hun
        have hb : L.toList[i]'(by simpa using hlt) = false := by simpa using hun
        have hcs := List.count_set (a := true) (b := false) (l := L.toList) (i := i) (by simpa using hlt)
        rw [hb] at hcs
        have e1 : (if (false == false) = true then 1 else 0) = 1 := rfl
        have e2 : (if (true == false) = true then 1 else 0) = 0 := rfl
        rw [e1, e2] at hcs
        rw [Array.toList_setIfInBounds, hcs]
        omega
      -- the same operation, guarded by the same
      have hop : (l ++ r).toArray[i]? = l.toArray[i]? := by
        rw [List.getElem?_toArray, List.getElem?_toArray, List.getElem?_append_left hil]
      unfold wpOp at hstep ⊢
      rw [hop]
      cases ho : l.toArray[i]? with
      | none => rw [ho] at hstep; exact hstep
      | some o =>
        rw [ho] at hstep
        have hy : Region.wanted o (yielded (l ++ r).toArray a.tmps) = Region.wanted o (yielded l.toArray a.tmps) := by
          unfold Region.wanted
          cases hgd : o.guard with
          | none => rfl
          | some jw =>
            obtain ⟨j, want⟩ := jw
            have := hg o (List.mem_of_getElem? (by simpa using ho))
            rw [hgd] at this
            have hjl : j < l.length := of_decide_eq_true this
            simp only [yielded, List.getElem?_toArray, List.getElem?_append_left hjl]
        simp only at hstep ⊢
        rw [hy]
        exact hstep

/-- The operations go one by one, in this order. -/

theorem region (hIK : I ≠ K) (hm : P.follows .mixedOrders = true) {id : Nat} {W : World} {A : Act} (l r : List Oper) (hn : 0 < r.length) (hB : tailB l r = true) (hf : Fit l.toArray A.tmps.size) (T : World → World → Prop) (V : Nat → Value → World → Prop) (hT0 : ∀ x, T x x) (hT : ∀ x y z : World, T x y → T y z → T x z)
    (hV : ∀ (i : Nat) (v : Value) (x y : World), V i v x → T x y → V i v y)
    (hc : ∀ (i : Nat) (o : Oper), l.toArray[i]? = some o → Can P l.toArray Q V T I K D A W.drew i o)
    (hend : ∀ (vs : List Value) (w : World), vs.length = l.toArray.size → T W.drew w → (∀ (j : Nat) (o : Oper) (v : Value), l.toArray[j]? = some o → o.dst.isSome = true → vs[j]? = some v → V j v w) → (∀ (oI oK : Oper) (dI dK : Tmp), l.toArray[I]? = some oI → l.toArray[K]? = some oK → oI.dst = some dI → oK.dst = some dK → D ((puts l.toArray.toList vs A).tmps.getD dI undef) ((puts l.toArray.toList vs A).tmps.getD dK undef)) → wpList P (l ++ r).toArray Q r (puts l.toArray.toList vs A) w) :
    (Code.region id (l ++ r).toArray true).wp P Q A W := by
  refine wp_region_any hm ?_
  have hL : Array.replicate (l ++ r).toArray.size false = Array.replicate l.length false ++ Array.replicate r.length false := by
    rw [List.size_toArray, List.length_append, Array.replicate_append_replicate]
  have hcnt : (Array.replicate l.length false).toList.count false = l.length := by simp
  have hsz : (l ++ r).toArray.size = l.length + r.length := by simp
  rw [hL, hsz]
  refine loop hIK (V := V) (T := T) (a0 := A) (w0 := W.drew) l r hn hB hT0 hT hV hf hc (fun L a w h hall => ?_) l.length _ A _ hcnt ⟨⟨by simp, ?_, rfl, rfl, hT0 _, ?_, fun _ _ => rfl⟩, ?_⟩
  · obtain ⟨vs, h1, hvs, h3⟩ := h.base.puts hf hall
    have hp := h.pair
    rw [hvs] at hp ⊢
    exact hend vs w h1 h.base.tr h3 fun oI oK dI dK q1 q2 => hp oI oK dI dK (hall I (Array.getElem?_eq_some_iff.1 q1).1) (hall K (Array.getElem?_eq_some_iff.1 q2).1) q1 q2
  · intro i o hi
    simp [Array.getD_eq_getD_getElem?, Array.getElem?_replicate] at hi
    split at hi <;> simp at hi
  · intro j o d hj
    simp [Array.getD_eq_getD_getElem?, Array.getElem?_replicate] at hj
    split at hj <;> simp at hj
  · intro oI oK dI dK hj
    simp [Array.getD_eq_getD_getElem?, Array.getElem?_replicate] at hj
    split at hj <;> simp at hj
/-- What is asked of each operation. -/
def Each (P : Program) (Q : Exit → Act → World → Prop) (T : World → World → Prop) (I K : Nat) (D : Value → Value → Prop) (VI VK : Value → World → Prop) (A : Act) (W : World) (l : List Oper) (ms : List Nat) (Vs : List (Value → World → Prop)) : Nat → List Oper → List (Value → World → Prop) → Prop
  | i, o :: r, V :: Vr => (∀ (a : Act) (w : World), T W w → same a A l ms i (o.looksAt l.toArray) → given a w l Vs (ms.getD i 0) →
      (want l a o = true → o.wp P a w (fun a' w' => ∃ v, a' = a.put o.dst v ∧ T w w' ∧ V v w' ∧ (i = I → ∀ x, VK x w → D v x) ∧ (i = K → ∀ x, VI x w → D x v)) Q) ∧ (want l a o = false → V undef w ∧ i ≠ I ∧ i ≠ K)) ∧ Each P Q T I K D VI VK A W l ms Vs (i + 1) r Vr
  | _, [], [] => True
  | _, _, _ => False
theorem Each.at {VI VK : Value → World → Prop} {A : Act} {W : World} {l : List Oper} {ms : List Nat} {Vs : List (Value → World → Prop)} : ∀ (k : Nat) (r : List Oper) (Vr : List (Value → World → Prop)), Each P Q T I K D VI VK A W l ms Vs k r Vr → r.length = Vr.length ∧ ∀ (j : Nat) (o : Oper) (V : Value → World → Prop), r[j]? = some o → Vr[j]? = some V →
    ∀ (a : Act) (w : World), T W w → same a A l ms (k + j) (o.looksAt l.toArray) → given a w l Vs (ms.getD (k + j) 0) →
      (want l a o = true → o.wp P a w (fun a' w' => ∃ v, a' = a.put o.dst v ∧ T w w' ∧ V v w' ∧ (k + j = I → ∀ x, VK x w → D v x) ∧ (k + j = K → ∀ x, VI x w → D x v)) Q) ∧ (want l a o = false → V undef w ∧ k + j ≠ I ∧ k + j ≠ K)
  | k, [], [], _ => ⟨rfl, fun j o V h => by simp at h⟩
  | k, [], _ :: _, h => by simp [Each] at h
  | k, _ :: _, [], h => by simp [Each] at h
  | k, o :: r, V :: Vr, h => by
    obtain ⟨h1, h2⟩ := h
    obtain ⟨h3, h4⟩ := Each.at (k + 1) r Vr h2
    refine ⟨by simp [h3], fun j o' V' hj hV => ?_⟩
    cases j with
    | zero =>
      simp only [List.getElem?_cons_zero, Option.some.injEq] at hj hV
      subst hj; subst hV
      exact h1
    | succ j =>
      have := h4 j o' V' (by simpa using hj) (by simpa using hV)
      rwa [show k + 1 + j = k + (j + 1) by omega] at this

theorem go (hIK : I ≠ K) (hm : P.follows .mixedOrders = true) (r : List Oper) (hn : 0 < r.length) (ms : List Nat) (Vs : List (Value → World → Prop)) (T : World → World → Prop) {id : Nat} {l : List Oper} {W : World} {A : Act} (hB : tailB l r = true) (hf : fitB l A.tmps.size = true) (hms : masks l [] = ms)
    (hT0 : ∀ x, T x x) (hT : ∀ x y z, T x y → T y z → T x z) (hV : ∀ V ∈ Vs, ∀ (v : Value) (x y : World), V v x → T x y → V v y)
    {VI VK : Value → World → Prop} (hVI : Vs[I]? = some VI) (hVK : Vs[K]? = some VK) {oI oK : Oper} {dI dK : Tmp} (hoI : l[I]? = some oI) (hoK : l[K]? = some oK) (hdI : oI.dst = some dI) (hdK : oK.dst = some dK) (hc : Each P Q T I K D VI VK A W.drew l ms Vs 0 l Vs) (hend : By.Ends (fun _ a w => D (a.tmps.getD dI undef) (a.tmps.getD dK undef) → wpList P (l ++ r).toArray Q r a w) l Vs A (fun w => T W.drew w)) : (Code.region id (l ++ r).toArray true).wp P Q A W := by
  have hsome : ∀ oj ∈ l, oj.dst.isSome = true := by
    simp only [fitB, Bool.and_eq_true, List.all_eq_true] at hf
    exact hf.2
  obtain ⟨hlen, hat⟩ := Each.at 0 l Vs hc
  have hanc : ∀ i j, (ms.getD i 0).testBit j = true → Anc l.toArray i j := by
    intro i j h
    rw [← hms] at h
    exact masks_spec l.toArray l [] (fun j o h => by simpa using h) (fun i j h => by simp at h) i j h
  refine region (D := D) hIK hm l r hn hB (fit_of hf) T (fun i v w => ∀ V, Vs[i]? = some V → V v w) hT0 hT (fun i v x y h ht V hV' => hV V (List.mem_of_getElem? hV') v x y (h V hV') ht) ?_ ?_
  · intro i o hi a w htr hs hg
    have hi' : l[i]? = some o := by simpa using hi
    obtain ⟨V, hVi⟩ : ∃ V, Vs[i]? = some V := ⟨_, List.getElem?_eq_getElem (by rw [← hlen]; exact (List.getElem?_eq_some_iff.1 hi').1)⟩
    rw [want_eq hsome]
    have := hat i o V hi' hVi a w htr
      (same_of _ fun t ht => by
        rw [Nat.zero_add] at ht
        refine hs t fun j oj hj hd => hanc j i ?_
        have hz := List.all_eq_true.1 ht (oj, j) (zip_mem (by simpa using hj))
        simpa [hd] using hz)
      (given_of _ _ _ fun j oj Vj hj hVj hb => by
        rw [Nat.zero_add] at hb
        have hd := hsome oj (List.mem_of_getElem? hj)
        cases hdd : oj.dst with
        | none => rw [hdd] at hd; cases hd
        | some d => exact hg j oj d (hanc i j hb) (by simpa using hj) hdd Vj hVj)
    rw [Nat.zero_add] at this
    refine ⟨fun h => Oper.wp_mono ?_ (this.1 h), fun h => ⟨fun V' hV' => by rw [hVi] at hV'; injection hV' with e; subst e; exact (this.2 h).1, (this.2 h).2⟩⟩
    rintro a' w' ⟨v, h1, h2, h3, h4, h5⟩
    exact ⟨v, h1, h2, fun V' hV' => by rw [hVi] at hV'; injection hV' with e; subst e; exact h3, fun e x hx => h4 e x (hx VK hVK), fun e x hx => h5 e x (hx VI hVI)⟩
  · intro vs w hlv htr hv hD
    refine By.Ends.use (Q := fun _ a w => D (a.tmps.getD dI undef) (a.tmps.getD dK undef) → wpList P (l ++ r).toArray Q r a w) l Vs A _ vs w hlen (by simpa using hlv) hend htr (fun j v V h1 h2 => ?_) (hD oI oK dI dK (by simpa using hoI) (by simpa using hoK) hdI hdK)
    obtain ⟨o, ho⟩ : ∃ o, l[j]? = some o := ⟨_, List.getElem?_eq_getElem (by rw [hlen]; exact (List.getElem?_eq_some_iff.1 h2).1)⟩
    exact hv j o v (by simpa using ho) (hsome o (List.mem_of_getElem? ho)) h1 V h2
theorem marksAt {P : Program} {Q : Exit → Act → World → Prop} (hm : P.follows .mixedOrders = true) (n I K : Nat) (D : Value → Value → Prop) (hIK : I ≠ K) (T : World → World → Prop) (Ms : List (By.Mark T)) (ms : List Nat) {id : Nat} {L : List Oper} {W : World} {A : Act} (hn : 0 < (L.drop n).length) (hB : tailB (L.take n) (L.drop n) = true)
    (hf : fitB (L.take n) A.tmps.size = true) (hms : masks (L.take n) [] = ms) (hT0 : ∀ x, T x x) (hT : ∀ x y z, T x y → T y z → T x z)
    {VI VK : Value → World → Prop} (hVI : (Ms.map (·.on))[I]? = some VI) (hVK : (Ms.map (·.on))[K]? = some VK) {oI oK : Oper} {dI dK : Tmp} (hoI : (L.take n)[I]? = some oI) (hoK : (L.take n)[K]? = some oK) (hdI : oI.dst = some dI) (hdK : oK.dst = some dK)
    (hc : Each P Q T I K D VI VK A W.drew (L.take n) ms (Ms.map (·.on)) 0 (L.take n) (Ms.map (·.on)))
    (hend : By.Ends (fun _ a w => D (a.tmps.getD dI undef) (a.tmps.getD dK undef) → wpList P L.toArray Q (L.drop n) a w) (L.take n) (Ms.map (·.on)) A (fun w => T W.drew w)) : (Code.region id L.toArray true).wp P Q A W := by
  have := go (P := P) (Q := Q) (I := I) (K := K) (D := D) hIK hm (L.drop n) hn ms (Ms.map (·.on)) T (id := id) (l := L.take n) (W := W) (A := A) hB hf hms hT0 hT (fun V hV v x y h ht => by
    obtain ⟨M, _, rfl⟩ := List.mem_map.1 hV
    exact M.stays v x y h ht) hVI hVK hoI hoK hdI hdK hc (by rw [List.take_append_drop]; exact hend)
  rwa [List.take_append_drop] at this
end
end ByD
end Go.Proofs.Ytigjbgjjngeinaa
