/- Texts that the proofs share: ByG. -/
import Derived.Test.YtedmogacklbcmaaGreatDoorS12
namespace Go.Proofs.YtedmogacklbcmaaGreatDoor
namespace ByG
open Go.RowKit Ev
open By hiding want fitB fit_of want_eq
open ByN (fitB fit_of want want_eq)
def tg (o : Oper) : Option Tmp := match o.dst with
 | some d => some d
 | none => match o.op with
   | .store _ (.tmp t) _ => some t
   | _ => none
def sl (a : Act) (o : Oper) : Value := match tg o with
 | some d => a.tmps.getD d undef
 | none => undef
def vo (a : Act) (o : Oper) (v : Value) : Value := match o.dst with
 | some _ => v
 | none => sl a o
theorem sl_put (a : Act) (o : Oper) (v : Value) (h : ∀ d, o.dst = some d → d < a.tmps.size) : sl (a.put o.dst v) o = vo a o v := by
 unfold vo
 cases hd : o.dst with
 | none => rfl
 | some d =>
   have ht : tg o = some d := by unfold tg; rw [hd]
   unfold sl
   rw [ht]
   simp only
   rw [act_put_getD, if_pos ⟨rfl, h d hd⟩]
theorem sl_other (a : Act) (o oj : Oper) (v : Value) (h : ∀ d, tg oj = some d → o.dst ≠ some d) : sl (a.put o.dst v) oj = sl a oj := by
 unfold sl
 cases hd : tg oj with
 | none => rfl
 | some d =>
   simp only
   rw [act_put_getD, if_neg (fun hh => h d hd hh.1)]
section
variable {P : Program} {ops : Array Oper} {Q : Exit → Act → World → Prop} {V : Nat → Value → World → Prop} {T : World → World → Prop} {a0 : Act} {w0 : World} {S : Nat → Bool} {D : Value → Value → Prop} {VD : Value → World → Prop}
def Tgt (ops : Array Oper) : Prop := ∀ (j : Nat) (o : Oper) (t : Tmp), ops[j]? = some o → o.dst = none → tg o = some t → ∃ (k : Nat) (ok : Oper), ops[k]? = some ok ∧ ok.dst = some t ∧ Anc ops j k
def Can (P : Program) (ops : Array Oper) (Q : Exit → Act → World → Prop) (V : Nat → Value → World → Prop) (T : World → World → Prop) (S : Nat → Bool) (D : Value → Value → Prop) (VD : Value → World → Prop) (a0 : Act) (w0 : World) (i : Nat) (o : Oper) : Prop :=
 ∀ (a : Act) (w : World), T w0 w → (∀ t, (∀ (j : Nat) (oj : Oper), ops[j]? = some oj → oj.dst = some t → Anc ops j i) → a.tmps.getD t undef = a0.tmps.getD t undef) →
   (∀ (j : Nat) (oj : Oper), Anc ops i j → ops[j]? = some oj → V j (sl a oj) w) →
   (Region.wanted o (yielded ops a.tmps) = true → o.wp P a w (fun a' w' => ∃ v, a' = a.put o.dst v ∧ T w w' ∧ V i (vo a o v) w' ∧ (S i = true → ∀ x, VD x w → D v x ∧ D x v)) Q) ∧ (Region.wanted o (yielded ops a.tmps) = false → V i (vo a o undef) w ∧ S i = false)
structure Mid (ops : Array Oper) (V : Nat → Value → World → Prop) (T : World → World → Prop) (S : Nat → Bool) (D : Value → Value → Prop) (a0 : Act) (w0 : World) (L : Array Bool) (a : Act) (w : World) : Prop where
 size : L.size = ops.size
 closed : ∀ (i : Nat) (o : Oper), L.getD i false = true → ops[i]? = some o → ∀ e ∈ o.after, Region.binds .any e = true → L.getD e.on false = true
 defers : a.defers = a0.defers
 asize : a.tmps.size = a0.tmps.size
 tr : T w0 w
 done : ∀ (j : Nat) (o : Oper), L.getD j false = true → ops[j]? = some o → V j (sl a o) w
 keep : ∀ t, (∀ (j : Nat) (o : Oper), ops[j]? = some o → o.dst = some t → L.getD j false = false) → a.tmps.getD t undef = a0.tmps.getD t undef
 pair : ∀ (i k : Nat) (oi ok : Oper), S i = true → S k = true → i ≠ k → L.getD i false = true → L.getD k false = true → ops[i]? = some oi → ops[k]? = some ok → D (sl a oi) (sl a ok)
theorem Mid.step (hT : ∀ x y z : World, T x y → T y z → T x z) (hV : ∀ (i : Nat) (v : Value) (x y : World), V i v x → T x y → V i v y) (hf : Fit ops a0.tmps.size) (htg : Tgt ops)
 (hS : ∀ (k : Nat) (o : Oper) (v : Value) (w : World), S k = true → ops[k]? = some o → V k v w → VD v w) (hSd : ∀ (k : Nat) (o : Oper), S k = true → ops[k]? = some o → o.dst.isSome = true)
 (hc : ∀ (i : Nat) (o : Oper), ops[i]? = some o → Can P ops Q V T S D VD a0 w0 i o) (hT0 : ∀ x, T x x) {L : Array Bool} {a : Act} {w : World} (h : Mid ops V T S D a0 w0 L a w) {i : Nat} (hi : i ∈ Region.ready .any ops L)
 {K : Act → World → Prop} (hK : ∀ a1 w1, Mid ops V T S D a0 w0 (L.setIfInBounds i true) a1 w1 → K a1 w1) : wpOp P ops Q i K a w := by
 obtain ⟨hun, o, ho, hpre⟩ := mem_ready.1 hi
 have hlt : i < ops.size := (Array.getElem?_eq_some_iff.1 ho).1
 have hiL : i < L.size := by rw [h.size]; exact hlt
 have hnot : L.getD i false = false := by
  rw [Array.getD_eq_getD_getElem?, Array.getElem?_eq_getElem hiL] at hun ⊢
  simpa using hun
 have hpre' : ∀ e ∈ o.after, Region.binds .any e = true → L.getD e.on false = true := hpre
 have hkeep : ∀ (v : Value) (j : Nat) (oj : Oper), j ≠ i → L.getD j false = true → ops[j]? = some oj → sl (a.put o.dst v) oj = sl a oj := by
  intro v j oj hji hj hoj
  refine sl_other a o oj v fun d hd hd' => ?_
  cases hdj : oj.dst with
  | some d2 =>
    have e : d2 = d := by unfold tg at hd; rw [hdj] at hd; exact Option.some.inj hd
    subst e
    exact hji (hf.one _ _ _ _ _ hoj ho hdj hd')
  | none =>
    obtain ⟨k, ok, hok, hdk, hanc⟩ := htg j oj d hoj hdj hd
    have hk : L.getD k false = true := hanc.ready (L := fun k => L.getD k false = true) (fun k ok hk hok => h.closed k ok hk hok) hoj (h.closed j oj hj hoj)
    have e : k = i := hf.one _ _ _ _ _ hok ho hdk hd'
    subst e
    rw [hnot] at hk; cases hk
 have hnext : ∀ (v : Value) (w' : World), T w w' → V i (vo a o v) w' → (S i = true → ∀ x, VD x w → D v x ∧ D x v) → Mid ops V T S D a0 w0 (L.setIfInBounds i true) (a.put o.dst v) w' := by
  intro v w' ht hv hp
  refine ⟨by simp [h.size], ?_, (act_put_defers a o.dst v).trans h.defers, (act_put_size a o.dst v).trans h.asize, hT _ _ _ h.tr ht, ?_, ?_, ?_⟩
  · intro j oj hj hoj e he hb
    rw [set_getD L i _ hiL] at hj ⊢
    split
    · rfl
    · split at hj
      · rename_i hji
        subst hji
        rw [ho] at hoj; injection hoj with hoj; subst hoj
        exact hpre' e he hb
      · exact h.closed j oj hj hoj e he hb
  · intro j oj hj hoj
    rw [set_getD L i _ hiL] at hj
    split at hj
    · rename_i hji
      subst hji
      rw [ho] at hoj; injection hoj with hoj; subst hoj
      rw [sl_put a o v (fun d hd => by rw [h.asize]; exact hf.small _ _ _ ho hd)]
      exact hv
    · rename_i hji
      rw [hkeep v j oj (fun e => hji (by first | exact e | exact e.symm)) hj hoj]
      exact hV _ _ _ _ (h.done j oj hj hoj) ht
  · intro t hkt
    rw [act_put_getD]
    rw [if_neg (by
     rintro ⟨hd, _⟩
     have := hkt i o ho hd
     rw [set_getD L i _ hiL, if_pos rfl] at this
     cases this)]
    refine h.keep t fun j oj hoj hd => ?_
    have := hkt j oj hoj hd
    rw [set_getD L i _ hiL] at this
    split at this
    · cases this
    · exact this
  · intro j k oj ok hSj hSk hjk hj hk hoj hok
    rw [set_getD L i _ hiL] at hj hk
    have hown : ∀ (o' : Oper), ops[i]? = some o' → S i = true → sl (a.put o.dst v) o' = v := by
     intro o' ho' hSi
     rw [ho] at ho'; injection ho' with ho'; subst ho'
     rw [sl_put a o v (fun d hd => by rw [h.asize]; exact hf.small _ _ _ ho hd)]
     have := hSd i o hSi ho
     unfold vo
     cases hd : o.dst with
     | none => rw [hd] at this; cases this
     | some d => rfl
    by_cases hji : j = i
    · subst hji
      rw [hown oj hoj hSj]
      have hk' : L.getD k false = true := by
       split at hk
       · rename_i e; exact absurd (by first | exact e | exact e.symm) hjk
       · exact hk
      rw [hkeep v k ok (fun e => hjk e.symm) hk' hok]
      exact (hp hSj _ (hS k ok _ _ hSk hok (h.done k ok hk' hok))).1
    · have hj' : L.getD j false = true := by
       split at hj
       · rename_i e; exact absurd (by first | exact e | exact e.symm) hji
       · exact hj
      rw [hkeep v j oj hji hj' hoj]
      by_cases hki : k = i
      · subst hki
        rw [hown ok hok hSk]
        exact (hp hSk _ (hS j oj _ _ hSj hoj (h.done j oj hj' hoj))).2
      · have hk' : L.getD k false = true := by
         split at hk
         · rename_i e; exact absurd (by first | exact e | exact e.symm) hki
         · exact hk
        rw [hkeep v k ok hki hk' hok]
        exact h.pair j k oj ok hSj hSk hjk hj' hk' hoj hok
 obtain ⟨h1, h2⟩ := hc i o ho a w h.tr
  (fun t ht => h.keep t fun j oj hoj hd => by
   cases hjl : L.getD j false with
   | false => rfl
   | true =>
     have := (ht j oj hoj hd).listed (L := fun k => L.getD k false = true) (fun k ok hk hok => h.closed k ok hk hok) hjl
     rw [hnot] at this; cases this)
  (fun j oj hanc hoj => h.done j oj (hanc.ready (L := fun k => L.getD k false = true) (fun k ok hk hok => h.closed k ok hk hok) ho hpre') hoj)
 unfold wpOp
 simp only [ho]
 cases hw : Region.wanted o (yielded ops a.tmps) with
 | true =>
   rw [if_pos rfl]
   refine .inl (Oper.wp_mono ?_ (h1 hw))
   rintro a' w' ⟨v, rfl, ht, hv, hp⟩
   exact hK _ _ (hnext v w' ht hv hp)
 | false =>
   rw [if_neg (by simp)]
   exact hK _ _ (hnext undef w (hT0 w) (h2 hw).1 (fun e => by rw [(h2 hw).2] at e; cases e))
theorem Mid.all (hf : Fit ops a0.tmps.size) {L : Array Bool} {a : Act} {w : World} (h : Mid ops V T S D a0 w0 L a w) (hr : Region.ready .any ops L = []) : ∀ (n i : Nat), i < n → i < ops.size → L.getD i false = true := by
 intro n
 induction n with
 | zero => intro i hi; omega
 | succ n ih =>
   intro i hi hlt
   cases hl : L.getD i false with
   | true => rfl
   | false =>
     have hm : i ∈ Region.ready .any ops L := mem_ready.2 ⟨by
      have hiL : i < L.size := by rw [h.size]; exact hlt
      rw [Array.getD_eq_getD_getElem?, Array.getElem?_eq_getElem hiL] at hl ⊢
      simpa using hl, ops[i], Array.getElem?_eq_getElem hlt, fun e he hb => by
      have hlt2 := hf.back i ops[i] (Array.getElem?_eq_getElem hlt) e he hb
      exact ih e.on (by omega) (by omega)⟩
     rw [hr] at hm
     cases hm
theorem any (hT0 : ∀ x, T x x) (hT : ∀ x y z : World, T x y → T y z → T x z) (hV : ∀ (i : Nat) (v : Value) (x y : World), V i v x → T x y → V i v y) (hf : Fit ops a0.tmps.size) (htg : Tgt ops)
 (hS : ∀ (k : Nat) (o : Oper) (v : Value) (w : World), S k = true → ops[k]? = some o → V k v w → VD v w) (hSd : ∀ (k : Nat) (o : Oper), S k = true → ops[k]? = some o → o.dst.isSome = true)
 (hc : ∀ (i : Nat) (o : Oper), ops[i]? = some o → Can P ops Q V T S D VD a0 w0 i o)
 (hend : ∀ (L : Array Bool) (a : Act) (w : World), Mid ops V T S D a0 w0 L a w → (∀ i, i < ops.size → L.getD i false = true) → Q .normal a w) :
 ∀ (fuel : Nat) (L : Array Bool) (a : Act) (w : World), L.toList.count false ≤ fuel → Mid ops V T S D a0 w0 L a w → wpAny P .any ops Q fuel L a w := by
 have hnorm : ∀ (L : Array Bool) (a : Act) (w : World), Mid ops V T S D a0 w0 L a w → Region.ready .any ops L = [] → Q .normal a w := fun L a w h hr => hend L a w h fun i hi => h.all hf hr (i + 1) i (by omega) hi
 intro fuel
 induction fuel with
 | zero =>
   intro L a w hcn h
   have hr : Region.ready .any ops L = [] := by
    cases hrr : Region.ready .any ops L with
    | nil => rfl
    | cons i r =>
      have hi : i ∈ Region.ready .any ops L := by rw [hrr]; exact List.mem_cons_self ..
      obtain ⟨hun, o, ho, _⟩ := mem_ready.1 hi
      have hlt : i < L.size := by rw [h.size]; exact (Array.getElem?_eq_some_iff.1 ho).1
      rw [Array.getD_eq_getD_getElem?, Array.getElem?_eq_getElem hlt] at hun
      have hm : false ∈ L.toList := by
       rw [Array.mem_toList_iff]
       have : L[i] = false := by simpa using hun
       rw [← this]; exact Array.getElem_mem hlt
      have := List.count_pos_iff.2 hm
      omega
   exact ⟨hr, hnorm L a w h hr⟩
 | succ fuel ih =>
   intro L a w hcn h
   refine ⟨hnorm L a w h, fun i hi => ?_⟩
   refine h.step hT hV hf htg hS hSd hc hT0 hi fun a1 w1 h1 => ih _ a1 w1 ?_ h1
   obtain ⟨hun, o, ho, _⟩ := mem_ready.1 hi
   have hlt : i < L.size := by rw [h.size]; exact (Array.getElem?_eq_some_iff.1 ho).1
   rw [Array.getD_eq_getD_getElem?, Array.getElem?_eq_getElem hlt] at hun
   have hb : L.toList[i]'(by simpa using hlt) = false := by simpa using hun
   have hcs := List.count_set (a := true) (b := false) (l := L.toList) (i := i) (by simpa using hlt)
   rw [hb] at hcs
   have e1 : (if (false == false) = true then 1 else 0) = 1 := rfl
   have e2 : (if (true == false) = true then 1 else 0) = 0 := rfl
   rw [e1, e2] at hcs
   rw [Array.toList_setIfInBounds, hcs]
   omega
theorem Mid.puts (hf : Fit ops a0.tmps.size) {L : Array Bool} {a : Act} {w : World} (h : Mid ops V T S D a0 w0 L a w) : ∃ vs : List Value, vs.length = ops.size ∧ a = By.puts ops.toList vs a0 := by
 have hvs : ∀ (j : Nat) (o : Oper), ops[j]? = some o → (ops.toList.map fun o : Oper => a.tmps.getD (o.dst.getD 0) undef)[j]? = some (a.tmps.getD (o.dst.getD 0) undef) := by
  intro j o hj
  rw [List.getElem?_map, Array.getElem?_toList, hj]
  rfl
 refine ⟨ops.toList.map fun o => a.tmps.getD (o.dst.getD 0) undef, by simp, ?_⟩
 refine act_ext (by rw [puts_size, h.asize]) (by rw [puts_defers, h.defers]) fun t ht => ?_
 by_cases hex : ∃ o ∈ ops.toList, o.dst = some t
 · obtain ⟨o, ho, hd⟩ := hex
   obtain ⟨j, hj⟩ := List.getElem?_of_mem ho
   have hj' : ops[j]? = some o := by rwa [Array.getElem?_toList] at hj
   rw [puts_at ops.toList _ a0 j o _ t (fun i j o o' d q1 q2 => hf.one i j o o' d (by rwa [Array.getElem?_toList] at q1) (by rwa [Array.getElem?_toList] at q2)) hj (hvs j o hj') hd (hf.small _ _ _ hj' hd), hd]
   rfl
 · rw [puts_other _ _ _ _ (fun o ho hd => hex ⟨o, ho, hd⟩)]
   exact h.keep t fun j o hj hd => (hex ⟨o, by rw [Array.mem_toList_iff]; exact Array.mem_of_getElem? hj, hd⟩).elim
theorem region (hm : P.follows .mixedOrders = true) {id : Nat} {W : World} {A : Act} (hf : Fit ops A.tmps.size) (htg : Tgt ops) (T : World → World → Prop) (V : Nat → Value → World → Prop) (hT0 : ∀ x, T x x) (hT : ∀ x y z : World, T x y → T y z → T x z)
 (hV : ∀ (i : Nat) (v : Value) (x y : World), V i v x → T x y → V i v y)
 (hS : ∀ (k : Nat) (o : Oper) (v : Value) (w : World), S k = true → ops[k]? = some o → V k v w → VD v w) (hSd : ∀ (k : Nat) (o : Oper), S k = true → ops[k]? = some o → o.dst.isSome = true)
 (hc : ∀ (i : Nat) (o : Oper), ops[i]? = some o → Can P ops Q V T S D VD A W.drew i o)
 (hend : ∀ (vs : List Value) (w : World), vs.length = ops.size → T W.drew w → (∀ (j : Nat) (o : Oper), ops[j]? = some o → V j (sl (puts ops.toList vs A) o) w) →
  (∀ (i k : Nat) (oi ok : Oper), S i = true → S k = true → i ≠ k → ops[i]? = some oi → ops[k]? = some ok → D (sl (puts ops.toList vs A) oi) (sl (puts ops.toList vs A) ok)) → Q .normal (puts ops.toList vs A) w) :
 (Code.region id ops true).wp P Q A W := by
 refine wp_region_any hm ?_
 refine any (V := V) (T := T) (S := S) (D := D) (VD := VD) (a0 := A) (w0 := W.drew) hT0 hT hV hf htg hS hSd hc (fun L a w h hall => ?_) ops.size _ A _ ?_ ⟨by simp, ?_, rfl, rfl, hT0 _, ?_, fun _ _ => rfl, ?_⟩
 · obtain ⟨vs, h1, rfl⟩ := h.puts hf
   exact hend vs w h1 h.tr (fun j o hj => h.done j o (hall j (Array.getElem?_eq_some_iff.1 hj).1) hj)
    fun i k oi ok s1 s2 hik h1 h2 => h.pair i k oi ok s1 s2 hik (hall i (Array.getElem?_eq_some_iff.1 h1).1) (hall k (Array.getElem?_eq_some_iff.1 h2).1) h1 h2
 · simp
 · intro i o hi
   simp [Array.getD_eq_getD_getElem?, Array.getElem?_replicate] at hi
   split at hi <;> simp at hi
 · intro j o hj
   simp [Array.getD_eq_getD_getElem?, Array.getElem?_replicate] at hj
   split at hj <;> simp at hj
 · intro i k oi ok _ _ _ hj
   simp [Array.getD_eq_getD_getElem?, Array.getElem?_replicate] at hj
   split at hj <;> simp at hj
end
/-! ### The rule over lists -/
section
variable {P : Program} {Q : Exit → Act → World → Prop} {T : World → World → Prop} {D : Value → Value → Prop} {VD : Value → World → Prop}
def tgtB (l : List Oper) (ms : List Nat) : Bool :=
 l.zipIdx.all fun x => match x.1.dst with
  | some _ => true
  | none => match tg x.1 with
    | none => true
    | some t => l.zipIdx.any fun y => y.1.dst == some t && (ms.getD x.2 0).testBit y.2
theorem tgt_of {l : List Oper} {ms : List Nat} (hms : masks l [] = ms) (h : tgtB l ms = true) : Tgt l.toArray := by
 intro j o t hj hd ht
 have h1 := List.all_eq_true.1 h (o, j) (zip_mem (by simpa using hj))
 simp only [hd, ht] at h1
 obtain ⟨y, hy, h2⟩ := List.any_eq_true.1 h1
 obtain ⟨ok, k⟩ := y
 simp only [Bool.and_eq_true] at h2
 refine ⟨k, ok, ?_, by simpa using h2.1, masks_spec l.toArray l [] (fun j o h => by simpa using h) (fun i j h => by simp at h) j k (by rw [hms]; exact h2.2)⟩
 have := List.mem_zipIdx hy
 rw [List.getElem?_toArray]
 obtain ⟨_, h4, h5⟩ := this
 rw [List.getElem?_eq_getElem (by omega)]
 rw [h5]
 simp
def given (a : Act) (w : World) : List Oper → List (Value → World → Prop) → Nat → Prop
 | o :: r, V :: Vs, m => (m % 2 = 1 → V (sl a o) w) ∧ given a w r Vs (m / 2)
 | _, _, _ => True
theorem given_of {a : Act} {w : World} : ∀ (l : List Oper) (Vs : List (Value → World → Prop)) (m : Nat), (∀ (j : Nat) (o : Oper) (V : Value → World → Prop), l[j]? = some o → Vs[j]? = some V → m.testBit j = true → V (sl a o) w) → given a w l Vs m
 | [], _, _, _ => by simp [given]
 | _ :: _, [], _, _ => by simp [given]
 | o :: r, V :: Vs, m, h => by
   refine ⟨fun hm => h 0 o V rfl rfl (by simp [Nat.testBit, hm]), given_of r Vs (m / 2) fun j o' V' h1 h2 h3 => h (j + 1) o' V' (by simpa using h1) (by simpa using h2) ?_⟩
   rw [Nat.testBit_succ]
   exact h3
theorem given_get {a : Act} {w : World} : ∀ {l : List Oper} {Vs : List (Value → World → Prop)} {m : Nat}, given a w l Vs m → ∀ (j : Nat) {o : Oper} {V : Value → World → Prop}, l[j]? = some o → Vs[j]? = some V → m.testBit j = true → V (sl a o) w
 | [], _, _, _, j, _, _, h, _, _ => by simp at h
 | _ :: _, [], _, _, j, _, _, _, h, _ => by simp at h
 | o :: r, V :: Vs, m, h, j, o', V', h1, h2, h3 => by
   cases j with
   | zero =>
     simp only [List.getElem?_cons_zero, Option.some.injEq] at h1 h2
     subst h1; subst h2
     exact h.1 (by simpa [Nat.testBit] using h3)
   | succ j => exact given_get h.2 j (by simpa using h1) (by simpa using h2) (by rwa [Nat.testBit_succ] at h3)
def Each (P : Program) (Q : Exit → Act → World → Prop) (T : World → World → Prop) (Is : List Nat) (D : Value → Value → Prop) (VD : Value → World → Prop) (A : Act) (W : World) (l : List Oper) (ms : List Nat) (Vs : List (Value → World → Prop)) : Nat → List Oper → List (Value → World → Prop) → Prop
 | i, o :: r, V :: Vr => (∀ (a : Act) (w : World), T W w → same a A l ms i (o.looksAt l.toArray) → given a w l Vs (ms.getD i 0) →
  (want l a o = true → o.wp P a w (fun a' w' => ∃ v, a' = a.put o.dst v ∧ T w w' ∧ V (vo a o v) w' ∧ (Is.contains i = true → ∀ x, VD x w → D v x ∧ D x v)) Q) ∧ (want l a o = false → V (vo a o undef) w ∧ Is.contains i = false)) ∧ Each P Q T Is D VD A W l ms Vs (i + 1) r Vr
 | _, [], [] => True
 | _, _, _ => False
theorem Each.at {Is : List Nat} {A : Act} {W : World} {l : List Oper} {ms : List Nat} {Vs : List (Value → World → Prop)} : ∀ (k : Nat) (r : List Oper) (Vr : List (Value → World → Prop)), Each P Q T Is D VD A W l ms Vs k r Vr → r.length = Vr.length ∧ ∀ (j : Nat) (o : Oper) (V : Value → World → Prop), r[j]? = some o → Vr[j]? = some V →
 ∀ (a : Act) (w : World), T W w → same a A l ms (k + j) (o.looksAt l.toArray) → given a w l Vs (ms.getD (k + j) 0) →
   (want l a o = true → o.wp P a w (fun a' w' => ∃ v, a' = a.put o.dst v ∧ T w w' ∧ V (vo a o v) w' ∧ (Is.contains (k + j) = true → ∀ x, VD x w → D v x ∧ D x v)) Q) ∧ (want l a o = false → V (vo a o undef) w ∧ Is.contains (k + j) = false)
 | k, [], [], _ => ⟨rfl, fun j o V h => by simp at h⟩
 | k, [], _ :: _, h => by simp [Each] at h
 | k, _ :: _, [], h => by simp [Each] at h
 | k, o :: r, V :: Vr, h => by
   obtain ⟨h1, h2⟩ := h
   obtain ⟨h3, h4⟩ := Each.at (k + 1) r Vr h2
   refine ⟨by simp [h3], fun j o' V' hj hV => ?_⟩
   cases j with
   | zero =>
     simp only [List.getElem?_cons_zero, Option.some.injEq] at hj hV
     subst hj; subst hV
     exact h1
   | succ j =>
     have := h4 j o' V' (by simpa using hj) (by simpa using hV)
     rwa [show k + 1 + j = k + (j + 1) by omega] at this
def ve (b : Act) (o : Oper) (v : Value) : Value := match o.dst with
 | some _ => v
 | none => sl b o
def Ends (Q : Exit → Act → World → Prop) : List Oper → List (Value → World → Prop) → Act → (Act → World → Prop) → Prop
 | o :: r, V :: Vs, a, F => ∀ v : Value, Ends Q r Vs (a.put o.dst v) (fun b w => F b w ∧ V (ve b o v) w)
 | [], [], a, F => ∀ w, F a w → Q .normal a w
 | _, _, _, _ => True
theorem Ends.use {Q : Exit → Act → World → Prop} : ∀ (l : List Oper) (Vs : List (Value → World → Prop)) (a : Act) (F : Act → World → Prop) (vs : List Value) (w : World), l.length = Vs.length → vs.length = l.length → Ends Q l Vs a F → F (puts l vs a) w → (∀ (j : Nat) (o : Oper) (v : Value) (V : Value → World → Prop), l[j]? = some o → vs[j]? = some v → Vs[j]? = some V → V (ve (puts l vs a) o v) w) →
 Q .normal (puts l vs a) w
 | [], [], a, F, [], w, _, _, h, hF, _ => h w hF
 | [], [], a, F, _ :: _, w, _, h, _, _, _ => by simp at h
 | [], _ :: _, _, _, _, _, h, _, _, _, _ => by simp at h
 | _ :: _, [], _, _, _, _, h, _, _, _, _ => by simp at h
 | _ :: _, _ :: _, _, _, [], _, _, h, _, _, _ => by simp at h
 | o :: r, V :: Vs, a, F, v :: vs, w, h1, h2, h, hF, hv => by
   rw [puts] at hF hv ⊢
   exact Ends.use r Vs _ _ vs w (by simpa using h1) (by simpa using h2) (h v) ⟨hF, hv 0 o v V rfl rfl rfl⟩ fun j o' v' V' q0 q1 q2 => hv (j + 1) o' v' V' (by simpa using q0) (by simpa using q1) (by simpa using q2)
theorem marks (hm : P.follows .mixedOrders = true) (T : World → World → Prop) (Ms : List (By.Mark T)) (Is : List Nat) (M : By.Mark T) (D : Value → Value → Prop) (ms : List Nat) {id : Nat} {l : List Oper} {W : World} {A : Act} (hf : fitB l A.tmps.size = true) (hms : masks l [] = ms) (htg : tgtB l ms = true)
 (hIs : (Is.map fun k => (Ms.map (·.on))[k]?) = Is.map fun _ => some M.on) (hId : (Is.all fun k => (l[k]?.bind (·.dst)).isSome) = true)
 (hT0 : ∀ x, T x x) (hT : ∀ x y z, T x y → T y z → T x z)
 (hc : Each P Q T Is D M.on A W.drew l ms (Ms.map (·.on)) 0 l (Ms.map (·.on)))
 (hend : Ends Q l (Ms.map (·.on)) A (fun b w => T W.drew w ∧ ∀ i k oi ok, i ∈ Is → k ∈ Is → i ≠ k → l[i]? = some oi → l[k]? = some ok → D (sl b oi) (sl b ok))) : (Code.region id l.toArray true).wp P Q A W := by
 obtain ⟨hlen, hat⟩ := Each.at 0 l _ hc
 have hanc : ∀ i j, (ms.getD i 0).testBit j = true → Anc l.toArray i j := by
  intro i j h
  rw [← hms] at h
  exact masks_spec l.toArray l [] (fun j o h => by simpa using h) (fun i j h => by simp at h) i j h
 have hIs' : ∀ k ∈ Is, (Ms.map (·.on))[k]? = some M.on := by
  intro k hk
  have := List.map_inj_left.1 hIs k hk
  exact this
 have hff := fit_of hf
 refine region (S := fun k => Is.contains k) (D := D) (VD := M.on) hm hff (tgt_of hms htg) T (fun i v w => ∀ V, (Ms.map (·.on))[i]? = some V → V v w) hT0 hT ?_ ?_ ?_ ?_ ?_
 · intro i v x y h ht V hV'
   obtain ⟨N, _, rfl⟩ := List.mem_map.1 (List.mem_of_getElem? hV')
   exact N.stays v x y (h _ hV') ht
 · intro k o v w hk _ hv
   exact hv _ (hIs' k (by simpa using hk))
 · intro k o hk ho
   have := List.all_eq_true.1 hId k (by simpa using hk)
   rw [show l[k]? = some o by simpa using ho] at this
   exact this
 · intro i o hi a w htr hs hg
   have hi' : l[i]? = some o := by simpa using hi
   obtain ⟨V, hVi⟩ : ∃ V, (Ms.map (·.on))[i]? = some V := ⟨_, List.getElem?_eq_getElem (by rw [← hlen]; exact (List.getElem?_eq_some_iff.1 hi').1)⟩
   rw [want_eq]
   have := hat i o V hi' hVi a w htr
    (same_of _ fun t ht => by
     rw [Nat.zero_add] at ht
     refine hs t fun j oj hj hd => hanc j i ?_
     have hz := List.all_eq_true.1 ht (oj, j) (zip_mem (by simpa using hj))
     simpa [hd] using hz)
    (given_of _ _ _ fun j oj Vj hj hVj hb => by
     rw [Nat.zero_add] at hb
     exact hg j oj (hanc i j hb) (by simpa using hj) Vj hVj)
   rw [Nat.zero_add] at this
   refine ⟨fun h => Oper.wp_mono ?_ (this.1 h), fun h => ⟨fun V' hV' => by rw [hVi] at hV'; injection hV' with e; subst e; exact (this.2 h).1, (this.2 h).2⟩⟩
   rintro a' w' ⟨v, h1, h2, h3, h4⟩
   exact ⟨v, h1, h2, fun V' hV' => by rw [hVi] at hV'; injection hV' with e; subst e; exact h3, h4⟩
 · intro vs w hlv htr hv hp
   refine Ends.use l _ A _ vs w hlen (by simpa using hlv) hend ⟨htr, fun i k oi ok h1 h2 h3 h4 h5 => hp i k oi ok (by simpa using h1) (by simpa using h2) h3 (by simpa using h4) (by simpa using h5)⟩ fun j o v V h0 h1 h2 => ?_
   have h3 := hv j o (by simpa using h0) V h2
   unfold ve
   cases hd : o.dst with
   | none => exact h3
   | some d =>
     have e : sl (puts l vs A) o = v := by
      have ht : tg o = some d := by unfold tg; rw [hd]
      unfold sl
      rw [ht]
      exact puts_at l vs A j o v d (fun i j o o' d q1 q2 => hff.one i j o o' d (by simpa using q1) (by simpa using q2)) h0 h1 hd (hff.small j o d (by simpa using h0) hd)
     have h4 : V (sl (puts l vs A) o) w := h3
     rw [e] at h4
     exact h4
end
theorem Ends.weak {Q : Exit → Act → World → Prop} : ∀ {l : List Oper} {Vs : List (Value → World → Prop)} {a : Act} {F F' : Act → World → Prop}, (∀ b w, F' b w → F b w) → Ends Q l Vs a F → Ends Q l Vs a F'
 | [], [], _, _, _, h, k => fun w hw => k w (h _ w hw)
 | [], _ :: _, _, _, _, _, _ => trivial
 | _ :: _, [], _, _, _, _, _ => trivial
 | _ :: _, _ :: _, _, _, _, h, k => fun v => Ends.weak (fun b w hw => ⟨h b w hw.1, hw.2⟩) (k v)
theorem ends_none {Q : Exit → Act → World → Prop} : ∀ (l : List Oper) (Vs : List (Value → World → Prop)) (a : Act), Ends Q l Vs a (fun _ _ => False)
 | [], [], _ => fun _ h => h.elim
 | [], _ :: _, _ => trivial
 | _ :: _, [], _ => trivial
 | _ :: l, _ :: Vs, _ => fun _ => Ends.weak (fun _ _ hw => hw.1) (ends_none l Vs _)
theorem ends_is {Q : Exit → Act → World → Prop} {T : World → World → Prop} {o : Oper} {r : List Oper} {x : Value} {Ms : List (By.Mark T)} {a : Act} {F : Act → World → Prop} {d : Tmp} (hd : o.dst = some d) (h : Ends Q r (Ms.map (·.on)) (a.put o.dst x) F) : Ends Q (o :: r) ((By.is x :: Ms).map (·.on)) a F := by
 intro v
 by_cases hv : v = x
 · subst hv
   exact Ends.weak (fun b w hw => hw.1) h
 · refine Ends.weak (fun b w hw => hv ?_) (ends_none _ _ _)
   have h2 : ve b o v = x := hw.2
   unfold ve at h2
   rw [hd] at h2
   exact h2
theorem ends_any {Q : Exit → Act → World → Prop} {T : World → World → Prop} {o : Oper} {r : List Oper} {M : By.Mark T} {Ms : List (By.Mark T)} {a : Act} {F : Act → World → Prop} (h : ∀ v, Ends Q r (Ms.map (·.on)) (a.put o.dst v) (fun b w => F b w ∧ M.on (ve b o v) w)) : Ends Q (o :: r) ((M :: Ms).map (·.on)) a F := h
theorem ends_nil {Q : Exit → Act → World → Prop} {T : World → World → Prop} {a : Act} {F : Act → World → Prop} (h : ∀ w, F a w → Q .normal a w) : Ends Q [] (([] : List (By.Mark T)).map (·.on)) a F := h
end ByG
end Go.Proofs.YtedmogacklbcmaaGreatDoor
