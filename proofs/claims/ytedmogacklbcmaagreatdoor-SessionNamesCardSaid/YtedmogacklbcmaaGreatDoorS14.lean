/- Texts that the proofs share: ByJ. -/
import Derived.Test.YtedmogacklbcmaaGreatDoorS11
namespace Go.Proofs.YtedmogacklbcmaaGreatDoor
namespace ByJ
open Go.RowKit Ev By
def Pre (T0 T : World → World → Prop) (J i : Nat) (x y : World) : Prop := if i = J then T0 x y else T x y
def Post (T0 T : World → World → Prop) (J i : Nat) (x y : World) : Prop := if i = J then T x y else T0 x y
section
variable {P : Program} {ops : Array Oper} {Q : Exit → Act → World → Prop} {V : Nat → Value → World → Prop} {T0 T : World → World → Prop} {J : Nat} {a0 : Act} {w0 : World}
def Can (P : Program) (ops : Array Oper) (Q : Exit → Act → World → Prop) (V : Nat → Value → World → Prop) (T0 T : World → World → Prop) (J : Nat) (a0 : Act) (w0 : World) (i : Nat) (o : Oper) : Prop :=
 ∀ (a : Act) (w : World), Pre T0 T J i w0 w → (∀ t, (∀ (j : Nat) (oj : Oper), ops[j]? = some oj → oj.dst = some t → Anc ops j i) → a.tmps.getD t undef = a0.tmps.getD t undef) →
   (∀ (j : Nat) (oj : Oper) (d : Tmp), Anc ops i j → ops[j]? = some oj → oj.dst = some d → V j (a.tmps.getD d undef) w) →
   (Region.wanted o (yielded ops a.tmps) = true → o.wp P a w (fun a' w' => ∃ v, a' = a.put o.dst v ∧ Post T0 T J i w w' ∧ V i v w') Q) ∧ (Region.wanted o (yielded ops a.tmps) = false → V i undef w)
structure Mid (ops : Array Oper) (V : Nat → Value → World → Prop) (T0 T : World → World → Prop) (J : Nat) (a0 : Act) (w0 : World) (L : Array Bool) (a : Act) (w : World) : Prop where
 size : L.size = ops.size
 closed : ∀ (i : Nat) (o : Oper), L.getD i false = true → ops[i]? = some o → ∀ e ∈ o.after, Region.binds .any e = true → L.getD e.on false = true
 defers : a.defers = a0.defers
 asize : a.tmps.size = a0.tmps.size
 tr : T w0 w
 tj : L.getD J false = false → T0 w0 w
 done : ∀ (j : Nat) (o : Oper) (d : Tmp), L.getD j false = true → ops[j]? = some o → o.dst = some d → V j (a.tmps.getD d undef) w
 keep : ∀ t, (∀ (j : Nat) (o : Oper), ops[j]? = some o → o.dst = some t → L.getD j false = false) → a.tmps.getD t undef = a0.tmps.getD t undef
theorem Mid.step (h01 : ∀ x y, T0 x y → T x y) (hT00 : ∀ x, T0 x x) (hTT : ∀ x y z : World, T0 x y → T0 y z → T0 x z) (hT : ∀ x y z : World, T x y → T y z → T x z) (hV : ∀ (i : Nat) (v : Value) (x y : World), V i v x → T x y → V i v y) (hf : Fit ops a0.tmps.size)
 (hc : ∀ (i : Nat) (o : Oper), ops[i]? = some o → Can P ops Q V T0 T J a0 w0 i o) (hT0 : ∀ x, T x x) {L : Array Bool} {a : Act} {w : World} (h : Mid ops V T0 T J a0 w0 L a w) {i : Nat} (hi : i ∈ Region.ready .any ops L)
 {K : Act → World → Prop} (hK : ∀ a1 w1, Mid ops V T0 T J a0 w0 (L.setIfInBounds i true) a1 w1 → K a1 w1) : wpOp P ops Q i K a w := by
 obtain ⟨hun, o, ho, hpre⟩ := mem_ready.1 hi
 have hlt : i < ops.size := (Array.getElem?_eq_some_iff.1 ho).1
 have hiL : i < L.size := by rw [h.size]; exact hlt
 have hnot : L.getD i false = false := by
  rw [Array.getD_eq_getD_getElem?, Array.getElem?_eq_getElem hiL] at hun ⊢
  simpa using hun
 have hpre' : ∀ e ∈ o.after, Region.binds .any e = true → L.getD e.on false = true := hpre
 have hnext : ∀ (v : Value) (w' : World), Post T0 T J i w w' → V i v w' → Mid ops V T0 T J a0 w0 (L.setIfInBounds i true) (a.put o.dst v) w' := by
  intro v w' hp hv
  have ht : T w w' := by
   unfold Post at hp
   split at hp
   · exact hp
   · exact h01 _ _ hp
  refine ⟨by simp [h.size], ?_, (act_put_defers a o.dst v).trans h.defers, (act_put_size a o.dst v).trans h.asize, hT _ _ _ h.tr ht, ?_, ?_, ?_⟩
  rotate_left 1
  · intro hJ
    rw [set_getD L i _ hiL] at hJ
    split at hJ
    · cases hJ
    · rename_i hne
      unfold Post at hp
      rw [if_neg (fun e => hne (by rw [e]))] at hp
      exact hTT _ _ _ (h.tj hJ) hp
  rotate_left 2
  · intro j oj hj hoj e he hb
    rw [set_getD L i _ hiL] at hj ⊢
    split
    · rfl
    · split at hj
      · rename_i hji
        subst hji
        rw [ho] at hoj; injection hoj with hoj; subst hoj
        exact hpre' e he hb
      · exact h.closed j oj hj hoj e he hb
  · intro j oj d hj hoj hd
    rw [set_getD L i _ hiL] at hj
    rw [act_put_getD]
    split at hj
    · rename_i hji
      subst hji
      rw [ho] at hoj; injection hoj with hoj; subst hoj
      rw [if_pos ⟨hd, by rw [h.asize]; exact hf.small _ _ _ ho hd⟩]
      exact hv
    · rename_i hji
      rw [if_neg (by rintro ⟨hd', _⟩; exact hji (hf.one _ _ _ _ _ hoj ho hd hd'))]
      exact hV _ _ _ _ (h.done j oj d hj hoj hd) ht
  · intro t hkt
    rw [act_put_getD]
    rw [if_neg (by
     rintro ⟨hd, _⟩
     have := hkt i o ho hd
     rw [set_getD L i _ hiL, if_pos rfl] at this
     cases this)]
    refine h.keep t fun j oj hoj hd => ?_
    have := hkt j oj hoj hd
    rw [set_getD L i _ hiL] at this
    split at this
    · cases this
    · exact this
 obtain ⟨h1, h2⟩ := hc i o ho a w (by
  unfold Pre
  split
  · rename_i e
    exact h.tj (by rw [← e]; exact hnot)
  · exact h.tr)
  (fun t ht => h.keep t fun j oj hoj hd => by
   cases hjl : L.getD j false with
   | false => rfl
   | true =>
     have := (ht j oj hoj hd).listed (L := fun k => L.getD k false = true) (fun k ok hk hok => h.closed k ok hk hok) hjl
     rw [hnot] at this; cases this)
  (fun j oj d hanc hoj hd => h.done j oj d (hanc.ready (L := fun k => L.getD k false = true) (fun k ok hk hok => h.closed k ok hk hok) ho hpre') hoj hd)
 unfold wpOp
 simp only [ho]
 cases hw : Region.wanted o (yielded ops a.tmps) with
 | true =>
   rw [if_pos rfl]
   refine .inl (Oper.wp_mono ?_ (h1 hw))
   rintro a' w' ⟨v, rfl, ht, hv⟩
   exact hK _ _ (hnext v w' ht hv)
 | false =>
   rw [if_neg (by simp)]
   exact hK _ _ (hnext undef w (by unfold Post; split; exact hT0 w; exact hT00 w) (h2 hw))
theorem Mid.all (hf : Fit ops a0.tmps.size) {L : Array Bool} {a : Act} {w : World} (h : Mid ops V T0 T J a0 w0 L a w) (hr : Region.ready .any ops L = []) : ∀ (n i : Nat), i < n → i < ops.size → L.getD i false = true := by
 intro n
 induction n with
 | zero => intro i hi; omega
 | succ n ih =>
   intro i hi hlt
   cases hl : L.getD i false with
   | true => rfl
   | false =>
     have hm : i ∈ Region.ready .any ops L := mem_ready.2 ⟨by
      have hiL : i < L.size := by rw [h.size]; exact hlt
      rw [Array.getD_eq_getD_getElem?, Array.getElem?_eq_getElem hiL] at hl ⊢
      simpa using hl, ops[i], Array.getElem?_eq_getElem hlt, fun e he hb => by
      have hlt2 := hf.back i ops[i] (Array.getElem?_eq_getElem hlt) e he hb
      exact ih e.on (by omega) (by omega)⟩
     rw [hr] at hm
     cases hm
theorem any (h01 : ∀ x y, T0 x y → T x y) (hT00 : ∀ x, T0 x x) (hTT : ∀ x y z : World, T0 x y → T0 y z → T0 x z) (hT0 : ∀ x, T x x) (hT : ∀ x y z : World, T x y → T y z → T x z) (hV : ∀ (i : Nat) (v : Value) (x y : World), V i v x → T x y → V i v y) (hf : Fit ops a0.tmps.size)
 (hc : ∀ (i : Nat) (o : Oper), ops[i]? = some o → Can P ops Q V T0 T J a0 w0 i o)
 (hend : ∀ (L : Array Bool) (a : Act) (w : World), Mid ops V T0 T J a0 w0 L a w → (∀ i, i < ops.size → L.getD i false = true) → Q .normal a w) :
 ∀ (fuel : Nat) (L : Array Bool) (a : Act) (w : World), L.toList.count false ≤ fuel → Mid ops V T0 T J a0 w0 L a w → wpAny P .any ops Q fuel L a w := by
 have hnorm : ∀ (L : Array Bool) (a : Act) (w : World), Mid ops V T0 T J a0 w0 L a w → Region.ready .any ops L = [] → Q .normal a w := fun L a w h hr => hend L a w h fun i hi => h.all hf hr (i + 1) i (by omega) hi
 intro fuel
 induction fuel with
 | zero =>
   intro L a w hcn h
   have hr : Region.ready .any ops L = [] := by
    cases hrr : Region.ready .any ops L with
    | nil => rfl
    | cons i r =>
      have hi : i ∈ Region.ready .any ops L := by rw [hrr]; exact List.mem_cons_self ..
      obtain ⟨hun, o, ho, _⟩ := mem_ready.1 hi
      have hlt : i < L.size := by rw [h.size]; exact (Array.getElem?_eq_some_iff.1 ho).1
      rw [Array.getD_eq_getD_getElem?, Array.getElem?_eq_getElem hlt] at hun
      have hm : false ∈ L.toList := by
       rw [Array.mem_toList_iff]
       have : L[i] = false := by simpa using hun
       rw [← this]; exact Array.getElem_mem hlt
      have := List.count_pos_iff.2 hm
      omega
   exact ⟨hr, hnorm L a w h hr⟩
 | succ fuel ih =>
   intro L a w hcn h
   refine ⟨hnorm L a w h, fun i hi => ?_⟩
   refine h.step h01 hT00 hTT hT hV hf hc hT0 hi fun a1 w1 h1 => ih _ a1 w1 ?_ h1
   obtain ⟨hun, o, ho, _⟩ := mem_ready.1 hi
   have hlt : i < L.size := by rw [h.size]; exact (Array.getElem?_eq_some_iff.1 ho).1
   rw [Array.getD_eq_getD_getElem?, Array.getElem?_eq_getElem hlt] at hun
   have hb : L.toList[i]'(by simpa using hlt) = false := by simpa using hun
   have hcs := List.count_set (a := true) (b := false) (l := L.toList) (i := i) (by simpa using hlt)
   rw [hb] at hcs
   have e1 : (if (false == false) = true then 1 else 0) = 1 := rfl
   have e2 : (if (true == false) = true then 1 else 0) = 0 := rfl
   rw [e1, e2] at hcs
   rw [Array.toList_setIfInBounds, hcs]
   omega
theorem Mid.puts (hf : Fit ops a0.tmps.size) {L : Array Bool} {a : Act} {w : World} (h : Mid ops V T0 T J a0 w0 L a w) (hall : ∀ i, i < ops.size → L.getD i false = true) :
 ∃ vs : List Value, vs.length = ops.size ∧ a = By.puts ops.toList vs a0 ∧ ∀ (j : Nat) (o : Oper) (v : Value), ops[j]? = some o → o.dst.isSome = true → vs[j]? = some v → V j v w := by
 have hvs : ∀ (j : Nat) (o : Oper), ops[j]? = some o → (ops.toList.map fun o : Oper => a.tmps.getD (o.dst.getD 0) undef)[j]? = some (a.tmps.getD (o.dst.getD 0) undef) := by
  intro j o hj
  rw [List.getElem?_map, Array.getElem?_toList, hj]
  rfl
 refine ⟨ops.toList.map fun o => a.tmps.getD (o.dst.getD 0) undef, by simp, ?_, ?_⟩
 · refine act_ext (by rw [puts_size, h.asize]) (by rw [puts_defers, h.defers]) fun t ht => ?_
   by_cases hex : ∃ o ∈ ops.toList, o.dst = some t
   · obtain ⟨o, ho, hd⟩ := hex
     obtain ⟨j, hj⟩ := List.getElem?_of_mem ho
     have hj' : ops[j]? = some o := by rwa [Array.getElem?_toList] at hj
     rw [puts_at ops.toList _ a0 j o _ t (fun i j o o' d q1 q2 => hf.one i j o o' d (by rwa [Array.getElem?_toList] at q1) (by rwa [Array.getElem?_toList] at q2)) hj (hvs j o hj') hd (hf.small _ _ _ hj' hd), hd]
     rfl
   · rw [puts_other _ _ _ _ (fun o ho hd => hex ⟨o, ho, hd⟩)]
     exact h.keep t fun j o hj hd => (hex ⟨o, by rw [Array.mem_toList_iff]; exact Array.mem_of_getElem? hj, hd⟩).elim
 · intro j o v hj hd hv
   rw [hvs j o hj] at hv
   injection hv with hv
   subst hv
   cases hdd : o.dst with
   | none => rw [hdd] at hd; cases hd
   | some d => exact h.done j o d (hall j (Array.getElem?_eq_some_iff.1 hj).1) hj hdd
theorem region (hm : P.follows .mixedOrders = true) {id : Nat} {W : World} {A : Act} (hf : Fit ops A.tmps.size) (T0 T : World → World → Prop) (J : Nat) (h01 : ∀ x y, T0 x y → T x y) (hT00 : ∀ x, T0 x x) (hTT : ∀ x y z : World, T0 x y → T0 y z → T0 x z) (V : Nat → Value → World → Prop) (hT0 : ∀ x, T x x) (hT : ∀ x y z : World, T x y → T y z → T x z)
 (hV : ∀ (i : Nat) (v : Value) (x y : World), V i v x → T x y → V i v y)
 (hc : ∀ (i : Nat) (o : Oper), ops[i]? = some o → Can P ops Q V T0 T J A W.drew i o)
 (hend : ∀ (vs : List Value) (w : World), vs.length = ops.size → T W.drew w → (∀ (j : Nat) (o : Oper) (v : Value), ops[j]? = some o → o.dst.isSome = true → vs[j]? = some v → V j v w) → Q .normal (puts ops.toList vs A) w) :
 (Code.region id ops true).wp P Q A W := by
 refine wp_region_any hm ?_
 refine any (V := V) (T0 := T0) (T := T) (J := J) (a0 := A) (w0 := W.drew) h01 hT00 hTT hT0 hT hV hf hc (fun L a w h hall => ?_) ops.size _ A _ ?_ ⟨by simp, ?_, rfl, rfl, hT0 _, fun _ => hT00 _, ?_, fun _ _ => rfl⟩
 · obtain ⟨vs, h1, rfl, h3⟩ := h.puts hf hall
   exact hend vs w h1 h.tr h3
 · simp
 · intro i o hi
   simp [Array.getD_eq_getD_getElem?, Array.getElem?_replicate] at hi
   split at hi <;> simp at hi
 · intro j o d hj
   simp [Array.getD_eq_getD_getElem?, Array.getElem?_replicate] at hj
   split at hj <;> simp at hj
end
/-! ### The rule over lists -/
section
variable {P : Program} {Q : Exit → Act → World → Prop} {T0 T : World → World → Prop} {J : Nat}
def Each (P : Program) (Q : Exit → Act → World → Prop) (T0 T : World → World → Prop) (J : Nat) (A : Act) (W : World) (l : List Oper) (ms : List Nat) (Vs : List (Value → World → Prop)) : Nat → List Oper → List (Value → World → Prop) → Prop
 | i, o :: r, V :: Vr => (∀ (a : Act) (w : World), Pre T0 T J i W w → same a A l ms i (o.looksAt l.toArray) → given a w l Vs (ms.getD i 0) →
  (want l a o = true → o.wp P a w (fun a' w' => ∃ v, a' = a.put o.dst v ∧ Post T0 T J i w w' ∧ V v w') Q) ∧ (want l a o = false → V undef w)) ∧ Each P Q T0 T J A W l ms Vs (i + 1) r Vr
 | _, [], [] => True
 | _, _, _ => False
theorem Each.at {A : Act} {W : World} {l : List Oper} {ms : List Nat} {Vs : List (Value → World → Prop)} : ∀ (k : Nat) (r : List Oper) (Vr : List (Value → World → Prop)), Each P Q T0 T J A W l ms Vs k r Vr → r.length = Vr.length ∧ ∀ (j : Nat) (o : Oper) (V : Value → World → Prop), r[j]? = some o → Vr[j]? = some V →
 ∀ (a : Act) (w : World), Pre T0 T J (k + j) W w → same a A l ms (k + j) (o.looksAt l.toArray) → given a w l Vs (ms.getD (k + j) 0) →
   (want l a o = true → o.wp P a w (fun a' w' => ∃ v, a' = a.put o.dst v ∧ Post T0 T J (k + j) w w' ∧ V v w') Q) ∧ (want l a o = false → V undef w)
 | k, [], [], _ => ⟨rfl, fun j o V h => by simp at h⟩
 | k, [], _ :: _, h => by simp [Each] at h
 | k, _ :: _, [], h => by simp [Each] at h
 | k, o :: r, V :: Vr, h => by
   obtain ⟨h1, h2⟩ := h
   obtain ⟨h3, h4⟩ := Each.at (k + 1) r Vr h2
   refine ⟨by simp [h3], fun j o' V' hj hV => ?_⟩
   cases j with
   | zero =>
     simp only [List.getElem?_cons_zero, Option.some.injEq] at hj hV
     subst hj; subst hV
     exact h1
   | succ j =>
     have := h4 j o' V' (by simpa using hj) (by simpa using hV)
     rwa [show k + 1 + j = k + (j + 1) by omega] at this
theorem go (hm : P.follows .mixedOrders = true) (ms : List Nat) (Vs : List (Value → World → Prop)) (T0 T : World → World → Prop) (J : Nat) (h01 : ∀ x y, T0 x y → T x y) (hT00 : ∀ x, T0 x x) (hTT : ∀ x y z : World, T0 x y → T0 y z → T0 x z) {id : Nat} {l : List Oper} {W : World} {A : Act} (hf : fitB l A.tmps.size = true) (hms : masks l [] = ms)
 (hT0 : ∀ x, T x x) (hT : ∀ x y z, T x y → T y z → T x z) (hV : ∀ V ∈ Vs, ∀ (v : Value) (x y : World), V v x → T x y → V v y)
 (hc : Each P Q T0 T J A W.drew l ms Vs 0 l Vs) (hend : By.Ends Q l Vs A (fun w => T W.drew w)) : (Code.region id l.toArray true).wp P Q A W := by
 have hsome : ∀ oj ∈ l, oj.dst.isSome = true := by
  simp only [fitB, Bool.and_eq_true, List.all_eq_true] at hf
  exact hf.2
 obtain ⟨hlen, hat⟩ := Each.at 0 l Vs hc
 have hanc : ∀ i j, (ms.getD i 0).testBit j = true → Anc l.toArray i j := by
  intro i j h
  rw [← hms] at h
  exact masks_spec l.toArray l [] (fun j o h => by simpa using h) (fun i j h => by simp at h) i j h
 refine region hm (fit_of hf) T0 T J h01 hT00 hTT (fun i v w => ∀ V, Vs[i]? = some V → V v w) hT0 hT (fun i v x y h ht V hV' => hV V (List.mem_of_getElem? hV') v x y (h V hV') ht) ?_ ?_
 · intro i o hi a w htr hs hg
   have hi' : l[i]? = some o := by simpa using hi
   obtain ⟨V, hVi⟩ : ∃ V, Vs[i]? = some V := ⟨_, List.getElem?_eq_getElem (by rw [← hlen]; exact (List.getElem?_eq_some_iff.1 hi').1)⟩
   rw [want_eq hsome]
   have := hat i o V hi' hVi a w (by rw [Nat.zero_add]; exact htr)
    (same_of _ fun t ht => by
     rw [Nat.zero_add] at ht
     refine hs t fun j oj hj hd => hanc j i ?_
     have hz := List.all_eq_true.1 ht (oj, j) (zip_mem (by simpa using hj))
     simpa [hd] using hz)
    (given_of _ _ _ fun j oj Vj hj hVj hb => by
     rw [Nat.zero_add] at hb
     have hd := hsome oj (List.mem_of_getElem? hj)
     cases hdd : oj.dst with
     | none => rw [hdd] at hd; cases hd
     | some d => exact hg j oj d (hanc i j hb) (by simpa using hj) hdd Vj hVj)
   simp only [Nat.zero_add] at this
   refine ⟨fun h => Oper.wp_mono ?_ (this.1 h), fun h V' hV' => by rw [hVi] at hV'; injection hV' with e; subst e; exact this.2 h⟩
   rintro a' w' ⟨v, h1, h2, h3⟩
   exact ⟨v, h1, h2, fun V' hV' => by rw [hVi] at hV'; injection hV' with e; subst e; exact h3⟩
 · intro vs w hlv htr hv
   refine By.Ends.use l Vs A _ vs w hlen (by simpa using hlv) hend htr fun j v V h1 h2 => ?_
   obtain ⟨o, ho⟩ : ∃ o, l[j]? = some o := ⟨_, List.getElem?_eq_getElem (by rw [hlen]; exact (List.getElem?_eq_some_iff.1 h2).1)⟩
   exact hv j o v (by simpa using ho) (hsome o (List.mem_of_getElem? ho)) h1 V h2
end
theorem marks {P : Program} {Q : Exit → Act → World → Prop} (hm : P.follows .mixedOrders = true) (T0 T : World → World → Prop) (J : Nat) (h01 : ∀ x y, T0 x y → T x y) (hT00 : ∀ x, T0 x x) (hTT : ∀ x y z : World, T0 x y → T0 y z → T0 x z) (Ms : List (By.Mark T)) (ms : List Nat) {id : Nat} {l : List Oper} {W : World} {A : Act} (hf : fitB l A.tmps.size = true) (hms : masks l [] = ms)
 (hT0 : ∀ x, T x x) (hT : ∀ x y z, T x y → T y z → T x z)
 (hc : Each P Q T0 T J A W.drew l ms (Ms.map (·.on)) 0 l (Ms.map (·.on))) (hend : By.Ends Q l (Ms.map (·.on)) A (fun w => T W.drew w)) : (Code.region id l.toArray true).wp P Q A W :=
 go hm ms (Ms.map (·.on)) T0 T J h01 hT00 hTT hf hms hT0 hT (fun V hV v x y h ht => by
  obtain ⟨M, _, rfl⟩ := List.mem_map.1 hV
  exact M.stays v x y h ht) hc hend
theorem guarded {c : Prop} [Decidable c] {T R : World → World → Prop} {M : By.Mark T} {P : Program} {Q : Exit → Act → World → Prop} {o : Oper} {a : Act} {w : World} {b : Bool} (hw : b = decide c) (h : c → o.wp P a w (fun a' w' => ∃ v, a' = a.put o.dst v ∧ R w w' ∧ M.on v w') Q) :
 (b = true → o.wp P a w (fun a' w' => ∃ v, a' = a.put o.dst v ∧ R w w' ∧ (when c M).on v w') Q) ∧ (b = false → (when c M).on undef w) := by
 refine ⟨fun hb => ?_, fun hb => ?_⟩
 · have hc : c := by rw [hw] at hb; simpa using hb
   refine Oper.wp_mono ?_ (h hc)
   rintro a' w' ⟨v, h1, h2, h3⟩
   exact ⟨v, h1, h2, by unfold when; simp only [if_pos hc]; exact h3⟩
 · have hc : ¬ c := by rw [hw] at hb; simpa using hb
   unfold when
   simp only [if_neg hc]
end ByJ
end Go.Proofs.YtedmogacklbcmaaGreatDoor
