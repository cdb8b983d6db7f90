/- Texts that the proofs share: Tail. -/
import Derived.Test.YtedmogacklbcmaaGreatDoorS11
import Derived.StillTail
namespace Go.Proofs.YtedmogacklbcmaaGreatDoor
namespace Tail
open Go.RowKit Ev By
def tailB (l r : List Oper) : Bool :=
 (l.all fun o => match o.guard with | some (j, _) => decide (j < l.length) | none => true) &&
 ((List.range r.length).all fun k => (List.range l.length).all fun j => ((masks (l ++ r) []).getD (l.length + k) 0).testBit j) &&
 Region.seqB .any (l ++ r).toArray r.length l.length (Array.replicate l.length true ++ Array.replicate r.length false)
section
variable {P : Program} {Q : Exit → Act → World → Prop} {V : Nat → Value → World → Prop} {T : World → World → Prop} {a0 : Act} {w0 : World}
theorem getD_left (L F : Array Bool) (i : Nat) (d : Bool) (h : i < L.size) : (L ++ F).getD i d = L.getD i d := by
 simp only [Array.getD_eq_getD_getElem?]
 rw [Array.getElem?_append_left h]
theorem count_zero : ∀ (l : List Bool), l.count false = 0 → l = List.replicate l.length true
 | [], _ => rfl
 | b :: l, h => by
   cases b with
   | false => simp at h
   | true =>
     rw [List.length_cons, List.replicate_succ, ← count_zero l (by simpa using h)]
theorem loop (l r : List Oper) (hn : 0 < r.length) (hB : tailB l r = true) (hT0 : ∀ x, T x x) (hT : ∀ x y z : World, T x y → T y z → T x z) (hV : ∀ (i : Nat) (v : Value) (x y : World), V i v x → T x y → V i v y) (hf : Fit l.toArray a0.tmps.size)
 (hc : ∀ (i : Nat) (o : Oper), l.toArray[i]? = some o → By.Can P l.toArray Q V T a0 w0 i o)
 (hend : ∀ (L : Array Bool) (a : Act) (w : World), By.Mid l.toArray V T a0 w0 L a w → (∀ i, i < l.toArray.size → L.getD i false = true) → wpList P (l ++ r).toArray Q r a w) :
 ∀ (fuel : Nat) (L : Array Bool) (a : Act) (w : World), L.toList.count false = fuel → By.Mid l.toArray V T a0 w0 L a w → wpAny P .any (l ++ r).toArray Q (fuel + r.length) (L ++ Array.replicate r.length false) a w := by
 simp only [tailB, Bool.and_eq_true, List.all_eq_true] at hB
 obtain ⟨⟨hg, hs⟩, hq⟩ := hB
 intro fuel
 induction fuel with
 | zero =>
   intro L a w hcn h
   have hL : L = Array.replicate l.length true := by
    have hz := count_zero L.toList hcn
    have hsz : L.size = l.length := by have := h.size; simpa using this
    rw [Array.length_toList, hsz] at hz
    rw [← Array.toArray_toList (xs := L), hz]
    simp
   have hall : ∀ i, i < l.toArray.size → L.getD i false = true := by
    intro i hi
    rw [hL, Array.getD_eq_getD_getElem?, Array.getElem?_replicate, if_pos (by simpa using hi)]
    rfl
   have hw := hend L a w h hall
   subst hL
   rw [Nat.zero_add]
   exact wpAny_of_seq r l.length _ a w (fun j => by
    rw [List.getElem?_toArray, List.getElem?_append_right (by omega)]
    congr 1
    omega) hq hw
 | succ fuel ih =>
   intro L a w hcn h
   have hsz : L.size = l.length := by have := h.size; simpa using this
   have hleft : ∃ i, i < l.length ∧ L.getD i false = false := by
    have hm : false ∈ L.toList := List.count_pos_iff.1 (by omega)
    obtain ⟨i, hi, he⟩ := List.getElem_of_mem hm
    refine ⟨i, by rw [← hsz]; simpa using hi, ?_⟩
    rw [Array.getD_eq_getD_getElem?, Array.getElem?_eq_getElem (by simpa using hi)]
    simpa using he
   have hsub : ∀ i, i ∈ Region.ready .any (l ++ r).toArray (L ++ Array.replicate r.length false) → i < l.length ∧ i ∈ Region.ready .any l.toArray L := by
    intro i hi
    obtain ⟨hun, o, ho, hpre⟩ := mem_ready.1 hi
    by_cases hil : i < l.length
    · refine ⟨hil, mem_ready.2 ⟨?_, o, ?_, fun e he hb => ?_⟩⟩
      · rwa [getD_left _ _ _ _ (by omega)] at hun
      · rw [List.getElem?_toArray, List.getElem?_append_left hil] at ho
        simpa using ho
      · have hlt : e.on < i := hf.back i o (by rw [List.getElem?_toArray, List.getElem?_append_left hil] at ho; simpa using ho) e he hb
        have := hpre e he hb
        rwa [getD_left _ _ _ _ (by omega)] at this
    · exfalso
      obtain ⟨j, hj, hjf⟩ := hleft
      rw [List.getElem?_toArray, List.getElem?_append_right (by omega)] at ho
      have hk : i - l.length < r.length := (List.getElem?_eq_some_iff.1 ho).1
      have hanc : Anc (l ++ r).toArray i j := by
       have := masks_spec (l ++ r).toArray (l ++ r) [] (fun j o h => by simpa using h) (fun i j h => by simp at h) i j (by
        have := hs (i - l.length) (List.mem_range.2 hk) j (List.mem_range.2 hj)
        rwa [show l.length + (i - l.length) = i by omega] at this)
       exact this
      have ho2 : (l ++ r).toArray[i]? = some o := by rw [List.getElem?_toArray, List.getElem?_append_right (by omega)]; exact ho
      have hL := Anc.ready (L := fun k => (L ++ Array.replicate r.length false).getD k false = true) (fun i o hi ho e he hb => by
       have hil : i < l.length := by
        refine Nat.lt_of_not_le fun hge => ?_
        have h1 : (L ++ Array.replicate r.length false).getD i false = true := hi
        rw [Array.getD_eq_getD_getElem?, Array.getElem?_append_right (by omega), Array.getElem?_replicate] at h1
        split at h1 <;> simp at h1
       have hlt : e.on < i := hf.back i o (by rw [List.getElem?_toArray, List.getElem?_append_left hil] at ho; simpa using ho) e he hb
       show (L ++ Array.replicate r.length false).getD e.on false = true
       rw [getD_left _ _ _ _ (by omega)]
       refine h.closed i o ?_ (by rw [List.getElem?_toArray, List.getElem?_append_left hil] at ho; simpa using ho) e he hb
       have h1 : (L ++ Array.replicate r.length false).getD i false = true := hi
       rwa [getD_left _ _ _ _ (by omega)] at h1) hanc ho2 hpre
      have hL2 : (L ++ Array.replicate r.length false).getD j false = true := hL
      rw [getD_left _ _ _ _ (by omega), hjf] at hL2
      cases hL2
   rw [show fuel + 1 + r.length = (fuel + r.length) + 1 by omega]
   refine ⟨fun hr => ?_, fun i hi => ?_⟩
   · exfalso
     have hr0 : Region.ready .any l.toArray L = [] := by
      cases hrr : Region.ready .any l.toArray L with
      | nil => rfl
      | cons i q =>
        have hi : i ∈ Region.ready .any l.toArray L := by rw [hrr]; exact List.mem_cons_self ..
        obtain ⟨hun, o, ho, hpre⟩ := mem_ready.1 hi
        have hil : i < l.length := by have := (Array.getElem?_eq_some_iff.1 ho).1; simpa using this
        have hm : i ∈ Region.ready .any (l ++ r).toArray (L ++ Array.replicate r.length false) := by
         refine mem_ready.2 ⟨?_, o, ?_, fun e he hb => ?_⟩
         · rw [getD_left _ _ _ _ (by omega)]; exact hun
         · rw [List.getElem?_toArray, List.getElem?_append_left hil]; simpa using ho
         · have hlt : e.on < i := hf.back i o ho e he hb
           rw [getD_left _ _ _ _ (by omega)]
           exact hpre e he hb
        rw [hr] at hm; cases hm
     obtain ⟨i, hi, hif⟩ := hleft
     have := h.all hf hr0 (i + 1) i (by omega) (by simpa using hi)
     rw [this] at hif; cases hif
   · obtain ⟨hil, hi0⟩ := hsub i hi
     have hstep : wpOp P l.toArray Q i (wpAny P .any (l ++ r).toArray Q (fuel + r.length) ((L ++ Array.replicate r.length false).setIfInBounds i true)) a w := by
      refine h.step hT hV hf hc hT0 hi0 fun a1 w1 h1 => ?_
      have hset : (L ++ Array.replicate r.length false).setIfInBounds i true = L.setIfInBounds i true ++ Array.replicate r.length false := by
       apply Array.ext_getElem?
       intro k
       rw [Array.getElem?_setIfInBounds]
       by_cases hk : k < L.size
       · rw [Array.getElem?_append_left (xs := L) hk, Array.getElem?_append_left (xs := L.setIfInBounds i true) (by simpa using hk), Array.getElem?_setIfInBounds]
         by_cases hik : i = k
         · subst hik
           rw [if_pos rfl, if_pos rfl, if_pos (by simp; omega), if_pos hk]
         · rw [if_neg hik, if_neg hik]
       · rw [Array.getElem?_append_right (xs := L) (by omega), Array.getElem?_append_right (xs := L.setIfInBounds i true) (by simp; omega), if_neg (by omega)]
         simp
      rw [hset]
      refine ih _ a1 w1 ?_ h1
      obtain ⟨hun, o, ho, _⟩ := mem_ready.1 hi0
      have hlt : i < L.size := by omega
      rw [Array.getD_eq_getD_getElem?, Array.getElem?_eq_getElem hlt] at hun
      have hb : L.toList[i]'(by simpa using hlt) = false := by simpa using hun
      have hcs := List.count_set (a := true) (b := false) (l := L.toList) (i := i) (by simpa using hlt)
      rw [hb] at hcs
      have e1 : (if (false == false) = true then 1 else 0) = 1 := rfl
      have e2 : (if (true == false) = true then 1 else 0) = 0 := rfl
      rw [e1, e2] at hcs
      rw [Array.toList_setIfInBounds, hcs]
      omega
     have hop : (l ++ r).toArray[i]? = l.toArray[i]? := by
      rw [List.getElem?_toArray, List.getElem?_toArray, List.getElem?_append_left hil]
     unfold wpOp at hstep ⊢
     rw [hop]
     cases ho : l.toArray[i]? with
     | none => rw [ho] at hstep; exact hstep
     | some o =>
       rw [ho] at hstep
       have hy : Region.wanted o (yielded (l ++ r).toArray a.tmps) = Region.wanted o (yielded l.toArray a.tmps) := by
        unfold Region.wanted
        cases hgd : o.guard with
        | none => rfl
        | some jw =>
          obtain ⟨j, want⟩ := jw
          have := hg o (List.mem_of_getElem? (by simpa using ho))
          rw [hgd] at this
          have hjl : j < l.length := of_decide_eq_true this
          simp only [yielded, List.getElem?_toArray, List.getElem?_append_left hjl]
       simp only at hstep ⊢
       rw [hy]
       exact hstep
def forcedB (md : Region.Mode) (ops : Array Oper) : List Nat → Array Bool → Bool
 | [], listed => (Region.ready md ops listed).isEmpty
 | i :: is, listed => decide (Region.ready md ops listed = [i]) && forcedB md ops is (listed.setIfInBounds i true)
theorem wpAny_of_forced {P : Program} {md : Region.Mode} {ops : Array Oper} {Q' : Exit → Act → World → Prop} : ∀ (is : List Nat) (listed : Array Bool) (a : Act) (w : World), forcedB md ops is listed = true → wpOps P ops Q' is a w → wpAny P md ops Q' is.length listed a w
 | [], _, _, _, hB, h => ⟨by simpa [forcedB] using hB, h⟩
 | i :: is, listed, a, w, hB, h => by
   simp only [forcedB, Bool.and_eq_true, decide_eq_true_eq] at hB
   rw [wpOps_cons] at h
   refine ⟨fun h1 => (by rw [hB.1] at h1; cases h1), fun j hj => ?_⟩
   rw [hB.1] at hj
   have hij : j = i := by simpa using hj
   subst hij
   exact wpOp_mono (fun a' w' h' => wpAny_of_forced is _ a' w' hB.2 h') h
theorem wpOps_eq_list {P : Program} {ops : Array Oper} {Q : Exit → Act → World → Prop} : ∀ (is : List Nat) (os : List Oper), is.map (ops[·]?) = os.map some → wpOps P ops Q is = wpList P ops Q os
 | [], [], _ => by funext a w; simp [wpOps, wpList]
 | i :: is, o :: os, h => by
   simp only [List.map_cons, List.cons.injEq] at h
   funext a w
   simp only [wpOps, wpList, h.1]
   rw [wpOps_eq_list is os h.2]
 | [], _ :: _, h => by simp at h
 | _ :: _, [], h => by simp at h
def tailFB (l r : List Oper) (f : Nat) : Bool :=
 (l.all fun o => match o.guard with | some (j, _) => decide (j < l.length) | none => true) &&
 ((List.range l.length).all fun j => decide (j = f) || ((masks (l ++ r) []).getD l.length 0).testBit j) &&
 ((List.range r.length).all fun k => (List.range l.length).all fun j => decide (k = 0) || ((masks (l ++ r) []).getD (l.length + k) 0).testBit j) &&
 Region.seqB .any (l ++ r).toArray r.length l.length (Array.replicate l.length true ++ Array.replicate r.length false) &&
 forcedB .any (l ++ r).toArray (f :: List.range' (l.length + 1) (r.length - 1)) (((Array.replicate l.length true).setIfInBounds f false ++ Array.replicate r.length false).setIfInBounds l.length true) &&
 decide (f < l.length)
theorem loopF (l r : List Oper) (f : Nat) (hn : 0 < r.length) (hB : tailFB l r f = true) (hT0 : ∀ x, T x x) (hT : ∀ x y z : World, T x y → T y z → T x z) (hV : ∀ (i : Nat) (v : Value) (x y : World), V i v x → T x y → V i v y) (hf : Fit l.toArray a0.tmps.size)
 (hc : ∀ (i : Nat) (o : Oper), l.toArray[i]? = some o → By.Can P l.toArray Q V T a0 w0 i o)
 (hend : ∀ (L : Array Bool) (a : Act) (w : World), By.Mid l.toArray V T a0 w0 L a w → (∀ i, i < l.toArray.size → L.getD i false = true) → wpList P (l ++ r).toArray Q r a w)
 (hendF : ∀ (L : Array Bool) (a : Act) (w : World), By.Mid l.toArray V T a0 w0 L a w → (∀ i, i < l.toArray.size → i ≠ f → L.getD i false = true) → L.getD f false = false → wpOps P (l ++ r).toArray Q (l.length :: f :: List.range' (l.length + 1) (r.length - 1)) a w) :
 ∀ (fuel : Nat) (L : Array Bool) (a : Act) (w : World), L.toList.count false = fuel → By.Mid l.toArray V T a0 w0 L a w → wpAny P .any (l ++ r).toArray Q (fuel + r.length) (L ++ Array.replicate r.length false) a w := by
 simp only [tailFB, Bool.and_eq_true, List.all_eq_true] at hB
 obtain ⟨⟨⟨⟨⟨hg, hs0⟩, hs⟩, hq⟩, hfo⟩, hfl⟩ := hB
 have hfl := of_decide_eq_true hfl
 intro fuel
 induction fuel with
 | zero =>
   intro L a w hcn h
   have hL : L = Array.replicate l.length true := by
    have hz := count_zero L.toList hcn
    have hsz : L.size = l.length := by have := h.size; simpa using this
    rw [Array.length_toList, hsz] at hz
    rw [← Array.toArray_toList (xs := L), hz]
    simp
   have hall : ∀ i, i < l.toArray.size → L.getD i false = true := by
    intro i hi
    rw [hL, Array.getD_eq_getD_getElem?, Array.getElem?_replicate, if_pos (by simpa using hi)]
    rfl
   have hw := hend L a w h hall
   subst hL
   rw [Nat.zero_add]
   exact wpAny_of_seq r l.length _ a w (fun j => by
    rw [List.getElem?_toArray, List.getElem?_append_right (by omega)]
    congr 1
    omega) hq hw
 | succ fuel ih =>
   intro L a w hcn h
   have hsz : L.size = l.length := by have := h.size; simpa using this
   have hleft : ∃ i, i < l.length ∧ L.getD i false = false := by
    have hm : false ∈ L.toList := List.count_pos_iff.1 (by omega)
    obtain ⟨i, hi, he⟩ := List.getElem_of_mem hm
    refine ⟨i, by rw [← hsz]; simpa using hi, ?_⟩
    rw [Array.getD_eq_getD_getElem?, Array.getElem?_eq_getElem (by simpa using hi)]
    simpa using he
   have hsub : ∀ i, i ∈ Region.ready .any (l ++ r).toArray (L ++ Array.replicate r.length false) → (i < l.length ∧ i ∈ Region.ready .any l.toArray L) ∨ (i = l.length ∧ (∀ j, j < l.length → j ≠ f → L.getD j false = true) ∧ L.getD f false = false) := by
    intro i hi
    obtain ⟨hun, o, ho, hpre⟩ := mem_ready.1 hi
    by_cases hil : i < l.length
    · refine .inl ⟨hil, mem_ready.2 ⟨?_, o, ?_, fun e he hb => ?_⟩⟩
      · rwa [getD_left _ _ _ _ (by omega)] at hun
      · rw [List.getElem?_toArray, List.getElem?_append_left hil] at ho
        simpa using ho
      · have hlt : e.on < i := hf.back i o (by rw [List.getElem?_toArray, List.getElem?_append_left hil] at ho; simpa using ho) e he hb
        have := hpre e he hb
        rwa [getD_left _ _ _ _ (by omega)] at this
    · rw [List.getElem?_toArray, List.getElem?_append_right (by omega)] at ho
      have hk : i - l.length < r.length := (List.getElem?_eq_some_iff.1 ho).1
      have ho2 : (l ++ r).toArray[i]? = some o := by rw [List.getElem?_toArray, List.getElem?_append_right (by omega)]; exact ho
      have hready : ∀ j, ((masks (l ++ r) []).getD i 0).testBit j = true → (L ++ Array.replicate r.length false).getD j false = true := by
       intro j hj
       have hanc : Anc (l ++ r).toArray i j := masks_spec (l ++ r).toArray (l ++ r) [] (fun j o h => by simpa using h) (fun i j h => by simp at h) i j hj
       exact Anc.ready (L := fun k => (L ++ Array.replicate r.length false).getD k false = true) (fun i o hi ho e he hb => by
        have hil : i < l.length := by
         refine Nat.lt_of_not_le fun hge => ?_
         have h1 : (L ++ Array.replicate r.length false).getD i false = true := hi
         rw [Array.getD_eq_getD_getElem?, Array.getElem?_append_right (by omega), Array.getElem?_replicate] at h1
         split at h1 <;> simp at h1
        have hlt : e.on < i := hf.back i o (by rw [List.getElem?_toArray, List.getElem?_append_left hil] at ho; simpa using ho) e he hb
        show (L ++ Array.replicate r.length false).getD e.on false = true
        rw [getD_left _ _ _ _ (by omega)]
        refine h.closed i o ?_ (by rw [List.getElem?_toArray, List.getElem?_append_left hil] at ho; simpa using ho) e he hb
        have h1 : (L ++ Array.replicate r.length false).getD i false = true := hi
        rwa [getD_left _ _ _ _ (by omega)] at h1) hanc ho2 hpre
      obtain ⟨j, hj, hjf⟩ := hleft
      by_cases hi0 : i = l.length
      · have hall : ∀ j, j < l.length → j ≠ f → L.getD j false = true := by
         intro j hj hjf
         have := hready j (by
          have := hs0 j (List.mem_range.2 hj)
          rw [Bool.or_eq_true] at this
          rcases this with this | this
          · exact absurd (of_decide_eq_true this) hjf
          · rwa [hi0])
         rwa [getD_left _ _ _ _ (by omega)] at this
        refine .inr ⟨hi0, hall, ?_⟩
        by_cases hjf2 : j = f
        · rw [← hjf2]; exact hjf
        · rw [hall j hj hjf2] at hjf; cases hjf
      · exfalso
        have := hready j (by
         have := hs (i - l.length) (List.mem_range.2 hk) j (List.mem_range.2 hj)
         rw [Bool.or_eq_true] at this
         rcases this with this | this
         · exact absurd (of_decide_eq_true this) (by omega)
         · rwa [show l.length + (i - l.length) = i by omega] at this)
        rw [getD_left _ _ _ _ (by omega), hjf] at this
        cases this
   rw [show fuel + 1 + r.length = (fuel + r.length) + 1 by omega]
   refine ⟨fun hr => ?_, fun i hi => ?_⟩
   · exfalso
     have hr0 : Region.ready .any l.toArray L = [] := by
      cases hrr : Region.ready .any l.toArray L with
      | nil => rfl
      | cons i q =>
        have hi : i ∈ Region.ready .any l.toArray L := by rw [hrr]; exact List.mem_cons_self ..
        obtain ⟨hun, o, ho, hpre⟩ := mem_ready.1 hi
        have hil : i < l.length := by have := (Array.getElem?_eq_some_iff.1 ho).1; simpa using this
        have hm : i ∈ Region.ready .any (l ++ r).toArray (L ++ Array.replicate r.length false) := by
         refine mem_ready.2 ⟨?_, o, ?_, fun e he hb => ?_⟩
         · rw [getD_left _ _ _ _ (by omega)]; exact hun
         · rw [List.getElem?_toArray, List.getElem?_append_left hil]; simpa using ho
         · have hlt : e.on < i := hf.back i o ho e he hb
           rw [getD_left _ _ _ _ (by omega)]
           exact hpre e he hb
        rw [hr] at hm; cases hm
     obtain ⟨i, hi, hif⟩ := hleft
     have := h.all hf hr0 (i + 1) i (by omega) (by simpa using hi)
     rw [this] at hif; cases hif
   · rcases hsub i hi with ⟨hil, hi0⟩ | ⟨rfl, hall, hff⟩
     case inr =>
      have hL : L = (Array.replicate l.length true).setIfInBounds f false := by
       apply Array.ext_getElem?
       intro k
       rw [Array.getElem?_setIfInBounds, Array.getElem?_replicate, Array.size_replicate]
       by_cases hk : k < L.size
       · rw [Array.getElem?_eq_getElem hk]
         by_cases hkf : f = k
         · subst hkf
           rw [Array.getD_eq_getD_getElem?, Array.getElem?_eq_getElem hk] at hff
           simp only [Option.getD_some] at hff
           rw [if_pos rfl, if_pos hfl, hff]
         · have := hall k (by omega) (Ne.symm hkf)
           rw [Array.getD_eq_getD_getElem?, Array.getElem?_eq_getElem hk] at this
           simp only [Option.getD_some] at this
           rw [if_neg hkf, if_pos (by omega), this]
       · rw [Array.getElem?_eq_none (by omega)]
         split
         · rename_i e; subst e; omega
         · rw [if_neg (by omega)]
      have hfuel : fuel = 0 := by
       have hc1 : L.toList.count false = 1 := by
        have h2 := List.count_set (a := false) (b := false) (l := List.replicate l.length true) (i := f) (by simpa using hfl)
        rw [hL, Array.toList_setIfInBounds, Array.toList_replicate, h2]
        simp [List.count_replicate]
       omega
      subst hfuel
      have hw := hendF L a w h (fun i hi hif => hall i (by simpa using hi) hif) hff
      rw [wpOps_cons] at hw
      rw [hL]
      refine wpOp_mono (fun a1 w1 h1 => ?_) hw
      have := wpAny_of_forced (md := .any) (Q' := Q) (f :: List.range' (l.length + 1) (r.length - 1)) (((Array.replicate l.length true).setIfInBounds f false ++ Array.replicate r.length false).setIfInBounds l.length true) a1 w1 hfo h1
      rwa [List.length_cons, List.length_range', show r.length - 1 + 1 = 0 + r.length by omega] at this
     have hstep : wpOp P l.toArray Q i (wpAny P .any (l ++ r).toArray Q (fuel + r.length) ((L ++ Array.replicate r.length false).setIfInBounds i true)) a w := by
      refine h.step hT hV hf hc hT0 hi0 fun a1 w1 h1 => ?_
      have hset : (L ++ Array.replicate r.length false).setIfInBounds i true = L.setIfInBounds i true ++ Array.replicate r.length false := by
       apply Array.ext_getElem?
       intro k
       rw [Array.getElem?_setIfInBounds]
       by_cases hk : k < L.size
       · rw [Array.getElem?_append_left (xs := L) hk, Array.getElem?_append_left (xs := L.setIfInBounds i true) (by simpa using hk), Array.getElem?_setIfInBounds]
         by_cases hik : i = k
         · subst hik
           rw [if_pos rfl, if_pos rfl, if_pos (by simp; omega), if_pos hk]
         · rw [if_neg hik, if_neg hik]
       · rw [Array.getElem?_append_right (xs := L) (by omega), Array.getElem?_append_right (xs := L.setIfInBounds i true) (by simp; omega), if_neg (by omega)]
         simp
      rw [hset]
      refine ih _ a1 w1 ?_ h1
      obtain ⟨hun, o, ho, _⟩ := mem_ready.1 hi0
      have hlt : i < L.size := by omega
      rw [Array.getD_eq_getD_getElem?, Array.getElem?_eq_getElem hlt] at hun
      have hb : L.toList[i]'(by simpa using hlt) = false := by simpa using hun
      have hcs := List.count_set (a := true) (b := false) (l := L.toList) (i := i) (by simpa using hlt)
      rw [hb] at hcs
      have e1 : (if (false == false) = true then 1 else 0) = 1 := rfl
      have e2 : (if (true == false) = true then 1 else 0) = 0 := rfl
      rw [e1, e2] at hcs
      rw [Array.toList_setIfInBounds, hcs]
      omega
     have hop : (l ++ r).toArray[i]? = l.toArray[i]? := by
      rw [List.getElem?_toArray, List.getElem?_toArray, List.getElem?_append_left hil]
     unfold wpOp at hstep ⊢
     rw [hop]
     cases ho : l.toArray[i]? with
     | none => rw [ho] at hstep; exact hstep
     | some o =>
       rw [ho] at hstep
       have hy : Region.wanted o (yielded (l ++ r).toArray a.tmps) = Region.wanted o (yielded l.toArray a.tmps) := by
        unfold Region.wanted
        cases hgd : o.guard with
        | none => rfl
        | some jw =>
          obtain ⟨j, want⟩ := jw
          have := hg o (List.mem_of_getElem? (by simpa using ho))
          rw [hgd] at this
          have hjl : j < l.length := of_decide_eq_true this
          simp only [yielded, List.getElem?_toArray, List.getElem?_append_left hjl]
       simp only at hstep ⊢
       rw [hy]
       exact hstep
theorem region (hm : P.follows .mixedOrders = true) {id : Nat} {W : World} {A : Act} (l r : List Oper) (hn : 0 < r.length) (hB : tailB l r = true) (hf : Fit l.toArray A.tmps.size) (T : World → World → Prop) (V : Nat → Value → World → Prop) (hT0 : ∀ x, T x x) (hT : ∀ x y z : World, T x y → T y z → T x z)
 (hV : ∀ (i : Nat) (v : Value) (x y : World), V i v x → T x y → V i v y)
 (hc : ∀ (i : Nat) (o : Oper), l.toArray[i]? = some o → By.Can P l.toArray Q V T A W.drew i o)
 (hend : ∀ (vs : List Value) (w : World), vs.length = l.toArray.size → T W.drew w → (∀ (j : Nat) (o : Oper) (v : Value), l.toArray[j]? = some o → o.dst.isSome = true → vs[j]? = some v → V j v w) → wpList P (l ++ r).toArray Q r (puts l.toArray.toList vs A) w) :
 (Code.region id (l ++ r).toArray true).wp P Q A W := by
 refine wp_region_any hm ?_
 have hL : Array.replicate (l ++ r).toArray.size false = Array.replicate l.length false ++ Array.replicate r.length false := by
  rw [List.size_toArray, List.length_append, Array.replicate_append_replicate]
 have hcnt : (Array.replicate l.length false).toList.count false = l.length := by simp
 have hsz : (l ++ r).toArray.size = l.length + r.length := by simp
 rw [hL, hsz]
 refine loop (V := V) (T := T) (a0 := A) (w0 := W.drew) l r hn hB hT0 hT hV hf hc (fun L a w h hall => ?_) l.length _ A _ hcnt ⟨by simp, ?_, rfl, rfl, hT0 _, ?_, fun _ _ => rfl⟩
 · obtain ⟨vs, h1, rfl, h3⟩ := h.puts hf hall
   exact hend vs w h1 h.tr h3
 · intro i o hi
   simp [Array.getD_eq_getD_getElem?, Array.getElem?_replicate] at hi
   split at hi <;> simp at hi
 · intro j o d hj
   simp [Array.getD_eq_getD_getElem?, Array.getElem?_replicate] at hj
   split at hj <;> simp at hj
theorem regionF (hm : P.follows .mixedOrders = true) {id : Nat} {W : World} {A : Act} (l r : List Oper) (f : Nat) (df : Tmp) (hdf : (l[f]?).bind (·.dst) = some df) (hn : 0 < r.length) (hB : tailFB l r f = true) (hf : Fit l.toArray A.tmps.size) (T : World → World → Prop) (V : Nat → Value → World → Prop) (hT0 : ∀ x, T x x) (hT : ∀ x y z : World, T x y → T y z → T x z)
 (hV : ∀ (i : Nat) (v : Value) (x y : World), V i v x → T x y → V i v y)
 (hc : ∀ (i : Nat) (o : Oper), l.toArray[i]? = some o → By.Can P l.toArray Q V T A W.drew i o)
 (hend : ∀ (vs : List Value) (w : World), vs.length = l.toArray.size → T W.drew w → (∀ (j : Nat) (o : Oper) (v : Value), l.toArray[j]? = some o → o.dst.isSome = true → vs[j]? = some v → V j v w) → wpList P (l ++ r).toArray Q r (puts l.toArray.toList vs A) w)
 (hendF : ∀ (vs : List Value) (w : World), vs.length = l.toArray.size → T W.drew w → (∀ (j : Nat) (o : Oper) (v : Value), l.toArray[j]? = some o → o.dst.isSome = true → vs[j]? = some v → (if j = f then v = A.tmps.getD df undef else V j v w)) → wpOps P (l ++ r).toArray Q (l.length :: f :: List.range' (l.length + 1) (r.length - 1)) (puts l.toArray.toList vs A) w) :
 (Code.region id (l ++ r).toArray true).wp P Q A W := by
 refine wp_region_any hm ?_
 have hL : Array.replicate (l ++ r).toArray.size false = Array.replicate l.length false ++ Array.replicate r.length false := by
  rw [List.size_toArray, List.length_append, Array.replicate_append_replicate]
 have hcnt : (Array.replicate l.length false).toList.count false = l.length := by simp
 have hsz : (l ++ r).toArray.size = l.length + r.length := by simp
 rw [hL, hsz]
 refine loopF (V := V) (T := T) (a0 := A) (w0 := W.drew) l r f hn hB hT0 hT hV hf hc (fun L a w h hall => ?_) (fun L a w h hall hff => ?_) l.length _ A _ hcnt ⟨by simp, ?_, rfl, rfl, hT0 _, ?_, fun _ _ => rfl⟩
 · obtain ⟨vs, h1, rfl, h3⟩ := h.puts hf hall
   exact hend vs w h1 h.tr h3
 · obtain ⟨of, hof, hofd⟩ : ∃ o, l[f]? = some o ∧ o.dst = some df := by
    rw [Option.bind_eq_some_iff] at hdf
    exact hdf
   have h' : By.Mid l.toArray (fun j v w => if j = f then v = A.tmps.getD df undef else V j v w) T A W.drew (Array.replicate l.toArray.size true) a w := by
    refine ⟨by simp, fun i o _ ho e he hb => ?_, h.defers, h.asize, h.tr, fun j o d _ ho hd => ?_, fun t ht => ?_⟩
    · have := hf.back i o ho e he hb
      have := (Array.getElem?_eq_some_iff.1 ho).1
      rw [Array.getD_eq_getD_getElem?, Array.getElem?_replicate, if_pos (by omega)]
      rfl
    · by_cases hjf : j = f
      · rw [if_pos hjf]
        have hoo : o = of := by
         have : l[j]? = some o := by simpa using ho
         rw [hjf, hof] at this
         injection this with this; exact this.symm
        have hdd : d = df := by rw [hoo, hofd] at hd; injection hd with hd; exact hd.symm
        rw [hdd]
        refine h.keep df fun j2 o2 ho2 hd2 => ?_
        have : j2 = f := hf.one j2 f o2 of df ho2 (by simpa using hof) hd2 hofd
        rw [this]; exact hff
      · rw [if_neg hjf]
        exact h.done j o d (hall j (Array.getElem?_eq_some_iff.1 ho).1 hjf) ho hd
    · refine h.keep t fun j o ho hd => ?_
      have := ht j o ho hd
      have hlt := (Array.getElem?_eq_some_iff.1 ho).1
      rw [Array.getD_eq_getD_getElem?, Array.getElem?_replicate, if_pos hlt] at this
      cases this
   obtain ⟨vs, h1, rfl, h3⟩ := h'.puts hf fun i hi => by
    rw [Array.getD_eq_getD_getElem?, Array.getElem?_replicate, if_pos hi]
    rfl
   exact hendF vs w h1 h.tr h3
 · intro i o hi
   simp [Array.getD_eq_getD_getElem?, Array.getElem?_replicate] at hi
   split at hi <;> simp at hi
 · intro j o d hj
   simp [Array.getD_eq_getD_getElem?, Array.getElem?_replicate] at hj
   split at hj <;> simp at hj
theorem go (hm : P.follows .mixedOrders = true) (r : List Oper) (hn : 0 < r.length) (ms : List Nat) (Vs : List (Value → World → Prop)) (T : World → World → Prop) {id : Nat} {l : List Oper} {W : World} {A : Act} (hB : tailB l r = true) (hf : fitB l A.tmps.size = true) (hms : masks l [] = ms)
 (hT0 : ∀ x, T x x) (hT : ∀ x y z, T x y → T y z → T x z) (hV : ∀ V ∈ Vs, ∀ (v : Value) (x y : World), V v x → T x y → V v y)
 (hc : By.Each P Q T A W.drew l ms Vs 0 l Vs) (hend : By.Ends (fun _ a w => wpList P (l ++ r).toArray Q r a w) l Vs A (fun w => T W.drew w)) : (Code.region id (l ++ r).toArray true).wp P Q A W := by
 have hsome : ∀ oj ∈ l, oj.dst.isSome = true := by
  simp only [fitB, Bool.and_eq_true, List.all_eq_true] at hf
  exact hf.2
 obtain ⟨hlen, hat⟩ := Each.at 0 l Vs hc
 have hanc : ∀ i j, (ms.getD i 0).testBit j = true → Anc l.toArray i j := by
  intro i j h
  rw [← hms] at h
  exact masks_spec l.toArray l [] (fun j o h => by simpa using h) (fun i j h => by simp at h) i j h
 refine region hm l r hn hB (fit_of hf) T (fun i v w => ∀ V, Vs[i]? = some V → V v w) hT0 hT (fun i v x y h ht V hV' => hV V (List.mem_of_getElem? hV') v x y (h V hV') ht) ?_ ?_
 · intro i o hi a w htr hs hg
   have hi' : l[i]? = some o := by simpa using hi
   obtain ⟨V, hVi⟩ : ∃ V, Vs[i]? = some V := ⟨_, List.getElem?_eq_getElem (by rw [← hlen]; exact (List.getElem?_eq_some_iff.1 hi').1)⟩
   rw [want_eq hsome]
   have := hat i o V hi' hVi a w htr
    (same_of _ fun t ht => by
     rw [Nat.zero_add] at ht
     refine hs t fun j oj hj hd => hanc j i ?_
     have hz := List.all_eq_true.1 ht (oj, j) (zip_mem (by simpa using hj))
     simpa [hd] using hz)
    (given_of _ _ _ fun j oj Vj hj hVj hb => by
     rw [Nat.zero_add] at hb
     have hd := hsome oj (List.mem_of_getElem? hj)
     cases hdd : oj.dst with
     | none => rw [hdd] at hd; cases hd
     | some d => exact hg j oj d (hanc i j hb) (by simpa using hj) hdd Vj hVj)
   refine ⟨fun h => Oper.wp_mono ?_ (this.1 h), fun h V' hV' => by rw [hVi] at hV'; injection hV' with e; subst e; exact this.2 h⟩
   rintro a' w' ⟨v, h1, h2, h3⟩
   exact ⟨v, h1, h2, fun V' hV' => by rw [hVi] at hV'; injection hV' with e; subst e; exact h3⟩
 · intro vs w hlv htr hv
   refine By.Ends.use (Q := fun _ a w => wpList P (l ++ r).toArray Q r a w) l Vs A _ vs w hlen (by simpa using hlv) hend htr fun j v V h1 h2 => ?_
   obtain ⟨o, ho⟩ : ∃ o, l[j]? = some o := ⟨_, List.getElem?_eq_getElem (by rw [hlen]; exact (List.getElem?_eq_some_iff.1 h2).1)⟩
   exact hv j o v (by simpa using ho) (hsome o (List.mem_of_getElem? ho)) h1 V h2
theorem goF (hm : P.follows .mixedOrders = true) (r : List Oper) (f : Nat) (df : Tmp) (hn : 0 < r.length) (ms : List Nat) (Vs : List (Value → World → Prop)) (T : World → World → Prop) {id : Nat} {l : List Oper} {W : World} {A : Act} (hdf : (l[f]?).bind (·.dst) = some df) (hB : tailFB l r f = true) (hf : fitB l A.tmps.size = true) (hms : masks l [] = ms)
 (hT0 : ∀ x, T x x) (hT : ∀ x y z, T x y → T y z → T x z) (hV : ∀ V ∈ Vs, ∀ (v : Value) (x y : World), V v x → T x y → V v y)
 (hc : By.Each P Q T A W.drew l ms Vs 0 l Vs) (hend : By.Ends (fun _ a w => wpList P (l ++ r).toArray Q r a w) l Vs A (fun w => T W.drew w))
 (hendF : By.Ends (fun _ a w => wpOps P (l ++ r).toArray Q (l.length :: f :: List.range' (l.length + 1) (r.length - 1)) a w) l (Vs.set f (fun v _ => v = A.tmps.getD df undef)) A (fun w => T W.drew w)) : (Code.region id (l ++ r).toArray true).wp P Q A W := by
 have hsome : ∀ oj ∈ l, oj.dst.isSome = true := by
  simp only [fitB, Bool.and_eq_true, List.all_eq_true] at hf
  exact hf.2
 obtain ⟨hlen, hat⟩ := Each.at 0 l Vs hc
 have hanc : ∀ i j, (ms.getD i 0).testBit j = true → Anc l.toArray i j := by
  intro i j h
  rw [← hms] at h
  exact masks_spec l.toArray l [] (fun j o h => by simpa using h) (fun i j h => by simp at h) i j h
 refine regionF hm l r f df hdf hn hB (fit_of hf) T (fun i v w => ∀ V, Vs[i]? = some V → V v w) hT0 hT (fun i v x y h ht V hV' => hV V (List.mem_of_getElem? hV') v x y (h V hV') ht) ?_ ?_ ?_
 · intro i o hi a w htr hs hg
   have hi' : l[i]? = some o := by simpa using hi
   obtain ⟨V, hVi⟩ : ∃ V, Vs[i]? = some V := ⟨_, List.getElem?_eq_getElem (by rw [← hlen]; exact (List.getElem?_eq_some_iff.1 hi').1)⟩
   rw [want_eq hsome]
   have := hat i o V hi' hVi a w htr
    (same_of _ fun t ht => by
     rw [Nat.zero_add] at ht
     refine hs t fun j oj hj hd => hanc j i ?_
     have hz := List.all_eq_true.1 ht (oj, j) (zip_mem (by simpa using hj))
     simpa [hd] using hz)
    (given_of _ _ _ fun j oj Vj hj hVj hb => by
     rw [Nat.zero_add] at hb
     have hd := hsome oj (List.mem_of_getElem? hj)
     cases hdd : oj.dst with
     | none => rw [hdd] at hd; cases hd
     | some d => exact hg j oj d (hanc i j hb) (by simpa using hj) hdd Vj hVj)
   refine ⟨fun h => Oper.wp_mono ?_ (this.1 h), fun h V' hV' => by rw [hVi] at hV'; injection hV' with e; subst e; exact this.2 h⟩
   rintro a' w' ⟨v, h1, h2, h3⟩
   exact ⟨v, h1, h2, fun V' hV' => by rw [hVi] at hV'; injection hV' with e; subst e; exact h3⟩
 · intro vs w hlv htr hv
   refine By.Ends.use (Q := fun _ a w => wpList P (l ++ r).toArray Q r a w) l Vs A _ vs w hlen (by simpa using hlv) hend htr fun j v V h1 h2 => ?_
   obtain ⟨o, ho⟩ : ∃ o, l[j]? = some o := ⟨_, List.getElem?_eq_getElem (by rw [hlen]; exact (List.getElem?_eq_some_iff.1 h2).1)⟩
   exact hv j o v (by simpa using ho) (hsome o (List.mem_of_getElem? ho)) h1 V h2
 · intro vs w hlv htr hv
   refine By.Ends.use (Q := fun _ a w => wpOps P (l ++ r).toArray Q (l.length :: f :: List.range' (l.length + 1) (r.length - 1)) a w) l (Vs.set f (fun v _ => v = A.tmps.getD df undef)) A _ vs w (by rw [List.length_set]; exact hlen) (by simpa using hlv) hendF htr fun j v V h1 h2 => ?_
   obtain ⟨o, ho⟩ : ∃ o, l[j]? = some o := ⟨_, List.getElem?_eq_getElem (by have := (List.getElem?_eq_some_iff.1 h2).1; rw [List.length_set, ← hlen] at this; exact this)⟩
   have h3 := hv j o v (by simpa using ho) (hsome o (List.mem_of_getElem? ho)) h1
   rw [List.getElem?_set] at h2
   by_cases hjf : f = j
   · rw [if_pos hjf] at h2
     rw [if_pos hjf.symm] at h3
     split at h2
     · injection h2 with h2; rw [← h2]; exact h3
     · cases h2
   · rw [if_neg hjf] at h2
     rw [if_neg (Ne.symm hjf)] at h3
     exact h3 V h2
end
theorem marks {P : Program} {Q : Exit → Act → World → Prop} (hm : P.follows .mixedOrders = true) (r : List Oper) (hn : 0 < r.length) (T : World → World → Prop) (Ms : List (By.Mark T)) (ms : List Nat) {id : Nat} {l : List Oper} {W : World} {A : Act} (hB : tailB l r = true) (hf : fitB l A.tmps.size = true) (hms : masks l [] = ms)
 (hT0 : ∀ x, T x x) (hT : ∀ x y z, T x y → T y z → T x z)
 (hc : By.Each P Q T A W.drew l ms (Ms.map (·.on)) 0 l (Ms.map (·.on))) (hend : By.Ends (fun _ a w => wpList P (l ++ r).toArray Q r a w) l (Ms.map (·.on)) A (fun w => T W.drew w)) : (Code.region id (l ++ r).toArray true).wp P Q A W :=
 go hm r hn ms (Ms.map (·.on)) T hB hf hms hT0 hT (fun V hV v x y h ht => by
  obtain ⟨M, _, rfl⟩ := List.mem_map.1 hV
  exact M.stays v x y h ht) hc hend
theorem marksAt {P : Program} {Q : Exit → Act → World → Prop} (hm : P.follows .mixedOrders = true) (n : Nat) (T : World → World → Prop) (Ms : List (By.Mark T)) (ms : List Nat) {id : Nat} {L : List Oper} {W : World} {A : Act} (hn : 0 < (L.drop n).length) (hB : tailB (L.take n) (L.drop n) = true)
 (hf : fitB (L.take n) A.tmps.size = true) (hms : masks (L.take n) [] = ms) (hT0 : ∀ x, T x x) (hT : ∀ x y z, T x y → T y z → T x z)
 (hc : By.Each P Q T A W.drew (L.take n) ms (Ms.map (·.on)) 0 (L.take n) (Ms.map (·.on))) (hend : By.Ends (fun _ a w => wpList P L.toArray Q (L.drop n) a w) (L.take n) (Ms.map (·.on)) A (fun w => T W.drew w)) : (Code.region id L.toArray true).wp P Q A W := by
 have := marks (P := P) (Q := Q) hm (L.drop n) hn T Ms ms (id := id) (l := L.take n) (W := W) (A := A) hB hf hms hT0 hT hc (by rw [List.take_append_drop]; exact hend)
 rwa [List.take_append_drop] at this
theorem marksF {P : Program} {Q : Exit → Act → World → Prop} (hm : P.follows .mixedOrders = true) (n f : Nat) (df : Tmp) (T : World → World → Prop) (Ms : List (By.Mark T)) (ms : List Nat) {id : Nat} {L : List Oper} {W : World} {A : Act} (hn : 0 < (L.drop n).length) (hdf : ((L.take n)[f]?).bind (·.dst) = some df) (hB : tailFB (L.take n) (L.drop n) f = true)
 (hf : fitB (L.take n) A.tmps.size = true) (hms : masks (L.take n) [] = ms) (hT0 : ∀ x, T x x) (hT : ∀ x y z, T x y → T y z → T x z)
 (hc : By.Each P Q T A W.drew (L.take n) ms (Ms.map (·.on)) 0 (L.take n) (Ms.map (·.on))) (os : List Oper) (hos : ((L.take n).length :: f :: List.range' ((L.take n).length + 1) ((L.drop n).length - 1)).map (L.toArray[·]?) = os.map some)
 (hend : By.Ends (fun _ a w => wpList P L.toArray Q (L.drop n) a w) (L.take n) (Ms.map (·.on)) A (fun w => T W.drew w))
 (hendF : By.Ends (fun _ a w => wpList P L.toArray Q os a w) (L.take n) ((Ms.set f (By.is (A.tmps.getD df undef))).map (·.on)) A (fun w => T W.drew w)) : (Code.region id L.toArray true).wp P Q A W := by
 have hl : L.take n ++ L.drop n = L := List.take_append_drop n L
 have := goF (P := P) (Q := Q) hm (L.drop n) f df hn ms (Ms.map (·.on)) T (id := id) (l := L.take n) (W := W) (A := A) hdf hB hf hms hT0 hT (fun V hV v x y h ht => by
  obtain ⟨M, _, rfl⟩ := List.mem_map.1 hV
  exact M.stays v x y h ht) hc (by rw [hl]; exact hend) (by
  rw [hl, wpOps_eq_list _ os hos]
  rw [List.map_set] at hendF
  exact hendF)
 rwa [hl] at this
end Tail
theorem wpList_world {P : Program} {ops : Array Oper} {l : List Oper} {a : Act} {w W : World} {Q : Exit → Act → World → Prop} (h : w = W) (hk : wpList P ops Q l a W) : wpList P ops Q l a w := h ▸ hk
end Go.Proofs.YtedmogacklbcmaaGreatDoor
