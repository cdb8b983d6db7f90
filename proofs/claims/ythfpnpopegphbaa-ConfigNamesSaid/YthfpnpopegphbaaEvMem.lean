/- Operations over memory answer as the model's do: those that make blocks, loads, stores. -/
import Derived.Test.YthfpnpopegphbaaEvPure
namespace Go.Proofs.Ythfpnpopegphbaa
namespace Ev
open Go.RowKit

/-- What neither reads nor writes memory, nor asks the tape. -/
inductive QuietS {α : Type} : Sem α → Prop where
  | pure (a : α) : QuietS (.pure a)
  | program {k : Program → Sem α} (h : ∀ p, QuietS (k p)) : QuietS (.program k)
  | halt (h : Halt) : QuietS (.halt h)
  | mark (m : Mark) {k : Sem α} (h : QuietS k) : QuietS (.mark m k)

theorem QuietS.bind {α γ : Type} {s : Sem α} {f : α → Sem γ} (h : QuietS s) (hf : ∀ x, QuietS (f x)) : QuietS (s >>= f) := by
  show QuietS (s.bind f)
  induction h with
  | pure a => exact hf a
  | program h ih => exact .program ih
  | halt h => exact .halt h
  | mark m h ih => exact .mark m ih
theorem QuietS.pure' {α : Type} (a : α) : QuietS (Pure.pure a : Sem α) := .pure a
theorem quiet_typeInfo (t : TypeId) : QuietS (typeInfo t) :=
  .bind (.program fun p => .pure p) fun p => by cases p.info? t <;> first | exact .halt _ | exact .pure _
theorem quiet_underlying (t : TypeId) : QuietS (underlying t) :=
  .bind (.program fun p => .pure p) fun p => by cases p.underlying t <;> first | exact .halt _ | exact .pure _
theorem quiet_sizeOf (t : TypeId) : QuietS (sizeOf t) := .bind (quiet_typeInfo t) fun _ => .pure _
theorem quiet_listMapM {α γ : Type} {f : α → Sem γ} (h : ∀ x, QuietS (f x)) : ∀ l : List α, QuietS (l.mapM f)
  | [] => by simp only [List.mapM_nil]; exact .pure _
  | x :: r => by
    simp only [List.mapM_cons]
    exact .bind (h x) fun _ => .bind (quiet_listMapM h r) fun _ => .pure _
theorem quiet_mapM {α γ : Type} {f : α → Sem γ} (h : ∀ x, QuietS (f x)) (l : Array α) : QuietS (l.mapM f) := by
  rw [Array.mapM_eq_mapM_toList, map_eq_pure_bind]
  exact .bind (quiet_listMapM h _) fun _ => .pure _

section
variable {P : Program} {w0 : Base} {β : Pl} {t : Tr Value} {ρ : Operand → Value} {o : Oper}

theorem sim_quiet {α : Type} {s : Sem α} (h : QuietS s) : SimAt P w0 β s s fun _ x x' => x' = x := by
  induction h with
  | pure a => exact sim_pure rfl
  | program h ih =>
    intro a w x a1 he hr
    exact ih P a w x a1 he hr
  | halt h => exact sim_none fun _ => rfl
  | mark m h ih =>
    intro a w x a1 he hr
    exact ih a w x a1 he hr

theorem sim_zeroValue {ty : TypeId} (hz : zflat P ty = true) : SimAt P w0 β (zeroValue ty) (zeroValue ty) fun _ x x' => x' = x ∧ flat x = true := by
  refine sim_bind (sim_typeInfo ty) fun β1 i i' _ ⟨h, hi⟩ => ?_
  subst h
  unfold zflat at hz
  rw [hi] at hz
  simp only at hz
  cases hzz : i'.zero with
  | none => exact sim_none fun _ => rfl
  | some z =>
    rw [hzz] at hz
    simp only [Bool.and_eq_true] at hz
    exact sim_pure ⟨rfl, hz.1⟩

/-- Parts of a struct, an array or a slice that is built. -/
def Parts (β : Pl) : List (Nat × Value) → List (Nat × Value) → Prop
  | [], [] => True
  | x :: r, y :: s => x.1 = y.1 ∧ VR β x.2 y.2 ∧ Parts β r s
  | _, _ => False

theorem set_many {β : Pl} (off : Nat) : ∀ (l l' : List Value) (k : Nat) (cs cs' : Array Value), VL β l l' → VL β cs.toList cs'.toList →
    VL β ((l.zipIdx k).foldl (fun cs (x : Value × Nat) => cs.setIfInBounds (off + x.2) x.1) cs).toList ((l'.zipIdx k).foldl (fun cs (x : Value × Nat) => cs.setIfInBounds (off + x.2) x.1) cs').toList ∧
    ((l.zipIdx k).foldl (fun cs (x : Value × Nat) => cs.setIfInBounds (off + x.2) x.1) cs).size = cs.size := by
  intro l
  induction l with
  | nil =>
    intro l' k cs cs' hl hc
    have : l' = [] := List.eq_nil_of_length_eq_zero (by simpa using hl.1.symm)
    subst this
    exact ⟨hc, rfl⟩
  | cons v r ih =>
    intro l' k cs cs' hl hc
    cases l' with
    | nil => have := hl.1; simp at this
    | cons v' r' =>
      simp only [List.zipIdx_cons, List.foldl_cons]
      obtain ⟨h1, h2⟩ := ih r' (k + 1) (cs.setIfInBounds (off + k) v) (cs'.setIfInBounds (off + k) v') hl.tail (by
        rw [Array.toList_setIfInBounds, Array.toList_setIfInBounds]; exact hc.set _ hl.head)
      exact ⟨h1, by rw [h2]; simp⟩

theorem set_many_arr {β : Pl} (off : Nat) (l l' cs cs' : Array Value) (hl : VL β l.toList l'.toList) (hc : VL β cs.toList cs'.toList) :
    VL β (l.zipIdx.foldl (fun cs (x : Value × Nat) => cs.setIfInBounds (off + x.2) x.1) cs).toList (l'.zipIdx.foldl (fun cs (x : Value × Nat) => cs.setIfInBounds (off + x.2) x.1) cs').toList := by
  have h := (set_many off l.toList l'.toList 0 cs cs' hl hc).1
  rw [← Array.foldl_toList, ← Array.foldl_toList, Array.toList_zipIdx, Array.toList_zipIdx]
  exact h

theorem fill_rel {place : Nat → Option (Nat × Nat)} : ∀ (ps ps' : List (Nat × Value)) (cs cs' : Array Value), Parts β ps ps' → VL β cs.toList cs'.toList →
    ∀ c, Instr.fill place cs ps = some c → ∃ c', Instr.fill place cs' ps' = some c' ∧ VL β c.toList c'.toList := by
  intro ps
  induction ps with
  | nil =>
    intro ps' cs cs' hp hc c h
    cases ps' with
    | nil => simp only [Instr.fill, Option.some.injEq] at h; subst h; exact ⟨cs', rfl, hc⟩
    | cons y s => exact hp.elim
  | cons x r ih =>
    intro ps' cs cs' hp hc c h
    cases ps' with
    | nil => exact hp.elim
    | cons y s =>
      obtain ⟨h1, h2, h3⟩ := hp
      obtain ⟨xi, xv⟩ := x
      obtain ⟨yi, yv⟩ := y
      simp only at h1 h2
      subst h1
      simp only [Instr.fill] at h ⊢
      cases hpl : place xi with
      | none => rw [hpl] at h; cases h
      | some q =>
        obtain ⟨off, size⟩ := q
        rw [hpl] at h
        simp only at h ⊢
        have hcl := h2.cells
        have hs : yv.cells.size = xv.cells.size := by have := hcl.1; simpa using this.symm
        have hs2 : cs'.size = cs.size := by have := hc.1; simpa using this.symm
        rw [hs, hs2]
        split at h
        · cases h
        · rename_i hn
          rw [if_neg hn]
          exact ih s _ _ h3 (set_many_arr off _ _ _ _ hcl hc) c h

theorem Parts.map {ps : Array (Nat × Operand)} (h : ∀ x, x ∈ ps.toList.map (·.2) → VR β (eval t x) (ρ x)) :
    Parts β ((ps.map fun (i, x) => (i, eval t x)).toList) ((ps.map fun (i, x) => (i, ρ x)).toList) := by
  rw [Array.toList_map, Array.toList_map]
  generalize ps.toList = l at *
  induction l with
  | nil => exact trivial
  | cons x r ih => exact ⟨rfl, h x.2 (by simp), ih fun y hy => h y (by simp only [List.map_cons, List.mem_cons]; exact .inr hy)⟩

theorem sim_build {ty : TypeId} (hz : zflat P ty = true) {ps ps' : Array (Nat × Value)} (hp : Parts β ps.toList ps'.toList) :
    SimAt P w0 β (Instr.build ty ps) (Instr.build ty ps') VR := by
  have hpm : ∀ β1, Le β β1 → Parts β1 ps.toList ps'.toList := by
    intro β1 hle
    generalize ps.toList = l at *
    generalize ps'.toList = l' at *
    induction l generalizing l' with
    | nil => cases l' <;> exact hp
    | cons x r ih =>
      cases l' with
      | nil => exact hp
      | cons y s => exact ⟨hp.1, hp.2.1.mono hle, ih s hp.2.2⟩
  refine sim_bind (sim_zeroValue hz) fun β1 z z' h1 ⟨e, hf⟩ => ?_
  subst e
  have hzc : ∀ β2, VL β2 z'.cells.toList z'.cells.toList := fun β2 => (VR.flat hf : VR β2 z' z').cells
  refine sim_bind (sim_underlying ty) fun β2 d d' h2 ⟨e, hu⟩ => ?_
  subst e
  cases d' with
  | struct fields =>
    refine sim_bind (sim_quiet (quiet_mapM (fun f => .bind (quiet_sizeOf f.type) fun _ => .pure _) fields)) fun β3 pl pl' h3 e => ?_
    subst e
    cases hfl : Instr.fill (fun x => pl'[x]?) z'.cells ps.toList with
    | none => exact sim_none fun a => by simp only [hfl]; rfl
    | some c =>
      obtain ⟨c', k1, k2⟩ := fill_rel _ _ _ _ (hpm β3 ((h1.trans h2).trans h3)) (hzc β3) c hfl
      simp only [hfl, k1]
      exact sim_pure (VR.agg_of k2)
  | array n e =>
    refine sim_bind (sim_quiet (quiet_sizeOf e)) fun β3 s s' h3 e => ?_
    subst e
    cases hfl : Instr.fill (fun i => some (i * s', s')) z'.cells ps.toList with
    | none => exact sim_none fun a => by simp only [hfl]; rfl
    | some c =>
      obtain ⟨c', k1, k2⟩ := fill_rel _ _ _ _ (hpm β3 ((h1.trans h2).trans h3)) (hzc β3) c hfl
      simp only [hfl, k1]
      exact sim_pure (VR.agg_of k2)
  | _ => exact sim_none fun _ => rfl

theorem flat_cells {z : Value} (h : flat z = true) (i : Nat) : flat (z.cells[i]!) = true := by
  by_cases hi : i < z.cells.size
  · have hm : z.cells[i] ∈ z.cells.toList := by simp
    have h1 : z.cells[i]! = z.cells[i] := getElem!_pos z.cells i hi
    rw [h1]
    cases z with
    | agg cs =>
      simp only [flat, List.all_eq_true] at h
      exact atom_flat (h _ hm)
    | _ => simp only [Value.cells, List.getElem_toArray] at hi ⊢; simp only [List.size_toArray, List.length_cons, List.length_nil] at hi; simpa [Nat.lt_one_iff.1 hi] using h
  · rw [getElem!_neg z.cells i hi]; rfl

theorem sim_buildSlice {ty e : TypeId} (hu : P.underlying ty = some (.slice e)) (hz : zflat P e = true) (n : Nat) {ps ps' : Array (Nat × Value)} (hp : ∀ β1, Le β β1 → Parts β1 ps.toList ps'.toList) :
    SimAt P w0 β (Instr.buildSlice ty n ps) (Instr.buildSlice ty n ps') VR := by
  refine sim_bind (sim_underlying ty) fun β1 d d' h1 ⟨eq, hu'⟩ => ?_
  subst eq
  rw [hu] at hu'; injection hu' with hu'; subst hu'
  refine sim_bind (sim_sizeOf e) fun β2 s s' h2 ⟨eq, _⟩ => ?_
  subst eq
  dsimp only
  split
  · exact sim_none fun _ => rfl
  · have tail : ∀ β3, Le β2 β3 → ∀ zc zc' : Array Value, (zc' = zc ∧ ∀ i : Nat, flat (zc[i]!) = true) → SimAt P w0 β3
        (match Instr.fill (fun i => some (i * s', s')) ((Array.range (n * s')).map (fun x => zc[x % zc.size]!)) ps.toList with
          | some cells => do pure (.slice (some (← newRow e cells)) n n)
          | _ => stuck "buildSlice: a part of the wrong size" : Sem Value)
        (match Instr.fill (fun i => some (i * s', s')) ((Array.range (n * s')).map (fun x => zc'[x % zc'.size]!)) ps'.toList with
          | some cells => do pure (.slice (some (← newRow e cells)) n n)
          | _ => stuck "buildSlice: a part of the wrong size" : Sem Value) VR := by
      intro β3 h3 zc zc' ⟨eq, hzc⟩
      subst eq
      have hcl : VL β3 ((Array.range (n * s')).map (fun x => zc'[x % zc'.size]!)).toList ((Array.range (n * s')).map (fun x => zc'[x % zc'.size]!)).toList := by
        refine .of_flat fun v hv => ?_
        simp only [Array.toList_map, List.mem_map] at hv
        obtain ⟨i, _, rfl⟩ := hv
        exact hzc _
      cases hfl : Instr.fill (fun i => some (i * s', s')) ((Array.range (n * s')).map (fun x => zc'[x % zc'.size]!)) ps.toList with
      | none => exact sim_none fun a => rfl
      | some c =>
        obtain ⟨c', k1, k2⟩ := fill_rel _ _ _ _ (hp β3 ((h1.trans h2).trans h3)) hcl c hfl
        simp only [k1]
        exact sim_bind (sim_newRow k2) fun β4 r r' _ hna => sim_pure (hna.slice n n)
    split
    · exact sim_bind (sim_pure (R := fun _ (zc zc' : Array Value) => zc' = zc ∧ ∀ i : Nat, flat (zc[i]!) = true) ⟨rfl, fun i => by simp; rfl⟩) fun β3 zc zc' h3 h => tail β3 h3 zc zc' h
    · refine sim_bind (sim_zeroValue hz) fun β3 z z' h3 ⟨eq, hf⟩ => ?_
      subst eq
      exact sim_bind (sim_pure (R := fun _ (zc zc' : Array Value) => zc' = zc ∧ ∀ i : Nat, flat (zc[i]!) = true) ⟨rfl, flat_cells hf⟩) fun β4 zc zc' h4 h => tail β4 (h3.trans h4) zc zc' h

theorem sim_box {e : TypeId} {v v' : Value} (hv : VR β v v') : SimAt P w0 β (Instr.box e v) (Instr.box e v') VR :=
  sim_bind (sim_newRow hv.cells) fun _ _ _ _ h => sim_pure (.ptr h.1)
theorem sim_alloc {e : TypeId} (hz : zflat P e = true) : SimAt P w0 β (Instr.alloc e true (.tuple #[])) (Instr.alloc e true (.tuple #[])) VR := by
  refine sim_bind (sim_zeroValue hz) fun β1 z z' _ ⟨eq, hf⟩ => ?_
  subst eq
  exact sim_bind (sim_newRow (VR.flat hf : VR β1 z' z').cells) fun _ _ _ _ h => sim_pure (.ptr h.1)
theorem arun_panic {α : Type} (m : String) (a : AW) : arun P (runtimePanic (.error m) : Sem α) a = none := rfl
theorem sim_makeSlice {ty e : TypeId} (hu : P.underlying ty = some (.slice e)) (hz : zflat P e = true) (l c : Value) :
    SimAt P w0 β (Instr.makeSlice ty l c) (Instr.makeSlice ty l c) VR := by
  refine sim_bind (sim_underlying ty) fun β1 d d' h1 ⟨eq, hu'⟩ => ?_
  subst eq
  rw [hu] at hu'; injection hu' with hu'; subst hu'
  have qi : ∀ v, QuietS (asInt v) := by
    intro v
    refine .bind ?_ fun _ => .pure _
    cases v with
    | int k n => exact .pure _
    | pointer a => cases a <;> exact .halt _
    | _ => exact .halt _
  refine sim_bind (sim_quiet (qi l)) fun β2 l1 l2 h2 eq => ?_
  subst eq
  refine sim_bind (sim_quiet (qi c)) fun β3 c1 c2 h3 eq => ?_
  subst eq
  refine sim_bind (sim_typeInfo e) fun β4 i i' h4 ⟨eq, hi⟩ => ?_
  subst eq
  dsimp only
  have main : ∀ β5, SimAt P w0 β5
      (do askRoom ((IntKind.i64.wrap c2).toNat * i'.bytes)
          let n := (IntKind.i64.wrap c2).toNat * (← sizeOf e)
          let zero ← if n = 0 then pure #[] else do pure (← zeroValue e).cells
          let a ← newRow e ((Array.range n).map (zero[· % zero.size]!))
          pure (.slice (some a) (IntKind.i64.wrap l2).toNat (IntKind.i64.wrap c2).toNat) : Sem Value)
      (do askRoom ((IntKind.i64.wrap c2).toNat * i'.bytes)
          let n := (IntKind.i64.wrap c2).toNat * (← sizeOf e)
          let zero ← if n = 0 then pure #[] else do pure (← zeroValue e).cells
          let a ← newRow e ((Array.range n).map (zero[· % zero.size]!))
          pure (.slice (some a) (IntKind.i64.wrap l2).toNat (IntKind.i64.wrap c2).toNat) : Sem Value) VR := by
    intro β5
    refine sim_bind (R := fun _ _ _ => True) ?_ fun β6 _ _ h6 _ => ?_
    · refine (sim_quiet ?_).mono fun _ _ _ _ _ => trivial
      unfold askRoom
      split
      · exact .mark _ (.pure _)
      · exact .pure _
    · refine sim_bind (sim_sizeOf e) fun β7 s s' h7 ⟨eq, _⟩ => ?_
      subst eq
      dsimp only
      have tail : ∀ β8, ∀ zc zc' : Array Value, (zc' = zc ∧ ∀ i : Nat, flat (zc[i]!) = true) → SimAt P w0 β8
          (do let a ← newRow e ((Array.range ((IntKind.i64.wrap c2).toNat * s')).map (zc[· % zc.size]!))
              pure (.slice (some a) (IntKind.i64.wrap l2).toNat (IntKind.i64.wrap c2).toNat) : Sem Value)
          (do let a ← newRow e ((Array.range ((IntKind.i64.wrap c2).toNat * s')).map (zc'[· % zc'.size]!))
              pure (.slice (some a) (IntKind.i64.wrap l2).toNat (IntKind.i64.wrap c2).toNat) : Sem Value) VR := by
        intro β8 zc zc' ⟨eq, hzc⟩
        subst eq
        have hcl : ∀ n, VL β8 ((Array.range n).map (fun x => zc'[x % zc'.size]!)).toList ((Array.range n).map (fun x => zc'[x % zc'.size]!)).toList := by
          intro n
          refine .of_flat fun v hv => ?_
          simp only [Array.toList_map, List.mem_map] at hv
          obtain ⟨i, _, rfl⟩ := hv
          exact hzc _
        exact sim_bind (sim_newRow (hcl _)) fun β9 r r' _ hna => sim_pure (hna.slice _ _)
      split
      · exact sim_bind (sim_pure (R := fun _ (zc zc' : Array Value) => zc' = zc ∧ ∀ i : Nat, flat (zc[i]!) = true) ⟨rfl, fun i => by simp; rfl⟩) fun β3 zc zc' h3 h => tail β3 zc zc' h
      · refine sim_bind (sim_zeroValue hz) fun β3 z z' h3 ⟨eq, hf⟩ => ?_
        subst eq
        exact sim_bind (sim_pure (R := fun _ (zc zc' : Array Value) => zc' = zc ∧ ∀ i : Nat, flat (zc[i]!) = true) ⟨rfl, flat_cells hf⟩) fun β4 zc zc' h4 h => tail β4 zc zc' h
  split
  · split
    · exact sim_none fun _ => rfl
    · split
      · exact sim_none fun _ => rfl
      · refine sim_none fun a => ?_
        rfl
  · exact main β4
end
end Ev
end Go.Proofs.Ythfpnpopegphbaa
