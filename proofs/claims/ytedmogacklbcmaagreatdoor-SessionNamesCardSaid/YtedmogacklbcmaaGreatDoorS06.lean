/- Texts that the proofs share: EvMemB. -/
import Derived.Test.YtedmogacklbcmaaGreatDoorS04
import Derived.MapKept
import Derived.Laws.AppendOwn
import Derived.Laws.BytesString
namespace Go.Proofs.YtedmogacklbcmaaGreatDoor
namespace Ev
open Go.RowKit
inductive QuietS {α : Type} : Sem α → Prop where
 | pure (a : α) : QuietS (.pure a)
 | program {k : Program → Sem α} (h : ∀ p, QuietS (k p)) : QuietS (.program k)
 | halt (h : Halt) : QuietS (.halt h)
 | mark (m : Mark) {k : Sem α} (h : QuietS k) : QuietS (.mark m k)
theorem QuietS.bind {α γ : Type} {s : Sem α} {f : α → Sem γ} (h : QuietS s) (hf : ∀ x, QuietS (f x)) : QuietS (s >>= f) := by
 show QuietS (s.bind f)
 induction h with
 | pure a => exact hf a
 | program h ih => exact .program ih
 | halt h => exact .halt h
 | mark m h ih => exact .mark m ih
theorem quiet_typeInfo (t : TypeId) : QuietS (typeInfo t) :=
 .bind (.program fun p => .pure p) fun p => by cases p.info? t <;> first | exact .halt _ | exact .pure _
theorem quiet_sizeOf (t : TypeId) : QuietS (sizeOf t) := .bind (quiet_typeInfo t) fun _ => .pure _
theorem quiet_listMapM {α γ : Type} {f : α → Sem γ} (h : ∀ x, QuietS (f x)) : ∀ l : List α, QuietS (l.mapM f)
 | [] => by simp only [List.mapM_nil]; exact .pure _
 | x :: r => by
   simp only [List.mapM_cons]
   exact .bind (h x) fun _ => .bind (quiet_listMapM h r) fun _ => .pure _
theorem quiet_mapM {α γ : Type} {f : α → Sem γ} (h : ∀ x, QuietS (f x)) (l : Array α) : QuietS (l.mapM f) := by
 rw [Array.mapM_eq_mapM_toList, map_eq_pure_bind]
 exact .bind (quiet_listMapM h _) fun _ => .pure _
section
variable {P : Program} {w0 : Base} {β : Pl} {t : Tr Value} {ρ : Operand → Value} {o : Oper}
theorem sim_quiet {α : Type} {s : Sem α} (h : QuietS s) : SimAt P w0 β s s fun _ x x' => x' = x := by
 induction h with
 | pure a => exact sim_pure rfl
 | program h ih =>
   intro a w x a1 he hr
   exact ih P a w x a1 he hr
 | halt h => exact sim_none fun _ => rfl
 | mark m h ih =>
   intro a w x a1 he hr
   exact ih a w x a1 he hr
theorem sim_zeroValue {ty : TypeId} (hz : zflat P ty = true) : SimAt P w0 β (zeroValue ty) (zeroValue ty) fun _ x x' => x' = x ∧ flat x = true := by
 refine sim_bind (sim_typeInfo ty) fun β1 i i' _ ⟨h, hi⟩ => ?_
 subst h
 unfold zflat at hz
 rw [hi] at hz
 simp only at hz
 cases hzz : i'.zero with
 | none => exact sim_none fun _ => rfl
 | some z =>
   rw [hzz] at hz
   simp only [Bool.and_eq_true] at hz
   exact sim_pure ⟨rfl, hz.1⟩
def Parts (β : Pl) : List (Nat × Value) → List (Nat × Value) → Prop
 | [], [] => True
 | x :: r, y :: s => x.1 = y.1 ∧ VR β x.2 y.2 ∧ Parts β r s
 | _, _ => False
theorem set_many {β : Pl} (off : Nat) : ∀ (l l' : List Value) (k : Nat) (cs cs' : Array Value), VL β l l' → VL β cs.toList cs'.toList →
 VL β ((l.zipIdx k).foldl (fun cs (x : Value × Nat) => cs.setIfInBounds (off + x.2) x.1) cs).toList ((l'.zipIdx k).foldl (fun cs (x : Value × Nat) => cs.setIfInBounds (off + x.2) x.1) cs').toList ∧
 ((l.zipIdx k).foldl (fun cs (x : Value × Nat) => cs.setIfInBounds (off + x.2) x.1) cs).size = cs.size := by
 intro l
 induction l with
 | nil =>
   intro l' k cs cs' hl hc
   have : l' = [] := List.eq_nil_of_length_eq_zero (by simpa using hl.1.symm)
   subst this
   exact ⟨hc, rfl⟩
 | cons v r ih =>
   intro l' k cs cs' hl hc
   cases l' with
   | nil => have := hl.1; simp at this
   | cons v' r' =>
     simp only [List.zipIdx_cons, List.foldl_cons]
     obtain ⟨h1, h2⟩ := ih r' (k + 1) (cs.setIfInBounds (off + k) v) (cs'.setIfInBounds (off + k) v') hl.tail (by
      rw [Array.toList_setIfInBounds, Array.toList_setIfInBounds]; exact hc.set _ hl.head)
     exact ⟨h1, by rw [h2]; simp⟩
theorem set_many_arr {β : Pl} (off : Nat) (l l' cs cs' : Array Value) (hl : VL β l.toList l'.toList) (hc : VL β cs.toList cs'.toList) :
 VL β (l.zipIdx.foldl (fun cs (x : Value × Nat) => cs.setIfInBounds (off + x.2) x.1) cs).toList (l'.zipIdx.foldl (fun cs (x : Value × Nat) => cs.setIfInBounds (off + x.2) x.1) cs').toList := by
 have h := (set_many off l.toList l'.toList 0 cs cs' hl hc).1
 rw [← Array.foldl_toList, ← Array.foldl_toList, Array.toList_zipIdx, Array.toList_zipIdx]
 exact h
theorem fill_rel {place : Nat → Option (Nat × Nat)} : ∀ (ps ps' : List (Nat × Value)) (cs cs' : Array Value), Parts β ps ps' → VL β cs.toList cs'.toList →
 ∀ c, Instr.fill place cs ps = some c → ∃ c', Instr.fill place cs' ps' = some c' ∧ VL β c.toList c'.toList := by
 intro ps
 induction ps with
 | nil =>
   intro ps' cs cs' hp hc c h
   cases ps' with
   | nil => simp only [Instr.fill, Option.some.injEq] at h; subst h; exact ⟨cs', rfl, hc⟩
   | cons y s => exact hp.elim
 | cons x r ih =>
   intro ps' cs cs' hp hc c h
   cases ps' with
   | nil => exact hp.elim
   | cons y s =>
     obtain ⟨h1, h2, h3⟩ := hp
     obtain ⟨xi, xv⟩ := x
     obtain ⟨yi, yv⟩ := y
     simp only at h1 h2
     subst h1
     simp only [Instr.fill] at h ⊢
     cases hpl : place xi with
     | none => rw [hpl] at h; cases h
     | some q =>
       obtain ⟨off, size⟩ := q
       rw [hpl] at h
       simp only at h ⊢
       have hcl := h2.cells
       have hs : yv.cells.size = xv.cells.size := by have := hcl.1; simpa using this.symm
       have hs2 : cs'.size = cs.size := by have := hc.1; simpa using this.symm
       rw [hs, hs2]
       split at h
       · cases h
       · rename_i hn
         rw [if_neg hn]
         exact ih s _ _ h3 (set_many_arr off _ _ _ _ hcl hc) c h
theorem Parts.map {ps : Array (Nat × Operand)} (h : ∀ x, x ∈ ps.toList.map (·.2) → VR β (eval t x) (ρ x)) :
 Parts β ((ps.map fun (i, x) => (i, eval t x)).toList) ((ps.map fun (i, x) => (i, ρ x)).toList) := by
 rw [Array.toList_map, Array.toList_map]
 generalize ps.toList = l at *
 induction l with
 | nil => exact trivial
 | cons x r ih => exact ⟨rfl, h x.2 (by simp), ih fun y hy => h y (by simp only [List.map_cons, List.mem_cons]; exact .inr hy)⟩
theorem sim_build {ty : TypeId} (hz : zflat P ty = true) {ps ps' : Array (Nat × Value)} (hp : Parts β ps.toList ps'.toList) :
 SimAt P w0 β (Instr.build ty ps) (Instr.build ty ps') VR := by
 have hpm : ∀ β1, Le β β1 → Parts β1 ps.toList ps'.toList := by
  intro β1 hle
  generalize ps.toList = l at *
  generalize ps'.toList = l' at *
  induction l generalizing l' with
  | nil => cases l' <;> exact hp
  | cons x r ih =>
    cases l' with
    | nil => exact hp
    | cons y s => exact ⟨hp.1, hp.2.1.mono hle, ih s hp.2.2⟩
 refine sim_bind (sim_zeroValue hz) fun β1 z z' h1 ⟨e, hf⟩ => ?_
 subst e
 have hzc : ∀ β2, VL β2 z'.cells.toList z'.cells.toList := fun β2 => (VR.flat hf : VR β2 z' z').cells
 refine sim_bind (sim_underlying ty) fun β2 d d' h2 ⟨e, hu⟩ => ?_
 subst e
 cases d' with
 | struct fields =>
   refine sim_bind (sim_quiet (quiet_mapM (fun f => .bind (quiet_sizeOf f.type) fun _ => .pure _) fields)) fun β3 pl pl' h3 e => ?_
   subst e
   cases hfl : Instr.fill (fun x => pl'[x]?) z'.cells ps.toList with
   | none => exact sim_none fun a => rfl
   | some c =>
     obtain ⟨c', k1, k2⟩ := fill_rel _ _ _ _ (hpm β3 ((h1.trans h2).trans h3)) (hzc β3) c hfl
     simp only [k1]
     exact sim_pure (VR.agg_of k2)
 | array n e =>
   refine sim_bind (sim_quiet (quiet_sizeOf e)) fun β3 s s' h3 e => ?_
   subst e
   cases hfl : Instr.fill (fun i => some (i * s', s')) z'.cells ps.toList with
   | none => exact sim_none fun a => rfl
   | some c =>
     obtain ⟨c', k1, k2⟩ := fill_rel _ _ _ _ (hpm β3 ((h1.trans h2).trans h3)) (hzc β3) c hfl
     simp only [k1]
     exact sim_pure (VR.agg_of k2)
 | _ => exact sim_none fun _ => rfl
theorem flat_cells {z : Value} (h : flat z = true) (i : Nat) : flat (z.cells[i]!) = true := by
 by_cases hi : i < z.cells.size
 · have hm : z.cells[i] ∈ z.cells.toList := by simp
   have h1 : z.cells[i]! = z.cells[i] := getElem!_pos z.cells i hi
   rw [h1]
   cases z with
   | agg cs =>
     simp only [flat, List.all_eq_true] at h
     exact atom_flat (h _ hm)
   | _ => simp only [Value.cells, List.getElem_toArray] at hi ⊢; simp only [List.size_toArray, List.length_cons, List.length_nil] at hi; simpa [Nat.lt_one_iff.1 hi] using h
 · rw [getElem!_neg z.cells i hi]; rfl
theorem sim_buildSlice {ty e : TypeId} (hu : P.underlying ty = some (.slice e)) (hz : zflat P e = true) (n : Nat) {ps ps' : Array (Nat × Value)} (hp : ∀ β1, Le β β1 → Parts β1 ps.toList ps'.toList) :
 SimAt P w0 β (Instr.buildSlice ty n ps) (Instr.buildSlice ty n ps') VR := by
 refine sim_bind (sim_underlying ty) fun β1 d d' h1 ⟨eq, hu'⟩ => ?_
 subst eq
 rw [hu] at hu'; injection hu' with hu'; subst hu'
 refine sim_bind (sim_sizeOf e) fun β2 s s' h2 ⟨eq, _⟩ => ?_
 subst eq
 dsimp only
 split
 · exact sim_none fun _ => rfl
 · have tail : ∀ β3, Le β2 β3 → ∀ zc zc' : Array Value, (zc' = zc ∧ ∀ i : Nat, flat (zc[i]!) = true) → SimAt P w0 β3
    (match Instr.fill (fun i => some (i * s', s')) ((Array.range (n * s')).map (fun x => zc[x % zc.size]!)) ps.toList with
     | some cells => do pure (.slice (some (← newRow e cells)) n n)
     | _ => stuck "buildSlice: a part of the wrong size" : Sem Value)
    (match Instr.fill (fun i => some (i * s', s')) ((Array.range (n * s')).map (fun x => zc'[x % zc'.size]!)) ps'.toList with
     | some cells => do pure (.slice (some (← newRow e cells)) n n)
     | _ => stuck "buildSlice: a part of the wrong size" : Sem Value) VR := by
    intro β3 h3 zc zc' ⟨eq, hzc⟩
    subst eq
    have hcl : VL β3 ((Array.range (n * s')).map (fun x => zc'[x % zc'.size]!)).toList ((Array.range (n * s')).map (fun x => zc'[x % zc'.size]!)).toList := by
     refine .of_flat fun v hv => ?_
     simp only [Array.toList_map, List.mem_map] at hv
     obtain ⟨i, _, rfl⟩ := hv
     exact hzc _
    cases hfl : Instr.fill (fun i => some (i * s', s')) ((Array.range (n * s')).map (fun x => zc'[x % zc'.size]!)) ps.toList with
    | none => exact sim_none fun a => rfl
    | some c =>
      obtain ⟨c', k1, k2⟩ := fill_rel _ _ _ _ (hp β3 ((h1.trans h2).trans h3)) hcl c hfl
      simp only [k1]
      exact sim_bind (sim_newRow k2) fun β4 r r' _ hna => sim_pure (hna.slice n n)
   split
   · exact sim_bind (sim_pure (R := fun _ (zc zc' : Array Value) => zc' = zc ∧ ∀ i : Nat, flat (zc[i]!) = true) ⟨rfl, fun i => by simp; rfl⟩) fun β3 zc zc' h3 h => tail β3 h3 zc zc' h
   · refine sim_bind (sim_zeroValue hz) fun β3 z z' h3 ⟨eq, hf⟩ => ?_
     subst eq
     exact sim_bind (sim_pure (R := fun _ (zc zc' : Array Value) => zc' = zc ∧ ∀ i : Nat, flat (zc[i]!) = true) ⟨rfl, flat_cells hf⟩) fun β4 zc zc' h4 h => tail β4 (h3.trans h4) zc zc' h
theorem sim_box {e : TypeId} {v v' : Value} (hv : VR β v v') : SimAt P w0 β (Instr.box e v) (Instr.box e v') VR :=
 sim_bind (sim_newRow hv.cells) fun _ _ _ _ h => sim_pure (.ptr h.1)
theorem sim_alloc {e : TypeId} (hz : zflat P e = true) : SimAt P w0 β (Instr.alloc e true (.tuple #[])) (Instr.alloc e true (.tuple #[])) VR := by
 refine sim_bind (sim_zeroValue hz) fun β1 z z' _ ⟨eq, hf⟩ => ?_
 subst eq
 exact sim_bind (sim_newRow (VR.flat hf : VR β1 z' z').cells) fun _ _ _ _ h => sim_pure (.ptr h.1)
theorem sim_makeSlice {ty e : TypeId} (hu : P.underlying ty = some (.slice e)) (hz : zflat P e = true) (l c : Value) :
 SimAt P w0 β (Instr.makeSlice ty l c) (Instr.makeSlice ty l c) VR := by
 refine sim_bind (sim_underlying ty) fun β1 d d' h1 ⟨eq, hu'⟩ => ?_
 subst eq
 rw [hu] at hu'; injection hu' with hu'; subst hu'
 have qi : ∀ v, QuietS (asInt v) := by
  intro v
  refine .bind ?_ fun _ => .pure _
  cases v with
  | int k n => exact .pure _
  | pointer a => cases a <;> exact .halt _
  | _ => exact .halt _
 refine sim_bind (sim_quiet (qi l)) fun β2 l1 l2 h2 eq => ?_
 subst eq
 refine sim_bind (sim_quiet (qi c)) fun β3 c1 c2 h3 eq => ?_
 subst eq
 refine sim_bind (sim_typeInfo e) fun β4 i i' h4 ⟨eq, hi⟩ => ?_
 subst eq
 dsimp only
 have main : ∀ β5, SimAt P w0 β5
  (do askRoom ((IntKind.i64.wrap c2).toNat * i'.bytes)
      let n := (IntKind.i64.wrap c2).toNat * (← sizeOf e)
      let zero ← if n = 0 then pure #[] else do pure (← zeroValue e).cells
      let a ← newRow e ((Array.range n).map (zero[· % zero.size]!))
      pure (.slice (some a) (IntKind.i64.wrap l2).toNat (IntKind.i64.wrap c2).toNat) : Sem Value)
  (do askRoom ((IntKind.i64.wrap c2).toNat * i'.bytes)
      let n := (IntKind.i64.wrap c2).toNat * (← sizeOf e)
      let zero ← if n = 0 then pure #[] else do pure (← zeroValue e).cells
      let a ← newRow e ((Array.range n).map (zero[· % zero.size]!))
      pure (.slice (some a) (IntKind.i64.wrap l2).toNat (IntKind.i64.wrap c2).toNat) : Sem Value) VR := by
  intro β5
  refine sim_bind (R := fun _ _ _ => True) ?_ fun β6 _ _ h6 _ => ?_
  · refine (sim_quiet ?_).mono fun _ _ _ _ _ => trivial
    unfold askRoom
    split
    · exact .mark _ (.pure _)
    · exact .pure _
  · refine sim_bind (sim_sizeOf e) fun β7 s s' h7 ⟨eq, _⟩ => ?_
    subst eq
    dsimp only
    have tail : ∀ β8, ∀ zc zc' : Array Value, (zc' = zc ∧ ∀ i : Nat, flat (zc[i]!) = true) → SimAt P w0 β8
     (do let a ← newRow e ((Array.range ((IntKind.i64.wrap c2).toNat * s')).map (zc[· % zc.size]!))
         pure (.slice (some a) (IntKind.i64.wrap l2).toNat (IntKind.i64.wrap c2).toNat) : Sem Value)
     (do let a ← newRow e ((Array.range ((IntKind.i64.wrap c2).toNat * s')).map (zc'[· % zc'.size]!))
         pure (.slice (some a) (IntKind.i64.wrap l2).toNat (IntKind.i64.wrap c2).toNat) : Sem Value) VR := by
     intro β8 zc zc' ⟨eq, hzc⟩
     subst eq
     have hcl : ∀ n, VL β8 ((Array.range n).map (fun x => zc'[x % zc'.size]!)).toList ((Array.range n).map (fun x => zc'[x % zc'.size]!)).toList := by
      intro n
      refine .of_flat fun v hv => ?_
      simp only [Array.toList_map, List.mem_map] at hv
      obtain ⟨i, _, rfl⟩ := hv
      exact hzc _
     exact sim_bind (sim_newRow (hcl _)) fun β9 r r' _ hna => sim_pure (hna.slice _ _)
    split
    · exact sim_bind (sim_pure (R := fun _ (zc zc' : Array Value) => zc' = zc ∧ ∀ i : Nat, flat (zc[i]!) = true) ⟨rfl, fun i => by simp; rfl⟩) fun β3 zc zc' h3 h => tail β3 zc zc' h
    · refine sim_bind (sim_zeroValue hz) fun β3 z z' h3 ⟨eq, hf⟩ => ?_
      subst eq
      exact sim_bind (sim_pure (R := fun _ (zc zc' : Array Value) => zc' = zc ∧ ∀ i : Nat, flat (zc[i]!) = true) ⟨rfl, flat_cells hf⟩) fun β4 zc zc' h4 h => tail β4 zc zc' h
 split
 · split
   · exact sim_none fun _ => rfl
   · split
     · exact sim_none fun _ => rfl
     · refine sim_none fun a => ?_
       rfl
 · exact main β4
end
end Ev
end Go.Proofs.YtedmogacklbcmaaGreatDoor
namespace Go.Proofs.YtedmogacklbcmaaGreatDoor
namespace Ev
open Go.RowKit
section
variable {P : Program} {w0 : Base} {β : Pl} {t : Tr Value} {ρ : Operand → Value} {o : Oper}
def isAggD : TypeDesc → Bool
 | .struct _ | .array _ _ => true
 | _ => false
theorem loadVar_sound {a a1 : AW} {w : World} (he : EmbR P w0 β a w) {ty : TypeId} {p p' : Addr} (h2 : VA β p p') {v2 : Value} (hr : arun P (loadVar ty p) a = some (v2, a1)) :
 ∃ v', (loadVar ty p').run P w = .ok v' w ∧ VR β v2 v' := by
 have hl : ∀ (n : Nat) (p p' : Addr) (i : Nat) (acc acc' : Array Value), VA β p p' → VL β acc.toList acc'.toList → ∀ r, arun P (loadCellsFrom p i n acc) a = some r →
  ∃ l', (loadCellsFrom p' i n acc').run P w = .ok l' w ∧ VL β r.1.toList l'.toList := by
  intro n
  induction n with
  | zero =>
    intro p p' i acc acc' _ hl r hr
    simp only [loadCellsFrom, Pure.pure, arun, Option.some.injEq] at hr
    subst hr
    exact ⟨acc', rfl, hl⟩
  | succ n ih =>
    intro p p' i acc acc' hp hl r hr
    simp only [loadCellsFrom] at hr ⊢
    have hb : arun P (Sem.bind (load (p.add i)) fun v => loadCellsFrom p (i + 1) n (acc.push v)) a = some r := hr
    rw [arun_bind] at hb
    cases hc : a.cell (p.add i) with
    | none => simp [load, arun, hc] at hb
    | some v =>
      simp only [load, arun, hc] at hb
      obtain ⟨v', k1, k2⟩ := he.cell (hp.add i) hc
      obtain ⟨l', k3, k4⟩ := ih p p' (i + 1) (acc.push v) (acc'.push v') hp (by rw [Array.toList_push, Array.toList_push]; exact hl.push k2) r hb
      exact ⟨l', by rw [Sem.run_bind, run_load, k1]; exact k3, k4⟩
 unfold loadVar at hr ⊢
 have hb : arun P (Sem.bind (isAgg ty) fun b => if b = true then (do pure (.agg (← loadCells p (← sizeOf ty)))) else load p) a = some (v2, a1) := hr
 rw [arun_bind] at hb
 cases hu : P.underlying ty with
 | none =>
   have : arun P (isAgg ty) a = none := by
    show arun P (Sem.bind (underlying ty) _) a = none
    rw [arun_bind]
    have : arun P (underlying ty) a = none := by
     show arun P (Sem.bind program _) a = none
     simp [arun_bind, program, arun, hu, stuck]
    rw [this]
   rw [this] at hb; cases hb
 | some d =>
   have q1 : arun P (underlying ty) a = some (d, a) := by
    show arun P (Sem.bind program _) a = _
    simp [arun_bind, program, arun, hu, Pure.pure]
   have agg : ∀ b, isAggD d = b → arun P (isAgg ty) a = some (b, a) ∧ (isAgg ty).run P w = .ok b w := by
    intro b hb
    constructor
    · show arun P (Sem.bind (underlying ty) _) a = _
      rw [arun_bind, q1]
      subst hb
      cases d <;> rfl
    · unfold isAgg
      rw [Sem.run_bind, run_underlying hu]
      subst hb
      cases d <;> rfl
   cases hb2 : isAggD d with
   | true =>
     obtain ⟨g1, g2⟩ := agg true hb2
     rw [g1] at hb
     simp only [if_true] at hb
     have hb' : arun P (Sem.bind (sizeOf ty) fun n => Sem.bind (loadCells p n) fun l => pure (.agg l)) a = some (v2, a1) := hb
     cases hi : P.info? ty with
     | none =>
       have : arun P (sizeOf ty) a = none := by
        show arun P (Sem.bind (Sem.bind program _) _) a = none
        simp [arun_bind, program, arun, hi, stuck]
       rw [arun_bind, this] at hb'; cases hb'
     | some info =>
       have q2 : arun P (sizeOf ty) a = some (info.size, a) := by
        show arun P (Sem.bind (Sem.bind program _) _) a = _
        simp [arun_bind, program, arun, hi, Pure.pure]
       rw [arun_bind, q2] at hb'
       simp only at hb'
       rw [arun_bind] at hb'
       cases hlc : arun P (loadCells p info.size) a with
       | none => rw [hlc] at hb'; cases hb'
       | some r =>
         rw [hlc] at hb'
         obtain ⟨r1, r2⟩ := r
         simp only [Pure.pure, arun, Option.some.injEq, Prod.mk.injEq] at hb'
         obtain ⟨e1, e2⟩ := hb'
         subst e1
         obtain ⟨l', k1, k2⟩ := hl info.size p p' 0 #[] #[] h2 (.nil β) _ hlc
         refine ⟨.agg l', ?_, VR.agg_of k2⟩
         rw [Sem.run_bind, g2]
         simp only [Result.andThen_ok, if_true, Sem.run_bind]
         have q3 : (sizeOf ty).run P w = .ok info.size w := by simp [sizeOf, typeInfo, hi]
         rw [q3]
         simp only [Result.andThen_ok]
         have k1' : (loadCells p' info.size).run P w = .ok l' w := k1
         rw [k1']
         rfl
   | false =>
     obtain ⟨g1, g2⟩ := agg false hb2
     rw [g1] at hb
     simp only [Bool.false_eq_true, if_false, load, arun] at hb
     cases hc : a.cell p with
     | none => rw [hc] at hb; cases hb
     | some v =>
       rw [hc] at hb
       simp only [Option.some.injEq, Prod.mk.injEq] at hb
       obtain ⟨e1, e2⟩ := hb
       subst e1
       obtain ⟨v', k1, k2⟩ := he.cell h2 hc
       refine ⟨v', ?_, k2⟩
       rw [Sem.run_bind, g2]
       simp only [Result.andThen_ok, Bool.false_eq_true, if_false, run_load, k1]
theorem bound_run {d : Int} {lo : Option Value} {l : Int} (h : boundOf d lo = some l) : lo = none ∧ l = d ∨ ∃ k, lo = some (.int k l) := by
 cases lo with
 | none => simp only [boundOf, Option.some.injEq] at h; exact .inl ⟨rfl, h.symm⟩
 | some v =>
   cases v <;> simp [boundOf] at h
   subst h
   exact .inr ⟨_, rfl⟩
theorem bounds_run {isSlice : Bool} {n cap : Nat} {lo hi : Option Value} {l h : Int} (hlo : lo = none ∧ l = 0 ∨ ∃ k, lo = some (.int k l)) (hhi : hi = none ∧ h = n ∨ ∃ k, hi = some (.int k h))
 (h0 : 0 ≤ l) (h1 : l ≤ h) (h2 : h ≤ cap) (w : World) : (Instr.sliceBounds isSlice n cap lo hi none).run P w = .ok (l.toNat, h.toNat, cap) w := by
 have hh : 0 ≤ h := by omega
 have hth : ((h.toNat : Nat) : Int) = h := Int.toNat_of_nonneg hh
 rcases hlo with ⟨rfl, rfl⟩ | ⟨k, rfl⟩ <;> rcases hhi with ⟨rfl, rfl⟩ | ⟨k', rfl⟩
 · simp [Instr.sliceBounds]
 · simp [Instr.sliceBounds, Instr.sliceBound, asIntOf, hh, h2]
 · have : l ≤ (n : Int) := h1
   simp [Instr.sliceBounds, Instr.sliceBound, asIntOf, h0, this]
 · have h3 : ¬ max h 0 < l := by omega
   simp [Instr.sliceBounds, Instr.sliceBound, asIntOf, hh, h2, h0, h3]
theorem VR.optInt {v v' : Option Value} (h : ∀ x, v = some x → ∃ x', v' = some x' ∧ VR β x x') (hn : v = none → v' = none) {l : Int} {n : Int}
 (hl : v = none ∧ l = n ∨ ∃ k, v = some (.int k l)) : v' = none ∧ l = n ∨ ∃ k, v' = some (.int k l) := by
 rcases hl with ⟨rfl, rfl⟩ | ⟨k, rfl⟩
 · exact .inl ⟨hn rfl, rfl⟩
 · obtain ⟨x', h1, h2⟩ := h _ rfl
   exact .inr ⟨k, by rw [h1, h2.int]⟩
theorem slice_sound {a : AW} {w : World} (he : EmbR P w0 β a w) {ty : TypeId} {x x' : Value} {lo hi lo' hi' : Option Value} (hx : VR β x x')
 (hlo : ∀ y, lo = some y → ∃ y', lo' = some y' ∧ VR β y y') (hlo0 : lo = none → lo' = none) (hhi : ∀ y, hi = some y → ∃ y', hi' = some y' ∧ VR β y y') (hhi0 : hi = none → hi' = none)
 {v : Value} (hv : evSlice P a ty x lo hi = some v) : ∃ v', (Instr.sliceAt ty x' lo' hi' none).run P w = .ok v' w ∧ VR β v v' := by
 unfold evSlice at hv
 split at hv
 · cases hv
 · rename_i l hl0
   have hl := VR.optInt hlo hlo0 (bound_run hl0)
   split at hv
   · rename_i p n c e hu
     obtain ⟨p', bi, rfl, hp, hbi⟩ := hx.sliceOf
     split at hv
     · rename_i h b hh0 hb
       have hh := VR.optInt hhi hhi0 (bound_run hh0)
       split at hv
       · rename_i hc
         obtain ⟨c1, c2, c3, c4, c5, c6⟩ := hc
         injection hv with hv
         have g7 : b.kind = 0 → bi.ext = 0 := by
          intro h0
          obtain ⟨bj, cur, fz, g1, _, _, _, _, _, g7, _⟩ := he.blk _ b hb (by omega)
          rw [hbi] at g1; injection g1 with g1; subst g1
          exact (g7 h0).1
         have hrun := bounds_run (P := P) (isSlice := true) (cap := c + bi.ext) (n := n) hl hh c1 c2 (by omega) w
         obtain ⟨info, hi2, hsz⟩ := cellsOf_info c6
         refine ⟨.slice (if c + bi.ext = l.toNat then some p' else some (p'.add (l.toNat * info.size))) (h.toNat - l.toNat) (c + bi.ext - l.toNat), ?_, ?_⟩
         · simp [Instr.sliceAt, Instr.slice, run_underlying hu, hrun, sizeOf, typeInfo, hi2]
         · subst hv
           rw [← hsz]
           have hcap : c + bi.ext - l.toNat = (c - l.toNat) + bi.ext := by omega
           rw [hcap]
           by_cases hce : c = l.toNat
           · have hk : b.kind = 0 := by
              rcases c5 with c5 | c5
              · exact c5
              · omega
             have hext := g7 hk
             rw [if_pos hce, if_pos (by omega)]
             exact .slice hp hbi
           · rw [if_neg hce, if_neg (by omega)]
             refine .slice (hp.add _) ?_
             have : (p.add (l.toNat * info.size)).block = p.block := by unfold Addr.add; split <;> rfl
             rw [this]; exact hbi
       · cases hv
     · cases hv
   · rename_i e hu
     have := hx.flat_eq (v := .slice none 0 0) rfl
     subst this
     split at hv
     · rename_i h hh0
       have hh := VR.optInt hhi hhi0 (bound_run hh0)
       split at hv
       · rename_i hc
         obtain ⟨rfl, rfl, c6⟩ := hc
         injection hv with hv
         have hrun := bounds_run (P := P) (isSlice := true) (cap := 0) (n := 0) hl hh (by omega) (by omega) (by omega) w
         obtain ⟨info, hi2, hsz⟩ := cellsOf_info c6
         refine ⟨.slice none 0 0, ?_, by subst hv; exact .flat rfl⟩
         simp only [Int.toNat_zero] at hrun
         simp [Instr.sliceAt, Instr.slice, run_underlying hu, hrun, sizeOf, typeInfo, hi2]
       · cases hv
     · cases hv
   · rename_i p n e hu
     obtain ⟨p', rfl, hp⟩ := hx.pointer
     split at hv
     · rename_i h b hh0 hb
       have hh := VR.optInt hhi hhi0 (bound_run hh0)
       split at hv
       · rename_i hc
         obtain ⟨c1, c2, c3, c4, c6⟩ := hc
         injection hv with hv
         obtain ⟨bi, cur, fz, g1, _, _, _, _, _, g7, _⟩ := he.blk _ b hb (by omega)
         have hext := (g7 c4).1
         have hrun := bounds_run (P := P) (isSlice := false) (cap := n) (n := n) hl hh c1 c2 (by omega) w
         obtain ⟨info, hi2, hsz⟩ := cellsOf_info c6
         refine ⟨.slice (some (if n = l.toNat then p' else p'.add (l.toNat * info.size))) (h.toNat - l.toNat) (n - l.toNat), ?_, ?_⟩
         · simp [Instr.sliceAt, Instr.sureAddr, run_underlying hu, hrun, sizeOf, typeInfo, hi2]
         · subst hv
           rw [← hsz]
           have e0 : n - l.toNat = n - l.toNat + bi.ext := by omega
           rw [e0]
           by_cases hce : n = l.toNat
           · rw [if_pos hce, if_pos hce]
             have := VR.slice (n := h.toNat - l.toNat) (c := n - l.toNat) hp g1
             rw [hext] at this ⊢
             exact this
           · rw [if_neg hce, if_neg hce]
             have hblk : (p.add (l.toNat * info.size)).block = p.block := by unfold Addr.add; split <;> rfl
             have := VR.slice (n := h.toNat - l.toNat) (c := n - l.toNat) (hp.add (l.toNat * info.size)) (by rw [hblk]; exact g1)
             rw [hext] at this ⊢
             exact this
       · cases hv
     · cases hv
   · cases hv
theorem VR.tuple2 {k v x' : Value} {kv : Array Value} (hkv : kv.toList = [k, v]) (h : VR β (.tuple kv) x') : ∃ k' v', x' = .tuple #[k', v'] ∧ VR β k k' ∧ VR β v v' := by
 have e : kv = #[k, v] := by rw [← Array.toArray_toList (xs := kv), hkv]
 subst e
 cases h with
 | flat h =>
   simp only [Ev.flat, List.all_eq_true] at h
   exact ⟨k, v, rfl, .flat (atom_flat (h k (by simp))), .flat (atom_flat (h v (by simp)))⟩
 | tuple hs h =>
   rename_i cs'
   have hs' : cs'.size = 2 := by simpa using hs.symm
   have e0 : cs' = #[cs'[0], cs'[1]] := by
    apply Array.ext
    · simp [hs']
    · intro i h1 h2
      rcases i with _ | _ | i
      · rfl
      · rfl
      · omega
   refine ⟨cs'[0], cs'[1], by rw [← e0], h 0 k _ rfl (Array.getElem?_eq_getElem _), h 1 v _ rfl (Array.getElem?_eq_getElem _)⟩
theorem keyKind_spec {kt : TypeId} {d : TypeDesc} (h : keyKind P kt = some d) : P.underlying kt = some d ∧ ((∃ k, d = .int k) ∨ d = .string ∨ d = .bool) := by
 unfold keyKind at h
 split at h <;> first | (injection h with h; subst h; exact ⟨‹_›, by simp⟩) | cases h
theorem sameNow_flat {d : TypeDesc} {k k' : Value} {r : Bool} (h : Instr.sameNow d k k' = some r) : flat k = true ∧ flat k' = true ∧ (r = true → k' = k) ∧ ∀ n, Instr.sameBits n k k = true := by
 unfold Instr.sameNow at h
 split at h
 · split at h
   · rename_i hk
     injection h with h; subst h; subst hk
     refine ⟨rfl, rfl, fun h => ?_, ?_⟩
     · simp at h; rw [h]
     · intro n; simp [Instr.sameBits]
   · cases h
 · injection h with h; subst h
   exact ⟨rfl, rfl, fun h => by rw [(MapKept.bytes_beq _ _).1 h], fun n => by simp [Instr.sameBits, MapKept.bytes_beq]⟩
 · injection h with h; subst h
   exact ⟨rfl, rfl, fun h => by simp at h; rw [h], fun n => by simp [Instr.sameBits]⟩
 · cases h
theorem mapFind_sound {d : TypeDesc} {k : Value} : ∀ (l : List Value) (es : List MapEntry) (i : Nat), VL β l (es.map entryV) → ∀ r, mapFind d k l i = some r →
 (r = none ∧ Instr.findNow d k es i = some none) ∨ ∃ j v v', r = some (i + j, v) ∧ Instr.findNow d k es i = some (some (i + j, v')) ∧ VR β v v' ∧ j < es.length ∧ ∀ e, es[j]? = some e → e.key = k := by
 intro l
 induction l with
 | nil =>
   intro es i hl r hr
   have : es = [] := by
    cases es with
    | nil => rfl
    | cons e es => have := hl.1; simp at this
   subst this
   simp only [mapFind, Option.some.injEq] at hr
   exact .inl ⟨hr.symm, rfl⟩
 | cons x l ih =>
   intro es i hl r hr
   cases es with
   | nil => have := hl.1; simp at this
   | cons e es =>
     simp only [List.map_cons] at hl
     have hh := hl.head
     unfold mapFind at hr
     split at hr
     case h_2 => cases hr
     rename_i kv
     split at hr
     case h_2 => cases hr
     rename_i k1 v1 hkv
     obtain ⟨k2, v2, h1, h2, h3⟩ := hh.tuple2 hkv
     unfold entryV at h1
     injection h1 with h1
     have e0 := congrArg Array.toList h1
     simp only [List.cons.injEq, and_true] at e0
     obtain ⟨e1, e2⟩ := e0
     split at hr
     · rename_i hs
       injection hr with hr; subst hr
       obtain ⟨_, f2, f3, _⟩ := sameNow_flat hs
       have hk := h2.flat_eq f2
       refine .inr ⟨0, v1, v2, rfl, ?_, h3, by simp, fun e' he' => ?_⟩
       · simp only [Instr.findNow, e1, hk, hs, e2, Nat.add_zero]
       · simp at he'; subst he'; rw [e1, hk]; exact f3 rfl
     · rename_i hs
       obtain ⟨_, f2, _, _⟩ := sameNow_flat hs
       have hk := h2.flat_eq f2
       rcases ih es (i + 1) hl.tail r hr with ⟨g1, g2⟩ | ⟨j, v, v', g1, g2, g3, g4, g5⟩
       · refine .inl ⟨g1, ?_⟩
         simp only [Instr.findNow, e1, hk, hs, g2]
       · refine .inr ⟨j + 1, v, v', by rw [g1]; congr 2; omega, ?_, g3, by simp; omega, fun e' he' => g5 e' (by simpa using he')⟩
         simp only [Instr.findNow, e1, hk, hs, g2]
         congr 3; omega
     · cases hr
theorem mapOf_some {a : AW} {r : Nat} {l : List Value} (h : a.mapOf r = some l) : ∃ b, a.heap.get r = some b ∧ b.kind = 2 ∧ b.cells = mapMark :: l := by
 unfold AW.mapOf at h
 split at h
 · rename_i b hb
   split at h
   · rename_i h1 h2
     injection h with h; subst h
     exact ⟨b, hb, h1, h2⟩
   · cases h
 · cases h
theorem VR.mapOf {r : Nat} {v' : Value} (h : VR β (.map (some r)) v') : ∃ bi, β r = some bi ∧ v' = .map (some bi.blk) := by
 cases h with
 | flat h => simp [Ev.flat, atom] at h
 | map h => exact ⟨_, h, rfl⟩
theorem lookup_sound {a : AW} {w : World} (he : EmbR P w0 β a w) {ty : TypeId} {m m' k k' : Value} {ok : Bool} (hm : VR β m m') (hk : VR β k k') {v : Value} (hv : evLookup P a ty m k ok = some v) :
 ∃ v', (Instr.lookup ty m' k' ok).run P w = .ok v' w ∧ VR β v v' := by
 unfold evLookup at hv
 split at hv
 case h_2 => cases hv
 rename_i r kt et hu
 split at hv
 case h_2 => cases hv
 rename_i d l hd hl
 split at hv
 case isFalse => cases hv
 rename_i hf
 rw [Bool.and_eq_true] at hf
 obtain ⟨hf, hz⟩ := hf
 have := hk.flat_eq hf
 subst this
 obtain ⟨bi, hbi, rfl⟩ := hm.mapOf
 obtain ⟨b, hb, hk2, hcl⟩ := mapOf_some hl
 obtain ⟨bj, es, clock, h1, _, h3, h4⟩ := he.maps.map r b l hb hk2 hcl
 rw [hbi] at h1; injection h1 with h1; subst h1
 obtain ⟨hkt, hkd⟩ := keyKind_spec hd
 have hchk : ∀ e, (Instr.checkKey e 10000 kt k').run P w = .ok () w := by
  intro e
  suffices h : ∀ n, (Instr.checkKey e (n + 1) kt k').run P w = .ok () w from h 9999
  intro n
  unfold Instr.checkKey
  rw [Sem.run_bind, run_underlying hkt]
  rcases hkd with ⟨q, rfl⟩ | rfl | rfl <;> cases k' <;> rfl
 have hget := MapKept.run_getObj_map (P := P) h3
 split at hv
 · rename_i i v1 hfi
   rcases mapFind_sound l es.toList 0 h4 _ hfi with ⟨g1, _⟩ | ⟨j, v2, v', g1, g2, g3, _⟩
   · cases g1
   · simp only [Option.some.injEq, Prod.mk.injEq] at g1
     obtain ⟨_, rfl⟩ := g1
     injection hv with hv
     have hfk := MapKept.run_findKey (P := P) (w := w) hkt g2
     refine ⟨if ok then .tuple #[v', .bool true] else v', ?_, ?_⟩
     · simp [Instr.lookup, run_underlying hu, hget, hchk, hfk]
     · subst hv
       cases ok
       · exact g3
       · refine .tuple rfl fun i x x' h1 h2 => ?_
         rcases i with _ | _ | i
         · simp at h1 h2; subst h1; subst h2; exact g3
         · simp at h1 h2; subst h1; subst h2; exact .flat rfl
         · simp at h1
 · rename_i hfi
   rcases mapFind_sound l es.toList 0 h4 _ hfi with ⟨_, g2⟩ | ⟨j, v2, v', g1, _⟩
   · split at hv
     case h_2 => cases hv
     rename_i z hzz
     injection hv with hv
     have hfk := MapKept.run_findKey (P := P) (w := w) hkt g2
     unfold zflat at hz
     cases hi : P.info? et with
     | none => rw [hi] at hz; cases hz
     | some inf =>
       rw [hi] at hz hzz
       simp only [Option.bind_some] at hzz
       dsimp only at hz
       rw [hzz] at hz
       simp only [Bool.and_eq_true] at hz
       refine ⟨if ok then .tuple #[z, .bool false] else z, ?_, ?_⟩
       · simp [Instr.lookup, run_underlying hu, hget, hchk, hfk, zeroValue, typeInfo, hi, hzz]
       · subst hv
         cases ok
         · exact .flat hz.1
         · refine .tuple rfl fun i x x' h1 h2 => ?_
           rcases i with _ | _ | i
           · simp at h1 h2; subst h1; subst h2; exact .flat hz.1
           · simp at h1 h2; subst h1; subst h2; exact .flat rfl
           · simp at h1
   · cases g1
 · cases hv
theorem load_sound {a : AW} {w : World} (he : EmbR P w0 β a w) (h : Ops β t ρ o.op) {v : Value} (hv : evLoad P t o a = some v) :
 ∃ v', (execOp ρ o).run P w = .ok (.value v') w ∧ VR β v v' := by
 obtain ⟨dst, op, type, pos, after, guard⟩ := o
 unfold evLoad at hv
 simp only at hv h
 split at hv
 · rename_i ty x
   have hx := h x (by simp [Op.operands])
   split at hv
   · rename_i p hp
     rw [hp] at hx
     obtain ⟨p', h1, h2⟩ := hx.pointer
     split at hv
     · rename_i v2 a1 hr
       injection hv with hv; subst hv
       obtain ⟨v', k1, k2⟩ := loadVar_sound he h2 hr
       refine ⟨v', ?_, k2⟩
       simp only [execOp, Instr.loadAt, h1, Instr.sureAddr, pure_bind, Sem.run_bind, k1, Result.andThen_ok, Sem.run_pure]
     · cases hv
   · cases hv
 · rename_i ty x lo hi
   cases hsl : evSlice P a ty (eval t x) (lo.map (eval t)) (hi.map (eval t)) with
   | none =>
     rw [hsl] at hv
     obtain ⟨v', k1, k2⟩ := pure_sound (o := ⟨dst, .slice ty x lo hi none, type, pos, after, guard⟩) h hv
     exact ⟨v', k1 w, k2⟩
   | some v1 =>
     rw [hsl] at hv
     injection hv with hv; subst hv
     obtain ⟨v', k1, k2⟩ := slice_sound he (lo' := lo.map ρ) (hi' := hi.map ρ) (h x (by simp [Op.operands])) (by
      intro y hy
      cases lo with
      | none => cases hy
      | some z => simp only [Option.map_some, Option.some.injEq] at hy; subst hy; exact ⟨_, rfl, h z (by simp [Op.operands])⟩) (by cases lo <;> simp) (by
      intro y hy
      cases hi with
      | none => cases hy
      | some z => simp only [Option.map_some, Option.some.injEq] at hy; subst hy; exact ⟨_, rfl, h z (by cases lo <;> simp [Op.operands])⟩) (by cases hi <;> simp) hsl
     refine ⟨v', ?_, k2⟩
     simp only [execOp, Option.map_none, Sem.run_bind, k1, Result.andThen_ok, Sem.run_pure]
 · rename_i ty m k ok
   obtain ⟨v', k1, k2⟩ := lookup_sound he (h m (by simp [Op.operands])) (h k (by simp [Op.operands])) hv
   refine ⟨v', ?_, k2⟩
   simp only [execOp, Sem.run_bind, k1, Result.andThen_ok, Sem.run_pure]
 · cases hv
end
end Ev
end Go.Proofs.YtedmogacklbcmaaGreatDoor
