/- Texts that the proofs share: EvPure. -/
import Derived.Test.YtedmogacklbcmaaGreatDoorS01
import Derived.Test.YtedmogacklbcmaaGreatDoorS03
import Derived.Laws.Entries
namespace Go.Proofs.YtedmogacklbcmaaGreatDoor
namespace Ev
open Go.RowKit
theorem pureRun_run {α : Type} {P : Program} (s : Sem α) : ∀ {x : α}, pureRun P s = some x → ∀ w, s.run P w = .ok x w := by
 induction s with
 | pure a => intro x h w; simp only [pureRun, Option.some.injEq] at h; subst h; rfl
 | program k ih => intro x h w; simp only [pureRun] at h; exact ih P h w
 | mark m k ih => intro x h w; simp only [pureRun] at h; exact ih h w
 | _ => intro x h w; simp [pureRun] at h
section
variable {P : Program} {β : Pl} {t : Tr Value} {ρ : Operand → Value} {o : Oper}
def Ops (β : Pl) (t : Tr Value) (ρ : Operand → Value) (o : Op) : Prop := ∀ x, x ∈ o.operands → VR β (eval t x) (ρ x)
theorem flat_same (h : Ops β t ρ o.op) (hs : ∀ cs b, o.op ≠ .select cs b) (hf : (o.op.operands.toList.all fun x => flat (eval t x)) = true) : execOp ρ o = execOp (eval t) o := by
 refine execOp_congr o hs fun x hx => ?_
 simp only [List.all_eq_true] at hf
 exact (h x hx).flat_eq (hf x (by simpa using hx))
theorem flat_pure (h : Ops β t ρ o.op) (hs : ∀ cs b, o.op ≠ .select cs b) (hf : (o.op.operands.toList.all fun x => flat (eval t x)) = true) {v : Value}
 (hr : (match pureRun P (execOp (eval t) o) with | some (.value v) => if flat v then some v else none | _ => none) = some v) :
 ∃ v', (∀ w, (execOp ρ o).run P w = .ok (.value v') w) ∧ VR β v v' := by
 split at hr
 · rename_i u hu
   split at hr
   · rename_i hfl
     injection hr with hr
     subst hr
     refine ⟨u, fun w => ?_, .flat hfl⟩
     rw [flat_same h hs hf]
     exact pureRun_run _ hu w
   · cases hr
 · cases hr
theorem VR.int {β : Pl} {k : IntKind} {n : Int} {v' : Value} (h : VR β (.int k n) v') : v' = .int k n := h.flat_eq rfl
theorem VR.bool {β : Pl} {b : Bool} {v' : Value} (h : VR β (.bool b) v') : v' = .bool b := h.flat_eq rfl
theorem VR.pointer {β : Pl} {a : Addr} {v' : Value} (h : VR β (.pointer (some a)) v') : ∃ a', v' = .pointer (some a') ∧ VA β a a' := by
 cases h with
 | flat h => simp [Ev.flat, atom] at h
 | ptr h => exact ⟨_, rfl, h⟩
theorem VR.sliceOf {β : Pl} {a : Addr} {n c : Nat} {v' : Value} (h : VR β (.slice (some a) n c) v') : ∃ a' bi, v' = .slice (some a') n (c + bi.ext) ∧ VA β a a' ∧ β a.block = some bi := by
 cases h with
 | flat h => simp [Ev.flat, atom] at h
 | slice h hb => exact ⟨_, _, rfl, h, hb⟩
theorem VR.sliceAny {β : Pl} {a : Option Addr} {n c : Nat} {v' : Value} (h : VR β (.slice a n c) v') : ∃ a' n' c', v' = .slice a' n' c' := by
 cases h with
 | flat h => exact ⟨_, _, _, rfl⟩
 | slice h hb => exact ⟨_, _, _, rfl⟩
theorem VR.funcOf {β : Pl} {fn : Fn} {cs ds : Array Value} {v' : Value} (h : VR β (.func fn cs ds) v') : ∃ cs' ds', v' = .func fn cs' ds' ∧ VL β cs.toList cs'.toList ∧ VL β ds.toList ds'.toList := by
 cases h with
 | flat h => simp [Ev.flat, atom] at h
 | func fn hs h ks k => exact ⟨_, _, rfl, ⟨by simpa using hs, fun i v v' h1 h2 => h i v v' (by simpa using h1) (by simpa using h2)⟩, ⟨by simpa using ks, fun i v v' h1 h2 => k i v v' (by simpa using h1) (by simpa using h2)⟩⟩
theorem VR.func_of {β : Pl} {fn : Fn} {cs ds cs' ds' : Array Value} (h : VL β cs.toList cs'.toList) (k : VL β ds.toList ds'.toList) : VR β (.func fn cs ds) (.func fn cs' ds') :=
 .func fn (by simpa using h.1) (fun i v v' h1 h2 => h.2 i v v' (by simpa using h1) (by simpa using h2)) (by simpa using k.1) (fun i v v' h1 h2 => k.2 i v v' (by simpa using h1) (by simpa using h2))
theorem VR.aggOf {β : Pl} {cs : Array Value} {v' : Value} (h : VR β (.agg cs) v') : ∃ cs', v' = .agg cs' ∧ VL β cs.toList cs'.toList := by
 cases h with
 | flat h =>
   refine ⟨cs, rfl, .of_flat fun v hv => ?_⟩
   simp only [Ev.flat, List.all_eq_true] at h
   exact atom_flat (h v hv)
 | agg hs h => exact ⟨_, rfl, ⟨by simpa using hs, fun i v v' h1 h2 => h i v v' (by simpa using h1) (by simpa using h2)⟩⟩
theorem VL.mapOps {β : Pl} {t : Tr Value} {ρ : Operand → Value} {args : Array Operand} (h : ∀ x, x ∈ args → VR β (eval t x) (ρ x)) : VL β (args.map (eval t)).toList (args.map ρ).toList := by
 refine ⟨by simp, fun i v v' h1 h2 => ?_⟩
 simp only [Array.toList_map, List.getElem?_map, Option.map_eq_some_iff] at h1 h2
 obtain ⟨x, hx, rfl⟩ := h1
 obtain ⟨y, hy, rfl⟩ := h2
 rw [hx] at hy; injection hy with hy; subst hy
 exact h x (by rw [← Array.mem_toList_iff]; exact List.mem_of_getElem? hx)
theorem part_sound {P : Program} {β : Pl} {t : TypeId} {cs cs' : Array Value} {off : Nat} (hl : VL β cs.toList cs'.toList) {v : Value} (hv : evPart P t cs off = some v) :
 ∃ v', (∀ w : World, (part t cs' off).run P w = .ok v' w) ∧ VR β v v' := by
 unfold evPart at hv
 have ext : ∀ n, VL β (cs.extract off n).toList (cs'.extract off n).toList := by
  intro n
  rw [Array.toList_extract, Array.toList_extract]
  simp only [List.extract]
  exact (hl.drop _).take _
 split at hv
 · rename_i fs hu
   split at hv
   · rename_i i hi
     injection hv with hv; subst hv
     exact ⟨_, fun w => by simp [part, isAgg, run_underlying hu, sizeOf, typeInfo, hi], VR.agg_of (ext _)⟩
   · cases hv
 · rename_i n e hu
   split at hv
   · rename_i i hi
     injection hv with hv; subst hv
     exact ⟨_, fun w => by simp [part, isAgg, run_underlying hu, sizeOf, typeInfo, hi], VR.agg_of (ext _)⟩
   · cases hv
 · rename_i d hn1 hn2 hu
   have hc : cs.toList[off]? = some v := by simpa using hv
   obtain ⟨v', h1, h2⟩ := hl.get hc
   have h1' : cs'[off]? = some v' := by simpa using h1
   refine ⟨v', fun w => ?_, h2⟩
   have hag : (isAgg t).run P w = .ok false w := by
    unfold isAgg
    rw [Sem.run_bind, run_underlying hu]
    cases d <;> first | rfl | exact absurd rfl (hn1 _) | exact absurd rfl (hn2 _ _)
   unfold part
   rw [Sem.run_bind, hag]
   simp [h1']
 · cases hv
theorem nilEq_sound {ty : TypeId} {x y x' y' : Value} (hx : VR β x x') (hy : VR β y y') {b : Bool} (h : nilEq P ty x y = some b) (w : World) :
 (Op.equal ty x' y').run P w = .ok b w := by
 unfold nilEq at h
 split at h
 · rename_i e a hu
   injection h with h; subst h
   obtain ⟨a', rfl, _⟩ := hx.pointer
   have := hy.flat_eq (v := .pointer none) rfl; subst this
   suffices hd : ∀ d, (Op.equalIn (d + 1) ty (.pointer (some a')) (.pointer none)).run P w = .ok false w from hd 9999
   intro d
   simp only [Op.equalIn]
   simp [run_underlying hu]
 · rename_i e a hu
   injection h with h; subst h
   obtain ⟨a', rfl, _⟩ := hy.pointer
   have := hx.flat_eq (v := .pointer none) rfl; subst this
   suffices hd : ∀ d, (Op.equalIn (d + 1) ty (.pointer none) (.pointer (some a'))).run P w = .ok false w from hd 9999
   intro d
   simp only [Op.equalIn]
   simp [run_underlying hu]
 · rename_i e a _ _ hu
   injection h with h; subst h
   obtain ⟨a', bi, rfl, _⟩ := hx.sliceOf
   have := hy.flat_eq (v := .slice none 0 0) rfl; subst this
   suffices hd : ∀ d, (Op.equalIn (d + 1) ty (.slice (some a') _ _) (.slice none 0 0)).run P w = .ok false w from hd 9999
   intro d
   simp only [Op.equalIn]
   simp [run_underlying hu]
 · rename_i e a _ _ hu
   injection h with h; subst h
   obtain ⟨a', bi, rfl, _⟩ := hy.sliceOf
   have := hx.flat_eq (v := .slice none 0 0) rfl; subst this
   suffices hd : ∀ d, (Op.equalIn (d + 1) ty (.slice none 0 0) (.slice (some a') _ _)).run P w = .ok false w from hd 9999
   intro d
   simp only [Op.equalIn]
   simp [run_underlying hu]
 · cases h
theorem nilEq_shape {ty : TypeId} {x y : Value} {b : Bool} (h : nilEq P ty x y = some b) :
 (∃ a c, x = .pointer a ∧ y = .pointer c ∧ (a = none ∨ c = none)) ∨ (∃ a n c a' n' c', x = .slice a n c ∧ y = .slice a' n' c') := by
 unfold nilEq at h
 split at h
 · exact .inl ⟨_, _, rfl, rfl, .inr rfl⟩
 · exact .inl ⟨_, _, rfl, rfl, .inl rfl⟩
 · exact .inr ⟨_, _, _, _, _, _, rfl, rfl⟩
 · exact .inr ⟨_, _, _, _, _, _, rfl, rfl⟩
 · cases h
theorem cellsOf_info {P : Program} {t : TypeId} (h : 0 < P.cellsOf t) : ∃ i, P.info? t = some i ∧ i.size = P.cellsOf t := by
 unfold Program.cellsOf at *
 cases hi : P.info? t with
 | none => rw [hi] at h; simp at h
 | some i => exact ⟨i, rfl, by simp⟩
theorem pure_sound (h : Ops β t ρ o.op) {v : Value} (hv : evPure P t o = some v) :
 ∃ v', (∀ w, (execOp ρ o).run P w = .ok (.value v') w) ∧ VR β v v' := by
 obtain ⟨dst, op, type, pos, after, guard⟩ := o
 simp only at h
 unfold evPure at hv
 simp only at hv
 split at hv
 · -- move
   injection hv with hv; subst hv
   exact ⟨_, fun w => rfl, h _ (by simp [Op.operands])⟩
 · injection hv with hv; subst hv
   exact ⟨_, fun w => rfl, h _ (by simp [Op.operands])⟩
 · -- pick
   rename_i c a b
   split at hv
   · rename_i q hq
     have hc := h c (by simp [Op.operands])
     rw [hq] at hc
     have hc := hc.bool
     injection hv with hv; subst hv
     refine ⟨if q then ρ a else ρ b, fun w => ?_, ?_⟩
     · simp [execOp, hc, asBool]
     · cases q
       · exact h b (by simp [Op.operands])
       · exact h a (by simp [Op.operands])
   · cases hv
 · -- extract
   rename_i x i
   split at hv
   · rename_i vs hvs
     have hx := h x (by simp [Op.operands])
     rw [hvs] at hx
     have key : ∃ vs' : Array Value, ρ x = .tuple vs' ∧ ∃ v', vs'[i]? = some v' ∧ VR β v v' := by
      generalize hxx : ρ x = r at hx
      cases hx with
      | flat hf =>
        refine ⟨vs, rfl, v, hv, ?_⟩
        simp only [flat, List.all_eq_true] at hf
        exact .flat (atom_flat (hf v (by rw [Array.mem_toList_iff]; exact Array.mem_of_getElem? hv)))
      | tuple hs hh =>
        rename_i vs'
        have hlt : i < vs.size := (Array.getElem?_eq_some_iff.1 hv).1
        exact ⟨vs', rfl, vs'[i]'(by omega), Array.getElem?_eq_getElem (by omega), hh i v _ hv (Array.getElem?_eq_getElem (by omega))⟩
     obtain ⟨vs', h1, v', h2, h3⟩ := key
     exact ⟨v', fun w => by simp [execOp, Instr.extract, h1, h2], h3⟩
   · cases hv
 · -- nilCheck
   rename_i x
   have hx := h x (by simp [Op.operands])
   split at hv
   · rename_i a ha
     rw [ha] at hx
     obtain ⟨a', h1, h2⟩ := hx.pointer
     injection hv with hv; subst hv
     exact ⟨_, fun w => by simp [execOp, h1], .ptr h2⟩
   · rename_i g first caps hf
     rw [hf] at hx
     obtain ⟨cs', ds', h1, h2, h3⟩ := hx.funcOf
     injection hv with hv; subst hv
     exact ⟨_, fun w => by simp [execOp, h1], .func_of h2 h3⟩
   · cases hv
 · -- makeFunc
   rename_i fn first caps
   injection hv with hv; subst hv
   exact ⟨.func fn (first.map ρ) (caps.map ρ), fun w => by simp [execOp, Instr.makeFunc], .func_of (VL.mapOps fun x hx => h x (by simp [Op.operands, hx])) (VL.mapOps fun x hx => h x (by simp [Op.operands, hx]))⟩
 · -- field
   rename_i ty x f
   split at hv
   · rename_i hf
     refine flat_pure h (fun _ _ => by simp) ?_ hv
     simpa [Op.operands] using hf
   · have hx := h x (by simp [Op.operands])
     unfold evField at hv
     split at hv
     · rename_i cs fs hcs hu
       rw [hcs] at hx
       obtain ⟨cs', h1, h2⟩ := hx.aggOf
       split at hv
       · rename_i fd hfd
         obtain ⟨v', h3, h4⟩ := part_sound h2 hv
         refine ⟨v', fun w => ?_, h4⟩
         simp [execOp, Instr.field, run_underlying hu, hfd, h1, asAgg, h3]
       · cases hv
     · cases hv
 · -- index
   rename_i ty x ix
   split at hv
   · rename_i hf
     refine flat_pure h (fun _ _ => by simp) ?_ hv
     simpa [Op.operands] using hf
   · have hx := h x (by simp [Op.operands])
     have hix := h ix (by simp [Op.operands])
     unfold evIndex at hv
     split at hv
     · rename_i k i cs n e hi hcs hu
       rw [hcs] at hx
       rw [hi] at hix
       obtain ⟨cs', h1, h2⟩ := hx.aggOf
       have h3 := hix.int
       split at hv
       · rename_i hb
         obtain ⟨j, hj, hsz⟩ := cellsOf_info hb.2.2
         obtain ⟨v', h4, h5⟩ := part_sound h2 hv
         refine ⟨v', fun w => ?_, h5⟩
         have hb1 : 0 ≤ i := hb.1
         have hb2 : i < (n : Int) := hb.2.1
         have h4' := h4 w
         simp [execOp, Instr.index, h1, h3, asIntOf, run_underlying hu, hb1, hb2, sizeOf, typeInfo, hj, hsz, h4']
       · cases hv
     · cases hv
 · -- fieldAddr
   rename_i s x f
   have hx := h x (by simp [Op.operands])
   split at hv
   · rename_i a fs ha hs
     rw [ha] at hx
     obtain ⟨a', h1, h2⟩ := hx.pointer
     split at hv
     · rename_i fd hfd
       split at hv
       · rename_i hpos
         injection hv with hv; subst hv
         obtain ⟨i, hi, hsz⟩ := cellsOf_info hpos
         refine ⟨.pointer (some (a'.add fd.offset)), fun w => ?_, .ptr (h2.add _)⟩
         have hne : i.size ≠ 0 := by omega
         simp [execOp, Instr.fieldAt, run_underlying hs, h1, hfd, Instr.sureAddr, fieldPlace, sizeOf, typeInfo, hi, hne]
       · cases hv
     · cases hv
   · cases hv
 · -- indexAddr
   rename_i ty x ix
   have hx := h x (by simp [Op.operands])
   have hix := h ix (by simp [Op.operands])
   split at hv
   · rename_i k i a n c e hi ha hu
     rw [ha] at hx
     rw [hi] at hix
     obtain ⟨a', bi, h1, h2, _⟩ := hx.sliceOf
     have h3 := hix.int
     split at hv
     · rename_i hb
       injection hv with hv; subst hv
       obtain ⟨j, hj, hsz⟩ := cellsOf_info hb.2.2
       refine ⟨.pointer (some (a'.add (i.toNat * P.cellsOf e))), fun w => ?_, .ptr (h2.add _)⟩
       have hb1 : 0 ≤ i := hb.1
       have hb2 : i < (n : Int) := hb.2.1
       simp [execOp, Instr.indexAt, run_underlying hu, h1, h3, asIntOf, sizeOf, typeInfo, hj, hsz, hb1, hb2]
     · cases hv
   · rename_i k i a n e hi ha hu
     rw [ha] at hx
     rw [hi] at hix
     obtain ⟨a', h1, h2⟩ := hx.pointer
     have h3 := hix.int
     split at hv
     · rename_i hb
       injection hv with hv; subst hv
       obtain ⟨j, hj, hsz⟩ := cellsOf_info hb.2.2
       refine ⟨.pointer (some (a'.add (i.toNat * P.cellsOf e))), fun w => ?_, .ptr (h2.add _)⟩
       have hb1 : 0 ≤ i := hb.1
       have hb2 : i < (n : Int) := hb.2.1
       simp [execOp, Instr.indexAt, run_underlying hu, h1, h3, asIntOf, sizeOf, typeInfo, hj, hsz, hb1, hb2, Instr.sureAddr]
     · cases hv
   · cases hv
 · -- sliceToArrayPointer
   rename_i ty x
   have hx := h x (by simp [Op.operands])
   split at hv
   · rename_i a n c m e ha hu
     rw [ha] at hx
     obtain ⟨a', bi, h1, h2, _⟩ := hx.sliceOf
     split at hv
     · rename_i hb
       injection hv with hv; subst hv
       refine ⟨.pointer (some a'), fun w => ?_, .ptr h2⟩
       have hb1 : ¬ n < m := by omega
       simp [execOp, Instr.arrayAt, run_underlying hu, h1, hb1]
     · cases hv
   · cases hv
 · -- call
   rename_i c
   split at hv
   · rename_i hf
     exact flat_pure h (fun _ _ => by simp) hf hv
   · obtain ⟨callee, args, argTypes⟩ := c
     unfold evLen at hv
     simp only at hv
     split at hv
     · rename_i x ty hargs htys _
       split at hv
       · rename_i a n c e ha hu
         have hx := h x (by simp [Op.operands, Call.operands, ← Array.mem_toList_iff, hargs])
         rw [ha] at hx
         obtain ⟨a', bi, h1, h2, _⟩ := hx.sliceOf
         injection hv with hv; subst hv
         refine ⟨.int .i64 n, fun w => ?_, .flat rfl⟩
         have e1 : args = #[x] := by rw [← Array.toArray_toList (xs := args), hargs]
         have e2 : argTypes = #[ty] := by rw [← Array.toArray_toList (xs := argTypes), htys]
         subst e1; subst e2
         simp [execOp, resolve, invoke, builtin, h1, Builtin.len_, run_underlying hu, goInt]
       · cases hv
     · cases hv
 · -- binOp
   rename_i bop ty x y ty2
   have hx := h x (by simp [Op.operands])
   have hy := h y (by simp [Op.operands])
   split at hv
   · rename_i hf
     refine flat_pure h (fun _ _ => by simp) ?_ hv
     simpa [Op.operands] using hf
   · split at hv
     · cases hn : nilEq P ty (eval t x) (eval t y) with
       | none => rw [hn] at hv; simp at hv
       | some b =>
         rw [hn] at hv
         simp only [Option.map_some, Option.some.injEq] at hv
         subst hv
         have hs := nilEq_sound hx hy hn
         refine ⟨.bool b, fun w => ?_, .flat rfl⟩
         rcases nilEq_shape hn with ⟨a, c, h1, h2, h3⟩ | ⟨a, n, c, a', n', c', h1, h2⟩
         · rw [h1] at hx; rw [h2] at hy
           have e1 : ∃ a1, ρ x = .pointer a1 := by
            cases a with
            | none => exact ⟨_, hx.flat_eq rfl⟩
            | some a => obtain ⟨a1, h, _⟩ := hx.pointer; exact ⟨_, h⟩
           have e2 : ∃ a1, ρ y = .pointer a1 := by
            cases c with
            | none => exact ⟨_, hy.flat_eq rfl⟩
            | some a => obtain ⟨a1, h, _⟩ := hy.pointer; exact ⟨_, h⟩
           obtain ⟨a1, e1⟩ := e1
           obtain ⟨a2, e2⟩ := e2
           have hs' := hs w
           rw [e1, e2] at hs'
           simp [execOp, eqGuard, e1, e2, binOp, hs']
         · rw [h1] at hx; rw [h2] at hy
           have e1 : ∃ a1 n1 c1, ρ x = .slice a1 n1 c1 := hx.sliceAny
           have e2 : ∃ a1 n1 c1, ρ y = .slice a1 n1 c1 := hy.sliceAny
           obtain ⟨a1, n1, c1, e1⟩ := e1
           obtain ⟨a2, n2, c2, e2⟩ := e2
           have hs' := hs w
           rw [e1, e2] at hs'
           simp [execOp, eqGuard, e1, e2, binOp, hs']
     · cases hn : nilEq P ty (eval t x) (eval t y) with
       | none => rw [hn] at hv; simp at hv
       | some b =>
         rw [hn] at hv
         simp only [Option.map_some, Option.some.injEq] at hv
         subst hv
         have hs := nilEq_sound hx hy hn
         refine ⟨.bool !b, fun w => ?_, .flat rfl⟩
         rcases nilEq_shape hn with ⟨a, c, h1, h2, h3⟩ | ⟨a, n, c, a', n', c', h1, h2⟩
         · rw [h1] at hx; rw [h2] at hy
           have e1 : ∃ a1, ρ x = .pointer a1 := by
            cases a with
            | none => exact ⟨_, hx.flat_eq rfl⟩
            | some a => obtain ⟨a1, h, _⟩ := hx.pointer; exact ⟨_, h⟩
           have e2 : ∃ a1, ρ y = .pointer a1 := by
            cases c with
            | none => exact ⟨_, hy.flat_eq rfl⟩
            | some a => obtain ⟨a1, h, _⟩ := hy.pointer; exact ⟨_, h⟩
           obtain ⟨a1, e1⟩ := e1
           obtain ⟨a2, e2⟩ := e2
           have hs' := hs w
           rw [e1, e2] at hs'
           simp [execOp, eqGuard, e1, e2, binOp, hs']
         · rw [h1] at hx; rw [h2] at hy
           have e1 : ∃ a1 n1 c1, ρ x = .slice a1 n1 c1 := hx.sliceAny
           have e2 : ∃ a1 n1 c1, ρ y = .slice a1 n1 c1 := hy.sliceAny
           obtain ⟨a1, n1, c1, e1⟩ := e1
           obtain ⟨a2, n2, c2, e2⟩ := e2
           have hs' := hs w
           rw [e1, e2] at hs'
           simp [execOp, eqGuard, e1, e2, binOp, hs']
     · cases hv
 · split at hv
   · rename_i hf
     by_cases hsel : ∃ cs b, op = .select cs b
     · obtain ⟨cs, b, rfl⟩ := hsel
       exfalso
       split at hv
       · rename_i u hu
         have := pureRun_run _ hu default
         simp only [execOp, Sem.run_bind] at this
         generalize hq : (Array.mapM (m := Sem) _ cs).run P default = q at this
         cases q <;> simp at this
       · cases hv
     · exact flat_pure h (fun cs b he => hsel ⟨cs, b, he⟩) hf hv
   · cases hv
end
end Ev
end Go.Proofs.YtedmogacklbcmaaGreatDoor
