/- Texts that the proofs share: Law. -/
import Derived.Test.YtgmmjnedgaeefaaDoorF19
import Derived.Test.YtgmmjnedgaeefaaDoorF22
import Derived.WideKeyArgs
namespace Go.Proofs.YtgmmjnedgaeefaaDoor.Law
open Go.ChangeShapes Go.WideShapes Go.ChangeAt Go.RowKit
section
variable {H : Type} {enc : TypeId × Value → H} {P : Program}
theorem trodAll_stays (hl : laidOutB P = true) {W W' : World} (hb : Below W.heap.size W W') {sp' : Nat → Bool} : ∀ {ts : List TypeId} {vs : List Value} {ds : List (DataW H)} {ps : List MemPlace},
 (ts.all fun t => P.readableRec t && decide (t < P.types.size)) = true → DataW.TrodAll enc P W 0 (fun _ => true) true ts vs ds ps → (∀ x ∈ ps, x.block < W.heap.size) → (∀ x ∈ ps, sp' x.block = true) →
 DataW.TrodAll enc P W' 0 sp' true ts vs ds ps := by
 intro ts
 induction ts with
 | nil =>
   intro vs ds ps _ h _ _
   obtain ⟨rfl, rfl, rfl⟩ := trodAll_nil h
   exact rfl
 | cons t ts ih =>
   intro vs ds ps hr h hlt hsp
   simp only [List.all_cons, Bool.and_eq_true, decide_eq_true_eq] at hr
   match vs, ds, ps, h with
   | v :: vs, d :: ds, _, ⟨p, q, h1, h2, rfl⟩ =>
     exact ⟨p, q, WideElems.Trod_stays hl hr.1.1 hr.1.2 h1 (fun x hx => hb.same (hlt x (List.mem_append_left _ hx))) (fun x hx => hsp x (List.mem_append_left _ hx)),
      ih (by simpa using hr.2) h2 (fun x hx => hlt x (List.mem_append_right _ hx)) (fun x hx => hsp x (List.mem_append_right _ hx)), rfl⟩
theorem trodAll_len {W : World} {sp : Nat → Bool} : ∀ {ts : List TypeId} {vs : List Value} {ds : List (DataW H)} {ps : List MemPlace}, DataW.TrodAll enc P W 0 sp true ts vs ds ps → ds.length = ts.length := by
 intro ts
 induction ts with
 | nil =>
   intro vs ds ps h
   obtain ⟨rfl, rfl, rfl⟩ := trodAll_nil h
   rfl
 | cons t ts ih =>
   intro vs ds ps h
   match vs, ds, ps, h with
   | v :: vs, d :: ds, _, ⟨p, q, h1, h2, rfl⟩ => simp [ih h2]
structure Start (enc : TypeId × Value → H) (P : Program) (W : World) (ts : List TypeId) (args : Array Value) (ds : List (DataW H)) (ps : List MemPlace) : Prop where
 trod : DataW.TrodAll enc P W 0 (fun _ => true) true ts args.toList ds ps
 okw : ∀ (j : Nat) t v, ts[j]? = some t → args[j]? = some v → ∃ base, Value.okWide P W .any base t v
 lt : ∀ x ∈ ps, x.block < W.heap.size
theorem lifted {C : Checked} {os : Os} {n : FuncId} {fn : Func} {s : ChangeSpec} {conds : List PathCond} (bt : TypeId)
 (own : ownKnob C.prog.godebug = none) (started : os.Started) (noInit : C.prog.inits.idxOf? n = none) (hfn : C.prog.funcs[n]? = some fn)
 (laid : laidOutB C.prog = true) (hps : (fn.params.toList.all fun t => C.prog.readableRec t && decide (t < C.prog.types.size)) = true) (hrt : fn.resultTypes = #[bt]) (hbt : C.prog.underlying bt = some .bool)
 (hvars : s.vars = []) (hs : ∀ ds : List (DataW H), ds.length = fn.params.toList.length → s.fn H ds = { results := [.lit (.bool true)], args := ds })
 (witness : ∃ (w : World) (tape : Tape) (i : Input), w.os = os ∧ (w.forCall tape i).Shaped C.prog ∧ i.vars = [] ∧ Input.okWide C.prog (w.forCall tape i) .any w.heap.size n i ∧
  s.pre6 enc C.prog fn conds false (w.forCall tape i).memory i.args ∧ ({} : Assume).holds C.prog (lone (Frame.enter C.prog n i.args .normal) [] (w.forCall tape i)))
 (calls : ∀ (W : World) (args : Array Value) (ds : List (DataW H)) (ps : List MemPlace), Start enc C.prog W fn.params.toList args ds ps →
  Calls C.prog n args W fun e W' => e = .returned (.bool true) ∧ Below W.heap.size W W') :
 ReturnsInHanded {} C os n .any (s.pre6 enc C.prog fn conds false) (s.post enc C.prog fn false true false false) := by
 refine returnsInHanded_of_change own started noInit hfn witness ?_
 intro W base args ds gs before hval hW _ _
 have hW' := hW
 obtain ⟨p, q, hA, hV, rfl, hfz, hnd⟩ := hW
 rw [hvars] at hV
 obtain ⟨rfl, rfl⟩ := trodVars_none hV
 have hlt : ∀ x ∈ p, x.block < W.heap.size := fun x hx => by simpa using hW'.lt x (List.mem_append_left _ hx)
 refine (calls W args ds p ⟨hA, fun j t v hj hv => ⟨base, hval j t v (by rw [← hj]; simp) hv⟩, hlt⟩).mono fun e W' ⟨he, hb⟩ => ?_
 subst he
 have hds := hs ds (trodAll_len hA)
 refine ⟨_, rfl, post_of_below (pa := p) (pv := []) hW' ?_ ?_ ?_ rfl hb (ok_one hrt rfl (okWide_bool_mk hbt _))⟩
 · intro b sp hd
   rw [List.append_nil, hds, hrt]
   exact trodAll_cons_mk (shut_bool hbt _) trodAll_mk0
 · intro sp hsp
   rw [List.append_nil, hds]
   exact trodAll_stays laid hb hps hA hlt fun x hx => hsp x (List.mem_append_left _ hx)
 · intro sp _
   rw [hvars, List.append_nil, hds]
   exact rfl
end
section
variable {H : Type} {enc : TypeId × Value → H}
end
end Go.Proofs.YtgmmjnedgaeefaaDoor.Law
