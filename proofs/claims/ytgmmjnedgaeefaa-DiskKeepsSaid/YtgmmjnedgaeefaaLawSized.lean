/- A law's frame, where what came in takes no more than a process has. -/
import Derived.Test.YtgmmjnedgaeefaaLaw
import Derived.SizedLaws
namespace Go.Proofs.Ytgmmjnedgaeefaa.Law
open Go.ChangeShapes Go.WideShapes Go.ChangeAt Go.RowKit

section
variable {H : Type} {enc : TypeId × Value → H}
theorem liftedS {C : Checked} {os : Os} {n : FuncId} {fn : Func} {s : ChangeSpec} {conds : List PathCond} (bt : TypeId)
    (own : ownKnob C.prog.godebug = none) (started : os.Started) (noInit : C.prog.inits.idxOf? n = none) (hfn : C.prog.funcs[n]? = some fn)
    (laid : laidOutB C.prog = true) (hps : (fn.params.toList.all fun t => C.prog.readableRec t && decide (t < C.prog.types.size)) = true) (hrt : fn.resultTypes = #[bt]) (hbt : C.prog.underlying bt = some .bool)
    (hvars : s.vars = []) (hs : ∀ ds : List (DataW H), ds.length = fn.params.toList.length → s.fn H ds = { results := [.lit (.bool true)], args := ds })
    (witness : ∃ (w : World) (tape : Tape) (i : Input), w.os = os ∧ (w.forCall tape i).Shaped C.prog ∧ i.vars = [] ∧ Input.okWide C.prog (w.forCall tape i) .any w.heap.size n i ∧
      s.pre6 enc C.prog fn conds false (w.forCall tape i).memory i.args ∧ ({} : Assume).holds C.prog (lone (Frame.enter C.prog n i.args .normal) [] (w.forCall tape i)))
    (calls : ∀ (W : World) (args : Array Value) (ds : List (DataW H)) (ps : List MemPlace), Start enc C.prog W fn.params.toList args ds ps → (∀ (j : Nat) (t : TypeId) (d : DataW H), fn.params.toList[j]? = some t → ds[j]? = some d → ∀ n ∈ d.weights C.prog t, n ≤ reachBytes) →
      Calls C.prog n args W fun e W' => e = .returned (.bool true) ∧ Below W.heap.size W W') :
    ReturnsInHanded {} C os n .any (s.pre6 enc C.prog fn conds false) (s.post enc C.prog fn false true false false) := by
  refine returnsInHanded_of_change_sized own started noInit hfn witness ?_
  intro W base args ds gs before hval hW _ hsz _
  have hW' := hW
  obtain ⟨p, q, hA, hV, rfl, hfz, hnd⟩ := hW
  rw [hvars] at hV
  obtain ⟨rfl, rfl⟩ := trodVars_none hV
  have hlt : ∀ x ∈ p, x.block < W.heap.size := fun x hx => by simpa using hW'.lt x (List.mem_append_left _ hx)
  refine (calls W args ds p ⟨hA, fun j t v hj hv => ⟨base, hval j t v (by rw [← hj]; simp) hv⟩, hlt⟩ (fun j t d ht hd n hn => by
    have hj : j < fn.params.toList.length := (List.getElem?_eq_some_iff.1 ht).1
    have hj2 : j < ds.length := (List.getElem?_eq_some_iff.1 hd).1
    have := List.all_eq_true.1 hsz _ (DataW.weights_mem_each (j := j) (t := t) (d := d) (by rw [List.getElem?_append_left hj]; exact ht) (by rw [List.getElem?_append_left hj2]; exact hd) n hn)
    simpa using this)).mono fun e W' ⟨he, hb⟩ => ?_
  subst he
  have hds := hs ds (trodAll_len hA)
  refine ⟨_, rfl, post_of_below (pa := p) (pv := []) hW' ?_ ?_ ?_ rfl hb (ok_one hrt rfl (okWide_bool_mk hbt _))⟩
  · intro b sp hd
    rw [List.append_nil, hds, hrt]
    exact trodAll_cons_mk (shut_bool hbt _) trodAll_mk0
  · intro sp hsp
    rw [List.append_nil, hds]
    exact trodAll_stays laid hb hps hA hlt fun x hx => hsp x (List.mem_append_left _ hx)
  · intro sp _
    rw [hvars, List.append_nil, hds]
    exact rfl
end
end Go.Proofs.Ytgmmjnedgaeefaa.Law
