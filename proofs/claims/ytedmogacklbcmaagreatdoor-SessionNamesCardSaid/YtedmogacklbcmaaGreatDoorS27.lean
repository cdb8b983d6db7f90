/- Texts that the proofs share: Law. -/
import Derived.Test.YtedmogacklbcmaaGreatDoorS18
import Derived.Test.YtedmogacklbcmaaGreatDoorS21
import Derived.WideKeyArgs
namespace Go.Proofs.YtedmogacklbcmaaGreatDoor.Law
open Go.ChangeShapes Go.WideShapes Go.ChangeAt Go.RowKit
section
variable {H : Type} {enc : TypeId × Value → H} {P : Program}
theorem trodAll_stays (hl : laidOutB P = true) {W W' : World} (hb : Below W.heap.size W W') {sp' : Nat → Bool} : ∀ {ts : List TypeId} {vs : List Value} {ds : List (DataW H)} {ps : List MemPlace},
 (ts.all fun t => P.readableRec t && decide (t < P.types.size)) = true → DataW.TrodAll enc P W 0 (fun _ => true) true ts vs ds ps → (∀ x ∈ ps, x.block < W.heap.size) → (∀ x ∈ ps, sp' x.block = true) →
 DataW.TrodAll enc P W' 0 sp' true ts vs ds ps := by
 intro ts
 induction ts with
 | nil =>
   intro vs ds ps _ h _ _
   obtain ⟨rfl, rfl, rfl⟩ := trodAll_nil h
   exact rfl
 | cons t ts ih =>
   intro vs ds ps hr h hlt hsp
   simp only [List.all_cons, Bool.and_eq_true, decide_eq_true_eq] at hr
   match vs, ds, ps, h with
   | v :: vs, d :: ds, _, ⟨p, q, h1, h2, rfl⟩ =>
     exact ⟨p, q, WideElems.Trod_stays hl hr.1.1 hr.1.2 h1 (fun x hx => hb.same (hlt x (List.mem_append_left _ hx))) (fun x hx => hsp x (List.mem_append_left _ hx)),
      ih (by simpa using hr.2) h2 (fun x hx => hlt x (List.mem_append_right _ hx)) (fun x hx => hsp x (List.mem_append_right _ hx)), rfl⟩
theorem trodAll_len {W : World} {sp : Nat → Bool} : ∀ {ts : List TypeId} {vs : List Value} {ds : List (DataW H)} {ps : List MemPlace}, DataW.TrodAll enc P W 0 sp true ts vs ds ps → ds.length = ts.length := by
 intro ts
 induction ts with
 | nil =>
   intro vs ds ps h
   obtain ⟨rfl, rfl, rfl⟩ := trodAll_nil h
   rfl
 | cons t ts ih =>
   intro vs ds ps h
   match vs, ds, ps, h with
   | v :: vs, d :: ds, _, ⟨p, q, h1, h2, rfl⟩ => simp [ih h2]
structure Start (enc : TypeId × Value → H) (P : Program) (W : World) (ts : List TypeId) (args : Array Value) (ds : List (DataW H)) (ps : List MemPlace) : Prop where
 trod : DataW.TrodAll enc P W 0 (fun _ => true) true ts args.toList ds ps
 okw : ∀ (j : Nat) t v, ts[j]? = some t → args[j]? = some v → ∃ base, Value.okWide P W .any base t v
 lt : ∀ x ∈ ps, x.block < W.heap.size
theorem lifted {C : Checked} {os : Os} {n : FuncId} {fn : Func} {s : ChangeSpec} {conds : List PathCond} (bt : TypeId)
 (own : ownKnob C.prog.godebug = none) (started : os.Started) (noInit : C.prog.inits.idxOf? n = none) (hfn : C.prog.funcs[n]? = some fn)
 (laid : laidOutB C.prog = true) (hps : (fn.params.toList.all fun t => C.prog.readableRec t && decide (t < C.prog.types.size)) = true) (hrt : fn.resultTypes = #[bt]) (hbt : C.prog.underlying bt = some .bool)
 (hvars : s.vars = []) (hs : ∀ ds : List (DataW H), ds.length = fn.params.toList.length → s.fn H ds = { results := [.lit (.bool true)], args := ds })
 (witness : ∃ (w : World) (tape : Tape) (i : Input), w.os = os ∧ (w.forCall tape i).Shaped C.prog ∧ i.vars = [] ∧ Input.okWide C.prog (w.forCall tape i) .any w.heap.size n i ∧
  s.pre6 enc C.prog fn conds false (w.forCall tape i).memory i.args ∧ ({} : Assume).holds C.prog (lone (Frame.enter C.prog n i.args .normal) [] (w.forCall tape i)))
 (calls : ∀ (W : World) (args : Array Value) (ds : List (DataW H)) (ps : List MemPlace), Start enc C.prog W fn.params.toList args ds ps →
  Calls C.prog n args W fun e W' => e = .returned (.bool true) ∧ Below W.heap.size W W') :
 ReturnsInHanded {} C os n .any (s.pre6 enc C.prog fn conds false) (s.post enc C.prog fn false true false false) := by
 refine returnsInHanded_of_change own started noInit hfn witness ?_
 intro W base args ds gs before hval hW _ _
 have hW' := hW
 obtain ⟨p, q, hA, hV, rfl, hfz, hnd⟩ := hW
 rw [hvars] at hV
 obtain ⟨rfl, rfl⟩ := trodVars_none hV
 have hlt : ∀ x ∈ p, x.block < W.heap.size := fun x hx => by simpa using hW'.lt x (List.mem_append_left _ hx)
 refine (calls W args ds p ⟨hA, fun j t v hj hv => ⟨base, hval j t v (by rw [← hj]; simp) hv⟩, hlt⟩).mono fun e W' ⟨he, hb⟩ => ?_
 subst he
 have hds := hs ds (trodAll_len hA)
 refine ⟨_, rfl, post_of_below (pa := p) (pv := []) hW' ?_ ?_ ?_ rfl hb (ok_one hrt rfl (okWide_bool_mk hbt _))⟩
 · intro b sp hd
   rw [List.append_nil, hds, hrt]
   exact trodAll_cons_mk (shut_bool hbt _) trodAll_mk0
 · intro sp hsp
   rw [List.append_nil, hds]
   exact trodAll_stays laid hb hps hA hlt fun x hx => hsp x (List.mem_append_left _ hx)
 · intro sp _
   rw [hvars, List.append_nil, hds]
   exact rfl
end
section
variable {H : Type} {enc : TypeId × Value → H}
set_option maxRecDepth 100000 in
theorem bytes_at {W : World} {t : TypeId} {base : Nat} {sp : Nat → Bool} {v : Value} {d : DataW H} {ps : List MemPlace} (ht : Tryz.prog.underlying t = some (.slice 5)) (hok : Value.okWide Tryz.prog W .any base t v)
 (h : DataW.Trod enc Tryz.prog W 0 sp true t v d ps) (hlt : ∀ x ∈ ps, x.block < W.heap.size) : ∃ l : List UInt8, Bs W W.heap.size v l ∧ l.length < 9223372036854775808 := by
 obtain ⟨A, n, c, rfl⟩ := okWide_slice ht hok
 obtain ⟨fuel, hf⟩ := h
 have hcell1 : Tryz.prog.cellsOf 5 = 1 := by kernel_rfl
 rcases open_ints ht Tryz.underlying5 hcell1 hf with ⟨hcs, hx⟩ | ⟨a, len, cap, zs, hcs, _, hl, hm, hz, hx, hcell, hwz⟩
 · simp only [Value.cells, List.cons.injEq, Value.slice.injEq, and_true] at hcs
   obtain ⟨rfl, rfl, rfl⟩ := hcs
   exact ⟨[], Bs.nil _ _ _ _, by simp⟩
 · simp only [Value.cells, List.cons.injEq, Value.slice.injEq, and_true] at hcs
   obtain ⟨rfl, rfl, rfl⟩ := hcs
   simp only [Prod.mk.injEq] at hx
   obtain ⟨rfl, rfl⟩ := hx
   have hle : n ≤ zs.length := by rw [hz]; split <;> omega
   refine ⟨(zs.take n).map fun z => UInt8.ofNat z.toNat, ⟨some a, c, by simp [Nat.min_eq_left hle], by simp; omega, fun hne => ?_⟩, by simp; unfold maxLen at hm; omega⟩
   have hn0 : 0 < n := by
    rcases Nat.eq_zero_or_pos n with rfl | h
    · simp at hne
    · exact h
   obtain ⟨b, off, spot⟩ := a
   have hspot : spot = none := by simpa [Addr.add] using World.cell?_spot (hcell 0 (by omega))
   subst hspot
   refine ⟨b, off, rfl, hlt (.cell b off) (MemPlace.mem_row.2 ⟨0, by omega, by simp⟩), fun i u hu => ?_⟩
   rw [List.getElem?_map, Option.map_eq_some_iff] at hu
   obtain ⟨z, hz1, rfl⟩ := hu
   rw [List.getElem?_take] at hz1
   split at hz1
   · have hi : i < zs.length := by omega
     have hg : zs.getD i 0 = z := by rw [List.getD_eq_getElem?_getD, hz1]; rfl
     have hc := hcell i hi
     rw [hg] at hc
     have hwf := hwz z (List.mem_of_getElem? hz1)
     simp only [Lit.wf, Bool.and_eq_true, decide_eq_true_eq, show IntKind.u8.min = 0 from rfl, show IntKind.u8.max = 255 from rfl] at hwf
     rw [show (⟨b, off, none⟩ : Addr).add i = ⟨b, off + i, none⟩ by unfold Addr.add; split <;> simp_all] at hc
     rw [hc]
     unfold bv
     congr 2
     simp [UInt8.toNat_ofNat']
     omega
   · cases hz1
set_option maxRecDepth 100000 in
theorem int_at {W : World} {t : TypeId} {sp : Nat → Bool} {k : IntKind} {v : Value} {d : DataW H} {ps : List MemPlace} {base : Nat} (ht : Tryz.prog.underlying t = some (.int k)) (hok : Value.okWide Tryz.prog W .any base t v)
 (h : DataW.Trod enc Tryz.prog W 0 sp true t v d ps) : ∃ n : Int, v = .int k n ∧ k.min ≤ n ∧ n ≤ k.max := by
 obtain ⟨n, rfl, _, _, hw⟩ := open_int ht hok h
 simp only [Lit.wf, Bool.and_eq_true, decide_eq_true_eq] at hw
 exact ⟨n, rfl, hw⟩
end
end Go.Proofs.YtedmogacklbcmaaGreatDoor.Law
