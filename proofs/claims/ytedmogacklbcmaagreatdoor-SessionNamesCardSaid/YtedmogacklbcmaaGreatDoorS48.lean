/- Texts that the proofs share: HkLaw. -/
import Derived.Test.YtedmogacklbcmaaGreatDoorS27
import Derived.Test.YtedmogacklbcmaaGreatDoorS39
import Derived.Handed
import Derived.LaidLaws
import Derived.LaidHandle
import Derived.Lib.LaidTab
import Derived.JoinedOf
import Derived.SevenTiedAt
import Derived.Test.YtedmogacklbcmaaGreatDoorTie
import Derived.Test.YtedmogacklbcmaaGreatDoorCards
namespace Go.Proofs.YtedmogacklbcmaaGreatDoor.Hk
open Go.ChangeShapes Go.WideShapes Go.ChangeAt Go.RowKit Go.Proofs.YtedmogacklbcmaaGreatDoor.Law
def laidL : List (String × DataW Unit) := [("drawbridge/api.Round", Rows.laid_drawbridge_api_Round)]
def zs : List Int := Sha.K.map fun x => (x.toNat : Int)
theorem laid_eq : (Rows.laid_drawbridge_api_Round : DataW Unit) = Lib.tabData .u32 zs := by kernel_rfl
theorem named : Tryz.prog.globalNamed "drawbridge/api.Round" = some 0 := by kernel_rfl
theorem zs_at (i : Nat) (hi : i < 64) : zs.getD i 0 = ((Sha.at_ Sha.K i).toNat : Int) := by
 have hl : i < Sha.K.length := hi
 rw [List.getD_eq_getElem?_getD, zs, List.getElem?_map, Sha.at_, List.getD_eq_getElem?_getD, List.getElem?_eq_getElem hl]
 rfl
theorem tab_of_laid {W : World} (h : laidMetH Tryz.prog laidL W) : Tab W := by
 have h' : laidMet Tryz.prog [("drawbridge/api.Round", Lib.tabData .u32 zs)] W := by rw [← laid_eq]; exact h
 have ht := Lib.tabIs_of_head (P := Tryz.prog) named (by kernel_rfl) Tryz.underlying183 Tryz.underlying26 (by kernel_rfl) (by kernel_rfl) h'
 have hc : ∀ i, i < 64 → W.cell? ⟨0, i, none⟩ = some (wv (Sha.at_ Sha.K i)) := fun i hi => by
  have := ht.cell named i hi
  rw [this, zs_at i hi]
 refine ⟨?_, hc⟩
 rcases Nat.eq_zero_or_pos W.heap.size with h0 | h0
 · have := hc 0 (by omega)
   have e : W.heap[0]? = none := Array.getElem?_eq_none (by omega)
   simp [World.cell?, e] at this
 · exact h0
noncomputable def laidWorld (os : Os) : World :=
 { World.holding Tryz.prog os ⟨#[], #[], []⟩ with heap := (World.holding Tryz.prog os ⟨#[], #[], []⟩).heap.modify 0 fun
  | .cells _ t frozen => .cells (zs.map fun z => Value.int .u32 z).toArray t frozen
  | o => o }
theorem laid_met (os : Os) (args : Array Value) : laidMet Tryz.prog laidL ((laidWorld os).forCall (fun _ _ => 0) ⟨#[], args, []⟩).memory :=
 laidMet_of_run' 8 (by kernel_rfl) (by kernel_rfl)
theorem laid_metH (os : Os) (args : Array Value) : laidMetH Tryz.prog laidL ((laidWorld os).forCall (fun _ _ => 0) ⟨#[], args, []⟩).memory := laid_met os args
section
variable {H : Type} {enc : TypeId × Value → H}
set_option maxRecDepth 100000 in
theorem lifted {os : Os} {n : FuncId} {fn : Func} {s : ChangeSpec} {conds : List PathCond} (bt : TypeId)
 (own : ownKnob Tryz.prog.godebug = none) (started : os.Started) (noInit : Tryz.prog.inits.idxOf? n = none) (hfn : Tryz.prog.funcs[n]? = some fn)
 (laid : laidOutB Tryz.prog = true) (hps : (fn.params.toList.all fun t => Tryz.prog.readableRec t && decide (t < Tryz.prog.types.size)) = true) (hrt : fn.resultTypes = #[bt]) (hbt : Tryz.prog.underlying bt = some .bool)
 (hvars : s.vars = []) (hs : ∀ ds : List (DataW H), ds.length = fn.params.toList.length → s.fn H ds = { results := [.lit (.bool true)], args := ds })
 (witness : ∃ (w : World) (tape : Tape) (i : Input), w.os = os ∧ (w.forCall tape i).Shaped Tryz.prog ∧ i.vars = [] ∧ Input.okWide Tryz.prog (w.forCall tape i) .any w.heap.size n i ∧
  ((s.pre enc Tryz.prog fn conds false (w.forCall tape i).memory i.args ∧ laidMetH Tryz.prog laidL (w.forCall tape i).memory) ∧ sizedMet enc Tryz.prog fn (OpenSpec.ofChange s) false (w.forCall tape i).memory i.args) ∧ ({} : Assume).holds Tryz.prog (lone (Frame.enter Tryz.prog n i.args .normal) [] (w.forCall tape i)))
 (calls : ∀ (W : World) (args : Array Value) (ds : List (DataW H)) (ps : List MemPlace), Law.Start enc Tryz.prog W fn.params.toList args ds ps → Tab W →
  Calls Tryz.prog n args W fun e W' => e = .returned (.bool true) ∧ Below W.heap.size W W') :
 ReturnsInHanded {} Tryz.checked os n .any (fun w args => (s.pre enc Tryz.prog fn conds false w args ∧ laidMetH Tryz.prog laidL w) ∧ sizedMet enc Tryz.prog fn (OpenSpec.ofChange s) false w args) (s.post enc Tryz.prog fn false true false false) := by
 refine returnsInHanded_of_change_and (C := Tryz.checked) (X := fun w _ => laidMetH Tryz.prog laidL w) (fun _ _ _ hh h => h.of_heap hh) own started noInit hfn witness ?_
 intro W base args ds gs before hval hW _ _ hL _
 have hW' := hW
 obtain ⟨p, q, hA, hV, rfl, hfz, hnd⟩ := hW
 rw [hvars] at hV
 obtain ⟨rfl, rfl⟩ := trodVars_none hV
 have hlt : ∀ x ∈ p, x.block < W.heap.size := fun x hx => by simpa using hW'.lt x (List.mem_append_left _ hx)
 refine (calls W args ds p ⟨hA, fun j t v hj hv => ⟨base, hval j t v (by rw [← hj]; simp) hv⟩, hlt⟩ (tab_of_laid hL)).mono fun e W' ⟨he, hb⟩ => ?_
 subst he
 have hds := hs ds (trodAll_len hA)
 refine ⟨_, rfl, post_of_below (pa := p) (pv := []) hW' ?_ ?_ ?_ rfl hb (ok_one hrt rfl (okWide_bool_mk hbt _))⟩
 · intro b sp hd
   rw [List.append_nil, hds, hrt]
   exact trodAll_cons_mk (shut_bool hbt _) trodAll_mk0
 · intro sp hsp
   rw [List.append_nil, hds]
   exact trodAll_stays laid hb hps hA hlt fun x hx => hsp x (List.mem_append_left _ hx)
 · intro sp _
   rw [hvars, List.append_nil, hds]
   exact rfl
end
end Go.Proofs.YtedmogacklbcmaaGreatDoor.Hk
