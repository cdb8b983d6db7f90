/- config: deeds. -/
import Derived.Test.YtlphmbefcbhhpaaCfgCmp
import Derived.Test.YtlphmbefcbhhpaaQuietB
import Derived.Carry
import Derived.WideMake
namespace Go.Proofs.Ytlphmbefcbhhpaa.Cfg
open Go.RowKit
section
variable {P : Program} {w : World}
theorem run_putInt (mty kt et : TypeId) (r clock : Nat) (es : Array MapEntry) (z : Int) (val : Value) (hm : P.underlying mty = some (.map kt et)) (hk : P.underlying kt = some (.int .i64)) (hb : w.heap[r]? = some (.map es clock)) (hf : Instr.findNow (.int .i64) (.int .i64 z) es.toList 0 = some none) :
    (Instr.mapUpdate mty (.map (some r)) (.int .i64 z) val).run P w = .ok () { w with heap := w.heap.setIfInBounds r (.map (es.push { key := .int .i64 z, val := val, born := clock }) (clock + 1)) } := by
  have hc : (Instr.checkKey false 10000 kt (.int .i64 z)).run P w = .ok () w := MapKept.run_checkKey (k := .int .i64 z) hk (by simp [MapKept.IsKey]) false 9999
  simp [Instr.mapUpdate, run_underlying hm, MapKept.run_getObj_map hb, hc, MapKept.run_findKey hk hf, MapKept.run_setObj_map _ hb, Result.andThen]
theorem run_getInt (mty kt et : TypeId) (r clock : Nat) (es : Array MapEntry) (z : Int) (i : Nat) (val : Value) (hm : P.underlying mty = some (.map kt et)) (hk : P.underlying kt = some (.int .i64)) (hb : w.heap[r]? = some (.map es clock)) (hf : Instr.findNow (.int .i64) (.int .i64 z) es.toList 0 = some (some (i, val))) :
    (Instr.lookup mty (.map (some r)) (.int .i64 z) false).run P w = .ok val w := by
  have hc : (Instr.checkKey es.isEmpty 10000 kt (.int .i64 z)).run P w = .ok () w := MapKept.run_checkKey (k := .int .i64 z) hk (by simp [MapKept.IsKey]) _ 9999
  simp [Instr.lookup, run_underlying hm, MapKept.run_getObj_map hb, hc, MapKept.run_findKey hk hf, Result.andThen]
end
theorem wpList_ins {P : Program} {ops : Array Oper} {rest : List Oper} {o : Oper} {a : Act} {w : World} {Q : Exit → Act → World → Prop} (hgd : o.guard = none) (mty kt et : TypeId) {m k v : Operand} (ho : o.op = .insert mty m k v) {r clock : Nat} {es : Array MapEntry} {z : Int} {val : Value}
    (hm : a.eval m = .map (some r)) (hkv : a.eval k = .int .i64 z) (hvv : a.eval v = val) (hmt : P.underlying mty = some (.map kt et)) (hkt : P.underlying kt = some (.int .i64)) (hb : w.heap[r]? = some (.map es clock)) (hf : Instr.findNow (.int .i64) (.int .i64 z) es.toList 0 = some none)
    (h : ∀ w', w'.heap[r]? = some (.map (es.push { key := .int .i64 z, val := val, born := clock }) (clock + 1)) → Below r w w' → wpList P ops Q rest (a.put o.dst undef) w') : wpList P ops Q (o :: rest) a w := by
  refine wpList_plain hgd fun K hK => ?_
  have hrun := run_putInt (P := P) (w := w) mty kt et r clock es z val hmt hkt hb hf
  unfold Oper.wp execOp
  simp only [ho, hm, hkv, hvv, Sem.run_bind, Sem.run_pure, Result.andThen_ok, hrun]
  have hs := MapKept.heap_set (o' := .map (es.push { key := .int .i64 z, val := val, born := clock }) (clock + 1)) hb
  exact hK _ _ (h _ hs.1 ⟨rfl, rfl, rfl, by simp, fun j hj => hs.2 j (by omega)⟩)
def deedsObj : Obj := .map #[{ key := .int .i64 1, val := .func (.func 141) #[] #[], born := 0 }, { key := .int .i64 2, val := .func (.func 142) #[] #[], born := 1 }, { key := .int .i64 3, val := .func (.func 143) #[] #[], born := 2 }, { key := .int .i64 4, val := .func (.func 144) #[] #[], born := 3 }, { key := .int .i64 5, val := .func (.func 145) #[] #[], born := 4 }] 5
set_option maxRecDepth 100000 in
set_option maxHeartbeats 1000000 in
theorem deeds_any (w : World) : Calls Try.prog 85 #[] w fun e w' => ∃ r, e = .returned (.map (some r)) ∧ w.heap.size ≤ r ∧ w'.heap[r]? = some deedsObj ∧ Below w.heap.size w w' := by
  have hmm := @run_makeMap Try.prog
  obtain ⟨r, hr'⟩ : ∃ r, w.heap.size = r := ⟨_, rfl⟩
  have hr : w.heap.size ≤ r := by omega
  have hm0 : (w.alloc (.map #[] 0)).heap[r]? = some (.map #[] 0) := by rw [← hr']; exact heap_alloc_new w _
  have hb0 : Below w.heap.size w (w.alloc (.map #[] 0)) := (Below.refl _ w).alloc (Nat.le_refl _) _
  have Hr := Lib.hid hr'
  have HM := Lib.hid hm0
  have HB := Lib.hid hb0
  have HR := Lib.hid hr
  clear hr' hm0 hb0 hr
  go_enter Try.func85, Try.ntmps85
  go_wp2_with (first
    | (show wpList _ _ _ (⟨none, .insert _ _ (.const (.int .i64 1)) _, _, _, _, _⟩ :: _) _ _
       have hm0 := HM.out
       have hb0 := HB.out
       have hr := HR.out
       rw [show w.heap.size = r from Hr.out]
       refine wpList_ins (r := r) (clock := 0) (es := #[]) (z := 1) (val := .func (.func 141) #[] #[]) rfl 144 3 80 rfl rfl rfl rfl Try.underlying144 Try.underlying3 hm0 rfl ?_
       intro V1 hm1' hb1'
       have hm1 : V1.heap[r]? = some (.map #[{ key := .int .i64 1, val := .func (.func 141) #[] #[], born := 0 }] 1) := hm1'
       have hb1 : Below w.heap.size w V1 := hb0.trans (hb1'.mono hr)
       clear hm0 hb0 hm1' hb1'
       refine wpList_ins (r := r) (clock := 1) (es := #[{ key := .int .i64 1, val := .func (.func 141) #[] #[], born := 0 }]) (z := 2) (val := .func (.func 142) #[] #[]) rfl 144 3 80 rfl rfl rfl rfl Try.underlying144 Try.underlying3 hm1 rfl ?_
       intro V2 hm2' hb2'
       have hm2 : V2.heap[r]? = some (.map #[{ key := .int .i64 1, val := .func (.func 141) #[] #[], born := 0 }, { key := .int .i64 2, val := .func (.func 142) #[] #[], born := 1 }] 2) := hm2'
       have hb2 : Below w.heap.size w V2 := hb1.trans (hb2'.mono hr)
       clear hm1 hb1 hm2' hb2'
       refine wpList_ins (r := r) (clock := 2) (es := #[{ key := .int .i64 1, val := .func (.func 141) #[] #[], born := 0 }, { key := .int .i64 2, val := .func (.func 142) #[] #[], born := 1 }]) (z := 3) (val := .func (.func 143) #[] #[]) rfl 144 3 80 rfl rfl rfl rfl Try.underlying144 Try.underlying3 hm2 rfl ?_
       intro V3 hm3' hb3'
       have hm3 : V3.heap[r]? = some (.map #[{ key := .int .i64 1, val := .func (.func 141) #[] #[], born := 0 }, { key := .int .i64 2, val := .func (.func 142) #[] #[], born := 1 }, { key := .int .i64 3, val := .func (.func 143) #[] #[], born := 2 }] 3) := hm3'
       have hb3 : Below w.heap.size w V3 := hb2.trans (hb3'.mono hr)
       clear hm2 hb2 hm3' hb3'
       refine wpList_ins (r := r) (clock := 3) (es := #[{ key := .int .i64 1, val := .func (.func 141) #[] #[], born := 0 }, { key := .int .i64 2, val := .func (.func 142) #[] #[], born := 1 }, { key := .int .i64 3, val := .func (.func 143) #[] #[], born := 2 }]) (z := 4) (val := .func (.func 144) #[] #[]) rfl 144 3 80 rfl rfl rfl rfl Try.underlying144 Try.underlying3 hm3 rfl ?_
       intro V4 hm4' hb4'
       have hm4 : V4.heap[r]? = some (.map #[{ key := .int .i64 1, val := .func (.func 141) #[] #[], born := 0 }, { key := .int .i64 2, val := .func (.func 142) #[] #[], born := 1 }, { key := .int .i64 3, val := .func (.func 143) #[] #[], born := 2 }, { key := .int .i64 4, val := .func (.func 144) #[] #[], born := 3 }] 4) := hm4'
       have hb4 : Below w.heap.size w V4 := hb3.trans (hb4'.mono hr)
       clear hm3 hb3 hm4' hb4'
       refine wpList_ins (r := r) (clock := 4) (es := #[{ key := .int .i64 1, val := .func (.func 141) #[] #[], born := 0 }, { key := .int .i64 2, val := .func (.func 142) #[] #[], born := 1 }, { key := .int .i64 3, val := .func (.func 143) #[] #[], born := 2 }, { key := .int .i64 4, val := .func (.func 144) #[] #[], born := 3 }]) (z := 5) (val := .func (.func 145) #[] #[]) rfl 144 3 80 rfl rfl rfl rfl Try.underlying144 Try.underlying3 hm4 rfl ?_
       intro V5 hm5' hb5'
       have hm5 : V5.heap[r]? = some (.map #[{ key := .int .i64 1, val := .func (.func 141) #[] #[], born := 0 }, { key := .int .i64 2, val := .func (.func 142) #[] #[], born := 1 }, { key := .int .i64 3, val := .func (.func 143) #[] #[], born := 2 }, { key := .int .i64 4, val := .func (.func 144) #[] #[], born := 3 }, { key := .int .i64 5, val := .func (.func 145) #[] #[], born := 4 }] 5) := hm5'
       have hb5 : Below w.heap.size w V5 := hb4.trans (hb5'.mono hr)
       clear hm4 hb4 hm5' hb5'
       have HM5 := Lib.hid hm5
       have HB5 := Lib.hid hb5
       clear hm5 hb5 hr)
    | fail)
  go_ret
  exact ⟨r, rfl, HR.out, HM5.out, HB5.out⟩
/-- What is found for a kind. -/
theorem deeds_get {w : World} {r : Nat} (h : w.heap[r]? = some deedsObj) : (Instr.lookup 144 (.map (some r)) (.int .i64 1) false).run Try.prog w = .ok (.func (.func 141) #[] #[]) w ∧ (Instr.lookup 144 (.map (some r)) (.int .i64 2) false).run Try.prog w = .ok (.func (.func 142) #[] #[]) w ∧
    (Instr.lookup 144 (.map (some r)) (.int .i64 3) false).run Try.prog w = .ok (.func (.func 143) #[] #[]) w ∧ (Instr.lookup 144 (.map (some r)) (.int .i64 4) false).run Try.prog w = .ok (.func (.func 144) #[] #[]) w ∧ (Instr.lookup 144 (.map (some r)) (.int .i64 5) false).run Try.prog w = .ok (.func (.func 145) #[] #[]) w :=
  ⟨run_getInt _ 3 80 r 5 _ 1 0 _ Try.underlying144 Try.underlying3 h rfl, run_getInt _ 3 80 r 5 _ 2 1 _ Try.underlying144 Try.underlying3 h rfl, run_getInt _ 3 80 r 5 _ 3 2 _ Try.underlying144 Try.underlying3 h rfl,
   run_getInt _ 3 80 r 5 _ 4 3 _ Try.underlying144 Try.underlying3 h rfl, run_getInt _ 3 80 r 5 _ 5 4 _ Try.underlying144 Try.underlying3 h rfl⟩
end Go.Proofs.Ytlphmbefcbhhpaa.Cfg
