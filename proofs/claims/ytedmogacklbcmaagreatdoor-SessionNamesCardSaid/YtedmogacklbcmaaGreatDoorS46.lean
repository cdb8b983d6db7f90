/- Texts that the proofs share: PktFields, PktWritten, PktWire, PktAlong. -/
import Derived.Test.YtedmogacklbcmaaGreatDoorS39
import Derived.Test.YtedmogacklbcmaaGreatDoorS44
import Derived.Test.YtedmogacklbcmaaGreatDoorS45
import Derived.Carry
import Derived.WideMake
namespace Go.Proofs.YtedmogacklbcmaaGreatDoor.Pkt
open Go.RowKit
section
variable {P : Program} {w : World}
theorem run_putInt (mty kt et : TypeId) (r clock : Nat) (es : Array MapEntry) (z : Int) (val : Value) (hm : P.underlying mty = some (.map kt et)) (hk : P.underlying kt = some (.int .i64)) (hb : w.heap[r]? = some (.map es clock)) (hf : Instr.findNow (.int .i64) (.int .i64 z) es.toList 0 = some none) :
 (Instr.mapUpdate mty (.map (some r)) (.int .i64 z) val).run P w = .ok () { w with heap := w.heap.setIfInBounds r (.map (es.push { key := .int .i64 z, val := val, born := clock }) (clock + 1)) } := by
 have hc : (Instr.checkKey false 10000 kt (.int .i64 z)).run P w = .ok () w := MapKept.run_checkKey (k := .int .i64 z) hk (by simp [MapKept.IsKey]) false 9999
 simp [Instr.mapUpdate, run_underlying hm, MapKept.run_getObj_map hb, hc, MapKept.run_findKey hk hf, MapKept.run_setObj_map _ hb, Result.andThen]
theorem run_getInt (mty kt et : TypeId) (r clock : Nat) (es : Array MapEntry) (z : Int) (i : Nat) (val : Value) (hm : P.underlying mty = some (.map kt et)) (hk : P.underlying kt = some (.int .i64)) (hb : w.heap[r]? = some (.map es clock)) (hf : Instr.findNow (.int .i64) (.int .i64 z) es.toList 0 = some (some (i, val))) :
 (Instr.lookup mty (.map (some r)) (.int .i64 z) false).run P w = .ok val w := by
 have hc : (Instr.checkKey es.isEmpty 10000 kt (.int .i64 z)).run P w = .ok () w := MapKept.run_checkKey (k := .int .i64 z) hk (by simp [MapKept.IsKey]) _ 9999
 simp [Instr.lookup, run_underlying hm, MapKept.run_getObj_map hb, hc, MapKept.run_findKey hk hf, Result.andThen]
end
structure Put (w w' : World) (r : Nat) (o : Obj) : Prop where
 at_ : w'.heap[r]? = some o
 keep : Ev.Keep ⟨w, fun k => k = r⟩ w'
theorem wpList_ins {P : Program} {ops : Array Oper} {rest : List Oper} {o : Oper} {a : Act} {w : World} {Q : Exit → Act → World → Prop} (hgd : o.guard = none) (mty kt et : TypeId) {m k v : Operand} (ho : o.op = .insert mty m k v) {r clock : Nat} {es : Array MapEntry} {z : Int} {val : Value}
 (hm : a.eval m = .map (some r)) (hkv : a.eval k = .int .i64 z) (hvv : a.eval v = val) (hmt : P.underlying mty = some (.map kt et)) (hkt : P.underlying kt = some (.int .i64)) (hb : w.heap[r]? = some (.map es clock)) (hf : Instr.findNow (.int .i64) (.int .i64 z) es.toList 0 = some none)
 (h : ∀ w', Put w w' r (.map (es.push { key := .int .i64 z, val := val, born := clock }) (clock + 1)) → wpList P ops Q rest (a.put o.dst undef) w') : wpList P ops Q (o :: rest) a w := by
 refine wpList_plain hgd fun K hK => ?_
 have hrun := run_putInt (P := P) (w := w) mty kt et r clock es z val hmt hkt hb hf
 unfold Oper.wp execOp
 simp only [ho, hm, hkv, hvv, Sem.run_bind, Sem.run_pure, Result.andThen_ok, hrun]
 have hs := MapKept.heap_set (o' := .map (es.push { key := .int .i64 z, val := val, born := clock }) (clock + 1)) hb
 refine hK _ _ (h _ ⟨hs.1, rfl, rfl, rfl, by simp, fun j hj => hs.2 j fun e => hj (.inr e)⟩)
theorem Put.row {w w' : World} {r g : Nat} {o : Obj} {cs : List Value} {u : TypeId} (h : Put w w' r o) (hr : Row w g cs u) (hne : g ≠ r) : Row w' g cs u := hr.keep h.keep hne
theorem Put.below {B : Nat} {w0 w w' : World} {r : Nat} {o : Obj} (h : Put w w' r o) (hb : Below B w0 w) (hB : B ≤ w.heap.size) (hr : B ≤ r) : Below B w0 w' := Below.keep hb h.keep hB hr
theorem alloc_keep {w : World} {r : Nat} {o o' : Obj} (h : w.heap[r]? = some o) : (w.alloc o').heap[r]? = some o := by
 have := (Array.getElem?_eq_some_iff.1 h).1
 rw [World.alloc, Array.getElem?_push_lt this]
 rw [← h, Array.getElem?_eq_getElem this]
structure Fields (w : World) (r g1 g2 g3 g4 : Nat) : Prop where
 map : w.heap[r]? = some (.map #[{ key := .int .i64 1, val := .slice (some ⟨g1, 0, none⟩) 4 4, born := 0 }, { key := .int .i64 2, val := .slice (some ⟨g2, 0, none⟩) 5 5, born := 1 }, { key := .int .i64 3, val := .slice (some ⟨g3, 0, none⟩) 5 5, born := 2 }, { key := .int .i64 4, val := .slice (some ⟨g4, 0, none⟩) 2 2, born := 3 }] 4)
 l1 : Row w g1 [.func (.func 91) #[] #[], .func (.func 92) #[] #[], .func (.func 93) #[] #[], .func (.func 94) #[] #[]] 145
 l2 : Row w g2 [.func (.func 91) #[] #[], .func (.func 95) #[] #[], .func (.func 96) #[] #[], .func (.func 93) #[] #[], .func (.func 94) #[] #[]] 145
 l3 : Row w g3 [.func (.func 91) #[] #[], .func (.func 95) #[] #[], .func (.func 96) #[] #[], .func (.func 97) #[] #[], .func (.func 98) #[] #[]] 145
 l4 : Row w g4 [.func (.func 91) #[] #[], .func (.func 95) #[] #[]] 145
set_option maxRecDepth 100000 in
set_option maxHeartbeats 2000000 in
theorem fields_any (w : World) : Calls Tryz.prog 77 #[] w fun e w' => ∃ r g1 g2 g3 g4, e = .returned (.map (some r)) ∧ w.heap.size ≤ r ∧ w.heap.size ≤ g1 ∧ w.heap.size ≤ g2 ∧ w.heap.size ≤ g3 ∧ w.heap.size ≤ g4 ∧ Fields w' r g1 g2 g3 g4 ∧ Below w.heap.size w w' := by
 have hmm := @run_makeMap Tryz.prog
 obtain ⟨r, hr⟩ : ∃ r, w.heap.size = r := ⟨_, rfl⟩
 obtain ⟨g1, hg1⟩ : ∃ g, w.heap.size + 1 = g := ⟨_, rfl⟩
 have Hr := Lib.hid hr
 have Hg1 := Lib.hid hg1
 clear hr hg1
 go_enter Tryz.func77, Tryz.ntmps77
 go_wp2_with (first
  | (show wpList _ _ _ (⟨none, .insert _ _ (.const (.int .i64 1)) _, _, _, _, _⟩ :: _) _ _
     refine wpList_name fun U1 hU1 => ?_
     have hu1 : Row U1 g1 [.func (.func 91) #[] #[], .func (.func 92) #[] #[], .func (.func 93) #[] #[], .func (.func 94) #[] #[]] 145 := hU1 ▸ Row.new (by rw [← Hg1.out]; simp) rfl
     have hm1 : U1.heap[r]? = some (.map #[] 0) := by rw [← hU1, ← Hr.out]; exact alloc_keep (heap_alloc_new w _)
     have hB1 : Below w.heap.size w U1 := hU1 ▸ ((Below.refl _ w).alloc (Nat.le_refl _) _).alloc (by simp) _
     have hne1 : g1 ≠ r := by rw [← Hg1.out, ← Hr.out]; omega
     have hle1 : w.heap.size ≤ g1 := by rw [← Hg1.out]; omega
     refine wpList_in (W := U1) rfl ?_
     refine wpList_ins (r := r) (clock := 0) (es := #[]) (z := 1) (val := .slice (some ⟨g1, 0, none⟩) 4 4) rfl 143 3 142 rfl (congrArg (fun x => Value.map (some x)) Hr.out) rfl (congrArg (fun x => Value.slice (some ⟨x, 0, none⟩) 4 4) Hg1.out) Tryz.underlying143 Tryz.underlying3 hm1 rfl ?_
     intro V1 hP1
     have HM1 := Lib.hid (show V1.heap[r]? = some (.map #[{ key := .int .i64 1, val := .slice (some ⟨g1, 0, none⟩) 4 4, born := 0 }] 1) from hP1.at_)
     have HRow1_1 := Lib.hid (hP1.row hu1 hne1)
     have HNe1 := Lib.hid hne1
     have HLe1 := Lib.hid hle1
     have HB1 := Lib.hid (hP1.below hB1 hB1.size (Nat.le_of_eq Hr.out))
     clear hU1 hu1 hm1 hB1 hP1 hne1 hle1)
  | (show wpList _ _ _ (⟨none, .insert _ _ (.const (.int .i64 2)) _, _, _, _, _⟩ :: _) _ _
     refine wpList_name fun U2 hU2 => ?_
     obtain ⟨g2, hg2⟩ : ∃ g, V1.heap.size = g := ⟨_, rfl⟩
     have hu2 : Row U2 g2 [.func (.func 91) #[] #[], .func (.func 95) #[] #[], .func (.func 96) #[] #[], .func (.func 93) #[] #[], .func (.func 94) #[] #[]] 145 := hU2 ▸ Row.new hg2 rfl
     have hm2 : U2.heap[r]? = some (.map #[{ key := .int .i64 1, val := .slice (some ⟨g1, 0, none⟩) 4 4, born := 0 }] 1) := hU2 ▸ alloc_keep HM1.out
     have hB2 : Below w.heap.size w U2 := hU2 ▸ HB1.out.alloc HB1.out.size _
     have hne2 : g2 ≠ r := by have := (Array.getElem?_eq_some_iff.1 HM1.out).1; omega
     have hle2 : w.heap.size ≤ g2 := by have := HB1.out.size; omega
     have hrow1_2 : Row U2 g1 [.func (.func 91) #[] #[], .func (.func 92) #[] #[], .func (.func 93) #[] #[], .func (.func 94) #[] #[]] 145 := hU2 ▸ HRow1_1.out.alloc _
     refine wpList_in (W := U2) rfl ?_
     refine wpList_ins (r := r) (clock := 1) (es := #[{ key := .int .i64 1, val := .slice (some ⟨g1, 0, none⟩) 4 4, born := 0 }]) (z := 2) (val := .slice (some ⟨g2, 0, none⟩) 5 5) rfl 143 3 142 rfl (congrArg (fun x => Value.map (some x)) Hr.out) rfl (congrArg (fun x => Value.slice (some ⟨x, 0, none⟩) 5 5) hg2) Tryz.underlying143 Tryz.underlying3 hm2 rfl ?_
     intro V2 hP2
     have HM2 := Lib.hid (show V2.heap[r]? = some (.map #[{ key := .int .i64 1, val := .slice (some ⟨g1, 0, none⟩) 4 4, born := 0 }, { key := .int .i64 2, val := .slice (some ⟨g2, 0, none⟩) 5 5, born := 1 }] 2) from hP2.at_)
     have HRow2_2 := Lib.hid (hP2.row hu2 hne2)
     have HRow1_2 := Lib.hid (hP2.row hrow1_2 HNe1.out)
     have HNe2 := Lib.hid hne2
     have HLe2 := Lib.hid hle2
     have HB2 := Lib.hid (hP2.below hB2 hB2.size (Nat.le_of_eq Hr.out))
     clear hU2 hu2 hm2 hB2 hP2 hne2 hle2 hrow1_2 hg2)
  | (show wpList _ _ _ (⟨none, .insert _ _ (.const (.int .i64 3)) _, _, _, _, _⟩ :: _) _ _
     refine wpList_name fun U3 hU3 => ?_
     obtain ⟨g3, hg3⟩ : ∃ g, V2.heap.size = g := ⟨_, rfl⟩
     have hu3 : Row U3 g3 [.func (.func 91) #[] #[], .func (.func 95) #[] #[], .func (.func 96) #[] #[], .func (.func 97) #[] #[], .func (.func 98) #[] #[]] 145 := hU3 ▸ Row.new hg3 rfl
     have hm3 : U3.heap[r]? = some (.map #[{ key := .int .i64 1, val := .slice (some ⟨g1, 0, none⟩) 4 4, born := 0 }, { key := .int .i64 2, val := .slice (some ⟨g2, 0, none⟩) 5 5, born := 1 }] 2) := hU3 ▸ alloc_keep HM2.out
     have hB3 : Below w.heap.size w U3 := hU3 ▸ HB2.out.alloc HB2.out.size _
     have hne3 : g3 ≠ r := by have := (Array.getElem?_eq_some_iff.1 HM2.out).1; omega
     have hle3 : w.heap.size ≤ g3 := by have := HB2.out.size; omega
     have hrow1_3 : Row U3 g1 [.func (.func 91) #[] #[], .func (.func 92) #[] #[], .func (.func 93) #[] #[], .func (.func 94) #[] #[]] 145 := hU3 ▸ HRow1_2.out.alloc _
     have hrow2_3 : Row U3 g2 [.func (.func 91) #[] #[], .func (.func 95) #[] #[], .func (.func 96) #[] #[], .func (.func 93) #[] #[], .func (.func 94) #[] #[]] 145 := hU3 ▸ HRow2_2.out.alloc _
     refine wpList_in (W := U3) rfl ?_
     refine wpList_ins (r := r) (clock := 2) (es := #[{ key := .int .i64 1, val := .slice (some ⟨g1, 0, none⟩) 4 4, born := 0 }, { key := .int .i64 2, val := .slice (some ⟨g2, 0, none⟩) 5 5, born := 1 }]) (z := 3) (val := .slice (some ⟨g3, 0, none⟩) 5 5) rfl 143 3 142 rfl (congrArg (fun x => Value.map (some x)) Hr.out) rfl (congrArg (fun x => Value.slice (some ⟨x, 0, none⟩) 5 5) hg3) Tryz.underlying143 Tryz.underlying3 hm3 rfl ?_
     intro V3 hP3
     have HM3 := Lib.hid (show V3.heap[r]? = some (.map #[{ key := .int .i64 1, val := .slice (some ⟨g1, 0, none⟩) 4 4, born := 0 }, { key := .int .i64 2, val := .slice (some ⟨g2, 0, none⟩) 5 5, born := 1 }, { key := .int .i64 3, val := .slice (some ⟨g3, 0, none⟩) 5 5, born := 2 }] 3) from hP3.at_)
     have HRow3_3 := Lib.hid (hP3.row hu3 hne3)
     have HRow1_3 := Lib.hid (hP3.row hrow1_3 HNe1.out)
     have HRow2_3 := Lib.hid (hP3.row hrow2_3 HNe2.out)
     have HNe3 := Lib.hid hne3
     have HLe3 := Lib.hid hle3
     have HB3 := Lib.hid (hP3.below hB3 hB3.size (Nat.le_of_eq Hr.out))
     clear hU3 hu3 hm3 hB3 hP3 hne3 hle3 hrow1_3 hrow2_3 hg3)
  | (show wpList _ _ _ (⟨none, .insert _ _ (.const (.int .i64 4)) _, _, _, _, _⟩ :: _) _ _
     refine wpList_name fun U4 hU4 => ?_
     obtain ⟨g4, hg4⟩ : ∃ g, V3.heap.size = g := ⟨_, rfl⟩
     have hu4 : Row U4 g4 [.func (.func 91) #[] #[], .func (.func 95) #[] #[]] 145 := hU4 ▸ Row.new hg4 rfl
     have hm4 : U4.heap[r]? = some (.map #[{ key := .int .i64 1, val := .slice (some ⟨g1, 0, none⟩) 4 4, born := 0 }, { key := .int .i64 2, val := .slice (some ⟨g2, 0, none⟩) 5 5, born := 1 }, { key := .int .i64 3, val := .slice (some ⟨g3, 0, none⟩) 5 5, born := 2 }] 3) := hU4 ▸ alloc_keep HM3.out
     have hB4 : Below w.heap.size w U4 := hU4 ▸ HB3.out.alloc HB3.out.size _
     have hne4 : g4 ≠ r := by have := (Array.getElem?_eq_some_iff.1 HM3.out).1; omega
     have hle4 : w.heap.size ≤ g4 := by have := HB3.out.size; omega
     have hrow1_4 : Row U4 g1 [.func (.func 91) #[] #[], .func (.func 92) #[] #[], .func (.func 93) #[] #[], .func (.func 94) #[] #[]] 145 := hU4 ▸ HRow1_3.out.alloc _
     have hrow2_4 : Row U4 g2 [.func (.func 91) #[] #[], .func (.func 95) #[] #[], .func (.func 96) #[] #[], .func (.func 93) #[] #[], .func (.func 94) #[] #[]] 145 := hU4 ▸ HRow2_3.out.alloc _
     have hrow3_4 : Row U4 g3 [.func (.func 91) #[] #[], .func (.func 95) #[] #[], .func (.func 96) #[] #[], .func (.func 97) #[] #[], .func (.func 98) #[] #[]] 145 := hU4 ▸ HRow3_3.out.alloc _
     refine wpList_in (W := U4) rfl ?_
     refine wpList_ins (r := r) (clock := 3) (es := #[{ key := .int .i64 1, val := .slice (some ⟨g1, 0, none⟩) 4 4, born := 0 }, { key := .int .i64 2, val := .slice (some ⟨g2, 0, none⟩) 5 5, born := 1 }, { key := .int .i64 3, val := .slice (some ⟨g3, 0, none⟩) 5 5, born := 2 }]) (z := 4) (val := .slice (some ⟨g4, 0, none⟩) 2 2) rfl 143 3 142 rfl (congrArg (fun x => Value.map (some x)) Hr.out) rfl (congrArg (fun x => Value.slice (some ⟨x, 0, none⟩) 2 2) hg4) Tryz.underlying143 Tryz.underlying3 hm4 rfl ?_
     intro V4 hP4
     have HM4 := Lib.hid (show V4.heap[r]? = some (.map #[{ key := .int .i64 1, val := .slice (some ⟨g1, 0, none⟩) 4 4, born := 0 }, { key := .int .i64 2, val := .slice (some ⟨g2, 0, none⟩) 5 5, born := 1 }, { key := .int .i64 3, val := .slice (some ⟨g3, 0, none⟩) 5 5, born := 2 }, { key := .int .i64 4, val := .slice (some ⟨g4, 0, none⟩) 2 2, born := 3 }] 4) from hP4.at_)
     have HRow4_4 := Lib.hid (hP4.row hu4 hne4)
     have HRow1_4 := Lib.hid (hP4.row hrow1_4 HNe1.out)
     have HRow2_4 := Lib.hid (hP4.row hrow2_4 HNe2.out)
     have HRow3_4 := Lib.hid (hP4.row hrow3_4 HNe3.out)
     have HNe4 := Lib.hid hne4
     have HLe4 := Lib.hid hle4
     have HB4 := Lib.hid (hP4.below hB4 hB4.size (Nat.le_of_eq Hr.out))
     clear hU4 hu4 hm4 hB4 hP4 hne4 hle4 hrow1_4 hrow2_4 hrow3_4 hg4)
  | fail)
 go_ret
 exact ⟨r, g1, g2, g3, g4, congrArg (fun x => Ending.returned (.map (some x))) Hr.out, Nat.le_of_eq Hr.out, HLe1.out, HLe2.out, HLe3.out, HLe4.out, ⟨HM4.out, HRow1_4.out, HRow2_4.out, HRow3_4.out, HRow4_4.out⟩, HB4.out⟩
end Go.Proofs.YtedmogacklbcmaaGreatDoor.Pkt
namespace Go.Proofs.YtedmogacklbcmaaGreatDoor.Pkt
open Go.RowKit
def parts1 (p : Pk) (m : List UInt8) : List (List UInt8) := [Oct.enc p.kind.toNat, Oct.enc p.peer.toNat, p.rnd, p.mrk]
def parts2 (p : Pk) (m : List UInt8) : List (List UInt8) := [Oct.enc p.kind.toNat, Oct.enc p.ses, Oct.enc p.epo, p.rnd, p.mrk]
def parts3 (p : Pk) (m : List UInt8) : List (List UInt8) := [Oct.enc p.kind.toNat, Oct.enc p.ses, Oct.enc p.epo, Oct.enc p.cnt, (Oct.enc m.length ++ m)]
def parts4 (p : Pk) (m : List UInt8) : List (List UInt8) := [Oct.enc p.kind.toNat, Oct.enc p.ses]
def fieldsM : By.Mark Grew := ⟨fun v w => ∃ r g1 g2 g3 g4, v = .map (some r) ∧ Fields w r g1 g2 g3 g4, fun _ x y ⟨r, g1, g2, g3, g4, h1, h⟩ k =>
 ⟨r, g1, g2, g3, g4, h1, (k.block r (Array.getElem?_eq_some_iff.1 h.map).1).trans h.map, h.l1.below k h.l1.lt, h.l2.below k h.l2.lt, h.l3.below k h.l3.lt, h.l4.below k h.l4.lt⟩⟩
theorem KBb {lo G B : Nat} {w0 x y : World} (h : KB lo G x y) (hb : Below B w0 x) (h1 : B ≤ lo) (h2 : B ≤ G) : Below B w0 y :=
 ⟨h.os.trans hb.os, h.tape.trans hb.tape, h.output.trans hb.output, Nat.le_trans hb.size h.size, fun k hk => (h.block k (by omega) (by omega)).trans (hb.block k hk)⟩
theorem take_le (l : List (List UInt8)) (i : Nat) : (l.take i).flatten.length ≤ l.flatten.length := by
 conv => rhs; rw [← List.take_append_drop i l, List.flatten_append, List.length_append]
 omega
theorem row_ne {w : World} {a b : Nat} {cs : List Value} {t u : TypeId} {v : Value} (h : Row w a cs t) (k : Row w b [v] u) (hne : t ≠ u) : a ≠ b := by
 rintro rfl
 have := h.symm.trans k
 simp only [Option.some.injEq, Obj.cells.injEq] at this
 exact hne this.2.1
def listM (cs : List Value) (n : Nat) : By.Mark Grew := ⟨fun v w => ∃ g, v = .slice (some ⟨g, 0, none⟩) n n ∧ Row w g cs 145, fun _ _ _ ⟨g, h1, h2⟩ k => ⟨g, h1, h2.below k h2.lt⟩⟩
set_option maxRecDepth 100000 in
set_option maxHeartbeats 4000000 in
theorem written_1 (p : Pk) (ho : p.Ok) (hk : p.kind = 1) (m : List UInt8) (hlen : (parts1 p m).flatten.length ≤ 1000000) (w : World) (hpe : 0 ≤ p.peer ∧ p.peer < 18446744073709551616) : Calls Tryz.prog 61 #[p.val] w fun e w' => ∃ v, e = .returned v ∧ Own w' w.heap.size v (parts1 p m).flatten ∧ Below w.heap.size w w' := by
 have Ho := Lib.hid ho
 have Hk := Lib.hid hk
 clear ho hk
 unfold Pk.val
 go_enter Tryz.func61, Tryz.ntmps61
 go_wp2_with fail
 refine code_name fun W0 hW0 => ?_
 have HP := Lib.hid (show Row W0 w.heap.size p.cells 40 from hW0 ▸ (Row.new rfl rfl).alloc _)
 have HG := Lib.hid (show Row W0 (w.heap.size + 1) [.slice none 0 0] 141 from hW0 ▸ Row.new (by simp) rfl)
 have HB0 := Lib.hid (show Below w.heap.size w W0 from hW0 ▸ ((Below.refl _ w).alloc (Nat.le_refl _) _).alloc (by simp) _)
 clear hW0
 refine By.marks Pol.mixed Grew [fieldsM,
  By.is (.pointer (some ⟨w.heap.size, 0, none⟩)),
  By.is (.int .i64 1),
  (listM [.func (.func 91) #[] #[], .func (.func 92) #[] #[], .func (.func 93) #[] #[], .func (.func 94) #[] #[]] 4),
  By.is (.int .i64 4),
  By.is (.int .i64 0)]
  (Ev.masks _ []) (by kernel_rfl) rfl Grew.refl Grew.trans ⟨?_, ?_, ?_, ?_, ?_, ?_, trivial⟩ ?_
 · intro a w ht hs hg
   refine By.yes rfl ?_
   clear hs hg
   go_simp
   refine (fields_any w).mono ?_
   rintro e w' ⟨r, g1, g2, g3, g4, rfl, _, _, _, _, _, h, hb⟩
   exact ⟨_, rfl, hb, r, g1, g2, g3, g4, rfl, h⟩
 · intro a w ht hs hg
   have h1 := By.same_get hs 1 (by decide) (by kernel_rfl)
   refine By.yes rfl ?_
   clear hs hg
   go_simp
   exact ⟨_, rfl, Grew.refl _, rfl⟩
 · intro a w ht hs hg
   have h7 : a.tmps.getD 7 undef = _ := By.given_get hg 1 rfl rfl (by kernel_rfl)
   refine By.yes rfl ?_
   clear hs hg
   have hc := c_kind (Row.below (w := W0.drew) HP.out ht HP.out.lt)
   rw [Hk.out] at hc
   clear ht
   go_simp
   exact ⟨_, rfl, Grew.refl _, rfl⟩
 · intro a w ht hs hg
   have h6 := By.given_get hg 0 rfl rfl (by kernel_rfl)
   have h8 : a.tmps.getD 8 undef = _ := By.given_get hg 2 rfl rfl (by kernel_rfl)
   refine By.yes rfl ?_
   obtain ⟨v6, hv6⟩ : ∃ v, a.tmps.getD 6 undef = v := ⟨_, rfl⟩
   replace h6 := (congrArg (fun v => (fieldsM).on v w) hv6).mp h6
   clear hs hg
   obtain ⟨r, g1, g2, g3, g4, rfl, h⟩ := h6
   have hl := run_getInt (P := Tryz.prog) (w := w) 143 3 142 r 4 _ 1 0 (.slice (some ⟨g1, 0, none⟩) 4 4) Tryz.underlying143 Tryz.underlying3 h.map rfl
   have Hl1 := Lib.hid h.l1
   clear h ht
   go_simp
   exact ⟨_, rfl, Grew.refl _, g1, rfl, Hl1.out⟩
 · intro a w ht hs hg
   have h9 := By.given_get hg 3 rfl rfl (by kernel_rfl)
   refine By.yes rfl ?_
   obtain ⟨v9, hv9⟩ : ∃ v, a.tmps.getD 9 undef = v := ⟨_, rfl⟩
   replace h9 := (congrArg (fun v => ((listM [.func (.func 91) #[] #[], .func (.func 92) #[] #[], .func (.func 93) #[] #[], .func (.func 94) #[] #[]] 4)).on v w) hv9).mp h9
   clear hs hg
   obtain ⟨g, rfl, h⟩ := h9
   clear h ht
   go_simp
   exact ⟨_, rfl, Grew.refl _, rfl⟩
 · intro a w ht hs hg
   refine By.yes rfl ?_
   clear hs hg
   go_simp
   exact ⟨_, rfl, Grew.refl _, rfl⟩
 refine By.ends_skip fun v6 => (By.ends_is (By.ends_is (By.ends_any fun v9 => (By.ends_is (By.ends_is (By.ends_nil fun wz hz => ?_))))))
 simp only [Act.put, List.setIfInBounds_toArray, List.set_cons_succ, List.set_cons_zero]
 obtain ⟨hz, hl⟩ := hz
 obtain ⟨gl, hv9, hrl⟩ := hl
 subst hv9
 have hz' : Below W0.heap.size W0 wz := ⟨hz.os, hz.tape, hz.output, hz.size, hz.block⟩
 obtain ⟨lo, hlo⟩ : ∃ lo, wz.heap.size = lo := ⟨_, rfl⟩
 have HLl := Lib.hid (show gl < lo by have := hrl.lt; omega)
 have HPl := Lib.hid (show w.heap.size < lo by have := HP.out.lt; have := hz'.size; omega)
 have HGl : Hid (w.heap.size + 1 < lo) := by show _ < _; have := HG.out.lt; have := hz'.size; omega
 have HLg0 := Lib.hid (row_ne hrl (HG.out.below hz' HG.out.lt) (by decide))
 have HBz := Lib.hid (nextB HB0.out (Nat.le_refl _) hz')
 have HLz := Lib.hid hrl
 have HPz := Lib.hid (HP.out.below hz' HP.out.lt)
 have HGz := Lib.hid (HG.out.below hz' HG.out.lt)
 have Hlo := Lib.hid (show w.heap.size ≤ lo by have := HPl.out; omega)
 have HloE := Lib.hid hlo
 obtain ⟨G, hG⟩ : ∃ G, w.heap.size + 1 = G := ⟨_, rfl⟩
 rw [hG] at HGl HLg0 HGz
 have HGw := Lib.hid (show w.heap.size ≤ G by omega)
 have HPg := Lib.hid (show w.heap.size ≠ G by omega)
 have HLg := Lib.hid HLg0.out
 clear hz hz' hrl hlo
 rw [hG]
 clear hG
 go_wp2_with fail
 go_loopw [5, 11] (fun _ iv wr => ∃ (i : Nat) (v : Value), i ≤ 4 ∧ iv = .int .i64 (i : Int) ∧ Wr wr lo G v ((parts1 p m).take i).flatten ∧ Row wr gl [.func (.func 91) #[] #[], .func (.func 92) #[] #[], .func (.func 93) #[] #[], .func (.func 94) #[] #[]] 145 ∧ Row wr w.heap.size p.cells 40 ∧ Below w.heap.size w wr) (fun _ iv _ => 4 - (intOf iv).toNat)
 case atStart => exact ⟨0, _, by omega, rfl, ⟨HGz.out, by rw [List.take_zero]; exact Own.nil _ _, HGl.out, Nat.le_of_eq HloE.out.symm⟩, HLz.out, HPz.out, HBz.out⟩
 case round =>
  obtain ⟨i, v, hi, rfl, hwr, hrl, hrp, hbr⟩ := hrel
  have HL := Lib.hid hrl
  have HP2 := Lib.hid hrp
  have HBr := Lib.hid hbr
  have Hld := Lib.hid (l_all hrp Ho.out)
  have hpl : ((parts1 p m).take i).flatten.length ≤ 1000000 := Nat.le_trans (take_le _ _) hlen
  have hpre0 : ((parts1 p m).take 1).flatten = ((parts1 p m).take 0).flatten ++ Oct.enc p.kind.toNat := by simp [parts1]
  have hpre1 : ((parts1 p m).take 2).flatten = ((parts1 p m).take 1).flatten ++ Oct.enc p.peer.toNat := by simp [parts1]
  have hpre2 : ((parts1 p m).take 3).flatten = ((parts1 p m).take 2).flatten ++ p.rnd := by simp [parts1]
  have hpre3 : ((parts1 p m).take 4).flatten = ((parts1 p m).take 3).flatten ++ p.mrk := by simp [parts1]
  clear hrl hrp hbr
  by_cases hin : i < 4
  · rcases (show i = 0 ∨ i = 1 ∨ i = 2 ∨ i = 3 by omega) with hi0 | hi1 | hi2 | hi3
    · subst hi0
      have hcf : wr.cell? ⟨gl, 0, none⟩ = some (.func (.func 91) #[] #[]) := HL.out.cell rfl
      go_wp2_with (first
       | (refine wpList_ld 40 rfl rfl Hld.out rfl ?_)
       | fail)
      refine (wkind_any p Ho.out (by rw [Hk.out]; omega) wr hwr hpl).mono ?_
      rintro e w3 ⟨rfl, ⟨v3, hw3⟩, hk3⟩
      have HW3 := Lib.hid hw3
      have HK3 := Lib.hid hk3
      clear hw3 hk3
      go_wp2
      go_roundw
      case rel => exact ⟨1, v3, by omega, by go_num, by rw [hpre0]; exact HW3.out, HK3.out.row HL.out HLl.out HLg.out, HK3.out.row HP2.out HPl.out HPg.out, KBb HK3.out HBr.out Hlo.out HGw.out⟩
      case measure => simp [intOf]
    · subst hi1
      have hcf : wr.cell? ⟨gl, 1, none⟩ = some (.func (.func 92) #[] #[]) := HL.out.cell rfl
      go_wp2_with (first
       | (refine wpList_ld 40 rfl rfl Hld.out rfl ?_)
       | fail)
      refine (wpeer_any p Ho.out hpe wr hwr hpl).mono ?_
      rintro e w3 ⟨rfl, ⟨v3, hw3⟩, hk3⟩
      have HW3 := Lib.hid hw3
      have HK3 := Lib.hid hk3
      clear hw3 hk3
      go_wp2
      go_roundw
      case rel => exact ⟨2, v3, by omega, by go_num, by rw [hpre1]; exact HW3.out, HK3.out.row HL.out HLl.out HLg.out, HK3.out.row HP2.out HPl.out HPg.out, KBb HK3.out HBr.out Hlo.out HGw.out⟩
      case measure => simp [intOf]
    · subst hi2
      have hcf : wr.cell? ⟨gl, 2, none⟩ = some (.func (.func 93) #[] #[]) := HL.out.cell rfl
      go_wp2_with (first
       | (refine wpList_ld 40 rfl rfl Hld.out rfl ?_)
       | fail)
      refine (wrnd_any p Ho.out wr hwr hpl).mono ?_
      rintro e w3 ⟨rfl, ⟨v3, hw3⟩, hk3⟩
      have HW3 := Lib.hid hw3
      have HK3 := Lib.hid hk3
      clear hw3 hk3
      go_wp2
      go_roundw
      case rel => exact ⟨3, v3, by omega, by go_num, by rw [hpre2]; exact HW3.out, HK3.out.row HL.out HLl.out HLg.out, HK3.out.row HP2.out HPl.out HPg.out, KBb HK3.out HBr.out Hlo.out HGw.out⟩
      case measure => simp [intOf]
    · subst hi3
      have hcf : wr.cell? ⟨gl, 3, none⟩ = some (.func (.func 94) #[] #[]) := HL.out.cell rfl
      go_wp2_with (first
       | (refine wpList_ld 40 rfl rfl Hld.out rfl ?_)
       | fail)
      refine (wmrk_any p Ho.out wr hwr hpl).mono ?_
      rintro e w3 ⟨rfl, ⟨v3, hw3⟩, hk3⟩
      have HW3 := Lib.hid hw3
      have HK3 := Lib.hid hk3
      clear hw3 hk3
      go_wp2
      go_roundw
      case rel => exact ⟨4, v3, by omega, by go_num, by rw [hpre3]; exact HW3.out, HK3.out.row HL.out HLl.out HLg.out, HK3.out.row HP2.out HPl.out HPg.out, KBb HK3.out HBr.out Hlo.out HGw.out⟩
      case measure => simp [intOf]
  · obtain rfl : i = 4 := by omega
    have hc := hwr.row.cell (i := 0) rfl
    have HOw := Lib.hid hwr.own
    clear hwr hpl
    go_wp2
    go_ret
    exact ⟨_, rfl, HOw.out.less Hlo.out, HBr.out⟩
set_option maxRecDepth 100000 in
set_option maxHeartbeats 4000000 in
theorem written_2 (p : Pk) (ho : p.Ok) (hk : p.kind = 2) (m : List UInt8) (hlen : (parts2 p m).flatten.length ≤ 1000000) (w : World) (hse : p.ses < 18446744073709551616) (hep : p.epo < 18446744073709551616) : Calls Tryz.prog 61 #[p.val] w fun e w' => ∃ v, e = .returned v ∧ Own w' w.heap.size v (parts2 p m).flatten ∧ Below w.heap.size w w' := by
 have Ho := Lib.hid ho
 have Hk := Lib.hid hk
 clear ho hk
 unfold Pk.val
 go_enter Tryz.func61, Tryz.ntmps61
 go_wp2_with fail
 refine code_name fun W0 hW0 => ?_
 have HP := Lib.hid (show Row W0 w.heap.size p.cells 40 from hW0 ▸ (Row.new rfl rfl).alloc _)
 have HG := Lib.hid (show Row W0 (w.heap.size + 1) [.slice none 0 0] 141 from hW0 ▸ Row.new (by simp) rfl)
 have HB0 := Lib.hid (show Below w.heap.size w W0 from hW0 ▸ ((Below.refl _ w).alloc (Nat.le_refl _) _).alloc (by simp) _)
 clear hW0
 refine By.marks Pol.mixed Grew [fieldsM,
  By.is (.pointer (some ⟨w.heap.size, 0, none⟩)),
  By.is (.int .i64 2),
  (listM [.func (.func 91) #[] #[], .func (.func 95) #[] #[], .func (.func 96) #[] #[], .func (.func 93) #[] #[], .func (.func 94) #[] #[]] 5),
  By.is (.int .i64 5),
  By.is (.int .i64 0)]
  (Ev.masks _ []) (by kernel_rfl) rfl Grew.refl Grew.trans ⟨?_, ?_, ?_, ?_, ?_, ?_, trivial⟩ ?_
 · intro a w ht hs hg
   refine By.yes rfl ?_
   clear hs hg
   go_simp
   refine (fields_any w).mono ?_
   rintro e w' ⟨r, g1, g2, g3, g4, rfl, _, _, _, _, _, h, hb⟩
   exact ⟨_, rfl, hb, r, g1, g2, g3, g4, rfl, h⟩
 · intro a w ht hs hg
   have h1 := By.same_get hs 1 (by decide) (by kernel_rfl)
   refine By.yes rfl ?_
   clear hs hg
   go_simp
   exact ⟨_, rfl, Grew.refl _, rfl⟩
 · intro a w ht hs hg
   have h7 : a.tmps.getD 7 undef = _ := By.given_get hg 1 rfl rfl (by kernel_rfl)
   refine By.yes rfl ?_
   clear hs hg
   have hc := c_kind (Row.below (w := W0.drew) HP.out ht HP.out.lt)
   rw [Hk.out] at hc
   clear ht
   go_simp
   exact ⟨_, rfl, Grew.refl _, rfl⟩
 · intro a w ht hs hg
   have h6 := By.given_get hg 0 rfl rfl (by kernel_rfl)
   have h8 : a.tmps.getD 8 undef = _ := By.given_get hg 2 rfl rfl (by kernel_rfl)
   refine By.yes rfl ?_
   obtain ⟨v6, hv6⟩ : ∃ v, a.tmps.getD 6 undef = v := ⟨_, rfl⟩
   replace h6 := (congrArg (fun v => (fieldsM).on v w) hv6).mp h6
   clear hs hg
   obtain ⟨r, g1, g2, g3, g4, rfl, h⟩ := h6
   have hl := run_getInt (P := Tryz.prog) (w := w) 143 3 142 r 4 _ 2 1 (.slice (some ⟨g2, 0, none⟩) 5 5) Tryz.underlying143 Tryz.underlying3 h.map rfl
   have Hl2 := Lib.hid h.l2
   clear h ht
   go_simp
   exact ⟨_, rfl, Grew.refl _, g2, rfl, Hl2.out⟩
 · intro a w ht hs hg
   have h9 := By.given_get hg 3 rfl rfl (by kernel_rfl)
   refine By.yes rfl ?_
   obtain ⟨v9, hv9⟩ : ∃ v, a.tmps.getD 9 undef = v := ⟨_, rfl⟩
   replace h9 := (congrArg (fun v => ((listM [.func (.func 91) #[] #[], .func (.func 95) #[] #[], .func (.func 96) #[] #[], .func (.func 93) #[] #[], .func (.func 94) #[] #[]] 5)).on v w) hv9).mp h9
   clear hs hg
   obtain ⟨g, rfl, h⟩ := h9
   clear h ht
   go_simp
   exact ⟨_, rfl, Grew.refl _, rfl⟩
 · intro a w ht hs hg
   refine By.yes rfl ?_
   clear hs hg
   go_simp
   exact ⟨_, rfl, Grew.refl _, rfl⟩
 refine By.ends_skip fun v6 => (By.ends_is (By.ends_is (By.ends_any fun v9 => (By.ends_is (By.ends_is (By.ends_nil fun wz hz => ?_))))))
 simp only [Act.put, List.setIfInBounds_toArray, List.set_cons_succ, List.set_cons_zero]
 obtain ⟨hz, hl⟩ := hz
 obtain ⟨gl, hv9, hrl⟩ := hl
 subst hv9
 have hz' : Below W0.heap.size W0 wz := ⟨hz.os, hz.tape, hz.output, hz.size, hz.block⟩
 obtain ⟨lo, hlo⟩ : ∃ lo, wz.heap.size = lo := ⟨_, rfl⟩
 have HLl := Lib.hid (show gl < lo by have := hrl.lt; omega)
 have HPl := Lib.hid (show w.heap.size < lo by have := HP.out.lt; have := hz'.size; omega)
 have HGl : Hid (w.heap.size + 1 < lo) := by show _ < _; have := HG.out.lt; have := hz'.size; omega
 have HLg0 := Lib.hid (row_ne hrl (HG.out.below hz' HG.out.lt) (by decide))
 have HBz := Lib.hid (nextB HB0.out (Nat.le_refl _) hz')
 have HLz := Lib.hid hrl
 have HPz := Lib.hid (HP.out.below hz' HP.out.lt)
 have HGz := Lib.hid (HG.out.below hz' HG.out.lt)
 have Hlo := Lib.hid (show w.heap.size ≤ lo by have := HPl.out; omega)
 have HloE := Lib.hid hlo
 obtain ⟨G, hG⟩ : ∃ G, w.heap.size + 1 = G := ⟨_, rfl⟩
 rw [hG] at HGl HLg0 HGz
 have HGw := Lib.hid (show w.heap.size ≤ G by omega)
 have HPg := Lib.hid (show w.heap.size ≠ G by omega)
 have HLg := Lib.hid HLg0.out
 clear hz hz' hrl hlo
 rw [hG]
 clear hG
 go_wp2_with fail
 go_loopw [5, 11] (fun _ iv wr => ∃ (i : Nat) (v : Value), i ≤ 5 ∧ iv = .int .i64 (i : Int) ∧ Wr wr lo G v ((parts2 p m).take i).flatten ∧ Row wr gl [.func (.func 91) #[] #[], .func (.func 95) #[] #[], .func (.func 96) #[] #[], .func (.func 93) #[] #[], .func (.func 94) #[] #[]] 145 ∧ Row wr w.heap.size p.cells 40 ∧ Below w.heap.size w wr) (fun _ iv _ => 5 - (intOf iv).toNat)
 case atStart => exact ⟨0, _, by omega, rfl, ⟨HGz.out, by rw [List.take_zero]; exact Own.nil _ _, HGl.out, Nat.le_of_eq HloE.out.symm⟩, HLz.out, HPz.out, HBz.out⟩
 case round =>
  obtain ⟨i, v, hi, rfl, hwr, hrl, hrp, hbr⟩ := hrel
  have HL := Lib.hid hrl
  have HP2 := Lib.hid hrp
  have HBr := Lib.hid hbr
  have Hld := Lib.hid (l_all hrp Ho.out)
  have hpl : ((parts2 p m).take i).flatten.length ≤ 1000000 := Nat.le_trans (take_le _ _) hlen
  have hpre0 : ((parts2 p m).take 1).flatten = ((parts2 p m).take 0).flatten ++ Oct.enc p.kind.toNat := by simp [parts2]
  have hpre1 : ((parts2 p m).take 2).flatten = ((parts2 p m).take 1).flatten ++ Oct.enc p.ses := by simp [parts2]
  have hpre2 : ((parts2 p m).take 3).flatten = ((parts2 p m).take 2).flatten ++ Oct.enc p.epo := by simp [parts2]
  have hpre3 : ((parts2 p m).take 4).flatten = ((parts2 p m).take 3).flatten ++ p.rnd := by simp [parts2]
  have hpre4 : ((parts2 p m).take 5).flatten = ((parts2 p m).take 4).flatten ++ p.mrk := by simp [parts2]
  clear hrl hrp hbr
  by_cases hin : i < 5
  · rcases (show i = 0 ∨ i = 1 ∨ i = 2 ∨ i = 3 ∨ i = 4 by omega) with hi0 | hi1 | hi2 | hi3 | hi4
    · subst hi0
      have hcf : wr.cell? ⟨gl, 0, none⟩ = some (.func (.func 91) #[] #[]) := HL.out.cell rfl
      go_wp2_with (first
       | (refine wpList_ld 40 rfl rfl Hld.out rfl ?_)
       | fail)
      refine (wkind_any p Ho.out (by rw [Hk.out]; omega) wr hwr hpl).mono ?_
      rintro e w3 ⟨rfl, ⟨v3, hw3⟩, hk3⟩
      have HW3 := Lib.hid hw3
      have HK3 := Lib.hid hk3
      clear hw3 hk3
      go_wp2
      go_roundw
      case rel => exact ⟨1, v3, by omega, by go_num, by rw [hpre0]; exact HW3.out, HK3.out.row HL.out HLl.out HLg.out, HK3.out.row HP2.out HPl.out HPg.out, KBb HK3.out HBr.out Hlo.out HGw.out⟩
      case measure => simp [intOf]
    · subst hi1
      have hcf : wr.cell? ⟨gl, 1, none⟩ = some (.func (.func 95) #[] #[]) := HL.out.cell rfl
      go_wp2_with (first
       | (refine wpList_ld 40 rfl rfl Hld.out rfl ?_)
       | fail)
      refine (wses_any p Ho.out hse wr hwr hpl).mono ?_
      rintro e w3 ⟨rfl, ⟨v3, hw3⟩, hk3⟩
      have HW3 := Lib.hid hw3
      have HK3 := Lib.hid hk3
      clear hw3 hk3
      go_wp2
      go_roundw
      case rel => exact ⟨2, v3, by omega, by go_num, by rw [hpre1]; exact HW3.out, HK3.out.row HL.out HLl.out HLg.out, HK3.out.row HP2.out HPl.out HPg.out, KBb HK3.out HBr.out Hlo.out HGw.out⟩
      case measure => simp [intOf]
    · subst hi2
      have hcf : wr.cell? ⟨gl, 2, none⟩ = some (.func (.func 96) #[] #[]) := HL.out.cell rfl
      go_wp2_with (first
       | (refine wpList_ld 40 rfl rfl Hld.out rfl ?_)
       | fail)
      refine (wepo_any p Ho.out hep wr hwr hpl).mono ?_
      rintro e w3 ⟨rfl, ⟨v3, hw3⟩, hk3⟩
      have HW3 := Lib.hid hw3
      have HK3 := Lib.hid hk3
      clear hw3 hk3
      go_wp2
      go_roundw
      case rel => exact ⟨3, v3, by omega, by go_num, by rw [hpre2]; exact HW3.out, HK3.out.row HL.out HLl.out HLg.out, HK3.out.row HP2.out HPl.out HPg.out, KBb HK3.out HBr.out Hlo.out HGw.out⟩
      case measure => simp [intOf]
    · subst hi3
      have hcf : wr.cell? ⟨gl, 3, none⟩ = some (.func (.func 93) #[] #[]) := HL.out.cell rfl
      go_wp2_with (first
       | (refine wpList_ld 40 rfl rfl Hld.out rfl ?_)
       | fail)
      refine (wrnd_any p Ho.out wr hwr hpl).mono ?_
      rintro e w3 ⟨rfl, ⟨v3, hw3⟩, hk3⟩
      have HW3 := Lib.hid hw3
      have HK3 := Lib.hid hk3
      clear hw3 hk3
      go_wp2
      go_roundw
      case rel => exact ⟨4, v3, by omega, by go_num, by rw [hpre3]; exact HW3.out, HK3.out.row HL.out HLl.out HLg.out, HK3.out.row HP2.out HPl.out HPg.out, KBb HK3.out HBr.out Hlo.out HGw.out⟩
      case measure => simp [intOf]
    · subst hi4
      have hcf : wr.cell? ⟨gl, 4, none⟩ = some (.func (.func 94) #[] #[]) := HL.out.cell rfl
      go_wp2_with (first
       | (refine wpList_ld 40 rfl rfl Hld.out rfl ?_)
       | fail)
      refine (wmrk_any p Ho.out wr hwr hpl).mono ?_
      rintro e w3 ⟨rfl, ⟨v3, hw3⟩, hk3⟩
      have HW3 := Lib.hid hw3
      have HK3 := Lib.hid hk3
      clear hw3 hk3
      go_wp2
      go_roundw
      case rel => exact ⟨5, v3, by omega, by go_num, by rw [hpre4]; exact HW3.out, HK3.out.row HL.out HLl.out HLg.out, HK3.out.row HP2.out HPl.out HPg.out, KBb HK3.out HBr.out Hlo.out HGw.out⟩
      case measure => simp [intOf]
  · obtain rfl : i = 5 := by omega
    have hc := hwr.row.cell (i := 0) rfl
    have HOw := Lib.hid hwr.own
    clear hwr hpl
    go_wp2
    go_ret
    exact ⟨_, rfl, HOw.out.less Hlo.out, HBr.out⟩
set_option maxRecDepth 100000 in
set_option maxHeartbeats 4000000 in
theorem written_3 (p : Pk) (ho : p.Ok) (hk : p.kind = 3) (m : List UInt8) (hlen : (parts3 p m).flatten.length ≤ 1000000) (w : World) (hse : p.ses < 18446744073709551616) (hep : p.epo < 18446744073709551616) (hcn : p.cnt < 18446744073709551616) (hm : Bs w w.heap.size p.bo m) (hml : m.length ≤ 1048576) : Calls Tryz.prog 61 #[p.val] w fun e w' => ∃ v, e = .returned v ∧ Own w' w.heap.size v (parts3 p m).flatten ∧ Below w.heap.size w w' := by
 have Ho := Lib.hid ho
 have Hk := Lib.hid hk
 have HMb := Lib.hid hm
 clear hm
 clear ho hk
 unfold Pk.val
 go_enter Tryz.func61, Tryz.ntmps61
 go_wp2_with fail
 refine code_name fun W0 hW0 => ?_
 have HP := Lib.hid (show Row W0 w.heap.size p.cells 40 from hW0 ▸ (Row.new rfl rfl).alloc _)
 have HG := Lib.hid (show Row W0 (w.heap.size + 1) [.slice none 0 0] 141 from hW0 ▸ Row.new (by simp) rfl)
 have HB0 := Lib.hid (show Below w.heap.size w W0 from hW0 ▸ ((Below.refl _ w).alloc (Nat.le_refl _) _).alloc (by simp) _)
 clear hW0
 refine By.marks Pol.mixed Grew [fieldsM,
  By.is (.pointer (some ⟨w.heap.size, 0, none⟩)),
  By.is (.int .i64 3),
  (listM [.func (.func 91) #[] #[], .func (.func 95) #[] #[], .func (.func 96) #[] #[], .func (.func 97) #[] #[], .func (.func 98) #[] #[]] 5),
  By.is (.int .i64 5),
  By.is (.int .i64 0)]
  (Ev.masks _ []) (by kernel_rfl) rfl Grew.refl Grew.trans ⟨?_, ?_, ?_, ?_, ?_, ?_, trivial⟩ ?_
 · intro a w ht hs hg
   refine By.yes rfl ?_
   clear hs hg
   go_simp
   refine (fields_any w).mono ?_
   rintro e w' ⟨r, g1, g2, g3, g4, rfl, _, _, _, _, _, h, hb⟩
   exact ⟨_, rfl, hb, r, g1, g2, g3, g4, rfl, h⟩
 · intro a w ht hs hg
   have h1 := By.same_get hs 1 (by decide) (by kernel_rfl)
   refine By.yes rfl ?_
   clear hs hg
   go_simp
   exact ⟨_, rfl, Grew.refl _, rfl⟩
 · intro a w ht hs hg
   have h7 : a.tmps.getD 7 undef = _ := By.given_get hg 1 rfl rfl (by kernel_rfl)
   refine By.yes rfl ?_
   clear hs hg
   have hc := c_kind (Row.below (w := W0.drew) HP.out ht HP.out.lt)
   rw [Hk.out] at hc
   clear ht
   go_simp
   exact ⟨_, rfl, Grew.refl _, rfl⟩
 · intro a w ht hs hg
   have h6 := By.given_get hg 0 rfl rfl (by kernel_rfl)
   have h8 : a.tmps.getD 8 undef = _ := By.given_get hg 2 rfl rfl (by kernel_rfl)
   refine By.yes rfl ?_
   obtain ⟨v6, hv6⟩ : ∃ v, a.tmps.getD 6 undef = v := ⟨_, rfl⟩
   replace h6 := (congrArg (fun v => (fieldsM).on v w) hv6).mp h6
   clear hs hg
   obtain ⟨r, g1, g2, g3, g4, rfl, h⟩ := h6
   have hl := run_getInt (P := Tryz.prog) (w := w) 143 3 142 r 4 _ 3 2 (.slice (some ⟨g3, 0, none⟩) 5 5) Tryz.underlying143 Tryz.underlying3 h.map rfl
   have Hl3 := Lib.hid h.l3
   clear h ht
   go_simp
   exact ⟨_, rfl, Grew.refl _, g3, rfl, Hl3.out⟩
 · intro a w ht hs hg
   have h9 := By.given_get hg 3 rfl rfl (by kernel_rfl)
   refine By.yes rfl ?_
   obtain ⟨v9, hv9⟩ : ∃ v, a.tmps.getD 9 undef = v := ⟨_, rfl⟩
   replace h9 := (congrArg (fun v => ((listM [.func (.func 91) #[] #[], .func (.func 95) #[] #[], .func (.func 96) #[] #[], .func (.func 97) #[] #[], .func (.func 98) #[] #[]] 5)).on v w) hv9).mp h9
   clear hs hg
   obtain ⟨g, rfl, h⟩ := h9
   clear h ht
   go_simp
   exact ⟨_, rfl, Grew.refl _, rfl⟩
 · intro a w ht hs hg
   refine By.yes rfl ?_
   clear hs hg
   go_simp
   exact ⟨_, rfl, Grew.refl _, rfl⟩
 refine By.ends_skip fun v6 => (By.ends_is (By.ends_is (By.ends_any fun v9 => (By.ends_is (By.ends_is (By.ends_nil fun wz hz => ?_))))))
 simp only [Act.put, List.setIfInBounds_toArray, List.set_cons_succ, List.set_cons_zero]
 obtain ⟨hz, hl⟩ := hz
 obtain ⟨gl, hv9, hrl⟩ := hl
 subst hv9
 have hz' : Below W0.heap.size W0 wz := ⟨hz.os, hz.tape, hz.output, hz.size, hz.block⟩
 obtain ⟨lo, hlo⟩ : ∃ lo, wz.heap.size = lo := ⟨_, rfl⟩
 have HLl := Lib.hid (show gl < lo by have := hrl.lt; omega)
 have HPl := Lib.hid (show w.heap.size < lo by have := HP.out.lt; have := hz'.size; omega)
 have HGl : Hid (w.heap.size + 1 < lo) := by show _ < _; have := HG.out.lt; have := hz'.size; omega
 have HLg0 := Lib.hid (row_ne hrl (HG.out.below hz' HG.out.lt) (by decide))
 have HBz := Lib.hid (nextB HB0.out (Nat.le_refl _) hz')
 have HLz := Lib.hid hrl
 have HPz := Lib.hid (HP.out.below hz' HP.out.lt)
 have HGz := Lib.hid (HG.out.below hz' HG.out.lt)
 have Hlo := Lib.hid (show w.heap.size ≤ lo by have := HPl.out; omega)
 have HloE := Lib.hid hlo
 obtain ⟨G, hG⟩ : ∃ G, w.heap.size + 1 = G := ⟨_, rfl⟩
 rw [hG] at HGl HLg0 HGz
 have HGw := Lib.hid (show w.heap.size ≤ G by omega)
 have HPg := Lib.hid (show w.heap.size ≠ G by omega)
 have HLg := Lib.hid HLg0.out
 clear hz hz' hrl hlo
 rw [hG]
 clear hG
 go_wp2_with fail
 go_loopw [5, 11] (fun _ iv wr => ∃ (i : Nat) (v : Value), i ≤ 5 ∧ iv = .int .i64 (i : Int) ∧ Wr wr lo G v ((parts3 p m).take i).flatten ∧ Row wr gl [.func (.func 91) #[] #[], .func (.func 95) #[] #[], .func (.func 96) #[] #[], .func (.func 97) #[] #[], .func (.func 98) #[] #[]] 145 ∧ Row wr w.heap.size p.cells 40 ∧ Below w.heap.size w wr) (fun _ iv _ => 5 - (intOf iv).toNat)
 case atStart => exact ⟨0, _, by omega, rfl, ⟨HGz.out, by rw [List.take_zero]; exact Own.nil _ _, HGl.out, Nat.le_of_eq HloE.out.symm⟩, HLz.out, HPz.out, HBz.out⟩
 case round =>
  obtain ⟨i, v, hi, rfl, hwr, hrl, hrp, hbr⟩ := hrel
  have HL := Lib.hid hrl
  have HP2 := Lib.hid hrp
  have HBr := Lib.hid hbr
  have Hld := Lib.hid (l_all hrp Ho.out)
  have hpl : ((parts3 p m).take i).flatten.length ≤ 1000000 := Nat.le_trans (take_le _ _) hlen
  have hpre0 : ((parts3 p m).take 1).flatten = ((parts3 p m).take 0).flatten ++ Oct.enc p.kind.toNat := by simp [parts3]
  have hpre1 : ((parts3 p m).take 2).flatten = ((parts3 p m).take 1).flatten ++ Oct.enc p.ses := by simp [parts3]
  have hpre2 : ((parts3 p m).take 3).flatten = ((parts3 p m).take 2).flatten ++ Oct.enc p.epo := by simp [parts3]
  have hpre3 : ((parts3 p m).take 4).flatten = ((parts3 p m).take 3).flatten ++ Oct.enc p.cnt := by simp [parts3]
  have hpre4 : ((parts3 p m).take 5).flatten = ((parts3 p m).take 4).flatten ++ Oct.enc m.length ++ m := by simp [parts3]
  clear hrl hrp hbr
  by_cases hin : i < 5
  · rcases (show i = 0 ∨ i = 1 ∨ i = 2 ∨ i = 3 ∨ i = 4 by omega) with hi0 | hi1 | hi2 | hi3 | hi4
    · subst hi0
      have hcf : wr.cell? ⟨gl, 0, none⟩ = some (.func (.func 91) #[] #[]) := HL.out.cell rfl
      go_wp2_with (first
       | (refine wpList_ld 40 rfl rfl Hld.out rfl ?_)
       | fail)
      refine (wkind_any p Ho.out (by rw [Hk.out]; omega) wr hwr hpl).mono ?_
      rintro e w3 ⟨rfl, ⟨v3, hw3⟩, hk3⟩
      have HW3 := Lib.hid hw3
      have HK3 := Lib.hid hk3
      clear hw3 hk3
      go_wp2
      go_roundw
      case rel => exact ⟨1, v3, by omega, by go_num, by rw [hpre0]; exact HW3.out, HK3.out.row HL.out HLl.out HLg.out, HK3.out.row HP2.out HPl.out HPg.out, KBb HK3.out HBr.out Hlo.out HGw.out⟩
      case measure => simp [intOf]
    · subst hi1
      have hcf : wr.cell? ⟨gl, 1, none⟩ = some (.func (.func 95) #[] #[]) := HL.out.cell rfl
      go_wp2_with (first
       | (refine wpList_ld 40 rfl rfl Hld.out rfl ?_)
       | fail)
      refine (wses_any p Ho.out hse wr hwr hpl).mono ?_
      rintro e w3 ⟨rfl, ⟨v3, hw3⟩, hk3⟩
      have HW3 := Lib.hid hw3
      have HK3 := Lib.hid hk3
      clear hw3 hk3
      go_wp2
      go_roundw
      case rel => exact ⟨2, v3, by omega, by go_num, by rw [hpre1]; exact HW3.out, HK3.out.row HL.out HLl.out HLg.out, HK3.out.row HP2.out HPl.out HPg.out, KBb HK3.out HBr.out Hlo.out HGw.out⟩
      case measure => simp [intOf]
    · subst hi2
      have hcf : wr.cell? ⟨gl, 2, none⟩ = some (.func (.func 96) #[] #[]) := HL.out.cell rfl
      go_wp2_with (first
       | (refine wpList_ld 40 rfl rfl Hld.out rfl ?_)
       | fail)
      refine (wepo_any p Ho.out hep wr hwr hpl).mono ?_
      rintro e w3 ⟨rfl, ⟨v3, hw3⟩, hk3⟩
      have HW3 := Lib.hid hw3
      have HK3 := Lib.hid hk3
      clear hw3 hk3
      go_wp2
      go_roundw
      case rel => exact ⟨3, v3, by omega, by go_num, by rw [hpre2]; exact HW3.out, HK3.out.row HL.out HLl.out HLg.out, HK3.out.row HP2.out HPl.out HPg.out, KBb HK3.out HBr.out Hlo.out HGw.out⟩
      case measure => simp [intOf]
    · subst hi3
      have hcf : wr.cell? ⟨gl, 3, none⟩ = some (.func (.func 97) #[] #[]) := HL.out.cell rfl
      go_wp2_with (first
       | (refine wpList_ld 40 rfl rfl Hld.out rfl ?_)
       | fail)
      refine (wcnt_any p Ho.out hcn wr hwr hpl).mono ?_
      rintro e w3 ⟨rfl, ⟨v3, hw3⟩, hk3⟩
      have HW3 := Lib.hid hw3
      have HK3 := Lib.hid hk3
      clear hw3 hk3
      go_wp2
      go_roundw
      case rel => exact ⟨4, v3, by omega, by go_num, by rw [hpre3]; exact HW3.out, HK3.out.row HL.out HLl.out HLg.out, HK3.out.row HP2.out HPl.out HPg.out, KBb HK3.out HBr.out Hlo.out HGw.out⟩
      case measure => simp [intOf]
    · subst hi4
      have hcf : wr.cell? ⟨gl, 4, none⟩ = some (.func (.func 98) #[] #[]) := HL.out.cell rfl
      go_wp2_with (first
       | (refine wpList_ld 40 rfl rfl Hld.out rfl ?_)
       | fail)
      refine (wbody_any p Ho.out wr ((HMb.out.below HBr.out).more HBr.out.size) hml hwr hpl).mono ?_
      rintro e w3 ⟨rfl, ⟨v3, hw3⟩, hk3⟩
      have HW3 := Lib.hid hw3
      have HK3 := Lib.hid hk3
      clear hw3 hk3
      go_wp2
      go_roundw
      case rel => exact ⟨5, v3, by omega, by go_num, by rw [hpre4]; exact HW3.out, HK3.out.row HL.out HLl.out HLg.out, HK3.out.row HP2.out HPl.out HPg.out, KBb HK3.out HBr.out Hlo.out HGw.out⟩
      case measure => simp [intOf]
  · obtain rfl : i = 5 := by omega
    have hc := hwr.row.cell (i := 0) rfl
    have HOw := Lib.hid hwr.own
    clear hwr hpl
    go_wp2
    go_ret
    exact ⟨_, rfl, HOw.out.less Hlo.out, HBr.out⟩
set_option maxRecDepth 100000 in
set_option maxHeartbeats 4000000 in
theorem written_4 (p : Pk) (ho : p.Ok) (hk : p.kind = 4) (m : List UInt8) (hlen : (parts4 p m).flatten.length ≤ 1000000) (w : World) (hse : p.ses < 18446744073709551616) : Calls Tryz.prog 61 #[p.val] w fun e w' => ∃ v, e = .returned v ∧ Own w' w.heap.size v (parts4 p m).flatten ∧ Below w.heap.size w w' := by
 have Ho := Lib.hid ho
 have Hk := Lib.hid hk
 clear ho hk
 unfold Pk.val
 go_enter Tryz.func61, Tryz.ntmps61
 go_wp2_with fail
 refine code_name fun W0 hW0 => ?_
 have HP := Lib.hid (show Row W0 w.heap.size p.cells 40 from hW0 ▸ (Row.new rfl rfl).alloc _)
 have HG := Lib.hid (show Row W0 (w.heap.size + 1) [.slice none 0 0] 141 from hW0 ▸ Row.new (by simp) rfl)
 have HB0 := Lib.hid (show Below w.heap.size w W0 from hW0 ▸ ((Below.refl _ w).alloc (Nat.le_refl _) _).alloc (by simp) _)
 clear hW0
 refine By.marks Pol.mixed Grew [fieldsM,
  By.is (.pointer (some ⟨w.heap.size, 0, none⟩)),
  By.is (.int .i64 4),
  (listM [.func (.func 91) #[] #[], .func (.func 95) #[] #[]] 2),
  By.is (.int .i64 2),
  By.is (.int .i64 0)]
  (Ev.masks _ []) (by kernel_rfl) rfl Grew.refl Grew.trans ⟨?_, ?_, ?_, ?_, ?_, ?_, trivial⟩ ?_
 · intro a w ht hs hg
   refine By.yes rfl ?_
   clear hs hg
   go_simp
   refine (fields_any w).mono ?_
   rintro e w' ⟨r, g1, g2, g3, g4, rfl, _, _, _, _, _, h, hb⟩
   exact ⟨_, rfl, hb, r, g1, g2, g3, g4, rfl, h⟩
 · intro a w ht hs hg
   have h1 := By.same_get hs 1 (by decide) (by kernel_rfl)
   refine By.yes rfl ?_
   clear hs hg
   go_simp
   exact ⟨_, rfl, Grew.refl _, rfl⟩
 · intro a w ht hs hg
   have h7 : a.tmps.getD 7 undef = _ := By.given_get hg 1 rfl rfl (by kernel_rfl)
   refine By.yes rfl ?_
   clear hs hg
   have hc := c_kind (Row.below (w := W0.drew) HP.out ht HP.out.lt)
   rw [Hk.out] at hc
   clear ht
   go_simp
   exact ⟨_, rfl, Grew.refl _, rfl⟩
 · intro a w ht hs hg
   have h6 := By.given_get hg 0 rfl rfl (by kernel_rfl)
   have h8 : a.tmps.getD 8 undef = _ := By.given_get hg 2 rfl rfl (by kernel_rfl)
   refine By.yes rfl ?_
   obtain ⟨v6, hv6⟩ : ∃ v, a.tmps.getD 6 undef = v := ⟨_, rfl⟩
   replace h6 := (congrArg (fun v => (fieldsM).on v w) hv6).mp h6
   clear hs hg
   obtain ⟨r, g1, g2, g3, g4, rfl, h⟩ := h6
   have hl := run_getInt (P := Tryz.prog) (w := w) 143 3 142 r 4 _ 4 3 (.slice (some ⟨g4, 0, none⟩) 2 2) Tryz.underlying143 Tryz.underlying3 h.map rfl
   have Hl4 := Lib.hid h.l4
   clear h ht
   go_simp
   exact ⟨_, rfl, Grew.refl _, g4, rfl, Hl4.out⟩
 · intro a w ht hs hg
   have h9 := By.given_get hg 3 rfl rfl (by kernel_rfl)
   refine By.yes rfl ?_
   obtain ⟨v9, hv9⟩ : ∃ v, a.tmps.getD 9 undef = v := ⟨_, rfl⟩
   replace h9 := (congrArg (fun v => ((listM [.func (.func 91) #[] #[], .func (.func 95) #[] #[]] 2)).on v w) hv9).mp h9
   clear hs hg
   obtain ⟨g, rfl, h⟩ := h9
   clear h ht
   go_simp
   exact ⟨_, rfl, Grew.refl _, rfl⟩
 · intro a w ht hs hg
   refine By.yes rfl ?_
   clear hs hg
   go_simp
   exact ⟨_, rfl, Grew.refl _, rfl⟩
 refine By.ends_skip fun v6 => (By.ends_is (By.ends_is (By.ends_any fun v9 => (By.ends_is (By.ends_is (By.ends_nil fun wz hz => ?_))))))
 simp only [Act.put, List.setIfInBounds_toArray, List.set_cons_succ, List.set_cons_zero]
 obtain ⟨hz, hl⟩ := hz
 obtain ⟨gl, hv9, hrl⟩ := hl
 subst hv9
 have hz' : Below W0.heap.size W0 wz := ⟨hz.os, hz.tape, hz.output, hz.size, hz.block⟩
 obtain ⟨lo, hlo⟩ : ∃ lo, wz.heap.size = lo := ⟨_, rfl⟩
 have HLl := Lib.hid (show gl < lo by have := hrl.lt; omega)
 have HPl := Lib.hid (show w.heap.size < lo by have := HP.out.lt; have := hz'.size; omega)
 have HGl : Hid (w.heap.size + 1 < lo) := by show _ < _; have := HG.out.lt; have := hz'.size; omega
 have HLg0 := Lib.hid (row_ne hrl (HG.out.below hz' HG.out.lt) (by decide))
 have HBz := Lib.hid (nextB HB0.out (Nat.le_refl _) hz')
 have HLz := Lib.hid hrl
 have HPz := Lib.hid (HP.out.below hz' HP.out.lt)
 have HGz := Lib.hid (HG.out.below hz' HG.out.lt)
 have Hlo := Lib.hid (show w.heap.size ≤ lo by have := HPl.out; omega)
 have HloE := Lib.hid hlo
 obtain ⟨G, hG⟩ : ∃ G, w.heap.size + 1 = G := ⟨_, rfl⟩
 rw [hG] at HGl HLg0 HGz
 have HGw := Lib.hid (show w.heap.size ≤ G by omega)
 have HPg := Lib.hid (show w.heap.size ≠ G by omega)
 have HLg := Lib.hid HLg0.out
 clear hz hz' hrl hlo
 rw [hG]
 clear hG
 go_wp2_with fail
 go_loopw [5, 11] (fun _ iv wr => ∃ (i : Nat) (v : Value), i ≤ 2 ∧ iv = .int .i64 (i : Int) ∧ Wr wr lo G v ((parts4 p m).take i).flatten ∧ Row wr gl [.func (.func 91) #[] #[], .func (.func 95) #[] #[]] 145 ∧ Row wr w.heap.size p.cells 40 ∧ Below w.heap.size w wr) (fun _ iv _ => 2 - (intOf iv).toNat)
 case atStart => exact ⟨0, _, by omega, rfl, ⟨HGz.out, by rw [List.take_zero]; exact Own.nil _ _, HGl.out, Nat.le_of_eq HloE.out.symm⟩, HLz.out, HPz.out, HBz.out⟩
 case round =>
  obtain ⟨i, v, hi, rfl, hwr, hrl, hrp, hbr⟩ := hrel
  have HL := Lib.hid hrl
  have HP2 := Lib.hid hrp
  have HBr := Lib.hid hbr
  have Hld := Lib.hid (l_all hrp Ho.out)
  have hpl : ((parts4 p m).take i).flatten.length ≤ 1000000 := Nat.le_trans (take_le _ _) hlen
  have hpre0 : ((parts4 p m).take 1).flatten = ((parts4 p m).take 0).flatten ++ Oct.enc p.kind.toNat := by simp [parts4]
  have hpre1 : ((parts4 p m).take 2).flatten = ((parts4 p m).take 1).flatten ++ Oct.enc p.ses := by simp [parts4]
  clear hrl hrp hbr
  by_cases hin : i < 2
  · rcases (show i = 0 ∨ i = 1 by omega) with hi0 | hi1
    · subst hi0
      have hcf : wr.cell? ⟨gl, 0, none⟩ = some (.func (.func 91) #[] #[]) := HL.out.cell rfl
      go_wp2_with (first
       | (refine wpList_ld 40 rfl rfl Hld.out rfl ?_)
       | fail)
      refine (wkind_any p Ho.out (by rw [Hk.out]; omega) wr hwr hpl).mono ?_
      rintro e w3 ⟨rfl, ⟨v3, hw3⟩, hk3⟩
      have HW3 := Lib.hid hw3
      have HK3 := Lib.hid hk3
      clear hw3 hk3
      go_wp2
      go_roundw
      case rel => exact ⟨1, v3, by omega, by go_num, by rw [hpre0]; exact HW3.out, HK3.out.row HL.out HLl.out HLg.out, HK3.out.row HP2.out HPl.out HPg.out, KBb HK3.out HBr.out Hlo.out HGw.out⟩
      case measure => simp [intOf]
    · subst hi1
      have hcf : wr.cell? ⟨gl, 1, none⟩ = some (.func (.func 95) #[] #[]) := HL.out.cell rfl
      go_wp2_with (first
       | (refine wpList_ld 40 rfl rfl Hld.out rfl ?_)
       | fail)
      refine (wses_any p Ho.out hse wr hwr hpl).mono ?_
      rintro e w3 ⟨rfl, ⟨v3, hw3⟩, hk3⟩
      have HW3 := Lib.hid hw3
      have HK3 := Lib.hid hk3
      clear hw3 hk3
      go_wp2
      go_roundw
      case rel => exact ⟨2, v3, by omega, by go_num, by rw [hpre1]; exact HW3.out, HK3.out.row HL.out HLl.out HLg.out, HK3.out.row HP2.out HPl.out HPg.out, KBb HK3.out HBr.out Hlo.out HGw.out⟩
      case measure => simp [intOf]
  · obtain rfl : i = 2 := by omega
    have hc := hwr.row.cell (i := 0) rfl
    have HOw := Lib.hid hwr.own
    clear hwr hpl
    go_wp2
    go_ret
    exact ⟨_, rfl, HOw.out.less Hlo.out, HBr.out⟩
end Go.Proofs.YtedmogacklbcmaaGreatDoor.Pkt
namespace Go.Proofs.YtedmogacklbcmaaGreatDoor.Pkt
open Go.RowKit
def wire (p : Pk) (m : List UInt8) : List UInt8 := if p.kind = 1 then (parts1 p m).flatten else if p.kind = 2 then (parts2 p m).flatten else if p.kind = 3 then (parts3 p m).flatten else (parts4 p m).flatten
theorem head_kind {p : Pk} (h : Head p) : p.kind = 1 ∨ p.kind = 2 ∨ p.kind = 3 ∨ p.kind = 4 := by
 unfold Head at h
 by_cases h1 : p.kind = 1
 · exact .inl h1
 by_cases h2 : p.kind = 2
 · exact .inr (.inl h2)
 by_cases h3 : p.kind = 3
 · exact .inr (.inr (.inl h3))
 by_cases h4 : p.kind = 4
 · exact .inr (.inr (.inr h4))
 · rw [if_neg h1, if_neg h2, if_neg h3, if_neg h4] at h
   exact h.elim
theorem enc_len (x : Nat) (h : x < 18446744073709551616) : (Oct.enc x).length ≤ 9 := by
 have h1 := (Oct.nsize_spec x h).1
 rw [Oct.enc_length]
 omega
theorem written_any (p : Pk) (hi : p.In) (hh : Head p) (m : List UInt8) (w : World) (hm : Bs w w.heap.size p.bo m) (hml : m.length ≤ 65552) : Calls Tryz.prog 61 #[p.val] w fun e w' => ∃ v, e = .returned v ∧ Own w' w.heap.size v (wire p m) ∧ Below w.heap.size w w' := by
 have hr := hi.ok.r
 have hmk := hi.ok.m
 have hs := hi.s
 have he := hi.e
 have hc := hi.c
 have l3 := enc_len p.ses hs
 have l4 := enc_len p.epo (by omega)
 have l5 := enc_len p.cnt hc
 have l6 := enc_len m.length (by omega)
 rcases head_kind hh with k | k | k | k
 · have h := hh
   unfold Head at h
   rw [if_pos k] at h
   have l1 := enc_len p.kind.toNat (by omega)
   have l2 := enc_len p.peer.toNat (by omega)
   have := written_1 p hi.ok k m (by simp [parts1]; omega) w (by omega)
   unfold wire
   rw [if_pos k]
   exact this
 · have l1 := enc_len p.kind.toNat (by omega)
   have := written_2 p hi.ok k m (by simp [parts2]; omega) w (by omega) (by omega)
   unfold wire
   rw [if_neg (by omega), if_pos k]
   exact this
 · have l1 := enc_len p.kind.toNat (by omega)
   have := written_3 p hi.ok k m (by simp [parts3]; omega) w (by omega) (by omega) (by omega) hm (by omega)
   unfold wire
   rw [if_neg (by omega), if_neg (by omega), if_pos k]
   exact this
 · have l1 := enc_len p.kind.toNat (by omega)
   have := written_4 p hi.ok k m (by simp [parts4]; omega) w (by omega)
   unfold wire
   rw [if_neg (by omega), if_neg (by omega), if_neg (by omega)]
   exact this
end Go.Proofs.YtedmogacklbcmaaGreatDoor.Pkt
namespace Go.Proofs.YtedmogacklbcmaaGreatDoor.Pkt
open Go.RowKit
def alongL (p : Pk) : List UInt8 := if p.kind = 3 ∧ Head p then (parts3 p []).flatten else []
set_option maxRecDepth 100000 in
set_option maxHeartbeats 2000000 in
theorem Along_any (p : Pk) (hi : p.In) (w : World) : Calls Tryz.prog 49 #[p.val] w fun e w' => ∃ v, e = .returned v ∧ Own w' w.heap.size v (alongL p) ∧ Below w.heap.size w w' := by
 have ho := hi.ok
 have hr0 : Row (w.alloc (.cells p.cells.toArray 40)) w.heap.size p.cells 40 := Row.new rfl rfl
 have hB0 : Below w.heap.size w (w.alloc (.cells p.cells.toArray 40)) := (Below.refl _ w).alloc (Nat.le_refl _) _
 have HR0 := Lib.hid hr0
 have HB0 := Lib.hid hB0
 have Hi := Lib.hid hi
 have HL := Lib.hid (l_all hr0 ho)
 have ck := c_kind hr0
 clear hr0 hB0 ho hi
 by_cases hk : p.kind = 3
 · rw [hk] at ck
   unfold Pk.val
   go_enter Tryz.func49, Tryz.ntmps49
   go_wp2_with (first
    | (refine wpList_ld 40 rfl rfl HL.out rfl ?_)
    | fail)
   refine (isHead_any p Hi.out.ok _).mono ?_
   rintro e w1 ⟨rfl, hb1⟩
   have HB1 := Lib.hid (nextB HB0.out (Nat.le_refl _) hb1)
   have HR1 := Lib.hid (HR0.out.below hb1 HR0.out.lt)
   clear hb1 ck
   by_cases h : Head p
   · rw [decide_eq_true h]
     have ha : alongL p = (parts3 p []).flatten := if_pos ⟨hk, h⟩
     obtain ⟨q, hq⟩ : ∃ q : Pk, q = { p with bo := .slice none 0 0 } := ⟨_, rfl⟩
     have hrq := HR1.out.set 37 (.slice none 0 0)
     rw [Pk.set_bo Hi.out.ok, ← hq] at hrq
     have hqo : q.In := hq ▸ ⟨Pk.with_bo Hi.out.ok rfl, Hi.out.s, Hi.out.e, Hi.out.c⟩
     have c37 := c_bo HR1.out Hi.out.ok
     have f37 := frozen_row HR1.out 37
     have HLq := Lib.hid (l_all hrq hqo.ok)
     have HBq := Lib.hid (HB1.out.setCell (p := ⟨w.heap.size, 37, none⟩) (Nat.le_refl _) (.slice none 0 0))
     have Hqo := Lib.hid hqo
     have Hqh := Lib.hid (show Head q by rw [hq]; exact h)
     have Hqb := Lib.hid (show q.bo = .slice none 0 0 by rw [hq])
     have Hw := Lib.hid (show wire q [] = alongL p by rw [ha, wire, hq, if_neg (by rw [hk]; decide), if_neg (by rw [hk]; decide), if_pos hk]; rfl)
     clear hrq hqo hq ha h hk
     go_wp2_with (first
      | (refine wpList_ld 40 rfl rfl HLq.out rfl ?_)
      | fail)
     refine (written_any q Hqo.out Hqh.out [] _ (by rw [Hqb.out]; exact Bs_nil _ _) (by simp)).mono ?_
     rintro e w2 ⟨v, rfl, ho2, hb2⟩
     rw [Hw.out] at ho2
     have HO := Lib.hid (ho2.less HBq.out.size)
     have HB2 := Lib.hid (nextB HBq.out (Nat.le_refl _) hb2)
     clear ho2 hb2
     go_wp2
     go_ret
     exact ⟨v, rfl, HO.out, HB2.out⟩
   · rw [decide_eq_false h]
     have ha : alongL p = [] := if_neg (fun hh => h hh.2)
     go_wp2
     go_ret
     exact ⟨_, rfl, by rw [ha]; exact Own.nil _ _, HB1.out⟩
 · have ha : alongL p = [] := if_neg (fun hh => hk hh.1)
   unfold Pk.val
   go_enter Tryz.func49, Tryz.ntmps49
   go_wp2
   go_ret
   exact ⟨_, rfl, by rw [ha]; exact Own.nil _ _, HB0.out⟩
end Go.Proofs.YtedmogacklbcmaaGreatDoor.Pkt
