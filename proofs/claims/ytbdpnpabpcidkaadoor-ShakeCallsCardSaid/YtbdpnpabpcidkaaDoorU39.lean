/- Texts that the proofs share: HkZeros. -/
import Derived.Test.YtbdpnpabpcidkaaDoorU37
import Derived.Lib.AppendZerosOnto
namespace Go.Proofs.YtbdpnpabpcidkaaDoor
open Go.RowKit
theorem zeroCells_u8 (k : Nat) : Builtin.zeroCells (Value.int .u8 0).cells k = ((List.replicate k (0 : UInt8)).map bv).toArray := by
 apply Array.ext
 · simp [Builtin.zeroCells, Value.cells]
 · intro j h1 h2
   simp [Builtin.zeroCells, Value.cells, bv, Nat.mod_one]
theorem run_app_zeros (w : World) {base : Nat} {v : Value} {l : List UInt8} (ty : TypeId) (k : Nat) (hown : Own w base v l) (hlen : l.length + k ≤ 140737488355327) (hbase : base ≤ w.heap.size) :
 ∃ v' w', (Builtin.append_ #[23, 3] ty #[v, .int .i64 (k : Int)]).run Tryd.prog w = .ok v' w' ∧ Own w' base v' (l ++ List.replicate k 0) ∧ w.grownBy w' v.ownBlock := by
 obtain ⟨i, hi, hz, hs, hb⟩ := info_u8
 have hu := run_underlying (P := Tryd.prog) Tryd.underlying23
 have hui := run_underlying (P := Tryd.prog) Tryd.underlying3
 have hw : IntKind.i64.wrap (k : Int) = k := by rw [IntKind.wrap_i64]; omega
 have grown : ∀ (old : Nat), old < l.length + k → ∀ (row : Option Nat),
  Own (w.drew.alloc (.cells ((l.map bv).toArray ++ Builtin.zeroCells (Value.int .u8 0).cells k ++ Builtin.zeroCells (Value.int .u8 0).cells (grownCap w (l.length + k) old 5 - (l.length + k))) 5)) base (.slice (some ⟨w.heap.size, 0, none⟩) (l.length + k) (grownCap w (l.length + k) old 5)) (l ++ List.replicate k 0) ∧
  w.grownBy (w.drew.alloc (.cells ((l.map bv).toArray ++ Builtin.zeroCells (Value.int .u8 0).cells k ++ Builtin.zeroCells (Value.int .u8 0).cells (grownCap w (l.length + k) old 5 - (l.length + k))) 5)) row := by
  intro old ho row
  have hge := grownCap_ge w (l.length + k) old 5
  have hcm : grownCap w (l.length + k) old 5 ≤ maxLen := grownCap_le_maxLen w (l.length + k) old 5 (by unfold maxLen; omega)
  refine ⟨⟨by simp, .inr ⟨w.heap.size, _, _, by rw [List.length_append, List.length_replicate], hbase, heap_alloc_new w.drew _, by rw [List.length_append, List.length_replicate]; exact hge, hcm, ?_, ?_⟩⟩, ⟨rfl, rfl, rfl, by simp, fun j hj _ => heap_alloc_old w.drew _ hj⟩⟩
  · simp only [zeroCells_u8, Array.size_append, List.size_toArray, List.length_map, List.length_replicate]
    omega
  · simp only [zeroCells_u8, Array.toList_append, List.map_append, List.append_assoc]
    rw [← List.append_assoc]
    exact List.take_left' (by simp)
 by_cases hk : k = 0
 · subst hk
   have hw0 : IntKind.i64.wrap 0 = 0 := hw
   refine ⟨v, w, ?_, by simpa using hown, ⟨rfl, rfl, rfl, Nat.le_refl _, fun _ _ _ => rfl⟩⟩
   rcases hown.2 with ⟨rfl, _⟩ | ⟨g, cap, cur, rfl, _, _, hnc, _⟩
   · simp [Builtin.append_, hu, hui, sizeOf, typeInfo, hi, hb, asInt, asIntOf, hw0]
   · simp [Builtin.append_, hu, hui, sizeOf, typeInfo, hi, hb, asInt, asIntOf, hw0, hnc, storeCells]
 · rcases hown.2 with ⟨rfl, hl⟩ | ⟨g, cap, cur, rfl, hbg, hg, hnc, hcm, hcs, htake⟩
   · have hl0 : l = [] := List.eq_nil_of_length_eq_zero hl
     subst hl0
     have hr := Lib.run_append_grow_zeros (P := Tryd.prog) w 23 3 ty 5 i (.int .u8 0) .i64 .i64 Tryd.underlying23 Tryd.underlying3 hi hz none 0 0 [] (run_firstCells_none _ _ _ _ _) k (by omega) (by omega) (by omega) (by omega) (by rw [hb]; omega) (growslice_fits (by omega) (by rw [hb]; simp at hlen; omega))
     have hgr := grown 0 (by simp; omega) none
     simp only [List.length_nil] at hgr
     exact ⟨_, _, hr, hgr.1, hgr.2⟩
   · by_cases hroom : l.length + k ≤ cap
     · have hfit : l.length + 0 + ((List.replicate k (0 : UInt8)).map bv).length ≤ cur.size := by rw [hcs]; simp; omega
       have hst := run_storeCells_at Tryd.prog g l.length 5 ((List.replicate k (0 : UInt8)).map bv) 0 cur w hg hfit (hbytes_one _)
       simp only [Nat.add_zero] at hst
       have hneg : ¬ ((k : Int) < 0) := by omega
       have hbig : ¬ (281474976710656 < (k : Int)) := by omega
       have hap : (Builtin.append_ #[23, 3] ty #[.slice (some ⟨g, 0, none⟩) l.length cap, .int .i64 (k : Int)]).run Tryd.prog w =
        .ok (.slice (some ⟨g, 0, none⟩) (l.length + k) cap) (w.setRow g (cur.toList.take l.length ++ (List.replicate k (0 : UInt8)).map bv ++ cur.toList.drop (l.length + ((List.replicate k (0 : UInt8)).map bv).length)).toArray) := by
        simp [Builtin.append_, hu, hui, sizeOf, typeInfo, zeroValue, hi, hz, hs, hb, asInt, asIntOf, hw, hneg, hbig, hk, hroom, Addr.add_lit, zeroCells_u8, -List.map_replicate, hst]
       refine ⟨_, _, hap, ⟨by simp, .inr ⟨g, cap, _, by rw [List.length_append, List.length_replicate], hbg, setRow_heap w g cur _ 5 _ hg, by rw [List.length_append, List.length_replicate]; exact hroom, hcm, ?_, ?_⟩⟩, ⟨rfl, rfl, rfl, by simp, fun j _ hj => setRow_other w g j _ (fun e => hj (by simp [Value.ownBlock, e]))⟩⟩
       · simp only [List.size_toArray, List.length_append, List.length_take, List.length_drop, Array.length_toList, List.length_map, List.length_replicate]
         omega
       · rw [Nat.mul_one] at htake
         rw [htake, List.map_append]
         exact List.take_left' (by simp)
     · have hr := Lib.run_append_grow_zeros (P := Tryd.prog) w 23 3 ty 5 i (.int .u8 0) .i64 .i64 Tryd.underlying23 Tryd.underlying3 hi hz (some ⟨g, 0, none⟩) l.length cap (l.map bv) (run_firstCells_some w.drew _ _ ⟨g, 0, none⟩ _ _ (l.map bv) (by rw [hs]; simp) (hown.cells (g := g) rfl)) k (by omega) (by omega) (by omega) (by omega) (by rw [hb]; omega) (growslice_fits (by omega) (by rw [hb]; omega))
       have hgr := grown cap (by omega) (some g)
       exact ⟨_, _, hr, hgr.1, hgr.2⟩
theorem wpList_app_zeros (w : World) {ops : Array Oper} {rest : List Oper} {o : Oper} {a : Act} {Q : Exit → Act → World → Prop} (hgd : o.guard = none) (s x : Operand)
 (ho : o.op = .call { callee := .builtin .append, args := #[s, x], argTypes := #[23, 3] }) {base : Nat} {v : Value} {l : List UInt8} {k : Nat} (hs : a.eval s = v) (hown : Own w base v l) (hx : a.eval x = .int .i64 (k : Int))
 (hlen : l.length + k ≤ 140737488355327) (hbase : base ≤ w.heap.size)
 (h : ∀ v' w', Own w' base v' (l ++ List.replicate k 0) → w.grownBy w' v.ownBlock → wpList Tryd.prog ops Q rest (a.put o.dst v') w') : wpList Tryd.prog ops Q (o :: rest) a w := by
 refine wpList_plain hgd fun K hK => ?_
 obtain ⟨v', w', hr, h2, h3⟩ := run_app_zeros w o.type k hown hlen hbase
 unfold Oper.wp execOp
 simp only [ho, resolve, invoke, builtin, Sem.run_bind, Sem.run_pure, Result.andThen_ok, List.map_toArray, List.map_cons, List.map_nil, hs, hx, hr]
 exact hK _ _ (h v' w' h2 h3)
end Go.Proofs.YtbdpnpabpcidkaaDoor
