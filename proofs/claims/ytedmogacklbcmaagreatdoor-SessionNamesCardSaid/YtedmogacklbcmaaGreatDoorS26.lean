/- Texts that the proofs share: Row, Str. -/
import Derived.Test.YtedmogacklbcmaaGreatDoorS11
import Derived.Test.YtedmogacklbcmaaGreatDoorS19
import Derived.Laws.Rows
import Derived.Laws.Tables
import Derived.WalkSmall
import Derived.OwnWalk
import Derived.Laws.OwnMore
namespace Go.Proofs.YtedmogacklbcmaaGreatDoor
open Go.RowKit
def Row (w : World) (g : Nat) (cs : List Value) (t : TypeId) : Prop := w.heap[g]? = some (.cells cs.toArray t (0, 0))
theorem Row.cell {w : World} {g : Nat} {cs : List Value} {t : TypeId} (h : Row w g cs t) {i : Nat} {v : Value} (hv : cs[i]? = some v) : w.cell? ⟨g, i, none⟩ = some v := by
 rw [cell_of_row w g i _ _ _ h]
 simpa using hv
theorem Row.drewN {w : World} {g : Nat} {cs : List Value} {t : TypeId} (h : Row w g cs t) (n : Nat) : Row (w.drewN n) g cs t := h
theorem Row.set {w : World} {g : Nat} {cs : List Value} {t : TypeId} (h : Row w g cs t) (i : Nat) (v : Value) : Row (w.setCell ⟨g, i, none⟩ v) g (cs.set i v) t := by
 unfold Row
 rw [heap_setCell_same w g i _ _ v h]
 simp
theorem Row.other {w : World} {g : Nat} {cs : List Value} {t : TypeId} (h : Row w g cs t) (a : Addr) (v : Value) (hne : g ≠ a.block) : Row (w.setCell a v) g cs t := by
 unfold Row
 rw [heap_setCell_other w a g v hne]
 exact h
theorem Row.alloc {w : World} {g : Nat} {cs : List Value} {t : TypeId} (h : Row w g cs t) (o : Obj) : Row (w.alloc o) g cs t := by
 have hlt : g < w.heap.size := (Array.getElem?_eq_some_iff.1 h).1
 unfold Row
 exact (heap_alloc_old w o hlt).trans h
theorem Row.new {w : World} {g : Nat} {cs : List Value} {t : TypeId} {o : Obj} (h : w.heap.size = g) (ho : o = .cells cs.toArray t (0, 0)) : Row (w.alloc o) g cs t := by
 subst h; subst ho
 exact heap_alloc_new w _
theorem Row.below {w w' : World} {g B : Nat} {cs : List Value} {t : TypeId} (h : Row w g cs t) (hb : Below B w w') (hg : g < B) : Row w' g cs t := by
 unfold Row
 rw [hb.block g hg]
 exact h
theorem frozen_row {w : World} {g : Nat} {cs : List Value} {t : TypeId} (h : Row w g cs t) (j : Nat) : w.frozen? ⟨g, j, none⟩ = false := frozen_of_row w g j _ _ h
theorem Row.lt {w : World} {g : Nat} {cs : List Value} {t : TypeId} (h : Row w g cs t) : g < w.heap.size := (Array.getElem?_eq_some_iff.1 h).1
theorem Row.same {w : World} {g : Nat} {cs cs' : List Value} {t : TypeId} (h : Row w g cs t) (he : cs' = cs) : Row w g cs' t := he ▸ h
theorem Row.setRow {w : World} {g : Nat} {cs : List Value} {t : TypeId} (h : Row w g cs t) (cs' : List Value) : Row (w.setRow g cs'.toArray) g cs' t := setRow_heap w g _ _ t _ h
theorem Row.setOther {w : World} {g : Nat} {cs : List Value} {t : TypeId} (h : Row w g cs t) (k : Nat) (cs' : Array Value) (hne : g ≠ k) : Row (w.setRow k cs') g cs t := (setRow_other w k g cs' hne).trans h
theorem below_setRow {B g : Nat} {w0 w : World} (hb : Below B w0 w) (hBg : B ≤ g) (cs : Array Value) : Below B w0 (w.setRow g cs) :=
 hb.trans ⟨rfl, rfl, rfl, by simp [World.setRow], fun k hk => setRow_other w g k cs (by omega)⟩
section
variable {P : Program}
theorem wpList_loadRow {ops : Array Oper} {rest : List Oper} {o : Oper} {a : Act} {w : World} {Q : Exit → Act → World → Prop} (hgd : o.guard = none) (ty : TypeId) (x : Operand) (ho : o.op = .load ty x)
 {g : Nat} (hx : a.eval x = .pointer (some ⟨g, 0, none⟩)) {t : TypeId} {cs : List Value} {d : TypeDesc} (h : Row w g cs t)
 (hu : P.underlying ty = some d) (hd : (match d with | .struct _ | .array _ _ => true | _ => false) = true) {n : Nat} (hi : (P.info? ty).map (·.size) = some n) (hn : cs.length = n)
 (hk : wpList P ops Q rest (a.put o.dst (.agg cs.toArray)) w) : wpList P ops Q (o :: rest) a w :=
 wpList_load_row hgd ty x ho g hx t cs.toArray (0, 0) d h hu hd (by rw [hi]; simp [hn]) hk
theorem wp_loadRow {o : Oper} {a : Act} {w : World} {K : Act → World → Prop} {Q : Exit → Act → World → Prop} (ty : TypeId) (x : Operand) (ho : o.op = .load ty x)
 {g : Nat} (hx : a.eval x = .pointer (some ⟨g, 0, none⟩)) {t : TypeId} {cs : List Value} {d : TypeDesc} (h : Row w g cs t)
 (hu : P.underlying ty = some d) (hd : (match d with | .struct _ | .array _ _ => true | _ => false) = true) {n : Nat} (hi : (P.info? ty).map (·.size) = some n) (hn : cs.length = n)
 (hk : K (a.put o.dst (.agg cs.toArray)) w) : o.wp P a w K Q :=
 wp_load_row ty x ho g hx t cs.toArray (0, 0) d h hu hd (by rw [hi]; simp [hn]) hk
theorem wpList_storeRow {ops : Array Oper} {rest : List Oper} {o : Oper} {a : Act} {w : World} {Q : Exit → Act → World → Prop} (hgd : o.guard = none) (ty : TypeId) (x y : Operand) (ho : o.op = .store ty x y)
 {g : Nat} {cs old : List Value} (hx : a.eval x = .pointer (some ⟨g, 0, none⟩)) (hy : a.eval y = .agg cs.toArray) {t : TypeId} (h : Row w g old t)
 {n : Nat} (hi : (P.info? ty).map (·.size) = some n) (hn : cs.length = n) (ho2 : old.length = n) (h1 : ∀ v ∈ cs, v.oneCell' = true)
 (hk : wpList P ops Q rest (a.put o.dst undef) (w.setRow g cs.toArray)) : wpList P ops Q (o :: rest) a w :=
 wpList_store_row hgd ty x y ho g cs.toArray hx hy t old.toArray h (by rw [hi]; simp [hn]) (by simp [hn, ho2]) (by simpa using h1) hk
theorem run_index_one {t e : TypeId} {n : Nat} {d : TypeDesc} {cs : List Value} {i : Nat} {v : Value} (w : World) (hu : P.underlying t = some (.array n e)) (he : P.underlying e = some d) (hd : (match d with | .struct _ | .array _ _ => true | _ => false) = false)
 (hs : (P.info? e).map (·.size) = some 1) (hi : i < n) (hv : cs[i]? = some v) : (Instr.index t (.agg cs.toArray) (.int .i64 (i : Int))).run P w = .ok v w := by
 have hagg : (isAgg e).run P w = .ok false w := by
  unfold isAgg
  rw [Sem.run_bind, run_underlying he w]
  cases d <;> simp_all
 cases hq : P.info? e with
 | none => simp [hq] at hs
 | some info =>
   have hsz : info.size = 1 := by simpa [hq] using hs
   have hsize : (sizeOf e).run P w = .ok 1 w := by simp [sizeOf, typeInfo, hq, hsz]
   have hv' : cs.toArray[i]? = some v := by simpa using hv
   have h1 : (0 : Int) ≤ (i : Int) ∧ (i : Int) < (n : Int) := by omega
   simp only [Instr.index, asIntOf, Sem.run_bind, Sem.run_pure, Result.andThen_ok, run_underlying hu w]
   rw [if_pos h1, Sem.run_bind, hsize]
   simp only [Result.andThen_ok, part, Sem.run_bind, hagg, Bool.false_eq_true, if_false, Int.toNat_natCast, Nat.mul_one, hv', Sem.run_pure]
theorem results_row {fn : Func} {p : Tmp} {ty : TypeId} (hr : fn.results = #[.cell p ty]) (tmps : Array Value) {w : World} {g : Nat} {t : TypeId} {cs : List Value} {d : TypeDesc}
 (hp : tmps.getD p undef = .pointer (some ⟨g, 0, none⟩)) (h : Row w g cs t) (hu : P.underlying ty = some d) (hd : (match d with | .struct _ | .array _ _ => true | _ => false) = true) {n : Nat}
 (hi : (P.info? ty).map (·.size) = some n) (hn : cs.length = n) : (results fn tmps).run P w = .ok (.agg cs.toArray) w :=
 results_cell_row hr tmps w g t cs.toArray (0, 0) d hp h hu hd (by rw [hi]; simp [hn])
end
theorem Row.own {w : World} {g base : Nat} {l : List UInt8} (h : Row w g (l.map bv) 5) (hb : base ≤ g) (hl : l.length ≤ 1000000000000) : Own w base (.slice (some ⟨g, 0, none⟩) l.length l.length) l :=
 ⟨by simp, .inr ⟨g, l.length, _, rfl, hb, h, Nat.le_refl _, by unfold maxLen; omega, by simp, by simp [List.take_of_length_le]⟩⟩
theorem Row.of_owns {w : World} {g base n : Nat} {xs : List Value} (h : w.ownsRow base 5 1 (.slice (some ⟨g, 0, none⟩) n n) n xs) : Row w g xs 5 := by
 rcases h.2 with ⟨h', _⟩ | ⟨g', cap, cur, h', _, hg, _, _, hcs, ht⟩
 · simp at h'
 · simp only [Value.slice.injEq, Option.some.injEq, Addr.mk.injEq, and_true, true_and] at h'
   obtain ⟨rfl, rfl⟩ := h'
   have hx : cur.toList = xs := by rw [← ht, List.take_of_length_le (by simp [hcs])]
   unfold Row
   rw [hg, ← hx]
theorem Row.bs {w : World} {g B : Nat} {l : List UInt8} {t : TypeId} (h : Row w g (l.map bv) t) (hB : g < B) : Bs w B (.slice (some ⟨g, 0, none⟩) l.length l.length) l :=
 ⟨_, _, rfl, Nat.le_refl _, fun _ => ⟨g, 0, rfl, hB, fun i u hu => h.cell (by rw [Nat.zero_add, List.getElem?_map, hu]; rfl)⟩⟩
theorem wpList_make_bytes (w : World) {ops : Array Oper} {rest : List Oper} {o : Oper} {a : Act} {Q : Exit → Act → World → Prop}
 (hg : o.guard = none) (l c : Operand) (hop : o.op = Op.makeSlice 38 l c) (n : Nat) (hl : a.eval l = .int .i64 (n : Int)) (hc : a.eval c = .int .i64 (n : Int)) (hn : n ≤ 1000000000000)
 (hK : ∀ w', Row w' w.heap.size ((List.replicate n (0 : UInt8)).map bv) 5 → w.grownBy w' none → wpList Tryz.prog ops Q rest (a.put o.dst (.slice (some ⟨w.heap.size, 0, none⟩) n n)) w') :
 wpList Tryz.prog ops Q (o :: rest) a w := by
 obtain ⟨i, hi, hz, hs, hb⟩ := info_u8
 refine wpList_make_full w hg l c 38 hop w.heap.size 5 i (.int .u8 0) 1 Tryz.underlying38 hi hz hs .i64 .i64 _ _ n hl hc rfl rfl (by rw [hb]; omega) (by unfold maxLen; omega) (Nat.le_refl _) fun w' h1 h2 => hK w' ?_ h2
 have h3 := Row.of_owns h1
 rw [Nat.mul_one, show (Value.int IntKind.u8 0).cells = #[.int .u8 0] from rfl, toList_madeCells_one] at h3
 rw [List.map_replicate]
 exact h3
end Go.Proofs.YtedmogacklbcmaaGreatDoor
namespace Go.Proofs.YtedmogacklbcmaaGreatDoor
open Go.RowKit
section
variable {P : Program} {fn : Func} {tmps : Array Value} {w : World}
theorem results_ct {p t : Tmp} {ty : TypeId} (hr : fn.results = #[.cell p ty, .tmp t]) {g : Nat} {t' : TypeId} {cs : List Value} {d : TypeDesc}
 (hp : tmps.getD p undef = .pointer (some ⟨g, 0, none⟩)) (h : Row w g cs t') (hu : P.underlying ty = some d) (hd : (match d with | .struct _ | .array _ _ => true | _ => false) = true) {n : Nat}
 (hi : (P.info? ty).map (·.size) = some n) (hn : cs.length = n) : (results fn tmps).run P w = .ok (.tuple #[.agg cs.toArray, tmps.getD t undef]) w := by
 have hp' : tmps[p]?.getD undef = .pointer (some ⟨g, 0, none⟩) := by simpa using hp
 simp [results, hr, hp', asAddr, run_loadVar_row w g t' ty cs.toArray (0, 0) d h hu hd (by rw [hi]; simp [hn])]
theorem results_tct {p t u : Tmp} {ty : TypeId} (hr : fn.results = #[.tmp u, .cell p ty, .tmp t]) {g : Nat} {t' : TypeId} {cs : List Value} {d : TypeDesc}
 (hp : tmps.getD p undef = .pointer (some ⟨g, 0, none⟩)) (h : Row w g cs t') (hu : P.underlying ty = some d) (hd : (match d with | .struct _ | .array _ _ => true | _ => false) = true) {n : Nat}
 (hi : (P.info? ty).map (·.size) = some n) (hn : cs.length = n) : (results fn tmps).run P w = .ok (.tuple #[tmps.getD u undef, .agg cs.toArray, tmps.getD t undef]) w := by
 have hp' : tmps[p]?.getD undef = .pointer (some ⟨g, 0, none⟩) := by simpa using hp
 simp [results, hr, hp', asAddr, run_loadVar_row w g t' ty cs.toArray (0, 0) d h hu hd (by rw [hi]; simp [hn])]
end
end Go.Proofs.YtedmogacklbcmaaGreatDoor
