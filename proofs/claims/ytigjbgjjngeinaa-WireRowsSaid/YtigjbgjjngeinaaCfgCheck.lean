/- config: Check. -/
import Derived.Test.YtigjbgjjngeinaaCfgMem
import Derived.Test.YtigjbgjjngeinaaCfgFind
import Derived.Test.YtigjbgjjngeinaaSubRow
namespace Go.Proofs.Ytigjbgjjngeinaa.Cfg
open Go.RowKit
def Opn.cs (o : Opn) : List Value := .int .i64 o.kind :: .int .u64 o.ref :: .int .i64 o.id :: (o.ky.map bv ++ [.int .u32 o.addr, .int .i64 o.bits])
def Opn.val (o : Opn) : Value := .agg o.cs.toArray
theorem Opn.len {o : Opn} (h : o.ky.length = 32) : o.cs.length = 37 := by simp [Opn.cs, h]
theorem Opn.one (o : Opn) : ∀ v ∈ o.cs, v.oneCell' = true := by
  intro v hv
  simp only [Opn.cs, List.mem_cons, List.mem_append, List.mem_map, List.not_mem_nil, or_false] at hv
  rcases hv with rfl | rfl | rfl | ⟨u, _, rfl⟩ | rfl | rfl <;> rfl
section
variable {P : Program}
theorem run_equalIn_ints (d : Nat) {t e : TypeId} {n : Nat} {k : IntKind} (hu : P.underlying t = some (.array n e)) (he : P.underlying e = some (.int k)) (hs : (P.info? e).map (·.size) = some 1) (xs ys : List Int) (hx : xs.length = n) (hy : ys.length = n) (w : World) :
    (Op.equalIn (d + 1 + 1) t (.agg (xs.map (Value.int k)).toArray) (.agg (ys.map (Value.int k)).toArray)).run P w = .ok (decide (xs = ys)) w := by
  have hinner : ∀ (x y : Int), (Op.equalIn (d + 1) e (.int k x) (.int k y)).run P w = .ok (x == y) w := by
    intro x y
    simp [Op.equalIn, run_underlying he w]
  generalize hE : Op.equalIn (d + 1) = E at hinner
  unfold Op.equalIn
  rw [hE]
  simp only [Sem.run_bind, run_underlying hu w, Result.andThen_ok]
  have hsz : (sizeOf e).run P w = .ok 1 w := by
    cases hq : P.info? e with
    | none => simp [hq] at hs
    | some i =>
      have h1 : i.size = 1 := by simpa [hq] using hs
      simp [sizeOf, typeInfo, hq, h1]
  have hagg : (isAgg e).run P w = .ok false w := by
    unfold isAgg
    rw [Sem.run_bind, run_underlying he w]
    rfl
  have hpart : ∀ (zs : List Int) (i : Nat) (z : Int), zs[i]? = some z → (part e (zs.map (Value.int k)).toArray (i * 1)).run P w = .ok (.int k z) w := by
    intro zs i z hz
    have : (zs.map (Value.int k)).toArray[i * 1]? = some (.int k z) := by rw [Nat.mul_one, List.getElem?_toArray, List.getElem?_map, hz]; rfl
    simp only [part, Sem.run_bind, hagg, Result.andThen_ok, Bool.false_eq_true, if_false, this, Sem.run_pure]
  rw [hsz]
  simp only [Result.andThen_ok]
  rw [Std.Legacy.Range.forIn_eq_forIn_range']
  have key : ∀ l : List Nat, (∀ i ∈ l, i < n) → (forIn (m := Sem) l ((none : Option Bool), ()) fun i __s => do
              let __do_lift ← part e (List.map (Value.int k) xs).toArray (i * 1)
              let __do_lift_1 ← part e (List.map (Value.int k) ys).toArray (i * 1)
              let __do_lift ← E e __do_lift __do_lift_1
              if (!__do_lift) = true then pure (ForInStep.done (some false, ())) else pure (ForInStep.yield (none, ()))).run P w = .ok (if (l.all fun i => xs[i]? == ys[i]?) = true then (none, ()) else (some false, ())) w := by
    intro l
    induction l with
    | nil => intro _; simp
    | cons i l ih =>
      intro hl
      have hi := hl i (List.mem_cons_self ..)
      obtain ⟨x, hx'⟩ : ∃ x, xs[i]? = some x := ⟨_, List.getElem?_eq_getElem (by omega)⟩
      obtain ⟨y, hy'⟩ : ∃ y, ys[i]? = some y := ⟨_, List.getElem?_eq_getElem (by omega)⟩
      rw [List.forIn_cons]
      simp only [Sem.run_bind, hpart _ _ _ hx', hpart _ _ _ hy', hinner, Result.andThen_ok]
      by_cases hxy : x = y
      · subst hxy
        simp only [beq_self_eq_true, Bool.not_true, Bool.false_eq_true, if_false, Sem.run_pure, Result.andThen_ok]
        rw [ih fun j hj => hl j (List.mem_cons_of_mem _ hj)]
        simp [hx', hy']
      · have hb : (x == y) = false := by simp [hxy]
        simp only [hb, Bool.not_false, if_true, Sem.run_pure, Result.andThen_ok]
        simp [hx', hy', hxy]
  rw [key _ (fun i hi => by simp [List.mem_range'] at hi; omega)]
  simp only [Result.andThen_ok]
  by_cases hxy : xs = ys
  · subst hxy
    simp
  · have : ¬ ((List.range' 0 n).all fun i => xs[i]? == ys[i]?) = true := by
      intro hall
      apply hxy
      apply List.ext_getElem?
      intro i
      by_cases hi : i < n
      · have := List.all_eq_true.1 hall i (by simp [List.mem_range']; omega)
        simpa using this
      · rw [List.getElem?_eq_none (by omega), List.getElem?_eq_none (by omega)]
    rw [if_neg (fun h => this (by simpa using h))]
    simp [hxy]
theorem part_one {t : TypeId} {d : TypeDesc} {cs : List Value} {i : Nat} {v : Value} (w : World) (hu : P.underlying t = some d) (hd : (match d with | .struct _ | .array _ _ => true | _ => false) = false) (hv : cs[i]? = some v) : (part t cs.toArray i).run P w = .ok v w := by
  have hagg : (isAgg t).run P w = .ok false w := by
    unfold isAgg
    rw [Sem.run_bind, run_underlying hu w]
    cases d <;> simp_all
  have hv' : cs.toArray[i]? = some v := by simpa using hv
  simp only [part, Sem.run_bind, hagg, Result.andThen_ok, Bool.false_eq_true, if_false, hv', Sem.run_pure]
theorem part_arr {t : TypeId} {d : TypeDesc} {cs : List Value} {i n : Nat} (w : World) (hu : P.underlying t = some d) (hd : (match d with | .struct _ | .array _ _ => true | _ => false) = true) (hs : (P.info? t).map (·.size) = some n) :
    (part t cs.toArray i).run P w = .ok (.agg ((cs.drop i).take n).toArray) w := by
  have hagg : (isAgg t).run P w = .ok true w := by
    unfold isAgg
    rw [Sem.run_bind, run_underlying hu w]
    cases d <;> simp_all
  have hsz : (sizeOf t).run P w = .ok n w := by
    cases hq : P.info? t with
    | none => simp [hq] at hs
    | some i =>
      have h1 : i.size = n := by simpa [hq] using hs
      simp [sizeOf, typeInfo, hq, h1]
  simp only [part, Sem.run_bind, hagg, Result.andThen_ok, if_true, hsz, Sem.run_pure]
  congr 2
  simp
end
theorem bytes_ints {x y : List UInt8} : (x.map fun u => (u.toNat : Int)) = (y.map fun u => (u.toNat : Int)) ↔ x = y := by
  constructor
  · intro h
    have hinj : Function.Injective (fun u : UInt8 => (u.toNat : Int)) := fun a b hab => UInt8.toNat.inj (by have : (a.toNat : Int) = (b.toNat : Int) := hab; omega)
    exact (List.map_inj_right (fun a b hab => hinj hab)).1 h
  · intro h; rw [h]
set_option maxRecDepth 100000 in
theorem eqIn_key (d : Nat) (x y : List UInt8) (hx : x.length = 32) (hy : y.length = 32) (w : World) : (Op.equalIn (d + 1 + 1) 27 (.agg (x.map bv).toArray) (.agg (y.map bv).toArray)).run Try.prog w = .ok (decide (x = y)) w := by
  have h := run_equalIn_ints (P := Try.prog) d Try.underlying27 Try.underlying5 (by kernel_rfl) (x.map fun u => (u.toNat : Int)) (y.map fun u => (u.toNat : Int)) (by simpa using hx) (by simpa using hy) w
  rw [List.map_map, List.map_map] at h
  rw [show decide (x = y) = decide ((x.map fun u => (u.toNat : Int)) = (y.map fun u => (u.toNat : Int))) from decide_eq_decide.2 bytes_ints.symm]
  exact h
theorem eqIn_int (d : Nat) {t : TypeId} {k : IntKind} (he : Try.prog.underlying t = some (.int k)) (a b : Int) (w : World) : (Op.equalIn (d + 1) t (.int k a) (.int k b)).run Try.prog w = .ok (a == b) w := by simp [Op.equalIn, run_underlying he w]
theorem eqIn_bool (d : Nat) {t : TypeId} (he : Try.prog.underlying t = some .bool) (a b : Bool) (w : World) : (Op.equalIn (d + 1) t (.bool a) (.bool b)).run Try.prog w = .ok (a == b) w := by simp [Op.equalIn, run_underlying he w]
set_option maxRecDepth 100000 in
set_option maxHeartbeats 1000000 in
theorem eq_rt (x y : Rt) (w : World) : (Op.equal 99 x.val y.val).run Try.prog w = .ok (decide (x = y)) w := by
  suffices hd : ∀ d, (Op.equalIn (d + 1 + 1 + 1) 99 (.agg x.cs.toArray) (.agg y.cs.toArray)).run Try.prog w = .ok (decide (x = y)) w from hd 9997
  intro d
  have hI := fun a b : Int => eqIn_int (d + 1) Try.underlying3 a b w
  have hU := fun a b : Int => eqIn_int (d + 1) Try.underlying28 a b w
  have p0 : ∀ r : Rt, (part 28 r.cs.toArray 0).run Try.prog w = .ok (.int .u32 r.addr) w := fun r => part_one w Try.underlying28 rfl rfl
  have p1 : ∀ r : Rt, (part 3 r.cs.toArray 1).run Try.prog w = .ok (.int .i64 r.bits) w := fun r => part_one w Try.underlying3 rfl rfl
  have p2 : ∀ r : Rt, (part 3 r.cs.toArray 2).run Try.prog w = .ok (.int .i64 r.peer) w := fun r => part_one w Try.underlying3 rfl rfl
  have hst : Try.prog.stoodInHeld 99 = false := by kernel_rfl
  have hp : (program : Sem Program).run Try.prog w = .ok Try.prog w := rfl
  replace hI : ∀ a b : Int, (Op.equalIn (d + 2) 3 (.int .i64 a) (.int .i64 b)).run Try.prog w = .ok (a == b) w := hI
  replace hU : ∀ a b : Int, (Op.equalIn (d + 2) 28 (.int .u32 a) (.int .u32 b)).run Try.prog w = .ok (a == b) w := hU
  unfold Op.equalIn
  simp only [Sem.run_bind, run_underlying Try.underlying99 w, Result.andThen_ok, hp, hst, Bool.false_eq_true, if_false]
  have hx : decide (x = y) = ((x.addr == y.addr) && ((x.bits == y.bits) && (x.peer == y.peer))) := by
    rw [Bool.eq_iff_iff]
    cases x; cases y
    simp
  rw [hx]
  cases h1 : x.addr == y.addr <;> cases h2 : x.bits == y.bits <;> cases h3 : x.peer == y.peer <;> simp [List.forIn_toArray, p0, p1, p2, hI, hU, h1, h2, h3, -beq_eq_false_iff_ne, -beq_iff_eq]
theorem for_fields {P : Program} (E : TypeId → Value → Value → Sem Bool) (xs ys : Array Value) (w : World) : ∀ (l : List Field) (bs : List Bool), l.length = bs.length →
    (∀ (j : Nat) (f : Field) (b : Bool), l[j]? = some f → bs[j]? = some b → f.name ≠ "_" ∧ ∃ u v, (part f.type xs f.offset).run P w = .ok u w ∧ (part f.type ys f.offset).run P w = .ok v w ∧ (E f.type u v).run P w = .ok b w) →
    (forIn (m := Sem) l ((none : Option Bool), ()) fun f __s =>
                    if f.name ≠ "_" then do
                      let __do_lift ← part f.type xs f.offset
                      let __do_lift_1 ← part f.type ys f.offset
                      let __do_lift ← E f.type __do_lift __do_lift_1
                      if (!__do_lift) = true then pure (ForInStep.done (some false, ()))
                        else pure (ForInStep.yield (none, ()))
                    else pure (ForInStep.yield (none, ()))).run P w = .ok (if bs.all id = true then (none, ()) else (some false, ())) w
  | [], [], _, _ => by simp
  | f :: l, b :: bs, hl, h => by
    obtain ⟨h1, u, v, h2, h3, h4⟩ := h 0 f b rfl rfl
    have ih := for_fields E xs ys w l bs (by simpa using hl) fun j f' b' hf hb => h (j + 1) f' b' (by simpa using hf) (by simpa using hb)
    rw [List.forIn_cons]
    simp only [h1, ne_eq, not_false_eq_true, if_true, Sem.run_bind, h2, h3, h4, Result.andThen_ok]
    cases b with
    | true =>
      simp only [Bool.not_true, Bool.false_eq_true, if_false, Sem.run_pure, Result.andThen_ok]
      rw [ih]
      simp
    | false => simp
set_option maxRecDepth 100000 in
set_option maxHeartbeats 1000000 in
theorem eq_mb (x y : Mb) (hkx : x.ky.length = 32) (hky : y.ky.length = 32) (w : World) : (Op.equal 96 x.val y.val).run Try.prog w = .ok (decide (x = y)) w := by
  suffices hd : ∀ d, (Op.equalIn (d + 1 + 1 + 1) 96 (.agg x.cs.toArray) (.agg y.cs.toArray)).run Try.prog w = .ok (decide (x = y)) w from hd 9997
  intro d
  have p0 : ∀ r : Mb, (part 3 r.cs.toArray 0).run Try.prog w = .ok (.int .i64 r.id) w := fun r => part_one w Try.underlying3 rfl rfl
  have p1 : ∀ r : Mb, r.ky.length = 32 → (part 27 r.cs.toArray 1).run Try.prog w = .ok (.agg (r.ky.map bv).toArray) w := fun r hr => by
    rw [part_arr w Try.underlying27 rfl (show (Try.prog.info? 27).map (·.size) = some 32 by kernel_rfl)]
    congr 3
    show (r.ky.map bv ++ [Value.bool r.off]).take 32 = _
    rw [List.take_left' (by rw [List.length_map, hr])]
  have p2 : ∀ r : Mb, r.ky.length = 32 → (part 4 r.cs.toArray 33).run Try.prog w = .ok (.bool r.off) w := fun r hr => part_one w Try.underlying4 rfl (by
    show (r.ky.map bv ++ [Value.bool r.off])[32]? = _
    rw [List.getElem?_append_right (by rw [List.length_map, hr]; omega), List.length_map, hr]; rfl)
  have hst : Try.prog.stoodInHeld 96 = false := by kernel_rfl
  have hp : (program : Sem Program).run Try.prog w = .ok Try.prog w := rfl
  unfold Op.equalIn
  simp only [Sem.run_bind, run_underlying Try.underlying96 w, Result.andThen_ok, hp, hst, Bool.false_eq_true, if_false, List.forIn_toArray]
  have hx : decide (x = y) = [x.id == y.id, decide (x.ky = y.ky), x.off == y.off].all id := by
    rw [Bool.eq_iff_iff]
    cases x; cases y
    simp
  rw [hx, for_fields (Op.equalIn (d + 2)) _ _ w _ [x.id == y.id, decide (x.ky = y.ky), x.off == y.off] rfl (fun j f b hf hb => by
    match j, hf, hb with
    | 0, hf, hb => cases hf; cases hb; exact ⟨by decide, _, _, p0 x, p0 y, eqIn_int (d + 1) Try.underlying3 _ _ w⟩
    | 1, hf, hb => cases hf; cases hb; exact ⟨by decide, _, _, p1 x hkx, p1 y hky, eqIn_key d _ _ hkx hky w⟩
    | 2, hf, hb => cases hf; cases hb; exact ⟨by decide, _, _, p2 x hkx, p2 y hky, eqIn_bool (d + 1) Try.underlying4 _ _ w⟩
    | n + 3, hf, _ => simp at hf)]
  generalize [x.id == y.id, decide (x.ky = y.ky), x.off == y.off].all id = q
  cases q <;> simp
set_option maxRecDepth 100000 in
set_option maxHeartbeats 1000000 in
theorem eq_op (x y : Opn) (hkx : x.ky.length = 32) (hky : y.ky.length = 32) (w : World) : (Op.equal 30 x.val y.val).run Try.prog w = .ok (decide (x = y)) w := by
  suffices hd : ∀ d, (Op.equalIn (d + 1 + 1 + 1) 30 (.agg x.cs.toArray) (.agg y.cs.toArray)).run Try.prog w = .ok (decide (x = y)) w from hd 9997
  intro d
  have p0 : ∀ r : Opn, (part 3 r.cs.toArray 0).run Try.prog w = .ok (.int .i64 r.kind) w := fun r => part_one w Try.underlying3 rfl rfl
  have p1 : ∀ r : Opn, (part 26 r.cs.toArray 1).run Try.prog w = .ok (.int .u64 r.ref) w := fun r => part_one w Try.underlying26 rfl rfl
  have p2 : ∀ r : Opn, (part 3 r.cs.toArray 2).run Try.prog w = .ok (.int .i64 r.id) w := fun r => part_one w Try.underlying3 rfl rfl
  have p3 : ∀ r : Opn, r.ky.length = 32 → (part 27 r.cs.toArray 3).run Try.prog w = .ok (.agg (r.ky.map bv).toArray) w := fun r hr => by
    rw [part_arr w Try.underlying27 rfl (show (Try.prog.info? 27).map (·.size) = some 32 by kernel_rfl)]
    congr 3
    show (r.ky.map bv ++ _).take 32 = _
    rw [List.take_left' (by rw [List.length_map, hr])]
  have p4 : ∀ r : Opn, r.ky.length = 32 → (part 28 r.cs.toArray 35).run Try.prog w = .ok (.int .u32 r.addr) w := fun r hr => part_one w Try.underlying28 rfl (by
    show (r.ky.map bv ++ [Value.int .u32 r.addr, Value.int .i64 r.bits])[32]? = _
    rw [List.getElem?_append_right (by rw [List.length_map, hr]; omega), List.length_map, hr]; rfl)
  have p5 : ∀ r : Opn, r.ky.length = 32 → (part 3 r.cs.toArray 36).run Try.prog w = .ok (.int .i64 r.bits) w := fun r hr => part_one w Try.underlying3 rfl (by
    show (r.ky.map bv ++ [Value.int .u32 r.addr, Value.int .i64 r.bits])[33]? = _
    rw [List.getElem?_append_right (by rw [List.length_map, hr]; omega), List.length_map, hr]; rfl)
  have hst : Try.prog.stoodInHeld 30 = false := by kernel_rfl
  have hp : (program : Sem Program).run Try.prog w = .ok Try.prog w := rfl
  unfold Op.equalIn
  simp only [Sem.run_bind, run_underlying Try.underlying30 w, Result.andThen_ok, hp, hst, Bool.false_eq_true, if_false, List.forIn_toArray]
  have hx : decide (x = y) = [x.kind == y.kind, x.ref == y.ref, x.id == y.id, decide (x.ky = y.ky), x.addr == y.addr, x.bits == y.bits].all id := by
    rw [Bool.eq_iff_iff]
    cases x; cases y
    simp
  rw [hx, for_fields (Op.equalIn (d + 2)) _ _ w _ [x.kind == y.kind, x.ref == y.ref, x.id == y.id, decide (x.ky = y.ky), x.addr == y.addr, x.bits == y.bits] rfl (fun j f b hf hb => by
    match j, hf, hb with
    | 0, hf, hb => cases hf; cases hb; exact ⟨by decide, _, _, p0 x, p0 y, eqIn_int (d + 1) Try.underlying3 _ _ w⟩
    | 1, hf, hb => cases hf; cases hb; exact ⟨by decide, _, _, p1 x, p1 y, eqIn_int (d + 1) Try.underlying26 _ _ w⟩
    | 2, hf, hb => cases hf; cases hb; exact ⟨by decide, _, _, p2 x, p2 y, eqIn_int (d + 1) Try.underlying3 _ _ w⟩
    | 3, hf, hb => cases hf; cases hb; exact ⟨by decide, _, _, p3 x hkx, p3 y hky, eqIn_key d _ _ hkx hky w⟩
    | 4, hf, hb => cases hf; cases hb; exact ⟨by decide, _, _, p4 x hkx, p4 y hky, eqIn_int (d + 1) Try.underlying28 _ _ w⟩
    | 5, hf, hb => cases hf; cases hb; exact ⟨by decide, _, _, p5 x hkx, p5 y hky, eqIn_int (d + 1) Try.underlying3 _ _ w⟩
    | n + 6, hf, _ => simp at hf)]
  generalize [x.kind == y.kind, x.ref == y.ref, x.id == y.id, decide (x.ky = y.ky), x.addr == y.addr, x.bits == y.bits].all id = q
  cases q <;> simp
/-- As operations of a walk. -/
theorem guard_of {t : TypeId} (hg : Try.prog.eqGuardType Try.prog.depth t = false) (op : BinOp) (u v : Operand) (xs ys : Array Value) (w : World) : (eqGuard op t u v (.agg xs) (.agg ys)).run Try.prog w = .ok () w := by
  cases op <;> simp [eqGuard, Sem.run_bind, hg]
theorem neq_of {t : TypeId} {xs ys : Array Value} {r : Bool} {w : World} (h : (Op.equal t (.agg xs) (.agg ys)).run Try.prog w = .ok r w) : (binOp .neq t (.agg xs) (.agg ys)).run Try.prog w = .ok (.bool (!r)) w := by simp [binOp, h]
theorem eql_of {t : TypeId} {xs ys : Array Value} {r : Bool} {w : World} (h : (Op.equal t (.agg xs) (.agg ys)).run Try.prog w = .ok r w) : (binOp .eql t (.agg xs) (.agg ys)).run Try.prog w = .ok (.bool r) w := by simp [binOp, h]
set_option maxRecDepth 100000 in
theorem g_mb : Try.prog.eqGuardType Try.prog.depth 96 = false := by kernel_rfl
set_option maxRecDepth 100000 in
theorem g_rt : Try.prog.eqGuardType Try.prog.depth 99 = false := by kernel_rfl
set_option maxRecDepth 100000 in
theorem g_op : Try.prog.eqGuardType Try.prog.depth 30 = false := by kernel_rfl
end Go.Proofs.Ytigjbgjjngeinaa.Cfg
namespace Go.Proofs.Ytigjbgjjngeinaa.Cfg
open Go.RowKit
instance (c : Cf) : Decidable (Val c) := by unfold Val Ord; infer_instance
def checkZ (c : Cf) : Int := if Val c then 0 else 2
/-- A configuration as an argument. -/
structure CAt (w : World) (B : Nat) (vp vr : Value) (c : Cf) : Prop where
  ps : MTab w B vp c.ps
  rs : RTab w B vr c.rs
theorem CAt.below {w w' : World} {B : Nat} {vp vr : Value} {c : Cf} (h : CAt w B vp vr c) (hb : Below B w w') : CAt w' B vp vr c := ⟨h.1.below hb, h.2.below hb⟩
theorem CAt.more {w : World} {B B' : Nat} {vp vr : Value} {c : Cf} (h : CAt w B vp vr c) (hB : B ≤ B') : CAt w B' vp vr c := ⟨h.1.more hB, h.2.more hB⟩
theorem CAt.shape {w : World} {B : Nat} {vp vr : Value} {c : Cf} (h : CAt w B vp vr c) : ∃ A1 n1 A2 n2, vp = .slice A1 c.ps.length n1 ∧ vr = .slice A2 c.rs.length n2 := by
  obtain ⟨A1, n1, e1, _⟩ := h.1.2.shape
  obtain ⟨A2, n2, e2, _⟩ := (show Tab 3 w B vr c.rs.length (rcs c.rs) from h.2).shape
  exact ⟨A1, n1, A2, n2, e1, e2⟩
theorem ord_snoc {α : Type} {key : α → Ky} {l : List α} {i : Nat} {x : α} (hx : l[i]? = some x) (h : Ord key (l.take i)) (hy : ∀ y, i ≠ 0 → l[i - 1]? = some y → klt (key y) (key x)) : Ord key (l.take (i + 1)) := by
  rw [List.take_add_one, hx]
  show Ord key (l.take i ++ [x])
  cases i with
  | zero => simp [Ord]
  | succ j =>
    have hlt := (List.getElem?_eq_some_iff.1 hx).1
    have hj : l[j]? = some l[j] := List.getElem?_eq_getElem (by omega)
    have := hy l[j] (by omega) (by simp)
    rw [List.take_add_one, hj] at h ⊢
    exact Ord.snoc h this
theorem not_ord {α : Type} {key : α → Ky} {l : List α} {i : Nat} {x y : α} (hx : l[i + 1]? = some x) (hy : l[i]? = some y) (h : ¬ klt (key y) (key x)) : ¬ Ord key l := by
  intro ho
  have h1 := List.getElem?_eq_some_iff.1 hx
  have h2 := List.getElem?_eq_some_iff.1 hy
  have := List.pairwise_iff_getElem.1 ho i (i + 1) h2.1 h1.1 (by omega)
  rw [h1.2, h2.2] at this
  exact h this
theorem wrap_small {j : Nat} (h : (j : Int) ≤ 1000000) : IntKind.i64.wrap (j : Int) = (j : Int) := by
  rw [IntKind.wrap_i64]
  omega
set_option maxRecDepth 100000 in
theorem zero_mb : (Try.prog.info? 96).bind (·.zero) = some (.agg (Mb.cs ⟨0, zkey, false⟩).toArray) := by kernel_rfl
set_option maxRecDepth 100000 in
theorem zero_rt : (Try.prog.info? 99).bind (·.zero) = some (.agg (Rt.cs ⟨0, 0, 0⟩).toArray) := by kernel_rfl
set_option maxRecDepth 100000 in
set_option maxHeartbeats 1500000 in
theorem Check_any {w : World} {B : Nat} {vp vr : Value} {c : Cf} (h : CAt w B vp vr c) (hB : B ≤ w.heap.size) : Calls Try.prog 40 #[.agg #[vp, vr]] w fun e w' => e = .returned (.int .i64 (checkZ c)) ∧ Below w.heap.size w w' := by
  obtain ⟨A1, n1, A2, n2, rfl, rfl⟩ := h.shape
  obtain ⟨z, hz⟩ : ∃ z, checkZ c = z := ⟨_, rfl⟩
  rw [hz]
  have Hz := Lib.hid hz
  have HC := Lib.hid h
  have HBw := Lib.hid hB
  clear h hz hB
  by_cases h1 : 64 < c.ps.length
  · have h1' : (64 : Int) < (c.ps.length : Int) := by omega
    obtain rfl : z = 2 := by rw [← Hz.out]; exact if_neg (fun hv => by have := hv.1; omega)
    go_enter Try.func40, Try.ntmps40
    go_wp2
    go_ret
    exact ⟨rfl, (Below.refl _ w).alloc (Nat.le_refl _) _⟩
  by_cases h2 : 256 < c.rs.length
  · have h1' : ¬ (64 : Int) < (c.ps.length : Int) := by omega
    have h2' : (256 : Int) < (c.rs.length : Int) := by omega
    obtain rfl : z = 2 := by rw [← Hz.out]; exact if_neg (fun hv => by have := hv.2.1; omega)
    go_enter Try.func40, Try.ntmps40
    go_wp2
    go_ret
    exact ⟨rfl, (Below.refl _ w).alloc (Nat.le_refl _) _⟩
  have h1' : ¬ (64 : Int) < (c.ps.length : Int) := by omega
  have h2' : ¬ (256 : Int) < (c.rs.length : Int) := by omega
  have HN1 := Lib.hid (show c.ps.length ≤ 64 by omega)
  have HN2 := Lib.hid (show c.rs.length ≤ 256 by omega)
  clear h1 h2
  obtain ⟨W0, hW0⟩ : ∃ W0, w.alloc (.cells #[.slice A1 c.ps.length n1, .slice A2 c.rs.length n2] 25) = W0 := ⟨_, rfl⟩
  have hr0 : Row W0 w.heap.size [.slice A1 c.ps.length n1, .slice A2 c.rs.length n2] 25 := hW0 ▸ Row.new rfl rfl
  have HB0 := Lib.hid (show Below w.heap.size w W0 from hW0 ▸ (Below.refl _ w).alloc (Nat.le_refl _) _)
  have FP := Lib.hid (fun w' (h : Below W0.heap.size W0 w') => (h.cell (p := ⟨w.heap.size, 0, none⟩) hr0.lt).trans (hr0.cell rfl))
  have FR := Lib.hid (fun w' (h : Below W0.heap.size W0 w') => (h.cell (p := ⟨w.heap.size, 1, none⟩) hr0.lt).trans (hr0.cell rfl))
  have c0 := FP.out W0 (Below.refl _ _)
  have c1 := FR.out W0 (Below.refl _ _)
  have FCF := Lib.hid (fun w' (h : Below W0.heap.size W0 w') => show (loadVar 25 ⟨w.heap.size, 0, none⟩).run Try.prog w' = .ok (.agg #[.slice A1 c.ps.length n1, .slice A2 c.rs.length n2]) w' from Pol.run_loadVar_sub (P := Try.prog) (off := 0) (n := 2) w' (hr0.below h hr0.lt) Try.underlying25 rfl (by kernel_rfl) (by simp))
  clear hr0
  go_enter Try.func40, Try.ntmps40
  go_wp2_with fail
  clear hW0 c0 c1
  go_loopw [22] (fun iv wr => ∃ i : Nat, i ≤ c.ps.length ∧ iv = .int .i64 (i : Int) ∧ Below W0.heap.size W0 wr ∧ Hid ((∀ t m, t < i → c.ps[t]? = some m → isIDB m.id = true) ∧ Ord Mb.key (c.ps.take i))) (fun iv _ => c.ps.length - (intOf iv).toNat)
  case atStart => exact ⟨0, Nat.zero_le _, rfl, Below.refl _ _, Lib.hid ⟨fun t m ht => absurd ht (Nat.not_lt_zero _), by simp [Ord]⟩⟩
  case round =>
    obtain ⟨i, hi, rfl, hb, I⟩ := hrel
    have HB := Lib.hid hb
    clear hb
    have hN := HN1.out
    have hi2 : (i : Int) ≤ 64 := by omega
    clear hN
    by_cases hlt : i < c.ps.length
    · have hlt' : (i : Int) < (c.ps.length : Int) := by omega
      obtain ⟨m, hm⟩ : ∃ m, c.ps[i]? = some m := ⟨_, List.getElem?_eq_getElem hlt⟩
      have HM := Lib.hid hm
      have hB1 : Hid (Below w.heap.size w wr) := Lib.hid (HB0.out.trans (HB.out.mono HB0.out.size))
      have FM := Lib.hid (fun (t : Nat) (y : Mb) (hy : c.ps[t]? = some y) w' (h : Below wr.heap.size wr w') => (HC.out.ps.below ((hB1.out.trans (h.mono hB1.out.size)).mono HBw.out)).at hy)
      obtain ⟨b0, off, e, _, _, _⟩ := FM.out i m hm wr (Below.refl _ _)
      subst e
      have FL := Lib.hid (fun (t : Nat) (y : Mb) (hy : c.ps[t]? = some y) w' (h : Below wr.heap.size wr w') => by
        obtain ⟨b', off', e, _, _, hl⟩ := FM.out t y hy w' h
        cases e
        exact hl)
      have hld := Lib.hid (FL.out i m hm wr (Below.refl _ _))
      have hk := Lib.hid (HC.out.ps.1 m (List.mem_of_getElem? hm))
      clear FM hm
      go_wp2_with (first
        | (refine QB.wpList_ld 96 rfl rfl hld.out rfl ?_)
        | (refine QB.wpList_alloc rfl 96 rfl zero_mb ?_; intro W1 hr1 hb1; have HR1 := Lib.hid (show Row W1 wr.heap.size (Mb.cs ⟨0, zkey, false⟩) 96 from hr1); have HB1 := Lib.hid hb1; clear hr1 hb1)
        | (refine wpList_storeRow rfl 96 (.tmp 4) (.tmp 26) rfl rfl (cs := m.cs) rfl HR1.out (by kernel_rfl) (Mb.len hk.out) (Mb.len rfl) m.one ?_)
        | fail)
      refine QB.code_name fun W hW => ?_
      have hRW : Row W wr.heap.size m.cs 96 := hW ▸ HR1.out.setRow m.cs
      have HBW2 := Lib.hid (show Below wr.heap.size wr W from hW ▸ below_setRow HB1.out (Nat.le_refl _) _)
      have HBW := Lib.hid (show Below w.heap.size w W from nextB hB1.out (Nat.le_refl _) HBW2.out)
      have FX0 := Lib.hid (fun w' (h : Below W.heap.size W w') => (h.cell (p := ⟨wr.heap.size, 0, none⟩) hRW.lt).trans (hRW.cell rfl))
      have FS := Lib.hid (fun w' (h : Below W.heap.size W w') => FP.out w' ((HB.out.trans (HBW2.out.mono HB.out.size)).trans (h.mono (by have := HB.out.size; have := HBW2.out.size; omega))))
      clear hW hRW HR1 HB1
      cases hI : isIDB m.id with
      | false =>
        obtain rfl : z = 2 := by rw [← Hz.out]; exact if_neg (fun hv => by have := hv.2.2.1 m (List.mem_of_getElem? HM.out); rw [hI] at this; cases this)
        have HI := Lib.hid hI
        clear hI
        refine QB.region' mixed (by kernel_rfl) ?_
        refine QB.val' (v := ?_) (a' := ?_) (by kernel_rfl) (fun w' hw' => ?_) ?_ ?_
        rotate_left 2
        · have cx0 := FX0.out w' hw'; have cp := FS.out w' hw'; go_simp <;> rfl
        · simp only [Act.put, List.setIfInBounds_toArray, List.set_cons_succ, List.set_cons_zero]; rfl
        refine QB.val' (v := ?_) (a' := ?_) (by kernel_rfl) (fun w' hw' => ?_) ?_ ?_
        rotate_left 2
        · have cx0 := FX0.out w' hw'; have cp := FS.out w' hw'; go_simp <;> rfl
        · simp only [Act.put, List.setIfInBounds_toArray, List.set_cons_succ, List.set_cons_zero]; rfl
        refine QB.call' (f := 90) (args := #[.int .i64 m.id]) (v := .bool false) (a' := ?_) (by kernel_rfl) (fun w' hw' => ?_) (fun w' hw' => (isID_any m.id w').mono fun _ _ ⟨h1, h2⟩ => ⟨h1.trans (by rw [HI.out]), h2 ▸ hw'⟩) ?_ ?_
        rotate_left
        · have cx0 := FX0.out w' hw'; go_simp <;> rfl
        · simp only [Act.put, List.setIfInBounds_toArray, List.set_cons_succ, List.set_cons_zero]; rfl
        refine QB.val' (v := ?_) (a' := ?_) (by kernel_rfl) (fun w' hw' => ?_) ?_ ?_
        rotate_left 2
        · have cx0 := FX0.out w' hw'; have cp := FS.out w' hw'; go_simp <;> rfl
        · simp only [Act.put, List.setIfInBounds_toArray, List.set_cons_succ, List.set_cons_zero]; rfl
        refine QB.val' (v := ?_) (a' := ?_) (by kernel_rfl) (fun w' hw' => ?_) ?_ ?_
        rotate_left 2
        · have cx0 := FX0.out w' hw'; have cp := FS.out w' hw'; go_simp <;> rfl
        · simp only [Act.put, List.setIfInBounds_toArray, List.set_cons_succ, List.set_cons_zero]; rfl
        refine QB.no' (a' := ?_) (by kernel_rfl) ?_ ?_
        rotate_left
        · simp only [Act.put, List.setIfInBounds_toArray, List.set_cons_succ, List.set_cons_zero]; rfl
        refine QB.no' (a' := ?_) (by kernel_rfl) ?_ ?_
        rotate_left
        · simp only [Act.put, List.setIfInBounds_toArray, List.set_cons_succ, List.set_cons_zero]; rfl
        refine QB.no' (a' := ?_) (by kernel_rfl) ?_ ?_
        rotate_left
        · simp only [Act.put, List.setIfInBounds_toArray, List.set_cons_succ, List.set_cons_zero]; rfl
        refine QB.no' (a' := ?_) (by kernel_rfl) ?_ ?_
        rotate_left
        · simp only [Act.put, List.setIfInBounds_toArray, List.set_cons_succ, List.set_cons_zero]; rfl
        refine QB.no' (a' := ?_) (by kernel_rfl) ?_ ?_
        rotate_left
        · simp only [Act.put, List.setIfInBounds_toArray, List.set_cons_succ, List.set_cons_zero]; rfl
        refine QB.no' (a' := ?_) (by kernel_rfl) ?_ ?_
        rotate_left
        · simp only [Act.put, List.setIfInBounds_toArray, List.set_cons_succ, List.set_cons_zero]; rfl
        refine QB.no' (a' := ?_) (by kernel_rfl) ?_ ?_
        rotate_left
        · simp only [Act.put, List.setIfInBounds_toArray, List.set_cons_succ, List.set_cons_zero]; rfl
        refine QB.no' (a' := ?_) (by kernel_rfl) ?_ ?_
        rotate_left
        · simp only [Act.put, List.setIfInBounds_toArray, List.set_cons_succ, List.set_cons_zero]; rfl
        refine QB.no' (a' := ?_) (by kernel_rfl) ?_ ?_
        rotate_left
        · simp only [Act.put, List.setIfInBounds_toArray, List.set_cons_succ, List.set_cons_zero]; rfl
        refine QB.no' (a' := ?_) (by kernel_rfl) ?_ ?_
        rotate_left
        · simp only [Act.put, List.setIfInBounds_toArray, List.set_cons_succ, List.set_cons_zero]; rfl
        refine QB.no' (a' := ?_) (by kernel_rfl) ?_ ?_
        rotate_left
        · simp only [Act.put, List.setIfInBounds_toArray, List.set_cons_succ, List.set_cons_zero]; rfl
        refine QB.no' (a' := ?_) (by kernel_rfl) ?_ ?_
        rotate_left
        · simp only [Act.put, List.setIfInBounds_toArray, List.set_cons_succ, List.set_cons_zero]; rfl
        refine QB.no' (a' := ?_) (by kernel_rfl) ?_ ?_
        rotate_left
        · simp only [Act.put, List.setIfInBounds_toArray, List.set_cons_succ, List.set_cons_zero]; rfl
        refine QB.no' (a' := ?_) (by kernel_rfl) ?_ ?_
        rotate_left
        · simp only [Act.put, List.setIfInBounds_toArray, List.set_cons_succ, List.set_cons_zero]; rfl
        refine QB.val' (v := ?_) (a' := ?_) (by kernel_rfl) (fun w' hw' => ?_) ?_ ?_
        rotate_left 2
        · have cx0 := FX0.out w' hw'; have cp := FS.out w' hw'; go_simp <;> rfl
        · simp only [Act.put, List.setIfInBounds_toArray, List.set_cons_succ, List.set_cons_zero]; rfl
        refine QB.nil' fun w' hw' => ?_
        have HW := Lib.hid hw'
        clear hw'
        go_wp2
        go_ret
        exact ⟨rfl, nextB HBW.out (Nat.le_refl _) HW.out⟩
      | true =>
        have HI := Lib.hid hI
        clear hI
        cases i with
        | zero =>
          refine QB.region' mixed (by kernel_rfl) ?_
          refine QB.val' (v := ?_) (a' := ?_) (by kernel_rfl) (fun w' hw' => ?_) ?_ ?_
          rotate_left 2
          · have cx0 := FX0.out w' hw'; have cp := FS.out w' hw'; go_simp <;> rfl
          · simp only [Act.put, List.setIfInBounds_toArray, List.set_cons_succ, List.set_cons_zero]; rfl
          refine QB.val' (v := ?_) (a' := ?_) (by kernel_rfl) (fun w' hw' => ?_) ?_ ?_
          rotate_left 2
          · have cx0 := FX0.out w' hw'; have cp := FS.out w' hw'; go_simp <;> rfl
          · simp only [Act.put, List.setIfInBounds_toArray, List.set_cons_succ, List.set_cons_zero]; rfl
          refine QB.call' (f := 90) (args := #[.int .i64 m.id]) (v := .bool true) (a' := ?_) (by kernel_rfl) (fun w' hw' => ?_) (fun w' hw' => (isID_any m.id w').mono fun _ _ ⟨h1, h2⟩ => ⟨h1.trans (by rw [HI.out]), h2 ▸ hw'⟩) ?_ ?_
          rotate_left
          · have cx0 := FX0.out w' hw'; go_simp <;> rfl
          · simp only [Act.put, List.setIfInBounds_toArray, List.set_cons_succ, List.set_cons_zero]; rfl
          refine QB.val' (v := ?_) (a' := ?_) (by kernel_rfl) (fun w' hw' => ?_) ?_ ?_
          rotate_left 2
          · have cx0 := FX0.out w' hw'; have cp := FS.out w' hw'; go_simp <;> rfl
          · simp only [Act.put, List.setIfInBounds_toArray, List.set_cons_succ, List.set_cons_zero]; rfl
          refine QB.val' (v := ?_) (a' := ?_) (by kernel_rfl) (fun w' hw' => ?_) ?_ ?_
          rotate_left 2
          · have cx0 := FX0.out w' hw'; have cp := FS.out w' hw'; go_simp <;> rfl
          · simp only [Act.put, List.setIfInBounds_toArray, List.set_cons_succ, List.set_cons_zero]; rfl
          refine QB.val' (v := ?_) (a' := ?_) (by kernel_rfl) (fun w' hw' => ?_) ?_ ?_
          rotate_left 2
          · have cx0 := FX0.out w' hw'; have cp := FS.out w' hw'; go_simp <;> rfl
          · simp only [Act.put, List.setIfInBounds_toArray, List.set_cons_succ, List.set_cons_zero]; rfl
          refine QB.val' (v := ?_) (a' := ?_) (by kernel_rfl) (fun w' hw' => ?_) ?_ ?_
          rotate_left 2
          · have cx0 := FX0.out w' hw'; have cp := FS.out w' hw'; go_simp <;> rfl
          · simp only [Act.put, List.setIfInBounds_toArray, List.set_cons_succ, List.set_cons_zero]; rfl
          refine QB.val' (v := ?_) (a' := ?_) (by kernel_rfl) (fun w' hw' => ?_) ?_ ?_
          rotate_left 2
          · have cx0 := FX0.out w' hw'; have cp := FS.out w' hw'; go_simp <;> rfl
          · simp only [Act.put, List.setIfInBounds_toArray, List.set_cons_succ, List.set_cons_zero]; rfl
          refine QB.no' (a' := ?_) (by kernel_rfl) ?_ ?_
          rotate_left
          · simp only [Act.put, List.setIfInBounds_toArray, List.set_cons_succ, List.set_cons_zero]; rfl
          refine QB.no' (a' := ?_) (by kernel_rfl) ?_ ?_
          rotate_left
          · simp only [Act.put, List.setIfInBounds_toArray, List.set_cons_succ, List.set_cons_zero]; rfl
          refine QB.no' (a' := ?_) (by kernel_rfl) ?_ ?_
          rotate_left
          · simp only [Act.put, List.setIfInBounds_toArray, List.set_cons_succ, List.set_cons_zero]; rfl
          refine QB.no' (a' := ?_) (by kernel_rfl) ?_ ?_
          rotate_left
          · simp only [Act.put, List.setIfInBounds_toArray, List.set_cons_succ, List.set_cons_zero]; rfl
          refine QB.no' (a' := ?_) (by kernel_rfl) ?_ ?_
          rotate_left
          · simp only [Act.put, List.setIfInBounds_toArray, List.set_cons_succ, List.set_cons_zero]; rfl
          refine QB.no' (a' := ?_) (by kernel_rfl) ?_ ?_
          rotate_left
          · simp only [Act.put, List.setIfInBounds_toArray, List.set_cons_succ, List.set_cons_zero]; rfl
          refine QB.no' (a' := ?_) (by kernel_rfl) ?_ ?_
          rotate_left
          · simp only [Act.put, List.setIfInBounds_toArray, List.set_cons_succ, List.set_cons_zero]; rfl
          refine QB.no' (a' := ?_) (by kernel_rfl) ?_ ?_
          rotate_left
          · simp only [Act.put, List.setIfInBounds_toArray, List.set_cons_succ, List.set_cons_zero]; rfl
          refine QB.no' (a' := ?_) (by kernel_rfl) ?_ ?_
          rotate_left
          · simp only [Act.put, List.setIfInBounds_toArray, List.set_cons_succ, List.set_cons_zero]; rfl
          refine QB.no' (a' := ?_) (by kernel_rfl) ?_ ?_
          rotate_left
          · simp only [Act.put, List.setIfInBounds_toArray, List.set_cons_succ, List.set_cons_zero]; rfl
          refine QB.val' (v := ?_) (a' := ?_) (by kernel_rfl) (fun w' hw' => ?_) ?_ ?_
          rotate_left 2
          · have cx0 := FX0.out w' hw'; have cp := FS.out w' hw'; go_simp <;> rfl
          · simp only [Act.put, List.setIfInBounds_toArray, List.set_cons_succ, List.set_cons_zero]; rfl
          refine QB.val' (v := ?_) (a' := ?_) (by kernel_rfl) (fun w' hw' => ?_) ?_ ?_
          rotate_left 2
          · have cx0 := FX0.out w' hw'; have cp := FS.out w' hw'; go_simp <;> rfl
          · simp only [Act.put, List.setIfInBounds_toArray, List.set_cons_succ, List.set_cons_zero]; rfl
          refine QB.nil' fun w' hw' => ?_
          have HW := Lib.hid hw'
          clear hw'
          go_wp2
          go_roundw
          case rel =>
            refine ⟨1, by omega, by simp, (HB.out.trans (HBW2.out.mono HB.out.size)).trans (HW.out.mono (by have := HB.out.size; have := HBW2.out.size; omega)), Lib.hid ⟨?_, ?_⟩⟩
            · intro t m' ht' hm'
              rcases Nat.lt_or_ge t 0 with h | h
              · exact I.out.1 t m' h hm'
              · obtain rfl : t = 0 := by omega
                rw [HM.out] at hm'
                cases hm'
                exact HI.out
            · exact ord_snoc HM.out I.out.2 (fun y h => absurd rfl h)
          case measure => simp [intOf]; omega
        | succ j =>
          obtain ⟨y, hy⟩ : ∃ y, c.ps[j]? = some y := ⟨_, List.getElem?_eq_getElem (by omega)⟩
          have HY := Lib.hid hy
          have FY := Lib.hid (fun w' (h : Below W.heap.size W w') => FL.out j y HY.out w' (HBW2.out.trans (h.mono HBW2.out.size)))
          have hj1 : (0 : Int) < (j : Int) + 1 := by omega
          have hj2 : (j : Int) ≤ 64 := by omega
          have hj4 : IntKind.i64.wrap (j : Int) = (j : Int) := wrap_small (by omega)
          have hj3 : (j : Int) < (c.ps.length : Int) := by omega
          clear hy
          cases hZ : decide (0 ≤ cmpZ y.id m.id) with
          | true =>
            have HK := Lib.hid ((m_lt y m.id).1 (of_decide_eq_true hZ))
            obtain rfl : z = 2 := by rw [← Hz.out]; exact if_neg (fun hv => not_ord HM.out HY.out HK.out hv.2.2.2.1)
            obtain ⟨q, hq⟩ : ∃ q, cmpZ y.id m.id = q := ⟨_, rfl⟩
            have HZ := Lib.hid hq
            rw [hq] at hZ
            have hZ' : 0 ≤ q := of_decide_eq_true hZ
            clear hZ hq
            refine QB.region' mixed (by kernel_rfl) ?_
            refine QB.val' (v := ?_) (a' := ?_) (by kernel_rfl) (fun w' hw' => ?_) ?_ ?_
            rotate_left 2
            · have cx0 := FX0.out w' hw'; have cp := FS.out w' hw'; go_simp <;> rfl
            · simp only [Act.put, List.setIfInBounds_toArray, List.set_cons_succ, List.set_cons_zero]; rfl
            refine QB.val' (v := ?_) (a' := ?_) (by kernel_rfl) (fun w' hw' => ?_) ?_ ?_
            rotate_left 2
            · have cx0 := FX0.out w' hw'; have cp := FS.out w' hw'; go_simp <;> rfl
            · simp only [Act.put, List.setIfInBounds_toArray, List.set_cons_succ, List.set_cons_zero]; rfl
            refine QB.call' (f := 90) (args := #[.int .i64 m.id]) (v := .bool true) (a' := ?_) (by kernel_rfl) (fun w' hw' => ?_) (fun w' hw' => (isID_any m.id w').mono fun _ _ ⟨h1, h2⟩ => ⟨h1.trans (by rw [HI.out]), h2 ▸ hw'⟩) ?_ ?_
            rotate_left
            · have cx0 := FX0.out w' hw'; go_simp <;> rfl
            · simp only [Act.put, List.setIfInBounds_toArray, List.set_cons_succ, List.set_cons_zero]; rfl
            refine QB.val' (v := ?_) (a' := ?_) (by kernel_rfl) (fun w' hw' => ?_) ?_ ?_
            rotate_left 2
            · have cx0 := FX0.out w' hw'; have cp := FS.out w' hw'; go_simp <;> rfl
            · simp only [Act.put, List.setIfInBounds_toArray, List.set_cons_succ, List.set_cons_zero]; rfl
            refine QB.val' (v := ?_) (a' := ?_) (by kernel_rfl) (fun w' hw' => ?_) ?_ ?_
            rotate_left 2
            · have cx0 := FX0.out w' hw'; have cp := FS.out w' hw'; go_simp <;> rfl
            · simp only [Act.put, List.setIfInBounds_toArray, List.set_cons_succ, List.set_cons_zero]; rfl
            refine QB.val' (v := ?_) (a' := ?_) (by kernel_rfl) (fun w' hw' => ?_) ?_ ?_
            rotate_left 2
            · have cx0 := FX0.out w' hw'; have cp := FS.out w' hw'; go_simp <;> rfl
            · simp only [Act.put, List.setIfInBounds_toArray, List.set_cons_succ, List.set_cons_zero]; rfl
            refine QB.val' (v := ?_) (a' := ?_) (by kernel_rfl) (fun w' hw' => ?_) ?_ ?_
            rotate_left 2
            · have cx0 := FX0.out w' hw'; have cp := FS.out w' hw'; go_simp <;> rfl
            · simp only [Act.put, List.setIfInBounds_toArray, List.set_cons_succ, List.set_cons_zero]; rfl
            refine QB.val' (v := ?_) (a' := ?_) (by kernel_rfl) (fun w' hw' => ?_) ?_ ?_
            rotate_left 2
            · have cx0 := FX0.out w' hw'; have cp := FS.out w' hw'; go_simp <;> rfl
            · simp only [Act.put, List.setIfInBounds_toArray, List.set_cons_succ, List.set_cons_zero]; rfl
            refine QB.val' (v := ?_) (a' := ?_) (by kernel_rfl) (fun w' hw' => ?_) ?_ ?_
            rotate_left 2
            · have cx0 := FX0.out w' hw'; have cp := FS.out w' hw'; go_simp <;> rfl
            · simp only [Act.put, List.setIfInBounds_toArray, List.set_cons_succ, List.set_cons_zero]; rfl
            refine QB.val' (v := ?_) (a' := ?_) (by kernel_rfl) (fun w' hw' => ?_) ?_ ?_
            rotate_left 2
            · have cx0 := FX0.out w' hw'; have cp := FS.out w' hw'; go_simp <;> rfl
            · simp only [Act.put, List.setIfInBounds_toArray, List.set_cons_succ, List.set_cons_zero]; rfl
            refine QB.val' (v := ?_) (a' := ?_) (by kernel_rfl) (fun w' hw' => ?_) ?_ ?_
            rotate_left 2
            · have cx0 := FX0.out w' hw'; have cp := FS.out w' hw'; go_simp <;> rfl
            · simp only [Act.put, List.setIfInBounds_toArray, List.set_cons_succ, List.set_cons_zero]; rfl
            refine QB.val' (v := ?_) (a' := ?_) (by kernel_rfl) (fun w' hw' => ?_) ?_ ?_
            rotate_left 2
            · have cx0 := FX0.out w' hw'; have cp := FS.out w' hw'; go_simp <;> rfl
            · simp only [Act.put, List.setIfInBounds_toArray, List.set_cons_succ, List.set_cons_zero]; rfl
            refine QB.val' (v := ?_) (a' := ?_) (by kernel_rfl) (fun w' hw' => ?_) ?_ ?_
            rotate_left 2
            · have cx0 := FX0.out w' hw'; have cp := FS.out w' hw'; go_simp <;> rfl
            · simp only [Act.put, List.setIfInBounds_toArray, List.set_cons_succ, List.set_cons_zero]; rfl
            refine QB.ld' (a' := ?_) (by kernel_rfl) 96 rfl rfl (fun w' hw' => FY.out w' hw') ?_ ?_
            rotate_left
            · simp only [Act.put, List.setIfInBounds_toArray, List.set_cons_succ, List.set_cons_zero]; rfl
            refine QB.val' (v := ?_) (a' := ?_) (by kernel_rfl) (fun w' hw' => ?_) ?_ ?_
            rotate_left 2
            · have cx0 := FX0.out w' hw'; have cp := FS.out w' hw'; go_simp <;> rfl
            · simp only [Act.put, List.setIfInBounds_toArray, List.set_cons_succ, List.set_cons_zero]; rfl
            refine QB.val' (v := ?_) (a' := ?_) (by kernel_rfl) (fun w' hw' => ?_) ?_ ?_
            rotate_left 2
            · have cx0 := FX0.out w' hw'; have cp := FS.out w' hw'; go_simp <;> rfl
            · simp only [Act.put, List.setIfInBounds_toArray, List.set_cons_succ, List.set_cons_zero]; rfl
            refine QB.call' (f := 91) (args := #[y.val, .int .i64 m.id]) (v := .int .i64 q) (a' := ?_) (by kernel_rfl) (fun w' hw' => ?_) (fun w' hw' => (byID_any y m.id w').mono fun _ _ ⟨h1, h2⟩ => ⟨h1.trans (by rw [HZ.out]), nextB hw' (Nat.le_refl _) h2⟩) ?_ ?_
            rotate_left
            · have cx0 := FX0.out w' hw'; go_simp <;> rfl
            · simp only [Act.put, List.setIfInBounds_toArray, List.set_cons_succ, List.set_cons_zero]; rfl
            refine QB.val' (v := ?_) (a' := ?_) (by kernel_rfl) (fun w' hw' => ?_) ?_ ?_
            rotate_left 2
            · have cx0 := FX0.out w' hw'; have cp := FS.out w' hw'; go_simp <;> rfl
            · simp only [Act.put, List.setIfInBounds_toArray, List.set_cons_succ, List.set_cons_zero]; rfl
            refine QB.val' (v := ?_) (a' := ?_) (by kernel_rfl) (fun w' hw' => ?_) ?_ ?_
            rotate_left 2
            · have cx0 := FX0.out w' hw'; have cp := FS.out w' hw'; go_simp <;> rfl
            · simp only [Act.put, List.setIfInBounds_toArray, List.set_cons_succ, List.set_cons_zero]; rfl
            refine QB.val' (v := ?_) (a' := ?_) (by kernel_rfl) (fun w' hw' => ?_) ?_ ?_
            rotate_left 2
            · have cx0 := FX0.out w' hw'; have cp := FS.out w' hw'; go_simp <;> rfl
            · simp only [Act.put, List.setIfInBounds_toArray, List.set_cons_succ, List.set_cons_zero]; rfl
            refine QB.nil' fun w' hw' => ?_
            have HW := Lib.hid hw'
            clear hw'
            go_wp2
            go_ret
            exact ⟨rfl, nextB HBW.out (Nat.le_refl _) HW.out⟩
          | false =>
            have HK := Lib.hid (Classical.not_not.1 (fun hn => of_decide_eq_false hZ ((m_lt y m.id).2 hn)))
            obtain ⟨q, hq⟩ : ∃ q, cmpZ y.id m.id = q := ⟨_, rfl⟩
            have HZ := Lib.hid hq
            rw [hq] at hZ
            have hZ' : ¬ 0 ≤ q := of_decide_eq_false hZ
            clear hZ hq
            refine QB.region' mixed (by kernel_rfl) ?_
            refine QB.val' (v := ?_) (a' := ?_) (by kernel_rfl) (fun w' hw' => ?_) ?_ ?_
            rotate_left 2
            · have cx0 := FX0.out w' hw'; have cp := FS.out w' hw'; go_simp <;> rfl
            · simp only [Act.put, List.setIfInBounds_toArray, List.set_cons_succ, List.set_cons_zero]; rfl
            refine QB.val' (v := ?_) (a' := ?_) (by kernel_rfl) (fun w' hw' => ?_) ?_ ?_
            rotate_left 2
            · have cx0 := FX0.out w' hw'; have cp := FS.out w' hw'; go_simp <;> rfl
            · simp only [Act.put, List.setIfInBounds_toArray, List.set_cons_succ, List.set_cons_zero]; rfl
            refine QB.call' (f := 90) (args := #[.int .i64 m.id]) (v := .bool true) (a' := ?_) (by kernel_rfl) (fun w' hw' => ?_) (fun w' hw' => (isID_any m.id w').mono fun _ _ ⟨h1, h2⟩ => ⟨h1.trans (by rw [HI.out]), h2 ▸ hw'⟩) ?_ ?_
            rotate_left
            · have cx0 := FX0.out w' hw'; go_simp <;> rfl
            · simp only [Act.put, List.setIfInBounds_toArray, List.set_cons_succ, List.set_cons_zero]; rfl
            refine QB.val' (v := ?_) (a' := ?_) (by kernel_rfl) (fun w' hw' => ?_) ?_ ?_
            rotate_left 2
            · have cx0 := FX0.out w' hw'; have cp := FS.out w' hw'; go_simp <;> rfl
            · simp only [Act.put, List.setIfInBounds_toArray, List.set_cons_succ, List.set_cons_zero]; rfl
            refine QB.val' (v := ?_) (a' := ?_) (by kernel_rfl) (fun w' hw' => ?_) ?_ ?_
            rotate_left 2
            · have cx0 := FX0.out w' hw'; have cp := FS.out w' hw'; go_simp <;> rfl
            · simp only [Act.put, List.setIfInBounds_toArray, List.set_cons_succ, List.set_cons_zero]; rfl
            refine QB.val' (v := ?_) (a' := ?_) (by kernel_rfl) (fun w' hw' => ?_) ?_ ?_
            rotate_left 2
            · have cx0 := FX0.out w' hw'; have cp := FS.out w' hw'; go_simp <;> rfl
            · simp only [Act.put, List.setIfInBounds_toArray, List.set_cons_succ, List.set_cons_zero]; rfl
            refine QB.val' (v := ?_) (a' := ?_) (by kernel_rfl) (fun w' hw' => ?_) ?_ ?_
            rotate_left 2
            · have cx0 := FX0.out w' hw'; have cp := FS.out w' hw'; go_simp <;> rfl
            · simp only [Act.put, List.setIfInBounds_toArray, List.set_cons_succ, List.set_cons_zero]; rfl
            refine QB.val' (v := ?_) (a' := ?_) (by kernel_rfl) (fun w' hw' => ?_) ?_ ?_
            rotate_left 2
            · have cx0 := FX0.out w' hw'; have cp := FS.out w' hw'; go_simp <;> rfl
            · simp only [Act.put, List.setIfInBounds_toArray, List.set_cons_succ, List.set_cons_zero]; rfl
            refine QB.val' (v := ?_) (a' := ?_) (by kernel_rfl) (fun w' hw' => ?_) ?_ ?_
            rotate_left 2
            · have cx0 := FX0.out w' hw'; have cp := FS.out w' hw'; go_simp <;> rfl
            · simp only [Act.put, List.setIfInBounds_toArray, List.set_cons_succ, List.set_cons_zero]; rfl
            refine QB.val' (v := ?_) (a' := ?_) (by kernel_rfl) (fun w' hw' => ?_) ?_ ?_
            rotate_left 2
            · have cx0 := FX0.out w' hw'; have cp := FS.out w' hw'; go_simp <;> rfl
            · simp only [Act.put, List.setIfInBounds_toArray, List.set_cons_succ, List.set_cons_zero]; rfl
            refine QB.val' (v := ?_) (a' := ?_) (by kernel_rfl) (fun w' hw' => ?_) ?_ ?_
            rotate_left 2
            · have cx0 := FX0.out w' hw'; have cp := FS.out w' hw'; go_simp <;> rfl
            · simp only [Act.put, List.setIfInBounds_toArray, List.set_cons_succ, List.set_cons_zero]; rfl
            refine QB.val' (v := ?_) (a' := ?_) (by kernel_rfl) (fun w' hw' => ?_) ?_ ?_
            rotate_left 2
            · have cx0 := FX0.out w' hw'; have cp := FS.out w' hw'; go_simp <;> rfl
            · simp only [Act.put, List.setIfInBounds_toArray, List.set_cons_succ, List.set_cons_zero]; rfl
            refine QB.val' (v := ?_) (a' := ?_) (by kernel_rfl) (fun w' hw' => ?_) ?_ ?_
            rotate_left 2
            · have cx0 := FX0.out w' hw'; have cp := FS.out w' hw'; go_simp <;> rfl
            · simp only [Act.put, List.setIfInBounds_toArray, List.set_cons_succ, List.set_cons_zero]; rfl
            refine QB.ld' (a' := ?_) (by kernel_rfl) 96 rfl rfl (fun w' hw' => FY.out w' hw') ?_ ?_
            rotate_left
            · simp only [Act.put, List.setIfInBounds_toArray, List.set_cons_succ, List.set_cons_zero]; rfl
            refine QB.val' (v := ?_) (a' := ?_) (by kernel_rfl) (fun w' hw' => ?_) ?_ ?_
            rotate_left 2
            · have cx0 := FX0.out w' hw'; have cp := FS.out w' hw'; go_simp <;> rfl
            · simp only [Act.put, List.setIfInBounds_toArray, List.set_cons_succ, List.set_cons_zero]; rfl
            refine QB.val' (v := ?_) (a' := ?_) (by kernel_rfl) (fun w' hw' => ?_) ?_ ?_
            rotate_left 2
            · have cx0 := FX0.out w' hw'; have cp := FS.out w' hw'; go_simp <;> rfl
            · simp only [Act.put, List.setIfInBounds_toArray, List.set_cons_succ, List.set_cons_zero]; rfl
            refine QB.call' (f := 91) (args := #[y.val, .int .i64 m.id]) (v := .int .i64 q) (a' := ?_) (by kernel_rfl) (fun w' hw' => ?_) (fun w' hw' => (byID_any y m.id w').mono fun _ _ ⟨h1, h2⟩ => ⟨h1.trans (by rw [HZ.out]), nextB hw' (Nat.le_refl _) h2⟩) ?_ ?_
            rotate_left
            · have cx0 := FX0.out w' hw'; go_simp <;> rfl
            · simp only [Act.put, List.setIfInBounds_toArray, List.set_cons_succ, List.set_cons_zero]; rfl
            refine QB.val' (v := ?_) (a' := ?_) (by kernel_rfl) (fun w' hw' => ?_) ?_ ?_
            rotate_left 2
            · have cx0 := FX0.out w' hw'; have cp := FS.out w' hw'; go_simp <;> rfl
            · simp only [Act.put, List.setIfInBounds_toArray, List.set_cons_succ, List.set_cons_zero]; rfl
            refine QB.val' (v := ?_) (a' := ?_) (by kernel_rfl) (fun w' hw' => ?_) ?_ ?_
            rotate_left 2
            · have cx0 := FX0.out w' hw'; have cp := FS.out w' hw'; go_simp <;> rfl
            · simp only [Act.put, List.setIfInBounds_toArray, List.set_cons_succ, List.set_cons_zero]; rfl
            refine QB.val' (v := ?_) (a' := ?_) (by kernel_rfl) (fun w' hw' => ?_) ?_ ?_
            rotate_left 2
            · have cx0 := FX0.out w' hw'; have cp := FS.out w' hw'; go_simp <;> rfl
            · simp only [Act.put, List.setIfInBounds_toArray, List.set_cons_succ, List.set_cons_zero]; rfl
            refine QB.nil' fun w' hw' => ?_
            have HW := Lib.hid hw'
            clear hw'
            go_wp2
            go_roundw
            case rel =>
              refine ⟨j + 1 + 1, by omega, by simp, (HB.out.trans (HBW2.out.mono HB.out.size)).trans (HW.out.mono (by have := HB.out.size; have := HBW2.out.size; omega)), Lib.hid ⟨?_, ?_⟩⟩
              · intro t m' ht' hm'
                rcases Nat.lt_or_ge t (j + 1) with h | h
                · exact I.out.1 t m' h hm'
                · obtain rfl : t = (j + 1) := by omega
                  rw [HM.out] at hm'
                  cases hm'
                  exact HI.out
              · exact ord_snoc HM.out I.out.2 (fun y' _ hy' => by rw [show j + 1 - 1 = j by omega, HY.out] at hy'; cases hy'; exact HK.out)
            case measure => simp [intOf]; omega
    · have hlt' : ¬ (i : Int) < (c.ps.length : Int) := by omega
      obtain rfl : i = c.ps.length := by omega
      have HO1 := Lib.hid (show Ord Mb.key c.ps by have := I.out.2; rwa [List.take_length] at this)
      have HI1 := Lib.hid (show ∀ m ∈ c.ps, isIDB m.id = true from fun m hm => by obtain ⟨t, ht⟩ := List.getElem?_of_mem hm; exact I.out.1 t m (List.getElem?_eq_some_iff.1 ht).1 ht)
      have cr := FR.out wr HB.out
      go_wp2_with fail
      clear cr
      have HB5 := HB
      clear I HB
      go_loopw [51] (fun iv wr => ∃ i : Nat, i ≤ c.rs.length ∧ iv = .int .i64 (i : Int) ∧ Below W0.heap.size W0 wr ∧ Hid ((∀ t r, t < i → c.rs[t]? = some r → prefB r.addr r.bits = true ∧ has Mb.key (r.peer, 0) c.ps = true) ∧ Ord Rt.key (c.rs.take i))) (fun iv _ => c.rs.length - (intOf iv).toNat)
      case atStart => exact ⟨0, Nat.zero_le _, rfl, HB5.out, Lib.hid ⟨fun t m ht => absurd ht (Nat.not_lt_zero _), by simp [Ord]⟩⟩
      case round =>
        obtain ⟨i, hi, rfl, hb, I⟩ := hrel
        have HB := Lib.hid hb
        clear hb
        have hN := HN2.out
        have hi2 : (i : Int) ≤ 256 := by omega
        clear hN
        by_cases hlt : i < c.rs.length
        · have hlt' : (i : Int) < (c.rs.length : Int) := by omega
          obtain ⟨r, hm⟩ : ∃ m, c.rs[i]? = some m := ⟨_, List.getElem?_eq_getElem hlt⟩
          have HM := Lib.hid hm
          have hB1 : Hid (Below w.heap.size w wr) := Lib.hid (HB0.out.trans (HB.out.mono HB0.out.size))
          have FM := Lib.hid (fun (t : Nat) (y : Rt) (hy : c.rs[t]? = some y) w' (h : Below wr.heap.size wr w') => (HC.out.rs.below ((hB1.out.trans (h.mono hB1.out.size)).mono HBw.out)).at hy)
          obtain ⟨b0, off, e, _, _, _⟩ := FM.out i r hm wr (Below.refl _ _)
          subst e
          have FL := Lib.hid (fun (t : Nat) (y : Rt) (hy : c.rs[t]? = some y) w' (h : Below wr.heap.size wr w') => by
            obtain ⟨b', off', e, _, _, hl⟩ := FM.out t y hy w' h
            cases e
            exact hl)
          have hld := Lib.hid (FL.out i r hm wr (Below.refl _ _))
          clear FM hm
          go_wp2_with (first
            | (refine QB.wpList_ld 99 rfl rfl hld.out rfl ?_)
            | (refine QB.wpList_alloc rfl 99 rfl zero_rt ?_; intro W1 hr1 hb1; have HR1 := Lib.hid (show Row W1 wr.heap.size (Rt.cs ⟨0, 0, 0⟩) 99 from hr1); have HB1 := Lib.hid hb1; clear hr1 hb1)
            | (refine wpList_storeRow rfl 99 (.tmp 6) (.tmp 55) rfl rfl (cs := r.cs) rfl HR1.out (by kernel_rfl) rfl rfl r.one ?_)
            | fail)
          refine QB.code_name fun W hW => ?_
          have hRW : Row W wr.heap.size r.cs 99 := hW ▸ HR1.out.setRow r.cs
          have HBW2 := Lib.hid (show Below wr.heap.size wr W from hW ▸ below_setRow HB1.out (Nat.le_refl _) _)
          have HBW := Lib.hid (show Below w.heap.size w W from nextB hB1.out (Nat.le_refl _) HBW2.out)
          have FX0 := Lib.hid (fun w' (h : Below W.heap.size W w') => (h.cell (p := ⟨wr.heap.size, 0, none⟩) hRW.lt).trans (hRW.cell rfl))
          have FX1 := Lib.hid (fun w' (h : Below W.heap.size W w') => (h.cell (p := ⟨wr.heap.size, 1, none⟩) hRW.lt).trans (hRW.cell rfl))
          have FX2 := Lib.hid (fun w' (h : Below W.heap.size W w') => (h.cell (p := ⟨wr.heap.size, 2, none⟩) hRW.lt).trans (hRW.cell rfl))
          have FC := Lib.hid (fun w' (h : Below W.heap.size W w') => FCF.out w' (HB.out.trans (HBW2.out.mono HB.out.size) |>.trans (h.mono (by have := HB.out.size; have := HBW2.out.size; omega))))
          have FS := Lib.hid (fun w' (h : Below W.heap.size W w') => FR.out w' ((HB.out.trans (HBW2.out.mono HB.out.size)).trans (h.mono (by have := HB.out.size; have := HBW2.out.size; omega))))
          clear hW hRW HR1 HB1
          cases hI : prefB r.addr r.bits with
          | false =>
            obtain rfl : z = 2 := by rw [← Hz.out]; exact if_neg (fun hv => by have := (hv.2.2.2.2.1 r (List.mem_of_getElem? HM.out)).1; rw [hI] at this; cases this)
            have HI := Lib.hid hI
            clear hI
            refine QB.region' mixed (by kernel_rfl) ?_
            refine QB.val' (v := ?_) (a' := ?_) (by kernel_rfl) (fun w' hw' => ?_) ?_ ?_
            rotate_left 2
            · have cx0 := FX0.out w' hw'; have cx1 := FX1.out w' hw'; have cp := FS.out w' hw'; go_simp <;> rfl
            · simp only [Act.put, List.setIfInBounds_toArray, List.set_cons_succ, List.set_cons_zero]; rfl
            refine QB.val' (v := ?_) (a' := ?_) (by kernel_rfl) (fun w' hw' => ?_) ?_ ?_
            rotate_left 2
            · have cx0 := FX0.out w' hw'; have cx1 := FX1.out w' hw'; have cp := FS.out w' hw'; go_simp <;> rfl
            · simp only [Act.put, List.setIfInBounds_toArray, List.set_cons_succ, List.set_cons_zero]; rfl
            refine QB.val' (v := ?_) (a' := ?_) (by kernel_rfl) (fun w' hw' => ?_) ?_ ?_
            rotate_left 2
            · have cx0 := FX0.out w' hw'; have cx1 := FX1.out w' hw'; have cp := FS.out w' hw'; go_simp <;> rfl
            · simp only [Act.put, List.setIfInBounds_toArray, List.set_cons_succ, List.set_cons_zero]; rfl
            refine QB.val' (v := ?_) (a' := ?_) (by kernel_rfl) (fun w' hw' => ?_) ?_ ?_
            rotate_left 2
            · have cx0 := FX0.out w' hw'; have cx1 := FX1.out w' hw'; have cp := FS.out w' hw'; go_simp <;> rfl
            · simp only [Act.put, List.setIfInBounds_toArray, List.set_cons_succ, List.set_cons_zero]; rfl
            refine QB.call' (f := 92) (args := #[.int .u32 r.addr, .int .i64 r.bits]) (v := .bool false) (a' := ?_) (by kernel_rfl) (fun w' hw' => ?_) (fun w' hw' => (isPrefix_any r.addr r.bits w').mono fun _ _ ⟨h1, h2⟩ => ⟨h1.trans (by rw [HI.out]), h2 ▸ hw'⟩) ?_ ?_
            rotate_left
            · have cx0 := FX0.out w' hw'; have cx1 := FX1.out w' hw'; go_simp <;> rfl
            · simp only [Act.put, List.setIfInBounds_toArray, List.set_cons_succ, List.set_cons_zero]; rfl
            refine QB.val' (v := ?_) (a' := ?_) (by kernel_rfl) (fun w' hw' => ?_) ?_ ?_
            rotate_left 2
            · have cx0 := FX0.out w' hw'; have cx1 := FX1.out w' hw'; have cp := FS.out w' hw'; go_simp <;> rfl
            · simp only [Act.put, List.setIfInBounds_toArray, List.set_cons_succ, List.set_cons_zero]; rfl
            refine QB.val' (v := ?_) (a' := ?_) (by kernel_rfl) (fun w' hw' => ?_) ?_ ?_
            rotate_left 2
            · have cx0 := FX0.out w' hw'; have cx1 := FX1.out w' hw'; have cp := FS.out w' hw'; go_simp <;> rfl
            · simp only [Act.put, List.setIfInBounds_toArray, List.set_cons_succ, List.set_cons_zero]; rfl
            refine QB.no' (a' := ?_) (by kernel_rfl) ?_ ?_
            rotate_left
            · simp only [Act.put, List.setIfInBounds_toArray, List.set_cons_succ, List.set_cons_zero]; rfl
            refine QB.no' (a' := ?_) (by kernel_rfl) ?_ ?_
            rotate_left
            · simp only [Act.put, List.setIfInBounds_toArray, List.set_cons_succ, List.set_cons_zero]; rfl
            refine QB.no' (a' := ?_) (by kernel_rfl) ?_ ?_
            rotate_left
            · simp only [Act.put, List.setIfInBounds_toArray, List.set_cons_succ, List.set_cons_zero]; rfl
            refine QB.no' (a' := ?_) (by kernel_rfl) ?_ ?_
            rotate_left
            · simp only [Act.put, List.setIfInBounds_toArray, List.set_cons_succ, List.set_cons_zero]; rfl
            refine QB.no' (a' := ?_) (by kernel_rfl) ?_ ?_
            rotate_left
            · simp only [Act.put, List.setIfInBounds_toArray, List.set_cons_succ, List.set_cons_zero]; rfl
            refine QB.no' (a' := ?_) (by kernel_rfl) ?_ ?_
            rotate_left
            · simp only [Act.put, List.setIfInBounds_toArray, List.set_cons_succ, List.set_cons_zero]; rfl
            refine QB.no' (a' := ?_) (by kernel_rfl) ?_ ?_
            rotate_left
            · simp only [Act.put, List.setIfInBounds_toArray, List.set_cons_succ, List.set_cons_zero]; rfl
            refine QB.no' (a' := ?_) (by kernel_rfl) ?_ ?_
            rotate_left
            · simp only [Act.put, List.setIfInBounds_toArray, List.set_cons_succ, List.set_cons_zero]; rfl
            refine QB.no' (a' := ?_) (by kernel_rfl) ?_ ?_
            rotate_left
            · simp only [Act.put, List.setIfInBounds_toArray, List.set_cons_succ, List.set_cons_zero]; rfl
            refine QB.no' (a' := ?_) (by kernel_rfl) ?_ ?_
            rotate_left
            · simp only [Act.put, List.setIfInBounds_toArray, List.set_cons_succ, List.set_cons_zero]; rfl
            refine QB.no' (a' := ?_) (by kernel_rfl) ?_ ?_
            rotate_left
            · simp only [Act.put, List.setIfInBounds_toArray, List.set_cons_succ, List.set_cons_zero]; rfl
            refine QB.no' (a' := ?_) (by kernel_rfl) ?_ ?_
            rotate_left
            · simp only [Act.put, List.setIfInBounds_toArray, List.set_cons_succ, List.set_cons_zero]; rfl
            refine QB.no' (a' := ?_) (by kernel_rfl) ?_ ?_
            rotate_left
            · simp only [Act.put, List.setIfInBounds_toArray, List.set_cons_succ, List.set_cons_zero]; rfl
            refine QB.no' (a' := ?_) (by kernel_rfl) ?_ ?_
            rotate_left
            · simp only [Act.put, List.setIfInBounds_toArray, List.set_cons_succ, List.set_cons_zero]; rfl
            refine QB.no' (a' := ?_) (by kernel_rfl) ?_ ?_
            rotate_left
            · simp only [Act.put, List.setIfInBounds_toArray, List.set_cons_succ, List.set_cons_zero]; rfl
            refine QB.no' (a' := ?_) (by kernel_rfl) ?_ ?_
            rotate_left
            · simp only [Act.put, List.setIfInBounds_toArray, List.set_cons_succ, List.set_cons_zero]; rfl
            refine QB.val' (v := ?_) (a' := ?_) (by kernel_rfl) (fun w' hw' => ?_) ?_ ?_
            rotate_left 2
            · have cx0 := FX0.out w' hw'; have cx1 := FX1.out w' hw'; have cp := FS.out w' hw'; go_simp <;> rfl
            · simp only [Act.put, List.setIfInBounds_toArray, List.set_cons_succ, List.set_cons_zero]; rfl
            refine QB.nil' fun w' hw' => ?_
            have HW := Lib.hid hw'
            clear hw'
            go_wp2
            go_ret
            exact ⟨rfl, nextB HBW.out (Nat.le_refl _) HW.out⟩
          | true =>
            have HI := Lib.hid hI
            clear hI
            cases i with
            | zero =>
              refine QB.region' mixed (by kernel_rfl) ?_
              refine QB.val' (v := ?_) (a' := ?_) (by kernel_rfl) (fun w' hw' => ?_) ?_ ?_
              rotate_left 2
              · have cx0 := FX0.out w' hw'; have cx1 := FX1.out w' hw'; have cp := FS.out w' hw'; go_simp <;> rfl
              · simp only [Act.put, List.setIfInBounds_toArray, List.set_cons_succ, List.set_cons_zero]; rfl
              refine QB.val' (v := ?_) (a' := ?_) (by kernel_rfl) (fun w' hw' => ?_) ?_ ?_
              rotate_left 2
              · have cx0 := FX0.out w' hw'; have cx1 := FX1.out w' hw'; have cp := FS.out w' hw'; go_simp <;> rfl
              · simp only [Act.put, List.setIfInBounds_toArray, List.set_cons_succ, List.set_cons_zero]; rfl
              refine QB.val' (v := ?_) (a' := ?_) (by kernel_rfl) (fun w' hw' => ?_) ?_ ?_
              rotate_left 2
              · have cx0 := FX0.out w' hw'; have cx1 := FX1.out w' hw'; have cp := FS.out w' hw'; go_simp <;> rfl
              · simp only [Act.put, List.setIfInBounds_toArray, List.set_cons_succ, List.set_cons_zero]; rfl
              refine QB.val' (v := ?_) (a' := ?_) (by kernel_rfl) (fun w' hw' => ?_) ?_ ?_
              rotate_left 2
              · have cx0 := FX0.out w' hw'; have cx1 := FX1.out w' hw'; have cp := FS.out w' hw'; go_simp <;> rfl
              · simp only [Act.put, List.setIfInBounds_toArray, List.set_cons_succ, List.set_cons_zero]; rfl
              refine QB.call' (f := 92) (args := #[.int .u32 r.addr, .int .i64 r.bits]) (v := .bool true) (a' := ?_) (by kernel_rfl) (fun w' hw' => ?_) (fun w' hw' => (isPrefix_any r.addr r.bits w').mono fun _ _ ⟨h1, h2⟩ => ⟨h1.trans (by rw [HI.out]), h2 ▸ hw'⟩) ?_ ?_
              rotate_left
              · have cx0 := FX0.out w' hw'; have cx1 := FX1.out w' hw'; go_simp <;> rfl
              · simp only [Act.put, List.setIfInBounds_toArray, List.set_cons_succ, List.set_cons_zero]; rfl
              refine QB.val' (v := ?_) (a' := ?_) (by kernel_rfl) (fun w' hw' => ?_) ?_ ?_
              rotate_left 2
              · have cx0 := FX0.out w' hw'; have cx1 := FX1.out w' hw'; have cp := FS.out w' hw'; go_simp <;> rfl
              · simp only [Act.put, List.setIfInBounds_toArray, List.set_cons_succ, List.set_cons_zero]; rfl
              refine QB.val' (v := ?_) (a' := ?_) (by kernel_rfl) (fun w' hw' => ?_) ?_ ?_
              rotate_left 2
              · have cx0 := FX0.out w' hw'; have cx1 := FX1.out w' hw'; have cp := FS.out w' hw'; go_simp <;> rfl
              · simp only [Act.put, List.setIfInBounds_toArray, List.set_cons_succ, List.set_cons_zero]; rfl
              refine QB.val' (v := ?_) (a' := ?_) (by kernel_rfl) (fun w' hw' => ?_) ?_ ?_
              rotate_left 2
              · have cx0 := FX0.out w' hw'; have cx1 := FX1.out w' hw'; have cp := FS.out w' hw'; go_simp <;> rfl
              · simp only [Act.put, List.setIfInBounds_toArray, List.set_cons_succ, List.set_cons_zero]; rfl
              refine QB.val' (v := ?_) (a' := ?_) (by kernel_rfl) (fun w' hw' => ?_) ?_ ?_
              rotate_left 2
              · have cx0 := FX0.out w' hw'; have cx1 := FX1.out w' hw'; have cp := FS.out w' hw'; go_simp <;> rfl
              · simp only [Act.put, List.setIfInBounds_toArray, List.set_cons_succ, List.set_cons_zero]; rfl
              refine QB.val' (v := ?_) (a' := ?_) (by kernel_rfl) (fun w' hw' => ?_) ?_ ?_
              rotate_left 2
              · have cx0 := FX0.out w' hw'; have cx1 := FX1.out w' hw'; have cp := FS.out w' hw'; go_simp <;> rfl
              · simp only [Act.put, List.setIfInBounds_toArray, List.set_cons_succ, List.set_cons_zero]; rfl
              refine QB.no' (a' := ?_) (by kernel_rfl) ?_ ?_
              rotate_left
              · simp only [Act.put, List.setIfInBounds_toArray, List.set_cons_succ, List.set_cons_zero]; rfl
              refine QB.no' (a' := ?_) (by kernel_rfl) ?_ ?_
              rotate_left
              · simp only [Act.put, List.setIfInBounds_toArray, List.set_cons_succ, List.set_cons_zero]; rfl
              refine QB.no' (a' := ?_) (by kernel_rfl) ?_ ?_
              rotate_left
              · simp only [Act.put, List.setIfInBounds_toArray, List.set_cons_succ, List.set_cons_zero]; rfl
              refine QB.no' (a' := ?_) (by kernel_rfl) ?_ ?_
              rotate_left
              · simp only [Act.put, List.setIfInBounds_toArray, List.set_cons_succ, List.set_cons_zero]; rfl
              refine QB.no' (a' := ?_) (by kernel_rfl) ?_ ?_
              rotate_left
              · simp only [Act.put, List.setIfInBounds_toArray, List.set_cons_succ, List.set_cons_zero]; rfl
              refine QB.no' (a' := ?_) (by kernel_rfl) ?_ ?_
              rotate_left
              · simp only [Act.put, List.setIfInBounds_toArray, List.set_cons_succ, List.set_cons_zero]; rfl
              refine QB.no' (a' := ?_) (by kernel_rfl) ?_ ?_
              rotate_left
              · simp only [Act.put, List.setIfInBounds_toArray, List.set_cons_succ, List.set_cons_zero]; rfl
              refine QB.no' (a' := ?_) (by kernel_rfl) ?_ ?_
              rotate_left
              · simp only [Act.put, List.setIfInBounds_toArray, List.set_cons_succ, List.set_cons_zero]; rfl
              refine QB.no' (a' := ?_) (by kernel_rfl) ?_ ?_
              rotate_left
              · simp only [Act.put, List.setIfInBounds_toArray, List.set_cons_succ, List.set_cons_zero]; rfl
              refine QB.no' (a' := ?_) (by kernel_rfl) ?_ ?_
              rotate_left
              · simp only [Act.put, List.setIfInBounds_toArray, List.set_cons_succ, List.set_cons_zero]; rfl
              refine QB.no' (a' := ?_) (by kernel_rfl) ?_ ?_
              rotate_left
              · simp only [Act.put, List.setIfInBounds_toArray, List.set_cons_succ, List.set_cons_zero]; rfl
              refine QB.no' (a' := ?_) (by kernel_rfl) ?_ ?_
              rotate_left
              · simp only [Act.put, List.setIfInBounds_toArray, List.set_cons_succ, List.set_cons_zero]; rfl
              refine QB.val' (v := ?_) (a' := ?_) (by kernel_rfl) (fun w' hw' => ?_) ?_ ?_
              rotate_left 2
              · have cx0 := FX0.out w' hw'; have cx1 := FX1.out w' hw'; have cp := FS.out w' hw'; go_simp <;> rfl
              · simp only [Act.put, List.setIfInBounds_toArray, List.set_cons_succ, List.set_cons_zero]; rfl
              refine QB.val' (v := ?_) (a' := ?_) (by kernel_rfl) (fun w' hw' => ?_) ?_ ?_
              rotate_left 2
              · have cx0 := FX0.out w' hw'; have cx1 := FX1.out w' hw'; have cp := FS.out w' hw'; go_simp <;> rfl
              · simp only [Act.put, List.setIfInBounds_toArray, List.set_cons_succ, List.set_cons_zero]; rfl
              refine QB.nil' fun w' hw' => ?_
              have HW := Lib.hid hw'
              clear hw'
              have HWb := Lib.hid (show Below w.heap.size w w' from nextB HBW.out (Nat.le_refl _) HW.out)
              have hl0 := FC.out w' HW.out
              have cx2 := FX2.out w' HW.out
              cases hh : has Mb.key (r.peer, 0) c.ps with
              | false =>
                obtain rfl : z = 2 := by rw [← Hz.out]; exact if_neg (fun hv => by have := (hv.2.2.2.2.1 r (List.mem_of_getElem? HM.out)).2; rw [hh] at this; cases this)
                have HAt := Lib.hid (At1_any (w := w') (B := B) (vp := (.slice A1 c.ps.length n1)) (vr := (.slice (some ⟨b0, off, none⟩) c.rs.length n2)) (HC.out.ps.below (HWb.out.mono HBw.out)) (by have := HN1.out; omega) HO1.out rfl rfl r.peer (Nat.le_trans HBw.out HWb.out.size))
                rw [hh] at HAt
                clear hh
                go_wp2_with (first
                  | (refine QB.wpList_ld 25 rfl rfl hl0 rfl ?_)
                  | (go_at_call 94; refine HAt.out.mono ?_; rintro e w2 ⟨rfl, hb⟩; have HB2 := Lib.hid (nextB HWb.out (Nat.le_refl _) hb); clear hb)
                  | fail)
                go_ret
                exact ⟨rfl, HB2.out⟩
              | true =>
                have HAt := Lib.hid (At1_any (w := w') (B := B) (vp := (.slice A1 c.ps.length n1)) (vr := (.slice (some ⟨b0, off, none⟩) c.rs.length n2)) (HC.out.ps.below (HWb.out.mono HBw.out)) (by have := HN1.out; omega) HO1.out rfl rfl r.peer (Nat.le_trans HBw.out HWb.out.size))
                rw [hh] at HAt
                have HH := Lib.hid hh
                clear hh
                go_wp2_with (first
                  | (refine QB.wpList_ld 25 rfl rfl hl0 rfl ?_)
                  | (go_at_call 94; refine HAt.out.mono ?_; rintro e w2 ⟨rfl, hb⟩; have HB2 := Lib.hid hb; clear hb)
                  | fail)
                go_roundw
                case rel =>
                  refine ⟨1, by omega, by simp, ((HB.out.trans (HBW2.out.mono HB.out.size)).trans (HW.out.mono (by have := HB.out.size; have := HBW2.out.size; omega))).trans (HB2.out.mono (by have := HB.out.size; have := HBW2.out.size; have := HW.out.size; omega)), Lib.hid ⟨?_, ?_⟩⟩
                  · intro t m' ht' hm'
                    rcases Nat.lt_or_ge t 0 with h | h
                    · exact I.out.1 t m' h hm'
                    · obtain rfl : t = 0 := by omega
                      rw [HM.out] at hm'
                      cases hm'
                      exact ⟨HI.out, HH.out⟩
                  · exact ord_snoc HM.out I.out.2 (fun y h => absurd rfl h)
                case measure => simp [intOf]; omega
            | succ j =>
              obtain ⟨y, hy⟩ : ∃ y, c.rs[j]? = some y := ⟨_, List.getElem?_eq_getElem (by omega)⟩
              have HY := Lib.hid hy
              have FY := Lib.hid (fun w' (h : Below W.heap.size W w') => FL.out j y HY.out w' (HBW2.out.trans (h.mono HBW2.out.size)))
              have hj1 : (0 : Int) < (j : Int) + 1 := by omega
              have hj2 : (j : Int) ≤ 256 := by omega
              have hj4 : IntKind.i64.wrap (j : Int) = (j : Int) := wrap_small (by omega)
              have hj3 : (j : Int) < (c.rs.length : Int) := by omega
              clear hy
              cases hZ : decide (0 ≤ preZ y r.addr r.bits) with
              | true =>
                have HK := Lib.hid ((r_lt y r.addr r.bits).1 (of_decide_eq_true hZ))
                obtain rfl : z = 2 := by rw [← Hz.out]; exact if_neg (fun hv => not_ord HM.out HY.out HK.out hv.2.2.2.2.2)
                obtain ⟨q, hq⟩ : ∃ q, preZ y r.addr r.bits = q := ⟨_, rfl⟩
                have HZ := Lib.hid hq
                rw [hq] at hZ
                have hZ' : 0 ≤ q := of_decide_eq_true hZ
                clear hZ hq
                refine QB.region' mixed (by kernel_rfl) ?_
                refine QB.val' (v := ?_) (a' := ?_) (by kernel_rfl) (fun w' hw' => ?_) ?_ ?_
                rotate_left 2
                · have cx0 := FX0.out w' hw'; have cx1 := FX1.out w' hw'; have cp := FS.out w' hw'; go_simp <;> rfl
                · simp only [Act.put, List.setIfInBounds_toArray, List.set_cons_succ, List.set_cons_zero]; rfl
                refine QB.val' (v := ?_) (a' := ?_) (by kernel_rfl) (fun w' hw' => ?_) ?_ ?_
                rotate_left 2
                · have cx0 := FX0.out w' hw'; have cx1 := FX1.out w' hw'; have cp := FS.out w' hw'; go_simp <;> rfl
                · simp only [Act.put, List.setIfInBounds_toArray, List.set_cons_succ, List.set_cons_zero]; rfl
                refine QB.val' (v := ?_) (a' := ?_) (by kernel_rfl) (fun w' hw' => ?_) ?_ ?_
                rotate_left 2
                · have cx0 := FX0.out w' hw'; have cx1 := FX1.out w' hw'; have cp := FS.out w' hw'; go_simp <;> rfl
                · simp only [Act.put, List.setIfInBounds_toArray, List.set_cons_succ, List.set_cons_zero]; rfl
                refine QB.val' (v := ?_) (a' := ?_) (by kernel_rfl) (fun w' hw' => ?_) ?_ ?_
                rotate_left 2
                · have cx0 := FX0.out w' hw'; have cx1 := FX1.out w' hw'; have cp := FS.out w' hw'; go_simp <;> rfl
                · simp only [Act.put, List.setIfInBounds_toArray, List.set_cons_succ, List.set_cons_zero]; rfl
                refine QB.call' (f := 92) (args := #[.int .u32 r.addr, .int .i64 r.bits]) (v := .bool true) (a' := ?_) (by kernel_rfl) (fun w' hw' => ?_) (fun w' hw' => (isPrefix_any r.addr r.bits w').mono fun _ _ ⟨h1, h2⟩ => ⟨h1.trans (by rw [HI.out]), h2 ▸ hw'⟩) ?_ ?_
                rotate_left
                · have cx0 := FX0.out w' hw'; have cx1 := FX1.out w' hw'; go_simp <;> rfl
                · simp only [Act.put, List.setIfInBounds_toArray, List.set_cons_succ, List.set_cons_zero]; rfl
                refine QB.val' (v := ?_) (a' := ?_) (by kernel_rfl) (fun w' hw' => ?_) ?_ ?_
                rotate_left 2
                · have cx0 := FX0.out w' hw'; have cx1 := FX1.out w' hw'; have cp := FS.out w' hw'; go_simp <;> rfl
                · simp only [Act.put, List.setIfInBounds_toArray, List.set_cons_succ, List.set_cons_zero]; rfl
                refine QB.val' (v := ?_) (a' := ?_) (by kernel_rfl) (fun w' hw' => ?_) ?_ ?_
                rotate_left 2
                · have cx0 := FX0.out w' hw'; have cx1 := FX1.out w' hw'; have cp := FS.out w' hw'; go_simp <;> rfl
                · simp only [Act.put, List.setIfInBounds_toArray, List.set_cons_succ, List.set_cons_zero]; rfl
                refine QB.val' (v := ?_) (a' := ?_) (by kernel_rfl) (fun w' hw' => ?_) ?_ ?_
                rotate_left 2
                · have cx0 := FX0.out w' hw'; have cx1 := FX1.out w' hw'; have cp := FS.out w' hw'; go_simp <;> rfl
                · simp only [Act.put, List.setIfInBounds_toArray, List.set_cons_succ, List.set_cons_zero]; rfl
                refine QB.val' (v := ?_) (a' := ?_) (by kernel_rfl) (fun w' hw' => ?_) ?_ ?_
                rotate_left 2
                · have cx0 := FX0.out w' hw'; have cx1 := FX1.out w' hw'; have cp := FS.out w' hw'; go_simp <;> rfl
                · simp only [Act.put, List.setIfInBounds_toArray, List.set_cons_succ, List.set_cons_zero]; rfl
                refine QB.val' (v := ?_) (a' := ?_) (by kernel_rfl) (fun w' hw' => ?_) ?_ ?_
                rotate_left 2
                · have cx0 := FX0.out w' hw'; have cx1 := FX1.out w' hw'; have cp := FS.out w' hw'; go_simp <;> rfl
                · simp only [Act.put, List.setIfInBounds_toArray, List.set_cons_succ, List.set_cons_zero]; rfl
                refine QB.val' (v := ?_) (a' := ?_) (by kernel_rfl) (fun w' hw' => ?_) ?_ ?_
                rotate_left 2
                · have cx0 := FX0.out w' hw'; have cx1 := FX1.out w' hw'; have cp := FS.out w' hw'; go_simp <;> rfl
                · simp only [Act.put, List.setIfInBounds_toArray, List.set_cons_succ, List.set_cons_zero]; rfl
                refine QB.val' (v := ?_) (a' := ?_) (by kernel_rfl) (fun w' hw' => ?_) ?_ ?_
                rotate_left 2
                · have cx0 := FX0.out w' hw'; have cx1 := FX1.out w' hw'; have cp := FS.out w' hw'; go_simp <;> rfl
                · simp only [Act.put, List.setIfInBounds_toArray, List.set_cons_succ, List.set_cons_zero]; rfl
                refine QB.val' (v := ?_) (a' := ?_) (by kernel_rfl) (fun w' hw' => ?_) ?_ ?_
                rotate_left 2
                · have cx0 := FX0.out w' hw'; have cx1 := FX1.out w' hw'; have cp := FS.out w' hw'; go_simp <;> rfl
                · simp only [Act.put, List.setIfInBounds_toArray, List.set_cons_succ, List.set_cons_zero]; rfl
                refine QB.val' (v := ?_) (a' := ?_) (by kernel_rfl) (fun w' hw' => ?_) ?_ ?_
                rotate_left 2
                · have cx0 := FX0.out w' hw'; have cx1 := FX1.out w' hw'; have cp := FS.out w' hw'; go_simp <;> rfl
                · simp only [Act.put, List.setIfInBounds_toArray, List.set_cons_succ, List.set_cons_zero]; rfl
                refine QB.val' (v := ?_) (a' := ?_) (by kernel_rfl) (fun w' hw' => ?_) ?_ ?_
                rotate_left 2
                · have cx0 := FX0.out w' hw'; have cx1 := FX1.out w' hw'; have cp := FS.out w' hw'; go_simp <;> rfl
                · simp only [Act.put, List.setIfInBounds_toArray, List.set_cons_succ, List.set_cons_zero]; rfl
                refine QB.ld' (a' := ?_) (by kernel_rfl) 99 rfl rfl (fun w' hw' => FY.out w' hw') ?_ ?_
                rotate_left
                · simp only [Act.put, List.setIfInBounds_toArray, List.set_cons_succ, List.set_cons_zero]; rfl
                refine QB.val' (v := ?_) (a' := ?_) (by kernel_rfl) (fun w' hw' => ?_) ?_ ?_
                rotate_left 2
                · have cx0 := FX0.out w' hw'; have cx1 := FX1.out w' hw'; have cp := FS.out w' hw'; go_simp <;> rfl
                · simp only [Act.put, List.setIfInBounds_toArray, List.set_cons_succ, List.set_cons_zero]; rfl
                refine QB.val' (v := ?_) (a' := ?_) (by kernel_rfl) (fun w' hw' => ?_) ?_ ?_
                rotate_left 2
                · have cx0 := FX0.out w' hw'; have cx1 := FX1.out w' hw'; have cp := FS.out w' hw'; go_simp <;> rfl
                · simp only [Act.put, List.setIfInBounds_toArray, List.set_cons_succ, List.set_cons_zero]; rfl
                refine QB.val' (v := ?_) (a' := ?_) (by kernel_rfl) (fun w' hw' => ?_) ?_ ?_
                rotate_left 2
                · have cx0 := FX0.out w' hw'; have cx1 := FX1.out w' hw'; have cp := FS.out w' hw'; go_simp <;> rfl
                · simp only [Act.put, List.setIfInBounds_toArray, List.set_cons_succ, List.set_cons_zero]; rfl
                refine QB.val' (v := ?_) (a' := ?_) (by kernel_rfl) (fun w' hw' => ?_) ?_ ?_
                rotate_left 2
                · have cx0 := FX0.out w' hw'; have cx1 := FX1.out w' hw'; have cp := FS.out w' hw'; go_simp <;> rfl
                · simp only [Act.put, List.setIfInBounds_toArray, List.set_cons_succ, List.set_cons_zero]; rfl
                refine QB.call' (f := 93) (args := #[y.val, .int .u32 r.addr, .int .i64 r.bits]) (v := .int .i64 q) (a' := ?_) (by kernel_rfl) (fun w' hw' => ?_) (fun w' hw' => (byPre_any y r.addr r.bits w').mono fun _ _ ⟨h1, h2⟩ => ⟨h1.trans (by rw [HZ.out]), nextB hw' (Nat.le_refl _) h2⟩) ?_ ?_
                rotate_left
                · have cx0 := FX0.out w' hw'; have cx1 := FX1.out w' hw'; go_simp <;> rfl
                · simp only [Act.put, List.setIfInBounds_toArray, List.set_cons_succ, List.set_cons_zero]; rfl
                refine QB.val' (v := ?_) (a' := ?_) (by kernel_rfl) (fun w' hw' => ?_) ?_ ?_
                rotate_left 2
                · have cx0 := FX0.out w' hw'; have cx1 := FX1.out w' hw'; have cp := FS.out w' hw'; go_simp <;> rfl
                · simp only [Act.put, List.setIfInBounds_toArray, List.set_cons_succ, List.set_cons_zero]; rfl
                refine QB.val' (v := ?_) (a' := ?_) (by kernel_rfl) (fun w' hw' => ?_) ?_ ?_
                rotate_left 2
                · have cx0 := FX0.out w' hw'; have cx1 := FX1.out w' hw'; have cp := FS.out w' hw'; go_simp <;> rfl
                · simp only [Act.put, List.setIfInBounds_toArray, List.set_cons_succ, List.set_cons_zero]; rfl
                refine QB.val' (v := ?_) (a' := ?_) (by kernel_rfl) (fun w' hw' => ?_) ?_ ?_
                rotate_left 2
                · have cx0 := FX0.out w' hw'; have cx1 := FX1.out w' hw'; have cp := FS.out w' hw'; go_simp <;> rfl
                · simp only [Act.put, List.setIfInBounds_toArray, List.set_cons_succ, List.set_cons_zero]; rfl
                refine QB.nil' fun w' hw' => ?_
                have HW := Lib.hid hw'
                clear hw'
                go_wp2
                go_ret
                exact ⟨rfl, nextB HBW.out (Nat.le_refl _) HW.out⟩
              | false =>
                have HK := Lib.hid (Classical.not_not.1 (fun hn => of_decide_eq_false hZ ((r_lt y r.addr r.bits).2 hn)))
                obtain ⟨q, hq⟩ : ∃ q, preZ y r.addr r.bits = q := ⟨_, rfl⟩
                have HZ := Lib.hid hq
                rw [hq] at hZ
                have hZ' : ¬ 0 ≤ q := of_decide_eq_false hZ
                clear hZ hq
                refine QB.region' mixed (by kernel_rfl) ?_
                refine QB.val' (v := ?_) (a' := ?_) (by kernel_rfl) (fun w' hw' => ?_) ?_ ?_
                rotate_left 2
                · have cx0 := FX0.out w' hw'; have cx1 := FX1.out w' hw'; have cp := FS.out w' hw'; go_simp <;> rfl
                · simp only [Act.put, List.setIfInBounds_toArray, List.set_cons_succ, List.set_cons_zero]; rfl
                refine QB.val' (v := ?_) (a' := ?_) (by kernel_rfl) (fun w' hw' => ?_) ?_ ?_
                rotate_left 2
                · have cx0 := FX0.out w' hw'; have cx1 := FX1.out w' hw'; have cp := FS.out w' hw'; go_simp <;> rfl
                · simp only [Act.put, List.setIfInBounds_toArray, List.set_cons_succ, List.set_cons_zero]; rfl
                refine QB.val' (v := ?_) (a' := ?_) (by kernel_rfl) (fun w' hw' => ?_) ?_ ?_
                rotate_left 2
                · have cx0 := FX0.out w' hw'; have cx1 := FX1.out w' hw'; have cp := FS.out w' hw'; go_simp <;> rfl
                · simp only [Act.put, List.setIfInBounds_toArray, List.set_cons_succ, List.set_cons_zero]; rfl
                refine QB.val' (v := ?_) (a' := ?_) (by kernel_rfl) (fun w' hw' => ?_) ?_ ?_
                rotate_left 2
                · have cx0 := FX0.out w' hw'; have cx1 := FX1.out w' hw'; have cp := FS.out w' hw'; go_simp <;> rfl
                · simp only [Act.put, List.setIfInBounds_toArray, List.set_cons_succ, List.set_cons_zero]; rfl
                refine QB.call' (f := 92) (args := #[.int .u32 r.addr, .int .i64 r.bits]) (v := .bool true) (a' := ?_) (by kernel_rfl) (fun w' hw' => ?_) (fun w' hw' => (isPrefix_any r.addr r.bits w').mono fun _ _ ⟨h1, h2⟩ => ⟨h1.trans (by rw [HI.out]), h2 ▸ hw'⟩) ?_ ?_
                rotate_left
                · have cx0 := FX0.out w' hw'; have cx1 := FX1.out w' hw'; go_simp <;> rfl
                · simp only [Act.put, List.setIfInBounds_toArray, List.set_cons_succ, List.set_cons_zero]; rfl
                refine QB.val' (v := ?_) (a' := ?_) (by kernel_rfl) (fun w' hw' => ?_) ?_ ?_
                rotate_left 2
                · have cx0 := FX0.out w' hw'; have cx1 := FX1.out w' hw'; have cp := FS.out w' hw'; go_simp <;> rfl
                · simp only [Act.put, List.setIfInBounds_toArray, List.set_cons_succ, List.set_cons_zero]; rfl
                refine QB.val' (v := ?_) (a' := ?_) (by kernel_rfl) (fun w' hw' => ?_) ?_ ?_
                rotate_left 2
                · have cx0 := FX0.out w' hw'; have cx1 := FX1.out w' hw'; have cp := FS.out w' hw'; go_simp <;> rfl
                · simp only [Act.put, List.setIfInBounds_toArray, List.set_cons_succ, List.set_cons_zero]; rfl
                refine QB.val' (v := ?_) (a' := ?_) (by kernel_rfl) (fun w' hw' => ?_) ?_ ?_
                rotate_left 2
                · have cx0 := FX0.out w' hw'; have cx1 := FX1.out w' hw'; have cp := FS.out w' hw'; go_simp <;> rfl
                · simp only [Act.put, List.setIfInBounds_toArray, List.set_cons_succ, List.set_cons_zero]; rfl
                refine QB.val' (v := ?_) (a' := ?_) (by kernel_rfl) (fun w' hw' => ?_) ?_ ?_
                rotate_left 2
                · have cx0 := FX0.out w' hw'; have cx1 := FX1.out w' hw'; have cp := FS.out w' hw'; go_simp <;> rfl
                · simp only [Act.put, List.setIfInBounds_toArray, List.set_cons_succ, List.set_cons_zero]; rfl
                refine QB.val' (v := ?_) (a' := ?_) (by kernel_rfl) (fun w' hw' => ?_) ?_ ?_
                rotate_left 2
                · have cx0 := FX0.out w' hw'; have cx1 := FX1.out w' hw'; have cp := FS.out w' hw'; go_simp <;> rfl
                · simp only [Act.put, List.setIfInBounds_toArray, List.set_cons_succ, List.set_cons_zero]; rfl
                refine QB.val' (v := ?_) (a' := ?_) (by kernel_rfl) (fun w' hw' => ?_) ?_ ?_
                rotate_left 2
                · have cx0 := FX0.out w' hw'; have cx1 := FX1.out w' hw'; have cp := FS.out w' hw'; go_simp <;> rfl
                · simp only [Act.put, List.setIfInBounds_toArray, List.set_cons_succ, List.set_cons_zero]; rfl
                refine QB.val' (v := ?_) (a' := ?_) (by kernel_rfl) (fun w' hw' => ?_) ?_ ?_
                rotate_left 2
                · have cx0 := FX0.out w' hw'; have cx1 := FX1.out w' hw'; have cp := FS.out w' hw'; go_simp <;> rfl
                · simp only [Act.put, List.setIfInBounds_toArray, List.set_cons_succ, List.set_cons_zero]; rfl
                refine QB.val' (v := ?_) (a' := ?_) (by kernel_rfl) (fun w' hw' => ?_) ?_ ?_
                rotate_left 2
                · have cx0 := FX0.out w' hw'; have cx1 := FX1.out w' hw'; have cp := FS.out w' hw'; go_simp <;> rfl
                · simp only [Act.put, List.setIfInBounds_toArray, List.set_cons_succ, List.set_cons_zero]; rfl
                refine QB.val' (v := ?_) (a' := ?_) (by kernel_rfl) (fun w' hw' => ?_) ?_ ?_
                rotate_left 2
                · have cx0 := FX0.out w' hw'; have cx1 := FX1.out w' hw'; have cp := FS.out w' hw'; go_simp <;> rfl
                · simp only [Act.put, List.setIfInBounds_toArray, List.set_cons_succ, List.set_cons_zero]; rfl
                refine QB.val' (v := ?_) (a' := ?_) (by kernel_rfl) (fun w' hw' => ?_) ?_ ?_
                rotate_left 2
                · have cx0 := FX0.out w' hw'; have cx1 := FX1.out w' hw'; have cp := FS.out w' hw'; go_simp <;> rfl
                · simp only [Act.put, List.setIfInBounds_toArray, List.set_cons_succ, List.set_cons_zero]; rfl
                refine QB.ld' (a' := ?_) (by kernel_rfl) 99 rfl rfl (fun w' hw' => FY.out w' hw') ?_ ?_
                rotate_left
                · simp only [Act.put, List.setIfInBounds_toArray, List.set_cons_succ, List.set_cons_zero]; rfl
                refine QB.val' (v := ?_) (a' := ?_) (by kernel_rfl) (fun w' hw' => ?_) ?_ ?_
                rotate_left 2
                · have cx0 := FX0.out w' hw'; have cx1 := FX1.out w' hw'; have cp := FS.out w' hw'; go_simp <;> rfl
                · simp only [Act.put, List.setIfInBounds_toArray, List.set_cons_succ, List.set_cons_zero]; rfl
                refine QB.val' (v := ?_) (a' := ?_) (by kernel_rfl) (fun w' hw' => ?_) ?_ ?_
                rotate_left 2
                · have cx0 := FX0.out w' hw'; have cx1 := FX1.out w' hw'; have cp := FS.out w' hw'; go_simp <;> rfl
                · simp only [Act.put, List.setIfInBounds_toArray, List.set_cons_succ, List.set_cons_zero]; rfl
                refine QB.val' (v := ?_) (a' := ?_) (by kernel_rfl) (fun w' hw' => ?_) ?_ ?_
                rotate_left 2
                · have cx0 := FX0.out w' hw'; have cx1 := FX1.out w' hw'; have cp := FS.out w' hw'; go_simp <;> rfl
                · simp only [Act.put, List.setIfInBounds_toArray, List.set_cons_succ, List.set_cons_zero]; rfl
                refine QB.val' (v := ?_) (a' := ?_) (by kernel_rfl) (fun w' hw' => ?_) ?_ ?_
                rotate_left 2
                · have cx0 := FX0.out w' hw'; have cx1 := FX1.out w' hw'; have cp := FS.out w' hw'; go_simp <;> rfl
                · simp only [Act.put, List.setIfInBounds_toArray, List.set_cons_succ, List.set_cons_zero]; rfl
                refine QB.call' (f := 93) (args := #[y.val, .int .u32 r.addr, .int .i64 r.bits]) (v := .int .i64 q) (a' := ?_) (by kernel_rfl) (fun w' hw' => ?_) (fun w' hw' => (byPre_any y r.addr r.bits w').mono fun _ _ ⟨h1, h2⟩ => ⟨h1.trans (by rw [HZ.out]), nextB hw' (Nat.le_refl _) h2⟩) ?_ ?_
                rotate_left
                · have cx0 := FX0.out w' hw'; have cx1 := FX1.out w' hw'; go_simp <;> rfl
                · simp only [Act.put, List.setIfInBounds_toArray, List.set_cons_succ, List.set_cons_zero]; rfl
                refine QB.val' (v := ?_) (a' := ?_) (by kernel_rfl) (fun w' hw' => ?_) ?_ ?_
                rotate_left 2
                · have cx0 := FX0.out w' hw'; have cx1 := FX1.out w' hw'; have cp := FS.out w' hw'; go_simp <;> rfl
                · simp only [Act.put, List.setIfInBounds_toArray, List.set_cons_succ, List.set_cons_zero]; rfl
                refine QB.val' (v := ?_) (a' := ?_) (by kernel_rfl) (fun w' hw' => ?_) ?_ ?_
                rotate_left 2
                · have cx0 := FX0.out w' hw'; have cx1 := FX1.out w' hw'; have cp := FS.out w' hw'; go_simp <;> rfl
                · simp only [Act.put, List.setIfInBounds_toArray, List.set_cons_succ, List.set_cons_zero]; rfl
                refine QB.val' (v := ?_) (a' := ?_) (by kernel_rfl) (fun w' hw' => ?_) ?_ ?_
                rotate_left 2
                · have cx0 := FX0.out w' hw'; have cx1 := FX1.out w' hw'; have cp := FS.out w' hw'; go_simp <;> rfl
                · simp only [Act.put, List.setIfInBounds_toArray, List.set_cons_succ, List.set_cons_zero]; rfl
                refine QB.nil' fun w' hw' => ?_
                have HW := Lib.hid hw'
                clear hw'
                have HWb := Lib.hid (show Below w.heap.size w w' from nextB HBW.out (Nat.le_refl _) HW.out)
                have hl0 := FC.out w' HW.out
                have cx2 := FX2.out w' HW.out
                cases hh : has Mb.key (r.peer, 0) c.ps with
                | false =>
                  obtain rfl : z = 2 := by rw [← Hz.out]; exact if_neg (fun hv => by have := (hv.2.2.2.2.1 r (List.mem_of_getElem? HM.out)).2; rw [hh] at this; cases this)
                  have HAt := Lib.hid (At1_any (w := w') (B := B) (vp := (.slice A1 c.ps.length n1)) (vr := (.slice (some ⟨b0, off, none⟩) c.rs.length n2)) (HC.out.ps.below (HWb.out.mono HBw.out)) (by have := HN1.out; omega) HO1.out rfl rfl r.peer (Nat.le_trans HBw.out HWb.out.size))
                  rw [hh] at HAt
                  clear hh
                  go_wp2_with (first
                    | (refine QB.wpList_ld 25 rfl rfl hl0 rfl ?_)
                    | (go_at_call 94; refine HAt.out.mono ?_; rintro e w2 ⟨rfl, hb⟩; have HB2 := Lib.hid (nextB HWb.out (Nat.le_refl _) hb); clear hb)
                    | fail)
                  go_ret
                  exact ⟨rfl, HB2.out⟩
                | true =>
                  have HAt := Lib.hid (At1_any (w := w') (B := B) (vp := (.slice A1 c.ps.length n1)) (vr := (.slice (some ⟨b0, off, none⟩) c.rs.length n2)) (HC.out.ps.below (HWb.out.mono HBw.out)) (by have := HN1.out; omega) HO1.out rfl rfl r.peer (Nat.le_trans HBw.out HWb.out.size))
                  rw [hh] at HAt
                  have HH := Lib.hid hh
                  clear hh
                  go_wp2_with (first
                    | (refine QB.wpList_ld 25 rfl rfl hl0 rfl ?_)
                    | (go_at_call 94; refine HAt.out.mono ?_; rintro e w2 ⟨rfl, hb⟩; have HB2 := Lib.hid hb; clear hb)
                    | fail)
                  go_roundw
                  case rel =>
                    refine ⟨j + 1 + 1, by omega, by simp, ((HB.out.trans (HBW2.out.mono HB.out.size)).trans (HW.out.mono (by have := HB.out.size; have := HBW2.out.size; omega))).trans (HB2.out.mono (by have := HB.out.size; have := HBW2.out.size; have := HW.out.size; omega)), Lib.hid ⟨?_, ?_⟩⟩
                    · intro t m' ht' hm'
                      rcases Nat.lt_or_ge t (j + 1) with h | h
                      · exact I.out.1 t m' h hm'
                      · obtain rfl : t = (j + 1) := by omega
                        rw [HM.out] at hm'
                        cases hm'
                        exact ⟨HI.out, HH.out⟩
                    · exact ord_snoc HM.out I.out.2 (fun y' _ hy' => by rw [show j + 1 - 1 = j by omega, HY.out] at hy'; cases hy'; exact HK.out)
                  case measure => simp [intOf]; omega
        · have hlt' : ¬ (i : Int) < (c.rs.length : Int) := by omega
          obtain rfl : i = c.rs.length := by omega
          have HO2 := Lib.hid (show Ord Rt.key c.rs by have := I.out.2; rwa [List.take_length] at this)
          have HI2 := Lib.hid (show ∀ r ∈ c.rs, _ from fun r hr => by obtain ⟨t, ht⟩ := List.getElem?_of_mem hr; exact I.out.1 t r (List.getElem?_eq_some_iff.1 ht).1 ht)
          obtain rfl : z = 0 := by rw [← Hz.out]; exact if_pos ⟨HN1.out, HN2.out, HI1.out, HO1.out, HI2.out, HO2.out⟩
          go_wp2
          go_ret
          exact ⟨rfl, HB0.out.trans (HB.out.mono HB0.out.size)⟩
end Go.Proofs.Ytigjbgjjngeinaa.Cfg
