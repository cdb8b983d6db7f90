/- config: CheckOp. -/
import Derived.Test.YtedmogacklbcmaaCfgMem
import Derived.Test.YtedmogacklbcmaaCfgFind
import Derived.Test.YtedmogacklbcmaaSubRow
import Derived.Test.YtedmogacklbcmaaStage
namespace Go.Proofs.Ytedmogacklbcmaa.Cfg
open Go.RowKit
def Opn.cs (o : Opn) : List Value := .int .i64 o.kind :: .int .u64 o.ref :: .int .i64 o.id :: (o.ky.map bv ++ [.int .u32 o.addr, .int .i64 o.bits])
def Opn.val (o : Opn) : Value := .agg o.cs.toArray
theorem Opn.len {o : Opn} (h : o.ky.length = 32) : o.cs.length = 37 := by simp [Opn.cs, h]
theorem Opn.one (o : Opn) : ∀ v ∈ o.cs, v.oneCell' = true := by
  intro v hv
  simp only [Opn.cs, List.mem_cons, List.mem_append, List.mem_map, List.not_mem_nil, or_false] at hv
  rcases hv with rfl | rfl | rfl | ⟨u, _, rfl⟩ | rfl | rfl <;> rfl
section
variable {P : Program}
theorem run_equalIn_ints (d : Nat) {t e : TypeId} {n : Nat} {k : IntKind} (hu : P.underlying t = some (.array n e)) (he : P.underlying e = some (.int k)) (hs : (P.info? e).map (·.size) = some 1) (xs ys : List Int) (hx : xs.length = n) (hy : ys.length = n) (w : World) :
    (Op.equalIn (d + 1 + 1) t (.agg (xs.map (Value.int k)).toArray) (.agg (ys.map (Value.int k)).toArray)).run P w = .ok (decide (xs = ys)) w := by
  have hinner : ∀ (x y : Int), (Op.equalIn (d + 1) e (.int k x) (.int k y)).run P w = .ok (x == y) w := by
    intro x y
    simp [Op.equalIn, run_underlying he w]
  generalize hE : Op.equalIn (d + 1) = E at hinner
  unfold Op.equalIn
  rw [hE]
  simp only [Sem.run_bind, run_underlying hu w, Result.andThen_ok]
  have hsz : (sizeOf e).run P w = .ok 1 w := by
    cases hq : P.info? e with
    | none => simp [hq] at hs
    | some i =>
      have h1 : i.size = 1 := by simpa [hq] using hs
      simp [sizeOf, typeInfo, hq, h1]
  have hagg : (isAgg e).run P w = .ok false w := by
    unfold isAgg
    rw [Sem.run_bind, run_underlying he w]
    rfl
  have hpart : ∀ (zs : List Int) (i : Nat) (z : Int), zs[i]? = some z → (part e (zs.map (Value.int k)).toArray (i * 1)).run P w = .ok (.int k z) w := by
    intro zs i z hz
    have : (zs.map (Value.int k)).toArray[i * 1]? = some (.int k z) := by rw [Nat.mul_one, List.getElem?_toArray, List.getElem?_map, hz]; rfl
    simp only [part, Sem.run_bind, hagg, Result.andThen_ok, Bool.false_eq_true, if_false, this, Sem.run_pure]
  rw [hsz]
  simp only [Result.andThen_ok]
  rw [Std.Legacy.Range.forIn_eq_forIn_range']
  have key : ∀ l : List Nat, (∀ i ∈ l, i < n) → (forIn (m := Sem) l ((none : Option Bool), ()) fun i __s => do
              let __do_lift ← part e (List.map (Value.int k) xs).toArray (i * 1)
              let __do_lift_1 ← part e (List.map (Value.int k) ys).toArray (i * 1)
              let __do_lift ← E e __do_lift __do_lift_1
              if (!__do_lift) = true then pure (ForInStep.done (some false, ())) else pure (ForInStep.yield (none, ()))).run P w = .ok (if (l.all fun i => xs[i]? == ys[i]?) = true then (none, ()) else (some false, ())) w := by
    intro l
    induction l with
    | nil => intro _; simp
    | cons i l ih =>
      intro hl
      have hi := hl i (List.mem_cons_self ..)
      obtain ⟨x, hx'⟩ : ∃ x, xs[i]? = some x := ⟨_, List.getElem?_eq_getElem (by omega)⟩
      obtain ⟨y, hy'⟩ : ∃ y, ys[i]? = some y := ⟨_, List.getElem?_eq_getElem (by omega)⟩
      rw [List.forIn_cons]
      simp only [Sem.run_bind, hpart _ _ _ hx', hpart _ _ _ hy', hinner, Result.andThen_ok]
      by_cases hxy : x = y
      · subst hxy
        simp only [beq_self_eq_true, Bool.not_true, Bool.false_eq_true, if_false, Sem.run_pure, Result.andThen_ok]
        rw [ih fun j hj => hl j (List.mem_cons_of_mem _ hj)]
        simp [hx', hy']
      · have hb : (x == y) = false := by simp [hxy]
        simp only [hb, Bool.not_false, if_true, Sem.run_pure, Result.andThen_ok]
        simp [hx', hy', hxy]
  rw [key _ (fun i hi => by simp [List.mem_range'] at hi; omega)]
  simp only [Result.andThen_ok]
  by_cases hxy : xs = ys
  · subst hxy
    simp
  · have : ¬ ((List.range' 0 n).all fun i => xs[i]? == ys[i]?) = true := by
      intro hall
      apply hxy
      apply List.ext_getElem?
      intro i
      by_cases hi : i < n
      · have := List.all_eq_true.1 hall i (by simp [List.mem_range']; omega)
        simpa using this
      · rw [List.getElem?_eq_none (by omega), List.getElem?_eq_none (by omega)]
    rw [if_neg (fun h => this (by simpa using h))]
    simp [hxy]
theorem part_one {t : TypeId} {d : TypeDesc} {cs : List Value} {i : Nat} {v : Value} (w : World) (hu : P.underlying t = some d) (hd : (match d with | .struct _ | .array _ _ => true | _ => false) = false) (hv : cs[i]? = some v) : (part t cs.toArray i).run P w = .ok v w := by
  have hagg : (isAgg t).run P w = .ok false w := by
    unfold isAgg
    rw [Sem.run_bind, run_underlying hu w]
    cases d <;> simp_all
  have hv' : cs.toArray[i]? = some v := by simpa using hv
  simp only [part, Sem.run_bind, hagg, Result.andThen_ok, Bool.false_eq_true, if_false, hv', Sem.run_pure]
theorem part_arr {t : TypeId} {d : TypeDesc} {cs : List Value} {i n : Nat} (w : World) (hu : P.underlying t = some d) (hd : (match d with | .struct _ | .array _ _ => true | _ => false) = true) (hs : (P.info? t).map (·.size) = some n) :
    (part t cs.toArray i).run P w = .ok (.agg ((cs.drop i).take n).toArray) w := by
  have hagg : (isAgg t).run P w = .ok true w := by
    unfold isAgg
    rw [Sem.run_bind, run_underlying hu w]
    cases d <;> simp_all
  have hsz : (sizeOf t).run P w = .ok n w := by
    cases hq : P.info? t with
    | none => simp [hq] at hs
    | some i =>
      have h1 : i.size = n := by simpa [hq] using hs
      simp [sizeOf, typeInfo, hq, h1]
  simp only [part, Sem.run_bind, hagg, Result.andThen_ok, if_true, hsz, Sem.run_pure]
  congr 2
  simp
end
theorem bytes_ints {x y : List UInt8} : (x.map fun u => (u.toNat : Int)) = (y.map fun u => (u.toNat : Int)) ↔ x = y := by
  constructor
  · intro h
    have hinj : Function.Injective (fun u : UInt8 => (u.toNat : Int)) := fun a b hab => UInt8.toNat.inj (by have : (a.toNat : Int) = (b.toNat : Int) := hab; omega)
    exact (List.map_inj_right (fun a b hab => hinj hab)).1 h
  · intro h; rw [h]
set_option maxRecDepth 100000 in
theorem eqIn_key (d : Nat) (x y : List UInt8) (hx : x.length = 32) (hy : y.length = 32) (w : World) : (Op.equalIn (d + 1 + 1) 27 (.agg (x.map bv).toArray) (.agg (y.map bv).toArray)).run Try.prog w = .ok (decide (x = y)) w := by
  have h := run_equalIn_ints (P := Try.prog) d Try.underlying27 Try.underlying5 (by kernel_rfl) (x.map fun u => (u.toNat : Int)) (y.map fun u => (u.toNat : Int)) (by simpa using hx) (by simpa using hy) w
  rw [List.map_map, List.map_map] at h
  rw [show decide (x = y) = decide ((x.map fun u => (u.toNat : Int)) = (y.map fun u => (u.toNat : Int))) from decide_eq_decide.2 bytes_ints.symm]
  exact h
theorem eqIn_int (d : Nat) {t : TypeId} {k : IntKind} (he : Try.prog.underlying t = some (.int k)) (a b : Int) (w : World) : (Op.equalIn (d + 1) t (.int k a) (.int k b)).run Try.prog w = .ok (a == b) w := by simp [Op.equalIn, run_underlying he w]
theorem eqIn_bool (d : Nat) {t : TypeId} (he : Try.prog.underlying t = some .bool) (a b : Bool) (w : World) : (Op.equalIn (d + 1) t (.bool a) (.bool b)).run Try.prog w = .ok (a == b) w := by simp [Op.equalIn, run_underlying he w]
set_option maxRecDepth 100000 in
set_option maxHeartbeats 1000000 in
theorem eq_rt (x y : Rt) (w : World) : (Op.equal 98 x.val y.val).run Try.prog w = .ok (decide (x = y)) w := by
  suffices hd : ∀ d, (Op.equalIn (d + 1 + 1 + 1) 98 (.agg x.cs.toArray) (.agg y.cs.toArray)).run Try.prog w = .ok (decide (x = y)) w from hd 9997
  intro d
  have hI := fun a b : Int => eqIn_int (d + 1) Try.underlying3 a b w
  have hU := fun a b : Int => eqIn_int (d + 1) Try.underlying28 a b w
  have p0 : ∀ r : Rt, (part 28 r.cs.toArray 0).run Try.prog w = .ok (.int .u32 r.addr) w := fun r => part_one w Try.underlying28 rfl rfl
  have p1 : ∀ r : Rt, (part 3 r.cs.toArray 1).run Try.prog w = .ok (.int .i64 r.bits) w := fun r => part_one w Try.underlying3 rfl rfl
  have p2 : ∀ r : Rt, (part 3 r.cs.toArray 2).run Try.prog w = .ok (.int .i64 r.peer) w := fun r => part_one w Try.underlying3 rfl rfl
  have hst : Try.prog.stoodInHeld 98 = false := by kernel_rfl
  have hp : (program : Sem Program).run Try.prog w = .ok Try.prog w := rfl
  replace hI : ∀ a b : Int, (Op.equalIn (d + 2) 3 (.int .i64 a) (.int .i64 b)).run Try.prog w = .ok (a == b) w := hI
  replace hU : ∀ a b : Int, (Op.equalIn (d + 2) 28 (.int .u32 a) (.int .u32 b)).run Try.prog w = .ok (a == b) w := hU
  unfold Op.equalIn
  simp only [Sem.run_bind, run_underlying Try.underlying98 w, Result.andThen_ok, hp, hst, Bool.false_eq_true, if_false]
  have hx : decide (x = y) = ((x.addr == y.addr) && ((x.bits == y.bits) && (x.peer == y.peer))) := by
    rw [Bool.eq_iff_iff]
    cases x; cases y
    simp
  rw [hx]
  cases h1 : x.addr == y.addr <;> cases h2 : x.bits == y.bits <;> cases h3 : x.peer == y.peer <;> simp [List.forIn_toArray, p0, p1, p2, hI, hU, h1, h2, h3, -beq_eq_false_iff_ne, -beq_iff_eq]
theorem for_fields {P : Program} (E : TypeId → Value → Value → Sem Bool) (xs ys : Array Value) (w : World) : ∀ (l : List Field) (bs : List Bool), l.length = bs.length →
    (∀ (j : Nat) (f : Field) (b : Bool), l[j]? = some f → bs[j]? = some b → f.name ≠ "_" ∧ ∃ u v, (part f.type xs f.offset).run P w = .ok u w ∧ (part f.type ys f.offset).run P w = .ok v w ∧ (E f.type u v).run P w = .ok b w) →
    (forIn (m := Sem) l ((none : Option Bool), ()) fun f __s =>
                    if f.name ≠ "_" then do
                      let __do_lift ← part f.type xs f.offset
                      let __do_lift_1 ← part f.type ys f.offset
                      let __do_lift ← E f.type __do_lift __do_lift_1
                      if (!__do_lift) = true then pure (ForInStep.done (some false, ()))
                        else pure (ForInStep.yield (none, ()))
                    else pure (ForInStep.yield (none, ()))).run P w = .ok (if bs.all id = true then (none, ()) else (some false, ())) w
  | [], [], _, _ => by simp
  | f :: l, b :: bs, hl, h => by
    obtain ⟨h1, u, v, h2, h3, h4⟩ := h 0 f b rfl rfl
    have ih := for_fields E xs ys w l bs (by simpa using hl) fun j f' b' hf hb => h (j + 1) f' b' (by simpa using hf) (by simpa using hb)
    rw [List.forIn_cons]
    simp only [h1, ne_eq, not_false_eq_true, if_true, Sem.run_bind, h2, h3, h4, Result.andThen_ok]
    cases b with
    | true =>
      simp only [Bool.not_true, Bool.false_eq_true, if_false, Sem.run_pure, Result.andThen_ok]
      rw [ih]
      simp
    | false => simp
set_option maxRecDepth 100000 in
set_option maxHeartbeats 1000000 in
theorem eq_mb (x y : Mb) (hkx : x.ky.length = 32) (hky : y.ky.length = 32) (w : World) : (Op.equal 95 x.val y.val).run Try.prog w = .ok (decide (x = y)) w := by
  suffices hd : ∀ d, (Op.equalIn (d + 1 + 1 + 1) 95 (.agg x.cs.toArray) (.agg y.cs.toArray)).run Try.prog w = .ok (decide (x = y)) w from hd 9997
  intro d
  have p0 : ∀ r : Mb, (part 3 r.cs.toArray 0).run Try.prog w = .ok (.int .i64 r.id) w := fun r => part_one w Try.underlying3 rfl rfl
  have p1 : ∀ r : Mb, r.ky.length = 32 → (part 27 r.cs.toArray 1).run Try.prog w = .ok (.agg (r.ky.map bv).toArray) w := fun r hr => by
    rw [part_arr w Try.underlying27 rfl (show (Try.prog.info? 27).map (·.size) = some 32 by kernel_rfl)]
    congr 3
    show (r.ky.map bv ++ [Value.bool r.off]).take 32 = _
    rw [List.take_left' (by rw [List.length_map, hr])]
  have p2 : ∀ r : Mb, r.ky.length = 32 → (part 4 r.cs.toArray 33).run Try.prog w = .ok (.bool r.off) w := fun r hr => part_one w Try.underlying4 rfl (by
    show (r.ky.map bv ++ [Value.bool r.off])[32]? = _
    rw [List.getElem?_append_right (by rw [List.length_map, hr]; omega), List.length_map, hr]; rfl)
  have hst : Try.prog.stoodInHeld 95 = false := by kernel_rfl
  have hp : (program : Sem Program).run Try.prog w = .ok Try.prog w := rfl
  unfold Op.equalIn
  simp only [Sem.run_bind, run_underlying Try.underlying95 w, Result.andThen_ok, hp, hst, Bool.false_eq_true, if_false, List.forIn_toArray]
  have hx : decide (x = y) = [x.id == y.id, decide (x.ky = y.ky), x.off == y.off].all id := by
    rw [Bool.eq_iff_iff]
    cases x; cases y
    simp
  rw [hx, for_fields (Op.equalIn (d + 2)) _ _ w _ [x.id == y.id, decide (x.ky = y.ky), x.off == y.off] rfl (fun j f b hf hb => by
    match j, hf, hb with
    | 0, hf, hb => cases hf; cases hb; exact ⟨by decide, _, _, p0 x, p0 y, eqIn_int (d + 1) Try.underlying3 _ _ w⟩
    | 1, hf, hb => cases hf; cases hb; exact ⟨by decide, _, _, p1 x hkx, p1 y hky, eqIn_key d _ _ hkx hky w⟩
    | 2, hf, hb => cases hf; cases hb; exact ⟨by decide, _, _, p2 x hkx, p2 y hky, eqIn_bool (d + 1) Try.underlying4 _ _ w⟩
    | n + 3, hf, _ => simp at hf)]
  generalize [x.id == y.id, decide (x.ky = y.ky), x.off == y.off].all id = q
  cases q <;> simp
set_option maxRecDepth 100000 in
set_option maxHeartbeats 1000000 in
theorem eq_op (x y : Opn) (hkx : x.ky.length = 32) (hky : y.ky.length = 32) (w : World) : (Op.equal 30 x.val y.val).run Try.prog w = .ok (decide (x = y)) w := by
  suffices hd : ∀ d, (Op.equalIn (d + 1 + 1 + 1) 30 (.agg x.cs.toArray) (.agg y.cs.toArray)).run Try.prog w = .ok (decide (x = y)) w from hd 9997
  intro d
  have p0 : ∀ r : Opn, (part 3 r.cs.toArray 0).run Try.prog w = .ok (.int .i64 r.kind) w := fun r => part_one w Try.underlying3 rfl rfl
  have p1 : ∀ r : Opn, (part 26 r.cs.toArray 1).run Try.prog w = .ok (.int .u64 r.ref) w := fun r => part_one w Try.underlying26 rfl rfl
  have p2 : ∀ r : Opn, (part 3 r.cs.toArray 2).run Try.prog w = .ok (.int .i64 r.id) w := fun r => part_one w Try.underlying3 rfl rfl
  have p3 : ∀ r : Opn, r.ky.length = 32 → (part 27 r.cs.toArray 3).run Try.prog w = .ok (.agg (r.ky.map bv).toArray) w := fun r hr => by
    rw [part_arr w Try.underlying27 rfl (show (Try.prog.info? 27).map (·.size) = some 32 by kernel_rfl)]
    congr 3
    show (r.ky.map bv ++ _).take 32 = _
    rw [List.take_left' (by rw [List.length_map, hr])]
  have p4 : ∀ r : Opn, r.ky.length = 32 → (part 28 r.cs.toArray 35).run Try.prog w = .ok (.int .u32 r.addr) w := fun r hr => part_one w Try.underlying28 rfl (by
    show (r.ky.map bv ++ [Value.int .u32 r.addr, Value.int .i64 r.bits])[32]? = _
    rw [List.getElem?_append_right (by rw [List.length_map, hr]; omega), List.length_map, hr]; rfl)
  have p5 : ∀ r : Opn, r.ky.length = 32 → (part 3 r.cs.toArray 36).run Try.prog w = .ok (.int .i64 r.bits) w := fun r hr => part_one w Try.underlying3 rfl (by
    show (r.ky.map bv ++ [Value.int .u32 r.addr, Value.int .i64 r.bits])[33]? = _
    rw [List.getElem?_append_right (by rw [List.length_map, hr]; omega), List.length_map, hr]; rfl)
  have hst : Try.prog.stoodInHeld 30 = false := by kernel_rfl
  have hp : (program : Sem Program).run Try.prog w = .ok Try.prog w := rfl
  unfold Op.equalIn
  simp only [Sem.run_bind, run_underlying Try.underlying30 w, Result.andThen_ok, hp, hst, Bool.false_eq_true, if_false, List.forIn_toArray]
  have hx : decide (x = y) = [x.kind == y.kind, x.ref == y.ref, x.id == y.id, decide (x.ky = y.ky), x.addr == y.addr, x.bits == y.bits].all id := by
    rw [Bool.eq_iff_iff]
    cases x; cases y
    simp
  rw [hx, for_fields (Op.equalIn (d + 2)) _ _ w _ [x.kind == y.kind, x.ref == y.ref, x.id == y.id, decide (x.ky = y.ky), x.addr == y.addr, x.bits == y.bits] rfl (fun j f b hf hb => by
    match j, hf, hb with
    | 0, hf, hb => cases hf; cases hb; exact ⟨by decide, _, _, p0 x, p0 y, eqIn_int (d + 1) Try.underlying3 _ _ w⟩
    | 1, hf, hb => cases hf; cases hb; exact ⟨by decide, _, _, p1 x, p1 y, eqIn_int (d + 1) Try.underlying26 _ _ w⟩
    | 2, hf, hb => cases hf; cases hb; exact ⟨by decide, _, _, p2 x, p2 y, eqIn_int (d + 1) Try.underlying3 _ _ w⟩
    | 3, hf, hb => cases hf; cases hb; exact ⟨by decide, _, _, p3 x hkx, p3 y hky, eqIn_key d _ _ hkx hky w⟩
    | 4, hf, hb => cases hf; cases hb; exact ⟨by decide, _, _, p4 x hkx, p4 y hky, eqIn_int (d + 1) Try.underlying28 _ _ w⟩
    | 5, hf, hb => cases hf; cases hb; exact ⟨by decide, _, _, p5 x hkx, p5 y hky, eqIn_int (d + 1) Try.underlying3 _ _ w⟩
    | n + 6, hf, _ => simp at hf)]
  generalize [x.kind == y.kind, x.ref == y.ref, x.id == y.id, decide (x.ky = y.ky), x.addr == y.addr, x.bits == y.bits].all id = q
  cases q <;> simp
/-- As operations of a walk. -/
theorem guard_of {t : TypeId} (hg : Try.prog.eqGuardType Try.prog.depth t = false) (op : BinOp) (u v : Operand) (xs ys : Array Value) (w : World) : (eqGuard op t u v (.agg xs) (.agg ys)).run Try.prog w = .ok () w := by
  cases op <;> simp [eqGuard, Sem.run_bind, hg]
theorem neq_of {t : TypeId} {xs ys : Array Value} {r : Bool} {w : World} (h : (Op.equal t (.agg xs) (.agg ys)).run Try.prog w = .ok r w) : (binOp .neq t (.agg xs) (.agg ys)).run Try.prog w = .ok (.bool (!r)) w := by simp [binOp, h]
theorem eql_of {t : TypeId} {xs ys : Array Value} {r : Bool} {w : World} (h : (Op.equal t (.agg xs) (.agg ys)).run Try.prog w = .ok r w) : (binOp .eql t (.agg xs) (.agg ys)).run Try.prog w = .ok (.bool r) w := by simp [binOp, h]
set_option maxRecDepth 100000 in
theorem g_mb : Try.prog.eqGuardType Try.prog.depth 95 = false := by kernel_rfl
set_option maxRecDepth 100000 in
theorem g_rt : Try.prog.eqGuardType Try.prog.depth 98 = false := by kernel_rfl
set_option maxRecDepth 100000 in
theorem g_op : Try.prog.eqGuardType Try.prog.depth 30 = false := by kernel_rfl
end Go.Proofs.Ytedmogacklbcmaa.Cfg
namespace Go.Proofs.Ytedmogacklbcmaa.Cfg
open Go.RowKit
instance (c : Cf) : Decidable (Val c) := by unfold Val Ord; infer_instance
def checkZ (c : Cf) : Int := if Val c then 0 else 2
/-- A configuration as an argument. -/
structure CAt (w : World) (B : Nat) (vp vr : Value) (c : Cf) : Prop where
  ps : MTab w B vp c.ps
  rs : RTab w B vr c.rs
theorem CAt.below {w w' : World} {B : Nat} {vp vr : Value} {c : Cf} (h : CAt w B vp vr c) (hb : Below B w w') : CAt w' B vp vr c := ⟨h.1.below hb, h.2.below hb⟩
theorem CAt.more {w : World} {B B' : Nat} {vp vr : Value} {c : Cf} (h : CAt w B vp vr c) (hB : B ≤ B') : CAt w B' vp vr c := ⟨h.1.more hB, h.2.more hB⟩
theorem CAt.shape {w : World} {B : Nat} {vp vr : Value} {c : Cf} (h : CAt w B vp vr c) : ∃ A1 n1 A2 n2, vp = .slice A1 c.ps.length n1 ∧ vr = .slice A2 c.rs.length n2 := by
  obtain ⟨A1, n1, e1, _⟩ := h.1.2.shape
  obtain ⟨A2, n2, e2, _⟩ := (show Tab 3 w B vr c.rs.length (rcs c.rs) from h.2).shape
  exact ⟨A1, n1, A2, n2, e1, e2⟩
theorem ord_snoc {α : Type} {key : α → Ky} {l : List α} {i : Nat} {x : α} (hx : l[i]? = some x) (h : Ord key (l.take i)) (hy : ∀ y, i ≠ 0 → l[i - 1]? = some y → klt (key y) (key x)) : Ord key (l.take (i + 1)) := by
  rw [List.take_add_one, hx]
  show Ord key (l.take i ++ [x])
  cases i with
  | zero => simp [Ord]
  | succ j =>
    have hlt := (List.getElem?_eq_some_iff.1 hx).1
    have hj : l[j]? = some l[j] := List.getElem?_eq_getElem (by omega)
    have := hy l[j] (by omega) (by simp)
    rw [List.take_add_one, hj] at h ⊢
    exact Ord.snoc h this
theorem not_ord {α : Type} {key : α → Ky} {l : List α} {i : Nat} {x y : α} (hx : l[i + 1]? = some x) (hy : l[i]? = some y) (h : ¬ klt (key y) (key x)) : ¬ Ord key l := by
  intro ho
  have h1 := List.getElem?_eq_some_iff.1 hx
  have h2 := List.getElem?_eq_some_iff.1 hy
  have := List.pairwise_iff_getElem.1 ho i (i + 1) h2.1 h1.1 (by omega)
  rw [h1.2, h2.2] at this
  exact h this
theorem wrap_small {j : Nat} (h : (j : Int) ≤ 1000000) : IntKind.i64.wrap (j : Int) = (j : Int) := by
  rw [IntKind.wrap_i64]
  omega
set_option maxRecDepth 100000 in
theorem zero_mb : (Try.prog.info? 95).bind (·.zero) = some (.agg (Mb.cs ⟨0, zkey, false⟩).toArray) := by kernel_rfl
set_option maxRecDepth 100000 in
theorem zero_rt : (Try.prog.info? 98).bind (·.zero) = some (.agg (Rt.cs ⟨0, 0, 0⟩).toArray) := by kernel_rfl
set_option maxRecDepth 100000 in
set_option maxHeartbeats 1500000 in
theorem Check_any {w : World} {B : Nat} {vp vr : Value} {c : Cf} (h : CAt w B vp vr c) (hB : B ≤ w.heap.size) : Calls Try.prog 38 #[.agg #[vp, vr]] w fun e w' => e = .returned (.int .i64 (checkZ c)) ∧ Below w.heap.size w w' := by
  obtain ⟨A1, n1, A2, n2, rfl, rfl⟩ := h.shape
  obtain ⟨z, hz⟩ : ∃ z, checkZ c = z := ⟨_, rfl⟩
  rw [hz]
  have Hz := Lib.hid hz
  have HC := Lib.hid h
  have HBw := Lib.hid hB
  clear h hz hB
  by_cases h1 : 64 < c.ps.length
  · have h1' : (64 : Int) < (c.ps.length : Int) := by omega
    obtain rfl : z = 2 := by rw [← Hz.out]; exact if_neg (fun hv => by have := hv.1; omega)
    go_enter Try.func38, Try.ntmps38
    go_wp2
    go_ret
    exact ⟨rfl, (Below.refl _ w).alloc (Nat.le_refl _) _⟩
  by_cases h2 : 256 < c.rs.length
  · have h1' : ¬ (64 : Int) < (c.ps.length : Int) := by omega
    have h2' : (256 : Int) < (c.rs.length : Int) := by omega
    obtain rfl : z = 2 := by rw [← Hz.out]; exact if_neg (fun hv => by have := hv.2.1; omega)
    go_enter Try.func38, Try.ntmps38
    go_wp2
    go_ret
    exact ⟨rfl, (Below.refl _ w).alloc (Nat.le_refl _) _⟩
  have h1' : ¬ (64 : Int) < (c.ps.length : Int) := by omega
  have h2' : ¬ (256 : Int) < (c.rs.length : Int) := by omega
  have HN1 := Lib.hid (show c.ps.length ≤ 64 by omega)
  have HN2 := Lib.hid (show c.rs.length ≤ 256 by omega)
  clear h1 h2
  obtain ⟨W0, hW0⟩ : ∃ W0, w.alloc (.cells #[.slice A1 c.ps.length n1, .slice A2 c.rs.length n2] 25) = W0 := ⟨_, rfl⟩
  have hr0 : Row W0 w.heap.size [.slice A1 c.ps.length n1, .slice A2 c.rs.length n2] 25 := hW0 ▸ Row.new rfl rfl
  have HB0 := Lib.hid (show Below w.heap.size w W0 from hW0 ▸ (Below.refl _ w).alloc (Nat.le_refl _) _)
  have FP := Lib.hid (fun w' (h : Below W0.heap.size W0 w') => (h.cell (p := ⟨w.heap.size, 0, none⟩) hr0.lt).trans (hr0.cell rfl))
  have FR := Lib.hid (fun w' (h : Below W0.heap.size W0 w') => (h.cell (p := ⟨w.heap.size, 1, none⟩) hr0.lt).trans (hr0.cell rfl))
  have c0 := FP.out W0 (Below.refl _ _)
  have c1 := FR.out W0 (Below.refl _ _)
  have FCF := Lib.hid (fun w' (h : Below W0.heap.size W0 w') => show (loadVar 25 ⟨w.heap.size, 0, none⟩).run Try.prog w' = .ok (.agg #[.slice A1 c.ps.length n1, .slice A2 c.rs.length n2]) w' from Pol.run_loadVar_sub (P := Try.prog) (off := 0) (n := 2) w' (hr0.below h hr0.lt) Try.underlying25 rfl (by kernel_rfl) (by simp))
  clear hr0
  go_enter Try.func38, Try.ntmps38
  go_wp2_with fail
  clear hW0 c0 c1
  go_loopw [22] (fun iv wr => ∃ i : Nat, i ≤ c.ps.length ∧ iv = .int .i64 (i : Int) ∧ Below W0.heap.size W0 wr ∧ Hid ((∀ t m, t < i → c.ps[t]? = some m → isIDB m.id = true) ∧ Ord Mb.key (c.ps.take i))) (fun iv _ => c.ps.length - (intOf iv).toNat)
  case atStart => exact ⟨0, Nat.zero_le _, rfl, Below.refl _ _, Lib.hid ⟨fun t m ht => absurd ht (Nat.not_lt_zero _), by simp [Ord]⟩⟩
  case round =>
    obtain ⟨i, hi, rfl, hb, I⟩ := hrel
    have HB := Lib.hid hb
    clear hb
    have hN := HN1.out
    have hi2 : (i : Int) ≤ 64 := by omega
    clear hN
    by_cases hlt : i < c.ps.length
    · have hlt' : (i : Int) < (c.ps.length : Int) := by omega
      obtain ⟨m, hm⟩ : ∃ m, c.ps[i]? = some m := ⟨_, List.getElem?_eq_getElem hlt⟩
      have HM := Lib.hid hm
      have hB1 : Hid (Below w.heap.size w wr) := Lib.hid (HB0.out.trans (HB.out.mono HB0.out.size))
      have FM := Lib.hid (fun (t : Nat) (y : Mb) (hy : c.ps[t]? = some y) w' (h : Below wr.heap.size wr w') => (HC.out.ps.below ((hB1.out.trans (h.mono hB1.out.size)).mono HBw.out)).at hy)
      obtain ⟨b0, off, e, _, _, _⟩ := FM.out i m hm wr (Below.refl _ _)
      subst e
      have FL := Lib.hid (fun (t : Nat) (y : Mb) (hy : c.ps[t]? = some y) w' (h : Below wr.heap.size wr w') => by
        obtain ⟨b', off', e, _, _, hl⟩ := FM.out t y hy w' h
        cases e
        exact hl)
      have hld := Lib.hid (FL.out i m hm wr (Below.refl _ _))
      have hk := Lib.hid (HC.out.ps.1 m (List.mem_of_getElem? hm))
      clear FM hm
      go_wp2_with (first
        | (refine QB.wpList_ld 95 rfl rfl hld.out rfl ?_)
        | (refine QB.wpList_alloc rfl 95 rfl zero_mb ?_; intro W1 hr1 hb1; have HR1 := Lib.hid (show Row W1 wr.heap.size (Mb.cs ⟨0, zkey, false⟩) 95 from hr1); have HB1 := Lib.hid hb1; clear hr1 hb1)
        | (refine wpList_storeRow rfl 95 (.tmp 4) (.tmp 26) rfl rfl (cs := m.cs) rfl HR1.out (by kernel_rfl) (Mb.len hk.out) (Mb.len rfl) m.one ?_)
        | fail)
      refine QB.code_name fun W hW => ?_
      have hRW : Row W wr.heap.size m.cs 95 := hW ▸ HR1.out.setRow m.cs
      have HBW2 := Lib.hid (show Below wr.heap.size wr W from hW ▸ below_setRow HB1.out (Nat.le_refl _) _)
      have HBW := Lib.hid (show Below w.heap.size w W from nextB hB1.out (Nat.le_refl _) HBW2.out)
      have FX0 := Lib.hid (fun w' (h : Below W.heap.size W w') => (h.cell (p := ⟨wr.heap.size, 0, none⟩) hRW.lt).trans (hRW.cell rfl))
      have FS := Lib.hid (fun w' (h : Below W.heap.size W w') => FP.out w' ((HB.out.trans (HBW2.out.mono HB.out.size)).trans (h.mono (by have := HB.out.size; have := HBW2.out.size; omega))))
      clear hW hRW HR1 HB1
      cases hI : isIDB m.id with
      | false =>
        obtain rfl : z = 2 := by rw [← Hz.out]; exact if_neg (fun hv => by have := hv.2.2.1 m (List.mem_of_getElem? HM.out); rw [hI] at this; cases this)
        have HI := Lib.hid hI
        clear hI
        refine QB.region' mixed (by kernel_rfl) ?_
        refine QB.val' (v := ?_) (a' := ?_) (by kernel_rfl) (fun w' hw' => ?_) ?_ ?_
        rotate_left 2
        · have cx0 := FX0.out w' hw'; have cp := FS.out w' hw'; go_simp <;> rfl
        · simp only [Act.put, List.setIfInBounds_toArray, List.set_cons_succ, List.set_cons_zero]; rfl
        refine QB.val' (v := ?_) (a' := ?_) (by kernel_rfl) (fun w' hw' => ?_) ?_ ?_
        rotate_left 2
        · have cx0 := FX0.out w' hw'; have cp := FS.out w' hw'; go_simp <;> rfl
        · simp only [Act.put, List.setIfInBounds_toArray, List.set_cons_succ, List.set_cons_zero]; rfl
        refine QB.call' (f := 88) (args := #[.int .i64 m.id]) (v := .bool false) (a' := ?_) (by kernel_rfl) (fun w' hw' => ?_) (fun w' hw' => (isID_any m.id w').mono fun _ _ ⟨h1, h2⟩ => ⟨h1.trans (by rw [HI.out]), h2 ▸ hw'⟩) ?_ ?_
        rotate_left
        · have cx0 := FX0.out w' hw'; go_simp <;> rfl
        · simp only [Act.put, List.setIfInBounds_toArray, List.set_cons_succ, List.set_cons_zero]; rfl
        refine QB.val' (v := ?_) (a' := ?_) (by kernel_rfl) (fun w' hw' => ?_) ?_ ?_
        rotate_left 2
        · have cx0 := FX0.out w' hw'; have cp := FS.out w' hw'; go_simp <;> rfl
        · simp only [Act.put, List.setIfInBounds_toArray, List.set_cons_succ, List.set_cons_zero]; rfl
        refine QB.val' (v := ?_) (a' := ?_) (by kernel_rfl) (fun w' hw' => ?_) ?_ ?_
        rotate_left 2
        · have cx0 := FX0.out w' hw'; have cp := FS.out w' hw'; go_simp <;> rfl
        · simp only [Act.put, List.setIfInBounds_toArray, List.set_cons_succ, List.set_cons_zero]; rfl
        refine QB.no' (a' := ?_) (by kernel_rfl) ?_ ?_
        rotate_left
        · simp only [Act.put, List.setIfInBounds_toArray, List.set_cons_succ, List.set_cons_zero]; rfl
        refine QB.no' (a' := ?_) (by kernel_rfl) ?_ ?_
        rotate_left
        · simp only [Act.put, List.setIfInBounds_toArray, List.set_cons_succ, List.set_cons_zero]; rfl
        refine QB.no' (a' := ?_) (by kernel_rfl) ?_ ?_
        rotate_left
        · simp only [Act.put, List.setIfInBounds_toArray, List.set_cons_succ, List.set_cons_zero]; rfl
        refine QB.no' (a' := ?_) (by kernel_rfl) ?_ ?_
        rotate_left
        · simp only [Act.put, List.setIfInBounds_toArray, List.set_cons_succ, List.set_cons_zero]; rfl
        refine QB.no' (a' := ?_) (by kernel_rfl) ?_ ?_
        rotate_left
        · simp only [Act.put, List.setIfInBounds_toArray, List.set_cons_succ, List.set_cons_zero]; rfl
        refine QB.no' (a' := ?_) (by kernel_rfl) ?_ ?_
        rotate_left
        · simp only [Act.put, List.setIfInBounds_toArray, List.set_cons_succ, List.set_cons_zero]; rfl
        refine QB.no' (a' := ?_) (by kernel_rfl) ?_ ?_
        rotate_left
        · simp only [Act.put, List.setIfInBounds_toArray, List.set_cons_succ, List.set_cons_zero]; rfl
        refine QB.no' (a' := ?_) (by kernel_rfl) ?_ ?_
        rotate_left
        · simp only [Act.put, List.setIfInBounds_toArray, List.set_cons_succ, List.set_cons_zero]; rfl
        refine QB.no' (a' := ?_) (by kernel_rfl) ?_ ?_
        rotate_left
        · simp only [Act.put, List.setIfInBounds_toArray, List.set_cons_succ, List.set_cons_zero]; rfl
        refine QB.no' (a' := ?_) (by kernel_rfl) ?_ ?_
        rotate_left
        · simp only [Act.put, List.setIfInBounds_toArray, List.set_cons_succ, List.set_cons_zero]; rfl
        refine QB.no' (a' := ?_) (by kernel_rfl) ?_ ?_
        rotate_left
        · simp only [Act.put, List.setIfInBounds_toArray, List.set_cons_succ, List.set_cons_zero]; rfl
        refine QB.no' (a' := ?_) (by kernel_rfl) ?_ ?_
        rotate_left
        · simp only [Act.put, List.setIfInBounds_toArray, List.set_cons_succ, List.set_cons_zero]; rfl
        refine QB.no' (a' := ?_) (by kernel_rfl) ?_ ?_
        rotate_left
        · simp only [Act.put, List.setIfInBounds_toArray, List.set_cons_succ, List.set_cons_zero]; rfl
        refine QB.no' (a' := ?_) (by kernel_rfl) ?_ ?_
        rotate_left
        · simp only [Act.put, List.setIfInBounds_toArray, List.set_cons_succ, List.set_cons_zero]; rfl
        refine QB.val' (v := ?_) (a' := ?_) (by kernel_rfl) (fun w' hw' => ?_) ?_ ?_
        rotate_left 2
        · have cx0 := FX0.out w' hw'; have cp := FS.out w' hw'; go_simp <;> rfl
        · simp only [Act.put, List.setIfInBounds_toArray, List.set_cons_succ, List.set_cons_zero]; rfl
        refine QB.nil' fun w' hw' => ?_
        have HW := Lib.hid hw'
        clear hw'
        go_wp2
        go_ret
        exact ⟨rfl, nextB HBW.out (Nat.le_refl _) HW.out⟩
      | true =>
        have HI := Lib.hid hI
        clear hI
        cases i with
        | zero =>
          refine QB.region' mixed (by kernel_rfl) ?_
          refine QB.val' (v := ?_) (a' := ?_) (by kernel_rfl) (fun w' hw' => ?_) ?_ ?_
          rotate_left 2
          · have cx0 := FX0.out w' hw'; have cp := FS.out w' hw'; go_simp <;> rfl
          · simp only [Act.put, List.setIfInBounds_toArray, List.set_cons_succ, List.set_cons_zero]; rfl
          refine QB.val' (v := ?_) (a' := ?_) (by kernel_rfl) (fun w' hw' => ?_) ?_ ?_
          rotate_left 2
          · have cx0 := FX0.out w' hw'; have cp := FS.out w' hw'; go_simp <;> rfl
          · simp only [Act.put, List.setIfInBounds_toArray, List.set_cons_succ, List.set_cons_zero]; rfl
          refine QB.call' (f := 88) (args := #[.int .i64 m.id]) (v := .bool true) (a' := ?_) (by kernel_rfl) (fun w' hw' => ?_) (fun w' hw' => (isID_any m.id w').mono fun _ _ ⟨h1, h2⟩ => ⟨h1.trans (by rw [HI.out]), h2 ▸ hw'⟩) ?_ ?_
          rotate_left
          · have cx0 := FX0.out w' hw'; go_simp <;> rfl
          · simp only [Act.put, List.setIfInBounds_toArray, List.set_cons_succ, List.set_cons_zero]; rfl
          refine QB.val' (v := ?_) (a' := ?_) (by kernel_rfl) (fun w' hw' => ?_) ?_ ?_
          rotate_left 2
          · have cx0 := FX0.out w' hw'; have cp := FS.out w' hw'; go_simp <;> rfl
          · simp only [Act.put, List.setIfInBounds_toArray, List.set_cons_succ, List.set_cons_zero]; rfl
          refine QB.val' (v := ?_) (a' := ?_) (by kernel_rfl) (fun w' hw' => ?_) ?_ ?_
          rotate_left 2
          · have cx0 := FX0.out w' hw'; have cp := FS.out w' hw'; go_simp <;> rfl
          · simp only [Act.put, List.setIfInBounds_toArray, List.set_cons_succ, List.set_cons_zero]; rfl
          refine QB.val' (v := ?_) (a' := ?_) (by kernel_rfl) (fun w' hw' => ?_) ?_ ?_
          rotate_left 2
          · have cx0 := FX0.out w' hw'; have cp := FS.out w' hw'; go_simp <;> rfl
          · simp only [Act.put, List.setIfInBounds_toArray, List.set_cons_succ, List.set_cons_zero]; rfl
          refine QB.val' (v := ?_) (a' := ?_) (by kernel_rfl) (fun w' hw' => ?_) ?_ ?_
          rotate_left 2
          · have cx0 := FX0.out w' hw'; have cp := FS.out w' hw'; go_simp <;> rfl
          · simp only [Act.put, List.setIfInBounds_toArray, List.set_cons_succ, List.set_cons_zero]; rfl
          refine QB.val' (v := ?_) (a' := ?_) (by kernel_rfl) (fun w' hw' => ?_) ?_ ?_
          rotate_left 2
          · have cx0 := FX0.out w' hw'; have cp := FS.out w' hw'; go_simp <;> rfl
          · simp only [Act.put, List.setIfInBounds_toArray, List.set_cons_succ, List.set_cons_zero]; rfl
          refine QB.no' (a' := ?_) (by kernel_rfl) ?_ ?_
          rotate_left
          · simp only [Act.put, List.setIfInBounds_toArray, List.set_cons_succ, List.set_cons_zero]; rfl
          refine QB.no' (a' := ?_) (by kernel_rfl) ?_ ?_
          rotate_left
          · simp only [Act.put, List.setIfInBounds_toArray, List.set_cons_succ, List.set_cons_zero]; rfl
          refine QB.no' (a' := ?_) (by kernel_rfl) ?_ ?_
          rotate_left
          · simp only [Act.put, List.setIfInBounds_toArray, List.set_cons_succ, List.set_cons_zero]; rfl
          refine QB.no' (a' := ?_) (by kernel_rfl) ?_ ?_
          rotate_left
          · simp only [Act.put, List.setIfInBounds_toArray, List.set_cons_succ, List.set_cons_zero]; rfl
          refine QB.no' (a' := ?_) (by kernel_rfl) ?_ ?_
          rotate_left
          · simp only [Act.put, List.setIfInBounds_toArray, List.set_cons_succ, List.set_cons_zero]; rfl
          refine QB.no' (a' := ?_) (by kernel_rfl) ?_ ?_
          rotate_left
          · simp only [Act.put, List.setIfInBounds_toArray, List.set_cons_succ, List.set_cons_zero]; rfl
          refine QB.no' (a' := ?_) (by kernel_rfl) ?_ ?_
          rotate_left
          · simp only [Act.put, List.setIfInBounds_toArray, List.set_cons_succ, List.set_cons_zero]; rfl
          refine QB.no' (a' := ?_) (by kernel_rfl) ?_ ?_
          rotate_left
          · simp only [Act.put, List.setIfInBounds_toArray, List.set_cons_succ, List.set_cons_zero]; rfl
          refine QB.no' (a' := ?_) (by kernel_rfl) ?_ ?_
          rotate_left
          · simp only [Act.put, List.setIfInBounds_toArray, List.set_cons_succ, List.set_cons_zero]; rfl
          refine QB.no' (a' := ?_) (by kernel_rfl) ?_ ?_
          rotate_left
          · simp only [Act.put, List.setIfInBounds_toArray, List.set_cons_succ, List.set_cons_zero]; rfl
          refine QB.val' (v := ?_) (a' := ?_) (by kernel_rfl) (fun w' hw' => ?_) ?_ ?_
          rotate_left 2
          · have cx0 := FX0.out w' hw'; have cp := FS.out w' hw'; go_simp <;> rfl
          · simp only [Act.put, List.setIfInBounds_toArray, List.set_cons_succ, List.set_cons_zero]; rfl
          refine QB.val' (v := ?_) (a' := ?_) (by kernel_rfl) (fun w' hw' => ?_) ?_ ?_
          rotate_left 2
          · have cx0 := FX0.out w' hw'; have cp := FS.out w' hw'; go_simp <;> rfl
          · simp only [Act.put, List.setIfInBounds_toArray, List.set_cons_succ, List.set_cons_zero]; rfl
          refine QB.nil' fun w' hw' => ?_
          have HW := Lib.hid hw'
          clear hw'
          go_wp2
          go_roundw
          case rel =>
            refine ⟨1, by omega, by simp, (HB.out.trans (HBW2.out.mono HB.out.size)).trans (HW.out.mono (by have := HB.out.size; have := HBW2.out.size; omega)), Lib.hid ⟨?_, ?_⟩⟩
            · intro t m' ht' hm'
              rcases Nat.lt_or_ge t 0 with h | h
              · exact I.out.1 t m' h hm'
              · obtain rfl : t = 0 := by omega
                rw [HM.out] at hm'
                cases hm'
                exact HI.out
            · exact ord_snoc HM.out I.out.2 (fun y h => absurd rfl h)
          case measure => simp [intOf]; omega
        | succ j =>
          obtain ⟨y, hy⟩ : ∃ y, c.ps[j]? = some y := ⟨_, List.getElem?_eq_getElem (by omega)⟩
          have HY := Lib.hid hy
          have FY := Lib.hid (fun w' (h : Below W.heap.size W w') => FL.out j y HY.out w' (HBW2.out.trans (h.mono HBW2.out.size)))
          have hj1 : (0 : Int) < (j : Int) + 1 := by omega
          have hj2 : (j : Int) ≤ 64 := by omega
          have hj4 : IntKind.i64.wrap (j : Int) = (j : Int) := wrap_small (by omega)
          have hj3 : (j : Int) < (c.ps.length : Int) := by omega
          clear hy
          cases hZ : decide (0 ≤ cmpZ y.id m.id) with
          | true =>
            have HK := Lib.hid ((m_lt y m.id).1 (of_decide_eq_true hZ))
            obtain rfl : z = 2 := by rw [← Hz.out]; exact if_neg (fun hv => not_ord HM.out HY.out HK.out hv.2.2.2.1)
            obtain ⟨q, hq⟩ : ∃ q, cmpZ y.id m.id = q := ⟨_, rfl⟩
            have HZ := Lib.hid hq
            rw [hq] at hZ
            have hZ' : 0 ≤ q := of_decide_eq_true hZ
            clear hZ hq
            refine QB.region' mixed (by kernel_rfl) ?_
            refine QB.val' (v := ?_) (a' := ?_) (by kernel_rfl) (fun w' hw' => ?_) ?_ ?_
            rotate_left 2
            · have cx0 := FX0.out w' hw'; have cp := FS.out w' hw'; go_simp <;> rfl
            · simp only [Act.put, List.setIfInBounds_toArray, List.set_cons_succ, List.set_cons_zero]; rfl
            refine QB.val' (v := ?_) (a' := ?_) (by kernel_rfl) (fun w' hw' => ?_) ?_ ?_
            rotate_left 2
            · have cx0 := FX0.out w' hw'; have cp := FS.out w' hw'; go_simp <;> rfl
            · simp only [Act.put, List.setIfInBounds_toArray, List.set_cons_succ, List.set_cons_zero]; rfl
            refine QB.call' (f := 88) (args := #[.int .i64 m.id]) (v := .bool true) (a' := ?_) (by kernel_rfl) (fun w' hw' => ?_) (fun w' hw' => (isID_any m.id w').mono fun _ _ ⟨h1, h2⟩ => ⟨h1.trans (by rw [HI.out]), h2 ▸ hw'⟩) ?_ ?_
            rotate_left
            · have cx0 := FX0.out w' hw'; go_simp <;> rfl
            · simp only [Act.put, List.setIfInBounds_toArray, List.set_cons_succ, List.set_cons_zero]; rfl
            refine QB.val' (v := ?_) (a' := ?_) (by kernel_rfl) (fun w' hw' => ?_) ?_ ?_
            rotate_left 2
            · have cx0 := FX0.out w' hw'; have cp := FS.out w' hw'; go_simp <;> rfl
            · simp only [Act.put, List.setIfInBounds_toArray, List.set_cons_succ, List.set_cons_zero]; rfl
            refine QB.val' (v := ?_) (a' := ?_) (by kernel_rfl) (fun w' hw' => ?_) ?_ ?_
            rotate_left 2
            · have cx0 := FX0.out w' hw'; have cp := FS.out w' hw'; go_simp <;> rfl
            · simp only [Act.put, List.setIfInBounds_toArray, List.set_cons_succ, List.set_cons_zero]; rfl
            refine QB.val' (v := ?_) (a' := ?_) (by kernel_rfl) (fun w' hw' => ?_) ?_ ?_
            rotate_left 2
            · have cx0 := FX0.out w' hw'; have cp := FS.out w' hw'; go_simp <;> rfl
            · simp only [Act.put, List.setIfInBounds_toArray, List.set_cons_succ, List.set_cons_zero]; rfl
            refine QB.val' (v := ?_) (a' := ?_) (by kernel_rfl) (fun w' hw' => ?_) ?_ ?_
            rotate_left 2
            · have cx0 := FX0.out w' hw'; have cp := FS.out w' hw'; go_simp <;> rfl
            · simp only [Act.put, List.setIfInBounds_toArray, List.set_cons_succ, List.set_cons_zero]; rfl
            refine QB.val' (v := ?_) (a' := ?_) (by kernel_rfl) (fun w' hw' => ?_) ?_ ?_
            rotate_left 2
            · have cx0 := FX0.out w' hw'; have cp := FS.out w' hw'; go_simp <;> rfl
            · simp only [Act.put, List.setIfInBounds_toArray, List.set_cons_succ, List.set_cons_zero]; rfl
            refine QB.val' (v := ?_) (a' := ?_) (by kernel_rfl) (fun w' hw' => ?_) ?_ ?_
            rotate_left 2
            · have cx0 := FX0.out w' hw'; have cp := FS.out w' hw'; go_simp <;> rfl
            · simp only [Act.put, List.setIfInBounds_toArray, List.set_cons_succ, List.set_cons_zero]; rfl
            refine QB.val' (v := ?_) (a' := ?_) (by kernel_rfl) (fun w' hw' => ?_) ?_ ?_
            rotate_left 2
            · have cx0 := FX0.out w' hw'; have cp := FS.out w' hw'; go_simp <;> rfl
            · simp only [Act.put, List.setIfInBounds_toArray, List.set_cons_succ, List.set_cons_zero]; rfl
            refine QB.val' (v := ?_) (a' := ?_) (by kernel_rfl) (fun w' hw' => ?_) ?_ ?_
            rotate_left 2
            · have cx0 := FX0.out w' hw'; have cp := FS.out w' hw'; go_simp <;> rfl
            · simp only [Act.put, List.setIfInBounds_toArray, List.set_cons_succ, List.set_cons_zero]; rfl
            refine QB.val' (v := ?_) (a' := ?_) (by kernel_rfl) (fun w' hw' => ?_) ?_ ?_
            rotate_left 2
            · have cx0 := FX0.out w' hw'; have cp := FS.out w' hw'; go_simp <;> rfl
            · simp only [Act.put, List.setIfInBounds_toArray, List.set_cons_succ, List.set_cons_zero]; rfl
            refine QB.val' (v := ?_) (a' := ?_) (by kernel_rfl) (fun w' hw' => ?_) ?_ ?_
            rotate_left 2
            · have cx0 := FX0.out w' hw'; have cp := FS.out w' hw'; go_simp <;> rfl
            · simp only [Act.put, List.setIfInBounds_toArray, List.set_cons_succ, List.set_cons_zero]; rfl
            refine QB.ld' (a' := ?_) (by kernel_rfl) 95 rfl rfl (fun w' hw' => FY.out w' hw') ?_ ?_
            rotate_left
            · simp only [Act.put, List.setIfInBounds_toArray, List.set_cons_succ, List.set_cons_zero]; rfl
            refine QB.val' (v := ?_) (a' := ?_) (by kernel_rfl) (fun w' hw' => ?_) ?_ ?_
            rotate_left 2
            · have cx0 := FX0.out w' hw'; have cp := FS.out w' hw'; go_simp <;> rfl
            · simp only [Act.put, List.setIfInBounds_toArray, List.set_cons_succ, List.set_cons_zero]; rfl
            refine QB.val' (v := ?_) (a' := ?_) (by kernel_rfl) (fun w' hw' => ?_) ?_ ?_
            rotate_left 2
            · have cx0 := FX0.out w' hw'; have cp := FS.out w' hw'; go_simp <;> rfl
            · simp only [Act.put, List.setIfInBounds_toArray, List.set_cons_succ, List.set_cons_zero]; rfl
            refine QB.call' (f := 89) (args := #[y.val, .int .i64 m.id]) (v := .int .i64 q) (a' := ?_) (by kernel_rfl) (fun w' hw' => ?_) (fun w' hw' => (byID_any y m.id w').mono fun _ _ ⟨h1, h2⟩ => ⟨h1.trans (by rw [HZ.out]), nextB hw' (Nat.le_refl _) h2⟩) ?_ ?_
            rotate_left
            · have cx0 := FX0.out w' hw'; go_simp <;> rfl
            · simp only [Act.put, List.setIfInBounds_toArray, List.set_cons_succ, List.set_cons_zero]; rfl
            refine QB.val' (v := ?_) (a' := ?_) (by kernel_rfl) (fun w' hw' => ?_) ?_ ?_
            rotate_left 2
            · have cx0 := FX0.out w' hw'; have cp := FS.out w' hw'; go_simp <;> rfl
            · simp only [Act.put, List.setIfInBounds_toArray, List.set_cons_succ, List.set_cons_zero]; rfl
            refine QB.val' (v := ?_) (a' := ?_) (by kernel_rfl) (fun w' hw' => ?_) ?_ ?_
            rotate_left 2
            · have cx0 := FX0.out w' hw'; have cp := FS.out w' hw'; go_simp <;> rfl
            · simp only [Act.put, List.setIfInBounds_toArray, List.set_cons_succ, List.set_cons_zero]; rfl
            refine QB.val' (v := ?_) (a' := ?_) (by kernel_rfl) (fun w' hw' => ?_) ?_ ?_
            rotate_left 2
            · have cx0 := FX0.out w' hw'; have cp := FS.out w' hw'; go_simp <;> rfl
            · simp only [Act.put, List.setIfInBounds_toArray, List.set_cons_succ, List.set_cons_zero]; rfl
            refine QB.nil' fun w' hw' => ?_
            have HW := Lib.hid hw'
            clear hw'
            go_wp2
            go_ret
            exact ⟨rfl, nextB HBW.out (Nat.le_refl _) HW.out⟩
          | false =>
            have HK := Lib.hid (Classical.not_not.1 (fun hn => of_decide_eq_false hZ ((m_lt y m.id).2 hn)))
            obtain ⟨q, hq⟩ : ∃ q, cmpZ y.id m.id = q := ⟨_, rfl⟩
            have HZ := Lib.hid hq
            rw [hq] at hZ
            have hZ' : ¬ 0 ≤ q := of_decide_eq_false hZ
            clear hZ hq
            refine QB.region' mixed (by kernel_rfl) ?_
            refine QB.val' (v := ?_) (a' := ?_) (by kernel_rfl) (fun w' hw' => ?_) ?_ ?_
            rotate_left 2
            · have cx0 := FX0.out w' hw'; have cp := FS.out w' hw'; go_simp <;> rfl
            · simp only [Act.put, List.setIfInBounds_toArray, List.set_cons_succ, List.set_cons_zero]; rfl
            refine QB.val' (v := ?_) (a' := ?_) (by kernel_rfl) (fun w' hw' => ?_) ?_ ?_
            rotate_left 2
            · have cx0 := FX0.out w' hw'; have cp := FS.out w' hw'; go_simp <;> rfl
            · simp only [Act.put, List.setIfInBounds_toArray, List.set_cons_succ, List.set_cons_zero]; rfl
            refine QB.call' (f := 88) (args := #[.int .i64 m.id]) (v := .bool true) (a' := ?_) (by kernel_rfl) (fun w' hw' => ?_) (fun w' hw' => (isID_any m.id w').mono fun _ _ ⟨h1, h2⟩ => ⟨h1.trans (by rw [HI.out]), h2 ▸ hw'⟩) ?_ ?_
            rotate_left
            · have cx0 := FX0.out w' hw'; go_simp <;> rfl
            · simp only [Act.put, List.setIfInBounds_toArray, List.set_cons_succ, List.set_cons_zero]; rfl
            refine QB.val' (v := ?_) (a' := ?_) (by kernel_rfl) (fun w' hw' => ?_) ?_ ?_
            rotate_left 2
            · have cx0 := FX0.out w' hw'; have cp := FS.out w' hw'; go_simp <;> rfl
            · simp only [Act.put, List.setIfInBounds_toArray, List.set_cons_succ, List.set_cons_zero]; rfl
            refine QB.val' (v := ?_) (a' := ?_) (by kernel_rfl) (fun w' hw' => ?_) ?_ ?_
            rotate_left 2
            · have cx0 := FX0.out w' hw'; have cp := FS.out w' hw'; go_simp <;> rfl
            · simp only [Act.put, List.setIfInBounds_toArray, List.set_cons_succ, List.set_cons_zero]; rfl
            refine QB.val' (v := ?_) (a' := ?_) (by kernel_rfl) (fun w' hw' => ?_) ?_ ?_
            rotate_left 2
            · have cx0 := FX0.out w' hw'; have cp := FS.out w' hw'; go_simp <;> rfl
            · simp only [Act.put, List.setIfInBounds_toArray, List.set_cons_succ, List.set_cons_zero]; rfl
            refine QB.val' (v := ?_) (a' := ?_) (by kernel_rfl) (fun w' hw' => ?_) ?_ ?_
            rotate_left 2
            · have cx0 := FX0.out w' hw'; have cp := FS.out w' hw'; go_simp <;> rfl
            · simp only [Act.put, List.setIfInBounds_toArray, List.set_cons_succ, List.set_cons_zero]; rfl
            refine QB.val' (v := ?_) (a' := ?_) (by kernel_rfl) (fun w' hw' => ?_) ?_ ?_
            rotate_left 2
            · have cx0 := FX0.out w' hw'; have cp := FS.out w' hw'; go_simp <;> rfl
            · simp only [Act.put, List.setIfInBounds_toArray, List.set_cons_succ, List.set_cons_zero]; rfl
            refine QB.val' (v := ?_) (a' := ?_) (by kernel_rfl) (fun w' hw' => ?_) ?_ ?_
            rotate_left 2
            · have cx0 := FX0.out w' hw'; have cp := FS.out w' hw'; go_simp <;> rfl
            · simp only [Act.put, List.setIfInBounds_toArray, List.set_cons_succ, List.set_cons_zero]; rfl
            refine QB.val' (v := ?_) (a' := ?_) (by kernel_rfl) (fun w' hw' => ?_) ?_ ?_
            rotate_left 2
            · have cx0 := FX0.out w' hw'; have cp := FS.out w' hw'; go_simp <;> rfl
            · simp only [Act.put, List.setIfInBounds_toArray, List.set_cons_succ, List.set_cons_zero]; rfl
            refine QB.val' (v := ?_) (a' := ?_) (by kernel_rfl) (fun w' hw' => ?_) ?_ ?_
            rotate_left 2
            · have cx0 := FX0.out w' hw'; have cp := FS.out w' hw'; go_simp <;> rfl
            · simp only [Act.put, List.setIfInBounds_toArray, List.set_cons_succ, List.set_cons_zero]; rfl
            refine QB.val' (v := ?_) (a' := ?_) (by kernel_rfl) (fun w' hw' => ?_) ?_ ?_
            rotate_left 2
            · have cx0 := FX0.out w' hw'; have cp := FS.out w' hw'; go_simp <;> rfl
            · simp only [Act.put, List.setIfInBounds_toArray, List.set_cons_succ, List.set_cons_zero]; rfl
            refine QB.val' (v := ?_) (a' := ?_) (by kernel_rfl) (fun w' hw' => ?_) ?_ ?_
            rotate_left 2
            · have cx0 := FX0.out w' hw'; have cp := FS.out w' hw'; go_simp <;> rfl
            · simp only [Act.put, List.setIfInBounds_toArray, List.set_cons_succ, List.set_cons_zero]; rfl
            refine QB.ld' (a' := ?_) (by kernel_rfl) 95 rfl rfl (fun w' hw' => FY.out w' hw') ?_ ?_
            rotate_left
            · simp only [Act.put, List.setIfInBounds_toArray, List.set_cons_succ, List.set_cons_zero]; rfl
            refine QB.val' (v := ?_) (a' := ?_) (by kernel_rfl) (fun w' hw' => ?_) ?_ ?_
            rotate_left 2
            · have cx0 := FX0.out w' hw'; have cp := FS.out w' hw'; go_simp <;> rfl
            · simp only [Act.put, List.setIfInBounds_toArray, List.set_cons_succ, List.set_cons_zero]; rfl
            refine QB.val' (v := ?_) (a' := ?_) (by kernel_rfl) (fun w' hw' => ?_) ?_ ?_
            rotate_left 2
            · have cx0 := FX0.out w' hw'; have cp := FS.out w' hw'; go_simp <;> rfl
            · simp only [Act.put, List.setIfInBounds_toArray, List.set_cons_succ, List.set_cons_zero]; rfl
            refine QB.call' (f := 89) (args := #[y.val, .int .i64 m.id]) (v := .int .i64 q) (a' := ?_) (by kernel_rfl) (fun w' hw' => ?_) (fun w' hw' => (byID_any y m.id w').mono fun _ _ ⟨h1, h2⟩ => ⟨h1.trans (by rw [HZ.out]), nextB hw' (Nat.le_refl _) h2⟩) ?_ ?_
            rotate_left
            · have cx0 := FX0.out w' hw'; go_simp <;> rfl
            · simp only [Act.put, List.setIfInBounds_toArray, List.set_cons_succ, List.set_cons_zero]; rfl
            refine QB.val' (v := ?_) (a' := ?_) (by kernel_rfl) (fun w' hw' => ?_) ?_ ?_
            rotate_left 2
            · have cx0 := FX0.out w' hw'; have cp := FS.out w' hw'; go_simp <;> rfl
            · simp only [Act.put, List.setIfInBounds_toArray, List.set_cons_succ, List.set_cons_zero]; rfl
            refine QB.val' (v := ?_) (a' := ?_) (by kernel_rfl) (fun w' hw' => ?_) ?_ ?_
            rotate_left 2
            · have cx0 := FX0.out w' hw'; have cp := FS.out w' hw'; go_simp <;> rfl
            · simp only [Act.put, List.setIfInBounds_toArray, List.set_cons_succ, List.set_cons_zero]; rfl
            refine QB.val' (v := ?_) (a' := ?_) (by kernel_rfl) (fun w' hw' => ?_) ?_ ?_
            rotate_left 2
            · have cx0 := FX0.out w' hw'; have cp := FS.out w' hw'; go_simp <;> rfl
            · simp only [Act.put, List.setIfInBounds_toArray, List.set_cons_succ, List.set_cons_zero]; rfl
            refine QB.nil' fun w' hw' => ?_
            have HW := Lib.hid hw'
            clear hw'
            go_wp2
            go_roundw
            case rel =>
              refine ⟨j + 1 + 1, by omega, by simp, (HB.out.trans (HBW2.out.mono HB.out.size)).trans (HW.out.mono (by have := HB.out.size; have := HBW2.out.size; omega)), Lib.hid ⟨?_, ?_⟩⟩
              · intro t m' ht' hm'
                rcases Nat.lt_or_ge t (j + 1) with h | h
                · exact I.out.1 t m' h hm'
                · obtain rfl : t = (j + 1) := by omega
                  rw [HM.out] at hm'
                  cases hm'
                  exact HI.out
              · exact ord_snoc HM.out I.out.2 (fun y' _ hy' => by rw [show j + 1 - 1 = j by omega, HY.out] at hy'; cases hy'; exact HK.out)
            case measure => simp [intOf]; omega
    · have hlt' : ¬ (i : Int) < (c.ps.length : Int) := by omega
      obtain rfl : i = c.ps.length := by omega
      have HO1 := Lib.hid (show Ord Mb.key c.ps by have := I.out.2; rwa [List.take_length] at this)
      have HI1 := Lib.hid (show ∀ m ∈ c.ps, isIDB m.id = true from fun m hm => by obtain ⟨t, ht⟩ := List.getElem?_of_mem hm; exact I.out.1 t m (List.getElem?_eq_some_iff.1 ht).1 ht)
      have cr := FR.out wr HB.out
      go_wp2_with fail
      clear cr
      have HB5 := HB
      clear I HB
      go_loopw [51] (fun iv wr => ∃ i : Nat, i ≤ c.rs.length ∧ iv = .int .i64 (i : Int) ∧ Below W0.heap.size W0 wr ∧ Hid ((∀ t r, t < i → c.rs[t]? = some r → prefB r.addr r.bits = true ∧ has Mb.key (r.peer, 0) c.ps = true) ∧ Ord Rt.key (c.rs.take i))) (fun iv _ => c.rs.length - (intOf iv).toNat)
      case atStart => exact ⟨0, Nat.zero_le _, rfl, HB5.out, Lib.hid ⟨fun t m ht => absurd ht (Nat.not_lt_zero _), by simp [Ord]⟩⟩
      case round =>
        obtain ⟨i, hi, rfl, hb, I⟩ := hrel
        have HB := Lib.hid hb
        clear hb
        have hN := HN2.out
        have hi2 : (i : Int) ≤ 256 := by omega
        clear hN
        by_cases hlt : i < c.rs.length
        · have hlt' : (i : Int) < (c.rs.length : Int) := by omega
          obtain ⟨r, hm⟩ : ∃ m, c.rs[i]? = some m := ⟨_, List.getElem?_eq_getElem hlt⟩
          have HM := Lib.hid hm
          have hB1 : Hid (Below w.heap.size w wr) := Lib.hid (HB0.out.trans (HB.out.mono HB0.out.size))
          have FM := Lib.hid (fun (t : Nat) (y : Rt) (hy : c.rs[t]? = some y) w' (h : Below wr.heap.size wr w') => (HC.out.rs.below ((hB1.out.trans (h.mono hB1.out.size)).mono HBw.out)).at hy)
          obtain ⟨b0, off, e, _, _, _⟩ := FM.out i r hm wr (Below.refl _ _)
          subst e
          have FL := Lib.hid (fun (t : Nat) (y : Rt) (hy : c.rs[t]? = some y) w' (h : Below wr.heap.size wr w') => by
            obtain ⟨b', off', e, _, _, hl⟩ := FM.out t y hy w' h
            cases e
            exact hl)
          have hld := Lib.hid (FL.out i r hm wr (Below.refl _ _))
          clear FM hm
          go_wp2_with (first
            | (refine QB.wpList_ld 98 rfl rfl hld.out rfl ?_)
            | (refine QB.wpList_alloc rfl 98 rfl zero_rt ?_; intro W1 hr1 hb1; have HR1 := Lib.hid (show Row W1 wr.heap.size (Rt.cs ⟨0, 0, 0⟩) 98 from hr1); have HB1 := Lib.hid hb1; clear hr1 hb1)
            | (refine wpList_storeRow rfl 98 (.tmp 6) (.tmp 55) rfl rfl (cs := r.cs) rfl HR1.out (by kernel_rfl) rfl rfl r.one ?_)
            | fail)
          refine QB.code_name fun W hW => ?_
          have hRW : Row W wr.heap.size r.cs 98 := hW ▸ HR1.out.setRow r.cs
          have HBW2 := Lib.hid (show Below wr.heap.size wr W from hW ▸ below_setRow HB1.out (Nat.le_refl _) _)
          have HBW := Lib.hid (show Below w.heap.size w W from nextB hB1.out (Nat.le_refl _) HBW2.out)
          have FX0 := Lib.hid (fun w' (h : Below W.heap.size W w') => (h.cell (p := ⟨wr.heap.size, 0, none⟩) hRW.lt).trans (hRW.cell rfl))
          have FX1 := Lib.hid (fun w' (h : Below W.heap.size W w') => (h.cell (p := ⟨wr.heap.size, 1, none⟩) hRW.lt).trans (hRW.cell rfl))
          have FX2 := Lib.hid (fun w' (h : Below W.heap.size W w') => (h.cell (p := ⟨wr.heap.size, 2, none⟩) hRW.lt).trans (hRW.cell rfl))
          have FC := Lib.hid (fun w' (h : Below W.heap.size W w') => FCF.out w' (HB.out.trans (HBW2.out.mono HB.out.size) |>.trans (h.mono (by have := HB.out.size; have := HBW2.out.size; omega))))
          have FS := Lib.hid (fun w' (h : Below W.heap.size W w') => FR.out w' ((HB.out.trans (HBW2.out.mono HB.out.size)).trans (h.mono (by have := HB.out.size; have := HBW2.out.size; omega))))
          clear hW hRW HR1 HB1
          cases hI : prefB r.addr r.bits with
          | false =>
            obtain rfl : z = 2 := by rw [← Hz.out]; exact if_neg (fun hv => by have := (hv.2.2.2.2.1 r (List.mem_of_getElem? HM.out)).1; rw [hI] at this; cases this)
            have HI := Lib.hid hI
            clear hI
            refine QB.region' mixed (by kernel_rfl) ?_
            refine QB.val' (v := ?_) (a' := ?_) (by kernel_rfl) (fun w' hw' => ?_) ?_ ?_
            rotate_left 2
            · have cx0 := FX0.out w' hw'; have cx1 := FX1.out w' hw'; have cp := FS.out w' hw'; go_simp <;> rfl
            · simp only [Act.put, List.setIfInBounds_toArray, List.set_cons_succ, List.set_cons_zero]; rfl
            refine QB.val' (v := ?_) (a' := ?_) (by kernel_rfl) (fun w' hw' => ?_) ?_ ?_
            rotate_left 2
            · have cx0 := FX0.out w' hw'; have cx1 := FX1.out w' hw'; have cp := FS.out w' hw'; go_simp <;> rfl
            · simp only [Act.put, List.setIfInBounds_toArray, List.set_cons_succ, List.set_cons_zero]; rfl
            refine QB.val' (v := ?_) (a' := ?_) (by kernel_rfl) (fun w' hw' => ?_) ?_ ?_
            rotate_left 2
            · have cx0 := FX0.out w' hw'; have cx1 := FX1.out w' hw'; have cp := FS.out w' hw'; go_simp <;> rfl
            · simp only [Act.put, List.setIfInBounds_toArray, List.set_cons_succ, List.set_cons_zero]; rfl
            refine QB.val' (v := ?_) (a' := ?_) (by kernel_rfl) (fun w' hw' => ?_) ?_ ?_
            rotate_left 2
            · have cx0 := FX0.out w' hw'; have cx1 := FX1.out w' hw'; have cp := FS.out w' hw'; go_simp <;> rfl
            · simp only [Act.put, List.setIfInBounds_toArray, List.set_cons_succ, List.set_cons_zero]; rfl
            refine QB.call' (f := 90) (args := #[.int .u32 r.addr, .int .i64 r.bits]) (v := .bool false) (a' := ?_) (by kernel_rfl) (fun w' hw' => ?_) (fun w' hw' => (isPrefix_any r.addr r.bits w').mono fun _ _ ⟨h1, h2⟩ => ⟨h1.trans (by rw [HI.out]), h2 ▸ hw'⟩) ?_ ?_
            rotate_left
            · have cx0 := FX0.out w' hw'; have cx1 := FX1.out w' hw'; go_simp <;> rfl
            · simp only [Act.put, List.setIfInBounds_toArray, List.set_cons_succ, List.set_cons_zero]; rfl
            refine QB.val' (v := ?_) (a' := ?_) (by kernel_rfl) (fun w' hw' => ?_) ?_ ?_
            rotate_left 2
            · have cx0 := FX0.out w' hw'; have cx1 := FX1.out w' hw'; have cp := FS.out w' hw'; go_simp <;> rfl
            · simp only [Act.put, List.setIfInBounds_toArray, List.set_cons_succ, List.set_cons_zero]; rfl
            refine QB.val' (v := ?_) (a' := ?_) (by kernel_rfl) (fun w' hw' => ?_) ?_ ?_
            rotate_left 2
            · have cx0 := FX0.out w' hw'; have cx1 := FX1.out w' hw'; have cp := FS.out w' hw'; go_simp <;> rfl
            · simp only [Act.put, List.setIfInBounds_toArray, List.set_cons_succ, List.set_cons_zero]; rfl
            refine QB.no' (a' := ?_) (by kernel_rfl) ?_ ?_
            rotate_left
            · simp only [Act.put, List.setIfInBounds_toArray, List.set_cons_succ, List.set_cons_zero]; rfl
            refine QB.no' (a' := ?_) (by kernel_rfl) ?_ ?_
            rotate_left
            · simp only [Act.put, List.setIfInBounds_toArray, List.set_cons_succ, List.set_cons_zero]; rfl
            refine QB.no' (a' := ?_) (by kernel_rfl) ?_ ?_
            rotate_left
            · simp only [Act.put, List.setIfInBounds_toArray, List.set_cons_succ, List.set_cons_zero]; rfl
            refine QB.no' (a' := ?_) (by kernel_rfl) ?_ ?_
            rotate_left
            · simp only [Act.put, List.setIfInBounds_toArray, List.set_cons_succ, List.set_cons_zero]; rfl
            refine QB.no' (a' := ?_) (by kernel_rfl) ?_ ?_
            rotate_left
            · simp only [Act.put, List.setIfInBounds_toArray, List.set_cons_succ, List.set_cons_zero]; rfl
            refine QB.no' (a' := ?_) (by kernel_rfl) ?_ ?_
            rotate_left
            · simp only [Act.put, List.setIfInBounds_toArray, List.set_cons_succ, List.set_cons_zero]; rfl
            refine QB.no' (a' := ?_) (by kernel_rfl) ?_ ?_
            rotate_left
            · simp only [Act.put, List.setIfInBounds_toArray, List.set_cons_succ, List.set_cons_zero]; rfl
            refine QB.no' (a' := ?_) (by kernel_rfl) ?_ ?_
            rotate_left
            · simp only [Act.put, List.setIfInBounds_toArray, List.set_cons_succ, List.set_cons_zero]; rfl
            refine QB.no' (a' := ?_) (by kernel_rfl) ?_ ?_
            rotate_left
            · simp only [Act.put, List.setIfInBounds_toArray, List.set_cons_succ, List.set_cons_zero]; rfl
            refine QB.no' (a' := ?_) (by kernel_rfl) ?_ ?_
            rotate_left
            · simp only [Act.put, List.setIfInBounds_toArray, List.set_cons_succ, List.set_cons_zero]; rfl
            refine QB.no' (a' := ?_) (by kernel_rfl) ?_ ?_
            rotate_left
            · simp only [Act.put, List.setIfInBounds_toArray, List.set_cons_succ, List.set_cons_zero]; rfl
            refine QB.no' (a' := ?_) (by kernel_rfl) ?_ ?_
            rotate_left
            · simp only [Act.put, List.setIfInBounds_toArray, List.set_cons_succ, List.set_cons_zero]; rfl
            refine QB.no' (a' := ?_) (by kernel_rfl) ?_ ?_
            rotate_left
            · simp only [Act.put, List.setIfInBounds_toArray, List.set_cons_succ, List.set_cons_zero]; rfl
            refine QB.no' (a' := ?_) (by kernel_rfl) ?_ ?_
            rotate_left
            · simp only [Act.put, List.setIfInBounds_toArray, List.set_cons_succ, List.set_cons_zero]; rfl
            refine QB.no' (a' := ?_) (by kernel_rfl) ?_ ?_
            rotate_left
            · simp only [Act.put, List.setIfInBounds_toArray, List.set_cons_succ, List.set_cons_zero]; rfl
            refine QB.no' (a' := ?_) (by kernel_rfl) ?_ ?_
            rotate_left
            · simp only [Act.put, List.setIfInBounds_toArray, List.set_cons_succ, List.set_cons_zero]; rfl
            refine QB.val' (v := ?_) (a' := ?_) (by kernel_rfl) (fun w' hw' => ?_) ?_ ?_
            rotate_left 2
            · have cx0 := FX0.out w' hw'; have cx1 := FX1.out w' hw'; have cp := FS.out w' hw'; go_simp <;> rfl
            · simp only [Act.put, List.setIfInBounds_toArray, List.set_cons_succ, List.set_cons_zero]; rfl
            refine QB.nil' fun w' hw' => ?_
            have HW := Lib.hid hw'
            clear hw'
            go_wp2
            go_ret
            exact ⟨rfl, nextB HBW.out (Nat.le_refl _) HW.out⟩
          | true =>
            have HI := Lib.hid hI
            clear hI
            cases i with
            | zero =>
              refine QB.region' mixed (by kernel_rfl) ?_
              refine QB.val' (v := ?_) (a' := ?_) (by kernel_rfl) (fun w' hw' => ?_) ?_ ?_
              rotate_left 2
              · have cx0 := FX0.out w' hw'; have cx1 := FX1.out w' hw'; have cp := FS.out w' hw'; go_simp <;> rfl
              · simp only [Act.put, List.setIfInBounds_toArray, List.set_cons_succ, List.set_cons_zero]; rfl
              refine QB.val' (v := ?_) (a' := ?_) (by kernel_rfl) (fun w' hw' => ?_) ?_ ?_
              rotate_left 2
              · have cx0 := FX0.out w' hw'; have cx1 := FX1.out w' hw'; have cp := FS.out w' hw'; go_simp <;> rfl
              · simp only [Act.put, List.setIfInBounds_toArray, List.set_cons_succ, List.set_cons_zero]; rfl
              refine QB.val' (v := ?_) (a' := ?_) (by kernel_rfl) (fun w' hw' => ?_) ?_ ?_
              rotate_left 2
              · have cx0 := FX0.out w' hw'; have cx1 := FX1.out w' hw'; have cp := FS.out w' hw'; go_simp <;> rfl
              · simp only [Act.put, List.setIfInBounds_toArray, List.set_cons_succ, List.set_cons_zero]; rfl
              refine QB.val' (v := ?_) (a' := ?_) (by kernel_rfl) (fun w' hw' => ?_) ?_ ?_
              rotate_left 2
              · have cx0 := FX0.out w' hw'; have cx1 := FX1.out w' hw'; have cp := FS.out w' hw'; go_simp <;> rfl
              · simp only [Act.put, List.setIfInBounds_toArray, List.set_cons_succ, List.set_cons_zero]; rfl
              refine QB.call' (f := 90) (args := #[.int .u32 r.addr, .int .i64 r.bits]) (v := .bool true) (a' := ?_) (by kernel_rfl) (fun w' hw' => ?_) (fun w' hw' => (isPrefix_any r.addr r.bits w').mono fun _ _ ⟨h1, h2⟩ => ⟨h1.trans (by rw [HI.out]), h2 ▸ hw'⟩) ?_ ?_
              rotate_left
              · have cx0 := FX0.out w' hw'; have cx1 := FX1.out w' hw'; go_simp <;> rfl
              · simp only [Act.put, List.setIfInBounds_toArray, List.set_cons_succ, List.set_cons_zero]; rfl
              refine QB.val' (v := ?_) (a' := ?_) (by kernel_rfl) (fun w' hw' => ?_) ?_ ?_
              rotate_left 2
              · have cx0 := FX0.out w' hw'; have cx1 := FX1.out w' hw'; have cp := FS.out w' hw'; go_simp <;> rfl
              · simp only [Act.put, List.setIfInBounds_toArray, List.set_cons_succ, List.set_cons_zero]; rfl
              refine QB.val' (v := ?_) (a' := ?_) (by kernel_rfl) (fun w' hw' => ?_) ?_ ?_
              rotate_left 2
              · have cx0 := FX0.out w' hw'; have cx1 := FX1.out w' hw'; have cp := FS.out w' hw'; go_simp <;> rfl
              · simp only [Act.put, List.setIfInBounds_toArray, List.set_cons_succ, List.set_cons_zero]; rfl
              refine QB.val' (v := ?_) (a' := ?_) (by kernel_rfl) (fun w' hw' => ?_) ?_ ?_
              rotate_left 2
              · have cx0 := FX0.out w' hw'; have cx1 := FX1.out w' hw'; have cp := FS.out w' hw'; go_simp <;> rfl
              · simp only [Act.put, List.setIfInBounds_toArray, List.set_cons_succ, List.set_cons_zero]; rfl
              refine QB.val' (v := ?_) (a' := ?_) (by kernel_rfl) (fun w' hw' => ?_) ?_ ?_
              rotate_left 2
              · have cx0 := FX0.out w' hw'; have cx1 := FX1.out w' hw'; have cp := FS.out w' hw'; go_simp <;> rfl
              · simp only [Act.put, List.setIfInBounds_toArray, List.set_cons_succ, List.set_cons_zero]; rfl
              refine QB.val' (v := ?_) (a' := ?_) (by kernel_rfl) (fun w' hw' => ?_) ?_ ?_
              rotate_left 2
              · have cx0 := FX0.out w' hw'; have cx1 := FX1.out w' hw'; have cp := FS.out w' hw'; go_simp <;> rfl
              · simp only [Act.put, List.setIfInBounds_toArray, List.set_cons_succ, List.set_cons_zero]; rfl
              refine QB.no' (a' := ?_) (by kernel_rfl) ?_ ?_
              rotate_left
              · simp only [Act.put, List.setIfInBounds_toArray, List.set_cons_succ, List.set_cons_zero]; rfl
              refine QB.no' (a' := ?_) (by kernel_rfl) ?_ ?_
              rotate_left
              · simp only [Act.put, List.setIfInBounds_toArray, List.set_cons_succ, List.set_cons_zero]; rfl
              refine QB.no' (a' := ?_) (by kernel_rfl) ?_ ?_
              rotate_left
              · simp only [Act.put, List.setIfInBounds_toArray, List.set_cons_succ, List.set_cons_zero]; rfl
              refine QB.no' (a' := ?_) (by kernel_rfl) ?_ ?_
              rotate_left
              · simp only [Act.put, List.setIfInBounds_toArray, List.set_cons_succ, List.set_cons_zero]; rfl
              refine QB.no' (a' := ?_) (by kernel_rfl) ?_ ?_
              rotate_left
              · simp only [Act.put, List.setIfInBounds_toArray, List.set_cons_succ, List.set_cons_zero]; rfl
              refine QB.no' (a' := ?_) (by kernel_rfl) ?_ ?_
              rotate_left
              · simp only [Act.put, List.setIfInBounds_toArray, List.set_cons_succ, List.set_cons_zero]; rfl
              refine QB.no' (a' := ?_) (by kernel_rfl) ?_ ?_
              rotate_left
              · simp only [Act.put, List.setIfInBounds_toArray, List.set_cons_succ, List.set_cons_zero]; rfl
              refine QB.no' (a' := ?_) (by kernel_rfl) ?_ ?_
              rotate_left
              · simp only [Act.put, List.setIfInBounds_toArray, List.set_cons_succ, List.set_cons_zero]; rfl
              refine QB.no' (a' := ?_) (by kernel_rfl) ?_ ?_
              rotate_left
              · simp only [Act.put, List.setIfInBounds_toArray, List.set_cons_succ, List.set_cons_zero]; rfl
              refine QB.no' (a' := ?_) (by kernel_rfl) ?_ ?_
              rotate_left
              · simp only [Act.put, List.setIfInBounds_toArray, List.set_cons_succ, List.set_cons_zero]; rfl
              refine QB.no' (a' := ?_) (by kernel_rfl) ?_ ?_
              rotate_left
              · simp only [Act.put, List.setIfInBounds_toArray, List.set_cons_succ, List.set_cons_zero]; rfl
              refine QB.no' (a' := ?_) (by kernel_rfl) ?_ ?_
              rotate_left
              · simp only [Act.put, List.setIfInBounds_toArray, List.set_cons_succ, List.set_cons_zero]; rfl
              refine QB.val' (v := ?_) (a' := ?_) (by kernel_rfl) (fun w' hw' => ?_) ?_ ?_
              rotate_left 2
              · have cx0 := FX0.out w' hw'; have cx1 := FX1.out w' hw'; have cp := FS.out w' hw'; go_simp <;> rfl
              · simp only [Act.put, List.setIfInBounds_toArray, List.set_cons_succ, List.set_cons_zero]; rfl
              refine QB.val' (v := ?_) (a' := ?_) (by kernel_rfl) (fun w' hw' => ?_) ?_ ?_
              rotate_left 2
              · have cx0 := FX0.out w' hw'; have cx1 := FX1.out w' hw'; have cp := FS.out w' hw'; go_simp <;> rfl
              · simp only [Act.put, List.setIfInBounds_toArray, List.set_cons_succ, List.set_cons_zero]; rfl
              refine QB.nil' fun w' hw' => ?_
              have HW := Lib.hid hw'
              clear hw'
              have HWb := Lib.hid (show Below w.heap.size w w' from nextB HBW.out (Nat.le_refl _) HW.out)
              have hl0 := FC.out w' HW.out
              have cx2 := FX2.out w' HW.out
              cases hh : has Mb.key (r.peer, 0) c.ps with
              | false =>
                obtain rfl : z = 2 := by rw [← Hz.out]; exact if_neg (fun hv => by have := (hv.2.2.2.2.1 r (List.mem_of_getElem? HM.out)).2; rw [hh] at this; cases this)
                have HAt := Lib.hid (At1_any (w := w') (B := B) (vp := (.slice A1 c.ps.length n1)) (vr := (.slice (some ⟨b0, off, none⟩) c.rs.length n2)) (HC.out.ps.below (HWb.out.mono HBw.out)) (by have := HN1.out; omega) HO1.out rfl rfl r.peer (Nat.le_trans HBw.out HWb.out.size))
                rw [hh] at HAt
                clear hh
                go_wp2_with (first
                  | (refine QB.wpList_ld 25 rfl rfl hl0 rfl ?_)
                  | (go_at_call 92; refine HAt.out.mono ?_; rintro e w2 ⟨rfl, hb⟩; have HB2 := Lib.hid (nextB HWb.out (Nat.le_refl _) hb); clear hb)
                  | fail)
                go_ret
                exact ⟨rfl, HB2.out⟩
              | true =>
                have HAt := Lib.hid (At1_any (w := w') (B := B) (vp := (.slice A1 c.ps.length n1)) (vr := (.slice (some ⟨b0, off, none⟩) c.rs.length n2)) (HC.out.ps.below (HWb.out.mono HBw.out)) (by have := HN1.out; omega) HO1.out rfl rfl r.peer (Nat.le_trans HBw.out HWb.out.size))
                rw [hh] at HAt
                have HH := Lib.hid hh
                clear hh
                go_wp2_with (first
                  | (refine QB.wpList_ld 25 rfl rfl hl0 rfl ?_)
                  | (go_at_call 92; refine HAt.out.mono ?_; rintro e w2 ⟨rfl, hb⟩; have HB2 := Lib.hid hb; clear hb)
                  | fail)
                go_roundw
                case rel =>
                  refine ⟨1, by omega, by simp, ((HB.out.trans (HBW2.out.mono HB.out.size)).trans (HW.out.mono (by have := HB.out.size; have := HBW2.out.size; omega))).trans (HB2.out.mono (by have := HB.out.size; have := HBW2.out.size; have := HW.out.size; omega)), Lib.hid ⟨?_, ?_⟩⟩
                  · intro t m' ht' hm'
                    rcases Nat.lt_or_ge t 0 with h | h
                    · exact I.out.1 t m' h hm'
                    · obtain rfl : t = 0 := by omega
                      rw [HM.out] at hm'
                      cases hm'
                      exact ⟨HI.out, HH.out⟩
                  · exact ord_snoc HM.out I.out.2 (fun y h => absurd rfl h)
                case measure => simp [intOf]; omega
            | succ j =>
              obtain ⟨y, hy⟩ : ∃ y, c.rs[j]? = some y := ⟨_, List.getElem?_eq_getElem (by omega)⟩
              have HY := Lib.hid hy
              have FY := Lib.hid (fun w' (h : Below W.heap.size W w') => FL.out j y HY.out w' (HBW2.out.trans (h.mono HBW2.out.size)))
              have hj1 : (0 : Int) < (j : Int) + 1 := by omega
              have hj2 : (j : Int) ≤ 256 := by omega
              have hj4 : IntKind.i64.wrap (j : Int) = (j : Int) := wrap_small (by omega)
              have hj3 : (j : Int) < (c.rs.length : Int) := by omega
              clear hy
              cases hZ : decide (0 ≤ preZ y r.addr r.bits) with
              | true =>
                have HK := Lib.hid ((r_lt y r.addr r.bits).1 (of_decide_eq_true hZ))
                obtain rfl : z = 2 := by rw [← Hz.out]; exact if_neg (fun hv => not_ord HM.out HY.out HK.out hv.2.2.2.2.2)
                obtain ⟨q, hq⟩ : ∃ q, preZ y r.addr r.bits = q := ⟨_, rfl⟩
                have HZ := Lib.hid hq
                rw [hq] at hZ
                have hZ' : 0 ≤ q := of_decide_eq_true hZ
                clear hZ hq
                refine QB.region' mixed (by kernel_rfl) ?_
                refine QB.val' (v := ?_) (a' := ?_) (by kernel_rfl) (fun w' hw' => ?_) ?_ ?_
                rotate_left 2
                · have cx0 := FX0.out w' hw'; have cx1 := FX1.out w' hw'; have cp := FS.out w' hw'; go_simp <;> rfl
                · simp only [Act.put, List.setIfInBounds_toArray, List.set_cons_succ, List.set_cons_zero]; rfl
                refine QB.val' (v := ?_) (a' := ?_) (by kernel_rfl) (fun w' hw' => ?_) ?_ ?_
                rotate_left 2
                · have cx0 := FX0.out w' hw'; have cx1 := FX1.out w' hw'; have cp := FS.out w' hw'; go_simp <;> rfl
                · simp only [Act.put, List.setIfInBounds_toArray, List.set_cons_succ, List.set_cons_zero]; rfl
                refine QB.val' (v := ?_) (a' := ?_) (by kernel_rfl) (fun w' hw' => ?_) ?_ ?_
                rotate_left 2
                · have cx0 := FX0.out w' hw'; have cx1 := FX1.out w' hw'; have cp := FS.out w' hw'; go_simp <;> rfl
                · simp only [Act.put, List.setIfInBounds_toArray, List.set_cons_succ, List.set_cons_zero]; rfl
                refine QB.val' (v := ?_) (a' := ?_) (by kernel_rfl) (fun w' hw' => ?_) ?_ ?_
                rotate_left 2
                · have cx0 := FX0.out w' hw'; have cx1 := FX1.out w' hw'; have cp := FS.out w' hw'; go_simp <;> rfl
                · simp only [Act.put, List.setIfInBounds_toArray, List.set_cons_succ, List.set_cons_zero]; rfl
                refine QB.call' (f := 90) (args := #[.int .u32 r.addr, .int .i64 r.bits]) (v := .bool true) (a' := ?_) (by kernel_rfl) (fun w' hw' => ?_) (fun w' hw' => (isPrefix_any r.addr r.bits w').mono fun _ _ ⟨h1, h2⟩ => ⟨h1.trans (by rw [HI.out]), h2 ▸ hw'⟩) ?_ ?_
                rotate_left
                · have cx0 := FX0.out w' hw'; have cx1 := FX1.out w' hw'; go_simp <;> rfl
                · simp only [Act.put, List.setIfInBounds_toArray, List.set_cons_succ, List.set_cons_zero]; rfl
                refine QB.val' (v := ?_) (a' := ?_) (by kernel_rfl) (fun w' hw' => ?_) ?_ ?_
                rotate_left 2
                · have cx0 := FX0.out w' hw'; have cx1 := FX1.out w' hw'; have cp := FS.out w' hw'; go_simp <;> rfl
                · simp only [Act.put, List.setIfInBounds_toArray, List.set_cons_succ, List.set_cons_zero]; rfl
                refine QB.val' (v := ?_) (a' := ?_) (by kernel_rfl) (fun w' hw' => ?_) ?_ ?_
                rotate_left 2
                · have cx0 := FX0.out w' hw'; have cx1 := FX1.out w' hw'; have cp := FS.out w' hw'; go_simp <;> rfl
                · simp only [Act.put, List.setIfInBounds_toArray, List.set_cons_succ, List.set_cons_zero]; rfl
                refine QB.val' (v := ?_) (a' := ?_) (by kernel_rfl) (fun w' hw' => ?_) ?_ ?_
                rotate_left 2
                · have cx0 := FX0.out w' hw'; have cx1 := FX1.out w' hw'; have cp := FS.out w' hw'; go_simp <;> rfl
                · simp only [Act.put, List.setIfInBounds_toArray, List.set_cons_succ, List.set_cons_zero]; rfl
                refine QB.val' (v := ?_) (a' := ?_) (by kernel_rfl) (fun w' hw' => ?_) ?_ ?_
                rotate_left 2
                · have cx0 := FX0.out w' hw'; have cx1 := FX1.out w' hw'; have cp := FS.out w' hw'; go_simp <;> rfl
                · simp only [Act.put, List.setIfInBounds_toArray, List.set_cons_succ, List.set_cons_zero]; rfl
                refine QB.val' (v := ?_) (a' := ?_) (by kernel_rfl) (fun w' hw' => ?_) ?_ ?_
                rotate_left 2
                · have cx0 := FX0.out w' hw'; have cx1 := FX1.out w' hw'; have cp := FS.out w' hw'; go_simp <;> rfl
                · simp only [Act.put, List.setIfInBounds_toArray, List.set_cons_succ, List.set_cons_zero]; rfl
                refine QB.val' (v := ?_) (a' := ?_) (by kernel_rfl) (fun w' hw' => ?_) ?_ ?_
                rotate_left 2
                · have cx0 := FX0.out w' hw'; have cx1 := FX1.out w' hw'; have cp := FS.out w' hw'; go_simp <;> rfl
                · simp only [Act.put, List.setIfInBounds_toArray, List.set_cons_succ, List.set_cons_zero]; rfl
                refine QB.val' (v := ?_) (a' := ?_) (by kernel_rfl) (fun w' hw' => ?_) ?_ ?_
                rotate_left 2
                · have cx0 := FX0.out w' hw'; have cx1 := FX1.out w' hw'; have cp := FS.out w' hw'; go_simp <;> rfl
                · simp only [Act.put, List.setIfInBounds_toArray, List.set_cons_succ, List.set_cons_zero]; rfl
                refine QB.val' (v := ?_) (a' := ?_) (by kernel_rfl) (fun w' hw' => ?_) ?_ ?_
                rotate_left 2
                · have cx0 := FX0.out w' hw'; have cx1 := FX1.out w' hw'; have cp := FS.out w' hw'; go_simp <;> rfl
                · simp only [Act.put, List.setIfInBounds_toArray, List.set_cons_succ, List.set_cons_zero]; rfl
                refine QB.val' (v := ?_) (a' := ?_) (by kernel_rfl) (fun w' hw' => ?_) ?_ ?_
                rotate_left 2
                · have cx0 := FX0.out w' hw'; have cx1 := FX1.out w' hw'; have cp := FS.out w' hw'; go_simp <;> rfl
                · simp only [Act.put, List.setIfInBounds_toArray, List.set_cons_succ, List.set_cons_zero]; rfl
                refine QB.val' (v := ?_) (a' := ?_) (by kernel_rfl) (fun w' hw' => ?_) ?_ ?_
                rotate_left 2
                · have cx0 := FX0.out w' hw'; have cx1 := FX1.out w' hw'; have cp := FS.out w' hw'; go_simp <;> rfl
                · simp only [Act.put, List.setIfInBounds_toArray, List.set_cons_succ, List.set_cons_zero]; rfl
                refine QB.ld' (a' := ?_) (by kernel_rfl) 98 rfl rfl (fun w' hw' => FY.out w' hw') ?_ ?_
                rotate_left
                · simp only [Act.put, List.setIfInBounds_toArray, List.set_cons_succ, List.set_cons_zero]; rfl
                refine QB.val' (v := ?_) (a' := ?_) (by kernel_rfl) (fun w' hw' => ?_) ?_ ?_
                rotate_left 2
                · have cx0 := FX0.out w' hw'; have cx1 := FX1.out w' hw'; have cp := FS.out w' hw'; go_simp <;> rfl
                · simp only [Act.put, List.setIfInBounds_toArray, List.set_cons_succ, List.set_cons_zero]; rfl
                refine QB.val' (v := ?_) (a' := ?_) (by kernel_rfl) (fun w' hw' => ?_) ?_ ?_
                rotate_left 2
                · have cx0 := FX0.out w' hw'; have cx1 := FX1.out w' hw'; have cp := FS.out w' hw'; go_simp <;> rfl
                · simp only [Act.put, List.setIfInBounds_toArray, List.set_cons_succ, List.set_cons_zero]; rfl
                refine QB.val' (v := ?_) (a' := ?_) (by kernel_rfl) (fun w' hw' => ?_) ?_ ?_
                rotate_left 2
                · have cx0 := FX0.out w' hw'; have cx1 := FX1.out w' hw'; have cp := FS.out w' hw'; go_simp <;> rfl
                · simp only [Act.put, List.setIfInBounds_toArray, List.set_cons_succ, List.set_cons_zero]; rfl
                refine QB.val' (v := ?_) (a' := ?_) (by kernel_rfl) (fun w' hw' => ?_) ?_ ?_
                rotate_left 2
                · have cx0 := FX0.out w' hw'; have cx1 := FX1.out w' hw'; have cp := FS.out w' hw'; go_simp <;> rfl
                · simp only [Act.put, List.setIfInBounds_toArray, List.set_cons_succ, List.set_cons_zero]; rfl
                refine QB.call' (f := 91) (args := #[y.val, .int .u32 r.addr, .int .i64 r.bits]) (v := .int .i64 q) (a' := ?_) (by kernel_rfl) (fun w' hw' => ?_) (fun w' hw' => (byPre_any y r.addr r.bits w').mono fun _ _ ⟨h1, h2⟩ => ⟨h1.trans (by rw [HZ.out]), nextB hw' (Nat.le_refl _) h2⟩) ?_ ?_
                rotate_left
                · have cx0 := FX0.out w' hw'; have cx1 := FX1.out w' hw'; go_simp <;> rfl
                · simp only [Act.put, List.setIfInBounds_toArray, List.set_cons_succ, List.set_cons_zero]; rfl
                refine QB.val' (v := ?_) (a' := ?_) (by kernel_rfl) (fun w' hw' => ?_) ?_ ?_
                rotate_left 2
                · have cx0 := FX0.out w' hw'; have cx1 := FX1.out w' hw'; have cp := FS.out w' hw'; go_simp <;> rfl
                · simp only [Act.put, List.setIfInBounds_toArray, List.set_cons_succ, List.set_cons_zero]; rfl
                refine QB.val' (v := ?_) (a' := ?_) (by kernel_rfl) (fun w' hw' => ?_) ?_ ?_
                rotate_left 2
                · have cx0 := FX0.out w' hw'; have cx1 := FX1.out w' hw'; have cp := FS.out w' hw'; go_simp <;> rfl
                · simp only [Act.put, List.setIfInBounds_toArray, List.set_cons_succ, List.set_cons_zero]; rfl
                refine QB.val' (v := ?_) (a' := ?_) (by kernel_rfl) (fun w' hw' => ?_) ?_ ?_
                rotate_left 2
                · have cx0 := FX0.out w' hw'; have cx1 := FX1.out w' hw'; have cp := FS.out w' hw'; go_simp <;> rfl
                · simp only [Act.put, List.setIfInBounds_toArray, List.set_cons_succ, List.set_cons_zero]; rfl
                refine QB.nil' fun w' hw' => ?_
                have HW := Lib.hid hw'
                clear hw'
                go_wp2
                go_ret
                exact ⟨rfl, nextB HBW.out (Nat.le_refl _) HW.out⟩
              | false =>
                have HK := Lib.hid (Classical.not_not.1 (fun hn => of_decide_eq_false hZ ((r_lt y r.addr r.bits).2 hn)))
                obtain ⟨q, hq⟩ : ∃ q, preZ y r.addr r.bits = q := ⟨_, rfl⟩
                have HZ := Lib.hid hq
                rw [hq] at hZ
                have hZ' : ¬ 0 ≤ q := of_decide_eq_false hZ
                clear hZ hq
                refine QB.region' mixed (by kernel_rfl) ?_
                refine QB.val' (v := ?_) (a' := ?_) (by kernel_rfl) (fun w' hw' => ?_) ?_ ?_
                rotate_left 2
                · have cx0 := FX0.out w' hw'; have cx1 := FX1.out w' hw'; have cp := FS.out w' hw'; go_simp <;> rfl
                · simp only [Act.put, List.setIfInBounds_toArray, List.set_cons_succ, List.set_cons_zero]; rfl
                refine QB.val' (v := ?_) (a' := ?_) (by kernel_rfl) (fun w' hw' => ?_) ?_ ?_
                rotate_left 2
                · have cx0 := FX0.out w' hw'; have cx1 := FX1.out w' hw'; have cp := FS.out w' hw'; go_simp <;> rfl
                · simp only [Act.put, List.setIfInBounds_toArray, List.set_cons_succ, List.set_cons_zero]; rfl
                refine QB.val' (v := ?_) (a' := ?_) (by kernel_rfl) (fun w' hw' => ?_) ?_ ?_
                rotate_left 2
                · have cx0 := FX0.out w' hw'; have cx1 := FX1.out w' hw'; have cp := FS.out w' hw'; go_simp <;> rfl
                · simp only [Act.put, List.setIfInBounds_toArray, List.set_cons_succ, List.set_cons_zero]; rfl
                refine QB.val' (v := ?_) (a' := ?_) (by kernel_rfl) (fun w' hw' => ?_) ?_ ?_
                rotate_left 2
                · have cx0 := FX0.out w' hw'; have cx1 := FX1.out w' hw'; have cp := FS.out w' hw'; go_simp <;> rfl
                · simp only [Act.put, List.setIfInBounds_toArray, List.set_cons_succ, List.set_cons_zero]; rfl
                refine QB.call' (f := 90) (args := #[.int .u32 r.addr, .int .i64 r.bits]) (v := .bool true) (a' := ?_) (by kernel_rfl) (fun w' hw' => ?_) (fun w' hw' => (isPrefix_any r.addr r.bits w').mono fun _ _ ⟨h1, h2⟩ => ⟨h1.trans (by rw [HI.out]), h2 ▸ hw'⟩) ?_ ?_
                rotate_left
                · have cx0 := FX0.out w' hw'; have cx1 := FX1.out w' hw'; go_simp <;> rfl
                · simp only [Act.put, List.setIfInBounds_toArray, List.set_cons_succ, List.set_cons_zero]; rfl
                refine QB.val' (v := ?_) (a' := ?_) (by kernel_rfl) (fun w' hw' => ?_) ?_ ?_
                rotate_left 2
                · have cx0 := FX0.out w' hw'; have cx1 := FX1.out w' hw'; have cp := FS.out w' hw'; go_simp <;> rfl
                · simp only [Act.put, List.setIfInBounds_toArray, List.set_cons_succ, List.set_cons_zero]; rfl
                refine QB.val' (v := ?_) (a' := ?_) (by kernel_rfl) (fun w' hw' => ?_) ?_ ?_
                rotate_left 2
                · have cx0 := FX0.out w' hw'; have cx1 := FX1.out w' hw'; have cp := FS.out w' hw'; go_simp <;> rfl
                · simp only [Act.put, List.setIfInBounds_toArray, List.set_cons_succ, List.set_cons_zero]; rfl
                refine QB.val' (v := ?_) (a' := ?_) (by kernel_rfl) (fun w' hw' => ?_) ?_ ?_
                rotate_left 2
                · have cx0 := FX0.out w' hw'; have cx1 := FX1.out w' hw'; have cp := FS.out w' hw'; go_simp <;> rfl
                · simp only [Act.put, List.setIfInBounds_toArray, List.set_cons_succ, List.set_cons_zero]; rfl
                refine QB.val' (v := ?_) (a' := ?_) (by kernel_rfl) (fun w' hw' => ?_) ?_ ?_
                rotate_left 2
                · have cx0 := FX0.out w' hw'; have cx1 := FX1.out w' hw'; have cp := FS.out w' hw'; go_simp <;> rfl
                · simp only [Act.put, List.setIfInBounds_toArray, List.set_cons_succ, List.set_cons_zero]; rfl
                refine QB.val' (v := ?_) (a' := ?_) (by kernel_rfl) (fun w' hw' => ?_) ?_ ?_
                rotate_left 2
                · have cx0 := FX0.out w' hw'; have cx1 := FX1.out w' hw'; have cp := FS.out w' hw'; go_simp <;> rfl
                · simp only [Act.put, List.setIfInBounds_toArray, List.set_cons_succ, List.set_cons_zero]; rfl
                refine QB.val' (v := ?_) (a' := ?_) (by kernel_rfl) (fun w' hw' => ?_) ?_ ?_
                rotate_left 2
                · have cx0 := FX0.out w' hw'; have cx1 := FX1.out w' hw'; have cp := FS.out w' hw'; go_simp <;> rfl
                · simp only [Act.put, List.setIfInBounds_toArray, List.set_cons_succ, List.set_cons_zero]; rfl
                refine QB.val' (v := ?_) (a' := ?_) (by kernel_rfl) (fun w' hw' => ?_) ?_ ?_
                rotate_left 2
                · have cx0 := FX0.out w' hw'; have cx1 := FX1.out w' hw'; have cp := FS.out w' hw'; go_simp <;> rfl
                · simp only [Act.put, List.setIfInBounds_toArray, List.set_cons_succ, List.set_cons_zero]; rfl
                refine QB.val' (v := ?_) (a' := ?_) (by kernel_rfl) (fun w' hw' => ?_) ?_ ?_
                rotate_left 2
                · have cx0 := FX0.out w' hw'; have cx1 := FX1.out w' hw'; have cp := FS.out w' hw'; go_simp <;> rfl
                · simp only [Act.put, List.setIfInBounds_toArray, List.set_cons_succ, List.set_cons_zero]; rfl
                refine QB.val' (v := ?_) (a' := ?_) (by kernel_rfl) (fun w' hw' => ?_) ?_ ?_
                rotate_left 2
                · have cx0 := FX0.out w' hw'; have cx1 := FX1.out w' hw'; have cp := FS.out w' hw'; go_simp <;> rfl
                · simp only [Act.put, List.setIfInBounds_toArray, List.set_cons_succ, List.set_cons_zero]; rfl
                refine QB.val' (v := ?_) (a' := ?_) (by kernel_rfl) (fun w' hw' => ?_) ?_ ?_
                rotate_left 2
                · have cx0 := FX0.out w' hw'; have cx1 := FX1.out w' hw'; have cp := FS.out w' hw'; go_simp <;> rfl
                · simp only [Act.put, List.setIfInBounds_toArray, List.set_cons_succ, List.set_cons_zero]; rfl
                refine QB.ld' (a' := ?_) (by kernel_rfl) 98 rfl rfl (fun w' hw' => FY.out w' hw') ?_ ?_
                rotate_left
                · simp only [Act.put, List.setIfInBounds_toArray, List.set_cons_succ, List.set_cons_zero]; rfl
                refine QB.val' (v := ?_) (a' := ?_) (by kernel_rfl) (fun w' hw' => ?_) ?_ ?_
                rotate_left 2
                · have cx0 := FX0.out w' hw'; have cx1 := FX1.out w' hw'; have cp := FS.out w' hw'; go_simp <;> rfl
                · simp only [Act.put, List.setIfInBounds_toArray, List.set_cons_succ, List.set_cons_zero]; rfl
                refine QB.val' (v := ?_) (a' := ?_) (by kernel_rfl) (fun w' hw' => ?_) ?_ ?_
                rotate_left 2
                · have cx0 := FX0.out w' hw'; have cx1 := FX1.out w' hw'; have cp := FS.out w' hw'; go_simp <;> rfl
                · simp only [Act.put, List.setIfInBounds_toArray, List.set_cons_succ, List.set_cons_zero]; rfl
                refine QB.val' (v := ?_) (a' := ?_) (by kernel_rfl) (fun w' hw' => ?_) ?_ ?_
                rotate_left 2
                · have cx0 := FX0.out w' hw'; have cx1 := FX1.out w' hw'; have cp := FS.out w' hw'; go_simp <;> rfl
                · simp only [Act.put, List.setIfInBounds_toArray, List.set_cons_succ, List.set_cons_zero]; rfl
                refine QB.val' (v := ?_) (a' := ?_) (by kernel_rfl) (fun w' hw' => ?_) ?_ ?_
                rotate_left 2
                · have cx0 := FX0.out w' hw'; have cx1 := FX1.out w' hw'; have cp := FS.out w' hw'; go_simp <;> rfl
                · simp only [Act.put, List.setIfInBounds_toArray, List.set_cons_succ, List.set_cons_zero]; rfl
                refine QB.call' (f := 91) (args := #[y.val, .int .u32 r.addr, .int .i64 r.bits]) (v := .int .i64 q) (a' := ?_) (by kernel_rfl) (fun w' hw' => ?_) (fun w' hw' => (byPre_any y r.addr r.bits w').mono fun _ _ ⟨h1, h2⟩ => ⟨h1.trans (by rw [HZ.out]), nextB hw' (Nat.le_refl _) h2⟩) ?_ ?_
                rotate_left
                · have cx0 := FX0.out w' hw'; have cx1 := FX1.out w' hw'; go_simp <;> rfl
                · simp only [Act.put, List.setIfInBounds_toArray, List.set_cons_succ, List.set_cons_zero]; rfl
                refine QB.val' (v := ?_) (a' := ?_) (by kernel_rfl) (fun w' hw' => ?_) ?_ ?_
                rotate_left 2
                · have cx0 := FX0.out w' hw'; have cx1 := FX1.out w' hw'; have cp := FS.out w' hw'; go_simp <;> rfl
                · simp only [Act.put, List.setIfInBounds_toArray, List.set_cons_succ, List.set_cons_zero]; rfl
                refine QB.val' (v := ?_) (a' := ?_) (by kernel_rfl) (fun w' hw' => ?_) ?_ ?_
                rotate_left 2
                · have cx0 := FX0.out w' hw'; have cx1 := FX1.out w' hw'; have cp := FS.out w' hw'; go_simp <;> rfl
                · simp only [Act.put, List.setIfInBounds_toArray, List.set_cons_succ, List.set_cons_zero]; rfl
                refine QB.val' (v := ?_) (a' := ?_) (by kernel_rfl) (fun w' hw' => ?_) ?_ ?_
                rotate_left 2
                · have cx0 := FX0.out w' hw'; have cx1 := FX1.out w' hw'; have cp := FS.out w' hw'; go_simp <;> rfl
                · simp only [Act.put, List.setIfInBounds_toArray, List.set_cons_succ, List.set_cons_zero]; rfl
                refine QB.nil' fun w' hw' => ?_
                have HW := Lib.hid hw'
                clear hw'
                have HWb := Lib.hid (show Below w.heap.size w w' from nextB HBW.out (Nat.le_refl _) HW.out)
                have hl0 := FC.out w' HW.out
                have cx2 := FX2.out w' HW.out
                cases hh : has Mb.key (r.peer, 0) c.ps with
                | false =>
                  obtain rfl : z = 2 := by rw [← Hz.out]; exact if_neg (fun hv => by have := (hv.2.2.2.2.1 r (List.mem_of_getElem? HM.out)).2; rw [hh] at this; cases this)
                  have HAt := Lib.hid (At1_any (w := w') (B := B) (vp := (.slice A1 c.ps.length n1)) (vr := (.slice (some ⟨b0, off, none⟩) c.rs.length n2)) (HC.out.ps.below (HWb.out.mono HBw.out)) (by have := HN1.out; omega) HO1.out rfl rfl r.peer (Nat.le_trans HBw.out HWb.out.size))
                  rw [hh] at HAt
                  clear hh
                  go_wp2_with (first
                    | (refine QB.wpList_ld 25 rfl rfl hl0 rfl ?_)
                    | (go_at_call 92; refine HAt.out.mono ?_; rintro e w2 ⟨rfl, hb⟩; have HB2 := Lib.hid (nextB HWb.out (Nat.le_refl _) hb); clear hb)
                    | fail)
                  go_ret
                  exact ⟨rfl, HB2.out⟩
                | true =>
                  have HAt := Lib.hid (At1_any (w := w') (B := B) (vp := (.slice A1 c.ps.length n1)) (vr := (.slice (some ⟨b0, off, none⟩) c.rs.length n2)) (HC.out.ps.below (HWb.out.mono HBw.out)) (by have := HN1.out; omega) HO1.out rfl rfl r.peer (Nat.le_trans HBw.out HWb.out.size))
                  rw [hh] at HAt
                  have HH := Lib.hid hh
                  clear hh
                  go_wp2_with (first
                    | (refine QB.wpList_ld 25 rfl rfl hl0 rfl ?_)
                    | (go_at_call 92; refine HAt.out.mono ?_; rintro e w2 ⟨rfl, hb⟩; have HB2 := Lib.hid hb; clear hb)
                    | fail)
                  go_roundw
                  case rel =>
                    refine ⟨j + 1 + 1, by omega, by simp, ((HB.out.trans (HBW2.out.mono HB.out.size)).trans (HW.out.mono (by have := HB.out.size; have := HBW2.out.size; omega))).trans (HB2.out.mono (by have := HB.out.size; have := HBW2.out.size; have := HW.out.size; omega)), Lib.hid ⟨?_, ?_⟩⟩
                    · intro t m' ht' hm'
                      rcases Nat.lt_or_ge t (j + 1) with h | h
                      · exact I.out.1 t m' h hm'
                      · obtain rfl : t = (j + 1) := by omega
                        rw [HM.out] at hm'
                        cases hm'
                        exact ⟨HI.out, HH.out⟩
                    · exact ord_snoc HM.out I.out.2 (fun y' _ hy' => by rw [show j + 1 - 1 = j by omega, HY.out] at hy'; cases hy'; exact HK.out)
                  case measure => simp [intOf]; omega
        · have hlt' : ¬ (i : Int) < (c.rs.length : Int) := by omega
          obtain rfl : i = c.rs.length := by omega
          have HO2 := Lib.hid (show Ord Rt.key c.rs by have := I.out.2; rwa [List.take_length] at this)
          have HI2 := Lib.hid (show ∀ r ∈ c.rs, _ from fun r hr => by obtain ⟨t, ht⟩ := List.getElem?_of_mem hr; exact I.out.1 t r (List.getElem?_eq_some_iff.1 ht).1 ht)
          obtain rfl : z = 0 := by rw [← Hz.out]; exact if_pos ⟨HN1.out, HN2.out, HI1.out, HO1.out, HI2.out, HO2.out⟩
          go_wp2
          go_ret
          exact ⟨rfl, HB0.out.trans (HB.out.mono HB0.out.size)⟩
end Go.Proofs.Ytedmogacklbcmaa.Cfg
namespace Go.Proofs.Ytedmogacklbcmaa.Cfg
open Go.RowKit
section
variable {P : Program}
theorem still_ld {ops : Array Oper} {Q : Act → Prop} {a : Act} {w : World} {o : Oper} {rest : List Oper} (hw : Region.wanted o (yielded ops a.tmps) = true) (ty : TypeId) {x : Operand} {ad : Addr} {v : Value} (ho : o.op = .load ty x) (hx : a.eval x = .pointer (some ad)) (hrun : (loadVar ty ad).run P w = .ok v w)
    (hk : wpStill P ops w Q rest (a.put o.dst v)) : wpStill P ops w Q (o :: rest) a := by
  unfold wpStill
  rw [if_pos hw]
  unfold Oper.still
  have : (execOp a.eval o).run P w = .ok (.value v) w := by
    unfold execOp
    simp only [ho, hx, Instr.loadAt, Instr.sureAddr, Sem.run_bind, Sem.run_pure, Result.andThen_ok, hrun]
  rw [this]
  exact ⟨rfl, hk⟩
theorem wpList_bd {ops : Array Oper} {rest : List Oper} {o : Oper} {a : Act} {w : World} {Q : Exit → Act → World → Prop} (t : TypeId) (parts : Array (Nat × Operand)) (ho : o.op = .build t parts) {v : Value}
    (hrun : (Instr.build t (parts.map fun (i, x) => (i, a.eval x))).run P w = .ok v w) (hw : Region.wanted o (yielded ops a.tmps) = true) (hk : wpList P ops Q rest (a.put o.dst v) w) : wpList P ops Q (o :: rest) a w :=
  BigFrame.wpList_want hw fun K hK => by
    unfold Oper.wp execOp
    simp only [ho, Sem.run_bind, Sem.run_pure, Result.andThen_ok, hrun]
    exact hK _ _ hk
end
section
variable {o : Opn} {w : World} {g : Nat}
theorem Opn.at35 (h : o.ky.length = 32) : o.cs[35]? = some (.int .u32 o.addr) := by
  show (o.ky.map bv ++ [Value.int .u32 o.addr, Value.int .i64 o.bits])[32]? = _
  rw [List.getElem?_append_right (by rw [List.length_map, h]; omega), List.length_map, h]; rfl
theorem Opn.at36 (h : o.ky.length = 32) : o.cs[36]? = some (.int .i64 o.bits) := by
  show (o.ky.map bv ++ [Value.int .u32 o.addr, Value.int .i64 o.bits])[33]? = _
  rw [List.getElem?_append_right (by rw [List.length_map, h]; omega), List.length_map, h]; rfl
theorem Opn.set_id (o : Opn) (x : Int) : o.cs.set 2 (.int .i64 x) = { o with id := x }.cs := rfl
theorem Opn.set_addr (h : o.ky.length = 32) (x : Int) : o.cs.set 35 (.int .u32 x) = { o with addr := x }.cs := by
  show _ :: _ :: _ :: (o.ky.map bv ++ [Value.int .u32 o.addr, Value.int .i64 o.bits]).set 32 _ = _
  rw [List.set_append_right _ _ (by rw [List.length_map, h]; omega), List.length_map, h]; rfl
theorem Opn.set_bits (h : o.ky.length = 32) (x : Int) : o.cs.set 36 (.int .i64 x) = { o with bits := x }.cs := by
  show _ :: _ :: _ :: (o.ky.map bv ++ [Value.int .u32 o.addr, Value.int .i64 o.bits]).set 33 _ = _
  rw [List.set_append_right _ _ (by rw [List.length_map, h]; omega), List.length_map, h]; rfl
theorem Opn.set_key (h : o.ky.length = 32) {k : List UInt8} (hk : k.length = 32) : splice o.cs 3 (k.map bv) = { o with ky := k }.cs := by
  have e1 : o.cs.take 3 = [Value.int .i64 o.kind, .int .u64 o.ref, .int .i64 o.id] := rfl
  have e2 : o.cs.drop (3 + 32) = [Value.int .u32 o.addr, Value.int .i64 o.bits] := by
    show (o.ky.map bv ++ [Value.int .u32 o.addr, Value.int .i64 o.bits]).drop 32 = _
    rw [List.drop_left' (by rw [List.length_map, h])]
  unfold splice
  rw [List.length_map, hk, e1, e2]
  rfl
theorem ky_at (h : o.ky.length = 32) : (o.cs.drop 3).take 32 = o.ky.map bv := by
  show (o.ky.map bv ++ [Value.int .u32 o.addr, Value.int .i64 o.bits]).take 32 = _
  rw [List.take_left' (by rw [List.length_map, h])]
theorem l_op (h : Row w g o.cs 30) (hk : o.ky.length = 32) : (loadVar 30 ⟨g, 0, none⟩).run Try.prog w = .ok o.val w := by
  rw [Pol.run_loadVar_sub (off := 0) (n := 37) w h Try.underlying30 rfl (by kernel_rfl) (by rw [Opn.len hk]; omega), List.drop_zero, List.take_of_length_le (by rw [Opn.len hk]; omega)]
  rfl
theorem l_key (h : Row w g o.cs 30) (hk : o.ky.length = 32) : (loadVar 27 ⟨g, 3, none⟩).run Try.prog w = .ok (arr8 o.ky) w := by
  rw [Pol.run_loadVar_sub (off := 3) (n := 32) w h Try.underlying27 rfl (by kernel_rfl) (by rw [Opn.len hk]; omega)]
  show Result.ok (Value.agg (List.take 32 (o.ky.map bv ++ [Value.int .u32 o.addr, Value.int .i64 o.bits])).toArray) w = _
  rw [List.take_left' (by rw [List.length_map, hk])]
  rfl
end
theorem splice_one {l : List Value} {i : Nat} (h : i < l.length) (v : Value) : splice l i [v] = l.set i v := by
  unfold splice
  rw [List.set_eq_take_append_cons_drop, if_pos h]
  rfl
theorem sp_id (o : Opn) (x : Int) : splice o.cs 2 [.int .i64 x] = { o with id := x }.cs := rfl
theorem sp_addr {o : Opn} (h : o.ky.length = 32) (x : Int) : splice o.cs 35 [.int .u32 x] = { o with addr := x }.cs := by
  rw [splice_one (by rw [Opn.len h]; omega), Opn.set_addr h]
theorem sp_bits {o : Opn} (h : o.ky.length = 32) (x : Int) : splice o.cs 36 [.int .i64 x] = { o with bits := x }.cs := by
  rw [splice_one (by rw [Opn.len h]; omega), Opn.set_bits h]
def Stop (p : Prop) : Prop := p
theorem stop {p : Prop} (h : Stop p) : p := h
def zop (k r : Int) : Opn := ⟨k, r, 0, zkey, 0, 0⟩
/-- What an operation of its kind names. -/
def named (o : Opn) : Opn :=
  if o.kind = 1 then { zop o.kind o.ref with id := o.id, ky := o.ky } else if o.kind = 2 ∨ o.kind = 3 then { zop o.kind o.ref with id := o.id } else if o.kind = 4 then { zop o.kind o.ref with id := o.id, addr := o.addr, bits := o.bits } else { zop o.kind o.ref with addr := o.addr, bits := o.bits }
def okO (o : Opn) : Bool := (decide (o.kind = 1) || decide (o.kind = 2) || decide (o.kind = 3) || decide (o.kind = 4) || decide (o.kind = 5)) && (decide (o = named o) && ((decide (o.kind = 5) || isIDB o.id) && prefB o.addr o.bits))
def checkOpZ (o : Opn) : Int := if okO o = true then 0 else 2
def st1 (o : Opn) (s : Nat) : Opn := { zop o.kind o.ref with id := if 1 ≤ s then o.id else 0, ky := if 2 ≤ s then o.ky else zkey }
def st4 (o : Opn) (s : Nat) : Opn := { zop o.kind o.ref with id := if 1 ≤ s then o.id else 0, addr := if 2 ≤ s then o.addr else 0, bits := if 3 ≤ s then o.bits else 0 }
def st5 (o : Opn) (s : Nat) : Opn := { zop o.kind o.ref with addr := if 1 ≤ s then o.addr else 0, bits := if 2 ≤ s then o.bits else 0 }
theorem zkey_len : zkey.length = 32 := by simp [zkey]
theorem st1_len (o : Opn) (h : o.ky.length = 32) (s : Nat) : (st1 o s).ky.length = 32 := by
  unfold st1
  simp only
  split
  · exact h
  · exact zkey_len
theorem st4_len (o : Opn) (_ : o.ky.length = 32) (s : Nat) : (st4 o s).ky.length = 32 := zkey_len
theorem st5_len (o : Opn) (_ : o.ky.length = 32) (s : Nat) : (st5 o s).ky.length = 32 := zkey_len
set_option maxRecDepth 100000 in
theorem zero_op : (Try.prog.info? 30).bind (·.zero) = some (zop 0 0).val := by kernel_rfl

set_option maxRecDepth 100000 in
set_option maxHeartbeats 4000000 in
theorem CheckOp_1 (o : Opn) (hk : o.ky.length = 32) (hkind : o.kind = 1) (w : World) : Calls Try.prog 56 #[o.val] w fun e w' => e = .returned (.int .i64 (checkOpZ o)) ∧ Below w.heap.size w w' := by
  obtain ⟨z, hz⟩ : ∃ z, checkOpZ o = z := ⟨_, rfl⟩
  rw [hz]
  have Hz := Lib.hid hz
  have Hk := Lib.hid hk
  have HKIND := Lib.hid hkind
  have hr0 : Row (w.alloc (.cells o.cs.toArray 30)) w.heap.size o.cs 30 := Row.new rfl rfl
  have hb0 : Below w.heap.size w (w.alloc (.cells o.cs.toArray 30)) := (Below.refl _ w).alloc (Nat.le_refl _) _
  have c0 := hr0.cell (i := 0) rfl
  have c1 := hr0.cell (i := 1) rfl
  have HR0 := Lib.hid hr0
  have HB0 := Lib.hid hb0
  have hgs : (w.alloc (.cells o.cs.toArray 30)).heap.size = w.heap.size + 1 := by simp
  have Hgs := Lib.hid hgs
  clear hz hk hr0 hb0 hgs hkind
  unfold Opn.val
  go_enter Try.func56, Try.ntmps56
  go_wp2_with (first
    | (show wpList _ _ _ (⟨some 8, _, _, _, _, _⟩ :: _) _ _; refine wpList_bd _ _ rfl (v := (zop o.kind o.ref).val) (by kernel_rfl) rfl ?_)
    | (refine QB.wpList_alloc rfl 30 rfl zero_op ?_; intro W1 hr1 hb1; have HR1 := Lib.hid (show Row W1 (w.heap.size + 1) (zop 0 0).cs 30 from Hgs.out ▸ hr1); have HB1 := Lib.hid hb1; clear hr1 hb1; refine stop ?_)
    | fail)
  unfold Stop
  refine wpList_storeRow rfl 30 (.tmp 3) (.tmp 8) rfl (g := w.heap.size + 1) (by rfl) (cs := (zop o.kind o.ref).cs) rfl HR1.out (by kernel_rfl) (Opn.len zkey_len) (Opn.len zkey_len) (Opn.one _) ?_
  refine QB.name fun W2 hW2 => ?_
  have hR1 : Row W2 (w.heap.size + 1) (zop o.kind o.ref).cs 30 := by rw [← hW2]; exact HR1.out.setRow _
  have hBW : Below w.heap.size w W2 := by rw [← hW2]; exact below_setRow (nextB HB0.out (Nat.le_refl _) HB1.out) (by omega) _
  have hR0 : Row W2 w.heap.size o.cs 30 := by rw [← hW2]; exact (HR0.out.below HB1.out HR0.out.lt).setOther _ _ (by omega)
  clear hW2 c0 c1
  simp only [Act.put]
  have ck := hR0.cell (i := 0) rfl
  rw [HKIND.out] at ck
  have ci := hR0.cell (i := 2) rfl; have ca := hR0.cell (Opn.at35 Hk.out); have cb := hR0.cell (Opn.at36 Hk.out)
  go_wp2_with fail
  obtain ⟨nm, hnm⟩ : ∃ nm : Opn, { zop o.kind o.ref with id := o.id, ky := o.ky } = nm := ⟨_, rfl⟩
  have Hnm : Hid (named o = nm) := Lib.hid (by rw [← hnm]; unfold named; rw [if_pos HKIND.out])
  have HNM := Lib.hid hnm
  have HnmL : Hid (nm.ky.length = 32) := Lib.hid (by rw [← hnm]; first | exact Hk.out | exact zkey_len)
  have HR0 := Lib.hid hR0
  have HBW2 := Lib.hid hBW
  obtain ⟨gn, hgn⟩ : ∃ gn, w.heap.size + 1 = gn := ⟨_, rfl⟩
  rw [hgn] at hR1
  have HR1 := Lib.hid hR1
  have HGne := Lib.hid (show w.heap.size ≠ gn by omega)
  have HGle := Lib.hid (show w.heap.size ≤ gn by omega)
  rw [hgn]
  clear hR0 hR1 hBW hnm ck ci ca cb hgn
  refine ByN.marks mixed (Stg.St gn (fun s => (st1 o s).cs) 30) [By.is (.pointer (some ⟨w.heap.size, 2, none⟩)),
    By.is (.int .i64 o.id),
    By.is (.pointer (some ⟨w.heap.size, 3, none⟩)),
    By.is (arr8 o.ky),
    By.is (.pointer (some ⟨gn, 2, none⟩)),
    Stg.stM gn (fun s => (st1 o s).cs) 30 1,
    By.is (.pointer (some ⟨gn, 3, none⟩)),
    Stg.stM gn (fun s => (st1 o s).cs) 30 2]
    (Ev.masks _ []) (by kernel_rfl) rfl Stg.St.refl Stg.St.trans ⟨?_, ?_, ?_, ?_, ?_, ?_, ?_, ?_, trivial⟩ ?_
  · intro a w9 ht hs hg
    have h1 := By.same_get hs 1 (by decide) (by kernel_rfl)
    refine By.yes rfl ?_
    clear hs hg
    go_simp
    exact ⟨_, rfl, Stg.St.refl _, rfl⟩
  · intro a w9 ht hs hg
    have h13 : a.tmps.getD 13 undef = _ := ByN.given_get hg 0 rfl rfl (by kernel_rfl)
    refine By.yes rfl ?_
    clear hs hg
    have hc := (ht.row (x := W2.drew) HR0.out HGne.out).cell (i := 2) rfl
    clear ht
    go_simp
    exact ⟨_, rfl, Stg.St.refl _, rfl⟩
  · intro a w9 ht hs hg
    have h1 := By.same_get hs 1 (by decide) (by kernel_rfl)
    refine By.yes rfl ?_
    clear hs hg
    go_simp
    exact ⟨_, rfl, Stg.St.refl _, rfl⟩
  · intro a w9 ht hs hg
    have h15 : a.tmps.getD 15 undef = _ := ByN.given_get hg 2 rfl rfl (by kernel_rfl)
    refine By.yes rfl ?_
    clear hs hg
    refine Pol.wp_loadSub (off := 3) (n := 32) 27 _ rfl h15 (ht.row (x := W2.drew) HR0.out HGne.out) Try.underlying27 rfl (by kernel_rfl) (by rw [Opn.len Hk.out]; omega) ?_
    exact ⟨_, rfl, Stg.St.refl _, by rw [ky_at Hk.out]; rfl⟩
  · intro a w9 ht hs hg
    have h3 := By.same_get hs 3 (by decide) (by kernel_rfl)
    refine By.yes rfl ?_
    clear hs hg
    go_simp
    exact ⟨_, rfl, Stg.St.refl _, rfl⟩
  · intro a w9 ht hs hg
    have h17 : a.tmps.getD 17 undef = _ := ByN.given_get hg 4 rfl rfl (by kernel_rfl)
    have h14 : a.tmps.getD 14 undef = _ := ByN.given_get hg 1 rfl rfl (by kernel_rfl)
    obtain ⟨s0, _, hrow⟩ := ht.up 0 (show Row W2.drew gn (st1 o 0).cs 30 from HR1.out)
    have hst : ∃ s, 1 ≤ s + 1 ∧ Row w9 gn ((fun s => (st1 o s).cs) s) 30 := ⟨s0, by omega, hrow⟩
    refine By.yes rfl ?_
    clear hs hg
    exact Stg.wp_stage (cells := (fun s => (st1 o s).cs)) (n := 1) 1 3 _ _ rfl rfl [.int .i64 o.id] h17 h14 rfl hst (by kernel_rfl) rfl (fun s => by show 2 + [.int .i64 o.id].length ≤ (st1 o s).cs.length; rw [Opn.len (st1_len o Hk.out s)]; simp) (by intro v hv; simp at hv; subst hv; rfl) (fun s hs => (sp_id (st1 o s) o.id).trans (congrArg Opn.cs (by simp [st1, show 1 ≤ max s 1 by omega, show (2 ≤ max s 1) ↔ (2 ≤ s) by omega])))
  · intro a w9 ht hs hg
    have h3 := By.same_get hs 3 (by decide) (by kernel_rfl)
    refine By.yes rfl ?_
    clear hs hg
    go_simp
    exact ⟨_, rfl, Stg.St.refl _, rfl⟩
  · intro a w9 ht hs hg
    have h18 : a.tmps.getD 18 undef = _ := ByN.given_get hg 6 rfl rfl (by kernel_rfl)
    have h16 : a.tmps.getD 16 undef = _ := ByN.given_get hg 3 rfl rfl (by kernel_rfl)
    have hp := ByN.given_get hg 5 rfl rfl (by kernel_rfl)
    obtain ⟨s0, hs0, hrow⟩ := hp
    have hst : ∃ s, 2 ≤ s + 1 ∧ Row w9 gn ((fun s => (st1 o s).cs) s) 30 := ⟨s0, by omega, hrow⟩
    refine By.yes rfl ?_
    clear hs hg
    exact Stg.wp_stage (cells := (fun s => (st1 o s).cs)) (n := 32) 2 27 _ _ rfl rfl (o.ky.map bv) h18 h16 rfl hst (by kernel_rfl) (by rw [List.length_map]; exact Hk.out) (fun s => by show 3 + (o.ky.map bv).length ≤ (st1 o s).cs.length; rw [Opn.len (st1_len o Hk.out s)]; rw [List.length_map, Hk.out]; omega) (by intro v hv; simp at hv; obtain ⟨u, _, rfl⟩ := hv; rfl) (fun s hs => (Opn.set_key (st1_len o Hk.out s) Hk.out).trans (congrArg Opn.cs (by simp [st1, show 1 ≤ s by omega, show 1 ≤ max s 2 by omega, show 2 ≤ max s 2 by omega])))
  refine ByN.ends_is ?_
  refine ByN.ends_is ?_
  refine ByN.ends_is ?_
  refine ByN.ends_is ?_
  refine ByN.ends_is ?_
  refine ByN.ends_skip fun _ => ?_
  refine ByN.ends_is ?_
  refine ByN.ends_any fun _ => ?_
  refine ByN.ends_nil fun W9 hw9 => ?_
  obtain ⟨hw9, hl9⟩ := hw9
  obtain ⟨s9, hs9, hrow9⟩ := (show ∃ s, 2 ≤ s ∧ Row W9 gn (st1 o s).cs 30 from hl9)
  have hR1 : Row W9 gn nm.cs 30 := by
    rw [show nm = st1 o s9 by rw [← HNM.out]; simp [st1, zop, show 1 ≤ s9 by omega, show 2 ≤ s9 by omega]]
    exact hrow9
  have hR0 : Row W9 w.heap.size o.cs 30 := hw9.row (x := W2.drew) HR0.out HGne.out
  have hBW : Below w.heap.size w W9 := HBW2.out.drew.trans (hw9.below (x := W2.drew) (B := w.heap.size) HGle.out HBW2.out.size)
  clear hw9 hl9 hrow9 hs9
  simp only [Act.put, List.setIfInBounds_toArray, List.set_cons_succ, List.set_cons_zero]
  have HBW := Lib.hid hBW
  have HL0 := Lib.hid (l_op hR0 Hk.out)
  have HL1 := Lib.hid (l_op hR1 HnmL.out)
  have ck := hR0.cell (i := 0) rfl
  rw [HKIND.out] at ck
  have ci := hR0.cell (i := 2) rfl
  have ca := hR0.cell (Opn.at35 Hk.out)
  have cb := hR0.cell (Opn.at36 Hk.out)
  have hgd := fun (u v : Operand) (W : World) => guard_of (t := 30) g_op .neq u v o.cs.toArray nm.cs.toArray W
  have hne := fun (W : World) => neq_of (eq_op o nm Hk.out HnmL.out W)
  have HI := Lib.hid (isID_any o.id)
  have HP := Lib.hid (isPrefix_any o.addr o.bits)
  replace hgd : ∀ (u v : Operand) (W : World), (eqGuard .neq 30 u v o.val nm.val).run Try.prog W = .ok () W := hgd
  replace hne : ∀ W : World, (binOp .neq 30 o.val nm.val).run Try.prog W = .ok (.bool (!decide (o = nm))) W := hne
  clear hR0 hR1 hBW
  cases hq : decide (o = nm) with
  | false =>
    rw [hq] at hne
    obtain rfl : z = 2 := by rw [← Hz.out]; exact if_neg (by unfold okO; rw [Hnm.out, hq]; simp)
    clear hq
    simp only [Bool.not_false] at hne
    go_wp2_with (first
      | (refine QB.wpList_ld 30 rfl rfl HL0.out rfl ?_; clear HL0; refine QB.wpList_ld 30 rfl rfl HL1.out rfl ?_; clear HL1; refine stop ?_)
      | fail)
    unfold Stop
    go_wp2_with (first
      | (go_at_call 88; refine (HI.out _).mono ?_; rintro e w' ⟨rfl, rfl⟩)
      | (go_at_call 90; refine (HP.out _).mono ?_; rintro e w' ⟨rfl, rfl⟩)
      | fail)
    go_ret
    exact ⟨rfl, HBW.out⟩
  | true =>
    rw [hq] at hne
    simp only [Bool.not_true] at hne
    cases hi : isIDB o.id with
    | false =>
      rw [hi] at HI
      obtain rfl : z = 2 := by rw [← Hz.out]; exact if_neg (by unfold okO; rw [hi, HKIND.out]; simp)
      clear hi hq
      go_wp2_with (first
        | (refine QB.wpList_ld 30 rfl rfl HL0.out rfl ?_; clear HL0; refine QB.wpList_ld 30 rfl rfl HL1.out rfl ?_; clear HL1; refine stop ?_)
        | fail)
      unfold Stop
      go_wp2_with (first
        | (go_at_call 88; refine (HI.out _).mono ?_; rintro e w' ⟨rfl, rfl⟩)
        | (go_at_call 90; refine (HP.out _).mono ?_; rintro e w' ⟨rfl, rfl⟩)
        | fail)
      go_ret
      exact ⟨rfl, HBW.out⟩
    | true =>
      rw [hi] at HI
      cases hp : prefB o.addr o.bits with
      | false =>
        rw [hp] at HP
        obtain rfl : z = 2 := by rw [← Hz.out]; exact if_neg (by unfold okO; rw [hp]; simp)
        clear hp hq
        go_wp2_with (first
          | (refine QB.wpList_ld 30 rfl rfl HL0.out rfl ?_; clear HL0; refine QB.wpList_ld 30 rfl rfl HL1.out rfl ?_; clear HL1; refine stop ?_)
          | fail)
        unfold Stop
        go_wp2_with (first
          | (go_at_call 88; refine (HI.out _).mono ?_; rintro e w' ⟨rfl, rfl⟩)
          | (go_at_call 90; refine (HP.out _).mono ?_; rintro e w' ⟨rfl, rfl⟩)
          | fail)
        go_ret
        exact ⟨rfl, HBW.out⟩
      | true =>
        rw [hp] at HP
        obtain rfl : z = 0 := by rw [← Hz.out]; exact if_pos (by unfold okO; rw [Hnm.out, hq, hp, HKIND.out, hi]; rfl)
        clear hp hq
        go_wp2_with (first
          | (refine QB.wpList_ld 30 rfl rfl HL0.out rfl ?_; clear HL0; refine QB.wpList_ld 30 rfl rfl HL1.out rfl ?_; clear HL1; refine stop ?_)
          | fail)
        unfold Stop
        go_wp2_with (first
          | (go_at_call 88; refine (HI.out _).mono ?_; rintro e w' ⟨rfl, rfl⟩)
          | (go_at_call 90; refine (HP.out _).mono ?_; rintro e w' ⟨rfl, rfl⟩)
          | fail)
        go_ret
        exact ⟨rfl, HBW.out⟩

set_option maxRecDepth 100000 in
set_option maxHeartbeats 4000000 in
theorem CheckOp_2 (o : Opn) (hk : o.ky.length = 32) (hkind : o.kind = 2) (w : World) : Calls Try.prog 56 #[o.val] w fun e w' => e = .returned (.int .i64 (checkOpZ o)) ∧ Below w.heap.size w w' := by
  obtain ⟨z, hz⟩ : ∃ z, checkOpZ o = z := ⟨_, rfl⟩
  rw [hz]
  have Hz := Lib.hid hz
  have Hk := Lib.hid hk
  have HKIND := Lib.hid hkind
  have hr0 : Row (w.alloc (.cells o.cs.toArray 30)) w.heap.size o.cs 30 := Row.new rfl rfl
  have hb0 : Below w.heap.size w (w.alloc (.cells o.cs.toArray 30)) := (Below.refl _ w).alloc (Nat.le_refl _) _
  have c0 := hr0.cell (i := 0) rfl
  have c1 := hr0.cell (i := 1) rfl
  have HR0 := Lib.hid hr0
  have HB0 := Lib.hid hb0
  have hgs : (w.alloc (.cells o.cs.toArray 30)).heap.size = w.heap.size + 1 := by simp
  have Hgs := Lib.hid hgs
  clear hz hk hr0 hb0 hgs hkind
  unfold Opn.val
  go_enter Try.func56, Try.ntmps56
  go_wp2_with (first
    | (show wpList _ _ _ (⟨some 8, _, _, _, _, _⟩ :: _) _ _; refine wpList_bd _ _ rfl (v := (zop o.kind o.ref).val) (by kernel_rfl) rfl ?_)
    | (refine QB.wpList_alloc rfl 30 rfl zero_op ?_; intro W1 hr1 hb1; have HR1 := Lib.hid (show Row W1 (w.heap.size + 1) (zop 0 0).cs 30 from Hgs.out ▸ hr1); have HB1 := Lib.hid hb1; clear hr1 hb1; refine stop ?_)
    | fail)
  unfold Stop
  refine wpList_storeRow rfl 30 (.tmp 3) (.tmp 8) rfl (g := w.heap.size + 1) (by rfl) (cs := (zop o.kind o.ref).cs) rfl HR1.out (by kernel_rfl) (Opn.len zkey_len) (Opn.len zkey_len) (Opn.one _) ?_
  refine QB.name fun W2 hW2 => ?_
  have hR1 : Row W2 (w.heap.size + 1) (zop o.kind o.ref).cs 30 := by rw [← hW2]; exact HR1.out.setRow _
  have hBW : Below w.heap.size w W2 := by rw [← hW2]; exact below_setRow (nextB HB0.out (Nat.le_refl _) HB1.out) (by omega) _
  have hR0 : Row W2 w.heap.size o.cs 30 := by rw [← hW2]; exact (HR0.out.below HB1.out HR0.out.lt).setOther _ _ (by omega)
  clear hW2 c0 c1
  simp only [Act.put]
  have ck := hR0.cell (i := 0) rfl
  rw [HKIND.out] at ck
  have ci := hR0.cell (i := 2) rfl; have ca := hR0.cell (Opn.at35 Hk.out); have cb := hR0.cell (Opn.at36 Hk.out); have f2 := frozen_row hR1 2; have d2 := hR1.cell (i := 2) rfl
  obtain ⟨nm, hnm⟩ : ∃ nm : Opn, { zop o.kind o.ref with id := o.id } = nm := ⟨_, rfl⟩
  have Hnm : Hid (named o = nm) := Lib.hid (by rw [← hnm]; unfold named; rw [if_neg (by rw [HKIND.out]; decide), if_pos (by rw [HKIND.out]; decide)])
  have HnmL : Hid (nm.ky.length = 32) := Lib.hid (by rw [← hnm]; exact zkey_len)
  have hBW9 : Below w.heap.size w (W2.setCell ⟨w.heap.size + 1, 2, none⟩ (.int .i64 o.id)) := hBW.setCell (by simp) _
  have hR19 : Row (W2.setCell ⟨w.heap.size + 1, 2, none⟩ (.int .i64 o.id)) (w.heap.size + 1) nm.cs 30 := by rw [← hnm]; exact hR1.set 2 (.int .i64 o.id)
  have hR09 : Row (W2.setCell ⟨w.heap.size + 1, 2, none⟩ (.int .i64 o.id)) w.heap.size o.cs 30 := hR0.other _ _ (by simp)
  have HL0 := Lib.hid (l_op hR09 Hk.out)
  have HL1 := Lib.hid (l_op hR19 HnmL.out)
  have HR09 := Lib.hid hR09
  have HR19 := Lib.hid hR19
  have HBW9 := Lib.hid hBW9
  clear hR09 hR19 hBW9 hR0 hR1 hBW hnm ca cb
  go_wp2_with (first
    | (refine QB.wpList_ld 30 rfl rfl HL0.out rfl ?_; clear HL0; refine QB.wpList_ld 30 rfl rfl HL1.out rfl ?_; clear HL1; refine stop ?_)
    | fail)
  unfold Stop
  have hR0 := HR09.out
  have hR1 := HR19.out
  have hBW := HBW9.out
  clear ck ci f2 d2
  obtain ⟨W9, hW9⟩ : ∃ W9, W2.setCell ⟨w.heap.size + 1, 2, none⟩ (.int .i64 o.id) = W9 := ⟨_, rfl⟩
  rw [hW9] at hR0 hR1 hBW ⊢
  clear hW9
  have HBW := Lib.hid hBW
  have HL0 := Lib.hid (l_op hR0 Hk.out)
  have HL1 := Lib.hid (l_op hR1 HnmL.out)
  have ck := hR0.cell (i := 0) rfl
  rw [HKIND.out] at ck
  have ci := hR0.cell (i := 2) rfl
  have ca := hR0.cell (Opn.at35 Hk.out)
  have cb := hR0.cell (Opn.at36 Hk.out)
  have hgd := fun (u v : Operand) (W : World) => guard_of (t := 30) g_op .neq u v o.cs.toArray nm.cs.toArray W
  have hne := fun (W : World) => neq_of (eq_op o nm Hk.out HnmL.out W)
  have HI := Lib.hid (isID_any o.id)
  have HP := Lib.hid (isPrefix_any o.addr o.bits)
  replace hgd : ∀ (u v : Operand) (W : World), (eqGuard .neq 30 u v o.val nm.val).run Try.prog W = .ok () W := hgd
  replace hne : ∀ W : World, (binOp .neq 30 o.val nm.val).run Try.prog W = .ok (.bool (!decide (o = nm))) W := hne
  clear hR0 hR1 hBW
  cases hq : decide (o = nm) with
  | false =>
    rw [hq] at hne
    obtain rfl : z = 2 := by rw [← Hz.out]; exact if_neg (by unfold okO; rw [Hnm.out, hq]; simp)
    clear hq
    simp only [Bool.not_false] at hne
    go_wp2_with (first
      | (go_at_call 88; refine (HI.out _).mono ?_; rintro e w' ⟨rfl, rfl⟩)
      | (go_at_call 90; refine (HP.out _).mono ?_; rintro e w' ⟨rfl, rfl⟩)
      | fail)
    go_ret
    exact ⟨rfl, HBW.out⟩
  | true =>
    rw [hq] at hne
    simp only [Bool.not_true] at hne
    cases hi : isIDB o.id with
    | false =>
      rw [hi] at HI
      obtain rfl : z = 2 := by rw [← Hz.out]; exact if_neg (by unfold okO; rw [hi, HKIND.out]; simp)
      clear hi hq
      go_wp2_with (first
        | (go_at_call 88; refine (HI.out _).mono ?_; rintro e w' ⟨rfl, rfl⟩)
        | (go_at_call 90; refine (HP.out _).mono ?_; rintro e w' ⟨rfl, rfl⟩)
        | fail)
      go_ret
      exact ⟨rfl, HBW.out⟩
    | true =>
      rw [hi] at HI
      cases hp : prefB o.addr o.bits with
      | false =>
        rw [hp] at HP
        obtain rfl : z = 2 := by rw [← Hz.out]; exact if_neg (by unfold okO; rw [hp]; simp)
        clear hp hq
        go_wp2_with (first
          | (go_at_call 88; refine (HI.out _).mono ?_; rintro e w' ⟨rfl, rfl⟩)
          | (go_at_call 90; refine (HP.out _).mono ?_; rintro e w' ⟨rfl, rfl⟩)
          | fail)
        go_ret
        exact ⟨rfl, HBW.out⟩
      | true =>
        rw [hp] at HP
        obtain rfl : z = 0 := by rw [← Hz.out]; exact if_pos (by unfold okO; rw [Hnm.out, hq, hp, HKIND.out, hi]; rfl)
        clear hp hq
        go_wp2_with (first
          | (go_at_call 88; refine (HI.out _).mono ?_; rintro e w' ⟨rfl, rfl⟩)
          | (go_at_call 90; refine (HP.out _).mono ?_; rintro e w' ⟨rfl, rfl⟩)
          | fail)
        go_ret
        exact ⟨rfl, HBW.out⟩

set_option maxRecDepth 100000 in
set_option maxHeartbeats 4000000 in
theorem CheckOp_3 (o : Opn) (hk : o.ky.length = 32) (hkind : o.kind = 3) (w : World) : Calls Try.prog 56 #[o.val] w fun e w' => e = .returned (.int .i64 (checkOpZ o)) ∧ Below w.heap.size w w' := by
  obtain ⟨z, hz⟩ : ∃ z, checkOpZ o = z := ⟨_, rfl⟩
  rw [hz]
  have Hz := Lib.hid hz
  have Hk := Lib.hid hk
  have HKIND := Lib.hid hkind
  have hr0 : Row (w.alloc (.cells o.cs.toArray 30)) w.heap.size o.cs 30 := Row.new rfl rfl
  have hb0 : Below w.heap.size w (w.alloc (.cells o.cs.toArray 30)) := (Below.refl _ w).alloc (Nat.le_refl _) _
  have c0 := hr0.cell (i := 0) rfl
  have c1 := hr0.cell (i := 1) rfl
  have HR0 := Lib.hid hr0
  have HB0 := Lib.hid hb0
  have hgs : (w.alloc (.cells o.cs.toArray 30)).heap.size = w.heap.size + 1 := by simp
  have Hgs := Lib.hid hgs
  clear hz hk hr0 hb0 hgs hkind
  unfold Opn.val
  go_enter Try.func56, Try.ntmps56
  go_wp2_with (first
    | (show wpList _ _ _ (⟨some 8, _, _, _, _, _⟩ :: _) _ _; refine wpList_bd _ _ rfl (v := (zop o.kind o.ref).val) (by kernel_rfl) rfl ?_)
    | (refine QB.wpList_alloc rfl 30 rfl zero_op ?_; intro W1 hr1 hb1; have HR1 := Lib.hid (show Row W1 (w.heap.size + 1) (zop 0 0).cs 30 from Hgs.out ▸ hr1); have HB1 := Lib.hid hb1; clear hr1 hb1; refine stop ?_)
    | fail)
  unfold Stop
  refine wpList_storeRow rfl 30 (.tmp 3) (.tmp 8) rfl (g := w.heap.size + 1) (by rfl) (cs := (zop o.kind o.ref).cs) rfl HR1.out (by kernel_rfl) (Opn.len zkey_len) (Opn.len zkey_len) (Opn.one _) ?_
  refine QB.name fun W2 hW2 => ?_
  have hR1 : Row W2 (w.heap.size + 1) (zop o.kind o.ref).cs 30 := by rw [← hW2]; exact HR1.out.setRow _
  have hBW : Below w.heap.size w W2 := by rw [← hW2]; exact below_setRow (nextB HB0.out (Nat.le_refl _) HB1.out) (by omega) _
  have hR0 : Row W2 w.heap.size o.cs 30 := by rw [← hW2]; exact (HR0.out.below HB1.out HR0.out.lt).setOther _ _ (by omega)
  clear hW2 c0 c1
  simp only [Act.put]
  have ck := hR0.cell (i := 0) rfl
  rw [HKIND.out] at ck
  have ci := hR0.cell (i := 2) rfl; have ca := hR0.cell (Opn.at35 Hk.out); have cb := hR0.cell (Opn.at36 Hk.out); have f2 := frozen_row hR1 2; have d2 := hR1.cell (i := 2) rfl
  obtain ⟨nm, hnm⟩ : ∃ nm : Opn, { zop o.kind o.ref with id := o.id } = nm := ⟨_, rfl⟩
  have Hnm : Hid (named o = nm) := Lib.hid (by rw [← hnm]; unfold named; rw [if_neg (by rw [HKIND.out]; decide), if_pos (by rw [HKIND.out]; decide)])
  have HnmL : Hid (nm.ky.length = 32) := Lib.hid (by rw [← hnm]; exact zkey_len)
  have hBW9 : Below w.heap.size w (W2.setCell ⟨w.heap.size + 1, 2, none⟩ (.int .i64 o.id)) := hBW.setCell (by simp) _
  have hR19 : Row (W2.setCell ⟨w.heap.size + 1, 2, none⟩ (.int .i64 o.id)) (w.heap.size + 1) nm.cs 30 := by rw [← hnm]; exact hR1.set 2 (.int .i64 o.id)
  have hR09 : Row (W2.setCell ⟨w.heap.size + 1, 2, none⟩ (.int .i64 o.id)) w.heap.size o.cs 30 := hR0.other _ _ (by simp)
  have HL0 := Lib.hid (l_op hR09 Hk.out)
  have HL1 := Lib.hid (l_op hR19 HnmL.out)
  have HR09 := Lib.hid hR09
  have HR19 := Lib.hid hR19
  have HBW9 := Lib.hid hBW9
  clear hR09 hR19 hBW9 hR0 hR1 hBW hnm ca cb
  go_wp2_with (first
    | (refine QB.wpList_ld 30 rfl rfl HL0.out rfl ?_; clear HL0; refine QB.wpList_ld 30 rfl rfl HL1.out rfl ?_; clear HL1; refine stop ?_)
    | fail)
  unfold Stop
  have hR0 := HR09.out
  have hR1 := HR19.out
  have hBW := HBW9.out
  clear ck ci f2 d2
  obtain ⟨W9, hW9⟩ : ∃ W9, W2.setCell ⟨w.heap.size + 1, 2, none⟩ (.int .i64 o.id) = W9 := ⟨_, rfl⟩
  rw [hW9] at hR0 hR1 hBW ⊢
  clear hW9
  have HBW := Lib.hid hBW
  have HL0 := Lib.hid (l_op hR0 Hk.out)
  have HL1 := Lib.hid (l_op hR1 HnmL.out)
  have ck := hR0.cell (i := 0) rfl
  rw [HKIND.out] at ck
  have ci := hR0.cell (i := 2) rfl
  have ca := hR0.cell (Opn.at35 Hk.out)
  have cb := hR0.cell (Opn.at36 Hk.out)
  have hgd := fun (u v : Operand) (W : World) => guard_of (t := 30) g_op .neq u v o.cs.toArray nm.cs.toArray W
  have hne := fun (W : World) => neq_of (eq_op o nm Hk.out HnmL.out W)
  have HI := Lib.hid (isID_any o.id)
  have HP := Lib.hid (isPrefix_any o.addr o.bits)
  replace hgd : ∀ (u v : Operand) (W : World), (eqGuard .neq 30 u v o.val nm.val).run Try.prog W = .ok () W := hgd
  replace hne : ∀ W : World, (binOp .neq 30 o.val nm.val).run Try.prog W = .ok (.bool (!decide (o = nm))) W := hne
  clear hR0 hR1 hBW
  cases hq : decide (o = nm) with
  | false =>
    rw [hq] at hne
    obtain rfl : z = 2 := by rw [← Hz.out]; exact if_neg (by unfold okO; rw [Hnm.out, hq]; simp)
    clear hq
    simp only [Bool.not_false] at hne
    go_wp2_with (first
      | (go_at_call 88; refine (HI.out _).mono ?_; rintro e w' ⟨rfl, rfl⟩)
      | (go_at_call 90; refine (HP.out _).mono ?_; rintro e w' ⟨rfl, rfl⟩)
      | fail)
    go_ret
    exact ⟨rfl, HBW.out⟩
  | true =>
    rw [hq] at hne
    simp only [Bool.not_true] at hne
    cases hi : isIDB o.id with
    | false =>
      rw [hi] at HI
      obtain rfl : z = 2 := by rw [← Hz.out]; exact if_neg (by unfold okO; rw [hi, HKIND.out]; simp)
      clear hi hq
      go_wp2_with (first
        | (go_at_call 88; refine (HI.out _).mono ?_; rintro e w' ⟨rfl, rfl⟩)
        | (go_at_call 90; refine (HP.out _).mono ?_; rintro e w' ⟨rfl, rfl⟩)
        | fail)
      go_ret
      exact ⟨rfl, HBW.out⟩
    | true =>
      rw [hi] at HI
      cases hp : prefB o.addr o.bits with
      | false =>
        rw [hp] at HP
        obtain rfl : z = 2 := by rw [← Hz.out]; exact if_neg (by unfold okO; rw [hp]; simp)
        clear hp hq
        go_wp2_with (first
          | (go_at_call 88; refine (HI.out _).mono ?_; rintro e w' ⟨rfl, rfl⟩)
          | (go_at_call 90; refine (HP.out _).mono ?_; rintro e w' ⟨rfl, rfl⟩)
          | fail)
        go_ret
        exact ⟨rfl, HBW.out⟩
      | true =>
        rw [hp] at HP
        obtain rfl : z = 0 := by rw [← Hz.out]; exact if_pos (by unfold okO; rw [Hnm.out, hq, hp, HKIND.out, hi]; rfl)
        clear hp hq
        go_wp2_with (first
          | (go_at_call 88; refine (HI.out _).mono ?_; rintro e w' ⟨rfl, rfl⟩)
          | (go_at_call 90; refine (HP.out _).mono ?_; rintro e w' ⟨rfl, rfl⟩)
          | fail)
        go_ret
        exact ⟨rfl, HBW.out⟩

set_option maxRecDepth 100000 in
set_option maxHeartbeats 4000000 in
theorem CheckOp_4 (o : Opn) (hk : o.ky.length = 32) (hkind : o.kind = 4) (w : World) : Calls Try.prog 56 #[o.val] w fun e w' => e = .returned (.int .i64 (checkOpZ o)) ∧ Below w.heap.size w w' := by
  obtain ⟨z, hz⟩ : ∃ z, checkOpZ o = z := ⟨_, rfl⟩
  rw [hz]
  have Hz := Lib.hid hz
  have Hk := Lib.hid hk
  have HKIND := Lib.hid hkind
  have hr0 : Row (w.alloc (.cells o.cs.toArray 30)) w.heap.size o.cs 30 := Row.new rfl rfl
  have hb0 : Below w.heap.size w (w.alloc (.cells o.cs.toArray 30)) := (Below.refl _ w).alloc (Nat.le_refl _) _
  have c0 := hr0.cell (i := 0) rfl
  have c1 := hr0.cell (i := 1) rfl
  have HR0 := Lib.hid hr0
  have HB0 := Lib.hid hb0
  have hgs : (w.alloc (.cells o.cs.toArray 30)).heap.size = w.heap.size + 1 := by simp
  have Hgs := Lib.hid hgs
  clear hz hk hr0 hb0 hgs hkind
  unfold Opn.val
  go_enter Try.func56, Try.ntmps56
  go_wp2_with (first
    | (show wpList _ _ _ (⟨some 8, _, _, _, _, _⟩ :: _) _ _; refine wpList_bd _ _ rfl (v := (zop o.kind o.ref).val) (by kernel_rfl) rfl ?_)
    | (refine QB.wpList_alloc rfl 30 rfl zero_op ?_; intro W1 hr1 hb1; have HR1 := Lib.hid (show Row W1 (w.heap.size + 1) (zop 0 0).cs 30 from Hgs.out ▸ hr1); have HB1 := Lib.hid hb1; clear hr1 hb1; refine stop ?_)
    | fail)
  unfold Stop
  refine wpList_storeRow rfl 30 (.tmp 3) (.tmp 8) rfl (g := w.heap.size + 1) (by rfl) (cs := (zop o.kind o.ref).cs) rfl HR1.out (by kernel_rfl) (Opn.len zkey_len) (Opn.len zkey_len) (Opn.one _) ?_
  refine QB.name fun W2 hW2 => ?_
  have hR1 : Row W2 (w.heap.size + 1) (zop o.kind o.ref).cs 30 := by rw [← hW2]; exact HR1.out.setRow _
  have hBW : Below w.heap.size w W2 := by rw [← hW2]; exact below_setRow (nextB HB0.out (Nat.le_refl _) HB1.out) (by omega) _
  have hR0 : Row W2 w.heap.size o.cs 30 := by rw [← hW2]; exact (HR0.out.below HB1.out HR0.out.lt).setOther _ _ (by omega)
  clear hW2 c0 c1
  simp only [Act.put]
  have ck := hR0.cell (i := 0) rfl
  rw [HKIND.out] at ck
  have ci := hR0.cell (i := 2) rfl; have ca := hR0.cell (Opn.at35 Hk.out); have cb := hR0.cell (Opn.at36 Hk.out)
  go_wp2_with fail
  obtain ⟨nm, hnm⟩ : ∃ nm : Opn, { zop o.kind o.ref with id := o.id, addr := o.addr, bits := o.bits } = nm := ⟨_, rfl⟩
  have Hnm : Hid (named o = nm) := Lib.hid (by rw [← hnm]; unfold named; rw [if_neg (by rw [HKIND.out]; decide), if_neg (by rw [HKIND.out]; decide), if_pos HKIND.out])
  have HNM := Lib.hid hnm
  have HnmL : Hid (nm.ky.length = 32) := Lib.hid (by rw [← hnm]; first | exact Hk.out | exact zkey_len)
  have HR0 := Lib.hid hR0
  have HBW2 := Lib.hid hBW
  obtain ⟨gn, hgn⟩ : ∃ gn, w.heap.size + 1 = gn := ⟨_, rfl⟩
  rw [hgn] at hR1
  have HR1 := Lib.hid hR1
  have HGne := Lib.hid (show w.heap.size ≠ gn by omega)
  have HGle := Lib.hid (show w.heap.size ≤ gn by omega)
  rw [hgn]
  clear hR0 hR1 hBW hnm ck ci ca cb hgn
  refine ByN.marks mixed (Stg.St gn (fun s => (st4 o s).cs) 30) [By.is (.pointer (some ⟨w.heap.size, 2, none⟩)),
    By.is (.int .i64 o.id),
    By.is (.pointer (some ⟨w.heap.size, 35, none⟩)),
    By.is (.int .u32 o.addr),
    By.is (.pointer (some ⟨w.heap.size, 36, none⟩)),
    By.is (.int .i64 o.bits),
    By.is (.pointer (some ⟨gn, 2, none⟩)),
    Stg.stM gn (fun s => (st4 o s).cs) 30 1,
    By.is (.pointer (some ⟨gn, 35, none⟩)),
    Stg.stM gn (fun s => (st4 o s).cs) 30 2,
    By.is (.pointer (some ⟨gn, 36, none⟩)),
    Stg.stM gn (fun s => (st4 o s).cs) 30 3]
    (Ev.masks _ []) (by kernel_rfl) rfl Stg.St.refl Stg.St.trans ⟨?_, ?_, ?_, ?_, ?_, ?_, ?_, ?_, ?_, ?_, ?_, ?_, trivial⟩ ?_
  · intro a w9 ht hs hg
    have h1 := By.same_get hs 1 (by decide) (by kernel_rfl)
    refine By.yes rfl ?_
    clear hs hg
    go_simp
    exact ⟨_, rfl, Stg.St.refl _, rfl⟩
  · intro a w9 ht hs hg
    have h27 : a.tmps.getD 27 undef = _ := ByN.given_get hg 0 rfl rfl (by kernel_rfl)
    refine By.yes rfl ?_
    clear hs hg
    have hc := (ht.row (x := W2.drew) HR0.out HGne.out).cell (i := 2) rfl
    clear ht
    go_simp
    exact ⟨_, rfl, Stg.St.refl _, rfl⟩
  · intro a w9 ht hs hg
    have h1 := By.same_get hs 1 (by decide) (by kernel_rfl)
    refine By.yes rfl ?_
    clear hs hg
    go_simp
    exact ⟨_, rfl, Stg.St.refl _, rfl⟩
  · intro a w9 ht hs hg
    have h29 : a.tmps.getD 29 undef = _ := ByN.given_get hg 2 rfl rfl (by kernel_rfl)
    refine By.yes rfl ?_
    clear hs hg
    have hc := (ht.row (x := W2.drew) HR0.out HGne.out).cell (i := 35) (Opn.at35 Hk.out)
    clear ht
    go_simp
    exact ⟨_, rfl, Stg.St.refl _, rfl⟩
  · intro a w9 ht hs hg
    have h1 := By.same_get hs 1 (by decide) (by kernel_rfl)
    refine By.yes rfl ?_
    clear hs hg
    go_simp
    exact ⟨_, rfl, Stg.St.refl _, rfl⟩
  · intro a w9 ht hs hg
    have h31 : a.tmps.getD 31 undef = _ := ByN.given_get hg 4 rfl rfl (by kernel_rfl)
    refine By.yes rfl ?_
    clear hs hg
    have hc := (ht.row (x := W2.drew) HR0.out HGne.out).cell (i := 36) (Opn.at36 Hk.out)
    clear ht
    go_simp
    exact ⟨_, rfl, Stg.St.refl _, rfl⟩
  · intro a w9 ht hs hg
    have h3 := By.same_get hs 3 (by decide) (by kernel_rfl)
    refine By.yes rfl ?_
    clear hs hg
    go_simp
    exact ⟨_, rfl, Stg.St.refl _, rfl⟩
  · intro a w9 ht hs hg
    have h33 : a.tmps.getD 33 undef = _ := ByN.given_get hg 6 rfl rfl (by kernel_rfl)
    have h28 : a.tmps.getD 28 undef = _ := ByN.given_get hg 1 rfl rfl (by kernel_rfl)
    obtain ⟨s0, _, hrow⟩ := ht.up 0 (show Row W2.drew gn (st4 o 0).cs 30 from HR1.out)
    have hst : ∃ s, 1 ≤ s + 1 ∧ Row w9 gn ((fun s => (st4 o s).cs) s) 30 := ⟨s0, by omega, hrow⟩
    refine By.yes rfl ?_
    clear hs hg
    exact Stg.wp_stage (cells := (fun s => (st4 o s).cs)) (n := 1) 1 3 _ _ rfl rfl [.int .i64 o.id] h33 h28 rfl hst (by kernel_rfl) rfl (fun s => by show 2 + [.int .i64 o.id].length ≤ (st4 o s).cs.length; rw [Opn.len (st4_len o Hk.out s)]; simp) (by intro v hv; simp at hv; subst hv; rfl) (fun s hs => (sp_id (st4 o s) o.id).trans (congrArg Opn.cs (by simp [st4, show 1 ≤ max s 1 by omega, show (2 ≤ max s 1) ↔ (2 ≤ s) by omega, show (3 ≤ max s 1) ↔ (3 ≤ s) by omega])))
  · intro a w9 ht hs hg
    have h3 := By.same_get hs 3 (by decide) (by kernel_rfl)
    refine By.yes rfl ?_
    clear hs hg
    go_simp
    exact ⟨_, rfl, Stg.St.refl _, rfl⟩
  · intro a w9 ht hs hg
    have h34 : a.tmps.getD 34 undef = _ := ByN.given_get hg 8 rfl rfl (by kernel_rfl)
    have h30 : a.tmps.getD 30 undef = _ := ByN.given_get hg 3 rfl rfl (by kernel_rfl)
    have hp := ByN.given_get hg 7 rfl rfl (by kernel_rfl)
    obtain ⟨s0, hs0, hrow⟩ := hp
    have hst : ∃ s, 2 ≤ s + 1 ∧ Row w9 gn ((fun s => (st4 o s).cs) s) 30 := ⟨s0, by omega, hrow⟩
    refine By.yes rfl ?_
    clear hs hg
    exact Stg.wp_stage (cells := (fun s => (st4 o s).cs)) (n := 1) 2 28 _ _ rfl rfl [.int .u32 o.addr] h34 h30 rfl hst (by kernel_rfl) rfl (fun s => by show 35 + [.int .u32 o.addr].length ≤ (st4 o s).cs.length; rw [Opn.len (st4_len o Hk.out s)]; simp) (by intro v hv; simp at hv; subst hv; rfl) (fun s hs => (sp_addr (st4_len o Hk.out s) o.addr).trans (congrArg Opn.cs (by simp [st4, show 1 ≤ s by omega, show 1 ≤ max s 2 by omega, show 2 ≤ max s 2 by omega, show (3 ≤ max s 2) ↔ (3 ≤ s) by omega])))
  · intro a w9 ht hs hg
    have h3 := By.same_get hs 3 (by decide) (by kernel_rfl)
    refine By.yes rfl ?_
    clear hs hg
    go_simp
    exact ⟨_, rfl, Stg.St.refl _, rfl⟩
  · intro a w9 ht hs hg
    have h35 : a.tmps.getD 35 undef = _ := ByN.given_get hg 10 rfl rfl (by kernel_rfl)
    have h32 : a.tmps.getD 32 undef = _ := ByN.given_get hg 5 rfl rfl (by kernel_rfl)
    have hp := ByN.given_get hg 9 rfl rfl (by kernel_rfl)
    obtain ⟨s0, hs0, hrow⟩ := hp
    have hst : ∃ s, 3 ≤ s + 1 ∧ Row w9 gn ((fun s => (st4 o s).cs) s) 30 := ⟨s0, by omega, hrow⟩
    refine By.yes rfl ?_
    clear hs hg
    exact Stg.wp_stage (cells := (fun s => (st4 o s).cs)) (n := 1) 3 3 _ _ rfl rfl [.int .i64 o.bits] h35 h32 rfl hst (by kernel_rfl) rfl (fun s => by show 36 + [.int .i64 o.bits].length ≤ (st4 o s).cs.length; rw [Opn.len (st4_len o Hk.out s)]; simp) (by intro v hv; simp at hv; subst hv; rfl) (fun s hs => (sp_bits (st4_len o Hk.out s) o.bits).trans (congrArg Opn.cs (by simp [st4, show 1 ≤ s by omega, show 2 ≤ s by omega, show 1 ≤ max s 3 by omega, show 2 ≤ max s 3 by omega, show 3 ≤ max s 3 by omega])))
  refine ByN.ends_is ?_
  refine ByN.ends_is ?_
  refine ByN.ends_is ?_
  refine ByN.ends_is ?_
  refine ByN.ends_is ?_
  refine ByN.ends_is ?_
  refine ByN.ends_is ?_
  refine ByN.ends_skip fun _ => ?_
  refine ByN.ends_is ?_
  refine ByN.ends_skip fun _ => ?_
  refine ByN.ends_is ?_
  refine ByN.ends_any fun _ => ?_
  refine ByN.ends_nil fun W9 hw9 => ?_
  obtain ⟨hw9, hl9⟩ := hw9
  obtain ⟨s9, hs9, hrow9⟩ := (show ∃ s, 3 ≤ s ∧ Row W9 gn (st4 o s).cs 30 from hl9)
  have hR1 : Row W9 gn nm.cs 30 := by
    rw [show nm = st4 o s9 by rw [← HNM.out]; simp [st4, zop, show 1 ≤ s9 by omega, show 2 ≤ s9 by omega, show 3 ≤ s9 by omega]]
    exact hrow9
  have hR0 : Row W9 w.heap.size o.cs 30 := hw9.row (x := W2.drew) HR0.out HGne.out
  have hBW : Below w.heap.size w W9 := HBW2.out.drew.trans (hw9.below (x := W2.drew) (B := w.heap.size) HGle.out HBW2.out.size)
  clear hw9 hl9 hrow9 hs9
  simp only [Act.put, List.setIfInBounds_toArray, List.set_cons_succ, List.set_cons_zero]
  have HBW := Lib.hid hBW
  have HL0 := Lib.hid (l_op hR0 Hk.out)
  have HL1 := Lib.hid (l_op hR1 HnmL.out)
  have ck := hR0.cell (i := 0) rfl
  rw [HKIND.out] at ck
  have ci := hR0.cell (i := 2) rfl
  have ca := hR0.cell (Opn.at35 Hk.out)
  have cb := hR0.cell (Opn.at36 Hk.out)
  have hgd := fun (u v : Operand) (W : World) => guard_of (t := 30) g_op .neq u v o.cs.toArray nm.cs.toArray W
  have hne := fun (W : World) => neq_of (eq_op o nm Hk.out HnmL.out W)
  have HI := Lib.hid (isID_any o.id)
  have HP := Lib.hid (isPrefix_any o.addr o.bits)
  replace hgd : ∀ (u v : Operand) (W : World), (eqGuard .neq 30 u v o.val nm.val).run Try.prog W = .ok () W := hgd
  replace hne : ∀ W : World, (binOp .neq 30 o.val nm.val).run Try.prog W = .ok (.bool (!decide (o = nm))) W := hne
  clear hR0 hR1 hBW
  cases hq : decide (o = nm) with
  | false =>
    rw [hq] at hne
    obtain rfl : z = 2 := by rw [← Hz.out]; exact if_neg (by unfold okO; rw [Hnm.out, hq]; simp)
    clear hq
    simp only [Bool.not_false] at hne
    go_wp2_with (first
      | (refine QB.wpList_ld 30 rfl rfl HL0.out rfl ?_; clear HL0; refine QB.wpList_ld 30 rfl rfl HL1.out rfl ?_; clear HL1; refine stop ?_)
      | fail)
    unfold Stop
    go_wp2_with (first
      | (go_at_call 88; refine (HI.out _).mono ?_; rintro e w' ⟨rfl, rfl⟩)
      | (go_at_call 90; refine (HP.out _).mono ?_; rintro e w' ⟨rfl, rfl⟩)
      | fail)
    go_ret
    exact ⟨rfl, HBW.out⟩
  | true =>
    rw [hq] at hne
    simp only [Bool.not_true] at hne
    cases hi : isIDB o.id with
    | false =>
      rw [hi] at HI
      obtain rfl : z = 2 := by rw [← Hz.out]; exact if_neg (by unfold okO; rw [hi, HKIND.out]; simp)
      clear hi hq
      go_wp2_with (first
        | (refine QB.wpList_ld 30 rfl rfl HL0.out rfl ?_; clear HL0; refine QB.wpList_ld 30 rfl rfl HL1.out rfl ?_; clear HL1; refine stop ?_)
        | fail)
      unfold Stop
      go_wp2_with (first
        | (go_at_call 88; refine (HI.out _).mono ?_; rintro e w' ⟨rfl, rfl⟩)
        | (go_at_call 90; refine (HP.out _).mono ?_; rintro e w' ⟨rfl, rfl⟩)
        | fail)
      go_ret
      exact ⟨rfl, HBW.out⟩
    | true =>
      rw [hi] at HI
      cases hp : prefB o.addr o.bits with
      | false =>
        rw [hp] at HP
        obtain rfl : z = 2 := by rw [← Hz.out]; exact if_neg (by unfold okO; rw [hp]; simp)
        clear hp hq
        go_wp2_with (first
          | (refine QB.wpList_ld 30 rfl rfl HL0.out rfl ?_; clear HL0; refine QB.wpList_ld 30 rfl rfl HL1.out rfl ?_; clear HL1; refine stop ?_)
          | fail)
        unfold Stop
        go_wp2_with (first
          | (go_at_call 88; refine (HI.out _).mono ?_; rintro e w' ⟨rfl, rfl⟩)
          | (go_at_call 90; refine (HP.out _).mono ?_; rintro e w' ⟨rfl, rfl⟩)
          | fail)
        go_ret
        exact ⟨rfl, HBW.out⟩
      | true =>
        rw [hp] at HP
        obtain rfl : z = 0 := by rw [← Hz.out]; exact if_pos (by unfold okO; rw [Hnm.out, hq, hp, HKIND.out, hi]; rfl)
        clear hp hq
        go_wp2_with (first
          | (refine QB.wpList_ld 30 rfl rfl HL0.out rfl ?_; clear HL0; refine QB.wpList_ld 30 rfl rfl HL1.out rfl ?_; clear HL1; refine stop ?_)
          | fail)
        unfold Stop
        go_wp2_with (first
          | (go_at_call 88; refine (HI.out _).mono ?_; rintro e w' ⟨rfl, rfl⟩)
          | (go_at_call 90; refine (HP.out _).mono ?_; rintro e w' ⟨rfl, rfl⟩)
          | fail)
        go_ret
        exact ⟨rfl, HBW.out⟩

set_option maxRecDepth 100000 in
set_option maxHeartbeats 4000000 in
theorem CheckOp_5 (o : Opn) (hk : o.ky.length = 32) (hkind : o.kind = 5) (w : World) : Calls Try.prog 56 #[o.val] w fun e w' => e = .returned (.int .i64 (checkOpZ o)) ∧ Below w.heap.size w w' := by
  obtain ⟨z, hz⟩ : ∃ z, checkOpZ o = z := ⟨_, rfl⟩
  rw [hz]
  have Hz := Lib.hid hz
  have Hk := Lib.hid hk
  have HKIND := Lib.hid hkind
  have hr0 : Row (w.alloc (.cells o.cs.toArray 30)) w.heap.size o.cs 30 := Row.new rfl rfl
  have hb0 : Below w.heap.size w (w.alloc (.cells o.cs.toArray 30)) := (Below.refl _ w).alloc (Nat.le_refl _) _
  have c0 := hr0.cell (i := 0) rfl
  have c1 := hr0.cell (i := 1) rfl
  have HR0 := Lib.hid hr0
  have HB0 := Lib.hid hb0
  have hgs : (w.alloc (.cells o.cs.toArray 30)).heap.size = w.heap.size + 1 := by simp
  have Hgs := Lib.hid hgs
  clear hz hk hr0 hb0 hgs hkind
  unfold Opn.val
  go_enter Try.func56, Try.ntmps56
  go_wp2_with (first
    | (show wpList _ _ _ (⟨some 8, _, _, _, _, _⟩ :: _) _ _; refine wpList_bd _ _ rfl (v := (zop o.kind o.ref).val) (by kernel_rfl) rfl ?_)
    | (refine QB.wpList_alloc rfl 30 rfl zero_op ?_; intro W1 hr1 hb1; have HR1 := Lib.hid (show Row W1 (w.heap.size + 1) (zop 0 0).cs 30 from Hgs.out ▸ hr1); have HB1 := Lib.hid hb1; clear hr1 hb1; refine stop ?_)
    | fail)
  unfold Stop
  refine wpList_storeRow rfl 30 (.tmp 3) (.tmp 8) rfl (g := w.heap.size + 1) (by rfl) (cs := (zop o.kind o.ref).cs) rfl HR1.out (by kernel_rfl) (Opn.len zkey_len) (Opn.len zkey_len) (Opn.one _) ?_
  refine QB.name fun W2 hW2 => ?_
  have hR1 : Row W2 (w.heap.size + 1) (zop o.kind o.ref).cs 30 := by rw [← hW2]; exact HR1.out.setRow _
  have hBW : Below w.heap.size w W2 := by rw [← hW2]; exact below_setRow (nextB HB0.out (Nat.le_refl _) HB1.out) (by omega) _
  have hR0 : Row W2 w.heap.size o.cs 30 := by rw [← hW2]; exact (HR0.out.below HB1.out HR0.out.lt).setOther _ _ (by omega)
  clear hW2 c0 c1
  simp only [Act.put]
  have ck := hR0.cell (i := 0) rfl
  rw [HKIND.out] at ck
  have ci := hR0.cell (i := 2) rfl; have ca := hR0.cell (Opn.at35 Hk.out); have cb := hR0.cell (Opn.at36 Hk.out)
  go_wp2_with fail
  obtain ⟨nm, hnm⟩ : ∃ nm : Opn, { zop o.kind o.ref with addr := o.addr, bits := o.bits } = nm := ⟨_, rfl⟩
  have Hnm : Hid (named o = nm) := Lib.hid (by rw [← hnm]; unfold named; rw [if_neg (by rw [HKIND.out]; decide), if_neg (by rw [HKIND.out]; decide), if_neg (by rw [HKIND.out]; decide)])
  have HNM := Lib.hid hnm
  have HnmL : Hid (nm.ky.length = 32) := Lib.hid (by rw [← hnm]; first | exact Hk.out | exact zkey_len)
  have HR0 := Lib.hid hR0
  have HBW2 := Lib.hid hBW
  obtain ⟨gn, hgn⟩ : ∃ gn, w.heap.size + 1 = gn := ⟨_, rfl⟩
  rw [hgn] at hR1
  have HR1 := Lib.hid hR1
  have HGne := Lib.hid (show w.heap.size ≠ gn by omega)
  have HGle := Lib.hid (show w.heap.size ≤ gn by omega)
  rw [hgn]
  clear hR0 hR1 hBW hnm ck ci ca cb hgn
  refine ByN.marks mixed (Stg.St gn (fun s => (st5 o s).cs) 30) [By.is (.pointer (some ⟨w.heap.size, 35, none⟩)),
    By.is (.int .u32 o.addr),
    By.is (.pointer (some ⟨w.heap.size, 36, none⟩)),
    By.is (.int .i64 o.bits),
    By.is (.pointer (some ⟨gn, 35, none⟩)),
    Stg.stM gn (fun s => (st5 o s).cs) 30 1,
    By.is (.pointer (some ⟨gn, 36, none⟩)),
    Stg.stM gn (fun s => (st5 o s).cs) 30 2]
    (Ev.masks _ []) (by kernel_rfl) rfl Stg.St.refl Stg.St.trans ⟨?_, ?_, ?_, ?_, ?_, ?_, ?_, ?_, trivial⟩ ?_
  · intro a w9 ht hs hg
    have h1 := By.same_get hs 1 (by decide) (by kernel_rfl)
    refine By.yes rfl ?_
    clear hs hg
    go_simp
    exact ⟨_, rfl, Stg.St.refl _, rfl⟩
  · intro a w9 ht hs hg
    have h38 : a.tmps.getD 38 undef = _ := ByN.given_get hg 0 rfl rfl (by kernel_rfl)
    refine By.yes rfl ?_
    clear hs hg
    have hc := (ht.row (x := W2.drew) HR0.out HGne.out).cell (i := 35) (Opn.at35 Hk.out)
    clear ht
    go_simp
    exact ⟨_, rfl, Stg.St.refl _, rfl⟩
  · intro a w9 ht hs hg
    have h1 := By.same_get hs 1 (by decide) (by kernel_rfl)
    refine By.yes rfl ?_
    clear hs hg
    go_simp
    exact ⟨_, rfl, Stg.St.refl _, rfl⟩
  · intro a w9 ht hs hg
    have h40 : a.tmps.getD 40 undef = _ := ByN.given_get hg 2 rfl rfl (by kernel_rfl)
    refine By.yes rfl ?_
    clear hs hg
    have hc := (ht.row (x := W2.drew) HR0.out HGne.out).cell (i := 36) (Opn.at36 Hk.out)
    clear ht
    go_simp
    exact ⟨_, rfl, Stg.St.refl _, rfl⟩
  · intro a w9 ht hs hg
    have h3 := By.same_get hs 3 (by decide) (by kernel_rfl)
    refine By.yes rfl ?_
    clear hs hg
    go_simp
    exact ⟨_, rfl, Stg.St.refl _, rfl⟩
  · intro a w9 ht hs hg
    have h42 : a.tmps.getD 42 undef = _ := ByN.given_get hg 4 rfl rfl (by kernel_rfl)
    have h39 : a.tmps.getD 39 undef = _ := ByN.given_get hg 1 rfl rfl (by kernel_rfl)
    obtain ⟨s0, _, hrow⟩ := ht.up 0 (show Row W2.drew gn (st5 o 0).cs 30 from HR1.out)
    have hst : ∃ s, 1 ≤ s + 1 ∧ Row w9 gn ((fun s => (st5 o s).cs) s) 30 := ⟨s0, by omega, hrow⟩
    refine By.yes rfl ?_
    clear hs hg
    exact Stg.wp_stage (cells := (fun s => (st5 o s).cs)) (n := 1) 1 28 _ _ rfl rfl [.int .u32 o.addr] h42 h39 rfl hst (by kernel_rfl) rfl (fun s => by show 35 + [.int .u32 o.addr].length ≤ (st5 o s).cs.length; rw [Opn.len (st5_len o Hk.out s)]; simp) (by intro v hv; simp at hv; subst hv; rfl) (fun s hs => (sp_addr (st5_len o Hk.out s) o.addr).trans (congrArg Opn.cs (by simp [st5, show 1 ≤ max s 1 by omega, show (2 ≤ max s 1) ↔ (2 ≤ s) by omega])))
  · intro a w9 ht hs hg
    have h3 := By.same_get hs 3 (by decide) (by kernel_rfl)
    refine By.yes rfl ?_
    clear hs hg
    go_simp
    exact ⟨_, rfl, Stg.St.refl _, rfl⟩
  · intro a w9 ht hs hg
    have h43 : a.tmps.getD 43 undef = _ := ByN.given_get hg 6 rfl rfl (by kernel_rfl)
    have h41 : a.tmps.getD 41 undef = _ := ByN.given_get hg 3 rfl rfl (by kernel_rfl)
    have hp := ByN.given_get hg 5 rfl rfl (by kernel_rfl)
    obtain ⟨s0, hs0, hrow⟩ := hp
    have hst : ∃ s, 2 ≤ s + 1 ∧ Row w9 gn ((fun s => (st5 o s).cs) s) 30 := ⟨s0, by omega, hrow⟩
    refine By.yes rfl ?_
    clear hs hg
    exact Stg.wp_stage (cells := (fun s => (st5 o s).cs)) (n := 1) 2 3 _ _ rfl rfl [.int .i64 o.bits] h43 h41 rfl hst (by kernel_rfl) rfl (fun s => by show 36 + [.int .i64 o.bits].length ≤ (st5 o s).cs.length; rw [Opn.len (st5_len o Hk.out s)]; simp) (by intro v hv; simp at hv; subst hv; rfl) (fun s hs => (sp_bits (st5_len o Hk.out s) o.bits).trans (congrArg Opn.cs (by simp [st5, show 1 ≤ s by omega, show 1 ≤ max s 2 by omega, show 2 ≤ max s 2 by omega])))
  refine ByN.ends_is ?_
  refine ByN.ends_is ?_
  refine ByN.ends_is ?_
  refine ByN.ends_is ?_
  refine ByN.ends_is ?_
  refine ByN.ends_skip fun _ => ?_
  refine ByN.ends_is ?_
  refine ByN.ends_any fun _ => ?_
  refine ByN.ends_nil fun W9 hw9 => ?_
  obtain ⟨hw9, hl9⟩ := hw9
  obtain ⟨s9, hs9, hrow9⟩ := (show ∃ s, 2 ≤ s ∧ Row W9 gn (st5 o s).cs 30 from hl9)
  have hR1 : Row W9 gn nm.cs 30 := by
    rw [show nm = st5 o s9 by rw [← HNM.out]; simp [st5, zop, show 1 ≤ s9 by omega, show 2 ≤ s9 by omega]]
    exact hrow9
  have hR0 : Row W9 w.heap.size o.cs 30 := hw9.row (x := W2.drew) HR0.out HGne.out
  have hBW : Below w.heap.size w W9 := HBW2.out.drew.trans (hw9.below (x := W2.drew) (B := w.heap.size) HGle.out HBW2.out.size)
  clear hw9 hl9 hrow9 hs9
  simp only [Act.put, List.setIfInBounds_toArray, List.set_cons_succ, List.set_cons_zero]
  have HBW := Lib.hid hBW
  have HL0 := Lib.hid (l_op hR0 Hk.out)
  have HL1 := Lib.hid (l_op hR1 HnmL.out)
  have ck := hR0.cell (i := 0) rfl
  rw [HKIND.out] at ck
  have ci := hR0.cell (i := 2) rfl
  have ca := hR0.cell (Opn.at35 Hk.out)
  have cb := hR0.cell (Opn.at36 Hk.out)
  have hgd := fun (u v : Operand) (W : World) => guard_of (t := 30) g_op .neq u v o.cs.toArray nm.cs.toArray W
  have hne := fun (W : World) => neq_of (eq_op o nm Hk.out HnmL.out W)
  have HI := Lib.hid (isID_any o.id)
  have HP := Lib.hid (isPrefix_any o.addr o.bits)
  replace hgd : ∀ (u v : Operand) (W : World), (eqGuard .neq 30 u v o.val nm.val).run Try.prog W = .ok () W := hgd
  replace hne : ∀ W : World, (binOp .neq 30 o.val nm.val).run Try.prog W = .ok (.bool (!decide (o = nm))) W := hne
  clear hR0 hR1 hBW
  cases hq : decide (o = nm) with
  | false =>
    rw [hq] at hne
    obtain rfl : z = 2 := by rw [← Hz.out]; exact if_neg (by unfold okO; rw [Hnm.out, hq]; simp)
    clear hq
    simp only [Bool.not_false] at hne
    go_wp2_with (first
      | (refine QB.wpList_ld 30 rfl rfl HL0.out rfl ?_; clear HL0; refine QB.wpList_ld 30 rfl rfl HL1.out rfl ?_; clear HL1; refine stop ?_)
      | fail)
    unfold Stop
    go_wp2_with (first
      | (go_at_call 88; refine (HI.out _).mono ?_; rintro e w' ⟨rfl, rfl⟩)
      | (go_at_call 90; refine (HP.out _).mono ?_; rintro e w' ⟨rfl, rfl⟩)
      | fail)
    go_ret
    exact ⟨rfl, HBW.out⟩
  | true =>
    rw [hq] at hne
    simp only [Bool.not_true] at hne
    cases hp : prefB o.addr o.bits with
    | false =>
      rw [hp] at HP
      obtain rfl : z = 2 := by rw [← Hz.out]; exact if_neg (by unfold okO; rw [hp]; simp)
      clear hp hq
      go_wp2_with (first
        | (refine QB.wpList_ld 30 rfl rfl HL0.out rfl ?_; clear HL0; refine QB.wpList_ld 30 rfl rfl HL1.out rfl ?_; clear HL1; refine stop ?_)
        | fail)
      unfold Stop
      go_wp2_with (first
        | (go_at_call 88; refine (HI.out _).mono ?_; rintro e w' ⟨rfl, rfl⟩)
        | (go_at_call 90; refine (HP.out _).mono ?_; rintro e w' ⟨rfl, rfl⟩)
        | fail)
      go_ret
      exact ⟨rfl, HBW.out⟩
    | true =>
      rw [hp] at HP
      obtain rfl : z = 0 := by rw [← Hz.out]; exact if_pos (by unfold okO; rw [Hnm.out, hq, hp, HKIND.out]; rfl)
      clear hp hq
      go_wp2_with (first
        | (refine QB.wpList_ld 30 rfl rfl HL0.out rfl ?_; clear HL0; refine QB.wpList_ld 30 rfl rfl HL1.out rfl ?_; clear HL1; refine stop ?_)
        | fail)
      unfold Stop
      go_wp2_with (first
        | (go_at_call 88; refine (HI.out _).mono ?_; rintro e w' ⟨rfl, rfl⟩)
        | (go_at_call 90; refine (HP.out _).mono ?_; rintro e w' ⟨rfl, rfl⟩)
        | fail)
      go_ret
      exact ⟨rfl, HBW.out⟩

set_option maxRecDepth 100000 in
set_option maxHeartbeats 2000000 in
theorem CheckOp_0 (o : Opn) (hk : o.ky.length = 32) (h1 : (o.kind == 1) = false) (h2 : (o.kind == 2) = false) (h3 : (o.kind == 3) = false) (h4 : (o.kind == 4) = false) (h5 : (o.kind == 5) = false) (w : World) : Calls Try.prog 56 #[o.val] w fun e w' => e = .returned (.int .i64 (checkOpZ o)) ∧ Below w.heap.size w w' := by
  have hkind : o.kind = o.kind := rfl
  have hzz : checkOpZ o = 2 := if_neg (by unfold okO; simp only [beq_eq_false_iff_ne] at h1 h2 h3 h4 h5; simp [h1, h2, h3, h4, h5])
  obtain ⟨z, hz⟩ : ∃ z, checkOpZ o = z := ⟨_, rfl⟩
  rw [hz]
  obtain rfl : z = 2 := hz.symm.trans hzz
  clear hzz
  have Hz := Lib.hid hz
  have Hk := Lib.hid hk
  have HKIND := Lib.hid hkind
  have hr0 : Row (w.alloc (.cells o.cs.toArray 30)) w.heap.size o.cs 30 := Row.new rfl rfl
  have hb0 : Below w.heap.size w (w.alloc (.cells o.cs.toArray 30)) := (Below.refl _ w).alloc (Nat.le_refl _) _
  have c0 := hr0.cell (i := 0) rfl
  have c1 := hr0.cell (i := 1) rfl
  have HR0 := Lib.hid hr0
  have HB0 := Lib.hid hb0
  have hgs : (w.alloc (.cells o.cs.toArray 30)).heap.size = w.heap.size + 1 := by simp
  have Hgs := Lib.hid hgs
  clear hz hk hr0 hb0 hgs hkind
  unfold Opn.val
  go_enter Try.func56, Try.ntmps56
  go_wp2_with (first
    | (show wpList _ _ _ (⟨some 8, _, _, _, _, _⟩ :: _) _ _; refine wpList_bd _ _ rfl (v := (zop o.kind o.ref).val) (by kernel_rfl) rfl ?_)
    | (refine QB.wpList_alloc rfl 30 rfl zero_op ?_; intro W1 hr1 hb1; have HR1 := Lib.hid (show Row W1 (w.heap.size + 1) (zop 0 0).cs 30 from Hgs.out ▸ hr1); have HB1 := Lib.hid hb1; clear hr1 hb1; refine stop ?_)
    | fail)
  unfold Stop
  refine wpList_storeRow rfl 30 (.tmp 3) (.tmp 8) rfl (g := w.heap.size + 1) (by rfl) (cs := (zop o.kind o.ref).cs) rfl HR1.out (by kernel_rfl) (Opn.len zkey_len) (Opn.len zkey_len) (Opn.one _) ?_
  refine QB.name fun W2 hW2 => ?_
  have hR1 : Row W2 (w.heap.size + 1) (zop o.kind o.ref).cs 30 := by rw [← hW2]; exact HR1.out.setRow _
  have hBW : Below w.heap.size w W2 := by rw [← hW2]; exact below_setRow (nextB HB0.out (Nat.le_refl _) HB1.out) (by omega) _
  have hR0 : Row W2 w.heap.size o.cs 30 := by rw [← hW2]; exact (HR0.out.below HB1.out HR0.out.lt).setOther _ _ (by omega)
  clear hW2 c0 c1
  simp only [Act.put]
  have ck := hR0.cell (i := 0) rfl
  skip
  go_wp2_with fail
  go_ret
  exact ⟨rfl, hBW⟩

theorem CheckOp_any (o : Opn) (hk : o.ky.length = 32) (w : World) : Calls Try.prog 56 #[o.val] w fun e w' => e = .returned (.int .i64 (checkOpZ o)) ∧ Below w.heap.size w w' := by
  by_cases h1 : o.kind = 1
  · exact CheckOp_1 o hk h1 w
  by_cases h2 : o.kind = 2
  · exact CheckOp_2 o hk h2 w
  by_cases h3 : o.kind = 3
  · exact CheckOp_3 o hk h3 w
  by_cases h4 : o.kind = 4
  · exact CheckOp_4 o hk h4 w
  by_cases h5 : o.kind = 5
  · exact CheckOp_5 o hk h5 w
  exact CheckOp_0 o hk (by simpa using h1) (by simpa using h2) (by simpa using h3) (by simpa using h4) (by simpa using h5) w

end Go.Proofs.Ytedmogacklbcmaa.Cfg
