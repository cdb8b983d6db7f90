/- config: '==' of peers, of routes, of operations. -/
import Derived.Test.YtlphmbefcbhhpaaCfgMem
namespace Go.Proofs.Ytlphmbefcbhhpaa.Cfg
open Go.RowKit
def Opn.cs (o : Opn) : List Value := .int .i64 o.kind :: .int .u64 o.ref :: .int .i64 o.id :: (o.ky.map bv ++ [.int .u32 o.addr, .int .i64 o.bits])
def Opn.val (o : Opn) : Value := .agg o.cs.toArray
theorem Opn.len {o : Opn} (h : o.ky.length = 32) : o.cs.length = 37 := by simp [Opn.cs, h]
theorem Opn.one (o : Opn) : ∀ v ∈ o.cs, v.oneCell' = true := by
  intro v hv
  simp only [Opn.cs, List.mem_cons, List.mem_append, List.mem_map, List.not_mem_nil, or_false] at hv
  rcases hv with rfl | rfl | rfl | ⟨u, _, rfl⟩ | rfl | rfl <;> rfl
section
variable {P : Program}
theorem run_equalIn_ints (d : Nat) {t e : TypeId} {n : Nat} {k : IntKind} (hu : P.underlying t = some (.array n e)) (he : P.underlying e = some (.int k)) (hs : (P.info? e).map (·.size) = some 1) (xs ys : List Int) (hx : xs.length = n) (hy : ys.length = n) (w : World) :
    (Op.equalIn (d + 1 + 1) t (.agg (xs.map (Value.int k)).toArray) (.agg (ys.map (Value.int k)).toArray)).run P w = .ok (decide (xs = ys)) w := by
  have hinner : ∀ (x y : Int), (Op.equalIn (d + 1) e (.int k x) (.int k y)).run P w = .ok (x == y) w := by
    intro x y
    simp [Op.equalIn, run_underlying he w]
  generalize hE : Op.equalIn (d + 1) = E at hinner
  unfold Op.equalIn
  rw [hE]
  simp only [Sem.run_bind, run_underlying hu w, Result.andThen_ok]
  have hsz : (sizeOf e).run P w = .ok 1 w := by
    cases hq : P.info? e with
    | none => simp [hq] at hs
    | some i =>
      have h1 : i.size = 1 := by simpa [hq] using hs
      simp [sizeOf, typeInfo, hq, h1]
  have hagg : (isAgg e).run P w = .ok false w := by
    unfold isAgg
    rw [Sem.run_bind, run_underlying he w]
    rfl
  have hpart : ∀ (zs : List Int) (i : Nat) (z : Int), zs[i]? = some z → (part e (zs.map (Value.int k)).toArray (i * 1)).run P w = .ok (.int k z) w := by
    intro zs i z hz
    have : (zs.map (Value.int k)).toArray[i * 1]? = some (.int k z) := by rw [Nat.mul_one, List.getElem?_toArray, List.getElem?_map, hz]; rfl
    simp only [part, Sem.run_bind, hagg, Result.andThen_ok, Bool.false_eq_true, if_false, this, Sem.run_pure]
  rw [hsz]
  simp only [Result.andThen_ok]
  rw [Std.Legacy.Range.forIn_eq_forIn_range']
  have key : ∀ l : List Nat, (∀ i ∈ l, i < n) → (forIn (m := Sem) l ((none : Option Bool), ()) fun i __s => do
              let __do_lift ← part e (List.map (Value.int k) xs).toArray (i * 1)
              let __do_lift_1 ← part e (List.map (Value.int k) ys).toArray (i * 1)
              let __do_lift ← E e __do_lift __do_lift_1
              if (!__do_lift) = true then pure (ForInStep.done (some false, ())) else pure (ForInStep.yield (none, ()))).run P w = .ok (if (l.all fun i => xs[i]? == ys[i]?) = true then (none, ()) else (some false, ())) w := by
    intro l
    induction l with
    | nil => intro _; simp
    | cons i l ih =>
      intro hl
      have hi := hl i (List.mem_cons_self ..)
      obtain ⟨x, hx'⟩ : ∃ x, xs[i]? = some x := ⟨_, List.getElem?_eq_getElem (by omega)⟩
      obtain ⟨y, hy'⟩ : ∃ y, ys[i]? = some y := ⟨_, List.getElem?_eq_getElem (by omega)⟩
      rw [List.forIn_cons]
      simp only [Sem.run_bind, hpart _ _ _ hx', hpart _ _ _ hy', hinner, Result.andThen_ok]
      by_cases hxy : x = y
      · subst hxy
        simp only [beq_self_eq_true, Bool.not_true, Bool.false_eq_true, if_false, Sem.run_pure, Result.andThen_ok]
        rw [ih fun j hj => hl j (List.mem_cons_of_mem _ hj)]
        simp [hx', hy']
      · have hb : (x == y) = false := by simp [hxy]
        simp only [hb, Bool.not_false, if_true, Sem.run_pure, Result.andThen_ok]
        simp [hx', hy', hxy]
  rw [key _ (fun i hi => by simp [List.mem_range'] at hi; omega)]
  simp only [Result.andThen_ok]
  by_cases hxy : xs = ys
  · subst hxy
    simp
  · have : ¬ ((List.range' 0 n).all fun i => xs[i]? == ys[i]?) = true := by
      intro hall
      apply hxy
      apply List.ext_getElem?
      intro i
      by_cases hi : i < n
      · have := List.all_eq_true.1 hall i (by simp [List.mem_range']; omega)
        simpa using this
      · rw [List.getElem?_eq_none (by omega), List.getElem?_eq_none (by omega)]
    rw [if_neg (fun h => this (by simpa using h))]
    simp [hxy]
theorem part_one {t : TypeId} {d : TypeDesc} {cs : List Value} {i : Nat} {v : Value} (w : World) (hu : P.underlying t = some d) (hd : (match d with | .struct _ | .array _ _ => true | _ => false) = false) (hv : cs[i]? = some v) : (part t cs.toArray i).run P w = .ok v w := by
  have hagg : (isAgg t).run P w = .ok false w := by
    unfold isAgg
    rw [Sem.run_bind, run_underlying hu w]
    cases d <;> simp_all
  have hv' : cs.toArray[i]? = some v := by simpa using hv
  simp only [part, Sem.run_bind, hagg, Result.andThen_ok, Bool.false_eq_true, if_false, hv', Sem.run_pure]
theorem part_arr {t : TypeId} {d : TypeDesc} {cs : List Value} {i n : Nat} (w : World) (hu : P.underlying t = some d) (hd : (match d with | .struct _ | .array _ _ => true | _ => false) = true) (hs : (P.info? t).map (·.size) = some n) :
    (part t cs.toArray i).run P w = .ok (.agg ((cs.drop i).take n).toArray) w := by
  have hagg : (isAgg t).run P w = .ok true w := by
    unfold isAgg
    rw [Sem.run_bind, run_underlying hu w]
    cases d <;> simp_all
  have hsz : (sizeOf t).run P w = .ok n w := by
    cases hq : P.info? t with
    | none => simp [hq] at hs
    | some i =>
      have h1 : i.size = n := by simpa [hq] using hs
      simp [sizeOf, typeInfo, hq, h1]
  simp only [part, Sem.run_bind, hagg, Result.andThen_ok, if_true, hsz, Sem.run_pure]
  congr 2
  simp
end
theorem bytes_ints {x y : List UInt8} : (x.map fun u => (u.toNat : Int)) = (y.map fun u => (u.toNat : Int)) ↔ x = y := by
  constructor
  · intro h
    have hinj : Function.Injective (fun u : UInt8 => (u.toNat : Int)) := fun a b hab => UInt8.toNat.inj (by have : (a.toNat : Int) = (b.toNat : Int) := hab; omega)
    exact (List.map_inj_right (fun a b hab => hinj hab)).1 h
  · intro h; rw [h]
set_option maxRecDepth 100000 in
theorem eqIn_key (d : Nat) (x y : List UInt8) (hx : x.length = 32) (hy : y.length = 32) (w : World) : (Op.equalIn (d + 1 + 1) 43 (.agg (x.map bv).toArray) (.agg (y.map bv).toArray)).run Try.prog w = .ok (decide (x = y)) w := by
  have h := run_equalIn_ints (P := Try.prog) d Try.underlying43 Try.underlying5 (by kernel_rfl) (x.map fun u => (u.toNat : Int)) (y.map fun u => (u.toNat : Int)) (by simpa using hx) (by simpa using hy) w
  rw [List.map_map, List.map_map] at h
  rw [show decide (x = y) = decide ((x.map fun u => (u.toNat : Int)) = (y.map fun u => (u.toNat : Int))) from decide_eq_decide.2 bytes_ints.symm]
  exact h
theorem eqIn_int (d : Nat) {t : TypeId} {k : IntKind} (he : Try.prog.underlying t = some (.int k)) (a b : Int) (w : World) : (Op.equalIn (d + 1) t (.int k a) (.int k b)).run Try.prog w = .ok (a == b) w := by simp [Op.equalIn, run_underlying he w]
theorem eqIn_bool (d : Nat) {t : TypeId} (he : Try.prog.underlying t = some .bool) (a b : Bool) (w : World) : (Op.equalIn (d + 1) t (.bool a) (.bool b)).run Try.prog w = .ok (a == b) w := by simp [Op.equalIn, run_underlying he w]
set_option maxRecDepth 100000 in
set_option maxHeartbeats 1000000 in
theorem eq_rt (x y : Rt) (w : World) : (Op.equal 87 x.val y.val).run Try.prog w = .ok (decide (x = y)) w := by
  suffices hd : ∀ d, (Op.equalIn (d + 1 + 1 + 1) 87 (.agg x.cs.toArray) (.agg y.cs.toArray)).run Try.prog w = .ok (decide (x = y)) w from hd 9997
  intro d
  have hI := fun a b : Int => eqIn_int (d + 1) Try.underlying3 a b w
  have hU := fun a b : Int => eqIn_int (d + 1) Try.underlying22 a b w
  have p0 : ∀ r : Rt, (part 22 r.cs.toArray 0).run Try.prog w = .ok (.int .u32 r.addr) w := fun r => part_one w Try.underlying22 rfl rfl
  have p1 : ∀ r : Rt, (part 3 r.cs.toArray 1).run Try.prog w = .ok (.int .i64 r.bits) w := fun r => part_one w Try.underlying3 rfl rfl
  have p2 : ∀ r : Rt, (part 3 r.cs.toArray 2).run Try.prog w = .ok (.int .i64 r.peer) w := fun r => part_one w Try.underlying3 rfl rfl
  have hst : Try.prog.stoodInHeld 87 = false := by kernel_rfl
  have hp : (program : Sem Program).run Try.prog w = .ok Try.prog w := rfl
  replace hI : ∀ a b : Int, (Op.equalIn (d + 2) 3 (.int .i64 a) (.int .i64 b)).run Try.prog w = .ok (a == b) w := hI
  replace hU : ∀ a b : Int, (Op.equalIn (d + 2) 22 (.int .u32 a) (.int .u32 b)).run Try.prog w = .ok (a == b) w := hU
  unfold Op.equalIn
  simp only [Sem.run_bind, run_underlying Try.underlying87 w, Result.andThen_ok, hp, hst, Bool.false_eq_true, if_false]
  have hx : decide (x = y) = ((x.addr == y.addr) && ((x.bits == y.bits) && (x.peer == y.peer))) := by
    rw [Bool.eq_iff_iff]
    cases x; cases y
    simp
  rw [hx]
  cases h1 : x.addr == y.addr <;> cases h2 : x.bits == y.bits <;> cases h3 : x.peer == y.peer <;> simp [List.forIn_toArray, p0, p1, p2, hI, hU, h1, h2, h3, -beq_eq_false_iff_ne, -beq_iff_eq]
theorem for_fields {P : Program} (E : TypeId → Value → Value → Sem Bool) (xs ys : Array Value) (w : World) : ∀ (l : List Field) (bs : List Bool), l.length = bs.length →
    (∀ (j : Nat) (f : Field) (b : Bool), l[j]? = some f → bs[j]? = some b → f.name ≠ "_" ∧ ∃ u v, (part f.type xs f.offset).run P w = .ok u w ∧ (part f.type ys f.offset).run P w = .ok v w ∧ (E f.type u v).run P w = .ok b w) →
    (forIn (m := Sem) l ((none : Option Bool), ()) fun f __s =>
                    if f.name ≠ "_" then do
                      let __do_lift ← part f.type xs f.offset
                      let __do_lift_1 ← part f.type ys f.offset
                      let __do_lift ← E f.type __do_lift __do_lift_1
                      if (!__do_lift) = true then pure (ForInStep.done (some false, ()))
                        else pure (ForInStep.yield (none, ()))
                    else pure (ForInStep.yield (none, ()))).run P w = .ok (if bs.all id = true then (none, ()) else (some false, ())) w
  | [], [], _, _ => by simp
  | f :: l, b :: bs, hl, h => by
    obtain ⟨h1, u, v, h2, h3, h4⟩ := h 0 f b rfl rfl
    have ih := for_fields E xs ys w l bs (by simpa using hl) fun j f' b' hf hb => h (j + 1) f' b' (by simpa using hf) (by simpa using hb)
    rw [List.forIn_cons]
    simp only [h1, ne_eq, not_false_eq_true, if_true, Sem.run_bind, h2, h3, h4, Result.andThen_ok]
    cases b with
    | true =>
      simp only [Bool.not_true, Bool.false_eq_true, if_false, Sem.run_pure, Result.andThen_ok]
      rw [ih]
      simp
    | false => simp
set_option maxRecDepth 100000 in
set_option maxHeartbeats 1000000 in
theorem eq_mb (x y : Mb) (hkx : x.ky.length = 32) (hky : y.ky.length = 32) (w : World) : (Op.equal 83 x.val y.val).run Try.prog w = .ok (decide (x = y)) w := by
  suffices hd : ∀ d, (Op.equalIn (d + 1 + 1 + 1) 83 (.agg x.cs.toArray) (.agg y.cs.toArray)).run Try.prog w = .ok (decide (x = y)) w from hd 9997
  intro d
  have p0 : ∀ r : Mb, (part 3 r.cs.toArray 0).run Try.prog w = .ok (.int .i64 r.id) w := fun r => part_one w Try.underlying3 rfl rfl
  have p1 : ∀ r : Mb, r.ky.length = 32 → (part 43 r.cs.toArray 1).run Try.prog w = .ok (.agg (r.ky.map bv).toArray) w := fun r hr => by
    rw [part_arr w Try.underlying43 rfl (show (Try.prog.info? 43).map (·.size) = some 32 by kernel_rfl)]
    congr 3
    show (r.ky.map bv ++ [Value.bool r.off]).take 32 = _
    rw [List.take_left' (by rw [List.length_map, hr])]
  have p2 : ∀ r : Mb, r.ky.length = 32 → (part 4 r.cs.toArray 33).run Try.prog w = .ok (.bool r.off) w := fun r hr => part_one w Try.underlying4 rfl (by
    show (r.ky.map bv ++ [Value.bool r.off])[32]? = _
    rw [List.getElem?_append_right (by rw [List.length_map, hr]; omega), List.length_map, hr]; rfl)
  have hst : Try.prog.stoodInHeld 83 = false := by kernel_rfl
  have hp : (program : Sem Program).run Try.prog w = .ok Try.prog w := rfl
  unfold Op.equalIn
  simp only [Sem.run_bind, run_underlying Try.underlying83 w, Result.andThen_ok, hp, hst, Bool.false_eq_true, if_false, List.forIn_toArray]
  have hx : decide (x = y) = [x.id == y.id, decide (x.ky = y.ky), x.off == y.off].all id := by
    rw [Bool.eq_iff_iff]
    cases x; cases y
    simp
  rw [hx, for_fields (Op.equalIn (d + 2)) _ _ w _ [x.id == y.id, decide (x.ky = y.ky), x.off == y.off] rfl (fun j f b hf hb => by
    match j, hf, hb with
    | 0, hf, hb => cases hf; cases hb; exact ⟨by decide, _, _, p0 x, p0 y, eqIn_int (d + 1) Try.underlying3 _ _ w⟩
    | 1, hf, hb => cases hf; cases hb; exact ⟨by decide, _, _, p1 x hkx, p1 y hky, eqIn_key d _ _ hkx hky w⟩
    | 2, hf, hb => cases hf; cases hb; exact ⟨by decide, _, _, p2 x hkx, p2 y hky, eqIn_bool (d + 1) Try.underlying4 _ _ w⟩
    | n + 3, hf, _ => simp at hf)]
  generalize [x.id == y.id, decide (x.ky = y.ky), x.off == y.off].all id = q
  cases q <;> simp
set_option maxRecDepth 100000 in
set_option maxHeartbeats 1000000 in
theorem eq_op (x y : Opn) (hkx : x.ky.length = 32) (hky : y.ky.length = 32) (w : World) : (Op.equal 45 x.val y.val).run Try.prog w = .ok (decide (x = y)) w := by
  suffices hd : ∀ d, (Op.equalIn (d + 1 + 1 + 1) 45 (.agg x.cs.toArray) (.agg y.cs.toArray)).run Try.prog w = .ok (decide (x = y)) w from hd 9997
  intro d
  have p0 : ∀ r : Opn, (part 3 r.cs.toArray 0).run Try.prog w = .ok (.int .i64 r.kind) w := fun r => part_one w Try.underlying3 rfl rfl
  have p1 : ∀ r : Opn, (part 23 r.cs.toArray 1).run Try.prog w = .ok (.int .u64 r.ref) w := fun r => part_one w Try.underlying23 rfl rfl
  have p2 : ∀ r : Opn, (part 3 r.cs.toArray 2).run Try.prog w = .ok (.int .i64 r.id) w := fun r => part_one w Try.underlying3 rfl rfl
  have p3 : ∀ r : Opn, r.ky.length = 32 → (part 43 r.cs.toArray 3).run Try.prog w = .ok (.agg (r.ky.map bv).toArray) w := fun r hr => by
    rw [part_arr w Try.underlying43 rfl (show (Try.prog.info? 43).map (·.size) = some 32 by kernel_rfl)]
    congr 3
    show (r.ky.map bv ++ _).take 32 = _
    rw [List.take_left' (by rw [List.length_map, hr])]
  have p4 : ∀ r : Opn, r.ky.length = 32 → (part 22 r.cs.toArray 35).run Try.prog w = .ok (.int .u32 r.addr) w := fun r hr => part_one w Try.underlying22 rfl (by
    show (r.ky.map bv ++ [Value.int .u32 r.addr, Value.int .i64 r.bits])[32]? = _
    rw [List.getElem?_append_right (by rw [List.length_map, hr]; omega), List.length_map, hr]; rfl)
  have p5 : ∀ r : Opn, r.ky.length = 32 → (part 3 r.cs.toArray 36).run Try.prog w = .ok (.int .i64 r.bits) w := fun r hr => part_one w Try.underlying3 rfl (by
    show (r.ky.map bv ++ [Value.int .u32 r.addr, Value.int .i64 r.bits])[33]? = _
    rw [List.getElem?_append_right (by rw [List.length_map, hr]; omega), List.length_map, hr]; rfl)
  have hst : Try.prog.stoodInHeld 45 = false := by kernel_rfl
  have hp : (program : Sem Program).run Try.prog w = .ok Try.prog w := rfl
  unfold Op.equalIn
  simp only [Sem.run_bind, run_underlying Try.underlying45 w, Result.andThen_ok, hp, hst, Bool.false_eq_true, if_false, List.forIn_toArray]
  have hx : decide (x = y) = [x.kind == y.kind, x.ref == y.ref, x.id == y.id, decide (x.ky = y.ky), x.addr == y.addr, x.bits == y.bits].all id := by
    rw [Bool.eq_iff_iff]
    cases x; cases y
    simp
  rw [hx, for_fields (Op.equalIn (d + 2)) _ _ w _ [x.kind == y.kind, x.ref == y.ref, x.id == y.id, decide (x.ky = y.ky), x.addr == y.addr, x.bits == y.bits] rfl (fun j f b hf hb => by
    match j, hf, hb with
    | 0, hf, hb => cases hf; cases hb; exact ⟨by decide, _, _, p0 x, p0 y, eqIn_int (d + 1) Try.underlying3 _ _ w⟩
    | 1, hf, hb => cases hf; cases hb; exact ⟨by decide, _, _, p1 x, p1 y, eqIn_int (d + 1) Try.underlying23 _ _ w⟩
    | 2, hf, hb => cases hf; cases hb; exact ⟨by decide, _, _, p2 x, p2 y, eqIn_int (d + 1) Try.underlying3 _ _ w⟩
    | 3, hf, hb => cases hf; cases hb; exact ⟨by decide, _, _, p3 x hkx, p3 y hky, eqIn_key d _ _ hkx hky w⟩
    | 4, hf, hb => cases hf; cases hb; exact ⟨by decide, _, _, p4 x hkx, p4 y hky, eqIn_int (d + 1) Try.underlying22 _ _ w⟩
    | 5, hf, hb => cases hf; cases hb; exact ⟨by decide, _, _, p5 x hkx, p5 y hky, eqIn_int (d + 1) Try.underlying3 _ _ w⟩
    | n + 6, hf, _ => simp at hf)]
  generalize [x.kind == y.kind, x.ref == y.ref, x.id == y.id, decide (x.ky = y.ky), x.addr == y.addr, x.bits == y.bits].all id = q
  cases q <;> simp
/-- As operations of a walk. -/
theorem guard_of {t : TypeId} (hg : Try.prog.eqGuardType Try.prog.depth t = false) (op : BinOp) (u v : Operand) (xs ys : Array Value) (w : World) : (eqGuard op t u v (.agg xs) (.agg ys)).run Try.prog w = .ok () w := by
  cases op <;> simp [eqGuard, Sem.run_bind, hg]
theorem neq_of {t : TypeId} {xs ys : Array Value} {r : Bool} {w : World} (h : (Op.equal t (.agg xs) (.agg ys)).run Try.prog w = .ok r w) : (binOp .neq t (.agg xs) (.agg ys)).run Try.prog w = .ok (.bool (!r)) w := by simp [binOp, h]
theorem eql_of {t : TypeId} {xs ys : Array Value} {r : Bool} {w : World} (h : (Op.equal t (.agg xs) (.agg ys)).run Try.prog w = .ok r w) : (binOp .eql t (.agg xs) (.agg ys)).run Try.prog w = .ok (.bool r) w := by simp [binOp, h]
set_option maxRecDepth 100000 in
theorem g_mb : Try.prog.eqGuardType Try.prog.depth 83 = false := by kernel_rfl
set_option maxRecDepth 100000 in
theorem g_rt : Try.prog.eqGuardType Try.prog.depth 87 = false := by kernel_rfl
set_option maxRecDepth 100000 in
theorem g_op : Try.prog.eqGuardType Try.prog.depth 45 = false := by kernel_rfl
end Go.Proofs.Ytlphmbefcbhhpaa.Cfg
