/- '==' of two arrays of an integer kind. -/
import Derived.Test.YtedmogacklbcmaaArr
namespace Go.Proofs.Ytedmogacklbcmaa
open Go.RowKit
section
variable {P : Program}
theorem run_equal_ints {t e : TypeId} {n : Nat} {k : IntKind} (hu : P.underlying t = some (.array n e)) (he : P.underlying e = some (.int k)) (hs : (P.info? e).map (·.size) = some 1) (xs ys : List Int) (hx : xs.length = n) (hy : ys.length = n) (w : World) :
    (Op.equal t (.agg (xs.map (Value.int k)).toArray) (.agg (ys.map (Value.int k)).toArray)).run P w = .ok (decide (xs = ys)) w := by
  suffices hd : ∀ d, (Op.equalIn (d + 1 + 1) t (.agg (xs.map (Value.int k)).toArray) (.agg (ys.map (Value.int k)).toArray)).run P w = .ok (decide (xs = ys)) w from hd 9998
  intro d
  have hinner : ∀ (x y : Int), (Op.equalIn (d + 1) e (.int k x) (.int k y)).run P w = .ok (x == y) w := by
    intro x y
    simp [Op.equalIn, run_underlying he w]
  generalize hE : Op.equalIn (d + 1) = E at hinner
  unfold Op.equalIn
  rw [hE]
  simp only [Sem.run_bind, run_underlying hu w, Result.andThen_ok]
  have hsz : (sizeOf e).run P w = .ok 1 w := by
    cases hq : P.info? e with
    | none => simp [hq] at hs
    | some i =>
      have h1 : i.size = 1 := by simpa [hq] using hs
      simp [sizeOf, typeInfo, hq, h1]
  have hagg : (isAgg e).run P w = .ok false w := by
    unfold isAgg
    rw [Sem.run_bind, run_underlying he w]
    rfl
  have hpart : ∀ (zs : List Int) (i : Nat) (z : Int), zs[i]? = some z → (part e (zs.map (Value.int k)).toArray (i * 1)).run P w = .ok (.int k z) w := by
    intro zs i z hz
    have : (zs.map (Value.int k)).toArray[i * 1]? = some (.int k z) := by rw [Nat.mul_one, List.getElem?_toArray, List.getElem?_map, hz]; rfl
    simp only [part, Sem.run_bind, hagg, Result.andThen_ok, Bool.false_eq_true, if_false, this, Sem.run_pure]
  rw [hsz]
  simp only [Result.andThen_ok]
  rw [Std.Legacy.Range.forIn_eq_forIn_range']
  have key : ∀ l : List Nat, (∀ i ∈ l, i < n) → (forIn (m := Sem) l ((none : Option Bool), ()) fun i __s => do
              let __do_lift ← part e (List.map (Value.int k) xs).toArray (i * 1)
              let __do_lift_1 ← part e (List.map (Value.int k) ys).toArray (i * 1)
              let __do_lift ← E e __do_lift __do_lift_1
              if (!__do_lift) = true then pure (ForInStep.done (some false, ())) else pure (ForInStep.yield (none, ()))).run P w = .ok (if (l.all fun i => xs[i]? == ys[i]?) = true then (none, ()) else (some false, ())) w := by
    intro l
    induction l with
    | nil => intro _; simp
    | cons i l ih =>
      intro hl
      have hi := hl i (List.mem_cons_self ..)
      obtain ⟨x, hx'⟩ : ∃ x, xs[i]? = some x := ⟨_, List.getElem?_eq_getElem (by omega)⟩
      obtain ⟨y, hy'⟩ : ∃ y, ys[i]? = some y := ⟨_, List.getElem?_eq_getElem (by omega)⟩
      rw [List.forIn_cons]
      simp only [Sem.run_bind, hpart _ _ _ hx', hpart _ _ _ hy', hinner, Result.andThen_ok]
      by_cases hxy : x = y
      · subst hxy
        simp only [beq_self_eq_true, Bool.not_true, Bool.false_eq_true, if_false, Sem.run_pure, Result.andThen_ok]
        rw [ih fun j hj => hl j (List.mem_cons_of_mem _ hj)]
        simp [hx', hy']
      · have hb : (x == y) = false := by simp [hxy]
        simp only [hb, Bool.not_false, if_true, Sem.run_pure, Result.andThen_ok]
        simp [hx', hy', hxy]
  rw [key _ (fun i hi => by simp [List.mem_range'] at hi; omega)]
  simp only [Result.andThen_ok]
  by_cases hxy : xs = ys
  · subst hxy
    simp
  · have : ¬ ((List.range' 0 n).all fun i => xs[i]? == ys[i]?) = true := by
      intro hall
      apply hxy
      apply List.ext_getElem?
      intro i
      by_cases hi : i < n
      · have := List.all_eq_true.1 hall i (by simp [List.mem_range']; omega)
        simpa using this
      · rw [List.getElem?_eq_none (by omega), List.getElem?_eq_none (by omega)]
    rw [if_neg (fun h => this (by simpa using h))]
    simp [hxy]
/-- The same as an operation of a walk, for words and for bytes. -/
theorem run_eql_arr32 {t e : TypeId} {n : Nat} (hu : P.underlying t = some (.array n e)) (he : P.underlying e = some (.int .u32)) (hs : (P.info? e).map (·.size) = some 1) (x y : List (BitVec 32)) (hx : x.length = n) (hy : y.length = n) (w : World) :
    (Op.equal t (arr32 x) (arr32 y)).run P w = .ok (decide (x = y)) w := by
  have h := run_equal_ints hu he hs (x.map fun a => (a.toNat : Int)) (y.map fun a => (a.toNat : Int)) (by simpa using hx) (by simpa using hy) w
  have e1 : ∀ z : List (BitVec 32), (z.map fun a => (a.toNat : Int)).map (Value.int .u32) = z.map wv := by intro z; rw [List.map_map]; rfl
  rw [e1, e1] at h
  unfold arr32
  rw [h]
  congr 1
  rw [decide_eq_decide]
  constructor
  · intro hh
    refine List.map_inj_right (f := fun a : BitVec 32 => (a.toNat : Int)) (fun a b hab => ?_) |>.1 hh
    have hab : (a.toNat : Int) = (b.toNat : Int) := hab
    have : a.toNat = b.toNat := by omega
    exact BitVec.eq_of_toNat_eq this
  · rintro rfl; rfl
theorem run_eql_arr8 {t e : TypeId} {n : Nat} (hu : P.underlying t = some (.array n e)) (he : P.underlying e = some (.int .u8)) (hs : (P.info? e).map (·.size) = some 1) (x y : List UInt8) (hx : x.length = n) (hy : y.length = n) (w : World) :
    (Op.equal t (arr8 x) (arr8 y)).run P w = .ok (decide (x = y)) w := by
  have h := run_equal_ints hu he hs (x.map fun a => (a.toNat : Int)) (y.map fun a => (a.toNat : Int)) (by simpa using hx) (by simpa using hy) w
  have e1 : ∀ z : List UInt8, (z.map fun a => (a.toNat : Int)).map (Value.int .u8) = z.map bv := by intro z; rw [List.map_map]; rfl
  rw [e1, e1] at h
  unfold arr8
  rw [h]
  congr 1
  rw [decide_eq_decide]
  constructor
  · intro hh
    refine List.map_inj_right (f := fun a : UInt8 => (a.toNat : Int)) (fun a b hab => ?_) |>.1 hh
    have hab : (a.toNat : Int) = (b.toNat : Int) := hab
    have : a.toNat = b.toNat := by omega
    exact UInt8.toNat.inj this
  · rintro rfl; rfl
/-- '==' and '!=' of two arrays, as an operation. -/
theorem run_eqArr (op : BinOp) (b : Bool) (hop : (op = .eql ∧ b = false) ∨ (op = .neq ∧ b = true)) {t : TypeId} {x y : Operand} {xs ys : Array Value} {r : Bool} (w : World) (hg : P.eqGuardType P.depth t = false) (h : (Op.equal t (.agg xs) (.agg ys)).run P w = .ok r w) :
    (do eqGuard op t x y (.agg xs) (.agg ys); binOp op t (.agg xs) (.agg ys) : Sem Value).run P w = .ok (.bool (xor r b)) w := by
  rcases hop with ⟨rfl, rfl⟩ | ⟨rfl, rfl⟩
  · simp [eqGuard, binOp, Sem.run_bind, hg, h]
  · simp [eqGuard, binOp, Sem.run_bind, hg, h]
theorem wp_eqArr {o : Oper} {a : Act} {w : World} {K : Act → World → Prop} {Q : Exit → Act → World → Prop} {t t2 : TypeId} {xs ys : Array Value} {r : Bool} (x y : Operand) (ho : o.op = .binOp .eql t x y t2) (hg : P.eqGuardType P.depth t = false)
    (hx : a.eval x = .agg xs) (hy : a.eval y = .agg ys) (h : (Op.equal t (.agg xs) (.agg ys)).run P w = .ok r w) (hk : K (a.put o.dst (.bool r)) w) : o.wp P a w K Q := by
  have hr := run_eqArr (P := P) .eql false (.inl ⟨rfl, rfl⟩) (x := x) (y := y) w hg h
  rw [Bool.xor_false] at hr
  unfold Oper.wp execOp
  simp only [ho, hx, hy]
  rw [Sem.run_bind, hr]
  exact hk
end
end Go.Proofs.Ytedmogacklbcmaa
