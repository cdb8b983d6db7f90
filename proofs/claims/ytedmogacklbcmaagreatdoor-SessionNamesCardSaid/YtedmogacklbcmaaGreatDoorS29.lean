/- Texts that the proofs share: Arr, EqArr, PolyNum. -/
import Derived.Test.YtedmogacklbcmaaGreatDoorS19
import Derived.Test.YtedmogacklbcmaaGreatDoorS25
import Derived.Test.YtedmogacklbcmaaGreatDoorS27
namespace Go.Proofs.YtedmogacklbcmaaGreatDoor
open Go.ChangeShapes Go.WideShapes Go.RowKit
def arr32 (s : List (BitVec 32)) : Value := .agg (s.map wv).toArray
def arr8 (l : List UInt8) : Value := .agg (l.map bv).toArray
theorem list_choose {α β : Type} (f : β → α) : ∀ l : List α, (∀ x ∈ l, ∃ y, x = f y) → ∃ m : List β, l = m.map f := by
 intro l
 induction l with
 | nil => intro _; exact ⟨[], rfl⟩
 | cons x l ih =>
   intro h
   obtain ⟨y, rfl⟩ := h x (List.mem_cons_self ..)
   obtain ⟨m, rfl⟩ := ih fun z hz => h z (List.mem_cons_of_mem _ hz)
   exact ⟨y :: m, rfl⟩
section
variable {P : Program} {W : World} {base : Nat}
end
end Go.Proofs.YtedmogacklbcmaaGreatDoor
namespace Go.Proofs.YtedmogacklbcmaaGreatDoor
open Go.RowKit
section
variable {P : Program}
theorem run_equal_ints {t e : TypeId} {n : Nat} {k : IntKind} (hu : P.underlying t = some (.array n e)) (he : P.underlying e = some (.int k)) (hs : (P.info? e).map (·.size) = some 1) (xs ys : List Int) (hx : xs.length = n) (hy : ys.length = n) (w : World) :
 (Op.equal t (.agg (xs.map (Value.int k)).toArray) (.agg (ys.map (Value.int k)).toArray)).run P w = .ok (decide (xs = ys)) w := by
 suffices hd : ∀ d, (Op.equalIn (d + 1 + 1) t (.agg (xs.map (Value.int k)).toArray) (.agg (ys.map (Value.int k)).toArray)).run P w = .ok (decide (xs = ys)) w from hd 9998
 intro d
 have hinner : ∀ (x y : Int), (Op.equalIn (d + 1) e (.int k x) (.int k y)).run P w = .ok (x == y) w := by
  intro x y
  simp [Op.equalIn, run_underlying he w]
 generalize hE : Op.equalIn (d + 1) = E at hinner
 unfold Op.equalIn
 rw [hE]
 simp only [Sem.run_bind, run_underlying hu w, Result.andThen_ok]
 have hsz : (sizeOf e).run P w = .ok 1 w := by
  cases hq : P.info? e with
  | none => simp [hq] at hs
  | some i =>
    have h1 : i.size = 1 := by simpa [hq] using hs
    simp [sizeOf, typeInfo, hq, h1]
 have hagg : (isAgg e).run P w = .ok false w := by
  unfold isAgg
  rw [Sem.run_bind, run_underlying he w]
  rfl
 have hpart : ∀ (zs : List Int) (i : Nat) (z : Int), zs[i]? = some z → (part e (zs.map (Value.int k)).toArray (i * 1)).run P w = .ok (.int k z) w := by
  intro zs i z hz
  have : (zs.map (Value.int k)).toArray[i * 1]? = some (.int k z) := by rw [Nat.mul_one, List.getElem?_toArray, List.getElem?_map, hz]; rfl
  simp only [part, Sem.run_bind, hagg, Result.andThen_ok, Bool.false_eq_true, if_false, this, Sem.run_pure]
 rw [hsz]
 simp only [Result.andThen_ok]
 rw [Std.Legacy.Range.forIn_eq_forIn_range']
 have key : ∀ l : List Nat, (∀ i ∈ l, i < n) → (forIn (m := Sem) l ((none : Option Bool), ()) fun i __s => do
  let __do_lift ← part e (List.map (Value.int k) xs).toArray (i * 1)
  let __do_lift_1 ← part e (List.map (Value.int k) ys).toArray (i * 1)
  let __do_lift ← E e __do_lift __do_lift_1
  if (!__do_lift) = true then pure (ForInStep.done (some false, ())) else pure (ForInStep.yield (none, ()))).run P w = .ok (if (l.all fun i => xs[i]? == ys[i]?) = true then (none, ()) else (some false, ())) w := by
  intro l
  induction l with
  | nil => intro _; simp
  | cons i l ih =>
    intro hl
    have hi := hl i (List.mem_cons_self ..)
    obtain ⟨x, hx'⟩ : ∃ x, xs[i]? = some x := ⟨_, List.getElem?_eq_getElem (by omega)⟩
    obtain ⟨y, hy'⟩ : ∃ y, ys[i]? = some y := ⟨_, List.getElem?_eq_getElem (by omega)⟩
    rw [List.forIn_cons]
    simp only [Sem.run_bind, hpart _ _ _ hx', hpart _ _ _ hy', hinner, Result.andThen_ok]
    by_cases hxy : x = y
    · subst hxy
      simp only [beq_self_eq_true, Bool.not_true, Bool.false_eq_true, if_false, Sem.run_pure, Result.andThen_ok]
      rw [ih fun j hj => hl j (List.mem_cons_of_mem _ hj)]
      simp [hx', hy']
    · have hb : (x == y) = false := by simp [hxy]
      simp only [hb, Bool.not_false, if_true, Sem.run_pure, Result.andThen_ok]
      simp [hx', hy', hxy]
 rw [key _ (fun i hi => by simp [List.mem_range'] at hi; omega)]
 simp only [Result.andThen_ok]
 by_cases hxy : xs = ys
 · subst hxy
   simp
 · have : ¬ ((List.range' 0 n).all fun i => xs[i]? == ys[i]?) = true := by
    intro hall
    apply hxy
    apply List.ext_getElem?
    intro i
    by_cases hi : i < n
    · have := List.all_eq_true.1 hall i (by simp [List.mem_range']; omega)
      simpa using this
    · rw [List.getElem?_eq_none (by omega), List.getElem?_eq_none (by omega)]
   rw [if_neg (fun h => this (by simpa using h))]
   simp [hxy]
theorem run_eql_arr8 {t e : TypeId} {n : Nat} (hu : P.underlying t = some (.array n e)) (he : P.underlying e = some (.int .u8)) (hs : (P.info? e).map (·.size) = some 1) (x y : List UInt8) (hx : x.length = n) (hy : y.length = n) (w : World) :
 (Op.equal t (arr8 x) (arr8 y)).run P w = .ok (decide (x = y)) w := by
 have h := run_equal_ints hu he hs (x.map fun a => (a.toNat : Int)) (y.map fun a => (a.toNat : Int)) (by simpa using hx) (by simpa using hy) w
 have e1 : ∀ z : List UInt8, (z.map fun a => (a.toNat : Int)).map (Value.int .u8) = z.map bv := by intro z; rw [List.map_map]; rfl
 rw [e1, e1] at h
 unfold arr8
 rw [h]
 congr 1
 rw [decide_eq_decide]
 constructor
 · intro hh
   refine List.map_inj_right (f := fun a : UInt8 => (a.toNat : Int)) (fun a b hab => ?_) |>.1 hh
   have hab : (a.toNat : Int) = (b.toNat : Int) := hab
   have : a.toNat = b.toNat := by omega
   exact UInt8.toNat.inj this
 · rintro rfl; rfl
end
end Go.Proofs.YtedmogacklbcmaaGreatDoor
namespace Go.Proofs.YtedmogacklbcmaaGreatDoor
namespace Poly
structure L where
 a0 : Nat
 a1 : Nat
 a2 : Nat
 a3 : Nat
 a4 : Nat
def P : Nat := 1361129467683753853853498429727072845819
def val (a : L) : Nat := a.a0 + a.a1 * 67108864 + a.a2 * 4503599627370496 + a.a3 * 302231454903657293676544 + a.a4 * 20282409603651670423947251286016
def carry (a : L) : L × Nat :=
 let t1 := a.a1 + a.a0 / 67108864
 let t2 := a.a2 + t1 / 67108864
 let t3 := a.a3 + t2 / 67108864
 let t4 := a.a4 + t3 / 67108864
 (⟨a.a0 % 67108864, t1 % 67108864, t2 % 67108864, t3 % 67108864, t4 % 67108864⟩, t4 / 67108864)
theorem carry_val (a : L) : val (carry a).1 + (carry a).2 * 1361129467683753853853498429727072845824 = val a := by
 simp only [carry, val]
 omega
def fold (a : L) : L :=
 let b := (carry a).1
 let t := b.a0 + 5 * (carry a).2
 ⟨t % 67108864, b.a1 + t / 67108864, b.a2, b.a3, b.a4⟩
theorem fold_val (a : L) : val (fold a) + (carry a).2 * P = val a := by
 rw [← carry_val a]
 simp only [fold, val, P]
 omega
theorem fold_mod (a : L) : val (fold a) % P = val a % P := by
 rw [← fold_val a, Nat.add_mul_mod_self_right]
def times (a b : L) : L :=
 ⟨a.a0*b.a0 + 5*(a.a1*b.a4+a.a2*b.a3+a.a3*b.a2+a.a4*b.a1),
  a.a0*b.a1 + a.a1*b.a0 + 5*(a.a2*b.a4+a.a3*b.a3+a.a4*b.a2),
  a.a0*b.a2 + a.a1*b.a1 + a.a2*b.a0 + 5*(a.a3*b.a4+a.a4*b.a3),
  a.a0*b.a3 + a.a1*b.a2 + a.a2*b.a1 + a.a3*b.a0 + 5*(a.a4*b.a4),
  a.a0*b.a4 + a.a1*b.a3 + a.a2*b.a2 + a.a3*b.a1 + a.a4*b.a0⟩
def Fit (a : L) : Prop := a.a0 < 67108864 ∧ a.a1 < 67108864 ∧ a.a2 < 67108864 ∧ a.a3 < 67108864 ∧ a.a4 < 67108864
def Loose (a : L) : Prop := a.a0 < 67108864 ∧ a.a1 < 100663296 ∧ a.a2 < 67108864 ∧ a.a3 < 67108864 ∧ a.a4 < 67108864
theorem Fit.loose {a : L} (h : Fit a) : Loose a := by obtain ⟨h0, h1, h2, h3, h4⟩ := h; exact ⟨h0, by omega, h2, h3, h4⟩
def limbs (n : Nat) : L := ⟨n % 67108864, n / 67108864 % 67108864, n / 4503599627370496 % 67108864, n / 302231454903657293676544 % 67108864, n / 20282409603651670423947251286016⟩
theorem limbs_fit {n : Nat} (h : n < 1361129467683753853853498429727072845824) : Fit (limbs n) := by simp only [Fit, limbs]; omega
def plus (a b : L) : L := ⟨a.a0 + b.a0, a.a1 + b.a1, a.a2 + b.a2, a.a3 + b.a3, a.a4 + b.a4⟩
theorem plus_val (a b : L) : val (plus a b) = val a + val b := by simp only [val, plus]; omega
def next (sum r : L) (n : Nat) : L := fold (times (plus sum (limbs n)) r)
def Sum3 (a : L) : Prop := a.a0 < 201326592 ∧ a.a1 < 201326592 ∧ a.a2 < 201326592 ∧ a.a3 < 201326592 ∧ a.a4 < 201326592
def Wide (a : L) : Prop := a.a0 < 288230376151711744 ∧ a.a1 < 288230376151711744 ∧ a.a2 < 288230376151711744 ∧ a.a3 < 288230376151711744 ∧ a.a4 < 288230376151711744
theorem prod_le {x y : Nat} (hx : x < 201326592) (hy : y < 67108864) : x * y < 13510798882111488 := by
 have := Nat.mul_le_mul (show x ≤ 201326591 by omega) (show y ≤ 67108863 by omega)
 omega
theorem plus_sum3 {a b : L} (ha : Loose a) (hb : Fit b) : Sum3 (plus a b) := by
 obtain ⟨h0, h1, h2, h3, h4⟩ := ha
 obtain ⟨k0, k1, k2, k3, k4⟩ := hb
 simp only [Sum3, plus]
 omega
theorem times_wide {a b : L} (ha : Sum3 a) (hb : Fit b) : Wide (times a b) := by
 obtain ⟨h0, h1, h2, h3, h4⟩ := ha
 obtain ⟨k0, k1, k2, k3, k4⟩ := hb
 have p00 := prod_le h0 k0
 have p01 := prod_le h0 k1
 have p02 := prod_le h0 k2
 have p03 := prod_le h0 k3
 have p04 := prod_le h0 k4
 have p10 := prod_le h1 k0
 have p11 := prod_le h1 k1
 have p12 := prod_le h1 k2
 have p13 := prod_le h1 k3
 have p14 := prod_le h1 k4
 have p20 := prod_le h2 k0
 have p21 := prod_le h2 k1
 have p22 := prod_le h2 k2
 have p23 := prod_le h2 k3
 have p24 := prod_le h2 k4
 have p30 := prod_le h3 k0
 have p31 := prod_le h3 k1
 have p32 := prod_le h3 k2
 have p33 := prod_le h3 k3
 have p34 := prod_le h3 k4
 have p40 := prod_le h4 k0
 have p41 := prod_le h4 k1
 have p42 := prod_le h4 k2
 have p43 := prod_le h4 k3
 have p44 := prod_le h4 k4
 simp only [Wide, times]
 refine ⟨?_, ?_, ?_, ?_, ?_⟩ <;> omega
theorem carry_fit (a : L) : Fit (carry a).1 := by
 simp only [Fit, carry]
 omega
theorem carry_over {a : L} (h : Wide a) : (carry a).2 < 8589934592 := by
 obtain ⟨h0, h1, h2, h3, h4⟩ := h
 simp only [carry]
 omega
theorem fold_loose {a : L} (h : Wide a) : Loose (fold a) := by
 have h1 := carry_fit a
 have h2 := carry_over h
 obtain ⟨b, o⟩ : ∃ x, x = carry a := ⟨_, rfl⟩
 obtain ⟨k0, k1, k2, k3, k4⟩ := h1
 simp only [Loose, fold]
 omega
theorem next_loose {sum r : L} {n : Nat} (hs : Loose sum) (hr : Fit r) (hn : n < 1361129467683753853853498429727072845824) : Loose (next sum r n) :=
 fold_loose (times_wide (plus_sum3 hs (limbs_fit hn)) hr)
theorem fold_fit {a : L} (h : Loose a) : Fit (fold a) := by
 obtain ⟨h0, h1, h2, h3, h4⟩ := h
 have hf := carry_fit a
 have hv := carry_val a
 have hva : val a < 1361129467683753853853498429727072845824 + 33554432 * 67108864 := by
  simp only [val]
  omega
 obtain ⟨b, hb⟩ : ∃ b, (carry a).1 = b := ⟨_, rfl⟩
 obtain ⟨o, ho⟩ : ∃ o, (carry a).2 = o := ⟨_, rfl⟩
 rw [hb] at hf
 rw [hb, ho] at hv
 obtain ⟨k0, k1, k2, k3, k4⟩ := hf
 have e : fold a = ⟨(b.a0 + 5 * o) % 67108864, b.a1 + (b.a0 + 5 * o) / 67108864, b.a2, b.a3, b.a4⟩ := by simp only [fold, hb, ho]
 rw [e]
 simp only [Fit]
 have ho1 : o = 0 ∨ o = 1 := by
  unfold val at hv
  unfold val at hva
  omega
 refine ⟨Nat.mod_lt _ (by decide), ?_, k2, k3, k4⟩
 rcases ho1 with rfl | rfl
 · omega
 · have : b.a1 < 33554433 := by
    rw [← hv] at hva
    unfold val at hva
    omega
   omega
theorem val_lt {a : L} (h : Fit a) : val a < 1361129467683753853853498429727072845824 := by
 obtain ⟨h0, h1, h2, h3, h4⟩ := h
 simp only [val]
 omega
def pl : L := ⟨67108859, 67108863, 67108863, 67108863, 67108863⟩
def minus (a b : L) : L × Nat :=
 let t0 := (a.a0 + 18446744073709551616 - b.a0) % 18446744073709551616
 let o0 := t0 / 9223372036854775808
 let t1 := (a.a1 + 18446744073709551616 - (b.a1 + o0)) % 18446744073709551616
 let o1 := t1 / 9223372036854775808
 let t2 := (a.a2 + 18446744073709551616 - (b.a2 + o1)) % 18446744073709551616
 let o2 := t2 / 9223372036854775808
 let t3 := (a.a3 + 18446744073709551616 - (b.a3 + o2)) % 18446744073709551616
 let o3 := t3 / 9223372036854775808
 let t4 := (a.a4 + 18446744073709551616 - (b.a4 + o3)) % 18446744073709551616
 let o4 := t4 / 9223372036854775808
 (⟨t0 % 67108864, t1 % 67108864, t2 % 67108864, t3 % 67108864, t4 % 67108864⟩, o4)
theorem minus_step (a b o : Nat) (ha : a < 67108864) (hb : b < 67108864) (ho : o ≤ 1) :
 (a + 18446744073709551616 - (b + o)) % 18446744073709551616 % 67108864 + b + o = a + (a + 18446744073709551616 - (b + o)) % 18446744073709551616 / 9223372036854775808 * 67108864 ∧ (a + 18446744073709551616 - (b + o)) % 18446744073709551616 / 9223372036854775808 ≤ 1 := by
 by_cases h : b + o ≤ a
 · have e : (a + 18446744073709551616 - (b + o)) % 18446744073709551616 = a - (b + o) := by omega
   rw [e]
   omega
 · have e : (a + 18446744073709551616 - (b + o)) % 18446744073709551616 = a + 18446744073709551616 - (b + o) := by omega
   rw [e]
   omega
theorem minus_any {a b : L} (ha : Fit a) (hb : Fit b) : val (minus a b).1 + val b = val a + (minus a b).2 * 1361129467683753853853498429727072845824 ∧ (minus a b).2 ≤ 1 ∧ Fit (minus a b).1 := by
 obtain ⟨a0, a1, a2, a3, a4⟩ := a
 obtain ⟨b0, b1, b2, b3, b4⟩ := b
 obtain ⟨h0, h1, h2, h3, h4⟩ := ha
 obtain ⟨k0, k1, k2, k3, k4⟩ := hb
 simp only at h0 h1 h2 h3 h4 k0 k1 k2 k3 k4
 have s0 := minus_step a0 b0 0 h0 k0 (by decide)
 simp only [Nat.add_zero] at s0
 simp only [val, Fit, minus]
 obtain ⟨t0, e0⟩ : ∃ t, (a0 + 18446744073709551616 - b0) % 18446744073709551616 = t := ⟨_, rfl⟩
 rw [e0] at s0 ⊢
 have s1 := minus_step a1 b1 _ h1 k1 s0.2
 obtain ⟨t1, e1⟩ : ∃ t, (a1 + 18446744073709551616 - (b1 + t0 / 9223372036854775808)) % 18446744073709551616 = t := ⟨_, rfl⟩
 rw [e1] at s1 ⊢
 have s2 := minus_step a2 b2 _ h2 k2 s1.2
 obtain ⟨t2, e2⟩ : ∃ t, (a2 + 18446744073709551616 - (b2 + t1 / 9223372036854775808)) % 18446744073709551616 = t := ⟨_, rfl⟩
 rw [e2] at s2 ⊢
 have s3 := minus_step a3 b3 _ h3 k3 s2.2
 obtain ⟨t3, e3⟩ : ∃ t, (a3 + 18446744073709551616 - (b3 + t2 / 9223372036854775808)) % 18446744073709551616 = t := ⟨_, rfl⟩
 rw [e3] at s3 ⊢
 have s4 := minus_step a4 b4 _ h4 k4 s3.2
 obtain ⟨t4, e4⟩ : ∃ t, (a4 + 18446744073709551616 - (b4 + t3 / 9223372036854775808)) % 18446744073709551616 = t := ⟨_, rfl⟩
 rw [e4] at s4 ⊢
 clear e0 e1 e2 e3 e4 h0 h1 h2 h3 h4 k0 k1 k2 k3 k4
 refine ⟨?_, s4.2, Nat.mod_lt _ (by decide), Nat.mod_lt _ (by decide), Nat.mod_lt _ (by decide), Nat.mod_lt _ (by decide), Nat.mod_lt _ (by decide)⟩
 obtain ⟨s0, _⟩ := s0
 obtain ⟨s1, _⟩ := s1
 obtain ⟨s2, _⟩ := s2
 obtain ⟨s3, _⟩ := s3
 obtain ⟨s4, _⟩ := s4
 generalize t0 % 67108864 = d0 at *
 generalize t1 % 67108864 = d1 at *
 generalize t2 % 67108864 = d2 at *
 generalize t3 % 67108864 = d3 at *
 generalize t4 % 67108864 = d4 at *
 generalize t0 / 9223372036854775808 = o0 at *
 generalize t1 / 9223372036854775808 = o1 at *
 generalize t2 / 9223372036854775808 = o2 at *
 generalize t3 / 9223372036854775808 = o3 at *
 generalize t4 / 9223372036854775808 = o4 at *
 omega
theorem pl_val : val pl = P := rfl
theorem pl_fit : Fit pl := by simp only [Fit, pl]; decide
theorem minus_val {a : L} (ha : Fit a) : val (minus a pl).1 + P = val a + (minus a pl).2 * 1361129467683753853853498429727072845824 ∧ (minus a pl).2 ≤ 1 ∧ Fit (minus a pl).1 := by
 have := minus_any ha pl_fit
 rwa [pl_val] at this
def red (sum : L) : L := let s := fold sum; if (minus s pl).2 = 1 then s else (minus s pl).1
theorem red_val {sum : L} (h : Loose sum) : val (red sum) = val sum % P ∧ Fit (red sum) := by
 have hf := fold_fit h
 obtain ⟨m1, m2, m3⟩ := minus_val hf
 have hv := val_lt hf
 rw [← fold_mod]
 have hd := val_lt m3
 simp only [red]
 unfold P at *
 by_cases ho : (minus (fold sum) pl).2 = 1
 · rw [if_pos ho]
   refine ⟨?_, hf⟩
   rw [ho] at m1
   rw [Nat.mod_eq_of_lt (by omega)]
 · rw [if_neg ho]
   refine ⟨?_, m3⟩
   have : (minus (fold sum) pl).2 = 0 := by omega
   rw [this] at m1
   omega
/-! ### Numbers of bytes -/
def le : List UInt8 → Nat
 | [] => 0
 | u :: l => u.toNat + 256 * le l
theorem le_lt (l : List UInt8) : le l < 256 ^ l.length := by
 induction l with
 | nil => decide
 | cons u l ih =>
   have := u.toNat_lt
   rw [le, List.length_cons, Nat.pow_succ]
   omega
def bytes16 (n : Nat) : List UInt8 := (List.range 16).map fun i => UInt8.ofNat (n / 256 ^ i)
theorem bytes16_length (n : Nat) : (bytes16 n).length = 16 := by simp [bytes16]
def bytesN (n : Nat) : Nat → List UInt8
 | 0 => []
 | k + 1 => UInt8.ofNat n :: bytesN (n / 256) k
theorem bytes16_is (n : Nat) : bytes16 n = bytesN n 16 := by
 unfold bytes16 bytesN
 have e : ∀ k, bytesN n k = (List.range k).map fun i => UInt8.ofNat (n / 256 ^ i) := by
  intro k
  induction k generalizing n with
  | zero => rfl
  | succ k ih =>
    rw [bytesN, ih, List.range_succ_eq_map, List.map_cons, List.map_map]
    congr 1
    · simp
    · apply List.map_congr_left
      intro i _
      simp only [Function.comp_apply]
      rw [Nat.div_div_eq_div_mul, Nat.pow_succ, Nat.mul_comm]
 exact (e 16).symm
theorem le_bytesN (k : Nat) : ∀ n, le (bytesN n k) = n % 256 ^ k := by
 induction k with
 | zero => intro n; rw [Nat.pow_zero, Nat.mod_one]; rfl
 | succ k ih =>
   intro n
   have e : 256 ^ (k + 1) = 256 * 256 ^ k := by rw [Nat.pow_succ, Nat.mul_comm]
   rw [bytesN, le, ih, UInt8.toNat_ofNat', e, Nat.mod_mul]
theorem le_bytes16 (n : Nat) : le (bytes16 n) = n % 340282366920938463463374607431768211456 := by
 rw [bytes16_is, le_bytesN]
theorem bytesN_le : ∀ l : List UInt8, bytesN (le l) l.length = l := by
 intro l
 induction l with
 | nil => rfl
 | cons u l ih =>
   have hu := u.toNat_lt
   rw [le, List.length_cons, bytesN]
   rw [show (u.toNat + 256 * le l) / 256 = le l by omega, ih]
   congr 1
   apply UInt8.toNat.inj
   rw [UInt8.toNat_ofNat']
   omega
theorem bytes16_le (l : List UInt8) (h : l.length = 16) : bytes16 (le l) = l := by rw [bytes16_is, ← h]; exact bytesN_le l
theorem bytes16_mod (n : Nat) : bytes16 (n % 340282366920938463463374607431768211456) = bytes16 n := by
 rw [← le_bytes16, bytes16_le _ (bytes16_length n)]
theorem bytes16_inj {m n : Nat} (h : m % 340282366920938463463374607431768211456 = n % 340282366920938463463374607431768211456) : bytes16 m = bytes16 n := by rw [← bytes16_mod m, h, bytes16_mod]
theorem or_add (x y k : Nat) (h : x < 2 ^ k) : x ||| y * 2 ^ k = x + y * 2 ^ k := by
 rw [← Nat.shiftLeft_eq, Nat.or_comm, ← Nat.shiftLeft_add_eq_or_of_lt h, Nat.add_comm]
end Poly
end Go.Proofs.YtedmogacklbcmaaGreatDoor
namespace Go.Proofs.YtedmogacklbcmaaGreatDoor
open Go.RowKit
namespace PolyI
open Poly (L)
def ofL (a : L) : I5 := ⟨a.a0, a.a1, a.a2, a.a3, a.a4⟩
theorem oshr26 (a : Nat) : oshr (a : Int) 26 = ((a / 67108864 : Nat) : Int) := oshr_nat a 26
theorem oshr63 (a : Nat) : oshr (a : Int) 63 = ((a / 9223372036854775808 : Nat) : Int) := oshr_nat a 63
theorem oandlow (a : Nat) (h : a < 18446744073709551616) : oand .u64 (a : Int) low = ((a % 67108864 : Nat) : Int) := by
 rw [oand_u64 _ _ h (by decide), and_low]
theorem plus_is {a b : L} (h : Poly.Sum3 (Poly.plus a b)) : plus (ofL a) (ofL b) = ofL (Poly.plus a b) := by
 obtain ⟨h0, h1, h2, h3, h4⟩ := h
 simp only [Poly.plus] at h0 h1 h2 h3 h4
 simp only [plus, ofL, Poly.plus, add]
 rw [oadd_u64 _ _ (by omega), oadd_u64 _ _ (by omega), oadd_u64 _ _ (by omega), oadd_u64 _ _ (by omega), oadd_u64 _ _ (by omega)]
theorem carry_is {a : L} (h : Poly.Wide a) : carry (ofL a) = ofL (Poly.carry a).1 ∧ over (ofL a) = ((Poly.carry a).2 : Int) := by
 obtain ⟨h0, h1, h2, h3, h4⟩ := h
 have e0 : carryT0 (ofL a) = ((a.a0 : Nat) : Int) := by
  simp only [carryT0, ofL, add]
  rw [oadd_u64 _ _ (by omega), Nat.add_zero]
 have e1 : carryT1 (ofL a) = ((a.a1 + a.a0 / 67108864 : Nat) : Int) := by
  simp only [carryT1, add]
  rw [e0, oshr26]
  simp only [ofL]
  rw [oadd_u64 _ _ (by omega)]
 have e2 : carryT2 (ofL a) = ((a.a2 + (a.a1 + a.a0 / 67108864) / 67108864 : Nat) : Int) := by
  simp only [carryT2, add]
  rw [e1, oshr26]
  simp only [ofL]
  rw [oadd_u64 _ _ (by omega)]
 have e3 : carryT3 (ofL a) = ((a.a3 + (a.a2 + (a.a1 + a.a0 / 67108864) / 67108864) / 67108864 : Nat) : Int) := by
  simp only [carryT3, add]
  rw [e2, oshr26]
  simp only [ofL]
  rw [oadd_u64 _ _ (by omega)]
 have e4 : carryT4 (ofL a) = ((a.a4 + (a.a3 + (a.a2 + (a.a1 + a.a0 / 67108864) / 67108864) / 67108864) / 67108864 : Nat) : Int) := by
  simp only [carryT4, add]
  rw [e3, oshr26]
  simp only [ofL]
  rw [oadd_u64 _ _ (by omega)]
 refine ⟨?_, ?_⟩
 · simp only [carry, and]
   rw [e0, e1, e2, e3, e4, oandlow _ (by omega), oandlow _ (by omega), oandlow _ (by omega), oandlow _ (by omega), oandlow _ (by omega)]
   rfl
 · simp only [over]
   rw [e4, oshr26]
   rfl
theorem fold_is {a : L} (h : Poly.Wide a) : fold (ofL a) = ofL (Poly.fold a) := by
 obtain ⟨c1, c2⟩ := carry_is h
 have hf := Poly.carry_fit a
 have ho := Poly.carry_over h
 have et : foldT (ofL a) = (((Poly.carry a).1.a0 + 5 * (Poly.carry a).2 : Nat) : Int) := by
  simp only [foldT, add, mul]
  rw [c1, c2, omul_u64 _ _ (by omega)]
  simp only [ofL]
  obtain ⟨f0, _⟩ := hf
  rw [oadd_u64 _ _ (by omega)]
 simp only [fold, and, add]
 obtain ⟨f0, f1, _⟩ := hf
 rw [et, c1, oandlow _ (by omega), oshr26]
 simp only [ofL]
 rw [oadd_u64 _ _ (by omega)]
 rfl
theorem omul_prod {x y : Nat} (hx : x < 201326592) (hy : y < 67108864) : omul .u64 (x : Int) (y : Int) = ((x * y : Nat) : Int) := omul_u64 _ _ (by have := Poly.prod_le hx hy; omega)
theorem times_is {a b : L} (ha : Poly.Sum3 a) (hb : Poly.Fit b) : times (ofL a) (ofL b) = ofL (Poly.times a b) := by
 obtain ⟨h0, h1, h2, h3, h4⟩ := ha
 obtain ⟨k0, k1, k2, k3, k4⟩ := hb
 have p00 := Poly.prod_le h0 k0
 have p01 := Poly.prod_le h0 k1
 have p02 := Poly.prod_le h0 k2
 have p03 := Poly.prod_le h0 k3
 have p04 := Poly.prod_le h0 k4
 have p10 := Poly.prod_le h1 k0
 have p11 := Poly.prod_le h1 k1
 have p12 := Poly.prod_le h1 k2
 have p13 := Poly.prod_le h1 k3
 have p14 := Poly.prod_le h1 k4
 have p20 := Poly.prod_le h2 k0
 have p21 := Poly.prod_le h2 k1
 have p22 := Poly.prod_le h2 k2
 have p23 := Poly.prod_le h2 k3
 have p24 := Poly.prod_le h2 k4
 have p30 := Poly.prod_le h3 k0
 have p31 := Poly.prod_le h3 k1
 have p32 := Poly.prod_le h3 k2
 have p33 := Poly.prod_le h3 k3
 have p34 := Poly.prod_le h3 k4
 have p40 := Poly.prod_le h4 k0
 have p41 := Poly.prod_le h4 k1
 have p42 := Poly.prod_le h4 k2
 have p43 := Poly.prod_le h4 k3
 have p44 := Poly.prod_le h4 k4
 simp only [times, ofL, add, mul, Poly.times]
 simp only [omul_prod h0 k0, omul_prod h0 k1, omul_prod h0 k2, omul_prod h0 k3, omul_prod h0 k4, omul_prod h1 k0, omul_prod h1 k1, omul_prod h1 k2, omul_prod h1 k3, omul_prod h1 k4, omul_prod h2 k0, omul_prod h2 k1, omul_prod h2 k2, omul_prod h2 k3, omul_prod h2 k4,
  omul_prod h3 k0, omul_prod h3 k1, omul_prod h3 k2, omul_prod h3 k3, omul_prod h3 k4, omul_prod h4 k0, omul_prod h4 k1, omul_prod h4 k2, omul_prod h4 k3, omul_prod h4 k4]
 generalize a.a0 * b.a0 = x00 at *
 generalize a.a0 * b.a1 = x01 at *
 generalize a.a0 * b.a2 = x02 at *
 generalize a.a0 * b.a3 = x03 at *
 generalize a.a0 * b.a4 = x04 at *
 generalize a.a1 * b.a0 = x10 at *
 generalize a.a1 * b.a1 = x11 at *
 generalize a.a1 * b.a2 = x12 at *
 generalize a.a1 * b.a3 = x13 at *
 generalize a.a1 * b.a4 = x14 at *
 generalize a.a2 * b.a0 = x20 at *
 generalize a.a2 * b.a1 = x21 at *
 generalize a.a2 * b.a2 = x22 at *
 generalize a.a2 * b.a3 = x23 at *
 generalize a.a2 * b.a4 = x24 at *
 generalize a.a3 * b.a0 = x30 at *
 generalize a.a3 * b.a1 = x31 at *
 generalize a.a3 * b.a2 = x32 at *
 generalize a.a3 * b.a3 = x33 at *
 generalize a.a3 * b.a4 = x34 at *
 generalize a.a4 * b.a0 = x40 at *
 generalize a.a4 * b.a1 = x41 at *
 generalize a.a4 * b.a2 = x42 at *
 generalize a.a4 * b.a3 = x43 at *
 generalize a.a4 * b.a4 = x44 at *
 clear h0 h1 h2 h3 h4 k0 k1 k2 k3 k4
 simp (disch := omega) only [oadd_u64, omul_u64]
theorem neg_wrap0 : IntKind.u64.wrap (((0 : Nat) : Int) - ((0 : Nat) : Int)) = ((0 : Nat) : Int) := by decide
theorem neg_wrap1 : IntKind.u64.wrap (((0 : Nat) : Int) - ((1 : Nat) : Int)) = ((18446744073709551615 : Nat) : Int) := by decide
theorem and_ones (a : Nat) (h : a < 18446744073709551616) : a &&& 18446744073709551615 = a := by
 have := Nat.and_two_pow_sub_one_eq_mod a 64
 rw [show (2 ^ 64 - 1 : Nat) = 18446744073709551615 from rfl] at this
 rw [this]
 exact Nat.mod_eq_of_lt h
theorem minus_is {s : L} (h : Poly.Fit s) : and (minusT0 (ofL s)) low = ((Poly.minus s Poly.pl).1.a0 : Int) ∧ and (minusT1 (ofL s)) low = ((Poly.minus s Poly.pl).1.a1 : Int) ∧ and (minusT2 (ofL s)) low = ((Poly.minus s Poly.pl).1.a2 : Int) ∧
 and (minusT3 (ofL s)) low = ((Poly.minus s Poly.pl).1.a3 : Int) ∧ and (minusT4 (ofL s)) low = ((Poly.minus s Poly.pl).1.a4 : Int) ∧ borrow (ofL s) = ((Poly.minus s Poly.pl).2 : Int) := by
 obtain ⟨h0, h1, h2, h3, h4⟩ := h
 obtain ⟨a0, a1, a2, a3, a4⟩ := s
 simp only at h0 h1 h2 h3 h4
 have step : ∀ a p o : Nat, a < 67108864 → p < 67108864 → o < 2 → osub .u64 (a : Int) (oadd .u64 (p : Int) (o : Int)) = (((a + 18446744073709551616 - (p + o)) % 18446744073709551616 : Nat) : Int) := by
  intro a p o ha hp ho
  rw [oadd_u64 _ _ (by omega), osub_u64 _ _ (by omega) (by omega)]
 obtain ⟨t0, e0⟩ : ∃ t, (a0 + 18446744073709551616 - 67108859) % 18446744073709551616 = t := ⟨_, rfl⟩
 have b0 : t0 < 18446744073709551616 := by rw [← e0]; exact Nat.mod_lt _ (by decide)
 have m0 : minusT0 (ofL ⟨a0, a1, a2, a3, a4⟩) = (t0 : Int) := by
  simp only [minusT0, ofL, sub, add]
  rw [step _ _ _ h0 (by decide) (by decide), Nat.add_zero, e0]
 obtain ⟨t1, e1⟩ : ∃ t, (a1 + 18446744073709551616 - (67108863 + t0 / 9223372036854775808)) % 18446744073709551616 = t := ⟨_, rfl⟩
 have b1 : t1 < 18446744073709551616 := by rw [← e1]; exact Nat.mod_lt _ (by decide)
 have m1 : minusT1 (ofL ⟨a0, a1, a2, a3, a4⟩) = (t1 : Int) := by
  simp only [minusT1, sub, add]
  rw [m0, oshr63]
  simp only [ofL]
  rw [step _ _ _ h1 (by decide) (by omega), e1]
 obtain ⟨t2, e2⟩ : ∃ t, (a2 + 18446744073709551616 - (67108863 + t1 / 9223372036854775808)) % 18446744073709551616 = t := ⟨_, rfl⟩
 have b2 : t2 < 18446744073709551616 := by rw [← e2]; exact Nat.mod_lt _ (by decide)
 have m2 : minusT2 (ofL ⟨a0, a1, a2, a3, a4⟩) = (t2 : Int) := by
  simp only [minusT2, sub, add]
  rw [m1, oshr63]
  simp only [ofL]
  rw [step _ _ _ h2 (by decide) (by omega), e2]
 obtain ⟨t3, e3⟩ : ∃ t, (a3 + 18446744073709551616 - (67108863 + t2 / 9223372036854775808)) % 18446744073709551616 = t := ⟨_, rfl⟩
 have b3 : t3 < 18446744073709551616 := by rw [← e3]; exact Nat.mod_lt _ (by decide)
 have m3 : minusT3 (ofL ⟨a0, a1, a2, a3, a4⟩) = (t3 : Int) := by
  simp only [minusT3, sub, add]
  rw [m2, oshr63]
  simp only [ofL]
  rw [step _ _ _ h3 (by decide) (by omega), e3]
 obtain ⟨t4, e4⟩ : ∃ t, (a4 + 18446744073709551616 - (67108863 + t3 / 9223372036854775808)) % 18446744073709551616 = t := ⟨_, rfl⟩
 have b4 : t4 < 18446744073709551616 := by rw [← e4]; exact Nat.mod_lt _ (by decide)
 have m4 : minusT4 (ofL ⟨a0, a1, a2, a3, a4⟩) = (t4 : Int) := by
  simp only [minusT4, sub, add]
  rw [m3, oshr63]
  simp only [ofL]
  rw [step _ _ _ h4 (by decide) (by omega), e4]
 have hm : Poly.minus ⟨a0, a1, a2, a3, a4⟩ Poly.pl = (⟨t0 % 67108864, t1 % 67108864, t2 % 67108864, t3 % 67108864, t4 % 67108864⟩, t4 / 9223372036854775808) := by
  rw [← e4, ← e3, ← e2, ← e1, ← e0]
  rfl
 rw [hm]
 simp only [borrow, and]
 rw [m0, m1, m2, m3, m4, oandlow _ b0, oandlow _ b1, oandlow _ b2, oandlow _ b3, oandlow _ b4, oshr63]
 exact ⟨rfl, rfl, rfl, rfl, rfl, rfl⟩
theorem reduce_is {a : L} (h : Poly.Loose a) : reduce (ofL a) = ofL (Poly.red a) := by
 have hw : Poly.Wide a := by obtain ⟨h0, h1, h2, h3, h4⟩ := h; exact ⟨by omega, by omega, by omega, by omega, by omega⟩
 have hs := Poly.fold_fit h
 simp only [reduce]
 rw [fold_is hw]
 obtain ⟨m1, m2, m3⟩ := Poly.minus_val hs
 obtain ⟨i0, i1, i2, i3, i4, i5⟩ := minus_is hs
 obtain ⟨s0, s1, s2, s3, s4⟩ := hs
 obtain ⟨d0, d1, d2, d3, d4⟩ := m3
 have keepv : keep (ofL (Poly.fold a)) = IntKind.u64.wrap (((0 : Nat) : Int) - ((Poly.minus (Poly.fold a) Poly.pl).2 : Int)) := by rw [keep, i5]
 simp only [Poly.red]
 rw [i0, i1, i2, i3, i4, keepv]
 by_cases ho : (Poly.minus (Poly.fold a) Poly.pl).2 = 1
 · rw [if_pos ho, ho, neg_wrap1]
   simp only [ofL, or, and]
   have one : ∀ x y : Nat, x < 67108864 → y < 67108864 → oor .u64 (oand .u64 (x : Int) ((18446744073709551615 : Nat) : Int)) (oandn .u64 (y : Int) ((18446744073709551615 : Nat) : Int)) = (x : Int) := by
    intro x y hx hy
    rw [oand_u64 _ _ (by omega) (by decide), oandn_u64 _ _ (by omega) (by decide), and_ones _ (by omega), Nat.sub_self, Nat.and_zero, oor_u64 _ _ (by omega) (by decide), Nat.or_zero]
   rw [one _ _ s0 d0, one _ _ s1 d1, one _ _ s2 d2, one _ _ s3 d3, one _ _ s4 d4]
 · have h0 : (Poly.minus (Poly.fold a) Poly.pl).2 = 0 := by omega
   rw [if_neg ho, h0, neg_wrap0]
   simp only [ofL, or, and]
   have one : ∀ x y : Nat, x < 67108864 → y < 67108864 → oor .u64 (oand .u64 (x : Int) ((0 : Nat) : Int)) (oandn .u64 (y : Int) ((0 : Nat) : Int)) = (y : Int) := by
    intro x y hx hy
    rw [oand_u64 _ _ (by omega) (by decide), oandn_u64 _ _ (by omega) (by decide), Nat.and_zero, Nat.sub_zero, and_ones _ (by omega), oor_u64 _ _ (by decide) (by omega), Nat.zero_or]
   rw [one _ _ s0 d0, one _ _ s1 d1, one _ _ s2 d2, one _ _ s3 d3, one _ _ s4 d4]
theorem lowX_is {a : L} (h : Poly.Fit a) : lowX (ofL a) = ((Poly.val a % 18446744073709551616 : Nat) : Int) := by
 obtain ⟨h0, h1, h2, h3, h4⟩ := h
 simp only [lowX, or, ofL]
 rw [oshl_u64, oshl_u64]
 have e1 : a.a1 * 2 ^ 26 % 18446744073709551616 = a.a1 * 2 ^ 26 := Nat.mod_eq_of_lt (by omega)
 have e2 : a.a2 * 2 ^ 52 % 18446744073709551616 = (a.a2 % 4096) * 2 ^ 52 := Nat.mul_mod_mul_right (2 ^ 52) a.a2 4096
 rw [e1, e2, oor_u64 _ _ (by omega) (by omega), Poly.or_add _ _ 26 (by omega), oor_u64 _ _ (by omega) (by omega), Poly.or_add _ _ 52 (by omega)]
 congr 1
 simp only [Poly.val]
 omega
theorem highX_is {a : L} (h : Poly.Fit a) : highX (ofL a) = ((Poly.val a / 18446744073709551616 % 18446744073709551616 : Nat) : Int) := by
 obtain ⟨h0, h1, h2, h3, h4⟩ := h
 simp only [highX, or, ofL]
 rw [oshl_u64, oshl_u64, oshr_nat]
 have e1 : a.a3 * 2 ^ 14 % 18446744073709551616 = a.a3 * 2 ^ 14 := Nat.mod_eq_of_lt (by omega)
 have e2 : a.a4 * 2 ^ 40 % 18446744073709551616 = (a.a4 % 16777216) * 2 ^ 40 := Nat.mul_mod_mul_right (2 ^ 40) a.a4 16777216
 rw [e1, e2, oor_u64 _ _ (by omega) (by omega), Poly.or_add _ _ 14 (by omega), oor_u64 _ _ (by omega) (by omega), Poly.or_add _ _ 40 (by omega)]
 congr 1
 simp only [Poly.val]
 omega
theorem byte_is (x n : Nat) : u8 (byte (x : Int) n) = bv (UInt8.ofNat (x / 2 ^ n)) := by
 unfold byte bv u8
 rw [oshr_nat, UInt8.toNat_ofNat']
 congr 1
theorem bytes_is {a : L} (h : Poly.Fit a) : bytes (ofL a) = arr8 (Poly.bytes16 (Poly.val a)) := by
 unfold bytes
 rw [lowX_is h, highX_is h]
 simp only [byte_is]
 have hb : ∀ x y : Nat, x % 256 = y % 256 → bv (UInt8.ofNat x) = bv (UInt8.ofNat y) := by
  intro x y hxy
  unfold bv
  rw [UInt8.toNat_ofNat', UInt8.toNat_ofNat', show 2 ^ 8 = 256 from rfl, hxy]
 have hv : Poly.bytes16 (Poly.val a) = [UInt8.ofNat (Poly.val a / 256 ^ 0), UInt8.ofNat (Poly.val a / 256 ^ 1), UInt8.ofNat (Poly.val a / 256 ^ 2), UInt8.ofNat (Poly.val a / 256 ^ 3), UInt8.ofNat (Poly.val a / 256 ^ 4), UInt8.ofNat (Poly.val a / 256 ^ 5),
  UInt8.ofNat (Poly.val a / 256 ^ 6), UInt8.ofNat (Poly.val a / 256 ^ 7), UInt8.ofNat (Poly.val a / 256 ^ 8), UInt8.ofNat (Poly.val a / 256 ^ 9), UInt8.ofNat (Poly.val a / 256 ^ 10), UInt8.ofNat (Poly.val a / 256 ^ 11), UInt8.ofNat (Poly.val a / 256 ^ 12),
  UInt8.ofNat (Poly.val a / 256 ^ 13), UInt8.ofNat (Poly.val a / 256 ^ 14), UInt8.ofNat (Poly.val a / 256 ^ 15)] := rfl
 rw [hv]
 unfold arr8
 simp only [List.map_cons, List.map_nil]
 generalize Poly.val a = V
 rw [hb (V % 18446744073709551616 / 2 ^ 0) (V / 256 ^ 0) (by omega), hb (V % 18446744073709551616 / 2 ^ 8) (V / 256 ^ 1) (by omega), hb (V % 18446744073709551616 / 2 ^ 16) (V / 256 ^ 2) (by omega), hb (V % 18446744073709551616 / 2 ^ 24) (V / 256 ^ 3) (by omega),
  hb (V % 18446744073709551616 / 2 ^ 32) (V / 256 ^ 4) (by omega), hb (V % 18446744073709551616 / 2 ^ 40) (V / 256 ^ 5) (by omega), hb (V % 18446744073709551616 / 2 ^ 48) (V / 256 ^ 6) (by omega), hb (V % 18446744073709551616 / 2 ^ 56) (V / 256 ^ 7) (by omega),
  hb (V / 18446744073709551616 % 18446744073709551616 / 2 ^ 0) (V / 256 ^ 8) (by omega), hb (V / 18446744073709551616 % 18446744073709551616 / 2 ^ 8) (V / 256 ^ 9) (by omega), hb (V / 18446744073709551616 % 18446744073709551616 / 2 ^ 16) (V / 256 ^ 10) (by omega),
  hb (V / 18446744073709551616 % 18446744073709551616 / 2 ^ 24) (V / 256 ^ 11) (by omega), hb (V / 18446744073709551616 % 18446744073709551616 / 2 ^ 32) (V / 256 ^ 12) (by omega), hb (V / 18446744073709551616 % 18446744073709551616 / 2 ^ 40) (V / 256 ^ 13) (by omega),
  hb (V / 18446744073709551616 % 18446744073709551616 / 2 ^ 48) (V / 256 ^ 14) (by omega), hb (V / 18446744073709551616 % 18446744073709551616 / 2 ^ 56) (V / 256 ^ 15) (by omega)]
/-! ### The number of bytes, with one above -/
def q (l : List UInt8) (above : Nat) (i : Nat) : Nat := ((l.map (·.toNat)) ++ [above]).getD i 0
theorem q_lt (l : List UInt8) (above : Nat) (ha : above < 256) (i : Nat) : q l above i < 256 := by
 unfold q
 rw [List.getD_eq_getElem?_getD]
 cases h : ((l.map (·.toNat)) ++ [above])[i]? with
 | none => simp
 | some x =>
   have hm := List.mem_of_getElem? h
   rw [List.mem_append, List.mem_map] at hm
   rcases hm with ⟨u, _, rfl⟩ | hm
   · exact u.toNat_lt
   · simp at hm; simp; omega
def nums (l : List UInt8) : List Int := l.map fun u => (u.toNat : Int)
theorem at_is (l : List UInt8) (above i : Nat) : at_ (nums l) (above : Int) i = (q l above i : Int) := by
 unfold at_ q nums
 rw [List.getD_eq_getElem?_getD, List.getD_eq_getElem?_getD]
 have e : (l.map fun u => (u.toNat : Int)) ++ [(above : Int)] = ((l.map (·.toNat)) ++ [above]).map fun (n : Nat) => (n : Int) := by simp
 rw [e, List.getElem?_map]
 cases ((l.map (·.toNat)) ++ [above])[i]? <;> rfl
theorem part_is (l : List UInt8) (above : Nat) (ha : above < 256) (i k : Nat) (hk : k < 8) : part (nums l) (above : Int) i k = ((q l above (i + k) * 2 ^ (8 * k) : Nat) : Int) := by
 have h := q_lt l above ha (i + k)
 unfold part
 rw [at_is, wrap_u64 _ (by omega), oshl_u64]
 congr 1
 apply Nat.mod_eq_of_lt
 obtain rfl | rfl | rfl | rfl | rfl | rfl | rfl | rfl : k = 0 ∨ k = 1 ∨ k = 2 ∨ k = 3 ∨ k = 4 ∨ k = 5 ∨ k = 6 ∨ k = 7 := by omega
 all_goals omega
theorem word_is (l : List UInt8) (above : Nat) (ha : above < 256) (i : Nat) : word (nums l) (above : Int) i = ((q l above (i + 0) + q l above (i + 1) * 256 + q l above (i + 2) * 65536 + q l above (i + 3) * 16777216 + q l above (i + 4) * 4294967296 + q l above (i + 5) * 1099511627776 + q l above (i + 6) * 281474976710656 + q l above (i + 7) * 72057594037927936 : Nat) : Int) := by
 have h0 := q_lt l above ha (i + 0)
 have h1 := q_lt l above ha (i + 1)
 have h2 := q_lt l above ha (i + 2)
 have h3 := q_lt l above ha (i + 3)
 have h4 := q_lt l above ha (i + 4)
 have h5 := q_lt l above ha (i + 5)
 have h6 := q_lt l above ha (i + 6)
 have h7 := q_lt l above ha (i + 7)
 unfold word or
 rw [part_is l above ha i 0 (by decide), part_is l above ha i 1 (by decide), part_is l above ha i 2 (by decide), part_is l above ha i 3 (by decide), part_is l above ha i 4 (by decide), part_is l above ha i 5 (by decide), part_is l above ha i 6 (by decide), part_is l above ha i 7 (by decide)]
 generalize q l above (i + 0) = q0 at *
 generalize q l above (i + 1) = q1 at *
 generalize q l above (i + 2) = q2 at *
 generalize q l above (i + 3) = q3 at *
 generalize q l above (i + 4) = q4 at *
 generalize q l above (i + 5) = q5 at *
 generalize q l above (i + 6) = q6 at *
 generalize q l above (i + 7) = q7 at *
 rw [oor_u64 _ _ (by decide) (by omega), Poly.or_add _ _ (8 * 0) (by decide), oor_u64 _ _ (by omega) (by omega), Poly.or_add _ _ (8 * 1) (by omega), oor_u64 _ _ (by omega) (by omega), Poly.or_add _ _ (8 * 2) (by omega), oor_u64 _ _ (by omega) (by omega), Poly.or_add _ _ (8 * 3) (by omega),
  oor_u64 _ _ (by omega) (by omega), Poly.or_add _ _ (8 * 4) (by omega), oor_u64 _ _ (by omega) (by omega), Poly.or_add _ _ (8 * 5) (by omega), oor_u64 _ _ (by omega) (by omega), Poly.or_add _ _ (8 * 6) (by omega), oor_u64 _ _ (by omega) (by omega), Poly.or_add _ _ (8 * 7) (by omega)]
 congr 1
 omega
def leN : List Nat → Nat
 | [] => 0
 | x :: l => x + 256 * leN l
theorem leN_step (l : List Nat) : leN l = l.getD 0 0 + 256 * leN l.tail := by cases l <;> rfl
theorem leN_sum (l : List Nat) (h : l.length ≤ 17) : leN l = l.getD 0 0 + l.getD 1 0 * 256 + l.getD 2 0 * 65536 + l.getD 3 0 * 16777216 + l.getD 4 0 * 4294967296 + l.getD 5 0 * 1099511627776 + l.getD 6 0 * 281474976710656 + l.getD 7 0 * 72057594037927936 +
 (l.getD 8 0 + l.getD 9 0 * 256 + l.getD 10 0 * 65536 + l.getD 11 0 * 16777216 + l.getD 12 0 * 4294967296 + l.getD 13 0 * 1099511627776 + l.getD 14 0 * 281474976710656 + l.getD 15 0 * 72057594037927936) * 18446744073709551616 + l.getD 16 0 * 340282366920938463463374607431768211456 := by
 have tl : ∀ (k : Nat) (l : List Nat) (m : Nat), (l.drop k).getD m 0 = l.getD (k + m) 0 := by
  intro k l m
  rw [List.getD_eq_getElem?_getD, List.getD_eq_getElem?_getD, List.getElem?_drop]
 have st : ∀ k, leN (l.drop k) = l.getD k 0 + 256 * leN (l.drop (k + 1)) := by
  intro k
  rw [leN_step, tl, Nat.add_zero, List.tail_drop]
 have e : l.drop 17 = [] := List.drop_eq_nil_of_le h
 have s0 := st 0
 rw [List.drop_zero] at s0
 have s16 := st 16
 rw [show 16 + 1 = 17 from rfl, e] at s16
 have s1 := st 1
 have s2 := st 2
 have s3 := st 3
 have s4 := st 4
 have s5 := st 5
 have s6 := st 6
 have s7 := st 7
 have s8 := st 8
 have s9 := st 9
 have s10 := st 10
 have s11 := st 11
 have s12 := st 12
 have s13 := st 13
 have s14 := st 14
 have s15 := st 15
 simp only [Nat.reduceAdd, leN] at s0 s1 s2 s3 s4 s5 s6 s7 s8 s9 s10 s11 s12 s13 s14 s15 s16
 clear st tl e h
 generalize leN (List.drop 1 l) = L1 at *
 generalize leN (List.drop 2 l) = L2 at *
 generalize leN (List.drop 3 l) = L3 at *
 generalize leN (List.drop 4 l) = L4 at *
 generalize leN (List.drop 5 l) = L5 at *
 generalize leN (List.drop 6 l) = L6 at *
 generalize leN (List.drop 7 l) = L7 at *
 generalize leN (List.drop 8 l) = L8 at *
 generalize leN (List.drop 9 l) = L9 at *
 generalize leN (List.drop 10 l) = L10 at *
 generalize leN (List.drop 11 l) = L11 at *
 generalize leN (List.drop 12 l) = L12 at *
 generalize leN (List.drop 13 l) = L13 at *
 generalize leN (List.drop 14 l) = L14 at *
 generalize leN (List.drop 15 l) = L15 at *
 generalize leN (List.drop 16 l) = L16 at *
 generalize leN l = L0 at *
 generalize l.getD 0 0 = g0 at *
 generalize l.getD 1 0 = g1 at *
 generalize l.getD 2 0 = g2 at *
 generalize l.getD 3 0 = g3 at *
 generalize l.getD 4 0 = g4 at *
 generalize l.getD 5 0 = g5 at *
 generalize l.getD 6 0 = g6 at *
 generalize l.getD 7 0 = g7 at *
 generalize l.getD 8 0 = g8 at *
 generalize l.getD 9 0 = g9 at *
 generalize l.getD 10 0 = g10 at *
 generalize l.getD 11 0 = g11 at *
 generalize l.getD 12 0 = g12 at *
 generalize l.getD 13 0 = g13 at *
 generalize l.getD 14 0 = g14 at *
 generalize l.getD 15 0 = g15 at *
 generalize l.getD 16 0 = g16 at *
 omega
theorem leN_bytes (l : List UInt8) (above : Nat) : leN ((l.map (·.toNat)) ++ [above]) = Poly.le l + above * 256 ^ l.length := by
 induction l with
 | nil => simp [leN, Poly.le]
 | cons u l ih =>
   rw [List.map_cons, List.cons_append, leN, ih, Poly.le, List.length_cons, Nat.pow_succ, Nat.mul_add, Nat.add_assoc, Nat.mul_comm 256 (above * _), Nat.mul_assoc]
theorem number_is (l : List UInt8) (above : Nat) (ha : above < 256) (hl : l.length ≤ 16) : number (nums l) (above : Int) = ofL (Poly.limbs (Poly.le l + above * 256 ^ l.length)) := by
 have hs := leN_sum ((l.map (·.toNat)) ++ [above]) (by simp; omega)
 rw [leN_bytes] at hs
 unfold number
 rw [word_is l above ha 0, word_is l above ha 8, at_is]
 have hq : ∀ i, ((l.map (·.toNat)) ++ [above]).getD i 0 = q l above i := fun _ => rfl
 simp only [hq] at hs
 have b := q_lt l above ha
 simp only [Nat.zero_add, Nat.reduceAdd]
 obtain ⟨X, hX⟩ : ∃ X, q l above 0 + q l above 1 * 256 + q l above 2 * 65536 + q l above 3 * 16777216 + q l above 4 * 4294967296 + q l above 5 * 1099511627776 + q l above 6 * 281474976710656 + q l above 7 * 72057594037927936 = X := ⟨_, rfl⟩
 obtain ⟨Y, hY⟩ : ∃ Y, q l above 8 + q l above 9 * 256 + q l above 10 * 65536 + q l above 11 * 16777216 + q l above 12 * 4294967296 + q l above 13 * 1099511627776 + q l above 14 * 281474976710656 + q l above 15 * 72057594037927936 = Y := ⟨_, rfl⟩
 have hXl : X < 18446744073709551616 := by have := b 0; have := b 1; have := b 2; have := b 3; have := b 4; have := b 5; have := b 6; have := b 7; omega
 have hYl : Y < 18446744073709551616 := by have := b 8; have := b 9; have := b 10; have := b 11; have := b 12; have := b 13; have := b 14; have := b 15; omega
 have hZl := b 16
 rw [hX, hY] at hs
 rw [hX, hY, hs]
 clear hX hY hs b hq
 generalize q l above 16 = Z at *
 have l1 : X / 2 ^ 52 < 2 ^ 12 := by omega
 have l2 : Y / 2 ^ 40 < 2 ^ 24 := by omega
 have l3 : Y % 4503599627370496 * 2 ^ 12 < 18446744073709551616 := by omega
 have l4 : Z * 2 ^ 24 < 18446744073709551616 := Nat.lt_trans ((Nat.mul_lt_mul_right (by decide)).2 hZl) (by decide +kernel)
 have l5 : X / 2 ^ 26 < 18446744073709551616 := by omega
 have l6 : X / 2 ^ 52 + Y % 4503599627370496 * 2 ^ 12 < 18446744073709551616 := by omega
 have l7 : Y / 2 ^ 14 < 18446744073709551616 := by omega
 have l8 : Z < 18446744073709551616 := by omega
 have l9 : X / 2 ^ 52 < 18446744073709551616 := by omega
 have l10 : Y / 2 ^ 40 < 18446744073709551616 := by omega
 have e1 : ∀ Y : Nat, Y * 2 ^ 12 % 18446744073709551616 = (Y % 4503599627370496) * 2 ^ 12 := fun Y => by omega
 have e2 : Z * 2 ^ 24 % 18446744073709551616 = Z * 2 ^ 24 := Nat.mod_eq_of_lt l4
 simp only [and, or]
 rw [oshl_u64, oshr_nat, oshr_nat, oshr_nat, oshr_nat, wrap_u64 _ l8, oshl_u64, e1, e2, oor_u64 _ _ l9 l3, Poly.or_add _ _ 12 l1, oor_u64 _ _ l10 l4, Poly.or_add _ _ 24 l2, oandlow _ hXl, oandlow _ l5, oandlow _ l6, oandlow _ l7]
 clear e1 e2 l1 l2 l3 l4 l5 l6 l7 l8 l9 l10
 unfold ofL Poly.limbs
 simp only [I5.mk.injEq]
 refine ⟨?_, ?_, ?_, ?_, ?_⟩ <;> (congr 1; omega)
theorem blk_lt (l : List UInt8) (hl : l.length ≤ 16) : Poly.le l + 256 ^ l.length < 1361129467683753853853498429727072845824 := by
 have h1 := Poly.le_lt l
 have h2 : 256 ^ l.length ≤ 256 ^ 16 := Nat.pow_le_pow_right (by decide) hl
 have e : (256 : Nat) ^ 16 = 340282366920938463463374607431768211456 := by decide
 omega
theorem next_is {s r : L} (hs : Poly.Loose s) (hr : Poly.Fit r) (l : List UInt8) (hl : l.length ≤ 16) : next (ofL s) (ofL r) (nums l) = ofL (Poly.next s r (Poly.le l + 256 ^ l.length)) := by
 have hn := blk_lt l hl
 have hf := Poly.limbs_fit hn
 have h3 := Poly.plus_sum3 hs hf
 unfold next
 rw [show ((1 : Nat) : Int) = ((1 : Nat) : Int) from rfl, number_is l 1 (by decide) hl, Nat.one_mul, plus_is h3, times_is h3 hr, fold_is (Poly.times_wide h3 hr)]
 rfl
end PolyI
end Go.Proofs.YtedmogacklbcmaaGreatDoor
