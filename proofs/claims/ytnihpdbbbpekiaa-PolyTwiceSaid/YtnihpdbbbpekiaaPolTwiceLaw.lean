/- For an r of 2 the tag of one block is twice the block with its 1, plus s: 'drawbridgelaw03.PolyTwice', for every argument. -/
import Derived.Test.YtnihpdbbbpekiaaPolAddPure
import Derived.Test.YtnihpdbbbpekiaaPolLess
import Derived.Test.YtnihpdbbbpekiaaEqKit
import Derived.Test.YtnihpdbbbpekiaaKit
import Derived.Test.YtnihpdbbbpekiaaLaw
namespace Go.Proofs.Ytnihpdbbbpekiaa.polyTwice
open Go.ChangeShapes Go.WideShapes Go.ChangeAt Go.RowKit
open Pol (own mixed laid tagK lessB key2 xOf)
theorem map_splice {α β : Type} (f : α → β) (l p : List α) (k : Nat) : (splice l k p).map f = splice (l.map f) k (p.map f) := by
  unfold splice
  simp
theorem splice_hi {key s : List UInt8} (h : key.length = 32) (hs : s.length = 16) : splice key 16 s = key.take 16 ++ s := by
  unfold splice
  rw [List.drop_of_length_le (by omega), List.append_nil]
theorem splice_lo {key z : List UInt8} (hz : z.length = 16) : splice key 0 z = z ++ key.drop 16 := by
  unfold splice
  rw [hz, List.take_zero, List.nil_append]
theorem splice_all {z p : List UInt8} (hz : z.length = 16) (hp : p.length = 16) : splice z 0 p = p := by
  rw [splice_lo hp, List.drop_of_length_le (by omega), List.append_nil]
theorem row_keep {w w1 : World} {g k : Nat} {t : TypeId} {cs : List Value} (h : Row w k cs t) (hk : Ev.Keep ⟨w, fun k => k = g⟩ w1) (hne : k ≠ g) : Row w1 k cs t := by
  have hlt := h.lt
  refine (hk.block k ?_).trans h
  rintro (e | e)
  · have e' : w.heap.size ≤ k := e
    omega
  · exact hne e
theorem row_bs_at {w : World} {k off n c : Nat} {t : TypeId} {l p : List UInt8} (h : Row w k (l.map bv) t) (hp : (l.drop off).take n = p) (hn : p.length = n) (hc : n ≤ c) : Bs w w.heap.size (.slice (some ⟨k, off, none⟩) n c) p := by
  refine ⟨_, c, by rw [hn], by omega, fun _ => ⟨k, off, rfl, h.lt, fun i u hu => h.cell ?_⟩⟩
  rw [← hp, List.getElem?_take] at hu
  split at hu
  · rw [List.getElem?_drop] at hu
    rw [List.getElem?_map, hu]
    rfl
  · cases hu
/-- 'copy' of sixteen bytes into an array. -/
theorem wpList_copy16 {w : World} {ops : Array Oper} {rest : List Oper} {o : Oper} {a : Act} {Q : Exit → Act → World → Prop} (hgd : o.guard = none) (d s : Operand)
    (ho : o.op = .call { callee := .builtin .copy, args := #[d, s], argTypes := #[39, 39] }) {g off c1 B : Nat} {y : Value} {l p : List UInt8} {t : TypeId}
    (hd : a.eval d = .slice (some ⟨g, off, none⟩) 16 c1) (hs : a.eval s = y) (hy : Bs w B y p) (hp : p.length = 16) (hg : Row w g (l.map bv) t) (hfit : off + 16 ≤ l.length)
    (h : ∀ w', Row w' g ((splice l off p).map bv) t → Ev.Keep ⟨w, fun k => k = g⟩ w' → wpList Try.prog ops Q rest (a.put o.dst (goInt 16)) w') : wpList Try.prog ops Q (o :: rest) a w := by
  obtain ⟨A, c2, rfl, _, hcs⟩ := hy
  obtain ⟨k, so, rfl, _, hcell⟩ := hcs (by intro e; subst e; simp at hp)
  rw [hp] at hs
  have hl : (p.map bv).length = 16 := by rw [List.length_map]; exact hp
  refine Pol.wpList_copy_keep hgd d s 39 39 ho 5 (by kernel_rfl) (by kernel_rfl) hd hs hg (p.map bv) (by rw [hl]; rfl) ?_ (by rw [hl, List.length_map]; exact hfit) (Pol.bytes1 p) ?_
  · intro j v hv
    rw [List.getElem?_map, Option.map_eq_some_iff] at hv
    obtain ⟨u, hu, rfl⟩ := hv
    have hadd : (⟨k, so, none⟩ : Addr).add j = ⟨k, so + j, none⟩ := by unfold Addr.add; split <;> simp_all
    rw [hadd]
    exact hcell j u hu
  · intro w' h1 h2
    rw [hl]
    exact h w' (by rw [map_splice]; exact h1) h2
theorem keep_b {lo : Nat} {w w1 w2 : World} {g : Nat} (h : Below lo w w1) (hk : Ev.Keep ⟨w1, fun k => k = g⟩ w2) (hg : lo ≤ g) (hlo : lo ≤ w1.heap.size) : Below lo w w2 :=
  h.trans (Pol.keep_below hk (lo := lo) (by rintro k rfl; exact hg) hlo)
/-- 'copy' of some bytes into an array of sixteen. -/
theorem wpList_copyN {w : World} {ops : Array Oper} {rest : List Oper} {o : Oper} {a : Act} {Q : Exit → Act → World → Prop} (hgd : o.guard = none) (d s : Operand)
    (ho : o.op = .call { callee := .builtin .copy, args := #[d, s], argTypes := #[39, 39] }) {g off c1 B : Nat} {y : Value} {l p : List UInt8} {t : TypeId}
    {n : Nat} (hn0 : 0 < n) (hn16 : n ≤ 16) (hd : a.eval d = .slice (some ⟨g, off, none⟩) 16 c1) (hs : a.eval s = y) (hy : Bs w B y p) (hp : p.length = n) (hg : Row w g (l.map bv) t) (hfit : off + n ≤ l.length)
    (h : ∀ w', Row w' g ((splice l off p).map bv) t → Ev.Keep ⟨w, fun k => k = g⟩ w' → wpList Try.prog ops Q rest (a.put o.dst (goInt n)) w') : wpList Try.prog ops Q (o :: rest) a w := by
  obtain ⟨A, c2, rfl, _, hcs⟩ := hy
  obtain ⟨k, so, rfl, _, hcell⟩ := hcs (by intro e; subst e; simp at hp; omega)
  rw [hp] at hs
  have hl : (p.map bv).length = n := by rw [List.length_map]; exact hp
  refine Pol.wpList_copy_keep hgd d s 39 39 ho 5 (by kernel_rfl) (by kernel_rfl) hd hs hg (p.map bv) (by rw [hl]; exact (Nat.min_eq_left hn16).symm) ?_ (by rw [hl, List.length_map]; exact hfit) (Pol.bytes1 p) ?_
  · intro j v hv
    rw [List.getElem?_map, Option.map_eq_some_iff] at hv
    obtain ⟨u, hu, rfl⟩ := hv
    have hadd : (⟨k, so, none⟩ : Addr).add j = ⟨k, so + j, none⟩ := by unfold Addr.add; split <;> simp_all
    rw [hadd]
    exact hcell j u hu
  · intro w' h1 h2
    rw [hl]
    exact h w' (by rw [map_splice]; exact h1) h2

theorem wpList_build {P : Program} {w : World} {ops : Array Oper} {rest : List Oper} {o : Oper} {a : Act} {Q : Exit → Act → World → Prop} (hgd : o.guard = none) (t : TypeId) (parts : Array (Nat × Operand)) (ho : o.op = .build t parts) {v : Value}
    (hrun : (Instr.build t (parts.map fun (i, x) => (i, a.eval x))).run P w = .ok v w) (hk : wpList P ops Q rest (a.put o.dst v) w) : wpList P ops Q (o :: rest) a w := by
  refine wpList_plain hgd fun K hK => ?_
  unfold Oper.wp execOp
  simp only [ho, Sem.run_bind, Sem.run_pure, Result.andThen_ok, hrun]
  exact hK _ _ hk
def key20 : List UInt8 := 2 :: List.replicate 31 0
theorem key20_is {s : List UInt8} (h : s.length = 16) : splice key20 16 s = key2 s := by
  unfold splice key20 key2
  rw [List.drop_of_length_le (by simp; omega), List.append_nil]
  rfl
theorem x_full {b : List UInt8} (h : b.length = 16) : splice (List.replicate 16 0) 0 b = xOf b := by
  rw [splice_all (by decide) h]
  unfold xOf
  rw [if_neg (by omega)]
theorem x_short {b : List UInt8} (h : b.length < 16) : (splice (List.replicate 16 0) 0 b).set b.length 1 = xOf b := by
  unfold splice xOf
  rw [if_pos h, List.take_zero, List.nil_append, Nat.zero_add, List.drop_replicate, List.set_append_right _ _ (Nat.le_refl _), Nat.sub_self]
  obtain ⟨k, hk⟩ : ∃ k, 16 - b.length = k + 1 := ⟨15 - b.length, by omega⟩
  rw [hk, show 15 - b.length = k by omega]
  rfl
theorem xOf_length {b : List UInt8} (h : b.length ≤ 16) : (xOf b).length = 16 := by
  unfold xOf
  split
  · simp; omega
  · omega
set_option maxRecDepth 100000 in
set_option maxHeartbeats 1000000 in
theorem none_ (s : List UInt8) (A1 : Option Addr) (n1 c1 : Nat) (h : 16 < n1 ∨ n1 = 0) (w : World) :
    Calls Try.prog 9 #[.slice A1 n1 c1, arr8 s] w fun e w' => e = .returned (.bool true) ∧ Below w.heap.size w w' := by
  unfold arr8
  by_cases h0 : 16 < n1
  · have h1' : decide ((16 : Int) < (n1 : Int)) = true := decide_eq_true (by omega)
    clear h h0
    go_enter Try.func9, Try.ntmps9
    go_wp2_with (go_at_call 24; refine (Pol.lives_any _).mono ?_; rintro e w1 ⟨rfl, hb1⟩; have HB1 := Lib.hid hb1; clear hb1)
    go_ret
    exact ⟨rfl, ((Below.refl _ w).alloc (Nat.le_refl _) _).trans (HB1.out.mono (by simp))⟩
  · obtain rfl : n1 = 0 := by omega
    clear h h0
    go_enter Try.func9, Try.ntmps9
    go_wp2_with (go_at_call 24; refine (Pol.lives_any _).mono ?_; rintro e w1 ⟨rfl, hb1⟩; have HB1 := Lib.hid hb1; clear hb1)
    go_ret
    exact ⟨rfl, ((Below.refl _ w).alloc (Nat.le_refl _) _).trans (HB1.out.mono (by simp))⟩
set_option maxRecDepth 100000 in
set_option maxHeartbeats 1000000 in
theorem high (s : List UInt8) (k off c1 : Nat) (u : UInt8) (hu : 127 < u.toNat) (hc1 : 16 ≤ c1) (w : World) (hk : k < w.heap.size) (hcell : w.cell? ⟨k, off + 15, none⟩ = some (bv u)) :
    Calls Try.prog 9 #[.slice (some ⟨k, off, none⟩) 16 c1, arr8 s] w fun e w' => e = .returned (.bool true) ∧ Below w.heap.size w w' := by
  unfold arr8
  have hd : decide ((127 : Int) < (u.toNat : Int)) = true := decide_eq_true (by omega)
  have Hcell := Lib.hid hcell
  have Hk := Lib.hid hk
  clear hcell hu hk
  go_enter Try.func9, Try.ntmps9
  go_wp2_with (go_at_call 24; refine (Pol.lives_any _).mono ?_; rintro e w1 ⟨rfl, hb1⟩; have HB1 := Lib.hid (((Below.refl _ w).alloc (Nat.le_refl _) _).trans (hb1.mono (by simp))); clear hb1; have hc : w1.cell? ⟨k, off + 15, none⟩ = some (.int .u8 (u.toNat : Int)) := (HB1.out.cell (p := ⟨k, off + 15, none⟩) Hk.out).trans Hcell.out)
  go_ret
  exact ⟨rfl, HB1.out⟩
set_option maxRecDepth 100000 in
set_option maxHeartbeats 1000000 in
theorem short (s lb : List UInt8) (A1 : Option Addr) (n1 c1 : Nat) (hs : s.length = 16) (w : World) (hn1 : lb.length = n1) (hb : Bs w w.heap.size (.slice A1 n1 c1) lb) (h0 : 0 < n1) (h1 : n1 < 16) :
    Calls Try.prog 9 #[(.slice A1 n1 c1), arr8 s] w fun e w' => e = .returned (.bool true) ∧ Below w.heap.size w w' := by
  have hll : lb.length < 4611686018427387904 := by omega
  obtain ⟨K, hK⟩ : ∃ K, key2 s = K := ⟨_, rfl⟩
  obtain ⟨X, hX⟩ : ∃ X, xOf lb = X := ⟨_, rfl⟩
  obtain ⟨M, hM⟩ : ∃ M, lessB (List.replicate 16 (0 : UInt8)) X = M := ⟨_, rfl⟩
  obtain ⟨T, hT⟩ : ∃ T, tagK K lb = T := ⟨_, rfl⟩
  obtain ⟨dd, hdd⟩ : ∃ dd, lessB X M = dd := ⟨_, rfl⟩
  have hKl : K.length = 32 := by rw [← hK]; exact Pol.key2_length hs
  have hXl : X.length = 16 := by rw [← hX]; exact xOf_length (by omega)
  have hMl : M.length = 16 := by rw [← hM]; exact Pol.lessB_length _ _
  have hTl : T.length = 16 := by rw [← hT]; exact Pol.tagK_length _ _
  have hddl : dd.length = 16 := by rw [← hdd]; exact Pol.lessB_length _ _
  have hd2 : lessB T s = dd := by rw [← hT, ← hK, ← hdd, ← hM, ← hX]; exact Pol.twice hs (by omega) (by omega) (by intro e; omega)
  have HT := Lib.hid (show ∀ (W : World) (v : Value), Bs W W.heap.size v lb → Calls Try.prog 25 #[arr8 K, v] W fun e w' => e = .returned (arr8 T) ∧ Below W.heap.size W w' from fun W v hv => hT ▸ Pol.TagF_any hKl hv hll)
  have HL0 := Lib.hid (show ∀ W : World, Calls Try.prog 34 #[arr8 (List.replicate 16 (0 : UInt8)), arr8 X] W fun e w' => e = .returned (arr8 M) ∧ Below W.heap.size W w' from fun W => hM ▸ Pol.Less_any (List.replicate 16 (0 : UInt8)) X (by decide) hXl W)
  have HL1 := Lib.hid (show ∀ W : World, Calls Try.prog 34 #[arr8 T, arr8 s] W fun e w' => e = .returned (arr8 dd) ∧ Below W.heap.size W w' from fun W => hd2 ▸ Pol.Less_any T s hTl hs W)
  have HL2 := Lib.hid (show ∀ W : World, Calls Try.prog 34 #[arr8 X, arr8 M] W fun e w' => e = .returned (arr8 dd) ∧ Below W.heap.size W w' from fun W => hdd ▸ Pol.Less_any X M hXl hMl W)
  have HKk := Lib.hid (show splice key20 16 s = K by rw [← hK]; exact key20_is hs)
  have HXx := Lib.hid (show (splice (List.replicate 16 (0 : UInt8)) 0 lb).set n1 1 = X by rw [← hX, ← hn1]; exact x_short (by omega))
  have Hsl := Lib.hid (show (s.map bv).length = 16 by rw [List.length_map]; exact hs)
  have HKl := Lib.hid (show (K.map bv).length = 32 by rw [List.length_map]; exact hKl)
  have HXl := Lib.hid (show (X.map bv).length = 16 by rw [List.length_map]; exact hXl)
  have HMl := Lib.hid (show (M.map bv).length = 16 by rw [List.length_map]; exact hMl)
  have Hdd := Lib.hid hddl
  have Hs16 := Lib.hid hs
  have Hn1 := Lib.hid hn1
  have HPL := Lib.hid (show lb.length ≤ 16 by omega)
  have Hb := Lib.hid hb
  have h1' : decide ((16 : Int) < (n1 : Int)) = false := decide_eq_false (by omega)
  have h2' : ((n1 : Int) == 0) = false := by rw [beq_eq_false_iff_ne]; omega
  have h3' : ((n1 : Int) == 16) = false := by rw [beq_eq_false_iff_ne]; omega
  have h16i : (n1 : Int) < 16 := by omega
  have H0 := Lib.hid h0
  have H1 := Lib.hid h1
  clear h0 h1 hs hn1 hb hll hK hX hM hT hdd hKl hXl hMl hTl hddl hd2
  unfold arr8
  go_enter Try.func9, Try.ntmps9
  go_wp2_with fail
  obtain ⟨W, hW⟩ : ∃ W, w.alloc (.cells (s.map bv).toArray 40) = W := ⟨_, rfl⟩
  have hWb : Below w.heap.size w W := hW ▸ (Below.refl _ w).alloc (Nat.le_refl _) _
  have hWs : Row W w.heap.size (s.map bv) 40 := hW ▸ Row.new rfl rfl
  show Calls _ _ _ (w.alloc (.cells (s.map bv).toArray 40)) _
  rw [hW]
  clear hW
  refine (Pol.lives_any W).mono ?_
  rintro e w1 ⟨rfl, hb1⟩
  have HB1 := Lib.hid (nextB hWb (Nat.le_refl _) hb1)
  have HS1 := Lib.hid (hWs.below hb1 hWs.lt)
  clear hWb hWs hb1
  go_wp2_with (first
    | (refine wpList_build rfl _ _ rfl (v := .agg (key20.map bv).toArray) (by kernel_rfl) ?_)
    | (try simp only [Act.put, List.setIfInBounds_toArray, List.set_cons_succ, List.set_cons_zero]
       refine wpList_storeRow (n := 32) rfl 24 (.tmp 5) (.tmp 29) rfl rfl rfl (cs := key20.map bv) (old := (List.replicate 32 (0 : UInt8)).map bv) (g := w1.heap.size) (t := 24) ?_ (by kernel_rfl) rfl (by simp) (Pol.bytes1 _) ?_
       · exact Row.new rfl rfl
       obtain ⟨w2, hw2⟩ : ∃ w2, (w1.alloc (.cells ((List.replicate 32 (0 : UInt8)).map bv).toArray 24)).setRow w1.heap.size (key20.map bv).toArray = w2 := ⟨_, rfl⟩
       have HK2 := Lib.hid (show Row w2 w1.heap.size (key20.map bv) 24 from hw2 ▸ (Row.new (cs := (List.replicate 32 (0 : UInt8)).map bv) rfl rfl).setRow _)
       have hb12 : Below w1.heap.size w1 w2 := hw2 ▸ below_setRow ((Below.refl _ w1).alloc (Nat.le_refl _) _) (Nat.le_refl _) _
       have HB2 := Lib.hid (nextB HB1.out (Nat.le_refl _) hb12)
       have HS2 := Lib.hid (HS1.out.below hb12 HS1.out.lt)
       have HgK := Lib.hid HS1.out.lt
       refine wpList_world hw2 ?_
       clear hw2 hb12)
    | fail)
  obtain ⟨gK, hgK⟩ : ∃ g, w1.heap.size = g := ⟨_, rfl⟩
  rw [hgK] at HK2 HgK ⊢
  clear hgK
  refine Tail.marksAt mixed 2 Grew [By.is (.slice (some ⟨gK, 16, none⟩) 16 16),
    By.is (.slice (some ⟨w.heap.size, 0, none⟩) 16 16)]
    (Ev.masks _ []) (Nat.zero_lt_succ _) (by kernel_rfl) (by kernel_rfl) rfl Grew.refl Grew.trans ⟨?_, ?_, trivial⟩ ?_
  · intro a w ht hs hg -- 30
    have h5 := By.same_get hs 5 (by decide) (by kernel_rfl)
    refine By.yes rfl ?_
    clear hs hg
    go_simp
    exact ⟨_, rfl, Grew.refl _, rfl⟩
  · intro a w ht hs hg -- 31
    have h3 := By.same_get hs 3 (by decide) (by kernel_rfl)
    refine By.yes rfl ?_
    clear hs hg
    go_simp
    exact ⟨_, rfl, Grew.refl _, rfl⟩
  refine By.ends_is (By.ends_is (By.ends_nil fun wq hq => ?_))
  simp only [Act.put, List.setIfInBounds_toArray, List.set_cons_succ, List.set_cons_zero]
  simp only [List.drop_succ_cons, List.drop_zero]
  have hq : Below w2.heap.size w2.drew wq := hq
  have Hbq := Lib.hid (nextB (b := w2.drew) HB2.out.drew (Nat.le_refl _) hq)
  have HKq := Lib.hid (Row.below (w := w2.drew) HK2.out hq HK2.out.lt)
  have HSq := Lib.hid (Row.below (w := w2.drew) HS2.out hq HS2.out.lt)
  clear hq
  go_wp2_with (first
    | (refine wpList_copy16 rfl (.tmp 30) (.tmp 31) rfl rfl rfl (row_bs_at (l := s) (off := 0) (n := 16) (p := s) HSq.out (by rw [List.drop_zero, List.take_of_length_le (Nat.le_of_eq Hs16.out)]) Hs16.out (Nat.le_refl _)) Hs16.out (l := key20) HKq.out (by decide) ?_
       intro w3 hnew hkeep
       rw [HKk.out] at hnew
       have HK3 := Lib.hid hnew
       have HS3 := Lib.hid (row_keep HSq.out hkeep (by have := HgK.out; omega))
       have HB3 := Lib.hid (keep_b Hbq.out hkeep (by have := HgK.out; omega) Hbq.out.size)
       clear hnew hkeep)
    | (refine wpList_copyN (n := n1) rfl (.tmp 33) (.tmp 34) rfl H0.out (Nat.le_of_lt H1.out) rfl rfl (y := (.slice A1 n1 c1)) (l := (List.replicate 16 (0 : UInt8))) (g := w3.heap.size) (t := 40) (((Hb.out.below HB3.out).more HB3.out.size).alloc (Nat.le_refl _) _) Hn1.out (Row.new rfl rfl) (by simp; exact Nat.le_of_lt H1.out) ?_
       intro w4 hnew hkeep
       have hb34 : Below w3.heap.size w3 w4 := keep_b ((Below.refl _ w3).alloc (Nat.le_refl _) _) hkeep (Nat.le_refl _) (by simp)
       have HB4 := Lib.hid (nextB HB3.out (Nat.le_refl _) hb34)
       have HK4 := Lib.hid (HK3.out.below hb34 HK3.out.lt)
       have HS4 := Lib.hid (HS3.out.below hb34 HS3.out.lt)
       have HgX := Lib.hid HK3.out.lt
       obtain ⟨v0, hcell⟩ : ∃ v, w4.cell? ⟨w3.heap.size, n1, none⟩ = some v := ⟨_, hnew.cell (getD_cell _ n1 (by rw [length_splice _ _ _ (by rw [Hn1.out]; simp; exact Nat.le_of_lt H1.out)]; simp; exact H1.out))⟩
       have hfr := frozen_row hnew n1
       have HX5 := Lib.hid (show Row (w4.setCell ⟨w3.heap.size, n1, none⟩ (.int .u8 1)) w3.heap.size (X.map bv) 40 by
         have h := hnew.set n1 (bv 1)
         rw [← List.map_set, HXx.out] at h
         exact h)
       have HK5 := Lib.hid (HK4.out.other ⟨w3.heap.size, n1, none⟩ (.int .u8 1) (by have := HgX.out; dsimp only; omega))
       have HS5 := Lib.hid (HS4.out.other ⟨w3.heap.size, n1, none⟩ (.int .u8 1) (by have := HS3.out.lt; dsimp only; omega))
       have HB5 := Lib.hid (HB4.out.setCell (p := ⟨w3.heap.size, n1, none⟩) HB3.out.size (.int .u8 1))
       clear hnew hkeep hb34)
    | (refine wpList_loadRow (n := 16) (cs := X.map bv) rfl 40 (.tmp 6) rfl rfl HX5.out Try.underlying40 rfl (by kernel_rfl) HXl.out ?_)
    | fail)
  clear hcell hfr
  obtain ⟨w5, hw5⟩ : ∃ w5, w4.setCell ⟨w3.heap.size, n1, none⟩ (.int .u8 1) = w5 := ⟨_, rfl⟩
  rw [hw5] at HX5 HK5 HS5 HB5 ⊢
  clear hw5
  obtain ⟨gX, hgX⟩ : ∃ g, w3.heap.size = g := ⟨_, rfl⟩
  rw [hgX] at HX5 ⊢
  clear hgX
  refine (HL0.out w5).mono ?_
  rintro e w6 ⟨rfl, hb6⟩
  have Hb6 := Lib.hid hb6
  clear hb6
  unfold arr8
  go_wp2_with (first
    | (refine wpList_storeRow (n := 16) rfl 40 _ _ rfl rfl rfl (cs := M.map bv) (old := (List.replicate 16 (0 : UInt8)).map bv) (g := w6.heap.size) (Row.new rfl rfl) (by kernel_rfl) HMl.out (by simp) (Pol.bytes1 _) ?_
       obtain ⟨w7, hw7⟩ : ∃ w7, (w6.alloc (.cells ((List.replicate 16 (0 : UInt8)).map bv).toArray 40)).setRow w6.heap.size (M.map bv).toArray = w7 := ⟨_, rfl⟩
       have HM7 := Lib.hid (show Row w7 w6.heap.size (M.map bv) 40 from hw7 ▸ (Row.new (cs := (List.replicate 16 (0 : UInt8)).map bv) rfl rfl).setRow _)
       have hb67 : Below w6.heap.size w6 w7 := hw7 ▸ below_setRow ((Below.refl _ w6).alloc (Nat.le_refl _) _) (Nat.le_refl _) _
       have hb57 := nextB Hb6.out (Nat.le_refl _) hb67
       have HB7 := Lib.hid (nextB HB5.out (Nat.le_refl _) hb57)
       have HX7 := Lib.hid (HX5.out.below hb57 HX5.out.lt)
       have HK7 := Lib.hid (HK5.out.below hb57 HK5.out.lt)
       have HS7 := Lib.hid (HS5.out.below hb57 HS5.out.lt)
       refine wpList_world hw7 ?_
       clear hw7 hb67 hb57)
    | fail)
  obtain ⟨gM, hgM⟩ : ∃ g, w6.heap.size = g := ⟨_, rfl⟩
  rw [hgM] at HM7 ⊢
  clear hgM
  have HP7 := Lib.hid ((Hb.out.below HB7.out).more HB7.out.size)
  refine By.marks mixed Grew [By.is (arr8 K),
    By.is (.slice A1 n1 c1),
    ownM 0 lb,
    By.is (arr8 T),
    By.is (arr8 s),
    By.is (arr8 dd),
    By.is (arr8 X),
    By.is (arr8 M),
    By.is (arr8 dd),
    By.is (.bool true),
    By.is (.bool true)]
    (Ev.masks _ []) (by kernel_rfl) rfl Grew.refl Grew.trans ⟨?_, ?_, ?_, ?_, ?_, ?_, ?_, ?_, ?_, ?_, ?_, trivial⟩ ?_
  · intro a w ht hs hg -- 45
    have h5 := By.same_get hs 5 (by decide) (by kernel_rfl)
    refine By.yes rfl ?_
    clear hs hg
    refine wp_loadRow 24 _ rfl h5 (Row.below (w := w7.drew) HK7.out ht HK7.out.lt) Try.underlying24 rfl (by kernel_rfl) HKl.out ?_
    exact ⟨_, rfl, Grew.refl _, rfl⟩
  · intro a w ht hs hg -- 46
    have h0 := By.same_get hs 0 (by decide) (by kernel_rfl)
    refine By.yes rfl ?_
    clear hs hg
    go_simp
    exact ⟨_, rfl, Grew.refl _, rfl⟩
  · intro a w ht hs hg -- 47
    have h46 : a.tmps.getD 46 undef = _ := By.given_get hg 1 rfl rfl (by kernel_rfl)
    refine By.yes rfl ?_
    clear hs hg
    have hx := Lib.hid ((Bs.below (w := w7.drew) HP7.out ht).more ht.size)
    go_simp
    refine (Own_any _ lb w hx.out (by have := HPL.out; omega)).mono ?_
    rintro e w' ⟨v, rfl, ho, hb⟩
    exact ⟨_, rfl, hb, ho.less (Nat.zero_le _)⟩
  · intro a w ht hs hg -- 48
    have h45 : a.tmps.getD 45 undef = _ := By.given_get hg 0 rfl rfl (by kernel_rfl)
    have h47 := By.given_get hg 2 rfl rfl (by kernel_rfl)
    refine By.yes rfl ?_
    obtain ⟨v47, hv47⟩ : ∃ v, a.tmps.getD 47 undef = v := ⟨_, rfl⟩
    replace h47 := (congrArg (fun v => ((ownM 0 lb)).on v w) hv47).mp h47
    clear hs hg
    have Ho := Lib.hid (Own.bs h47)
    clear h47
    go_simp
    refine (HT.out w _ Ho.out).mono ?_
    rintro e w' ⟨rfl, hb⟩
    exact ⟨_, rfl, hb, rfl⟩
  · intro a w ht hs hg -- 49
    have h3 := By.same_get hs 3 (by decide) (by kernel_rfl)
    refine By.yes rfl ?_
    clear hs hg
    refine wp_loadRow 40 _ rfl h3 (Row.below (w := w7.drew) HS7.out ht HS7.out.lt) Try.underlying40 rfl (by kernel_rfl) Hsl.out ?_
    exact ⟨_, rfl, Grew.refl _, rfl⟩
  · intro a w ht hs hg -- 50
    have h48 : a.tmps.getD 48 undef = _ := By.given_get hg 3 rfl rfl (by kernel_rfl)
    have h49 : a.tmps.getD 49 undef = _ := By.given_get hg 4 rfl rfl (by kernel_rfl)
    refine By.yes rfl ?_
    clear hs hg
    go_simp
    refine (HL1.out w).mono ?_
    rintro e w' ⟨rfl, hb⟩
    exact ⟨_, rfl, hb, rfl⟩
  · intro a w ht hs hg -- 51
    have h6 := By.same_get hs 6 (by decide) (by kernel_rfl)
    refine By.yes rfl ?_
    clear hs hg
    refine wp_loadRow 40 _ rfl h6 (Row.below (w := w7.drew) HX7.out ht HX7.out.lt) Try.underlying40 rfl (by kernel_rfl) HXl.out ?_
    exact ⟨_, rfl, Grew.refl _, rfl⟩
  · intro a w ht hs hg -- 52
    have h7 := By.same_get hs 7 (by decide) (by kernel_rfl)
    refine By.yes rfl ?_
    clear hs hg
    refine wp_loadRow 40 _ rfl h7 (Row.below (w := w7.drew) HM7.out ht HM7.out.lt) Try.underlying40 rfl (by kernel_rfl) HMl.out ?_
    exact ⟨_, rfl, Grew.refl _, rfl⟩
  · intro a w ht hs hg -- 53
    have h51 : a.tmps.getD 51 undef = _ := By.given_get hg 6 rfl rfl (by kernel_rfl)
    have h52 : a.tmps.getD 52 undef = _ := By.given_get hg 7 rfl rfl (by kernel_rfl)
    refine By.yes rfl ?_
    clear hs hg
    go_simp
    refine (HL2.out w).mono ?_
    rintro e w' ⟨rfl, hb⟩
    exact ⟨_, rfl, hb, rfl⟩
  · intro a w ht hs hg -- 54
    have h50 : a.tmps.getD 50 undef = _ := By.given_get hg 5 rfl rfl (by kernel_rfl)
    have h53 : a.tmps.getD 53 undef = _ := By.given_get hg 8 rfl rfl (by kernel_rfl)
    refine By.yes rfl ?_
    clear hs hg
    refine wp_eqArr _ _ rfl (by kernel_rfl) h50 h53 (eq16 dd dd Hdd.out Hdd.out w) ?_
    exact ⟨_, rfl, Grew.refl _, congrArg Value.bool (by simp)⟩
  · intro a w ht hs hg -- 4
    have h54 : a.tmps.getD 54 undef = _ := By.given_get hg 9 rfl rfl (by kernel_rfl)
    refine By.yes rfl ?_
    clear hs hg
    go_simp
    exact ⟨_, rfl, Grew.refl _, rfl⟩
  refine By.ends_is (By.ends_is (By.ends_skip fun v47 => (By.ends_is (By.ends_is (By.ends_is (By.ends_is (By.ends_is (By.ends_is (By.ends_is (By.ends_is (By.ends_nil fun wz hz => ?_)))))))))))
  simp only [Act.put, List.setIfInBounds_toArray, List.set_cons_succ, List.set_cons_zero]
  go_wp2
  go_ret
  exact ⟨rfl, nextB (b := w7.drew) HB7.out.drew (Nat.le_refl _) hz⟩
set_option maxRecDepth 100000 in
set_option maxHeartbeats 1000000 in
theorem full (s lb : List UInt8) (k off c1 : Nat) (u : UInt8) (hu : u.toNat ≤ 127) (hu15 : lb.getD 15 0 = u) (hc1 : 16 ≤ c1) (hs : s.length = 16) (w : World) (hn1 : lb.length = 16) (hb : Bs w w.heap.size (.slice (some ⟨k, off, none⟩) 16 c1) lb) (hk : k < w.heap.size) (hcell : w.cell? ⟨k, off + 15, none⟩ = some (bv u)) :
    Calls Try.prog 9 #[(.slice (some ⟨k, off, none⟩) 16 c1), arr8 s] w fun e w' => e = .returned (.bool true) ∧ Below w.heap.size w w' := by
  have hll : lb.length < 4611686018427387904 := by omega
  obtain ⟨K, hK⟩ : ∃ K, key2 s = K := ⟨_, rfl⟩
  obtain ⟨X, hX⟩ : ∃ X, xOf lb = X := ⟨_, rfl⟩
  obtain ⟨M, hM⟩ : ∃ M, lessB (List.replicate 16 (0 : UInt8)) X = M := ⟨_, rfl⟩
  obtain ⟨T, hT⟩ : ∃ T, tagK K lb = T := ⟨_, rfl⟩
  obtain ⟨dd, hdd⟩ : ∃ dd, lessB X M = dd := ⟨_, rfl⟩
  have hKl : K.length = 32 := by rw [← hK]; exact Pol.key2_length hs
  have hXl : X.length = 16 := by rw [← hX]; exact xOf_length (by omega)
  have hMl : M.length = 16 := by rw [← hM]; exact Pol.lessB_length _ _
  have hTl : T.length = 16 := by rw [← hT]; exact Pol.tagK_length _ _
  have hddl : dd.length = 16 := by rw [← hdd]; exact Pol.lessB_length _ _
  have hd2 : lessB T s = dd := by rw [← hT, ← hK, ← hdd, ← hM, ← hX]; exact Pol.twice hs (by omega) (by omega) (by intro _; rw [hu15]; exact hu)
  have HT := Lib.hid (show ∀ (W : World) (v : Value), Bs W W.heap.size v lb → Calls Try.prog 25 #[arr8 K, v] W fun e w' => e = .returned (arr8 T) ∧ Below W.heap.size W w' from fun W v hv => hT ▸ Pol.TagF_any hKl hv hll)
  have HL0 := Lib.hid (show ∀ W : World, Calls Try.prog 34 #[arr8 (List.replicate 16 (0 : UInt8)), arr8 X] W fun e w' => e = .returned (arr8 M) ∧ Below W.heap.size W w' from fun W => hM ▸ Pol.Less_any (List.replicate 16 (0 : UInt8)) X (by decide) hXl W)
  have HL1 := Lib.hid (show ∀ W : World, Calls Try.prog 34 #[arr8 T, arr8 s] W fun e w' => e = .returned (arr8 dd) ∧ Below W.heap.size W w' from fun W => hd2 ▸ Pol.Less_any T s hTl hs W)
  have HL2 := Lib.hid (show ∀ W : World, Calls Try.prog 34 #[arr8 X, arr8 M] W fun e w' => e = .returned (arr8 dd) ∧ Below W.heap.size W w' from fun W => hdd ▸ Pol.Less_any X M hXl hMl W)
  have HKk := Lib.hid (show splice key20 16 s = K by rw [← hK]; exact key20_is hs)
  have HXx := Lib.hid (show splice (List.replicate 16 (0 : UInt8)) 0 lb = X by rw [← hX]; exact x_full hn1)
  have Hsl := Lib.hid (show (s.map bv).length = 16 by rw [List.length_map]; exact hs)
  have HKl := Lib.hid (show (K.map bv).length = 32 by rw [List.length_map]; exact hKl)
  have HXl := Lib.hid (show (X.map bv).length = 16 by rw [List.length_map]; exact hXl)
  have HMl := Lib.hid (show (M.map bv).length = 16 by rw [List.length_map]; exact hMl)
  have Hdd := Lib.hid hddl
  have Hs16 := Lib.hid hs
  have Hn1 := Lib.hid hn1
  have HPL := Lib.hid (show lb.length ≤ 16 by omega)
  have Hb := Lib.hid hb
  have hd : decide ((127 : Int) < (u.toNat : Int)) = false := decide_eq_false (by omega)
  have Hcell := Lib.hid hcell
  have Hk := Lib.hid hk
  clear hu hu15 hcell hk hs hn1 hb hll hK hX hM hT hdd hKl hXl hMl hTl hddl hd2
  unfold arr8
  go_enter Try.func9, Try.ntmps9
  go_wp2_with fail
  obtain ⟨W, hW⟩ : ∃ W, w.alloc (.cells (s.map bv).toArray 40) = W := ⟨_, rfl⟩
  have hWb : Below w.heap.size w W := hW ▸ (Below.refl _ w).alloc (Nat.le_refl _) _
  have hWs : Row W w.heap.size (s.map bv) 40 := hW ▸ Row.new rfl rfl
  show Calls _ _ _ (w.alloc (.cells (s.map bv).toArray 40)) _
  rw [hW]
  clear hW
  refine (Pol.lives_any W).mono ?_
  rintro e w1 ⟨rfl, hb1⟩
  have HB1 := Lib.hid (nextB hWb (Nat.le_refl _) hb1)
  have HS1 := Lib.hid (hWs.below hb1 hWs.lt)
  clear hWb hWs hb1
  have hc : w1.cell? ⟨k, off + 15, none⟩ = some (.int .u8 (u.toNat : Int)) := (HB1.out.cell (p := ⟨k, off + 15, none⟩) Hk.out).trans Hcell.out
  go_wp2_with (first
    | (refine wpList_build rfl _ _ rfl (v := .agg (key20.map bv).toArray) (by kernel_rfl) ?_)
    | (try simp only [Act.put, List.setIfInBounds_toArray, List.set_cons_succ, List.set_cons_zero]
       refine wpList_storeRow (n := 32) rfl 24 (.tmp 5) (.tmp 29) rfl rfl rfl (cs := key20.map bv) (old := (List.replicate 32 (0 : UInt8)).map bv) (g := w1.heap.size) (t := 24) ?_ (by kernel_rfl) rfl (by simp) (Pol.bytes1 _) ?_
       · exact Row.new rfl rfl
       obtain ⟨w2, hw2⟩ : ∃ w2, (w1.alloc (.cells ((List.replicate 32 (0 : UInt8)).map bv).toArray 24)).setRow w1.heap.size (key20.map bv).toArray = w2 := ⟨_, rfl⟩
       have HK2 := Lib.hid (show Row w2 w1.heap.size (key20.map bv) 24 from hw2 ▸ (Row.new (cs := (List.replicate 32 (0 : UInt8)).map bv) rfl rfl).setRow _)
       have hb12 : Below w1.heap.size w1 w2 := hw2 ▸ below_setRow ((Below.refl _ w1).alloc (Nat.le_refl _) _) (Nat.le_refl _) _
       have HB2 := Lib.hid (nextB HB1.out (Nat.le_refl _) hb12)
       have HS2 := Lib.hid (HS1.out.below hb12 HS1.out.lt)
       have HgK := Lib.hid HS1.out.lt
       refine wpList_world hw2 ?_
       clear hw2 hb12)
    | fail)
  obtain ⟨gK, hgK⟩ : ∃ g, w1.heap.size = g := ⟨_, rfl⟩
  rw [hgK] at HK2 HgK ⊢
  clear hgK
  refine Tail.marksAt mixed 2 Grew [By.is (.slice (some ⟨gK, 16, none⟩) 16 16),
    By.is (.slice (some ⟨w.heap.size, 0, none⟩) 16 16)]
    (Ev.masks _ []) (Nat.zero_lt_succ _) (by kernel_rfl) (by kernel_rfl) rfl Grew.refl Grew.trans ⟨?_, ?_, trivial⟩ ?_
  · intro a w ht hs hg -- 30
    have h5 := By.same_get hs 5 (by decide) (by kernel_rfl)
    refine By.yes rfl ?_
    clear hs hg
    go_simp
    exact ⟨_, rfl, Grew.refl _, rfl⟩
  · intro a w ht hs hg -- 31
    have h3 := By.same_get hs 3 (by decide) (by kernel_rfl)
    refine By.yes rfl ?_
    clear hs hg
    go_simp
    exact ⟨_, rfl, Grew.refl _, rfl⟩
  refine By.ends_is (By.ends_is (By.ends_nil fun wq hq => ?_))
  simp only [Act.put, List.setIfInBounds_toArray, List.set_cons_succ, List.set_cons_zero]
  simp only [List.drop_succ_cons, List.drop_zero]
  have hq : Below w2.heap.size w2.drew wq := hq
  have Hbq := Lib.hid (nextB (b := w2.drew) HB2.out.drew (Nat.le_refl _) hq)
  have HKq := Lib.hid (Row.below (w := w2.drew) HK2.out hq HK2.out.lt)
  have HSq := Lib.hid (Row.below (w := w2.drew) HS2.out hq HS2.out.lt)
  clear hq
  go_wp2_with (first
    | (refine wpList_copy16 rfl (.tmp 30) (.tmp 31) rfl rfl rfl (row_bs_at (l := s) (off := 0) (n := 16) (p := s) HSq.out (by rw [List.drop_zero, List.take_of_length_le (Nat.le_of_eq Hs16.out)]) Hs16.out (Nat.le_refl _)) Hs16.out (l := key20) HKq.out (by decide) ?_
       intro w3 hnew hkeep
       rw [HKk.out] at hnew
       have HK3 := Lib.hid hnew
       have HS3 := Lib.hid (row_keep HSq.out hkeep (by have := HgK.out; omega))
       have HB3 := Lib.hid (keep_b Hbq.out hkeep (by have := HgK.out; omega) Hbq.out.size)
       clear hnew hkeep)
    | (refine wpList_copyN (n := 16) rfl (.tmp 33) (.tmp 34) rfl (by decide) (by decide) rfl rfl (y := (.slice (some ⟨k, off, none⟩) 16 c1)) (l := (List.replicate 16 (0 : UInt8))) (g := w3.heap.size) (t := 40) (((Hb.out.below HB3.out).more HB3.out.size).alloc (Nat.le_refl _) _) Hn1.out (Row.new rfl rfl) (by decide) ?_
       intro w4 hnew hkeep
       have hb34 : Below w3.heap.size w3 w4 := keep_b ((Below.refl _ w3).alloc (Nat.le_refl _) _) hkeep (Nat.le_refl _) (by simp)
       have HB4 := Lib.hid (nextB HB3.out (Nat.le_refl _) hb34)
       have HK4 := Lib.hid (HK3.out.below hb34 HK3.out.lt)
       have HS4 := Lib.hid (HS3.out.below hb34 HS3.out.lt)
       have HgX := Lib.hid HK3.out.lt
       rw [HXx.out] at hnew
       have HX5 := Lib.hid hnew
       have HK5 := HK4
       have HS5 := HS4
       have HB5 := HB4
       clear hnew hkeep hb34)
    | (refine wpList_loadRow (n := 16) (cs := X.map bv) rfl 40 (.tmp 6) rfl rfl HX5.out Try.underlying40 rfl (by kernel_rfl) HXl.out ?_)
    | fail)
  obtain ⟨w5, hw5⟩ : ∃ w5, w4 = w5 := ⟨_, rfl⟩
  rw [hw5] at HX5 HK5 HS5 HB5 ⊢
  clear hw5
  obtain ⟨gX, hgX⟩ : ∃ g, w3.heap.size = g := ⟨_, rfl⟩
  rw [hgX] at HX5 ⊢
  clear hgX
  refine (HL0.out w5).mono ?_
  rintro e w6 ⟨rfl, hb6⟩
  have Hb6 := Lib.hid hb6
  clear hb6
  unfold arr8
  go_wp2_with (first
    | (refine wpList_storeRow (n := 16) rfl 40 _ _ rfl rfl rfl (cs := M.map bv) (old := (List.replicate 16 (0 : UInt8)).map bv) (g := w6.heap.size) (Row.new rfl rfl) (by kernel_rfl) HMl.out (by simp) (Pol.bytes1 _) ?_
       obtain ⟨w7, hw7⟩ : ∃ w7, (w6.alloc (.cells ((List.replicate 16 (0 : UInt8)).map bv).toArray 40)).setRow w6.heap.size (M.map bv).toArray = w7 := ⟨_, rfl⟩
       have HM7 := Lib.hid (show Row w7 w6.heap.size (M.map bv) 40 from hw7 ▸ (Row.new (cs := (List.replicate 16 (0 : UInt8)).map bv) rfl rfl).setRow _)
       have hb67 : Below w6.heap.size w6 w7 := hw7 ▸ below_setRow ((Below.refl _ w6).alloc (Nat.le_refl _) _) (Nat.le_refl _) _
       have hb57 := nextB Hb6.out (Nat.le_refl _) hb67
       have HB7 := Lib.hid (nextB HB5.out (Nat.le_refl _) hb57)
       have HX7 := Lib.hid (HX5.out.below hb57 HX5.out.lt)
       have HK7 := Lib.hid (HK5.out.below hb57 HK5.out.lt)
       have HS7 := Lib.hid (HS5.out.below hb57 HS5.out.lt)
       refine wpList_world hw7 ?_
       clear hw7 hb67 hb57)
    | fail)
  obtain ⟨gM, hgM⟩ : ∃ g, w6.heap.size = g := ⟨_, rfl⟩
  rw [hgM] at HM7 ⊢
  clear hgM
  have HP7 := Lib.hid ((Hb.out.below HB7.out).more HB7.out.size)
  refine By.marks mixed Grew [By.is (arr8 K),
    By.is (.slice (some ⟨k, off, none⟩) 16 c1),
    ownM 0 lb,
    By.is (arr8 T),
    By.is (arr8 s),
    By.is (arr8 dd),
    By.is (arr8 X),
    By.is (arr8 M),
    By.is (arr8 dd),
    By.is (.bool true),
    By.is (.bool true)]
    (Ev.masks _ []) (by kernel_rfl) rfl Grew.refl Grew.trans ⟨?_, ?_, ?_, ?_, ?_, ?_, ?_, ?_, ?_, ?_, ?_, trivial⟩ ?_
  · intro a w ht hs hg -- 45
    have h5 := By.same_get hs 5 (by decide) (by kernel_rfl)
    refine By.yes rfl ?_
    clear hs hg
    refine wp_loadRow 24 _ rfl h5 (Row.below (w := w7.drew) HK7.out ht HK7.out.lt) Try.underlying24 rfl (by kernel_rfl) HKl.out ?_
    exact ⟨_, rfl, Grew.refl _, rfl⟩
  · intro a w ht hs hg -- 46
    have h0 := By.same_get hs 0 (by decide) (by kernel_rfl)
    refine By.yes rfl ?_
    clear hs hg
    go_simp
    exact ⟨_, rfl, Grew.refl _, rfl⟩
  · intro a w ht hs hg -- 47
    have h46 : a.tmps.getD 46 undef = _ := By.given_get hg 1 rfl rfl (by kernel_rfl)
    refine By.yes rfl ?_
    clear hs hg
    have hx := Lib.hid ((Bs.below (w := w7.drew) HP7.out ht).more ht.size)
    go_simp
    refine (Own_any _ lb w hx.out (by have := HPL.out; omega)).mono ?_
    rintro e w' ⟨v, rfl, ho, hb⟩
    exact ⟨_, rfl, hb, ho.less (Nat.zero_le _)⟩
  · intro a w ht hs hg -- 48
    have h45 : a.tmps.getD 45 undef = _ := By.given_get hg 0 rfl rfl (by kernel_rfl)
    have h47 := By.given_get hg 2 rfl rfl (by kernel_rfl)
    refine By.yes rfl ?_
    obtain ⟨v47, hv47⟩ : ∃ v, a.tmps.getD 47 undef = v := ⟨_, rfl⟩
    replace h47 := (congrArg (fun v => ((ownM 0 lb)).on v w) hv47).mp h47
    clear hs hg
    have Ho := Lib.hid (Own.bs h47)
    clear h47
    go_simp
    refine (HT.out w _ Ho.out).mono ?_
    rintro e w' ⟨rfl, hb⟩
    exact ⟨_, rfl, hb, rfl⟩
  · intro a w ht hs hg -- 49
    have h3 := By.same_get hs 3 (by decide) (by kernel_rfl)
    refine By.yes rfl ?_
    clear hs hg
    refine wp_loadRow 40 _ rfl h3 (Row.below (w := w7.drew) HS7.out ht HS7.out.lt) Try.underlying40 rfl (by kernel_rfl) Hsl.out ?_
    exact ⟨_, rfl, Grew.refl _, rfl⟩
  · intro a w ht hs hg -- 50
    have h48 : a.tmps.getD 48 undef = _ := By.given_get hg 3 rfl rfl (by kernel_rfl)
    have h49 : a.tmps.getD 49 undef = _ := By.given_get hg 4 rfl rfl (by kernel_rfl)
    refine By.yes rfl ?_
    clear hs hg
    go_simp
    refine (HL1.out w).mono ?_
    rintro e w' ⟨rfl, hb⟩
    exact ⟨_, rfl, hb, rfl⟩
  · intro a w ht hs hg -- 51
    have h6 := By.same_get hs 6 (by decide) (by kernel_rfl)
    refine By.yes rfl ?_
    clear hs hg
    refine wp_loadRow 40 _ rfl h6 (Row.below (w := w7.drew) HX7.out ht HX7.out.lt) Try.underlying40 rfl (by kernel_rfl) HXl.out ?_
    exact ⟨_, rfl, Grew.refl _, rfl⟩
  · intro a w ht hs hg -- 52
    have h7 := By.same_get hs 7 (by decide) (by kernel_rfl)
    refine By.yes rfl ?_
    clear hs hg
    refine wp_loadRow 40 _ rfl h7 (Row.below (w := w7.drew) HM7.out ht HM7.out.lt) Try.underlying40 rfl (by kernel_rfl) HMl.out ?_
    exact ⟨_, rfl, Grew.refl _, rfl⟩
  · intro a w ht hs hg -- 53
    have h51 : a.tmps.getD 51 undef = _ := By.given_get hg 6 rfl rfl (by kernel_rfl)
    have h52 : a.tmps.getD 52 undef = _ := By.given_get hg 7 rfl rfl (by kernel_rfl)
    refine By.yes rfl ?_
    clear hs hg
    go_simp
    refine (HL2.out w).mono ?_
    rintro e w' ⟨rfl, hb⟩
    exact ⟨_, rfl, hb, rfl⟩
  · intro a w ht hs hg -- 54
    have h50 : a.tmps.getD 50 undef = _ := By.given_get hg 5 rfl rfl (by kernel_rfl)
    have h53 : a.tmps.getD 53 undef = _ := By.given_get hg 8 rfl rfl (by kernel_rfl)
    refine By.yes rfl ?_
    clear hs hg
    refine wp_eqArr _ _ rfl (by kernel_rfl) h50 h53 (eq16 dd dd Hdd.out Hdd.out w) ?_
    exact ⟨_, rfl, Grew.refl _, congrArg Value.bool (by simp)⟩
  · intro a w ht hs hg -- 4
    have h54 : a.tmps.getD 54 undef = _ := By.given_get hg 9 rfl rfl (by kernel_rfl)
    refine By.yes rfl ?_
    clear hs hg
    go_simp
    exact ⟨_, rfl, Grew.refl _, rfl⟩
  refine By.ends_is (By.ends_is (By.ends_skip fun v47 => (By.ends_is (By.ends_is (By.ends_is (By.ends_is (By.ends_is (By.ends_is (By.ends_is (By.ends_is (By.ends_nil fun wz hz => ?_)))))))))))
  simp only [Act.put, List.setIfInBounds_toArray, List.set_cons_succ, List.set_cons_zero]
  go_wp2
  go_ret
  exact ⟨rfl, nextB (b := w7.drew) HB7.out.drew (Nat.le_refl _) hz⟩

set_option maxRecDepth 100000 in
theorem lift (os : Os) (started : os.Started) (H : Type) (enc : TypeId × Value → H) :
    ReturnsInHanded {} Try.checked os 9 .any (Rows.polyTwiceSpec.pre6 enc Try.prog Try.f9 Rows.polyTwiceRow.domain false) (Rows.polyTwiceSpec.post enc Try.prog Try.f9 false true false false) := by
  refine Law.lifted (C := Try.checked) 4 own started (by kernel_rfl) Try.func9 laid (by kernel_rfl) rfl Try.underlying4 rfl
    (fun ds hd => by
      have hd' : ds.length = 2 := hd
      match ds, hd' with
      | [d0, d1], _ => rfl)
    (ChangeSpec.witness6 (enc := enc) (C := Try.checked) false ⟨#[], #[.slice none 0 0, .agg (Array.replicate 16 (.int .u8 0))], []⟩ 8 (by kernel_rfl) (by kernel_rfl) (by kernel_rfl) (by kernel_rfl)) ?_
  intro W args ds ps hst
  have hA : DataW.TrodAll enc Try.prog W 0 (fun _ => true) true Try.f9.params.toList args.toList ds ps := hst.trod
  have hok := hst.okw
  have hlt := hst.lt
  rw [Try.params9] at hA hok
  obtain ⟨v0, v1, d0, d1, p0, p1, rfl, rfl, rfl, h0, h1⟩ := trodAll_two hA
  obtain ⟨_, hv0⟩ := hok 0 39 v0 rfl rfl
  obtain ⟨_, hv1⟩ := hok 1 40 v1 rfl rfl
  obtain ⟨s, rfl, hsl⟩ := arr8_at Try.underlying40 (by kernel_rfl) (by kernel_rfl) Try.underlying5 hv1
  obtain ⟨lb, hb, _⟩ := Law.bytes_at Try.underlying39 hv0 h0 (fun x hx => hlt x (by simp [hx]))
  obtain ⟨A1, c1, rfl, hc1, hcs⟩ := id hb
  by_cases hs : 16 < lb.length ∨ lb.length = 0
  · exact none_ s A1 _ c1 hs W
  by_cases h16 : lb.length = 16
  · obtain ⟨k, off, rfl, hk, hcell⟩ := hcs (by intro e; rw [e] at h16; cases h16)
    have hc15 : lb[15]? = some (lb.getD 15 0) := by rw [List.getD_eq_getElem?_getD, List.getElem?_eq_getElem (by omega)]; rfl
    rw [h16] at hb hc1 ⊢
    by_cases hu : 127 < (lb.getD 15 0).toNat
    · exact high s k off c1 _ hu hc1 W hk (hcell 15 _ hc15)
    · exact full s lb k off c1 _ (by omega) rfl hc1 hsl W h16 hb hk (hcell 15 _ hc15)
  · exact short s lb A1 _ c1 hsl W rfl hb (by omega) (by omega)

theorem over : Rows.polyTwiceRow.holds Try.pinned (OpenSpec.ofChange Rows.polyTwiceSpec) :=
  OpenClaim.holds_of_wide 9 Try.f9 rfl rfl rfl rfl rfl rfl rfl ⟨rfl, rfl, rfl, rfl, rfl⟩ rfl rfl rfl rfl rfl (by kernel_rfl) Try.func9 (by kernel_rfl)
    (of_decide_eq_true (by kernel_rfl)) (by unfold Func.isWrapper; first | (rw [if_pos (by decide +kernel)]; kernel_rfl) | (rw [if_neg (by decide +kernel)]; exact ⟨rfl, rfl⟩))
    (fun os started H enc _ => lift os started H enc)
theorem proved : Rows.PolyTwiceSaid := over
#print axioms proved
end Go.Proofs.Ytnihpdbbbpekiaa.polyTwice
