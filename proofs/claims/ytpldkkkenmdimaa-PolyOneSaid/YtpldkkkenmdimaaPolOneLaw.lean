/- For an r of 1 the tag is the sum of the blocks: 'drawbridgelaw03.PolyOne', for every argument. -/
import Derived.Test.YtpldkkkenmdimaaPolOneKit
import Derived.Test.YtpldkkkenmdimaaPolLives
import Derived.Test.YtpldkkkenmdimaaEqKit
import Derived.Test.YtpldkkkenmdimaaLaw
namespace Go.Proofs.Ytpldkkkenmdimaa.polyOne
open Go.ChangeShapes Go.WideShapes Go.ChangeAt Go.RowKit
open Pol (own mixed laid)
open PolOne
theorem wpList_build {P : Program} {w : World} {ops : Array Oper} {rest : List Oper} {o : Oper} {a : Act} {Q : Exit → Act → World → Prop} (hgd : o.guard = none) (t : TypeId) (parts : Array (Nat × Operand)) (ho : o.op = .build t parts) {v : Value}
    (hrun : (Instr.build t (parts.map fun (i, x) => (i, a.eval x))).run P w = .ok v w) (hk : wpList P ops Q rest (a.put o.dst v) w) : wpList P ops Q (o :: rest) a w := by
  refine wpList_plain hgd fun K hK => ?_
  unfold Oper.wp execOp
  simp only [ho, Sem.run_bind, Sem.run_pure, Result.andThen_ok, hrun]
  exact hK _ _ hk
theorem wpList_loadCells {P : Program} {w : World} {ops : Array Oper} {rest : List Oper} {o : Oper} {a : Act} {Q : Exit → Act → World → Prop} (hgd : o.guard = none) (ty : TypeId) (x : Operand) (ho : o.op = .load ty x)
    {g off n : Nat} (hx : a.eval x = .pointer (some ⟨g, off, none⟩)) {cs : List Value} {d : TypeDesc} (h : ∀ j v, cs[j]? = some v → w.cell? ⟨g, off + j, none⟩ = some v) (hu : P.underlying ty = some d) (hd : (match d with | .struct _ | .array _ _ => true | _ => false) = true)
    (hi : (P.info? ty).map (·.size) = some n) (hn : cs.length = n) (hk : wpList P ops Q rest (a.put o.dst (.agg cs.toArray)) w) : wpList P ops Q (o :: rest) a w := by
  refine wpList_plain hgd fun K hK => ?_
  have hl : (loadCells ⟨g, off, none⟩ cs.length).run P w = .ok cs.toArray w :=
    run_loadCells_list (P := P) w ⟨g, off, none⟩ cs (fun j v hv => by
      have hadd : (⟨g, off, none⟩ : Addr).add j = ⟨g, off + j, none⟩ := by unfold Addr.add; split <;> simp_all
      rw [hadd]
      exact h j v hv)
  rw [hn] at hl
  have hrun : (loadVar ty ⟨g, off, none⟩).run P w = .ok (.agg cs.toArray) w := by
    cases hq : P.info? ty with
    | none => simp [hq] at hi
    | some i =>
      have hs : i.size = n := by simpa [hq] using hi
      have hagg : (isAgg ty).run P w = .ok true w := by
        unfold isAgg
        rw [Sem.run_bind, run_underlying hu w]
        cases d <;> simp_all
      simp [loadVar, Sem.run_bind, hagg, sizeOf, typeInfo, hq, hs, hl]
  unfold Oper.wp execOp
  simp only [ho, hx, Instr.loadAt, Instr.sureAddr, Sem.run_bind, Sem.run_pure, Result.andThen_ok, hrun]
  exact hK _ _ hk
theorem keep_row {w : World} {base g : Nat} {v : Value} {l : List UInt8} (h : Own w base v l) (hg : g < base) (cs : Array Value) : Own (w.setRow g cs) base v l := by
  refine ⟨h.1, ?_⟩
  rcases h.2 with h2 | ⟨b, cap, cur, h3, h4, h5, h6⟩
  · exact .inl h2
  · refine .inr ⟨b, cap, cur, h3, h4, ?_, h6⟩
    rw [← h5]
    exact setRow_other w g b cs (by omega)
theorem keep_cell {w : World} {base : Nat} {v : Value} {l : List UInt8} (h : Own w base v l) (p : Addr) (x : Value) (hg : ∀ b, v.ownBlock = some b → b ≠ p.block) : Own (w.setCell p x) base v l := by
  refine ⟨h.1, ?_⟩
  rcases h.2 with h2 | ⟨b, cap, cur, h3, h4, h5, h6⟩
  · exact .inl h2
  · refine .inr ⟨b, cap, cur, h3, h4, ?_, h6⟩
    rw [← h5]
    exact Below.heap_setCell _ _ _ _ (hg b (by rw [h3]; rfl))
/-- Two rows in different blocks. -/
def Apart (v u : Value) : Prop := ∀ g, v.ownBlock = some g → u.ownBlock ≠ some g
/-- The blocks from the k-th one on, round. -/
def rot (ls : List (List UInt8)) (k i : Nat) : List (List UInt8) := (List.range i).map fun j => ls.getD ((j + k) % ls.length) []
theorem rot_succ (ls : List (List UInt8)) (k i : Nat) : rot ls k (i + 1) = rot ls k i ++ [ls.getD ((i + k) % ls.length) []] := by simp [rot, List.range_succ]
theorem rot_length (ls : List (List UInt8)) (k i : Nat) : (rot ls k i).length = i := by simp [rot]
theorem rot_mem (ls : List (List UInt8)) (k i : Nat) (h : ∀ l ∈ ls, l.length = 16) (h0 : 0 < ls.length) : ∀ l ∈ rot ls k i, l.length = 16 := by
  intro l hl
  simp only [rot, List.mem_map, List.mem_range] at hl
  obtain ⟨j, _, rfl⟩ := hl
  have hlt := Nat.mod_lt (j + k) h0
  rw [List.getD_eq_getElem?_getD, List.getElem?_eq_getElem hlt]
  exact h _ (List.getElem_mem hlt)
theorem rot_all (ls : List (List UInt8)) (k : Nat) (hk : k ≤ ls.length) : rot ls k ls.length = ls.drop k ++ ls.take k := by
  apply List.ext_getElem?
  intro i
  by_cases hi : i < ls.length
  · rw [rot, List.getElem?_map, List.getElem?_range hi]
    simp only [Option.map_some]
    by_cases hik : i + k < ls.length
    · rw [Nat.mod_eq_of_lt hik, List.getD_eq_getElem?_getD, List.getElem?_append_left (by rw [List.length_drop]; omega), List.getElem?_drop, Nat.add_comm k i, List.getElem?_eq_getElem hik]; rfl
    · have e : (i + k) % ls.length = i + k - ls.length := by
        rw [Nat.mod_eq_sub_mod (by omega), Nat.mod_eq_of_lt (by omega)]
      rw [e, List.getD_eq_getElem?_getD, List.getElem?_append_right (by rw [List.length_drop]; omega), List.length_drop, List.getElem?_take, if_pos (by omega), List.getElem?_eq_getElem (by omega), List.getElem?_eq_getElem (by omega)]
      simp only [Option.getD_some, Option.some.injEq]
      congr 1
      omega
  · rw [List.getElem?_eq_none (by rw [rot_length]; omega), List.getElem?_eq_none (by simp; omega)]
theorem total_rot (ls : List (List UInt8)) (k : Nat) (hk : k ≤ ls.length) : total (rot ls k ls.length) = total ls := by
  rw [rot_all ls k hk, total_append, Nat.add_comm, ← total_append, List.take_append_drop]
set_option maxRecDepth 100000 in
set_option maxHeartbeats 1000000 in
theorem long (A : Option Addr) (n c : Nat) (t : Int) (h : 15 < n) (w : World) :
    Calls Try.prog 5 #[.slice A n c, .int .i64 t] w fun e w' => e = .returned (.bool true) ∧ Below w.heap.size w w' := by
  have h1' : (15 : Int) < (n : Int) := by omega
  go_enter Try.func5, Try.ntmps5
  go_wp2_with (go_at_call 14; refine (Pol.lives_any _).mono ?_; rintro e w1 ⟨rfl, hb1⟩; have HB1 := Lib.hid hb1; clear hb1)
  go_ret
  exact ⟨rfl, HB1.out⟩
theorem at15 {l : List UInt8} (h : l.length = 16) : (l.map bv)[15]? = some (bv (l.getD 15 0)) := by
  rw [List.getElem?_map, List.getD_eq_getElem?_getD, List.getElem?_eq_getElem (by omega)]; rfl
theorem cut_row {l : List UInt8} {u : UInt8} (hu : l.getD 15 0 = u) : (l.map bv).set 15 (.int .u8 ((u.toNat : Int) % 16)) = (cut16 l).map bv := by
  unfold cut16
  rw [List.map_set, hu]
  rfl
theorem bs16 {w : World} {g : Nat} {l : List UInt8} {t : TypeId} (h : Row w g (l.map bv) t) (hl : l.length = 16) : Bs w (g + 1) (.slice (some ⟨g, 0, none⟩) 16 16) l := by
  have := Row.bs h (Nat.lt_succ_self g)
  rwa [hl] at this
theorem take_snoc {ls : List (List UInt8)} {i : Nat} {l : List UInt8} (h : ls[i]? = some l) : ls.take (i + 1) = ls.take i ++ [l] := by rw [List.take_add_one, h]; rfl
theorem rot_snoc {ls : List (List UInt8)} {k i : Nat} {m : List UInt8} (h : ls[(i + k) % ls.length]? = some m) : rot ls k (i + 1) = rot ls k i ++ [m] := by
  rw [rot_succ, List.getD_eq_getElem?_getD, h]; rfl
theorem apart_ne {v u : Value} (h : Apart v u) : u.ownBlock = none ∨ u.ownBlock ≠ v.ownBlock := by
  cases hu : u.ownBlock with
  | none => exact .inl rfl
  | some g => exact .inr fun e => h g e.symm hu
theorem Apart.symm {v u : Value} (h : Apart v u) : Apart u v := fun g h1 h2 => h g h2 h1
theorem apart_grown {v v' u : Value} {n : Nat} (h : Apart v u) (hv : v'.ownBlock = v.ownBlock ∨ v'.ownBlock = some n) (hu : ∀ g, u.ownBlock = some g → g < n) : Apart v' u := by
  intro g h1 h2
  rcases hv with e | e
  · exact h g (e ▸ h1) h2
  · rw [h1] at e
    have := hu g h2
    have : g = n := by simpa using e
    omega
theorem sum_step {ls : List (List UInt8)} {i : Nat} {l : List UInt8} (h : ls[i]? = some l) (hl : l.length = 16) :
    Pol.lessB (Poly.bytes16 (total (ls.take i))) (Pol.lessB (List.replicate 16 0) (cut16 l)) = Poly.bytes16 (total (ls.take (i + 1))) := by
  rw [lessB_add _ _ (cut16_length _ hl), Poly.le_bytes16, take_snoc h, total_append]
  have e1 : total [l] = Poly.le (cut16 l) := Nat.add_zero _
  rw [e1]
  apply Poly.bytes16_inj
  generalize total (ls.take i) = s
  generalize Poly.le (cut16 l) = x
  omega
def five (n : Nat) : List UInt8 := UInt8.ofNat (5 * (n / 4)) :: List.replicate 15 0
theorem le_five (n : Nat) (h : n ≤ 15) : Poly.le (five n) = 5 * (n / 4) := by
  have h2 : ∀ a : Fin 4, Poly.le (UInt8.ofNat (5 * a.val) :: List.replicate 15 0) = 5 * a.val := by decide
  exact h2 ⟨n / 4, by omega⟩
def Z32 : List UInt8 := List.replicate 32 0
def Z16 : List UInt8 := List.replicate 16 0
def Stop (p : Prop) : Prop := p
theorem stop {p : Prop} (h : Stop p) : p := h
set_option maxRecDepth 100000 in
set_option maxHeartbeats 2000000 in
theorem walk (ls : List (List UInt8)) (A : Option Addr) (n c : Nat) (t : Int) (hls : ls.length = n) (h16 : ∀ l ∈ ls, l.length = 16) (hn : n ≤ 15) (ht : -9223372036854775808 ≤ t ∧ t ≤ 9223372036854775807) (w : World) (hb : Blks w w.heap.size (.slice A n c) ls) :
    Calls Try.prog 5 #[.slice A n c, .int .i64 t] w fun e w' => e = .returned (.bool true) ∧ Below w.heap.size w w' := by
  have h1' : ¬ (15 : Int) < (n : Int) := by omega
  have Hls := Lib.hid hls
  have H16 := Lib.hid h16
  have Hn := Lib.hid hn
  have Ht := Lib.hid ht
  have Hb := Lib.hid hb
  have Hk1l := Lib.hid (show (key1.map bv).length = 32 from rfl)
  clear hls h16 hn ht hb
  go_enter Try.func5, Try.ntmps5
  go_wp2_with (first
    | (go_at_call 14; refine (Pol.lives_any _).mono ?_; rintro e w1 ⟨rfl, hb1⟩; have HB1 := Lib.hid hb1; clear hb1)
    | (refine wpList_build rfl _ _ rfl (v := .agg (key1.map bv).toArray) (by kernel_rfl) ?_)
    | (try simp only [Act.put, List.setIfInBounds_toArray, List.set_cons_succ, List.set_cons_zero]
       refine wpList_storeRow (n := 32) rfl 24 (.tmp 5) (.tmp 19) rfl rfl rfl (cs := key1.map bv) (old := Z32.map bv) (g := w1.heap.size) (t := 24) ?_ (by kernel_rfl) rfl (by simp [Z32]) (Pol.bytes1 _) ?_
       · exact Row.new rfl rfl
       obtain ⟨w2, hw2⟩ : ∃ w2, (w1.alloc (.cells (Z32.map bv).toArray 24)).setRow w1.heap.size (key1.map bv).toArray = w2 := ⟨_, rfl⟩
       have HK2 := Lib.hid (show Row w2 w1.heap.size (key1.map bv) 24 from hw2 ▸ (Row.new (cs := Z32.map bv) rfl rfl).setRow _)
       have hb12 : Below w1.heap.size w1 w2 := hw2 ▸ below_setRow ((Below.refl _ w1).alloc (Nat.le_refl _) _) (Nat.le_refl _) _
       have HB2 := Lib.hid (nextB HB1.out (Nat.le_refl _) hb12)
       refine wpList_world hw2 ?_
       clear hw2 hb12)
    | fail)
  refine (Pick_any t ((n : Int) + 1) _ Ht.out (by have := Hn.out; omega)).mono ?_
  obtain ⟨k, hk, hkn⟩ : ∃ k : Nat, pick t ((n : Int) + 1) = (k : Int) ∧ k ≤ n := ⟨(pick t ((n : Int) + 1)).toNat, by have := pick_in t ((n : Int) + 1) (by omega); omega, by have := pick_in t ((n : Int) + 1) (by omega); omega⟩
  rw [hk]
  have Hkn := Lib.hid hkn
  rintro e w3 ⟨rfl, hw3'⟩
  have hw3 : w2.alloc (.cells ((List.replicate 16 (0 : UInt8)).map bv).toArray 35) = w3 := hw3'
  clear hw3'
  obtain ⟨gK, hgK⟩ : ∃ g, w1.heap.size = g := ⟨_, rfl⟩
  obtain ⟨gS, hgS⟩ : ∃ g, w2.heap.size = g := ⟨_, rfl⟩
  have HS3 := Lib.hid (show Row w3 gS ((Poly.bytes16 (total (ls.take 0))).map bv) 35 from hw3 ▸ Row.new hgS (by rw [List.take_zero]; rfl))
  have HB3 := Lib.hid (show Below w.heap.size w w3 from hw3 ▸ HB2.out.alloc HB2.out.size _)
  have HK3 := Lib.hid (show Row w3 gK (key1.map bv) 24 from hw3 ▸ (hgK ▸ HK2.out).alloc _)
  obtain ⟨L0, hL0⟩ : ∃ g, w3.heap.size = g := ⟨_, rfl⟩
  have HgK := Lib.hid (show gK < gS from hgS ▸ hgK ▸ HK2.out.lt)
  have HgS := Lib.hid (show gS < L0 from hL0 ▸ HS3.out.lt)
  have HL3 := Lib.hid (show w.heap.size ≤ gK from hgK ▸ HB1.out.size)
  rw [hgK, hgS]
  have HLO := Lib.hid (Nat.le_of_eq hL0.symm)
  have HwL := Lib.hid (show w.heap.size ≤ L0 from hL0 ▸ HB3.out.size)
  clear hk hkn hgK hgS hL0 hw3
  go_wp2_with fail
  go_loopw [6, 7, 10] (fun vb vc vi wr => ∃ i : Nat, i ≤ ls.length ∧ vi = .int .i64 (i : Int) ∧ Own wr L0 vb (joined (ls.take i)) ∧ Own wr L0 vc (joined (rot ls k i)) ∧ Apart vb vc ∧ Row wr gS ((Poly.bytes16 (total (ls.take i))).map bv) 35 ∧ Row wr gK (key1.map bv) 24 ∧ Below w.heap.size w wr ∧ L0 ≤ wr.heap.size) (fun _ _ vi _ => ls.length - (intOf vi).toNat)
  case atStart => exact ⟨0, Nat.zero_le _, rfl, Own.nil _ _, Own.nil _ _, (fun g hg => by simp [Value.ownBlock] at hg), HS3.out, HK3.out, HB3.out, HLO.out⟩
  case round =>
    obtain ⟨i, hi, rfl, hb4, hc4, hap, hs4, hk4, hbel, hl4⟩ := hrel
    have Hi := Lib.hid hi
    have HOb := Lib.hid hb4
    have HOc := Lib.hid hc4
    have Hap := Lib.hid hap
    have HS4 := Lib.hid hs4
    have HK4 := Lib.hid hk4
    have HB4 := Lib.hid hbel
    have HL4 := Lib.hid hl4
    clear hi hb4 hc4 hap hs4 hk4 hbel hl4
    by_cases h1 : i < n
    · have h1' : (i : Int) < (n : Int) := by omega
      obtain ⟨A', c', hA, hle, hcells⟩ := Hb.out
      simp only [Value.slice.injEq] at hA
      obtain ⟨rfl, hn', rfl⟩ := hA
      obtain ⟨b, off, rfl, hlt, hcell⟩ := hcells (by rintro rfl; have := Hls.out; simp at this; omega)
      obtain ⟨q, hq⟩ : ∃ q, (i + k) % n = q := ⟨_, rfl⟩
      have hi2 : q < n := hq ▸ Nat.mod_lt _ (by omega)
      have Hq := Lib.hid hq
      obtain ⟨l, hl⟩ : ∃ l, ls[i]? = some l := ⟨_, List.getElem?_eq_getElem (by have := Hls.out; omega)⟩
      obtain ⟨m, hm⟩ : ∃ m, ls[q]? = some m := ⟨_, List.getElem?_eq_getElem (by have := Hls.out; omega)⟩
      have Hl16 := Lib.hid (H16.out l (List.mem_of_getElem? hl))
      have Hm16 := Lib.hid (H16.out m (List.mem_of_getElem? hm))
      have cells_of : ∀ (q : Nat) (x : List UInt8), ls[q]? = some x → ∀ j v, (x.map bv)[j]? = some v → w.cell? ⟨b, off + q * 16 + j, none⟩ = some v := by
        intro q x hx j v hv
        rw [List.getElem?_map, Option.map_eq_some_iff] at hv
        obtain ⟨u, hu, rfl⟩ := hv
        rw [Nat.add_assoc]
        exact hcell q x hx j u hu
      have Hcl := Lib.hid (cells_of i l hl)
      have Hcm := Lib.hid (cells_of _ m hm)
      have Hl := Lib.hid hl
      have Hm := Lib.hid hm
      have Hlt := Lib.hid hlt
      have Hi2 := Lib.hid hi2
      clear hq
      have Hjb := Lib.hid (show (joined (ls.take i)).length ≤ 240 by rw [joined_length _ fun x hx => H16.out x (List.mem_of_mem_take hx), List.length_take]; have := Hls.out; have := Hn.out; omega)
      have Hjc := Lib.hid (show (joined (rot ls k i)).length ≤ 240 by rw [joined_length _ (rot_mem ls k i H16.out (by have := Hls.out; omega)), rot_length]; have := Hls.out; have := Hn.out; omega)
      clear cells_of hl hm hlt hi2 hcell hcells hle hn'
      go_wp2_with (first
        | (refine wpList_loadCells rfl 35 (.tmp 33) rfl (g := b) (off := off + i * 16) (n := 16) rfl (cs := l.map bv) (fun j v hv => (HB4.out.cell (p := ⟨b, off + i * 16 + j, none⟩) Hlt.out).trans (Hcl.out j v hv)) Try.underlying35 rfl (by kernel_rfl) (by rw [List.length_map]; exact Hl16.out) ?_)
        | (try simp only [Act.put, List.setIfInBounds_toArray, List.set_cons_succ, List.set_cons_zero]
           refine wpList_storeRow (n := 16) rfl 35 (.tmp 11) (.tmp 34) rfl rfl rfl (cs := l.map bv) (old := Z16.map bv) (g := wr.heap.size) (t := 35) ?_ (by kernel_rfl) (by rw [List.length_map]; exact Hl16.out) (by simp [Z16]) (Pol.bytes1 _) ?_
           · exact Row.new rfl rfl
           obtain ⟨gx, hgx⟩ : ∃ g, wr.heap.size = g := ⟨_, rfl⟩
           rw [hgx]
           obtain ⟨w5, hw5⟩ : ∃ w5, (wr.alloc (.cells (Z16.map bv).toArray 35)).setRow gx (l.map bv).toArray = w5 := ⟨_, rfl⟩
           have HX5 := Lib.hid (show Row w5 gx (l.map bv) 35 from hw5 ▸ (Row.new (cs := Z16.map bv) hgx rfl).setRow _)
           have hb45 : Below gx wr w5 := hw5 ▸ below_setRow ((Below.refl _ wr).alloc (Nat.le_of_eq hgx.symm) _) (Nat.le_refl _) _
           have Hgx := Lib.hid (show L0 ≤ gx from hgx ▸ HL4.out)
           have HB5 := Lib.hid (HB4.out.trans (hb45.mono (hgx ▸ HB4.out.size)))
           have HOb5 := Lib.hid (HOb.out.below hb45 (Nat.le_of_eq hgx))
           have HOc5 := Lib.hid (HOc.out.below hb45 (Nat.le_of_eq hgx))
           have HS5 := Lib.hid (HS4.out.below hb45 (hgx ▸ HS4.out.lt))
           have HK5 := Lib.hid (HK4.out.below hb45 (hgx ▸ HK4.out.lt))
           have HbX := Lib.hid (show ∀ q, u6.ownBlock = some q → q < gx from fun q hq => hgx ▸ (HOb.out.block_ge hq).2)
           have HcX := Lib.hid (show ∀ q, u7.ownBlock = some q → q < gx from fun q hq => hgx ▸ (HOc.out.block_ge hq).2)
           have hx15 := HX5.out.cell (at15 Hl16.out)
           have hfr : w5.frozen? ⟨gx, 15, none⟩ = false := frozen_row HX5.out _
           obtain ⟨u, hu⟩ : ∃ u, l.getD 15 0 = u := ⟨_, rfl⟩
           rw [hu] at hx15
           have Hu := Lib.hid hu
           unfold bv at hx15
           refine wpList_world hw5 ?_
           clear hw5 hb45 hgx hu)
        | (obtain ⟨w6, hw6⟩ : ∃ w6, w5.setCell ⟨gx, 15, none⟩ (.int .u8 ((u.toNat : Int) % 16)) = w6 := ⟨_, rfl⟩
           refine wpList_world hw6 ?_
           refine stop ?_)
        | fail)
      unfold Stop
      have HX6 := Lib.hid (show Row w6 gx ((cut16 l).map bv) 35 from by rw [← hw6]; exact (HX5.out.set 15 _).same (cut_row Hu.out).symm)
      have hb56 : Below gx w5 w6 := hw6 ▸ (Below.refl gx w5).setCell (p := ⟨gx, 15, none⟩) (Nat.le_refl _) _
      have HB6 := Lib.hid (HB5.out.trans (hb56.mono (Nat.le_trans HwL.out Hgx.out)))
      have HOb6 := Lib.hid (show Own w6 L0 u6 (joined (ls.take i)) from by rw [← hw6]; exact keep_cell HOb5.out _ _ fun q hq e => Nat.ne_of_lt (HbX.out q hq) e)
      have HOc6 := Lib.hid (show Own w6 L0 u7 (joined (rot ls k i)) from by rw [← hw6]; exact keep_cell HOc5.out _ _ fun q hq e => Nat.ne_of_lt (HcX.out q hq) e)
      have HS6 := Lib.hid (HS5.out.below hb56 (Nat.lt_of_lt_of_le HgS.out Hgx.out))
      have HK6 := Lib.hid (HK5.out.below hb56 (Nat.lt_trans HgK.out (Nat.lt_of_lt_of_le HgS.out Hgx.out)))
      clear hw6 hb56 hx15 hfr
      go_wp2_with (first
        | (at_builtin
           refine wpList_app_bytes _ rfl _ _ rfl rfl HOb6.out rfl (bs16 HX6.out (cut16_length _ Hl16.out)) (by have := Hjb.out; rw [cut16_length _ Hl16.out]; omega) (Nat.le_of_lt (Nat.lt_of_le_of_lt Hgx.out HX6.out.lt)) ?_
           intro v7 w7 ho7 hg7 ha7
           refine stop ?_)
        | fail)
      unfold Stop
      have HOb7 := Lib.hid (show Own w7 L0 v7 (joined (ls.take (i + 1))) from by rw [take_snoc Hl.out, joined_snoc]; exact ho7)
      have HX7 := Lib.hid (show Row w7 gx ((cut16 l).map bv) 35 from (hg7.block gx HX6.out.lt (fun e => Nat.ne_of_lt (HbX.out gx e.symm) rfl)).trans HX6.out)
      have hb67 : Below L0 w6 w7 := (Below.refl _ w6).grown hg7 (Nat.le_of_lt (Nat.lt_of_le_of_lt Hgx.out HX6.out.lt)) (fun q hq => (HOb6.out.block_ge hq).1)
      have HOc7 := Lib.hid (HOc6.out.kept hg7 (apart_ne Hap.out))
      have HS7 := Lib.hid (HS6.out.below hb67 HgS.out)
      have HK7 := Lib.hid (HK6.out.below hb67 (Nat.lt_trans HgK.out HgS.out))
      have HB7 := Lib.hid (HB6.out.trans (hb67.mono HwL.out))
      have Hap7 := Lib.hid (apart_grown Hap.out ha7 fun q hq => (HOc6.out.block_ge hq).2)
      have HL7 := Lib.hid (Nat.le_trans (Nat.le_of_lt (Nat.lt_of_le_of_lt Hgx.out HX6.out.lt)) hb67.size)
      clear ho7 hg7 ha7 hb67
      have hmod : (wrap64 ((i : Int) + (k : Int))).tmod (n : Int) = (q : Int) := by
        have hw : wrap64 ((i : Int) + (k : Int)) = (i : Int) + (k : Int) := by
          have := Hn.out
          have := Hkn.out
          unfold wrap64
          omega
        rw [hw, ← Int.natCast_add]
        rw [← Hq.out]
        exact (Int.ofNat_tmod _ _).symm
      have Hk2 := Lib.hid (show (q : Int) < (n : Int) from by have := Hi2.out; omega)
      have hk2 := Hk2.out
      go_wp2_with (first
        | (refine wpList_loadCells rfl 35 (.tmp 49) rfl (g := b) (off := off + q * 16) (n := 16) rfl (cs := m.map bv) (fun j v hv => (HB7.out.cell (p := ⟨b, off + q * 16 + j, none⟩) Hlt.out).trans (Hcm.out j v hv)) Try.underlying35 rfl (by kernel_rfl) (by rw [List.length_map]; exact Hm16.out) ?_)
        | (try simp only [Act.put, List.setIfInBounds_toArray, List.set_cons_succ, List.set_cons_zero]
           refine wpList_storeRow (n := 16) rfl 35 (.tmp 12) (.tmp 50) rfl rfl rfl (cs := m.map bv) (old := Z16.map bv) (g := w7.heap.size) (t := 35) ?_ (by kernel_rfl) (by rw [List.length_map]; exact Hm16.out) (by simp [Z16]) (Pol.bytes1 _) ?_
           · exact Row.new rfl rfl
           refine stop ?_)
        | fail)
      unfold Stop
      clear hmod hk2
      obtain ⟨gy, hgy⟩ : ∃ g, w7.heap.size = g := ⟨_, rfl⟩
      rw [hgy]
      obtain ⟨w8, hw8⟩ : ∃ w8, (w7.alloc (.cells (Z16.map bv).toArray 35)).setRow gy (m.map bv).toArray = w8 := ⟨_, rfl⟩
      refine wpList_world hw8 ?_
      have HY8 := Lib.hid (show Row w8 gy (m.map bv) 35 from hw8 ▸ (Row.new (cs := Z16.map bv) hgy rfl).setRow _)
      have hb78 : Below gy w7 w8 := hw8 ▸ below_setRow ((Below.refl _ w7).alloc (Nat.le_of_eq hgy.symm) _) (Nat.le_refl _) _
      have Hgxy := Lib.hid (show gx < gy from hgy ▸ HX7.out.lt)
      have Hgy := Lib.hid (show L0 ≤ gy from Nat.le_of_lt (Nat.lt_of_le_of_lt Hgx.out Hgxy.out))
      have HB8 := Lib.hid (HB7.out.trans (hb78.mono (Nat.le_trans HwL.out Hgy.out)))
      have HOb8 := Lib.hid (HOb7.out.below hb78 (Nat.le_of_eq hgy))
      have HOc8 := Lib.hid (HOc7.out.below hb78 (Nat.le_of_eq hgy))
      have HX8 := Lib.hid (HX7.out.below hb78 Hgxy.out)
      have HS8 := Lib.hid (HS7.out.below hb78 (Nat.lt_of_lt_of_le HgS.out Hgy.out))
      have HK8 := Lib.hid (HK7.out.below hb78 (Nat.lt_trans HgK.out (Nat.lt_of_lt_of_le HgS.out Hgy.out)))
      have HbY := Lib.hid (show ∀ q, v7.ownBlock = some q → q < gy from fun q hq => hgy ▸ (HOb7.out.block_ge hq).2)
      have HcY := Lib.hid (show ∀ q, u7.ownBlock = some q → q < gy from fun q hq => Nat.lt_trans (HcX.out q hq) Hgxy.out)
      have hx15 := HY8.out.cell (at15 Hm16.out)
      have hfr : w8.frozen? ⟨gy, 15, none⟩ = false := frozen_row HY8.out _
      obtain ⟨u2, hu2⟩ : ∃ u, m.getD 15 0 = u := ⟨_, rfl⟩
      rw [hu2] at hx15
      have Hu2 := Lib.hid hu2
      unfold bv at hx15
      clear hw8 hb78 hgy hu2
      go_wp2_with (first
        | (obtain ⟨w9, hw9⟩ : ∃ w9, w8.setCell ⟨gy, 15, none⟩ (.int .u8 ((u2.toNat : Int) % 16)) = w9 := ⟨_, rfl⟩
           refine wpList_world hw9 ?_
           refine stop ?_)
        | fail)
      unfold Stop
      have HY9 := Lib.hid (show Row w9 gy ((cut16 m).map bv) 35 from by rw [← hw9]; exact (HY8.out.set 15 _).same (cut_row Hu2.out).symm)
      have hb89 : Below gy w8 w9 := hw9 ▸ (Below.refl gy w8).setCell (p := ⟨gy, 15, none⟩) (Nat.le_refl _) _
      have HB9 := Lib.hid (HB8.out.trans (hb89.mono (Nat.le_trans HwL.out Hgy.out)))
      have HOb9 := Lib.hid (show Own w9 L0 v7 (joined (ls.take (i + 1))) from by rw [← hw9]; exact keep_cell HOb8.out _ _ fun q hq e => Nat.ne_of_lt (HbY.out q hq) e)
      have HOc9 := Lib.hid (show Own w9 L0 u7 (joined (rot ls k i)) from by rw [← hw9]; exact keep_cell HOc8.out _ _ fun q hq e => Nat.ne_of_lt (HcY.out q hq) e)
      have HX9 := Lib.hid (HX8.out.below hb89 Hgxy.out)
      have HS9 := Lib.hid (HS8.out.below hb89 (Nat.lt_of_lt_of_le HgS.out Hgy.out))
      have HK9 := Lib.hid (HK8.out.below hb89 (Nat.lt_trans HgK.out (Nat.lt_of_lt_of_le HgS.out Hgy.out)))
      clear hw9 hb89 hx15 hfr
      go_wp2_with (first
        | (at_builtin
           refine wpList_app_bytes _ rfl _ _ rfl rfl HOc9.out rfl (bs16 HY9.out (cut16_length _ Hm16.out)) (by have := Hjc.out; rw [cut16_length _ Hm16.out]; omega) (Nat.le_of_lt (Nat.lt_of_le_of_lt Hgy.out HY9.out.lt)) ?_
           intro v10 w10 ho10 hg10 ha10
           refine stop ?_)
        | fail)
      unfold Stop
      have HOc10 := Lib.hid (show Own w10 L0 v10 (joined (rot ls k (i + 1))) from by rw [rot_snoc (by rw [Hls.out, Hq.out]; exact Hm.out), joined_snoc]; exact ho10)
      have HX10 := Lib.hid (show Row w10 gx ((cut16 l).map bv) 35 from (hg10.block gx HX9.out.lt (fun e => Nat.ne_of_lt (HcX.out gx e.symm) rfl)).trans HX9.out)
      have hb910 : Below L0 w9 w10 := (Below.refl _ w9).grown hg10 (Nat.le_of_lt (Nat.lt_of_le_of_lt Hgy.out HY9.out.lt)) (fun q hq => (HOc9.out.block_ge hq).1)
      have HOb10 := Lib.hid (HOb9.out.kept hg10 (apart_ne Hap7.out.symm))
      have HS10 := Lib.hid (HS9.out.below hb910 HgS.out)
      have HK10 := Lib.hid (HK9.out.below hb910 (Nat.lt_trans HgK.out HgS.out))
      have HB10 := Lib.hid (HB9.out.trans (hb910.mono HwL.out))
      have Hap10 := Lib.hid (apart_grown Hap7.out.symm ha10 fun q hq => (HOb9.out.block_ge hq).2).symm
      have HL10 := Lib.hid (Nat.le_trans (Nat.le_of_lt (Nat.lt_of_le_of_lt Hgy.out HY9.out.lt)) hb910.size)
      clear ho10 hg10 ha10 hb910
      obtain ⟨X, hX⟩ : ∃ X, cut16 l = X := ⟨_, rfl⟩
      obtain ⟨S, hS⟩ : ∃ S, Poly.bytes16 (total (ls.take i)) = S := ⟨_, rfl⟩
      obtain ⟨M, hM⟩ : ∃ M, Pol.lessB (List.replicate 16 (0 : UInt8)) X = M := ⟨_, rfl⟩
      obtain ⟨S', hS'⟩ : ∃ S', Pol.lessB S M = S' := ⟨_, rfl⟩
      have hXl : X.length = 16 := by rw [← hX]; exact cut16_length _ Hl16.out
      have hSl : S.length = 16 := by rw [← hS]; exact Poly.bytes16_length _
      have hMl : M.length = 16 := by rw [← hM]; exact Pol.lessB_length _ _
      have hSl' : S'.length = 16 := by rw [← hS']; exact Pol.lessB_length _ _
      have HSt := Lib.hid (show S' = Poly.bytes16 (total (ls.take (i + 1))) from by rw [← hS', ← hM, ← hS, ← hX]; exact sum_step Hl.out Hl16.out)
      have HC1 := Lib.hid (show ∀ W : World, Calls Try.prog 22 #[arr8 (List.replicate 16 (0 : UInt8)), arr8 X] W fun e w' => e = .returned (arr8 M) ∧ Below W.heap.size W w' from fun W => hM ▸ Pol.Less_any (List.replicate 16 0) X (by decide) hXl W)
      have HC2 := Lib.hid (show ∀ W : World, Calls Try.prog 22 #[arr8 S, arr8 M] W fun e w' => e = .returned (arr8 S') ∧ Below W.heap.size W w' from fun W => hS' ▸ Pol.Less_any S M hSl hMl W)
      have HXl := Lib.hid (show (X.map bv).length = 16 by rw [List.length_map]; exact hXl)
      have HSl := Lib.hid (show (S.map bv).length = 16 by rw [List.length_map]; exact hSl)
      have HSl' := Lib.hid (show (S'.map bv).length = 16 by rw [List.length_map]; exact hSl')
      rw [hX] at HX10
      rw [hS] at HS10
      clear hX hS hM hS' hXl hSl hMl hSl'
      go_wp2_with fail
      refine Tail.marksAt mixed 5 Grew [By.is (arr8 S),
        By.is (arr8 (List.replicate 16 (0 : UInt8))),
        By.is (arr8 X),
        By.is (arr8 M),
        By.is (arr8 S')]
        (Ev.masks _ []) (Nat.zero_lt_succ _) (by kernel_rfl) (by kernel_rfl) rfl Grew.refl Grew.trans ⟨?_, ?_, ?_, ?_, ?_, trivial⟩ ?_
      · intro a w ht hs hg -- 58
        have h8 := By.same_get hs 8 (by decide) (by kernel_rfl)
        refine By.yes rfl ?_
        clear hs hg
        refine wp_loadRow 35 _ rfl h8 (Row.below (w := w10.drew) HS10.out ht HS10.out.lt) Try.underlying35 rfl (by kernel_rfl) HSl.out ?_
        exact ⟨_, rfl, Grew.refl _, rfl⟩
      · intro a w ht hs hg -- 59
        refine By.yes rfl ?_
        clear hs hg
        go_simp
        exact ⟨_, rfl, Grew.refl _, rfl⟩
      · intro a w ht hs hg -- 60
        have h11 := By.same_get hs 11 (by decide) (by kernel_rfl)
        refine By.yes rfl ?_
        clear hs hg
        refine wp_loadRow 35 _ rfl h11 (Row.below (w := w10.drew) HX10.out ht HX10.out.lt) Try.underlying35 rfl (by kernel_rfl) HXl.out ?_
        exact ⟨_, rfl, Grew.refl _, rfl⟩
      · intro a w ht hs hg -- 61
        have h59 : a.tmps.getD 59 undef = _ := By.given_get hg 1 rfl rfl (by kernel_rfl)
        have h60 : a.tmps.getD 60 undef = _ := By.given_get hg 2 rfl rfl (by kernel_rfl)
        refine By.yes rfl ?_
        clear hs hg
        go_simp
        refine (HC1.out w).mono ?_
        rintro e w' ⟨rfl, hb⟩
        exact ⟨_, rfl, hb, rfl⟩
      · intro a w ht hs hg -- 62
        have h58 : a.tmps.getD 58 undef = _ := By.given_get hg 0 rfl rfl (by kernel_rfl)
        have h61 : a.tmps.getD 61 undef = _ := By.given_get hg 3 rfl rfl (by kernel_rfl)
        refine By.yes rfl ?_
        clear hs hg
        go_simp
        refine (HC2.out w).mono ?_
        rintro e w' ⟨rfl, hb⟩
        exact ⟨_, rfl, hb, rfl⟩
      refine By.ends_is (By.ends_is (By.ends_is (By.ends_is (By.ends_is (By.ends_nil fun wz hz => ?_)))))
      simp only [Act.put, List.setIfInBounds_toArray, List.set_cons_succ, List.set_cons_zero]
      simp only [List.drop_succ_cons, List.drop_zero]
      have hz : Below w10.heap.size w10.drew wz := hz
      have HBz := Lib.hid (nextB (b := w10.drew) HB10.out.drew (Nat.le_refl _) hz)
      have HSz := Lib.hid (Row.below (w := w10.drew) HS10.out hz HS10.out.lt)
      have HKz := Lib.hid (Row.below (w := w10.drew) HK10.out hz HK10.out.lt)
      have HObz := Lib.hid (Own.below (w := w10.drew) HOb10.out hz (Nat.le_refl _))
      have HOcz := Lib.hid (Own.below (w := w10.drew) HOc10.out hz (Nat.le_refl _))
      have HLz := Lib.hid (Nat.le_trans HL10.out hz.size)
      clear hz
      go_wp2_with (first
        | (refine wpList_storeRow (n := 16) rfl 35 (.tmp 8) (.tmp 62) rfl rfl rfl (cs := S'.map bv) (old := S.map bv) (g := gS) (t := 35) HSz.out (by kernel_rfl) HSl'.out HSl.out (Pol.bytes1 _) ?_
           refine stop ?_)
        | fail)
      unfold Stop
      obtain ⟨w11, hw11⟩ : ∃ w11, wz.setRow gS (S'.map bv).toArray = w11 := ⟨_, rfl⟩
      refine wpList_world hw11 ?_
      have HS11 := Lib.hid (show Row w11 gS (S'.map bv) 35 from hw11 ▸ HSz.out.setRow _)
      have HK11 := Lib.hid (show Row w11 gK (key1.map bv) 24 from hw11 ▸ HKz.out.setOther gS _ (Nat.ne_of_lt HgK.out))
      have HOb11 := Lib.hid (show Own w11 L0 v7 (joined (ls.take (i + 1))) from by rw [← hw11]; exact keep_row HObz.out HgS.out _)
      have HOc11 := Lib.hid (show Own w11 L0 v10 (joined (rot ls k (i + 1))) from by rw [← hw11]; exact keep_row HOcz.out HgS.out _)
      have hbz : Below gS wz w11 := hw11 ▸ below_setRow (Below.refl gS wz) (Nat.le_refl _) _
      have HB11 := Lib.hid (HBz.out.trans (hbz.mono (Nat.le_of_lt (Nat.lt_of_le_of_lt HL3.out HgK.out))))
      have HL11 := Lib.hid (Nat.le_trans HLz.out hbz.size)
      clear hw11 hbz
      have hi31 : (i : Int) < 15 := by have := Hn.out; omega
      go_wp2
      go_roundw
      case rel => exact ⟨i + 1, by have := Hls.out; omega, by simp, HOb11.out, HOc11.out, Hap10.out, HSt.out ▸ HS11.out, HK11.out, HB11.out, HL11.out⟩
      case measure =>
        have := Hls.out
        simp [intOf]
        omega
    · have h1' : ¬ (i : Int) < (n : Int) := by omega
      have hin : i = ls.length := by have := Hls.out; have := Hi.out; omega
      have hrl : ∀ x ∈ rot ls k ls.length, x.length = 16 := by
        intro x hx
        rw [rot_all ls k (by have := Hls.out; have := Hkn.out; omega)] at hx
        rcases List.mem_append.1 hx with h | h
        · exact H16.out x (List.mem_of_mem_drop h)
        · exact H16.out x (List.mem_of_mem_take h)
      have HOb5 := Lib.hid (show Own wr L0 u6 (joined ls) from by have h := HOb.out; rwa [hin, List.take_length] at h)
      have HOc5 := Lib.hid (show Own wr L0 u7 (joined (rot ls k ls.length)) from by have h := HOc.out; rwa [hin] at h)
      have HS5 := Lib.hid (show Row wr gS ((Poly.bytes16 (total ls)).map bv) 35 from by have h := HS4.out; rwa [hin, List.take_length] at h)
      obtain ⟨lb, hlb⟩ : ∃ l, joined ls = l := ⟨_, rfl⟩
      obtain ⟨lc, hlc⟩ : ∃ l, joined (rot ls k ls.length) = l := ⟨_, rfl⟩
      obtain ⟨S, hS⟩ : ∃ S, Poly.bytes16 (total ls) = S := ⟨_, rfl⟩
      obtain ⟨F, hF⟩ : ∃ F, five n = F := ⟨_, rfl⟩
      obtain ⟨M, hM⟩ : ∃ M, Pol.lessB (List.replicate 16 (0 : UInt8)) F = M := ⟨_, rfl⟩
      obtain ⟨T, hT⟩ : ∃ T, Pol.tagK key1 lb = T := ⟨_, rfl⟩
      have hFl : F.length = 16 := by rw [← hF]; rfl
      have hSl : S.length = 16 := by rw [← hS]; exact Poly.bytes16_length _
      have hMl : M.length = 16 := by rw [← hM]; exact Pol.lessB_length _ _
      have hTl : T.length = 16 := by rw [← hT]; exact Pol.tagK_length _ _
      have hlbl : lb.length ≤ 240 := by rw [← hlb, joined_length _ H16.out]; have := Hls.out; have := Hn.out; omega
      have hlcl : lc.length ≤ 240 := by rw [← hlc, joined_length _ hrl, rot_length]; have := Hls.out; have := Hn.out; omega
      have hTis : T = Poly.bytes16 (total ls + 5 * (n / 4)) := by rw [← hT, ← hlb, tag_one ls H16.out (by have := Hls.out; have := Hn.out; omega), Hls.out]
      have hT2 : Pol.tagK key1 lc = T := by
        rw [hTis, ← hlc, tag_one _ hrl (by rw [rot_length]; have := Hls.out; have := Hn.out; omega), rot_length, total_rot ls k (by have := Hls.out; have := Hkn.out; omega), Hls.out]
      have hT3 : Pol.lessB S M = T := by
        rw [hTis, ← hM, ← hF, ← hS, lessB_add _ _ rfl, Poly.le_bytes16, le_five n Hn.out]
        apply Poly.bytes16_inj
        generalize total ls = s
        omega
      have HTb := Lib.hid (show ∀ (W : World) (v : Value), Bs W W.heap.size v lb → Calls Try.prog 15 #[arr8 key1, v] W fun e w' => e = .returned (arr8 T) ∧ Below W.heap.size W w' from fun W v hv => hT ▸ Pol.TagF_any key1_length hv (by omega))
      have HTc := Lib.hid (show ∀ (W : World) (v : Value), Bs W W.heap.size v lc → Calls Try.prog 15 #[arr8 key1, v] W fun e w' => e = .returned (arr8 T) ∧ Below W.heap.size W w' from fun W v hv => hT2 ▸ Pol.TagF_any key1_length hv (by omega))
      have HC1 := Lib.hid (show ∀ W : World, Calls Try.prog 22 #[arr8 (List.replicate 16 (0 : UInt8)), arr8 F] W fun e w' => e = .returned (arr8 M) ∧ Below W.heap.size W w' from fun W => hM ▸ Pol.Less_any (List.replicate 16 0) F (by decide) hFl W)
      have HC2 := Lib.hid (show ∀ W : World, Calls Try.prog 22 #[arr8 S, arr8 M] W fun e w' => e = .returned (arr8 T) ∧ Below W.heap.size W w' from fun W => hT3 ▸ Pol.Less_any S M hSl hMl W)
      have HFl := Lib.hid (show (F.map bv).length = 16 by rw [List.length_map]; exact hFl)
      have HSl := Lib.hid (show (S.map bv).length = 16 by rw [List.length_map]; exact hSl)
      have HTl := Lib.hid hTl
      have HF := Lib.hid hF
      rw [hlb] at HOb5
      rw [hlc] at HOc5
      rw [hS] at HS5
      clear hrl hlb hlc hS hF hM hT hFl hSl hMl hTl hlbl hlcl hTis hT2 hT3 hin
      go_wp2_with fail
      have e0 : bv (UInt8.ofNat (5 * (n / 4))) = .int .u8 (5 * ((n : Int) / 4)) := by
        unfold bv
        rw [UInt8.toNat_ofNat']
        congr 1
        have := Hn.out
        omega
      have e1 : (F.map bv) = .int .u8 (5 * ((n : Int) / 4)) :: (List.replicate 15 (0 : UInt8)).map bv := by
        rw [← HF.out]
        unfold five
        rw [List.map_cons, e0]
      obtain ⟨w5, hw5⟩ : ∃ w5, wr.alloc (.cells (F.map bv).toArray 35) = w5 := ⟨_, rfl⟩
      have hF5 : Row w5 wr.heap.size (F.map bv) 35 := hw5 ▸ Row.new rfl rfl
      have hb5 : Below wr.heap.size wr w5 := hw5 ▸ (Below.refl _ wr).alloc (Nat.le_refl _) _
      rw [e1] at hw5
      show Code.wp _ _ _ _ (wr.alloc (.cells (.int .u8 (5 * ((n : Int) / 4)) :: (List.replicate 15 (0 : UInt8)).map bv).toArray 35))
      rw [hw5]
      obtain ⟨gF, hgF⟩ : ∃ g, wr.heap.size = g := ⟨_, rfl⟩
      have HB6 := Lib.hid (nextB HB4.out (Nat.le_refl _) hb5)
      have HK6 := Lib.hid (HK4.out.below hb5 HK4.out.lt)
      have HS6 := Lib.hid (HS5.out.below hb5 HS5.out.lt)
      have HOb6 := Lib.hid (HOb5.out.below hb5 (Nat.le_refl _))
      have HOc6 := Lib.hid (HOc5.out.below hb5 (Nat.le_refl _))
      rw [hgF] at hF5 ⊢
      have HF6 := Lib.hid hF5
      clear e0 e1 hw5 hF5 hb5 hgF
      refine By.marks mixed Grew [By.is (arr8 key1),
        By.is u6,
        By.is (arr8 T),
        By.is (arr8 key1),
        By.is u7,
        By.is (arr8 T),
        By.is (.bool true),
        By.is (.bool true),
        By.is (arr8 key1),
        By.is u6,
        By.is (arr8 T),
        By.is (arr8 S),
        By.is (arr8 (List.replicate 16 (0 : UInt8))),
        By.is (arr8 F),
        By.is (arr8 M),
        By.is (arr8 T),
        By.is (.bool true),
        By.is (.bool true),
        By.is (.bool true)]
        (Ev.masks _ []) (by kernel_rfl) rfl Grew.refl Grew.trans ⟨?_, ?_, ?_, ?_, ?_, ?_, ?_, ?_, ?_, ?_, ?_, ?_, ?_, ?_, ?_, ?_, ?_, ?_, ?_, trivial⟩ ?_
      · intro a w ht hs hg -- 69
        have h5 := By.same_get hs 5 (by decide) (by kernel_rfl)
        refine By.yes rfl ?_
        clear hs hg
        refine wp_loadRow 24 _ rfl h5 (Row.below (w := w5.drew) HK6.out ht HK6.out.lt) Try.underlying24 rfl (by kernel_rfl) Hk1l.out ?_
        exact ⟨_, rfl, Grew.refl _, rfl⟩
      · intro a w ht hs hg -- 70
        have h6 := By.same_get hs 6 (by decide) (by kernel_rfl)
        refine By.yes rfl ?_
        clear hs hg
        go_simp
        exact ⟨_, rfl, Grew.refl _, rfl⟩
      · intro a w ht hs hg -- 71
        have h69 : a.tmps.getD 69 undef = _ := By.given_get hg 0 rfl rfl (by kernel_rfl)
        have h70 : a.tmps.getD 70 undef = _ := By.given_get hg 1 rfl rfl (by kernel_rfl)
        refine By.yes rfl ?_
        clear hs hg
        have Ho := Lib.hid (Own.bs (Own.below (w := w5.drew) HOb6.out ht (Nat.le_refl _)))
        go_simp
        refine (HTb.out w _ Ho.out).mono ?_
        rintro e w' ⟨rfl, hb⟩
        exact ⟨_, rfl, hb, rfl⟩
      · intro a w ht hs hg -- 72
        have h5 := By.same_get hs 5 (by decide) (by kernel_rfl)
        refine By.yes rfl ?_
        clear hs hg
        refine wp_loadRow 24 _ rfl h5 (Row.below (w := w5.drew) HK6.out ht HK6.out.lt) Try.underlying24 rfl (by kernel_rfl) Hk1l.out ?_
        exact ⟨_, rfl, Grew.refl _, rfl⟩
      · intro a w ht hs hg -- 73
        have h7 := By.same_get hs 7 (by decide) (by kernel_rfl)
        refine By.yes rfl ?_
        clear hs hg
        go_simp
        exact ⟨_, rfl, Grew.refl _, rfl⟩
      · intro a w ht hs hg -- 74
        have h72 : a.tmps.getD 72 undef = _ := By.given_get hg 3 rfl rfl (by kernel_rfl)
        have h73 : a.tmps.getD 73 undef = _ := By.given_get hg 4 rfl rfl (by kernel_rfl)
        refine By.yes rfl ?_
        clear hs hg
        have Ho := Lib.hid (Own.bs (Own.below (w := w5.drew) HOc6.out ht (Nat.le_refl _)))
        go_simp
        refine (HTc.out w _ Ho.out).mono ?_
        rintro e w' ⟨rfl, hb⟩
        exact ⟨_, rfl, hb, rfl⟩
      · intro a w ht hs hg -- 75
        have h71 : a.tmps.getD 71 undef = _ := By.given_get hg 2 rfl rfl (by kernel_rfl)
        have h74 : a.tmps.getD 74 undef = _ := By.given_get hg 5 rfl rfl (by kernel_rfl)
        refine By.yes rfl ?_
        clear hs hg
        refine wp_eqArr _ _ rfl (by kernel_rfl) h71 h74 (eq16 T T HTl.out HTl.out w) ?_
        exact ⟨_, rfl, Grew.refl _, congrArg Value.bool (by simp)⟩
      · intro a w ht hs hg -- 76
        have h75 : a.tmps.getD 75 undef = _ := By.given_get hg 6 rfl rfl (by kernel_rfl)
        refine By.yes rfl ?_
        clear hs hg
        go_simp
        exact ⟨_, rfl, Grew.refl _, rfl⟩
      · intro a w ht hs hg -- 77
        have h5 := By.same_get hs 5 (by decide) (by kernel_rfl)
        have hg76 := By.given_get hg 7 rfl rfl (by kernel_rfl)
        refine By.yes (By.want_yes rfl rfl hg76) ?_
        clear hg76
        clear hs hg
        refine wp_loadRow 24 _ rfl h5 (Row.below (w := w5.drew) HK6.out ht HK6.out.lt) Try.underlying24 rfl (by kernel_rfl) Hk1l.out ?_
        exact ⟨_, rfl, Grew.refl _, rfl⟩
      · intro a w ht hs hg -- 78
        have h6 := By.same_get hs 6 (by decide) (by kernel_rfl)
        have hg76 := By.given_get hg 7 rfl rfl (by kernel_rfl)
        refine By.yes (By.want_yes rfl rfl hg76) ?_
        clear hg76
        clear hs hg
        go_simp
        exact ⟨_, rfl, Grew.refl _, rfl⟩
      · intro a w ht hs hg -- 79
        have h77 : a.tmps.getD 77 undef = _ := By.given_get hg 8 rfl rfl (by kernel_rfl)
        have h78 : a.tmps.getD 78 undef = _ := By.given_get hg 9 rfl rfl (by kernel_rfl)
        have hg76 := By.given_get hg 7 rfl rfl (by kernel_rfl)
        refine By.yes (By.want_yes rfl rfl hg76) ?_
        clear hg76
        clear hs hg
        have Ho := Lib.hid (Own.bs (Own.below (w := w5.drew) HOb6.out ht (Nat.le_refl _)))
        go_simp
        refine (HTb.out w _ Ho.out).mono ?_
        rintro e w' ⟨rfl, hb⟩
        exact ⟨_, rfl, hb, rfl⟩
      · intro a w ht hs hg -- 80
        have h8 := By.same_get hs 8 (by decide) (by kernel_rfl)
        have hg76 := By.given_get hg 7 rfl rfl (by kernel_rfl)
        refine By.yes (By.want_yes rfl rfl hg76) ?_
        clear hg76
        clear hs hg
        refine wp_loadRow 35 _ rfl h8 (Row.below (w := w5.drew) HS6.out ht HS6.out.lt) Try.underlying35 rfl (by kernel_rfl) HSl.out ?_
        exact ⟨_, rfl, Grew.refl _, rfl⟩
      · intro a w ht hs hg -- 81
        have hg76 := By.given_get hg 7 rfl rfl (by kernel_rfl)
        refine By.yes (By.want_yes rfl rfl hg76) ?_
        clear hg76
        clear hs hg
        go_simp
        exact ⟨_, rfl, Grew.refl _, rfl⟩
      · intro a w ht hs hg -- 82
        have h13 := By.same_get hs 13 (by decide) (by kernel_rfl)
        have hg76 := By.given_get hg 7 rfl rfl (by kernel_rfl)
        refine By.yes (By.want_yes rfl rfl hg76) ?_
        clear hg76
        clear hs hg
        refine wp_loadRow 35 _ rfl h13 (Row.below (w := w5.drew) HF6.out ht HF6.out.lt) Try.underlying35 rfl (by kernel_rfl) HFl.out ?_
        exact ⟨_, rfl, Grew.refl _, rfl⟩
      · intro a w ht hs hg -- 83
        have h81 : a.tmps.getD 81 undef = _ := By.given_get hg 12 rfl rfl (by kernel_rfl)
        have h82 : a.tmps.getD 82 undef = _ := By.given_get hg 13 rfl rfl (by kernel_rfl)
        have hg76 := By.given_get hg 7 rfl rfl (by kernel_rfl)
        refine By.yes (By.want_yes rfl rfl hg76) ?_
        clear hg76
        clear hs hg
        go_simp
        refine (HC1.out w).mono ?_
        rintro e w' ⟨rfl, hb⟩
        exact ⟨_, rfl, hb, rfl⟩
      · intro a w ht hs hg -- 84
        have h80 : a.tmps.getD 80 undef = _ := By.given_get hg 11 rfl rfl (by kernel_rfl)
        have h83 : a.tmps.getD 83 undef = _ := By.given_get hg 14 rfl rfl (by kernel_rfl)
        have hg76 := By.given_get hg 7 rfl rfl (by kernel_rfl)
        refine By.yes (By.want_yes rfl rfl hg76) ?_
        clear hg76
        clear hs hg
        go_simp
        refine (HC2.out w).mono ?_
        rintro e w' ⟨rfl, hb⟩
        exact ⟨_, rfl, hb, rfl⟩
      · intro a w ht hs hg -- 85
        have h79 : a.tmps.getD 79 undef = _ := By.given_get hg 10 rfl rfl (by kernel_rfl)
        have h84 : a.tmps.getD 84 undef = _ := By.given_get hg 15 rfl rfl (by kernel_rfl)
        have hg76 := By.given_get hg 7 rfl rfl (by kernel_rfl)
        refine By.yes (By.want_yes rfl rfl hg76) ?_
        clear hg76
        clear hs hg
        refine wp_eqArr _ _ rfl (by kernel_rfl) h79 h84 (eq16 T T HTl.out HTl.out w) ?_
        exact ⟨_, rfl, Grew.refl _, congrArg Value.bool (by simp)⟩
      · intro a w ht hs hg -- 86
        have h76 : a.tmps.getD 76 undef = _ := By.given_get hg 7 rfl rfl (by kernel_rfl)
        have h85 : a.tmps.getD 85 undef = _ := By.given_get hg 16 rfl rfl (by kernel_rfl)
        refine By.yes rfl ?_
        clear hs hg
        go_simp
        exact ⟨_, rfl, Grew.refl _, rfl⟩
      · intro a w ht hs hg -- 4
        have h86 : a.tmps.getD 86 undef = _ := By.given_get hg 17 rfl rfl (by kernel_rfl)
        refine By.yes rfl ?_
        clear hs hg
        go_simp
        exact ⟨_, rfl, Grew.refl _, rfl⟩
      refine By.ends_is (By.ends_is (By.ends_is (By.ends_is (By.ends_is (By.ends_is (By.ends_is (By.ends_is (By.ends_is (By.ends_is (By.ends_is (By.ends_is (By.ends_is (By.ends_is (By.ends_is (By.ends_is (By.ends_is (By.ends_is (By.ends_is (By.ends_nil fun wz hz => ?_)))))))))))))))))))
      simp only [Act.put, List.setIfInBounds_toArray, List.set_cons_succ, List.set_cons_zero]
      go_wp2
      go_ret
      exact ⟨rfl, nextB (b := w5.drew) HB6.out.drew (Nat.le_refl _) hz⟩

set_option maxRecDepth 100000 in
theorem lift (os : Os) (started : os.Started) (H : Type) (enc : TypeId × Value → H) :
    ReturnsInHanded {} Try.checked os 5 .any (Rows.polyOneSpec.pre6 enc Try.prog Try.f5 Rows.polyOneRow.domain false) (Rows.polyOneSpec.post enc Try.prog Try.f5 false true false false) := by
  refine Law.lifted (C := Try.checked) 4 own started (by kernel_rfl) Try.func5 laid (by kernel_rfl) rfl Try.underlying4 rfl
    (fun ds hd => by
      have hd' : ds.length = 2 := hd
      match ds, hd' with
      | [d0, d1], _ => rfl)
    (ChangeSpec.witness6 (enc := enc) (C := Try.checked) false ⟨#[], #[.slice none 0 0, .int .i64 0], []⟩ 8 (by kernel_rfl) (by kernel_rfl) (by kernel_rfl) (by kernel_rfl)) ?_
  intro W args ds ps hst
  have hA : DataW.TrodAll enc Try.prog W 0 (fun _ => true) true Try.f5.params.toList args.toList ds ps := hst.trod
  have hok := hst.okw
  have hlt := hst.lt
  rw [Try.params5] at hA hok
  obtain ⟨v0, v1, d0, d1, p0, p1, rfl, rfl, rfl, h0, h1⟩ := trodAll_two hA
  obtain ⟨_, hv0⟩ := hok 0 41 v0 rfl rfl
  obtain ⟨_, hv1⟩ := hok 1 3 v1 rfl rfl
  obtain ⟨ls, hb, hl⟩ := blks_trod Try.underlying41 hv0 h0 (fun x hx => hlt x (by simp [hx]))
  obtain ⟨t, rfl, ht1, ht2⟩ := Law.int_at Try.underlying3 hv1 h1
  obtain ⟨A, c, rfl, _, _⟩ := id hb
  by_cases hn : 15 < ls.length
  · exact long A _ c t hn W
  · exact walk ls A _ c t rfl hl (by omega) ⟨ht1, ht2⟩ W hb

theorem over : Rows.polyOneRow.holds Try.pinned (OpenSpec.ofChange Rows.polyOneSpec) :=
  OpenClaim.holds_of_wide 5 Try.f5 rfl rfl rfl rfl rfl rfl rfl ⟨rfl, rfl, rfl, rfl, rfl⟩ rfl rfl rfl rfl rfl (by kernel_rfl) Try.func5 (by kernel_rfl)
    (of_decide_eq_true (by kernel_rfl)) (by unfold Func.isWrapper; first | (rw [if_pos (by decide +kernel)]; kernel_rfl) | (rw [if_neg (by decide +kernel)]; exact ⟨rfl, rfl⟩))
    (fun os started H enc _ => lift os started H enc)
theorem proved : Rows.PolyOneSaid := over
#print axioms proved
end Go.Proofs.Ytpldkkkenmdimaa.polyOne

