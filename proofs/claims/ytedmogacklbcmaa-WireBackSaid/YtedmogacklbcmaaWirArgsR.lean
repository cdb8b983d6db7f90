/- wire: entries and messages as arguments, with the ranges of their numbers. -/
import Derived.Test.YtedmogacklbcmaaWirBytes
import Derived.Test.YtedmogacklbcmaaCfgArgs
import Derived.Test.YtedmogacklbcmaaArgs
namespace Go.Proofs.Ytedmogacklbcmaa.Wir
open Go.ChangeShapes Go.WideShapes Go.RowKit Go.Deep Cfg
theorem wf64 {z : Int} (h : (Lit.int .u64 z).wf = true) : 0 ≤ z ∧ z < 18446744073709551616 := by
  simp only [Lit.wf, Bool.and_eq_true, decide_eq_true_eq] at h
  have h1 : (0 : Int) ≤ z := h.1
  have h2 : z ≤ 18446744073709551615 := h.2
  omega
theorem wf32 {z : Int} (h : (Lit.int .u32 z).wf = true) : 0 ≤ z ∧ z ≤ 4294967295 := by
  simp only [Lit.wf, Bool.and_eq_true, decide_eq_true_eq] at h
  exact ⟨h.1, h.2⟩
section
variable {H : Type} {enc : TypeId × Value → H}
set_option maxRecDepth 100000 in
theorem op_trod {W : World} {sp : Nat → Bool} (n : Nat) (cs : List Value) (y : DataW H × List MemPlace) (h : DataW.trod enc Try.prog W 0 sp true n 30 cs = some y) : ∃ o : Opn, cs = o.cs ∧ o.ky.length = 32 ∧ (0 ≤ o.addr ∧ o.addr ≤ 4294967295) ∧ (0 ≤ o.ref ∧ o.ref < 18446744073709551616) := by
  obtain ⟨xs, n', _, _, hl, hxl, hfd⟩ := DataW.trod_struct Try.underlying30 h
  rw [show Try.prog.cellsOf 30 = 37 by kernel_rfl] at hl
  have g : ∀ i, i < 6 → ∃ y, xs[i]? = some y := fun i hi => ⟨_, List.getElem?_eq_getElem (by rw [hxl]; exact hi)⟩
  obtain ⟨y0, h0⟩ := g 0 (by decide)
  have q0 := hfd 0 _ rfl
  rw [h0] at q0
  have q0' : DataW.trod enc Try.prog W 0 sp true n' 3 ((cs.drop 0).take (Try.prog.cellsOf 3)) = some y0 := q0
  rw [show Try.prog.cellsOf 3 = 1 by kernel_rfl] at q0'
  obtain ⟨y1, h1⟩ := g 1 (by decide)
  have q1 := hfd 1 _ rfl
  rw [h1] at q1
  have q1' : DataW.trod enc Try.prog W 0 sp true n' 26 ((cs.drop 1).take (Try.prog.cellsOf 26)) = some y1 := q1
  rw [show Try.prog.cellsOf 26 = 1 by kernel_rfl] at q1'
  obtain ⟨y2, h2⟩ := g 2 (by decide)
  have q2 := hfd 2 _ rfl
  rw [h2] at q2
  have q2' : DataW.trod enc Try.prog W 0 sp true n' 3 ((cs.drop 2).take (Try.prog.cellsOf 3)) = some y2 := q2
  rw [show Try.prog.cellsOf 3 = 1 by kernel_rfl] at q2'
  obtain ⟨y3, h3⟩ := g 3 (by decide)
  have q3 := hfd 3 _ rfl
  rw [h3] at q3
  have q3' : DataW.trod enc Try.prog W 0 sp true n' 27 ((cs.drop 3).take (Try.prog.cellsOf 27)) = some y3 := q3
  rw [show Try.prog.cellsOf 27 = 32 by kernel_rfl] at q3'
  obtain ⟨y4, h4⟩ := g 4 (by decide)
  have q4 := hfd 4 _ rfl
  rw [h4] at q4
  have q4' : DataW.trod enc Try.prog W 0 sp true n' 28 ((cs.drop 35).take (Try.prog.cellsOf 28)) = some y4 := q4
  rw [show Try.prog.cellsOf 28 = 1 by kernel_rfl] at q4'
  obtain ⟨y5, h5⟩ := g 5 (by decide)
  have q5 := hfd 5 _ rfl
  rw [h5] at q5
  have q5' : DataW.trod enc Try.prog W 0 sp true n' 3 ((cs.drop 36).take (Try.prog.cellsOf 3)) = some y5 := q5
  rw [show Try.prog.cellsOf 3 = 1 by kernel_rfl] at q5'

  obtain ⟨z0, e0, _, _⟩ := DataW.trod_int Try.underlying3 q0'
  obtain ⟨z1, e1, _, w1⟩ := DataW.trod_int Try.underlying26 q1'
  obtain ⟨z2, e2, _, _⟩ := DataW.trod_int Try.underlying3 q2'
  obtain ⟨ky, e3, hkl⟩ := key_trod n' _ y3 q3'
  obtain ⟨z4, e4, _, w4⟩ := DataW.trod_int Try.underlying28 q4'
  obtain ⟨z5, e5, _, _⟩ := DataW.trod_int Try.underlying3 q5'
  refine ⟨⟨z0, z1, z2, ky, z4, z5⟩, ?_, hkl, wf32 w4, wf64 w1⟩
  have s1 : cs = cs.take 1 ++ (cs.drop 1).take 1 ++ (cs.drop 2).take 1 ++ (cs.drop 3).take 32 ++ (cs.drop 35).take 1 ++ (cs.drop 36).take 1 := by
    have e : (cs.drop 36).take 1 = cs.drop 36 := List.take_of_length_le (by rw [List.length_drop]; omega)
    rw [e]
    simp only [List.append_assoc]
    rw [show cs.drop 36 = (cs.drop 35).drop 1 by rw [List.drop_drop], List.take_append_drop, show cs.drop 35 = (cs.drop 3).drop 32 by rw [List.drop_drop], List.take_append_drop, show cs.drop 3 = (cs.drop 2).drop 1 by rw [List.drop_drop], List.take_append_drop, show cs.drop 2 = (cs.drop 1).drop 1 by rw [List.drop_drop], List.take_append_drop, List.take_append_drop]
  rw [s1, show cs.take 1 = [.int .i64 z0] from e0, e1, e2, e3, e4, e5]
  simp [Opn.cs]
set_option maxRecDepth 100000 in
theorem sess_trod {W : World} {sp : Nat → Bool} (n : Nat) (cs : List Value) (y : DataW H × List MemPlace) (h : DataW.trod enc Try.prog W 0 sp true n 47 cs = some y) : ∃ (i p : Int) (s : List UInt8), cs = .int .u64 i :: .int .i64 p :: s.map bv ∧ s.length = 32 ∧ (0 ≤ i ∧ i < 18446744073709551616) := by
  obtain ⟨xs, n', _, _, hl, hxl, hfd⟩ := DataW.trod_struct Try.underlying47 h
  rw [show Try.prog.cellsOf 47 = 34 by kernel_rfl] at hl
  have g : ∀ i, i < 3 → ∃ y, xs[i]? = some y := fun i hi => ⟨_, List.getElem?_eq_getElem (by rw [hxl]; exact hi)⟩
  obtain ⟨y0, h0⟩ := g 0 (by decide)
  have q0 := hfd 0 _ rfl
  rw [h0] at q0
  have q0' : DataW.trod enc Try.prog W 0 sp true n' 26 ((cs.drop 0).take (Try.prog.cellsOf 26)) = some y0 := q0
  rw [show Try.prog.cellsOf 26 = 1 by kernel_rfl] at q0'
  obtain ⟨y1, h1⟩ := g 1 (by decide)
  have q1 := hfd 1 _ rfl
  rw [h1] at q1
  have q1' : DataW.trod enc Try.prog W 0 sp true n' 3 ((cs.drop 1).take (Try.prog.cellsOf 3)) = some y1 := q1
  rw [show Try.prog.cellsOf 3 = 1 by kernel_rfl] at q1'
  obtain ⟨y2, h2⟩ := g 2 (by decide)
  have q2 := hfd 2 _ rfl
  rw [h2] at q2
  have q2' : DataW.trod enc Try.prog W 0 sp true n' 27 ((cs.drop 2).take (Try.prog.cellsOf 27)) = some y2 := q2
  rw [show Try.prog.cellsOf 27 = 32 by kernel_rfl] at q2'

  obtain ⟨z0, e0, _, w0⟩ := DataW.trod_int Try.underlying26 q0'
  obtain ⟨z1, e1, _, _⟩ := DataW.trod_int Try.underlying3 q1'
  obtain ⟨ky, e2, hkl⟩ := key_trod n' _ y2 q2'
  refine ⟨z0, z1, ky, ?_, hkl, wf64 w0⟩
  have s1 : cs = cs.take 1 ++ (cs.drop 1).take 1 ++ (cs.drop 2).take 32 := by
    have e : (cs.drop 2).take 32 = cs.drop 2 := List.take_of_length_le (by rw [List.length_drop]; omega)
    rw [e]
    simp only [List.append_assoc]
    rw [show cs.drop 2 = (cs.drop 1).drop 1 by rw [List.drop_drop], List.take_append_drop, List.take_append_drop]
  rw [s1, show cs.take 1 = [.int .u64 z0] from e0, e1, e2]
  simp
set_option maxRecDepth 100000 in
theorem ent_trod {W : World} {sp : Nat → Bool} (n : Nat) (cs : List Value) (y : DataW H × List MemPlace) (h : DataW.trod enc Try.prog W 0 sp true n 49 cs = some y) : ∃ e : En, cs = e.cs ∧ e.K ∧ e.R := by
  obtain ⟨xs, n', _, _, hl, hxl, hfd⟩ := DataW.trod_struct Try.underlying49 h
  rw [show Try.prog.cellsOf 49 = 74 by kernel_rfl] at hl
  have g : ∀ i, i < 5 → ∃ y, xs[i]? = some y := fun i hi => ⟨_, List.getElem?_eq_getElem (by rw [hxl]; exact hi)⟩
  obtain ⟨y0, h0⟩ := g 0 (by decide)
  have q0 := hfd 0 _ rfl
  rw [h0] at q0
  have q0' : DataW.trod enc Try.prog W 0 sp true n' 3 ((cs.drop 0).take (Try.prog.cellsOf 3)) = some y0 := q0
  rw [show Try.prog.cellsOf 3 = 1 by kernel_rfl] at q0'
  obtain ⟨y1, h1⟩ := g 1 (by decide)
  have q1 := hfd 1 _ rfl
  rw [h1] at q1
  have q1' : DataW.trod enc Try.prog W 0 sp true n' 28 ((cs.drop 1).take (Try.prog.cellsOf 28)) = some y1 := q1
  rw [show Try.prog.cellsOf 28 = 1 by kernel_rfl] at q1'
  obtain ⟨y2, h2⟩ := g 2 (by decide)
  have q2 := hfd 2 _ rfl
  rw [h2] at q2
  have q2' : DataW.trod enc Try.prog W 0 sp true n' 26 ((cs.drop 2).take (Try.prog.cellsOf 26)) = some y2 := q2
  rw [show Try.prog.cellsOf 26 = 1 by kernel_rfl] at q2'
  obtain ⟨y3, h3⟩ := g 3 (by decide)
  have q3 := hfd 3 _ rfl
  rw [h3] at q3
  have q3' : DataW.trod enc Try.prog W 0 sp true n' 30 ((cs.drop 3).take (Try.prog.cellsOf 30)) = some y3 := q3
  rw [show Try.prog.cellsOf 30 = 37 by kernel_rfl] at q3'
  obtain ⟨y4, h4⟩ := g 4 (by decide)
  have q4 := hfd 4 _ rfl
  rw [h4] at q4
  have q4' : DataW.trod enc Try.prog W 0 sp true n' 47 ((cs.drop 40).take (Try.prog.cellsOf 47)) = some y4 := q4
  rw [show Try.prog.cellsOf 47 = 34 by kernel_rfl] at q4'

  obtain ⟨z0, e0, _, _⟩ := DataW.trod_int Try.underlying3 q0'
  obtain ⟨z1, e1, _, w1⟩ := DataW.trod_int Try.underlying28 q1'
  obtain ⟨z2, e2, _, w2⟩ := DataW.trod_int Try.underlying26 q2'
  obtain ⟨o, e3, hk, ho1, ho2⟩ := op_trod n' _ y3 q3'
  obtain ⟨i, p, s, e4, hs, hi⟩ := sess_trod n' _ y4 q4'
  refine ⟨⟨z0, z1, z2, o, i, p, s⟩, ?_, ⟨hk, hs⟩, ⟨wf32 w1, wf64 w2, hi, ho1, ho2⟩⟩
  have s1 : cs = cs.take 1 ++ (cs.drop 1).take 1 ++ (cs.drop 2).take 1 ++ (cs.drop 3).take 37 ++ (cs.drop 40).take 34 := by
    have e : (cs.drop 40).take 34 = cs.drop 40 := List.take_of_length_le (by rw [List.length_drop]; omega)
    rw [e]
    simp only [List.append_assoc]
    rw [show cs.drop 40 = (cs.drop 3).drop 37 by rw [List.drop_drop], List.take_append_drop, show cs.drop 3 = (cs.drop 2).drop 1 by rw [List.drop_drop], List.take_append_drop, show cs.drop 2 = (cs.drop 1).drop 1 by rw [List.drop_drop], List.take_append_drop, List.take_append_drop]
  rw [s1, show cs.take 1 = [.int .i64 z0] from e0, e1, e2, e3, e4]
  simp [En.cs]
def entTs : List TypeId := [3, 28, 26] ++ opTs ++ [26, 3] ++ List.replicate 32 5
set_option maxRecDepth 100000 in
/-- An entry as an argument. -/
theorem ent_at {W : World} {base : Nat} {sp : Nat → Bool} {v : Value} {d : DataW H} {ps : List MemPlace} (hok : Value.okWide Try.prog W .any base 49 v) (h : DataW.Trod enc Try.prog W 0 sp true 49 v d ps) :
    ∃ e : En, v = e.val ∧ e.K ∧ e.R := by
  obtain ⟨cs, rfl, hl, hc⟩ := cells_at (ts := entTs) Try.underlying49 rfl (by kernel_rfl) (by kernel_rfl) hok
  obtain ⟨fuel, hf⟩ := h
  clear hl hc
  obtain ⟨x, rfl, hk, hr⟩ := ent_trod fuel _ _ hf
  exact ⟨x, rfl, hk, hr⟩
def zer : En := ⟨0, 0, 0, ⟨0, 0, 0, List.replicate 32 0, 0, 0⟩, 0, 0, List.replicate 32 0⟩
set_option maxRecDepth 100000 in
/-- A message as an argument. -/
theorem msg_at {W : World} {base : Nat} {sp : Nat → Bool} {v : Value} {d : DataW H} {ps : List MemPlace} (hok : Value.okWide Try.prog W .any base 52 v) (h : DataW.Trod enc Try.prog W 0 sp true 52 v d ps) (hlt : ∀ x ∈ ps, x.block < W.heap.size) :
    ∃ (ve vb : Value) (m : Ms), v = .agg (m.cs ve vb).toArray ∧ MAt W W.heap.size ve vb m ∧ m.R := by
  obtain ⟨cs, rfl, hl, hc⟩ := cells_at (ts := [3, 28, 26, 28, 26, 26, 3, 4, 50, 31]) Try.underlying52 rfl (by kernel_rfl) (by kernel_rfl) hok
  obtain ⟨fuel, hf⟩ := h
  obtain ⟨xs, n', _, hx, _, hxl, hfd⟩ := DataW.trod_struct Try.underlying52 hf
  have hl' : cs.length = 10 := hl
  clear hl hc hok
  match cs, hl' with
  | [c0, c1, c2, c3, c4, c5, c6, c7, c8, c9], _ =>
  have g : ∀ i, i < 10 → ∃ y, xs[i]? = some y := fun i hi => ⟨_, List.getElem?_eq_getElem (by rw [hxl]; exact hi)⟩
  obtain ⟨y0, h0⟩ := g 0 (by decide)
  have q0 := hfd 0 _ rfl
  rw [h0] at q0
  have q0' : DataW.trod enc Try.prog W 0 sp true n' 3 (([c0, c1, c2, c3, c4, c5, c6, c7, c8, c9].drop 0).take (Try.prog.cellsOf 3)) = some y0 := q0
  rw [show Try.prog.cellsOf 3 = 1 by kernel_rfl] at q0'
  obtain ⟨y1, h1⟩ := g 1 (by decide)
  have q1 := hfd 1 _ rfl
  rw [h1] at q1
  have q1' : DataW.trod enc Try.prog W 0 sp true n' 28 (([c0, c1, c2, c3, c4, c5, c6, c7, c8, c9].drop 1).take (Try.prog.cellsOf 28)) = some y1 := q1
  rw [show Try.prog.cellsOf 28 = 1 by kernel_rfl] at q1'
  obtain ⟨y2, h2⟩ := g 2 (by decide)
  have q2 := hfd 2 _ rfl
  rw [h2] at q2
  have q2' : DataW.trod enc Try.prog W 0 sp true n' 26 (([c0, c1, c2, c3, c4, c5, c6, c7, c8, c9].drop 2).take (Try.prog.cellsOf 26)) = some y2 := q2
  rw [show Try.prog.cellsOf 26 = 1 by kernel_rfl] at q2'
  obtain ⟨y3, h3⟩ := g 3 (by decide)
  have q3 := hfd 3 _ rfl
  rw [h3] at q3
  have q3' : DataW.trod enc Try.prog W 0 sp true n' 28 (([c0, c1, c2, c3, c4, c5, c6, c7, c8, c9].drop 3).take (Try.prog.cellsOf 28)) = some y3 := q3
  rw [show Try.prog.cellsOf 28 = 1 by kernel_rfl] at q3'
  obtain ⟨y4, h4⟩ := g 4 (by decide)
  have q4 := hfd 4 _ rfl
  rw [h4] at q4
  have q4' : DataW.trod enc Try.prog W 0 sp true n' 26 (([c0, c1, c2, c3, c4, c5, c6, c7, c8, c9].drop 4).take (Try.prog.cellsOf 26)) = some y4 := q4
  rw [show Try.prog.cellsOf 26 = 1 by kernel_rfl] at q4'
  obtain ⟨y5, h5⟩ := g 5 (by decide)
  have q5 := hfd 5 _ rfl
  rw [h5] at q5
  have q5' : DataW.trod enc Try.prog W 0 sp true n' 26 (([c0, c1, c2, c3, c4, c5, c6, c7, c8, c9].drop 5).take (Try.prog.cellsOf 26)) = some y5 := q5
  rw [show Try.prog.cellsOf 26 = 1 by kernel_rfl] at q5'
  obtain ⟨y6, h6⟩ := g 6 (by decide)
  have q6 := hfd 6 _ rfl
  rw [h6] at q6
  have q6' : DataW.trod enc Try.prog W 0 sp true n' 3 (([c0, c1, c2, c3, c4, c5, c6, c7, c8, c9].drop 6).take (Try.prog.cellsOf 3)) = some y6 := q6
  rw [show Try.prog.cellsOf 3 = 1 by kernel_rfl] at q6'
  obtain ⟨y7, h7⟩ := g 7 (by decide)
  have q7 := hfd 7 _ rfl
  rw [h7] at q7
  have q7' : DataW.trod enc Try.prog W 0 sp true n' 4 (([c0, c1, c2, c3, c4, c5, c6, c7, c8, c9].drop 7).take (Try.prog.cellsOf 4)) = some y7 := q7
  rw [show Try.prog.cellsOf 4 = 1 by kernel_rfl] at q7'
  obtain ⟨y8, h8⟩ := g 8 (by decide)
  have q8 := hfd 8 _ rfl
  rw [h8] at q8
  have q8' : DataW.trod enc Try.prog W 0 sp true n' 50 (([c0, c1, c2, c3, c4, c5, c6, c7, c8, c9].drop 8).take (Try.prog.cellsOf 50)) = some y8 := q8
  rw [show Try.prog.cellsOf 50 = 1 by kernel_rfl] at q8'
  obtain ⟨y9, h9⟩ := g 9 (by decide)
  have q9 := hfd 9 _ rfl
  rw [h9] at q9
  have q9' : DataW.trod enc Try.prog W 0 sp true n' 31 (([c0, c1, c2, c3, c4, c5, c6, c7, c8, c9].drop 9).take (Try.prog.cellsOf 31)) = some y9 := q9
  rw [show Try.prog.cellsOf 31 = 1 by kernel_rfl] at q9'
  obtain ⟨z0, e0, _, w0⟩ := DataW.trod_int Try.underlying3 q0'
  obtain ⟨z1, e1, _, w1⟩ := DataW.trod_int Try.underlying28 q1'
  obtain ⟨z2, e2, _, w2⟩ := DataW.trod_int Try.underlying26 q2'
  obtain ⟨z3, e3, _, w3⟩ := DataW.trod_int Try.underlying28 q3'
  obtain ⟨z4, e4, _, w4⟩ := DataW.trod_int Try.underlying26 q4'
  obtain ⟨z5, e5, _, w5⟩ := DataW.trod_int Try.underlying26 q5'
  obtain ⟨z6, e6, _, w6⟩ := DataW.trod_int Try.underlying3 q6'

  obtain ⟨b7, e7, _⟩ := DataW.trod_bool Try.underlying4 q7'
  have q8'' : DataW.trod enc Try.prog W 0 sp true n' 50 [c8] = some y8 := q8'
  have q9'' : DataW.trod enc Try.prog W 0 sp true n' 31 [c9] = some y9 := q9'
  simp only [Prod.mk.injEq] at hx
  obtain ⟨l, ht, hg, _⟩ := tab_trod zer En.cs (fun m => m.K ∧ m.R) 74 (by decide) (fun m hm => En.len hm.1) Try.underlying50 (by kernel_rfl) ent_trod q8'' (fun x hx' => hlt x (by rw [hx.2]; exact List.mem_flatMap.2 ⟨y8, List.mem_of_getElem? h8, hx'⟩))
  obtain ⟨b, hb, _⟩ := bytes_trod Try.underlying31 q9'' (fun x hx' => hlt x (by rw [hx.2]; exact List.mem_flatMap.2 ⟨y9, List.mem_of_getElem? h9, hx'⟩))
  simp only [List.drop_succ_cons, List.drop_zero, List.take_succ_cons, List.take_zero, List.cons.injEq, and_true] at e0 e1 e2 e3 e4 e5 e6 e7
  subst e0 e1 e2 e3 e4 e5 e6 e7
  exact ⟨c8, c9, ⟨z0, z1, z2, z3, z4, z5, z6, b7, l, b⟩, rfl, ⟨⟨fun e he => (hg e he).1, ht⟩, hb⟩, ⟨wf32 w1, wf64 w2, wf32 w3, wf64 w4, wf64 w5, fun e he => (hg e he).2⟩⟩
end
end Go.Proofs.Ytedmogacklbcmaa.Wir
