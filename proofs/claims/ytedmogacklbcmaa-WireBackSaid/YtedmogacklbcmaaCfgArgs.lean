/- config: configurations and operations as arguments. -/
import Derived.Test.YtedmogacklbcmaaCfgCheckOp
import Derived.Test.YtedmogacklbcmaaCells
import Derived.OpenShut
namespace Go.Proofs.Ytedmogacklbcmaa.Cfg
open Go.ChangeShapes Go.WideShapes Go.RowKit Go.Deep
section
variable {H : Type} {enc : TypeId × Value → H}
/-- A slice of records of k cells, each read as something. -/
theorem tab_trod {α : Type} (d0 : α) (f : α → List Value) (G : α → Prop) (k : Nat) (hk : 0 < k) (hf : ∀ m, G m → (f m).length = k) {W : World} {sp : Nat → Bool} {fuel : Nat} {v : Value} {x : DataW H × List MemPlace} {t e : TypeId} (ht : Try.prog.underlying t = some (.slice e)) (hC : Try.prog.cellsOf e = k)
    (hel : ∀ (n : Nat) (cs : List Value) (y : DataW H × List MemPlace), DataW.trod enc Try.prog W 0 sp true n e cs = some y → ∃ m, cs = f m ∧ G m)
    (h : DataW.trod enc Try.prog W 0 sp true fuel t [v] = some x) (hlt : ∀ y ∈ x.2, y.block < W.heap.size) :
    ∃ l : List α, Tab k W W.heap.size v l.length (l.flatMap f) ∧ (∀ m ∈ l, G m) ∧ l.length ≤ maxLen := by
  rcases DataW.trod_slice ht h with ⟨hcs, _⟩ | ⟨a, len, cap, elems, rest, n, _, hcs, hx, _, hl, hm, hlen, hat, _, _⟩
  · simp only [List.cons.injEq, and_true] at hcs
    subst hcs
    exact ⟨[], Tab.nil k _ _ _ _, by simp, by simp⟩
  · simp only [List.cons.injEq, and_true] at hcs
    subst hcs
    rw [hC] at hat
    have hin : ∀ i, ∃ m : α, i < len → G m ∧ ∀ j, j < k → W.cell? (a.add (i * k + j)) = (f m)[j]? := by
      intro i
      by_cases hi : i < len
      · have h1 := hat i hi
        have hs : ∃ y, elems[i]? = some y := ⟨_, List.getElem?_eq_getElem (by omega)⟩
        obtain ⟨y, hy⟩ := hs
        rw [hy, Option.bind_eq_some_iff] at h1
        obtain ⟨cs', hc, ht'⟩ := h1
        obtain ⟨m, rfl, hg⟩ := hel n cs' y ht'
        obtain ⟨_, hcl, hcell⟩ := World.cells?_some hc
        refine ⟨m, fun _ => ⟨hg, fun j hj => ?_⟩⟩
        rw [← hcell j hj, add_assoc]
      · exact ⟨d0, fun h => absurd h hi⟩
    obtain ⟨g, hg⟩ : ∃ g : Nat → α, ∀ i, i < len → G (g i) ∧ ∀ j, j < k → W.cell? (a.add (i * k + j)) = (f (g i))[j]? := ⟨fun i => (hin i).choose, fun i hi => (hin i).choose_spec hi⟩
    have hL : ((List.range len).map g).length = len := by simp
    have hmem : ∀ m ∈ (List.range len).map g, G m := by
      intro m hm
      obtain ⟨i, hi, rfl⟩ := List.mem_map.1 hm
      exact (hg i (List.mem_range.1 hi)).1
    have hfl : ∀ m ∈ (List.range len).map g, (f m).length = k := fun m hm => hf m (hmem m hm)
    refine ⟨(List.range len).map g, ?_, hmem, by rw [hL]; omega⟩
    rw [hL]
    refine ⟨some a, cap, rfl, hl, by rw [flat_len f k _ hfl, hL], fun hne => ?_⟩
    obtain ⟨b, off, spot⟩ := a
    have hspot : spot = none := by
      have h0 := (hg 0 (by omega)).2 0 hk
      have hlt0 : 0 < (f (g 0)).length := by rw [hf _ (hg 0 (by omega)).1]; exact hk
      rw [List.getElem?_eq_getElem hlt0, Nat.zero_mul] at h0
      exact spot_none h0
    subst hspot
    refine ⟨b, off, rfl, ?_, fun j u hj => ?_⟩
    · rw [hx] at hlt
      refine hlt (.cell b off) (List.mem_append_left _ (MemPlace.mem_row.2 ⟨0, ?_, by simp⟩))
      rw [hC, hlen]
      exact Nat.mul_pos (by omega) hk
    · have hjl := (List.getElem?_eq_some_iff.1 hj).1
      rw [flat_len f k _ hfl, hL] at hjl
      have hi : j / k < len := by rw [Nat.div_lt_iff_lt_mul hk]; exact hjl
      have hr : j % k < k := Nat.mod_lt _ hk
      have hj2 : j = (j / k) * k + j % k := by rw [Nat.mul_comm]; exact (Nat.div_add_mod j k).symm
      have hx' : ((List.range len).map g)[j / k]? = some (g (j / k)) := by simp [hi]
      have hfa := flat_at f k hfl hx'
      have h1 : (f (g (j / k)))[j % k]? = some u := by
        rw [← hfa, List.getElem?_take, if_pos (by omega), List.getElem?_drop, ← hj2]
        exact hj
      have h2 := (hg (j / k) hi).2 (j % k) hr
      rw [h1, add_none, ← hj2] at h2
      exact h2
set_option maxRecDepth 100000 in
theorem rt_trod {W : World} {sp : Nat → Bool} (n : Nat) (cs : List Value) (y : DataW H × List MemPlace) (h : DataW.trod enc Try.prog W 0 sp true n 98 cs = some y) : ∃ m : Rt, cs = m.cs ∧ (0 ≤ m.addr ∧ m.addr ≤ 4294967295) ∧ (-9223372036854775808 ≤ m.bits ∧ m.bits ≤ 9223372036854775807) ∧ (-9223372036854775808 ≤ m.peer ∧ m.peer ≤ 9223372036854775807) := by
  obtain ⟨xs, n', _, _, hl, hxl, hfd⟩ := DataW.trod_struct Try.underlying98 h
  rw [show Try.prog.cellsOf 98 = 3 by kernel_rfl] at hl
  have e1 : Try.prog.cellsOf 28 = 1 := by kernel_rfl
  have e2 : Try.prog.cellsOf 3 = 1 := by kernel_rfl
  match cs, hl with
  | [c0, c1, c2], _ =>
    have g : ∀ i, i < 3 → ∃ y, xs[i]? = some y := fun i hi => ⟨_, List.getElem?_eq_getElem (by rw [hxl]; exact hi)⟩
    obtain ⟨y0, h0⟩ := g 0 (by decide)
    obtain ⟨y1, h1⟩ := g 1 (by decide)
    obtain ⟨y2, h2⟩ := g 2 (by decide)
    have q0 := hfd 0 _ rfl
    have q1 := hfd 1 _ rfl
    have q2 := hfd 2 _ rfl
    rw [h0] at q0
    rw [h1] at q1
    rw [h2] at q2
    have q0' : DataW.trod enc Try.prog W 0 sp true n' 28 (([c0, c1, c2].drop 0).take (Try.prog.cellsOf 28)) = some y0 := q0
    have q1' : DataW.trod enc Try.prog W 0 sp true n' 3 (([c0, c1, c2].drop 1).take (Try.prog.cellsOf 3)) = some y1 := q1
    have q2' : DataW.trod enc Try.prog W 0 sp true n' 3 (([c0, c1, c2].drop 2).take (Try.prog.cellsOf 3)) = some y2 := q2
    rw [e1] at q0'
    rw [e2] at q1' q2'
    obtain ⟨a, ha, _, hwa⟩ := DataW.trod_int Try.underlying28 q0'
    obtain ⟨b, hb, _, hwb⟩ := DataW.trod_int Try.underlying3 q1'
    obtain ⟨p, hp, _, hwp⟩ := DataW.trod_int Try.underlying3 q2'
    simp only [List.drop_succ_cons, List.drop_zero, List.take_succ_cons, List.take_zero, List.cons.injEq, and_true] at ha hb hp
    subst ha hb hp
    simp only [Lit.wf, Bool.and_eq_true, decide_eq_true_eq] at hwa hwb hwp
    exact ⟨⟨a, b, p⟩, rfl, hwa, hwb, hwp⟩
set_option maxRecDepth 100000 in
theorem key_trod {W : World} {sp : Nat → Bool} (n : Nat) (cs : List Value) (y : DataW H × List MemPlace) (h : DataW.trod enc Try.prog W 0 sp true n 27 cs = some y) : ∃ ky : List UInt8, cs = ky.map bv ∧ ky.length = 32 := by
  obtain ⟨xs, n', _, _, hl, hxl, hfd⟩ := DataW.trod_array Try.underlying27 h
  rw [show Try.prog.cellsOf 27 = 32 by kernel_rfl] at hl
  have e1 : Try.prog.cellsOf 5 = 1 := by kernel_rfl
  have hb : ∃ l : List UInt8, cs = l.map bv := by
    refine list_choose bv cs fun u hu => ?_
    obtain ⟨i, hi⟩ := List.getElem?_of_mem hu
    have hlt := (List.getElem?_eq_some_iff.1 hi).1
    have q := hfd i (by omega)
    rw [List.getElem?_eq_getElem (by omega : i < xs.length), e1, Nat.mul_one, List.drop_eq_getElem_cons hlt] at q
    rw [List.getElem?_eq_getElem hlt] at hi
    injection hi with hi
    obtain ⟨z, hz, _, hw⟩ := DataW.trod_int Try.underlying5 q
    simp only [List.take_succ_cons, List.take_zero, List.cons.injEq, and_true] at hz
    rw [hi] at hz
    subst hz
    simp only [Lit.wf, Bool.and_eq_true, decide_eq_true_eq, show IntKind.u8.min = 0 from rfl, show IntKind.u8.max = 255 from rfl] at hw
    refine ⟨UInt8.ofNat z.toNat, ?_⟩
    have : ((UInt8.ofNat z.toNat).toNat : Int) = z := by rw [UInt8.toNat_ofNat']; omega
    exact congrArg (Value.int .u8) this.symm
  obtain ⟨l, rfl⟩ := hb
  exact ⟨l, rfl, by simpa using hl⟩
set_option maxRecDepth 100000 in
theorem mb_trod {W : World} {sp : Nat → Bool} (n : Nat) (cs : List Value) (y : DataW H × List MemPlace) (h : DataW.trod enc Try.prog W 0 sp true n 95 cs = some y) : ∃ m : Mb, cs = m.cs ∧ m.ky.length = 32 ∧ (-9223372036854775808 ≤ m.id ∧ m.id ≤ 9223372036854775807) := by
  obtain ⟨xs, n', _, _, hl, hxl, hfd⟩ := DataW.trod_struct Try.underlying95 h
  rw [show Try.prog.cellsOf 95 = 34 by kernel_rfl] at hl
  have e1 : Try.prog.cellsOf 3 = 1 := by kernel_rfl
  have e2 : Try.prog.cellsOf 27 = 32 := by kernel_rfl
  have e3 : Try.prog.cellsOf 4 = 1 := by kernel_rfl
  have g : ∀ i, i < 3 → ∃ y, xs[i]? = some y := fun i hi => ⟨_, List.getElem?_eq_getElem (by rw [hxl]; exact hi)⟩
  obtain ⟨y0, h0⟩ := g 0 (by decide)
  obtain ⟨y1, h1⟩ := g 1 (by decide)
  obtain ⟨y2, h2⟩ := g 2 (by decide)
  have q0 := hfd 0 _ rfl
  have q1 := hfd 1 _ rfl
  have q2 := hfd 2 _ rfl
  rw [h0] at q0
  rw [h1] at q1
  rw [h2] at q2
  have q0' : DataW.trod enc Try.prog W 0 sp true n' 3 ((cs.drop 0).take (Try.prog.cellsOf 3)) = some y0 := q0
  have q1' : DataW.trod enc Try.prog W 0 sp true n' 27 ((cs.drop 1).take (Try.prog.cellsOf 27)) = some y1 := q1
  have q2' : DataW.trod enc Try.prog W 0 sp true n' 4 ((cs.drop 33).take (Try.prog.cellsOf 4)) = some y2 := q2
  rw [e1] at q0'
  rw [e2] at q1'
  rw [e3] at q2'
  obtain ⟨a, ha, _, hwa⟩ := DataW.trod_int Try.underlying3 q0'
  obtain ⟨ky, hk, hkl⟩ := key_trod n' _ y1 q1'
  obtain ⟨b, hb, _⟩ := DataW.trod_bool Try.underlying4 q2'
  simp only [Lit.wf, Bool.and_eq_true, decide_eq_true_eq] at hwa
  refine ⟨⟨a, ky, b⟩, ?_, hkl, hwa⟩
  have s1 : cs = cs.take 1 ++ (cs.drop 1).take 32 ++ (cs.drop 33).take 1 := by
    have e : (cs.drop 33).take 1 = cs.drop 33 := List.take_of_length_le (by rw [List.length_drop]; omega)
    rw [e, List.append_assoc, show cs.drop 33 = (cs.drop 1).drop 32 by rw [List.drop_drop], List.take_append_drop, List.take_append_drop]
  rw [s1, hk, hb, show cs.take 1 = [.int .i64 a] from ha]
  rfl
set_option maxRecDepth 100000 in
/-- A configuration as an argument. -/
theorem cfg_at {W : World} {base : Nat} {sp : Nat → Bool} {v : Value} {d : DataW H} {ps : List MemPlace} (hok : Value.okWide Try.prog W .any base 25 v) (h : DataW.Trod enc Try.prog W 0 sp true 25 v d ps) (hlt : ∀ x ∈ ps, x.block < W.heap.size) :
    ∃ (vp vr : Value) (c : Cf), v = .agg #[vp, vr] ∧ CAt W W.heap.size vp vr c ∧ (∀ r ∈ c.rs, 0 ≤ r.addr ∧ r.addr ≤ 4294967295) := by
  obtain ⟨cs, rfl, hl, hc⟩ := cells_at (ts := [22, 23]) Try.underlying25 rfl (by kernel_rfl) (by kernel_rfl) hok
  match cs, hl with
  | [vp, vr], _ =>
    obtain ⟨fuel, hf⟩ := h
    obtain ⟨xs, n', _, hx, _, hxl, hfd⟩ := DataW.trod_struct Try.underlying25 hf
    have g : ∀ i, i < 2 → ∃ y, xs[i]? = some y := fun i hi => ⟨_, List.getElem?_eq_getElem (by rw [hxl]; exact hi)⟩
    obtain ⟨y0, h0⟩ := g 0 (by decide)
    obtain ⟨y1, h1⟩ := g 1 (by decide)
    have q0 := hfd 0 _ rfl
    have q1 := hfd 1 _ rfl
    rw [h0] at q0
    rw [h1] at q1
    have q0' : DataW.trod enc Try.prog W 0 sp true n' 22 [vp] = some y0 := q0
    have q1' : DataW.trod enc Try.prog W 0 sp true n' 23 [vr] = some y1 := q1
    simp only [Prod.mk.injEq] at hx
    obtain ⟨l, ht, hg, _⟩ := tab_trod (⟨0, zkey, false⟩ : Mb) Mb.cs (fun m => m.ky.length = 32 ∧ (-9223372036854775808 ≤ m.id ∧ m.id ≤ 9223372036854775807)) 34 (by decide) (fun m hm => Mb.len hm.1) Try.underlying22 (by kernel_rfl) mb_trod q0' (fun x hx' => hlt x (by rw [hx.2]; exact List.mem_flatMap.2 ⟨y0, List.mem_of_getElem? h0, hx'⟩))
    obtain ⟨m, hu, hgm, _⟩ := tab_trod (⟨0, 0, 0⟩ : Rt) Rt.cs (fun m => (0 ≤ m.addr ∧ m.addr ≤ 4294967295) ∧ (-9223372036854775808 ≤ m.bits ∧ m.bits ≤ 9223372036854775807) ∧ (-9223372036854775808 ≤ m.peer ∧ m.peer ≤ 9223372036854775807)) 3 (by decide) (fun _ _ => rfl) Try.underlying23 (by kernel_rfl) rt_trod q1' (fun x hx' => hlt x (by rw [hx.2]; exact List.mem_flatMap.2 ⟨y1, List.mem_of_getElem? h1, hx'⟩))
    exact ⟨vp, vr, ⟨l, m⟩, rfl, ⟨⟨fun x hx => (hg x hx).1, ht⟩, hu⟩, fun r hr => (hgm r hr).1⟩
def opTs : List TypeId := 3 :: 26 :: 3 :: (List.replicate 32 5 ++ [28, 3])
set_option maxRecDepth 100000 in
/-- An operation as an argument. -/
theorem op_atR {W : World} {base : Nat} {v : Value} (hok : Value.okWide Try.prog W .any base 30 v) :
    ∃ o : Opn, (v = o.val ∧ o.ky.length = 32 ∧ (0 ≤ o.addr ∧ o.addr ≤ 4294967295) ∧ (-9223372036854775808 ≤ o.kind ∧ o.kind ≤ 9223372036854775807) ∧ (-9223372036854775808 ≤ o.id ∧ o.id ≤ 9223372036854775807) ∧ (-9223372036854775808 ≤ o.bits ∧ o.bits ≤ 9223372036854775807)) ∧ (0 ≤ o.ref ∧ o.ref ≤ 18446744073709551615) := by
  obtain ⟨cs, rfl, hl, hc⟩ := cells_at (ts := opTs) Try.underlying30 rfl (by kernel_rfl) (by kernel_rfl) hok
  have hl' : cs.length = 37 := hl
  match cs, hl' with
  | c0 :: c1 :: c2 :: R, hR =>
    have hR' : R.length = 34 := by simpa using hR
    obtain ⟨k, rfl, hk⟩ := cell_int Try.underlying3 (hc 0 3 c0 rfl rfl)
    obtain ⟨r, rfl, hr⟩ := cell_int Try.underlying26 (hc 1 26 c1 rfl rfl)
    obtain ⟨i, rfl, hi⟩ := cell_int Try.underlying3 (hc 2 3 c2 rfl rfl)
    have hb : ∃ l : List UInt8, R.take 32 = l.map bv := by
      refine list_choose bv _ fun u hu => ?_
      obtain ⟨j, hj⟩ := List.getElem?_of_mem hu
      rw [List.getElem?_take] at hj
      split at hj
      · have hat : ∀ j, j < 32 → opTs[3 + j]? = some 5 := by decide
        obtain ⟨z, rfl, h0, h1⟩ := cell_int Try.underlying5 (hc (3 + j) 5 u (hat j ‹_›) (by rw [show 3 + j = j + 1 + 1 + 1 by omega]; exact hj))
        have h0' : (0 : Int) ≤ z := h0
        have h1' : z ≤ 255 := h1
        refine ⟨UInt8.ofNat z.toNat, ?_⟩
        have : ((UInt8.ofNat z.toNat).toNat : Int) = z := by rw [UInt8.toNat_ofNat']; omega
        exact congrArg (Value.int .u8) this.symm
      · cases hj
    obtain ⟨ky, hky⟩ := hb
    have hd : ∃ x y, R.drop 32 = [x, y] := by
      have h1 : (R.drop 32).length = 2 := by rw [List.length_drop, hR']
      match hd : R.drop 32, h1 with
      | [x, y], _ => exact ⟨x, y, rfl⟩
    obtain ⟨x, y, hd⟩ := hd
    have hx : R[32]? = some x := by
      have : (R.drop 32)[0]? = some x := by rw [hd]; rfl
      rwa [List.getElem?_drop] at this
    have hy : R[33]? = some y := by
      have : (R.drop 32)[1]? = some y := by rw [hd]; rfl
      rwa [List.getElem?_drop] at this
    obtain ⟨a, rfl, ha⟩ := cell_int Try.underlying28 (hc 35 28 x rfl (by rw [show 35 = 32 + 1 + 1 + 1 by rfl]; exact hx))
    obtain ⟨b, rfl, hb⟩ := cell_int Try.underlying3 (hc 36 3 y rfl (by rw [show 36 = 33 + 1 + 1 + 1 by rfl]; exact hy))
    have hRe : R = ky.map bv ++ [.int .u32 a, .int .i64 b] := by rw [← hky, ← hd, List.take_append_drop]
    refine ⟨⟨k, r, i, ky, a, b⟩, ⟨by rw [hRe]; rfl, ?_, ha, hk, hi, hb⟩, hr⟩
    have := congrArg List.length hky
    rw [List.length_take, hR', List.length_map] at this
    exact this.symm
set_option maxRecDepth 100000 in
theorem op_at {W : World} {base : Nat} {v : Value} (hok : Value.okWide Try.prog W .any base 30 v) :
    ∃ o : Opn, v = o.val ∧ o.ky.length = 32 ∧ (0 ≤ o.addr ∧ o.addr ≤ 4294967295) ∧ (-9223372036854775808 ≤ o.kind ∧ o.kind ≤ 9223372036854775807) ∧ (-9223372036854775808 ≤ o.id ∧ o.id ≤ 9223372036854775807) ∧ (-9223372036854775808 ≤ o.bits ∧ o.bits ≤ 9223372036854775807) := by
  obtain ⟨o, h, _⟩ := op_atR hok
  exact ⟨o, h⟩
end
end Go.Proofs.Ytedmogacklbcmaa.Cfg
