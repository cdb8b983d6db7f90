/- slices.Concat of byte slices, of whatever lengths. -/
import Derived.Test.YtgmmjnedgaeefaaDskMem
import Derived.Test.YtgmmjnedgaeefaaArgs
import Derived.Test.YtgmmjnedgaeefaaBs
import Derived.Lib.AppendZerosOnto
namespace Go.Proofs.Ytgmmjnedgaeefaa.Dsk
open Go.RowKit
def SStop (p : Prop) : Prop := p
theorem sstop {p : Prop} (h : SStop p) : p := h
theorem hbytes_one (l : List UInt8) : ∀ v ∈ l.map bv, v.oneCell' = true := by
  intro v hv
  obtain ⟨u, _, rfl⟩ := List.mem_map.1 hv
  rfl
theorem zeroCells_u8 (k : Nat) : Builtin.zeroCells (Value.int .u8 0).cells k = ((List.replicate k (0 : UInt8)).map bv).toArray := by
  apply Array.ext
  · simp [Builtin.zeroCells, Value.cells]
  · intro j h1 h2
    simp [Builtin.zeroCells, Value.cells, bv, Nat.mod_one]
theorem run_app_zeros (w : World) {base : Nat} {v : Value} {l : List UInt8} (ty : TypeId) (k : Nat) (hown : Own w base v l) (hlen : l.length + k ≤ 140737488355327) (hbase : base ≤ w.heap.size) :
    ∃ v' w', (Builtin.append_ #[27, 3] ty #[v, .int .i64 (k : Int)]).run Try.prog w = .ok v' w' ∧ Own w' base v' (l ++ List.replicate k 0) ∧ w.grownBy w' v.ownBlock := by
  obtain ⟨i, hi, hz, hs, hb⟩ := info_u8
  have hu := run_underlying (P := Try.prog) Try.underlying27
  have hui := run_underlying (P := Try.prog) Try.underlying3
  have hw : IntKind.i64.wrap (k : Int) = k := by rw [IntKind.wrap_i64]; omega
  have grown : ∀ (old : Nat), old < l.length + k → ∀ (row : Option Nat),
      Own (w.drew.alloc (.cells ((l.map bv).toArray ++ Builtin.zeroCells (Value.int .u8 0).cells k ++ Builtin.zeroCells (Value.int .u8 0).cells (grownCap w (l.length + k) old 5 - (l.length + k))) 5)) base (.slice (some ⟨w.heap.size, 0, none⟩) (l.length + k) (grownCap w (l.length + k) old 5)) (l ++ List.replicate k 0) ∧
      w.grownBy (w.drew.alloc (.cells ((l.map bv).toArray ++ Builtin.zeroCells (Value.int .u8 0).cells k ++ Builtin.zeroCells (Value.int .u8 0).cells (grownCap w (l.length + k) old 5 - (l.length + k))) 5)) row := by
    intro old ho row
    have hge := grownCap_ge w (l.length + k) old 5
    have hcm : grownCap w (l.length + k) old 5 ≤ maxLen := grownCap_le_maxLen w (l.length + k) old 5 (by unfold maxLen; omega)
    refine ⟨⟨by simp, .inr ⟨w.heap.size, _, _, by rw [List.length_append, List.length_replicate], hbase, heap_alloc_new w.drew _, by rw [List.length_append, List.length_replicate]; exact hge, hcm, ?_, ?_⟩⟩, ⟨rfl, rfl, rfl, by simp, fun j hj _ => Below.heap_alloc w.drew _ j hj⟩⟩
    · simp only [zeroCells_u8, Array.size_append, List.size_toArray, List.length_map, List.length_replicate]
      omega
    · simp only [zeroCells_u8, Array.toList_append, List.map_append, List.append_assoc]
      rw [← List.append_assoc]
      exact List.take_left' (by simp)
  by_cases hk : k = 0
  · subst hk
    have hw0 : IntKind.i64.wrap 0 = 0 := hw
    refine ⟨v, w, ?_, by simpa using hown, ⟨rfl, rfl, rfl, Nat.le_refl _, fun _ _ _ => rfl⟩⟩
    rcases hown.2 with ⟨rfl, _⟩ | ⟨g, cap, cur, rfl, _, _, hnc, _⟩
    · simp [Builtin.append_, hu, hui, sizeOf, typeInfo, hi, hb, asInt, asIntOf, hw0]
    · simp [Builtin.append_, hu, hui, sizeOf, typeInfo, hi, hb, asInt, asIntOf, hw0, hnc, storeCells]
  · rcases hown.2 with ⟨rfl, hl⟩ | ⟨g, cap, cur, rfl, hbg, hg, hnc, hcm, hcs, htake⟩
    · have hl0 : l = [] := List.eq_nil_of_length_eq_zero hl
      subst hl0
      have hr := Lib.run_append_grow_zeros (P := Try.prog) w 27 3 ty 5 i (.int .u8 0) .i64 .i64 Try.underlying27 Try.underlying3 hi hz none 0 0 [] (run_firstCells_none _ _ _ _ _) k (by omega) (by omega) (by omega) (by omega) (by rw [hb]; omega) (growslice_fits (by omega) (by rw [hb]; simp at hlen; omega))
      have hgr := grown 0 (by simp; omega) none
      simp only [List.length_nil] at hgr
      exact ⟨_, _, hr, hgr.1, hgr.2⟩
    · by_cases hroom : l.length + k ≤ cap
      · have hfit : l.length + 0 + ((List.replicate k (0 : UInt8)).map bv).length ≤ cur.size := by rw [hcs]; simp; omega
        have hst := run_storeCells_at Try.prog g l.length 5 ((List.replicate k (0 : UInt8)).map bv) 0 cur w hg hfit (hbytes_one _)
        simp only [Nat.add_zero] at hst
        have hneg : ¬ ((k : Int) < 0) := by omega
        have hbig : ¬ (281474976710656 < (k : Int)) := by omega
        have hap : (Builtin.append_ #[27, 3] ty #[.slice (some ⟨g, 0, none⟩) l.length cap, .int .i64 (k : Int)]).run Try.prog w =
            .ok (.slice (some ⟨g, 0, none⟩) (l.length + k) cap) (w.setRow g (cur.toList.take l.length ++ (List.replicate k (0 : UInt8)).map bv ++ cur.toList.drop (l.length + ((List.replicate k (0 : UInt8)).map bv).length)).toArray) := by
          simp [Builtin.append_, hu, hui, sizeOf, typeInfo, zeroValue, hi, hz, hs, hb, asInt, asIntOf, hw, hneg, hbig, hk, hroom, Addr.add_lit, zeroCells_u8, -List.map_replicate, hst]
        refine ⟨_, _, hap, ⟨by simp, .inr ⟨g, cap, _, by rw [List.length_append, List.length_replicate], hbg, setRow_heap w g cur _ 5 _ hg, by rw [List.length_append, List.length_replicate]; exact hroom, hcm, ?_, ?_⟩⟩, ⟨rfl, rfl, rfl, by simp, fun j _ hj => setRow_other w g j _ (fun e => hj (by simp [Value.ownBlock, e]))⟩⟩
        · simp only [List.size_toArray, List.length_append, List.length_take, List.length_drop, Array.length_toList, List.length_map, List.length_replicate]
          omega
        · rw [Nat.mul_one] at htake
          rw [htake, List.map_append]
          exact List.take_left' (by simp)
      · have hr := Lib.run_append_grow_zeros (P := Try.prog) w 27 3 ty 5 i (.int .u8 0) .i64 .i64 Try.underlying27 Try.underlying3 hi hz (some ⟨g, 0, none⟩) l.length cap (l.map bv) (run_firstCells_some w.drew _ _ ⟨g, 0, none⟩ _ _ (l.map bv) (by rw [hs]; simp) (hown.cells (g := g) rfl)) k (by omega) (by omega) (by omega) (by omega) (by rw [hb]; omega) (growslice_fits (by omega) (by rw [hb]; omega))
        have hgr := grown cap (by omega) (some g)
        exact ⟨_, _, hr, hgr.1, hgr.2⟩
theorem wpList_app_zeros (w : World) {ops : Array Oper} {rest : List Oper} {o : Oper} {a : Act} {Q : Exit → Act → World → Prop} (hgd : o.guard = none) (s x : Operand)
    (ho : o.op = .call { callee := .builtin .append, args := #[s, x], argTypes := #[27, 3] }) {base : Nat} {v : Value} {l : List UInt8} {k : Nat} (hs : a.eval s = v) (hown : Own w base v l) (hx : a.eval x = .int .i64 (k : Int))
    (hlen : l.length + k ≤ 140737488355327) (hbase : base ≤ w.heap.size)
    (h : ∀ v' w', Own w' base v' (l ++ List.replicate k 0) → w.grownBy w' v.ownBlock → wpList Try.prog ops Q rest (a.put o.dst v') w') : wpList Try.prog ops Q (o :: rest) a w := by
  refine wpList_plain hgd fun K hK => ?_
  obtain ⟨v', w', hr, h2, h3⟩ := run_app_zeros w o.type k hown hlen hbase
  unfold Oper.wp execOp
  simp only [ho, resolve, invoke, builtin, Sem.run_bind, Sem.run_pure, Result.andThen_ok, List.map_toArray, List.map_cons, List.map_nil, hs, hx, hr]
  exact hK _ _ (h v' w' h2 h3)
theorem own_empty {w : World} {base : Nat} {v : Value} {l : List UInt8} (h : Own w base v l) (hl : l ≠ []) : ∃ g c, v = .slice (some ⟨g, 0, none⟩) l.length c ∧ l.length ≤ c ∧ Own w base (.slice (some ⟨g, 0, none⟩) 0 c) [] := by
  rcases h.2 with ⟨_, h2⟩ | ⟨g, cap, cur, e, h1, h2, h3, h4, h5, _⟩
  · exact absurd (List.eq_nil_of_length_eq_zero h2) hl
  · exact ⟨g, cap, e, h3, rfl, .inr ⟨g, cap, cur, rfl, h1, h2, Nat.zero_le _, h4, h5, by simp⟩⟩
set_option maxRecDepth 100000 in
set_option maxHeartbeats 1000000 in
theorem Grow_any (n : Nat) (h0 : 0 < n) (hn : n ≤ 100000000) (w : World) : Calls Try.prog 39 #[.slice none 0 0, .int .i64 (n : Int)] w fun e w' => ∃ v, e = .returned v ∧ Own w' w.heap.size v [] ∧ Below w.heap.size w w' := by
  have h1 : ¬ (n : Int) < 0 := by omega
  have h2 : (0 : Int) < (n : Int) := by omega
  go_enter Try.func39, Try.ntmps39
  go_wp2_with (first
    | (at_builtin; refine wpList_app_zeros w rfl (.tmp 20) (.tmp 21) rfl rfl (Own.nil w w.heap.size) rfl (k := n) (by simp; omega) (Nat.le_refl _) ?_
       intro v2 w2 ho2 hg2
       refine sstop ?_)
    | fail)
  unfold SStop
  rw [List.nil_append] at ho2
  have hne : List.replicate n (0 : UInt8) ≠ [] := by intro h; have := congrArg List.length h; simp at this; omega
  have HB := Lib.hid ((Below.refl w.heap.size w).grown hg2 (Nat.le_refl _) (fun k hk => by cases hk))
  obtain ⟨g, c, rfl, hc, ho⟩ := own_empty ho2 hne
  rw [List.length_replicate] at hc ⊢
  have HO := Lib.hid ho
  have hc0 : (0 : Int) ≤ (c : Int) := by omega
  clear ho2 hg2 hne hc ho
  go_wp2
  go_ret
  exact ⟨_, rfl, HO.out, HB.out⟩
set_option maxRecDepth 100000 in
theorem Grow_zero (w : World) : Calls Try.prog 39 #[.slice none 0 0, .int .i64 0] w fun e w' => e = .returned (.slice none 0 0) ∧ w = w' := by
  go_enter Try.func39, Try.ntmps39
  go_wp2
  go_ret
  exact ⟨rfl, rfl⟩
theorem Grow_all (n : Nat) (hn : n ≤ 100000000) (w : World) : Calls Try.prog 39 #[.slice none 0 0, .int .i64 (n : Int)] w fun e w' => ∃ v, e = .returned v ∧ Own w' w.heap.size v [] ∧ Below w.heap.size w w' := by
  by_cases h : n = 0
  · subst h
    exact (Grow_zero w).mono fun e w' ⟨h1, h2⟩ => ⟨_, h1, by subst h2; exact Own.nil _ _, by subst h2; exact Below.refl _ _⟩
  · exact Grow_any n (by omega) hn w
set_option maxRecDepth 100000 in
set_option maxHeartbeats 1000000 in
theorem Concat_own (v : Value) (ls : List (List UInt8)) (w : World) (hb : Bss w w.heap.size v ls) (hn : ls.length ≤ 1000) (hf : ls.flatten.length ≤ 100000000) :
    Calls Try.prog 31 #[v] w fun e w' => ∃ v, e = .returned v ∧ Own w' w.heap.size v ls.flatten ∧ Below w.heap.size w w' := by
  have Hb := Lib.hid hb
  have Hf := Lib.hid hf
  obtain ⟨A, c, rfl, hc, hcs⟩ := hb
  have Hcs := Lib.hid hcs
  have HpL : Hid (∀ (i : Nat) (l : List UInt8), ls[i]? = some l → (ls.take (i + 1)).flatten = (ls.take i).flatten ++ l) := fun i l h => by
    rw [List.take_add_one, h]; simp
  have HfL : Hid (∀ i, (ls.take i).flatten.length ≤ 100000000) := fun i => by
    have h2 : ls.flatten = (ls.take i).flatten ++ (ls.drop i).flatten := by rw [← List.flatten_append, List.take_append_drop]
    have h3 := congrArg List.length h2
    rw [List.length_append] at h3
    omega
  clear hf hc hcs
  go_enter Try.func31, Try.ntmps31
  go_wp2
  go_loopw [11, 3] (fun iv sv wr => ∃ i n : Nat, i ≤ ls.length ∧ iv = .int .i64 (i : Int) ∧ sv = .int .i64 (n : Int) ∧ (ls.take i).flatten.length = n ∧ w = wr) (fun iv _ _ => ls.length - (intOf iv).toNat)
  case atStart => exact ⟨0, 0, Nat.zero_le _, rfl, rfl, rfl, rfl⟩
  case round =>
    obtain ⟨i, n, hi, rfl, rfl, hnl, rfl⟩ := hrel
    have Hnl := Lib.hid hnl
    clear hnl
    by_cases h1 : i < ls.length
    · have h1' : (i : Int) < (ls.length : Int) := by omega
      obtain ⟨b, off, rfl, hlt, hcell⟩ := Hcs.out (by intro h; subst h; simp at h1)
      obtain ⟨u, hu, hbs⟩ := hcell i _ (List.getElem?_eq_getElem h1)
      obtain ⟨piece, hpiece⟩ : ∃ piece, ls[i] = piece := ⟨_, rfl⟩
      have hpi : ls[i]? = some piece := by rw [← hpiece]; exact List.getElem?_eq_getElem h1
      rw [hpiece] at hbs
      obtain ⟨A2, c2, rfl, _, _⟩ := hbs
      have hsum : (ls.take (i + 1)).flatten.length = n + piece.length := by rw [HpL.out i piece hpi, List.length_append, Hnl.out]
      have hle : n + piece.length ≤ 100000000 := by rw [← hsum]; exact HfL.out _
      have hws : IntKind.i64.wrap ((n : Int) + (piece.length : Int)) = (n : Int) + (piece.length : Int) := IntWalk.i64_in _ (by omega)
      have hpos : ¬ (n : Int) + (piece.length : Int) < 0 := by omega
      have Hsum := Lib.hid hsum
      clear hcell hpi hsum hle hpiece
      go_wp2
      go_roundw
      case rel => exact ⟨i + 1, n + piece.length, h1, by simp, by simp, Hsum.out, trivial⟩
      case measure => simp [intOf]; omega
    · have h1' : ¬ (i : Int) < (ls.length : Int) := by omega
      have : i = ls.length := by omega
      subst this
      have hnf := Hnl.out
      rw [List.take_length] at hnf
      have hn6 : n ≤ 100000000 := by rw [← hnf]; exact Hf.out
      have Hnf := Lib.hid hnf
      clear hnf
      go_wp2_with fail
      refine (Grow_all n (by omega) _).mono ?_
      rintro e w1 ⟨v1, rfl, ho1, hb1⟩
      have HO1 := Lib.hid ho1
      have HB1 := Lib.hid hb1
      obtain ⟨A1, c1, e1⟩ := ho1.shape
      obtain ⟨n1, hn1⟩ : ∃ n, ([] : List UInt8).length = n := ⟨_, rfl⟩
      clear ho1 hb1 e1 hn1
      go_wp2
      go_loopw [27, 6] (fun iv sv wr => ∃ i : Nat, i ≤ ls.length ∧ iv = .int .i64 (i : Int) ∧ Own wr w.heap.size sv (ls.take i).flatten ∧ Below w.heap.size w wr) (fun iv _ _ => ls.length - (intOf iv).toNat)
      case atStart => exact ⟨0, Nat.zero_le _, rfl, by rw [List.take_zero]; exact HO1.out, HB1.out⟩
      case round =>
        obtain ⟨i, hi, rfl, ho, hb⟩ := hrel
        rename_i sv _
        have HO := Lib.hid ho
        have HB := Lib.hid hb
        clear ho hb
        by_cases h1 : i < ls.length
        · have h1' : (i : Int) < (ls.length : Int) := by omega
          obtain ⟨b, off, rfl, hlt, hcell⟩ := Hcs.out (by intro h; subst h; simp at h1)
          obtain ⟨u, hu, hbs⟩ := hcell i _ (List.getElem?_eq_getElem h1)
          obtain ⟨piece, hpiece⟩ : ∃ piece, ls[i] = piece := ⟨_, rfl⟩
          have hpi : ls[i]? = some piece := by rw [← hpiece]; exact List.getElem?_eq_getElem h1
          rw [hpiece] at hbs
          have Hbs := Lib.hid (hbs.below HB.out)
          obtain ⟨A2, c2, rfl, _, _⟩ := hbs
          have Hcat := Lib.hid (HpL.out i piece hpi)
          have hlen : (ls.take i).flatten.length + piece.length ≤ 100000000 := by rw [← List.length_append, ← Hcat.out]; exact HfL.out _
          have Hlen := Lib.hid hlen
          have hu' := (HB.out.cell (p := ⟨b, off + i, none⟩) hlt).trans hu
          have HSz := Lib.hid HB.out.size
          clear hcell hpi hpiece hlen hu
          go_wp2_with (first
            | (at_builtin; refine wpList_app_bytes _ rfl (.tmp 31) (.tmp 32) rfl rfl HO.out rfl Hbs.out (by have := Hlen.out; omega) HSz.out ?_
               intro v2 w2 ho2 hg2 _
               have HO2 := Lib.hid ho2
               have HB2 := Lib.hid (HB.out.grown hg2 HSz.out (fun k hk => (HO.out.block_ge hk).1))
               clear ho2 hg2)
            | fail)
          go_roundw
          case rel => exact ⟨i + 1, h1, by simp, by rw [Hcat.out]; exact HO2.out, HB2.out⟩
          case measure => simp [intOf]; omega
        · have h1' : ¬ (i : Int) < (ls.length : Int) := by omega
          have : i = ls.length := by omega
          subst this
          have ho := HO.out
          rw [List.take_length] at ho
          have HX := Lib.hid ho
          clear ho
          go_wp2
          go_ret
          exact ⟨_, rfl, HX.out, HB.out⟩
theorem Concat_any (v : Value) (ls : List (List UInt8)) (w : World) (hb : Bss w w.heap.size v ls) (hn : ls.length ≤ 1000) (hf : ls.flatten.length ≤ 100000000) :
    Calls Try.prog 31 #[v] w fun e w' => ∃ v, e = .returned v ∧ Bs w' w'.heap.size v ls.flatten ∧ Below w.heap.size w w' :=
  (Concat_own v ls w hb hn hf).mono fun _ _ ⟨v, h1, h2, h3⟩ => ⟨v, h1, h2.bs, h3⟩
end Go.Proofs.Ytgmmjnedgaeefaa.Dsk
