/- config: CheckOp. -/
import Derived.Test.YtigjbgjjngeinaaCfgCheck
import Derived.Test.YtigjbgjjngeinaaStage
namespace Go.Proofs.Ytigjbgjjngeinaa.Cfg
open Go.RowKit
section
variable {P : Program}
theorem still_ld {ops : Array Oper} {Q : Act → Prop} {a : Act} {w : World} {o : Oper} {rest : List Oper} (hw : Region.wanted o (yielded ops a.tmps) = true) (ty : TypeId) {x : Operand} {ad : Addr} {v : Value} (ho : o.op = .load ty x) (hx : a.eval x = .pointer (some ad)) (hrun : (loadVar ty ad).run P w = .ok v w)
    (hk : wpStill P ops w Q rest (a.put o.dst v)) : wpStill P ops w Q (o :: rest) a := by
  unfold wpStill
  rw [if_pos hw]
  unfold Oper.still
  have : (execOp a.eval o).run P w = .ok (.value v) w := by
    unfold execOp
    simp only [ho, hx, Instr.loadAt, Instr.sureAddr, Sem.run_bind, Sem.run_pure, Result.andThen_ok, hrun]
  rw [this]
  exact ⟨rfl, hk⟩
theorem wpList_bd {ops : Array Oper} {rest : List Oper} {o : Oper} {a : Act} {w : World} {Q : Exit → Act → World → Prop} (t : TypeId) (parts : Array (Nat × Operand)) (ho : o.op = .build t parts) {v : Value}
    (hrun : (Instr.build t (parts.map fun (i, x) => (i, a.eval x))).run P w = .ok v w) (hw : Region.wanted o (yielded ops a.tmps) = true) (hk : wpList P ops Q rest (a.put o.dst v) w) : wpList P ops Q (o :: rest) a w :=
  BigFrame.wpList_want hw fun K hK => by
    unfold Oper.wp execOp
    simp only [ho, Sem.run_bind, Sem.run_pure, Result.andThen_ok, hrun]
    exact hK _ _ hk
end
section
variable {o : Opn} {w : World} {g : Nat}
theorem Opn.at35 (h : o.ky.length = 32) : o.cs[35]? = some (.int .u32 o.addr) := by
  show (o.ky.map bv ++ [Value.int .u32 o.addr, Value.int .i64 o.bits])[32]? = _
  rw [List.getElem?_append_right (by rw [List.length_map, h]; omega), List.length_map, h]; rfl
theorem Opn.at36 (h : o.ky.length = 32) : o.cs[36]? = some (.int .i64 o.bits) := by
  show (o.ky.map bv ++ [Value.int .u32 o.addr, Value.int .i64 o.bits])[33]? = _
  rw [List.getElem?_append_right (by rw [List.length_map, h]; omega), List.length_map, h]; rfl
theorem Opn.set_id (o : Opn) (x : Int) : o.cs.set 2 (.int .i64 x) = { o with id := x }.cs := rfl
theorem Opn.set_addr (h : o.ky.length = 32) (x : Int) : o.cs.set 35 (.int .u32 x) = { o with addr := x }.cs := by
  show _ :: _ :: _ :: (o.ky.map bv ++ [Value.int .u32 o.addr, Value.int .i64 o.bits]).set 32 _ = _
  rw [List.set_append_right _ _ (by rw [List.length_map, h]; omega), List.length_map, h]; rfl
theorem Opn.set_bits (h : o.ky.length = 32) (x : Int) : o.cs.set 36 (.int .i64 x) = { o with bits := x }.cs := by
  show _ :: _ :: _ :: (o.ky.map bv ++ [Value.int .u32 o.addr, Value.int .i64 o.bits]).set 33 _ = _
  rw [List.set_append_right _ _ (by rw [List.length_map, h]; omega), List.length_map, h]; rfl
theorem Opn.set_key (h : o.ky.length = 32) {k : List UInt8} (hk : k.length = 32) : splice o.cs 3 (k.map bv) = { o with ky := k }.cs := by
  have e1 : o.cs.take 3 = [Value.int .i64 o.kind, .int .u64 o.ref, .int .i64 o.id] := rfl
  have e2 : o.cs.drop (3 + 32) = [Value.int .u32 o.addr, Value.int .i64 o.bits] := by
    show (o.ky.map bv ++ [Value.int .u32 o.addr, Value.int .i64 o.bits]).drop 32 = _
    rw [List.drop_left' (by rw [List.length_map, h])]
  unfold splice
  rw [List.length_map, hk, e1, e2]
  rfl
theorem ky_at (h : o.ky.length = 32) : (o.cs.drop 3).take 32 = o.ky.map bv := by
  show (o.ky.map bv ++ [Value.int .u32 o.addr, Value.int .i64 o.bits]).take 32 = _
  rw [List.take_left' (by rw [List.length_map, h])]
theorem l_op (h : Row w g o.cs 30) (hk : o.ky.length = 32) : (loadVar 30 ⟨g, 0, none⟩).run Try.prog w = .ok o.val w := by
  rw [Pol.run_loadVar_sub (off := 0) (n := 37) w h Try.underlying30 rfl (by kernel_rfl) (by rw [Opn.len hk]; omega), List.drop_zero, List.take_of_length_le (by rw [Opn.len hk]; omega)]
  rfl
theorem l_key (h : Row w g o.cs 30) (hk : o.ky.length = 32) : (loadVar 27 ⟨g, 3, none⟩).run Try.prog w = .ok (arr8 o.ky) w := by
  rw [Pol.run_loadVar_sub (off := 3) (n := 32) w h Try.underlying27 rfl (by kernel_rfl) (by rw [Opn.len hk]; omega)]
  show Result.ok (Value.agg (List.take 32 (o.ky.map bv ++ [Value.int .u32 o.addr, Value.int .i64 o.bits])).toArray) w = _
  rw [List.take_left' (by rw [List.length_map, hk])]
  rfl
end
theorem splice_one {l : List Value} {i : Nat} (h : i < l.length) (v : Value) : splice l i [v] = l.set i v := by
  unfold splice
  rw [List.set_eq_take_append_cons_drop, if_pos h]
  rfl
theorem sp_id (o : Opn) (x : Int) : splice o.cs 2 [.int .i64 x] = { o with id := x }.cs := rfl
theorem sp_addr {o : Opn} (h : o.ky.length = 32) (x : Int) : splice o.cs 35 [.int .u32 x] = { o with addr := x }.cs := by
  rw [splice_one (by rw [Opn.len h]; omega), Opn.set_addr h]
theorem sp_bits {o : Opn} (h : o.ky.length = 32) (x : Int) : splice o.cs 36 [.int .i64 x] = { o with bits := x }.cs := by
  rw [splice_one (by rw [Opn.len h]; omega), Opn.set_bits h]
def Stop (p : Prop) : Prop := p
theorem stop {p : Prop} (h : Stop p) : p := h
def zop (k r : Int) : Opn := ⟨k, r, 0, zkey, 0, 0⟩
/-- What an operation of its kind names. -/
def named (o : Opn) : Opn :=
  if o.kind = 1 then { zop o.kind o.ref with id := o.id, ky := o.ky } else if o.kind = 2 ∨ o.kind = 3 then { zop o.kind o.ref with id := o.id } else if o.kind = 4 then { zop o.kind o.ref with id := o.id, addr := o.addr, bits := o.bits } else { zop o.kind o.ref with addr := o.addr, bits := o.bits }
def okO (o : Opn) : Bool := (decide (o.kind = 1) || decide (o.kind = 2) || decide (o.kind = 3) || decide (o.kind = 4) || decide (o.kind = 5)) && (decide (o = named o) && ((decide (o.kind = 5) || isIDB o.id) && prefB o.addr o.bits))
def checkOpZ (o : Opn) : Int := if okO o = true then 0 else 2
def st1 (o : Opn) (s : Nat) : Opn := { zop o.kind o.ref with id := if 1 ≤ s then o.id else 0, ky := if 2 ≤ s then o.ky else zkey }
def st4 (o : Opn) (s : Nat) : Opn := { zop o.kind o.ref with id := if 1 ≤ s then o.id else 0, addr := if 2 ≤ s then o.addr else 0, bits := if 3 ≤ s then o.bits else 0 }
def st5 (o : Opn) (s : Nat) : Opn := { zop o.kind o.ref with addr := if 1 ≤ s then o.addr else 0, bits := if 2 ≤ s then o.bits else 0 }
theorem zkey_len : zkey.length = 32 := by simp [zkey]
theorem st1_len (o : Opn) (h : o.ky.length = 32) (s : Nat) : (st1 o s).ky.length = 32 := by
  unfold st1
  simp only
  split
  · exact h
  · exact zkey_len
theorem st4_len (o : Opn) (_ : o.ky.length = 32) (s : Nat) : (st4 o s).ky.length = 32 := zkey_len
theorem st5_len (o : Opn) (_ : o.ky.length = 32) (s : Nat) : (st5 o s).ky.length = 32 := zkey_len
set_option maxRecDepth 100000 in
theorem zero_op : (Try.prog.info? 30).bind (·.zero) = some (zop 0 0).val := by kernel_rfl

set_option maxRecDepth 100000 in
set_option maxHeartbeats 4000000 in
theorem CheckOp_1 (o : Opn) (hk : o.ky.length = 32) (hkind : o.kind = 1) (w : World) : Calls Try.prog 58 #[o.val] w fun e w' => e = .returned (.int .i64 (checkOpZ o)) ∧ Below w.heap.size w w' := by
  obtain ⟨z, hz⟩ : ∃ z, checkOpZ o = z := ⟨_, rfl⟩
  rw [hz]
  have Hz := Lib.hid hz
  have Hk := Lib.hid hk
  have HKIND := Lib.hid hkind
  have hr0 : Row (w.alloc (.cells o.cs.toArray 30)) w.heap.size o.cs 30 := Row.new rfl rfl
  have hb0 : Below w.heap.size w (w.alloc (.cells o.cs.toArray 30)) := (Below.refl _ w).alloc (Nat.le_refl _) _
  have c0 := hr0.cell (i := 0) rfl
  have c1 := hr0.cell (i := 1) rfl
  have HR0 := Lib.hid hr0
  have HB0 := Lib.hid hb0
  have hgs : (w.alloc (.cells o.cs.toArray 30)).heap.size = w.heap.size + 1 := by simp
  have Hgs := Lib.hid hgs
  clear hz hk hr0 hb0 hgs hkind
  unfold Opn.val
  go_enter Try.func58, Try.ntmps58
  go_wp2_with (first
    | (show wpList _ _ _ (⟨some 8, _, _, _, _, _⟩ :: _) _ _; refine wpList_bd _ _ rfl (v := (zop o.kind o.ref).val) (by kernel_rfl) rfl ?_)
    | (refine QB.wpList_alloc rfl 30 rfl zero_op ?_; intro W1 hr1 hb1; have HR1 := Lib.hid (show Row W1 (w.heap.size + 1) (zop 0 0).cs 30 from Hgs.out ▸ hr1); have HB1 := Lib.hid hb1; clear hr1 hb1; refine stop ?_)
    | fail)
  unfold Stop
  refine wpList_storeRow rfl 30 (.tmp 3) (.tmp 8) rfl (g := w.heap.size + 1) (by rfl) (cs := (zop o.kind o.ref).cs) rfl HR1.out (by kernel_rfl) (Opn.len zkey_len) (Opn.len zkey_len) (Opn.one _) ?_
  refine QB.name fun W2 hW2 => ?_
  have hR1 : Row W2 (w.heap.size + 1) (zop o.kind o.ref).cs 30 := by rw [← hW2]; exact HR1.out.setRow _
  have hBW : Below w.heap.size w W2 := by rw [← hW2]; exact below_setRow (nextB HB0.out (Nat.le_refl _) HB1.out) (by omega) _
  have hR0 : Row W2 w.heap.size o.cs 30 := by rw [← hW2]; exact (HR0.out.below HB1.out HR0.out.lt).setOther _ _ (by omega)
  clear hW2 c0 c1
  simp only [Act.put]
  have ck := hR0.cell (i := 0) rfl
  rw [HKIND.out] at ck
  have ci := hR0.cell (i := 2) rfl; have ca := hR0.cell (Opn.at35 Hk.out); have cb := hR0.cell (Opn.at36 Hk.out)
  go_wp2_with fail
  obtain ⟨nm, hnm⟩ : ∃ nm : Opn, { zop o.kind o.ref with id := o.id, ky := o.ky } = nm := ⟨_, rfl⟩
  have Hnm : Hid (named o = nm) := Lib.hid (by rw [← hnm]; unfold named; rw [if_pos HKIND.out])
  have HNM := Lib.hid hnm
  have HnmL : Hid (nm.ky.length = 32) := Lib.hid (by rw [← hnm]; first | exact Hk.out | exact zkey_len)
  have HR0 := Lib.hid hR0
  have HBW2 := Lib.hid hBW
  obtain ⟨gn, hgn⟩ : ∃ gn, w.heap.size + 1 = gn := ⟨_, rfl⟩
  rw [hgn] at hR1
  have HR1 := Lib.hid hR1
  have HGne := Lib.hid (show w.heap.size ≠ gn by omega)
  have HGle := Lib.hid (show w.heap.size ≤ gn by omega)
  rw [hgn]
  clear hR0 hR1 hBW hnm ck ci ca cb hgn
  refine ByN.marks mixed (Stg.St gn (fun s => (st1 o s).cs) 30) [By.is (.pointer (some ⟨w.heap.size, 2, none⟩)),
    By.is (.int .i64 o.id),
    By.is (.pointer (some ⟨w.heap.size, 3, none⟩)),
    By.is (arr8 o.ky),
    By.is (.pointer (some ⟨gn, 2, none⟩)),
    Stg.stM gn (fun s => (st1 o s).cs) 30 1,
    By.is (.pointer (some ⟨gn, 3, none⟩)),
    Stg.stM gn (fun s => (st1 o s).cs) 30 2]
    (Ev.masks _ []) (by kernel_rfl) rfl Stg.St.refl Stg.St.trans ⟨?_, ?_, ?_, ?_, ?_, ?_, ?_, ?_, trivial⟩ ?_
  · intro a w9 ht hs hg
    have h1 := By.same_get hs 1 (by decide) (by kernel_rfl)
    refine By.yes rfl ?_
    clear hs hg
    go_simp
    exact ⟨_, rfl, Stg.St.refl _, rfl⟩
  · intro a w9 ht hs hg
    have h13 : a.tmps.getD 13 undef = _ := ByN.given_get hg 0 rfl rfl (by kernel_rfl)
    refine By.yes rfl ?_
    clear hs hg
    have hc := (ht.row (x := W2.drew) HR0.out HGne.out).cell (i := 2) rfl
    clear ht
    go_simp
    exact ⟨_, rfl, Stg.St.refl _, rfl⟩
  · intro a w9 ht hs hg
    have h1 := By.same_get hs 1 (by decide) (by kernel_rfl)
    refine By.yes rfl ?_
    clear hs hg
    go_simp
    exact ⟨_, rfl, Stg.St.refl _, rfl⟩
  · intro a w9 ht hs hg
    have h15 : a.tmps.getD 15 undef = _ := ByN.given_get hg 2 rfl rfl (by kernel_rfl)
    refine By.yes rfl ?_
    clear hs hg
    refine Pol.wp_loadSub (off := 3) (n := 32) 27 _ rfl h15 (ht.row (x := W2.drew) HR0.out HGne.out) Try.underlying27 rfl (by kernel_rfl) (by rw [Opn.len Hk.out]; omega) ?_
    exact ⟨_, rfl, Stg.St.refl _, by rw [ky_at Hk.out]; rfl⟩
  · intro a w9 ht hs hg
    have h3 := By.same_get hs 3 (by decide) (by kernel_rfl)
    refine By.yes rfl ?_
    clear hs hg
    go_simp
    exact ⟨_, rfl, Stg.St.refl _, rfl⟩
  · intro a w9 ht hs hg
    have h17 : a.tmps.getD 17 undef = _ := ByN.given_get hg 4 rfl rfl (by kernel_rfl)
    have h14 : a.tmps.getD 14 undef = _ := ByN.given_get hg 1 rfl rfl (by kernel_rfl)
    obtain ⟨s0, _, hrow⟩ := ht.up 0 (show Row W2.drew gn (st1 o 0).cs 30 from HR1.out)
    have hst : ∃ s, 1 ≤ s + 1 ∧ Row w9 gn ((fun s => (st1 o s).cs) s) 30 := ⟨s0, by omega, hrow⟩
    refine By.yes rfl ?_
    clear hs hg
    exact Stg.wp_stage (cells := (fun s => (st1 o s).cs)) (n := 1) 1 3 _ _ rfl rfl [.int .i64 o.id] h17 h14 rfl hst (by kernel_rfl) rfl (fun s => by show 2 + [.int .i64 o.id].length ≤ (st1 o s).cs.length; rw [Opn.len (st1_len o Hk.out s)]; simp) (by intro v hv; simp at hv; subst hv; rfl) (fun s hs => (sp_id (st1 o s) o.id).trans (congrArg Opn.cs (by simp [st1, show 1 ≤ max s 1 by omega, show (2 ≤ max s 1) ↔ (2 ≤ s) by omega])))
  · intro a w9 ht hs hg
    have h3 := By.same_get hs 3 (by decide) (by kernel_rfl)
    refine By.yes rfl ?_
    clear hs hg
    go_simp
    exact ⟨_, rfl, Stg.St.refl _, rfl⟩
  · intro a w9 ht hs hg
    have h18 : a.tmps.getD 18 undef = _ := ByN.given_get hg 6 rfl rfl (by kernel_rfl)
    have h16 : a.tmps.getD 16 undef = _ := ByN.given_get hg 3 rfl rfl (by kernel_rfl)
    have hp := ByN.given_get hg 5 rfl rfl (by kernel_rfl)
    obtain ⟨s0, hs0, hrow⟩ := hp
    have hst : ∃ s, 2 ≤ s + 1 ∧ Row w9 gn ((fun s => (st1 o s).cs) s) 30 := ⟨s0, by omega, hrow⟩
    refine By.yes rfl ?_
    clear hs hg
    exact Stg.wp_stage (cells := (fun s => (st1 o s).cs)) (n := 32) 2 27 _ _ rfl rfl (o.ky.map bv) h18 h16 rfl hst (by kernel_rfl) (by rw [List.length_map]; exact Hk.out) (fun s => by show 3 + (o.ky.map bv).length ≤ (st1 o s).cs.length; rw [Opn.len (st1_len o Hk.out s)]; rw [List.length_map, Hk.out]; omega) (by intro v hv; simp at hv; obtain ⟨u, _, rfl⟩ := hv; rfl) (fun s hs => (Opn.set_key (st1_len o Hk.out s) Hk.out).trans (congrArg Opn.cs (by simp [st1, show 1 ≤ s by omega, show 1 ≤ max s 2 by omega, show 2 ≤ max s 2 by omega])))
  refine ByN.ends_is ?_
  refine ByN.ends_is ?_
  refine ByN.ends_is ?_
  refine ByN.ends_is ?_
  refine ByN.ends_is ?_
  refine ByN.ends_skip fun _ => ?_
  refine ByN.ends_is ?_
  refine ByN.ends_any fun _ => ?_
  refine ByN.ends_nil fun W9 hw9 => ?_
  obtain ⟨hw9, hl9⟩ := hw9
  obtain ⟨s9, hs9, hrow9⟩ := (show ∃ s, 2 ≤ s ∧ Row W9 gn (st1 o s).cs 30 from hl9)
  have hR1 : Row W9 gn nm.cs 30 := by
    rw [show nm = st1 o s9 by rw [← HNM.out]; simp [st1, zop, show 1 ≤ s9 by omega, show 2 ≤ s9 by omega]]
    exact hrow9
  have hR0 : Row W9 w.heap.size o.cs 30 := hw9.row (x := W2.drew) HR0.out HGne.out
  have hBW : Below w.heap.size w W9 := HBW2.out.drew.trans (hw9.below (x := W2.drew) (B := w.heap.size) HGle.out HBW2.out.size)
  clear hw9 hl9 hrow9 hs9
  simp only [Act.put, List.setIfInBounds_toArray, List.set_cons_succ, List.set_cons_zero]
  have HBW := Lib.hid hBW
  have HL0 := Lib.hid (l_op hR0 Hk.out)
  have HL1 := Lib.hid (l_op hR1 HnmL.out)
  have ck := hR0.cell (i := 0) rfl
  rw [HKIND.out] at ck
  have ci := hR0.cell (i := 2) rfl
  have ca := hR0.cell (Opn.at35 Hk.out)
  have cb := hR0.cell (Opn.at36 Hk.out)
  have hgd := fun (u v : Operand) (W : World) => guard_of (t := 30) g_op .neq u v o.cs.toArray nm.cs.toArray W
  have hne := fun (W : World) => neq_of (eq_op o nm Hk.out HnmL.out W)
  have HI := Lib.hid (isID_any o.id)
  have HP := Lib.hid (isPrefix_any o.addr o.bits)
  replace hgd : ∀ (u v : Operand) (W : World), (eqGuard .neq 30 u v o.val nm.val).run Try.prog W = .ok () W := hgd
  replace hne : ∀ W : World, (binOp .neq 30 o.val nm.val).run Try.prog W = .ok (.bool (!decide (o = nm))) W := hne
  clear hR0 hR1 hBW
  cases hq : decide (o = nm) with
  | false =>
    rw [hq] at hne
    obtain rfl : z = 2 := by rw [← Hz.out]; exact if_neg (by unfold okO; rw [Hnm.out, hq]; simp)
    clear hq
    simp only [Bool.not_false] at hne
    go_wp2_with (first
      | (refine QB.wpList_ld 30 rfl rfl HL0.out rfl ?_; clear HL0; refine QB.wpList_ld 30 rfl rfl HL1.out rfl ?_; clear HL1; refine stop ?_)
      | fail)
    unfold Stop
    go_wp2_with (first
      | (go_at_call 90; refine (HI.out _).mono ?_; rintro e w' ⟨rfl, rfl⟩)
      | (go_at_call 92; refine (HP.out _).mono ?_; rintro e w' ⟨rfl, rfl⟩)
      | fail)
    go_ret
    exact ⟨rfl, HBW.out⟩
  | true =>
    rw [hq] at hne
    simp only [Bool.not_true] at hne
    cases hi : isIDB o.id with
    | false =>
      rw [hi] at HI
      obtain rfl : z = 2 := by rw [← Hz.out]; exact if_neg (by unfold okO; rw [hi, HKIND.out]; simp)
      clear hi hq
      go_wp2_with (first
        | (refine QB.wpList_ld 30 rfl rfl HL0.out rfl ?_; clear HL0; refine QB.wpList_ld 30 rfl rfl HL1.out rfl ?_; clear HL1; refine stop ?_)
        | fail)
      unfold Stop
      go_wp2_with (first
        | (go_at_call 90; refine (HI.out _).mono ?_; rintro e w' ⟨rfl, rfl⟩)
        | (go_at_call 92; refine (HP.out _).mono ?_; rintro e w' ⟨rfl, rfl⟩)
        | fail)
      go_ret
      exact ⟨rfl, HBW.out⟩
    | true =>
      rw [hi] at HI
      cases hp : prefB o.addr o.bits with
      | false =>
        rw [hp] at HP
        obtain rfl : z = 2 := by rw [← Hz.out]; exact if_neg (by unfold okO; rw [hp]; simp)
        clear hp hq
        go_wp2_with (first
          | (refine QB.wpList_ld 30 rfl rfl HL0.out rfl ?_; clear HL0; refine QB.wpList_ld 30 rfl rfl HL1.out rfl ?_; clear HL1; refine stop ?_)
          | fail)
        unfold Stop
        go_wp2_with (first
          | (go_at_call 90; refine (HI.out _).mono ?_; rintro e w' ⟨rfl, rfl⟩)
          | (go_at_call 92; refine (HP.out _).mono ?_; rintro e w' ⟨rfl, rfl⟩)
          | fail)
        go_ret
        exact ⟨rfl, HBW.out⟩
      | true =>
        rw [hp] at HP
        obtain rfl : z = 0 := by rw [← Hz.out]; exact if_pos (by unfold okO; rw [Hnm.out, hq, hp, HKIND.out, hi]; rfl)
        clear hp hq
        go_wp2_with (first
          | (refine QB.wpList_ld 30 rfl rfl HL0.out rfl ?_; clear HL0; refine QB.wpList_ld 30 rfl rfl HL1.out rfl ?_; clear HL1; refine stop ?_)
          | fail)
        unfold Stop
        go_wp2_with (first
          | (go_at_call 90; refine (HI.out _).mono ?_; rintro e w' ⟨rfl, rfl⟩)
          | (go_at_call 92; refine (HP.out _).mono ?_; rintro e w' ⟨rfl, rfl⟩)
          | fail)
        go_ret
        exact ⟨rfl, HBW.out⟩

set_option maxRecDepth 100000 in
set_option maxHeartbeats 4000000 in
theorem CheckOp_2 (o : Opn) (hk : o.ky.length = 32) (hkind : o.kind = 2) (w : World) : Calls Try.prog 58 #[o.val] w fun e w' => e = .returned (.int .i64 (checkOpZ o)) ∧ Below w.heap.size w w' := by
  obtain ⟨z, hz⟩ : ∃ z, checkOpZ o = z := ⟨_, rfl⟩
  rw [hz]
  have Hz := Lib.hid hz
  have Hk := Lib.hid hk
  have HKIND := Lib.hid hkind
  have hr0 : Row (w.alloc (.cells o.cs.toArray 30)) w.heap.size o.cs 30 := Row.new rfl rfl
  have hb0 : Below w.heap.size w (w.alloc (.cells o.cs.toArray 30)) := (Below.refl _ w).alloc (Nat.le_refl _) _
  have c0 := hr0.cell (i := 0) rfl
  have c1 := hr0.cell (i := 1) rfl
  have HR0 := Lib.hid hr0
  have HB0 := Lib.hid hb0
  have hgs : (w.alloc (.cells o.cs.toArray 30)).heap.size = w.heap.size + 1 := by simp
  have Hgs := Lib.hid hgs
  clear hz hk hr0 hb0 hgs hkind
  unfold Opn.val
  go_enter Try.func58, Try.ntmps58
  go_wp2_with (first
    | (show wpList _ _ _ (⟨some 8, _, _, _, _, _⟩ :: _) _ _; refine wpList_bd _ _ rfl (v := (zop o.kind o.ref).val) (by kernel_rfl) rfl ?_)
    | (refine QB.wpList_alloc rfl 30 rfl zero_op ?_; intro W1 hr1 hb1; have HR1 := Lib.hid (show Row W1 (w.heap.size + 1) (zop 0 0).cs 30 from Hgs.out ▸ hr1); have HB1 := Lib.hid hb1; clear hr1 hb1; refine stop ?_)
    | fail)
  unfold Stop
  refine wpList_storeRow rfl 30 (.tmp 3) (.tmp 8) rfl (g := w.heap.size + 1) (by rfl) (cs := (zop o.kind o.ref).cs) rfl HR1.out (by kernel_rfl) (Opn.len zkey_len) (Opn.len zkey_len) (Opn.one _) ?_
  refine QB.name fun W2 hW2 => ?_
  have hR1 : Row W2 (w.heap.size + 1) (zop o.kind o.ref).cs 30 := by rw [← hW2]; exact HR1.out.setRow _
  have hBW : Below w.heap.size w W2 := by rw [← hW2]; exact below_setRow (nextB HB0.out (Nat.le_refl _) HB1.out) (by omega) _
  have hR0 : Row W2 w.heap.size o.cs 30 := by rw [← hW2]; exact (HR0.out.below HB1.out HR0.out.lt).setOther _ _ (by omega)
  clear hW2 c0 c1
  simp only [Act.put]
  have ck := hR0.cell (i := 0) rfl
  rw [HKIND.out] at ck
  have ci := hR0.cell (i := 2) rfl; have ca := hR0.cell (Opn.at35 Hk.out); have cb := hR0.cell (Opn.at36 Hk.out); have f2 := frozen_row hR1 2; have d2 := hR1.cell (i := 2) rfl
  obtain ⟨nm, hnm⟩ : ∃ nm : Opn, { zop o.kind o.ref with id := o.id } = nm := ⟨_, rfl⟩
  have Hnm : Hid (named o = nm) := Lib.hid (by rw [← hnm]; unfold named; rw [if_neg (by rw [HKIND.out]; decide), if_pos (by rw [HKIND.out]; decide)])
  have HnmL : Hid (nm.ky.length = 32) := Lib.hid (by rw [← hnm]; exact zkey_len)
  have hBW9 : Below w.heap.size w (W2.setCell ⟨w.heap.size + 1, 2, none⟩ (.int .i64 o.id)) := hBW.setCell (by simp) _
  have hR19 : Row (W2.setCell ⟨w.heap.size + 1, 2, none⟩ (.int .i64 o.id)) (w.heap.size + 1) nm.cs 30 := by rw [← hnm]; exact hR1.set 2 (.int .i64 o.id)
  have hR09 : Row (W2.setCell ⟨w.heap.size + 1, 2, none⟩ (.int .i64 o.id)) w.heap.size o.cs 30 := hR0.other _ _ (by simp)
  have HL0 := Lib.hid (l_op hR09 Hk.out)
  have HL1 := Lib.hid (l_op hR19 HnmL.out)
  have HR09 := Lib.hid hR09
  have HR19 := Lib.hid hR19
  have HBW9 := Lib.hid hBW9
  clear hR09 hR19 hBW9 hR0 hR1 hBW hnm ca cb
  go_wp2_with (first
    | (refine QB.wpList_ld 30 rfl rfl HL0.out rfl ?_; clear HL0; refine QB.wpList_ld 30 rfl rfl HL1.out rfl ?_; clear HL1; refine stop ?_)
    | fail)
  unfold Stop
  have hR0 := HR09.out
  have hR1 := HR19.out
  have hBW := HBW9.out
  clear ck ci f2 d2
  obtain ⟨W9, hW9⟩ : ∃ W9, W2.setCell ⟨w.heap.size + 1, 2, none⟩ (.int .i64 o.id) = W9 := ⟨_, rfl⟩
  rw [hW9] at hR0 hR1 hBW ⊢
  clear hW9
  have HBW := Lib.hid hBW
  have HL0 := Lib.hid (l_op hR0 Hk.out)
  have HL1 := Lib.hid (l_op hR1 HnmL.out)
  have ck := hR0.cell (i := 0) rfl
  rw [HKIND.out] at ck
  have ci := hR0.cell (i := 2) rfl
  have ca := hR0.cell (Opn.at35 Hk.out)
  have cb := hR0.cell (Opn.at36 Hk.out)
  have hgd := fun (u v : Operand) (W : World) => guard_of (t := 30) g_op .neq u v o.cs.toArray nm.cs.toArray W
  have hne := fun (W : World) => neq_of (eq_op o nm Hk.out HnmL.out W)
  have HI := Lib.hid (isID_any o.id)
  have HP := Lib.hid (isPrefix_any o.addr o.bits)
  replace hgd : ∀ (u v : Operand) (W : World), (eqGuard .neq 30 u v o.val nm.val).run Try.prog W = .ok () W := hgd
  replace hne : ∀ W : World, (binOp .neq 30 o.val nm.val).run Try.prog W = .ok (.bool (!decide (o = nm))) W := hne
  clear hR0 hR1 hBW
  cases hq : decide (o = nm) with
  | false =>
    rw [hq] at hne
    obtain rfl : z = 2 := by rw [← Hz.out]; exact if_neg (by unfold okO; rw [Hnm.out, hq]; simp)
    clear hq
    simp only [Bool.not_false] at hne
    go_wp2_with (first
      | (go_at_call 90; refine (HI.out _).mono ?_; rintro e w' ⟨rfl, rfl⟩)
      | (go_at_call 92; refine (HP.out _).mono ?_; rintro e w' ⟨rfl, rfl⟩)
      | fail)
    go_ret
    exact ⟨rfl, HBW.out⟩
  | true =>
    rw [hq] at hne
    simp only [Bool.not_true] at hne
    cases hi : isIDB o.id with
    | false =>
      rw [hi] at HI
      obtain rfl : z = 2 := by rw [← Hz.out]; exact if_neg (by unfold okO; rw [hi, HKIND.out]; simp)
      clear hi hq
      go_wp2_with (first
        | (go_at_call 90; refine (HI.out _).mono ?_; rintro e w' ⟨rfl, rfl⟩)
        | (go_at_call 92; refine (HP.out _).mono ?_; rintro e w' ⟨rfl, rfl⟩)
        | fail)
      go_ret
      exact ⟨rfl, HBW.out⟩
    | true =>
      rw [hi] at HI
      cases hp : prefB o.addr o.bits with
      | false =>
        rw [hp] at HP
        obtain rfl : z = 2 := by rw [← Hz.out]; exact if_neg (by unfold okO; rw [hp]; simp)
        clear hp hq
        go_wp2_with (first
          | (go_at_call 90; refine (HI.out _).mono ?_; rintro e w' ⟨rfl, rfl⟩)
          | (go_at_call 92; refine (HP.out _).mono ?_; rintro e w' ⟨rfl, rfl⟩)
          | fail)
        go_ret
        exact ⟨rfl, HBW.out⟩
      | true =>
        rw [hp] at HP
        obtain rfl : z = 0 := by rw [← Hz.out]; exact if_pos (by unfold okO; rw [Hnm.out, hq, hp, HKIND.out, hi]; rfl)
        clear hp hq
        go_wp2_with (first
          | (go_at_call 90; refine (HI.out _).mono ?_; rintro e w' ⟨rfl, rfl⟩)
          | (go_at_call 92; refine (HP.out _).mono ?_; rintro e w' ⟨rfl, rfl⟩)
          | fail)
        go_ret
        exact ⟨rfl, HBW.out⟩

set_option maxRecDepth 100000 in
set_option maxHeartbeats 4000000 in
theorem CheckOp_3 (o : Opn) (hk : o.ky.length = 32) (hkind : o.kind = 3) (w : World) : Calls Try.prog 58 #[o.val] w fun e w' => e = .returned (.int .i64 (checkOpZ o)) ∧ Below w.heap.size w w' := by
  obtain ⟨z, hz⟩ : ∃ z, checkOpZ o = z := ⟨_, rfl⟩
  rw [hz]
  have Hz := Lib.hid hz
  have Hk := Lib.hid hk
  have HKIND := Lib.hid hkind
  have hr0 : Row (w.alloc (.cells o.cs.toArray 30)) w.heap.size o.cs 30 := Row.new rfl rfl
  have hb0 : Below w.heap.size w (w.alloc (.cells o.cs.toArray 30)) := (Below.refl _ w).alloc (Nat.le_refl _) _
  have c0 := hr0.cell (i := 0) rfl
  have c1 := hr0.cell (i := 1) rfl
  have HR0 := Lib.hid hr0
  have HB0 := Lib.hid hb0
  have hgs : (w.alloc (.cells o.cs.toArray 30)).heap.size = w.heap.size + 1 := by simp
  have Hgs := Lib.hid hgs
  clear hz hk hr0 hb0 hgs hkind
  unfold Opn.val
  go_enter Try.func58, Try.ntmps58
  go_wp2_with (first
    | (show wpList _ _ _ (⟨some 8, _, _, _, _, _⟩ :: _) _ _; refine wpList_bd _ _ rfl (v := (zop o.kind o.ref).val) (by kernel_rfl) rfl ?_)
    | (refine QB.wpList_alloc rfl 30 rfl zero_op ?_; intro W1 hr1 hb1; have HR1 := Lib.hid (show Row W1 (w.heap.size + 1) (zop 0 0).cs 30 from Hgs.out ▸ hr1); have HB1 := Lib.hid hb1; clear hr1 hb1; refine stop ?_)
    | fail)
  unfold Stop
  refine wpList_storeRow rfl 30 (.tmp 3) (.tmp 8) rfl (g := w.heap.size + 1) (by rfl) (cs := (zop o.kind o.ref).cs) rfl HR1.out (by kernel_rfl) (Opn.len zkey_len) (Opn.len zkey_len) (Opn.one _) ?_
  refine QB.name fun W2 hW2 => ?_
  have hR1 : Row W2 (w.heap.size + 1) (zop o.kind o.ref).cs 30 := by rw [← hW2]; exact HR1.out.setRow _
  have hBW : Below w.heap.size w W2 := by rw [← hW2]; exact below_setRow (nextB HB0.out (Nat.le_refl _) HB1.out) (by omega) _
  have hR0 : Row W2 w.heap.size o.cs 30 := by rw [← hW2]; exact (HR0.out.below HB1.out HR0.out.lt).setOther _ _ (by omega)
  clear hW2 c0 c1
  simp only [Act.put]
  have ck := hR0.cell (i := 0) rfl
  rw [HKIND.out] at ck
  have ci := hR0.cell (i := 2) rfl; have ca := hR0.cell (Opn.at35 Hk.out); have cb := hR0.cell (Opn.at36 Hk.out); have f2 := frozen_row hR1 2; have d2 := hR1.cell (i := 2) rfl
  obtain ⟨nm, hnm⟩ : ∃ nm : Opn, { zop o.kind o.ref with id := o.id } = nm := ⟨_, rfl⟩
  have Hnm : Hid (named o = nm) := Lib.hid (by rw [← hnm]; unfold named; rw [if_neg (by rw [HKIND.out]; decide), if_pos (by rw [HKIND.out]; decide)])
  have HnmL : Hid (nm.ky.length = 32) := Lib.hid (by rw [← hnm]; exact zkey_len)
  have hBW9 : Below w.heap.size w (W2.setCell ⟨w.heap.size + 1, 2, none⟩ (.int .i64 o.id)) := hBW.setCell (by simp) _
  have hR19 : Row (W2.setCell ⟨w.heap.size + 1, 2, none⟩ (.int .i64 o.id)) (w.heap.size + 1) nm.cs 30 := by rw [← hnm]; exact hR1.set 2 (.int .i64 o.id)
  have hR09 : Row (W2.setCell ⟨w.heap.size + 1, 2, none⟩ (.int .i64 o.id)) w.heap.size o.cs 30 := hR0.other _ _ (by simp)
  have HL0 := Lib.hid (l_op hR09 Hk.out)
  have HL1 := Lib.hid (l_op hR19 HnmL.out)
  have HR09 := Lib.hid hR09
  have HR19 := Lib.hid hR19
  have HBW9 := Lib.hid hBW9
  clear hR09 hR19 hBW9 hR0 hR1 hBW hnm ca cb
  go_wp2_with (first
    | (refine QB.wpList_ld 30 rfl rfl HL0.out rfl ?_; clear HL0; refine QB.wpList_ld 30 rfl rfl HL1.out rfl ?_; clear HL1; refine stop ?_)
    | fail)
  unfold Stop
  have hR0 := HR09.out
  have hR1 := HR19.out
  have hBW := HBW9.out
  clear ck ci f2 d2
  obtain ⟨W9, hW9⟩ : ∃ W9, W2.setCell ⟨w.heap.size + 1, 2, none⟩ (.int .i64 o.id) = W9 := ⟨_, rfl⟩
  rw [hW9] at hR0 hR1 hBW ⊢
  clear hW9
  have HBW := Lib.hid hBW
  have HL0 := Lib.hid (l_op hR0 Hk.out)
  have HL1 := Lib.hid (l_op hR1 HnmL.out)
  have ck := hR0.cell (i := 0) rfl
  rw [HKIND.out] at ck
  have ci := hR0.cell (i := 2) rfl
  have ca := hR0.cell (Opn.at35 Hk.out)
  have cb := hR0.cell (Opn.at36 Hk.out)
  have hgd := fun (u v : Operand) (W : World) => guard_of (t := 30) g_op .neq u v o.cs.toArray nm.cs.toArray W
  have hne := fun (W : World) => neq_of (eq_op o nm Hk.out HnmL.out W)
  have HI := Lib.hid (isID_any o.id)
  have HP := Lib.hid (isPrefix_any o.addr o.bits)
  replace hgd : ∀ (u v : Operand) (W : World), (eqGuard .neq 30 u v o.val nm.val).run Try.prog W = .ok () W := hgd
  replace hne : ∀ W : World, (binOp .neq 30 o.val nm.val).run Try.prog W = .ok (.bool (!decide (o = nm))) W := hne
  clear hR0 hR1 hBW
  cases hq : decide (o = nm) with
  | false =>
    rw [hq] at hne
    obtain rfl : z = 2 := by rw [← Hz.out]; exact if_neg (by unfold okO; rw [Hnm.out, hq]; simp)
    clear hq
    simp only [Bool.not_false] at hne
    go_wp2_with (first
      | (go_at_call 90; refine (HI.out _).mono ?_; rintro e w' ⟨rfl, rfl⟩)
      | (go_at_call 92; refine (HP.out _).mono ?_; rintro e w' ⟨rfl, rfl⟩)
      | fail)
    go_ret
    exact ⟨rfl, HBW.out⟩
  | true =>
    rw [hq] at hne
    simp only [Bool.not_true] at hne
    cases hi : isIDB o.id with
    | false =>
      rw [hi] at HI
      obtain rfl : z = 2 := by rw [← Hz.out]; exact if_neg (by unfold okO; rw [hi, HKIND.out]; simp)
      clear hi hq
      go_wp2_with (first
        | (go_at_call 90; refine (HI.out _).mono ?_; rintro e w' ⟨rfl, rfl⟩)
        | (go_at_call 92; refine (HP.out _).mono ?_; rintro e w' ⟨rfl, rfl⟩)
        | fail)
      go_ret
      exact ⟨rfl, HBW.out⟩
    | true =>
      rw [hi] at HI
      cases hp : prefB o.addr o.bits with
      | false =>
        rw [hp] at HP
        obtain rfl : z = 2 := by rw [← Hz.out]; exact if_neg (by unfold okO; rw [hp]; simp)
        clear hp hq
        go_wp2_with (first
          | (go_at_call 90; refine (HI.out _).mono ?_; rintro e w' ⟨rfl, rfl⟩)
          | (go_at_call 92; refine (HP.out _).mono ?_; rintro e w' ⟨rfl, rfl⟩)
          | fail)
        go_ret
        exact ⟨rfl, HBW.out⟩
      | true =>
        rw [hp] at HP
        obtain rfl : z = 0 := by rw [← Hz.out]; exact if_pos (by unfold okO; rw [Hnm.out, hq, hp, HKIND.out, hi]; rfl)
        clear hp hq
        go_wp2_with (first
          | (go_at_call 90; refine (HI.out _).mono ?_; rintro e w' ⟨rfl, rfl⟩)
          | (go_at_call 92; refine (HP.out _).mono ?_; rintro e w' ⟨rfl, rfl⟩)
          | fail)
        go_ret
        exact ⟨rfl, HBW.out⟩

set_option maxRecDepth 100000 in
set_option maxHeartbeats 4000000 in
theorem CheckOp_4 (o : Opn) (hk : o.ky.length = 32) (hkind : o.kind = 4) (w : World) : Calls Try.prog 58 #[o.val] w fun e w' => e = .returned (.int .i64 (checkOpZ o)) ∧ Below w.heap.size w w' := by
  obtain ⟨z, hz⟩ : ∃ z, checkOpZ o = z := ⟨_, rfl⟩
  rw [hz]
  have Hz := Lib.hid hz
  have Hk := Lib.hid hk
  have HKIND := Lib.hid hkind
  have hr0 : Row (w.alloc (.cells o.cs.toArray 30)) w.heap.size o.cs 30 := Row.new rfl rfl
  have hb0 : Below w.heap.size w (w.alloc (.cells o.cs.toArray 30)) := (Below.refl _ w).alloc (Nat.le_refl _) _
  have c0 := hr0.cell (i := 0) rfl
  have c1 := hr0.cell (i := 1) rfl
  have HR0 := Lib.hid hr0
  have HB0 := Lib.hid hb0
  have hgs : (w.alloc (.cells o.cs.toArray 30)).heap.size = w.heap.size + 1 := by simp
  have Hgs := Lib.hid hgs
  clear hz hk hr0 hb0 hgs hkind
  unfold Opn.val
  go_enter Try.func58, Try.ntmps58
  go_wp2_with (first
    | (show wpList _ _ _ (⟨some 8, _, _, _, _, _⟩ :: _) _ _; refine wpList_bd _ _ rfl (v := (zop o.kind o.ref).val) (by kernel_rfl) rfl ?_)
    | (refine QB.wpList_alloc rfl 30 rfl zero_op ?_; intro W1 hr1 hb1; have HR1 := Lib.hid (show Row W1 (w.heap.size + 1) (zop 0 0).cs 30 from Hgs.out ▸ hr1); have HB1 := Lib.hid hb1; clear hr1 hb1; refine stop ?_)
    | fail)
  unfold Stop
  refine wpList_storeRow rfl 30 (.tmp 3) (.tmp 8) rfl (g := w.heap.size + 1) (by rfl) (cs := (zop o.kind o.ref).cs) rfl HR1.out (by kernel_rfl) (Opn.len zkey_len) (Opn.len zkey_len) (Opn.one _) ?_
  refine QB.name fun W2 hW2 => ?_
  have hR1 : Row W2 (w.heap.size + 1) (zop o.kind o.ref).cs 30 := by rw [← hW2]; exact HR1.out.setRow _
  have hBW : Below w.heap.size w W2 := by rw [← hW2]; exact below_setRow (nextB HB0.out (Nat.le_refl _) HB1.out) (by omega) _
  have hR0 : Row W2 w.heap.size o.cs 30 := by rw [← hW2]; exact (HR0.out.below HB1.out HR0.out.lt).setOther _ _ (by omega)
  clear hW2 c0 c1
  simp only [Act.put]
  have ck := hR0.cell (i := 0) rfl
  rw [HKIND.out] at ck
  have ci := hR0.cell (i := 2) rfl; have ca := hR0.cell (Opn.at35 Hk.out); have cb := hR0.cell (Opn.at36 Hk.out)
  go_wp2_with fail
  obtain ⟨nm, hnm⟩ : ∃ nm : Opn, { zop o.kind o.ref with id := o.id, addr := o.addr, bits := o.bits } = nm := ⟨_, rfl⟩
  have Hnm : Hid (named o = nm) := Lib.hid (by rw [← hnm]; unfold named; rw [if_neg (by rw [HKIND.out]; decide), if_neg (by rw [HKIND.out]; decide), if_pos HKIND.out])
  have HNM := Lib.hid hnm
  have HnmL : Hid (nm.ky.length = 32) := Lib.hid (by rw [← hnm]; first | exact Hk.out | exact zkey_len)
  have HR0 := Lib.hid hR0
  have HBW2 := Lib.hid hBW
  obtain ⟨gn, hgn⟩ : ∃ gn, w.heap.size + 1 = gn := ⟨_, rfl⟩
  rw [hgn] at hR1
  have HR1 := Lib.hid hR1
  have HGne := Lib.hid (show w.heap.size ≠ gn by omega)
  have HGle := Lib.hid (show w.heap.size ≤ gn by omega)
  rw [hgn]
  clear hR0 hR1 hBW hnm ck ci ca cb hgn
  refine ByN.marks mixed (Stg.St gn (fun s => (st4 o s).cs) 30) [By.is (.pointer (some ⟨w.heap.size, 2, none⟩)),
    By.is (.int .i64 o.id),
    By.is (.pointer (some ⟨w.heap.size, 35, none⟩)),
    By.is (.int .u32 o.addr),
    By.is (.pointer (some ⟨w.heap.size, 36, none⟩)),
    By.is (.int .i64 o.bits),
    By.is (.pointer (some ⟨gn, 2, none⟩)),
    Stg.stM gn (fun s => (st4 o s).cs) 30 1,
    By.is (.pointer (some ⟨gn, 35, none⟩)),
    Stg.stM gn (fun s => (st4 o s).cs) 30 2,
    By.is (.pointer (some ⟨gn, 36, none⟩)),
    Stg.stM gn (fun s => (st4 o s).cs) 30 3]
    (Ev.masks _ []) (by kernel_rfl) rfl Stg.St.refl Stg.St.trans ⟨?_, ?_, ?_, ?_, ?_, ?_, ?_, ?_, ?_, ?_, ?_, ?_, trivial⟩ ?_
  · intro a w9 ht hs hg
    have h1 := By.same_get hs 1 (by decide) (by kernel_rfl)
    refine By.yes rfl ?_
    clear hs hg
    go_simp
    exact ⟨_, rfl, Stg.St.refl _, rfl⟩
  · intro a w9 ht hs hg
    have h27 : a.tmps.getD 27 undef = _ := ByN.given_get hg 0 rfl rfl (by kernel_rfl)
    refine By.yes rfl ?_
    clear hs hg
    have hc := (ht.row (x := W2.drew) HR0.out HGne.out).cell (i := 2) rfl
    clear ht
    go_simp
    exact ⟨_, rfl, Stg.St.refl _, rfl⟩
  · intro a w9 ht hs hg
    have h1 := By.same_get hs 1 (by decide) (by kernel_rfl)
    refine By.yes rfl ?_
    clear hs hg
    go_simp
    exact ⟨_, rfl, Stg.St.refl _, rfl⟩
  · intro a w9 ht hs hg
    have h29 : a.tmps.getD 29 undef = _ := ByN.given_get hg 2 rfl rfl (by kernel_rfl)
    refine By.yes rfl ?_
    clear hs hg
    have hc := (ht.row (x := W2.drew) HR0.out HGne.out).cell (i := 35) (Opn.at35 Hk.out)
    clear ht
    go_simp
    exact ⟨_, rfl, Stg.St.refl _, rfl⟩
  · intro a w9 ht hs hg
    have h1 := By.same_get hs 1 (by decide) (by kernel_rfl)
    refine By.yes rfl ?_
    clear hs hg
    go_simp
    exact ⟨_, rfl, Stg.St.refl _, rfl⟩
  · intro a w9 ht hs hg
    have h31 : a.tmps.getD 31 undef = _ := ByN.given_get hg 4 rfl rfl (by kernel_rfl)
    refine By.yes rfl ?_
    clear hs hg
    have hc := (ht.row (x := W2.drew) HR0.out HGne.out).cell (i := 36) (Opn.at36 Hk.out)
    clear ht
    go_simp
    exact ⟨_, rfl, Stg.St.refl _, rfl⟩
  · intro a w9 ht hs hg
    have h3 := By.same_get hs 3 (by decide) (by kernel_rfl)
    refine By.yes rfl ?_
    clear hs hg
    go_simp
    exact ⟨_, rfl, Stg.St.refl _, rfl⟩
  · intro a w9 ht hs hg
    have h33 : a.tmps.getD 33 undef = _ := ByN.given_get hg 6 rfl rfl (by kernel_rfl)
    have h28 : a.tmps.getD 28 undef = _ := ByN.given_get hg 1 rfl rfl (by kernel_rfl)
    obtain ⟨s0, _, hrow⟩ := ht.up 0 (show Row W2.drew gn (st4 o 0).cs 30 from HR1.out)
    have hst : ∃ s, 1 ≤ s + 1 ∧ Row w9 gn ((fun s => (st4 o s).cs) s) 30 := ⟨s0, by omega, hrow⟩
    refine By.yes rfl ?_
    clear hs hg
    exact Stg.wp_stage (cells := (fun s => (st4 o s).cs)) (n := 1) 1 3 _ _ rfl rfl [.int .i64 o.id] h33 h28 rfl hst (by kernel_rfl) rfl (fun s => by show 2 + [.int .i64 o.id].length ≤ (st4 o s).cs.length; rw [Opn.len (st4_len o Hk.out s)]; simp) (by intro v hv; simp at hv; subst hv; rfl) (fun s hs => (sp_id (st4 o s) o.id).trans (congrArg Opn.cs (by simp [st4, show 1 ≤ max s 1 by omega, show (2 ≤ max s 1) ↔ (2 ≤ s) by omega, show (3 ≤ max s 1) ↔ (3 ≤ s) by omega])))
  · intro a w9 ht hs hg
    have h3 := By.same_get hs 3 (by decide) (by kernel_rfl)
    refine By.yes rfl ?_
    clear hs hg
    go_simp
    exact ⟨_, rfl, Stg.St.refl _, rfl⟩
  · intro a w9 ht hs hg
    have h34 : a.tmps.getD 34 undef = _ := ByN.given_get hg 8 rfl rfl (by kernel_rfl)
    have h30 : a.tmps.getD 30 undef = _ := ByN.given_get hg 3 rfl rfl (by kernel_rfl)
    have hp := ByN.given_get hg 7 rfl rfl (by kernel_rfl)
    obtain ⟨s0, hs0, hrow⟩ := hp
    have hst : ∃ s, 2 ≤ s + 1 ∧ Row w9 gn ((fun s => (st4 o s).cs) s) 30 := ⟨s0, by omega, hrow⟩
    refine By.yes rfl ?_
    clear hs hg
    exact Stg.wp_stage (cells := (fun s => (st4 o s).cs)) (n := 1) 2 28 _ _ rfl rfl [.int .u32 o.addr] h34 h30 rfl hst (by kernel_rfl) rfl (fun s => by show 35 + [.int .u32 o.addr].length ≤ (st4 o s).cs.length; rw [Opn.len (st4_len o Hk.out s)]; simp) (by intro v hv; simp at hv; subst hv; rfl) (fun s hs => (sp_addr (st4_len o Hk.out s) o.addr).trans (congrArg Opn.cs (by simp [st4, show 1 ≤ s by omega, show 1 ≤ max s 2 by omega, show 2 ≤ max s 2 by omega, show (3 ≤ max s 2) ↔ (3 ≤ s) by omega])))
  · intro a w9 ht hs hg
    have h3 := By.same_get hs 3 (by decide) (by kernel_rfl)
    refine By.yes rfl ?_
    clear hs hg
    go_simp
    exact ⟨_, rfl, Stg.St.refl _, rfl⟩
  · intro a w9 ht hs hg
    have h35 : a.tmps.getD 35 undef = _ := ByN.given_get hg 10 rfl rfl (by kernel_rfl)
    have h32 : a.tmps.getD 32 undef = _ := ByN.given_get hg 5 rfl rfl (by kernel_rfl)
    have hp := ByN.given_get hg 9 rfl rfl (by kernel_rfl)
    obtain ⟨s0, hs0, hrow⟩ := hp
    have hst : ∃ s, 3 ≤ s + 1 ∧ Row w9 gn ((fun s => (st4 o s).cs) s) 30 := ⟨s0, by omega, hrow⟩
    refine By.yes rfl ?_
    clear hs hg
    exact Stg.wp_stage (cells := (fun s => (st4 o s).cs)) (n := 1) 3 3 _ _ rfl rfl [.int .i64 o.bits] h35 h32 rfl hst (by kernel_rfl) rfl (fun s => by show 36 + [.int .i64 o.bits].length ≤ (st4 o s).cs.length; rw [Opn.len (st4_len o Hk.out s)]; simp) (by intro v hv; simp at hv; subst hv; rfl) (fun s hs => (sp_bits (st4_len o Hk.out s) o.bits).trans (congrArg Opn.cs (by simp [st4, show 1 ≤ s by omega, show 2 ≤ s by omega, show 1 ≤ max s 3 by omega, show 2 ≤ max s 3 by omega, show 3 ≤ max s 3 by omega])))
  refine ByN.ends_is ?_
  refine ByN.ends_is ?_
  refine ByN.ends_is ?_
  refine ByN.ends_is ?_
  refine ByN.ends_is ?_
  refine ByN.ends_is ?_
  refine ByN.ends_is ?_
  refine ByN.ends_skip fun _ => ?_
  refine ByN.ends_is ?_
  refine ByN.ends_skip fun _ => ?_
  refine ByN.ends_is ?_
  refine ByN.ends_any fun _ => ?_
  refine ByN.ends_nil fun W9 hw9 => ?_
  obtain ⟨hw9, hl9⟩ := hw9
  obtain ⟨s9, hs9, hrow9⟩ := (show ∃ s, 3 ≤ s ∧ Row W9 gn (st4 o s).cs 30 from hl9)
  have hR1 : Row W9 gn nm.cs 30 := by
    rw [show nm = st4 o s9 by rw [← HNM.out]; simp [st4, zop, show 1 ≤ s9 by omega, show 2 ≤ s9 by omega, show 3 ≤ s9 by omega]]
    exact hrow9
  have hR0 : Row W9 w.heap.size o.cs 30 := hw9.row (x := W2.drew) HR0.out HGne.out
  have hBW : Below w.heap.size w W9 := HBW2.out.drew.trans (hw9.below (x := W2.drew) (B := w.heap.size) HGle.out HBW2.out.size)
  clear hw9 hl9 hrow9 hs9
  simp only [Act.put, List.setIfInBounds_toArray, List.set_cons_succ, List.set_cons_zero]
  have HBW := Lib.hid hBW
  have HL0 := Lib.hid (l_op hR0 Hk.out)
  have HL1 := Lib.hid (l_op hR1 HnmL.out)
  have ck := hR0.cell (i := 0) rfl
  rw [HKIND.out] at ck
  have ci := hR0.cell (i := 2) rfl
  have ca := hR0.cell (Opn.at35 Hk.out)
  have cb := hR0.cell (Opn.at36 Hk.out)
  have hgd := fun (u v : Operand) (W : World) => guard_of (t := 30) g_op .neq u v o.cs.toArray nm.cs.toArray W
  have hne := fun (W : World) => neq_of (eq_op o nm Hk.out HnmL.out W)
  have HI := Lib.hid (isID_any o.id)
  have HP := Lib.hid (isPrefix_any o.addr o.bits)
  replace hgd : ∀ (u v : Operand) (W : World), (eqGuard .neq 30 u v o.val nm.val).run Try.prog W = .ok () W := hgd
  replace hne : ∀ W : World, (binOp .neq 30 o.val nm.val).run Try.prog W = .ok (.bool (!decide (o = nm))) W := hne
  clear hR0 hR1 hBW
  cases hq : decide (o = nm) with
  | false =>
    rw [hq] at hne
    obtain rfl : z = 2 := by rw [← Hz.out]; exact if_neg (by unfold okO; rw [Hnm.out, hq]; simp)
    clear hq
    simp only [Bool.not_false] at hne
    go_wp2_with (first
      | (refine QB.wpList_ld 30 rfl rfl HL0.out rfl ?_; clear HL0; refine QB.wpList_ld 30 rfl rfl HL1.out rfl ?_; clear HL1; refine stop ?_)
      | fail)
    unfold Stop
    go_wp2_with (first
      | (go_at_call 90; refine (HI.out _).mono ?_; rintro e w' ⟨rfl, rfl⟩)
      | (go_at_call 92; refine (HP.out _).mono ?_; rintro e w' ⟨rfl, rfl⟩)
      | fail)
    go_ret
    exact ⟨rfl, HBW.out⟩
  | true =>
    rw [hq] at hne
    simp only [Bool.not_true] at hne
    cases hi : isIDB o.id with
    | false =>
      rw [hi] at HI
      obtain rfl : z = 2 := by rw [← Hz.out]; exact if_neg (by unfold okO; rw [hi, HKIND.out]; simp)
      clear hi hq
      go_wp2_with (first
        | (refine QB.wpList_ld 30 rfl rfl HL0.out rfl ?_; clear HL0; refine QB.wpList_ld 30 rfl rfl HL1.out rfl ?_; clear HL1; refine stop ?_)
        | fail)
      unfold Stop
      go_wp2_with (first
        | (go_at_call 90; refine (HI.out _).mono ?_; rintro e w' ⟨rfl, rfl⟩)
        | (go_at_call 92; refine (HP.out _).mono ?_; rintro e w' ⟨rfl, rfl⟩)
        | fail)
      go_ret
      exact ⟨rfl, HBW.out⟩
    | true =>
      rw [hi] at HI
      cases hp : prefB o.addr o.bits with
      | false =>
        rw [hp] at HP
        obtain rfl : z = 2 := by rw [← Hz.out]; exact if_neg (by unfold okO; rw [hp]; simp)
        clear hp hq
        go_wp2_with (first
          | (refine QB.wpList_ld 30 rfl rfl HL0.out rfl ?_; clear HL0; refine QB.wpList_ld 30 rfl rfl HL1.out rfl ?_; clear HL1; refine stop ?_)
          | fail)
        unfold Stop
        go_wp2_with (first
          | (go_at_call 90; refine (HI.out _).mono ?_; rintro e w' ⟨rfl, rfl⟩)
          | (go_at_call 92; refine (HP.out _).mono ?_; rintro e w' ⟨rfl, rfl⟩)
          | fail)
        go_ret
        exact ⟨rfl, HBW.out⟩
      | true =>
        rw [hp] at HP
        obtain rfl : z = 0 := by rw [← Hz.out]; exact if_pos (by unfold okO; rw [Hnm.out, hq, hp, HKIND.out, hi]; rfl)
        clear hp hq
        go_wp2_with (first
          | (refine QB.wpList_ld 30 rfl rfl HL0.out rfl ?_; clear HL0; refine QB.wpList_ld 30 rfl rfl HL1.out rfl ?_; clear HL1; refine stop ?_)
          | fail)
        unfold Stop
        go_wp2_with (first
          | (go_at_call 90; refine (HI.out _).mono ?_; rintro e w' ⟨rfl, rfl⟩)
          | (go_at_call 92; refine (HP.out _).mono ?_; rintro e w' ⟨rfl, rfl⟩)
          | fail)
        go_ret
        exact ⟨rfl, HBW.out⟩

set_option maxRecDepth 100000 in
set_option maxHeartbeats 4000000 in
theorem CheckOp_5 (o : Opn) (hk : o.ky.length = 32) (hkind : o.kind = 5) (w : World) : Calls Try.prog 58 #[o.val] w fun e w' => e = .returned (.int .i64 (checkOpZ o)) ∧ Below w.heap.size w w' := by
  obtain ⟨z, hz⟩ : ∃ z, checkOpZ o = z := ⟨_, rfl⟩
  rw [hz]
  have Hz := Lib.hid hz
  have Hk := Lib.hid hk
  have HKIND := Lib.hid hkind
  have hr0 : Row (w.alloc (.cells o.cs.toArray 30)) w.heap.size o.cs 30 := Row.new rfl rfl
  have hb0 : Below w.heap.size w (w.alloc (.cells o.cs.toArray 30)) := (Below.refl _ w).alloc (Nat.le_refl _) _
  have c0 := hr0.cell (i := 0) rfl
  have c1 := hr0.cell (i := 1) rfl
  have HR0 := Lib.hid hr0
  have HB0 := Lib.hid hb0
  have hgs : (w.alloc (.cells o.cs.toArray 30)).heap.size = w.heap.size + 1 := by simp
  have Hgs := Lib.hid hgs
  clear hz hk hr0 hb0 hgs hkind
  unfold Opn.val
  go_enter Try.func58, Try.ntmps58
  go_wp2_with (first
    | (show wpList _ _ _ (⟨some 8, _, _, _, _, _⟩ :: _) _ _; refine wpList_bd _ _ rfl (v := (zop o.kind o.ref).val) (by kernel_rfl) rfl ?_)
    | (refine QB.wpList_alloc rfl 30 rfl zero_op ?_; intro W1 hr1 hb1; have HR1 := Lib.hid (show Row W1 (w.heap.size + 1) (zop 0 0).cs 30 from Hgs.out ▸ hr1); have HB1 := Lib.hid hb1; clear hr1 hb1; refine stop ?_)
    | fail)
  unfold Stop
  refine wpList_storeRow rfl 30 (.tmp 3) (.tmp 8) rfl (g := w.heap.size + 1) (by rfl) (cs := (zop o.kind o.ref).cs) rfl HR1.out (by kernel_rfl) (Opn.len zkey_len) (Opn.len zkey_len) (Opn.one _) ?_
  refine QB.name fun W2 hW2 => ?_
  have hR1 : Row W2 (w.heap.size + 1) (zop o.kind o.ref).cs 30 := by rw [← hW2]; exact HR1.out.setRow _
  have hBW : Below w.heap.size w W2 := by rw [← hW2]; exact below_setRow (nextB HB0.out (Nat.le_refl _) HB1.out) (by omega) _
  have hR0 : Row W2 w.heap.size o.cs 30 := by rw [← hW2]; exact (HR0.out.below HB1.out HR0.out.lt).setOther _ _ (by omega)
  clear hW2 c0 c1
  simp only [Act.put]
  have ck := hR0.cell (i := 0) rfl
  rw [HKIND.out] at ck
  have ci := hR0.cell (i := 2) rfl; have ca := hR0.cell (Opn.at35 Hk.out); have cb := hR0.cell (Opn.at36 Hk.out)
  go_wp2_with fail
  obtain ⟨nm, hnm⟩ : ∃ nm : Opn, { zop o.kind o.ref with addr := o.addr, bits := o.bits } = nm := ⟨_, rfl⟩
  have Hnm : Hid (named o = nm) := Lib.hid (by rw [← hnm]; unfold named; rw [if_neg (by rw [HKIND.out]; decide), if_neg (by rw [HKIND.out]; decide), if_neg (by rw [HKIND.out]; decide)])
  have HNM := Lib.hid hnm
  have HnmL : Hid (nm.ky.length = 32) := Lib.hid (by rw [← hnm]; first | exact Hk.out | exact zkey_len)
  have HR0 := Lib.hid hR0
  have HBW2 := Lib.hid hBW
  obtain ⟨gn, hgn⟩ : ∃ gn, w.heap.size + 1 = gn := ⟨_, rfl⟩
  rw [hgn] at hR1
  have HR1 := Lib.hid hR1
  have HGne := Lib.hid (show w.heap.size ≠ gn by omega)
  have HGle := Lib.hid (show w.heap.size ≤ gn by omega)
  rw [hgn]
  clear hR0 hR1 hBW hnm ck ci ca cb hgn
  refine ByN.marks mixed (Stg.St gn (fun s => (st5 o s).cs) 30) [By.is (.pointer (some ⟨w.heap.size, 35, none⟩)),
    By.is (.int .u32 o.addr),
    By.is (.pointer (some ⟨w.heap.size, 36, none⟩)),
    By.is (.int .i64 o.bits),
    By.is (.pointer (some ⟨gn, 35, none⟩)),
    Stg.stM gn (fun s => (st5 o s).cs) 30 1,
    By.is (.pointer (some ⟨gn, 36, none⟩)),
    Stg.stM gn (fun s => (st5 o s).cs) 30 2]
    (Ev.masks _ []) (by kernel_rfl) rfl Stg.St.refl Stg.St.trans ⟨?_, ?_, ?_, ?_, ?_, ?_, ?_, ?_, trivial⟩ ?_
  · intro a w9 ht hs hg
    have h1 := By.same_get hs 1 (by decide) (by kernel_rfl)
    refine By.yes rfl ?_
    clear hs hg
    go_simp
    exact ⟨_, rfl, Stg.St.refl _, rfl⟩
  · intro a w9 ht hs hg
    have h38 : a.tmps.getD 38 undef = _ := ByN.given_get hg 0 rfl rfl (by kernel_rfl)
    refine By.yes rfl ?_
    clear hs hg
    have hc := (ht.row (x := W2.drew) HR0.out HGne.out).cell (i := 35) (Opn.at35 Hk.out)
    clear ht
    go_simp
    exact ⟨_, rfl, Stg.St.refl _, rfl⟩
  · intro a w9 ht hs hg
    have h1 := By.same_get hs 1 (by decide) (by kernel_rfl)
    refine By.yes rfl ?_
    clear hs hg
    go_simp
    exact ⟨_, rfl, Stg.St.refl _, rfl⟩
  · intro a w9 ht hs hg
    have h40 : a.tmps.getD 40 undef = _ := ByN.given_get hg 2 rfl rfl (by kernel_rfl)
    refine By.yes rfl ?_
    clear hs hg
    have hc := (ht.row (x := W2.drew) HR0.out HGne.out).cell (i := 36) (Opn.at36 Hk.out)
    clear ht
    go_simp
    exact ⟨_, rfl, Stg.St.refl _, rfl⟩
  · intro a w9 ht hs hg
    have h3 := By.same_get hs 3 (by decide) (by kernel_rfl)
    refine By.yes rfl ?_
    clear hs hg
    go_simp
    exact ⟨_, rfl, Stg.St.refl _, rfl⟩
  · intro a w9 ht hs hg
    have h42 : a.tmps.getD 42 undef = _ := ByN.given_get hg 4 rfl rfl (by kernel_rfl)
    have h39 : a.tmps.getD 39 undef = _ := ByN.given_get hg 1 rfl rfl (by kernel_rfl)
    obtain ⟨s0, _, hrow⟩ := ht.up 0 (show Row W2.drew gn (st5 o 0).cs 30 from HR1.out)
    have hst : ∃ s, 1 ≤ s + 1 ∧ Row w9 gn ((fun s => (st5 o s).cs) s) 30 := ⟨s0, by omega, hrow⟩
    refine By.yes rfl ?_
    clear hs hg
    exact Stg.wp_stage (cells := (fun s => (st5 o s).cs)) (n := 1) 1 28 _ _ rfl rfl [.int .u32 o.addr] h42 h39 rfl hst (by kernel_rfl) rfl (fun s => by show 35 + [.int .u32 o.addr].length ≤ (st5 o s).cs.length; rw [Opn.len (st5_len o Hk.out s)]; simp) (by intro v hv; simp at hv; subst hv; rfl) (fun s hs => (sp_addr (st5_len o Hk.out s) o.addr).trans (congrArg Opn.cs (by simp [st5, show 1 ≤ max s 1 by omega, show (2 ≤ max s 1) ↔ (2 ≤ s) by omega])))
  · intro a w9 ht hs hg
    have h3 := By.same_get hs 3 (by decide) (by kernel_rfl)
    refine By.yes rfl ?_
    clear hs hg
    go_simp
    exact ⟨_, rfl, Stg.St.refl _, rfl⟩
  · intro a w9 ht hs hg
    have h43 : a.tmps.getD 43 undef = _ := ByN.given_get hg 6 rfl rfl (by kernel_rfl)
    have h41 : a.tmps.getD 41 undef = _ := ByN.given_get hg 3 rfl rfl (by kernel_rfl)
    have hp := ByN.given_get hg 5 rfl rfl (by kernel_rfl)
    obtain ⟨s0, hs0, hrow⟩ := hp
    have hst : ∃ s, 2 ≤ s + 1 ∧ Row w9 gn ((fun s => (st5 o s).cs) s) 30 := ⟨s0, by omega, hrow⟩
    refine By.yes rfl ?_
    clear hs hg
    exact Stg.wp_stage (cells := (fun s => (st5 o s).cs)) (n := 1) 2 3 _ _ rfl rfl [.int .i64 o.bits] h43 h41 rfl hst (by kernel_rfl) rfl (fun s => by show 36 + [.int .i64 o.bits].length ≤ (st5 o s).cs.length; rw [Opn.len (st5_len o Hk.out s)]; simp) (by intro v hv; simp at hv; subst hv; rfl) (fun s hs => (sp_bits (st5_len o Hk.out s) o.bits).trans (congrArg Opn.cs (by simp [st5, show 1 ≤ s by omega, show 1 ≤ max s 2 by omega, show 2 ≤ max s 2 by omega])))
  refine ByN.ends_is ?_
  refine ByN.ends_is ?_
  refine ByN.ends_is ?_
  refine ByN.ends_is ?_
  refine ByN.ends_is ?_
  refine ByN.ends_skip fun _ => ?_
  refine ByN.ends_is ?_
  refine ByN.ends_any fun _ => ?_
  refine ByN.ends_nil fun W9 hw9 => ?_
  obtain ⟨hw9, hl9⟩ := hw9
  obtain ⟨s9, hs9, hrow9⟩ := (show ∃ s, 2 ≤ s ∧ Row W9 gn (st5 o s).cs 30 from hl9)
  have hR1 : Row W9 gn nm.cs 30 := by
    rw [show nm = st5 o s9 by rw [← HNM.out]; simp [st5, zop, show 1 ≤ s9 by omega, show 2 ≤ s9 by omega]]
    exact hrow9
  have hR0 : Row W9 w.heap.size o.cs 30 := hw9.row (x := W2.drew) HR0.out HGne.out
  have hBW : Below w.heap.size w W9 := HBW2.out.drew.trans (hw9.below (x := W2.drew) (B := w.heap.size) HGle.out HBW2.out.size)
  clear hw9 hl9 hrow9 hs9
  simp only [Act.put, List.setIfInBounds_toArray, List.set_cons_succ, List.set_cons_zero]
  have HBW := Lib.hid hBW
  have HL0 := Lib.hid (l_op hR0 Hk.out)
  have HL1 := Lib.hid (l_op hR1 HnmL.out)
  have ck := hR0.cell (i := 0) rfl
  rw [HKIND.out] at ck
  have ci := hR0.cell (i := 2) rfl
  have ca := hR0.cell (Opn.at35 Hk.out)
  have cb := hR0.cell (Opn.at36 Hk.out)
  have hgd := fun (u v : Operand) (W : World) => guard_of (t := 30) g_op .neq u v o.cs.toArray nm.cs.toArray W
  have hne := fun (W : World) => neq_of (eq_op o nm Hk.out HnmL.out W)
  have HI := Lib.hid (isID_any o.id)
  have HP := Lib.hid (isPrefix_any o.addr o.bits)
  replace hgd : ∀ (u v : Operand) (W : World), (eqGuard .neq 30 u v o.val nm.val).run Try.prog W = .ok () W := hgd
  replace hne : ∀ W : World, (binOp .neq 30 o.val nm.val).run Try.prog W = .ok (.bool (!decide (o = nm))) W := hne
  clear hR0 hR1 hBW
  cases hq : decide (o = nm) with
  | false =>
    rw [hq] at hne
    obtain rfl : z = 2 := by rw [← Hz.out]; exact if_neg (by unfold okO; rw [Hnm.out, hq]; simp)
    clear hq
    simp only [Bool.not_false] at hne
    go_wp2_with (first
      | (refine QB.wpList_ld 30 rfl rfl HL0.out rfl ?_; clear HL0; refine QB.wpList_ld 30 rfl rfl HL1.out rfl ?_; clear HL1; refine stop ?_)
      | fail)
    unfold Stop
    go_wp2_with (first
      | (go_at_call 90; refine (HI.out _).mono ?_; rintro e w' ⟨rfl, rfl⟩)
      | (go_at_call 92; refine (HP.out _).mono ?_; rintro e w' ⟨rfl, rfl⟩)
      | fail)
    go_ret
    exact ⟨rfl, HBW.out⟩
  | true =>
    rw [hq] at hne
    simp only [Bool.not_true] at hne
    cases hp : prefB o.addr o.bits with
    | false =>
      rw [hp] at HP
      obtain rfl : z = 2 := by rw [← Hz.out]; exact if_neg (by unfold okO; rw [hp]; simp)
      clear hp hq
      go_wp2_with (first
        | (refine QB.wpList_ld 30 rfl rfl HL0.out rfl ?_; clear HL0; refine QB.wpList_ld 30 rfl rfl HL1.out rfl ?_; clear HL1; refine stop ?_)
        | fail)
      unfold Stop
      go_wp2_with (first
        | (go_at_call 90; refine (HI.out _).mono ?_; rintro e w' ⟨rfl, rfl⟩)
        | (go_at_call 92; refine (HP.out _).mono ?_; rintro e w' ⟨rfl, rfl⟩)
        | fail)
      go_ret
      exact ⟨rfl, HBW.out⟩
    | true =>
      rw [hp] at HP
      obtain rfl : z = 0 := by rw [← Hz.out]; exact if_pos (by unfold okO; rw [Hnm.out, hq, hp, HKIND.out]; rfl)
      clear hp hq
      go_wp2_with (first
        | (refine QB.wpList_ld 30 rfl rfl HL0.out rfl ?_; clear HL0; refine QB.wpList_ld 30 rfl rfl HL1.out rfl ?_; clear HL1; refine stop ?_)
        | fail)
      unfold Stop
      go_wp2_with (first
        | (go_at_call 90; refine (HI.out _).mono ?_; rintro e w' ⟨rfl, rfl⟩)
        | (go_at_call 92; refine (HP.out _).mono ?_; rintro e w' ⟨rfl, rfl⟩)
        | fail)
      go_ret
      exact ⟨rfl, HBW.out⟩

set_option maxRecDepth 100000 in
set_option maxHeartbeats 2000000 in
theorem CheckOp_0 (o : Opn) (hk : o.ky.length = 32) (h1 : (o.kind == 1) = false) (h2 : (o.kind == 2) = false) (h3 : (o.kind == 3) = false) (h4 : (o.kind == 4) = false) (h5 : (o.kind == 5) = false) (w : World) : Calls Try.prog 58 #[o.val] w fun e w' => e = .returned (.int .i64 (checkOpZ o)) ∧ Below w.heap.size w w' := by
  have hkind : o.kind = o.kind := rfl
  have hzz : checkOpZ o = 2 := if_neg (by unfold okO; simp only [beq_eq_false_iff_ne] at h1 h2 h3 h4 h5; simp [h1, h2, h3, h4, h5])
  obtain ⟨z, hz⟩ : ∃ z, checkOpZ o = z := ⟨_, rfl⟩
  rw [hz]
  obtain rfl : z = 2 := hz.symm.trans hzz
  clear hzz
  have Hz := Lib.hid hz
  have Hk := Lib.hid hk
  have HKIND := Lib.hid hkind
  have hr0 : Row (w.alloc (.cells o.cs.toArray 30)) w.heap.size o.cs 30 := Row.new rfl rfl
  have hb0 : Below w.heap.size w (w.alloc (.cells o.cs.toArray 30)) := (Below.refl _ w).alloc (Nat.le_refl _) _
  have c0 := hr0.cell (i := 0) rfl
  have c1 := hr0.cell (i := 1) rfl
  have HR0 := Lib.hid hr0
  have HB0 := Lib.hid hb0
  have hgs : (w.alloc (.cells o.cs.toArray 30)).heap.size = w.heap.size + 1 := by simp
  have Hgs := Lib.hid hgs
  clear hz hk hr0 hb0 hgs hkind
  unfold Opn.val
  go_enter Try.func58, Try.ntmps58
  go_wp2_with (first
    | (show wpList _ _ _ (⟨some 8, _, _, _, _, _⟩ :: _) _ _; refine wpList_bd _ _ rfl (v := (zop o.kind o.ref).val) (by kernel_rfl) rfl ?_)
    | (refine QB.wpList_alloc rfl 30 rfl zero_op ?_; intro W1 hr1 hb1; have HR1 := Lib.hid (show Row W1 (w.heap.size + 1) (zop 0 0).cs 30 from Hgs.out ▸ hr1); have HB1 := Lib.hid hb1; clear hr1 hb1; refine stop ?_)
    | fail)
  unfold Stop
  refine wpList_storeRow rfl 30 (.tmp 3) (.tmp 8) rfl (g := w.heap.size + 1) (by rfl) (cs := (zop o.kind o.ref).cs) rfl HR1.out (by kernel_rfl) (Opn.len zkey_len) (Opn.len zkey_len) (Opn.one _) ?_
  refine QB.name fun W2 hW2 => ?_
  have hR1 : Row W2 (w.heap.size + 1) (zop o.kind o.ref).cs 30 := by rw [← hW2]; exact HR1.out.setRow _
  have hBW : Below w.heap.size w W2 := by rw [← hW2]; exact below_setRow (nextB HB0.out (Nat.le_refl _) HB1.out) (by omega) _
  have hR0 : Row W2 w.heap.size o.cs 30 := by rw [← hW2]; exact (HR0.out.below HB1.out HR0.out.lt).setOther _ _ (by omega)
  clear hW2 c0 c1
  simp only [Act.put]
  have ck := hR0.cell (i := 0) rfl
  skip
  go_wp2_with fail
  go_ret
  exact ⟨rfl, hBW⟩

theorem CheckOp_any (o : Opn) (hk : o.ky.length = 32) (w : World) : Calls Try.prog 58 #[o.val] w fun e w' => e = .returned (.int .i64 (checkOpZ o)) ∧ Below w.heap.size w w' := by
  by_cases h1 : o.kind = 1
  · exact CheckOp_1 o hk h1 w
  by_cases h2 : o.kind = 2
  · exact CheckOp_2 o hk h2 w
  by_cases h3 : o.kind = 3
  · exact CheckOp_3 o hk h3 w
  by_cases h4 : o.kind = 4
  · exact CheckOp_4 o hk h4 w
  by_cases h5 : o.kind = 5
  · exact CheckOp_5 o hk h5 w
  exact CheckOp_0 o hk (by simpa using h1) (by simpa using h2) (by simpa using h3) (by simpa using h4) (by simpa using h5) w

end Go.Proofs.Ytigjbgjjngeinaa.Cfg
