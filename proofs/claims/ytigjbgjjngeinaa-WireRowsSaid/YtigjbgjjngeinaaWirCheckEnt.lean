/- wire.CheckEntry. -/
import Derived.Test.YtigjbgjjngeinaaCfgPure
import Derived.Test.YtigjbgjjngeinaaCfgCheckOp
import Derived.Test.YtigjbgjjngeinaaQuietB
import Derived.Test.YtigjbgjjngeinaaCfgSetPeer
namespace Go.Proofs.Ytigjbgjjngeinaa.Wir
open Go.RowKit
set_option maxRecDepth 100000 in
theorem mask_any (bit : Int) (is : Bool) (w : World) : Calls Try.prog 70 #[.int .i64 bit, .bool is] w fun e w' => e = .returned (.int .i64 (if is = true then bit else 0)) ∧ w = w' := by
  cases is with
  | false =>
    go_enter Try.func70, Try.ntmps70
    go_wp2
    go_ret
    exact ⟨rfl, rfl⟩
  | true =>
    go_enter Try.func70, Try.ntmps70
    go_wp2
    go_ret
    exact ⟨rfl, rfl⟩
set_option maxRecDepth 100000 in
theorem isPeer_any (x : Int) (w : World) : Calls Try.prog 104 #[.int .i64 x] w fun e w' => e = .returned (.bool (Cfg.isIDB x)) ∧ w = w' := by
  by_cases h1 : (1 : Int) ≤ x
  · by_cases h2 : x ≤ 65536
    · go_enter Try.func104, Try.ntmps104
      go_wp2
      go_ret
      exact ⟨by simp [Cfg.isIDB, h1, h2], rfl⟩
    · go_enter Try.func104, Try.ntmps104
      go_wp2
      go_ret
      exact ⟨by simp [Cfg.isIDB, h1, h2], rfl⟩
  · go_enter Try.func104, Try.ntmps104
    go_wp2
    go_ret
    exact ⟨by simp [Cfg.isIDB]; omega, rfl⟩
/-- The fields of an entry of that kind. -/
def entF (k : Int) : Int := if k = 1 then 1 else if k = 2 then 14 else if k = 3 then 2 else 0
set_option maxRecDepth 100000 in
theorem entryFields_any (k : Int) (w : World) : Calls Try.prog 63 #[.int .i64 k] w fun e w' => e = .returned (.int .i64 (entF k)) ∧ Below w.heap.size w w' := by
  by_cases h1 : k < 1
  · have e : entF k = 0 := by unfold entF; rw [if_neg (by omega), if_neg (by omega), if_neg (by omega)]
    rw [e]
    clear e
    go_enter Try.func63, Try.ntmps63
    go_wp2
    go_ret
    exact ⟨rfl, Below.refl _ _⟩
  · by_cases h2 : 3 < k
    · have e : entF k = 0 := by unfold entF; rw [if_neg (by omega), if_neg (by omega), if_neg (by omega)]
      rw [e]
      clear e
      go_enter Try.func63, Try.ntmps63
      go_wp2
      go_ret
      exact ⟨rfl, Below.refl _ _⟩
    · have h3 : k = 1 ∨ k = 2 ∨ k = 3 := by omega
      clear h1 h2
      rcases h3 with rfl | rfl | rfl
      all_goals
        go_enter Try.func63, Try.ntmps63
        go_wp2
        go_ret
        exact ⟨rfl, by first | exact Below.refl _ _ | exact (Below.refl _ _).alloc (Nat.le_refl _) _⟩
end Go.Proofs.Ytigjbgjjngeinaa.Wir
namespace Go.Proofs.Ytigjbgjjngeinaa.Wir
open Go.RowKit
/-- The fields of a message of that kind. -/
def msgF (k : Int) : Int := if k = 1 then 11 else if k = 2 then 143 else if k = 3 then 67 else if k = 4 then 16 else if k = 5 then 49 else if k = 6 then 49 else if k = 7 then 263 else 0
set_option maxRecDepth 100000 in
theorem msgFields_any (k : Int) (w : World) : Calls Try.prog 71 #[.int .i64 k] w fun e w' => e = .returned (.int .i64 (msgF k)) ∧ Below w.heap.size w w' := by
  by_cases h1 : k < 1
  · have e : msgF k = 0 := by unfold msgF; repeat rw [if_neg (by omega)]
    rw [e]
    clear e
    go_enter Try.func71, Try.ntmps71
    go_wp2
    go_ret
    exact ⟨rfl, Below.refl _ _⟩
  · by_cases h2 : 7 < k
    · have e : msgF k = 0 := by unfold msgF; repeat rw [if_neg (by omega)]
      rw [e]
      clear e
      go_enter Try.func71, Try.ntmps71
      go_wp2
      go_ret
      exact ⟨rfl, Below.refl _ _⟩
    · have h3 : k = 1 ∨ k = 2 ∨ k = 3 ∨ k = 4 ∨ k = 5 ∨ k = 6 ∨ k = 7 := by omega
      clear h1 h2
      rcases h3 with rfl | rfl | rfl | rfl | rfl | rfl | rfl
      all_goals
        go_enter Try.func71, Try.ntmps71
        go_wp2
        go_ret
        exact ⟨rfl, by first | exact Below.refl _ _ | exact (Below.refl _ _).alloc (Nat.le_refl _) _⟩
end Go.Proofs.Ytigjbgjjngeinaa.Wir
namespace Go.Proofs.Ytigjbgjjngeinaa.Wir
open Go.RowKit Cfg
structure En where
  kind : Int
  ep : Int
  ix : Int
  op : Opn
  sid : Int
  peer : Int
  sec : List UInt8
  deriving DecidableEq
def En.cs (e : En) : List Value := .int .i64 e.kind :: .int .u32 e.ep :: .int .u64 e.ix :: (e.op.cs ++ (.int .u64 e.sid :: .int .i64 e.peer :: e.sec.map bv))
def En.val (e : En) : Value := .agg e.cs.toArray
/-- Its key and its secret have 32 bytes. -/
def En.K (e : En) : Prop := e.op.ky.length = 32 ∧ e.sec.length = 32
section
variable {e : En}
theorem En.len (h : e.K) : e.cs.length = 74 := by simp [En.cs, Opn.len h.1, h.2]
theorem En.one (e : En) : ∀ v ∈ e.cs, v.oneCell' = true := by
  intro v hv
  simp only [En.cs, List.mem_cons, List.mem_append, List.mem_map] at hv
  rcases hv with rfl | rfl | rfl | hv | rfl | rfl | ⟨u, _, rfl⟩
  · rfl
  · rfl
  · rfl
  · exact e.op.one v hv
  · rfl
  · rfl
  · rfl
theorem En.tail (h : e.K) (i : Nat) : e.cs[40 + i]? = (.int .u64 e.sid :: .int .i64 e.peer :: e.sec.map bv)[i]? := by
  rw [show 40 + i = (37 + i) + 1 + 1 + 1 by omega]
  show (e.op.cs ++ (.int .u64 e.sid :: .int .i64 e.peer :: e.sec.map bv))[37 + i]? = _
  rw [List.getElem?_append_right (by rw [Opn.len h.1]; omega), Opn.len h.1, show 37 + i - 37 = i by omega]
theorem En.at40 (h : e.K) : e.cs[40]? = some (.int .u64 e.sid) := En.tail h 0
theorem En.at41 (h : e.K) : e.cs[41]? = some (.int .i64 e.peer) := En.tail h 1
theorem En.opat (h : e.K) : (e.cs.drop 3).take 37 = e.op.cs := by
  show (e.op.cs ++ (.int .u64 e.sid :: .int .i64 e.peer :: e.sec.map bv)).take 37 = _
  rw [List.take_append_of_le_length (by rw [Opn.len h.1]; omega), List.take_of_length_le (by rw [Opn.len h.1]; omega)]
theorem En.secat (h : e.K) : (e.cs.drop 42).take 32 = e.sec.map bv := by
  have : e.cs.drop 42 = e.sec.map bv := by
    show (e.op.cs ++ (.int .u64 e.sid :: .int .i64 e.peer :: e.sec.map bv)).drop 39 = _
    rw [List.drop_append, List.drop_of_length_le (by rw [Opn.len h.1]; omega), Opn.len h.1]
    rfl
  rw [this, List.take_of_length_le (by rw [List.length_map, h.2]; omega)]
variable {w : World} {g : Nat}
theorem l_ent (h : Row w g e.cs 49) (hk : e.K) : (loadVar 49 ⟨g, 0, none⟩).run Try.prog w = .ok e.val w := by
  rw [Pol.run_loadVar_sub (off := 0) (n := 74) w h Try.underlying49 rfl (by kernel_rfl) (by rw [En.len hk]; omega), List.drop_zero, List.take_of_length_le (by rw [En.len hk]; omega)]
  rfl
theorem l_entop (h : Row w g e.cs 49) (hk : e.K) : (loadVar 30 ⟨g, 3, none⟩).run Try.prog w = .ok e.op.val w := by
  rw [Pol.run_loadVar_sub (off := 3) (n := 37) w h Try.underlying30 rfl (by kernel_rfl) (by rw [En.len hk]; omega), En.opat hk]
  rfl
theorem l_entsec (h : Row w g e.cs 49) (hk : e.K) : (loadVar 27 ⟨g, 42, none⟩).run Try.prog w = .ok (arr8 e.sec) w := by
  rw [Pol.run_loadVar_sub (off := 42) (n := 32) w h Try.underlying27 rfl (by kernel_rfl) (by rw [En.len hk]; omega), En.secat hk]
  rfl
end
def zen : En := ⟨0, 0, 0, zop 0 0, 0, 0, zkey⟩
theorem zen_K : zen.K := ⟨zkey_len, zkey_len⟩
end Go.Proofs.Ytigjbgjjngeinaa.Wir
namespace Go.Proofs.Ytigjbgjjngeinaa
namespace QB
open Go.RowKit
section
variable {P : Program} {ops : Array Oper} {C : World → Prop} {Q : Act → Prop} {a : Act} {o : Oper} {rest : List Oper}
theorem bd' (hw : Region.wanted o (yielded ops a.tmps) = true) (t : TypeId) (parts : Array (Nat × Operand)) (ho : o.op = .build t parts) {ps : Array (Nat × Value)} (hp : (parts.map fun (i, x) => (i, a.eval x)) = ps) {v : Value} {a' : Act} (hrun : ∀ w', C w' → (Instr.build t ps).run P w' = .ok v w') (ha : a.put o.dst v = a') (hk : WQ P ops C Q rest a') : WQ P ops C Q (o :: rest) a := by
  refine val' hw (fun w' hw' => ?_) ha hk
  unfold execOp
  simp only [ho, hp, Sem.run_bind, Sem.run_pure, Result.andThen_ok, hrun w' hw']
theorem eq' (hw : Region.wanted o (yielded ops a.tmps) = true) (op : BinOp) (t t2 : TypeId) (x y : Operand) (ho : o.op = .binOp op t x y t2) {vx vy v : Value} (hx : a.eval x = vx) (hy : a.eval y = vy) {a' : Act} (hg : ∀ w', (eqGuard op t x y vx vy).run P w' = .ok () w') (hb : ∀ w', (binOp op t vx vy).run P w' = .ok v w') (ha : a.put o.dst v = a') (hk : WQ P ops C Q rest a') : WQ P ops C Q (o :: rest) a := by
  refine val' hw (v := v) (fun w' hw' => ?_) ha hk
  unfold execOp
  simp only [ho, hx, hy, Sem.run_bind, Sem.run_pure, Result.andThen_ok, hg, hb]
end
end QB
namespace Wir
open Go.RowKit Cfg
theorem mixed : Try.prog.follows .mixedOrders = true := Cfg.mixed
set_option maxRecDepth 100000 in
theorem build_opw (w : World) : (Instr.build 30 #[]).run Try.prog w = .ok (zop 0 0).val w := by kernel_rfl
theorem g_a32 : Try.prog.eqGuardType Try.prog.depth 27 = false := by kernel_rfl
theorem eq_a32 (x y : List UInt8) (hx : x.length = 32) (hy : y.length = 32) (w : World) : (Op.equal 27 (arr8 x) (arr8 y)).run Try.prog w = .ok (decide (x = y)) w := run_eql_arr8 Try.underlying27 Try.underlying5 (by kernel_rfl) x y hx hy w
set_option maxRecDepth 100000 in
theorem build_a0 (w : World) : (Instr.build 27 #[]).run Try.prog w = .ok (arr8 zkey) w := by kernel_rfl
def mk (bit : Int) (b : Bool) : Int := if b = true then bit else 0
/-- The bits of the fields that are not zero. -/
def usedZ (e : En) : Int := bits .or .i64 (bits .or .i64 (bits .or .i64 (mk 1 (!decide (e.op = zop 0 0))) (mk 2 (e.sid != 0))) (mk 4 (e.peer != 0))) (mk 8 (!decide (e.sec = zkey)))
set_option maxRecDepth 100000 in
set_option maxHeartbeats 2000000 in
theorem entryUsed_any (e : En) (hk : e.K) (w : World) : Calls Try.prog 103 #[e.val] w fun r w' => r = .returned (.int .i64 (usedZ e)) ∧ Below w.heap.size w w' := by
  obtain ⟨W, hW⟩ : ∃ W, w.alloc (.cells e.cs.toArray 49) = W := ⟨_, rfl⟩
  have hr : Row W w.heap.size e.cs 49 := hW ▸ Row.new rfl rfl
  have hb : Below w.heap.size w W := hW ▸ (Below.refl _ w).alloc (Nat.le_refl _) _
  have HB := Lib.hid hb
  have HR := Lib.hid hr
  have HK := Lib.hid hk
  clear hr hb hk
  unfold En.val
  go_enter Try.func103, Try.ntmps103
  go_wp2_with fail
  clear hW
  have FR := Lib.hid (fun w' (h : Below W.heap.size W w') => HR.out.below h HR.out.lt)
  refine QB.region' mixed (by kernel_rfl) ?_
  refine QB.val' (v := ?_) (a' := ?_) (by kernel_rfl) (fun w' hw' => ?_) ?_ ?_
  rotate_left 2
  · go_simp <;> rfl
  · simp only [Act.put, List.setIfInBounds_toArray, List.set_cons_succ, List.set_cons_zero]; rfl
  refine QB.ld' (v := e.op.val) (a' := ?_) (by kernel_rfl) 30 rfl rfl (fun w' hw' => l_entop (FR.out w' hw') HK.out) ?_ ?_
  rotate_left
  · simp only [Act.put, List.setIfInBounds_toArray, List.set_cons_succ, List.set_cons_zero]; rfl
  refine QB.bd' (v := (zop 0 0).val) (a' := ?_) (by kernel_rfl) 30 #[] rfl (ps := #[]) (by kernel_rfl) (fun w' _ => build_opw w') ?_ ?_
  rotate_left
  · simp only [Act.put, List.setIfInBounds_toArray, List.set_cons_succ, List.set_cons_zero]; rfl
  refine QB.eq' (v := .bool (!decide (e.op = zop 0 0))) (a' := ?_) (by kernel_rfl) .neq 30 _ _ _ rfl (vx := e.op.val) (vy := (zop 0 0).val) rfl rfl (fun w' => guard_of g_op _ _ _ _ _ _) (fun w' => neq_of (eq_op e.op (zop 0 0) HK.out.1 zkey_len w')) ?_ ?_
  rotate_left
  · simp only [Act.put, List.setIfInBounds_toArray, List.set_cons_succ, List.set_cons_zero]; rfl
  refine QB.call' (f := 70) (args := #[.int .i64 1, .bool (!decide (e.op = zop 0 0))]) (v := .int .i64 (mk 1 (!decide (e.op = zop 0 0)))) (a' := ?_) (by kernel_rfl) (fun w' hw' => ?_) (fun w' hw' => (mask_any 1 (!decide (e.op = zop 0 0)) w').mono fun _ _ ⟨h1, h2⟩ => ⟨h1, h2 ▸ hw'⟩) ?_ ?_
  rotate_left
  · go_simp <;> rfl
  · simp only [Act.put, List.setIfInBounds_toArray, List.set_cons_succ, List.set_cons_zero]; rfl
  refine QB.val' (v := ?_) (a' := ?_) (by kernel_rfl) (fun w' hw' => ?_) ?_ ?_
  rotate_left 2
  · go_simp <;> rfl
  · simp only [Act.put, List.setIfInBounds_toArray, List.set_cons_succ, List.set_cons_zero]; rfl
  refine QB.val' (v := ?_) (a' := ?_) (by kernel_rfl) (fun w' hw' => ?_) ?_ ?_
  rotate_left 2
  · go_simp <;> rfl
  · simp only [Act.put, List.setIfInBounds_toArray, List.set_cons_succ, List.set_cons_zero]; rfl
  refine QB.val' (v := ?_) (a' := ?_) (by kernel_rfl) (fun w' hw' => ?_) ?_ ?_
  rotate_left 2
  · have c40 := (FR.out w' hw').cell (i := 40) (En.at40 HK.out); go_simp <;> rfl
  · simp only [Act.put, List.setIfInBounds_toArray, List.set_cons_succ, List.set_cons_zero]; rfl
  refine QB.val' (v := ?_) (a' := ?_) (by kernel_rfl) (fun w' hw' => ?_) ?_ ?_
  rotate_left 2
  · go_simp <;> rfl
  · simp only [Act.put, List.setIfInBounds_toArray, List.set_cons_succ, List.set_cons_zero]; rfl
  refine QB.call' (f := 70) (args := #[.int .i64 2, .bool (e.sid != 0)]) (v := .int .i64 (mk 2 (e.sid != 0))) (a' := ?_) (by kernel_rfl) (fun w' hw' => ?_) (fun w' hw' => (mask_any 2 (e.sid != 0) w').mono fun _ _ ⟨h1, h2⟩ => ⟨h1, h2 ▸ hw'⟩) ?_ ?_
  rotate_left
  · go_simp <;> rfl
  · simp only [Act.put, List.setIfInBounds_toArray, List.set_cons_succ, List.set_cons_zero]; rfl
  refine QB.val' (v := ?_) (a' := ?_) (by kernel_rfl) (fun w' hw' => ?_) ?_ ?_
  rotate_left 2
  · go_simp <;> rfl
  · simp only [Act.put, List.setIfInBounds_toArray, List.set_cons_succ, List.set_cons_zero]; rfl
  refine QB.val' (v := ?_) (a' := ?_) (by kernel_rfl) (fun w' hw' => ?_) ?_ ?_
  rotate_left 2
  · go_simp <;> rfl
  · simp only [Act.put, List.setIfInBounds_toArray, List.set_cons_succ, List.set_cons_zero]; rfl
  refine QB.val' (v := ?_) (a' := ?_) (by kernel_rfl) (fun w' hw' => ?_) ?_ ?_
  rotate_left 2
  · go_simp <;> rfl
  · simp only [Act.put, List.setIfInBounds_toArray, List.set_cons_succ, List.set_cons_zero]; rfl
  refine QB.val' (v := ?_) (a' := ?_) (by kernel_rfl) (fun w' hw' => ?_) ?_ ?_
  rotate_left 2
  · have c41 := (FR.out w' hw').cell (i := 41) (En.at41 HK.out); go_simp <;> rfl
  · simp only [Act.put, List.setIfInBounds_toArray, List.set_cons_succ, List.set_cons_zero]; rfl
  refine QB.val' (v := ?_) (a' := ?_) (by kernel_rfl) (fun w' hw' => ?_) ?_ ?_
  rotate_left 2
  · go_simp <;> rfl
  · simp only [Act.put, List.setIfInBounds_toArray, List.set_cons_succ, List.set_cons_zero]; rfl
  refine QB.call' (f := 70) (args := #[.int .i64 4, .bool (e.peer != 0)]) (v := .int .i64 (mk 4 (e.peer != 0))) (a' := ?_) (by kernel_rfl) (fun w' hw' => ?_) (fun w' hw' => (mask_any 4 (e.peer != 0) w').mono fun _ _ ⟨h1, h2⟩ => ⟨h1, h2 ▸ hw'⟩) ?_ ?_
  rotate_left
  · go_simp <;> rfl
  · simp only [Act.put, List.setIfInBounds_toArray, List.set_cons_succ, List.set_cons_zero]; rfl
  refine QB.val' (v := ?_) (a' := ?_) (by kernel_rfl) (fun w' hw' => ?_) ?_ ?_
  rotate_left 2
  · go_simp <;> rfl
  · simp only [Act.put, List.setIfInBounds_toArray, List.set_cons_succ, List.set_cons_zero]; rfl
  refine QB.val' (v := ?_) (a' := ?_) (by kernel_rfl) (fun w' hw' => ?_) ?_ ?_
  rotate_left 2
  · go_simp <;> rfl
  · simp only [Act.put, List.setIfInBounds_toArray, List.set_cons_succ, List.set_cons_zero]; rfl
  refine QB.val' (v := ?_) (a' := ?_) (by kernel_rfl) (fun w' hw' => ?_) ?_ ?_
  rotate_left 2
  · go_simp <;> rfl
  · simp only [Act.put, List.setIfInBounds_toArray, List.set_cons_succ, List.set_cons_zero]; rfl
  refine QB.ld' (v := arr8 e.sec) (a' := ?_) (by kernel_rfl) 27 rfl rfl (fun w' hw' => l_entsec (FR.out w' hw') HK.out) ?_ ?_
  rotate_left
  · simp only [Act.put, List.setIfInBounds_toArray, List.set_cons_succ, List.set_cons_zero]; rfl
  refine QB.bd' (v := arr8 zkey) (a' := ?_) (by kernel_rfl) 27 #[] rfl (ps := #[]) (by kernel_rfl) (fun w' _ => build_a0 w') ?_ ?_
  rotate_left
  · simp only [Act.put, List.setIfInBounds_toArray, List.set_cons_succ, List.set_cons_zero]; rfl
  refine QB.eq' (v := .bool (!decide (e.sec = zkey))) (a' := ?_) (by kernel_rfl) .neq 27 _ _ _ rfl (vx := arr8 e.sec) (vy := arr8 zkey) rfl rfl (fun w' => guard_of g_a32 _ _ _ _ _ _) (fun w' => neq_of (eq_a32 e.sec zkey HK.out.2 zkey_len w')) ?_ ?_
  rotate_left
  · simp only [Act.put, List.setIfInBounds_toArray, List.set_cons_succ, List.set_cons_zero]; rfl
  refine QB.call' (f := 70) (args := #[.int .i64 8, .bool (!decide (e.sec = zkey))]) (v := .int .i64 (mk 8 (!decide (e.sec = zkey)))) (a' := ?_) (by kernel_rfl) (fun w' hw' => ?_) (fun w' hw' => (mask_any 8 (!decide (e.sec = zkey)) w').mono fun _ _ ⟨h1, h2⟩ => ⟨h1, h2 ▸ hw'⟩) ?_ ?_
  rotate_left
  · go_simp <;> rfl
  · simp only [Act.put, List.setIfInBounds_toArray, List.set_cons_succ, List.set_cons_zero]; rfl
  refine QB.val' (v := ?_) (a' := ?_) (by kernel_rfl) (fun w' hw' => ?_) ?_ ?_
  rotate_left 2
  · go_simp <;> rfl
  · simp only [Act.put, List.setIfInBounds_toArray, List.set_cons_succ, List.set_cons_zero]; rfl
  refine QB.val' (v := ?_) (a' := ?_) (by kernel_rfl) (fun w' hw' => ?_) ?_ ?_
  rotate_left 2
  · go_simp <;> rfl
  · simp only [Act.put, List.setIfInBounds_toArray, List.set_cons_succ, List.set_cons_zero]; rfl
  refine QB.nil' fun w' hw' => ?_
  have HW' := Lib.hid hw'
  clear hw'
  go_wp2
  go_ret
  exact ⟨rfl, HB.out.trans (HW'.out.mono HB.out.size)⟩
end Wir
end Go.Proofs.Ytigjbgjjngeinaa
namespace Go.Proofs.Ytigjbgjjngeinaa.Wir
open Go.RowKit Cfg
def notZ (e : En) : Int := bits .andNot .i64 (usedZ e) (entF e.kind)
/-- Is an entry valid? -/
def okE (e : En) : Bool := (decide (e.kind = 1) || decide (e.kind = 2) || decide (e.kind = 3)) && (notZ e == 0) && !(e.ep == 0) && !(e.ix == 0) && (decide (e.kind ≠ 1) || okO e.op) && (decide (e.kind = 1) || !(e.sid == 0)) && (decide (e.kind ≠ 2) || isIDB e.peer)
def checkEntZ (e : En) : Int := if okE e = true then 0 else 2
set_option maxRecDepth 100000 in
set_option maxHeartbeats 4000000 in
theorem CheckEntry_any (e : En) (hk : e.K) (w : World) : Calls Try.prog 66 #[e.val] w fun r w' => r = .returned (.int .i64 (checkEntZ e)) ∧ Below w.heap.size w w' := by
  obtain ⟨z, hz⟩ : ∃ z, checkEntZ e = z := ⟨_, rfl⟩
  rw [hz]
  obtain ⟨W, hW⟩ : ∃ W, w.alloc (.cells e.cs.toArray 49) = W := ⟨_, rfl⟩
  have hr : Row W w.heap.size e.cs 49 := hW ▸ Row.new rfl rfl
  have hb : Below w.heap.size w W := hW ▸ (Below.refl _ w).alloc (Nat.le_refl _) _
  have HZ := Lib.hid hz
  have HB := Lib.hid hb
  have HR := Lib.hid hr
  have HK := Lib.hid hk
  have c0 := hr.cell (i := 0) rfl
  clear hr hb hk hz
  have FR := Lib.hid (fun w' (h : Below W.heap.size W w') => HR.out.below h HR.out.lt)
  have FB := Lib.hid (fun w' (h : Below W.heap.size W w') => show Below w.heap.size w w' from HB.out.trans (h.mono HB.out.size))
  obtain ⟨ev, hev⟩ : ∃ ev, e.val = ev := ⟨_, rfl⟩
  have HLE := Lib.hid (fun w' (h : Below W.heap.size W w') => show (loadVar 49 ⟨w.heap.size, 0, none⟩).run Try.prog w' = .ok ev w' from hev ▸ l_ent (FR.out w' h) HK.out)
  have HUS := Lib.hid (fun (w' : World) => show Calls Try.prog (103) #[ev] w' _ from hev ▸ entryUsed_any e HK.out w')
  clear hev
  unfold En.val
  go_enter Try.func66, Try.ntmps66
  go_wp2_with fail
  clear hW c0
  refine (entryFields_any e.kind W).mono ?_
  rintro r w1 ⟨rfl, hb1⟩
  have HB1 := Lib.hid hb1
  clear hb1
  by_cases hkind : ¬ (e.kind = 1 ∨ e.kind = 2 ∨ e.kind = 3)
  · obtain rfl : z = 2 := by
      rw [← HZ.out]
      refine if_neg ?_
      unfold okE
      simp only [not_or] at hkind
      simp [hkind]
    rw [show entF e.kind = 0 by unfold entF; rw [if_neg (by omega), if_neg (by omega), if_neg (by omega)]]
    clear hkind
    go_wp2
    go_ret
    exact ⟨rfl, FB.out w1 HB1.out⟩
  have hkind' : e.kind = 1 ∨ e.kind = 2 ∨ e.kind = 3 := Classical.not_not.1 hkind
  clear hkind
  have HL1 := Lib.hid (HLE.out w1 HB1.out)
  obtain ⟨f, hf⟩ : ∃ f, entF e.kind = f := ⟨_, rfl⟩
  have hf0 : (f == 0) = false := by rw [← hf]; rcases hkind' with h | h | h <;> rw [h] <;> rfl
  rw [hf]
  have HKD := Lib.hid hkind'
  have HF := Lib.hid hf
  clear hkind' hf
  go_wp2_with (first | (refine QB.wpList_ld 49 rfl rfl HL1.out (by kernel_rfl) ?_; clear HL1) | fail)
  refine (HUS.out w1).mono ?_
  rintro r w2 ⟨rfl, hb2⟩
  have HB2 := Lib.hid (show Below W.heap.size W w2 from nextB HB1.out (Nat.le_refl _) hb2)
  have c1 := (FR.out w2 HB2.out).cell (i := 1) rfl
  have c2 := (FR.out w2 HB2.out).cell (i := 2) rfl
  clear hb2 hf0
  obtain ⟨d, hd⟩ : ∃ d, bits .andNot .i64 (usedZ e) f = d := ⟨_, rfl⟩
  have HD := Lib.hid (show notZ e = d by unfold notZ; rw [HF.out, hd])
  by_cases hd0 : d = 0
  case neg =>
    have hd1 : (d == 0) = false := by simpa using hd0
    have hd2 : (d != 0) = true := by simpa using hd0
    obtain rfl : z = 2 := by rw [← HZ.out]; exact if_neg (by unfold okE; simp [HD.out, hd1])
    clear hd0
    go_wp2
    go_ret
    exact ⟨rfl, FB.out w2 HB2.out⟩
  case pos =>
  subst hd0
  by_cases he0 : e.ep = 0
  case pos =>
    have he1 : (e.ep == 0) = true := by simpa using he0
    obtain rfl : z = 2 := by rw [← HZ.out]; exact if_neg (by unfold okE; simp [he1])
    clear he0
    go_wp2
    go_ret
    exact ⟨rfl, FB.out w2 HB2.out⟩
  case neg =>
  have he1 : (e.ep == 0) = false := by simpa using he0
  by_cases hx0 : e.ix = 0
  case pos =>
    have hx1 : (e.ix == 0) = true := by simpa using hx0
    obtain rfl : z = 2 := by rw [← HZ.out]; exact if_neg (by unfold okE; simp [hx1])
    clear he0 hx0
    go_wp2
    go_ret
    exact ⟨rfl, FB.out w2 HB2.out⟩
  case neg =>
  have hx1 : (e.ix == 0) = false := by simpa using hx0
  have HEX := Lib.hid (And.intro he1 hx1)
  clear he0 hx0
  have hF := HF.out
  rcases HKD.out with hkd | hkd | hkd
  · have hf1 : f = 1 := by rw [← hF, hkd]; rfl
    subst hf1
    have b1 : bits .and .i64 1 1 = 1 := by decide
    have b2 : bits .and .i64 1 2 = 0 := by decide
    have b4 : bits .and .i64 1 4 = 0 := by decide
    have HKK := Lib.hid hkd
    obtain ⟨ov, hov⟩ : ∃ ov, e.op.val = ov := ⟨_, rfl⟩
    have HLO := Lib.hid (show (loadVar 30 ⟨w.heap.size, 3, none⟩).run Try.prog w2 = .ok ov w2 from hov ▸ l_entop (FR.out w2 HB2.out) HK.out)
    have HCO := Lib.hid (show Calls Try.prog 58 #[ov] w2 _ from hov ▸ CheckOp_any e.op HK.out.1 w2)
    clear hF hkd hov
    go_wp2_with (first | (refine QB.wpList_ld 30 rfl rfl HLO.out (by kernel_rfl) ?_; clear HLO) | fail)
    refine HCO.out.mono ?_
    rintro r w3 ⟨rfl, hb3⟩
    have HB3 := Lib.hid (show Below W.heap.size W w3 from nextB HB2.out (Nat.le_refl _) hb3)
    clear hb3 c1 c2 HCO
    cases ho : okO e.op with
    | false =>
      obtain rfl : z = 2 := by rw [← HZ.out]; exact if_neg (by unfold okE; simp [HKK.out, ho])
      rw [show checkOpZ e.op = 2 from if_neg (by rw [ho]; decide)]
      clear ho
      go_wp2
      go_ret
      exact ⟨rfl, FB.out w3 HB3.out⟩
    | true =>
      obtain rfl : z = 0 := by rw [← HZ.out]; exact if_pos (by unfold okE; simp [HKK.out, ho, HD.out, HEX.out.1, HEX.out.2])
      rw [show checkOpZ e.op = 0 from if_pos ho]
      clear ho
      go_wp2
      go_ret
      exact ⟨rfl, FB.out w3 HB3.out⟩
  · have hf1 : f = 14 := by rw [← hF, hkd]; rfl
    subst hf1
    have b1 : bits .and .i64 14 1 = 0 := by decide
    have b2 : bits .and .i64 14 2 = 2 := by decide
    have b4 : bits .and .i64 14 4 = 4 := by decide
    have HKK := Lib.hid hkd
    have c40 := (FR.out w2 HB2.out).cell (i := 40) (En.at40 HK.out)
    have c41 := (FR.out w2 HB2.out).cell (i := 41) (En.at41 HK.out)
    clear hF hkd
    by_cases hs0 : e.sid = 0
    · have hs1 : (e.sid == 0) = true := by simpa using hs0
      obtain rfl : z = 2 := by rw [← HZ.out]; exact if_neg (by unfold okE; simp [HKK.out, hs1])
      clear hs0
      go_wp2
      go_ret
      exact ⟨rfl, FB.out w2 HB2.out⟩
    · have hs1 : (e.sid == 0) = false := by simpa using hs0
      have HS1 := Lib.hid hs1
      clear hs0
      have HIP := Lib.hid (isPeer_any e.peer w2)
      go_wp2_with fail
      refine HIP.out.mono ?_
      rintro r w3 ⟨rfl, rfl⟩
      clear HIP
      cases hi : isIDB e.peer with
      | false =>
        obtain rfl : z = 2 := by rw [← HZ.out]; exact if_neg (by unfold okE; simp [HKK.out, hi])
        clear hi
        go_wp2
        go_ret
        exact ⟨rfl, FB.out w2 HB2.out⟩
      | true =>
        obtain rfl : z = 0 := by rw [← HZ.out]; exact if_pos (by unfold okE; simp [HKK.out, hi, HD.out, HEX.out.1, HEX.out.2, HS1.out])
        clear hi
        go_wp2
        go_ret
        exact ⟨rfl, FB.out w2 HB2.out⟩
  · have hf1 : f = 2 := by rw [← hF, hkd]; rfl
    subst hf1
    have b1 : bits .and .i64 2 1 = 0 := by decide
    have b2 : bits .and .i64 2 2 = 2 := by decide
    have b4 : bits .and .i64 2 4 = 0 := by decide
    have HKK := Lib.hid hkd
    have c40 := (FR.out w2 HB2.out).cell (i := 40) (En.at40 HK.out)
    clear hF hkd
    by_cases hs0 : e.sid = 0
    · have hs1 : (e.sid == 0) = true := by simpa using hs0
      obtain rfl : z = 2 := by rw [← HZ.out]; exact if_neg (by unfold okE; simp [HKK.out, hs1])
      clear hs0
      go_wp2
      go_ret
      exact ⟨rfl, FB.out w2 HB2.out⟩
    · have hs1 : (e.sid == 0) = false := by simpa using hs0
      obtain rfl : z = 0 := by rw [← HZ.out]; exact if_pos (by unfold okE; simp [HKK.out, HD.out, HEX.out.1, HEX.out.2, hs1])
      clear hs0
      go_wp2
      go_ret
      exact ⟨rfl, FB.out w2 HB2.out⟩
end Go.Proofs.Ytigjbgjjngeinaa.Wir
