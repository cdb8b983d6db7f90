/- wire: pieces of lists of entries; rows of one's own of entries. -/
import Derived.Test.YtedmogacklbcmaaCfgMem
import Derived.Test.YtedmogacklbcmaaCfgCheckOp
import Derived.Test.YtedmogacklbcmaaQuietB
import Derived.Test.YtedmogacklbcmaaCfgSetPeer
import Derived.Test.YtedmogacklbcmaaRdLoop
import Derived.Deep.RegionLaw
namespace Go.Proofs.Ytedmogacklbcmaa.Wir
open Go.RowKit
set_option maxRecDepth 100000 in
theorem mask_any (bit : Int) (is : Bool) (w : World) : Calls Try.prog 68 #[.int .i64 bit, .bool is] w fun e w' => e = .returned (.int .i64 (if is = true then bit else 0)) ∧ w = w' := by
  cases is with
  | false =>
    go_enter Try.func68, Try.ntmps68
    go_wp2
    go_ret
    exact ⟨rfl, rfl⟩
  | true =>
    go_enter Try.func68, Try.ntmps68
    go_wp2
    go_ret
    exact ⟨rfl, rfl⟩
set_option maxRecDepth 100000 in
theorem isPeer_any (x : Int) (w : World) : Calls Try.prog 102 #[.int .i64 x] w fun e w' => e = .returned (.bool (Cfg.isIDB x)) ∧ w = w' := by
  by_cases h1 : (1 : Int) ≤ x
  · by_cases h2 : x ≤ 65536
    · go_enter Try.func102, Try.ntmps102
      go_wp2
      go_ret
      exact ⟨by simp [Cfg.isIDB, h1, h2], rfl⟩
    · go_enter Try.func102, Try.ntmps102
      go_wp2
      go_ret
      exact ⟨by simp [Cfg.isIDB, h1, h2], rfl⟩
  · go_enter Try.func102, Try.ntmps102
    go_wp2
    go_ret
    exact ⟨by simp [Cfg.isIDB]; omega, rfl⟩
/-- The fields of an entry of that kind. -/
def entF (k : Int) : Int := if k = 1 then 1 else if k = 2 then 14 else if k = 3 then 2 else 0
set_option maxRecDepth 100000 in
theorem entryFields_any (k : Int) (w : World) : Calls Try.prog 61 #[.int .i64 k] w fun e w' => e = .returned (.int .i64 (entF k)) ∧ Below w.heap.size w w' := by
  by_cases h1 : k < 1
  · have e : entF k = 0 := by unfold entF; rw [if_neg (by omega), if_neg (by omega), if_neg (by omega)]
    rw [e]
    clear e
    go_enter Try.func61, Try.ntmps61
    go_wp2
    go_ret
    exact ⟨rfl, Below.refl _ _⟩
  · by_cases h2 : 3 < k
    · have e : entF k = 0 := by unfold entF; rw [if_neg (by omega), if_neg (by omega), if_neg (by omega)]
      rw [e]
      clear e
      go_enter Try.func61, Try.ntmps61
      go_wp2
      go_ret
      exact ⟨rfl, Below.refl _ _⟩
    · have h3 : k = 1 ∨ k = 2 ∨ k = 3 := by omega
      clear h1 h2
      rcases h3 with rfl | rfl | rfl
      all_goals
        go_enter Try.func61, Try.ntmps61
        go_wp2
        go_ret
        exact ⟨rfl, by first | exact Below.refl _ _ | exact (Below.refl _ _).alloc (Nat.le_refl _) _⟩
end Go.Proofs.Ytedmogacklbcmaa.Wir
namespace Go.Proofs.Ytedmogacklbcmaa.Wir
open Go.RowKit
/-- The fields of a message of that kind. -/
def msgF (k : Int) : Int := if k = 1 then 11 else if k = 2 then 143 else if k = 3 then 67 else if k = 4 then 16 else if k = 5 then 49 else if k = 6 then 49 else if k = 7 then 263 else 0
set_option maxRecDepth 100000 in
theorem msgFields_any (k : Int) (w : World) : Calls Try.prog 69 #[.int .i64 k] w fun e w' => e = .returned (.int .i64 (msgF k)) ∧ Below w.heap.size w w' := by
  by_cases h1 : k < 1
  · have e : msgF k = 0 := by unfold msgF; repeat rw [if_neg (by omega)]
    rw [e]
    clear e
    go_enter Try.func69, Try.ntmps69
    go_wp2
    go_ret
    exact ⟨rfl, Below.refl _ _⟩
  · by_cases h2 : 7 < k
    · have e : msgF k = 0 := by unfold msgF; repeat rw [if_neg (by omega)]
      rw [e]
      clear e
      go_enter Try.func69, Try.ntmps69
      go_wp2
      go_ret
      exact ⟨rfl, Below.refl _ _⟩
    · have h3 : k = 1 ∨ k = 2 ∨ k = 3 ∨ k = 4 ∨ k = 5 ∨ k = 6 ∨ k = 7 := by omega
      clear h1 h2
      rcases h3 with rfl | rfl | rfl | rfl | rfl | rfl | rfl
      all_goals
        go_enter Try.func69, Try.ntmps69
        go_wp2
        go_ret
        exact ⟨rfl, by first | exact Below.refl _ _ | exact (Below.refl _ _).alloc (Nat.le_refl _) _⟩
end Go.Proofs.Ytedmogacklbcmaa.Wir
namespace Go.Proofs.Ytedmogacklbcmaa.Wir
open Go.RowKit Cfg
structure En where
  kind : Int
  ep : Int
  ix : Int
  op : Opn
  sid : Int
  peer : Int
  sec : List UInt8
  deriving DecidableEq
def En.cs (e : En) : List Value := .int .i64 e.kind :: .int .u32 e.ep :: .int .u64 e.ix :: (e.op.cs ++ (.int .u64 e.sid :: .int .i64 e.peer :: e.sec.map bv))
def En.val (e : En) : Value := .agg e.cs.toArray
/-- Its key and its secret have 32 bytes. -/
def En.K (e : En) : Prop := e.op.ky.length = 32 ∧ e.sec.length = 32
section
variable {e : En}
theorem En.len (h : e.K) : e.cs.length = 74 := by simp [En.cs, Opn.len h.1, h.2]
theorem En.one (e : En) : ∀ v ∈ e.cs, v.oneCell' = true := by
  intro v hv
  simp only [En.cs, List.mem_cons, List.mem_append, List.mem_map] at hv
  rcases hv with rfl | rfl | rfl | hv | rfl | rfl | ⟨u, _, rfl⟩
  · rfl
  · rfl
  · rfl
  · exact e.op.one v hv
  · rfl
  · rfl
  · rfl
theorem En.tail (h : e.K) (i : Nat) : e.cs[40 + i]? = (.int .u64 e.sid :: .int .i64 e.peer :: e.sec.map bv)[i]? := by
  rw [show 40 + i = (37 + i) + 1 + 1 + 1 by omega]
  show (e.op.cs ++ (.int .u64 e.sid :: .int .i64 e.peer :: e.sec.map bv))[37 + i]? = _
  rw [List.getElem?_append_right (by rw [Opn.len h.1]; omega), Opn.len h.1, show 37 + i - 37 = i by omega]
theorem En.at40 (h : e.K) : e.cs[40]? = some (.int .u64 e.sid) := En.tail h 0
theorem En.at41 (h : e.K) : e.cs[41]? = some (.int .i64 e.peer) := En.tail h 1
theorem En.opat (h : e.K) : (e.cs.drop 3).take 37 = e.op.cs := by
  show (e.op.cs ++ (.int .u64 e.sid :: .int .i64 e.peer :: e.sec.map bv)).take 37 = _
  rw [List.take_append_of_le_length (by rw [Opn.len h.1]; omega), List.take_of_length_le (by rw [Opn.len h.1]; omega)]
theorem En.secat (h : e.K) : (e.cs.drop 42).take 32 = e.sec.map bv := by
  have : e.cs.drop 42 = e.sec.map bv := by
    show (e.op.cs ++ (.int .u64 e.sid :: .int .i64 e.peer :: e.sec.map bv)).drop 39 = _
    rw [List.drop_append, List.drop_of_length_le (by rw [Opn.len h.1]; omega), Opn.len h.1]
    rfl
  rw [this, List.take_of_length_le (by rw [List.length_map, h.2]; omega)]
variable {w : World} {g : Nat}
theorem l_ent (h : Row w g e.cs 49) (hk : e.K) : (loadVar 49 ⟨g, 0, none⟩).run Try.prog w = .ok e.val w := by
  rw [Pol.run_loadVar_sub (off := 0) (n := 74) w h Try.underlying49 rfl (by kernel_rfl) (by rw [En.len hk]; omega), List.drop_zero, List.take_of_length_le (by rw [En.len hk]; omega)]
  rfl
theorem l_entop (h : Row w g e.cs 49) (hk : e.K) : (loadVar 30 ⟨g, 3, none⟩).run Try.prog w = .ok e.op.val w := by
  rw [Pol.run_loadVar_sub (off := 3) (n := 37) w h Try.underlying30 rfl (by kernel_rfl) (by rw [En.len hk]; omega), En.opat hk]
  rfl
theorem l_entsec (h : Row w g e.cs 49) (hk : e.K) : (loadVar 27 ⟨g, 42, none⟩).run Try.prog w = .ok (arr8 e.sec) w := by
  rw [Pol.run_loadVar_sub (off := 42) (n := 32) w h Try.underlying27 rfl (by kernel_rfl) (by rw [En.len hk]; omega), En.secat hk]
  rfl
end
def zen : En := ⟨0, 0, 0, zop 0 0, 0, 0, zkey⟩
theorem zen_K : zen.K := ⟨zkey_len, zkey_len⟩
end Go.Proofs.Ytedmogacklbcmaa.Wir
namespace Go.Proofs.Ytedmogacklbcmaa
namespace QB
open Go.RowKit
section
variable {P : Program} {ops : Array Oper} {C : World → Prop} {Q : Act → Prop} {a : Act} {o : Oper} {rest : List Oper}
theorem bd' (hw : Region.wanted o (yielded ops a.tmps) = true) (t : TypeId) (parts : Array (Nat × Operand)) (ho : o.op = .build t parts) {ps : Array (Nat × Value)} (hp : (parts.map fun (i, x) => (i, a.eval x)) = ps) {v : Value} {a' : Act} (hrun : ∀ w', C w' → (Instr.build t ps).run P w' = .ok v w') (ha : a.put o.dst v = a') (hk : WQ P ops C Q rest a') : WQ P ops C Q (o :: rest) a := by
  refine val' hw (fun w' hw' => ?_) ha hk
  unfold execOp
  simp only [ho, hp, Sem.run_bind, Sem.run_pure, Result.andThen_ok, hrun w' hw']
theorem eq' (hw : Region.wanted o (yielded ops a.tmps) = true) (op : BinOp) (t t2 : TypeId) (x y : Operand) (ho : o.op = .binOp op t x y t2) {vx vy v : Value} (hx : a.eval x = vx) (hy : a.eval y = vy) {a' : Act} (hg : ∀ w', (eqGuard op t x y vx vy).run P w' = .ok () w') (hb : ∀ w', (binOp op t vx vy).run P w' = .ok v w') (ha : a.put o.dst v = a') (hk : WQ P ops C Q rest a') : WQ P ops C Q (o :: rest) a := by
  refine val' hw (v := v) (fun w' hw' => ?_) ha hk
  unfold execOp
  simp only [ho, hx, hy, Sem.run_bind, Sem.run_pure, Result.andThen_ok, hg, hb]
end
end QB
namespace Wir
open Go.RowKit Cfg
theorem mixed : Try.prog.follows .mixedOrders = true := Cfg.mixed
set_option maxRecDepth 100000 in
theorem build_opw (w : World) : (Instr.build 30 #[]).run Try.prog w = .ok (zop 0 0).val w := by kernel_rfl
theorem g_a32 : Try.prog.eqGuardType Try.prog.depth 27 = false := by kernel_rfl
theorem eq_a32 (x y : List UInt8) (hx : x.length = 32) (hy : y.length = 32) (w : World) : (Op.equal 27 (arr8 x) (arr8 y)).run Try.prog w = .ok (decide (x = y)) w := run_eql_arr8 Try.underlying27 Try.underlying5 (by kernel_rfl) x y hx hy w
set_option maxRecDepth 100000 in
theorem build_a0 (w : World) : (Instr.build 27 #[]).run Try.prog w = .ok (arr8 zkey) w := by kernel_rfl
def mk (bit : Int) (b : Bool) : Int := if b = true then bit else 0
/-- The bits of the fields that are not zero. -/
def usedZ (e : En) : Int := bits .or .i64 (bits .or .i64 (bits .or .i64 (mk 1 (!decide (e.op = zop 0 0))) (mk 2 (e.sid != 0))) (mk 4 (e.peer != 0))) (mk 8 (!decide (e.sec = zkey)))
set_option maxRecDepth 100000 in
set_option maxHeartbeats 2000000 in
theorem entryUsed_any (e : En) (hk : e.K) (w : World) : Calls Try.prog 101 #[e.val] w fun r w' => r = .returned (.int .i64 (usedZ e)) ∧ Below w.heap.size w w' := by
  obtain ⟨W, hW⟩ : ∃ W, w.alloc (.cells e.cs.toArray 49) = W := ⟨_, rfl⟩
  have hr : Row W w.heap.size e.cs 49 := hW ▸ Row.new rfl rfl
  have hb : Below w.heap.size w W := hW ▸ (Below.refl _ w).alloc (Nat.le_refl _) _
  have HB := Lib.hid hb
  have HR := Lib.hid hr
  have HK := Lib.hid hk
  clear hr hb hk
  unfold En.val
  go_enter Try.func101, Try.ntmps101
  go_wp2_with fail
  clear hW
  have FR := Lib.hid (fun w' (h : Below W.heap.size W w') => HR.out.below h HR.out.lt)
  refine QB.region' mixed (by kernel_rfl) ?_
  refine QB.val' (v := ?_) (a' := ?_) (by kernel_rfl) (fun w' hw' => ?_) ?_ ?_
  rotate_left 2
  · go_simp <;> rfl
  · simp only [Act.put, List.setIfInBounds_toArray, List.set_cons_succ, List.set_cons_zero]; rfl
  refine QB.ld' (v := e.op.val) (a' := ?_) (by kernel_rfl) 30 rfl rfl (fun w' hw' => l_entop (FR.out w' hw') HK.out) ?_ ?_
  rotate_left
  · simp only [Act.put, List.setIfInBounds_toArray, List.set_cons_succ, List.set_cons_zero]; rfl
  refine QB.bd' (v := (zop 0 0).val) (a' := ?_) (by kernel_rfl) 30 #[] rfl (ps := #[]) (by kernel_rfl) (fun w' _ => build_opw w') ?_ ?_
  rotate_left
  · simp only [Act.put, List.setIfInBounds_toArray, List.set_cons_succ, List.set_cons_zero]; rfl
  refine QB.eq' (v := .bool (!decide (e.op = zop 0 0))) (a' := ?_) (by kernel_rfl) .neq 30 _ _ _ rfl (vx := e.op.val) (vy := (zop 0 0).val) rfl rfl (fun w' => guard_of g_op _ _ _ _ _ _) (fun w' => neq_of (eq_op e.op (zop 0 0) HK.out.1 zkey_len w')) ?_ ?_
  rotate_left
  · simp only [Act.put, List.setIfInBounds_toArray, List.set_cons_succ, List.set_cons_zero]; rfl
  refine QB.call' (f := 68) (args := #[.int .i64 1, .bool (!decide (e.op = zop 0 0))]) (v := .int .i64 (mk 1 (!decide (e.op = zop 0 0)))) (a' := ?_) (by kernel_rfl) (fun w' hw' => ?_) (fun w' hw' => (mask_any 1 (!decide (e.op = zop 0 0)) w').mono fun _ _ ⟨h1, h2⟩ => ⟨h1, h2 ▸ hw'⟩) ?_ ?_
  rotate_left
  · go_simp <;> rfl
  · simp only [Act.put, List.setIfInBounds_toArray, List.set_cons_succ, List.set_cons_zero]; rfl
  refine QB.val' (v := ?_) (a' := ?_) (by kernel_rfl) (fun w' hw' => ?_) ?_ ?_
  rotate_left 2
  · go_simp <;> rfl
  · simp only [Act.put, List.setIfInBounds_toArray, List.set_cons_succ, List.set_cons_zero]; rfl
  refine QB.val' (v := ?_) (a' := ?_) (by kernel_rfl) (fun w' hw' => ?_) ?_ ?_
  rotate_left 2
  · go_simp <;> rfl
  · simp only [Act.put, List.setIfInBounds_toArray, List.set_cons_succ, List.set_cons_zero]; rfl
  refine QB.val' (v := ?_) (a' := ?_) (by kernel_rfl) (fun w' hw' => ?_) ?_ ?_
  rotate_left 2
  · have c40 := (FR.out w' hw').cell (i := 40) (En.at40 HK.out); go_simp <;> rfl
  · simp only [Act.put, List.setIfInBounds_toArray, List.set_cons_succ, List.set_cons_zero]; rfl
  refine QB.val' (v := ?_) (a' := ?_) (by kernel_rfl) (fun w' hw' => ?_) ?_ ?_
  rotate_left 2
  · go_simp <;> rfl
  · simp only [Act.put, List.setIfInBounds_toArray, List.set_cons_succ, List.set_cons_zero]; rfl
  refine QB.call' (f := 68) (args := #[.int .i64 2, .bool (e.sid != 0)]) (v := .int .i64 (mk 2 (e.sid != 0))) (a' := ?_) (by kernel_rfl) (fun w' hw' => ?_) (fun w' hw' => (mask_any 2 (e.sid != 0) w').mono fun _ _ ⟨h1, h2⟩ => ⟨h1, h2 ▸ hw'⟩) ?_ ?_
  rotate_left
  · go_simp <;> rfl
  · simp only [Act.put, List.setIfInBounds_toArray, List.set_cons_succ, List.set_cons_zero]; rfl
  refine QB.val' (v := ?_) (a' := ?_) (by kernel_rfl) (fun w' hw' => ?_) ?_ ?_
  rotate_left 2
  · go_simp <;> rfl
  · simp only [Act.put, List.setIfInBounds_toArray, List.set_cons_succ, List.set_cons_zero]; rfl
  refine QB.val' (v := ?_) (a' := ?_) (by kernel_rfl) (fun w' hw' => ?_) ?_ ?_
  rotate_left 2
  · go_simp <;> rfl
  · simp only [Act.put, List.setIfInBounds_toArray, List.set_cons_succ, List.set_cons_zero]; rfl
  refine QB.val' (v := ?_) (a' := ?_) (by kernel_rfl) (fun w' hw' => ?_) ?_ ?_
  rotate_left 2
  · go_simp <;> rfl
  · simp only [Act.put, List.setIfInBounds_toArray, List.set_cons_succ, List.set_cons_zero]; rfl
  refine QB.val' (v := ?_) (a' := ?_) (by kernel_rfl) (fun w' hw' => ?_) ?_ ?_
  rotate_left 2
  · have c41 := (FR.out w' hw').cell (i := 41) (En.at41 HK.out); go_simp <;> rfl
  · simp only [Act.put, List.setIfInBounds_toArray, List.set_cons_succ, List.set_cons_zero]; rfl
  refine QB.val' (v := ?_) (a' := ?_) (by kernel_rfl) (fun w' hw' => ?_) ?_ ?_
  rotate_left 2
  · go_simp <;> rfl
  · simp only [Act.put, List.setIfInBounds_toArray, List.set_cons_succ, List.set_cons_zero]; rfl
  refine QB.call' (f := 68) (args := #[.int .i64 4, .bool (e.peer != 0)]) (v := .int .i64 (mk 4 (e.peer != 0))) (a' := ?_) (by kernel_rfl) (fun w' hw' => ?_) (fun w' hw' => (mask_any 4 (e.peer != 0) w').mono fun _ _ ⟨h1, h2⟩ => ⟨h1, h2 ▸ hw'⟩) ?_ ?_
  rotate_left
  · go_simp <;> rfl
  · simp only [Act.put, List.setIfInBounds_toArray, List.set_cons_succ, List.set_cons_zero]; rfl
  refine QB.val' (v := ?_) (a' := ?_) (by kernel_rfl) (fun w' hw' => ?_) ?_ ?_
  rotate_left 2
  · go_simp <;> rfl
  · simp only [Act.put, List.setIfInBounds_toArray, List.set_cons_succ, List.set_cons_zero]; rfl
  refine QB.val' (v := ?_) (a' := ?_) (by kernel_rfl) (fun w' hw' => ?_) ?_ ?_
  rotate_left 2
  · go_simp <;> rfl
  · simp only [Act.put, List.setIfInBounds_toArray, List.set_cons_succ, List.set_cons_zero]; rfl
  refine QB.val' (v := ?_) (a' := ?_) (by kernel_rfl) (fun w' hw' => ?_) ?_ ?_
  rotate_left 2
  · go_simp <;> rfl
  · simp only [Act.put, List.setIfInBounds_toArray, List.set_cons_succ, List.set_cons_zero]; rfl
  refine QB.ld' (v := arr8 e.sec) (a' := ?_) (by kernel_rfl) 27 rfl rfl (fun w' hw' => l_entsec (FR.out w' hw') HK.out) ?_ ?_
  rotate_left
  · simp only [Act.put, List.setIfInBounds_toArray, List.set_cons_succ, List.set_cons_zero]; rfl
  refine QB.bd' (v := arr8 zkey) (a' := ?_) (by kernel_rfl) 27 #[] rfl (ps := #[]) (by kernel_rfl) (fun w' _ => build_a0 w') ?_ ?_
  rotate_left
  · simp only [Act.put, List.setIfInBounds_toArray, List.set_cons_succ, List.set_cons_zero]; rfl
  refine QB.eq' (v := .bool (!decide (e.sec = zkey))) (a' := ?_) (by kernel_rfl) .neq 27 _ _ _ rfl (vx := arr8 e.sec) (vy := arr8 zkey) rfl rfl (fun w' => guard_of g_a32 _ _ _ _ _ _) (fun w' => neq_of (eq_a32 e.sec zkey HK.out.2 zkey_len w')) ?_ ?_
  rotate_left
  · simp only [Act.put, List.setIfInBounds_toArray, List.set_cons_succ, List.set_cons_zero]; rfl
  refine QB.call' (f := 68) (args := #[.int .i64 8, .bool (!decide (e.sec = zkey))]) (v := .int .i64 (mk 8 (!decide (e.sec = zkey)))) (a' := ?_) (by kernel_rfl) (fun w' hw' => ?_) (fun w' hw' => (mask_any 8 (!decide (e.sec = zkey)) w').mono fun _ _ ⟨h1, h2⟩ => ⟨h1, h2 ▸ hw'⟩) ?_ ?_
  rotate_left
  · go_simp <;> rfl
  · simp only [Act.put, List.setIfInBounds_toArray, List.set_cons_succ, List.set_cons_zero]; rfl
  refine QB.val' (v := ?_) (a' := ?_) (by kernel_rfl) (fun w' hw' => ?_) ?_ ?_
  rotate_left 2
  · go_simp <;> rfl
  · simp only [Act.put, List.setIfInBounds_toArray, List.set_cons_succ, List.set_cons_zero]; rfl
  refine QB.val' (v := ?_) (a' := ?_) (by kernel_rfl) (fun w' hw' => ?_) ?_ ?_
  rotate_left 2
  · go_simp <;> rfl
  · simp only [Act.put, List.setIfInBounds_toArray, List.set_cons_succ, List.set_cons_zero]; rfl
  refine QB.nil' fun w' hw' => ?_
  have HW' := Lib.hid hw'
  clear hw'
  go_wp2
  go_ret
  exact ⟨rfl, HB.out.trans (HW'.out.mono HB.out.size)⟩
end Wir
end Go.Proofs.Ytedmogacklbcmaa
namespace Go.Proofs.Ytedmogacklbcmaa.Wir
open Go.RowKit Cfg
def notZ (e : En) : Int := bits .andNot .i64 (usedZ e) (entF e.kind)
/-- Is an entry valid? -/
def okE (e : En) : Bool := (decide (e.kind = 1) || decide (e.kind = 2) || decide (e.kind = 3)) && (notZ e == 0) && !(e.ep == 0) && !(e.ix == 0) && (decide (e.kind ≠ 1) || okO e.op) && (decide (e.kind = 1) || !(e.sid == 0)) && (decide (e.kind ≠ 2) || isIDB e.peer)
def checkEntZ (e : En) : Int := if okE e = true then 0 else 2
set_option maxRecDepth 100000 in
set_option maxHeartbeats 4000000 in
theorem CheckEntry_any (e : En) (hk : e.K) (w : World) : Calls Try.prog 64 #[e.val] w fun r w' => r = .returned (.int .i64 (checkEntZ e)) ∧ Below w.heap.size w w' := by
  obtain ⟨z, hz⟩ : ∃ z, checkEntZ e = z := ⟨_, rfl⟩
  rw [hz]
  obtain ⟨W, hW⟩ : ∃ W, w.alloc (.cells e.cs.toArray 49) = W := ⟨_, rfl⟩
  have hr : Row W w.heap.size e.cs 49 := hW ▸ Row.new rfl rfl
  have hb : Below w.heap.size w W := hW ▸ (Below.refl _ w).alloc (Nat.le_refl _) _
  have HZ := Lib.hid hz
  have HB := Lib.hid hb
  have HR := Lib.hid hr
  have HK := Lib.hid hk
  have c0 := hr.cell (i := 0) rfl
  clear hr hb hk hz
  have FR := Lib.hid (fun w' (h : Below W.heap.size W w') => HR.out.below h HR.out.lt)
  have FB := Lib.hid (fun w' (h : Below W.heap.size W w') => show Below w.heap.size w w' from HB.out.trans (h.mono HB.out.size))
  obtain ⟨ev, hev⟩ : ∃ ev, e.val = ev := ⟨_, rfl⟩
  have HLE := Lib.hid (fun w' (h : Below W.heap.size W w') => show (loadVar 49 ⟨w.heap.size, 0, none⟩).run Try.prog w' = .ok ev w' from hev ▸ l_ent (FR.out w' h) HK.out)
  have HUS := Lib.hid (fun (w' : World) => show Calls Try.prog (101) #[ev] w' _ from hev ▸ entryUsed_any e HK.out w')
  clear hev
  unfold En.val
  go_enter Try.func64, Try.ntmps64
  go_wp2_with fail
  clear hW c0
  refine (entryFields_any e.kind W).mono ?_
  rintro r w1 ⟨rfl, hb1⟩
  have HB1 := Lib.hid hb1
  clear hb1
  by_cases hkind : ¬ (e.kind = 1 ∨ e.kind = 2 ∨ e.kind = 3)
  · obtain rfl : z = 2 := by
      rw [← HZ.out]
      refine if_neg ?_
      unfold okE
      simp only [not_or] at hkind
      simp [hkind]
    rw [show entF e.kind = 0 by unfold entF; rw [if_neg (by omega), if_neg (by omega), if_neg (by omega)]]
    clear hkind
    go_wp2
    go_ret
    exact ⟨rfl, FB.out w1 HB1.out⟩
  have hkind' : e.kind = 1 ∨ e.kind = 2 ∨ e.kind = 3 := Classical.not_not.1 hkind
  clear hkind
  have HL1 := Lib.hid (HLE.out w1 HB1.out)
  obtain ⟨f, hf⟩ : ∃ f, entF e.kind = f := ⟨_, rfl⟩
  have hf0 : (f == 0) = false := by rw [← hf]; rcases hkind' with h | h | h <;> rw [h] <;> rfl
  rw [hf]
  have HKD := Lib.hid hkind'
  have HF := Lib.hid hf
  clear hkind' hf
  go_wp2_with (first | (refine QB.wpList_ld 49 rfl rfl HL1.out (by kernel_rfl) ?_; clear HL1) | fail)
  refine (HUS.out w1).mono ?_
  rintro r w2 ⟨rfl, hb2⟩
  have HB2 := Lib.hid (show Below W.heap.size W w2 from nextB HB1.out (Nat.le_refl _) hb2)
  have c1 := (FR.out w2 HB2.out).cell (i := 1) rfl
  have c2 := (FR.out w2 HB2.out).cell (i := 2) rfl
  clear hb2 hf0
  obtain ⟨d, hd⟩ : ∃ d, bits .andNot .i64 (usedZ e) f = d := ⟨_, rfl⟩
  have HD := Lib.hid (show notZ e = d by unfold notZ; rw [HF.out, hd])
  by_cases hd0 : d = 0
  case neg =>
    have hd1 : (d == 0) = false := by simpa using hd0
    have hd2 : (d != 0) = true := by simpa using hd0
    obtain rfl : z = 2 := by rw [← HZ.out]; exact if_neg (by unfold okE; simp [HD.out, hd1])
    clear hd0
    go_wp2
    go_ret
    exact ⟨rfl, FB.out w2 HB2.out⟩
  case pos =>
  subst hd0
  by_cases he0 : e.ep = 0
  case pos =>
    have he1 : (e.ep == 0) = true := by simpa using he0
    obtain rfl : z = 2 := by rw [← HZ.out]; exact if_neg (by unfold okE; simp [he1])
    clear he0
    go_wp2
    go_ret
    exact ⟨rfl, FB.out w2 HB2.out⟩
  case neg =>
  have he1 : (e.ep == 0) = false := by simpa using he0
  by_cases hx0 : e.ix = 0
  case pos =>
    have hx1 : (e.ix == 0) = true := by simpa using hx0
    obtain rfl : z = 2 := by rw [← HZ.out]; exact if_neg (by unfold okE; simp [hx1])
    clear he0 hx0
    go_wp2
    go_ret
    exact ⟨rfl, FB.out w2 HB2.out⟩
  case neg =>
  have hx1 : (e.ix == 0) = false := by simpa using hx0
  have HEX := Lib.hid (And.intro he1 hx1)
  clear he0 hx0
  have hF := HF.out
  rcases HKD.out with hkd | hkd | hkd
  · have hf1 : f = 1 := by rw [← hF, hkd]; rfl
    subst hf1
    have b1 : bits .and .i64 1 1 = 1 := by decide
    have b2 : bits .and .i64 1 2 = 0 := by decide
    have b4 : bits .and .i64 1 4 = 0 := by decide
    have HKK := Lib.hid hkd
    obtain ⟨ov, hov⟩ : ∃ ov, e.op.val = ov := ⟨_, rfl⟩
    have HLO := Lib.hid (show (loadVar 30 ⟨w.heap.size, 3, none⟩).run Try.prog w2 = .ok ov w2 from hov ▸ l_entop (FR.out w2 HB2.out) HK.out)
    have HCO := Lib.hid (show Calls Try.prog 56 #[ov] w2 _ from hov ▸ CheckOp_any e.op HK.out.1 w2)
    clear hF hkd hov
    go_wp2_with (first | (refine QB.wpList_ld 30 rfl rfl HLO.out (by kernel_rfl) ?_; clear HLO) | fail)
    refine HCO.out.mono ?_
    rintro r w3 ⟨rfl, hb3⟩
    have HB3 := Lib.hid (show Below W.heap.size W w3 from nextB HB2.out (Nat.le_refl _) hb3)
    clear hb3 c1 c2 HCO
    cases ho : okO e.op with
    | false =>
      obtain rfl : z = 2 := by rw [← HZ.out]; exact if_neg (by unfold okE; simp [HKK.out, ho])
      rw [show checkOpZ e.op = 2 from if_neg (by rw [ho]; decide)]
      clear ho
      go_wp2
      go_ret
      exact ⟨rfl, FB.out w3 HB3.out⟩
    | true =>
      obtain rfl : z = 0 := by rw [← HZ.out]; exact if_pos (by unfold okE; simp [HKK.out, ho, HD.out, HEX.out.1, HEX.out.2])
      rw [show checkOpZ e.op = 0 from if_pos ho]
      clear ho
      go_wp2
      go_ret
      exact ⟨rfl, FB.out w3 HB3.out⟩
  · have hf1 : f = 14 := by rw [← hF, hkd]; rfl
    subst hf1
    have b1 : bits .and .i64 14 1 = 0 := by decide
    have b2 : bits .and .i64 14 2 = 2 := by decide
    have b4 : bits .and .i64 14 4 = 4 := by decide
    have HKK := Lib.hid hkd
    have c40 := (FR.out w2 HB2.out).cell (i := 40) (En.at40 HK.out)
    have c41 := (FR.out w2 HB2.out).cell (i := 41) (En.at41 HK.out)
    clear hF hkd
    by_cases hs0 : e.sid = 0
    · have hs1 : (e.sid == 0) = true := by simpa using hs0
      obtain rfl : z = 2 := by rw [← HZ.out]; exact if_neg (by unfold okE; simp [HKK.out, hs1])
      clear hs0
      go_wp2
      go_ret
      exact ⟨rfl, FB.out w2 HB2.out⟩
    · have hs1 : (e.sid == 0) = false := by simpa using hs0
      have HS1 := Lib.hid hs1
      clear hs0
      have HIP := Lib.hid (isPeer_any e.peer w2)
      go_wp2_with fail
      refine HIP.out.mono ?_
      rintro r w3 ⟨rfl, rfl⟩
      clear HIP
      cases hi : isIDB e.peer with
      | false =>
        obtain rfl : z = 2 := by rw [← HZ.out]; exact if_neg (by unfold okE; simp [HKK.out, hi])
        clear hi
        go_wp2
        go_ret
        exact ⟨rfl, FB.out w2 HB2.out⟩
      | true =>
        obtain rfl : z = 0 := by rw [← HZ.out]; exact if_pos (by unfold okE; simp [HKK.out, hi, HD.out, HEX.out.1, HEX.out.2, HS1.out])
        clear hi
        go_wp2
        go_ret
        exact ⟨rfl, FB.out w2 HB2.out⟩
  · have hf1 : f = 2 := by rw [← hF, hkd]; rfl
    subst hf1
    have b1 : bits .and .i64 2 1 = 0 := by decide
    have b2 : bits .and .i64 2 2 = 2 := by decide
    have b4 : bits .and .i64 2 4 = 0 := by decide
    have HKK := Lib.hid hkd
    have c40 := (FR.out w2 HB2.out).cell (i := 40) (En.at40 HK.out)
    clear hF hkd
    by_cases hs0 : e.sid = 0
    · have hs1 : (e.sid == 0) = true := by simpa using hs0
      obtain rfl : z = 2 := by rw [← HZ.out]; exact if_neg (by unfold okE; simp [HKK.out, hs1])
      clear hs0
      go_wp2
      go_ret
      exact ⟨rfl, FB.out w2 HB2.out⟩
    · have hs1 : (e.sid == 0) = false := by simpa using hs0
      obtain rfl : z = 0 := by rw [← HZ.out]; exact if_pos (by unfold okE; simp [HKK.out, HD.out, HEX.out.1, HEX.out.2, hs1])
      clear hs0
      go_wp2
      go_ret
      exact ⟨rfl, FB.out w2 HB2.out⟩
end Go.Proofs.Ytedmogacklbcmaa.Wir
namespace Go.Proofs.Ytedmogacklbcmaa.Wir
open Go.RowKit Cfg
structure Ms where
  kind : Int
  ep : Int
  ix : Int
  prev : Int
  upto : Int
  ref : Int
  node : Int
  is : Bool
  es : List En
  body : List UInt8
def Ms.cs (m : Ms) (ve vb : Value) : List Value := [.int .i64 m.kind, .int .u32 m.ep, .int .u64 m.ix, .int .u32 m.prev, .int .u64 m.upto, .int .u64 m.ref, .int .i64 m.node, .bool m.is, ve, vb]
def ecs (l : List En) : List Value := l.flatMap En.cs
/-- A slice of entries. -/
def ETab (w : World) (B : Nat) (v : Value) (l : List En) : Prop := (∀ e ∈ l, e.K) ∧ Tab 74 w B v l.length (ecs l)
theorem ETab.below {w w' : World} {B : Nat} {v : Value} {l : List En} (h : ETab w B v l) (hb : Below B w w') : ETab w' B v l := ⟨h.1, h.2.below hb⟩
theorem ETab.more {w : World} {B B' : Nat} {v : Value} {l : List En} (h : ETab w B v l) (hB : B ≤ B') : ETab w B' v l := ⟨h.1, h.2.more hB⟩
theorem ecs_one (l : List En) : ∀ v ∈ ecs l, v.oneCell' = true := by
  intro v hv
  obtain ⟨m, _, h⟩ := List.mem_flatMap.1 hv
  exact m.one v h
theorem ETab.at {w : World} {B : Nat} {A : Option Addr} {n c : Nat} {l : List En} (h : ETab w B (.slice A n c) l) {i : Nat} {m : En} (hm : l[i]? = some m) :
    ∃ b off, A = some ⟨b, off, none⟩ ∧ b < B ∧ (∀ j x, m.cs[j]? = some x → w.cell? ⟨b, off + i * 74 + j, none⟩ = some x) ∧ (loadVar 49 ⟨b, off + i * 74, none⟩).run Try.prog w = .ok m.val w := by
  obtain ⟨hk, ht⟩ := h
  have hn : n = l.length := by obtain ⟨_, _, e, _⟩ := ht; simp only [Value.slice.injEq] at e; exact e.2.1
  subst hn
  have hlt := (List.getElem?_eq_some_iff.1 hm).1
  obtain ⟨b, off, rfl, hb, hc⟩ := ht.piece (i := i) (m := 1) (by omega) (by decide)
  unfold ecs at hc
  rw [flat_at En.cs 74 (fun e he => En.len (hk e he)) hm] at hc
  exact ⟨b, off, rfl, hb, hc, run_loadVar_cells w Try.underlying49 rfl (by kernel_rfl) (En.len (hk m (List.mem_of_getElem? hm))) hc⟩
/-- A message's slices. -/
structure MAt (w : World) (B : Nat) (ve vb : Value) (m : Ms) : Prop where
  es : ETab w B ve m.es
  body : Bs w B vb m.body
theorem MAt.below {w w' : World} {B : Nat} {ve vb : Value} {m : Ms} (h : MAt w B ve vb m) (hb : Below B w w') : MAt w' B ve vb m := ⟨h.es.below hb, h.body.below hb⟩
theorem MAt.more {w : World} {B B' : Nat} {ve vb : Value} {m : Ms} (h : MAt w B ve vb m) (hB : B ≤ B') : MAt w B' ve vb m := ⟨h.es.more hB, h.body.more hB⟩
theorem MAt.shape {w : World} {B : Nat} {ve vb : Value} {m : Ms} (h : MAt w B ve vb m) : ∃ A1 n1 A2 n2, ve = .slice A1 m.es.length n1 ∧ vb = .slice A2 m.body.length n2 ∧ m.es.length ≤ n1 ∧ m.body.length ≤ n2 := by
  obtain ⟨A1, n1, e1, l1⟩ := h.es.2.shape
  obtain ⟨A2, n2, e2, l2, _⟩ := h.body
  exact ⟨A1, n1, A2, n2, e1, e2, l1, l2⟩
/-! ### what is valid -/
/-- Do entries continue from an index and an epoch, up to an epoch? -/
def rowsB (top i p : Int) : List En → Bool
  | [] => true
  | e :: r => okE e && decide (e.ix = i + 1) && decide (p ≤ e.ep) && decide (e.ep ≤ top) && rowsB top e.ix e.ep r
def contB (m : Ms) : Bool := decide (m.ix ≤ 4611686018427387904) && rowsB m.ep m.ix m.prev m.es
def usedMZ (m : Ms) : Int := bits .or .i64 (bits .or .i64 (bits .or .i64 (bits .or .i64 (bits .or .i64 (bits .or .i64 (bits .or .i64 (bits .or .i64 (mk 1 (m.ep != 0)) (mk 2 (m.ix != 0))) (mk 4 (m.prev != 0))) (mk 8 (m.upto != 0))) (mk 16 (m.ref != 0))) (mk 32 (m.node != 0))) (mk 64 m.is)) (mk 128 ((m.es.length : Int) != 0))) (mk 256 ((m.body.length : Int) != 0))
def notMZ (m : Ms) : Int := bits .andNot .i64 (usedMZ m) (msgF m.kind)
def isNodeB (m : Ms) : Bool := decide ((if m.kind = 6 then 0 else 1) ≤ m.node) && decide (m.node ≤ 2)
def okM (m : Ms) : Bool := decide (1 ≤ m.kind) && decide (m.kind ≤ 7) && (notMZ m == 0) && ((bits .and .i64 (msgF m.kind) 32 == 0) || isNodeB m) && ((bits .and .i64 (msgF m.kind) 128 == 0) || contB m)
def checkMZ (m : Ms) : Int := if 32 < m.es.length ∨ 1048576 < m.body.length then 3 else if okM m = true then 0 else 2
end Go.Proofs.Ytedmogacklbcmaa.Wir
namespace Go.Proofs.Ytedmogacklbcmaa.Wir
open Go.RowKit Cfg
set_option maxRecDepth 100000 in
set_option maxHeartbeats 4000000 in
theorem msgUsed_any (m : Ms) (A1 A2 : Option Addr) (n1 n2 : Nat) (w : World) : Calls Try.prog 70 #[.agg (m.cs (.slice A1 m.es.length n1) (.slice A2 m.body.length n2)).toArray] w fun r w' => r = .returned (.int .i64 (usedMZ m)) ∧ Below w.heap.size w w' := by
  obtain ⟨cs, hcs⟩ : ∃ cs, m.cs (.slice A1 m.es.length n1) (.slice A2 m.body.length n2) = cs := ⟨_, rfl⟩
  rw [hcs]
  obtain ⟨W, hW⟩ : ∃ W, w.alloc (.cells cs.toArray 52) = W := ⟨_, rfl⟩
  have hr : Row W w.heap.size cs 52 := hW ▸ Row.new rfl rfl
  have hb : Below w.heap.size w W := hW ▸ (Below.refl _ w).alloc (Nat.le_refl _) _
  have HB := Lib.hid hb
  have HR := Lib.hid hr
  clear hr hb
  go_enter Try.func70, Try.ntmps70
  go_wp2_with fail
  clear hW
  have FR := Lib.hid (fun w' (h : Below W.heap.size W w') => show Row w' w.heap.size (m.cs (.slice A1 m.es.length n1) (.slice A2 m.body.length n2)) 52 from hcs ▸ HR.out.below h HR.out.lt)
  clear hcs
  refine QB.region' mixed (by kernel_rfl) ?_
  refine QB.val' (v := ?_) (a' := ?_) (by kernel_rfl) (fun w' hw' => ?_) ?_ ?_
  rotate_left 2
  · go_simp <;> rfl
  · simp only [Act.put, List.setIfInBounds_toArray, List.set_cons_succ, List.set_cons_zero]; rfl
  refine QB.val' (v := ?_) (a' := ?_) (by kernel_rfl) (fun w' hw' => ?_) ?_ ?_
  rotate_left 2
  · have c := (FR.out w' hw').cell (i := 1) rfl; go_simp <;> rfl
  · simp only [Act.put, List.setIfInBounds_toArray, List.set_cons_succ, List.set_cons_zero]; rfl
  refine QB.val' (v := ?_) (a' := ?_) (by kernel_rfl) (fun w' hw' => ?_) ?_ ?_
  rotate_left 2
  · go_simp <;> rfl
  · simp only [Act.put, List.setIfInBounds_toArray, List.set_cons_succ, List.set_cons_zero]; rfl
  refine QB.call' (f := 68) (args := #[.int .i64 1, .bool (m.ep != 0)]) (v := .int .i64 (mk 1 (m.ep != 0))) (a' := ?_) (by kernel_rfl) (fun w' hw' => ?_) (fun w' hw' => (mask_any 1 (m.ep != 0) w').mono fun _ _ ⟨h1, h2⟩ => ⟨h1, h2 ▸ hw'⟩) ?_ ?_
  rotate_left
  · go_simp <;> rfl
  · simp only [Act.put, List.setIfInBounds_toArray, List.set_cons_succ, List.set_cons_zero]; rfl
  refine QB.val' (v := ?_) (a' := ?_) (by kernel_rfl) (fun w' hw' => ?_) ?_ ?_
  rotate_left 2
  · go_simp <;> rfl
  · simp only [Act.put, List.setIfInBounds_toArray, List.set_cons_succ, List.set_cons_zero]; rfl
  refine QB.val' (v := ?_) (a' := ?_) (by kernel_rfl) (fun w' hw' => ?_) ?_ ?_
  rotate_left 2
  · have c := (FR.out w' hw').cell (i := 2) rfl; go_simp <;> rfl
  · simp only [Act.put, List.setIfInBounds_toArray, List.set_cons_succ, List.set_cons_zero]; rfl
  refine QB.val' (v := ?_) (a' := ?_) (by kernel_rfl) (fun w' hw' => ?_) ?_ ?_
  rotate_left 2
  · go_simp <;> rfl
  · simp only [Act.put, List.setIfInBounds_toArray, List.set_cons_succ, List.set_cons_zero]; rfl
  refine QB.call' (f := 68) (args := #[.int .i64 2, .bool (m.ix != 0)]) (v := .int .i64 (mk 2 (m.ix != 0))) (a' := ?_) (by kernel_rfl) (fun w' hw' => ?_) (fun w' hw' => (mask_any 2 (m.ix != 0) w').mono fun _ _ ⟨h1, h2⟩ => ⟨h1, h2 ▸ hw'⟩) ?_ ?_
  rotate_left
  · go_simp <;> rfl
  · simp only [Act.put, List.setIfInBounds_toArray, List.set_cons_succ, List.set_cons_zero]; rfl
  refine QB.val' (v := ?_) (a' := ?_) (by kernel_rfl) (fun w' hw' => ?_) ?_ ?_
  rotate_left 2
  · go_simp <;> rfl
  · simp only [Act.put, List.setIfInBounds_toArray, List.set_cons_succ, List.set_cons_zero]; rfl
  refine QB.val' (v := ?_) (a' := ?_) (by kernel_rfl) (fun w' hw' => ?_) ?_ ?_
  rotate_left 2
  · go_simp <;> rfl
  · simp only [Act.put, List.setIfInBounds_toArray, List.set_cons_succ, List.set_cons_zero]; rfl
  refine QB.val' (v := ?_) (a' := ?_) (by kernel_rfl) (fun w' hw' => ?_) ?_ ?_
  rotate_left 2
  · have c := (FR.out w' hw').cell (i := 3) rfl; go_simp <;> rfl
  · simp only [Act.put, List.setIfInBounds_toArray, List.set_cons_succ, List.set_cons_zero]; rfl
  refine QB.val' (v := ?_) (a' := ?_) (by kernel_rfl) (fun w' hw' => ?_) ?_ ?_
  rotate_left 2
  · go_simp <;> rfl
  · simp only [Act.put, List.setIfInBounds_toArray, List.set_cons_succ, List.set_cons_zero]; rfl
  refine QB.call' (f := 68) (args := #[.int .i64 4, .bool (m.prev != 0)]) (v := .int .i64 (mk 4 (m.prev != 0))) (a' := ?_) (by kernel_rfl) (fun w' hw' => ?_) (fun w' hw' => (mask_any 4 (m.prev != 0) w').mono fun _ _ ⟨h1, h2⟩ => ⟨h1, h2 ▸ hw'⟩) ?_ ?_
  rotate_left
  · go_simp <;> rfl
  · simp only [Act.put, List.setIfInBounds_toArray, List.set_cons_succ, List.set_cons_zero]; rfl
  refine QB.val' (v := ?_) (a' := ?_) (by kernel_rfl) (fun w' hw' => ?_) ?_ ?_
  rotate_left 2
  · go_simp <;> rfl
  · simp only [Act.put, List.setIfInBounds_toArray, List.set_cons_succ, List.set_cons_zero]; rfl
  refine QB.val' (v := ?_) (a' := ?_) (by kernel_rfl) (fun w' hw' => ?_) ?_ ?_
  rotate_left 2
  · go_simp <;> rfl
  · simp only [Act.put, List.setIfInBounds_toArray, List.set_cons_succ, List.set_cons_zero]; rfl
  refine QB.val' (v := ?_) (a' := ?_) (by kernel_rfl) (fun w' hw' => ?_) ?_ ?_
  rotate_left 2
  · have c := (FR.out w' hw').cell (i := 4) rfl; go_simp <;> rfl
  · simp only [Act.put, List.setIfInBounds_toArray, List.set_cons_succ, List.set_cons_zero]; rfl
  refine QB.val' (v := ?_) (a' := ?_) (by kernel_rfl) (fun w' hw' => ?_) ?_ ?_
  rotate_left 2
  · go_simp <;> rfl
  · simp only [Act.put, List.setIfInBounds_toArray, List.set_cons_succ, List.set_cons_zero]; rfl
  refine QB.call' (f := 68) (args := #[.int .i64 8, .bool (m.upto != 0)]) (v := .int .i64 (mk 8 (m.upto != 0))) (a' := ?_) (by kernel_rfl) (fun w' hw' => ?_) (fun w' hw' => (mask_any 8 (m.upto != 0) w').mono fun _ _ ⟨h1, h2⟩ => ⟨h1, h2 ▸ hw'⟩) ?_ ?_
  rotate_left
  · go_simp <;> rfl
  · simp only [Act.put, List.setIfInBounds_toArray, List.set_cons_succ, List.set_cons_zero]; rfl
  refine QB.val' (v := ?_) (a' := ?_) (by kernel_rfl) (fun w' hw' => ?_) ?_ ?_
  rotate_left 2
  · go_simp <;> rfl
  · simp only [Act.put, List.setIfInBounds_toArray, List.set_cons_succ, List.set_cons_zero]; rfl
  refine QB.val' (v := ?_) (a' := ?_) (by kernel_rfl) (fun w' hw' => ?_) ?_ ?_
  rotate_left 2
  · go_simp <;> rfl
  · simp only [Act.put, List.setIfInBounds_toArray, List.set_cons_succ, List.set_cons_zero]; rfl
  refine QB.val' (v := ?_) (a' := ?_) (by kernel_rfl) (fun w' hw' => ?_) ?_ ?_
  rotate_left 2
  · have c := (FR.out w' hw').cell (i := 5) rfl; go_simp <;> rfl
  · simp only [Act.put, List.setIfInBounds_toArray, List.set_cons_succ, List.set_cons_zero]; rfl
  refine QB.val' (v := ?_) (a' := ?_) (by kernel_rfl) (fun w' hw' => ?_) ?_ ?_
  rotate_left 2
  · go_simp <;> rfl
  · simp only [Act.put, List.setIfInBounds_toArray, List.set_cons_succ, List.set_cons_zero]; rfl
  refine QB.call' (f := 68) (args := #[.int .i64 16, .bool (m.ref != 0)]) (v := .int .i64 (mk 16 (m.ref != 0))) (a' := ?_) (by kernel_rfl) (fun w' hw' => ?_) (fun w' hw' => (mask_any 16 (m.ref != 0) w').mono fun _ _ ⟨h1, h2⟩ => ⟨h1, h2 ▸ hw'⟩) ?_ ?_
  rotate_left
  · go_simp <;> rfl
  · simp only [Act.put, List.setIfInBounds_toArray, List.set_cons_succ, List.set_cons_zero]; rfl
  refine QB.val' (v := ?_) (a' := ?_) (by kernel_rfl) (fun w' hw' => ?_) ?_ ?_
  rotate_left 2
  · go_simp <;> rfl
  · simp only [Act.put, List.setIfInBounds_toArray, List.set_cons_succ, List.set_cons_zero]; rfl
  refine QB.val' (v := ?_) (a' := ?_) (by kernel_rfl) (fun w' hw' => ?_) ?_ ?_
  rotate_left 2
  · go_simp <;> rfl
  · simp only [Act.put, List.setIfInBounds_toArray, List.set_cons_succ, List.set_cons_zero]; rfl
  refine QB.val' (v := ?_) (a' := ?_) (by kernel_rfl) (fun w' hw' => ?_) ?_ ?_
  rotate_left 2
  · have c := (FR.out w' hw').cell (i := 6) rfl; go_simp <;> rfl
  · simp only [Act.put, List.setIfInBounds_toArray, List.set_cons_succ, List.set_cons_zero]; rfl
  refine QB.val' (v := ?_) (a' := ?_) (by kernel_rfl) (fun w' hw' => ?_) ?_ ?_
  rotate_left 2
  · go_simp <;> rfl
  · simp only [Act.put, List.setIfInBounds_toArray, List.set_cons_succ, List.set_cons_zero]; rfl
  refine QB.call' (f := 68) (args := #[.int .i64 32, .bool (m.node != 0)]) (v := .int .i64 (mk 32 (m.node != 0))) (a' := ?_) (by kernel_rfl) (fun w' hw' => ?_) (fun w' hw' => (mask_any 32 (m.node != 0) w').mono fun _ _ ⟨h1, h2⟩ => ⟨h1, h2 ▸ hw'⟩) ?_ ?_
  rotate_left
  · go_simp <;> rfl
  · simp only [Act.put, List.setIfInBounds_toArray, List.set_cons_succ, List.set_cons_zero]; rfl
  refine QB.val' (v := ?_) (a' := ?_) (by kernel_rfl) (fun w' hw' => ?_) ?_ ?_
  rotate_left 2
  · go_simp <;> rfl
  · simp only [Act.put, List.setIfInBounds_toArray, List.set_cons_succ, List.set_cons_zero]; rfl
  refine QB.val' (v := ?_) (a' := ?_) (by kernel_rfl) (fun w' hw' => ?_) ?_ ?_
  rotate_left 2
  · go_simp <;> rfl
  · simp only [Act.put, List.setIfInBounds_toArray, List.set_cons_succ, List.set_cons_zero]; rfl
  refine QB.val' (v := ?_) (a' := ?_) (by kernel_rfl) (fun w' hw' => ?_) ?_ ?_
  rotate_left 2
  · have c := (FR.out w' hw').cell (i := 7) rfl; go_simp <;> rfl
  · simp only [Act.put, List.setIfInBounds_toArray, List.set_cons_succ, List.set_cons_zero]; rfl
  refine QB.call' (f := 68) (args := #[.int .i64 64, .bool m.is]) (v := .int .i64 (mk 64 m.is)) (a' := ?_) (by kernel_rfl) (fun w' hw' => ?_) (fun w' hw' => (mask_any 64 m.is w').mono fun _ _ ⟨h1, h2⟩ => ⟨h1, h2 ▸ hw'⟩) ?_ ?_
  rotate_left
  · go_simp <;> rfl
  · simp only [Act.put, List.setIfInBounds_toArray, List.set_cons_succ, List.set_cons_zero]; rfl
  refine QB.val' (v := ?_) (a' := ?_) (by kernel_rfl) (fun w' hw' => ?_) ?_ ?_
  rotate_left 2
  · go_simp <;> rfl
  · simp only [Act.put, List.setIfInBounds_toArray, List.set_cons_succ, List.set_cons_zero]; rfl
  refine QB.val' (v := ?_) (a' := ?_) (by kernel_rfl) (fun w' hw' => ?_) ?_ ?_
  rotate_left 2
  · go_simp <;> rfl
  · simp only [Act.put, List.setIfInBounds_toArray, List.set_cons_succ, List.set_cons_zero]; rfl
  refine QB.val' (v := ?_) (a' := ?_) (by kernel_rfl) (fun w' hw' => ?_) ?_ ?_
  rotate_left 2
  · have c := (FR.out w' hw').cell (i := 8) rfl; go_simp <;> rfl
  · simp only [Act.put, List.setIfInBounds_toArray, List.set_cons_succ, List.set_cons_zero]; rfl
  refine QB.val' (v := ?_) (a' := ?_) (by kernel_rfl) (fun w' hw' => ?_) ?_ ?_
  rotate_left 2
  · go_simp <;> rfl
  · simp only [Act.put, List.setIfInBounds_toArray, List.set_cons_succ, List.set_cons_zero]; rfl
  refine QB.val' (v := ?_) (a' := ?_) (by kernel_rfl) (fun w' hw' => ?_) ?_ ?_
  rotate_left 2
  · go_simp <;> rfl
  · simp only [Act.put, List.setIfInBounds_toArray, List.set_cons_succ, List.set_cons_zero]; rfl
  refine QB.call' (f := 68) (args := #[.int .i64 128, .bool ((m.es.length : Int) != 0)]) (v := .int .i64 (mk 128 ((m.es.length : Int) != 0))) (a' := ?_) (by kernel_rfl) (fun w' hw' => ?_) (fun w' hw' => (mask_any 128 ((m.es.length : Int) != 0) w').mono fun _ _ ⟨h1, h2⟩ => ⟨h1, h2 ▸ hw'⟩) ?_ ?_
  rotate_left
  · go_simp <;> rfl
  · simp only [Act.put, List.setIfInBounds_toArray, List.set_cons_succ, List.set_cons_zero]; rfl
  refine QB.val' (v := ?_) (a' := ?_) (by kernel_rfl) (fun w' hw' => ?_) ?_ ?_
  rotate_left 2
  · go_simp <;> rfl
  · simp only [Act.put, List.setIfInBounds_toArray, List.set_cons_succ, List.set_cons_zero]; rfl
  refine QB.val' (v := ?_) (a' := ?_) (by kernel_rfl) (fun w' hw' => ?_) ?_ ?_
  rotate_left 2
  · go_simp <;> rfl
  · simp only [Act.put, List.setIfInBounds_toArray, List.set_cons_succ, List.set_cons_zero]; rfl
  refine QB.val' (v := ?_) (a' := ?_) (by kernel_rfl) (fun w' hw' => ?_) ?_ ?_
  rotate_left 2
  · have c := (FR.out w' hw').cell (i := 9) rfl; go_simp <;> rfl
  · simp only [Act.put, List.setIfInBounds_toArray, List.set_cons_succ, List.set_cons_zero]; rfl
  refine QB.val' (v := ?_) (a' := ?_) (by kernel_rfl) (fun w' hw' => ?_) ?_ ?_
  rotate_left 2
  · go_simp <;> rfl
  · simp only [Act.put, List.setIfInBounds_toArray, List.set_cons_succ, List.set_cons_zero]; rfl
  refine QB.val' (v := ?_) (a' := ?_) (by kernel_rfl) (fun w' hw' => ?_) ?_ ?_
  rotate_left 2
  · go_simp <;> rfl
  · simp only [Act.put, List.setIfInBounds_toArray, List.set_cons_succ, List.set_cons_zero]; rfl
  refine QB.call' (f := 68) (args := #[.int .i64 256, .bool ((m.body.length : Int) != 0)]) (v := .int .i64 (mk 256 ((m.body.length : Int) != 0))) (a' := ?_) (by kernel_rfl) (fun w' hw' => ?_) (fun w' hw' => (mask_any 256 ((m.body.length : Int) != 0) w').mono fun _ _ ⟨h1, h2⟩ => ⟨h1, h2 ▸ hw'⟩) ?_ ?_
  rotate_left
  · go_simp <;> rfl
  · simp only [Act.put, List.setIfInBounds_toArray, List.set_cons_succ, List.set_cons_zero]; rfl
  refine QB.val' (v := ?_) (a' := ?_) (by kernel_rfl) (fun w' hw' => ?_) ?_ ?_
  rotate_left 2
  · go_simp <;> rfl
  · simp only [Act.put, List.setIfInBounds_toArray, List.set_cons_succ, List.set_cons_zero]; rfl
  refine QB.val' (v := ?_) (a' := ?_) (by kernel_rfl) (fun w' hw' => ?_) ?_ ?_
  rotate_left 2
  · go_simp <;> rfl
  · simp only [Act.put, List.setIfInBounds_toArray, List.set_cons_succ, List.set_cons_zero]; rfl
  refine QB.nil' fun w' hw' => ?_
  have HW' := Lib.hid hw'
  clear hw'
  go_wp2
  go_ret
  exact ⟨rfl, HB.out.trans (HW'.out.mono HB.out.size)⟩
set_option maxRecDepth 100000 in
theorem isNode_any (m : Ms) (ve vb : Value) (w : World) : Calls Try.prog 71 #[.agg (m.cs ve vb).toArray] w fun r w' => r = .returned (.bool (isNodeB m)) ∧ Below w.heap.size w w' := by
  obtain ⟨cs, hcs⟩ : ∃ cs, m.cs ve vb = cs := ⟨_, rfl⟩
  rw [hcs]
  obtain ⟨W, hW⟩ : ∃ W, w.alloc (.cells cs.toArray 52) = W := ⟨_, rfl⟩
  have hr : Row W w.heap.size cs 52 := hW ▸ Row.new rfl rfl
  have hb : Below w.heap.size w W := hW ▸ (Below.refl _ w).alloc (Nat.le_refl _) _
  have HB := Lib.hid hb
  rw [← hcs] at hr
  have c0 := hr.cell (i := 0) rfl
  have c6 := hr.cell (i := 6) rfl
  clear hr hb hcs
  obtain ⟨z, hz⟩ : ∃ z, isNodeB m = z := ⟨_, rfl⟩
  rw [hz]
  have HZ := Lib.hid hz
  clear hz
  by_cases h6 : m.kind = 6
  · have hk : (m.kind == 6) = true := by simpa using h6
    by_cases h0 : 0 ≤ m.node
    · by_cases h2 : m.node ≤ 2
      · obtain rfl : z = true := by rw [← HZ.out]; simp [isNodeB, h6, h0, h2]
        clear h6
        go_enter Try.func71, Try.ntmps71
        go_wp2
        go_ret
        exact ⟨rfl, HB.out⟩
      · obtain rfl : z = false := by rw [← HZ.out]; simp [isNodeB, h2]
        clear h6
        go_enter Try.func71, Try.ntmps71
        go_wp2
        go_ret
        exact ⟨rfl, HB.out⟩
    · obtain rfl : z = false := by rw [← HZ.out]; simp [isNodeB, h6, h0]
      clear h6
      go_enter Try.func71, Try.ntmps71
      go_wp2
      go_ret
      exact ⟨rfl, HB.out⟩
  · have hk : (m.kind == 6) = false := by simpa using h6
    by_cases h0 : 1 ≤ m.node
    · by_cases h2 : m.node ≤ 2
      · obtain rfl : z = true := by rw [← HZ.out]; simp [isNodeB, h6, h0, h2]
        clear h6
        go_enter Try.func71, Try.ntmps71
        go_wp2
        go_ret
        exact ⟨rfl, HB.out⟩
      · obtain rfl : z = false := by rw [← HZ.out]; simp [isNodeB, h2]
        clear h6
        go_enter Try.func71, Try.ntmps71
        go_wp2
        go_ret
        exact ⟨rfl, HB.out⟩
    · obtain rfl : z = false := by rw [← HZ.out]; simp [isNodeB, h6]; omega
      clear h6
      go_enter Try.func71, Try.ntmps71
      go_wp2
      go_ret
      exact ⟨rfl, HB.out⟩
end Go.Proofs.Ytedmogacklbcmaa.Wir
namespace Go.Proofs.Ytedmogacklbcmaa.Wir
open Go.RowKit Cfg
set_option maxRecDepth 100000 in
theorem zero_ent : (Try.prog.info? 49).bind (·.zero) = some (.agg zen.cs.toArray) := by kernel_rfl
set_option maxRecDepth 100000 in
set_option maxHeartbeats 4000000 in
theorem continues_any {w : World} {B : Nat} {ve vb : Value} {m : Ms} (h : MAt w B ve vb m) (hN : m.es.length ≤ 100000) (hix : 0 ≤ m.ix) (hB : B ≤ w.heap.size) : Calls Try.prog 72 #[.agg (m.cs ve vb).toArray] w fun r w' => r = .returned (.bool (contB m)) ∧ Below w.heap.size w w' := by
  obtain ⟨A1, n1, A2, n2, rfl, rfl, _, _⟩ := h.shape
  obtain ⟨cs, hcs⟩ : ∃ cs, m.cs (.slice A1 m.es.length n1) (.slice A2 m.body.length n2) = cs := ⟨_, rfl⟩
  rw [hcs]
  obtain ⟨z, hz⟩ : ∃ z, contB m = z := ⟨_, rfl⟩
  rw [hz]
  have HZ := Lib.hid hz
  obtain ⟨W0, hW⟩ : ∃ W, w.alloc (.cells cs.toArray 52) = W := ⟨_, rfl⟩
  have hr : Row W0 w.heap.size cs 52 := hW ▸ Row.new rfl rfl
  have hb : Below w.heap.size w W0 := hW ▸ (Below.refl _ w).alloc (Nat.le_refl _) _
  rw [← hcs] at hr
  have HB0 := Lib.hid hb
  have HR := Lib.hid hr
  have HBw := Lib.hid hB
  have HE := Lib.hid (h.es.below (hb.mono hB))
  have HIX := Lib.hid hix
  have HN := Lib.hid hN
  have c2 := hr.cell (i := 2) rfl
  clear h hr hb hz hB hix hN hcs
  have FR := Lib.hid (fun w' (h : Below W0.heap.size W0 w') => HR.out.below h HR.out.lt)
  have FB := Lib.hid (fun w' (h : Below W0.heap.size W0 w') => show Below w.heap.size w w' from HB0.out.trans (h.mono HB0.out.size))
  by_cases hbig : 4611686018427387904 < m.ix
  · obtain rfl : z = false := by rw [← HZ.out]; unfold contB; rw [decide_eq_false (by omega)]; rfl
    go_enter Try.func72, Try.ntmps72
    go_wp2
    go_ret
    exact ⟨rfl, HB0.out⟩
  obtain ⟨rz, hrz⟩ : ∃ rz, rowsB m.ep m.ix m.prev m.es = rz := ⟨_, rfl⟩
  have HRZ := Lib.hid (show rz = z by rw [← HZ.out, ← hrz]; unfold contB; rw [decide_eq_true (by omega)]; rfl)
  have HBIG := Lib.hid (show m.ix ≤ 4611686018427387904 by omega)
  have HRR := Lib.hid hrz
  clear hrz HZ
  go_enter Try.func72, Try.ntmps72
  go_wp2_with fail
  clear hW c2 hbig
  refine QB.region' mixed (by kernel_rfl) ?_
  refine QB.val' (v := ?_) (a' := ?_) (by kernel_rfl) (fun w' hw' => ?_) ?_ ?_
  rotate_left 2
  · have c2 := (FR.out w' hw').cell (i := 2) rfl; have c3 := (FR.out w' hw').cell (i := 3) rfl; go_simp <;> rfl
  · simp only [Act.put, List.setIfInBounds_toArray, List.set_cons_succ, List.set_cons_zero]; rfl
  refine QB.val' (v := ?_) (a' := ?_) (by kernel_rfl) (fun w' hw' => ?_) ?_ ?_
  rotate_left 2
  · have c2 := (FR.out w' hw').cell (i := 2) rfl; have c3 := (FR.out w' hw').cell (i := 3) rfl; go_simp <;> rfl
  · simp only [Act.put, List.setIfInBounds_toArray, List.set_cons_succ, List.set_cons_zero]; rfl
  refine QB.val' (v := ?_) (a' := ?_) (by kernel_rfl) (fun w' hw' => ?_) ?_ ?_
  rotate_left 2
  · have c2 := (FR.out w' hw').cell (i := 2) rfl; have c3 := (FR.out w' hw').cell (i := 3) rfl; go_simp <;> rfl
  · simp only [Act.put, List.setIfInBounds_toArray, List.set_cons_succ, List.set_cons_zero]; rfl
  refine QB.val' (v := ?_) (a' := ?_) (by kernel_rfl) (fun w' hw' => ?_) ?_ ?_
  rotate_left 2
  · have c2 := (FR.out w' hw').cell (i := 2) rfl; have c3 := (FR.out w' hw').cell (i := 3) rfl; go_simp <;> rfl
  · simp only [Act.put, List.setIfInBounds_toArray, List.set_cons_succ, List.set_cons_zero]; rfl
  refine QB.val' (v := ?_) (a' := ?_) (by kernel_rfl) (fun w' hw' => ?_) ?_ ?_
  rotate_left 2
  · have c2 := (FR.out w' hw').cell (i := 2) rfl; have c3 := (FR.out w' hw').cell (i := 3) rfl; go_simp <;> rfl
  · simp only [Act.put, List.setIfInBounds_toArray, List.set_cons_succ, List.set_cons_zero]; rfl
  refine QB.val' (v := ?_) (a' := ?_) (by kernel_rfl) (fun w' hw' => ?_) ?_ ?_
  rotate_left 2
  · have c2 := (FR.out w' hw').cell (i := 2) rfl; have c3 := (FR.out w' hw').cell (i := 3) rfl; go_simp <;> rfl
  · simp only [Act.put, List.setIfInBounds_toArray, List.set_cons_succ, List.set_cons_zero]; rfl
  refine QB.nil' fun W1 hW1 => ?_
  have HB1 := Lib.hid hW1
  have c8 := (FR.out W1 hW1).cell (i := 8) rfl
  clear hW1
  go_wp2_with fail
  clear c8
  go_loopw [3, 4, 17] (fun xv pv iv wr => ∃ (i : Nat) (x p : Int), i ≤ m.es.length ∧ xv = .int .u64 x ∧ pv = .int .u32 p ∧ iv = .int .i64 (i : Int) ∧ Hid (Below W0.heap.size W0 wr ∧ x = m.ix + i ∧ rowsB m.ep x p (m.es.drop i) = rz)) (fun _ _ iv _ => m.es.length - (intOf iv).toNat)
  case atStart => exact ⟨0, m.ix, m.prev, Nat.zero_le _, rfl, rfl, rfl, Lib.hid ⟨HB1.out, by simp, HRR.out⟩⟩
  case round =>
    obtain ⟨i, x, p, hi, rfl, rfl, rfl, hI⟩ := hrel
    have hi2 : (i : Int) ≤ 100000 := by have := HN.out; omega
    have HB := Lib.hid hI.out.1
    by_cases hlt : i < m.es.length
    · have HLT := Lib.hid hlt
      obtain ⟨e, he⟩ : ∃ e, m.es[i]? = some e := ⟨_, List.getElem?_eq_getElem hlt⟩
      have HK := Lib.hid (HE.out.1 e (List.mem_of_getElem? he))
      have HRW := Lib.hid (show (okE e && decide (e.ix = x + 1) && decide (p ≤ e.ep) && decide (e.ep ≤ m.ep) && rowsB m.ep e.ix e.ep (m.es.drop (i + 1))) = rz by
        have h1 := hI.out.2.2
        have h2 : m.es.drop i = e :: m.es.drop (i + 1) := by
          rw [List.drop_eq_getElem_cons hlt]
          rw [List.getElem?_eq_getElem hlt] at he
          injection he with he
          rw [he]
        rw [h2] at h1
        exact h1)
      have HX := Lib.hid hI.out.2.1
      have hwx : IntKind.u64.wrap (x + 1) = x + 1 := by
        have h1 := HX.out
        have h2 := HBIG.out
        have h3 := HIX.out
        simp [IntKind.wrap, IntKind.bits, IntKind.signed]
        omega
      have hwx2 : (x + 1) % 18446744073709551616 = x + 1 := by
        have h1 := HX.out
        have h2 := HBIG.out
        have h3 := HIX.out
        omega
      obtain ⟨b0, off, e0, _, _, hld⟩ := (HE.out.below (HB.out.mono (Nat.le_trans HBw.out HB0.out.size))).at he
      subst e0
      obtain ⟨ev, hev⟩ : ∃ ev, e.val = ev := ⟨_, rfl⟩
      have HEV := Lib.hid (show ev = .agg e.cs.toArray from hev.symm)
      have HLD := Lib.hid (show (loadVar 49 ⟨b0, off + i * 74, none⟩).run Try.prog wr = .ok ev wr from hev ▸ hld)
      have FLE := Lib.hid (fun (y : World) (g : Nat) (hy : Row y g e.cs 49) => show (loadVar 49 ⟨g, 0, none⟩).run Try.prog y = .ok ev y from hev ▸ l_ent hy HK.out)
      have HCE := Lib.hid (fun (y : World) => show Calls Try.prog (64) #[ev] y _ from hev ▸ CheckEntry_any e HK.out y)
      clear he hld hev hI
      go_wp2_with (first
        | (refine QB.wpList_ld 49 rfl rfl HLD.out (by kernel_rfl) ?_; clear HLD)
        | (refine QB.wpList_alloc rfl 49 rfl zero_ent ?_; intro W2 hr2 hb2; have HR2 := Lib.hid (show Row W2 wr.heap.size zen.cs 49 from hr2); have HB2 := Lib.hid hb2; clear hr2 hb2)
        | (refine wpList_storeRow rfl 49 (.tmp 6) (.tmp 20) rfl rfl (cs := e.cs) HEV.out HR2.out (by kernel_rfl) (En.len HK.out) (En.len zen_K) e.one ?_
           refine QB.name fun W3 hW3 => ?_
           have HR3 := Lib.hid (show Row W3 wr.heap.size e.cs 49 from hW3 ▸ HR2.out.setRow _)
           have HB3 := Lib.hid (nextB HB.out (Nat.le_refl _) (show Below wr.heap.size wr W3 from hW3 ▸ below_setRow HB2.out (Nat.le_refl _) _))
           have HL3 := Lib.hid (FLE.out W3 _ HR3.out)
           clear hW3 HR2 HB2)
        | (refine QB.wpList_ld 49 rfl rfl HL3.out (by kernel_rfl) ?_; clear HL3)
        | fail)
      refine (HCE.out W3).mono ?_
      rintro r W4 ⟨rfl, hb4⟩
      have HB4 := Lib.hid (nextB HB3.out (Nat.le_refl _) hb4)
      have HR4 := Lib.hid (HR3.out.below hb4 HR3.out.lt)
      obtain ⟨g6, hg6⟩ : ∃ g, wr.heap.size = g := ⟨_, rfl⟩
      rw [hg6] at HR4 ⊢
      have e1 := HR4.out.cell (i := 1) rfl
      have e2 := HR4.out.cell (i := 2) rfl
      have m1 := (FR.out W4 HB4.out).cell (i := 1) rfl
      clear hb4 HCE FLE HEV hg6 HR3
      cases hok : okE e with
      | false =>
        obtain rfl : z = false := by rw [← HRZ.out, ← HRW.out, hok]; rfl
        rw [show checkEntZ e = 2 from if_neg (by rw [hok]; decide)]
        clear hok hwx hwx2
        go_wp2
        go_ret
        exact ⟨rfl, FB.out W4 HB4.out⟩
      | true =>
      rw [show checkEntZ e = 0 from if_pos hok]
      by_cases hx1 : e.ix = x + 1
      case neg =>
        obtain rfl : z = false := by rw [← HRZ.out, ← HRW.out, decide_eq_false hx1]; simp
        have hx2 : (e.ix != x + 1) = true := by simpa using hx1
        have hx3 : (e.ix == x + 1) = false := by simpa using hx1
        clear hok hx1
        go_wp2
        go_ret
        exact ⟨rfl, FB.out W4 HB4.out⟩
      case pos =>
      have hx2 : (e.ix != x + 1) = false := by simpa using hx1
      have hx3 : (e.ix == x + 1) = true := by simpa using hx1
      have HX1 := Lib.hid hx1
      clear hx1
      by_cases hp1 : e.ep < p
      case pos =>
        obtain rfl : z = false := by rw [← HRZ.out, ← HRW.out, decide_eq_false (show ¬ p ≤ e.ep by omega)]; simp
        clear hok
        go_wp2
        go_ret
        exact ⟨rfl, FB.out W4 HB4.out⟩
      case neg =>
      by_cases hq1 : m.ep < e.ep
      case pos =>
        obtain rfl : z = false := by rw [← HRZ.out, ← HRW.out, decide_eq_false (show ¬ e.ep ≤ m.ep by omega)]; simp
        clear hok
        go_wp2
        go_ret
        exact ⟨rfl, FB.out W4 HB4.out⟩
      case neg =>
      have HRW2 := Lib.hid (show rowsB m.ep e.ix e.ep (m.es.drop (i + 1)) = rz by
        have h1 := HRW.out
        rw [hok, decide_eq_true HX1.out, decide_eq_true (show p ≤ e.ep by omega), decide_eq_true (show e.ep ≤ m.ep by omega)] at h1
        simpa using h1)
      clear hok
      go_wp2_with fail
      clear hwx hwx2 hx2 hx3 hp1 hq1 e1 e2 m1
      refine QB.region' mixed (by kernel_rfl) ?_
      refine QB.val' (v := ?_) (a' := ?_) (by kernel_rfl) (fun w' hw' => ?_) ?_ ?_
      rotate_left 2
      · have f1 := (HR4.out.below hw' HR4.out.lt).cell (i := 1) rfl; have f2 := (HR4.out.below hw' HR4.out.lt).cell (i := 2) rfl; go_simp <;> rfl
      · simp only [Act.put, List.setIfInBounds_toArray, List.set_cons_succ, List.set_cons_zero]; rfl
      refine QB.val' (v := ?_) (a' := ?_) (by kernel_rfl) (fun w' hw' => ?_) ?_ ?_
      rotate_left 2
      · have f1 := (HR4.out.below hw' HR4.out.lt).cell (i := 1) rfl; have f2 := (HR4.out.below hw' HR4.out.lt).cell (i := 2) rfl; go_simp <;> rfl
      · simp only [Act.put, List.setIfInBounds_toArray, List.set_cons_succ, List.set_cons_zero]; rfl
      refine QB.val' (v := ?_) (a' := ?_) (by kernel_rfl) (fun w' hw' => ?_) ?_ ?_
      rotate_left 2
      · have f1 := (HR4.out.below hw' HR4.out.lt).cell (i := 1) rfl; have f2 := (HR4.out.below hw' HR4.out.lt).cell (i := 2) rfl; go_simp <;> rfl
      · simp only [Act.put, List.setIfInBounds_toArray, List.set_cons_succ, List.set_cons_zero]; rfl
      refine QB.val' (v := ?_) (a' := ?_) (by kernel_rfl) (fun w' hw' => ?_) ?_ ?_
      rotate_left 2
      · have f1 := (HR4.out.below hw' HR4.out.lt).cell (i := 1) rfl; have f2 := (HR4.out.below hw' HR4.out.lt).cell (i := 2) rfl; go_simp <;> rfl
      · simp only [Act.put, List.setIfInBounds_toArray, List.set_cons_succ, List.set_cons_zero]; rfl
      refine QB.val' (v := ?_) (a' := ?_) (by kernel_rfl) (fun w' hw' => ?_) ?_ ?_
      rotate_left 2
      · have f1 := (HR4.out.below hw' HR4.out.lt).cell (i := 1) rfl; have f2 := (HR4.out.below hw' HR4.out.lt).cell (i := 2) rfl; go_simp <;> rfl
      · simp only [Act.put, List.setIfInBounds_toArray, List.set_cons_succ, List.set_cons_zero]; rfl
      refine QB.val' (v := ?_) (a' := ?_) (by kernel_rfl) (fun w' hw' => ?_) ?_ ?_
      rotate_left 2
      · have f1 := (HR4.out.below hw' HR4.out.lt).cell (i := 1) rfl; have f2 := (HR4.out.below hw' HR4.out.lt).cell (i := 2) rfl; go_simp <;> rfl
      · simp only [Act.put, List.setIfInBounds_toArray, List.set_cons_succ, List.set_cons_zero]; rfl
      refine QB.nil' fun W5 hW5 => ?_
      have HB5 := Lib.hid (nextB HB4.out (Nat.le_refl _) hW5)
      clear hW5
      go_wp2_with fail
      go_roundw
      case rel => exact ⟨i + 1, e.ix, e.ep, by have := HLT.out; omega, rfl, rfl, by go_num, Lib.hid ⟨HB5.out, by have h1 := HX1.out; have h2 := HX.out; omega, HRW2.out⟩⟩
      case measure => have := HLT.out; simp [intOf]; omega
    · obtain rfl : z = true := by
        rw [← HRZ.out, ← hI.out.2.2, List.drop_of_length_le (by omega)]
        rfl
      clear hI
      go_wp2
      go_ret
      exact ⟨rfl, FB.out wr HB.out⟩
set_option maxRecDepth 100000 in
set_option maxHeartbeats 8000000 in
theorem Check_any {w : World} {B : Nat} {ve vb : Value} {m : Ms} (h : MAt w B ve vb m) (hix : 0 ≤ m.ix) (hB : B ≤ w.heap.size) : Calls Try.prog 26 #[.agg (m.cs ve vb).toArray] w fun r w' => r = .returned (.int .i64 (checkMZ m)) ∧ Below w.heap.size w w' := by
  obtain ⟨A1, n1, A2, n2, rfl, rfl, _, _⟩ := h.shape
  obtain ⟨z, hz⟩ : ∃ z, checkMZ m = z := ⟨_, rfl⟩
  rw [hz]
  have HZ := Lib.hid hz
  obtain ⟨cs, hcs⟩ : ∃ cs, m.cs (.slice A1 m.es.length n1) (.slice A2 m.body.length n2) = cs := ⟨_, rfl⟩
  obtain ⟨W0, hW⟩ : ∃ W, w.alloc (.cells cs.toArray 52) = W := ⟨_, rfl⟩
  have hr : Row W0 w.heap.size cs 52 := hW ▸ Row.new rfl rfl
  have hb : Below w.heap.size w W0 := hW ▸ (Below.refl _ w).alloc (Nat.le_refl _) _
  have hl : ∀ w', Below W0.heap.size W0 w' → (loadVar 52 ⟨w.heap.size, 0, none⟩).run Try.prog w' = .ok (.agg cs.toArray) w' := fun w' h => by
    have h2 := hr.below h hr.lt
    rw [Pol.run_loadVar_sub (off := 0) (n := 10) w' h2 Try.underlying52 rfl (by kernel_rfl) (by rw [← hcs]; simp [Ms.cs]), List.drop_zero, List.take_of_length_le (by rw [← hcs]; simp [Ms.cs])]
  obtain ⟨mv, hmv⟩ : ∃ mv, Value.agg cs.toArray = mv := ⟨_, rfl⟩
  have FL := Lib.hid (fun w' (h : Below W0.heap.size W0 w') => show (loadVar 52 ⟨w.heap.size, 0, none⟩).run Try.prog w' = .ok mv w' from hmv ▸ hl w' h)
  have HMU := Lib.hid (fun (y : World) => show Calls Try.prog (70) #[mv] y _ from hmv ▸ hcs ▸ msgUsed_any m A1 A2 n1 n2 y)
  have HNO := Lib.hid (fun (y : World) => show Calls Try.prog (71) #[mv] y _ from hmv ▸ hcs ▸ isNode_any m (.slice A1 m.es.length n1) (.slice A2 m.body.length n2) y)
  have HCO := Lib.hid (fun (hN : m.es.length ≤ 100000) (y : World) (hy : Below W0.heap.size W0 y) => show Calls Try.prog (72) #[mv] y _ from hmv ▸ hcs ▸ continues_any (h.below ((hb.trans (hy.mono hb.size)).mono hB)) hN hix (Nat.le_trans hB (Nat.le_trans hb.size hy.size)))
  rw [← hcs] at hr
  have HB0 := Lib.hid hb
  have c0 := hr.cell (i := 0) rfl
  have c8 := hr.cell (i := 8) rfl
  have c9 := hr.cell (i := 9) rfl
  have FB := Lib.hid (fun w' (h : Below W0.heap.size W0 w') => show Below w.heap.size w w' from HB0.out.trans (h.mono HB0.out.size))
  rw [hcs]
  clear h hr hb hz hB hix hl hmv hcs
  by_cases h32 : 32 < m.es.length
  · have h32' : (32 : Int) < (m.es.length : Int) := by omega
    obtain rfl : z = 3 := by rw [← HZ.out]; exact if_pos (.inl h32)
    clear h32
    go_enter Try.func26, Try.ntmps26
    go_wp2
    go_ret
    exact ⟨rfl, HB0.out⟩
  by_cases hbd : 1048576 < m.body.length
  · have h32' : ¬ (32 : Int) < (m.es.length : Int) := by omega
    have hbd' : (1048576 : Int) < (m.body.length : Int) := by omega
    obtain rfl : z = 3 := by rw [← HZ.out]; exact if_pos (.inr hbd)
    clear h32 hbd
    go_enter Try.func26, Try.ntmps26
    go_wp2
    go_ret
    exact ⟨rfl, HB0.out⟩
  have h32' : ¬ (32 : Int) < (m.es.length : Int) := by omega
  have hbd' : ¬ (1048576 : Int) < (m.body.length : Int) := by omega
  have HCO2 := Lib.hid (HCO.out (by omega))
  have HZ2 := Lib.hid (show (if okM m = true then (0 : Int) else 2) = z by rw [← HZ.out]; exact (if_neg (by omega)).symm)
  clear h32 hbd HZ HCO
  go_enter Try.func26, Try.ntmps26
  go_wp2_with fail
  clear hW c0 c8 c9 h32' hbd'
  refine (msgFields_any m.kind W0).mono ?_
  rintro r w1 ⟨rfl, hb1⟩
  have HB1 := Lib.hid hb1
  clear hb1
  by_cases hkind : ¬ (1 ≤ m.kind ∧ m.kind ≤ 7)
  · obtain rfl : z = 2 := by
      rw [← HZ2.out]
      refine if_neg ?_
      unfold okM
      by_cases h1 : 1 ≤ m.kind
      · have h2 : ¬ m.kind ≤ 7 := by omega
        simp [h1, h2]
      · simp [h1]
    rw [show msgF m.kind = 0 by unfold msgF; repeat rw [if_neg (by omega)]]
    clear hkind
    go_wp2
    go_ret
    exact ⟨rfl, FB.out w1 HB1.out⟩
  have hk1 : 1 ≤ m.kind := by omega
  have hk7 : m.kind ≤ 7 := by omega
  clear hkind
  have HKK := Lib.hid (And.intro hk1 hk7)
  obtain ⟨f, hf⟩ : ∃ f, msgF m.kind = f := ⟨_, rfl⟩
  have HF := Lib.hid hf
  obtain ⟨d, hd⟩ : ∃ d, bits .andNot .i64 (usedMZ m) f = d := ⟨_, rfl⟩
  have HD := Lib.hid (show notMZ m = d by unfold notMZ; rw [hf, hd])
  have hf0 : (f == 0) = false := by
    rw [← hf]
    rcases (show m.kind = 1 ∨ m.kind = 2 ∨ m.kind = 3 ∨ m.kind = 4 ∨ m.kind = 5 ∨ m.kind = 6 ∨ m.kind = 7 by omega) with h | h | h | h | h | h | h <;> rw [h] <;> rfl
  obtain ⟨y32, hy32⟩ : ∃ y, bits .and .i64 f 32 = y := ⟨_, rfl⟩
  obtain ⟨y128, hy128⟩ : ∃ y, bits .and .i64 f 128 = y := ⟨_, rfl⟩
  have HY := Lib.hid (show okM m = ((d == 0) && ((y32 == 0) || isNodeB m) && ((y128 == 0) || contB m)) by unfold okM; rw [HD.out, hf, hy32, hy128, decide_eq_true hk1, decide_eq_true hk7]; simp)
  rw [hf]
  have HL1 := Lib.hid (FL.out w1 HB1.out)
  clear hk1 hk7 hf
  go_wp2_with (first | (refine QB.wpList_ld 52 rfl rfl HL1.out (by kernel_rfl) ?_; clear HL1) | fail)
  refine (HMU.out w1).mono ?_
  rintro r w2 ⟨rfl, hb2⟩
  have HB2 := Lib.hid (show Below W0.heap.size W0 w2 from nextB HB1.out (Nat.le_refl _) hb2)
  clear hb2 hf0
  by_cases hd0 : d = 0
  case neg =>
    have hd1 : (d == 0) = false := by simpa using hd0
    have hd2 : (d != 0) = true := by simpa using hd0
    obtain rfl : z = 2 := by rw [← HZ2.out]; exact if_neg (by rw [HY.out, hd1]; simp)
    clear hd0
    go_wp2
    go_ret
    exact ⟨rfl, FB.out w2 HB2.out⟩
  case pos =>
  subst hd0
  have HL2 := Lib.hid (FL.out w2 HB2.out)
  by_cases h32 : y32 = 0
  case pos =>
    have p1 : (y32 == 0) = true := by simpa using h32
    have p2 : (y32 != 0) = false := by simpa using h32
    have H32 := Lib.hid h32
    clear h32
    have HL3 := Lib.hid (FL.out w2 HB2.out)
    by_cases h128 : y128 = 0
    · obtain rfl : z = 0 := by rw [← HZ2.out]; exact if_pos (by rw [HY.out]; simp [H32.out, h128])
      have q1 : (y128 == 0) = true := by simpa using h128
      have q2 : (y128 != 0) = false := by simpa using h128
      clear HL3
      clear h128
      go_wp2
      go_ret
      exact ⟨rfl, FB.out w2 HB2.out⟩
    · have q1 : (y128 == 0) = false := by simpa using h128
      have q2 : (y128 != 0) = true := by simpa using h128
      have H128 := Lib.hid h128
      clear h128
      go_wp2_with (first | (show wpList _ _ _ (⟨some 39, _, _, _, _, _⟩ :: _) _ _; refine QB.wpList_ld 52 rfl rfl HL3.out (by kernel_rfl) ?_; clear HL3) | fail)
      refine (HCO2.out w2 HB2.out).mono ?_
      rintro r w4 ⟨rfl, hb4⟩
      have HB4 := Lib.hid (show Below W0.heap.size W0 w4 from nextB HB2.out (Nat.le_refl _) hb4)
      clear hb4
      cases hc : contB m with
      | false =>
        obtain rfl : z = 2 := by rw [← HZ2.out]; exact if_neg (by rw [HY.out, hc]; simp [H128.out])
        clear hc
        go_wp2
        go_ret
        exact ⟨rfl, FB.out w4 HB4.out⟩
      | true =>
        obtain rfl : z = 0 := by rw [← HZ2.out]; exact if_pos (by rw [HY.out, hc]; simp [H32.out])
        clear hc
        go_wp2
        go_ret
        exact ⟨rfl, FB.out w4 HB4.out⟩
  case neg =>
    have p1 : (y32 == 0) = false := by simpa using h32
    have p2 : (y32 != 0) = true := by simpa using h32
    have H32 := Lib.hid h32
    clear h32
    go_wp2_with (first | (refine QB.wpList_ld 52 rfl rfl HL2.out (by kernel_rfl) ?_; clear HL2) | fail)
    refine (HNO.out w2).mono ?_
    rintro r w3 ⟨rfl, hb3⟩
    have HB3 := Lib.hid (show Below W0.heap.size W0 w3 from nextB HB2.out (Nat.le_refl _) hb3)
    clear hb3
    cases hn : isNodeB m with
    | false =>
      obtain rfl : z = 2 := by rw [← HZ2.out]; exact if_neg (by rw [HY.out, hn]; simp [H32.out])
      clear hn
      go_wp2
      go_ret
      exact ⟨rfl, FB.out w3 HB3.out⟩
    | true =>
      have HNB := Lib.hid hn
      clear hn
      have HL3 := Lib.hid (FL.out w3 HB3.out)
      by_cases h128 : y128 = 0
      · obtain rfl : z = 0 := by rw [← HZ2.out]; exact if_pos (by rw [HY.out]; simp [HNB.out, h128])
        have q1 : (y128 == 0) = true := by simpa using h128
        have q2 : (y128 != 0) = false := by simpa using h128
        clear HL3
        clear h128
        go_wp2
        go_ret
        exact ⟨rfl, FB.out w3 HB3.out⟩
      · have q1 : (y128 == 0) = false := by simpa using h128
        have q2 : (y128 != 0) = true := by simpa using h128
        have H128 := Lib.hid h128
        clear h128
        go_wp2_with (first | (show wpList _ _ _ (⟨some 39, _, _, _, _, _⟩ :: _) _ _; refine QB.wpList_ld 52 rfl rfl HL3.out (by kernel_rfl) ?_; clear HL3) | fail)
        refine (HCO2.out w3 HB3.out).mono ?_
        rintro r w4 ⟨rfl, hb4⟩
        have HB4 := Lib.hid (show Below W0.heap.size W0 w4 from nextB HB3.out (Nat.le_refl _) hb4)
        clear hb4
        cases hc : contB m with
        | false =>
          obtain rfl : z = 2 := by rw [← HZ2.out]; exact if_neg (by rw [HY.out, hc]; simp [H128.out])
          clear hc
          go_wp2
          go_ret
          exact ⟨rfl, FB.out w4 HB4.out⟩
        | true =>
          obtain rfl : z = 0 := by rw [← HZ2.out]; exact if_pos (by rw [HY.out, hc]; simp [HNB.out])
          clear hc
          go_wp2
          go_ret
          exact ⟨rfl, FB.out w4 HB4.out⟩
end Go.Proofs.Ytedmogacklbcmaa.Wir
namespace Go.Proofs.Ytedmogacklbcmaa.Wir
open Go.RowKit Cfg
set_option maxRecDepth 100000 in
theorem Light_any (m : Ms) (A1 A2 : Option Addr) (n1 n2 : Nat) (w : World) : Calls Try.prog 21 #[.agg (m.cs (.slice A1 m.es.length n1) (.slice A2 m.body.length n2)).toArray, .int .i64 40] w fun e w' => e = .returned (.bool (decide (m.es.length ≤ 40) && decide (m.body.length ≤ 4000))) ∧ Below w.heap.size w w' := by
  obtain ⟨cs, hcs⟩ : ∃ cs, m.cs (.slice A1 m.es.length n1) (.slice A2 m.body.length n2) = cs := ⟨_, rfl⟩
  rw [hcs]
  obtain ⟨W, hW⟩ : ∃ W, w.alloc (.cells cs.toArray 52) = W := ⟨_, rfl⟩
  have hr : Row W w.heap.size cs 52 := hW ▸ Row.new rfl rfl
  have hb : Below w.heap.size w W := hW ▸ (Below.refl _ w).alloc (Nat.le_refl _) _
  have HB := Lib.hid hb
  rw [← hcs] at hr
  have c8 := hr.cell (i := 8) rfl
  have c9 := hr.cell (i := 9) rfl
  clear hr hb hcs
  by_cases h1 : m.es.length ≤ 40
  · have h1' : (m.es.length : Int) ≤ 40 := by omega
    by_cases h2 : m.body.length ≤ 4000
    · have h2' : (m.body.length : Int) ≤ 4000 := by omega
      have HZ := Lib.hid (show (decide (m.es.length ≤ 40) && decide (m.body.length ≤ 4000)) = true by simp [h1, h2])
      rw [HZ.out]
      clear h1 h2
      go_enter Try.func21, Try.ntmps21
      go_wp2
      go_ret
      exact ⟨rfl, HB.out⟩
    · have h2' : ¬ (m.body.length : Int) ≤ 4000 := by omega
      have HZ := Lib.hid (show (decide (m.es.length ≤ 40) && decide (m.body.length ≤ 4000)) = false by simp; omega)
      rw [HZ.out]
      clear h1 h2
      go_enter Try.func21, Try.ntmps21
      go_wp2
      go_ret
      exact ⟨rfl, HB.out⟩
  · have h1' : ¬ (m.es.length : Int) ≤ 40 := by omega
    have HZ := Lib.hid (show (decide (m.es.length ≤ 40) && decide (m.body.length ≤ 4000)) = false by simp; omega)
    rw [HZ.out]
    clear h1
    go_enter Try.func21, Try.ntmps21
    go_wp2
    go_ret
    exact ⟨rfl, HB.out⟩
/-! ### rows that continue -/
theorem rows_app (top : Int) : ∀ (l r : List En) (i p : Int), rowsB top i p (l ++ r) = (rowsB top i p l && rowsB top ((l.getLast?.map (·.ix)).getD i) ((l.getLast?.map (·.ep)).getD p) r)
  | [], r, i, p => by simp [rowsB]
  | e :: l, r, i, p => by
    have ih := rows_app top l r e.ix e.ep
    show (okE e && decide (e.ix = i + 1) && decide (p ≤ e.ep) && decide (e.ep ≤ top) && rowsB top e.ix e.ep (l ++ r)) = ((okE e && decide (e.ix = i + 1) && decide (p ≤ e.ep) && decide (e.ep ≤ top) && rowsB top e.ix e.ep l) && rowsB top _ _ r)
    rw [ih]
    cases l with
    | nil => simp [Bool.and_assoc]
    | cons x l =>
      obtain ⟨y, hy⟩ : ∃ y, (x :: l).getLast? = some y := ⟨(x :: l).getLast (by simp), List.getLast?_eq_some_getLast (by simp)⟩
      rw [List.getLast?_cons_cons, hy]
      simp [Bool.and_assoc]
theorem rows_ix {top : Int} : ∀ {l : List En} {i p : Int}, rowsB top i p l = true → ∀ {j : Nat} {e : En}, l[j]? = some e → e.ix = i + j + 1 ∧ e.ep ≤ top
  | [], _, _, _, j, e, h => by simp at h
  | x :: l, i, p, h, j, e, hj => by
    unfold rowsB at h
    simp only [Bool.and_eq_true, decide_eq_true_eq] at h
    obtain ⟨⟨⟨⟨_, h2⟩, h3⟩, h4⟩, h5⟩ := h
    cases j with
    | zero =>
      simp only [List.getElem?_cons_zero, Option.some.injEq] at hj
      subst hj
      simp
      omega
    | succ j =>
      have := rows_ix h5 (j := j) (by simpa using hj)
      rw [h2] at this
      omega
/-- A message with other entries. -/
def Ms.wes (m : Ms) (l : List En) (i p : Int) : Ms := { m with es := l, ix := i, prev := p }
def Ms.wee (m : Ms) (l : List En) : Ms := { m with es := l }
theorem bits_not : ∀ b1 b2 b3 b4 b5 b6 b7 b8 b9 : Bool, bits .andNot .i64 (bits .or .i64 (bits .or .i64 (bits .or .i64 (bits .or .i64 (bits .or .i64 (bits .or .i64 (bits .or .i64 (bits .or .i64 (mk 1 b1) (mk 2 b2)) (mk 4 b3)) (mk 8 b4)) (mk 16 b5)) (mk 32 b6)) (mk 64 b7)) (mk 128 b8)) (mk 256 b9)) 143 = 0 ↔ (b5 = false ∧ b6 = false ∧ b7 = false ∧ b9 = false) := by decide
theorem notM_iff {m : Ms} (hk : m.kind = 2) : notMZ m = 0 ↔ ((m.ref != 0) = false ∧ (m.node != 0) = false ∧ m.is = false ∧ ((m.body.length : Int) != 0) = false) := by
  unfold notMZ usedMZ
  rw [hk]
  exact bits_not _ _ _ _ _ _ _ _ _
theorem okM_two {m : Ms} (hk : m.kind = 2) : okM m = true ↔ notMZ m = 0 ∧ contB m = true := by
  unfold okM
  rw [hk]
  have e1 : bits .and .i64 (msgF 2) 32 = 0 := by decide
  have e2 : bits .and .i64 (msgF 2) 128 = 128 := by decide
  rw [e1, e2]
  simp
theorem check_zero {m : Ms} (hk : m.kind = 2) (h : checkMZ m = 0) : m.es.length ≤ 32 ∧ m.body.length ≤ 1048576 ∧ notMZ m = 0 ∧ m.ix ≤ 4611686018427387904 ∧ rowsB m.ep m.ix m.prev m.es = true := by
  unfold checkMZ at h
  split at h
  · cases h
  · rename_i hn
    split at h
    · rename_i ho
      obtain ⟨h1, h2⟩ := (okM_two hk).1 ho
      unfold contB at h2
      simp only [Bool.and_eq_true, decide_eq_true_eq] at h2
      exact ⟨by omega, by omega, h1, h2.1, h2.2⟩
    · cases h
theorem check_of {m : Ms} (hk : m.kind = 2) (h1 : m.es.length ≤ 32) (h2 : m.body.length ≤ 1048576) (h3 : notMZ m = 0) (h4 : m.ix ≤ 4611686018427387904) (h5 : rowsB m.ep m.ix m.prev m.es = true) : checkMZ m = 0 := by
  unfold checkMZ
  rw [if_neg (by omega), if_pos ((okM_two hk).2 ⟨h3, by unfold contB; rw [decide_eq_true h4, h5]; rfl⟩)]
theorem check_not {m : Ms} (hk : m.kind = 2) (h1 : m.es.length ≤ 32) (h2 : m.body.length ≤ 1048576) (h5 : rowsB m.ep m.ix m.prev m.es = false) : checkMZ m = 2 := by
  unfold checkMZ
  rw [if_neg (by omega), if_neg]
  intro h
  have := ((okM_two hk).1 h).2
  unfold contB at this
  rw [h5] at this
  simp at this
section
variable {m : Ms} (hk : m.kind = 2) (h : checkMZ m = 0)
include hk h
theorem check_a (k : Nat) : checkMZ (m.wee (m.es.take k)) = 0 := by
  obtain ⟨h1, h2, h3, h4, h5⟩ := check_zero hk h
  refine check_of hk (by show (m.es.take k).length ≤ 32; rw [List.length_take]; omega) h2 ?_ h4 ?_
  · rw [notM_iff hk] at h3
    exact (notM_iff (m := m.wee (m.es.take k)) hk).2 h3
  · have h6 := rows_app m.ep (m.es.take k) (m.es.drop k) m.ix m.prev
    rw [List.take_append_drop, h5] at h6
    simp only [Bool.true_eq, Bool.and_eq_true] at h6
    exact h6.1
omit hk in
theorem check_b0 : checkMZ (m.wes (m.es.drop 0) (m.ix + (0 : Nat)) m.prev) = 0 := by
  have : m.wes (m.es.drop 0) (m.ix + (0 : Nat)) m.prev = m := by unfold Ms.wes; simp
  rw [this]; exact h
theorem check_b (k : Nat) (e : En) (he : m.es[k]? = some e) (hix : m.ix ≤ 2305843009213693952) : checkMZ (m.wes (m.es.drop (k + 1)) (m.ix + (k + 1 : Nat)) e.ep) = 0 := by
  obtain ⟨h1, h2, h3, h4, h5⟩ := check_zero hk h
  have hlt := (List.getElem?_eq_some_iff.1 he).1
  refine check_of hk (by show (m.es.drop (k + 1)).length ≤ 32; rw [List.length_drop]; omega) h2 ?_ (by show m.ix + (k + 1 : Nat) ≤ _; omega) ?_
  · rw [notM_iff hk] at h3
    exact (notM_iff (m := m.wes (m.es.drop (k + 1)) (m.ix + (k + 1 : Nat)) e.ep) hk).2 h3
  · have h6 := rows_app m.ep (m.es.take (k + 1)) (m.es.drop (k + 1)) m.ix m.prev
    rw [List.take_append_drop, h5] at h6
    simp only [Bool.true_eq, Bool.and_eq_true] at h6
    have hl : (m.es.take (k + 1)).getLast? = some e := by
      rw [List.getLast?_eq_getElem?, List.length_take, Nat.min_eq_left (by omega), Nat.add_sub_cancel, List.getElem?_take, if_pos (by omega), he]
    have h7 := h6.2
    rw [hl] at h7
    have h8 := (rows_ix h5 he).1
    simp only [Option.map_some, Option.getD_some] at h7
    rw [h8] at h7
    show rowsB m.ep (m.ix + (k + 1 : Nat)) e.ep (m.es.drop (k + 1)) = true
    rw [show m.ix + ((k + 1 : Nat) : Int) = m.ix + (k : Int) + 1 by omega]
    exact h7
theorem check_c (k : Nat) (hlt : k + 1 < m.es.length) : checkMZ (m.wee (m.es.take k ++ m.es.drop (k + 1))) = 2 := by
  obtain ⟨h1, h2, h3, h4, h5⟩ := check_zero hk h
  refine check_not hk (by show (m.es.take k ++ m.es.drop (k + 1)).length ≤ 32; rw [List.length_append, List.length_take, List.length_drop]; omega) h2 ?_
  show rowsB m.ep m.ix m.prev (m.es.take k ++ m.es.drop (k + 1)) = false
  cases hr : rowsB m.ep m.ix m.prev (m.es.take k ++ m.es.drop (k + 1)) with
  | false => rfl
  | true =>
    obtain ⟨e, he⟩ : ∃ e, m.es[k + 1]? = some e := ⟨_, List.getElem?_eq_getElem hlt⟩
    have h6 := (rows_ix h5 he).1
    have h7 : (m.es.take k ++ m.es.drop (k + 1))[k]? = some e := by
      rw [List.getElem?_append_right (by rw [List.length_take]; omega), List.length_take, Nat.min_eq_left (by omega), Nat.sub_self, List.getElem?_drop]
      exact he
    have h8 := (rows_ix hr h7).1
    omega
end
end Go.Proofs.Ytedmogacklbcmaa.Wir
namespace Go.Proofs.Ytedmogacklbcmaa.Wir
open Go.RowKit Cfg
theorem ETab.take {w : World} {B : Nat} {A : Option Addr} {n c a : Nat} {l : List En} (h : ETab w B (.slice A n c) l) (ha : a ≤ l.length) : ETab w B (.slice A a c) (l.take a) := by
  obtain ⟨hk, ht⟩ := h
  refine ⟨fun m hm => hk m (List.mem_of_mem_take hm), ?_⟩
  obtain ⟨A', c', e, hc, hl, hx⟩ := ht
  simp only [Value.slice.injEq] at e
  obtain ⟨rfl, rfl, rfl⟩ := e
  rw [List.length_take, Nat.min_eq_left ha]
  refine ⟨A, c, rfl, by omega, by unfold ecs; rw [flat_len En.cs 74 _ (fun m hm => En.len (hk m (List.mem_of_mem_take hm))), List.length_take, Nat.min_eq_left ha], fun hne => ?_⟩
  obtain ⟨b, off, e, hb, hx⟩ := hx (by omega)
  refine ⟨b, off, e, hb, fun j x hj => hx j x ?_⟩
  have h1 : ecs (l.take a) = (ecs l).take (a * 74) := (flat_take En.cs 74 l a (fun m hm => En.len (hk m hm))).symm
  rw [h1, List.getElem?_take] at hj
  split at hj
  · exact hj
  · cases hj
theorem ETab.drop {w : World} {B : Nat} {A : Option Addr} {n c i c' : Nat} {l : List En} (h : ETab w B (.slice A n c) l) (hi : i ≤ l.length) {A' : Option Addr} (hA : ∀ b off, A = some ⟨b, off, none⟩ → i < l.length → A' = some ⟨b, off + i * 74, none⟩) (hc' : l.length - i ≤ c') : ETab w B (.slice A' (l.length - i) c') (l.drop i) := by
  obtain ⟨hk, ht⟩ := h
  refine ⟨fun m hm => hk m (List.mem_of_mem_drop hm), ?_⟩
  have hn : n = l.length := by obtain ⟨_, _, e, _⟩ := ht; simp only [Value.slice.injEq] at e; exact e.2.1
  subst hn
  rw [List.length_drop]
  refine ⟨A', c', rfl, hc', by unfold ecs; rw [flat_len En.cs 74 _ (fun m hm => En.len (hk m (List.mem_of_mem_drop hm))), List.length_drop], fun hne => ?_⟩
  obtain ⟨b, off, e, hb, hx⟩ := ht.piece (i := i) (m := l.length - i) (by omega) hne
  refine ⟨b, off + i * 74, hA b off e (by omega), hb, fun j x hj => hx j x ?_⟩
  unfold ecs
  rw [flat_drop En.cs 74 l i (fun m hm => En.len (hk m hm)), List.take_of_length_le]
  · exact hj
  · rw [flat_len En.cs 74 _ (fun m hm => En.len (hk m (List.mem_of_mem_drop hm))), List.length_drop]
    exact Nat.le_refl _
theorem ETab.nil (w : World) (B : Nat) (A : Option Addr) (c : Nat) : ETab w B (.slice A 0 c) [] := ⟨fun _ h => by simp at h, Tab.nil 74 w B A c⟩
def OwnE (w : World) (base : Nat) (v : Value) (l : List En) : Prop := (∀ e ∈ l, e.K) ∧ w.ownsRow base 49 74 v l.length (ecs l)
theorem OwnE.tab {w : World} {base : Nat} {v : Value} {l : List En} (h : OwnE w base v l) : ETab w w.heap.size v l := ⟨h.1, Tab.of_own h.2⟩
set_option maxRecDepth 100000 in
theorem info_ent : ∃ i z, Try.prog.info? 49 = some i ∧ i.zero = some z ∧ i.size = 74 ∧ i.bytes ≤ 1000 ∧ z.cells.size = 74 := ⟨_, .agg zen.cs.toArray, rfl, by kernel_rfl, by kernel_rfl, by decide, by kernel_rfl⟩
theorem run_appE (w : World) {base B : Nat} {v y : Value} {l r : List En} (hown : OwnE w base v l) (hy : ETab w B y r) (hlen : l.length + r.length ≤ 1000000) (hbase : base ≤ w.heap.size) :
    ∃ v' w', (Builtin.append_ #[50, 50] 50 #[v, y]).run Try.prog w = .ok v' w' ∧ OwnE w' base v' (l ++ r) ∧ w.grownBy w' v.ownBlock ∧ (v'.ownBlock = v.ownBlock ∨ v'.ownBlock = some w.heap.size) := by
  obtain ⟨i, z, hi, hz, hs, hb, hzs⟩ := info_ent
  obtain ⟨v', w', h1, h2, h3, h4⟩ := RdL.run_app_tabG (P := Try.prog) w (ty := 50) Try.underlying50 hi hz hs rfl hzs (by decide) hown.2 hy.2 (ecs_one r) hlen hb hbase
  refine ⟨v', w', h1, ⟨fun x hx => ?_, ?_⟩, h3, h4⟩
  · rcases List.mem_append.1 hx with hx | hx
    · exact hown.1 x hx
    · exact hy.1 x hx
  · rw [List.length_append]
    have e : ecs (l ++ r) = ecs l ++ ecs r := List.flatMap_append
    rw [e]
    exact h2
/-- append, as one step of a region that draws its order. -/
theorem step_appE {w : World} {ops : Array Oper} {o : Oper} {a : Act} {K : Act → World → Prop} {Q : Exit → Act → World → Prop} {E : Prop} (hgd : o.guard = none) (s x : Operand) (hty : o.type = 50) (ho : o.op = .call { callee := .builtin .append, args := #[s, x], argTypes := #[50, 50] })
    {base B : Nat} {v y : Value} {l r : List En} (hsv : a.eval s = v) (hown : OwnE w base v l) (hyv : a.eval x = y) (hy : ETab w B y r) (hlen : l.length + r.length ≤ 1000000) (hbase : base ≤ w.heap.size)
    (h : ∀ v' w', OwnE w' base v' (l ++ r) → w.grownBy w' v.ownBlock → K (a.put o.dst v') w') : if Region.wanted o (yielded ops a.tmps) = true then Oper.wp Try.prog o a w K Q else E := by
  have hw : Region.wanted o (yielded ops a.tmps) = true := by simp [Region.wanted, hgd]
  rw [if_pos hw]
  obtain ⟨v', w', hr, h1, h2, _⟩ := run_appE w hown hy hlen hbase
  exact RdL.op_app s x hty ho hsv hyv hr (h v' w' h1 h2)
theorem ownE_new (w : World) : OwnE (w.alloc (.cells #[] 49)) w.heap.size (.slice (some ⟨w.heap.size, 0, none⟩) 0 0) [] :=
  ⟨fun _ h => by simp at h, rfl, .inr ⟨w.heap.size, 0, #[], rfl, Nat.le_refl _, heap_alloc_new w _, Nat.le_refl _, by simp, by decide, by simp [ecs]⟩⟩
/-! ### messages' rows -/
def zcs : List Value := [.int .i64 0, .int .u32 0, .int .u64 0, .int .u32 0, .int .u64 0, .int .u64 0, .int .i64 0, .bool false, .slice none 0 0, .slice none 0 0]
theorem zero_msg : (Try.prog.info? 52).bind (·.zero) = some (.agg zcs.toArray) := by kernel_rfl
theorem ms_one (m : Ms) (A B : Option Addr) (a b c d : Nat) : ∀ v ∈ m.cs (.slice A a b) (.slice B c d), v.oneCell' = true := by
  intro v hv
  simp only [Ms.cs, List.mem_cons, List.not_mem_nil, or_false] at hv
  rcases hv with rfl | rfl | rfl | rfl | rfl | rfl | rfl | rfl | rfl | rfl <;> rfl
theorem l_msg {w : World} {g : Nat} {m : Ms} {ve vb : Value} (h : Row w g (m.cs ve vb) 52) : (loadVar 52 ⟨g, 0, none⟩).run Try.prog w = .ok (.agg (m.cs ve vb).toArray) w := by
  rw [Pol.run_loadVar_sub (off := 0) (n := 10) w h Try.underlying52 rfl (by kernel_rfl) (by simp [Ms.cs]), List.drop_zero, List.take_of_length_le (by simp [Ms.cs])]
def newR (lo : Nat) : By.Mark Grew := ⟨fun v w => ∃ g, v = .pointer (some ⟨g, 0, none⟩) ∧ g < w.heap.size ∧ lo ≤ g ∧ Row w g zcs 52, fun _ _ _ ⟨g, h1, h2, h3, h4⟩ h => ⟨g, h1, Nat.lt_of_lt_of_le h2 h.size, h3, h4.below h h2⟩⟩
theorem newR_at (w : World) {lo : Nat} (h : lo ≤ w.heap.size) : (newR lo).on (.pointer (some ⟨w.heap.size, 0, none⟩)) (w.alloc (.cells zcs.toArray 52)) := ⟨_, rfl, by simp, h, Row.new rfl rfl⟩
theorem newR_ne {w : World} {lo : Nat} {x : Value} (h : (newR lo).on x w) : (Value.pointer (some ⟨w.heap.size, 0, none⟩)) ≠ x := by
  obtain ⟨g, rfl, hlt, _⟩ := h
  intro e
  simp only [Value.pointer.injEq, Option.some.injEq, Addr.mk.injEq] at e
  omega
/-! ### pieces -/
def loP (A : Option Addr) (c k : Nat) : Option Addr := if c = k then A else A.map (·.add (k * 74))
theorem loP_at {A : Option Addr} {c k : Nat} {b off : Nat} (h : A = some ⟨b, off, none⟩) (hc : k < c) : loP A c k = some ⟨b, off + k * 74, none⟩ := by
  subst h
  unfold loP
  rw [if_neg (by omega)]
  simp [Addr.add]
theorem add_zero (x : Addr) : x.add 0 = x := by
  obtain ⟨b, o, e⟩ := x
  cases e <;> simp [Addr.add]
theorem run_hi (w : World) {A : Option Addr} {n c k : Nat} (hk : k ≤ n) (hc : n ≤ c) : (Instr.sliceAt 50 (.slice A n c) none (some (.int .i64 (k : Int))) none).run Try.prog w = .ok (.slice A k c) w := by
  obtain ⟨i, z, hi, _, hs, _⟩ := info_ent
  have h1 : k ≤ c := by omega
  simp [Instr.sliceAt, Instr.slice, Instr.sliceBounds, Instr.sliceBound, asIntOf, run_underlying Try.underlying50, sizeOf, typeInfo, hi, h1, add_zero]
theorem run_lo (w : World) {A : Option Addr} {n c k : Nat} (hk : k ≤ n) : (Instr.sliceAt 50 (.slice A n c) (some (.int .i64 (k : Int))) none none).run Try.prog w = .ok (.slice (loP A c k) (n - k) (c - k)) w := by
  obtain ⟨i, z, hi, _, hs, _⟩ := info_ent
  have h1 : ¬ n < k := by omega
  simp [Instr.sliceAt, Instr.slice, Instr.sliceBounds, Instr.sliceBound, asIntOf, run_underlying Try.underlying50, sizeOf, typeInfo, hi, hs, h1, loP]
theorem op_slhi {o : Oper} {a : Act} {w : World} {K : Act → World → Prop} {Q : Exit → Act → World → Prop} (x y : Nat) (ho : o.op = .slice 50 (.tmp x) none (some (.tmp y)) none) {A : Option Addr} {n c k : Nat} (hx : a.tmps.getD x undef = .slice A n c) (hy : a.tmps.getD y undef = .int .i64 (k : Int)) (hk : k ≤ n) (hc : n ≤ c) (h : K (a.put o.dst (.slice A k c)) w) : o.wp Try.prog a w K Q := by
  have hx' : a.eval (.tmp x) = .slice A n c := hx
  have hy' : a.eval (.tmp y) = .int .i64 (k : Int) := hy
  unfold Oper.wp execOp
  simp only [ho, hx', hy', Option.map_some, Option.map_none, Sem.run_bind, Sem.run_pure, Result.andThen_ok, run_hi w hk hc]
  exact h
theorem op_sllo {o : Oper} {a : Act} {w : World} {K : Act → World → Prop} {Q : Exit → Act → World → Prop} (x y : Nat) (ho : o.op = .slice 50 (.tmp x) (some (.tmp y)) none none) {A : Option Addr} {n c k : Nat} (hx : a.tmps.getD x undef = .slice A n c) (hy : a.tmps.getD y undef = .int .i64 (k : Int)) (hk : k ≤ n) (h : K (a.put o.dst (.slice (loP A c k) (n - k) (c - k))) w) : o.wp Try.prog a w K Q := by
  have hx' : a.eval (.tmp x) = .slice A n c := hx
  have hy' : a.eval (.tmp y) = .int .i64 (k : Int) := hy
  unfold Oper.wp execOp
  simp only [ho, hx', hy', Option.map_some, Option.map_none, Sem.run_bind, Sem.run_pure, Result.andThen_ok, run_lo w hk]
  exact h
theorem run_bs_nil (w : World) : (Instr.buildSlice 50 0 #[]).run Try.prog w = .ok (.slice (some ⟨w.heap.size, 0, none⟩) 0 0) (w.alloc (.cells #[] 49)) := by
  obtain ⟨i, z, hi, hz, hs, hb, hzs⟩ := info_ent
  simp [Instr.buildSlice, run_underlying Try.underlying50, sizeOf, typeInfo, hi, Instr.fill, newRow]
  rw [show Array.range 0 = #[] from by simp [Array.range], Array.map_empty]
end Go.Proofs.Ytedmogacklbcmaa.Wir
