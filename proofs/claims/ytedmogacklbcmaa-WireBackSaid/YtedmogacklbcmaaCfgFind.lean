/- config: where a peer, a route is in a table in order. -/
import Derived.Test.YtedmogacklbcmaaRow
import Derived.Laws.CopyOwn
import Derived.Deep.RegionLaw
import Derived.Deep.RegionWith
import Derived.Test.YtedmogacklbcmaaCfgMem
import Derived.StillTail
import Derived.StillTailTactics
import Derived.Test.YtedmogacklbcmaaQuietB
namespace Go.Proofs.Ytedmogacklbcmaa
open Go.RowKit
variable {P : Program}
theorem step_storeSub {ops : Array Oper} {o : Oper} {a : Act} {w : World} {K : Act → World → Prop} {Q : Exit → Act → World → Prop} {E : Prop} (hgd : o.guard = none) (ty : TypeId) (x y : Operand) (ho : o.op = .store ty x y)
    {g off : Nat} {cs old : List Value} (hx : a.eval x = .pointer (some ⟨g, off, none⟩)) (hy : a.eval y = .agg cs.toArray) {t : TypeId} (h : Row w g old t)
    {n : Nat} (hi : (P.info? ty).map (·.size) = some n) (hn : cs.length = n) (hfit : off + cs.length ≤ old.length) (h1 : ∀ v ∈ cs, v.oneCell' = true)
    (hk : K (a.put o.dst undef) (w.setRow g (splice old off cs).toArray)) : if Region.wanted o (yielded ops a.tmps) = true then Oper.wp P o a w K Q else E := by
  have hw : Region.wanted o (yielded ops a.tmps) = true := by simp [Region.wanted, hgd]
  rw [if_pos hw]
  have hrun := run_storeCells_at (P := P) g off t cs 0 old.toArray w h (by simpa using hfit) h1
  cases hq : P.info? ty with
  | none => simp [hq] at hi
  | some i =>
    have hs : i.size = cs.length := by simp [hq] at hi; omega
    have hrun2 : (storeVar ty ⟨g, off, none⟩ (.agg cs.toArray)).run P w = .ok () (w.setRow g (splice old off cs).toArray) := by
      simp [storeVar, sizeOf, typeInfo, hq, Value.cells, hs, hrun, splice]
    unfold Oper.wp execOp
    simp only [ho, hx, hy, Instr.storeAt, Instr.sureAddr, Sem.run_bind, Sem.run_pure, Result.andThen_ok, hrun2]
    exact hk
end Go.Proofs.Ytedmogacklbcmaa
namespace Go.Proofs.Ytedmogacklbcmaa.Cfg
open Go.RowKit
set_option maxRecDepth 100000 in
theorem mixed : Try.prog.follows .mixedOrders = true := by kernel_rfl
theorem same_of {f : FuncId} {args : Array Value} {w : World} {v : Value} (h : Calls Try.prog f args w fun e w' => e = .returned v ∧ w = w') : Calls Try.prog f args w fun e w' => e = .returned v ∧ w' = w := h.mono fun _ _ ⟨a, b⟩ => ⟨a, b.symm⟩
def cmpZ (x y : Int) : Int := if x < y then -1 else if y < x then 1 else 0
set_option maxRecDepth 100000 in
theorem nanI_any (x : Int) (w : World) : Calls Try.prog 165 #[.int .i64 x] w fun e w' => e = .returned (.bool false) ∧ w = w' := by
  go_enter Try.func165, Try.ntmps165
  go_wp2
  go_ret
  exact ⟨rfl, rfl⟩
set_option maxRecDepth 100000 in
theorem nanU_any (x : Int) (w : World) : Calls Try.prog 166 #[.int .u32 x] w fun e w' => e = .returned (.bool false) ∧ w = w' := by
  go_enter Try.func166, Try.ntmps166
  go_wp2
  go_ret
  exact ⟨rfl, rfl⟩
set_option maxRecDepth 100000 in
theorem cmpI_any (x y : Int) (w : World) : Calls Try.prog 138 #[.int .i64 x, .int .i64 y] w fun e w' => e = .returned (.int .i64 (cmpZ x y)) ∧ w = w' := by
  by_cases h1 : x < y
  · rw [show cmpZ x y = -1 from if_pos h1]
    go_enter Try.func138, Try.ntmps138
    go_wp2_with (first | (go_at_call 165; refine (nanI_any _ _).mono ?_; rintro e w' ⟨rfl, rfl⟩) | fail)
    go_ret
    exact ⟨rfl, rfl⟩
  · by_cases h2 : y < x
    · rw [show cmpZ x y = 1 by unfold cmpZ; rw [if_neg h1, if_pos h2]]
      go_enter Try.func138, Try.ntmps138
      go_wp2_with (first | (go_at_call 165; refine (nanI_any _ _).mono ?_; rintro e w' ⟨rfl, rfl⟩) | fail)
      go_ret
      exact ⟨rfl, rfl⟩
    · rw [show cmpZ x y = 0 by unfold cmpZ; rw [if_neg h1, if_neg h2]]
      go_enter Try.func138, Try.ntmps138
      go_wp2_with (first | (go_at_call 165; refine (nanI_any _ _).mono ?_; rintro e w' ⟨rfl, rfl⟩) | fail)
      go_ret
      exact ⟨rfl, rfl⟩
set_option maxRecDepth 100000 in
theorem cmpU_any (x y : Int) (w : World) : Calls Try.prog 140 #[.int .u32 x, .int .u32 y] w fun e w' => e = .returned (.int .i64 (cmpZ x y)) ∧ w = w' := by
  by_cases h1 : x < y
  · rw [show cmpZ x y = -1 from if_pos h1]
    go_enter Try.func140, Try.ntmps140
    go_wp2_with (first | (go_at_call 166; refine (nanU_any _ _).mono ?_; rintro e w' ⟨rfl, rfl⟩) | fail)
    go_ret
    exact ⟨rfl, rfl⟩
  · by_cases h2 : y < x
    · rw [show cmpZ x y = 1 by unfold cmpZ; rw [if_neg h1, if_pos h2]]
      go_enter Try.func140, Try.ntmps140
      go_wp2_with (first | (go_at_call 166; refine (nanU_any _ _).mono ?_; rintro e w' ⟨rfl, rfl⟩) | fail)
      go_ret
      exact ⟨rfl, rfl⟩
    · rw [show cmpZ x y = 0 by unfold cmpZ; rw [if_neg h1, if_neg h2]]
      go_enter Try.func140, Try.ntmps140
      go_wp2_with (first | (go_at_call 166; refine (nanU_any _ _).mono ?_; rintro e w' ⟨rfl, rfl⟩) | fail)
      go_ret
      exact ⟨rfl, rfl⟩
def orZ (x y : Int) : Int := if x ≠ 0 then x else y
set_option maxRecDepth 100000 in
theorem or_two {w : World} {g : Nat} {x y : Int} {t : TypeId} (hr : Row w g [.int .i64 x, .int .i64 y] t) : Calls Try.prog 139 #[.slice (some ⟨g, 0, none⟩) 2 2] w fun e w' => e = .returned (.int .i64 (orZ x y)) ∧ w = w' := by
  have c0 : w.cell? ⟨g, 0, none⟩ = some (.int .i64 x) := hr.cell rfl
  have c1 : w.cell? ⟨g, 1, none⟩ = some (.int .i64 y) := hr.cell rfl
  clear hr
  obtain ⟨z, hz⟩ : ∃ z, orZ x y = z := ⟨_, rfl⟩
  rw [hz]
  have Hz := Lib.hid hz
  clear hz
  go_enter Try.func139, Try.ntmps139
  go_wp2
  go_loopw [8] (fun iv wr => wr = w ∧ ∃ i : Nat, iv = .int .i64 (i : Int) ∧ i ≤ 2 ∧ (1 ≤ i → x = 0) ∧ (2 ≤ i → y = 0)) (fun iv _ => 2 - (intOf iv).toNat)
  case atStart => exact ⟨rfl, 0, rfl, by omega, by omega, by omega⟩
  case round =>
    obtain ⟨rfl, i, rfl, hi, hx, hy⟩ := hrel
    match i, hi with
    | 0, _ =>
      clear hx hy
      by_cases h1 : x = 0
      · subst h1
        go_wp2
        go_roundw
        case rel => exact ⟨trivial, 1, by simp, by omega, fun _ => trivial, by omega⟩
        case measure => decide
      · have h2 : (x == 0) = false := by simpa using h1
        go_wp2
        go_ret
        exact ⟨by have h := Hz.out; simp [orZ, h1] at h; subst h; rfl, rfl⟩
    | 1, _ =>
      have hx' := hx (by omega)
      subst hx'
      clear hx hy
      by_cases h1 : y = 0
      · subst h1
        go_wp2
        go_roundw
        case rel => exact ⟨trivial, 2, by simp, by omega, fun _ => trivial, fun _ => trivial⟩
        case measure => decide
      · have h2 : (y == 0) = false := by simpa using h1
        go_wp2
        go_ret
        exact ⟨by have h := Hz.out; simp [orZ] at h; subst h; rfl, rfl⟩
    | 2, _ =>
      have hx' := hx (by omega)
      have hy' := hy (by omega)
      subst hx' hy'
      go_wp2
      go_ret
      exact ⟨by have h := Hz.out; simp [orZ] at h; subst h; rfl, rfl⟩
set_option maxRecDepth 100000 in
theorem byID_any (m : Mb) (id : Int) (w : World) : Calls Try.prog 89 #[m.val, .int .i64 id] w fun e w' => e = .returned (.int .i64 (cmpZ m.id id)) ∧ Below w.heap.size w w' := by
  unfold Mb.val
  have hr : Row (w.alloc (.cells m.cs.toArray 95)) w.heap.size m.cs 95 := Row.new rfl rfl
  have c0 : (w.alloc (.cells m.cs.toArray 95)).cell? ⟨w.heap.size, 0, none⟩ = some (.int .i64 m.id) := hr.cell rfl
  clear hr
  go_enter Try.func89, Try.ntmps89
  go_wp2_with (first | (go_at_call 138; refine (cmpI_any _ _ _).mono ?_; rintro e w' ⟨rfl, rfl⟩) | fail)
  go_ret
  exact ⟨rfl, (Below.refl _ w).alloc (Nat.le_refl _) _⟩
/-- Where a route is from an address and bits in the order of routes. -/
def preZ (r : Rt) (a b : Int) : Int := orZ (cmpZ r.addr a) (cmpZ r.bits b)
set_option maxRecDepth 100000 in
set_option maxHeartbeats 1000000 in
theorem byPre_any (r : Rt) (a b : Int) (w : World) : Calls Try.prog 91 #[r.val, .int .u32 a, .int .i64 b] w fun e w' => e = .returned (.int .i64 (preZ r a b)) ∧ Below w.heap.size w w' := by
  unfold Rt.val
  have hr : Row (w.alloc (.cells r.cs.toArray 98)) w.heap.size r.cs 98 := Row.new rfl rfl
  have c0 : (w.alloc (.cells r.cs.toArray 98)).cell? ⟨w.heap.size, 0, none⟩ = some (.int .u32 r.addr) := hr.cell rfl
  have c1 : (w.alloc (.cells r.cs.toArray 98)).cell? ⟨w.heap.size, 1, none⟩ = some (.int .i64 r.bits) := hr.cell rfl
  clear hr
  unfold preZ
  obtain ⟨x, hx⟩ : ∃ x, cmpZ r.addr a = x := ⟨_, rfl⟩
  obtain ⟨y, hy⟩ : ∃ y, cmpZ r.bits b = y := ⟨_, rfl⟩
  have HX := Lib.hid (fun W => hx ▸ cmpU_any r.addr a W)
  have HY := Lib.hid (fun W => hy ▸ cmpI_any r.bits b W)
  rw [hx, hy]
  clear hx hy
  go_enter Try.func91, Try.ntmps91
  go_wp2_with fail
  obtain ⟨W, hW⟩ : ∃ W, w.alloc (.cells r.cs.toArray 98) = W := ⟨_, rfl⟩
  have hB : Below w.heap.size w W := hW ▸ (Below.refl _ w).alloc (Nat.le_refl _) _
  rw [hW] at c0 c1 ⊢
  have HB := Lib.hid hB
  have HO := Lib.hid (fun (W2 : World) t => or_two (w := (W2.alloc (.cells #[.int .i64 x, .int .i64 y] t)).drew) (x := x) (y := y) (show Row (W2.alloc (.cells #[.int .i64 x, .int .i64 y] t)) W2.heap.size _ t from Row.new rfl rfl))
  clear hW hB
  refine wp_region_still_tail 8 mixed (by kernel_rfl) ?_
  simp only [List.take_succ_cons, List.take_zero, List.drop_succ_cons, List.drop_zero]
  repeat (first | still_step | still_call (same_of (HX.out _)) | still_call (same_of (HY.out _)))
  try refine wpStill_nil ?_
  change wpList _ _ _ _ _ W.drew
  clear c0 c1
  go_wp2_with (first | (go_at_call 139; refine (HO.out _ _).mono ?_; rintro e w' ⟨rfl, rfl⟩) | fail)
  go_ret
  exact ⟨rfl, (HB.out.alloc HB.out.size _).drew⟩
end Go.Proofs.Ytedmogacklbcmaa.Cfg
namespace Go.Proofs.Ytedmogacklbcmaa.Cfg
open Go.RowKit
theorem pos_of {α : Type} {key : α → Ky} {k : Ky} {l : List α} {lo : Nat} (hle : lo ≤ l.length) (h1 : ∀ (t : Nat) x, t < lo → l[t]? = some x → klt (key x) k) (h2 : ∀ (t : Nat) x, lo ≤ t → l[t]? = some x → ¬ klt (key x) k) : lo = pos key k l := by
  unfold pos
  rw [← List.take_append_drop lo l, List.countP_append]
  have e1 : (l.take lo).countP (fun x => decide (klt (key x) k)) = lo := by
    have e : (l.take lo).countP (fun x => decide (klt (key x) k)) = (l.take lo).length := by
      rw [List.countP_eq_length]
      intro x hx
      obtain ⟨t, ht⟩ := List.getElem?_of_mem hx
      rw [List.getElem?_take] at ht
      split at ht
      · rename_i hlt
        simpa using h1 t x hlt ht
      · cases ht
    rw [e, List.length_take, Nat.min_eq_left hle]
  have e2 : (l.drop lo).countP (fun x => decide (klt (key x) k)) = 0 := by
    rw [List.countP_eq_zero]
    intro x hx
    obtain ⟨t, ht⟩ := List.getElem?_of_mem hx
    rw [List.getElem?_drop] at ht
    simpa using h2 (lo + t) x (by omega) ht
  omega
theorem ord_mono {α : Type} {key : α → Ky} {k : Ky} {l : List α} (h : Ord key l) {a b : Nat} {x y : α} (hab : a ≤ b) (hx : l[a]? = some x) (hy : l[b]? = some y) (hk : ¬ klt (key x) k) : ¬ klt (key y) k := by
  intro hl
  rcases Nat.lt_or_ge a b with hlt | hge
  · have h1 := (List.getElem?_eq_some_iff.1 hx)
    have h2 := (List.getElem?_eq_some_iff.1 hy)
    have := List.pairwise_iff_getElem.1 h a b h1.1 h2.1 hlt
    rw [h1.2, h2.2] at this
    exact hk (klt_trans this hl)
  · have : a = b := by omega
    subst this
    rw [hx] at hy
    cases hy
    exact hk hl
theorem cmpZ_lt (x y : Int) : (0 ≤ cmpZ x y) ↔ ¬ x < y := by
  unfold cmpZ
  split
  · omega
  · split <;> omega
theorem cmpZ_eq (x y : Int) : cmpZ x y = 0 ↔ x = y := by
  unfold cmpZ
  split
  · omega
  · split <;> omega
theorem m_lt (m : Mb) (id : Int) : (0 ≤ cmpZ m.id id) ↔ ¬ klt m.key (id, 0) := by
  rw [cmpZ_lt]
  unfold klt Mb.key
  simp
theorem m_eq (m : Mb) (id : Int) : (cmpZ m.id id = 0) ↔ m.key = (id, 0) := by
  rw [cmpZ_eq]
  simp [Mb.key]
theorem r_lt (r : Rt) (a b : Int) : (0 ≤ preZ r a b) ↔ ¬ klt r.key (a, b) := by
  unfold preZ orZ klt Rt.key cmpZ
  simp only
  by_cases h1 : r.addr < a
  · simp [h1]
  · by_cases h2 : a < r.addr
    · simp [h1, h2]; omega
    · have h3 : r.addr = a := by omega
      by_cases h4 : r.bits < b
      · simp [h3, h4]
      · by_cases h5 : b < r.bits
        · simp [h3, h4, h5]
        · simp [h3, h4, h5]
theorem r_eq (r : Rt) (a b : Int) : (preZ r a b = 0) ↔ r.key = (a, b) := by
  unfold preZ orZ Rt.key
  have h1 := cmpZ_eq r.addr a
  have h2 := cmpZ_eq r.bits b
  simp only [Prod.mk.injEq]
  split
  · rename_i h
    constructor
    · intro h'; exact absurd h' h
    · rintro ⟨h3, _⟩; exact absurd (h1.2 h3) h
  · rename_i h
    have h' : cmpZ r.addr a = 0 := by omega
    rw [h2]
    exact ⟨fun h3 => ⟨h1.1 h', h3⟩, fun h3 => h3.2⟩

set_option maxRecDepth 100000 in
theorem where1_any (m : Mb) (hk : m.ky.length = 32) (id : Int) {w : World} {g : Nat} (hg : w.cell? ⟨g, 0, none⟩ = some (.int .i64 id)) : Calls Try.prog 142 #[m.val, .pointer (some ⟨g, 0, none⟩)] w fun e w' => e = .returned (.int .i64 (cmpZ m.id id)) ∧ Below w.heap.size w w' := by
  have hr : Row (w.alloc (.cells m.cs.toArray 95)) w.heap.size m.cs 95 := Row.new rfl rfl
  have hl := run_loadVar_cells (P := Try.prog) (w.alloc (.cells m.cs.toArray 95)) (b := w.heap.size) (off := 0) (n := 34) Try.underlying95 rfl (by kernel_rfl) (Mb.len hk) (fun j x hx => by rw [Nat.zero_add]; exact hr.cell hx)
  have hb : Below w.heap.size w (w.alloc (.cells m.cs.toArray 95)) := (Below.refl _ w).alloc (Nat.le_refl _) _
  have c1 : (w.alloc (.cells m.cs.toArray 95)).cell? ⟨g, 0, none⟩ = _ := (hb.cell (p := ⟨g, 0, none⟩) (World.block_lt_of_cell? _ _ hg)).trans hg
  have HL := Lib.hid hl
  have HB := Lib.hid hb
  clear hr hl hb hg
  unfold Mb.val
  go_enter Try.func142, Try.ntmps142
  go_wp2_with (first
    | (refine QB.wpList_ld 95 rfl rfl HL.out rfl ?_)
    | (go_at_call 89; refine (byID_any m id _).mono ?_; rintro e w' ⟨rfl, hb⟩; have HB2 := Lib.hid (nextB HB.out (Nat.le_refl _) hb); clear hb)
    | fail)
  go_ret
  exact ⟨rfl, HB2.out⟩
set_option maxRecDepth 100000 in
theorem f1_any {w : World} {B : Nat} {v : Value} {l : List Mb} (ht : MTab w B v l) (hN : l.length ≤ 1000000) {i : Nat} {m : Mb} (hm : l[i]? = some m) {gt gw : Nat} (id : Int) (hB : B ≤ w.heap.size) {g : Nat} (hg : w.cell? ⟨g, 0, none⟩ = some (.int .i64 id)) (hgt : w.cell? ⟨gt, 0, none⟩ = some v)
    (hgw : w.cell? ⟨gw, 0, none⟩ = some (.func (.func 142) #[] #[.pointer (some ⟨g, 0, none⟩)])) :
    Calls Try.prog 168 #[.int .i64 (i : Int), .pointer (some ⟨gw, 0, none⟩), .pointer (some ⟨gt, 0, none⟩)] w fun e w' => e = .returned (.bool (decide (0 ≤ cmpZ m.id id))) ∧ Below w.heap.size w w' := by
  obtain ⟨A, c, rfl, hc⟩ := (ht.2).shape
  obtain ⟨b0, off, rfl, hb, _, hld⟩ := ht.at hm
  have hk := ht.1 m (List.mem_of_getElem? hm)
  have hi := (List.getElem?_eq_some_iff.1 hm).1
  have FG := Lib.hid (fun w' (h : Below w.heap.size w w') => (h.cell (p := ⟨g, 0, none⟩) (World.block_lt_of_cell? _ _ hg)).trans hg)
  have FT := Lib.hid (fun w' (h : Below w.heap.size w w') => (h.cell (p := ⟨gt, 0, none⟩) (World.block_lt_of_cell? _ _ hgt)).trans hgt)
  have FW := Lib.hid (fun w' (h : Below w.heap.size w w') => (h.cell (p := ⟨gw, 0, none⟩) (World.block_lt_of_cell? _ _ hgw)).trans hgw)
  have FL := Lib.hid (fun w' (h : Below w.heap.size w w') => by
    obtain ⟨b', off', e, _, _, hl⟩ := ((ht.below (h.mono hB)).at hm)
    cases e
    exact hl)
  have hi' : (i : Int) < (l.length : Int) := by omega
  have hi2 : (i : Int) < (9223372036854775807 : Int) := by omega
  clear ht hg hgt hgw hld hm
  go_enter Try.func168, Try.ntmps168
  go_wp2_with fail
  refine QB.region mixed (by kernel_rfl) ?_
  repeat (first
    | (refine QB.ld rfl 95 rfl rfl (fun w' hw' => FL.out w' hw') ?_
       simp only [Act.put, List.setIfInBounds_toArray, List.set_cons_succ, List.set_cons_zero])
    | (apply QB.val rfl
       · intro w' hw'
         have f1 := FT.out w' hw'
         have f2 := FW.out w' hw'
         go_simp <;> rfl
       simp only [Act.put, List.setIfInBounds_toArray, List.set_cons_succ, List.set_cons_zero])
    | (refine QB.call rfl (fun w' hw' => ?_) (fun w' hw' => (where1_any m hk id (FG.out w' hw')).mono fun _ _ ⟨h1, h2⟩ => ⟨h1, nextB hw' (Nat.le_refl _) h2⟩) ?_
       · go_simp <;> rfl
       simp only [Act.put, List.setIfInBounds_toArray, List.set_cons_succ, List.set_cons_zero]))
  refine wpQuiet_nil fun w' hw' => ?_
  have HW := Lib.hid hw'
  clear hw'
  go_wp2
  go_ret
  exact ⟨rfl, HW.out⟩
set_option maxRecDepth 100000 in
set_option maxHeartbeats 1000000 in
theorem Search1_any (n : Nat) (hn : n ≤ 1000000) (p : Nat → Bool) (x y : Value) {w : World} (hf : ∀ (W : World) (i : Nat), Below w.heap.size w W → i < n → Calls Try.prog 168 #[.int .i64 (i : Int), x, y] W fun e w' => e = .returned (.bool (p i)) ∧ Below W.heap.size W w')
    (hmono : ∀ a b, a ≤ b → b < n → p a = true → p b = true) :
    Calls Try.prog 167 #[.int .i64 (n : Int), .func (.func 168) #[] #[x, y]] w fun e w' => ∃ lo : Nat, e = .returned (.int .i64 (lo : Int)) ∧ lo ≤ n ∧ (∀ t, t < lo → p t = false) ∧ (∀ t, lo ≤ t → t < n → p t = true) ∧ Below w.heap.size w w' := by
  have HF := Lib.hid hf
  have M := Lib.hid hmono
  have Hn := Lib.hid hn
  clear hf hmono hn
  go_enter Try.func167, Try.ntmps167
  go_wp2
  go_loopw [5, 6] (fun s5 s6 wr => ∃ lo hi : Nat, s5 = .int .i64 (lo : Int) ∧ s6 = .int .i64 (hi : Int) ∧ lo ≤ hi ∧ hi ≤ n ∧ Below w.heap.size w wr ∧ Hid ((∀ t, t < lo → p t = false) ∧ (∀ t, hi ≤ t → t < n → p t = true))) (fun s5 s6 _ => (intOf s6).toNat - (intOf s5).toNat)
  case atStart => exact ⟨0, n, rfl, rfl, Nat.zero_le _, Nat.le_refl _, Below.refl _ _, Lib.hid ⟨fun t ht => absurd ht (Nat.not_lt_zero _), fun t h1 h2 => by omega⟩⟩
  case round =>
    obtain ⟨lo, hi, rfl, rfl, hlh, hin, hb, I⟩ := hrel
    have HB := Lib.hid hb
    have Hin := Lib.hid hin
    have Hlh := Lib.hid hlh
    have hb1 : (lo : Int) ≤ 1000000 := by have := Hn.out; omega
    have hb2 : (hi : Int) ≤ 1000000 := by have := Hn.out; omega
    clear hb hin
    by_cases hlt : lo < hi
    · have hlt' : (lo : Int) < (hi : Int) := by omega
      obtain ⟨md, hmd⟩ : ∃ md, (lo + hi) / 2 = md := ⟨_, rfl⟩
      have Hmd := Lib.hid (show lo ≤ md ∧ md < hi by omega)
      have hc := HF.out wr md HB.out (by have := Hin.out; have := Hmd.out; omega)
      have e1 : ((lo : Int) + (hi : Int)) / 2 = (md : Int) := by omega
      have hb3 : (md : Int) ≤ 1000000 := by have := Hmd.out; omega
      have hb4 : 0 ≤ (md : Int) := by omega
      clear hmd
      cases hp : p md <;> rw [hp] at hc
      · have HP := Lib.hid hp
        have HC := Lib.hid hc
        clear hp hc hlt
        go_wp2_with (first | (go_at_call 168; refine HC.out.mono ?_; rintro e w' ⟨rfl, hb⟩; have HB2 := Lib.hid (nextB HB.out (Nat.le_refl _) hb); clear hb) | fail)
        go_roundw
        case rel =>
          refine ⟨md + 1, hi, by simp, rfl, by have := Hmd.out; omega, Hin.out, HB2.out, Lib.hid ⟨fun t ht => ?_, I.out.2⟩⟩
          cases hpt : p t with
          | false => rfl
          | true =>
            have := M.out t md (by omega) (by have := Hmd.out; have := Hin.out; omega) hpt
            rw [HP.out] at this
            cases this
        case measure => have := Hmd.out; simp [intOf]; omega
      · have HP := Lib.hid hp
        have HC := Lib.hid hc
        clear hp hc hlt
        go_wp2_with (first | (go_at_call 168; refine HC.out.mono ?_; rintro e w' ⟨rfl, hb⟩; have HB2 := Lib.hid (nextB HB.out (Nat.le_refl _) hb); clear hb) | fail)
        go_roundw
        case rel =>
          refine ⟨lo, md, rfl, rfl, Hmd.out.1, by have := Hmd.out; have := Hin.out; omega, HB2.out, Lib.hid ⟨I.out.1, fun t ht htn => M.out md t ht htn HP.out⟩⟩
        case measure => have := Hmd.out; simp [intOf]; omega
    · have hlt' : ¬ (lo : Int) < (hi : Int) := by omega
      have e : lo = hi := by omega
      subst e
      go_wp2
      go_ret
      exact ⟨lo, rfl, Hin.out, I.out.1, I.out.2, HB.out⟩
set_option maxRecDepth 100000 in
set_option maxHeartbeats 1000000 in
theorem find1_any {w : World} {B : Nat} {v : Value} {l : List Mb} (ht : MTab w B v l) (hN : l.length ≤ 1000000) (hO : Ord Mb.key l) (id : Int) (hB : B ≤ w.heap.size) {g : Nat} (hg : w.cell? ⟨g, 0, none⟩ = some (.int .i64 id)) :
    Calls Try.prog 141 #[v, .func (.func 142) #[] #[.pointer (some ⟨g, 0, none⟩)]] w fun e w' => e = .returned (.tuple #[.int .i64 (pos Mb.key (id, 0) l : Int), .bool (has Mb.key (id, 0) l)]) ∧ Below w.heap.size w w' := by
  obtain ⟨A, c, rfl, hc⟩ := (ht.2).shape
  have HT := Lib.hid ht
  have HO := Lib.hid hO
  have HN := Lib.hid hN
  have HBw := Lib.hid hB
  obtain ⟨W0, hW0⟩ : ∃ W0, (w.alloc (.cells #[.slice A l.length c] 22)).alloc (.cells #[.func (.func 142) #[] #[.pointer (some ⟨g, 0, none⟩)]] 184) = W0 := ⟨_, rfl⟩
  have hb0 : Below w.heap.size w W0 := hW0 ▸ ((Below.refl _ w).alloc (Nat.le_refl _) _).alloc (by simp) _
  have hr0 : Row W0 w.heap.size [.slice A l.length c] 22 := hW0 ▸ (Row.new rfl rfl : Row (w.alloc (.cells #[.slice A l.length c] 22)) w.heap.size [.slice A l.length c] 22).alloc _
  have hr1 : Row W0 (w.heap.size + 1) [.func (.func 142) #[] #[.pointer (some ⟨g, 0, none⟩)]] 184 := hW0 ▸ Row.new (by simp) rfl
  have c2 : W0.cell? ⟨w.heap.size, 0, none⟩ = some (.slice A l.length c) := hr0.cell rfl
  have c3 : W0.cell? ⟨w.heap.size + 1, 0, none⟩ = some (.func (.func 142) #[] #[.pointer (some ⟨g, 0, none⟩)]) := hr1.cell rfl
  have HB0 := Lib.hid hb0
  have Hs0 : Hid (w.heap.size + 1 < W0.heap.size) := hr1.lt
  have FT := Lib.hid (fun w' (h : Below W0.heap.size W0 w') => (h.cell (p := ⟨w.heap.size, 0, none⟩) hr0.lt).trans c2)
  have FW := Lib.hid (fun w' (h : Below W0.heap.size W0 w') => (h.cell (p := ⟨w.heap.size + 1, 0, none⟩) hr1.lt).trans c3)
  have FG := Lib.hid (fun w' (h : Below W0.heap.size W0 w') => ((hb0.trans (h.mono hb0.size)).cell (p := ⟨g, 0, none⟩) (World.block_lt_of_cell? _ _ hg)).trans hg)
  have HS := Lib.hid (Search1_any l.length hN (fun t => match l[t]? with | some m => decide (0 ≤ cmpZ m.id id) | none => true) (.pointer (some ⟨w.heap.size + 1, 0, none⟩)) (.pointer (some ⟨w.heap.size, 0, none⟩)) (w := W0)
    (fun W i hbW hi => by
      have hm : l[i]? = some l[i] := List.getElem?_eq_getElem hi
      have := f1_any (w := W) (B := B) (ht.below ((hb0.trans (hbW.mono hb0.size)).mono hB)) hN hm id (Nat.le_trans hB (Nat.le_trans hb0.size hbW.size)) (FG.out W hbW) (FT.out W hbW) (FW.out W hbW)
      simp only [hm]
      exact this)
    (fun a' b' hab hb' ha => by
      have hma : l[a']? = some (l[a']'(by omega)) := List.getElem?_eq_getElem (by omega)
      have hmb : l[b']? = some (l[b']'hb') := List.getElem?_eq_getElem hb'
      simp only [hma, hmb, decide_eq_true_eq, m_lt] at ha ⊢
      exact ord_mono hO hab hma hmb ha))
  obtain ⟨ps, hps⟩ : ∃ ps, pos Mb.key (id, 0) l = ps := ⟨_, rfl⟩
  obtain ⟨th, hth⟩ : ∃ th, has Mb.key (id, 0) l = th := ⟨_, rfl⟩
  rw [hps, hth]
  have Hps := Lib.hid hps
  have Hth := Lib.hid hth
  clear ht hO hN hB hg hb0 hr0 hr1 hps hth
  go_enter Try.func141, Try.ntmps141
  go_wp2_with (first
    | (go_at_call 167; refine HS.out.mono ?_; rintro e w1 ⟨lo, rfl, hlo, hl1, hl2, hb1⟩; have Hlo := Lib.hid hlo; have HL1 := Lib.hid hl1; have HL2 := Lib.hid hl2; have HB1 := Lib.hid hb1; clear hlo hl1 hl2 hb1)
    | fail)
  have Hpos : Hid (lo = pos Mb.key (id, 0) l) := Lib.hid (pos_of Hlo.out (fun t m ht' hm => by
      have := HL1.out t ht'
      simp only [hm, decide_eq_false_iff_not, m_lt, Classical.not_not] at this
      exact this) (fun t m ht' hm => by
      have := HL2.out t ht' (List.getElem?_eq_some_iff.1 hm).1
      simp only [hm, decide_eq_true_eq, m_lt] at this
      exact this))
  have FT1 := Lib.hid (fun w' (h : Below w1.heap.size w1 w') => FT.out w' (HB1.out.trans (h.mono HB1.out.size)))
  have FW1 := Lib.hid (fun w' (h : Below w1.heap.size w1 w') => FW.out w' (HB1.out.trans (h.mono HB1.out.size)))
  have FG1 := Lib.hid (fun w' (h : Below w1.heap.size w1 w') => FG.out w' (HB1.out.trans (h.mono HB1.out.size)))
  have HB01 : Hid (Below w.heap.size w w1) := Lib.hid (HB0.out.trans (HB1.out.mono HB0.out.size))
  clear hW0 c2 c3
  have e1 : lo = ps := Hpos.out.trans Hps.out
  subst e1
  by_cases hlt : lo < l.length
  · have hm : l[lo]? = some l[lo] := List.getElem?_eq_getElem hlt
    obtain ⟨m, hmm⟩ : ∃ m, l[lo] = m := ⟨_, rfl⟩
    rw [hmm] at hm
    have hlt' : (lo : Int) < (l.length : Int) := by omega
    have hlt2 : (lo : Int) < 9223372036854775807 := by have := HN.out; omega
    have hk := HT.out.1 m (List.mem_of_getElem? hm)
    have FL1 := Lib.hid (fun w' (h : Below w1.heap.size w1 w') => (HT.out.below ((HB01.out.trans (h.mono HB01.out.size)).mono HBw.out)).at hm)
    obtain ⟨b0, off, e, _, _, _⟩ := FL1.out w1 (Below.refl _ _)
    subst e
    have FL2 := Lib.hid (fun w' (h : Below w1.heap.size w1 w') => by
      obtain ⟨b', off', e, _, _, hl⟩ := FL1.out w' h
      cases e
      exact hl)
    have hbool : (decide (cmpZ m.id id = 0)) = has Mb.key (id, 0) l := by
      cases hh : has Mb.key (id, 0) l with
      | true =>
        obtain ⟨m', hm', hk'⟩ := at_pos (id, 0) HO.out hh
        rw [← Hpos.out, hm] at hm'
        cases hm'
        exact decide_eq_true ((m_eq m id).2 hk')
      | false =>
        rw [Hpos.out] at hm
        exact decide_eq_false fun e => not_at hh hm ((m_eq m id).1 e)
    have HBool := Lib.hid (hbool.trans Hth.out)
    clear hbool FL1 hmm
    refine QB.region mixed (by kernel_rfl) ?_
    repeat (first
      | (refine QB.ld rfl 95 rfl rfl (fun w' hw' => FL2.out w' hw') ?_
         simp only [Act.put, List.setIfInBounds_toArray, List.set_cons_succ, List.set_cons_zero])
      | (apply QB.val rfl
         · intro w' hw'
           have f1 := FT1.out w' hw'
           have f2 := FW1.out w' hw'
           go_simp <;> rfl
         simp only [Act.put, List.setIfInBounds_toArray, List.set_cons_succ, List.set_cons_zero])
      | (refine QB.call rfl (fun w' hw' => ?_) (fun w' hw' => (where1_any m hk id (FG1.out w' hw')).mono fun _ _ ⟨h1, h2⟩ => ⟨h1, nextB hw' (Nat.le_refl _) h2⟩) ?_
         · go_simp <;> rfl
         simp only [Act.put, List.setIfInBounds_toArray, List.set_cons_succ, List.set_cons_zero]))
    refine wpQuiet_nil fun w' hw' => ?_
    have HW := Lib.hid (nextB HB01.out (Nat.le_refl _) hw')
    clear hw'
    go_wp2
    go_ret2
    exact ⟨congrArg (fun b => Ending.returned (Value.tuple #[.int .i64 (lo : Int), .bool b])) HBool.out, HW.out⟩
  · have hlo : lo = l.length := by have := Hlo.out; omega
    have hlt' : ¬ (lo : Int) < (l.length : Int) := by omega
    have hbool : has Mb.key (id, 0) l = false := by
      cases hh : has Mb.key (id, 0) l with
      | false => rfl
      | true =>
        obtain ⟨m', hm', _⟩ := at_pos (id, 0) HO.out hh
        rw [← Hpos.out, hlo] at hm'
        simp at hm'
    obtain rfl : th = false := Hth.out.symm.trans hbool
    clear hbool
    refine QB.region mixed (by kernel_rfl) ?_
    repeat (first
      | (refine QB.no rfl ?_
         simp only [Act.put, List.setIfInBounds_toArray, List.set_cons_succ, List.set_cons_zero])
      | (apply QB.val rfl
         · intro w' hw'
           have f1 := FT1.out w' hw'
           have f2 := FW1.out w' hw'
           go_simp <;> rfl
         simp only [Act.put, List.setIfInBounds_toArray, List.set_cons_succ, List.set_cons_zero]))
    refine wpQuiet_nil fun w' hw' => ?_
    have HW := Lib.hid (nextB HB01.out (Nat.le_refl _) hw')
    clear hw'
    go_wp2
    go_ret2
    exact ⟨rfl, HW.out⟩
set_option maxRecDepth 100000 in
theorem At1_any {w : World} {B : Nat} {vp vr : Value} {l : List Mb} (ht : MTab w B vp l) (hN : l.length ≤ 1000000) (hO : Ord Mb.key l) (_h1 : vp.oneCell' = true) (_h2 : vr.oneCell' = true) (id : Int) (hB : B ≤ w.heap.size) :
    Calls Try.prog 92 #[.agg #[vp, vr], .int .i64 id] w fun e w' => e = .returned (.tuple #[.int .i64 (pos Mb.key (id, 0) l : Int), .bool (has Mb.key (id, 0) l)]) ∧ Below w.heap.size w w' := by
  obtain ⟨W0, hW0⟩ : ∃ W0, (w.alloc (.cells #[vp, vr] 25)).alloc (.cells #[.int .i64 id] 3) = W0 := ⟨_, rfl⟩
  have hb0 : Below w.heap.size w W0 := hW0 ▸ ((Below.refl _ w).alloc (Nat.le_refl _) _).alloc (by simp) _
  have hr0 : Row W0 w.heap.size [vp, vr] 25 := hW0 ▸ (Row.new rfl rfl : Row (w.alloc (.cells #[vp, vr] 25)) w.heap.size [vp, vr] 25).alloc _
  have c0 : W0.cell? ⟨w.heap.size, 0, none⟩ = some vp := hr0.cell rfl
  have hg : W0.cell? ⟨w.heap.size + 1, 0, none⟩ = some (.int .i64 id) := (hW0 ▸ Row.new (by simp) rfl : Row W0 (w.heap.size + 1) [.int .i64 id] 3).cell rfl
  have HB0 := Lib.hid hb0
  have HF := Lib.hid (find1_any (w := W0) (B := B) (ht.below (hb0.mono hB)) hN hO id (Nat.le_trans hB hb0.size) hg)
  clear ht hN hO hb0 hr0 hg hB _h1 _h2
  go_enter Try.func92, Try.ntmps92
  go_wp2_with (first | (go_at_call 141; refine HF.out.mono ?_; rintro e w' ⟨rfl, hb⟩; have HB1 := Lib.hid (nextB HB0.out (Nat.le_refl _) hb); clear hb) | fail)
  go_ret2
  exact ⟨rfl, HB1.out⟩

set_option maxRecDepth 100000 in
theorem where2_any (m : Rt) (a b : Int) {w : World} {g g' : Nat} (hg : w.cell? ⟨g, 0, none⟩ = some (.int .u32 a)) (hg' : w.cell? ⟨g', 0, none⟩ = some (.int .i64 b)) : Calls Try.prog 175 #[m.val, .pointer (some ⟨g, 0, none⟩), .pointer (some ⟨g', 0, none⟩)] w fun e w' => e = .returned (.int .i64 (preZ m a b)) ∧ Below w.heap.size w w' := by
  have hr : Row (w.alloc (.cells m.cs.toArray 98)) w.heap.size m.cs 98 := Row.new rfl rfl
  have hl := run_loadVar_cells (P := Try.prog) (w.alloc (.cells m.cs.toArray 98)) (b := w.heap.size) (off := 0) (n := 3) Try.underlying98 rfl (by kernel_rfl) rfl (fun j x hx => by rw [Nat.zero_add]; exact hr.cell hx)
  have hb : Below w.heap.size w (w.alloc (.cells m.cs.toArray 98)) := (Below.refl _ w).alloc (Nat.le_refl _) _
  have c1 : (w.alloc (.cells m.cs.toArray 98)).cell? ⟨g, 0, none⟩ = _ := (hb.cell (p := ⟨g, 0, none⟩) (World.block_lt_of_cell? _ _ hg)).trans hg
  have c2 : (w.alloc (.cells m.cs.toArray 98)).cell? ⟨g', 0, none⟩ = _ := (hb.cell (p := ⟨g', 0, none⟩) (World.block_lt_of_cell? _ _ hg')).trans hg'
  have HL := Lib.hid hl
  have HB := Lib.hid hb
  clear hr hl hb hg hg'
  unfold Rt.val
  go_enter Try.func175, Try.ntmps175
  go_wp2_with (first
    | (refine QB.wpList_ld 98 rfl rfl HL.out rfl ?_)
    | (go_at_call 91; refine (byPre_any m a b _).mono ?_; rintro e w' ⟨rfl, hb⟩; have HB2 := Lib.hid (nextB HB.out (Nat.le_refl _) hb); clear hb)
    | fail)
  go_ret
  exact ⟨rfl, HB2.out⟩
set_option maxRecDepth 100000 in
theorem f2_any {w : World} {B : Nat} {v : Value} {l : List Rt} (ht : RTab w B v l) (hN : l.length ≤ 1000000) {i : Nat} {m : Rt} (hm : l[i]? = some m) {gt gw : Nat} (a b : Int) (hB : B ≤ w.heap.size) {g g' : Nat} (hg : w.cell? ⟨g, 0, none⟩ = some (.int .u32 a)) (hg' : w.cell? ⟨g', 0, none⟩ = some (.int .i64 b)) (hgt : w.cell? ⟨gt, 0, none⟩ = some v)
    (hgw : w.cell? ⟨gw, 0, none⟩ = some (.func (.func 175) #[] #[.pointer (some ⟨g, 0, none⟩), .pointer (some ⟨g', 0, none⟩)])) :
    Calls Try.prog 180 #[.int .i64 (i : Int), .pointer (some ⟨gw, 0, none⟩), .pointer (some ⟨gt, 0, none⟩)] w fun e w' => e = .returned (.bool (decide (0 ≤ preZ m a b))) ∧ Below w.heap.size w w' := by
  obtain ⟨A, c, rfl, hc⟩ := ((show Tab 3 w B v l.length (rcs l) from ht)).shape
  obtain ⟨b0, off, rfl, hb, _, hld⟩ := ht.at hm
  have hi := (List.getElem?_eq_some_iff.1 hm).1
  have FG := Lib.hid (fun w' (h : Below w.heap.size w w') => (h.cell (p := ⟨g, 0, none⟩) (World.block_lt_of_cell? _ _ hg)).trans hg)
  have FG2 := Lib.hid (fun w' (h : Below w.heap.size w w') => (h.cell (p := ⟨g', 0, none⟩) (World.block_lt_of_cell? _ _ hg')).trans hg')
  have FT := Lib.hid (fun w' (h : Below w.heap.size w w') => (h.cell (p := ⟨gt, 0, none⟩) (World.block_lt_of_cell? _ _ hgt)).trans hgt)
  have FW := Lib.hid (fun w' (h : Below w.heap.size w w') => (h.cell (p := ⟨gw, 0, none⟩) (World.block_lt_of_cell? _ _ hgw)).trans hgw)
  have FL := Lib.hid (fun w' (h : Below w.heap.size w w') => by
    obtain ⟨b', off', e, _, _, hl⟩ := ((ht.below (h.mono hB)).at hm)
    cases e
    exact hl)
  have hi' : (i : Int) < (l.length : Int) := by omega
  have hi2 : (i : Int) < (9223372036854775807 : Int) := by omega
  clear ht hg hg' hgt hgw hld hm
  go_enter Try.func180, Try.ntmps180
  go_wp2_with fail
  refine QB.region mixed (by kernel_rfl) ?_
  repeat (first
    | (refine QB.ld rfl 98 rfl rfl (fun w' hw' => FL.out w' hw') ?_
       simp only [Act.put, List.setIfInBounds_toArray, List.set_cons_succ, List.set_cons_zero])
    | (apply QB.val rfl
       · intro w' hw'
         have f1 := FT.out w' hw'
         have f2 := FW.out w' hw'
         go_simp <;> rfl
       simp only [Act.put, List.setIfInBounds_toArray, List.set_cons_succ, List.set_cons_zero])
    | (refine QB.call rfl (fun w' hw' => ?_) (fun w' hw' => (where2_any m a b (FG.out w' hw') (FG2.out w' hw')).mono fun _ _ ⟨h1, h2⟩ => ⟨h1, nextB hw' (Nat.le_refl _) h2⟩) ?_
       · go_simp <;> rfl
       simp only [Act.put, List.setIfInBounds_toArray, List.set_cons_succ, List.set_cons_zero]))
  refine wpQuiet_nil fun w' hw' => ?_
  have HW := Lib.hid hw'
  clear hw'
  go_wp2
  go_ret
  exact ⟨rfl, HW.out⟩
set_option maxRecDepth 100000 in
set_option maxHeartbeats 1000000 in
theorem Search2_any (n : Nat) (hn : n ≤ 1000000) (p : Nat → Bool) (x y : Value) {w : World} (hf : ∀ (W : World) (i : Nat), Below w.heap.size w W → i < n → Calls Try.prog 180 #[.int .i64 (i : Int), x, y] W fun e w' => e = .returned (.bool (p i)) ∧ Below W.heap.size W w')
    (hmono : ∀ a b, a ≤ b → b < n → p a = true → p b = true) :
    Calls Try.prog 167 #[.int .i64 (n : Int), .func (.func 180) #[] #[x, y]] w fun e w' => ∃ lo : Nat, e = .returned (.int .i64 (lo : Int)) ∧ lo ≤ n ∧ (∀ t, t < lo → p t = false) ∧ (∀ t, lo ≤ t → t < n → p t = true) ∧ Below w.heap.size w w' := by
  have HF := Lib.hid hf
  have M := Lib.hid hmono
  have Hn := Lib.hid hn
  clear hf hmono hn
  go_enter Try.func167, Try.ntmps167
  go_wp2
  go_loopw [5, 6] (fun s5 s6 wr => ∃ lo hi : Nat, s5 = .int .i64 (lo : Int) ∧ s6 = .int .i64 (hi : Int) ∧ lo ≤ hi ∧ hi ≤ n ∧ Below w.heap.size w wr ∧ Hid ((∀ t, t < lo → p t = false) ∧ (∀ t, hi ≤ t → t < n → p t = true))) (fun s5 s6 _ => (intOf s6).toNat - (intOf s5).toNat)
  case atStart => exact ⟨0, n, rfl, rfl, Nat.zero_le _, Nat.le_refl _, Below.refl _ _, Lib.hid ⟨fun t ht => absurd ht (Nat.not_lt_zero _), fun t h1 h2 => by omega⟩⟩
  case round =>
    obtain ⟨lo, hi, rfl, rfl, hlh, hin, hb, I⟩ := hrel
    have HB := Lib.hid hb
    have Hin := Lib.hid hin
    have Hlh := Lib.hid hlh
    have hb1 : (lo : Int) ≤ 1000000 := by have := Hn.out; omega
    have hb2 : (hi : Int) ≤ 1000000 := by have := Hn.out; omega
    clear hb hin
    by_cases hlt : lo < hi
    · have hlt' : (lo : Int) < (hi : Int) := by omega
      obtain ⟨md, hmd⟩ : ∃ md, (lo + hi) / 2 = md := ⟨_, rfl⟩
      have Hmd := Lib.hid (show lo ≤ md ∧ md < hi by omega)
      have hc := HF.out wr md HB.out (by have := Hin.out; have := Hmd.out; omega)
      have e1 : ((lo : Int) + (hi : Int)) / 2 = (md : Int) := by omega
      have hb3 : (md : Int) ≤ 1000000 := by have := Hmd.out; omega
      have hb4 : 0 ≤ (md : Int) := by omega
      clear hmd
      cases hp : p md <;> rw [hp] at hc
      · have HP := Lib.hid hp
        have HC := Lib.hid hc
        clear hp hc hlt
        go_wp2_with (first | (go_at_call 180; refine HC.out.mono ?_; rintro e w' ⟨rfl, hb⟩; have HB2 := Lib.hid (nextB HB.out (Nat.le_refl _) hb); clear hb) | fail)
        go_roundw
        case rel =>
          refine ⟨md + 1, hi, by simp, rfl, by have := Hmd.out; omega, Hin.out, HB2.out, Lib.hid ⟨fun t ht => ?_, I.out.2⟩⟩
          cases hpt : p t with
          | false => rfl
          | true =>
            have := M.out t md (by omega) (by have := Hmd.out; have := Hin.out; omega) hpt
            rw [HP.out] at this
            cases this
        case measure => have := Hmd.out; simp [intOf]; omega
      · have HP := Lib.hid hp
        have HC := Lib.hid hc
        clear hp hc hlt
        go_wp2_with (first | (go_at_call 180; refine HC.out.mono ?_; rintro e w' ⟨rfl, hb⟩; have HB2 := Lib.hid (nextB HB.out (Nat.le_refl _) hb); clear hb) | fail)
        go_roundw
        case rel =>
          refine ⟨lo, md, rfl, rfl, Hmd.out.1, by have := Hmd.out; have := Hin.out; omega, HB2.out, Lib.hid ⟨I.out.1, fun t ht htn => M.out md t ht htn HP.out⟩⟩
        case measure => have := Hmd.out; simp [intOf]; omega
    · have hlt' : ¬ (lo : Int) < (hi : Int) := by omega
      have e : lo = hi := by omega
      subst e
      go_wp2
      go_ret
      exact ⟨lo, rfl, Hin.out, I.out.1, I.out.2, HB.out⟩
set_option maxRecDepth 100000 in
set_option maxHeartbeats 1000000 in
theorem find2_any {w : World} {B : Nat} {v : Value} {l : List Rt} (ht : RTab w B v l) (hN : l.length ≤ 1000000) (hO : Ord Rt.key l) (a b : Int) (hB : B ≤ w.heap.size) {g g' : Nat} (hg : w.cell? ⟨g, 0, none⟩ = some (.int .u32 a)) (hg' : w.cell? ⟨g', 0, none⟩ = some (.int .i64 b)) :
    Calls Try.prog 174 #[v, .func (.func 175) #[] #[.pointer (some ⟨g, 0, none⟩), .pointer (some ⟨g', 0, none⟩)]] w fun e w' => e = .returned (.tuple #[.int .i64 (pos Rt.key (a, b) l : Int), .bool (has Rt.key (a, b) l)]) ∧ Below w.heap.size w w' := by
  obtain ⟨A, c, rfl, hc⟩ := ((show Tab 3 w B v l.length (rcs l) from ht)).shape
  have HT := Lib.hid ht
  have HO := Lib.hid hO
  have HN := Lib.hid hN
  have HBw := Lib.hid hB
  obtain ⟨W0, hW0⟩ : ∃ W0, (w.alloc (.cells #[.slice A l.length c] 23)).alloc (.cells #[.func (.func 175) #[] #[.pointer (some ⟨g, 0, none⟩), .pointer (some ⟨g', 0, none⟩)]] 215) = W0 := ⟨_, rfl⟩
  have hb0 : Below w.heap.size w W0 := hW0 ▸ ((Below.refl _ w).alloc (Nat.le_refl _) _).alloc (by simp) _
  have hr0 : Row W0 w.heap.size [.slice A l.length c] 23 := hW0 ▸ (Row.new rfl rfl : Row (w.alloc (.cells #[.slice A l.length c] 23)) w.heap.size [.slice A l.length c] 23).alloc _
  have hr1 : Row W0 (w.heap.size + 1) [.func (.func 175) #[] #[.pointer (some ⟨g, 0, none⟩), .pointer (some ⟨g', 0, none⟩)]] 215 := hW0 ▸ Row.new (by simp) rfl
  have c2 : W0.cell? ⟨w.heap.size, 0, none⟩ = some (.slice A l.length c) := hr0.cell rfl
  have c3 : W0.cell? ⟨w.heap.size + 1, 0, none⟩ = some (.func (.func 175) #[] #[.pointer (some ⟨g, 0, none⟩), .pointer (some ⟨g', 0, none⟩)]) := hr1.cell rfl
  have HB0 := Lib.hid hb0
  have Hs0 : Hid (w.heap.size + 1 < W0.heap.size) := hr1.lt
  have FT := Lib.hid (fun w' (h : Below W0.heap.size W0 w') => (h.cell (p := ⟨w.heap.size, 0, none⟩) hr0.lt).trans c2)
  have FW := Lib.hid (fun w' (h : Below W0.heap.size W0 w') => (h.cell (p := ⟨w.heap.size + 1, 0, none⟩) hr1.lt).trans c3)
  have FG := Lib.hid (fun w' (h : Below W0.heap.size W0 w') => ((hb0.trans (h.mono hb0.size)).cell (p := ⟨g, 0, none⟩) (World.block_lt_of_cell? _ _ hg)).trans hg)
  have FG2 := Lib.hid (fun w' (h : Below W0.heap.size W0 w') => ((hb0.trans (h.mono hb0.size)).cell (p := ⟨g', 0, none⟩) (World.block_lt_of_cell? _ _ hg')).trans hg')
  have HS := Lib.hid (Search2_any l.length hN (fun t => match l[t]? with | some m => decide (0 ≤ preZ m a b) | none => true) (.pointer (some ⟨w.heap.size + 1, 0, none⟩)) (.pointer (some ⟨w.heap.size, 0, none⟩)) (w := W0)
    (fun W i hbW hi => by
      have hm : l[i]? = some l[i] := List.getElem?_eq_getElem hi
      have := f2_any (w := W) (B := B) (ht.below ((hb0.trans (hbW.mono hb0.size)).mono hB)) hN hm a b (Nat.le_trans hB (Nat.le_trans hb0.size hbW.size)) (FG.out W hbW) (FG2.out W hbW) (FT.out W hbW) (FW.out W hbW)
      simp only [hm]
      exact this)
    (fun a' b' hab hb' ha => by
      have hma : l[a']? = some (l[a']'(by omega)) := List.getElem?_eq_getElem (by omega)
      have hmb : l[b']? = some (l[b']'hb') := List.getElem?_eq_getElem hb'
      simp only [hma, hmb, decide_eq_true_eq, r_lt] at ha ⊢
      exact ord_mono hO hab hma hmb ha))
  obtain ⟨ps, hps⟩ : ∃ ps, pos Rt.key (a, b) l = ps := ⟨_, rfl⟩
  obtain ⟨th, hth⟩ : ∃ th, has Rt.key (a, b) l = th := ⟨_, rfl⟩
  rw [hps, hth]
  have Hps := Lib.hid hps
  have Hth := Lib.hid hth
  clear ht hO hN hB hg hg' hb0 hr0 hr1 hps hth
  go_enter Try.func174, Try.ntmps174
  go_wp2_with (first
    | (go_at_call 167; refine HS.out.mono ?_; rintro e w1 ⟨lo, rfl, hlo, hl1, hl2, hb1⟩; have Hlo := Lib.hid hlo; have HL1 := Lib.hid hl1; have HL2 := Lib.hid hl2; have HB1 := Lib.hid hb1; clear hlo hl1 hl2 hb1)
    | fail)
  have Hpos : Hid (lo = pos Rt.key (a, b) l) := Lib.hid (pos_of Hlo.out (fun t m ht' hm => by
      have := HL1.out t ht'
      simp only [hm, decide_eq_false_iff_not, r_lt, Classical.not_not] at this
      exact this) (fun t m ht' hm => by
      have := HL2.out t ht' (List.getElem?_eq_some_iff.1 hm).1
      simp only [hm, decide_eq_true_eq, r_lt] at this
      exact this))
  have FT1 := Lib.hid (fun w' (h : Below w1.heap.size w1 w') => FT.out w' (HB1.out.trans (h.mono HB1.out.size)))
  have FW1 := Lib.hid (fun w' (h : Below w1.heap.size w1 w') => FW.out w' (HB1.out.trans (h.mono HB1.out.size)))
  have FG1 := Lib.hid (fun w' (h : Below w1.heap.size w1 w') => FG.out w' (HB1.out.trans (h.mono HB1.out.size)))
  have FG21 := Lib.hid (fun w' (h : Below w1.heap.size w1 w') => FG2.out w' (HB1.out.trans (h.mono HB1.out.size)))
  have HB01 : Hid (Below w.heap.size w w1) := Lib.hid (HB0.out.trans (HB1.out.mono HB0.out.size))
  clear hW0 c2 c3
  have e1 : lo = ps := Hpos.out.trans Hps.out
  subst e1
  by_cases hlt : lo < l.length
  · have hm : l[lo]? = some l[lo] := List.getElem?_eq_getElem hlt
    obtain ⟨m, hmm⟩ : ∃ m, l[lo] = m := ⟨_, rfl⟩
    rw [hmm] at hm
    have hlt' : (lo : Int) < (l.length : Int) := by omega
    have hlt2 : (lo : Int) < 9223372036854775807 := by have := HN.out; omega
    have FL1 := Lib.hid (fun w' (h : Below w1.heap.size w1 w') => (HT.out.below ((HB01.out.trans (h.mono HB01.out.size)).mono HBw.out)).at hm)
    obtain ⟨b0, off, e, _, _, _⟩ := FL1.out w1 (Below.refl _ _)
    subst e
    have FL2 := Lib.hid (fun w' (h : Below w1.heap.size w1 w') => by
      obtain ⟨b', off', e, _, _, hl⟩ := FL1.out w' h
      cases e
      exact hl)
    have hbool : (decide (preZ m a b = 0)) = has Rt.key (a, b) l := by
      cases hh : has Rt.key (a, b) l with
      | true =>
        obtain ⟨m', hm', hk'⟩ := at_pos (a, b) HO.out hh
        rw [← Hpos.out, hm] at hm'
        cases hm'
        exact decide_eq_true ((r_eq m a b).2 hk')
      | false =>
        rw [Hpos.out] at hm
        exact decide_eq_false fun e => not_at hh hm ((r_eq m a b).1 e)
    have HBool := Lib.hid (hbool.trans Hth.out)
    clear hbool FL1 hmm
    refine QB.region mixed (by kernel_rfl) ?_
    repeat (first
      | (refine QB.ld rfl 98 rfl rfl (fun w' hw' => FL2.out w' hw') ?_
         simp only [Act.put, List.setIfInBounds_toArray, List.set_cons_succ, List.set_cons_zero])
      | (apply QB.val rfl
         · intro w' hw'
           have f1 := FT1.out w' hw'
           have f2 := FW1.out w' hw'
           go_simp <;> rfl
         simp only [Act.put, List.setIfInBounds_toArray, List.set_cons_succ, List.set_cons_zero])
      | (refine QB.call rfl (fun w' hw' => ?_) (fun w' hw' => (where2_any m a b (FG1.out w' hw') (FG21.out w' hw')).mono fun _ _ ⟨h1, h2⟩ => ⟨h1, nextB hw' (Nat.le_refl _) h2⟩) ?_
         · go_simp <;> rfl
         simp only [Act.put, List.setIfInBounds_toArray, List.set_cons_succ, List.set_cons_zero]))
    refine wpQuiet_nil fun w' hw' => ?_
    have HW := Lib.hid (nextB HB01.out (Nat.le_refl _) hw')
    clear hw'
    go_wp2
    go_ret2
    exact ⟨congrArg (fun b => Ending.returned (Value.tuple #[.int .i64 (lo : Int), .bool b])) HBool.out, HW.out⟩
  · have hlo : lo = l.length := by have := Hlo.out; omega
    have hlt' : ¬ (lo : Int) < (l.length : Int) := by omega
    have hbool : has Rt.key (a, b) l = false := by
      cases hh : has Rt.key (a, b) l with
      | false => rfl
      | true =>
        obtain ⟨m', hm', _⟩ := at_pos (a, b) HO.out hh
        rw [← Hpos.out, hlo] at hm'
        simp at hm'
    obtain rfl : th = false := Hth.out.symm.trans hbool
    clear hbool
    refine QB.region mixed (by kernel_rfl) ?_
    repeat (first
      | (refine QB.no rfl ?_
         simp only [Act.put, List.setIfInBounds_toArray, List.set_cons_succ, List.set_cons_zero])
      | (apply QB.val rfl
         · intro w' hw'
           have f1 := FT1.out w' hw'
           have f2 := FW1.out w' hw'
           go_simp <;> rfl
         simp only [Act.put, List.setIfInBounds_toArray, List.set_cons_succ, List.set_cons_zero]))
    refine wpQuiet_nil fun w' hw' => ?_
    have HW := Lib.hid (nextB HB01.out (Nat.le_refl _) hw')
    clear hw'
    go_wp2
    go_ret2
    exact ⟨rfl, HW.out⟩
set_option maxRecDepth 100000 in
theorem At2_any {w : World} {B : Nat} {vp vr : Value} {l : List Rt} (ht : RTab w B vr l) (hN : l.length ≤ 1000000) (hO : Ord Rt.key l) (_h1 : vp.oneCell' = true) (_h2 : vr.oneCell' = true) (a b : Int) (hB : B ≤ w.heap.size) :
    Calls Try.prog 162 #[.agg #[vp, vr], .int .u32 a, .int .i64 b] w fun e w' => e = .returned (.tuple #[.int .i64 (pos Rt.key (a, b) l : Int), .bool (has Rt.key (a, b) l)]) ∧ Below w.heap.size w w' := by
  obtain ⟨W0, hW0⟩ : ∃ W0, ((w.alloc (.cells #[vp, vr] 25)).alloc (.cells #[.int .u32 a] 28)).alloc (.cells #[.int .i64 b] 3) = W0 := ⟨_, rfl⟩
  have hb0 : Below w.heap.size w W0 := hW0 ▸ (((Below.refl _ w).alloc (Nat.le_refl _) _).alloc (by simp) _).alloc (by simp; omega) _
  have hr0 : Row W0 w.heap.size [vp, vr] 25 := hW0 ▸ ((Row.new rfl rfl : Row (w.alloc (.cells #[vp, vr] 25)) w.heap.size [vp, vr] 25).alloc _).alloc _
  have c0 : W0.cell? ⟨w.heap.size, 1, none⟩ = some vr := hr0.cell rfl
  have hg : W0.cell? ⟨w.heap.size + 1, 0, none⟩ = some (.int .u32 a) := (hW0 ▸ (Row.new (by simp) rfl : Row ((w.alloc (.cells #[vp, vr] 25)).alloc (.cells #[.int .u32 a] 28)) (w.heap.size + 1) [.int .u32 a] 28).alloc _ : Row W0 (w.heap.size + 1) [.int .u32 a] 28).cell rfl
  have hg' : W0.cell? ⟨w.heap.size + 1 + 1, 0, none⟩ = some (.int .i64 b) := (hW0 ▸ Row.new (by simp) rfl : Row W0 (w.heap.size + 1 + 1) [.int .i64 b] 3).cell rfl
  have HB0 := Lib.hid hb0
  have HF := Lib.hid (find2_any (w := W0) (B := B) (ht.below (hb0.mono hB)) hN hO a b (Nat.le_trans hB hb0.size) hg hg')
  clear ht hN hO hb0 hr0 hg hg' hB _h1 _h2
  go_enter Try.func162, Try.ntmps162
  go_wp2_with (first | (go_at_call 174; refine HF.out.mono ?_; rintro e w' ⟨rfl, hb⟩; have HB1 := Lib.hid (nextB HB0.out (Nat.le_refl _) hb); clear hb) | fail)
  go_ret2
  exact ⟨rfl, HB1.out⟩

end Go.Proofs.Ytedmogacklbcmaa.Cfg
