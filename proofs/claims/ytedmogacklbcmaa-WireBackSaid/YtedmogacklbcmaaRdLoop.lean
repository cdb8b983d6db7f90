/- A round of a reading loop: three calls of the reader, a new row, append, and the store of what was appended. -/
import Derived.Test.YtedmogacklbcmaaOctFix
import Derived.Test.YtedmogacklbcmaaRdPure
import Derived.Test.YtedmogacklbcmaaCopyArr
import Derived.Test.YtedmogacklbcmaaSubRow
import Derived.Test.YtedmogacklbcmaaQuietB
import Derived.Test.YtedmogacklbcmaaByL
import Derived.Test.YtedmogacklbcmaaCfgMem
namespace Go.Proofs.Ytedmogacklbcmaa.RdK
open Go.RowKit
theorem rd_lt {w : World} {lo g : Nat} {l : List UInt8} {a e : Nat} (h : Rd w lo g l a e) : g < w.heap.size := by
  obtain ⟨_, _, _, _, _, _, _, _, _, _, _, _, hlt⟩ := h.cells
  exact hlt
theorem row_grown {w w' : World} {g k : Nat} {cs : List Value} {t : TypeId} (h : Row w k cs t) (hg : w.grownBy w' (some g)) (hne : k ≠ g) : Row w' k cs t := by
  unfold Row
  rw [hg.block k h.lt (by simpa using hne)]
  exact h
theorem only_new {a b c : World} {row : Option Nat} {k : Nat} (h : a.grownBy b row) (h2 : b.grownBy c (some k)) (hk : a.heap.size ≤ k) : a.grownBy c row :=
  ⟨h2.os.trans h.os, h2.tape.trans h.tape, h2.output.trans h.output, Nat.le_trans h.size h2.size, fun i hi hne => (h2.block i (Nat.lt_of_lt_of_le hi h.size) (by intro e; injection e with e; omega)).trans (h.block i hi hne)⟩
theorem keep_only {a b : World} {k : Nat} (h : Ev.Keep ⟨a, fun j => j = k⟩ b) : a.grownBy b (some k) :=
  ⟨h.os, h.tape, h.output, h.size, fun i hi hne => h.block i (by
    rintro (e | e)
    · have e' : a.heap.size ≤ i := e
      omega
    · exact hne (by rw [show i = k from e]))⟩
theorem code_world {P : Program} {c : Code} {Q : Exit → Act → World → Prop} {a : Act} {w V : World} (h : w = V) (k : Code.wp P c Q a V) : Code.wp P c Q a w := h ▸ k
theorem row_keep {w w' : World} {g k : Nat} {cs : List Value} {t : TypeId} (h : Row w k cs t) (hk : Ev.Keep ⟨w, fun k => k = g⟩ w') (hne : k ≠ g) : Row w' k cs t := row_grown h (keep_only hk) hne
theorem only_setRow {w : World} {g : Nat} (cs : Array Value) : w.grownBy (w.setRow g cs) (some g) := ⟨rfl, rfl, rfl, by simp [World.setRow], fun k _ hne => setRow_other w g k cs (fun e => hne (by rw [e]))⟩
theorem wrap_u32 (n : Nat) (h : n ≤ 4294967295) : IntKind.u32.wrap (n : Int) = (n : Int) := by simp [IntKind.wrap, IntKind.bits, IntKind.signed]; omega
end Go.Proofs.Ytedmogacklbcmaa.RdK
namespace Go.Proofs.Ytedmogacklbcmaa.RdL
open Go.RowKit RdK
section
variable (w0 : World) (lo g gc base : Nat) (b : List UInt8) (st : Nat → Nat × Nat) (rowc : Value → List Value) (tc : TypeId) (vl : Value) (Po : World → Prop) (Pn : World → Value → Prop)
/-- The world from stage to stage. -/
structure RS (s : Nat) (w : World) : Prop where
  row : s ≤ 5 → Row w gc (rowc vl) tc
  old : s ≤ 4 → Po w
  rd : Rd w lo g b (st s).1 (st s).2
  new : s = 6 → ∃ v', Row w gc (rowc v') tc ∧ Pn w v'
  keep : Ev.Keep ⟨w0, fun i => i = g ∨ i = gc ∨ base ≤ i⟩ w
/-- What a step changes, from the append on. -/
def FS (s : Nat) (x y : World) : Prop := (s = 4 → x.grownBy y vl.ownBlock) ∧ (5 ≤ s → x.grownBy y (some gc))
def TT (_ _ : World) : Prop := True
theorem FS.refl (s : Nat) (x : World) : FS gc vl s x x := ⟨fun _ => only_refl _ _, fun _ => only_refl _ _⟩
theorem FS.early {s : Nat} {x y : World} (h : s < 4) : FS gc vl s x y := ⟨fun e => by omega, fun e => by omega⟩
end
section
variable {w0 : World} {lo g gc base : Nat} {b : List UInt8} {st : Nat → Nat × Nat} {rowc : Value → List Value} {tc : TypeId} {vl : Value} {Po : World → Prop} {Pn : World → Value → Prop}
theorem keep_row {S : Nat → Prop} {w0 w w' : World} {row : Option Nat} (h : Ev.Keep ⟨w0, S⟩ w) (hg : w.grownBy w' row) (hr : ∀ k, row = some k → S k) : Ev.Keep ⟨w0, S⟩ w' := by
  refine ⟨hg.os.trans h.os, hg.tape.trans h.tape, hg.output.trans h.output, Nat.le_trans h.size hg.size, fun i hi => ?_⟩
  have hlt : i < w0.heap.size := Nat.lt_of_not_le fun h => hi (.inl h)
  have hs : w0.heap.size ≤ w.heap.size := h.size
  rw [hg.block i (by omega) (fun e => hi (.inr (hr i e.symm)))]
  exact h.block i hi
/-- A call of the reader. -/
theorem RS.call {s : Nat} {w w' : World} (h : RS w0 lo g gc base b st rowc tc vl Po Pn s w) (hs : s ≤ 2) (hg : w.grownBy w' (some g)) (hr : Rd w' lo g b (st (s + 1)).1 (st (s + 1)).2) (hne : g ≠ gc) (hP : Po w → w.grownBy w' (some g) → Po w') : RS w0 lo g gc base b st rowc tc vl Po Pn (s + 1) w' :=
  ⟨fun _ => row_grown (h.row (by omega)) hg (by omega), fun _ => hP (h.old (by omega)) hg, hr, fun e => by omega, keep_row h.keep hg fun k e => by injection e with e; exact .inl e.symm⟩
/-- A new row. -/
theorem RS.alloc {w w' : World} (h : RS w0 lo g gc base b st rowc tc vl Po Pn 3 w) (hb : Below w.heap.size w w') (hst : st 4 = st 3) (hP : Po w → Below w.heap.size w w' → Po w') : RS w0 lo g gc base b st rowc tc vl Po Pn 4 w' :=
  ⟨fun _ => (h.row (by omega)).below hb (h.row (by omega)).lt, fun _ => hP (h.old (by omega)) hb, by rw [hst]; exact h.rd.below hb (rd_lt h.rd), fun e => by omega, keep_row (row := none) h.keep (only_of_below hb none) fun k e => by cases e⟩
/-- The append. -/
theorem RS.app {w w' : World} (h : RS w0 lo g gc base b st rowc tc vl Po Pn 4 w) (hg : w.grownBy w' vl.ownBlock) (hrow : ∀ k, vl.ownBlock = some k → base ≤ k) (hst : st 5 = st 4) (hgb : g < base) (hgc : gc < base) : RS w0 lo g gc base b st rowc tc vl Po Pn 5 w' := by
  have hrw := h.row (by omega)
  refine ⟨fun _ => ?_, fun e => by omega, by rw [hst]; exact h.rd.grown hg fun k e => .inl (by have := hrow k e; omega), fun e => by omega, keep_row h.keep hg fun k e => .inr (.inr (hrow k e))⟩
  unfold Row
  rw [hg.block gc hrw.lt fun e => by have := hrow gc e.symm; omega]
  exact hrw
/-- The store. -/
theorem RS.store {w w' : World} {v' : Value} (h : RS w0 lo g gc base b st rowc tc vl Po Pn 5 w) (hg : w.grownBy w' (some gc)) (hr : Row w' gc (rowc v') tc) (hn : Pn w' v') (hst : st 6 = st 5) (hgg : g < gc) : RS w0 lo g gc base b st rowc tc vl Po Pn 6 w' :=
  ⟨fun e => by omega, fun e => by omega, by rw [hst]; exact h.rd.grown hg fun k e => by injection e with e; exact .inl (by omega), fun _ => ⟨v', hr, hn⟩, keep_row h.keep hg fun k e => by injection e with e; exact .inr (.inl e.symm)⟩
/-- A new row's slice, from its making on. -/
def rowM (gc : Nat) (vl : Value) (cs : List Value) (t : TypeId) : ByL.Mark TT (FS gc vl) := ⟨fun v w => ∃ gx, v = .slice (some ⟨gx, 0, none⟩) 1 1 ∧ Row w gx cs t ∧ gx ≠ gc ∧ vl.ownBlock ≠ some gx, some 3, by
  rintro v x y s ⟨gx, rfl, hr, h1, h2⟩ _ hF hs
  refine ⟨gx, rfl, ?_, h1, h2⟩
  have h3 := hs 3 rfl
  by_cases h4 : s = 4
  · unfold Row
    rw [(hF.1 h4).block gx hr.lt fun e => h2 e.symm]
    exact hr
  · exact row_grown hr (hF.2 (by omega)) h1⟩
/-- What was appended, from then on. -/
def appM (gc : Nat) (vl : Value) (Pn : World → Value → Prop) (hP : ∀ x y v, Pn x v → x.grownBy y (some gc) → Pn y v) : ByL.Mark TT (FS gc vl) := ⟨fun v w => Pn w v, some 4, fun v x y _ h _ hF hs => hP x y v h (hF.2 (hs 4 rfl))⟩
end
/-! ### operations of a region, one by one -/
section
variable {P : Program} {o : Oper} {a : Act} {w w' : World} {K : Act → World → Prop} {Q : Exit → Act → World → Prop}
theorem op_bp (t : TypeId) (parts : Array (Nat × Operand)) (ho : o.op = .build t parts) {ps : Array (Nat × Value)} (hp : (parts.map fun (i, x) => (i, a.eval x)) = ps) {v : Value} (hrun : (Instr.build t ps).run P w = .ok v w) (h : K (a.put o.dst v) w) : o.wp P a w K Q := by
  unfold Oper.wp execOp
  simp only [ho, hp, Sem.run_bind, Sem.run_pure, Result.andThen_ok, hrun]
  exact h
theorem op_bs (t : TypeId) (n : Nat) (parts : Array (Nat × Operand)) (ho : o.op = .buildSlice t n parts) {v : Value} {ps : Array (Nat × Value)} (hp : (parts.map fun (i, x) => (i, a.eval x)) = ps) (hrun : (Instr.buildSlice t n ps).run P w = .ok v w') (h : K (a.put o.dst v) w') : o.wp P a w K Q := by
  unfold Oper.wp execOp
  simp only [ho, hp, Sem.run_bind, Sem.run_pure, Result.andThen_ok, hrun]
  exact h
/-- append of rows onto a row of one's own: what else stays. -/
theorem run_app_tabG (w : World) {base B k bytes : Nat} {t ty e : TypeId} {i : TypeInfo} {z : Value} (ht : P.underlying t = some (.slice e)) (hi : P.info? e = some i) (hz : i.zero = some z) (hs : i.size = k) (hby : i.bytes = bytes) (hzs : z.cells.size = k) (hk : 0 < k)
    {v y : Value} {n m : Nat} {xs ys : List Value} (hown : w.ownsRow base e k v n xs) (hy : Cfg.Tab k w B y m ys) (h1 : ∀ u ∈ ys, u.oneCell' = true) (hlen : n + m ≤ 1000000) (hb : bytes ≤ 1000) (hbase : base ≤ w.heap.size) :
    ∃ v' w', (Builtin.append_ #[t, t] ty #[v, y]).run P w = .ok v' w' ∧ w'.ownsRow base e k v' (n + m) (xs ++ ys) ∧ w.grownBy w' v.ownBlock ∧ (v'.ownBlock = v.ownBlock ∨ v'.ownBlock = some w.heap.size) := by
  have hbytes : (n + m) * bytes ≤ 140737488355328 := by
    have := Nat.mul_le_mul hlen hb
    omega
  obtain ⟨A, c, rfl, hc, hl, hcell⟩ := hy
  by_cases hm : m = 0
  · subst hm
    have hys : ys = [] := List.eq_nil_of_length_eq_zero (by simpa using hl)
    subst hys
    refine ⟨v, w, ?_, by simpa using hown, only_refl _ _, .inl rfl⟩
    have hf : ∀ (cap : Nat) (base' : Option Addr), n ≤ cap → v = .slice base' n cap → (Builtin.append_ #[t, t] ty #[v, .slice A 0 c]).run P w = .ok v w := by
      intro cap base' hcap hv
      subst hv
      have hrun := Ev.run_append_fit (P := P) (ty := ty) (base := base') (m := n) (n := 0) (c := cap) (x := .slice A 0 c) (w := w) (new := #[]) ht ht (.inr ⟨_, rfl⟩) hi rfl (by cases A <;> simp [Builtin.firstCells, loadCells, loadCellsFrom]) (by omega)
      rw [hrun]
      cases base' <;> simp [storeCells]
    rcases hown.2 with ⟨rfl, hl'⟩ | ⟨g, cap, cur, rfl, _, _, hnc, _⟩
    · exact hf 0 none (by omega) (by rw [hl'])
    · exact hf cap _ hnc rfl
  · obtain ⟨b, off, rfl, hlt, hcs⟩ := hcell hm
    obtain ⟨v', w', k1, k2, k3, _, k5⟩ := run_append_own_at (P := P) w base t ty e i z k bytes ht hi hz hs hby hzs hk v n xs hown ⟨b, off, none⟩ m c ys hl
      (by
        intro j u hj
        rw [show (⟨b, off, none⟩ : Addr).add j = ⟨b, off + j, none⟩ by unfold Addr.add; split <;> simp_all]
        exact hcs j u hj)
      h1 (by unfold maxLen; omega) hbytes hbase
    exact ⟨v', w', k1, k2, k3, k5⟩
theorem op_app (s x : Operand) {t : TypeId} {ty : TypeId} (hty : o.type = ty) (ho : o.op = .call { callee := .builtin .append, args := #[s, x], argTypes := #[t, t] }) {v y v' : Value} (hs : a.eval s = v) (hx : a.eval x = y) (hr : (Builtin.append_ #[t, t] ty #[v, y]).run P w = .ok v' w') (h : K (a.put o.dst v') w') : o.wp P a w K Q := by
  subst hty
  unfold Oper.wp execOp
  simp only [ho, resolve, invoke, builtin, Sem.run_bind, Sem.run_pure, Result.andThen_ok, List.map_toArray, List.map_cons, List.map_nil, hs, hx, hr]
  exact h
theorem owns_grown {w w' : World} {base : Nat} {e : TypeId} {k : Nat} {v : Value} {n : Nat} {xs : List Value} {row : Option Nat} (h : w.ownsRow base e k v n xs) (hg : w.grownBy w' row) (hr : ∀ i, row = some i → i < base) : w'.ownsRow base e k v n xs := by
  refine ⟨h.1, ?_⟩
  rcases h.2 with h2 | ⟨g, cap, cur, e', hgb, hgg, r⟩
  · exact .inl h2
  · exact .inr ⟨g, cap, cur, e', hgb, by rw [hg.block g (Array.getElem?_eq_some_iff.1 hgg).1 (fun e => by have := hr g e.symm; omega)]; exact hgg, r⟩
end
end Go.Proofs.Ytedmogacklbcmaa.RdL
