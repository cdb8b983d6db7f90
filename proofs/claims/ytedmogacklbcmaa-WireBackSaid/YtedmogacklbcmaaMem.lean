/- Bytes in memory: what a slice reads as, and rows of the call's own. -/
import Derived.Test.YtedmogacklbcmaaEvApp
import Derived.Test.YtedmogacklbcmaaProg
import Derived.WalkKit
import Derived.Maps.AppendAt
import Derived.KernelRfl
import Derived.Deep.Draws
namespace Go.Proofs.Ytedmogacklbcmaa
open Go.RowKit

def bv (u : UInt8) : Value := .int .u8 u.toNat
theorem bv_one (u : UInt8) : (bv u).oneCell' = true := rfl

/-- A slice that reads as these bytes, in a block below B. -/
def Bs (w : World) (B : Nat) (v : Value) (l : List UInt8) : Prop :=
  ∃ A c, v = .slice A l.length c ∧ l.length ≤ c ∧ (l ≠ [] → ∃ b off, A = some ⟨b, off, none⟩ ∧ b < B ∧ ∀ (i : Nat) (u : UInt8), l[i]? = some u → w.cell? ⟨b, off + i, none⟩ = some (bv u))

/-- A row of the call's own, from block 'base' on, that holds these bytes. -/
def Own (w : World) (base : Nat) (v : Value) (l : List UInt8) : Prop := w.ownsRow base 5 1 v l.length (l.map bv)

theorem Bs.keep {w w' : World} {B : Nat} {v : Value} {l : List UInt8} (h : Bs w B v l) (hk : ∀ b o, b < B → w'.cell? ⟨b, o, none⟩ = w.cell? ⟨b, o, none⟩) : Bs w' B v l := by
  obtain ⟨A, c, h1, h2, h3⟩ := h
  refine ⟨A, c, h1, h2, fun hne => ?_⟩
  obtain ⟨b, off, h4, h5, h6⟩ := h3 hne
  exact ⟨b, off, h4, h5, fun i u hu => (hk b _ h5).trans (h6 i u hu)⟩
theorem Bs.more {w : World} {B B' : Nat} {v : Value} {l : List UInt8} (h : Bs w B v l) (hB : B ≤ B') : Bs w B' v l := by
  obtain ⟨A, c, h1, h2, h3⟩ := h
  refine ⟨A, c, h1, h2, fun hne => ?_⟩
  obtain ⟨b, off, h4, h5, h6⟩ := h3 hne
  exact ⟨b, off, h4, by omega, h6⟩
theorem Bs.below {w w' : World} {B : Nat} {v : Value} {l : List UInt8} (h : Bs w B v l) (hb : Below B w w') : Bs w' B v l := h.keep fun b o hbB => hb.cell (p := ⟨b, o, none⟩) hbB
theorem Bs.drew {w : World} {B : Nat} {v : Value} {l : List UInt8} (h : Bs w B v l) : Bs w.drew B v l := h
theorem Bs.drewN {w : World} {B : Nat} {v : Value} {l : List UInt8} (h : Bs w B v l) (n : Nat) : Bs (w.drewN n) B v l := h
theorem Bs.alloc {w : World} {B : Nat} {v : Value} {l : List UInt8} (h : Bs w B v l) (hB : B ≤ w.heap.size) (o : Obj) : Bs (w.alloc o) B v l := h.keep fun b of hb => World.cell?_alloc_lt w o ⟨b, of, none⟩ (by simp only; omega)
theorem Bs.grown {w w' : World} {B : Nat} {v : Value} {l : List UInt8} {row : Option Nat} (h : Bs w B v l) (hg : w.grownBy w' row) (hB : B ≤ w.heap.size) (hr : ∀ g, row = some g → B ≤ g) : Bs w' B v l :=
  h.keep fun b o hb => World.cell?_of_block (a := ⟨b, o, none⟩) (hg.block b (by omega) (fun e => by have := hr _ e.symm; omega))
theorem Bs.setCell {w : World} {B : Nat} {v : Value} {l : List UInt8} (h : Bs w B v l) {p : Addr} (hp : B ≤ p.block) (u : Value) : Bs (w.setCell p u) B v l :=
  h.keep fun b o hb => World.cell?_setCell_other w p ⟨b, o, none⟩ u (fun e => by subst e; simp only at hp; omega)
theorem Bs.nil (w : World) (B : Nat) (A : Option Addr) (c : Nat) : Bs w B (.slice A 0 c) [] := ⟨A, c, rfl, Nat.zero_le _, fun h => absurd rfl h⟩

theorem Own.nil (w : World) (base : Nat) : Own w base (.slice none 0 0) [] := World.ownsRow_nil w base 5 1
theorem Own.bs {w : World} {base : Nat} {v : Value} {l : List UInt8} (h : Own w base v l) : Bs w w.heap.size v l := by
  rcases h.2 with ⟨rfl, hl⟩ | ⟨g, cap, cur, rfl, _, hg, hnc, _⟩
  · have : l = [] := List.eq_nil_of_length_eq_zero hl
    subst this
    exact Bs.nil _ _ _ _
  · refine ⟨_, cap, rfl, hnc, fun _ => ⟨g, 0, rfl, (Array.getElem?_eq_some_iff.1 hg).1, fun i u hu => ?_⟩⟩
    have := h.cells (g := g) rfl i (bv u) (by rw [List.getElem?_map, hu]; rfl)
    rwa [show (⟨g, 0, none⟩ : Addr).add i = ⟨g, 0 + i, none⟩ by unfold Addr.add; split <;> simp_all] at this
theorem Own.shape {w : World} {base : Nat} {v : Value} {l : List UInt8} (h : Own w base v l) : ∃ A c, v = .slice A l.length c := by
  obtain ⟨A, c, e, _⟩ := h.bs
  exact ⟨A, c, e⟩
theorem Own.block_ge {w : World} {base : Nat} {v : Value} {l : List UInt8} (h : Own w base v l) {g : Nat} (hg : v.ownBlock = some g) : base ≤ g ∧ g < w.heap.size := h.lt g hg
theorem Own.alloc {w : World} {base : Nat} {v : Value} {l : List UInt8} (h : Own w base v l) (o : Obj) : Own (w.alloc o) base v l := World.ownsRow.alloc h o
theorem Own.drew {w : World} {base : Nat} {v : Value} {l : List UInt8} (h : Own w base v l) : Own w.drew base v l := h
theorem Own.kept {w w' : World} {base : Nat} {v : Value} {l : List UInt8} {row : Option Nat} (h : Own w base v l) (hg : w.grownBy w' row) (hne : v.ownBlock = none ∨ v.ownBlock ≠ row) : Own w' base v l := World.ownsRow.kept h hg hne
theorem Own.less {w : World} {base base' : Nat} {v : Value} {l : List UInt8} (h : Own w base v l) (hb : base' ≤ base) : Own w base' v l := by
  refine ⟨h.1, ?_⟩
  rcases h.2 with h2 | ⟨g, cap, cur, e, hg, r⟩
  · exact .inl h2
  · exact .inr ⟨g, cap, cur, e, by omega, r⟩
theorem Own.below {w w' : World} {base B : Nat} {v : Value} {l : List UInt8} (h : Own w base v l) (hb : Below B w w') (hB : w.heap.size ≤ B) : Own w' base v l := by
  refine ⟨h.1, ?_⟩
  rcases h.2 with h2 | ⟨g, cap, cur, e, hg, hgg, r⟩
  · exact .inl h2
  · have hlt : g < w.heap.size := (Array.getElem?_eq_some_iff.1 hgg).1
    exact .inr ⟨g, cap, cur, e, hg, by rw [hb.block g (by omega)]; exact hgg, r⟩

set_option maxRecDepth 100000 in
theorem info_u8 : ∃ i, Try.prog.info? 5 = some i ∧ i.zero = some (.int .u8 0) ∧ i.size = 1 ∧ i.bytes = 1 :=
  ⟨_, rfl, by kernel_rfl, by kernel_rfl, by kernel_rfl⟩

/-- What was there stays as it was. -/
def Grew (x y : World) : Prop := Below x.heap.size x y
theorem Grew.refl (x : World) : Grew x x := Below.refl _ _
theorem Grew.trans (x y z : World) (h : Grew x y) (k : Grew y z) : Grew x z := Below.trans h (k.mono h.size)
theorem nextB {B : Nat} {a b c : World} (h : Below B a b) (hB : B ≤ a.heap.size) (k : Below b.heap.size b c) : Below B a c := h.trans (k.mono (Nat.le_trans hB h.size))

/-- append of bytes onto a row of the call's own. -/
theorem run_app_bytes (w : World) {base B : Nat} {v y : Value} {l m : List UInt8} (ty : TypeId) (hown : Own w base v l) (hy : Bs w B y m) (hlen : l.length + m.length ≤ 140737488355327) (hbase : base ≤ w.heap.size) :
    ∃ v' w', (Builtin.append_ #[31, 31] ty #[v, y]).run Try.prog w = .ok v' w' ∧ Own w' base v' (l ++ m) ∧ w.grownBy w' v.ownBlock ∧ (v'.ownBlock = v.ownBlock ∨ v'.ownBlock = some w.heap.size) := by
  obtain ⟨i, hi, hz, hs, hb⟩ := info_u8
  obtain ⟨A, c, rfl, hc, hcell⟩ := hy
  by_cases hm : m = []
  · subst hm
    refine ⟨v, w, ?_, by simpa using hown, ⟨rfl, rfl, rfl, Nat.le_refl _, fun _ _ _ => rfl⟩, .inl rfl⟩
    have hf : ∀ (cap : Nat) (base' : Option Addr), l.length ≤ cap → v = .slice base' l.length cap → (Builtin.append_ #[31, 31] ty #[v, .slice A 0 c]).run Try.prog w = .ok v w := by
      intro cap base' hcap hv
      subst hv
      have hrun := Ev.run_append_fit (P := Try.prog) (ty := ty) (base := base') (m := l.length) (n := 0) (c := cap) (x := .slice A 0 c) (w := w) (new := #[]) Try.underlying31 Try.underlying31 (.inr ⟨_, rfl⟩) hi rfl (by cases A <;> simp [Builtin.firstCells, loadCells, loadCellsFrom]) (by omega)
      rw [hrun]
      cases base' <;> simp [storeCells]
    rcases hown.2 with ⟨rfl, hl⟩ | ⟨g, cap, cur, rfl, _, _, hnc, _⟩
    · exact hf 0 none (by omega) (by rw [hl])
    · exact hf cap _ hnc rfl
  · obtain ⟨b, off, rfl, hlt, hcs⟩ := hcell hm
    obtain ⟨v', w', h1, h2, h3, _, h5⟩ := run_append_own_at (P := Try.prog) w base 31 ty 5 i (.int .u8 0) 1 1 Try.underlying31 hi hz hs hb rfl (by decide) v l.length (l.map bv) hown ⟨b, off, none⟩ m.length c (m.map bv) (by simp)
      (by
        intro j u hj
        rw [List.getElem?_map] at hj
        cases hmj : m[j]? with
        | none => rw [hmj] at hj; cases hj
        | some x =>
          rw [hmj] at hj
          simp only [Option.map_some, Option.some.injEq] at hj
          subst hj
          rw [show (⟨b, off, none⟩ : Addr).add j = ⟨b, off + j, none⟩ by unfold Addr.add; split <;> simp_all]
          exact hcs j x hmj)
      (by intro u hu; simp only [List.mem_map] at hu; obtain ⟨x, _, rfl⟩ := hu; rfl) (by unfold maxLen; omega) (by omega) hbase
    refine ⟨v', w', h1, ?_, h3, h5⟩
    unfold Own
    rw [List.length_append, List.map_append]
    exact h2

/-- 'b = append(b, x...)' in a walk. -/
theorem wpList_app_bytes (w : World) {ops : Array Oper} {rest : List Oper} {o : Oper} {a : Act} {Q : Exit → Act → World → Prop} (hgd : o.guard = none) (s x : Operand)
    (ho : o.op = .call { callee := .builtin .append, args := #[s, x], argTypes := #[31, 31] }) {base B : Nat} {v y : Value} {l m : List UInt8} (hs : a.eval s = v) (hown : Own w base v l) (hx : a.eval x = y) (hy : Bs w B y m)
    (hlen : l.length + m.length ≤ 140737488355327) (hbase : base ≤ w.heap.size)
    (h : ∀ v' w', Own w' base v' (l ++ m) → w.grownBy w' v.ownBlock → (v'.ownBlock = v.ownBlock ∨ v'.ownBlock = some w.heap.size) → wpList Try.prog ops Q rest (a.put o.dst v') w') : wpList Try.prog ops Q (o :: rest) a w := by
  refine wpList_plain hgd fun K hK => ?_
  obtain ⟨v', w', hr, h2, h3, h4⟩ := run_app_bytes w o.type hown hy hlen hbase
  unfold Oper.wp execOp
  simp only [ho, resolve, invoke, builtin, Sem.run_bind, Sem.run_pure, Result.andThen_ok, List.map_toArray, List.map_cons, List.map_nil, hs, hx, hr]
  exact hK _ _ (h v' w' h2 h3 h4)

/-- A contract that leaves the world alone, inside a region that only reads. -/
theorem quiet_same {P : Program} {f : FuncId} {args : Array Value} {w : World} {n : Nat} {v : Value} (h : ∀ W : World, W.heap = w.heap → Calls P f args W fun e w' => e = .returned v ∧ W = w') :
    Calls P f args (w.drewN n) fun e w'' => e = .returned v ∧ ∃ m, w'' = w.drewN m :=
  (h (w.drewN n) rfl).mono fun _ _ ⟨he, hm⟩ => ⟨he, n, hm.symm⟩
end Go.Proofs.Ytedmogacklbcmaa
