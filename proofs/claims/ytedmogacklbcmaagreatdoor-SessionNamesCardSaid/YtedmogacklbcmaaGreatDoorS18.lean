/- Texts that the proofs share: Mem, Bs. -/
import Derived.Test.YtedmogacklbcmaaGreatDoorS07
import Derived.WalkKit
import Derived.Maps.AppendAt
import Derived.KernelRfl
import Derived.Deep.Draws
import Derived.Test.YtedmogacklbcmaaGreatDoorProg
namespace Go.Proofs.YtedmogacklbcmaaGreatDoor
open Go.RowKit
def bv (u : UInt8) : Value := .int .u8 u.toNat
def Bs (w : World) (B : Nat) (v : Value) (l : List UInt8) : Prop :=
 ∃ A c, v = .slice A l.length c ∧ l.length ≤ c ∧ (l ≠ [] → ∃ b off, A = some ⟨b, off, none⟩ ∧ b < B ∧ ∀ (i : Nat) (u : UInt8), l[i]? = some u → w.cell? ⟨b, off + i, none⟩ = some (bv u))
def Own (w : World) (base : Nat) (v : Value) (l : List UInt8) : Prop := w.ownsRow base 5 1 v l.length (l.map bv)
theorem Bs.keep {w w' : World} {B : Nat} {v : Value} {l : List UInt8} (h : Bs w B v l) (hk : ∀ b o, b < B → w'.cell? ⟨b, o, none⟩ = w.cell? ⟨b, o, none⟩) : Bs w' B v l := by
 obtain ⟨A, c, h1, h2, h3⟩ := h
 refine ⟨A, c, h1, h2, fun hne => ?_⟩
 obtain ⟨b, off, h4, h5, h6⟩ := h3 hne
 exact ⟨b, off, h4, h5, fun i u hu => (hk b _ h5).trans (h6 i u hu)⟩
theorem Bs.more {w : World} {B B' : Nat} {v : Value} {l : List UInt8} (h : Bs w B v l) (hB : B ≤ B') : Bs w B' v l := by
 obtain ⟨A, c, h1, h2, h3⟩ := h
 refine ⟨A, c, h1, h2, fun hne => ?_⟩
 obtain ⟨b, off, h4, h5, h6⟩ := h3 hne
 exact ⟨b, off, h4, by omega, h6⟩
theorem Bs.below {w w' : World} {B : Nat} {v : Value} {l : List UInt8} (h : Bs w B v l) (hb : Below B w w') : Bs w' B v l := h.keep fun b o hbB => hb.cell (p := ⟨b, o, none⟩) hbB
theorem Bs.drew {w : World} {B : Nat} {v : Value} {l : List UInt8} (h : Bs w B v l) : Bs w.drew B v l := h
theorem Bs.drewN {w : World} {B : Nat} {v : Value} {l : List UInt8} (h : Bs w B v l) (n : Nat) : Bs (w.drewN n) B v l := h
theorem Bs.alloc {w : World} {B : Nat} {v : Value} {l : List UInt8} (h : Bs w B v l) (hB : B ≤ w.heap.size) (o : Obj) : Bs (w.alloc o) B v l := h.keep fun b of hb => World.cell?_alloc_lt w o ⟨b, of, none⟩ (by simp only; omega)
theorem Bs.grown {w w' : World} {B : Nat} {v : Value} {l : List UInt8} {row : Option Nat} (h : Bs w B v l) (hg : w.grownBy w' row) (hB : B ≤ w.heap.size) (hr : ∀ g, row = some g → B ≤ g) : Bs w' B v l :=
 h.keep fun b o hb => World.cell?_of_block (a := ⟨b, o, none⟩) (hg.block b (by omega) (fun e => by have := hr _ e.symm; omega))
theorem Bs.setCell {w : World} {B : Nat} {v : Value} {l : List UInt8} (h : Bs w B v l) {p : Addr} (hp : B ≤ p.block) (u : Value) : Bs (w.setCell p u) B v l :=
 h.keep fun b o hb => World.cell?_setCell_other w p ⟨b, o, none⟩ u (fun e => by subst e; simp only at hp; omega)
theorem Bs.nil (w : World) (B : Nat) (A : Option Addr) (c : Nat) : Bs w B (.slice A 0 c) [] := ⟨A, c, rfl, Nat.zero_le _, fun h => absurd rfl h⟩
theorem Own.nil (w : World) (base : Nat) : Own w base (.slice none 0 0) [] := World.ownsRow_nil w base 5 1
theorem Own.bs {w : World} {base : Nat} {v : Value} {l : List UInt8} (h : Own w base v l) : Bs w w.heap.size v l := by
 rcases h.2 with ⟨rfl, hl⟩ | ⟨g, cap, cur, rfl, _, hg, hnc, _⟩
 · have : l = [] := List.eq_nil_of_length_eq_zero hl
   subst this
   exact Bs.nil _ _ _ _
 · refine ⟨_, cap, rfl, hnc, fun _ => ⟨g, 0, rfl, (Array.getElem?_eq_some_iff.1 hg).1, fun i u hu => ?_⟩⟩
   have := h.cells (g := g) rfl i (bv u) (by rw [List.getElem?_map, hu]; rfl)
   rwa [show (⟨g, 0, none⟩ : Addr).add i = ⟨g, 0 + i, none⟩ by unfold Addr.add; split <;> simp_all] at this
theorem Own.shape {w : World} {base : Nat} {v : Value} {l : List UInt8} (h : Own w base v l) : ∃ A c, v = .slice A l.length c := by
 obtain ⟨A, c, e, _⟩ := h.bs
 exact ⟨A, c, e⟩
theorem Own.block_ge {w : World} {base : Nat} {v : Value} {l : List UInt8} (h : Own w base v l) {g : Nat} (hg : v.ownBlock = some g) : base ≤ g ∧ g < w.heap.size := h.lt g hg
theorem Own.alloc {w : World} {base : Nat} {v : Value} {l : List UInt8} (h : Own w base v l) (o : Obj) : Own (w.alloc o) base v l := World.ownsRow.alloc h o
theorem Own.drew {w : World} {base : Nat} {v : Value} {l : List UInt8} (h : Own w base v l) : Own w.drew base v l := h
theorem Own.kept {w w' : World} {base : Nat} {v : Value} {l : List UInt8} {row : Option Nat} (h : Own w base v l) (hg : w.grownBy w' row) (hne : v.ownBlock = none ∨ v.ownBlock ≠ row) : Own w' base v l := World.ownsRow.kept h hg hne
theorem Own.less {w : World} {base base' : Nat} {v : Value} {l : List UInt8} (h : Own w base v l) (hb : base' ≤ base) : Own w base' v l := by
 refine ⟨h.1, ?_⟩
 rcases h.2 with h2 | ⟨g, cap, cur, e, hg, r⟩
 · exact .inl h2
 · exact .inr ⟨g, cap, cur, e, by omega, r⟩
theorem Own.below {w w' : World} {base B : Nat} {v : Value} {l : List UInt8} (h : Own w base v l) (hb : Below B w w') (hB : w.heap.size ≤ B) : Own w' base v l := by
 refine ⟨h.1, ?_⟩
 rcases h.2 with h2 | ⟨g, cap, cur, e, hg, hgg, r⟩
 · exact .inl h2
 · have hlt : g < w.heap.size := (Array.getElem?_eq_some_iff.1 hgg).1
   exact .inr ⟨g, cap, cur, e, hg, by rw [hb.block g (by omega)]; exact hgg, r⟩
set_option maxRecDepth 100000 in
theorem info_u8 : ∃ i, Tryz.prog.info? 5 = some i ∧ i.zero = some (.int .u8 0) ∧ i.size = 1 ∧ i.bytes = 1 :=
 ⟨_, rfl, by kernel_rfl, by kernel_rfl, by kernel_rfl⟩
def Grew (x y : World) : Prop := Below x.heap.size x y
theorem Grew.refl (x : World) : Grew x x := Below.refl _ _
theorem Grew.trans (x y z : World) (h : Grew x y) (k : Grew y z) : Grew x z := Below.trans h (k.mono h.size)
theorem nextB {B : Nat} {a b c : World} (h : Below B a b) (hB : B ≤ a.heap.size) (k : Below b.heap.size b c) : Below B a c := h.trans (k.mono (Nat.le_trans hB h.size))
theorem run_app_bytes (w : World) {base B : Nat} {v y : Value} {l m : List UInt8} (ty : TypeId) (hown : Own w base v l) (hy : Bs w B y m) (hlen : l.length + m.length ≤ 140737488355327) (hbase : base ≤ w.heap.size) :
 ∃ v' w', (Builtin.append_ #[38, 38] ty #[v, y]).run Tryz.prog w = .ok v' w' ∧ Own w' base v' (l ++ m) ∧ w.grownBy w' v.ownBlock ∧ (v'.ownBlock = v.ownBlock ∨ v'.ownBlock = some w.heap.size) := by
 obtain ⟨i, hi, hz, hs, hb⟩ := info_u8
 obtain ⟨A, c, rfl, hc, hcell⟩ := hy
 by_cases hm : m = []
 · subst hm
   refine ⟨v, w, ?_, by simpa using hown, ⟨rfl, rfl, rfl, Nat.le_refl _, fun _ _ _ => rfl⟩, .inl rfl⟩
   have hf : ∀ (cap : Nat) (base' : Option Addr), l.length ≤ cap → v = .slice base' l.length cap → (Builtin.append_ #[38, 38] ty #[v, .slice A 0 c]).run Tryz.prog w = .ok v w := by
    intro cap base' hcap hv
    subst hv
    have hrun := Ev.run_append_fit (P := Tryz.prog) (ty := ty) (base := base') (m := l.length) (n := 0) (c := cap) (x := .slice A 0 c) (w := w) (new := #[]) Tryz.underlying38 Tryz.underlying38 (.inr ⟨_, rfl⟩) hi rfl (by cases A <;> simp [Builtin.firstCells, loadCells, loadCellsFrom]) (by omega)
    rw [hrun]
    cases base' <;> simp [storeCells]
   rcases hown.2 with ⟨rfl, hl⟩ | ⟨g, cap, cur, rfl, _, _, hnc, _⟩
   · exact hf 0 none (by omega) (by rw [hl])
   · exact hf cap _ hnc rfl
 · obtain ⟨b, off, rfl, hlt, hcs⟩ := hcell hm
   obtain ⟨v', w', h1, h2, h3, _, h5⟩ := run_append_own_at (P := Tryz.prog) w base 38 ty 5 i (.int .u8 0) 1 1 Tryz.underlying38 hi hz hs hb rfl (by decide) v l.length (l.map bv) hown ⟨b, off, none⟩ m.length c (m.map bv) (by simp)
    (by
     intro j u hj
     rw [List.getElem?_map] at hj
     cases hmj : m[j]? with
     | none => rw [hmj] at hj; cases hj
     | some x =>
       rw [hmj] at hj
       simp only [Option.map_some, Option.some.injEq] at hj
       subst hj
       rw [show (⟨b, off, none⟩ : Addr).add j = ⟨b, off + j, none⟩ by unfold Addr.add; split <;> simp_all]
       exact hcs j x hmj)
    (by intro u hu; simp only [List.mem_map] at hu; obtain ⟨x, _, rfl⟩ := hu; rfl) (by unfold maxLen; omega) (by omega) hbase
   refine ⟨v', w', h1, ?_, h3, h5⟩
   unfold Own
   rw [List.length_append, List.map_append]
   exact h2
theorem wpList_app_bytes (w : World) {ops : Array Oper} {rest : List Oper} {o : Oper} {a : Act} {Q : Exit → Act → World → Prop} (hgd : o.guard = none) (s x : Operand)
 (ho : o.op = .call { callee := .builtin .append, args := #[s, x], argTypes := #[38, 38] }) {base B : Nat} {v y : Value} {l m : List UInt8} (hs : a.eval s = v) (hown : Own w base v l) (hx : a.eval x = y) (hy : Bs w B y m)
 (hlen : l.length + m.length ≤ 140737488355327) (hbase : base ≤ w.heap.size)
 (h : ∀ v' w', Own w' base v' (l ++ m) → w.grownBy w' v.ownBlock → (v'.ownBlock = v.ownBlock ∨ v'.ownBlock = some w.heap.size) → wpList Tryz.prog ops Q rest (a.put o.dst v') w') : wpList Tryz.prog ops Q (o :: rest) a w := by
 refine wpList_plain hgd fun K hK => ?_
 obtain ⟨v', w', hr, h2, h3, h4⟩ := run_app_bytes w o.type hown hy hlen hbase
 unfold Oper.wp execOp
 simp only [ho, resolve, invoke, builtin, Sem.run_bind, Sem.run_pure, Result.andThen_ok, List.map_toArray, List.map_cons, List.map_nil, hs, hx, hr]
 exact hK _ _ (h v' w' h2 h3 h4)
theorem quiet_same {P : Program} {f : FuncId} {args : Array Value} {w : World} {n : Nat} {v : Value} (h : ∀ W : World, W.heap = w.heap → Calls P f args W fun e w' => e = .returned v ∧ W = w') :
 Calls P f args (w.drewN n) fun e w'' => e = .returned v ∧ ∃ m, w'' = w.drewN m :=
 (h (w.drewN n) rfl).mono fun _ _ ⟨he, hm⟩ => ⟨he, n, hm.symm⟩
end Go.Proofs.YtedmogacklbcmaaGreatDoor
namespace Go.Proofs.YtedmogacklbcmaaGreatDoor
open Go.RowKit
theorem Bs.take {w : World} {B : Nat} {A : Option Addr} {c m : Nat} {l : List UInt8} (h : Bs w B (.slice A m c) l) (hm : m = l.length) {k : Nat} (hk : k ≤ l.length) : Bs w B (.slice A k c) (l.take k) := by
 subst hm
 obtain ⟨A', c', he, hc, hcs⟩ := h
 simp only [Value.slice.injEq] at he
 obtain ⟨rfl, _, rfl⟩ := he
 have hlen : (l.take k).length = k := by rw [List.length_take]; omega
 refine ⟨A, c, by rw [hlen], by omega, fun hne => ?_⟩
 obtain ⟨b, off, rfl, h2, h3⟩ := hcs (by intro h; subst h; simp at hne)
 refine ⟨b, off, rfl, h2, fun i u hu => ?_⟩
 rw [List.getElem?_take] at hu
 split at hu
 · exact h3 i u hu
 · cases hu
theorem Bs.cut {w : World} {B : Nat} {A : Option Addr} {c : Nat} {l : List UInt8} (h : Bs w B (.slice A l.length c) l) {k : Nat} (hk : k ≤ l.length) : Bs w B (.slice (if c = k then A else A.map (·.add k)) (l.length - k) (c - k)) (l.drop k) := by
 obtain ⟨A', c', he, hc, hcs⟩ := h
 simp only [Value.slice.injEq] at he
 obtain ⟨rfl, _, rfl⟩ := he
 refine ⟨_, c - k, by rw [List.length_drop], by rw [List.length_drop]; omega, fun hne => ?_⟩
 have hlt : k < l.length := by
  rcases Nat.lt_or_ge k l.length with h | h
  · exact h
  · exact absurd (List.drop_eq_nil_of_le h) hne
 obtain ⟨b, off, rfl, h2, h3⟩ := hcs (by intro h; subst h; simp at hlt)
 rw [if_neg (by omega)]
 refine ⟨b, off + k, ?_, h2, fun i u hu => ?_⟩
 · simp only [Option.map_some, Option.some.injEq]
   unfold Addr.add; split <;> simp_all
 · rw [List.getElem?_drop] at hu
   have := h3 _ u hu
   rwa [← Nat.add_assoc] at this
theorem Bs.heap {w W : World} {B : Nat} {v : Value} {l : List UInt8} (h : Bs w B v l) (hW : W.heap = w.heap) : Bs W B v l := h.keep fun b o _ => by simp only [World.cell?, hW]
end Go.Proofs.YtedmogacklbcmaaGreatDoor
