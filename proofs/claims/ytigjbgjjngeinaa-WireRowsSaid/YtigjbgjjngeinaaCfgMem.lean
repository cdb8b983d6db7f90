/- config: tables in memory. -/
import Derived.Test.YtigjbgjjngeinaaCfgPure
import Derived.Test.YtigjbgjjngeinaaArr
import Derived.Test.YtigjbgjjngeinaaEqArr
import Derived.Test.YtigjbgjjngeinaaMem
import Derived.Test.YtigjbgjjngeinaaRow
import Derived.Test.YtigjbgjjngeinaaCells
namespace Go.Proofs.Ytigjbgjjngeinaa.Cfg
open Go.RowKit
/-- A slice that reads as n rows of k cells, in a block below B. -/
def Tab (k : Nat) (w : World) (B : Nat) (v : Value) (n : Nat) (xs : List Value) : Prop :=
  ∃ A c, v = .slice A n c ∧ n ≤ c ∧ xs.length = n * k ∧ (n ≠ 0 → ∃ b off, A = some ⟨b, off, none⟩ ∧ b < B ∧ ∀ j x, xs[j]? = some x → w.cell? ⟨b, off + j, none⟩ = some x)
section
variable {k : Nat} {w w' : World} {B B' : Nat} {v : Value} {n : Nat} {xs : List Value}
theorem Tab.below (h : Tab k w B v n xs) (hb : Below B w w') : Tab k w' B v n xs := by
  obtain ⟨A, c, h1, h2, h3, h4⟩ := h
  refine ⟨A, c, h1, h2, h3, fun hne => ?_⟩
  obtain ⟨b, off, e, hlt, h5⟩ := h4 hne
  exact ⟨b, off, e, hlt, fun j x hx => (hb.cell (p := ⟨b, off + j, none⟩) hlt).trans (h5 j x hx)⟩
theorem Tab.more (h : Tab k w B v n xs) (hB : B ≤ B') : Tab k w B' v n xs := by
  obtain ⟨A, c, h1, h2, h3, h4⟩ := h
  refine ⟨A, c, h1, h2, h3, fun hne => ?_⟩
  obtain ⟨b, off, e, hlt, h5⟩ := h4 hne
  exact ⟨b, off, e, by omega, h5⟩
theorem Tab.shape (h : Tab k w B v n xs) : ∃ A c, v = .slice A n c ∧ n ≤ c := by
  obtain ⟨A, c, h1, h2, _⟩ := h
  exact ⟨A, c, h1, h2⟩
theorem Tab.nil (k : Nat) (w : World) (B : Nat) (A : Option Addr) (c : Nat) : Tab k w B (.slice A 0 c) 0 [] := ⟨A, c, rfl, Nat.zero_le _, by simp, fun h => absurd rfl h⟩
/-- A row of one's own, as a table. -/
theorem Tab.of_own {base : Nat} {e : TypeId} (h : w.ownsRow base e k v n xs) : Tab k w w.heap.size v n xs := by
  rcases h.2 with ⟨rfl, hl⟩ | ⟨g, cap, cur, rfl, _, hg, hnc, _⟩
  · subst hl
    exact ⟨none, 0, rfl, Nat.le_refl _, h.1, fun h => absurd rfl h⟩
  · refine ⟨_, cap, rfl, hnc, h.1, fun _ => ⟨g, 0, rfl, (Array.getElem?_eq_some_iff.1 hg).1, fun i u hu => ?_⟩⟩
    have := h.cells (g := g) rfl i u hu
    rwa [show (⟨g, 0, none⟩ : Addr).add i = ⟨g, 0 + i, none⟩ by unfold Addr.add; split <;> simp_all] at this
/-- A piece of a table. -/
theorem Tab.piece {A : Option Addr} {c i m : Nat} (h : Tab k w B (.slice A n c) n xs) (him : i + m ≤ n) (hm : m ≠ 0) : ∃ b off, A = some ⟨b, off, none⟩ ∧ b < B ∧ ∀ j x, ((xs.drop (i * k)).take (m * k))[j]? = some x → w.cell? ⟨b, off + i * k + j, none⟩ = some x := by
  obtain ⟨A', c', e, h2, h3, h4⟩ := h
  simp only [Value.slice.injEq, true_and] at e
  obtain ⟨rfl, rfl⟩ := e
  obtain ⟨b, off, rfl, hlt, h5⟩ := h4 (by omega)
  refine ⟨b, off, rfl, hlt, fun j x hx => ?_⟩
  rw [List.getElem?_take] at hx
  split at hx
  · rw [List.getElem?_drop] at hx
    rw [Nat.add_assoc]
    exact h5 _ _ hx
  · cases hx
end
section
variable {P : Program}
/-- Some cells in a row, read as one value. -/
theorem run_loadVar_cells (w : World) {b off n : Nat} {ty : TypeId} {cs : List Value} {d : TypeDesc} (hu : P.underlying ty = some d) (hd : (match d with | .struct _ | .array _ _ => true | _ => false) = true)
    (hi : (P.info? ty).map (·.size) = some n) (hn : cs.length = n) (hc : ∀ j x, cs[j]? = some x → w.cell? ⟨b, off + j, none⟩ = some x) : (loadVar ty ⟨b, off, none⟩).run P w = .ok (.agg cs.toArray) w := by
  have hl : (loadCells ⟨b, off, none⟩ cs.length).run P w = .ok cs.toArray w :=
    run_loadCells_list (P := P) w ⟨b, off, none⟩ cs (fun j v hv => by
      have hadd : (⟨b, off, none⟩ : Addr).add j = ⟨b, off + j, none⟩ := by unfold Addr.add; split <;> simp_all
      rw [hadd]
      exact hc j v hv)
  rw [hn] at hl
  cases hq : P.info? ty with
  | none => simp [hq] at hi
  | some i =>
    have hs : i.size = n := by simpa [hq] using hi
    have hagg : (isAgg ty).run P w = .ok true w := by
      unfold isAgg
      rw [Sem.run_bind, run_underlying hu w]
      cases d <;> simp_all
    simp [loadVar, Sem.run_bind, hagg, sizeOf, typeInfo, hq, hs, hl]
/-- append of rows onto a row of one's own. -/
theorem run_app_tab (w : World) {base B k bytes : Nat} {t ty e : TypeId} {i : TypeInfo} {z : Value} (ht : P.underlying t = some (.slice e)) (hi : P.info? e = some i) (hz : i.zero = some z) (hs : i.size = k) (hby : i.bytes = bytes) (hzs : z.cells.size = k) (hk : 0 < k)
    {v y : Value} {n m : Nat} {xs ys : List Value} (hown : w.ownsRow base e k v n xs) (hy : Tab k w B y m ys) (h1 : ∀ u ∈ ys, u.oneCell' = true) (hlen : n + m ≤ 1000000) (hb : bytes ≤ 1000) (hbase : base ≤ w.heap.size) :
    ∃ v' w', (Builtin.append_ #[t, t] ty #[v, y]).run P w = .ok v' w' ∧ w'.ownsRow base e k v' (n + m) (xs ++ ys) ∧ Below base w w' := by
  have hbytes : (n + m) * bytes ≤ 140737488355328 := by
    have := Nat.mul_le_mul hlen hb
    omega
  obtain ⟨A, c, rfl, hc, hl, hcell⟩ := hy
  by_cases hm : m = 0
  · subst hm
    have hys : ys = [] := List.eq_nil_of_length_eq_zero (by simpa using hl)
    subst hys
    refine ⟨v, w, ?_, by simpa using hown, Below.refl _ _⟩
    have hf : ∀ (cap : Nat) (base' : Option Addr), n ≤ cap → v = .slice base' n cap → (Builtin.append_ #[t, t] ty #[v, .slice A 0 c]).run P w = .ok v w := by
      intro cap base' hcap hv
      subst hv
      have hrun := Ev.run_append_fit (P := P) (ty := ty) (base := base') (m := n) (n := 0) (c := cap) (x := .slice A 0 c) (w := w) (new := #[]) ht ht (.inr ⟨_, rfl⟩) hi rfl (by cases A <;> simp [Builtin.firstCells, loadCells, loadCellsFrom]) (by omega)
      rw [hrun]
      cases base' <;> simp [storeCells]
    rcases hown.2 with ⟨rfl, hl'⟩ | ⟨g, cap, cur, rfl, _, _, hnc, _⟩
    · exact hf 0 none (by omega) (by rw [hl'])
    · exact hf cap _ hnc rfl
  · obtain ⟨b, off, rfl, hlt, hcs⟩ := hcell hm
    obtain ⟨v', w', k1, k2, k3, _, k5⟩ := run_append_own_at (P := P) w base t ty e i z k bytes ht hi hz hs hby hzs hk v n xs hown ⟨b, off, none⟩ m c ys hl
      (by
        intro j u hj
        rw [show (⟨b, off, none⟩ : Addr).add j = ⟨b, off + j, none⟩ by unfold Addr.add; split <;> simp_all]
        exact hcs j u hj)
      h1 (by unfold maxLen; omega) hbytes hbase
    refine ⟨v', w', k1, k2, ?_⟩
    refine ⟨k3.os, k3.tape, k3.output, k3.size, fun j hj => k3.block j (by omega) fun e => ?_⟩
    have := (hown.lt j e.symm).1
    omega
theorem wpList_app_tab (w : World) {base B k bytes : Nat} {t e : TypeId} {i : TypeInfo} {z : Value} (ht : P.underlying t = some (.slice e)) (hi : P.info? e = some i) (hz : i.zero = some z) (hs : i.size = k) (hby : i.bytes = bytes) (hzs : z.cells.size = k) (hk : 0 < k)
    {ops : Array Oper} {rest : List Oper} {o : Oper} {a : Act} {Q : Exit → Act → World → Prop} (hgd : o.guard = none) (so xo : Operand) (ho : o.op = .call { callee := .builtin .append, args := #[so, xo], argTypes := #[t, t] })
    {v y : Value} {n m : Nat} {xs ys : List Value} (hsv : a.eval so = v) (hown : w.ownsRow base e k v n xs) (hyv : a.eval xo = y) (hy : Tab k w B y m ys) (h1 : ∀ u ∈ ys, u.oneCell' = true) (hlen : n + m ≤ 1000000) (hb : bytes ≤ 1000) (hbase : base ≤ w.heap.size)
    (h : ∀ v' w', w'.ownsRow base e k v' (n + m) (xs ++ ys) → Below base w w' → wpList P ops Q rest (a.put o.dst v') w') : wpList P ops Q (o :: rest) a w := by
  refine wpList_plain hgd fun K hK => ?_
  obtain ⟨v', w', hr, h2, h3⟩ := run_app_tab (P := P) w (ty := o.type) ht hi hz hs hby hzs hk hown hy h1 hlen hb hbase
  unfold Oper.wp execOp
  simp only [ho, resolve, invoke, builtin, Sem.run_bind, Sem.run_pure, Result.andThen_ok, List.map_toArray, List.map_cons, List.map_nil, hsv, hyv, hr]
  exact hK _ _ (h v' w' h2 h3)
end
/-! ### peers, routes -/
def Mb.cs (m : Mb) : List Value := .int .i64 m.id :: (m.ky.map bv ++ [.bool m.off])
def Mb.val (m : Mb) : Value := .agg m.cs.toArray
def Rt.cs (r : Rt) : List Value := [.int .u32 r.addr, .int .i64 r.bits, .int .i64 r.peer]
def Rt.val (r : Rt) : Value := .agg r.cs.toArray
def mcs (l : List Mb) : List Value := l.flatMap Mb.cs
def rcs (l : List Rt) : List Value := l.flatMap Rt.cs
/-- Its key has 32 bytes. -/
def K32 (l : List Mb) : Prop := ∀ m ∈ l, m.ky.length = 32
theorem Mb.len {m : Mb} (h : m.ky.length = 32) : m.cs.length = 34 := by simp [Mb.cs, h]
theorem Mb.one (m : Mb) : ∀ v ∈ m.cs, v.oneCell' = true := by
  intro v hv
  simp only [Mb.cs, List.mem_cons, List.mem_append, List.mem_map, List.not_mem_nil, or_false] at hv
  rcases hv with rfl | ⟨u, _, rfl⟩ | rfl <;> rfl
theorem Rt.one (r : Rt) : ∀ v ∈ r.cs, v.oneCell' = true := by
  intro v hv
  simp only [Rt.cs, List.mem_cons, List.not_mem_nil, or_false] at hv
  rcases hv with rfl | rfl | rfl <;> rfl
theorem mcs_one (l : List Mb) : ∀ v ∈ mcs l, v.oneCell' = true := by
  intro v hv
  obtain ⟨m, _, h⟩ := List.mem_flatMap.1 hv
  exact m.one v h
theorem rcs_one (l : List Rt) : ∀ v ∈ rcs l, v.oneCell' = true := by
  intro v hv
  obtain ⟨m, _, h⟩ := List.mem_flatMap.1 hv
  exact m.one v h
section
variable {α : Type} (f : α → List Value) (k : Nat)
theorem flat_len : ∀ (l : List α), (∀ x ∈ l, (f x).length = k) → (l.flatMap f).length = l.length * k
  | [], _ => by simp
  | x :: l, h => by
    have h1 := h x (by simp)
    have h2 := flat_len l fun y hy => h y (by simp [hy])
    rw [List.flatMap_cons, List.length_append, h1, h2, List.length_cons, Nat.add_mul]
    omega
theorem flat_drop : ∀ (l : List α) (i : Nat), (∀ x ∈ l, (f x).length = k) → (l.flatMap f).drop (i * k) = (l.drop i).flatMap f
  | l, 0, _ => by simp
  | [], i + 1, _ => by simp
  | x :: l, i + 1, h => by
    have h1 := h x (by simp)
    rw [List.flatMap_cons, List.drop_succ_cons, show (i + 1) * k = (f x).length + i * k by rw [h1, Nat.add_mul]; omega, List.drop_append, List.drop_of_length_le (by omega), List.nil_append, Nat.add_sub_cancel_left]
    exact flat_drop l i fun y hy => h y (by simp [hy])
theorem flat_take : ∀ (l : List α) (i : Nat), (∀ x ∈ l, (f x).length = k) → (l.flatMap f).take (i * k) = (l.take i).flatMap f
  | l, 0, _ => by simp
  | [], i + 1, _ => by simp
  | x :: l, i + 1, h => by
    have h1 := h x (by simp)
    rw [List.flatMap_cons, List.take_succ_cons, List.flatMap_cons, show (i + 1) * k = (f x).length + i * k by rw [h1, Nat.add_mul]; omega, List.take_length_add_append]
    congr 1
    exact flat_take l i fun y hy => h y (by simp [hy])
theorem flat_at {l : List α} {i : Nat} {x : α} (h : ∀ x ∈ l, (f x).length = k) (hx : l[i]? = some x) : ((l.flatMap f).drop (i * k)).take (1 * k) = f x := by
  rw [flat_drop f k l i h, flat_take f k _ 1 fun y hy => h y (List.mem_of_mem_drop hy)]
  have hlt := (List.getElem?_eq_some_iff.1 hx).1
  rw [List.drop_eq_getElem_cons hlt]
  rw [List.getElem?_eq_getElem hlt] at hx
  cases hx
  simp only [List.take_succ_cons, List.take_zero, List.flatMap_cons, List.flatMap_nil, List.append_nil]
end
/-- A slice of peers, of routes. -/
def MTab (w : World) (B : Nat) (v : Value) (l : List Mb) : Prop := K32 l ∧ Tab 34 w B v l.length (mcs l)
def RTab (w : World) (B : Nat) (v : Value) (l : List Rt) : Prop := Tab 3 w B v l.length (rcs l)
theorem K32.cs {l : List Mb} (h : K32 l) : ∀ m ∈ l, m.cs.length = 34 := fun m hm => Mb.len (h m hm)
theorem MTab.below {w w' : World} {B : Nat} {v : Value} {l : List Mb} (h : MTab w B v l) (hb : Below B w w') : MTab w' B v l := ⟨h.1, h.2.below hb⟩
theorem MTab.more {w : World} {B B' : Nat} {v : Value} {l : List Mb} (h : MTab w B v l) (hB : B ≤ B') : MTab w B' v l := ⟨h.1, h.2.more hB⟩
theorem RTab.below {w w' : World} {B : Nat} {v : Value} {l : List Rt} (h : RTab w B v l) (hb : Below B w w') : RTab w' B v l := Tab.below h hb
theorem RTab.more {w : World} {B B' : Nat} {v : Value} {l : List Rt} (h : RTab w B v l) (hB : B ≤ B') : RTab w B' v l := Tab.more h hB
/-- An element of a table of peers. -/
theorem MTab.at {w : World} {B : Nat} {A : Option Addr} {n c : Nat} {l : List Mb} (h : MTab w B (.slice A n c) l) {i : Nat} {m : Mb} (hm : l[i]? = some m) :
    ∃ b off, A = some ⟨b, off, none⟩ ∧ b < B ∧ (∀ j x, m.cs[j]? = some x → w.cell? ⟨b, off + i * 34 + j, none⟩ = some x) ∧ (loadVar 96 ⟨b, off + i * 34, none⟩).run Try.prog w = .ok m.val w := by
  obtain ⟨hk, ht⟩ := h
  have hn : n = l.length := by obtain ⟨_, _, e, _⟩ := ht; simp only [Value.slice.injEq] at e; exact e.2.1
  subst hn
  have hlt := (List.getElem?_eq_some_iff.1 hm).1
  obtain ⟨b, off, rfl, hb, hc⟩ := ht.piece (i := i) (m := 1) (by omega) (by decide)
  unfold mcs at hc
  rw [flat_at Mb.cs 34 hk.cs hm] at hc
  exact ⟨b, off, rfl, hb, hc, run_loadVar_cells w Try.underlying96 rfl (by kernel_rfl) (Mb.len (hk m (List.mem_of_getElem? hm))) hc⟩
theorem RTab.at {w : World} {B : Nat} {A : Option Addr} {n c : Nat} {l : List Rt} (h : RTab w B (.slice A n c) l) {i : Nat} {m : Rt} (hm : l[i]? = some m) :
    ∃ b off, A = some ⟨b, off, none⟩ ∧ b < B ∧ (∀ j x, m.cs[j]? = some x → w.cell? ⟨b, off + i * 3 + j, none⟩ = some x) ∧ (loadVar 99 ⟨b, off + i * 3, none⟩).run Try.prog w = .ok m.val w := by
  have ht : Tab 3 w B (.slice A n c) l.length (rcs l) := h
  have hn : n = l.length := by obtain ⟨_, _, e, _⟩ := ht; simp only [Value.slice.injEq] at e; exact e.2.1
  subst hn
  have hlt := (List.getElem?_eq_some_iff.1 hm).1
  obtain ⟨b, off, rfl, hb, hc⟩ := ht.piece (i := i) (m := 1) (by omega) (by decide)
  unfold rcs at hc
  rw [flat_at Rt.cs 3 (fun _ _ => rfl) hm] at hc
  exact ⟨b, off, rfl, hb, hc, run_loadVar_cells w Try.underlying99 rfl (by kernel_rfl) rfl hc⟩
end Go.Proofs.Ytigjbgjjngeinaa.Cfg
