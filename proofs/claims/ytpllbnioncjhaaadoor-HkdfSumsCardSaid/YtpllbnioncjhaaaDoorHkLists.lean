/- Lists of byte slices: their values, appended in a row with room. -/
import Derived.Test.YtpllbnioncjhaaaDoorHkPad
import Derived.Test.YtpllbnioncjhaaaDoorArgs
namespace Go.Proofs.YtpllbnioncjhaaaDoor
open Go.RowKit

/-- A list whose cells hold just these values. -/
def Vals (w : World) (v : Value) (vs : List Value) : Prop :=
  ∃ A c, v = .slice A vs.length c ∧ vs.length ≤ c ∧ (vs ≠ [] → ∃ b off, A = some ⟨b, off, none⟩ ∧ ∀ (i : Nat) (u : Value), vs[i]? = some u → w.cell? ⟨b, off + i, none⟩ = some u)
/-- Values that read as these lists of bytes. -/
def Reads (w : World) (B : Nat) (vs : List Value) (ls : List (List UInt8)) : Prop := vs.length = ls.length ∧ ∀ (i : Nat) (l : List UInt8), ls[i]? = some l → ∃ u, vs[i]? = some u ∧ Bs w B u l
theorem Reads.below {w w' : World} {B : Nat} {vs : List Value} {ls : List (List UInt8)} (h : Reads w B vs ls) (hb : Below B w w') : Reads w' B vs ls :=
  ⟨h.1, fun i l hl => by obtain ⟨u, h1, h2⟩ := h.2 i l hl; exact ⟨u, h1, h2.below hb⟩⟩
theorem Reads.more {w : World} {B B' : Nat} {vs : List Value} {ls : List (List UInt8)} (h : Reads w B vs ls) (hb : B ≤ B') : Reads w B' vs ls :=
  ⟨h.1, fun i l hl => by obtain ⟨u, h1, h2⟩ := h.2 i l hl; exact ⟨u, h1, h2.more hb⟩⟩
theorem Reads.keep {w W : World} {g : Nat} {vs : List Value} {ls : List (List UInt8)} (h : Reads w g vs ls) (hk : Ev.Keep ⟨w, fun k => k = g⟩ W) (hg : g < w.heap.size) : Reads W g vs ls :=
  ⟨h.1, fun i l hl => by obtain ⟨u, h1, h2⟩ := h.2 i l hl; exact ⟨u, h1, keep_bs h2 hk hg⟩⟩
theorem Reads.one {w : World} {B : Nat} {u : Value} {l : List UInt8} (h : Bs w B u l) : Reads w B [u] [l] := ⟨rfl, fun i m hm => by
  cases i with
  | zero => simp at hm; subst hm; exact ⟨u, rfl, h⟩
  | succ i => simp at hm⟩
theorem Reads.append {w : World} {B : Nat} {vs us : List Value} {ls ms : List (List UInt8)} (h : Reads w B vs ls) (k : Reads w B us ms) : Reads w B (vs ++ us) (ls ++ ms) := by
  refine ⟨by rw [List.length_append, List.length_append, h.1, k.1], fun i l hl => ?_⟩
  rw [List.getElem?_append] at hl ⊢
  rw [h.1]
  split at hl
  · rename_i hi; rw [if_pos hi]; exact h.2 i l hl
  · rename_i hi; rw [if_neg hi]; exact k.2 _ l hl
theorem Reads.one_cell {w : World} {B : Nat} {vs : List Value} {ls : List (List UInt8)} (h : Reads w B vs ls) : ∀ u ∈ vs, u.oneCell' = true := by
  intro u hu
  obtain ⟨i, hi⟩ := List.getElem?_of_mem hu
  have hlt : i < ls.length := by rw [← h.1]; exact (List.getElem?_eq_some_iff.1 hi).1
  obtain ⟨u', h1, A, c, rfl, _⟩ := h.2 i _ (List.getElem?_eq_getElem hlt)
  rw [hi] at h1
  injection h1 with h1
  subst h1
  rfl
theorem bss_vals {w : World} {B : Nat} {v : Value} {ls : List (List UInt8)} (h : Bss w B v ls) : ∃ vs, Vals w v vs ∧ Reads w B vs ls := by
  obtain ⟨A, c, rfl, hc, hcs⟩ := h
  by_cases hne : ls = []
  · subst hne
    exact ⟨[], ⟨A, c, rfl, Nat.zero_le _, fun h => absurd rfl h⟩, rfl, fun i l hl => by simp at hl⟩
  · obtain ⟨b, off, rfl, _, hcell⟩ := hcs hne
    have hex : ∀ k, k ≤ ls.length → ∃ vs : List Value, vs.length = k ∧ ∀ (i : Nat) (l : List UInt8), i < k → ls[i]? = some l → ∃ u, vs[i]? = some u ∧ w.cell? ⟨b, off + i, none⟩ = some u ∧ Bs w B u l := by
      intro k
      induction k with
      | zero => exact fun _ => ⟨[], rfl, fun i l h => absurd h (by omega)⟩
      | succ k ih =>
        intro hk
        obtain ⟨vs, h1, h2⟩ := ih (by omega)
        obtain ⟨u, h3, h4⟩ := hcell k _ (List.getElem?_eq_getElem (by omega))
        refine ⟨vs ++ [u], by simp [h1], fun i l hi hl => ?_⟩
        by_cases hik : i < k
        · obtain ⟨u', h5, h6⟩ := h2 i l hik hl
          exact ⟨u', by rw [List.getElem?_append_left (by omega)]; exact h5, h6⟩
        · have : i = k := by omega
          subst this
          rw [List.getElem?_eq_getElem (by omega)] at hl
          injection hl with hl
          subst hl
          exact ⟨u, by rw [List.getElem?_append_right (by omega), h1, Nat.sub_self]; rfl, h3, h4⟩
    obtain ⟨vs, h1, h2⟩ := hex _ (Nat.le_refl _)
    refine ⟨vs, ⟨some ⟨b, off, none⟩, c, by rw [h1], by omega, fun _ => ⟨b, off, rfl, fun i u hu => ?_⟩⟩, h1, fun i l hl => ?_⟩
    · have hi : i < ls.length := by rw [← h1]; exact (List.getElem?_eq_some_iff.1 hu).1
      obtain ⟨u', h3, h4, _⟩ := h2 i _ hi (List.getElem?_eq_getElem hi)
      rw [hu] at h3
      injection h3 with h3
      rw [h3]
      exact h4
    · obtain ⟨u, h3, _, h5⟩ := h2 i l (List.getElem?_eq_some_iff.1 hl).1 hl
      exact ⟨u, h3, h5⟩
theorem Bss.more' {w : World} {B B' : Nat} {v : Value} {ls : List (List UInt8)} (h : Bss w B v ls) (hB : B ≤ B') : Bss w B' v ls := by
  obtain ⟨A, c, h1, h2, h3⟩ := h
  refine ⟨A, c, h1, h2, fun hne => ?_⟩
  obtain ⟨b, off, e, hlt, h4⟩ := h3 hne
  refine ⟨b, off, e, by omega, fun i l hl => ?_⟩
  obtain ⟨u, h5, h6⟩ := h4 i l hl
  exact ⟨u, h5, h6.more hB⟩
theorem Vals.grown {w w' : World} {v : Value} {vs : List Value} {B : Nat} (h : Vals w v vs) (hB : ∀ b off c, v = .slice (some ⟨b, off, none⟩) vs.length c → vs ≠ [] → b < B) (hb : Below B w w') : Vals w' v vs := by
  obtain ⟨A, c, rfl, h1, h2⟩ := h
  refine ⟨A, c, rfl, h1, fun hne => ?_⟩
  obtain ⟨b, off, rfl, h3⟩ := h2 hne
  exact ⟨b, off, rfl, fun i u hu => (hb.cell (p := ⟨b, off + i, none⟩) (hB b off c rfl hne)).trans (h3 i u hu)⟩
set_option maxRecDepth 100000 in
theorem info_bs : ∃ i, Tryd.prog.info? 22 = some i ∧ i.zero = some (.slice none 0 0) ∧ i.size = 1 ∧ i.bytes = 24 :=
  ⟨_, rfl, by kernel_rfl, by kernel_rfl, by kernel_rfl⟩
/-- append in a row that has room. -/
theorem run_app_room (w : World) (ty : TypeId) {g n cap : Nat} {cur vs : List Value} {y : Value} (hrow : Row w g cur 22) (hcap : cur.length = cap) (hy : Vals w y vs) (h1 : ∀ u ∈ vs, u.oneCell' = true) (hroom : n + vs.length ≤ cap) :
    ∃ w', (Builtin.append_ #[34, 34] ty #[.slice (some ⟨g, 0, none⟩) n cap, y]).run Tryd.prog w = .ok (.slice (some ⟨g, 0, none⟩) (n + vs.length) cap) w' ∧ Row w' g (cur.take n ++ vs ++ cur.drop (n + vs.length)) 22 ∧ Ev.Keep ⟨w, fun k => k = g⟩ w' := by
  obtain ⟨i, hi, hz, hs, hb⟩ := info_bs
  obtain ⟨A, c, rfl, hc, hcell⟩ := hy
  by_cases hne : vs = []
  · subst hne
    have hrun := Ev.run_append_fit (P := Tryd.prog) (ty := ty) (base := some ⟨g, 0, none⟩) (m := n) (n := 0) (c := cap) (x := .slice A 0 c) (w := w) (new := #[]) Tryd.underlying34 Tryd.underlying34 (.inr ⟨_, rfl⟩) hi rfl (by cases A <;> simp [Builtin.firstCells, loadCells, loadCellsFrom]) (by simpa using hroom)
    refine ⟨w, ?_, ?_, ⟨rfl, rfl, rfl, Nat.le_refl _, fun _ _ => rfl⟩⟩
    · rw [List.length_nil, hrun]
      simp [storeCells]
    · rw [List.length_nil, Nat.add_zero, List.append_nil, List.take_append_drop]
      exact hrow
  · obtain ⟨b, off, rfl, h2⟩ := hcell hne
    have hrun := run_append_room (P := Tryd.prog) w 34 ty 22 i Tryd.underlying34 hi g n cap cur.toArray hrow ⟨b, off, none⟩ vs.length c vs (by rw [hs, Nat.mul_one])
      (fun j u hj => by rw [show (⟨b, off, none⟩ : Addr).add j = ⟨b, off + j, none⟩ by unfold Addr.add; split <;> simp_all]; exact h2 j u hj) h1 hroom (by rw [hs, Nat.mul_one]; simpa [hcap] using hroom)
    refine ⟨_, hrun, ?_, ⟨rfl, rfl, rfl, by simp [World.setRow], fun k hk => setRow_other w g k _ fun e => hk (.inr e)⟩⟩
    rw [hs, Nat.mul_one]
    have := hrow.setRow (cur.take n ++ vs ++ cur.drop (n + vs.length))
    exact this
theorem wpList_app_room (w : World) {ops : Array Oper} {rest : List Oper} {o : Oper} {a : Act} {Q : Exit → Act → World → Prop} (hgd : o.guard = none) (s x : Operand)
    (ho : o.op = .call { callee := .builtin .append, args := #[s, x], argTypes := #[34, 34] }) {g n cap : Nat} {cur vs : List Value} {y : Value} (hs : a.eval s = .slice (some ⟨g, 0, none⟩) n cap) (hx : a.eval x = y)
    (hrow : Row w g cur 22) (hcap : cur.length = cap) (hy : Vals w y vs) (h1 : ∀ u ∈ vs, u.oneCell' = true) (hroom : n + vs.length ≤ cap)
    (h : ∀ w', Row w' g (cur.take n ++ vs ++ cur.drop (n + vs.length)) 22 → Ev.Keep ⟨w, fun k => k = g⟩ w' → wpList Tryd.prog ops Q rest (a.put o.dst (.slice (some ⟨g, 0, none⟩) (n + vs.length) cap)) w') : wpList Tryd.prog ops Q (o :: rest) a w := by
  refine wpList_plain hgd fun K hK => ?_
  obtain ⟨w', hr, h2, h3⟩ := run_app_room w o.type hrow hcap hy h1 hroom
  unfold Oper.wp execOp
  simp only [ho, resolve, invoke, builtin, Sem.run_bind, Sem.run_pure, Result.andThen_ok, List.map_toArray, List.map_cons, List.map_nil, hs, hx, hr]
  exact hK _ _ (h w' h2 h3)
/-- A made row of lists. -/
theorem wpList_make_lists (w : World) {ops : Array Oper} {rest : List Oper} {o : Oper} {a : Act} {Q : Exit → Act → World → Prop}
    (hg : o.guard = none) (l c : Operand) (hop : o.op = Op.makeSlice 34 l c) (n : Nat) (hl : a.eval l = .int .i64 0) (hc : a.eval c = .int .i64 (n : Int)) (hn : n ≤ 1000000000)
    (hK : ∀ w' cur, Row w' w.heap.size cur 22 → cur.length = n → w.grownBy w' none → wpList Tryd.prog ops Q rest (a.put o.dst (.slice (some ⟨w.heap.size, 0, none⟩) 0 n)) w') :
    wpList Tryd.prog ops Q (o :: rest) a w := by
  obtain ⟨i, hi, hz, hs, hb⟩ := info_bs
  refine wpList_make_own w hg l c 34 hop w.heap.size 22 i (.slice none 0 0) 1 Tryd.underlying34 hi hz hs .i64 .i64 _ n hl hc rfl (by rw [hb]; omega) (by unfold maxLen; omega) (Nat.le_refl _) fun w' h1 h2 => ?_
  rcases h1.2 with ⟨h0, _⟩ | ⟨g, cap, cur, e, _, hgg, _, _, hcs, _⟩
  · simp at h0
  · simp only [Value.slice.injEq, Option.some.injEq, Addr.mk.injEq, and_true, true_and] at e
    obtain ⟨rfl, rfl⟩ := e
    exact hK w' cur.toList (by unfold Row; simpa using hgg) (by simpa using hcs) h2
/-- A row of the call's own that holds these values. -/
def OwnVs (w : World) (base : Nat) (v : Value) (vs : List Value) : Prop := w.ownsRow base 22 1 v vs.length vs
theorem ownVs_new (w : World) (v : Value) : OwnVs (w.alloc (.cells #[v] 22)) w.heap.size (.slice (some ⟨w.heap.size, 0, none⟩) 1 1) [v] :=
  ⟨rfl, .inr ⟨w.heap.size, 1, #[v], rfl, Nat.le_refl _, heap_alloc_new w _, Nat.le_refl _, by decide, rfl, by simp⟩⟩
theorem bss_own {w : World} {base : Nat} {v : Value} {vs : List Value} {ls : List (List UInt8)} (h : OwnVs w base v vs) (hr : Reads w w.heap.size vs ls) : Bss w w.heap.size v ls := by
  rcases h.2 with ⟨rfl, hl⟩ | ⟨g, cap, cur, rfl, _, hg, hnc, _⟩
  · have : ls = [] := List.eq_nil_of_length_eq_zero (by rw [← hr.1]; exact hl)
    subst this
    exact ⟨none, 0, rfl, Nat.zero_le _, fun h => absurd rfl h⟩
  · refine ⟨_, cap, by rw [hr.1], by rw [← hr.1]; exact hnc, fun _ => ⟨g, 0, rfl, (Array.getElem?_eq_some_iff.1 hg).1, fun i l hl => ?_⟩⟩
    obtain ⟨u, h1, h2⟩ := hr.2 i l hl
    have := h.cells (g := g) rfl i u h1
    rw [show (⟨g, 0, none⟩ : Addr).add i = ⟨g, 0 + i, none⟩ by unfold Addr.add; split <;> simp_all] at this
    exact ⟨u, this, h2⟩
theorem run_app_lists (w : World) (ty : TypeId) {base : Nat} {v y : Value} {vs us : List Value} (hown : OwnVs w base v vs) (hy : Vals w y us) (h1 : ∀ u ∈ us, u.oneCell' = true) (hlen : vs.length + us.length ≤ 1000000) (hbase : base ≤ w.heap.size) :
    ∃ v' w', (Builtin.append_ #[34, 34] ty #[v, y]).run Tryd.prog w = .ok v' w' ∧ OwnVs w' base v' (vs ++ us) ∧ w.grownBy w' v.ownBlock := by
  obtain ⟨i, hi, hz, hs, hb⟩ := info_bs
  obtain ⟨A, c, rfl, hc, hcell⟩ := hy
  by_cases hne : us = []
  · subst hne
    refine ⟨v, w, ?_, by simpa using hown, ⟨rfl, rfl, rfl, Nat.le_refl _, fun _ _ _ => rfl⟩⟩
    have hf : ∀ (cap : Nat) (base' : Option Addr), vs.length ≤ cap → v = .slice base' vs.length cap → (Builtin.append_ #[34, 34] ty #[v, .slice A 0 c]).run Tryd.prog w = .ok v w := by
      intro cap base' hcap hv
      subst hv
      have hrun := Ev.run_append_fit (P := Tryd.prog) (ty := ty) (base := base') (m := vs.length) (n := 0) (c := cap) (x := .slice A 0 c) (w := w) (new := #[]) Tryd.underlying34 Tryd.underlying34 (.inr ⟨_, rfl⟩) hi rfl (by cases A <;> simp [Builtin.firstCells, loadCells, loadCellsFrom]) (by omega)
      rw [hrun]
      cases base' <;> simp [storeCells]
    rcases hown.2 with ⟨rfl, hl⟩ | ⟨g, cap, cur, rfl, _, _, hnc, _⟩
    · exact hf 0 none (by omega) (by rw [hl])
    · exact hf cap _ hnc rfl
  · obtain ⟨b, off, rfl, h2⟩ := hcell hne
    obtain ⟨v', w', k1, k2, k3, _, _⟩ := run_append_own_at (P := Tryd.prog) w base 34 ty 22 i (.slice none 0 0) 1 24 Tryd.underlying34 hi hz hs hb rfl (by decide) v vs.length vs hown ⟨b, off, none⟩ us.length c us (by simp)
      (fun j u hj => by rw [show (⟨b, off, none⟩ : Addr).add j = ⟨b, off + j, none⟩ by unfold Addr.add; split <;> simp_all]; exact h2 j u hj) h1 (by unfold maxLen; omega) (by omega) hbase
    refine ⟨v', w', k1, ?_, k3⟩
    unfold OwnVs
    rw [List.length_append]
    exact k2
theorem wpList_app_lists (w : World) {ops : Array Oper} {rest : List Oper} {o : Oper} {a : Act} {Q : Exit → Act → World → Prop} (hgd : o.guard = none) (s x : Operand)
    (ho : o.op = .call { callee := .builtin .append, args := #[s, x], argTypes := #[34, 34] }) {base : Nat} {v y : Value} {vs us : List Value} (hs : a.eval s = v) (hx : a.eval x = y)
    (hown : OwnVs w base v vs) (hy : Vals w y us) (h1 : ∀ u ∈ us, u.oneCell' = true) (hlen : vs.length + us.length ≤ 1000000) (hbase : base ≤ w.heap.size)
    (h : ∀ v' w', OwnVs w' base v' (vs ++ us) → w.grownBy w' v.ownBlock → wpList Tryd.prog ops Q rest (a.put o.dst v') w') : wpList Tryd.prog ops Q (o :: rest) a w := by
  refine wpList_plain hgd fun K hK => ?_
  obtain ⟨v', w', hr, h2, h3⟩ := run_app_lists w o.type hown hy h1 hlen hbase
  unfold Oper.wp execOp
  simp only [ho, resolve, invoke, builtin, Sem.run_bind, Sem.run_pure, Result.andThen_ok, List.map_toArray, List.map_cons, List.map_nil, hs, hx, hr]
  exact hK _ _ (h v' w' h2 h3)
/-- A literal list of byte slices. -/
theorem bss_new {w : World} {vs : List Value} {ls : List (List UInt8)} {g n : Nat} (hg : w.heap.size = g) (hn : ls.length = n) (hr : Reads w w.heap.size vs ls) : Bss (w.alloc (.cells vs.toArray 22)) (w.alloc (.cells vs.toArray 22)).heap.size (.slice (some ⟨g, 0, none⟩) n n) ls := by
  subst hg; subst hn
  refine ⟨_, _, rfl, Nat.le_refl _, fun _ => ⟨w.heap.size, 0, rfl, by simp, fun i l hl => ?_⟩⟩
  obtain ⟨u, h1, h2⟩ := hr.2 i l hl
  exact ⟨u, Row.cell (cs := vs) (t := 22) (Row.new rfl rfl) (by rw [Nat.zero_add]; exact h1), (h2.alloc (Nat.le_refl _) _).more (by simp)⟩
theorem pcs_of {w : World} {g n cap : Nat} {cur vs : List Value} {ls : List (List UInt8)} (hrow : Row w g (vs ++ cur) 22) (hr : Reads w g vs ls) (hn : n = ls.length) (hcap : n ≤ cap) : Pcs w g (.slice (some ⟨g, 0, none⟩) n cap) ls := by
  subst hn
  refine ⟨0, cap, _, rfl, hcap, hrow, by rw [List.length_append, hr.1]; omega, fun i l hl => ?_⟩
  obtain ⟨u, h1, h2⟩ := hr.2 i l hl
  have hi : i < vs.length := (List.getElem?_eq_some_iff.1 h1).1
  exact ⟨u, by rw [Nat.zero_add, List.getElem?_append_left hi]; exact h1, h2⟩
end Go.Proofs.YtpllbnioncjhaaaDoor
