/- disk: ints that are appended onto a row of one's own. -/
import Derived.Test.YtgmmjnedgaeefaaDskActs
import Derived.Test.YtgmmjnedgaeefaaDskCrash
namespace Go.Proofs.Ytgmmjnedgaeefaa.Dsk
open Go.RowKit
set_option maxRecDepth 100000 in
theorem info_int : ∃ i, Try.prog.info? 3 = some i ∧ i.zero = some (.int .i64 0) ∧ i.size = 1 ∧ i.bytes = 8 :=
  ⟨_, rfl, by kernel_rfl, by kernel_rfl, by kernel_rfl⟩
def OwnI (w : World) (base : Nat) (v : Value) (l : List Int) : Prop := w.ownsRow base 3 1 v l.length (l.map (Value.int .i64))
theorem OwnI.cells {w : World} {base : Nat} {v : Value} {l : List Int} (h : OwnI w base v l) : ∃ A c, v = .slice A l.length c ∧ l.length ≤ c ∧ (l ≠ [] → ∃ g, A = some ⟨g, 0, none⟩ ∧ base ≤ g ∧ g < w.heap.size ∧ ∀ (i : Nat) (x : Int), l[i]? = some x → w.cell? ⟨g, i, none⟩ = some (.int .i64 x)) := by
  rcases h.2 with ⟨rfl, hl⟩ | ⟨g, cap, cur, rfl, hb, hg, hnc, _⟩
  · exact ⟨none, 0, by rw [hl], by omega, fun hne => absurd (List.eq_nil_of_length_eq_zero hl) hne⟩
  · refine ⟨_, cap, rfl, hnc, fun _ => ⟨g, rfl, hb, (Array.getElem?_eq_some_iff.1 hg).1, fun i s hs => ?_⟩⟩
    have := World.ownsRow.cells h (g := g) rfl i (.int .i64 s) (by rw [List.getElem?_map, hs]; rfl)
    rwa [show (⟨g, 0, none⟩ : Addr).add i = ⟨g, 0 + i, none⟩ by unfold Addr.add; split <;> simp_all, Nat.zero_add] at this
theorem ownI_new (w : World) : OwnI (w.alloc (.cells #[] 3)) w.heap.size (.slice (some ⟨w.heap.size, 0, none⟩) 0 0) [] :=
  ⟨by simp, .inr ⟨w.heap.size, 0, #[], rfl, Nat.le_refl _, heap_alloc_new w _, Nat.le_refl _, by unfold maxLen; omega, by simp, by simp⟩⟩
theorem ownI_at (w : World) (g : Nat) (h : w.heap.size = g) : OwnI (w.alloc (.cells #[] 3)) g (.slice (some ⟨g, 0, none⟩) 0 0) [] := by subst h; exact ownI_new w
/-- They are in no block of the disk. -/
theorem OwnI.free {w : World} {B base : Nat} {L : Lab} {p : Nat} {d : Dk} {v : Value} {l : List Int} (h : OwnI w base v l) (hL : ∀ b, base ≤ b → L b = none) : IsF w L v l := by
  obtain ⟨A, c, h1, h2, h3⟩ := h.cells
  refine ⟨A, c, h1, h2, fun hne => ?_⟩
  obtain ⟨g, e, hb, hlt, h4⟩ := h3 hne
  exact ⟨g, 0, e, hlt, hL g hb, fun i x hx => by rw [Nat.zero_add]; exact h4 i x hx⟩
/-- append of ints onto a row of the call's own. -/
theorem run_app_ints (w : World) {base B : Nat} {v y : Value} {l m : List Int} (ty : TypeId) (hown : OwnI w base v l) (hy : IsL w B y m) (hlen : l.length + m.length ≤ 17592186044415) (hbase : base ≤ w.heap.size) :
    ∃ v' w', (Builtin.append_ #[30, 30] ty #[v, y]).run Try.prog w = .ok v' w' ∧ OwnI w' base v' (l ++ m) ∧ w.grownBy w' v.ownBlock ∧ (v'.ownBlock = v.ownBlock ∨ v'.ownBlock = some w.heap.size) := by
  obtain ⟨i, hi, hz, hs, hb⟩ := info_int
  obtain ⟨A, c, rfl, hc, hcell⟩ := hy
  by_cases hm : m = []
  · subst hm
    refine ⟨v, w, ?_, by simpa using hown, ⟨rfl, rfl, rfl, Nat.le_refl _, fun _ _ _ => rfl⟩, .inl rfl⟩
    have hf : ∀ (cap : Nat) (base' : Option Addr), l.length ≤ cap → v = .slice base' l.length cap → (Builtin.append_ #[30, 30] ty #[v, .slice A 0 c]).run Try.prog w = .ok v w := by
      intro cap base' hcap hv
      subst hv
      have hrun := Ev.run_append_fit (P := Try.prog) (ty := ty) (base := base') (m := l.length) (n := 0) (c := cap) (x := .slice A 0 c) (w := w) (new := #[]) Try.underlying30 Try.underlying30 (.inr ⟨_, rfl⟩) hi rfl (by cases A <;> simp [Builtin.firstCells, loadCells, loadCellsFrom]) (by omega)
      rw [hrun]
      cases base' <;> simp [storeCells]
    rcases hown.2 with ⟨rfl, hl⟩ | ⟨g, cap, cur, rfl, _, _, hnc, _⟩
    · exact hf 0 none (by omega) (by rw [hl])
    · exact hf cap _ hnc rfl
  · obtain ⟨b, off, rfl, hlt, hcs⟩ := hcell hm
    obtain ⟨v', w', h1, h2, h3, _, h5⟩ := run_append_own_at (P := Try.prog) w base 30 ty 3 i (.int .i64 0) 1 8 Try.underlying30 hi hz hs hb rfl (by decide) v l.length (l.map (Value.int .i64)) hown ⟨b, off, none⟩ m.length c (m.map (Value.int .i64)) (by simp)
      (by
        intro j u hj
        rw [List.getElem?_map] at hj
        cases hmj : m[j]? with
        | none => rw [hmj] at hj; cases hj
        | some x =>
          rw [hmj] at hj
          simp only [Option.map_some, Option.some.injEq] at hj
          subst hj
          rw [show (⟨b, off, none⟩ : Addr).add j = ⟨b, off + j, none⟩ by unfold Addr.add; split <;> simp_all]
          exact hcs j x hmj)
      (by intro u hu; simp only [List.mem_map] at hu; obtain ⟨x, _, rfl⟩ := hu; rfl) (by unfold maxLen; omega) (by omega) hbase
    refine ⟨v', w', h1, ?_, h3, h5⟩
    unfold OwnI
    rw [List.length_append, List.map_append]
    exact h2

/-- 'b = append(b, x...)' in a walk. -/
theorem wpList_app_ints (w : World) {ops : Array Oper} {rest : List Oper} {o : Oper} {a : Act} {Q : Exit → Act → World → Prop} (hgd : o.guard = none) (s x : Operand)
    (ho : o.op = .call { callee := .builtin .append, args := #[s, x], argTypes := #[30, 30] }) {base B : Nat} {v y : Value} {l m : List Int} (hs : a.eval s = v) (hown : OwnI w base v l) (hx : a.eval x = y) (hy : IsL w B y m)
    (hlen : l.length + m.length ≤ 17592186044415) (hbase : base ≤ w.heap.size)
    (h : ∀ v' w', OwnI w' base v' (l ++ m) → w.grownBy w' v.ownBlock → (v'.ownBlock = v.ownBlock ∨ v'.ownBlock = some w.heap.size) → wpList Try.prog ops Q rest (a.put o.dst v') w') : wpList Try.prog ops Q (o :: rest) a w := by
  refine wpList_plain hgd fun K hK => ?_
  obtain ⟨v', w', hr, h2, h3, h4⟩ := run_app_ints w o.type hown hy hlen hbase
  unfold Oper.wp execOp
  simp only [ho, resolve, invoke, builtin, Sem.run_bind, Sem.run_pure, Result.andThen_ok, List.map_toArray, List.map_cons, List.map_nil, hs, hx, hr]
  exact hK _ _ (h v' w' h2 h3 h4)

end Go.Proofs.Ytgmmjnedgaeefaa.Dsk
