/- append of bytes onto an empty row without room: a new block, and no old one turns. -/
import Derived.Test.YtaamkgchophpeaaDoorRow
namespace Go.Proofs.YtaamkgchophpeaaDoor
open Go.RowKit
theorem run_app_first (w : World) {B g : Nat} {y : Value} {m : List UInt8} (ty : TypeId) (hown : Row w g [] 5) (hy : Bs w B y m) (hm : m ≠ []) (hlen : m.length ≤ 1000000) :
    ∃ v' w', (Builtin.append_ #[22, 22] ty #[.slice (some ⟨g, 0, none⟩) 0 0, y]).run Tryd.prog w = .ok v' w' ∧ Own w' w.heap.size v' m ∧ Below w.heap.size w w' := by
  have ho : Own w 0 (.slice (some ⟨g, 0, none⟩) 0 0) [] := ⟨rfl, .inr ⟨g, 0, #[], rfl, Nat.zero_le _, hown, Nat.le_refl _, by simp, by decide, by simp⟩⟩
  obtain ⟨i, hi, hz, hs, hb⟩ := info_u8
  obtain ⟨v', w', hr, h1, h2, h3⟩ := run_app_bytes w ty ho hy (by simp; omega) (Nat.zero_le _)
  obtain ⟨A, c, rfl, hc, hcell⟩ := hy
  obtain ⟨b2, off2, rfl, _, h4⟩ := hcell hm
  have hml : 0 < m.length := List.length_pos_iff.2 hm
  have hnews : ∀ j u, (m.map bv)[j]? = some u → w.cell? ((⟨b2, off2, none⟩ : Addr).add j) = some u := by
    intro j u hj
    rw [List.getElem?_map, Option.map_eq_some_iff] at hj
    obtain ⟨x, hx, rfl⟩ := hj
    rw [show (⟨b2, off2, none⟩ : Addr).add j = ⟨b2, off2 + j, none⟩ by unfold Addr.add; split <;> simp_all]
    exact h4 j x hx
  have hq := run_append_grow (P := Tryd.prog) w 22 ty 5 i (.int .u8 0) Tryd.underlying22 hi hz ⟨g, 0, none⟩ 0 0 [] (by simp) (by simp) ⟨b2, off2, none⟩ m.length c (m.map bv) (by simp [hs]) hnews (by omega) (by omega) (growslice_fits (by omega) (by rw [hb]; omega))
  rw [hq] at hr
  injection hr with hv hw
  refine ⟨_, _, hq, ?_, (Below.refl _ w).drew.alloc (Nat.le_refl _) _⟩
  rw [hv, hw]
  rw [List.nil_append] at h1
  refine ⟨h1.1, ?_⟩
  rcases h1.2 with h | ⟨g', cap', cur', e, hge, hgg, k1, k2, k3, k4⟩
  · exact .inl h
  · refine .inr ⟨g', cap', cur', e, ?_, hgg, k1, k2, k3, k4⟩
    rw [← hv] at e
    simp only [Value.slice.injEq, Option.some.injEq, Addr.mk.injEq] at e
    omega
theorem wp_app_first {o : Oper} {a : Act} {w : World} {K : Act → World → Prop} {Q : Exit → Act → World → Prop} (s x : Operand) (ho : o.op = .call { callee := .builtin .append, args := #[s, x], argTypes := #[22, 22] }) {B g : Nat} {y : Value} {m : List UInt8}
    (hs : a.eval s = .slice (some ⟨g, 0, none⟩) 0 0) (hown : Row w g [] 5) (hx : a.eval x = y) (hy : Bs w B y m) (hm : m ≠ []) (hlen : m.length ≤ 1000000)
    (h : ∀ v' w', Own w' w.heap.size v' m → Below w.heap.size w w' → K (a.put o.dst v') w') : o.wp Tryd.prog a w K Q := by
  obtain ⟨v', w', hr, h2, h3⟩ := run_app_first w o.type hown hy hm hlen
  unfold Oper.wp execOp
  simp only [ho, resolve, invoke, builtin, Sem.run_bind, Sem.run_pure, Result.andThen_ok, List.map_toArray, List.map_cons, List.map_nil, hs, hx, hr]
  exact h v' w' h2 h3
end Go.Proofs.YtaamkgchophpeaaDoor
