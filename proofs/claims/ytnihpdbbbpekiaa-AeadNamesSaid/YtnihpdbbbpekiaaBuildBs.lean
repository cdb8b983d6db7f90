/- A slice of bytes that is built of constants; a slice of bytes converted to one. -/
import Derived.Test.YtnihpdbbbpekiaaRow
import Derived.Test.YtnihpdbbbpekiaaSym
import Derived.Test.YtnihpdbbbpekiaaPolLives
namespace Go.Proofs.Ytnihpdbbbpekiaa
open Go.RowKit
theorem run_buildBytes {w : World} {len : Nat} {parts : Array (Nat × Value)} {l : List UInt8} (hl : l.length = len) (h0 : 0 < len) (hmax : len ≤ 1000)
    (hfill : Instr.fill (fun i => some (i * 1, 1)) ((Array.range (len * 1)).map (fun x => (#[Value.int .u8 0] : Array Value)[x % (#[Value.int .u8 0] : Array Value).size]!)) parts.toList = some (l.map bv).toArray) :
    (Instr.buildSlice 39 len parts).run Try.prog w = .ok (.slice (some ⟨w.heap.size, 0, none⟩) len len) (w.alloc (.cells (l.map bv).toArray 5)) := by
  obtain ⟨i, hi, hz, hs, hb⟩ := info_u8
  have hsz : (sizeOf 5).run Try.prog w = .ok 1 w := by simp [sizeOf, typeInfo, hi, hs]
  have hzv : (zeroValue 5).run Try.prog w = .ok (.int .u8 0) w := by simp [zeroValue, typeInfo, hi, hz]
  unfold Instr.buildSlice
  rw [Sem.run_bind, run_underlying Try.underlying39]
  simp only [Result.andThen_ok]
  rw [Sem.run_bind, hsz]
  simp only [Result.andThen_ok]
  rw [if_neg (by omega), if_neg (by omega)]
  simp only [Sem.run_bind, hzv, Result.andThen_ok, Sem.run_pure]
  have hc : (Value.int IntKind.u8 0).cells = #[.int .u8 0] := rfl
  rw [hc, hfill]
  simp [newRow]
theorem wpList_buildBytes {w : World} {ops : Array Oper} {rest : List Oper} {o : Oper} {a : Act} {Q : Exit → Act → World → Prop} (hgd : o.guard = none) (len : Nat) (parts : Array (Nat × Operand)) (ho : o.op = .buildSlice 39 len parts) {g : Nat} (hg : w.heap.size = g) (l : List UInt8) (hl : l.length = len) (h0 : 0 < len) (hmax : len ≤ 1000)
    (hfill : Instr.fill (fun i => some (i * 1, 1)) ((Array.range (len * 1)).map (fun x => (#[Value.int .u8 0] : Array Value)[x % (#[Value.int .u8 0] : Array Value).size]!)) (parts.map fun (i, x) => (i, a.eval x)).toList = some (l.map bv).toArray)
    (hk : wpList Try.prog ops Q rest (a.put o.dst (.slice (some ⟨g, 0, none⟩) len len)) (w.alloc (.cells (l.map bv).toArray 5))) : wpList Try.prog ops Q (o :: rest) a w := by
  refine wpList_plain hgd fun K hK => ?_
  unfold Oper.wp execOp
  simp only [ho, Sem.run_bind, Sem.run_pure, Result.andThen_ok, run_buildBytes hl h0 hmax hfill, hg]
  exact hK _ _ hk
theorem run_convBytes {w : World} {g n : Nat} {l : List UInt8} (h : Row w g (l.map bv) 5) (h0 : 0 < l.length) : ∃ m, (convert 39 39 (.slice (some ⟨g, 0, none⟩) n n)).run Try.prog w = .ok (.slice (some ⟨g, 0, none⟩) n n) (w.freeze ⟨g, m, none⟩ 1) := by
  obtain ⟨u, r, hl⟩ : ∃ u r, l = u :: r := by
    cases l with
    | nil => simp at h0
    | cons u r => exact ⟨u, r, rfl⟩
  obtain ⟨e, m, hs, _⟩ := World.shape?_of_cell? (h.cell (i := 0) (v := bv u) (by rw [hl]; rfl))
  refine ⟨m, ?_⟩
  simp [convert, run_underlying Try.underlying39, run_underlying Try.underlying5, Ev.mark_run hs]
theorem wpList_convBytes {w : World} {ops : Array Oper} {rest : List Oper} {o : Oper} {a : Act} {Q : Exit → Act → World → Prop} (hgd : o.guard = none) (x : Operand) (ho : o.op = .convert 39 39 x) {g n : Nat} {l : List UInt8} (hx : a.eval x = .slice (some ⟨g, 0, none⟩) n n) (h : Row w g (l.map bv) 5) (h0 : 0 < l.length) (hl : l.length = n)
    (hk : ∀ w', Bs w' w'.heap.size (.slice (some ⟨g, 0, none⟩) n n) l → Below g w w' → wpList Try.prog ops Q rest (a.put o.dst (.slice (some ⟨g, 0, none⟩) n n)) w') : wpList Try.prog ops Q (o :: rest) a w := by
  refine wpList_plain hgd fun K hK => ?_
  obtain ⟨m, hr⟩ := run_convBytes (n := n) h h0
  unfold Oper.wp execOp
  simp only [ho, hx, Sem.run_bind, Sem.run_pure, Result.andThen_ok, hr]
  refine hK _ _ (hk _ ?_ (Pol.below_frozen (p := ⟨g, m, none⟩) (Below.refl g w) (Nat.le_refl _) 1))
  have hb : Bs w w.heap.size (.slice (some ⟨g, 0, none⟩) n n) l := hl ▸ Row.bs h h.lt
  refine (hb.keep (w' := w.freeze ⟨g, m, none⟩ 1) fun b o _ => Pol.cell_freeze _ _ _ _).more ?_
  unfold World.freeze
  split <;> simp
end Go.Proofs.Ytnihpdbbbpekiaa
