/- Texts that the proofs share: PktBase. -/
import Derived.Test.YtbdpnpabpcidkaaDoorU19
import Derived.Test.YtbdpnpabpcidkaaDoorU30
import Derived.Test.YtbdpnpabpcidkaaDoorU33
import Derived.BigFrame
namespace Go.Proofs.YtbdpnpabpcidkaaDoor.Pkt
open Go.RowKit
structure Pk where
 kind : Int
 peer : Int
 ses : Nat
 epo : Nat
 cnt : Nat
 rnd : List UInt8
 mrk : List UInt8
 bo : Value
def Pk.cells (p : Pk) : List Value := .int .i64 p.kind :: .int .i64 p.peer :: .int .u64 (p.ses : Int) :: .int .u32 (p.epo : Int) :: .int .u64 (p.cnt : Int) :: (p.rnd.map bv ++ (p.mrk.map bv ++ [p.bo]))
def Pk.val (p : Pk) : Value := .agg p.cells.toArray
structure Pk.Ok (p : Pk) : Prop where
 r : p.rnd.length = 16
 m : p.mrk.length = 16
 b : p.bo.oneCell' = true
namespace Pk
variable {p : Pk}
theorem length (h : p.Ok) : p.cells.length = 38 := by simp [cells, h.r, h.m]
theorem rnd_at (h : p.Ok) : (p.cells.drop 5).take 16 = p.rnd.map bv := by
 show (p.rnd.map bv ++ (p.mrk.map bv ++ [p.bo])).take 16 = _
 rw [List.take_left' (by rw [List.length_map, h.r])]
theorem mrk_at (h : p.Ok) : (p.cells.drop 21).take 16 = p.mrk.map bv := by
 show ((p.rnd.map bv ++ (p.mrk.map bv ++ [p.bo])).drop 16).take 16 = _
 rw [List.drop_left' (by rw [List.length_map, h.r]), List.take_left' (by rw [List.length_map, h.m])]
theorem bo_at (h : p.Ok) : p.cells[37]? = some p.bo := by
 show (p.rnd.map bv ++ (p.mrk.map bv ++ [p.bo]))[32]? = _
 rw [List.getElem?_append_right (by rw [List.length_map, h.r]; omega), List.length_map, h.r, List.getElem?_append_right (by rw [List.length_map, h.m]; omega), List.length_map, h.m]
 rfl
theorem set_bo (h : p.Ok) (v : Value) : p.cells.set 37 v = { p with bo := v }.cells := by
 show _ :: _ :: _ :: _ :: _ :: (p.rnd.map bv ++ (p.mrk.map bv ++ [p.bo])).set 32 v = _
 rw [List.set_append_right _ _ (by rw [List.length_map, h.r]; omega), List.length_map, h.r, List.set_append_right _ _ (by rw [List.length_map, h.m]; omega), List.length_map, h.m]
 rfl
theorem one (h : p.Ok) : ∀ v ∈ p.cells, v.oneCell' = true := by
 intro v hv
 simp only [cells, List.mem_cons, List.mem_append, List.mem_map, List.not_mem_nil, or_false] at hv
 rcases hv with rfl | rfl | rfl | rfl | rfl | ⟨u, _, rfl⟩ | ⟨u, _, rfl⟩ | rfl
 · rfl
 · rfl
 · rfl
 · rfl
 · rfl
 · rfl
 · rfl
 · exact h.b
theorem with_bo (h : p.Ok) {v : Value} (hv : v.oneCell' = true) : Ok { p with bo := v } := ⟨h.r, h.m, hv⟩
end Pk
section
variable {p : Pk} {w : World} {g : Nat}
theorem c_kind (h : Row w g p.cells 40) : w.cell? ⟨g, 0, none⟩ = some (.int .i64 p.kind) := h.cell rfl
theorem c_peer (h : Row w g p.cells 40) : w.cell? ⟨g, 1, none⟩ = some (.int .i64 p.peer) := h.cell rfl
theorem c_ses (h : Row w g p.cells 40) : w.cell? ⟨g, 2, none⟩ = some (.int .u64 (p.ses : Int)) := h.cell rfl
theorem c_epo (h : Row w g p.cells 40) : w.cell? ⟨g, 3, none⟩ = some (.int .u32 (p.epo : Int)) := h.cell rfl
theorem c_cnt (h : Row w g p.cells 40) : w.cell? ⟨g, 4, none⟩ = some (.int .u64 (p.cnt : Int)) := h.cell rfl
theorem c_bo (h : Row w g p.cells 40) (ho : p.Ok) : w.cell? ⟨g, 37, none⟩ = some p.bo := h.cell (Pk.bo_at ho)
theorem l_rnd (h : Row w g p.cells 40) (ho : p.Ok) : (loadVar 38 ⟨g, 5, none⟩).run Tryd.prog w = .ok (arr8 p.rnd) w := by
 rw [Pol.run_loadVar_sub (off := 5) (n := 16) w h Tryd.underlying38 rfl (by kernel_rfl) (by rw [Pk.length ho]; omega), Pk.rnd_at ho]
 rfl
theorem l_mrk (h : Row w g p.cells 40) (ho : p.Ok) : (loadVar 38 ⟨g, 21, none⟩).run Tryd.prog w = .ok (arr8 p.mrk) w := by
 rw [Pol.run_loadVar_sub (off := 21) (n := 16) w h Tryd.underlying38 rfl (by kernel_rfl) (by rw [Pk.length ho]; omega), Pk.mrk_at ho]
 rfl
theorem l_all (h : Row w g p.cells 40) (ho : p.Ok) : (loadVar 40 ⟨g, 0, none⟩).run Tryd.prog w = .ok p.val w := by
 rw [Pol.run_loadVar_sub (off := 0) (n := 38) w h Tryd.underlying40 rfl (by kernel_rfl) (by rw [Pk.length ho]; omega), List.drop_zero, List.take_of_length_le (by rw [Pk.length ho]; omega)]
 rfl
end
theorem eqg16 (x y : List UInt8) (u v : Operand) (w : World) : (eqGuard .eql 38 u v (arr8 x) (arr8 y)).run Tryd.prog w = .ok () w := by
 have hg : Tryd.prog.eqGuardType Tryd.prog.depth 38 = false := by kernel_rfl
 unfold arr8
 simp [eqGuard, Sem.run_bind, hg]
theorem eqv16 (x y : List UInt8) (hx : x.length = 16) (hy : y.length = 16) (w : World) : (binOp .eql 38 (arr8 x) (arr8 y)).run Tryd.prog w = .ok (.bool (decide (x = y))) w := by
 have h := run_eql_arr8 (P := Tryd.prog) Tryd.underlying38 Tryd.underlying5 (by kernel_rfl) x y hx hy w
 unfold arr8 at h ⊢
 simp [binOp, h]
theorem wpList_name {P : Program} {ops : Array Oper} {l : List Oper} {a : Act} {w : World} {Q : Exit → Act → World → Prop} (h : ∀ W, w = W → wpList P ops Q l a W) : wpList P ops Q l a w := h w rfl
theorem code_name {P : Program} {c : Code} {Q : Exit → Act → World → Prop} {a : Act} {w : World} (h : ∀ W, w = W → Code.wp P c Q a W) : Code.wp P c Q a w := h w rfl
theorem wpList_ld {P : Program} {ops : Array Oper} {rest : List Oper} {o : Oper} {a : Act} {w : World} {Q : Exit → Act → World → Prop} (ty : TypeId) {x : Operand} {ad : Addr} {v : Value} (ho : o.op = .load ty x) (hx : a.eval x = .pointer (some ad)) (hrun : (loadVar ty ad).run P w = .ok v w)
 (hw : Region.wanted o (yielded ops a.tmps) = true) (hk : wpList P ops Q rest (a.put o.dst v) w) : wpList P ops Q (o :: rest) a w :=
 BigFrame.wpList_want hw fun K hK => by
  unfold Oper.wp execOp
  simp only [ho, hx, Instr.loadAt, Instr.sureAddr, Sem.run_bind, Sem.run_pure, Result.andThen_ok, hrun]
  exact hK _ _ hk
end Go.Proofs.YtbdpnpabpcidkaaDoor.Pkt
