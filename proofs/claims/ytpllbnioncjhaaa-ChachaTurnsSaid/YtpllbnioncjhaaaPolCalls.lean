/- Contracts of the limbs' functions; a mac in memory. -/
import Derived.Test.YtpllbnioncjhaaaPolyNum
import Derived.Test.YtpllbnioncjhaaaPolBase
import Derived.Test.YtpllbnioncjhaaaRow
import Derived.Test.YtpllbnioncjhaaaTail
namespace Go.Proofs.Ytpllbnioncjhaaa
open Go.RowKit
namespace Pol
open Poly (L)
/-- A number in limbs, as a value. -/
def lv (a : L) : Value := (PolyI.ofL a).v
def lc (a : L) : List Value := [.int .u64 a.a0, .int .u64 a.a1, .int .u64 a.a2, .int .u64 a.a3, .int .u64 a.a4]
theorem lv_is (a : L) : lv a = .agg (lc a).toArray := rfl
theorem flat_args {β : Ev.Pl} {l : List Value} (h : l.all Ev.flat = true) : Ev.VL β l l := .of_flat (List.all_eq_true.1 h)
theorem plus_any {a b : L} (h : Poly.Sum3 (Poly.plus a b)) (w : World) : Calls Try.prog 51 #[lv a, lv b] w fun e w1 => e = .returned (lv (Poly.plus a b)) ∧ Below w.heap.size w w1 := by
  have hev := PolyI.plus_ev (PolyI.ofL a) (PolyI.ofL b)
  rw [PolyI.plus_is h] at hev
  exact Ev.calls_ans (l := []) mixed (by decide) (by simp) (by simp) (flat_args rfl) hev rfl
theorem carry_any {a : L} (h : Poly.Wide a) (w : World) : Calls Try.prog 50 #[lv a] w fun e w1 => e = .returned (.tuple #[lv (Poly.carry a).1, .int .u64 ((Poly.carry a).2 : Int)]) ∧ Below w.heap.size w w1 := by
  have hev := PolyI.carry_ev (PolyI.ofL a)
  rw [(PolyI.carry_is h).1, (PolyI.carry_is h).2] at hev
  exact Ev.calls_ans (l := []) mixed (by decide) (by simp) (by simp) (flat_args rfl) hev rfl
theorem reduce_any {a : L} (h : Poly.Loose a) (w : World) : Calls Try.prog 52 #[lv a] w fun e w1 => e = .returned (lv (Poly.red a)) ∧ Below w.heap.size w w1 := by
  have hev := PolyI.reduce_ev (PolyI.ofL a)
  rw [PolyI.reduce_is h] at hev
  exact Ev.calls_ans (l := []) mixed (by decide) (by simp) (by simp) (flat_args rfl) hev rfl
theorem bytes_any {a : L} (h : Poly.Fit a) (w : World) : Calls Try.prog 53 #[lv a] w fun e w1 => e = .returned (arr8 (Poly.bytes16 (Poly.val a))) ∧ Below w.heap.size w w1 := by
  have hev := PolyI.bytes_ev (PolyI.ofL a)
  have hb := PolyI.bytes_is h
  rw [hb] at hev
  exact Ev.calls_ans (l := []) mixed (by decide) (by simp) (by simp) (flat_args rfl) hev (by rw [← hb]; rfl)
theorem cells_nums (l : List UInt8) : PolyI.cells (PolyI.nums l) = l.map bv := by simp [PolyI.cells, PolyI.nums, bv]
/-- The next sum, with a block that is not empty. -/
theorem next_any {s r : L} (hs : Poly.Loose s) (hr : Poly.Fit r) (v : Value) (l : List UInt8) (h0 : 0 < l.length) (hl : l.length ≤ 16) (w : World) (hb : Bs w w.heap.size v l) :
    Calls Try.prog 49 #[lv s, lv r, v] w fun e w1 => e = .returned (lv (Poly.next s r (Poly.le l + 256 ^ l.length))) ∧ Below w.heap.size w w1 := by
  obtain ⟨A, c, rfl, hc, hcs⟩ := hb
  obtain ⟨b, off, rfl, hlt, hcell⟩ := hcs (by intro h; subst h; simp at h0)
  have hlen : (PolyI.nums l).length = l.length := by simp [PolyI.nums]
  have hev := PolyI.next_ev (PolyI.ofL s) (PolyI.ofL r) (PolyI.nums l) (by omega) (by omega)
  rw [PolyI.next_is hs hr l hl, cells_nums, hlen] at hev
  refine Ev.calls_ans (l := [(⟨l.map bv, 5, 3⟩, ⟨b, off, c - l.length⟩)]) mixed (by simp) ?_ (by simp) ?_ hev rfl
  · intro x hx
    simp only [List.mem_singleton] at hx
    subst hx
    refine ⟨?_, .inr ⟨rfl, fun h => h, hlt, fun j u hu => ?_⟩⟩
    · simp only [List.all_eq_true, List.mem_map]
      rintro _ ⟨u, _, rfl⟩
      rfl
    · simp only [List.getElem?_map, Option.map_eq_some_iff] at hu
      obtain ⟨u', hu', rfl⟩ := hu
      exact hcell j u' hu'
  · refine .cons (.flat rfl) (.cons (.flat rfl) (.cons ?_ (.nil _)))
    have := Ev.VR.slice (β := Ev.pl [(⟨l.map bv, 5, 3⟩, ⟨b, off, c - l.length⟩)]) (a := ⟨0, 0, none⟩) (a' := ⟨b, off + 0, none⟩) (n := l.length) (c := l.length) (bi := ⟨b, off, c - l.length⟩) ⟨rfl, _, rfl, rfl⟩ rfl
    rw [Nat.add_zero, show l.length + (c - l.length) = c by omega] at this
    exact this

/-! ### A mac in memory -/
def macCells (r s sum : L) (rest : List UInt8) (size : Nat) : List Value := .bool true :: (lc r ++ (lc s ++ (lc sum ++ (rest.map bv ++ [.int .i64 size]))))
theorem macCells_length (r s sum : L) (rest : List UInt8) (size : Nat) (h : rest.length = 16) : (macCells r s sum rest size).length = 33 := by simp [macCells, lc, h]
theorem mac_r (r s sum : L) (rest : List UInt8) (size : Nat) : ((macCells r s sum rest size).drop 1).take 5 = lc r := by simp [macCells, lc]
theorem mac_s (r s sum : L) (rest : List UInt8) (size : Nat) : ((macCells r s sum rest size).drop 6).take 5 = lc s := by simp [macCells, lc]
theorem mac_sum (r s sum : L) (rest : List UInt8) (size : Nat) : ((macCells r s sum rest size).drop 11).take 5 = lc sum := by simp [macCells, lc]
theorem mac_rest (r s sum : L) (rest : List UInt8) (size : Nat) (i : Nat) (u : UInt8) (hu : rest[i]? = some u) : (macCells r s sum rest size)[16 + i]? = some (bv u) := by
  have hi : i < rest.length := (List.getElem?_eq_some_iff.1 hu).1
  rw [show 16 + i = i + 15 + 1 by omega]
  simp only [macCells, List.getElem?_cons_succ, lc, List.cons_append, List.nil_append]
  rw [List.getElem?_append_left (by simpa using hi), List.getElem?_map, hu]
  rfl
theorem mac_size (r s sum : L) (rest : List UInt8) (size : Nat) (h : rest.length = 16) : (macCells r s sum rest size)[32]? = some (.int .i64 size) := by
  simp only [macCells, lc, List.cons_append, List.nil_append]
  rw [show 32 = 16 + 15 + 1 from rfl]
  simp only [List.getElem?_cons_succ]
  rw [List.getElem?_append_right (by simp [h])]
  simp [h]

section
variable {P : Program}
/-- Part of a row, read. -/
theorem run_loadVar_sub (w : World) {g off n : Nat} {t ty : TypeId} {cs : List Value} {d : TypeDesc} (h : Row w g cs t) (hu : P.underlying ty = some d) (hd : (match d with | .struct _ | .array _ _ => true | _ => false) = true)
    (hi : (P.info? ty).map (·.size) = some n) (hn : off + n ≤ cs.length) : (loadVar ty ⟨g, off, none⟩).run P w = .ok (.agg ((cs.drop off).take n).toArray) w := by
  have hlen : ((cs.drop off).take n).length = n := by rw [List.length_take, List.length_drop]; omega
  have hl : (loadCells ⟨g, off, none⟩ ((cs.drop off).take n).length).run P w = .ok ((cs.drop off).take n).toArray w :=
    run_loadCells_list (P := P) w ⟨g, off, none⟩ ((cs.drop off).take n) (fun j v hv => by
      have hadd : (⟨g, off, none⟩ : Addr).add j = ⟨g, off + j, none⟩ := by unfold Addr.add; split <;> simp_all
      rw [List.getElem?_take] at hv
      split at hv
      · rw [List.getElem?_drop] at hv
        rw [hadd]
        exact h.cell hv
      · cases hv)
  rw [hlen] at hl
  cases hq : P.info? ty with
  | none => simp [hq] at hi
  | some i =>
    have hs : i.size = n := by simpa [hq] using hi
    have hagg : (isAgg ty).run P w = .ok true w := by
      unfold isAgg
      rw [Sem.run_bind, run_underlying hu w]
      cases d <;> simp_all
    simp [loadVar, Sem.run_bind, hagg, sizeOf, typeInfo, hq, hs, hl]
theorem wp_loadSub {o : Oper} {a : Act} {w : World} {K : Act → World → Prop} {Q : Exit → Act → World → Prop} (ty : TypeId) (x : Operand) (ho : o.op = .load ty x)
    {g off n : Nat} (hx : a.eval x = .pointer (some ⟨g, off, none⟩)) {t : TypeId} {cs : List Value} {d : TypeDesc} (h : Row w g cs t) (hu : P.underlying ty = some d) (hd : (match d with | .struct _ | .array _ _ => true | _ => false) = true)
    (hi : (P.info? ty).map (·.size) = some n) (hn : off + n ≤ cs.length) (hk : K (a.put o.dst (.agg ((cs.drop off).take n).toArray)) w) : o.wp P a w K Q := by
  unfold Oper.wp execOp
  simp only [ho, hx, Instr.loadAt, Instr.sureAddr, Sem.run_bind, Sem.run_pure, Result.andThen_ok, run_loadVar_sub w h hu hd hi hn]
  exact hk
theorem wpList_loadSub {ops : Array Oper} {rest : List Oper} {o : Oper} {a : Act} {w : World} {Q : Exit → Act → World → Prop} (hgd : o.guard = none) (ty : TypeId) (x : Operand) (ho : o.op = .load ty x)
    {g off n : Nat} (hx : a.eval x = .pointer (some ⟨g, off, none⟩)) {t : TypeId} {cs : List Value} {d : TypeDesc} (h : Row w g cs t) (hu : P.underlying ty = some d) (hd : (match d with | .struct _ | .array _ _ => true | _ => false) = true)
    (hi : (P.info? ty).map (·.size) = some n) (hn : off + n ≤ cs.length) (hk : wpList P ops Q rest (a.put o.dst (.agg ((cs.drop off).take n).toArray)) w) : wpList P ops Q (o :: rest) a w :=
  wpList_plain hgd fun _ hK => wp_loadSub ty x ho hx h hu hd hi hn (hK _ _ hk)
end

theorem valid_any {w : World} {g : Nat} {cs : List Value} (h : Row w g (.bool true :: cs) 73) : Calls Try.prog 48 #[.pointer (some ⟨g, 0, none⟩)] w fun e w1 => e = .returned (.bool true) ∧ w = w1 := by
  have hc := h.cell (i := 0) rfl
  go_enter Try.func48, Try.ntmps48
  go_wp2
  go_ret
  exact ⟨rfl, rfl⟩
theorem valid_nil (w : World) : Calls Try.prog 48 #[.pointer none] w fun e w1 => e = .returned (.bool false) ∧ w = w1 := by
  go_enter Try.func48, Try.ntmps48
  go_wp2
  go_ret
  exact ⟨rfl, rfl⟩
end Pol
end Go.Proofs.Ytpllbnioncjhaaa
