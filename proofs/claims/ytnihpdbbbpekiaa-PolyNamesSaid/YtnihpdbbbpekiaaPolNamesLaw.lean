/- The examples of chapter 3 have the results that it states: 'drawbridgelaw03.PolyNames'. -/
import Derived.Test.YtnihpdbbbpekiaaPolKey
import Derived.Test.YtnihpdbbbpekiaaFrame
namespace Go.Proofs.Ytnihpdbbbpekiaa.polyNames
open Go.ChangeShapes Go.WideShapes Go.ChangeAt Go.RowKit
open Pol (own mixed laid MacAt key1 r1 s1 cell_freeze below_frozen)
def ta : List UInt8 := [67, 114, 121, 112, 116, 111, 103, 114, 97, 112, 104, 105, 99, 32, 70, 111, 114, 117, 109, 32]
theorem ta_conv (w : World) : ∃ m, (convert 39 39 (.slice (some ⟨w.heap.size, 0, none⟩) 20 20)).run Try.prog (w.alloc (.cells #[Value.int .u8 67, Value.int .u8 114, Value.int .u8 121, Value.int .u8 112, Value.int .u8 116, Value.int .u8 111, Value.int .u8 103, Value.int .u8 114, Value.int .u8 97, Value.int .u8 112, Value.int .u8 104, Value.int .u8 105, Value.int .u8 99, Value.int .u8 32, Value.int .u8 70, Value.int .u8 111, Value.int .u8 114, Value.int .u8 117, Value.int .u8 109, Value.int .u8 32] 5)) = .ok (.slice (some ⟨w.heap.size, 0, none⟩) 20 20) ((w.alloc (.cells #[Value.int .u8 67, Value.int .u8 114, Value.int .u8 121, Value.int .u8 112, Value.int .u8 116, Value.int .u8 111, Value.int .u8 103, Value.int .u8 114, Value.int .u8 97, Value.int .u8 112, Value.int .u8 104, Value.int .u8 105, Value.int .u8 99, Value.int .u8 32, Value.int .u8 70, Value.int .u8 111, Value.int .u8 114, Value.int .u8 117, Value.int .u8 109, Value.int .u8 32] 5)).freeze ⟨w.heap.size, m, none⟩ 1) := by
  obtain ⟨e, m, hs, _⟩ := World.shape?_of_cell? (Row.cell (w := (w.alloc (.cells #[Value.int .u8 67, Value.int .u8 114, Value.int .u8 121, Value.int .u8 112, Value.int .u8 116, Value.int .u8 111, Value.int .u8 103, Value.int .u8 114, Value.int .u8 97, Value.int .u8 112, Value.int .u8 104, Value.int .u8 105, Value.int .u8 99, Value.int .u8 32, Value.int .u8 70, Value.int .u8 111, Value.int .u8 114, Value.int .u8 117, Value.int .u8 109, Value.int .u8 32] 5))) (g := w.heap.size) (cs := ta.map bv) (t := 5) (Row.new rfl rfl) (i := 0) rfl)
  refine ⟨m, ?_⟩
  simp [convert, run_underlying Try.underlying39, run_underlying Try.underlying5, Ev.mark_run hs]
theorem ta_bs (w : World) (m : Nat) : Bs ((w.alloc (.cells #[Value.int .u8 67, Value.int .u8 114, Value.int .u8 121, Value.int .u8 112, Value.int .u8 116, Value.int .u8 111, Value.int .u8 103, Value.int .u8 114, Value.int .u8 97, Value.int .u8 112, Value.int .u8 104, Value.int .u8 105, Value.int .u8 99, Value.int .u8 32, Value.int .u8 70, Value.int .u8 111, Value.int .u8 114, Value.int .u8 117, Value.int .u8 109, Value.int .u8 32] 5)).freeze ⟨w.heap.size, m, none⟩ 1) ((w.alloc (.cells #[Value.int .u8 67, Value.int .u8 114, Value.int .u8 121, Value.int .u8 112, Value.int .u8 116, Value.int .u8 111, Value.int .u8 103, Value.int .u8 114, Value.int .u8 97, Value.int .u8 112, Value.int .u8 104, Value.int .u8 105, Value.int .u8 99, Value.int .u8 32, Value.int .u8 70, Value.int .u8 111, Value.int .u8 114, Value.int .u8 117, Value.int .u8 109, Value.int .u8 32] 5)).freeze ⟨w.heap.size, m, none⟩ 1).heap.size (.slice (some ⟨w.heap.size, 0, none⟩) 20 20) ta := by
  have h : Bs (w.alloc (.cells #[Value.int .u8 67, Value.int .u8 114, Value.int .u8 121, Value.int .u8 112, Value.int .u8 116, Value.int .u8 111, Value.int .u8 103, Value.int .u8 114, Value.int .u8 97, Value.int .u8 112, Value.int .u8 104, Value.int .u8 105, Value.int .u8 99, Value.int .u8 32, Value.int .u8 70, Value.int .u8 111, Value.int .u8 114, Value.int .u8 117, Value.int .u8 109, Value.int .u8 32] 5)) (w.heap.size + 1) (.slice (some ⟨w.heap.size, 0, none⟩) 20 20) ta := Row.bs (l := ta) (t := 5) (Row.new rfl rfl) (by omega)
  refine (h.keep (w' := ((w.alloc (.cells #[Value.int .u8 67, Value.int .u8 114, Value.int .u8 121, Value.int .u8 112, Value.int .u8 116, Value.int .u8 111, Value.int .u8 103, Value.int .u8 114, Value.int .u8 97, Value.int .u8 112, Value.int .u8 104, Value.int .u8 105, Value.int .u8 99, Value.int .u8 32, Value.int .u8 70, Value.int .u8 111, Value.int .u8 114, Value.int .u8 117, Value.int .u8 109, Value.int .u8 32] 5)).freeze ⟨w.heap.size, m, none⟩ 1)) fun b o _ => cell_freeze _ _ _ _).more ?_
  unfold World.freeze
  split <;> simp
theorem ta_size (w : World) (m : Nat) : ((w.alloc (.cells #[Value.int .u8 67, Value.int .u8 114, Value.int .u8 121, Value.int .u8 112, Value.int .u8 116, Value.int .u8 111, Value.int .u8 103, Value.int .u8 114, Value.int .u8 97, Value.int .u8 112, Value.int .u8 104, Value.int .u8 105, Value.int .u8 99, Value.int .u8 32, Value.int .u8 70, Value.int .u8 111, Value.int .u8 114, Value.int .u8 117, Value.int .u8 109, Value.int .u8 32] 5)).freeze ⟨w.heap.size, m, none⟩ 1).heap.size = w.heap.size + 1 := by
  unfold World.freeze
  split <;> simp
theorem ta_below (w : World) (m : Nat) : Below w.heap.size w ((w.alloc (.cells #[Value.int .u8 67, Value.int .u8 114, Value.int .u8 121, Value.int .u8 112, Value.int .u8 116, Value.int .u8 111, Value.int .u8 103, Value.int .u8 114, Value.int .u8 97, Value.int .u8 112, Value.int .u8 104, Value.int .u8 105, Value.int .u8 99, Value.int .u8 32, Value.int .u8 70, Value.int .u8 111, Value.int .u8 114, Value.int .u8 117, Value.int .u8 109, Value.int .u8 32] 5)).freeze ⟨w.heap.size, m, none⟩ 1) := below_frozen ((Below.refl _ w).alloc (Nat.le_refl _) _) (Nat.le_refl _) 1
theorem ta_rest (w : World) (m g : Nat) (hg : g < w.heap.size) : Pol.Rest ((w.alloc (.cells #[Value.int .u8 67, Value.int .u8 114, Value.int .u8 121, Value.int .u8 112, Value.int .u8 116, Value.int .u8 111, Value.int .u8 103, Value.int .u8 114, Value.int .u8 97, Value.int .u8 112, Value.int .u8 104, Value.int .u8 105, Value.int .u8 99, Value.int .u8 32, Value.int .u8 70, Value.int .u8 111, Value.int .u8 114, Value.int .u8 117, Value.int .u8 109, Value.int .u8 32] 5)).freeze ⟨w.heap.size, m, none⟩ 1) g (.slice (some ⟨w.heap.size, 0, none⟩) 20 20) ta := by
  obtain ⟨A, c, h1, h2, h3⟩ := ta_bs w m
  refine ⟨A, c, h1, h2, fun hne => ?_⟩
  obtain ⟨k, off, rfl, hk, hc⟩ := h3 hne
  simp only [Value.slice.injEq, Option.some.injEq, Addr.mk.injEq, and_true] at h1
  obtain ⟨⟨rfl, rfl⟩, _⟩ := h1
  exact ⟨_, _, rfl, by omega, hk, hc⟩
def tb : List UInt8 := [82, 101, 115, 101, 97, 114, 99, 104, 32, 71, 114, 111, 117, 112]
theorem tb_conv (w : World) : ∃ m, (convert 39 39 (.slice (some ⟨w.heap.size, 0, none⟩) 14 14)).run Try.prog (w.alloc (.cells #[Value.int .u8 82, Value.int .u8 101, Value.int .u8 115, Value.int .u8 101, Value.int .u8 97, Value.int .u8 114, Value.int .u8 99, Value.int .u8 104, Value.int .u8 32, Value.int .u8 71, Value.int .u8 114, Value.int .u8 111, Value.int .u8 117, Value.int .u8 112] 5)) = .ok (.slice (some ⟨w.heap.size, 0, none⟩) 14 14) ((w.alloc (.cells #[Value.int .u8 82, Value.int .u8 101, Value.int .u8 115, Value.int .u8 101, Value.int .u8 97, Value.int .u8 114, Value.int .u8 99, Value.int .u8 104, Value.int .u8 32, Value.int .u8 71, Value.int .u8 114, Value.int .u8 111, Value.int .u8 117, Value.int .u8 112] 5)).freeze ⟨w.heap.size, m, none⟩ 1) := by
  obtain ⟨e, m, hs, _⟩ := World.shape?_of_cell? (Row.cell (w := (w.alloc (.cells #[Value.int .u8 82, Value.int .u8 101, Value.int .u8 115, Value.int .u8 101, Value.int .u8 97, Value.int .u8 114, Value.int .u8 99, Value.int .u8 104, Value.int .u8 32, Value.int .u8 71, Value.int .u8 114, Value.int .u8 111, Value.int .u8 117, Value.int .u8 112] 5))) (g := w.heap.size) (cs := tb.map bv) (t := 5) (Row.new rfl rfl) (i := 0) rfl)
  refine ⟨m, ?_⟩
  simp [convert, run_underlying Try.underlying39, run_underlying Try.underlying5, Ev.mark_run hs]
theorem tb_bs (w : World) (m : Nat) : Bs ((w.alloc (.cells #[Value.int .u8 82, Value.int .u8 101, Value.int .u8 115, Value.int .u8 101, Value.int .u8 97, Value.int .u8 114, Value.int .u8 99, Value.int .u8 104, Value.int .u8 32, Value.int .u8 71, Value.int .u8 114, Value.int .u8 111, Value.int .u8 117, Value.int .u8 112] 5)).freeze ⟨w.heap.size, m, none⟩ 1) ((w.alloc (.cells #[Value.int .u8 82, Value.int .u8 101, Value.int .u8 115, Value.int .u8 101, Value.int .u8 97, Value.int .u8 114, Value.int .u8 99, Value.int .u8 104, Value.int .u8 32, Value.int .u8 71, Value.int .u8 114, Value.int .u8 111, Value.int .u8 117, Value.int .u8 112] 5)).freeze ⟨w.heap.size, m, none⟩ 1).heap.size (.slice (some ⟨w.heap.size, 0, none⟩) 14 14) tb := by
  have h : Bs (w.alloc (.cells #[Value.int .u8 82, Value.int .u8 101, Value.int .u8 115, Value.int .u8 101, Value.int .u8 97, Value.int .u8 114, Value.int .u8 99, Value.int .u8 104, Value.int .u8 32, Value.int .u8 71, Value.int .u8 114, Value.int .u8 111, Value.int .u8 117, Value.int .u8 112] 5)) (w.heap.size + 1) (.slice (some ⟨w.heap.size, 0, none⟩) 14 14) tb := Row.bs (l := tb) (t := 5) (Row.new rfl rfl) (by omega)
  refine (h.keep (w' := ((w.alloc (.cells #[Value.int .u8 82, Value.int .u8 101, Value.int .u8 115, Value.int .u8 101, Value.int .u8 97, Value.int .u8 114, Value.int .u8 99, Value.int .u8 104, Value.int .u8 32, Value.int .u8 71, Value.int .u8 114, Value.int .u8 111, Value.int .u8 117, Value.int .u8 112] 5)).freeze ⟨w.heap.size, m, none⟩ 1)) fun b o _ => cell_freeze _ _ _ _).more ?_
  unfold World.freeze
  split <;> simp
theorem tb_size (w : World) (m : Nat) : ((w.alloc (.cells #[Value.int .u8 82, Value.int .u8 101, Value.int .u8 115, Value.int .u8 101, Value.int .u8 97, Value.int .u8 114, Value.int .u8 99, Value.int .u8 104, Value.int .u8 32, Value.int .u8 71, Value.int .u8 114, Value.int .u8 111, Value.int .u8 117, Value.int .u8 112] 5)).freeze ⟨w.heap.size, m, none⟩ 1).heap.size = w.heap.size + 1 := by
  unfold World.freeze
  split <;> simp
theorem tb_below (w : World) (m : Nat) : Below w.heap.size w ((w.alloc (.cells #[Value.int .u8 82, Value.int .u8 101, Value.int .u8 115, Value.int .u8 101, Value.int .u8 97, Value.int .u8 114, Value.int .u8 99, Value.int .u8 104, Value.int .u8 32, Value.int .u8 71, Value.int .u8 114, Value.int .u8 111, Value.int .u8 117, Value.int .u8 112] 5)).freeze ⟨w.heap.size, m, none⟩ 1) := below_frozen ((Below.refl _ w).alloc (Nat.le_refl _) _) (Nat.le_refl _) 1
theorem tb_rest (w : World) (m g : Nat) (hg : g < w.heap.size) : Pol.Rest ((w.alloc (.cells #[Value.int .u8 82, Value.int .u8 101, Value.int .u8 115, Value.int .u8 101, Value.int .u8 97, Value.int .u8 114, Value.int .u8 99, Value.int .u8 104, Value.int .u8 32, Value.int .u8 71, Value.int .u8 114, Value.int .u8 111, Value.int .u8 117, Value.int .u8 112] 5)).freeze ⟨w.heap.size, m, none⟩ 1) g (.slice (some ⟨w.heap.size, 0, none⟩) 14 14) tb := by
  obtain ⟨A, c, h1, h2, h3⟩ := tb_bs w m
  refine ⟨A, c, h1, h2, fun hne => ?_⟩
  obtain ⟨k, off, rfl, hk, hc⟩ := h3 hne
  simp only [Value.slice.injEq, Option.some.injEq, Addr.mk.injEq, and_true] at h1
  obtain ⟨⟨rfl, rfl⟩, _⟩ := h1
  exact ⟨_, _, rfl, by omega, hk, hc⟩
def tc : List UInt8 := [97, 110, 121, 116, 104, 105, 110, 103]
theorem tc_conv (w : World) : ∃ m, (convert 39 39 (.slice (some ⟨w.heap.size, 0, none⟩) 8 8)).run Try.prog (w.alloc (.cells #[Value.int .u8 97, Value.int .u8 110, Value.int .u8 121, Value.int .u8 116, Value.int .u8 104, Value.int .u8 105, Value.int .u8 110, Value.int .u8 103] 5)) = .ok (.slice (some ⟨w.heap.size, 0, none⟩) 8 8) ((w.alloc (.cells #[Value.int .u8 97, Value.int .u8 110, Value.int .u8 121, Value.int .u8 116, Value.int .u8 104, Value.int .u8 105, Value.int .u8 110, Value.int .u8 103] 5)).freeze ⟨w.heap.size, m, none⟩ 1) := by
  obtain ⟨e, m, hs, _⟩ := World.shape?_of_cell? (Row.cell (w := (w.alloc (.cells #[Value.int .u8 97, Value.int .u8 110, Value.int .u8 121, Value.int .u8 116, Value.int .u8 104, Value.int .u8 105, Value.int .u8 110, Value.int .u8 103] 5))) (g := w.heap.size) (cs := tc.map bv) (t := 5) (Row.new rfl rfl) (i := 0) rfl)
  refine ⟨m, ?_⟩
  simp [convert, run_underlying Try.underlying39, run_underlying Try.underlying5, Ev.mark_run hs]
theorem tc_bs (w : World) (m : Nat) : Bs ((w.alloc (.cells #[Value.int .u8 97, Value.int .u8 110, Value.int .u8 121, Value.int .u8 116, Value.int .u8 104, Value.int .u8 105, Value.int .u8 110, Value.int .u8 103] 5)).freeze ⟨w.heap.size, m, none⟩ 1) ((w.alloc (.cells #[Value.int .u8 97, Value.int .u8 110, Value.int .u8 121, Value.int .u8 116, Value.int .u8 104, Value.int .u8 105, Value.int .u8 110, Value.int .u8 103] 5)).freeze ⟨w.heap.size, m, none⟩ 1).heap.size (.slice (some ⟨w.heap.size, 0, none⟩) 8 8) tc := by
  have h : Bs (w.alloc (.cells #[Value.int .u8 97, Value.int .u8 110, Value.int .u8 121, Value.int .u8 116, Value.int .u8 104, Value.int .u8 105, Value.int .u8 110, Value.int .u8 103] 5)) (w.heap.size + 1) (.slice (some ⟨w.heap.size, 0, none⟩) 8 8) tc := Row.bs (l := tc) (t := 5) (Row.new rfl rfl) (by omega)
  refine (h.keep (w' := ((w.alloc (.cells #[Value.int .u8 97, Value.int .u8 110, Value.int .u8 121, Value.int .u8 116, Value.int .u8 104, Value.int .u8 105, Value.int .u8 110, Value.int .u8 103] 5)).freeze ⟨w.heap.size, m, none⟩ 1)) fun b o _ => cell_freeze _ _ _ _).more ?_
  unfold World.freeze
  split <;> simp
theorem tc_size (w : World) (m : Nat) : ((w.alloc (.cells #[Value.int .u8 97, Value.int .u8 110, Value.int .u8 121, Value.int .u8 116, Value.int .u8 104, Value.int .u8 105, Value.int .u8 110, Value.int .u8 103] 5)).freeze ⟨w.heap.size, m, none⟩ 1).heap.size = w.heap.size + 1 := by
  unfold World.freeze
  split <;> simp
theorem tc_below (w : World) (m : Nat) : Below w.heap.size w ((w.alloc (.cells #[Value.int .u8 97, Value.int .u8 110, Value.int .u8 121, Value.int .u8 116, Value.int .u8 104, Value.int .u8 105, Value.int .u8 110, Value.int .u8 103] 5)).freeze ⟨w.heap.size, m, none⟩ 1) := below_frozen ((Below.refl _ w).alloc (Nat.le_refl _) _) (Nat.le_refl _) 1
theorem tc_rest (w : World) (m g : Nat) (hg : g < w.heap.size) : Pol.Rest ((w.alloc (.cells #[Value.int .u8 97, Value.int .u8 110, Value.int .u8 121, Value.int .u8 116, Value.int .u8 104, Value.int .u8 105, Value.int .u8 110, Value.int .u8 103] 5)).freeze ⟨w.heap.size, m, none⟩ 1) g (.slice (some ⟨w.heap.size, 0, none⟩) 8 8) tc := by
  obtain ⟨A, c, h1, h2, h3⟩ := tc_bs w m
  refine ⟨A, c, h1, h2, fun hne => ?_⟩
  obtain ⟨k, off, rfl, hk, hc⟩ := h3 hne
  simp only [Value.slice.injEq, Option.some.injEq, Addr.mk.injEq, and_true] at h1
  obtain ⟨⟨rfl, rfl⟩, _⟩ := h1
  exact ⟨_, _, rfl, by omega, hk, hc⟩
def td : List UInt8 := [67, 114, 121, 112, 116, 111, 103, 114, 97, 112, 104, 105, 99, 32, 70, 111, 114, 117, 109, 32, 82, 101, 115, 101, 97, 114, 99, 104, 32, 71, 114, 111, 117, 112]
theorem td_conv (w : World) : ∃ m, (convert 39 39 (.slice (some ⟨w.heap.size, 0, none⟩) 34 34)).run Try.prog (w.alloc (.cells #[Value.int .u8 67, Value.int .u8 114, Value.int .u8 121, Value.int .u8 112, Value.int .u8 116, Value.int .u8 111, Value.int .u8 103, Value.int .u8 114, Value.int .u8 97, Value.int .u8 112, Value.int .u8 104, Value.int .u8 105, Value.int .u8 99, Value.int .u8 32, Value.int .u8 70, Value.int .u8 111, Value.int .u8 114, Value.int .u8 117, Value.int .u8 109, Value.int .u8 32, Value.int .u8 82, Value.int .u8 101, Value.int .u8 115, Value.int .u8 101, Value.int .u8 97, Value.int .u8 114, Value.int .u8 99, Value.int .u8 104, Value.int .u8 32, Value.int .u8 71, Value.int .u8 114, Value.int .u8 111, Value.int .u8 117, Value.int .u8 112] 5)) = .ok (.slice (some ⟨w.heap.size, 0, none⟩) 34 34) ((w.alloc (.cells #[Value.int .u8 67, Value.int .u8 114, Value.int .u8 121, Value.int .u8 112, Value.int .u8 116, Value.int .u8 111, Value.int .u8 103, Value.int .u8 114, Value.int .u8 97, Value.int .u8 112, Value.int .u8 104, Value.int .u8 105, Value.int .u8 99, Value.int .u8 32, Value.int .u8 70, Value.int .u8 111, Value.int .u8 114, Value.int .u8 117, Value.int .u8 109, Value.int .u8 32, Value.int .u8 82, Value.int .u8 101, Value.int .u8 115, Value.int .u8 101, Value.int .u8 97, Value.int .u8 114, Value.int .u8 99, Value.int .u8 104, Value.int .u8 32, Value.int .u8 71, Value.int .u8 114, Value.int .u8 111, Value.int .u8 117, Value.int .u8 112] 5)).freeze ⟨w.heap.size, m, none⟩ 1) := by
  obtain ⟨e, m, hs, _⟩ := World.shape?_of_cell? (Row.cell (w := (w.alloc (.cells #[Value.int .u8 67, Value.int .u8 114, Value.int .u8 121, Value.int .u8 112, Value.int .u8 116, Value.int .u8 111, Value.int .u8 103, Value.int .u8 114, Value.int .u8 97, Value.int .u8 112, Value.int .u8 104, Value.int .u8 105, Value.int .u8 99, Value.int .u8 32, Value.int .u8 70, Value.int .u8 111, Value.int .u8 114, Value.int .u8 117, Value.int .u8 109, Value.int .u8 32, Value.int .u8 82, Value.int .u8 101, Value.int .u8 115, Value.int .u8 101, Value.int .u8 97, Value.int .u8 114, Value.int .u8 99, Value.int .u8 104, Value.int .u8 32, Value.int .u8 71, Value.int .u8 114, Value.int .u8 111, Value.int .u8 117, Value.int .u8 112] 5))) (g := w.heap.size) (cs := td.map bv) (t := 5) (Row.new rfl rfl) (i := 0) rfl)
  refine ⟨m, ?_⟩
  simp [convert, run_underlying Try.underlying39, run_underlying Try.underlying5, Ev.mark_run hs]
theorem td_bs (w : World) (m : Nat) : Bs ((w.alloc (.cells #[Value.int .u8 67, Value.int .u8 114, Value.int .u8 121, Value.int .u8 112, Value.int .u8 116, Value.int .u8 111, Value.int .u8 103, Value.int .u8 114, Value.int .u8 97, Value.int .u8 112, Value.int .u8 104, Value.int .u8 105, Value.int .u8 99, Value.int .u8 32, Value.int .u8 70, Value.int .u8 111, Value.int .u8 114, Value.int .u8 117, Value.int .u8 109, Value.int .u8 32, Value.int .u8 82, Value.int .u8 101, Value.int .u8 115, Value.int .u8 101, Value.int .u8 97, Value.int .u8 114, Value.int .u8 99, Value.int .u8 104, Value.int .u8 32, Value.int .u8 71, Value.int .u8 114, Value.int .u8 111, Value.int .u8 117, Value.int .u8 112] 5)).freeze ⟨w.heap.size, m, none⟩ 1) ((w.alloc (.cells #[Value.int .u8 67, Value.int .u8 114, Value.int .u8 121, Value.int .u8 112, Value.int .u8 116, Value.int .u8 111, Value.int .u8 103, Value.int .u8 114, Value.int .u8 97, Value.int .u8 112, Value.int .u8 104, Value.int .u8 105, Value.int .u8 99, Value.int .u8 32, Value.int .u8 70, Value.int .u8 111, Value.int .u8 114, Value.int .u8 117, Value.int .u8 109, Value.int .u8 32, Value.int .u8 82, Value.int .u8 101, Value.int .u8 115, Value.int .u8 101, Value.int .u8 97, Value.int .u8 114, Value.int .u8 99, Value.int .u8 104, Value.int .u8 32, Value.int .u8 71, Value.int .u8 114, Value.int .u8 111, Value.int .u8 117, Value.int .u8 112] 5)).freeze ⟨w.heap.size, m, none⟩ 1).heap.size (.slice (some ⟨w.heap.size, 0, none⟩) 34 34) td := by
  have h : Bs (w.alloc (.cells #[Value.int .u8 67, Value.int .u8 114, Value.int .u8 121, Value.int .u8 112, Value.int .u8 116, Value.int .u8 111, Value.int .u8 103, Value.int .u8 114, Value.int .u8 97, Value.int .u8 112, Value.int .u8 104, Value.int .u8 105, Value.int .u8 99, Value.int .u8 32, Value.int .u8 70, Value.int .u8 111, Value.int .u8 114, Value.int .u8 117, Value.int .u8 109, Value.int .u8 32, Value.int .u8 82, Value.int .u8 101, Value.int .u8 115, Value.int .u8 101, Value.int .u8 97, Value.int .u8 114, Value.int .u8 99, Value.int .u8 104, Value.int .u8 32, Value.int .u8 71, Value.int .u8 114, Value.int .u8 111, Value.int .u8 117, Value.int .u8 112] 5)) (w.heap.size + 1) (.slice (some ⟨w.heap.size, 0, none⟩) 34 34) td := Row.bs (l := td) (t := 5) (Row.new rfl rfl) (by omega)
  refine (h.keep (w' := ((w.alloc (.cells #[Value.int .u8 67, Value.int .u8 114, Value.int .u8 121, Value.int .u8 112, Value.int .u8 116, Value.int .u8 111, Value.int .u8 103, Value.int .u8 114, Value.int .u8 97, Value.int .u8 112, Value.int .u8 104, Value.int .u8 105, Value.int .u8 99, Value.int .u8 32, Value.int .u8 70, Value.int .u8 111, Value.int .u8 114, Value.int .u8 117, Value.int .u8 109, Value.int .u8 32, Value.int .u8 82, Value.int .u8 101, Value.int .u8 115, Value.int .u8 101, Value.int .u8 97, Value.int .u8 114, Value.int .u8 99, Value.int .u8 104, Value.int .u8 32, Value.int .u8 71, Value.int .u8 114, Value.int .u8 111, Value.int .u8 117, Value.int .u8 112] 5)).freeze ⟨w.heap.size, m, none⟩ 1)) fun b o _ => cell_freeze _ _ _ _).more ?_
  unfold World.freeze
  split <;> simp
theorem td_size (w : World) (m : Nat) : ((w.alloc (.cells #[Value.int .u8 67, Value.int .u8 114, Value.int .u8 121, Value.int .u8 112, Value.int .u8 116, Value.int .u8 111, Value.int .u8 103, Value.int .u8 114, Value.int .u8 97, Value.int .u8 112, Value.int .u8 104, Value.int .u8 105, Value.int .u8 99, Value.int .u8 32, Value.int .u8 70, Value.int .u8 111, Value.int .u8 114, Value.int .u8 117, Value.int .u8 109, Value.int .u8 32, Value.int .u8 82, Value.int .u8 101, Value.int .u8 115, Value.int .u8 101, Value.int .u8 97, Value.int .u8 114, Value.int .u8 99, Value.int .u8 104, Value.int .u8 32, Value.int .u8 71, Value.int .u8 114, Value.int .u8 111, Value.int .u8 117, Value.int .u8 112] 5)).freeze ⟨w.heap.size, m, none⟩ 1).heap.size = w.heap.size + 1 := by
  unfold World.freeze
  split <;> simp
theorem td_below (w : World) (m : Nat) : Below w.heap.size w ((w.alloc (.cells #[Value.int .u8 67, Value.int .u8 114, Value.int .u8 121, Value.int .u8 112, Value.int .u8 116, Value.int .u8 111, Value.int .u8 103, Value.int .u8 114, Value.int .u8 97, Value.int .u8 112, Value.int .u8 104, Value.int .u8 105, Value.int .u8 99, Value.int .u8 32, Value.int .u8 70, Value.int .u8 111, Value.int .u8 114, Value.int .u8 117, Value.int .u8 109, Value.int .u8 32, Value.int .u8 82, Value.int .u8 101, Value.int .u8 115, Value.int .u8 101, Value.int .u8 97, Value.int .u8 114, Value.int .u8 99, Value.int .u8 104, Value.int .u8 32, Value.int .u8 71, Value.int .u8 114, Value.int .u8 111, Value.int .u8 117, Value.int .u8 112] 5)).freeze ⟨w.heap.size, m, none⟩ 1) := below_frozen ((Below.refl _ w).alloc (Nat.le_refl _) _) (Nat.le_refl _) 1
theorem td_rest (w : World) (m g : Nat) (hg : g < w.heap.size) : Pol.Rest ((w.alloc (.cells #[Value.int .u8 67, Value.int .u8 114, Value.int .u8 121, Value.int .u8 112, Value.int .u8 116, Value.int .u8 111, Value.int .u8 103, Value.int .u8 114, Value.int .u8 97, Value.int .u8 112, Value.int .u8 104, Value.int .u8 105, Value.int .u8 99, Value.int .u8 32, Value.int .u8 70, Value.int .u8 111, Value.int .u8 114, Value.int .u8 117, Value.int .u8 109, Value.int .u8 32, Value.int .u8 82, Value.int .u8 101, Value.int .u8 115, Value.int .u8 101, Value.int .u8 97, Value.int .u8 114, Value.int .u8 99, Value.int .u8 104, Value.int .u8 32, Value.int .u8 71, Value.int .u8 114, Value.int .u8 111, Value.int .u8 117, Value.int .u8 112] 5)).freeze ⟨w.heap.size, m, none⟩ 1) g (.slice (some ⟨w.heap.size, 0, none⟩) 34 34) td := by
  obtain ⟨A, c, h1, h2, h3⟩ := td_bs w m
  refine ⟨A, c, h1, h2, fun hne => ?_⟩
  obtain ⟨k, off, rfl, hk, hc⟩ := h3 hne
  simp only [Value.slice.injEq, Option.some.injEq, Addr.mk.injEq, and_true] at h1
  obtain ⟨⟨rfl, rfl⟩, _⟩ := h1
  exact ⟨_, _, rfl, by omega, hk, hc⟩
theorem mac_below {w w1 : World} {g : Nat} {r s : Poly.L} {l : List UInt8} (h : MacAt w g r s l) (hb : Below w.heap.size w w1) : MacAt w1 g r s l := by
  obtain ⟨rest, h1, h2, h3⟩ := h
  exact ⟨rest, h1, h2, h3.below hb h3.lt⟩
def z16 : List UInt8 := List.replicate 16 0
theorem tagz : Pol.tagK (List.replicate 32 0) tc = z16 := by decide +kernel
theorem tag_m : Pol.tagL r1 s1 ([] ++ ta ++ tb) = Pol.tag1 := by decide +kernel
theorem tag_d : Pol.tagL r1 s1 td = Pol.tag1 := by decide +kernel
theorem guard_eq (x y : Operand) (xs ys : Array Value) (w : World) : (eqGuard .eql 40 x y (.agg xs) (.agg ys)).run Try.prog w = .ok () w := by
  have hg : Try.prog.eqGuardType Try.prog.depth 40 = false := by kernel_rfl
  simp [eqGuard, Sem.run_bind, hg]
theorem bin_eq (a b : List UInt8) (ha : a.length = 16) (hb : b.length = 16) (w : World) : (binOp .eql 40 (arr8 a) (arr8 b)).run Try.prog w = .ok (.bool (decide (a = b))) w := by
  have h := run_eql_arr8 (P := Try.prog) Try.underlying40 Try.underlying5 (by kernel_rfl) a b ha hb w
  unfold arr8 at h ⊢
  simp [binOp, Sem.run_bind, h]
set_option maxRecDepth 100000 in
set_option maxHeartbeats 1000000 in
theorem walk (w : World) : Calls Try.prog 4 #[] w fun e w' => e = .returned (.bool true) ∧ Below w.heap.size w w' := by
  have hq1 : ∀ x y w', (eqGuard .eql 40 x y (arr8 z16) (.agg #[Value.int .u8 0, Value.int .u8 0, Value.int .u8 0, Value.int .u8 0, Value.int .u8 0, Value.int .u8 0, Value.int .u8 0, Value.int .u8 0, Value.int .u8 0, Value.int .u8 0, Value.int .u8 0, Value.int .u8 0, Value.int .u8 0, Value.int .u8 0, Value.int .u8 0, Value.int .u8 0])).run Try.prog w' = .ok () w' := fun x y w' => guard_eq _ _ _ _ w'
  have hq2 : ∀ w', (binOp .eql 40 (arr8 z16) (.agg #[Value.int .u8 0, Value.int .u8 0, Value.int .u8 0, Value.int .u8 0, Value.int .u8 0, Value.int .u8 0, Value.int .u8 0, Value.int .u8 0, Value.int .u8 0, Value.int .u8 0, Value.int .u8 0, Value.int .u8 0, Value.int .u8 0, Value.int .u8 0, Value.int .u8 0, Value.int .u8 0])).run Try.prog w' = .ok (.bool true) w' := fun w' => bin_eq z16 z16 rfl rfl w'
  have hq3 : ∀ x y w', (eqGuard .eql 40 x y (arr8 Pol.tag1) (arr8 Pol.tag1)).run Try.prog w' = .ok () w' := fun x y w' => guard_eq _ _ _ _ w'
  have hq4 : ∀ w', (binOp .eql 40 (arr8 Pol.tag1) (arr8 Pol.tag1)).run Try.prog w' = .ok (.bool true) w' := fun w' => bin_eq Pol.tag1 Pol.tag1 rfl rfl w'
  go_enter Try.func4, Try.ntmps4
  go_wp2_with fail
  refine (Pol.first_any _).mono ?_
  rintro e w1 ⟨rfl, hb1⟩
  have Hb1 := Lib.hid hb1
  clear hb1
  go_wp2_with fail
  refine (Pol.New_1 _).mono ?_
  rintro e w2 ⟨g, rfl, hg, hrow, hb2⟩
  obtain ⟨m, hcv⟩ := ta_conv w2
  have Hb2 := Lib.hid (nextB Hb1.out (Nat.le_refl _) hb2)
  have Hg := Lib.hid hg
  have Hrow := Lib.hid hrow
  clear hb2 hrow hg
  go_wp2_with fail
  refine (Pol.Write_any (l := []) (b := ta) Pol.r1_fit (.new (Hrow.out.below (ta_below w2 m) Hrow.out.lt)) (ta_rest w2 m g Hrow.out.lt) (by decide)).mono ?_
  rintro e w3 ⟨rfl, hm3, hk3⟩
  clear hcv
  have Hb3 := Lib.hid ((nextB Hb2.out (Nat.le_refl _) (ta_below w2 m)).trans (Pol.keep_below hk3 (lo := w.heap.size) (by rintro k rfl; exact Nat.le_trans Hb1.out.size Hg.out) (Nat.le_trans Hb2.out.size (ta_below w2 m).size)))
  have Hm3 := Lib.hid hm3
  have hglt : g < w3.heap.size := by
    obtain ⟨_, _, _, h⟩ := hm3
    exact h.lt
  have Hgl := Lib.hid hglt
  clear hm3 hk3 hglt
  obtain ⟨m2, hcv⟩ := tb_conv w3
  go_wp2_with fail
  refine (Pol.Write_any (l := [] ++ ta) (b := tb) Pol.r1_fit (mac_below Hm3.out (tb_below w3 m2)) (tb_rest w3 m2 g Hgl.out) (by decide)).mono ?_
  rintro e w4 ⟨rfl, hm4, hk4⟩
  clear hcv
  have Hb4 := Lib.hid ((nextB Hb3.out (Nat.le_refl _) (tb_below w3 m2)).trans (Pol.keep_below hk4 (lo := w.heap.size) (by rintro k rfl; exact Nat.le_trans Hb1.out.size Hg.out) (Nat.le_trans Hb3.out.size (tb_below w3 m2).size)))
  have Hm4 := Lib.hid hm4
  clear hm4 hk4
  go_wp2_with (first
    | (go_at_call 24; refine (Pol.lives_any _).mono ?_; rintro e w5 ⟨rfl, hb5⟩; obtain ⟨m3, hcv⟩ := tc_conv w5; have Hb5 := Lib.hid hb5; clear hb5)
    | fail)
  refine (Pol.TagF_any (key := List.replicate 32 0) rfl (tc_bs w5 m3) (by decide)).mono ?_
  rintro e w6 ⟨he, hb6⟩
  rw [tagz] at he
  subst he
  clear hcv
  have Hb6 := Lib.hid (nextB (nextB (nextB Hb4.out (Nat.le_refl _) Hb5.out) (Nat.le_refl _) (tc_below w5 m3)) (Nat.le_refl _) hb6)
  have Hm6 := Lib.hid (mac_below (mac_below (mac_below Hm4.out Hb5.out) (tc_below w5 m3)) hb6)
  clear hb6
  go_wp2_with (first
    | (go_at_call 26; refine (Pol.MTag_any Pol.r1_fit Pol.s1_fit Hm6.out (by decide)).mono ?_; rintro e w7 ⟨he, hb7⟩; rw [tag_m] at he; subst he; have Hb7 := Lib.hid hb7; clear hb7)
    | (go_at_call 22; refine (Pol.first_any _).mono ?_; rintro e w8 ⟨rfl, hb8⟩; obtain ⟨m4, hcv⟩ := td_conv w8; have Hb8 := Lib.hid hb8; clear hb8)
    | fail)
  refine (Pol.TagF_of (key := key1) (l := td) rfl Pol.r1_fit Pol.s1_fit Pol.New_1 (td_bs w8 m4) (by decide)).mono ?_
  rintro e w9 ⟨he, hb9⟩
  rw [tag_d] at he
  subst he
  clear hcv
  have Hb9 := Lib.hid (nextB (nextB (nextB (nextB Hb6.out (Nat.le_refl _) Hb7.out) (Nat.le_refl _) Hb8.out) (Nat.le_refl _) (td_below w8 m4)) (Nat.le_refl _) hb9)
  have Hm9 := Lib.hid (mac_below (mac_below (mac_below (mac_below Hm6.out Hb7.out) Hb8.out) (td_below w8 m4)) hb9)
  clear hb9
  obtain ⟨rest9, h91, h92, h93⟩ := Hm9.out
  have H93 := Lib.hid h93
  have H91 := Lib.hid h91
  clear h91 h92 h93
  go_wp2_with (first
    | (go_at_call 27; refine (Pol.Size_any H91.out H93.out).mono ?_; rintro e w10 ⟨rfl, rfl⟩)
    | fail)
  rw [show ((ta.length : Int) + (tb.length : Int) == 34) = true by decide]
  go_ret
  exact ⟨rfl, Hb9.out⟩

set_option maxRecDepth 100000 in
theorem lifted (os : Os) (started : os.Started) (H : Type) (enc : TypeId × Value → H) :
    ReturnsInHanded {} Try.checked os 4 .any (Rows.polyNamesSpec.pre6 enc Try.prog Try.f4 Rows.polyNamesRow.domain false) (Rows.polyNamesSpec.post enc Try.prog Try.f4 false true false false) := by
  refine returnsInHanded_of_change (C := Try.checked) own started (by kernel_rfl) Try.func4
    (ChangeSpec.witness6 (enc := enc) (C := Try.checked) false ⟨#[], #[], []⟩ 8 (by kernel_rfl) (by kernel_rfl) (by kernel_rfl) (by kernel_rfl)) ?_
  intro W base args ds gs before hval0 hW hcnd _
  have hW' := hW
  obtain ⟨p, q, hA0, hV, rfl, hfz, hnd⟩ := hW
  have hA : DataW.TrodAll enc Try.prog W 0 (fun _ => true) true Try.f4.params.toList args.toList ds p := hA0
  rw [Try.params4] at hA
  obtain ⟨rfl, rfl, rfl⟩ := trodAll_none hA
  obtain ⟨rfl, rfl⟩ := trodVars_none hV
  clear hA0 hval0
  simp only [List.append_nil] at hW'
  refine (walk W).mono fun e W' ⟨he, hg⟩ => ?_
  subst he
  exact ⟨_, rfl, post_of_below (pa := []) (pv := []) hW' (fun _ _ _ => (trodAll_cons_mk (shut_bool Try.underlying4 _) trodAll_mk0)) (fun sp _ => rfl) (fun _ _ => rfl) rfl
    hg (ok_one (by kernel_rfl) rfl (okWide_bool_mk Try.underlying4 _))⟩

theorem over : Rows.polyNamesRow.holds Try.pinned (OpenSpec.ofChange Rows.polyNamesSpec) :=
  OpenClaim.holds_of_wide 4 Try.f4 rfl rfl rfl rfl rfl rfl rfl ⟨rfl, rfl, rfl, rfl, rfl⟩ rfl rfl rfl rfl rfl (by kernel_rfl) Try.func4 (by kernel_rfl)
    (of_decide_eq_true (by kernel_rfl)) (by unfold Func.isWrapper; first | (rw [if_pos (by decide +kernel)]; kernel_rfl) | (rw [if_neg (by decide +kernel)]; exact ⟨rfl, rfl⟩))
    (fun os started H enc _ => lifted os started H enc)

theorem proved : Rows.PolyNamesSaid := over
#print axioms proved
end Go.Proofs.Ytnihpdbbbpekiaa.polyNames
