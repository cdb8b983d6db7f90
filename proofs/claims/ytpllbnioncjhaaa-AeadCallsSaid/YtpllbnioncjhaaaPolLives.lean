/- The chapter's example: 'lives', in every world. -/
import Derived.Test.YtpllbnioncjhaaaPolTagF
namespace Go.Proofs.Ytpllbnioncjhaaa
open Go.RowKit
namespace Pol
open Poly (L)
set_option maxRecDepth 100000
def key1 : List UInt8 := [133, 214, 190, 120, 87, 85, 109, 51, 127, 68, 82, 254, 66, 213, 6, 168, 1, 3, 128, 138, 251, 13, 178, 253, 74, 191, 246, 175, 65, 73, 245, 27]
def text1 : List UInt8 := [67, 114, 121, 112, 116, 111, 103, 114, 97, 112, 104, 105, 99, 32, 70, 111, 114, 117, 109, 32, 82, 101, 115, 101, 97, 114, 99, 104, 32, 71, 114, 111, 117, 112]
def tag1 : List UInt8 := [168, 6, 29, 193, 48, 81, 54, 198, 194, 43, 139, 175, 12, 1, 39, 169]
def r1 : L := ⟨12506757, 55923970, 4702262, 16791881, 526037⟩
def s1 : L := ⟨41943809, 8617698, 66367451, 17219546, 1832265⟩
theorem r1_fit : Poly.Fit r1 := by unfold r1 Poly.Fit; decide
theorem s1_fit : Poly.Fit s1 := by unfold s1 Poly.Fit; decide
theorem New_ev1 : Ev.ansBlk Try.prog 2000 32 #[arr8 key1] [] = some ⟨macCells r1 s1 zeroL (List.replicate 16 0) 0, 73, 0⟩ := by kernel_rfl
theorem New_1 (w : World) : Calls Try.prog 32 #[arr8 key1] w fun e w1 => ∃ g, e = .returned (.pointer (some ⟨g, 0, none⟩)) ∧ w.heap.size ≤ g ∧ Row w1 g (macCells r1 s1 zeroL (List.replicate 16 0) 0) 73 ∧ Below w.heap.size w w1 :=
  Ev.calls_blk (l := []) mixed (by decide) (by simp) (by simp) (flat_args rfl) New_ev1 rfl rfl
theorem tag1_is : tagL r1 s1 text1 = tag1 := by decide +kernel
theorem first_ev : Ev.ans Try.prog 2000 31 #[] [] = some (arr8 key1) := by kernel_rfl
theorem first_any (w : World) : Calls Try.prog 31 #[] w fun e w1 => e = .returned (arr8 key1) ∧ Below w.heap.size w w1 :=
  Ev.calls_ans (l := []) mixed (by decide) (by simp) (by simp) (flat_args rfl) first_ev rfl
theorem conv1 (w : World) : ∃ m, (convert 34 34 (.slice (some ⟨w.heap.size, 0, none⟩) 34 34)).run Try.prog (w.alloc (.cells #[Value.int .u8 67, Value.int .u8 114, Value.int .u8 121, Value.int .u8 112, Value.int .u8 116, Value.int .u8 111, Value.int .u8 103, Value.int .u8 114, Value.int .u8 97, Value.int .u8 112, Value.int .u8 104, Value.int .u8 105, Value.int .u8 99, Value.int .u8 32, Value.int .u8 70, Value.int .u8 111, Value.int .u8 114, Value.int .u8 117, Value.int .u8 109, Value.int .u8 32, Value.int .u8 82, Value.int .u8 101, Value.int .u8 115, Value.int .u8 101, Value.int .u8 97, Value.int .u8 114, Value.int .u8 99, Value.int .u8 104, Value.int .u8 32, Value.int .u8 71, Value.int .u8 114, Value.int .u8 111, Value.int .u8 117, Value.int .u8 112] 5)) = .ok (.slice (some ⟨w.heap.size, 0, none⟩) 34 34) ((w.alloc (.cells #[Value.int .u8 67, Value.int .u8 114, Value.int .u8 121, Value.int .u8 112, Value.int .u8 116, Value.int .u8 111, Value.int .u8 103, Value.int .u8 114, Value.int .u8 97, Value.int .u8 112, Value.int .u8 104, Value.int .u8 105, Value.int .u8 99, Value.int .u8 32, Value.int .u8 70, Value.int .u8 111, Value.int .u8 114, Value.int .u8 117, Value.int .u8 109, Value.int .u8 32, Value.int .u8 82, Value.int .u8 101, Value.int .u8 115, Value.int .u8 101, Value.int .u8 97, Value.int .u8 114, Value.int .u8 99, Value.int .u8 104, Value.int .u8 32, Value.int .u8 71, Value.int .u8 114, Value.int .u8 111, Value.int .u8 117, Value.int .u8 112] 5)).freeze ⟨w.heap.size, m, none⟩ 1) := by
  obtain ⟨e, m, hs, _⟩ := World.shape?_of_cell? (Row.cell (w := w.alloc (.cells #[Value.int .u8 67, Value.int .u8 114, Value.int .u8 121, Value.int .u8 112, Value.int .u8 116, Value.int .u8 111, Value.int .u8 103, Value.int .u8 114, Value.int .u8 97, Value.int .u8 112, Value.int .u8 104, Value.int .u8 105, Value.int .u8 99, Value.int .u8 32, Value.int .u8 70, Value.int .u8 111, Value.int .u8 114, Value.int .u8 117, Value.int .u8 109, Value.int .u8 32, Value.int .u8 82, Value.int .u8 101, Value.int .u8 115, Value.int .u8 101, Value.int .u8 97, Value.int .u8 114, Value.int .u8 99, Value.int .u8 104, Value.int .u8 32, Value.int .u8 71, Value.int .u8 114, Value.int .u8 111, Value.int .u8 117, Value.int .u8 112] 5)) (g := w.heap.size) (cs := text1.map bv) (t := 5) (Row.new rfl rfl) (i := 0) rfl)
  refine ⟨m, ?_⟩
  simp [convert, run_underlying Try.underlying34, run_underlying Try.underlying5, Ev.mark_run hs]
theorem bs1 (w : World) (m : Nat) : Bs ((w.alloc (.cells #[Value.int .u8 67, Value.int .u8 114, Value.int .u8 121, Value.int .u8 112, Value.int .u8 116, Value.int .u8 111, Value.int .u8 103, Value.int .u8 114, Value.int .u8 97, Value.int .u8 112, Value.int .u8 104, Value.int .u8 105, Value.int .u8 99, Value.int .u8 32, Value.int .u8 70, Value.int .u8 111, Value.int .u8 114, Value.int .u8 117, Value.int .u8 109, Value.int .u8 32, Value.int .u8 82, Value.int .u8 101, Value.int .u8 115, Value.int .u8 101, Value.int .u8 97, Value.int .u8 114, Value.int .u8 99, Value.int .u8 104, Value.int .u8 32, Value.int .u8 71, Value.int .u8 114, Value.int .u8 111, Value.int .u8 117, Value.int .u8 112] 5)).freeze ⟨w.heap.size, m, none⟩ 1) ((w.alloc (.cells #[Value.int .u8 67, Value.int .u8 114, Value.int .u8 121, Value.int .u8 112, Value.int .u8 116, Value.int .u8 111, Value.int .u8 103, Value.int .u8 114, Value.int .u8 97, Value.int .u8 112, Value.int .u8 104, Value.int .u8 105, Value.int .u8 99, Value.int .u8 32, Value.int .u8 70, Value.int .u8 111, Value.int .u8 114, Value.int .u8 117, Value.int .u8 109, Value.int .u8 32, Value.int .u8 82, Value.int .u8 101, Value.int .u8 115, Value.int .u8 101, Value.int .u8 97, Value.int .u8 114, Value.int .u8 99, Value.int .u8 104, Value.int .u8 32, Value.int .u8 71, Value.int .u8 114, Value.int .u8 111, Value.int .u8 117, Value.int .u8 112] 5)).freeze ⟨w.heap.size, m, none⟩ 1).heap.size (.slice (some ⟨w.heap.size, 0, none⟩) 34 34) text1 := by
  have h : Bs (w.alloc (.cells #[Value.int .u8 67, Value.int .u8 114, Value.int .u8 121, Value.int .u8 112, Value.int .u8 116, Value.int .u8 111, Value.int .u8 103, Value.int .u8 114, Value.int .u8 97, Value.int .u8 112, Value.int .u8 104, Value.int .u8 105, Value.int .u8 99, Value.int .u8 32, Value.int .u8 70, Value.int .u8 111, Value.int .u8 114, Value.int .u8 117, Value.int .u8 109, Value.int .u8 32, Value.int .u8 82, Value.int .u8 101, Value.int .u8 115, Value.int .u8 101, Value.int .u8 97, Value.int .u8 114, Value.int .u8 99, Value.int .u8 104, Value.int .u8 32, Value.int .u8 71, Value.int .u8 114, Value.int .u8 111, Value.int .u8 117, Value.int .u8 112] 5)) (w.heap.size + 1) (.slice (some ⟨w.heap.size, 0, none⟩) 34 34) text1 := Row.bs (l := text1) (t := 5) (Row.new rfl rfl) (by omega)
  refine (h.keep (w' := (w.alloc (.cells #[Value.int .u8 67, Value.int .u8 114, Value.int .u8 121, Value.int .u8 112, Value.int .u8 116, Value.int .u8 111, Value.int .u8 103, Value.int .u8 114, Value.int .u8 97, Value.int .u8 112, Value.int .u8 104, Value.int .u8 105, Value.int .u8 99, Value.int .u8 32, Value.int .u8 70, Value.int .u8 111, Value.int .u8 114, Value.int .u8 117, Value.int .u8 109, Value.int .u8 32, Value.int .u8 82, Value.int .u8 101, Value.int .u8 115, Value.int .u8 101, Value.int .u8 97, Value.int .u8 114, Value.int .u8 99, Value.int .u8 104, Value.int .u8 32, Value.int .u8 71, Value.int .u8 114, Value.int .u8 111, Value.int .u8 117, Value.int .u8 112] 5)).freeze ⟨w.heap.size, m, none⟩ 1) fun b o _ => cell_freeze _ _ _ _).more ?_
  unfold World.freeze
  split <;> simp
theorem lives_any (w : World) : Calls Try.prog 11 #[] w fun e w' => e = .returned (.bool true) ∧ Below w.heap.size w w' := by
  go_enter Try.func11, Try.ntmps11
  go_wp2_with (first
    | (go_at_call 31; refine (first_any _).mono ?_; rintro e w1 ⟨rfl, hb1⟩; obtain ⟨m, hcv⟩ := conv1 w1; have Hb1 := Lib.hid hb1; clear hb1)
    | fail)
  refine (TagF_of (key := key1) (l := text1) rfl r1_fit s1_fit New_1 (bs1 w1 m) (by decide)).mono ?_
  rintro e w2 ⟨he, hb2⟩
  rw [tag1_is] at he
  subst he
  have hs1 := Hb1.out.size
  have hsz : ((w1.alloc (.cells #[Value.int .u8 67, Value.int .u8 114, Value.int .u8 121, Value.int .u8 112, Value.int .u8 116, Value.int .u8 111, Value.int .u8 103, Value.int .u8 114, Value.int .u8 97, Value.int .u8 112, Value.int .u8 104, Value.int .u8 105, Value.int .u8 99, Value.int .u8 32, Value.int .u8 70, Value.int .u8 111, Value.int .u8 114, Value.int .u8 117, Value.int .u8 109, Value.int .u8 32, Value.int .u8 82, Value.int .u8 101, Value.int .u8 115, Value.int .u8 101, Value.int .u8 97, Value.int .u8 114, Value.int .u8 99, Value.int .u8 104, Value.int .u8 32, Value.int .u8 71, Value.int .u8 114, Value.int .u8 111, Value.int .u8 117, Value.int .u8 112] 5)).freeze ⟨w1.heap.size, m, none⟩ 1).heap.size = w1.heap.size + 1 := by
    unfold World.freeze
    split <;> simp
  have Hb2 := Lib.hid (nextB (below_frozen (Hb1.out.alloc hs1 _) (p := ⟨w1.heap.size, m, none⟩) hs1 1) (Nat.le_refl _) hb2)
  clear hb2 hcv hsz hs1
  go_wp2_with (first
    | (refine wpList_plain rfl (fun _ hK => wp_eqArr _ _ rfl (by kernel_rfl) rfl rfl (run_eql_arr8 (P := Try.prog) Try.underlying35 Try.underlying5 (by kernel_rfl) tag1 tag1 rfl rfl _) (hK _ _ ?_)))
    | fail)
  go_ret
  exact ⟨by simp, Hb2.out⟩
end Pol
end Go.Proofs.Ytpllbnioncjhaaa
