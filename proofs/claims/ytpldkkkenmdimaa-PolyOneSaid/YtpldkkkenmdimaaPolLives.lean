/- The chapter's example: 'lives', in every world. -/
import Derived.Test.YtpldkkkenmdimaaPolNew
import Derived.Test.YtpldkkkenmdimaaPolWrite
import Derived.Test.YtpldkkkenmdimaaEqArr
namespace Go.Proofs.Ytpldkkkenmdimaa
open Go.RowKit
namespace Pol
open Poly (L)
def finL (r : L) (l : List UInt8) : L := if 0 < l.length % 16 then Poly.next (sumL r l) r (Poly.le (l.drop (16 * (l.length / 16))) + 256 ^ (l.length % 16)) else sumL r l
def tagL (r s : L) (l : List UInt8) : List UInt8 := Poly.bytes16 (Poly.val (Poly.red (finL r l)) + Poly.val s)
theorem MTag_any {w : World} {g : Nat} {r s : L} {l : List UInt8} (hr : Poly.Fit r) (hs : Poly.Fit s) (h : MacAt w g r s l) (hsz : l.length < 4611686018427387904) :
    Calls Try.prog 40 #[.pointer (some ⟨g, 0, none⟩)] w fun e w1 => e = .returned (arr8 (tagL r s l)) ∧ Below w.heap.size w w1 := by
  obtain ⟨rest, h1, h2, h3⟩ := h
  by_cases h0 : l.length % 16 = 0
  · have := MTag_zero h1 (sumN_loose hr l _) hr hs hsz h3 h0
    have e : fin r (sumN r l (l.length / 16)) rest l.length = finL r l := by unfold fin finL sumL; rw [if_neg (by omega), if_neg (by omega)]
    rw [e] at this
    exact this
  · have := MTag_some h1 (sumN_loose hr l _) hr hs hsz h3 (by omega)
    have e : fin r (sumN r l (l.length / 16)) rest l.length = finL r l := by unfold fin finL sumL; rw [if_pos (by omega), if_pos (by omega), h2]
    rw [e] at this
    exact this
theorem Rest.of_bs {w w1 : World} {g : Nat} {v : Value} {b : List UInt8} (h : Bs w w.heap.size v b) (hb : Below w.heap.size w w1) (hg : w.heap.size ≤ g) : Rest w1 g v b := by
  obtain ⟨A, c, rfl, hc, hcs⟩ := h
  refine ⟨A, c, rfl, hc, fun hne => ?_⟩
  obtain ⟨k, off, rfl, hk, hcell⟩ := hcs hne
  exact ⟨k, off, rfl, by omega, by have := hb.size; omega, fun i u hu => (hb.cell (p := ⟨k, off + i, none⟩) hk).trans (hcell i u hu)⟩
set_option maxRecDepth 100000
def key1 : List UInt8 := [133, 214, 190, 120, 87, 85, 109, 51, 127, 68, 82, 254, 66, 213, 6, 168, 1, 3, 128, 138, 251, 13, 178, 253, 74, 191, 246, 175, 65, 73, 245, 27]
def text1 : List UInt8 := [67, 114, 121, 112, 116, 111, 103, 114, 97, 112, 104, 105, 99, 32, 70, 111, 114, 117, 109, 32, 82, 101, 115, 101, 97, 114, 99, 104, 32, 71, 114, 111, 117, 112]
def tag1 : List UInt8 := [168, 6, 29, 193, 48, 81, 54, 198, 194, 43, 139, 175, 12, 1, 39, 169]
def r1 : L := ⟨12506757, 55923970, 4702262, 16791881, 526037⟩
def s1 : L := ⟨41943809, 8617698, 66367451, 17219546, 1832265⟩
theorem r1_fit : Poly.Fit r1 := by unfold r1 Poly.Fit; decide
theorem s1_fit : Poly.Fit s1 := by unfold s1 Poly.Fit; decide
theorem New_ev1 : Ev.ansBlk Try.prog 2000 38 #[arr8 key1] [] = some ⟨macCells r1 s1 zeroL (List.replicate 16 0) 0, 79, 0⟩ := by kernel_rfl
theorem New_1 (w : World) : Calls Try.prog 38 #[arr8 key1] w fun e w1 => ∃ g, e = .returned (.pointer (some ⟨g, 0, none⟩)) ∧ w.heap.size ≤ g ∧ Row w1 g (macCells r1 s1 zeroL (List.replicate 16 0) 0) 79 ∧ Below w.heap.size w w1 :=
  Ev.calls_blk (l := []) mixed (by decide) (by simp) (by simp) (flat_args rfl) New_ev1 rfl rfl
theorem tag1_is : tagL r1 s1 text1 = tag1 := by decide +kernel
theorem first_ev : Ev.ans Try.prog 2000 37 #[] [] = some (arr8 key1) := by kernel_rfl
theorem first_any (w : World) : Calls Try.prog 37 #[] w fun e w1 => e = .returned (arr8 key1) ∧ Below w.heap.size w w1 :=
  Ev.calls_ans (l := []) mixed (by decide) (by simp) (by simp) (flat_args rfl) first_ev rfl
theorem keep_below {w w1 : World} {K : Nat → Prop} {lo : Nat} (h : Ev.Keep ⟨w, K⟩ w1) (hK : ∀ k, K k → lo ≤ k) (hlo : lo ≤ w.heap.size) : Below lo w w1 :=
  ⟨h.os, h.tape, h.output, h.size, fun k hk => h.block k fun e => by
    rcases e with e | e
    · have e' : w.heap.size ≤ k := e
      omega
    · have := hK k e
      omega⟩
/-- The tag of these bytes, by the mac that New made. -/
theorem TagF_of {key : List UInt8} {r s : L} (hk : key.length = 32) (hr : Poly.Fit r) (hs : Poly.Fit s)
    (hnew : ∀ w, Calls Try.prog 38 #[arr8 key] w fun e w1 => ∃ g, e = .returned (.pointer (some ⟨g, 0, none⟩)) ∧ w.heap.size ≤ g ∧ Row w1 g (macCells r s zeroL (List.replicate 16 0) 0) 79 ∧ Below w.heap.size w w1)
    {w : World} {v : Value} {l : List UInt8} (hv : Bs w w.heap.size v l) (hl : l.length < 4611686018427387904) :
    Calls Try.prog 15 #[.agg (key.map bv).toArray, v] w fun e w1 => e = .returned (arr8 (tagL r s l)) ∧ Below w.heap.size w w1 := by
  have Hv := Lib.hid hv
  have Hl := Lib.hid hl
  have Hk := Lib.hid (show (key.map bv).length = 32 by rw [List.length_map]; exact hk)
  clear hv hl hk
  go_enter Try.func15, Try.ntmps15
  go_wp2_with (first
    | (refine wpList_loadRow (n := 32) (cs := key.map bv) rfl 24 _ rfl rfl ((Row.new rfl rfl).alloc _) Try.underlying24 rfl (by kernel_rfl) Hk.out ?_)
    | fail)
  obtain ⟨W, hW⟩ : ∃ W, (w.alloc (.cells (key.map bv).toArray 24)).alloc (.cells ((List.replicate 16 (0 : UInt8)).map bv).toArray 35) = W := ⟨_, rfl⟩
  have hWb : Below w.heap.size w W := hW ▸ ((Below.refl _ w).alloc (Nat.le_refl _) _).alloc (by simp) _
  have hWs : W.heap.size = w.heap.size + 2 := by rw [← hW]; simp
  have hWr : Row W (w.heap.size + 1) ((List.replicate 16 (0 : UInt8)).map bv) 35 := hW ▸ Row.new (by simp) rfl
  have hWv : Bs W W.heap.size v l := (hW ▸ ((Hv.out.alloc (Nat.le_refl _) _).alloc (by simp) _) : Bs W w.heap.size v l).more (by omega)
  show Calls _ _ _ ((w.alloc (.cells (key.map bv).toArray 24)).alloc (.cells ((List.replicate 16 (0 : UInt8)).map bv).toArray 35)) _
  rw [hW]
  clear hW
  refine (hnew W).mono ?_
  rintro e w1 ⟨g, rfl, hg, hrow, hb1⟩
  have hr1 := hWr.below hb1 (by omega)
  have hrest := Rest.of_bs hWv hb1 hg
  have hlo1 : w.heap.size ≤ w1.heap.size := by have := hb1.size; omega
  have hb01 := nextB hWb (Nat.le_refl _) hb1
  have Hrow := Lib.hid hrow
  have Hrest := Lib.hid hrest
  have Hr1 := Lib.hid hr1
  have Hb01 := Lib.hid hb01
  have Hg := Lib.hid (show w.heap.size + 2 ≤ g by omega)
  have Hlo1 := Lib.hid hlo1
  clear hrow hrest hr1 hb01 hWr hWv hWb hWs hb1 hg hlo1
  go_wp2_with fail
  refine (Write_any (l := []) hr (MacAt.new Hrow.out) Hrest.out (by have := Hl.out; simpa using this)).mono ?_
  rintro e w2 ⟨rfl, hm2, hk2⟩
  have hr2 : Row w2 (w.heap.size + 1) ((List.replicate 16 (0 : UInt8)).map bv) 35 := (hk2.block (w.heap.size + 1) (by
    have h1 := Hr1.out.lt
    have h2 := Hg.out
    rintro (e | e)
    · have e' : w1.heap.size ≤ w.heap.size + 1 := e
      omega
    · have e' : w.heap.size + 1 = g := e
      omega)).trans Hr1.out
  have hb02 := Hb01.out.trans (keep_below hk2 (lo := w.heap.size) (by rintro k rfl; have := Hg.out; omega) Hlo1.out)
  have Hm2 := Lib.hid hm2
  have Hr2 := Lib.hid hr2
  have Hb02 := Lib.hid hb02
  clear hm2 hr2 hb02 hk2
  go_wp2_with fail
  refine (MTag_any hr hs Hm2.out (by simpa using Hl.out)).mono ?_
  rintro e w3 ⟨rfl, hb3⟩
  have Hr3 := Lib.hid (Hr2.out.below hb3 Hr2.out.lt)
  have Hb03 := Lib.hid (nextB Hb02.out (Nat.le_refl _) hb3)
  rw [List.nil_append]
  clear hb3
  go_wp2_with (first
    | (refine wpList_storeRow (n := 16) rfl 35 _ _ rfl rfl rfl (cs := (tagL r s l).map bv) (old := (List.replicate 16 (0 : UInt8)).map bv) Hr3.out (by kernel_rfl) (by simp [tagL, Poly.bytes16_length]) (by simp) (bytes1 _) ?_)
    | fail)
  refine bodyPost_ret (results_row rfl _ rfl (Hr3.out.setRow _) Try.underlying35 rfl (by kernel_rfl) (n := 16) (by simp [tagL, Poly.bytes16_length])) rfl ?_
  exact ⟨rfl, below_setRow Hb03.out (by omega) _⟩
theorem cell_freeze (w : World) (p q : Addr) (n : Nat) : (w.freeze p n).cell? q = w.cell? q := by
  unfold World.freeze
  split
  · rfl
  · unfold World.cell?
    by_cases hb : p.block = q.block
    · simp only [Array.getElem?_modify, if_pos hb]
      cases w.heap[q.block]? with
      | none => rfl
      | some o => cases o <;> rfl
    · simp only [Array.getElem?_modify, if_neg hb]
theorem below_frozen {B : Nat} {w w1 : World} (h : Below B w w1) {p : Addr} (hp : B ≤ p.block) (n : Nat) : Below B w (w1.freeze p n) := by
  refine h.trans ?_
  unfold World.freeze
  split
  · exact Below.refl _ _
  · refine ⟨rfl, rfl, rfl, by simp, fun k hk => ?_⟩
    simp only [Array.getElem?_modify]
    rw [if_neg (by omega)]
theorem conv1 (w : World) : ∃ m, (convert 34 34 (.slice (some ⟨w.heap.size, 0, none⟩) 34 34)).run Try.prog (w.alloc (.cells #[Value.int .u8 67, Value.int .u8 114, Value.int .u8 121, Value.int .u8 112, Value.int .u8 116, Value.int .u8 111, Value.int .u8 103, Value.int .u8 114, Value.int .u8 97, Value.int .u8 112, Value.int .u8 104, Value.int .u8 105, Value.int .u8 99, Value.int .u8 32, Value.int .u8 70, Value.int .u8 111, Value.int .u8 114, Value.int .u8 117, Value.int .u8 109, Value.int .u8 32, Value.int .u8 82, Value.int .u8 101, Value.int .u8 115, Value.int .u8 101, Value.int .u8 97, Value.int .u8 114, Value.int .u8 99, Value.int .u8 104, Value.int .u8 32, Value.int .u8 71, Value.int .u8 114, Value.int .u8 111, Value.int .u8 117, Value.int .u8 112] 5)) = .ok (.slice (some ⟨w.heap.size, 0, none⟩) 34 34) ((w.alloc (.cells #[Value.int .u8 67, Value.int .u8 114, Value.int .u8 121, Value.int .u8 112, Value.int .u8 116, Value.int .u8 111, Value.int .u8 103, Value.int .u8 114, Value.int .u8 97, Value.int .u8 112, Value.int .u8 104, Value.int .u8 105, Value.int .u8 99, Value.int .u8 32, Value.int .u8 70, Value.int .u8 111, Value.int .u8 114, Value.int .u8 117, Value.int .u8 109, Value.int .u8 32, Value.int .u8 82, Value.int .u8 101, Value.int .u8 115, Value.int .u8 101, Value.int .u8 97, Value.int .u8 114, Value.int .u8 99, Value.int .u8 104, Value.int .u8 32, Value.int .u8 71, Value.int .u8 114, Value.int .u8 111, Value.int .u8 117, Value.int .u8 112] 5)).freeze ⟨w.heap.size, m, none⟩ 1) := by
  obtain ⟨e, m, hs, _⟩ := World.shape?_of_cell? (Row.cell (w := w.alloc (.cells #[Value.int .u8 67, Value.int .u8 114, Value.int .u8 121, Value.int .u8 112, Value.int .u8 116, Value.int .u8 111, Value.int .u8 103, Value.int .u8 114, Value.int .u8 97, Value.int .u8 112, Value.int .u8 104, Value.int .u8 105, Value.int .u8 99, Value.int .u8 32, Value.int .u8 70, Value.int .u8 111, Value.int .u8 114, Value.int .u8 117, Value.int .u8 109, Value.int .u8 32, Value.int .u8 82, Value.int .u8 101, Value.int .u8 115, Value.int .u8 101, Value.int .u8 97, Value.int .u8 114, Value.int .u8 99, Value.int .u8 104, Value.int .u8 32, Value.int .u8 71, Value.int .u8 114, Value.int .u8 111, Value.int .u8 117, Value.int .u8 112] 5)) (g := w.heap.size) (cs := text1.map bv) (t := 5) (Row.new rfl rfl) (i := 0) rfl)
  refine ⟨m, ?_⟩
  simp [convert, run_underlying Try.underlying34, run_underlying Try.underlying5, Ev.mark_run hs]
theorem bs1 (w : World) (m : Nat) : Bs ((w.alloc (.cells #[Value.int .u8 67, Value.int .u8 114, Value.int .u8 121, Value.int .u8 112, Value.int .u8 116, Value.int .u8 111, Value.int .u8 103, Value.int .u8 114, Value.int .u8 97, Value.int .u8 112, Value.int .u8 104, Value.int .u8 105, Value.int .u8 99, Value.int .u8 32, Value.int .u8 70, Value.int .u8 111, Value.int .u8 114, Value.int .u8 117, Value.int .u8 109, Value.int .u8 32, Value.int .u8 82, Value.int .u8 101, Value.int .u8 115, Value.int .u8 101, Value.int .u8 97, Value.int .u8 114, Value.int .u8 99, Value.int .u8 104, Value.int .u8 32, Value.int .u8 71, Value.int .u8 114, Value.int .u8 111, Value.int .u8 117, Value.int .u8 112] 5)).freeze ⟨w.heap.size, m, none⟩ 1) ((w.alloc (.cells #[Value.int .u8 67, Value.int .u8 114, Value.int .u8 121, Value.int .u8 112, Value.int .u8 116, Value.int .u8 111, Value.int .u8 103, Value.int .u8 114, Value.int .u8 97, Value.int .u8 112, Value.int .u8 104, Value.int .u8 105, Value.int .u8 99, Value.int .u8 32, Value.int .u8 70, Value.int .u8 111, Value.int .u8 114, Value.int .u8 117, Value.int .u8 109, Value.int .u8 32, Value.int .u8 82, Value.int .u8 101, Value.int .u8 115, Value.int .u8 101, Value.int .u8 97, Value.int .u8 114, Value.int .u8 99, Value.int .u8 104, Value.int .u8 32, Value.int .u8 71, Value.int .u8 114, Value.int .u8 111, Value.int .u8 117, Value.int .u8 112] 5)).freeze ⟨w.heap.size, m, none⟩ 1).heap.size (.slice (some ⟨w.heap.size, 0, none⟩) 34 34) text1 := by
  have h : Bs (w.alloc (.cells #[Value.int .u8 67, Value.int .u8 114, Value.int .u8 121, Value.int .u8 112, Value.int .u8 116, Value.int .u8 111, Value.int .u8 103, Value.int .u8 114, Value.int .u8 97, Value.int .u8 112, Value.int .u8 104, Value.int .u8 105, Value.int .u8 99, Value.int .u8 32, Value.int .u8 70, Value.int .u8 111, Value.int .u8 114, Value.int .u8 117, Value.int .u8 109, Value.int .u8 32, Value.int .u8 82, Value.int .u8 101, Value.int .u8 115, Value.int .u8 101, Value.int .u8 97, Value.int .u8 114, Value.int .u8 99, Value.int .u8 104, Value.int .u8 32, Value.int .u8 71, Value.int .u8 114, Value.int .u8 111, Value.int .u8 117, Value.int .u8 112] 5)) (w.heap.size + 1) (.slice (some ⟨w.heap.size, 0, none⟩) 34 34) text1 := Row.bs (l := text1) (t := 5) (Row.new rfl rfl) (by omega)
  refine (h.keep (w' := (w.alloc (.cells #[Value.int .u8 67, Value.int .u8 114, Value.int .u8 121, Value.int .u8 112, Value.int .u8 116, Value.int .u8 111, Value.int .u8 103, Value.int .u8 114, Value.int .u8 97, Value.int .u8 112, Value.int .u8 104, Value.int .u8 105, Value.int .u8 99, Value.int .u8 32, Value.int .u8 70, Value.int .u8 111, Value.int .u8 114, Value.int .u8 117, Value.int .u8 109, Value.int .u8 32, Value.int .u8 82, Value.int .u8 101, Value.int .u8 115, Value.int .u8 101, Value.int .u8 97, Value.int .u8 114, Value.int .u8 99, Value.int .u8 104, Value.int .u8 32, Value.int .u8 71, Value.int .u8 114, Value.int .u8 111, Value.int .u8 117, Value.int .u8 112] 5)).freeze ⟨w.heap.size, m, none⟩ 1) fun b o _ => cell_freeze _ _ _ _).more ?_
  unfold World.freeze
  split <;> simp
theorem lives_any (w : World) : Calls Try.prog 14 #[] w fun e w' => e = .returned (.bool true) ∧ Below w.heap.size w w' := by
  go_enter Try.func14, Try.ntmps14
  go_wp2_with (first
    | (go_at_call 37; refine (first_any _).mono ?_; rintro e w1 ⟨rfl, hb1⟩; obtain ⟨m, hcv⟩ := conv1 w1; have Hb1 := Lib.hid hb1; clear hb1)
    | fail)
  refine (TagF_of (key := key1) (l := text1) rfl r1_fit s1_fit New_1 (bs1 w1 m) (by decide)).mono ?_
  rintro e w2 ⟨he, hb2⟩
  rw [tag1_is] at he
  subst he
  have hs1 := Hb1.out.size
  have hsz : ((w1.alloc (.cells #[Value.int .u8 67, Value.int .u8 114, Value.int .u8 121, Value.int .u8 112, Value.int .u8 116, Value.int .u8 111, Value.int .u8 103, Value.int .u8 114, Value.int .u8 97, Value.int .u8 112, Value.int .u8 104, Value.int .u8 105, Value.int .u8 99, Value.int .u8 32, Value.int .u8 70, Value.int .u8 111, Value.int .u8 114, Value.int .u8 117, Value.int .u8 109, Value.int .u8 32, Value.int .u8 82, Value.int .u8 101, Value.int .u8 115, Value.int .u8 101, Value.int .u8 97, Value.int .u8 114, Value.int .u8 99, Value.int .u8 104, Value.int .u8 32, Value.int .u8 71, Value.int .u8 114, Value.int .u8 111, Value.int .u8 117, Value.int .u8 112] 5)).freeze ⟨w1.heap.size, m, none⟩ 1).heap.size = w1.heap.size + 1 := by
    unfold World.freeze
    split <;> simp
  have Hb2 := Lib.hid (nextB (below_frozen (Hb1.out.alloc hs1 _) (p := ⟨w1.heap.size, m, none⟩) hs1 1) (Nat.le_refl _) hb2)
  clear hb2 hcv hsz hs1
  go_wp2_with (first
    | (refine wpList_plain rfl (fun _ hK => wp_eqArr _ _ rfl (by kernel_rfl) rfl rfl (run_eql_arr8 (P := Try.prog) Try.underlying35 Try.underlying5 (by kernel_rfl) tag1 tag1 rfl rfl _) (hK _ _ ?_)))
    | fail)
  go_ret
  exact ⟨by simp, Hb2.out⟩
end Pol
end Go.Proofs.Ytpldkkkenmdimaa
