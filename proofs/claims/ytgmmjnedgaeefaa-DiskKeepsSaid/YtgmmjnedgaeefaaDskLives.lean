/- disk: the chapter's examples, as every law asks for them first. -/
import Derived.Test.YtgmmjnedgaeefaaDskAppend
import Derived.Test.YtgmmjnedgaeefaaDskRead
import Derived.Test.YtgmmjnedgaeefaaDskCrash
namespace Go.Proofs.Ytgmmjnedgaeefaa.Dsk
open Go.RowKit Go.Maps Go.Sort Go.Shelf
theorem ok_a : okName [97] = true := by kernel_rfl
theorem ok_b : okName [98] = true := by kernel_rfl
theorem cell_freeze (w : World) (p q : Addr) (n : Nat) : (w.freeze p n).cell? q = w.cell? q := by
  unfold World.freeze
  split
  · rfl
  · unfold World.cell?
    by_cases hb : p.block = q.block
    · simp only [Array.getElem?_modify, if_pos hb]
      cases w.heap[q.block]? with
      | none => rfl
      | some o => cases o <;> rfl
    · simp only [Array.getElem?_modify, if_neg hb]
theorem below_frozen {B : Nat} {w w1 : World} (h : Below B w w1) {p : Addr} (hp : B ≤ p.block) (n : Nat) : Below B w (w1.freeze p n) := by
  refine h.trans ?_
  unfold World.freeze
  split
  · exact Below.refl _ _
  · refine ⟨rfl, rfl, rfl, by simp, fun k hk => ?_⟩
    simp only [Array.getElem?_modify]
    rw [if_neg (by omega)]
/-- '[]byte("..")' of a constant: a new row that nobody writes. -/
theorem lit_bytes {w : World} {B : Nat} {L : Lab} {p : Nat} {d : Dk} (h : At w B L p d) (l : List UInt8) (n : Nat) (hn : l.length = n) (h0 : 0 < n) (o : Obj) (ho : o = .cells (l.map bv).toArray 5) :
    ∃ W, (convert 27 27 (.slice (some ⟨w.heap.size, 0, none⟩) n n)).run Try.prog (w.alloc o) = .ok (.slice (some ⟨w.heap.size, 0, none⟩) n n) W ∧
      At W B L p d ∧ Bs W W.heap.size (.slice (some ⟨w.heap.size, 0, none⟩) n n) l ∧ Free L (.slice (some ⟨w.heap.size, 0, none⟩) n n) ∧ Step L L w W := by
  subst ho hn
  have hr : Row (w.alloc (.cells (l.map bv).toArray 5)) w.heap.size (l.map bv) 5 := Row.new rfl rfl
  obtain ⟨u, r, hl⟩ : ∃ u r, l = u :: r := by
    cases l with
    | nil => simp at h0
    | cons u r => exact ⟨u, r, rfl⟩
  obtain ⟨e, m, hs, _⟩ := World.shape?_of_cell? (hr.cell (i := 0) (v := bv u) (by rw [hl]; rfl))
  have hb : Below w.heap.size w ((w.alloc (.cells (l.map bv).toArray 5)).freeze ⟨w.heap.size, m, none⟩ 1) := below_frozen (p := ⟨w.heap.size, m, none⟩) ((Below.refl _ w).alloc (Nat.le_refl _) _) (Nat.le_refl _) 1
  refine ⟨(w.alloc (.cells (l.map bv).toArray 5)).freeze ⟨w.heap.size, m, none⟩ 1, by simp [convert, run_underlying Try.underlying27, run_underlying Try.underlying5, Ev.mark_run hs], h.new hb, ?_, fun b hb' => ?_, Step.new hb⟩
  · have hbs : Bs (w.alloc (.cells (l.map bv).toArray 5)) (w.heap.size + 1) (.slice (some ⟨w.heap.size, 0, none⟩) l.length l.length) l := hr.bs (by omega)
    exact (hbs.keep fun b o _ => cell_freeze _ _ _ _).more (by unfold World.freeze; split <;> simp)
  · cases hb'
    cases hL : L w.heap.size with
    | none => rfl
    | some x => have := (h.lab w.heap.size (by rw [hL]; simp)).2; omega
def d0 : Dk := ⟨[], 100, false, -1⟩
def d1 : Dk := ⟨[([97], ⟨[], [120, 121], false⟩)], 98, false, -1⟩
def d2 : Dk := ⟨[([97], ⟨[120, 121], [], true⟩)], 98, false, -1⟩
def d3 : Dk := ⟨[([97], ⟨[120, 121], [122], true⟩)], 97, false, -1⟩
theorem to_d1 : appD (okName [97]) d0 [97] [120, 121] = d1 ∧ appE (okName [97]) d0 [120, 121] = 0 := by rw [ok_a]; exact ⟨rfl, rfl⟩
theorem to_d2 : synD (okName [97]) d1 [97] = d2 ∧ synE (okName [97]) d1 [97] = 0 := by rw [ok_a]; exact ⟨rfl, rfl⟩
theorem to_d3 : appD (okName [97]) d2 [97] [122] = d3 ∧ appE (okName [97]) d2 [122] = 0 := by rw [ok_a]; exact ⟨rfl, rfl⟩
theorem names_one (s : Name) (F : Fil) : names [(s, F)] = [s] := by simp [names, keys]
theorem to_d4 : crashD d3 [] = d2 := by
  unfold crashD
  rw [show d3.files = [([97], ⟨[120, 121], [122], true⟩)] from rfl, names_one]
  rfl
theorem isF_nil (w : World) (L : Lab) (A : Option Addr) (c : Nat) : IsF w L (.slice A 0 c) [] := ⟨A, c, rfl, Nat.zero_le _, fun h => absurd rfl h⟩
set_option maxRecDepth 100000 in
set_option maxHeartbeats 4000000 in
theorem lives_any (w : World) : Calls Try.prog 13 #[] w fun e w' => e = .returned (.bool true) ∧ Below w.heap.size w w' := by
  go_enter Try.func13, Try.ntmps13
  go_wp2_with (first
    | (go_at_call 8; refine (New_ok 100 (by decide) (by decide) _).mono ?_; rintro e w1 ⟨rfl, hat, hb⟩
       obtain ⟨W1, hc1, hl⟩ := lit_bytes hat [120, 121] 2 rfl (by decide) (.cells #[.int .u8 120, .int .u8 121] 5) rfl
       have H1 := Lib.hid hl; have A1 := Lib.hid hat; have HB1 := Lib.hid hb; clear hat hb hl; unfold pv)
    | (go_at_call 9
       have hl := H1.out
       refine (Append_at hl.1 [97] (by decide) (by decide) (by decide) (by decide) (by decide) _ [120, 121] hl.2.1 hl.2.2.1).mono ?_
       rintro e w2 ⟨rfl, L2, hat, hst⟩
       rw [show appE (okName [97]) (⟨[], 100, false, -1⟩ : Dk) [120, 121] = 0 from to_d1.2]
       have H2 := Lib.hid (show At w2 w.heap.size L2 (w.heap.size + 1) d1 from to_d1.1 ▸ hat)
       have S2 := Lib.hid (hl.2.2.2.trans hst)
       clear hat hst hl H1 hc1)
    | (go_at_call 10
       refine (Sync_at H2.out [97] (by decide) (by decide) (by decide)).mono ?_
       rintro e w3 ⟨rfl, L3, hat, hst⟩
       rw [to_d2.2]
       obtain ⟨W3, hc3, hl⟩ := lit_bytes (show At w3 w.heap.size L3 (w.heap.size + 1) d2 from to_d2.1 ▸ hat) [122] 1 rfl (by decide) (.cells #[.int .u8 122] 5) rfl
       have H3 := Lib.hid hl
       have S3 := Lib.hid (S2.out.trans hst)
       clear hat hst H2 S2 hl)
    | (go_at_call 9
       have hl := H3.out
       refine (Append_at hl.1 [97] (by decide) (by decide) (by decide) (by decide) (by decide) _ [122] hl.2.1 hl.2.2.1).mono ?_
       rintro e w4 ⟨rfl, L4, hat, hst⟩
       rw [to_d3.2]
       have H4 := Lib.hid (show At w4 w.heap.size L4 (w.heap.size + 1) d3 from to_d3.1 ▸ hat)
       have S4 := Lib.hid (S3.out.trans (hl.2.2.2.trans hst))
       clear hat hst hl H3 S3 hc3)
    | (go_at_call 11
       refine (Crash_at H4.out (by decide) (by decide) (by decide) (by decide) _ [] (isF_nil _ _ _ _)).mono ?_
       rintro e w5 ⟨rfl, L5, hat, hst⟩
       have H5 := Lib.hid (show At w5 w.heap.size L5 (w.heap.size + 1) d2 from to_d4 ▸ hat)
       have S5 := Lib.hid (S4.out.trans hst)
       clear hat hst H4 S4)
    | (go_at_call 12
       refine (Read_ok H5.out [97] (by decide) (by decide) (F := ⟨[120, 121], [], true⟩) rfl).mono ?_
       rintro e w6 ⟨v, rfl, hbs, hb⟩
       obtain ⟨A6, c6, rfl, _, _⟩ := id hbs
       have H6 := Lib.hid (H5.out.new hb)
       have S6 := Lib.hid (S5.out.trans (Step.new hb))
       have HBS := Lib.hid hbs
       have hstr : (convert 27 9 (.slice A6 (Fil.all ⟨[120, 121], [], true⟩).length c6)).run Try.prog w6 = .ok (.string { data := #[120, 121] }) w6 := run_str w6 hbs
       clear hbs hb H5 S5)
    | (go_at_call 17; refine (On_at H6.out).mono ?_; rintro e w' ⟨rfl, rfl⟩)
    | (go_at_call 21; refine (Left_at H6.out).mono ?_; rintro e w' ⟨rfl, rfl⟩)
    | fail)
  go_ret
  exact ⟨rfl, HB1.out.trans (S6.out.below A1.out)⟩
end Go.Proofs.Ytgmmjnedgaeefaa.Dsk
