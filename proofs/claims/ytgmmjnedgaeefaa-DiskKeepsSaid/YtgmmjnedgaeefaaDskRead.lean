/- disk: Read. -/
import Derived.Test.YtgmmjnedgaeefaaDskWrite
import Derived.Test.YtgmmjnedgaeefaaDskConcat
namespace Go.Proofs.Ytgmmjnedgaeefaa.Dsk
open Go.RowKit Go.Maps Go.Sort Go.Shelf
theorem Bs.there {w : World} {B : Nat} {v : Value} {l : List UInt8} (h : Bs w B v l) {w' : World} (hb : Below B w w') (hB : B ≤ w'.heap.size) : Bs w' w'.heap.size v l := (h.below hb).more hB
theorem bss_two {w : World} {vs vf : Value} {l1 l2 : List UInt8} (h1 : Bs w w.heap.size vs l1) (h2 : Bs w w.heap.size vf l2) :
    Bss (w.alloc (.cells #[vs, vf] 27)) (w.alloc (.cells #[vs, vf] 27)).heap.size (.slice (some ⟨w.heap.size, 0, none⟩) 2 2) [l1, l2] := by
  have hr : Row (w.alloc (.cells #[vs, vf] 27)) w.heap.size [vs, vf] 27 := Row.new rfl rfl
  have hb : Below w.heap.size w (w.alloc (.cells #[vs, vf] 27)) := (Below.refl _ w).alloc (Nat.le_refl _) _
  refine ⟨_, 2, rfl, by simp, fun _ => ⟨w.heap.size, 0, rfl, by simp, fun i l hl => ?_⟩⟩
  match i, hl with
  | 0, hl => cases hl; exact ⟨vs, hr.cell rfl, (h1.below hb).more (by simp)⟩
  | 1, hl => cases hl; exact ⟨vf, hr.cell rfl, (h2.below hb).more (by simp)⟩
  | k + 2, hl => simp at hl
theorem bss_one {w : World} {vs : Value} {l1 : List UInt8} (h1 : Bs w w.heap.size vs l1) :
    Bss (w.alloc (.cells #[vs] 27)) (w.alloc (.cells #[vs] 27)).heap.size (.slice (some ⟨w.heap.size, 0, none⟩) 1 1) [l1] := by
  have hr : Row (w.alloc (.cells #[vs] 27)) w.heap.size [vs] 27 := Row.new rfl rfl
  have hb : Below w.heap.size w (w.alloc (.cells #[vs] 27)) := (Below.refl _ w).alloc (Nat.le_refl _) _
  refine ⟨_, 1, rfl, by simp, fun _ => ⟨w.heap.size, 0, rfl, by simp, fun i l hl => ?_⟩⟩
  match i, hl with
  | 0, hl => cases hl; exact ⟨vs, hr.cell rfl, (h1.below hb).more (by simp)⟩
  | k + 1, hl => simp at hl
section
variable {w : World} {B : Nat} {L : Lab} {p : Nat} {d : Dk}
set_option maxRecDepth 100000 in
theorem Read_no (h : At w B L p d) (s : Name) (hs : s.length ≤ maxLen) (hl : look d.files s = none) : Calls Try.prog 12 #[pv p, sv s] w fun e w' => e = .returned (.tuple #[.slice none 0 0, .int .i64 6]) ∧ w = w' := by
  obtain ⟨m, D, hr, _, _, hrun, _⟩ := h.miss hs hl
  have c0 : w.cell? ⟨p, 0, none⟩ = some (.map (some m)) := hr.cell rfl
  have Hr := Lib.hid hr
  clear hr h hl
  unfold sv pv at *
  go_enter Try.func12, Try.ntmps12
  go_wp2_with (go_at_call 28; refine (valid_row Hr.out).mono ?_; rintro e w' ⟨rfl, rfl⟩)
  go_ret2
  exact ⟨rfl, rfl⟩
set_option maxRecDepth 100000 in
set_option maxHeartbeats 1000000 in
theorem Read_ok (h : At w B L p d) (s : Name) (hs : s.length ≤ maxLen) (ht : total d.files ≤ 100000000) {F : Fil} (hl : look d.files s = some F) :
    Calls Try.prog 12 #[pv p, sv s] w fun e w' => ∃ v, e = .returned (.tuple #[v, .int .i64 0]) ∧ Bs w' w'.heap.size v F.all ∧ Below w.heap.size w w' := by
  obtain ⟨m, D, g, vs, vf, G⟩ := h.got hs hl ht
  have c0 : w.cell? ⟨p, 0, none⟩ = some (.map (some m)) := G.row.cell rfl
  have c1 : w.cell? ⟨g, 0, none⟩ = some vs := G.frow.row.cell rfl
  have c2 : w.cell? ⟨g, 1, none⟩ = some vf := G.frow.row.cell rfl
  obtain ⟨A1, n1, e1⟩ := G.frow.safe.shape
  obtain ⟨A2, n2, e2⟩ := G.frow.fresh.shape
  subst e1 e2
  have hrun : (Instr.lookup 56 (.map (some m)) (sv s) true).run Try.prog w = .ok (.tuple #[.pointer (some ⟨g, 0, none⟩), .bool true]) w := G.run2 hs
  have HG := Lib.hid G
  have hbss := bss_two (w := w.drew) G.frow.safe.bs G.frow.fresh.bs
  have Hbss := Lib.hid hbss
  have Hlen : Hid (([F.safe, F.fresh] : List (List UInt8)).flatten.length ≤ 100000000) := by
    have h1 := mem_total (look_some hl)
    have h2 : ([F.safe, F.fresh] : List (List UInt8)).flatten.length ≤ 100000000 := by
      simp only [List.flatten_cons, List.flatten_nil, List.append_nil, List.length_append]
      simp only [Fil.all, List.length_append] at h1
      omega
    exact h2
  clear G h hl hbss
  unfold sv pv at *
  go_enter Try.func12, Try.ntmps12
  go_wp2_with (first
    | (go_at_call 28; refine (valid_row HG.out.row).mono ?_; rintro e w' ⟨rfl, rfl⟩)
    | fail)
  go_region_with (go_at_call 31; refine (Concat_any _ [F.safe, F.fresh] _ Hbss.out (by simp) Hlen.out).mono ?_; rintro e w2 ⟨v, rfl, hb, hbe⟩; obtain ⟨A3, c3, rfl, _, _⟩ := id hb; have HB := Lib.hid hb; have HBe := Lib.hid hbe; clear hb hbe)
  all_goals
    go_wp2
    go_ret2
    have hx := HB.out
    simp only [List.flatten_cons, List.flatten_nil, List.append_nil, List.length_append] at hx
    refine ⟨.slice A3 (F.safe.length + F.fresh.length) c3, rfl, hx, (((Below.refl w.heap.size w).drew).alloc (by simp) _).trans (HBe.out.mono (by simp))⟩
end
end Go.Proofs.Ytgmmjnedgaeefaa.Dsk
