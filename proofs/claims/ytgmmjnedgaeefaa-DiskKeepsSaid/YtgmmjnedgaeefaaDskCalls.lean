/- disk: New, Left, On, Fuse, Size, Sync. -/
import Derived.Test.YtgmmjnedgaeefaaDskFile
namespace Go.Proofs.Ytgmmjnedgaeefaa.Dsk
open Go.RowKit Go.Maps Go.Sort Go.Shelf
def lab0 (m p : Nat) : Lab := fun b => if b = m then some (1, []) else if b = p then some (0, []) else none
theorem at_new {w : World} {room : Int} {w' : World} (hw : w' = (w.alloc (.map #[] 0)).alloc (.cells (drow w.heap.size ⟨[], room, false, -1⟩).toArray 58)) : At w' w.heap.size (lab0 w.heap.size (w.heap.size + 1)) (w.heap.size + 1) ⟨[], room, false, -1⟩ := by
  subst hw
  refine ⟨fun b hb => ?_, by simp [lab0], w.heap.size, .map [], by simp [lab0], Row.new (by simp) rfl, ?_, by simp [keys], fun s => ?_, fun s F h => by simp at h⟩
  · unfold lab0 at hb
    split at hb
    · subst b; simp; omega
    · split at hb
      · subst b; simp
      · simp at hb
  · exact (World.ownsMap_made w Try.prog 9 refElem).alloc _
  · simp [keys, Maps.has]
set_option maxRecDepth 100000 in
theorem New_ok (room : Int) (h0 : 0 ≤ room) (h1 : room ≤ 16777216) (w : World) : Calls Try.prog 8 #[.int .i64 room] w fun e w' => e = .returned (.tuple #[pv (w.heap.size + 1), .int .i64 0]) ∧ At w' w.heap.size (lab0 w.heap.size (w.heap.size + 1)) (w.heap.size + 1) ⟨[], room, false, -1⟩ ∧ Below w.heap.size w w' := by
  have h2 : ¬ room < 0 := by omega
  have h3 : ¬ 16777216 < room := by omega
  have h4 : ∀ W : World, (Instr.makeMap 56 none).run Try.prog W = .ok (.map (some W.heap.size)) (W.alloc (.map #[] 0)) := fun W => rfl
  go_enter Try.func8, Try.ntmps8
  go_wp2
  go_ret2
  exact ⟨rfl, at_new rfl, ((Below.refl _ w).alloc (Nat.le_refl _) _).alloc (by simp) _⟩
set_option maxRecDepth 100000 in
theorem New_no (room : Int) (h0 : room < 0 ∨ 16777216 < room) (w : World) : Calls Try.prog 8 #[.int .i64 room] w fun e w' => e = .returned (.tuple #[.pointer none, .int .i64 2]) ∧ w = w' := by
  rcases h0 with h0 | h0
  · go_enter Try.func8, Try.ntmps8
    go_wp2
    go_ret2
    exact ⟨rfl, rfl⟩
  · have h2 : ¬ room < 0 := by omega
    go_enter Try.func8, Try.ntmps8
    go_wp2
    go_ret2
    exact ⟨rfl, rfl⟩
section
variable {w : World} {B : Nat} {L : Lab} {p : Nat} {d : Dk}
set_option maxRecDepth 100000 in
theorem Left_at (h : At w B L p d) : Calls Try.prog 21 #[pv p] w fun e w' => e = .returned (.int .i64 d.left) ∧ w = w' := by
  obtain ⟨m, hr⟩ := h.cells
  have h1 : w.cell? ⟨p, 1, none⟩ = some (.int .i64 d.left) := hr.cell rfl
  have Hr := Lib.hid hr
  clear hr h
  unfold pv
  go_enter Try.func21, Try.ntmps21
  go_wp2_with (go_at_call 28; refine (valid_row Hr.out).mono ?_; rintro e w' ⟨rfl, rfl⟩)
  go_ret
  exact ⟨rfl, rfl⟩
set_option maxRecDepth 100000 in
theorem On_at (h : At w B L p d) : Calls Try.prog 17 #[pv p] w fun e w' => e = .returned (.bool (!d.off)) ∧ w = w' := by
  obtain ⟨m, hr⟩ := h.cells
  have h1 : w.cell? ⟨p, 2, none⟩ = some (.bool d.off) := hr.cell rfl
  have Hr := Lib.hid hr
  clear hr h
  unfold pv
  go_enter Try.func17, Try.ntmps17
  go_wp2_with (go_at_call 28; refine (valid_row Hr.out).mono ?_; rintro e w' ⟨rfl, rfl⟩)
  go_ret
  exact ⟨rfl, rfl⟩
set_option maxRecDepth 100000 in
theorem Fuse_at (h : At w B L p d) (n : Int) : Calls Try.prog 16 #[pv p, .int .i64 n] w fun e w' => e = .returned (.int .i64 0) ∧ At w' B L p { d with fuse := n } ∧ Step L L w w' := by
  have Hat := Lib.hid h
  obtain ⟨m, hr⟩ := h.cells
  have h1 : w.cell? ⟨p, 3, none⟩ = some (.int .i64 d.fuse) := hr.cell rfl
  have h2 : w.frozen? ⟨p, 3, none⟩ = false := frozen_row hr _
  have Hr := Lib.hid hr
  clear hr h
  unfold pv
  go_enter Try.func16, Try.ntmps16
  go_wp2_with (go_at_call 28; refine (valid_row Hr.out).mono ?_; rintro e w' ⟨rfl, rfl⟩)
  go_ret
  exact ⟨rfl, Hat.out.row (Keep.setCell w ⟨p, 3, none⟩ _) (fun m hm => hm.set 3 _) rfl, Hat.out.step (Keep.setCell w ⟨p, 3, none⟩ _)⟩
/-- What a look-up of a name's file answers. -/
theorem At.look (h : At w B L p d) {s : Name} (hs : s.length ≤ maxLen) : ∃ m D, Row w p (drow m d) 58 ∧ L m = some (1, []) ∧ Files w L m D d.files ∧
    ∃ v, (Instr.lookup 56 (.map (some m)) (sv s) true).run Try.prog w = .ok (.tuple #[v, .bool (decide (look d.files s ≠ none))]) w ∧ (Instr.lookup 56 (.map (some m)) (sv s) false).run Try.prog w = .ok v w ∧
      ((look d.files s = none ∧ v = .pointer none) ∨ ∃ F g, look d.files s = some F ∧ v = pv g ∧ D.atKey (.string s) .nil = .lit (.int .u64 (g : Int)) ∧ FileAt w L s g F) := by
  obtain ⟨h1, h2, m, D, h3, h4, h5⟩ := h
  refine ⟨m, D, h4, h3, h5, ?_⟩
  have hz : (zeroValue 59).run Try.prog w = .ok (.pointer none) w := by kernel_rfl
  obtain ⟨v, ps, hrun, hv⟩ := h5.map.look_ok law_str Try.underlying56 hz (zd := .nil) (zp := []) rfl (key_str hs)
  obtain ⟨v', ps', hrun', hv'⟩ := h5.map.lookup law_str Try.underlying56 hz (zd := .nil) (zp := []) rfl (key_str hs)
  cases hl : Dsk.look d.files s with
  | none =>
    obtain ⟨e1, e2⟩ := h5.gone hl
    rw [e1] at hv hv'
    rw [e2] at hrun
    have e3 := refElem_nil hv
    have e4 := refElem_nil hv'
    subst e3 e4
    exact ⟨_, by simpa using hrun, hrun', .inl ⟨rfl, rfl⟩⟩
  | some F =>
    obtain ⟨g, e1, e2, e3⟩ := h5.found hl
    rw [e1] at hv hv'
    rw [e2] at hrun
    have e4 := refElem_inv hv
    have e5 := refElem_inv hv'
    subst e4 e5
    exact ⟨_, by simpa using hrun, hrun', .inr ⟨F, g, rfl, rfl, e1, e3⟩⟩
theorem mem_total : ∀ {l : Fs} {s : Name} {F : Fil}, (s, F) ∈ l → F.all.length ≤ total l
  | x :: r, s, F, h => by
    rcases List.mem_cons.1 h with rfl | h
    · simp only [total]; omega
    · have := mem_total h
      simp only [total]; omega
/-- A file that was found. -/
structure Got (w : World) (L : Lab) (p m : Nat) (D : MD) (d : Dk) (s : Name) (F : Fil) (g : Nat) (vs vf : Value) : Prop where
  row : Row w p (drow m d) 58
  lm : L m = some (1, [])
  files : Files w L m D d.files
  found : Dsk.look d.files s = some F
  key : D.atKey (.string s) .nil = .lit (.int .u64 (g : Int))
  frow : FRow w g vs vf F
  lg : L g = some (2, s)
  ls : ∀ b, vs.ownBlock = some b → L b = some (3, s)
  lf : ∀ b, vf.ownBlock = some b → L b = some (4, s)
theorem Got.run2 {m : Nat} {D : MD} {s : Name} {F : Fil} {g : Nat} {vs vf : Value} (G : Got w L p m D d s F g vs vf) (hs : s.length ≤ maxLen) : (Instr.lookup 56 (.map (some m)) (sv s) true).run Try.prog w = .ok (.tuple #[pv g, .bool true]) w := by
  have hz : (zeroValue 59).run Try.prog w = .ok (.pointer none) w := by kernel_rfl
  obtain ⟨v, ps, hrun, hv⟩ := G.files.map.look_ok law_str Try.underlying56 hz (zd := .nil) (zp := []) rfl (key_str hs)
  rw [G.key] at hv
  have e := refElem_inv hv
  subst e
  rw [hrun, (G.files.has s).1 (look_key G.found)]
  rfl
theorem Got.run1 {m : Nat} {D : MD} {s : Name} {F : Fil} {g : Nat} {vs vf : Value} (G : Got w L p m D d s F g vs vf) (hs : s.length ≤ maxLen) : (Instr.lookup 56 (.map (some m)) (sv s) false).run Try.prog w = .ok (pv g) w := by
  have hz : (zeroValue 59).run Try.prog w = .ok (.pointer none) w := by kernel_rfl
  obtain ⟨v, ps, hrun, hv⟩ := G.files.map.lookup law_str Try.underlying56 hz (zd := .nil) (zp := []) rfl (key_str hs)
  rw [G.key] at hv
  have e := refElem_inv hv
  subst e
  exact hrun
theorem At.got (h : At w B L p d) {s : Name} (hs : s.length ≤ maxLen) {F : Fil} (hl : Dsk.look d.files s = some F) (ht : total d.files ≤ 100000000) : ∃ m D g vs vf, Got w L p m D d s F g vs vf := by
  obtain ⟨m, D, h1, h2, h3, v, h4, h5, h6⟩ := h.look hs
  rcases h6 with ⟨h6, _⟩ | ⟨F', g, h6, rfl, h7, h8⟩
  · rw [hl] at h6; cases h6
  · rw [hl] at h6
    cases h6
    obtain ⟨l1, vs, vf, l2, l3, l4, l5, l6⟩ := h8
    have h9 := mem_total (look_some hl)
    simp only [Fil.all, List.length_append] at h9
    exact ⟨m, D, g, vs, vf, h1, h2, h3, hl, h7, ⟨l2, l3, l5, by omega, by omega, by simp only [Fil.all, List.length_append]; omega⟩, l1, l4, l6⟩
theorem At.miss (h : At w B L p d) {s : Name} (hs : s.length ≤ maxLen) (hl : Dsk.look d.files s = none) : ∃ m D, Row w p (drow m d) 58 ∧ L m = some (1, []) ∧ Files w L m D d.files ∧
    (Instr.lookup 56 (.map (some m)) (sv s) true).run Try.prog w = .ok (.tuple #[.pointer none, .bool false]) w ∧ (Instr.lookup 56 (.map (some m)) (sv s) false).run Try.prog w = .ok (.pointer none) w := by
  obtain ⟨m, D, h1, h2, h3, v, h4, h5, h6⟩ := h.look hs
  rcases h6 with ⟨h6, rfl⟩ | ⟨F', g, h6, rfl, h7, h8⟩
  · exact ⟨m, D, h1, h2, h3, by simpa [hl] using h4, h5⟩
  · rw [hl] at h6; cases h6
/-- How many bytes a name's file has. -/
def sizeN (l : Fs) (s : Name) : Nat := match Dsk.look l s with | none => 0 | some F => F.all.length
set_option maxRecDepth 100000 in
theorem Size_at (h : At w B L p d) (s : Name) (hs : s.length ≤ maxLen) (ht : total d.files ≤ 100000000) : Calls Try.prog 20 #[pv p, sv s] w fun e w' => e = .returned (.int .i64 (sizeN d.files s : Int)) ∧ Below w.heap.size w w' := by
  cases hl : Dsk.look d.files s with
  | none =>
    obtain ⟨m, D, hr, _, _, hrun, _⟩ := h.miss hs hl
    have c0 : w.cell? ⟨p, 0, none⟩ = some (.map (some m)) := hr.cell rfl
    have Hr := Lib.hid hr
    have e : sizeN d.files s = 0 := by simp [sizeN, hl]
    rw [e]
    clear hr h hl e
    unfold sv pv at *
    go_enter Try.func20, Try.ntmps20
    go_wp2_with (go_at_call 28; refine (valid_row Hr.out).mono ?_; rintro e w' ⟨rfl, rfl⟩)
    go_ret
    exact ⟨rfl, Below.refl _ _⟩
  | some F =>
    obtain ⟨m, D, g, vs, vf, G⟩ := h.got hs hl ht
    have c0 : w.cell? ⟨p, 0, none⟩ = some (.map (some m)) := G.row.cell rfl
    have hrun := G.run2 hs
    have HG := Lib.hid G
    have e : sizeN d.files s = F.all.length := by simp [sizeN, hl]
    rw [e]
    clear G h hl e
    unfold sv pv at *
    go_enter Try.func20, Try.ntmps20
    go_wp2_with (first
      | (go_at_call 28; refine (valid_row HG.out.row).mono ?_; rintro e w' ⟨rfl, rfl⟩)
      | (go_at_call 36; refine (fsize_at HG.out.frow).mono ?_; rintro e w' ⟨rfl, nq, rfl⟩))
    go_ret
    exact ⟨rfl, ⟨rfl, rfl, rfl, Nat.le_refl _, fun _ _ => rfl⟩⟩
end
end Go.Proofs.Ytgmmjnedgaeefaa.Dsk
