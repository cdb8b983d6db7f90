/- disk: Sync, Remove. -/
import Derived.Test.YtgmmjnedgaeefaaDskCalls
import Derived.Deep.RegionWith
namespace Go.Proofs.Ytgmmjnedgaeefaa.Dsk
open Go.RowKit Go.Maps Go.Sort Go.Shelf
section
variable {w : World} {B : Nat} {L : Lab} {p : Nat} {d : Dk}
def labN (L : Lab) (n : Nat) (x : Nat × Name) : Lab := fun b => if b = n then some x else L b
/-- The label of a row that may be new. -/
theorem lab_new {w2 : World} {v v' : Value} {x : Nat × Name} (h : At w B L p d) (hv : ∀ b, v.ownBlock = some b → L b = some x) (hn : v'.ownBlock = v.ownBlock ∨ v'.ownBlock = some w.heap.size) (ho : ∀ b, v'.ownBlock = some b → b < w2.heap.size) :
    ∃ L' : Lab, (∀ b, b < w.heap.size → L' b = L b) ∧ (∀ b, L' b ≠ none → L b ≠ none ∨ (w.heap.size ≤ b ∧ b < w2.heap.size)) ∧ ∀ b, v'.ownBlock = some b → L' b = some x := by
  rcases hn with hn | hn
  · exact ⟨L, fun _ _ => rfl, fun b hb => .inl hb, fun b hb => hv b (by rw [← hn]; exact hb)⟩
  · refine ⟨labN L w.heap.size x, fun b hb => by unfold labN; rw [if_neg (by omega)], fun b hb => ?_, fun b hb => ?_⟩
    · unfold labN at hb
      split at hb
      · subst b; exact .inr ⟨Nat.le_refl _, ho _ hn⟩
      · exact .inl hb
    · rw [hn] at hb
      cases hb
      simp [labN]
theorem own_lt {base : Nat} {v : Value} {l : List UInt8} (h : Own w base v l) : ∀ b, v.ownBlock = some b → b < w.heap.size := fun b hb => (h.lt b hb).2
/-- One file's row and bytes are others from now on. -/
theorem At.write {w2 : World} {L' : Lab} {m : Nat} {D : MD} {s : Name} {F F' : Fil} {g : Nat} {vs vf vs' vf' : Value} (h : At w B L p d) (G : Got w L p m D d s F g vs vf) (hl : Dsk.look d.files s = some F)
    (hk : Keep (fun b => b = g ∨ some b = vs.ownBlock ∨ some b = vf.ownBlock) w w2) (hr : Row w2 g [vs', vf', .bool F'.syn] 62) (hs : Own w2 0 vs' F'.safe) (hf : Own w2 0 vf' F'.fresh)
    (hL1 : ∀ b, b < w.heap.size → L' b = L b) (hL2 : ∀ b, L' b ≠ none → L b ≠ none ∨ (w.heap.size ≤ b ∧ b < w2.heap.size)) (hL3 : ∀ b, vs'.ownBlock = some b → L' b = some (3, s)) (hL4 : ∀ b, vf'.ownBlock = some b → L' b = some (4, s)) :
    At w2 B L' p { d with files := put d.files s F' } ∧ Step L L' w w2 := by
  have hS : ∀ b x, L b = some x → (b = g ∨ some b = vs.ownBlock ∨ some b = vf.ownBlock) → x = (2, s) ∨ x = (3, s) ∨ x = (4, s) := by
    intro b x hb hx
    rcases hx with rfl | hx | hx
    · rw [G.lg] at hb; cases hb; exact .inl rfl
    · rw [G.ls b hx.symm] at hb; cases hb; exact .inr (.inl rfl)
    · rw [G.lf b hx.symm] at hb; cases hb; exact .inr (.inr rfl)
  have hext : ∀ b x, L b = some x → L' b = some x := fun b x hb => by
    rw [hL1 b (h.lab b (by rw [hb]; simp)).2]; exact hb
  constructor
  · refine ⟨fun b hb => ?_, hext _ _ h.lp, m, D, hext _ _ G.lm, hk.row G.row ?_, ?_⟩
    · rcases hL2 b hb with h1 | ⟨h1, h2⟩
      · exact ⟨(h.lab b h1).1, Nat.lt_of_lt_of_le (h.lab b h1).2 hk.size⟩
      · exact ⟨Nat.le_trans h.size h1, h2⟩
    · intro hx
      rcases hS p _ h.lp hx with e | e | e <;> simp at e
    · refine G.files.write hk ?_ ?_ hext (look_key hl) G.key ⟨hext _ _ G.lg, vs', vf', hr, hs, hL3, hf, hL4⟩
      · intro hx
        rcases hS m _ G.lm hx with e | e | e <;> simp at e
      · intro b j t hb hj ht hx
        rcases hS b _ hb hx with e | e | e <;> (simp at e; exact ht e.2)
  · refine ⟨hk.mono fun b hb hx => ?_, hL1⟩
    rcases hx with rfl | hx | hx
    · rw [G.lg]; simp
    · rw [G.ls b hx.symm]; simp
    · rw [G.lf b hx.symm]; simp
theorem Got.ne1 {m : Nat} {D : MD} {s : Name} {F : Fil} {g : Nat} {vs vf : Value} (G : Got w L p m D d s F g vs vf) : vs.ownBlock ≠ some g := fun e => by
  have := G.ls g e
  rw [G.lg] at this
  simp at this
theorem Got.ne2 {m : Nat} {D : MD} {s : Name} {F : Fil} {g : Nat} {vs vf : Value} (G : Got w L p m D d s F g vs vf) : vf.ownBlock ≠ some g := fun e => by
  have := G.lf g e
  rw [G.lg] at this
  simp at this
theorem At.lab_pg {m : Nat} {D : MD} {s : Name} {F : Fil} {g : Nat} {vs vf : Value} (h : At w B L p d) (G : Got w L p m D d s F g vs vf) : p ≠ g := fun e => by
  have := G.lg
  rw [← e, h.lp] at this
  simp at this
theorem At.lab_pf {m : Nat} {D : MD} {s : Name} {F : Fil} {g : Nat} {vs vf : Value} (h : At w B L p d) (G : Got w L p m D d s F g vs vf) : vf.ownBlock ≠ some p := fun e => by
  have := G.lf p e
  rw [h.lp] at this
  simp at this
theorem Keep.undrewN {S : Nat → Prop} {n : Nat} {w w' : World} (h : Keep S (w.drewN n) w') : Keep S w w' := ⟨h.os, h.tape, h.output, h.size, h.block⟩
theorem lab_ne {m : Nat} (h : At w B L p d) (lm : L m = some (1, [])) (e : m = p) : False := by
  subst e
  rw [h.lp] at lm
  simp at lm
theorem At.drop {w2 w3 : World} {m n : Nat} {D : MD} {s : Name} {d2 : Dk} (h : At w B L p d) (lm : L m = some (1, [])) (hf : Files w L m D d.files) (hk : Keep (fun x => x = p) w w2) (hr : Row w2 p (drow m d2) 58)
    (hm : w3.ownsMap Try.prog 9 refElem m n (D.del (.string s))) (ht : w2.mapTurned w3 m) (hd : d2.files = del d.files s) : At w3 B L p d2 ∧ Step L L w w3 := by
  have hk2 := hk.mono (S' := fun x => x = p ∨ x = m) fun _ _ e => .inl e
  have hk3 := hk2.trans ((Keep.of_turned ht).mono fun _ _ e => .inr e)
  refine ⟨⟨fun b hb => ⟨(h.lab b hb).1, Nat.lt_of_lt_of_le (h.lab b hb).2 hk3.size⟩, h.lp, m, D.del (.string s), lm, (Keep.of_turned ht).row hr (fun e => lab_ne h lm e.symm), ?_⟩, hk3.mono fun x _ e => ?_, fun _ _ => rfl⟩
  · rw [hd]
    refine Files.drop hm hf.nodup hf.has fun t G htG => ?_
    obtain ⟨g, h1, h2⟩ := hf.file t G htG
    refine ⟨g, h1, h2.keep hk3 ?_ fun _ _ e => e⟩
    rintro b j hb hj (rfl | rfl)
    · rw [h.lp] at hb; simp at hb; omega
    · rw [lm] at hb; simp at hb; omega
  · rcases e with rfl | rfl
    · rw [h.lp]; simp
    · rw [lm]; simp
theorem FRow.drew {g : Nat} {vs vf : Value} {F : Fil} (h : FRow w g vs vf F) : FRow w.drew g vs vf F := ⟨h.row, h.safe, h.fresh, h.lenS, h.lenF, h.all⟩
theorem Step.drop {L' : Lab} {w' : World} (h : Step L L' w w') : w.heap.size ≤ w'.heap.size := h.keep.size
theorem zero_int : (0 : Int) = 0 := rfl
set_option maxRecDepth 100000 in
set_option maxHeartbeats 1000000 in
theorem Sync_at (h : At w B L p d) (s : Name) (hs : s.length ≤ maxLen) (ht : total d.files ≤ 100000000) (hfz : d.fuse ≤ 9223372036854775807 ∧ -9223372036854775808 ≤ d.fuse) :
    Calls Try.prog 10 #[pv p, sv s] w fun e w' => e = .returned (.int .i64 (synE (okName s) d s)) ∧ ∃ L', At w' B L' p (synD (okName s) d s) ∧ Step L L' w w' := by
  have Hat := Lib.hid h
  have Hbeg := Lib.hid (begin_at h s hfz)
  clear h
  obtain ⟨be, hbe⟩ : ∃ be, begE (okName s) d = be := ⟨_, rfl⟩
  rw [hbe] at Hbeg
  by_cases h0 : be = 0
  · subst h0
    cases hl : Dsk.look d.files s with
    | none =>
      unfold pv at *
      go_enter Try.func10, Try.ntmps10
      go_wp2_with (first
        | (go_at_call 25; refine Hbeg.out.mono ?_; rintro e w1 ⟨rfl, hat, hst⟩
           obtain ⟨m, D, hr, _, _, hrun, _⟩ := hat.miss hs (by rw [begD_files]; exact hl)
           have c0 : w1.cell? ⟨p, 0, none⟩ = some (.map (some m)) := hr.cell rfl
           have Ha := Lib.hid hat
           have Hs := Lib.hid hst
           clear hat hst hr)
        | fail)
      go_ret
      have e : synE (okName s) d s = 6 := by simp [synE, hbe, hl]
      exact ⟨by rw [e]; rfl, L, by simpa [synD, e] using Ha.out, Hs.out⟩
    | some F =>
      unfold pv at *
      go_enter Try.func10, Try.ntmps10
      go_wp2_with (first
        | (go_at_call 25; refine Hbeg.out.mono ?_; rintro e w1 ⟨rfl, hat, hst⟩
           obtain ⟨m, D, g, vs, vf, G⟩ := hat.got hs (F := F) (by rw [begD_files]; exact hl) (by rw [begD_files]; exact ht)
           have c0 : w1.cell? ⟨p, 0, none⟩ = some (.map (some m)) := G.row.cell rfl
           have hrun := G.run2 hs
           have HG := Lib.hid G
           have Ha := Lib.hid hat
           have Hs := Lib.hid hst
           clear hat hst G)
        | (go_at_call 27; refine (fsync_at HG.out.frow HG.out.ne1 HG.out.ne2).mono ?_; rintro e w2 ⟨rfl, vs', k1, k2, k3, k4⟩)
        | fail)
      go_ret
      have e : synE (okName s) d s = 0 := by simp [synE, hbe, hl]
      obtain ⟨L', l1, l2, l3⟩ := lab_new Ha.out HG.out.ls k3 (own_lt k2)
      obtain ⟨x1, x2⟩ := Ha.out.write HG.out (F' := F.sync) (by rw [begD_files]; exact hl) (k4.mono fun b _ hb => by rcases hb with hb | hb <;> simp [hb]) k1 k2 (Own.nil _ _) l1 l2 l3 (fun b hb => by simp [Value.ownBlock] at hb)
      refine ⟨by rw [e]; rfl, L', ?_, Hs.out.trans x2⟩
      simpa [synD, e, olds, hl, begD_files] using x1
  · have hne : ((be : Int) != 0) = true := by simpa using h0
    unfold pv at *
    go_enter Try.func10, Try.ntmps10
    go_wp2_with (first
      | (go_at_call 25; refine Hbeg.out.mono ?_; rintro e w1 ⟨rfl, hat, hst⟩; have Ha := Lib.hid hat; have Hs := Lib.hid hst; clear hat hst)
      | fail)
    go_ret
    have e : synE (okName s) d s = be := by simp [synE, hbe, h0]
    exact ⟨by rw [e]; rfl, L, by simpa [synD, e, h0] using Ha.out, Hs.out⟩
set_option maxRecDepth 100000 in
set_option maxHeartbeats 1000000 in
theorem Remove_at (h : At w B L p d) (s : Name) (hs : s.length ≤ maxLen) (ht : total d.files ≤ 100000000) (hfz : d.fuse ≤ 9223372036854775807 ∧ -9223372036854775808 ≤ d.fuse) (hle : 0 ≤ d.left ∧ d.left ≤ 100000000) :
    Calls Try.prog 34 #[pv p, sv s] w fun e w' => e = .returned (.int .i64 (synE (okName s) d s)) ∧ ∃ L', At w' B L' p (remD (okName s) d s) ∧ Step L L' w w' := by
  have Hat := Lib.hid h
  have Hbeg := Lib.hid (begin_at h s hfz)
  clear h
  obtain ⟨be, hbe⟩ : ∃ be, begE (okName s) d = be := ⟨_, rfl⟩
  rw [hbe] at Hbeg
  by_cases h0 : be = 0
  · subst h0
    cases hl : Dsk.look d.files s with
    | none =>
      unfold pv at *
      go_enter Try.func34, Try.ntmps34
      go_wp2_with (first
        | (go_at_call 25; refine Hbeg.out.mono ?_; rintro e w1 ⟨rfl, hat, hst⟩
           obtain ⟨m, D, hr, _, _, hrun, _⟩ := hat.miss hs (by rw [begD_files]; exact hl)
           have c0 : w1.cell? ⟨p, 0, none⟩ = some (.map (some m)) := hr.cell rfl
           have Ha := Lib.hid hat
           have Hs := Lib.hid hst
           clear hat hst hr)
        | fail)
      go_ret
      have e : synE (okName s) d s = 6 := by simp [synE, hbe, hl]
      exact ⟨by rw [e]; rfl, L, by simpa [remD, e] using Ha.out, Hs.out⟩
    | some F =>
      have hw : IntKind.i64.wrap (d.left + (F.all.length : Int)) = d.left + (F.all.length : Int) := by
        have := mem_total (look_some hl)
        exact IntWalk.i64_in _ (by omega)
      unfold pv at *
      go_enter Try.func34, Try.ntmps34
      go_wp2_with (first
        | (go_at_call 25; refine Hbeg.out.mono ?_; rintro e w1 ⟨rfl, hat, hst⟩
           obtain ⟨m, D, g, vs, vf, G⟩ := hat.got hs (F := F) (by rw [begD_files]; exact hl) (by rw [begD_files]; exact ht)
           have c0 : w1.cell? ⟨p, 0, none⟩ = some (.map (some m)) := G.row.cell rfl
           have c1 : w1.cell? ⟨p, 1, none⟩ = some (.int .i64 d.left) := by rw [← begD_left (okName s) d]; exact G.row.cell rfl
           have f1 : w1.frozen? ⟨p, 1, none⟩ = false := frozen_row G.row _
           have hrun := G.run2 hs
           have HG := Lib.hid G
           have Ha := Lib.hid hat
           have Hs := Lib.hid hst
           clear hat hst G)
        | fail)
      go_region_with (go_at_call 36; refine (fsize_at HG.out.frow.drew).mono ?_; rintro e w2 ⟨rfl, nq, rfl⟩)
      all_goals
        have HK := Lib.hid (Keep.undrewN (Keep.setCell (w1.drewN (1 + nq)) ⟨p, 1, none⟩ (.int .i64 (d.left + (F.all.length : Int)))))
        have HM := Lib.hid (HK.out.map HG.out.files.map (fun e => lab_ne Ha.out HG.out.lm e))
        have HR := Lib.hid (show Row ((w1.drewN (1 + nq)).setCell ⟨p, 1, none⟩ (.int .i64 (d.left + (F.all.length : Int)))) p (drow m (remD (okName s) d s)) 58 from (Row.set (w := w1.drewN (1 + nq)) HG.out.row 1 _).same (by simp [drow, remD, synE, hbe, hl, olds]))
        have c0' := HR.out.cell (i := 0) rfl
        clear c0 c1 f1 hrun hw
        go_wp2_with (first
          | (at_delete; refine wpList_delete_own _ rfl _ _ 56 9 rfl 59 law_str Try.underlying56 refElem m (Maps.size D) D rfl HM.out (sv s) (.string s) rfl (key_str hs) ?_; intro w3 hown3 hturn3)
          | fail)
        go_ret
        have e : synE (okName s) d s = 0 := by simp [synE, hbe, hl]
        obtain ⟨x1, x2⟩ := Ha.out.drop HG.out.lm HG.out.files HK.out HR.out hown3 hturn3 (by simp [remD, e, begD_files])
        exact ⟨by rw [e]; rfl, L, x1, Hs.out.trans x2⟩
  · have hne : ((be : Int) != 0) = true := by simpa using h0
    unfold pv at *
    go_enter Try.func34, Try.ntmps34
    go_wp2_with (first
      | (go_at_call 25; refine Hbeg.out.mono ?_; rintro e w1 ⟨rfl, hat, hst⟩; have Ha := Lib.hid hat; have Hs := Lib.hid hst; clear hat hst)
      | fail)
    go_ret
    have e : synE (okName s) d s = be := by simp [synE, hbe, h0]
    exact ⟨by rw [e]; rfl, L, by simpa [remD, e, h0] using Ha.out, Hs.out⟩
end
end Go.Proofs.Ytgmmjnedgaeefaa.Dsk
