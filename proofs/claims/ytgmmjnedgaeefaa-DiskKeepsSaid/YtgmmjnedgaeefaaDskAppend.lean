/- disk: Append. -/
import Derived.Test.YtgmmjnedgaeefaaDskWrite
namespace Go.Proofs.Ytgmmjnedgaeefaa.Dsk
open Go.RowKit Go.Maps Go.Sort Go.Shelf
set_option maxRecDepth 100000 in
theorem Clone_any (s : Name) (hs : s.length ≤ 1000000) (w : World) : Calls Try.prog 26 #[sv s] w fun e w' => e = .returned (sv s) ∧ Below w.heap.size w w' := by
  unfold sv
  go_enter Try.func26, Try.ntmps26
  go_wp2_with (go_at_call 38; refine (Try.stringslite_Clone _ _ (by show s.toArray.size ≤ _; simp; omega)).mono ?_; rintro e w' ⟨rfl, hb⟩; have Hb := Lib.hid hb; clear hb)
  go_ret
  exact ⟨rfl, Hb.out⟩
section
variable {w : World} {B : Nat} {L : Lab} {p : Nat} {d : Dk}
/-- A slice's bytes lie in no block of the disk. -/
def Free (L : Lab) (v : Value) : Prop := ∀ b, v.ownBlock = some b → L b = none
theorem Step.bs {L' : Lab} {w' : World} {v : Value} {l : List UInt8} (h : Step L L' w w') (hb : Bs w w.heap.size v l) (hf : Free L v) : Bs w' w'.heap.size v l := by
  obtain ⟨A, c, rfl, h1, h2⟩ := hb
  refine ⟨A, c, rfl, h1, fun hne => ?_⟩
  obtain ⟨b, off, rfl, h3, h4⟩ := h2 hne
  refine ⟨b, off, rfl, Nat.lt_of_lt_of_le h3 h.keep.size, fun i u hu => ?_⟩
  rw [World.cell?_of_block (a := ⟨b, off + i, none⟩) (h.keep.block b h3 (fun e => e (hf b rfl)))]
  exact h4 i u hu
/-- A new file without bytes. -/
theorem At.add {w2 : World} {m n g : Nat} {D : MD} {s : Name} (h : At w B L p d) (row : Row w p (drow m d) 58) (lm : L m = some (1, [])) (hf : Files w L m D d.files) (hg : w.heap.size ≤ g) (hg2 : g < w2.heap.size)
    (hk : Keep (fun x => x = m) w w2) (hr : Row w2 g [.slice none 0 0, .slice none 0 0, .bool false] 62) (hm : w2.ownsMap Try.prog 9 refElem m n (D.put (.string s) (.lit (.int .u64 (g : Int))))) :
    At w2 B (labN L g (2, s)) p { d with files := put d.files s ⟨[], [], false⟩ } ∧ Step L (labN L g (2, s)) w w2 ∧
      Got w2 (labN L g (2, s)) p m (D.put (.string s) (.lit (.int .u64 (g : Int)))) { d with files := put d.files s ⟨[], [], false⟩ } s ⟨[], [], false⟩ g (.slice none 0 0) (.slice none 0 0) := by
  have hext : ∀ b x, L b = some x → labN L g (2, s) b = some x := fun b x hb => by
    have := (h.lab b (by rw [hb]; simp)).2
    unfold labN
    rw [if_neg (by omega)]
    exact hb
  have hrow := hk.row row (fun e => lab_ne h lm e.symm)
  have hlg : labN L g (2, s) g = some (2, s) := by simp [labN]
  have hfiles : Files w2 (labN L g (2, s)) m (D.put (.string s) (.lit (.int .u64 (g : Int)))) (put d.files s ⟨[], [], false⟩) := by
    refine Files.add hf.map.isMap hm hf.nodup hf.has (fun t G ht hne => ?_) ⟨hlg, _, _, hr, Own.nil _ _, fun b hb => by simp [Value.ownBlock] at hb, Own.nil _ _, fun b hb => by simp [Value.ownBlock] at hb⟩
    obtain ⟨g', h1, h2⟩ := hf.file t G ht
    refine ⟨g', h1, h2.keep hk ?_ hext⟩
    rintro b j hb hj rfl
    rw [lm] at hb; simp at hb; omega
  refine ⟨⟨fun b hb => ?_, hext _ _ h.lp, m, D.put (.string s) (.lit (.int .u64 (g : Int))), hext _ _ lm, hrow, hfiles⟩, ⟨hk.mono fun x _ e => by subst e; rw [lm]; simp, fun b hb => by unfold labN; rw [if_neg (by omega)]⟩,
    hrow, hext _ _ lm, hfiles, look_put_same _ _ _, atKey_put_same hf.map.isMap (show WideAt.IsKeyLit (.string s) from trivial) _ _, ⟨hr, Own.nil _ _, Own.nil _ _, by simp, by simp, by simp [Fil.all]⟩, hlg, fun b hb => by simp [Value.ownBlock] at hb, fun b hb => by simp [Value.ownBlock] at hb⟩
  unfold labN at hb
  split at hb
  · subst b; exact ⟨Nat.le_trans h.size hg, hg2⟩
  · exact ⟨(h.lab b hb).1, Nat.lt_of_lt_of_le (h.lab b hb).2 hk.size⟩
/-- What is left of Append once the file is there: the row of fresh bytes grows, the room shrinks. -/
theorem At.grow {w2 w3 : World} {m : Nat} {D : MD} {s : Name} {F : Fil} {g : Nat} {vs vf v2 : Value} {b : List UInt8} {left : Int} (h : At w B L p d) (G : Got w L p m D d s F g vs vf) (hl : Dsk.look d.files s = some F)
    (ho : Own w2 0 v2 (F.fresh ++ b)) (hg : w.grownBy w2 vf.ownBlock) (he : v2.ownBlock = vf.ownBlock ∨ v2.ownBlock = some w.heap.size) (h3 : w3 = (w2.setCell ⟨g, 1, none⟩ v2).setCell ⟨p, 1, none⟩ (.int .i64 left)) :
    ∃ L', At w3 B L' p { d with files := put d.files s (addF F b), left := left } ∧ Step L L' w w3 := by
  have hlt := G.frow.row.lt
  have hv2g : v2.ownBlock ≠ some g := own_ne he G.ne2 hlt
  have k1 := Keep.of_grown hg
  have hr1 := k1.row G.frow.row (fun e => G.ne2 e.symm)
  have hs1 := k1.own G.frow.safe (fun b hb e => by
    have h1 := G.ls b hb
    have h2 := G.lf b e.symm
    rw [h1] at h2
    simp at h2)
  have k2 : Keep (fun x => x = g ∨ some x = vs.ownBlock ∨ some x = vf.ownBlock) w (w2.setCell ⟨g, 1, none⟩ v2) := (k1.mono fun _ _ e => .inr (.inr e)).trans ((Keep.setCell w2 ⟨g, 1, none⟩ v2).mono fun _ _ e => .inl e)
  have ho2 := (Keep.setCell w2 ⟨g, 1, none⟩ v2).own ho (fun b hb e => hv2g (by rw [hb, e]))
  have hs2 := (Keep.setCell w2 ⟨g, 1, none⟩ v2).own hs1 (fun b hb e => G.ne1 (by rw [hb, e]))
  obtain ⟨L', l1, l2, l3⟩ := lab_new (w2 := w2.setCell ⟨g, 1, none⟩ v2) h G.lf he (own_lt ho2)
  obtain ⟨x1, x2⟩ := h.write G (F' := addF F b) hl k2 (hr1.set 1 v2) hs2 ho2 l1 l2 (fun b hb => by rw [l1 b (h.lab b (by rw [G.ls b hb]; simp)).2]; exact G.ls b hb) l3
  have k3 := Keep.setCell (w2.setCell ⟨g, 1, none⟩ v2) ⟨p, 1, none⟩ (.int .i64 left)
  subst h3
  exact ⟨L', x1.row k3 (fun m hm => hm.set 1 _) rfl, x2.trans (x1.step k3)⟩
theorem Free.step {L' : Lab} {w' : World} {v : Value} {l : List UInt8} (h : Step L L' w w') (hb : Bs w w.heap.size v l) (hf : Free L v) (hne : l ≠ []) : Free L' v := by
  obtain ⟨A, c, rfl, h1, h2⟩ := hb
  obtain ⟨b, off, rfl, h3, h4⟩ := h2 hne
  intro b' hb'
  cases hb'
  rw [h.lab b h3]
  exact hf b rfl
theorem begE_ok {ok : Bool} {d : Dk} (h : begE ok d = 0) : ok = true := by
  cases ok with
  | true => rfl
  | false => simp [begE] at h
theorem ok_len {s : Name} (h : okName s = true) : s.length ≤ 1000000 := by
  simp only [okName, Bool.and_eq_true, decide_eq_true_eq] at h
  omega
/-- A new file is laid and put into the map. -/
theorem new_file {w1 W : World} {g m p : Nat} {D : MD} {s : Name} {d : Dk} (hs : s.length ≤ maxLen) (hW : w1.alloc (Obj.cells #[Value.slice none 0 0, Value.slice none 0 0, Value.bool false] 62) = W) (hg : w1.heap.size = g)
    (hr : Row w1 p (drow m d) 58) (hm : w1.ownsMap Try.prog 9 refElem m (Maps.size D) D) (hN : Maps.size D ≤ 100000000) (w3 : World) (hb : Below W.heap.size W.drew w3) :
    ∃ w4, (Instr.mapUpdate 56 (.map (some m)) (sv s) (.pointer (some ⟨g, 0, none⟩))).run Try.prog w3 = .ok () w4 ∧ w4.ownsMap Try.prog 9 refElem m (Maps.size D + 1) (D.put (.string s) (.lit (.int .u64 (g : Int)))) ∧ Row w4 p (drow m d) 58 ∧
      Row w4 g [.slice none 0 0, .slice none 0 0, .bool false] 62 ∧ Keep (fun x => x = m) w1 w4 := by
  have hm2 : W.ownsMap Try.prog 9 refElem m (Maps.size D) D := by rw [← hW]; exact hm.alloc _
  have hm3 : w3.ownsMap Try.prog 9 refElem m (Maps.size D) D := (Keep.of_new (w := W) ⟨hb.os, hb.tape, hb.output, hb.size, hb.block⟩ fun _ => False).map hm2 (fun e => e)
  obtain ⟨w4, hU, hO, hT⟩ := hm3.store law_str Try.underlying56 (by unfold maxLen; omega) (key_str hs) (refElem_ptr g)
  have hpW : Row W p (drow m d) 58 := by rw [← hW]; exact hr.alloc _
  have hgW : Row W g [.slice none 0 0, .slice none 0 0, .bool false] 62 := by rw [← hW]; exact Row.new hg rfl
  have hb' : Below W.heap.size W w3 := ⟨hb.os, hb.tape, hb.output, hb.size, hb.block⟩
  have hmlt := hm.lt
  have hnm : ∀ {cs : List Value} {t : TypeId}, ¬ Row w3 m cs t := fun h => by
    obtain ⟨es, clock, hbm, _⟩ := hm3
    unfold Row at h
    rw [hbm] at h
    simp at h
  have kt := Keep.of_turned hT
  have k1 : Keep (fun x => x = m) w1 W := by rw [← hW]; exact Keep.alloc _ _ _
  refine ⟨w4, hU, hO, kt.row (hpW.below hb' hpW.lt) (fun e => hnm (e ▸ hpW.below hb' hpW.lt)), kt.row (hgW.below hb' hgW.lt) (fun e => hnm (e ▸ hgW.below hb' hgW.lt)), (k1.trans (Keep.of_new hb' _)).trans kt⟩
set_option maxRecDepth 100000 in
set_option maxHeartbeats 1000000 in
theorem Append_at (h : At w B L p d) (s : Name) (hs : s.length ≤ maxLen) (ht : total d.files ≤ 100000000) (hN : d.files.length ≤ 100000000) (hfz : d.fuse ≤ 9223372036854775807 ∧ -9223372036854775808 ≤ d.fuse) (hle : 0 ≤ d.left ∧ d.left ≤ 100000000)
    (v : Value) (b : List UInt8) (hb : Bs w w.heap.size v b) (hf : Free L v) :
    Calls Try.prog 9 #[pv p, sv s, v] w fun e w' => e = .returned (.int .i64 (appE (okName s) d b)) ∧ ∃ L', At w' B L' p (appD (okName s) d s b) ∧ Step L L' w w' := by
  have Hat := Lib.hid h
  have Hbeg := Lib.hid (begin_at h s hfz)
  have Hb := Lib.hid hb
  have Hf := Lib.hid hf
  obtain ⟨A, c, rfl, _, _⟩ := hb
  clear h hf
  obtain ⟨be, hbe⟩ : ∃ be, begE (okName s) d = be := ⟨_, rfl⟩
  rw [hbe] at Hbeg
  by_cases h0 : be = 0
  · subst h0
    have Hs40 := Lib.hid (ok_len (begE_ok hbe))
    by_cases hfull : d.left < (b.length : Int)
    · unfold pv at *
      go_enter Try.func9, Try.ntmps9
      go_wp2_with (first
        | (go_at_call 25; refine Hbeg.out.mono ?_; rintro e w1 ⟨rfl, hat, hst⟩
           obtain ⟨m, hr⟩ := hat.cells
           have c1 : w1.cell? ⟨p, 1, none⟩ = some (.int .i64 d.left) := by rw [← begD_left (okName s) d]; exact hr.cell rfl
           have Ha := Lib.hid hat
           have Hs := Lib.hid hst
           clear hat hst hr)
        | fail)
      go_ret
      have e : appE (okName s) d b = 9 := by simp [appE, hbe, hfull]
      exact ⟨by rw [e]; rfl, L, by simpa [appD, e] using Ha.out, Hs.out⟩
    · have hroom : ¬ d.left < (b.length : Int) := hfull
      have hw : wrap64 (d.left - (b.length : Int)) = d.left - (b.length : Int) := by
        unfold wrap64
        omega
      have he0 : appE (okName s) d b = 0 := by simp [appE, hbe, hfull]
      cases hl : Dsk.look d.files s with
      | some F =>
        have Hlen : Hid (F.fresh.length + b.length ≤ 140737488355327) := by
          have := mem_total (look_some hl)
          simp only [Fil.all, List.length_append] at this
          have h1 : F.fresh.length + b.length ≤ 140737488355327 := by omega
          exact h1
        unfold pv at *
        go_enter Try.func9, Try.ntmps9
        go_wp2_with (first
          | (go_at_call 25; refine Hbeg.out.mono ?_; rintro e w1 ⟨rfl, hat, hst⟩
             obtain ⟨m, D, g, vs, vf, G⟩ := hat.got hs (F := F) (by rw [begD_files]; exact hl) (by rw [begD_files]; exact ht)
             obtain ⟨A2, n2, e2⟩ := G.frow.fresh.shape
             subst e2
             have c0 : w1.cell? ⟨p, 0, none⟩ = some (.map (some m)) := G.row.cell rfl
             have c1 : w1.cell? ⟨p, 1, none⟩ = some (.int .i64 d.left) := by rw [← begD_left (okName s) d]; exact G.row.cell rfl
             have c2 : w1.cell? ⟨g, 1, none⟩ = some (.slice A2 F.fresh.length n2) := G.frow.row.cell rfl
             have hrun : (Instr.lookup 56 (.map (some m)) (sv s) true).run Try.prog w1 = .ok (.tuple #[.pointer (some ⟨g, 0, none⟩), .bool true]) w1 := G.run2 hs
             have HG := Lib.hid G
             have Ha := Lib.hid hat
             have Hs := Lib.hid hst
             clear hat hst G)
          | (at_builtin; refine wpList_app_bytes _ rfl _ _ rfl rfl HG.out.frow.fresh rfl (Hs.out.bs Hb.out Hf.out) Hlen.out (Nat.zero_le _) ?_
             intro v2 w2 ho hg he
             obtain ⟨A3, n3, rfl⟩ := ho.shape
             have Hr := Lib.hid ((Keep.of_grown hg).row HG.out.frow.row (fun e => HG.out.ne2 e.symm))
             have Hp := Lib.hid ((Keep.of_grown hg).row HG.out.row (fun e => Ha.out.lab_pf HG.out e.symm))
             have d1 : w2.cell? ⟨p, 1, none⟩ = some (.int .i64 d.left) := by rw [← begD_left (okName s) d]; exact Hp.out.cell rfl
             have d2 := Hr.out.cell (i := 1) rfl
             have d3 : w2.frozen? ⟨p, 1, none⟩ = false := frozen_row Hp.out _
             have d4 : w2.frozen? ⟨g, 1, none⟩ = false := frozen_row Hr.out _
             have d5 := Ha.out.lab_pg HG.out
             have d6 := d5.symm
             have Ho := Lib.hid ho
             have Hg := Lib.hid hg
             have He := Lib.hid he
             clear ho hg he c0 c1 c2 hrun)
          | fail)
        go_ret
        have Ho' := Ho.out
        have He' := He.out
        rw [List.length_append] at Ho' He'
        obtain ⟨L', x1, x2⟩ := Ha.out.grow HG.out (by rw [begD_files]; exact hl) Ho' Hg.out He' rfl
        exact ⟨by rw [he0]; rfl, L', by simpa [appD, he0, olds, hl, begD_files] using x1, Hs.out.trans x2⟩
      | none =>
        unfold pv at *
        go_enter Try.func9, Try.ntmps9
        go_wp2_with (first
          | (go_at_call 25; refine Hbeg.out.mono ?_; rintro e w1 ⟨rfl, hat, hst⟩
             obtain ⟨m, D, hr, hlm, hfs, hrun, _⟩ := hat.miss hs (by rw [begD_files]; exact hl)
             have c0 : w1.cell? ⟨p, 0, none⟩ = some (.map (some m)) := hr.cell rfl
             have c1 : w1.cell? ⟨p, 1, none⟩ = some (.int .i64 d.left) := by rw [← begD_left (okName s) d]; exact hr.cell rfl
             have Hr := Lib.hid hr
             have Hlm := Lib.hid hlm
             have Hfs := Lib.hid hfs
             have Ha := Lib.hid hat
             have Hs := Lib.hid hst
             clear hat hst hr hlm hfs)
          | fail)
        obtain ⟨g, hg⟩ : ∃ g, w1.heap.size = g := ⟨_, rfl⟩
        obtain ⟨W, hW⟩ : ∃ W, w1.alloc (Obj.cells #[Value.slice none 0 0, Value.slice none 0 0, Value.bool false] 62) = W := ⟨_, rfl⟩
        rw [hW, hg]
        have c0W : W.cell? ⟨p, 0, none⟩ = some (.map (some m)) := by rw [← hW]; exact (Hr.out.alloc _).cell rfl
        have Hnew := Lib.hid (new_file (w1 := w1) (W := W) (g := g) (D := D) (m := m) (s := s) hs hW hg Hr.out Hfs.out.map (by rw [Hfs.out.size, begD_files]; exact hN))
        have HW := Lib.hid hW
        have Hgg := Lib.hid hg
        clear hW hg c0 c1 hrun
        go_region_with (go_at_call 26; refine (Clone_any s Hs40.out _).mono ?_; rintro e w3 ⟨rfl, hb3⟩; obtain ⟨w4, hU, hO, hP, hG, hK⟩ := Hnew.out w3 hb3; have c03 : w3.cell? ⟨p, 0, none⟩ = some (.map (some m)) := (hb3.cell (p := ⟨p, 0, none⟩) (by show p < W.heap.size; rw [← HW.out]; have := Hr.out.lt; simp; omega)).trans c0W; have HO := Lib.hid hO; have HP := Lib.hid hP; have HG := Lib.hid hG; have HK := Lib.hid hK; clear hb3 hO hP hG hK)
        all_goals
          obtain ⟨y1, y2, y3⟩ := Ha.out.add (s := s) Hr.out Hlm.out Hfs.out (Nat.le_of_eq Hgg.out) HG.out.lt HK.out HG.out HO.out
          have c0 : w4.cell? ⟨p, 0, none⟩ = some (.map (some m)) := HP.out.cell rfl
          have c2 : w4.cell? ⟨g, 1, none⟩ = some (.slice none 0 0) := HG.out.cell rfl
          have Y1 := Lib.hid y1
          have Y3 := Lib.hid y3
          have Hst := Lib.hid (Hs.out.trans y2)
          have Hlen : Hid (([] : List UInt8).length + b.length ≤ 140737488355327) := by
            have h1 : ([] : List UInt8).length + b.length ≤ 140737488355327 := by simp; omega
            exact h1
          clear y1 y2 y3 c0W c03 hU
          go_wp2_with (first
            | (at_builtin; refine wpList_app_bytes _ rfl _ _ rfl rfl Y3.out.frow.fresh rfl (Hst.out.bs Hb.out Hf.out) Hlen.out (Nat.zero_le _) ?_
               intro v2 w5 ho hg he
               obtain ⟨A3, n3, rfl⟩ := ho.shape
               have Hr5 := Lib.hid ((Keep.of_grown hg).row Y3.out.frow.row (fun e => Y3.out.ne2 e.symm))
               have Hp5 := Lib.hid ((Keep.of_grown hg).row Y3.out.row (fun e => Y1.out.lab_pf Y3.out e.symm))
               have d1 : w5.cell? ⟨p, 1, none⟩ = some (.int .i64 d.left) := by rw [← begD_left (okName s) d]; exact Hp5.out.cell rfl
               have d2 := Hr5.out.cell (i := 1) rfl
               have d3 : w5.frozen? ⟨p, 1, none⟩ = false := frozen_row Hp5.out _
               have d4 : w5.frozen? ⟨g, 1, none⟩ = false := frozen_row Hr5.out _
               have d5 := Y1.out.lab_pg Y3.out
               have d6 := d5.symm
               have Ho := Lib.hid ho
               have Hg := Lib.hid hg
               have He := Lib.hid he
               clear ho hg he c0 c2)
            | fail)
          go_ret
          have Ho' := Ho.out
          have He' := He.out
          rw [List.length_append, List.length_nil, Nat.zero_add] at Ho' He'
          obtain ⟨L', x1, x2⟩ := Y1.out.grow Y3.out (look_put_same _ _ _) Ho' Hg.out He' rfl
          refine ⟨by first | rfl | (rw [he0]; rfl), L', ?_, Hst.out.trans x2⟩
          simpa [appD, he0, olds, hl, begD_files, put_put] using x1
  · have hne : ((be : Int) != 0) = true := by simpa using h0
    unfold pv at *
    go_enter Try.func9, Try.ntmps9
    go_wp2_with (first
      | (go_at_call 25; refine Hbeg.out.mono ?_; rintro e w1 ⟨rfl, hat, hst⟩; have Ha := Lib.hid hat; have Hs := Lib.hid hst; clear hat hst)
      | fail)
    go_ret
    have e : appE (okName s) d b = be := by simp [appE, hbe, h0]
    exact ⟨by rw [e]; rfl, L, by simpa [appD, e, h0] using Ha.out, Hs.out⟩
end
end Go.Proofs.Ytgmmjnedgaeefaa.Dsk
