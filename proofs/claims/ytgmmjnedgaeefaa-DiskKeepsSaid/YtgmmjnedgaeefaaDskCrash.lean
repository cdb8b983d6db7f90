/- disk: Crash. -/
import Derived.Test.YtgmmjnedgaeefaaDskWrite
import Derived.Test.YtgmmjnedgaeefaaDskNames
namespace Go.Proofs.Ytgmmjnedgaeefaa.Dsk
open Go.RowKit Go.Maps Go.Sort Go.Shelf
/-! ### in plain terms -/
theorem crash_all (F : Fil) (part : Int) : (F.crash part).all.length + loses F part = F.all.length := by
  have := keeps_le F part
  simp only [Fil.all, Fil.crash, loses, List.append_nil, List.length_append, List.length_take]
  omega
theorem del_put : ∀ (l : Fs) (s : Name) (F : Fil), del (put l s F) s = del l s
  | [], s, F => by simp [put, del]
  | x :: r, s, F => by
    have ih := del_put r s F
    by_cases hx : x.1 = s
    · simp [put, hx, del]
    · simp only [put, if_neg hx]
      simp only [del, List.filter_cons] at ih ⊢
      rw [ih]
theorem crash1_total {l : Fs} {s : Name} {F : Fil} (part : Int) (hn : (keys l).Nodup) (hl : look l s = some F) : total (crash1 l s part) + loses F part = total l := by
  have h1 := crash_all F part
  unfold crash1
  simp only [olds, hl, Option.getD_some]
  split
  · have := total_put_old (G := F.crash part) hl
    omega
  · rename_i h
    have h2 := total_del hn hl
    have h3 : (F.crash part).all.length = 0 := by
      simp only [Fil.lasts, Bool.or_eq_true, decide_eq_true_eq, not_or] at h
      simp only [Fil.all, List.length_append]
      have : (F.crash part).fresh = [] := rfl
      rw [this]
      simp
      have := h.2
      exact List.eq_nil_of_length_eq_zero (by omega)
    omega
theorem crash1_nodup {l : Fs} {s : Name} (part : Int) (hn : (keys l).Nodup) : (keys (crash1 l s part)).Nodup := by
  unfold crash1
  simp only
  split
  · exact nodup_put hn
  · exact nodup_del hn
theorem crash1_other {l : Fs} {s t : Name} (part : Int) (h : t ≠ s) : look (crash1 l s part) t = look l t := by
  unfold crash1
  simp only
  split
  · exact look_put_other l _ h
  · exact look_del_other l h
def crF (ns : List Name) (ps : List Int) (l : Fs) : Nat → Fs
  | 0 => l
  | i + 1 => crash1 (crF ns ps l i) (ns.getD i []) (ps.getD i 0)
theorem crF_nodup (ns : List Name) (ps : List Int) (l : Fs) (hn : (keys l).Nodup) : ∀ i, (keys (crF ns ps l i)).Nodup
  | 0 => hn
  | i + 1 => crash1_nodup _ (crF_nodup ns ps l hn i)
theorem crF_other (ns : List Name) (ps : List Int) (l : Fs) (t : Name) : ∀ i, (∀ j, j < i → ns.getD j [] ≠ t) → look (crF ns ps l i) t = look l t
  | 0, _ => rfl
  | i + 1, h => by
    unfold crF
    rw [crash1_other _ (fun e => h i (by omega) e.symm)]
    exact crF_other ns ps l t i fun j hj => h j (by omega)
theorem crF_at (ns : List Name) (hnd : ns.Nodup) (ps : List Int) (l : Fs) {i : Nat} (hi : i < ns.length) : look (crF ns ps l i) (ns.getD i []) = look l (ns.getD i []) := by
  refine crF_other ns ps l _ i fun j hj e => ?_
  have hj2 : j < ns.length := by omega
  rw [List.getD_eq_getElem?_getD, List.getD_eq_getElem?_getD, List.getElem?_eq_getElem hj2, List.getElem?_eq_getElem hi] at e
  simp only [Option.getD_some] at e
  have := (List.getElem_inj hnd).1 e
  omega
/-- What is left once the first i files have crashed. -/
def crD (d : Dk) (ns : List Name) (ps : List Int) (i : Nat) : Dk := { d with files := crF ns ps d.files i, left := d.left + (total d.files : Int) - (total (crF ns ps d.files i) : Int) }
def crashD (d : Dk) (ps : List Int) : Dk := { crD d (names d.files) ps (names d.files).length with off := false, fuse := -1 }
theorem crF_total_le (ns : List Name) (ps : List Int) (l : Fs) (hn : (keys l).Nodup) (hnd : ns.Nodup) (hm : ∀ s ∈ ns, s ∈ keys l) : ∀ i, i ≤ ns.length → total (crF ns ps l i) ≤ total l
  | 0, _ => Nat.le_refl _
  | i + 1, hi => by
    have ih := crF_total_le ns ps l hn hnd hm i (by omega)
    have h1 := crF_at ns hnd ps l (i := i) (by omega)
    have h2 : ns.getD i [] ∈ ns := by
      rw [List.getD_eq_getElem?_getD, List.getElem?_eq_getElem (by omega)]
      exact List.getElem_mem _
    obtain ⟨F, hF⟩ := look_is (hm _ h2)
    rw [hF] at h1
    have h3 := crash1_total (ps.getD i 0) (crF_nodup ns ps l hn i) h1
    show total (crash1 _ _ _) ≤ _
    omega
theorem names_nodup {l : Fs} (hn : (keys l).Nodup) : (names l).Nodup := (names_perm l).nodup_iff.2 hn
section
variable {w : World} {B : Nat} {L : Lab} {p : Nat} {d : Dk}
/-- A slice that reads as these ints, in no block of the disk. -/
def IsF (w : World) (L : Lab) (v : Value) (ps : List Int) : Prop :=
  ∃ A c, v = .slice A ps.length c ∧ ps.length ≤ c ∧ (ps ≠ [] → ∃ b off, A = some ⟨b, off, none⟩ ∧ b < w.heap.size ∧ L b = none ∧ ∀ (i : Nat) (x : Int), ps[i]? = some x → w.cell? ⟨b, off + i, none⟩ = some (.int .i64 x))
theorem Step.cell {L' : Lab} {w' : World} (h : Step L L' w w') {b : Nat} (hb : b < w.heap.size) (hl : L b = none) (o : Nat) : w'.cell? ⟨b, o, none⟩ = w.cell? ⟨b, o, none⟩ :=
  World.cell?_of_block (a := ⟨b, o, none⟩) (h.keep.block b hb fun e => e hl)
theorem OwnS.cells {base : Nat} {v : Value} {l : List Name} (h : OwnS w base v l) : ∃ A c, v = .slice A l.length c ∧ l.length ≤ c ∧ (l ≠ [] → ∃ g, A = some ⟨g, 0, none⟩ ∧ base ≤ g ∧ g < w.heap.size ∧ ∀ (i : Nat) (s : Name), l[i]? = some s → w.cell? ⟨g, i, none⟩ = some (sv s)) := by
  rcases h.2 with ⟨rfl, hl⟩ | ⟨g, cap, cur, rfl, hb, hg, hnc, _⟩
  · exact ⟨none, 0, by rw [hl], by omega, fun hne => absurd (List.eq_nil_of_length_eq_zero hl) hne⟩
  · refine ⟨_, cap, rfl, hnc, fun _ => ⟨g, rfl, hb, (Array.getElem?_eq_some_iff.1 hg).1, fun i s hs => ?_⟩⟩
    have := World.ownsRow.cells h (g := g) rfl i (sv s) (by rw [List.getElem?_map, hs]; rfl)
    rwa [show (⟨g, 0, none⟩ : Addr).add i = ⟨g, 0 + i, none⟩ by unfold Addr.add; split <;> simp_all, Nat.zero_add] at this
theorem getD_at {α : Type} {l : List α} {i : Nat} (h : i < l.length) (x : α) : l[i]? = some (l.getD i x) := by
  rw [List.getD_eq_getElem?_getD, List.getElem?_eq_getElem h]
  rfl
theorem At.nodup (h : At w B L p d) : (keys d.files).Nodup := by
  obtain ⟨_, _, m, D, _, _, hf⟩ := h
  exact hf.nodup
theorem crD_zero (d : Dk) (ns : List Name) (ps : List Int) : crD d ns ps 0 = d := by
  unfold crD crF
  have : d.left + (total d.files : Int) - (total d.files : Int) = d.left := by omega
  rw [this]
theorem At.lab_ps {m : Nat} {D : MD} {s : Name} {F : Fil} {g : Nat} {vs vf : Value} (h : At w B L p d) (G : Got w L p m D d s F g vs vf) : vs.ownBlock ≠ some p := fun e => by
  have := G.ls p e
  rw [h.lp] at this
  simp at this
theorem At.crashed {w2 : World} {m : Nat} {D : MD} {s : Name} {F : Fil} {g : Nat} {vs vf vs' : Value} {part : Int} (h : At w B L p d) (G : Got w L p m D d s F g vs vf)
    (k1 : Row w2 g [vs', .slice none 0 0, .bool F.syn] 62) (k2 : Own w2 0 vs' (F.safe ++ F.fresh.take (keepsOf F part))) (k3 : vs'.ownBlock = vs.ownBlock ∨ vs'.ownBlock = some w.heap.size) (k4 : Keep (fun b => b = g ∨ some b = vs.ownBlock) w w2) (left : Int) :
    (∃ L', At (w2.setCell ⟨p, 1, none⟩ (.int .i64 left)) B L' p { d with files := put d.files s (F.crash part), left := left } ∧ Step L L' w (w2.setCell ⟨p, 1, none⟩ (.int .i64 left))) ∧
    FRow (w2.setCell ⟨p, 1, none⟩ (.int .i64 left)) g vs' (.slice none 0 0) (F.crash part) ∧ Row w2 p (drow m d) 58 := by
  obtain ⟨L', l1, l2, l3⟩ := lab_new h G.ls k3 (own_lt k2)
  obtain ⟨x1, x2⟩ := h.write G (F' := F.crash part) G.found (k4.mono fun b _ hb => by rcases hb with hb | hb <;> simp [hb]) k1 k2 (Own.nil _ _) l1 l2 l3 (fun b hb => by simp [Value.ownBlock] at hb)
  have k5 := Keep.setCell w2 ⟨p, 1, none⟩ (.int .i64 left)
  have hpg := h.lab_pg G
  have hlp := (h.lab p (by rw [h.lp]; simp)).2
  have hvp : vs'.ownBlock ≠ some p := own_ne k3 (h.lab_ps G) hlp
  have h9 := crash_all F part
  have h10 := G.frow.lenS
  have h11 := G.frow.lenF
  refine ⟨⟨L', x1.row k5 (fun m hm => hm.set 1 _) rfl, x2.trans (x1.step k5)⟩, ⟨k1.other _ _ (fun e => hpg e.symm), k5.own k2 (fun b hb e => hvp (by rw [hb, e])), Own.nil _ _, ?_, by simp [Fil.crash], ?_⟩, k4.row G.row ?_⟩
  · show (F.safe ++ F.fresh.take (keepsOf F part)).length ≤ 100000000
    rw [List.length_append, List.length_take]
    have h13 := G.frow.all
    have : F.all.length = F.safe.length + F.fresh.length := by simp [Fil.all]
    omega
  · have h13 := G.frow.all
    omega
  · rintro (e | e)
    · exact hpg e
    · exact h.lab_ps G e.symm
set_option maxRecDepth 100000 in
set_option maxHeartbeats 4000000 in
theorem Crash_at (h : At w B L p d) (ht : total d.files ≤ 100000000) (hN : d.files.length ≤ 1000000) (hle : 0 ≤ d.left ∧ d.left ≤ 100000000) (hsn : ∀ s ∈ keys d.files, s.length ≤ maxLen)
    (v : Value) (ps : List Int) (hp : IsF w L v ps) :
    Calls Try.prog 11 #[pv p, v] w fun e w' => e = .returned (.int .i64 0) ∧ ∃ L', At w' B L' p (crashD d ps) ∧ Step L L' w w' := by
  have hnd := h.nodup
  obtain ⟨m0, hr0⟩ := h.cells
  have Hr0 := Lib.hid hr0
  have Hat := Lib.hid h
  have Hnames := Lib.hid (Names_at h hN)
  obtain ⟨Ap, cp, rfl, hcp, hpc⟩ := hp
  have Hpc := Lib.hid hpc
  have Hcp := Lib.hid hcp
  obtain ⟨ns, hns⟩ : ∃ ns, names d.files = ns := ⟨_, rfl⟩
  rw [hns] at Hnames
  have Hns := Lib.hid hns
  have Hnd := Lib.hid hnd
  have Hsn := Lib.hid hsn
  clear h hr0 hnd hpc hcp hns hsn
  unfold pv at *
  go_enter Try.func11, Try.ntmps11
  go_wp2_with (first
    | (go_at_call 28; refine (valid_row Hr0.out).mono ?_; rintro e w' ⟨rfl, rfl⟩)
    | (go_at_call 15; refine Hnames.out.mono ?_; rintro e w1 ⟨v1, rfl, ho, hb⟩
       obtain ⟨A1, c1, rfl, hc1, hcell⟩ := ho.cells
       have Hcell := Lib.hid hcell
       have Hc1 := Lib.hid hc1
       have Hb := Lib.hid hb
       clear ho hb hcell hc1)
    | fail)
  have H1 := Lib.hid (Hat.out.new Hb.out)
  have Hst1 := Lib.hid (Step.new (L := L) Hb.out)
  go_loopw [15] (fun iv wr => ∃ i : Nat, i ≤ ns.length ∧ iv = .int .i64 (i : Int) ∧ ∃ Li, At wr B Li p (crD d ns ps i) ∧ Step L Li w1 wr) (fun iv _ => ns.length - (intOf iv).toNat)
  case atStart => exact ⟨0, Nat.zero_le _, rfl, L, by rw [crD_zero]; exact H1.out, Step.refl _ _⟩
  case round =>
    obtain ⟨i, hi, rfl, Li, hat, hst⟩ := hrel
    have Ha := Lib.hid hat
    have Hs := Lib.hid hst
    clear hat hst
    have hnl : ns.length ≤ 1000000 := by rw [← Hns.out, names_len]; exact hN
    by_cases h1 : i < ns.length
    · have h1' : (i : Int) < (ns.length : Int) := by omega
      obtain ⟨g1, rfl, hg1, hg2, hcn⟩ := Hcell.out (by intro e; subst e; simp at h1)
      obtain ⟨s, hs⟩ : ∃ s, ns.getD i [] = s := ⟨_, rfl⟩
      have hsi : ns[i]? = some s := by rw [← hs]; exact getD_at h1 _
      have hsm : s ∈ keys d.files := by rw [← mem_names, Hns.out]; exact List.mem_of_getElem? hsi
      have hnn : ns.Nodup := by rw [← Hns.out]; exact names_nodup Hnd.out
      obtain ⟨F, hF⟩ := look_is hsm
      have hFi : look (crD d ns ps i).files s = some F := by
        show look (crF ns ps d.files i) s = some F
        rw [← hs, crF_at ns hnn ps d.files h1, hs]
        exact hF
      have hti : total (crD d ns ps i).files ≤ 100000000 := Nat.le_trans (crF_total_le ns ps d.files Hnd.out hnn (fun t ht2 => by rw [← mem_names, Hns.out]; exact ht2) i hi) ht
      obtain ⟨m, D, g, vs, vf, G⟩ := Ha.out.got (Hsn.out s hsm) hFi hti
      obtain ⟨pt, hpt⟩ : ∃ pt, ps.getD i 0 = pt := ⟨_, rfl⟩
      have hlen1 : w.heap.size ≤ w1.heap.size := Hb.out.size
      have cn : wr.cell? ⟨g1, i, none⟩ = some (sv s) := by
        rw [Hs.out.cell hg2 (by
          cases hL : L g1 with
          | none => rfl
          | some x => have := (Hat.out.lab g1 (by rw [hL]; simp)).2; omega)]
        exact hcn i s hsi
      have c0 : wr.cell? ⟨p, 0, none⟩ = some (.map (some m)) := G.row.cell rfl
      obtain ⟨li, hli⟩ : ∃ li, (crD d ns ps i).left = li := ⟨_, rfl⟩
      have c1 : wr.cell? ⟨p, 1, none⟩ = some (.int .i64 li) := by rw [← hli]; exact G.row.cell rfl
      have f1 : wr.frozen? ⟨p, 1, none⟩ = false := frozen_row G.row _
      have hrun : (Instr.lookup 56 (.map (some m)) (sv s) false).run Try.prog wr = .ok (.pointer (some ⟨g, 0, none⟩)) wr := G.run1 (Hsn.out s hsm)
      have htot := crash1_total pt (crF_nodup ns ps d.files Hnd.out i) hFi
      have hmt := mem_total (look_some hFi)
      have hall := crash_all F pt
      have hleft : li = d.left + (total d.files : Int) - (total (crF ns ps d.files i) : Int) := hli.symm
      have hti' : total (crF ns ps d.files i) ≤ 100000000 := hti
      have hmt' : F.all.length ≤ total (crF ns ps d.files i) := hmt
      have hw : IntKind.i64.wrap (li + (loses F pt : Int)) = li + (loses F pt : Int) := IntWalk.i64_in _ (by omega)
      have HG := Lib.hid G
      have hnext : ∀ (d2 : Dk), d2.files = crash1 (crF ns ps d.files i) s pt → d2.left = li + (loses F pt : Int) → d2.off = d.off → d2.fuse = d.fuse → crD d ns ps (i + 1) = d2 := by
        intro d2 e1 e2 e3 e4
        cases d2
        simp only at e1 e2 e3 e4
        subst e1 e2 e3 e4
        unfold crD
        have e5 : crF ns ps d.files (i + 1) = crash1 (crF ns ps d.files i) s pt := by
          show crash1 _ (ns.getD i []) (ps.getD i 0) = _
          rw [hs, hpt]
        rw [e5]
        congr 1
        have htot' : total (crash1 (crF ns ps d.files i) s pt) + loses F pt = total (crF ns ps d.files i) := htot
        omega
      have Hnext := Lib.hid hnext
      have HFi := Lib.hid hFi
      have Hli := Lib.hid hli
      have Hslen := Lib.hid (Hsn.out s hsm)
      have hstep : ∀ (v : Value) (cs : List Value), True := fun _ _ => trivial
      clear G hcn hsi hsm hF hFi hti htot hmt hall hleft hti' hmt' hnext hli hs hstep hlen1
      by_cases hpl : i < ps.length
      · have hpl' : (i : Int) < (ps.length : Int) := by omega
        obtain ⟨bp, offp, rfl, hp1, hp2, hp3⟩ := Hpc.out (by intro e; subst e; simp at hpl)
        have cp' : wr.cell? ⟨bp, offp + i, none⟩ = some (.int .i64 pt) := by
          rw [Hs.out.cell (Nat.lt_of_lt_of_le hp1 Hb.out.size) hp2, World.cell?_of_block (w := w) (w' := w1) (a := ⟨bp, offp + i, none⟩) (Hb.out.block bp hp1)]
          exact hp3 i pt (by rw [← hpt]; exact getD_at hpl 0)
        clear hp1 hp2 hp3 hpt
        cases hla : (F.crash pt).lasts with
        | true =>
          go_wp2_with fail
          go_region_with (go_at_call 29; refine (fcrash_at HG.out.frow.drew HG.out.ne1 HG.out.ne2 pt).mono ?_; rintro e w2 ⟨rfl, vs', k1, k2, k3, k4⟩; have K3 := Lib.hid k3; have K1 := Lib.hid k1; have K2 := Lib.hid k2; have K4 := Lib.hid k4.undrew; obtain ⟨_, _, hrw⟩ := Ha.out.crashed HG.out k1 k2 k3 k4.undrew 0; have c2 : w2.cell? ⟨p, 1, none⟩ = some (.int .i64 li) := (by rw [← Hli.out]; exact hrw.cell rfl); have f2 : w2.frozen? ⟨p, 1, none⟩ = false := frozen_row hrw _; clear k1 k2 k3 k4 hrw)
          all_goals
            obtain ⟨⟨L2, x1, x2⟩, x3, _⟩ := Ha.out.crashed HG.out K1.out K2.out K3.out K4.out (li + (loses F pt : Int))
            have X1 := Lib.hid x1
            have X2 := Lib.hid x2
            have X3 := Lib.hid x3
            clear x1 x2 x3 c0 c1 f1 c2 f2 hrun cn
            go_wp2_with (first
              | (go_at_call 30; refine (lasts_at X3.out).mono ?_; rintro e w' ⟨rfl, rfl⟩)
              | fail)
            go_roundw
            case rel =>
              refine ⟨i + 1, h1, by go_num, L2, ?_, Hs.out.trans X2.out⟩
              rw [Hnext.out { crD d ns ps i with files := put (crD d ns ps i).files s (F.crash pt), left := li + (loses F pt : Int) } (by unfold crash1; simp only [olds, show look (crF ns ps d.files i) s = some F from HFi.out, Option.getD_some, hla, if_true]; rfl) rfl rfl rfl]
              exact X1.out
            case measure => simp [intOf]; omega
        | false =>
          go_wp2_with fail
          go_region_with (go_at_call 29; refine (fcrash_at HG.out.frow.drew HG.out.ne1 HG.out.ne2 pt).mono ?_; rintro e w2 ⟨rfl, vs', k1, k2, k3, k4⟩; have K3 := Lib.hid k3; have K1 := Lib.hid k1; have K2 := Lib.hid k2; have K4 := Lib.hid k4.undrew; obtain ⟨_, _, hrw⟩ := Ha.out.crashed HG.out k1 k2 k3 k4.undrew 0; have c2 : w2.cell? ⟨p, 1, none⟩ = some (.int .i64 li) := (by rw [← Hli.out]; exact hrw.cell rfl); have f2 : w2.frozen? ⟨p, 1, none⟩ = false := frozen_row hrw _; clear k1 k2 k3 k4 hrw)
          all_goals
            obtain ⟨⟨L2, x1, x2⟩, x3, _⟩ := Ha.out.crashed HG.out K1.out K2.out K3.out K4.out (li + (loses F pt : Int))
            have X1 := Lib.hid x1
            have X2 := Lib.hid x2
            have X3 := Lib.hid x3
            obtain ⟨m3, D3, lm3, r3, f3⟩ := x1.is
            have c3 := r3.cell (i := 0) rfl
            have R3 := Lib.hid r3
            have F3 := Lib.hid f3
            have LM := Lib.hid lm3
            clear x1 x2 x3 c0 c1 f1 c2 f2 hrun cn r3 f3 lm3
            go_wp2_with (first
              | (go_at_call 30; refine (lasts_at X3.out).mono ?_; rintro e w' ⟨rfl, rfl⟩)
              | (at_delete; refine wpList_delete_own _ rfl _ _ 56 9 rfl 59 law_str Try.underlying56 refElem m3 (Maps.size D3) D3 rfl F3.out.map (sv s) (.string s) rfl (key_str (Hslen.out)) ?_; intro w4 hown4 hturn4; have HO4 := Lib.hid hown4; have HT4 := Lib.hid hturn4; clear hown4 hturn4)
              | fail)
            go_roundw
            case rel =>
              obtain ⟨y1, y2⟩ := X1.out.drop (d2 := { crD d ns ps i with files := del (crF ns ps d.files i) s, left := li + (loses F pt : Int) }) LM.out F3.out (Keep.refl _ _) R3.out HO4.out HT4.out (by show del _ s = del (put _ s _) s; rw [del_put]; rfl)
              refine ⟨i + 1, h1, by go_num, L2, ?_, (Hs.out.trans X2.out).trans y2⟩
              rw [Hnext.out { crD d ns ps i with files := del (crF ns ps d.files i) s, left := li + (loses F pt : Int) } (by unfold crash1; simp only [olds, show look (crF ns ps d.files i) s = some F from HFi.out, Option.getD_some, hla]; rfl) rfl rfl rfl]
              exact y1
            case measure => simp [intOf]; omega
      · have hpl' : ¬ (i : Int) < (ps.length : Int) := by omega
        have hpt0 : pt = 0 := by rw [← hpt, List.getD_eq_getElem?_getD, List.getElem?_eq_none (by omega)]; rfl
        subst hpt0
        clear hpt
        cases hla : (F.crash 0).lasts with
        | true =>
          go_wp2_with fail
          go_region_with (go_at_call 29; refine (fcrash_at HG.out.frow.drew HG.out.ne1 HG.out.ne2 0).mono ?_; rintro e w2 ⟨rfl, vs', k1, k2, k3, k4⟩; have K3 := Lib.hid k3; have K1 := Lib.hid k1; have K2 := Lib.hid k2; have K4 := Lib.hid k4.undrew; obtain ⟨_, _, hrw⟩ := Ha.out.crashed HG.out k1 k2 k3 k4.undrew 0; have c2 : w2.cell? ⟨p, 1, none⟩ = some (.int .i64 li) := (by rw [← Hli.out]; exact hrw.cell rfl); have f2 : w2.frozen? ⟨p, 1, none⟩ = false := frozen_row hrw _; clear k1 k2 k3 k4 hrw)
          all_goals
            obtain ⟨⟨L2, x1, x2⟩, x3, _⟩ := Ha.out.crashed HG.out K1.out K2.out K3.out K4.out (li + (loses F 0 : Int))
            have X1 := Lib.hid x1
            have X2 := Lib.hid x2
            have X3 := Lib.hid x3
            clear x1 x2 x3 c0 c1 f1 c2 f2 hrun cn
            go_wp2_with (first
              | (go_at_call 30; refine (lasts_at X3.out).mono ?_; rintro e w' ⟨rfl, rfl⟩)
              | fail)
            go_roundw
            case rel =>
              refine ⟨i + 1, h1, by go_num, L2, ?_, Hs.out.trans X2.out⟩
              rw [Hnext.out { crD d ns ps i with files := put (crD d ns ps i).files s (F.crash 0), left := li + (loses F 0 : Int) } (by unfold crash1; simp only [olds, show look (crF ns ps d.files i) s = some F from HFi.out, Option.getD_some, hla, if_true]; rfl) rfl rfl rfl]
              exact X1.out
            case measure => simp [intOf]; omega
        | false =>
          go_wp2_with fail
          go_region_with (go_at_call 29; refine (fcrash_at HG.out.frow.drew HG.out.ne1 HG.out.ne2 0).mono ?_; rintro e w2 ⟨rfl, vs', k1, k2, k3, k4⟩; have K3 := Lib.hid k3; have K1 := Lib.hid k1; have K2 := Lib.hid k2; have K4 := Lib.hid k4.undrew; obtain ⟨_, _, hrw⟩ := Ha.out.crashed HG.out k1 k2 k3 k4.undrew 0; have c2 : w2.cell? ⟨p, 1, none⟩ = some (.int .i64 li) := (by rw [← Hli.out]; exact hrw.cell rfl); have f2 : w2.frozen? ⟨p, 1, none⟩ = false := frozen_row hrw _; clear k1 k2 k3 k4 hrw)
          all_goals
            obtain ⟨⟨L2, x1, x2⟩, x3, _⟩ := Ha.out.crashed HG.out K1.out K2.out K3.out K4.out (li + (loses F 0 : Int))
            have X1 := Lib.hid x1
            have X2 := Lib.hid x2
            have X3 := Lib.hid x3
            obtain ⟨m3, D3, lm3, r3, f3⟩ := x1.is
            have c3 := r3.cell (i := 0) rfl
            have R3 := Lib.hid r3
            have F3 := Lib.hid f3
            have LM := Lib.hid lm3
            clear x1 x2 x3 c0 c1 f1 c2 f2 hrun cn r3 f3 lm3
            go_wp2_with (first
              | (go_at_call 30; refine (lasts_at X3.out).mono ?_; rintro e w' ⟨rfl, rfl⟩)
              | (at_delete; refine wpList_delete_own _ rfl _ _ 56 9 rfl 59 law_str Try.underlying56 refElem m3 (Maps.size D3) D3 rfl F3.out.map (sv s) (.string s) rfl (key_str (Hslen.out)) ?_; intro w4 hown4 hturn4; have HO4 := Lib.hid hown4; have HT4 := Lib.hid hturn4; clear hown4 hturn4)
              | fail)
            go_roundw
            case rel =>
              obtain ⟨y1, y2⟩ := X1.out.drop (d2 := { crD d ns ps i with files := del (crF ns ps d.files i) s, left := li + (loses F 0 : Int) }) LM.out F3.out (Keep.refl _ _) R3.out HO4.out HT4.out (by show del _ s = del (put _ s _) s; rw [del_put]; rfl)
              refine ⟨i + 1, h1, by go_num, L2, ?_, (Hs.out.trans X2.out).trans y2⟩
              rw [Hnext.out { crD d ns ps i with files := del (crF ns ps d.files i) s, left := li + (loses F 0 : Int) } (by unfold crash1; simp only [olds, show look (crF ns ps d.files i) s = some F from HFi.out, Option.getD_some, hla]; rfl) rfl rfl rfl]
              exact y1
            case measure => simp [intOf]; omega
    · have h1' : ¬ (i : Int) < (ns.length : Int) := by omega
      have hin : i = ns.length := by omega
      subst hin
      obtain ⟨m, hr⟩ := Ha.out.cells
      have c2 : wr.cell? ⟨p, 2, none⟩ = some (.bool d.off) := hr.cell rfl
      have c3 : wr.cell? ⟨p, 3, none⟩ = some (.int .i64 d.fuse) := hr.cell rfl
      have f2 : wr.frozen? ⟨p, 2, none⟩ = false := frozen_row hr _
      have f3 : wr.frozen? ⟨p, 3, none⟩ = false := frozen_row hr _
      clear hr
      go_wp2
      go_ret
      have e : crashD d ps = { crD d ns ps ns.length with off := false, fuse := -1 } := by
        unfold crashD
        rw [Hns.out]
      rw [e]
      have k := (Keep.setCell wr ⟨p, 2, none⟩ (.bool false)).trans (Keep.setCell (wr.setCell ⟨p, 2, none⟩ (.bool false)) ⟨p, 3, none⟩ (.int .i64 (-1)))
      exact ⟨rfl, Li, Ha.out.row k (fun m hm => (hm.set 2 _).set 3 _) rfl, (Hst1.out.trans Hs.out).trans (Ha.out.step k)⟩
end
end Go.Proofs.Ytgmmjnedgaeefaa.Dsk
