/- disk: Safe. -/
import Derived.Test.YtgmmjnedgaeefaaDskKeep
import Derived.Test.YtgmmjnedgaeefaaDskRead
import Derived.Test.YtgmmjnedgaeefaaDskTexts
namespace Go.Proofs.Ytgmmjnedgaeefaa.Dsk
open Go.RowKit Go.Maps Go.Sort Go.Shelf
set_option maxRecDepth 100000 in
theorem info_afile : ∃ i, Try.prog.info? 72 = some i ∧ i.zero = some (.agg #[.string ⟨#[]⟩, .slice none 0 0]) ∧ i.size = 2 ∧ i.bytes = 40 :=
  ⟨_, rfl, by kernel_rfl, by kernel_rfl, by kernel_rfl⟩
/-- A row of the call's own that holds these files. -/
def OwnF (w : World) (base : Nat) (v : Value) (l : List (Name × List UInt8)) : Prop := ∃ cs, w.ownsRow base 72 2 v l.length cs ∧
  ∀ (j : Nat) (t : Name × List UInt8), l[j]? = some t → cs[j * 2]? = some (sv t.1) ∧ ∃ x, cs[j * 2 + 1]? = some x ∧ Own w base x t.2 ∧ ∀ b, x.ownBlock = some b → v.ownBlock ≠ some b
theorem OwnF.nil (w : World) (base : Nat) : OwnF w base (.slice none 0 0) [] := ⟨[], World.ownsRow_nil w base 72 2, fun j t h => by simp at h⟩
theorem OwnF.shape {w : World} {base : Nat} {v : Value} {l : List (Name × List UInt8)} (h : OwnF w base v l) : ∃ A c, v = .slice A l.length c ∧ (∀ b, v.ownBlock = some b → b < w.heap.size ∧ base ≤ b) := by
  obtain ⟨cs, h1, _⟩ := h
  rcases h1.2 with ⟨rfl, hl⟩ | ⟨g, cap, cur, rfl, hb, hg, _⟩
  · exact ⟨none, 0, by rw [hl], fun b hb => by simp [Value.ownBlock] at hb⟩
  · exact ⟨_, cap, rfl, fun b hb' => by cases hb'; exact ⟨(Array.getElem?_eq_some_iff.1 hg).1, hb⟩⟩
theorem OwnF.below {w w' : World} {base : Nat} {v : Value} {l : List (Name × List UInt8)} (h : OwnF w base v l) (hb : Below w.heap.size w w') : OwnF w' base v l := by
  obtain ⟨cs, h1, h2⟩ := h
  refine ⟨cs, ⟨h1.1, ?_⟩, fun j t ht => ?_⟩
  · rcases h1.2 with h3 | ⟨g, cap, cur, e, hg, hgg, r⟩
    · exact .inl h3
    · exact .inr ⟨g, cap, cur, e, hg, by rw [hb.block g (Array.getElem?_eq_some_iff.1 hgg).1]; exact hgg, r⟩
  · obtain ⟨h3, x, h4, h5, h6⟩ := h2 j t ht
    exact ⟨h3, x, h4, h5.below hb (Nat.le_refl _), h6⟩
theorem OwnF.keep {S : Nat → Prop} {w w' : World} {base : Nat} {v : Value} {l : List (Name × List UInt8)} (h : OwnF w base v l) (hk : Keep S w w') (hS : ∀ b, base ≤ b → ¬ S b) : OwnF w' base v l := by
  obtain ⟨cs, h1, h2⟩ := h
  refine ⟨cs, ⟨h1.1, ?_⟩, fun j t ht => ?_⟩
  · rcases h1.2 with h3 | ⟨g, cap, cur, e, hg, hgg, r⟩
    · exact .inl h3
    · exact .inr ⟨g, cap, cur, e, hg, by rw [hk.block g (Array.getElem?_eq_some_iff.1 hgg).1 (hS g hg)]; exact hgg, r⟩
  · obtain ⟨h3, x, h4, h5, h6⟩ := h2 j t ht
    refine ⟨h3, x, h4, ⟨h5.1, ?_⟩, h6⟩
    rcases h5.2 with h7 | ⟨g, cap, cur, e, hg, hgg, r⟩
    · exact .inl h7
    · exact .inr ⟨g, cap, cur, e, hg, by rw [hk.block g (Array.getElem?_eq_some_iff.1 hgg).1 (hS g hg)]; exact hgg, r⟩
/-- append of one file. -/
theorem run_app_file (w : World) {base : Nat} {v x : Value} {l : List (Name × List UInt8)} {s : Name} {t : List UInt8} {g : Nat} (ty : TypeId) (hown : OwnF w base v l) (hrow : Row w g [sv s, x] 72) (hx : Own w base x t) (hx2 : ∀ b, x.ownBlock = some b → v.ownBlock ≠ some b)
    (hlen : l.length ≤ 1000000) (hbase : base ≤ w.heap.size) :
    ∃ v' w', (Builtin.append_ #[46, 46] ty #[v, .slice (some ⟨g, 0, none⟩) 1 1]).run Try.prog w = .ok v' w' ∧ OwnF w' base v' (l ++ [(s, t)]) ∧ w.grownBy w' v.ownBlock ∧ (v'.ownBlock = v.ownBlock ∨ v'.ownBlock = some w.heap.size) := by
  obtain ⟨i, hi, hz, hs, hb⟩ := info_afile
  obtain ⟨cs, h1, h2⟩ := hown
  have hcl : cs.length = l.length * 2 := h1.1
  obtain ⟨v', w', k1, k2, k3, _, k5⟩ := run_append_own_at (P := Try.prog) w base 46 ty 72 i _ 2 40 Try.underlying46 hi hz hs hb rfl (by decide) v l.length cs h1 ⟨g, 0, none⟩ 1 1 [sv s, x] rfl
    (by
      intro j u hj
      rw [show (⟨g, 0, none⟩ : Addr).add j = ⟨g, j, none⟩ by unfold Addr.add; split <;> simp_all]
      exact hrow.cell hj)
    (by
      intro u hu
      simp only [List.mem_cons, List.not_mem_nil, or_false] at hu
      rcases hu with rfl | rfl
      · rfl
      · obtain ⟨A, c, rfl⟩ := hx.shape; rfl) (by unfold maxLen; omega) (by omega) hbase
  have hk : ∀ (y : Value) (m : List UInt8), Own w base y m → (∀ b, y.ownBlock = some b → v.ownBlock ≠ some b) → Own w' base y m ∧ ∀ b, y.ownBlock = some b → v'.ownBlock ≠ some b := by
    intro y m hy hne
    constructor
    · refine hy.kept k3 ?_
      cases hyb : y.ownBlock with
      | none => exact .inl rfl
      | some b => exact .inr fun e => hne b hyb e.symm
    · intro b hyb e
      rcases k5 with k5 | k5
      · exact hne b hyb (k5 ▸ e)
      · rw [k5] at e
        have := (hy.block_ge hyb).2
        cases e
        omega
  refine ⟨v', w', k1, ⟨cs ++ [sv s, x], by rw [List.length_append]; exact k2, fun j t' ht => ?_⟩, k3, k5⟩
  rcases Nat.lt_or_ge j l.length with hj | hj
  · rw [List.getElem?_append_left hj] at ht
    obtain ⟨h3, y, h4, h5, h6⟩ := h2 j t' ht
    obtain ⟨h7, h8⟩ := hk y t'.2 h5 h6
    exact ⟨by rw [List.getElem?_append_left (by omega)]; exact h3, y, by rw [List.getElem?_append_left (by omega)]; exact h4, h7, h8⟩
  · rw [List.getElem?_append_right hj] at ht
    have : j = l.length := by
      have := (List.getElem?_eq_some_iff.1 ht).1
      simp at this
      omega
    subst this
    simp at ht
    subst ht
    obtain ⟨h7, h8⟩ := hk x t hx hx2
    exact ⟨by rw [List.getElem?_append_right (by omega), hcl]; simp, x, by rw [List.getElem?_append_right (by omega), hcl, show l.length * 2 + 1 - l.length * 2 = 1 by omega]; rfl, h7, h8⟩
theorem wpList_app_file (w : World) {ops : Array Oper} {rest : List Oper} {o : Oper} {a : Act} {Q : Exit → Act → World → Prop} (hgd : o.guard = none) (so xo : Operand)
    (ho : o.op = .call { callee := .builtin .append, args := #[so, xo], argTypes := #[46, 46] }) {base : Nat} {v x : Value} {l : List (Name × List UInt8)} {s : Name} {t : List UInt8} {g : Nat} (hs : a.eval so = v) (hown : OwnF w base v l) (hy : a.eval xo = .slice (some ⟨g, 0, none⟩) 1 1)
    (hrow : Row w g [sv s, x] 72) (hx : Own w base x t) (hx2 : ∀ b, x.ownBlock = some b → v.ownBlock ≠ some b) (hlen : l.length ≤ 1000000) (hbase : base ≤ w.heap.size)
    (h : ∀ v' w', OwnF w' base v' (l ++ [(s, t)]) → w.grownBy w' v.ownBlock → (v'.ownBlock = v.ownBlock ∨ v'.ownBlock = some w.heap.size) → wpList Try.prog ops Q rest (a.put o.dst v') w') : wpList Try.prog ops Q (o :: rest) a w := by
  refine wpList_plain hgd fun K hK => ?_
  obtain ⟨v', w', hr, h2, h3, h4⟩ := run_app_file w o.type hown hrow hx hx2 hlen hbase
  unfold Oper.wp execOp
  simp only [ho, resolve, invoke, builtin, Sem.run_bind, Sem.run_pure, Result.andThen_ok, List.map_toArray, List.map_cons, List.map_nil, hs, hy, hr]
  exact hK _ _ (h v' w' h2 h3 h4)
theorem safes_at {l : Fs} {j : Nat} {s : Name} {F : Fil} (hs : (names l)[j]? = some s) (hF : look l s = some F) : ((names l).take (j + 1)).filterMap (safeOne l) = ((names l).take j).filterMap (safeOne l) ++ (if F.lasts = true then [(s, F.safe)] else []) := by
  rw [List.take_add_one, hs, List.filterMap_append]
  congr 1
  have e : safeOne l s = if F.lasts = true then some (s, F.safe) else none := by simp [safeOne, hF]
  simp only [Option.toList_some, List.filterMap_cons, List.filterMap_nil, e]
  cases F.lasts <;> rfl
theorem OwnF.less {w : World} {base base' : Nat} {v : Value} {l : List (Name × List UInt8)} (h : OwnF w base v l) (hb : base' ≤ base) : OwnF w base' v l := by
  obtain ⟨cs, h1, h2⟩ := h
  refine ⟨cs, ⟨h1.1, ?_⟩, fun j t ht => by
    obtain ⟨h3, x, h4, h5, h6⟩ := h2 j t ht
    exact ⟨h3, x, h4, h5.less hb, h6⟩⟩
  rcases h1.2 with h3 | ⟨g, cap, cur, e, hg, r⟩
  · exact .inl h3
  · exact .inr ⟨g, cap, cur, e, by omega, r⟩
set_option maxRecDepth 100000 in
set_option maxHeartbeats 4000000 in
theorem Safe_at {w : World} {B : Nat} {L : Lab} {p : Nat} {d : Dk} (h : At w B L p d) (ht : total d.files ≤ 100000000) (hN : d.files.length ≤ 1000000) (hsn : ∀ s ∈ keys d.files, s.length ≤ maxLen) :
    Calls Try.prog 22 #[pv p] w fun e w' => ∃ v, e = .returned v ∧ OwnF w' w.heap.size v (safesOf d.files) ∧ Below w.heap.size w w' := by
  have Hat := Lib.hid h
  have Hnames := Lib.hid (Names_at h hN)
  obtain ⟨ns, hns⟩ : ∃ ns, names d.files = ns := ⟨_, rfl⟩
  rw [hns] at Hnames
  have Hns := Lib.hid hns
  have Hsn := Lib.hid hsn
  have HN := Lib.hid hN
  clear h hns hsn hN
  unfold pv at *
  go_enter Try.func22, Try.ntmps22
  go_wp2_with (first
    | (go_at_call 15; refine Hnames.out.mono ?_; rintro e w1 ⟨v1, rfl, ho, hb⟩
       obtain ⟨A1, c1, rfl, hc1, hcell⟩ := ho.cells
       have Hcell := Lib.hid hcell
       have Hc1 := Lib.hid hc1
       have Hb := Lib.hid hb
       clear ho hb hcell hc1)
    | fail)
  have HSn : Hid (ns.length ≤ 1000000) := by
    have h1 : ns.length ≤ 1000000 := by rw [← Hns.out, names_len]; exact HN.out
    exact h1
  have Ht := Lib.hid ht
  clear ht
  go_loopw [10, 3] (fun iv av wr => ∃ i : Nat, i ≤ ns.length ∧ iv = .int .i64 (i : Int) ∧ OwnF wr w1.heap.size av ((ns.take i).filterMap (safeOne d.files)) ∧ Below w1.heap.size w1 wr) (fun iv _ _ => ns.length - (intOf iv).toNat)
  case atStart => exact ⟨0, Nat.zero_le _, rfl, OwnF.nil _ _, Below.refl _ _⟩
  case round =>
    obtain ⟨i, hi, rfl, ho, hb1⟩ := hrel
    rename_i av _
    have HO := Lib.hid ho
    have HB1 := Lib.hid hb1
    clear ho hb1
    have hnl := HSn.out
    by_cases h1 : i < ns.length
    · have h1' : (i : Int) < (ns.length : Int) := by omega
      obtain ⟨g1, rfl, hg1, hg2, hcn⟩ := Hcell.out (by intro e; subst e; simp at h1)
      obtain ⟨s, hsi⟩ : ∃ s, ns[i]? = some s := ⟨_, List.getElem?_eq_getElem h1⟩
      have hsm : s ∈ keys d.files := by rw [← mem_names, Hns.out]; exact List.mem_of_getElem? hsi
      obtain ⟨F, hF⟩ := look_is hsm
      have cn : wr.cell? ⟨g1, i, none⟩ = some (.string { data := s.toArray }) := (HB1.out.cell (p := ⟨g1, i, none⟩) hg2).trans (hcn i s hsi)
      have hat := ((Hat.out.new Hb.out).new HB1.out)
      obtain ⟨m, D, g, vs, vf, G⟩ := hat.got (Hsn.out s hsm) hF Ht.out
      have c0 : wr.cell? ⟨p, 0, none⟩ = some (.map (some m)) := G.row.cell rfl
      have cg : wr.cell? ⟨g, 0, none⟩ = some vs := G.frow.row.cell rfl
      have hrun : (Instr.lookup 56 (.map (some m)) (.string { data := s.toArray }) false).run Try.prog wr = .ok (.pointer (some ⟨g, 0, none⟩)) wr := G.run1 (Hsn.out s hsm)
      have HG := Lib.hid G
      have hstep := safes_at (l := d.files) (j := i) (s := s) (F := F) (by rw [Hns.out]; exact hsi) hF
      rw [Hns.out] at hstep
      have Hlen : Hid (([F.safe] : List (List UInt8)).flatten.length ≤ 100000000) := by
        have h2 := mem_total (look_some hF)
        have h3 := Ht.out
        have h2 : ([F.safe] : List (List UInt8)).flatten.length ≤ 100000000 := by
          simp only [List.flatten_cons, List.flatten_nil, List.append_nil]
          simp only [Fil.all, List.length_append] at h2
          omega
        exact h2
      clear G hat hcn hsi hsm hF
      cases hla : F.lasts with
      | false =>
        rw [hla] at hstep
        have Hstep := Lib.hid hstep
        clear hstep
        go_wp2_with (first
          | (go_at_call 30; refine (lasts_at HG.out.frow).mono ?_; rintro e w' ⟨rfl, rfl⟩)
          | fail)
        go_roundw
        case rel => exact ⟨i + 1, h1, by go_num, by rw [Hstep.out]; simpa using HO.out, HB1.out⟩
        case measure => simp [intOf]; omega
      | true =>
        rw [hla] at hstep
        have Hstep := Lib.hid hstep
        have hfl : ((ns.take i).filterMap (safeOne d.files)).length ≤ 1000000 := Nat.le_trans (List.length_filterMap_le _ _) (by rw [List.length_take]; have := HSn.out; omega)
        have Hfl := Lib.hid hfl
        obtain ⟨A5, n5, e5⟩ := HG.out.frow.safe.shape
        subst e5
        have Hbss := Lib.hid (bss_one (w := wr) HG.out.frow.safe.bs)
        obtain ⟨A3, n3, rfl, hav⟩ := HO.out.shape
        have Hav := Lib.hid hav
        clear hstep hfl hav
        go_wp2_with (first
          | (go_at_call 30; refine (lasts_at HG.out.frow).mono ?_; rintro e w' ⟨rfl, rfl⟩)
          | (go_at_call 31; refine (Concat_own _ [F.safe] _ Hbss.out (by simp) Hlen.out).mono ?_; rintro e w2 ⟨v3, rfl, hb, hbe⟩
             simp only [List.flatten_cons, List.flatten_nil, List.append_nil] at hb
             obtain ⟨A4, n4, rfl⟩ := hb.shape
             have HO3 := Lib.hid hb
             have HB3 := Lib.hid (show Below wr.heap.size wr w2 from ((Below.refl wr.heap.size wr).alloc (Nat.le_refl _) _).trans (hbe.mono (by simp)))
             clear hb hbe)
          | (at_builtin; go_loud (refine wpList_app_file (v := .slice A3 ((ns.take i).filterMap (safeOne d.files)).length n3) (x := .slice A4 F.safe.length n4) (s := s) (t := F.safe) (g := w2.heap.size) _ rfl (.tmp 22) (.tmp 31) rfl ?_ ((HO.out.below HB3.out).below ((Below.refl _ w2).alloc (Nat.le_refl _) _)) ?_ (Row.new rfl rfl) (((HO3.out.less (by have := HB1.out.size; simp; omega))).below ((Below.refl _ w2).alloc (Nat.le_refl _) _) (Nat.le_refl _)) ?_ Hfl.out ?_ ?_)
             · rfl
             · rfl
             · intro b hb e
               have h5 := (HO3.out.block_ge hb).1
               have h6 := (Hav.out b e).1
               simp at h5
               omega
             · have := HB1.out.size; have := HB3.out.size; simp; omega
             intro v4 w4 ho4 hg4 _
             have HO4 := Lib.hid ho4
             have HB4 := Lib.hid (((HB1.out.trans (HB3.out.mono HB1.out.size)).alloc (by have := HB1.out.size; have := HB3.out.size; omega) _).grown hg4 (by have := HB1.out.size; have := HB3.out.size; simp; omega) (fun k hk => (Hav.out k hk).2))
             clear ho4 hg4)
          | fail)
        go_roundw
        case rel => exact ⟨i + 1, h1, by go_num, by rw [Hstep.out]; exact HO4.out, HB4.out⟩
        case measure => simp [intOf]; omega
    · have h1' : ¬ (i : Int) < (ns.length : Int) := by omega
      have hin : i = ns.length := by omega
      subst hin
      have ho := HO.out
      rw [List.take_length] at ho
      have HX := Lib.hid ho
      clear ho
      go_wp2
      go_ret
      exact ⟨_, rfl, by unfold safesOf; rw [Hns.out]; exact HX.out.less Hb.out.size, Hb.out.trans (HB1.out.mono Hb.out.size)⟩
end Go.Proofs.Ytgmmjnedgaeefaa.Dsk
