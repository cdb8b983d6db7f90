/- config.Bytes. -/
import Derived.Test.YtiogadhgbkpemaaU64s
import Derived.Test.YtiogadhgbkpemaaCfgEnc
import Derived.Test.YtiogadhgbkpemaaRdLoop
import Derived.Test.YtiogadhgbkpemaaStr
namespace Go.Proofs.Ytiogadhgbkpemaa.Cfg
open Go.RowKit Num
set_option maxRecDepth 100000 in
set_option maxHeartbeats 1000000 in
theorem appNums_any {w : World} {base : Nat} {vb vn : Value} {l : List UInt8} {ns : List Nat} (hb : Own w base vb l) (hn : U64s w vb.ownBlock vn ns) (hx : ∀ n ∈ ns, n < 2 ^ 64) (hl : l.length + 9 * ns.length ≤ 1000000000) (hbase : base ≤ w.heap.size) :
    Calls Try.prog 43 #[vb, vn] w fun e w' => ∃ v', e = .returned v' ∧ Grow w w' vb v' base (l ++ encs ns) := by
  obtain ⟨A, c, rfl, hc⟩ := hn.shape
  have Hn := Lib.hid hn
  have Hx := Lib.hid hx
  have Hg := Lib.hid (show Grow w w vb vb base (l ++ encs (ns.take 0)) by simpa [encs] using Grow.refl hb)
  clear hn hx hb
  go_enter Try.func43, Try.ntmps43
  go_wp2_with fail
  go_loopw [0, 9] (fun v i wr => ∃ k : Nat, k ≤ ns.length ∧ i = .int .i64 (k : Int) ∧ Hid (Grow w wr vb v base (l ++ encs (ns.take k)))) (fun _ i _ => ns.length - (intOf i).toNat)
  case atStart => exact ⟨0, Nat.zero_le _, rfl, Hg⟩
  case round =>
    obtain ⟨k, hk, rfl, hgr⟩ := hrel
    by_cases hlt : k < ns.length
    · obtain ⟨x, hxk⟩ : ∃ x, ns[k]? = some x := ⟨_, List.getElem?_eq_getElem hlt⟩
      obtain ⟨b, off, rfl, hcell⟩ := (Hn.out.grown hgr.out.keep).at hxk
      have Hxk := Lib.hid hxk
      have Hlt := Lib.hid (Hx.out x (List.mem_of_getElem? hxk))
      have Hlen := Lib.hid (show (encs (ns.take k)).length + (Oct.enc x).length ≤ 9 * ns.length by
        have h1 := encs_le (ns := ns.take (k + 1)) fun n hn => Hx.out n (List.mem_of_mem_take hn)
        rw [encs_take hxk, List.length_append, List.length_take] at h1
        have : 9 * min (k + 1) ns.length ≤ 9 * ns.length := Nat.mul_le_mul_left _ (Nat.min_le_right _ _)
        omega)
      clear hxk
      go_wp2_with fail
      refine (Number_any _ [] x _ (Bs.nil _ _ _ _) Hlt.out (by simp)).mono ?_
      rintro e w1 ⟨y, rfl, ho, hb1⟩
      have HG1 := Lib.hid (hgr.out.below hb1)
      have HY := Lib.hid (show Bs w1 w1.heap.size y (Oct.enc x) by simpa using ho.bs)
      clear ho hb1 hcell
      go_wp2_with (at_builtin; refine wpList_app_bytes _ rfl _ _ rfl rfl HG1.out.own rfl HY.out (by rw [List.length_append]; have := Hlen.out; omega) (Nat.le_trans hbase HG1.out.keep.size) ?_; intro v2 w2 hown2 hg2 hblk2)
      have HG2 := Lib.hid (HG1.out.trans (l' := l ++ encs (ns.take k) ++ Oct.enc x) ⟨hown2, hg2, hblk2.imp_right fun e => ⟨_, e, Nat.le_refl _⟩⟩)
      clear hown2 hg2 hblk2
      go_roundw
      case rel => exact ⟨k + 1, by omega, by go_num, Lib.hid (by rw [encs_take Hxk.out, ← List.append_assoc]; exact HG2.out)⟩
      case measure => simp [intOf]; omega
    · have hkl : k = ns.length := by omega
      have Hkl := Lib.hid hkl
      clear hkl
      go_wp2
      go_ret
      refine ⟨_, rfl, ?_⟩
      have := hgr.out
      rwa [Hkl.out, List.take_length] at this
end Go.Proofs.Ytiogadhgbkpemaa.Cfg
namespace Go.Proofs.Ytiogadhgbkpemaa.Cfg
open Go.RowKit CpA RdK
set_option maxRecDepth 100000 in
theorem number_bool (b : Bool) (w : World) : Calls Try.prog 44 #[.bool b] w fun e w' => e = .returned (.int .u64 (bnat b : Int)) ∧ w = w' := by
  cases b
  all_goals
    go_enter Try.func44, Try.ntmps44
    go_wp2
    go_ret
    exact ⟨rfl, rfl⟩
theorem address_any {w : World} {lo g : Nat} {l : List UInt8} {at_ err : Nat} (h : Rd w lo g l at_ err) : Calls Try.prog 50 #[.pointer (some ⟨g, 0, none⟩)] w fun e w' =>
    e = .returned (.int .u32 ((rdUpto l at_ err 4294967295).1 : Nat)) ∧ Rd w' lo g l (rdUpto l at_ err 4294967295).2.1 (rdUpto l at_ err 4294967295).2.2 ∧ w.grownBy w' (some g) := by
  obtain ⟨x, a1, e1, hrd⟩ : ∃ x a e, rdUpto l at_ err 4294967295 = (x, a, e) := ⟨_, _, _, rfl⟩
  have hx : x ≤ 4294967295 := by have := RdP.upto_le l at_ err 4294967295; rwa [hrd] at this
  have hf := Upto_any 4294967295 h
  rw [hrd] at hf ⊢
  have Hf := Lib.hid hf
  have hw := wrap_u32 x hx
  clear hf h hx hrd
  go_enter Try.func50, Try.ntmps50
  go_wp2_with fail
  refine Hf.out.mono ?_
  rintro e w1 ⟨rfl, hr, hg⟩
  have Hr := Lib.hid hr
  have Hg := Lib.hid hg
  clear hr hg
  go_wp2
  go_ret
  exact ⟨rfl, Hr.out, Hg.out⟩
theorem l_a32 {w : World} {g : Nat} {r : List UInt8} (h : Row w g (r.map bv) 43) (hk : r.length = 32) : (loadVar 43 ⟨g, 0, none⟩).run Try.prog w = .ok (arr8 r) w := by
  rw [Pol.run_loadVar_sub (off := 0) (n := 32) w h Try.underlying43 rfl (by kernel_rfl) (by rw [List.length_map]; omega), List.drop_zero, List.take_of_length_le (by rw [List.length_map]; omega)]
  rfl
set_option maxRecDepth 100000 in
set_option maxHeartbeats 1000000 in
theorem key_any {w : World} {lo g : Nat} {l : List UInt8} {at_ err : Nat} (h : Rd w lo g l at_ err) : Calls Try.prog 49 #[.pointer (some ⟨g, 0, none⟩)] w fun e w' =>
    e = .returned (arr8 (padTo 32 (rdFixed l at_ err 32).1)) ∧ Rd w' lo g l (rdFixed l at_ err 32).2.1 (rdFixed l at_ err 32).2.2 ∧ w.grownBy w' (some g) := by
  obtain ⟨V, hV⟩ : ∃ V, (w.alloc (.cells ((zn 32).map bv).toArray 43)).alloc (.cells ((zn 32).map bv).toArray 43) = V := ⟨_, rfl⟩
  have hB : Below w.heap.size w V := hV ▸ ((Below.refl _ w).alloc (Nat.le_refl _) _).alloc (by simp) _
  have HV := Lib.hid (Rd.below h hB (rd_lt h))
  have HG := Lib.hid (rd_lt h)
  have HB := Lib.hid hB
  have HA := Lib.hid (show Row V w.heap.size ((zn 32).map bv) 43 from hV ▸ (Row.new rfl rfl).alloc _)
  have HZ := Lib.hid (show Row V (w.heap.size + 1) ((zn 32).map bv) 43 from hV ▸ Row.new (by simp) rfl)
  have HS := Lib.hid (show V.heap.size = w.heap.size + 1 + 1 by rw [← hV]; simp)
  obtain ⟨L, a1, e1, hrd⟩ : ∃ x a e, rdFixed l at_ err 32 = (x, a, e) := ⟨_, _, _, rfl⟩
  have HL := Lib.hid (show L.length ≤ 32 by have := RdP.fixed_len l at_ err 32; rw [show ((32 : Nat) : Int) = 32 from rfl, hrd] at this; exact this)
  have hf := Fixed_any 32 (show Rd V.drew lo g l at_ err from HV.out)
  rw [hrd] at hf
  have Hf := Lib.hid hf
  clear hf
  rw [hrd]
  clear hB h hrd
  go_enter Try.func49, Try.ntmps49
  go_wp2_with fail
  refine code_world hV ?_
  clear hV
  go_region_law (first
    | (refine CpA.step_copy_arr 32 rfl (.tmp 4) (.tmp 6) rfl rfl rfl Ho.out.bs HL.out HZr.out ?_
       intro w2 hr2 hk2
       have HZ2 := Lib.hid hr2
       have HK2 := Lib.hid hk2
       clear hr2 hk2)
    | (go_simp
       refine Hf.out.mono ?_
       rintro e w1 ⟨v, rfl, ho, hr, hg⟩
       have Ho := Lib.hid ho
       have Hr := Lib.hid hr
       have Hg := Lib.hid hg
       have HZr := Lib.hid (row_grown (w := V.drew) HZ.out hg (by have := HG.out; omega))
       have HAr := Lib.hid (row_grown (w := V.drew) HA.out hg (by have := HG.out; omega))
       clear ho hr hg))
  have HR2 := Lib.hid (row_keep HAr.out HK2.out (by omega))
  have HLd := Lib.hid (l_a32 HZ2.out (padTo_length HL.out))
  have HOm := Lib.hid (show ((padTo 32 L).map bv).length = 32 by rw [List.length_map]; exact padTo_length HL.out)
  have h12 := keep_only HK2.out
  have h02 : w.grownBy w2 (some g) := only_new (only_trans (only_of_below HB.out (some g)) (only_trans (only_drew V (some g)) Hg.out)) h12 (by omega)
  have Hr2 := Lib.hid (Hr.out.grown h12 (fun k hk => by injection hk with hk; have := HG.out; exact .inl (by omega)))
  have H02 := Lib.hid h02
  clear h12 h02
  go_wp2_with (first
    | (refine QB.wpList_ld 43 rfl rfl HLd.out rfl ?_)
    | (show wpList _ _ _ (⟨none, Op.store 43 _ _, _, _, _, _⟩ :: _) _ _; refine wpList_storeRow (g := w.heap.size) rfl 43 _ _ rfl rfl rfl (cs := (padTo 32 L).map bv) HR2.out (by kernel_rfl) HOm.out (by simp [zn]) (one_bytes _) ?_)
    | fail)
  refine bodyPost_ret (results_row rfl _ rfl (HR2.out.setRow ((padTo 32 L).map bv)) Try.underlying43 rfl (by kernel_rfl) HOm.out) rfl ?_
  have hs := only_setRow (w := w2) (g := w.heap.size) ((padTo 32 L).map bv).toArray
  exact ⟨rfl, Hr2.out.grown hs (fun k hk => by injection hk with hk; have := HG.out; exact .inl (by omega)), only_new H02.out hs (Nat.le_refl _)⟩
end Go.Proofs.Ytiogadhgbkpemaa.Cfg
namespace Go.Proofs.Ytiogadhgbkpemaa.Cfg
open Go.RowKit Num RdK
/-- Bytes of one's own since W1. -/
structure BSt (W1 w : World) (v : Value) (l : List UInt8) : Prop where
  own : Own w W1.heap.size v l
  keep : Below W1.heap.size W1 w
theorem BSt.below {W1 w V : World} {v : Value} {l : List UInt8} (h : BSt W1 w v l) (k : Below w.heap.size w V) : BSt W1 V v l := ⟨h.own.below k (Nat.le_refl _), nextB h.keep (Nat.le_refl _) k⟩
theorem BSt.app {W1 w V : World} {v v' : Value} {l l' : List UInt8} (h : BSt W1 w v l) (k : Grow w V v v' W1.heap.size l') : BSt W1 V v' l' :=
  ⟨k.own, h.keep.trans (k.under h.own (Nat.le_refl _) h.keep.size)⟩
theorem BSt.put {W1 w V : World} {v v' : Value} {l l' : List UInt8} (h : BSt W1 w v l) (ho : Own V W1.heap.size v' l') (hg : w.grownBy V v.ownBlock) : BSt W1 V v' l' :=
  ⟨ho, h.keep.grown hg h.keep.size fun k hk => (h.own.block_ge hk).1⟩
theorem wrap_u64n (n : Nat) (h : n ≤ 4294967296) : IntKind.u64.wrap (n : Int) = (n : Int) := by simp [IntKind.wrap, IntKind.bits, IntKind.signed]; omega
theorem calls_name {P : Program} {f : FuncId} {args : Array Value} {w : World} {Q : Ending → World → Prop} (h : ∀ W, w = W → Calls P f args W Q) : Calls P f args w Q := h w rfl
/-- A new row of numbers beside it. -/
theorem num_build {W1 w V : World} {ns : List Nat} {t : TypeId} {v : Value} {l : List UInt8} (h : BSt W1 w v l) (hV : w.alloc (.cells (ns.map u64v).toArray t) = V) : U64s V v.ownBlock (.slice (some ⟨w.heap.size, 0, none⟩) ns.length ns.length) ns ∧ BSt W1 V v l := by
  have hb : Below w.heap.size w V := hV ▸ (Below.refl _ w).alloc (Nat.le_refl _) _
  refine ⟨u64s_new (t := t) (hV ▸ Row.new rfl rfl) fun e => ?_, h.below hb⟩
  have := (h.own.block_ge e).2
  omega
theorem grow_row {V w4 : World} {v v4 : Value} {base g : Nat} {l : List UInt8} {cs : List Value} {t : TypeId} (h : Grow V w4 v v4 base l) (hr : Row V g cs t) (hne : v.ownBlock ≠ some g) : Row w4 g cs t ∧ v4.ownBlock ≠ some g := by
  refine ⟨?_, ?_⟩
  · unfold Row
    rw [h.keep.block g hr.lt (fun e => hne e.symm)]
    exact hr
  · rcases h.blk with e | ⟨k, e, hk⟩
    · rw [e]; exact hne
    · rw [e]
      intro e2
      injection e2 with e2
      have := hr.lt
      omega
theorem BSt.away {W1 w : World} {v : Value} {l : List UInt8} (h : BSt W1 w v l) : v.ownBlock ≠ some w.heap.size := fun e => by have := (h.own.block_ge e).2; omega
theorem flat_le {α : Type} {f : α → List UInt8} {K : Nat} : ∀ {l : List α}, (∀ x ∈ l, (f x).length ≤ K) → (l.flatMap f).length ≤ K * l.length
  | [], _ => by simp
  | x :: r, h => by
    have h1 := flat_le (f := f) (l := r) fun y hy => h y (List.mem_cons_of_mem _ hy)
    have h2 := h x List.mem_cons_self
    rw [List.flatMap_cons, List.length_append, List.length_cons, Nat.mul_add]
    omega
theorem mb_len {m : Mb} (h : m.Fit) : m.enc.length ≤ 50 := by
  have hid := isIDB_in h.1
  have h1 := enc_le (n := m.id.toNat) (by omega)
  have h2 := enc_le (n := bnat m.off) (by cases m.off <;> decide)
  have h3 := h.2
  unfold Mb.enc
  rw [List.length_append, List.length_append]
  omega
theorem rt_len {m : Rt} (h : m.Fit) : m.enc.length ≤ 27 := by
  have hid := isIDB_in h.2.2
  have h1 := enc_le (n := m.addr.toNat) (by have := h.1; omega)
  have h2 := enc_le (n := m.bits.toNat) (by have := h.2.1; omega)
  have h3 := enc_le (n := m.peer.toNat) (by omega)
  unfold Rt.enc
  rw [List.length_append, List.length_append]
  omega
theorem mb33 {m : Mb} (h : m.ky.length = 32) : m.cs[33]? = some (.bool m.off) := by
  show (m.ky.map bv ++ [.bool m.off])[32]? = _
  rw [List.getElem?_append_right (by rw [List.length_map]; omega), List.length_map, h]
  rfl
theorem bs_key {w : World} {g : Nat} {m : Mb} (h : Row w g m.cs 97) (hk : m.ky.length = 32) : Bs w w.heap.size (.slice (some ⟨g, 1, none⟩) 32 32) m.ky := by
  refine ⟨some ⟨g, 1, none⟩, 32, by rw [hk], by omega, fun _ => ⟨g, 1, rfl, h.lt, fun i u hu => h.cell ?_⟩⟩
  rw [Nat.add_comm 1 i]
  show (m.ky.map bv ++ [.bool m.off])[i]? = _
  have := (List.getElem?_eq_some_iff.1 hu).1
  rw [List.getElem?_append_left (by rw [List.length_map]; exact this), List.getElem?_map, hu]
  rfl
theorem Bytes_no {w : World} {B : Nat} {vp vr : Value} {c : Cf} (h : CAt w B vp vr c) (hB : B ≤ w.heap.size) (hV : ¬ Val c) : Calls Try.prog 15 #[.agg #[vp, vr]] w fun e w' => e = .returned (.tuple #[.slice none 0 0, .int .i64 2]) ∧ Below w.heap.size w w' := by
  obtain ⟨A1, n1, A2, n2, rfl, rfl⟩ := h.shape
  obtain ⟨W0, hW0⟩ : ∃ W0, w.alloc (.cells #[.slice A1 c.ps.length n1, .slice A2 c.rs.length n2] 27) = W0 := ⟨_, rfl⟩
  have hr0 : Row W0 w.heap.size [.slice A1 c.ps.length n1, .slice A2 c.rs.length n2] 27 := hW0 ▸ Row.new rfl rfl
  have hb0 : Below w.heap.size w W0 := hW0 ▸ (Below.refl _ w).alloc (Nat.le_refl _) _
  have HC := Lib.hid (Check_any (h.below (hb0.mono hB)) (Nat.le_trans hB hb0.size))
  have HB0 := Lib.hid hb0
  rw [show checkZ c = 2 from if_neg hV] at HC
  have c0 := hr0.cell (i := 0) rfl
  have c1 := hr0.cell (i := 1) rfl
  clear h hV hb0 hr0
  go_enter Try.func15, Try.ntmps15
  go_wp2_with fail
  refine HC.out.mono ?_
  rintro e w1 ⟨rfl, hb1⟩
  have HB1 := Lib.hid (nextB HB0.out (Nat.le_refl _) hb1)
  clear c0 c1 hb1
  go_wp2
  go_ret2
  exact ⟨rfl, HB1.out⟩
def Halt (p : Prop) : Prop := p
set_option maxRecDepth 100000 in
set_option maxHeartbeats 4000000 in
theorem Bytes_ok {w : World} {B : Nat} {vp vr : Value} {c : Cf} (h : CAt w B vp vr c) (hB : B ≤ w.heap.size) (hV : Val c) (ha : ∀ r ∈ c.rs, 0 ≤ r.addr ∧ r.addr ≤ 4294967295) : Calls Try.prog 15 #[.agg #[vp, vr]] w fun e w' => ∃ v, e = .returned (.tuple #[v, .int .i64 0]) ∧ Own w' w.heap.size v (cenc c) ∧ Below w.heap.size w w' := by
  obtain ⟨A1, n1, A2, n2, rfl, rfl⟩ := h.shape
  obtain ⟨W0, hW0⟩ : ∃ W0, w.alloc (.cells #[.slice A1 c.ps.length n1, .slice A2 c.rs.length n2] 27) = W0 := ⟨_, rfl⟩
  have hr0 : Row W0 w.heap.size [.slice A1 c.ps.length n1, .slice A2 c.rs.length n2] 27 := hW0 ▸ Row.new rfl rfl
  have hb0 : Below w.heap.size w W0 := hW0 ▸ (Below.refl _ w).alloc (Nat.le_refl _) _
  have HC := Lib.hid (Check_any (h.below (hb0.mono hB)) (Nat.le_trans hB hb0.size))
  have HB0 := Lib.hid hb0
  have HR0 := Lib.hid hr0
  have HA := Lib.hid (h.below (hb0.mono hB))
  have HBw := Lib.hid (Nat.le_trans hB hb0.size)
  obtain ⟨f1, f2⟩ := hV.fits h.ps.1 ha
  have HF1 := Lib.hid f1
  have HF2 := Lib.hid f2
  have HN1 := Lib.hid hV.1
  have HN2 := Lib.hid hV.2.1
  rw [show checkZ c = 0 from if_pos hV] at HC
  have c0 := hr0.cell (i := 0) rfl
  have c1 := hr0.cell (i := 1) rfl
  clear h hV hb0 hr0 f1 f2 ha hB
  go_enter Try.func15, Try.ntmps15
  go_wp2_with fail
  clear hW0 c0 c1
  refine HC.out.mono ?_
  rintro e W1 ⟨rfl, hb1⟩
  have HB1 := Lib.hid (nextB HB0.out (Nat.le_refl _) hb1)
  have HA1 := Lib.hid ((HA.out.below (hb1.mono HBw.out)).more (Nat.le_trans HBw.out hb1.size))
  have HR1 := Lib.hid (HR0.out.below hb1 HR0.out.lt)
  have FP := Lib.hid (fun w' (h : Below W1.heap.size W1 w') => (h.cell (p := ⟨w.heap.size, 0, none⟩) HR1.out.lt).trans (HR1.out.cell (i := 0) rfl))
  have FR := Lib.hid (fun w' (h : Below W1.heap.size W1 w') => (h.cell (p := ⟨w.heap.size, 1, none⟩) HR1.out.lt).trans (HR1.out.cell (i := 1) rfl))
  clear hb1 HC HA HR0 HB0
  have hwn1 : IntKind.u64.wrap (c.ps.length : Int) = (c.ps.length : Int) := wrap_u64n _ (by have := HN1.out; omega)
  have hwn2 : IntKind.u64.wrap (c.rs.length : Int) = (c.rs.length : Int) := wrap_u64n _ (by have := HN2.out; omega)
  have c0 := FP.out W1 (Below.refl _ _)
  go_wp2_with fail
  clear c0
  refine calls_name fun V hV => ?_
  obtain ⟨hn, hs⟩ := num_build (ns := [c.ps.length]) (⟨Own.nil _ _, Below.refl _ _⟩ : BSt W1 W1 (.slice none 0 0) []) hV
  have HS := Lib.hid hs
  clear hV hs
  refine (appNums_any HS.out.own hn (by intro n hn; have := HN1.out; simp only [List.mem_cons, List.not_mem_nil, or_false] at hn; omega) (by simp) HS.out.keep.size).mono ?_
  rintro e w2 ⟨v2, rfl, hg⟩
  have HS2 := Lib.hid (show BSt W1 w2 v2 (Oct.enc c.ps.length) by have := HS.out.app hg; simpa [encs] using this)
  clear hg hn
  have c0 := FP.out w2 HS2.out.keep
  go_wp2_with fail
  clear c0
  go_loopw [5, 24] (fun v iv wr => ∃ i : Nat, i ≤ c.ps.length ∧ iv = .int .i64 (i : Int) ∧ Hid (BSt W1 wr v (Oct.enc c.ps.length ++ (c.ps.take i).flatMap Mb.enc))) (fun _ iv _ => c.ps.length - (intOf iv).toNat)
  case atStart => exact ⟨0, Nat.zero_le _, rfl, Lib.hid (by simpa using HS2.out)⟩
  case round =>
    obtain ⟨i, hi, rfl, hs⟩ := hrel
    have hi2 : (i : Int) ≤ 64 := by have := HN1.out; omega
    by_cases hlt : i < c.ps.length
    · obtain ⟨m, hm⟩ : ∃ m, c.ps[i]? = some m := ⟨_, List.getElem?_eq_getElem hlt⟩
      obtain ⟨hfi, hkm⟩ := HF1.out m (List.mem_of_getElem? hm)
      obtain ⟨b0, off, e0, _, _, hld⟩ := (HA1.out.ps.below hs.out.keep).at hm
      have HT := Lib.hid (show (c.ps.take (i + 1)).flatMap Mb.enc = (c.ps.take i).flatMap Mb.enc ++ m.enc by rw [List.take_add_one, hm, List.flatMap_append]; simp)
      have HM := Lib.hid (List.mem_of_getElem? hm)
      have HLD := Lib.hid hld
      have HK := Lib.hid hkm
      obtain ⟨id, ky, of⟩ := m
      have hid := isIDB_in hfi
      obtain ⟨idn, rfl⟩ : ∃ n : Nat, id = (n : Int) := ⟨id.toNat, by simp only at hid; omega⟩
      have HID := Lib.hid (show idn ≤ 65536 by simp only at hid; omega)
      have hwid := wrap_u64n idn (by have := HID.out; omega)
      subst e0
      clear hm hfi hkm hld hid
      have hlen : Hid ((Oct.enc c.ps.length ++ (c.ps.take i).flatMap Mb.enc).length ≤ 100000) := Lib.hid (by
        have h1 := flat_le (f := Mb.enc) (K := 50) (l := c.ps.take i) fun x hx => mb_len (HF1.out x (List.mem_of_mem_take hx))
        have h2 := enc_le (n := c.ps.length) (by have := HN1.out; omega)
        have h3 := HN1.out
        rw [List.length_take] at h1
        rw [List.length_append]
        omega)
      have hne := Lib.hid hs.out.away
      have HLT := Lib.hid hlt
      go_wp2_with (first
        | (refine QB.wpList_ld 97 rfl rfl HLD.out rfl ?_)
        | (refine QB.wpList_alloc rfl 97 rfl zero_mb ?_; intro W2 hr2 hb2; have HR2 := Lib.hid (show Row W2 wr.heap.size (Mb.cs ⟨0, zkey, false⟩) 97 from hr2); have HB2 := Lib.hid hb2; clear hr2 hb2)
        | (refine wpList_storeRow rfl 97 (.tmp 7) (.tmp 27) rfl rfl (cs := Mb.cs ⟨(idn : Int), ky, of⟩) rfl HR2.out (by kernel_rfl) (Mb.len HK.out) (Mb.len rfl) (Mb.one _) ?_
           refine QB.name fun W hW => ?_
           have HRW := Lib.hid (show Row W wr.heap.size (Mb.cs ⟨(idn : Int), ky, of⟩) 97 from hW ▸ HR2.out.setRow _)
           have HSW := Lib.hid (hs.out.below (show Below wr.heap.size wr W from hW ▸ below_setRow HB2.out (Nat.le_refl _) _))
           have m0 := HRW.out.cell (i := 0) rfl
           clear hW HR2 HB2 HLD)
        | fail)
      clear m0
      refine calls_name fun V hV => ?_
      obtain ⟨hn, hs3⟩ := num_build (ns := [idn]) HSW.out hV
      have HS3 := Lib.hid hs3
      have HRV := Lib.hid (show Row V wr.heap.size (Mb.cs ⟨(idn : Int), ky, of⟩) 97 from hV ▸ HRW.out.alloc _)
      clear hV hs3
      refine (appNums_any HS3.out.own hn (by intro n hn; have := HID.out; simp only [List.mem_cons, List.not_mem_nil, or_false] at hn; omega) (by have := hlen.out; simp only [List.length_cons, List.length_nil]; omega) HS3.out.keep.size).mono ?_
      rintro e w4 ⟨v4, rfl, hg⟩
      have HS4 := Lib.hid (HS3.out.app hg)
      obtain ⟨hr4, hne4⟩ := grow_row hg HRV.out hne.out
      have HR4 := Lib.hid hr4
      have HNE4 := Lib.hid hne4
      clear hg hn hr4 hne4
      go_wp2_with (at_builtin
                   refine wpList_app_bytes _ rfl _ _ rfl rfl HS4.out.own rfl (bs_key HR4.out HK.out) (by have := hlen.out; have := HK.out; have := encs_le (ns := [idn]) (by intro n hn; have := HID.out; simp only [List.mem_cons, List.not_mem_nil, or_false] at hn; omega); rw [List.length_append]; simp only [List.length_cons, List.length_nil] at this; simp only at *; omega) HS4.out.keep.size ?_
                   intro v5 w5 hown5 hg5 hblk5
                   have HG5 := Lib.hid (show Grow w4 w5 v4 v5 W1.heap.size _ from ⟨hown5, hg5, hblk5.imp_right fun e => ⟨_, e, Nat.le_refl _⟩⟩)
                   have HS5 := Lib.hid (HS4.out.app HG5.out)
                   have HR5 := Lib.hid (grow_row HG5.out HR4.out HNE4.out)
                   clear hown5 hg5 hblk5
                   have m33 := HR5.out.1.cell (i := 33) (mb33 HK.out))
      clear m33
      refine (number_bool of _).mono ?_
      rintro e w5' ⟨rfl, rfl⟩
      go_wp2_with fail
      refine calls_name fun V6 hV => ?_
      obtain ⟨hn, hs6⟩ := num_build (ns := [bnat of]) HS5.out hV
      have HS6 := Lib.hid hs6
      clear hV hs6
      refine (appNums_any HS6.out.own hn (by intro n hn; simp only [List.mem_cons, List.not_mem_nil, or_false] at hn; subst hn; cases of <;> decide) (by have := hlen.out; have := HK.out; have := encs_le (ns := [idn]) (by intro n hn; have := HID.out; simp only [List.mem_cons, List.not_mem_nil, or_false] at hn; omega); rw [List.length_append, List.length_append]; simp only [List.length_cons, List.length_nil] at *; omega) HS6.out.keep.size).mono ?_
      rintro e w7 ⟨v7, rfl, hg⟩
      have HS7 := Lib.hid (HS6.out.app hg)
      clear hg hn
      go_wp2_with fail
      go_roundw
      case rel =>
        refine ⟨i + 1, by have := HLT.out; omega, by go_num, Lib.hid ?_⟩
        rw [HT.out]
        have := HS7.out
        simpa [encs, Mb.enc] using this
      case measure => have := HLT.out; simp [intOf]; omega
    · have HS3 := Lib.hid (show BSt W1 wr u5 (Oct.enc c.ps.length ++ c.ps.flatMap Mb.enc) by
        have h := hs.out
        rwa [show i = c.ps.length by omega, List.take_length] at h)
      have hlen : Hid ((Oct.enc c.ps.length ++ c.ps.flatMap Mb.enc).length ≤ 100000) := Lib.hid (by
        have h1 := flat_le (f := Mb.enc) (K := 50) (l := c.ps) fun x hx => mb_len (HF1.out x hx)
        have h2 := enc_le (n := c.ps.length) (by have := HN1.out; omega)
        have h3 := HN1.out
        rw [List.length_append]
        omega)
      clear hs hi2
      have c1 := FR.out wr HS3.out.keep
      go_wp2_with fail
      clear c1
      refine calls_name fun V hV => ?_
      obtain ⟨hn, hs⟩ := num_build (ns := [c.rs.length]) HS3.out hV
      have HS := Lib.hid hs
      clear hV hs
      refine (appNums_any HS.out.own hn (by intro n hn; have := HN2.out; simp only [List.mem_cons, List.not_mem_nil, or_false] at hn; omega) (by have := hlen.out; simp only [List.length_cons, List.length_nil]; omega) HS.out.keep.size).mono ?_
      rintro e w4 ⟨v4, rfl, hg⟩
      have HS4 := Lib.hid (show BSt W1 w4 v4 (Oct.enc c.ps.length ++ c.ps.flatMap Mb.enc ++ Oct.enc c.rs.length) by have := HS.out.app hg; simpa [encs] using this)
      have hlen4 : Hid ((Oct.enc c.ps.length ++ c.ps.flatMap Mb.enc ++ Oct.enc c.rs.length).length ≤ 100009) := Lib.hid (by
        have h1 := hlen.out
        have h2 := enc_le (n := c.rs.length) (by have := HN2.out; omega)
        rw [List.length_append]
        omega)
      clear hg hn hlen
      have c1 := FR.out w4 HS4.out.keep
      go_wp2_with fail
      clear c1
      go_loopw [5, 55] (fun v jv wr => ∃ j : Nat, j ≤ c.rs.length ∧ jv = .int .i64 (j : Int) ∧ Hid (BSt W1 wr v (Oct.enc c.ps.length ++ c.ps.flatMap Mb.enc ++ Oct.enc c.rs.length ++ (c.rs.take j).flatMap Rt.enc))) (fun _ jv _ => c.rs.length - (intOf jv).toNat)
      case atStart => exact ⟨0, Nat.zero_le _, rfl, Lib.hid (by simpa using HS4.out)⟩
      case round =>
        obtain ⟨j, hj, rfl, hs⟩ := hrel
        have hj2 : (j : Int) ≤ 256 := by have := HN2.out; omega
        by_cases hjlt : j < c.rs.length
        · obtain ⟨m, hm⟩ : ∃ m, c.rs[j]? = some m := ⟨_, List.getElem?_eq_getElem hjlt⟩
          have hfi := HF2.out m (List.mem_of_getElem? hm)
          obtain ⟨b1, off, e0, _, _, hld⟩ := (HA1.out.rs.below hs.out.keep).at hm
          have HT := Lib.hid (show (c.rs.take (j + 1)).flatMap Rt.enc = (c.rs.take j).flatMap Rt.enc ++ m.enc by rw [List.take_add_one, hm, List.flatMap_append]; simp)
          have HLD := Lib.hid hld
          obtain ⟨x, y, z⟩ := m
          obtain ⟨⟨hx0, hx1⟩, ⟨hy0, hy1⟩, hz⟩ := hfi
          have hid := isIDB_in hz
          simp only at hx0 hx1 hy0 hy1 hid
          obtain ⟨xn, rfl⟩ : ∃ n : Nat, x = (n : Int) := ⟨x.toNat, by omega⟩
          obtain ⟨yn, rfl⟩ : ∃ n : Nat, y = (n : Int) := ⟨y.toNat, by omega⟩
          obtain ⟨zn', rfl⟩ : ∃ n : Nat, z = (n : Int) := ⟨z.toNat, by omega⟩
          have HB := Lib.hid (show xn ≤ 4294967295 ∧ yn ≤ 32 ∧ zn' ≤ 65536 by omega)
          have hwx := wrap_u64n xn (by have := HB.out; omega)
          have hwy := wrap_u64n yn (by have := HB.out; omega)
          have hwz := wrap_u64n zn' (by have := HB.out; omega)
          subst e0
          clear hm hld hid hx0 hx1 hy0 hy1 hz
          have hlen : Hid ((Oct.enc c.ps.length ++ c.ps.flatMap Mb.enc ++ Oct.enc c.rs.length ++ (c.rs.take j).flatMap Rt.enc).length ≤ 200000) := Lib.hid (by
            have h1 := flat_le (f := Rt.enc) (K := 27) (l := c.rs.take j) fun x hx => rt_len (HF2.out x (List.mem_of_mem_take hx))
            have h2 := hlen4.out
            have h3 := HN2.out
            rw [List.length_take] at h1
            rw [List.length_append]
            omega)
          have HLT := Lib.hid hjlt
          go_wp2_with (first
            | (refine QB.wpList_ld 100 rfl rfl HLD.out rfl ?_)
            | (refine QB.wpList_alloc rfl 100 rfl zero_rt ?_; intro W2 hr2 hb2; have HR2 := Lib.hid (show Row W2 wr.heap.size (Rt.cs ⟨0, 0, 0⟩) 100 from hr2); have HB2 := Lib.hid hb2; clear hr2 hb2)
            | (refine wpList_storeRow rfl 100 (.tmp 9) (.tmp 58) rfl rfl (cs := Rt.cs ⟨(xn : Int), (yn : Int), (zn' : Int)⟩) rfl HR2.out (by kernel_rfl) rfl rfl (Rt.one _) ?_
               refine QB.name fun W hW => ?_
               have hRW : Row W wr.heap.size (Rt.cs ⟨(xn : Int), (yn : Int), (zn' : Int)⟩) 100 := hW ▸ HR2.out.setRow _
               have HSW := Lib.hid (hs.out.below (show Below wr.heap.size wr W from hW ▸ below_setRow HB2.out (Nat.le_refl _) _))
               have m0 := hRW.cell (i := 0) rfl
               have m1 := hRW.cell (i := 1) rfl
               have m2 := hRW.cell (i := 2) rfl
               clear hW hRW HR2 HB2 HLD)
            | fail)
          clear m0 m1 m2
          refine calls_name fun V hV => ?_
          obtain ⟨hn, hs3⟩ := num_build (ns := [xn, yn, zn']) HSW.out hV
          have HS3 := Lib.hid hs3
          clear hV hs3
          refine (appNums_any HS3.out.own hn (by intro n hn; have := HB.out; simp only [List.mem_cons, List.not_mem_nil, or_false] at hn; omega) (by have := hlen.out; simp only [List.length_cons, List.length_nil]; omega) HS3.out.keep.size).mono ?_
          rintro e w4 ⟨v4, rfl, hg⟩
          have HS4 := Lib.hid (HS3.out.app hg)
          clear hg hn
          go_wp2_with fail
          go_roundw
          case rel =>
            refine ⟨j + 1, by have := HLT.out; omega, by go_num, Lib.hid ?_⟩
            rw [HT.out]
            have := HS4.out
            simpa [encs, Rt.enc] using this
          case measure => have := HLT.out; simp [intOf]; omega
        · have HS5 := Lib.hid (show BSt W1 wr u5 (cenc c) by
            have h := hs.out
            rw [show j = c.rs.length by omega, List.take_length] at h
            simpa [cenc] using h)
          clear hs hj2
          go_wp2
          go_ret2
          exact ⟨_, rfl, HS5.out.own.less HB1.out.size, nextB HB1.out (Nat.le_refl _) HS5.out.keep⟩
end Go.Proofs.Ytiogadhgbkpemaa.Cfg
