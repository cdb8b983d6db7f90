/- wire.Bytes. -/
import Derived.Test.YtedmogacklbcmaaCfgReadOp
import Derived.Test.YtedmogacklbcmaaWirTab
import Derived.Test.YtedmogacklbcmaaOctRest
namespace Go.Proofs.Ytedmogacklbcmaa.Wir
open Go.RowKit Num
set_option maxRecDepth 100000 in
set_option maxHeartbeats 1000000 in
theorem appNums_any {w : World} {base : Nat} {vb vn : Value} {l : List UInt8} {ns : List Nat} (hb : Own w base vb l) (hn : U64s w vb.ownBlock vn ns) (hx : ∀ n ∈ ns, n < 2 ^ 64) (hl : l.length + 9 * ns.length ≤ 1000000000) (hbase : base ≤ w.heap.size) :
    Calls Try.prog 65 #[vb, vn] w fun e w' => ∃ v', e = .returned v' ∧ Grow w w' vb v' base (l ++ encs ns) := by
  obtain ⟨A, c, rfl, hc⟩ := hn.shape
  have Hn := Lib.hid hn
  have Hx := Lib.hid hx
  have Hg := Lib.hid (show Grow w w vb vb base (l ++ encs (ns.take 0)) by simpa [encs] using Grow.refl hb)
  clear hn hx hb
  go_enter Try.func65, Try.ntmps65
  go_wp2_with fail
  go_loopw [0, 9] (fun v i wr => ∃ k : Nat, k ≤ ns.length ∧ i = .int .i64 (k : Int) ∧ Hid (Grow w wr vb v base (l ++ encs (ns.take k)))) (fun _ i _ => ns.length - (intOf i).toNat)
  case atStart => exact ⟨0, Nat.zero_le _, rfl, Hg⟩
  case round =>
    obtain ⟨k, hk, rfl, hgr⟩ := hrel
    by_cases hlt : k < ns.length
    · obtain ⟨x, hxk⟩ : ∃ x, ns[k]? = some x := ⟨_, List.getElem?_eq_getElem hlt⟩
      obtain ⟨b, off, rfl, hcell⟩ := (Hn.out.grown hgr.out.keep).at hxk
      have Hxk := Lib.hid hxk
      have Hlt := Lib.hid (Hx.out x (List.mem_of_getElem? hxk))
      have Hlen := Lib.hid (show (encs (ns.take k)).length + (Oct.enc x).length ≤ 9 * ns.length by
        have h1 := encs_le (ns := ns.take (k + 1)) fun n hn => Hx.out n (List.mem_of_mem_take hn)
        rw [encs_take hxk, List.length_append, List.length_take] at h1
        have : 9 * min (k + 1) ns.length ≤ 9 * ns.length := Nat.mul_le_mul_left _ (Nat.min_le_right _ _)
        omega)
      clear hxk
      go_wp2_with fail
      refine (Number_any _ [] x _ (Bs.nil _ _ _ _) Hlt.out (by simp)).mono ?_
      rintro e w1 ⟨y, rfl, ho, hb1⟩
      have HG1 := Lib.hid (hgr.out.below hb1)
      have HY := Lib.hid (show Bs w1 w1.heap.size y (Oct.enc x) by simpa using ho.bs)
      clear ho hb1 hcell
      go_wp2_with (at_builtin; refine wpList_app_bytes _ rfl _ _ rfl rfl HG1.out.own rfl HY.out (by rw [List.length_append]; have := Hlen.out; omega) (Nat.le_trans hbase HG1.out.keep.size) ?_; intro v2 w2 hown2 hg2 hblk2)
      have HG2 := Lib.hid (HG1.out.trans (l' := l ++ encs (ns.take k) ++ Oct.enc x) ⟨hown2, hg2, hblk2.imp_right fun e => ⟨_, e, Nat.le_refl _⟩⟩)
      clear hown2 hg2 hblk2
      go_roundw
      case rel => exact ⟨k + 1, by omega, by go_num, Lib.hid (by rw [encs_take Hxk.out, ← List.append_assoc]; exact HG2.out)⟩
      case measure => simp [intOf]; omega
    · have hkl : k = ns.length := by omega
      have Hkl := Lib.hid hkl
      clear hkl
      go_wp2
      go_ret
      refine ⟨_, rfl, ?_⟩
      have := hgr.out
      rwa [Hkl.out, List.take_length] at this
end Go.Proofs.Ytedmogacklbcmaa.Wir
namespace Go.Proofs.Ytedmogacklbcmaa.Wir
open Go.RowKit Cfg Num
def blk (l : List UInt8) : List UInt8 := Oct.enc l.length ++ l
def En.enc (e : En) : List UInt8 := encs [e.kind.toNat, e.ep.toNat, e.ix.toNat] ++ (if e.kind = 1 then blk e.op.enc else if e.kind = 2 then encs [e.sid.toNat] ++ encs [e.peer.toNat] ++ e.sec else encs [e.sid.toNat])
/-- The ranges of its numbers' kinds. -/
structure En.R (e : En) : Prop where
  ep : 0 ≤ e.ep ∧ e.ep ≤ 4294967295
  ix : 0 ≤ e.ix ∧ e.ix < 18446744073709551616
  sid : 0 ≤ e.sid ∧ e.sid < 18446744073709551616
  addr : 0 ≤ e.op.addr ∧ e.op.addr ≤ 4294967295
  ref : 0 ≤ e.op.ref ∧ e.op.ref < 18446744073709551616
theorem bs_entsec {w : World} {g : Nat} {e : En} (h : Row w g e.cs 49) (hk : e.K) : Bs w w.heap.size (.slice (some ⟨g, 42, none⟩) 32 32) e.sec := by
  refine ⟨some ⟨g, 42, none⟩, 32, by rw [hk.2], by rw [hk.2]; exact Nat.le_refl _, fun _ => ⟨g, 42, rfl, h.lt, fun i u hu => h.cell ?_⟩⟩
  rw [show 42 + i = 40 + (i + 1 + 1) by omega, En.tail hk]
  show (e.sec.map bv)[i]? = _
  rw [List.getElem?_map, hu]
  rfl
theorem op_len {o : Opn} (hV : okO o = true) (hk : o.ky.length = 32) (ha : 0 ≤ o.addr ∧ o.addr ≤ 4294967295) (hr : 0 ≤ o.ref ∧ o.ref < 18446744073709551616) : o.enc.length ≤ 100 := by
  obtain ⟨f1, f2, f3⟩ := okO_fit hV ha
  have h1 := Num.enc_le (n := o.kind.toNat) (by omega)
  have h2 := Num.enc_le (n := o.ref.toNat) (by omega)
  have h3 := Num.enc_le (n := o.id.toNat) (by omega)
  have h4 := Num.enc_le (n := o.addr.toNat) (by omega)
  have h5 := Num.enc_le (n := o.bits.toNat) (by omega)
  unfold Opn.enc
  simp only [List.length_append]
  omega
theorem okE_kind {e : En} (h : okE e = true) : e.kind = 1 ∨ e.kind = 2 ∨ e.kind = 3 := by
  simp only [okE, Bool.and_eq_true, Bool.or_eq_true, decide_eq_true_eq] at h
  rcases h with ⟨⟨⟨⟨⟨⟨(h | h) | h, _⟩, _⟩, _⟩, _⟩, _⟩, _⟩ <;> simp [h]
theorem okE_op {e : En} (h : okE e = true) (h1 : e.kind = 1) : okO e.op = true := by
  simp only [okE, Bool.and_eq_true, Bool.or_eq_true, decide_eq_true_eq] at h
  rcases h.1.1.2 with h | h
  · exact absurd h1 h
  · exact h
theorem okE_peer {e : En} (h : okE e = true) (h2 : e.kind = 2) : 1 ≤ e.peer ∧ e.peer ≤ 65536 := by
  simp only [okE, Bool.and_eq_true, Bool.or_eq_true, decide_eq_true_eq] at h
  rcases h.2 with h | h
  · exact absurd h2 h
  · exact isIDB_in h
set_option maxRecDepth 100000 in
theorem EntryBytes_no {w : World} {e : En} (hk : e.K) (hV : okE e ≠ true) : Calls Try.prog 23 #[e.val] w fun r w' => r = .returned (.tuple #[.slice none 0 0, .int .i64 2]) ∧ Below w.heap.size w w' := by
  obtain ⟨W0, hW0⟩ : ∃ W0, w.alloc (.cells e.cs.toArray 49) = W0 := ⟨_, rfl⟩
  have hr0 : Row W0 w.heap.size e.cs 49 := hW0 ▸ Row.new rfl rfl
  have hb0 : Below w.heap.size w W0 := hW0 ▸ (Below.refl _ w).alloc (Nat.le_refl _) _
  have HC := Lib.hid (CheckEntry_any e hk W0)
  have HB0 := Lib.hid hb0
  have HLD := Lib.hid (l_ent hr0 hk)
  rw [show checkEntZ e = 2 from if_neg hV] at HC
  clear hV hb0 hr0
  unfold En.val at HC HLD ⊢
  go_enter Try.func23, Try.ntmps23
  go_wp2_with (first | (refine QB.wpList_ld 49 rfl rfl HLD.out rfl ?_; clear HLD) | fail)
  clear hW0
  refine HC.out.mono ?_
  rintro r w1 ⟨rfl, hb1⟩
  have HB1 := Lib.hid (nextB HB0.out (Nat.le_refl _) hb1)
  clear hb1
  go_wp2
  go_ret2
  exact ⟨rfl, HB1.out⟩
set_option maxRecDepth 100000 in
set_option maxHeartbeats 4000000 in
theorem EntryBytes_1 {w : World} {e : En} (hk : e.K) (hV : okE e = true) (hR : e.R) (hkd : e.kind = 1) : Calls Try.prog 23 #[e.val] w fun r w' => ∃ v, r = .returned (.tuple #[v, .int .i64 0]) ∧ Own w' w.heap.size v e.enc ∧ Below w.heap.size w w' := by
  obtain ⟨W0, hW0⟩ : ∃ W0, w.alloc (.cells e.cs.toArray 49) = W0 := ⟨_, rfl⟩
  have hr0 : Row W0 w.heap.size e.cs 49 := hW0 ▸ Row.new rfl rfl
  have hb0 : Below w.heap.size w W0 := hW0 ▸ (Below.refl _ w).alloc (Nat.le_refl _) _
  have HC := Lib.hid (CheckEntry_any e hk W0)
  have HB0 := Lib.hid hb0
  have HR0 := Lib.hid hr0
  have HLD := Lib.hid (l_ent hr0 hk)
  rw [show checkEntZ e = 0 from if_pos hV] at HC
  have HOK := Lib.hid (okE_op hV hkd)
  obtain ⟨r1, r2, r3, r4, r5⟩ := hR
  obtain ⟨kind, ep, ix, o, sid, peer, sec⟩ := e
  simp only at r1 r2 r3 r4 r5 hkd
  obtain ⟨k', rfl⟩ : ∃ n : Nat, kind = (n : Int) := ⟨kind.toNat, by omega⟩
  obtain ⟨p', rfl⟩ : ∃ n : Nat, ep = (n : Int) := ⟨ep.toNat, by omega⟩
  obtain ⟨x', rfl⟩ : ∃ n : Nat, ix = (n : Int) := ⟨ix.toNat, by omega⟩
  obtain ⟨s', rfl⟩ : ∃ n : Nat, sid = (n : Int) := ⟨sid.toNat, by omega⟩
  have HF := Lib.hid (show k' = 1 ∧ p' ≤ 4294967295 ∧ x' < 18446744073709551616 ∧ s' < 18446744073709551616 by omega)
  have HO := Lib.hid (And.intro r4 r5)
  have HK := Lib.hid hk
  have HEF := Lib.hid (show entF (k' : Int) = 1 by rw [hkd]; rfl)
  have HOL := Lib.hid (show o.enc.length ≤ 200 from Nat.le_trans (op_len HOK.out HK.out.1 HO.out.1 HO.out.2) (by decide))
  have HE := Lib.hid (show (⟨(k' : Int), (p' : Int), (x' : Int), o, (s' : Int), peer, sec⟩ : En).enc = encs [k', p', x'] ++ Oct.enc o.enc.length ++ o.enc by unfold En.enc; simp only []; rw [if_pos (show (k' : Int) = 1 by omega)]; simp [blk])
  have hwk := wrap_u64n k' (by have := HF.out; omega)
  have hwp := wrap_u64n p' (by have := HF.out; omega)
  clear hV hb0 hr0 r1 r2 r3 r4 r5 hk hkd
  unfold En.val at HC HLD ⊢
  go_enter Try.func23, Try.ntmps23
  go_wp2_with (first | (refine QB.wpList_ld 49 rfl rfl HLD.out rfl ?_; clear HLD) | fail)
  clear hW0
  refine HC.out.mono ?_
  rintro r W1 ⟨rfl, hb1⟩
  have HB1 := Lib.hid (nextB HB0.out (Nat.le_refl _) hb1)
  have HR1 := Lib.hid (HR0.out.below hb1 HR0.out.lt)
  clear hb1 HC HR0 HB0
  have m0 := HR1.out.cell (i := 0) rfl
  go_wp2_with fail
  clear m0
  refine (entryFields_any _ W1).mono ?_
  rintro r W2 ⟨rfl, hb2⟩
  have HB2 := Lib.hid (nextB HB1.out (Nat.le_refl _) hb2)
  have HR2 := Lib.hid (HR1.out.below hb2 HR1.out.lt)
  rw [HEF.out]
  clear hb2 HR1 HB1
  have m0 := HR2.out.cell (i := 0) rfl
  have m1 := HR2.out.cell (i := 1) rfl
  have m2 := HR2.out.cell (i := 2) rfl
  go_wp2_with fail
  clear m0 m1 m2
  refine calls_name fun V hV => ?_
  obtain ⟨hn, hs⟩ := num_build (ns := [k', p', x']) (⟨Own.nil _ _, Below.refl _ _⟩ : BSt W2 W2 (.slice none 0 0) []) hV
  have HS := Lib.hid hs
  clear hV hs
  refine (appNums_any HS.out.own hn (by intro n hn; have := HF.out; simp only [List.mem_cons, List.not_mem_nil, or_false] at hn; omega) (by simp) HS.out.keep.size).mono ?_
  rintro r w3 ⟨v3, rfl, hg⟩
  have HS3 := Lib.hid (show BSt W2 w3 v3 (encs [k', p', x']) by have := HS.out.app hg; simpa using this)
  have HR3 := Lib.hid (HR2.out.below HS3.out.keep HR2.out.lt)
  have HL3 := Lib.hid (show (encs [k', p', x']).length ≤ 27 from encs_le (by intro n hn; have := HF.out; simp only [List.mem_cons, List.not_mem_nil, or_false] at hn; omega))
  clear hg hn HS
  have HLO := Lib.hid (l_entop HR3.out HK.out)
  go_wp2_with (first | (refine QB.wpList_ld 30 rfl rfl HLO.out rfl ?_; clear HLO) | fail)
  refine (OpBytes_ok HK.out.1 HOK.out HO.out.1 HO.out.2).mono ?_
  rintro r w4 ⟨v4, rfl, ho4, hb4⟩
  have HS4 := Lib.hid (HS3.out.below hb4)
  obtain ⟨A4, n4, rfl⟩ := ho4.shape
  have HO4 := Lib.hid ho4
  clear ho4 hb4
  go_wp2_with fail
  have hbs4 := HS4.out.own.bs
  refine (Block_ok _ _ _ o.enc w4 hbs4 HO4.out.bs (by have := HOL.out; omega) (by have := HL3.out; omega)).mono ?_
  rintro r w5 ⟨v5, rfl, ho5, hb5⟩
  have HO5 := Lib.hid ho5
  have HB5 := Lib.hid (nextB HS4.out.keep (Nat.le_refl _) hb5)
  clear ho5 hb5
  go_wp2
  go_ret2
  exact ⟨_, rfl, by rw [HE.out]; exact HO5.out.less (Nat.le_trans HB2.out.size HS4.out.keep.size), nextB HB2.out (Nat.le_refl _) HB5.out⟩
set_option maxRecDepth 100000 in
set_option maxHeartbeats 4000000 in
theorem EntryBytes_2 {w : World} {e : En} (hk : e.K) (hV : okE e = true) (hR : e.R) (hkd : e.kind = 2) : Calls Try.prog 23 #[e.val] w fun r w' => ∃ v, r = .returned (.tuple #[v, .int .i64 0]) ∧ Own w' w.heap.size v e.enc ∧ Below w.heap.size w w' := by
  obtain ⟨W0, hW0⟩ : ∃ W0, w.alloc (.cells e.cs.toArray 49) = W0 := ⟨_, rfl⟩
  have hr0 : Row W0 w.heap.size e.cs 49 := hW0 ▸ Row.new rfl rfl
  have hb0 : Below w.heap.size w W0 := hW0 ▸ (Below.refl _ w).alloc (Nat.le_refl _) _
  have HC := Lib.hid (CheckEntry_any e hk W0)
  have HB0 := Lib.hid hb0
  have HR0 := Lib.hid hr0
  have HLD := Lib.hid (l_ent hr0 hk)
  rw [show checkEntZ e = 0 from if_pos hV] at HC
  have hpeer := okE_peer hV hkd
  obtain ⟨r1, r2, r3, r4, r5⟩ := hR
  obtain ⟨kind, ep, ix, o, sid, peer, sec⟩ := e
  simp only at r1 r2 r3 r4 r5 hkd
  obtain ⟨k', rfl⟩ : ∃ n : Nat, kind = (n : Int) := ⟨kind.toNat, by omega⟩
  obtain ⟨p', rfl⟩ : ∃ n : Nat, ep = (n : Int) := ⟨ep.toNat, by omega⟩
  obtain ⟨x', rfl⟩ : ∃ n : Nat, ix = (n : Int) := ⟨ix.toNat, by omega⟩
  obtain ⟨s', rfl⟩ : ∃ n : Nat, sid = (n : Int) := ⟨sid.toNat, by omega⟩
  have HF := Lib.hid (show k' = 2 ∧ p' ≤ 4294967295 ∧ x' < 18446744073709551616 ∧ s' < 18446744073709551616 by omega)
  have HO := Lib.hid (And.intro r4 r5)
  have HK := Lib.hid hk
  have HEF := Lib.hid (show entF (k' : Int) = 14 by rw [hkd]; rfl)
  simp only at hpeer
  obtain ⟨q', rfl⟩ : ∃ n : Nat, peer = (n : Int) := ⟨peer.toNat, by omega⟩
  have HQ := Lib.hid (show q' ≤ 65536 by omega)
  have hwq := wrap_u64n q' (by have := HQ.out; omega)
  clear hpeer
  have HE := Lib.hid (show (⟨(k' : Int), (p' : Int), (x' : Int), o, (s' : Int), (q' : Int), sec⟩ : En).enc = encs [k', p', x'] ++ encs [s'] ++ encs [q'] ++ sec by unfold En.enc; simp only []; rw [if_neg (show ¬ (k' : Int) = 1 by omega), if_pos (show (k' : Int) = 2 by omega)]; simp)
  have hwk := wrap_u64n k' (by have := HF.out; omega)
  have hwp := wrap_u64n p' (by have := HF.out; omega)
  clear hV hb0 hr0 r1 r2 r3 r4 r5 hk hkd
  unfold En.val at HC HLD ⊢
  go_enter Try.func23, Try.ntmps23
  go_wp2_with (first | (refine QB.wpList_ld 49 rfl rfl HLD.out rfl ?_; clear HLD) | fail)
  clear hW0
  refine HC.out.mono ?_
  rintro r W1 ⟨rfl, hb1⟩
  have HB1 := Lib.hid (nextB HB0.out (Nat.le_refl _) hb1)
  have HR1 := Lib.hid (HR0.out.below hb1 HR0.out.lt)
  clear hb1 HC HR0 HB0
  have m0 := HR1.out.cell (i := 0) rfl
  go_wp2_with fail
  clear m0
  refine (entryFields_any _ W1).mono ?_
  rintro r W2 ⟨rfl, hb2⟩
  have HB2 := Lib.hid (nextB HB1.out (Nat.le_refl _) hb2)
  have HR2 := Lib.hid (HR1.out.below hb2 HR1.out.lt)
  rw [HEF.out]
  clear hb2 HR1 HB1
  have m0 := HR2.out.cell (i := 0) rfl
  have m1 := HR2.out.cell (i := 1) rfl
  have m2 := HR2.out.cell (i := 2) rfl
  go_wp2_with fail
  clear m0 m1 m2
  refine calls_name fun V hV => ?_
  obtain ⟨hn, hs⟩ := num_build (ns := [k', p', x']) (⟨Own.nil _ _, Below.refl _ _⟩ : BSt W2 W2 (.slice none 0 0) []) hV
  have HS := Lib.hid hs
  clear hV hs
  refine (appNums_any HS.out.own hn (by intro n hn; have := HF.out; simp only [List.mem_cons, List.not_mem_nil, or_false] at hn; omega) (by simp) HS.out.keep.size).mono ?_
  rintro r w3 ⟨v3, rfl, hg⟩
  have HS3 := Lib.hid (show BSt W2 w3 v3 (encs [k', p', x']) by have := HS.out.app hg; simpa using this)
  have HR3 := Lib.hid (HR2.out.below HS3.out.keep HR2.out.lt)
  have HL3 := Lib.hid (show (encs [k', p', x']).length ≤ 27 from encs_le (by intro n hn; have := HF.out; simp only [List.mem_cons, List.not_mem_nil, or_false] at hn; omega))
  clear hg hn HS
  have m40 := HR3.out.cell (i := 40) (En.at40 HK.out)
  go_wp2_with fail
  clear m40
  refine calls_name fun V hV => ?_
  obtain ⟨hn, hs⟩ := num_build (ns := [s']) HS3.out hV
  have HS4 := Lib.hid hs
  clear hV hs
  refine (appNums_any HS4.out.own hn (by intro n hn; have := HF.out; simp only [List.mem_cons, List.not_mem_nil, or_false] at hn; omega) (by have := HL3.out; simp only [List.length_cons, List.length_nil] at *; omega) HS4.out.keep.size).mono ?_
  rintro r w5 ⟨v5, rfl, hg⟩
  have HS5 := Lib.hid (HS4.out.app hg)
  have HR5 := Lib.hid (HR2.out.below HS5.out.keep HR2.out.lt)
  have HL5 := Lib.hid (show (encs [k', p', x'] ++ encs [s']).length ≤ 36 from by
    have h1 := HL3.out
    have h2 : (encs [s']).length ≤ 9 := encs_le (by intro n hn; have := HF.out; simp only [List.mem_cons, List.not_mem_nil, or_false] at hn; omega)
    rw [List.length_append]; omega)
  clear hg hn HS4

  have m41 := HR5.out.cell (i := 41) (En.at41 HK.out)
  go_wp2_with fail
  clear m41
  refine calls_name fun V hV => ?_
  obtain ⟨hn, hs⟩ := num_build (ns := [q']) HS5.out hV
  have HS6 := Lib.hid hs
  clear hV hs
  refine (appNums_any HS6.out.own hn (by intro n hn; have := HQ.out; simp only [List.mem_cons, List.not_mem_nil, or_false] at hn; omega) (by have := HL5.out; simp only [List.length_cons, List.length_nil] at *; omega) HS6.out.keep.size).mono ?_
  rintro r w7 ⟨v7, rfl, hg⟩
  have HS7 := Lib.hid (HS6.out.app hg)
  have HR7 := Lib.hid (HR2.out.below HS7.out.keep HR2.out.lt)
  have HL7 := Lib.hid (show (encs [k', p', x'] ++ encs [s'] ++ encs [q']).length ≤ 45 from by
    have h1 := HL5.out
    have h2 : (encs [q']).length ≤ 9 := encs_le (by intro n hn; have := HQ.out; simp only [List.mem_cons, List.not_mem_nil, or_false] at hn; omega)
    rw [List.length_append]; omega)
  clear hg hn HS6
  go_wp2_with (at_builtin
               refine wpList_app_bytes _ rfl _ _ rfl rfl HS7.out.own rfl (bs_entsec HR7.out HK.out) (by have := HL7.out; have := HK.out.2; simp only at *; omega) HS7.out.keep.size ?_
               intro v8 w8 hown8 hg8 hblk8
               have HS8 := Lib.hid (HS7.out.put hown8 hg8)
               clear hown8 hg8 hblk8)

  go_wp2
  go_ret2
  exact ⟨_, rfl, by rw [HE.out]; exact HS8.out.own.less HB2.out.size, nextB HB2.out (Nat.le_refl _) HS8.out.keep⟩
set_option maxRecDepth 100000 in
set_option maxHeartbeats 4000000 in
theorem EntryBytes_3 {w : World} {e : En} (hk : e.K) (hV : okE e = true) (hR : e.R) (hkd : e.kind = 3) : Calls Try.prog 23 #[e.val] w fun r w' => ∃ v, r = .returned (.tuple #[v, .int .i64 0]) ∧ Own w' w.heap.size v e.enc ∧ Below w.heap.size w w' := by
  obtain ⟨W0, hW0⟩ : ∃ W0, w.alloc (.cells e.cs.toArray 49) = W0 := ⟨_, rfl⟩
  have hr0 : Row W0 w.heap.size e.cs 49 := hW0 ▸ Row.new rfl rfl
  have hb0 : Below w.heap.size w W0 := hW0 ▸ (Below.refl _ w).alloc (Nat.le_refl _) _
  have HC := Lib.hid (CheckEntry_any e hk W0)
  have HB0 := Lib.hid hb0
  have HR0 := Lib.hid hr0
  have HLD := Lib.hid (l_ent hr0 hk)
  rw [show checkEntZ e = 0 from if_pos hV] at HC
  obtain ⟨r1, r2, r3, r4, r5⟩ := hR
  obtain ⟨kind, ep, ix, o, sid, peer, sec⟩ := e
  simp only at r1 r2 r3 r4 r5 hkd
  obtain ⟨k', rfl⟩ : ∃ n : Nat, kind = (n : Int) := ⟨kind.toNat, by omega⟩
  obtain ⟨p', rfl⟩ : ∃ n : Nat, ep = (n : Int) := ⟨ep.toNat, by omega⟩
  obtain ⟨x', rfl⟩ : ∃ n : Nat, ix = (n : Int) := ⟨ix.toNat, by omega⟩
  obtain ⟨s', rfl⟩ : ∃ n : Nat, sid = (n : Int) := ⟨sid.toNat, by omega⟩
  have HF := Lib.hid (show k' = 3 ∧ p' ≤ 4294967295 ∧ x' < 18446744073709551616 ∧ s' < 18446744073709551616 by omega)
  have HO := Lib.hid (And.intro r4 r5)
  have HK := Lib.hid hk
  have HEF := Lib.hid (show entF (k' : Int) = 2 by rw [hkd]; rfl)
  have HE := Lib.hid (show (⟨(k' : Int), (p' : Int), (x' : Int), o, (s' : Int), peer, sec⟩ : En).enc = encs [k', p', x'] ++ encs [s'] by unfold En.enc; simp only []; rw [if_neg (show ¬ (k' : Int) = 1 by omega), if_neg (show ¬ (k' : Int) = 2 by omega)]; simp)
  have hwk := wrap_u64n k' (by have := HF.out; omega)
  have hwp := wrap_u64n p' (by have := HF.out; omega)
  clear hV hb0 hr0 r1 r2 r3 r4 r5 hk hkd
  unfold En.val at HC HLD ⊢
  go_enter Try.func23, Try.ntmps23
  go_wp2_with (first | (refine QB.wpList_ld 49 rfl rfl HLD.out rfl ?_; clear HLD) | fail)
  clear hW0
  refine HC.out.mono ?_
  rintro r W1 ⟨rfl, hb1⟩
  have HB1 := Lib.hid (nextB HB0.out (Nat.le_refl _) hb1)
  have HR1 := Lib.hid (HR0.out.below hb1 HR0.out.lt)
  clear hb1 HC HR0 HB0
  have m0 := HR1.out.cell (i := 0) rfl
  go_wp2_with fail
  clear m0
  refine (entryFields_any _ W1).mono ?_
  rintro r W2 ⟨rfl, hb2⟩
  have HB2 := Lib.hid (nextB HB1.out (Nat.le_refl _) hb2)
  have HR2 := Lib.hid (HR1.out.below hb2 HR1.out.lt)
  rw [HEF.out]
  clear hb2 HR1 HB1
  have m0 := HR2.out.cell (i := 0) rfl
  have m1 := HR2.out.cell (i := 1) rfl
  have m2 := HR2.out.cell (i := 2) rfl
  go_wp2_with fail
  clear m0 m1 m2
  refine calls_name fun V hV => ?_
  obtain ⟨hn, hs⟩ := num_build (ns := [k', p', x']) (⟨Own.nil _ _, Below.refl _ _⟩ : BSt W2 W2 (.slice none 0 0) []) hV
  have HS := Lib.hid hs
  clear hV hs
  refine (appNums_any HS.out.own hn (by intro n hn; have := HF.out; simp only [List.mem_cons, List.not_mem_nil, or_false] at hn; omega) (by simp) HS.out.keep.size).mono ?_
  rintro r w3 ⟨v3, rfl, hg⟩
  have HS3 := Lib.hid (show BSt W2 w3 v3 (encs [k', p', x']) by have := HS.out.app hg; simpa using this)
  have HR3 := Lib.hid (HR2.out.below HS3.out.keep HR2.out.lt)
  have HL3 := Lib.hid (show (encs [k', p', x']).length ≤ 27 from encs_le (by intro n hn; have := HF.out; simp only [List.mem_cons, List.not_mem_nil, or_false] at hn; omega))
  clear hg hn HS
  have m40 := HR3.out.cell (i := 40) (En.at40 HK.out)
  go_wp2_with fail
  clear m40
  refine calls_name fun V hV => ?_
  obtain ⟨hn, hs⟩ := num_build (ns := [s']) HS3.out hV
  have HS4 := Lib.hid hs
  clear hV hs
  refine (appNums_any HS4.out.own hn (by intro n hn; have := HF.out; simp only [List.mem_cons, List.not_mem_nil, or_false] at hn; omega) (by have := HL3.out; simp only [List.length_cons, List.length_nil] at *; omega) HS4.out.keep.size).mono ?_
  rintro r w5 ⟨v5, rfl, hg⟩
  have HS5 := Lib.hid (HS4.out.app hg)
  have HR5 := Lib.hid (HR2.out.below HS5.out.keep HR2.out.lt)
  have HL5 := Lib.hid (show (encs [k', p', x'] ++ encs [s']).length ≤ 36 from by
    have h1 := HL3.out
    have h2 : (encs [s']).length ≤ 9 := encs_le (by intro n hn; have := HF.out; simp only [List.mem_cons, List.not_mem_nil, or_false] at hn; omega)
    rw [List.length_append]; omega)
  clear hg hn HS4

  go_wp2
  go_ret2
  exact ⟨_, rfl, by rw [HE.out]; exact HS5.out.own.less HB2.out.size, nextB HB2.out (Nat.le_refl _) HS5.out.keep⟩
theorem EntryBytes_ok {w : World} {e : En} (hk : e.K) (hV : okE e = true) (hR : e.R) : Calls Try.prog 23 #[e.val] w fun r w' => ∃ v, r = .returned (.tuple #[v, .int .i64 0]) ∧ Own w' w.heap.size v e.enc ∧ Below w.heap.size w w' := by
  rcases okE_kind hV with h | h | h
  · exact EntryBytes_1 hk hV hR h
  · exact EntryBytes_2 hk hV hR h
  · exact EntryBytes_3 hk hV hR h
theorem En.enc_le {e : En} (hk : e.K) (hV : okE e = true) (hR : e.R) : e.enc.length ≤ 200 := by
  have h0 : (encs [e.kind.toNat, e.ep.toNat, e.ix.toNat]).length ≤ 27 := encs_le (by intro n hn; have := okE_kind hV; have := hR.ep; have := hR.ix; simp only [List.mem_cons, List.not_mem_nil, or_false] at hn; omega)
  have h1 : (encs [e.sid.toNat]).length ≤ 9 := encs_le (by intro n hn; have := hR.sid; simp only [List.mem_cons, List.not_mem_nil, or_false] at hn; omega)
  unfold En.enc
  rw [List.length_append]
  rcases okE_kind hV with h | h | h
  · have h2 := op_len (okE_op hV h) hk.1 hR.addr hR.ref
    have h3 := Num.enc_le (n := e.op.enc.length) (by omega)
    rw [if_pos h]
    unfold blk
    rw [List.length_append]
    omega
  · have h2 : (encs [e.peer.toNat]).length ≤ 9 := encs_le (by intro n hn; have := okE_peer hV h; simp only [List.mem_cons, List.not_mem_nil, or_false] at hn; omega)
    have h3 := hk.2
    rw [if_neg (by omega), if_pos h, List.length_append, List.length_append]
    omega
  · rw [if_neg (by omega), if_neg (by omega)]
    omega
end Go.Proofs.Ytedmogacklbcmaa.Wir
namespace Go.Proofs.Ytedmogacklbcmaa.Wir
open Go.RowKit Cfg Num
def Ms.head (m : Ms) : List UInt8 := encs [m.kind.toNat, m.ep.toNat, m.ix.toNat, m.prev.toNat, m.upto.toNat, m.ref.toNat, m.node.toNat] ++ encs [bnat m.is, m.es.length]
def Ms.enc (m : Ms) : List UInt8 := m.head ++ m.es.flatMap (fun e => blk e.enc) ++ blk m.body
structure Ms.R (m : Ms) : Prop where
  ep : 0 ≤ m.ep ∧ m.ep ≤ 4294967295
  ix : 0 ≤ m.ix ∧ m.ix < 18446744073709551616
  prev : 0 ≤ m.prev ∧ m.prev ≤ 4294967295
  upto : 0 ≤ m.upto ∧ m.upto < 18446744073709551616
  ref : 0 ≤ m.ref ∧ m.ref < 18446744073709551616
  es : ∀ e ∈ m.es, e.R
theorem rows_ok {top : Int} : ∀ {l : List En} {i p : Int}, rowsB top i p l = true → ∀ e ∈ l, okE e = true
  | [], _, _, _ => by simp
  | x :: r, i, p, h => by
    simp only [rowsB, Bool.and_eq_true] at h
    intro e he
    rcases List.mem_cons.1 he with rfl | he
    · exact h.1.1.1.1
    · exact rows_ok h.2 e he
set_option maxRecDepth 100000 in
theorem run_two (a b : Nat) (w : World) : (Instr.buildSlice 64 2 #[(0, .int .u64 (a : Int)), (1, .int .u64 (b : Int))]).run Try.prog w = .ok (.slice (some ⟨w.heap.size, 0, none⟩) 2 2) (w.alloc (.cells (([a, b] : List Nat).map u64v).toArray 26)) := by kernel_rfl
def lastF (n : Nat) (s : Nat) (x y : World) : Prop := n ≤ s → x = y
theorem lastF.refl (n s : Nat) (x : World) : lastF n s x x := fun _ => rfl
def bstM (W1 : World) (l : List UInt8) (k : Nat) (hk : 1 ≤ k) : ByL.Mark RdL.TT (lastF 2) := ⟨fun v w => BSt W1 w v l, some k, fun v x y s h _ hF hs => by
  have := hs _ rfl
  rw [← hF (by omega)]
  exact h⟩
set_option maxRecDepth 100000 in
theorem Bytes_no {w : World} {B : Nat} {ve vb : Value} {m : Ms} (h : MAt w B ve vb m) (hix : 0 ≤ m.ix) (hB : B ≤ w.heap.size) (hV : checkMZ m ≠ 0) : Calls Try.prog 25 #[.agg (m.cs ve vb).toArray] w fun r w' => r = .returned (.tuple #[.slice none 0 0, .int .i64 (checkMZ m)]) ∧ Below w.heap.size w w' := by
  obtain ⟨cs, hcs⟩ : ∃ cs, m.cs ve vb = cs := ⟨_, rfl⟩
  obtain ⟨W0, hW0⟩ : ∃ W0, w.alloc (.cells cs.toArray 52) = W0 := ⟨_, rfl⟩
  have hr0 : Row W0 w.heap.size cs 52 := hW0 ▸ Row.new rfl rfl
  have hb0 : Below w.heap.size w W0 := hW0 ▸ (Below.refl _ w).alloc (Nat.le_refl _) _
  have HC := Lib.hid (Check_any (h.below (hb0.mono hB)) hix (Nat.le_trans hB hb0.size))
  have HB0 := Lib.hid hb0
  rw [← hcs] at hr0
  have HLD := Lib.hid (l_msg hr0)
  rw [hcs] at HC HLD
  obtain ⟨z, hz⟩ : ∃ z, checkMZ m = z := ⟨_, rfl⟩
  rw [hz] at HC hV ⊢
  have hz1 : (z != 0) = true := by simpa using hV
  have hz2 : (z == 0) = false := by simpa using hV
  rw [hcs]
  clear h hb0 hr0 hcs hz hV
  go_enter Try.func25, Try.ntmps25
  go_wp2_with (first | (refine QB.wpList_ld 52 rfl rfl HLD.out rfl ?_; clear HLD) | fail)
  clear hW0
  refine HC.out.mono ?_
  rintro r w1 ⟨rfl, hb1⟩
  have HB1 := Lib.hid (nextB HB0.out (Nat.le_refl _) hb1)
  clear hb1
  go_wp2
  go_ret2
  exact ⟨rfl, HB1.out⟩
set_option maxRecDepth 100000 in
set_option maxHeartbeats 8000000 in
theorem Bytes_ok {w : World} {B : Nat} {ve vb : Value} {m : Ms} (h : MAt w B ve vb m) (hB : B ≤ w.heap.size) (hV : checkMZ m = 0) (hR : m.R) (hn : 0 ≤ m.kind ∧ m.kind ≤ 7 ∧ 0 ≤ m.node ∧ m.node ≤ 2) (hl : m.es.length ≤ 32 ∧ m.body.length ≤ 1048576 ∧ ∀ e ∈ m.es, okE e = true) :
    Calls Try.prog 25 #[.agg (m.cs ve vb).toArray] w fun r w' => ∃ v, r = .returned (.tuple #[v, .int .i64 0]) ∧ Own w' w.heap.size v m.enc ∧ Below w.heap.size w w' := by
  obtain ⟨A1, n1, A2, n2, rfl, rfl, _, _⟩ := h.shape
  obtain ⟨cs, hcs⟩ : ∃ cs, m.cs (.slice A1 m.es.length n1) (.slice A2 m.body.length n2) = cs := ⟨_, rfl⟩
  obtain ⟨W0, hW0⟩ : ∃ W0, w.alloc (.cells cs.toArray 52) = W0 := ⟨_, rfl⟩
  have hr0 : Row W0 w.heap.size cs 52 := hW0 ▸ Row.new rfl rfl
  have hb0 : Below w.heap.size w W0 := hW0 ▸ (Below.refl _ w).alloc (Nat.le_refl _) _
  have HC := Lib.hid (Check_any (h.below (hb0.mono hB)) hR.ix.1 (Nat.le_trans hB hb0.size))
  have HA := Lib.hid (h.below (hb0.mono hB))
  have HBw := Lib.hid (Nat.le_trans hB hb0.size)
  have HB0 := Lib.hid hb0
  rw [← hcs] at hr0
  have HR0 := Lib.hid hr0
  have HLD := Lib.hid (l_msg hr0)
  rw [hV] at HC
  rw [hcs] at HC HLD ⊢
  have HRR := Lib.hid hR
  have HN := Lib.hid hn
  have HL := Lib.hid hl
  clear h hb0 hr0 hB hV hR hn hl
  go_enter Try.func25, Try.ntmps25
  go_wp2_with (first | (refine QB.wpList_ld 52 rfl rfl HLD.out rfl ?_; clear HLD) | fail)
  clear hW0
  refine HC.out.mono ?_
  rintro r W1 ⟨rfl, hb1⟩
  have HB1 := Lib.hid (nextB HB0.out (Nat.le_refl _) hb1)
  have HA1 := Lib.hid ((HA.out.below (hb1.mono HBw.out)).more (Nat.le_trans HBw.out hb1.size))
  have FR := Lib.hid (fun w' (h : Below W1.heap.size W1 w') => (HR0.out.below hb1 HR0.out.lt).below h (HR0.out.below hb1 HR0.out.lt).lt)
  clear hb1 HC HA HR0 HB0 hcs HBw
  obtain ⟨kind, ep, ix, prev, upto, ref, node, is, es, body⟩ := m
  obtain ⟨r1, r2, r3, r4, r5, r6⟩ := HRR.out
  have hn := HN.out
  simp only at r1 r2 r3 r4 r5 r6 hn
  obtain ⟨k', rfl⟩ : ∃ n : Nat, kind = (n : Int) := ⟨kind.toNat, by omega⟩
  obtain ⟨p', rfl⟩ : ∃ n : Nat, ep = (n : Int) := ⟨ep.toNat, by omega⟩
  obtain ⟨x', rfl⟩ : ∃ n : Nat, ix = (n : Int) := ⟨ix.toNat, by omega⟩
  obtain ⟨v', rfl⟩ : ∃ n : Nat, prev = (n : Int) := ⟨prev.toNat, by omega⟩
  obtain ⟨t', rfl⟩ : ∃ n : Nat, upto = (n : Int) := ⟨upto.toNat, by omega⟩
  obtain ⟨f', rfl⟩ : ∃ n : Nat, ref = (n : Int) := ⟨ref.toNat, by omega⟩
  obtain ⟨d', rfl⟩ : ∃ n : Nat, node = (n : Int) := ⟨node.toNat, by omega⟩
  have HF := Lib.hid (show k' ≤ 7 ∧ p' ≤ 4294967295 ∧ x' < 18446744073709551616 ∧ v' ≤ 4294967295 ∧ t' < 18446744073709551616 ∧ f' < 18446744073709551616 ∧ d' ≤ 2 by omega)
  have HE := Lib.hid (show (⟨(k' : Int), (p' : Int), (x' : Int), (v' : Int), (t' : Int), (f' : Int), (d' : Int), is, es, body⟩ : Ms).head = encs [k', p', x', v', t', f', d'] ++ encs [bnat is, es.length] by unfold Ms.head; simp)
  have HER := Lib.hid r6
  have hwk := wrap_u64n k' (by have := HF.out; omega)
  have hwp := wrap_u64n p' (by have := HF.out; omega)
  have hwv := wrap_u64n v' (by have := HF.out; omega)
  have hwd := wrap_u64n d' (by have := HF.out; omega)
  clear r1 r2 r3 r4 r5 r6 hn HRR HN
  have m0 := (FR.out W1 (Below.refl _ _)).cell (i := 0) rfl
  have m1 := (FR.out W1 (Below.refl _ _)).cell (i := 1) rfl
  have m2 := (FR.out W1 (Below.refl _ _)).cell (i := 2) rfl
  have m3 := (FR.out W1 (Below.refl _ _)).cell (i := 3) rfl
  have m4 := (FR.out W1 (Below.refl _ _)).cell (i := 4) rfl
  have m5 := (FR.out W1 (Below.refl _ _)).cell (i := 5) rfl
  have m6 := (FR.out W1 (Below.refl _ _)).cell (i := 6) rfl
  go_wp2_with fail
  clear m0 m1 m2 m3 m4 m5 m6
  refine calls_name fun V hV => ?_
  obtain ⟨hn, hs⟩ := num_build (ns := [k', p', x', v', t', f', d']) (⟨Own.nil _ _, Below.refl _ _⟩ : BSt W1 W1 (.slice none 0 0) []) hV
  have HS := Lib.hid hs
  clear hV hs
  refine (appNums_any HS.out.own hn (by intro n hn; have := HF.out; simp only [List.mem_cons, List.not_mem_nil, or_false] at hn; omega) (by simp) HS.out.keep.size).mono ?_
  rintro r w3 ⟨v3, rfl, hg⟩
  have HS3 := Lib.hid (show BSt W1 w3 v3 (encs [k', p', x', v', t', f', d']) by have := HS.out.app hg; simpa using this)
  have HL3 := Lib.hid (show (encs [k', p', x', v', t', f', d']).length ≤ 63 from encs_le (by intro n hn; have := HF.out; simp only [List.mem_cons, List.not_mem_nil, or_false] at hn; omega))
  clear hg hn HS hwk hwp hwv hwd
  go_wp2_with fail
  obtain ⟨bb, hbb⟩ : ∃ b : Int, (if is = true then (1 : Int) else 0) = b := ⟨_, rfl⟩
  have hbn : bb = (bnat is : Int) := by rw [← hbb]; cases is <;> rfl
  have HBN := Lib.hid hbn
  have HMK := Lib.hid (fun (y : World) => show Calls Try.prog 68 #[.int .i64 1, .bool is] y _ from hbb ▸ mask_any 1 is y)
  obtain ⟨p3, hp3⟩ : ∃ p, w.heap.size = p := ⟨_, rfl⟩
  have hwb : IntKind.u64.wrap bb = bb := by rw [hbn]; exact wrap_u64n _ (by cases is <;> decide)
  have hwl : IntKind.u64.wrap (es.length : Int) = (es.length : Int) := wrap_u64n _ (by have h32 : es.length ≤ 32 := HL.out.1; omega)
  have HWB := Lib.hid hwb
  have HWL := Lib.hid hwl
  obtain ⟨ws, HW0, HW1⟩ : ∃ ws : Nat → World, Hid (ws 0 = w3.drew) ∧ Hid ((ws 0).alloc (.cells (([bnat is, es.length] : List Nat).map u64v).toArray 26) = ws 1) :=
    ⟨fun s => if s = 0 then w3.drew else w3.drew.alloc (.cells (([bnat is, es.length] : List Nat).map u64v).toArray 26), Lib.hid rfl, Lib.hid rfl⟩
  have HS0 := Lib.hid (show BSt W1 (ws 0) v3 (encs [k', p', x', v', t', f', d']) from HS3.out.below (HW0.out ▸ (Below.refl _ w3).drew))
  obtain ⟨hn1, hs1⟩ := num_build HS0.out HW1.out
  have HN1 := Lib.hid hn1
  have HS1 := Lib.hid hs1
  clear hbb hbn hn1 hs1 hwb hwl
  have FRp := Lib.hid (fun w' (h : Below W1.heap.size W1 w') => hp3 ▸ FR.out w' h)
  rw [hp3]
  refine ByL.marks mixed RdL.TT (lastF 2) (fun s y => (s = 0 → y = ws 0) ∧ (s = 1 → y = ws 1) ∧ Below W1.heap.size W1 y) 3 [
    ByL.is v3 none,
    ByL.is (.pointer (some ⟨p3, 7, none⟩)) none,
    ByL.is (.bool is) none,
    ByL.is (.int .i64 bb) none,
    ByL.is (.int .u64 bb) none,
    ByL.is (.pointer (some ⟨p3, 8, none⟩)) none,
    ByL.is (.slice A1 es.length n1) none,
    ByL.is (.int .i64 (es.length : Int)) none,
    ByL.is (.int .u64 (es.length : Int)) none,
    ByL.is (.slice (some ⟨(ws 0).heap.size, 0, none⟩) 2 2) (some 0),
    bstM W1 (encs [k', p', x', v', t', f', d'] ++ encs [bnat is, es.length]) 1 (by decide),
    bstM W1 (encs [k', p', x', v', t', f', d'] ++ encs [bnat is, es.length]) 2 (by decide)]
    (Ev.masks _ []) (by kernel_rfl) rfl (by kernel_rfl) (fun _ => trivial) (fun _ _ _ _ _ => trivial) (lastF.refl 2) ⟨fun _ => HW0.out.symm, (fun e => by cases e), HS3.out.keep.drew⟩ ⟨?_, ?_, ?_, ?_, ?_, ?_, ?_, ?_, ?_, ?_, ?_, ?_, trivial⟩ ?_
  · intro a w9 s ht hR hk1 hk2 hs hg
    have h5 : a.tmps.getD 5 undef = v3 := By.same_get hs 5 (by decide) (by kernel_rfl)
    refine ByL.yes rfl ?_
    clear hs hg hk1 hk2
    have HR := Lib.hid hR
    clear hR
    go_simp
    exact ⟨_, rfl, trivial, lastF.refl _ _ _, HR.out, rfl⟩
  · intro a w9 s ht hR hk1 hk2 hs hg
    have h1 : a.tmps.getD 1 undef = .pointer (some ⟨p3, 0, none⟩) := By.same_get hs 1 (by decide) (by kernel_rfl)
    refine ByL.yes rfl ?_
    clear hs hg hk1 hk2
    have HR := Lib.hid hR
    clear hR
    go_simp
    exact ⟨_, rfl, trivial, lastF.refl _ _ _, HR.out, rfl⟩
  · intro a w9 s ht hR hk1 hk2 hs hg
    have h36 : a.tmps.getD 36 undef = _ := ByN.given_get hg 1 rfl rfl (by kernel_rfl)
    refine ByL.yes rfl ?_
    have hc := (FRp.out w9 hR.2.2).cell (i := 7) rfl
    clear hs hg hk1 hk2
    have HR := Lib.hid hR
    clear hR
    go_simp
    exact ⟨_, rfl, trivial, lastF.refl _ _ _, HR.out, rfl⟩
  · intro a w9 s ht hR hk1 hk2 hs hg
    have h37 : a.tmps.getD 37 undef = _ := ByN.given_get hg 2 rfl rfl (by kernel_rfl)
    refine ByL.yes rfl ?_
    clear hs hg hk1 hk2
    have HR := Lib.hid hR
    clear hR
    go_simp
    refine (HMK.out w9).mono ?_
    rintro r w10 ⟨rfl, rfl⟩
    exact ⟨_, rfl, trivial, lastF.refl _ _ _, HR.out, rfl⟩
  · intro a w9 s ht hR hk1 hk2 hs hg
    have h38 : a.tmps.getD 38 undef = _ := ByN.given_get hg 3 rfl rfl (by kernel_rfl)
    refine ByL.yes rfl ?_
    clear hs hg hk1 hk2
    have HR := Lib.hid hR
    clear hR
    have hwb := HWB.out
    go_simp
    exact ⟨_, rfl, trivial, lastF.refl _ _ _, HR.out, rfl⟩
  · intro a w9 s ht hR hk1 hk2 hs hg
    have h1 : a.tmps.getD 1 undef = .pointer (some ⟨p3, 0, none⟩) := By.same_get hs 1 (by decide) (by kernel_rfl)
    refine ByL.yes rfl ?_
    clear hs hg hk1 hk2
    have HR := Lib.hid hR
    clear hR
    go_simp
    exact ⟨_, rfl, trivial, lastF.refl _ _ _, HR.out, rfl⟩
  · intro a w9 s ht hR hk1 hk2 hs hg
    have h40 : a.tmps.getD 40 undef = _ := ByN.given_get hg 5 rfl rfl (by kernel_rfl)
    refine ByL.yes rfl ?_
    have hc := (FRp.out w9 hR.2.2).cell (i := 8) rfl
    clear hs hg hk1 hk2
    have HR := Lib.hid hR
    clear hR
    go_simp
    exact ⟨_, rfl, trivial, lastF.refl _ _ _, HR.out, rfl⟩
  · intro a w9 s ht hR hk1 hk2 hs hg
    have h41 : a.tmps.getD 41 undef = _ := ByN.given_get hg 6 rfl rfl (by kernel_rfl)
    refine ByL.yes rfl ?_
    clear hs hg hk1 hk2
    have HR := Lib.hid hR
    clear hR
    go_simp
    exact ⟨_, rfl, trivial, lastF.refl _ _ _, HR.out, rfl⟩
  · intro a w9 s ht hR hk1 hk2 hs hg
    have h42 : a.tmps.getD 42 undef = _ := ByN.given_get hg 7 rfl rfl (by kernel_rfl)
    refine ByL.yes rfl ?_
    clear hs hg hk1 hk2
    have HR := Lib.hid hR
    clear hR
    have hwl := HWL.out
    go_simp
    exact ⟨_, rfl, trivial, lastF.refl _ _ _, HR.out, rfl⟩
  · intro a w9 s ht hR hk1 hk2 hs hg
    obtain rfl := hk1 0 rfl
    have h39 : a.tmps.getD 39 undef = _ := ByN.given_get hg 4 rfl rfl (by kernel_rfl)
    have h43 : a.tmps.getD 43 undef = _ := ByN.given_get hg 8 rfl rfl (by kernel_rfl)
    refine ByL.yes rfl ?_
    clear hs hg hk1 hk2
    have hw9 : w9 = ws 0 := hR.1 rfl
    subst hw9
    have HBN2 := Lib.hid HBN.out
    refine RdL.op_bs 64 2 _ rfl (ps := #[(0, .int .u64 bb), (1, .int .u64 (es.length : Int))]) (Eq.trans (b := #[(0, a.tmps.getD 39 undef), (1, a.tmps.getD 43 undef)]) (by kernel_rfl) (by rw [h39, h43])) (by rw [HBN.out]; exact run_two _ _ _) ?_
    rw [HW1.out]
    exact ⟨_, rfl, trivial, (fun e => by omega), ⟨(fun e => by cases e), fun _ => rfl, HS1.out.keep⟩, rfl⟩
  · intro a w9 s ht hR hk1 hk2 hs hg
    obtain rfl := hk1 1 rfl
    have h35 : a.tmps.getD 35 undef = _ := ByN.given_get hg 0 rfl rfl (by kernel_rfl)
    have h44 : a.tmps.getD 44 undef = _ := ByN.given_get hg 9 rfl rfl (by kernel_rfl)
    refine ByL.yes rfl ?_
    clear hs hg hk1 hk2
    have hw9 : w9 = ws 1 := hR.2.1 rfl
    subst hw9
    have HAp := Lib.hid (appNums_any HS1.out.own HN1.out (by intro n hn; have h32 : es.length ≤ 32 := HL.out.1; simp only [List.mem_cons, List.not_mem_nil, or_false] at hn; rcases hn with rfl | rfl; (cases is <;> decide); omega) (by have := HL3.out; simp only [List.length_cons, List.length_nil]; omega) HS1.out.keep.size)
    have HS1' := HS1
    clear hR ht
    go_simp
    refine HAp.out.mono ?_
    rintro r w10 ⟨v10, rfl, hg⟩
    have h10 := HS1.out.app hg
    exact ⟨_, rfl, trivial, (fun e => by omega), ⟨(fun e => by cases e), (fun e => by cases e), h10.keep⟩, h10⟩
  · intro a w9 s ht hR hk1 hk2 hs hg
    obtain rfl := hk1 2 rfl
    have h45 : BSt W1 w9 (a.tmps.getD 45 undef) _ := ByN.given_get hg 10 rfl rfl (by kernel_rfl)
    refine ByL.yes rfl ?_
    clear hs hg hk1 hk2
    obtain ⟨v45, hv45⟩ : ∃ v, a.tmps.getD 45 undef = v := ⟨_, rfl⟩
    rw [hv45] at h45
    have H45 := Lib.hid h45
    have HR := Lib.hid hR
    clear hR h45
    go_simp
    exact ⟨_, rfl, trivial, lastF.refl _ _ _, ⟨(fun e => by cases e), (fun e => by cases e), HR.out.2.2⟩, H45.out⟩
  refine ByL.ends_is (ByL.ends_is (ByL.ends_is (ByL.ends_is (ByL.ends_is (ByL.ends_is (ByL.ends_is (ByL.ends_is (ByL.ends_is (ByL.ends_is (ByL.ends_skip fun v45 => (ByL.ends_any fun v5 => ByL.ends_nil fun w5 hw5 => ?_)))))))))))
  try simp only [Act.put, List.setIfInBounds_toArray, List.set_cons_succ, List.set_cons_zero]
  try simp only [List.drop_succ_cons, List.drop_zero]
  obtain ⟨_, h5⟩ := hw5
  have HS5 := Lib.hid (show BSt W1 w5 v5 _ from h5)
  clear h5 HW0 HW1 HS0 HS1 HN1 HMK HWB HWL HBN
  obtain ⟨L0, hL0⟩ : ∃ l, encs [k', p', x', v', t', f', d'] ++ encs [bnat is, es.length] = l := ⟨_, rfl⟩
  have HL0 := Lib.hid (show L0.length ≤ 81 from by
    rw [← hL0, List.length_append]
    have h1 := HL3.out
    have h2 : (encs [bnat is, es.length]).length ≤ 18 := encs_le (by intro n hn; have h32 : es.length ≤ 32 := HL.out.1; simp only [List.mem_cons, List.not_mem_nil, or_false] at hn; rcases hn with rfl | rfl; (cases is <;> decide); omega)
    omega)
  rw [hL0] at HS5 HE
  have HEB := Lib.hid (fun (i : Nat) => show ((es.take i).flatMap (fun e => blk e.enc)).length ≤ 209 * 32 from by
    have h1 := flat_le (f := fun e : En => blk e.enc) (K := 209) (l := es.take i) fun e he => by
      have hm := List.mem_of_mem_take he
      have h2 := En.enc_le (HA1.out.es.1 e hm) (HL.out.2.2 e hm) (HER.out e hm)
      have h3 := Num.enc_le (n := e.enc.length) (by omega)
      show (Oct.enc e.enc.length ++ e.enc).length ≤ 209
      rw [List.length_append]
      omega
    have h32 : es.length ≤ 32 := HL.out.1
    rw [List.length_take] at h1
    have : 209 * min i es.length ≤ 209 * 32 := Nat.mul_le_mul (Nat.le_refl _) (by omega)
    omega)
  clear hL0 HL3 HF HS3
  have c8 := (FRp.out w5 HS5.out.keep).cell (i := 8) rfl
  go_wp2_with fail
  clear c8
  go_loopw [5, 49] (fun v iv wr => ∃ i : Nat, i ≤ es.length ∧ iv = .int .i64 (i : Int) ∧ Hid (BSt W1 wr v (L0 ++ (es.take i).flatMap (fun e => blk e.enc)))) (fun _ iv _ => es.length - (intOf iv).toNat)
  case atStart => exact ⟨0, Nat.zero_le _, rfl, Lib.hid (by simpa using HS5.out)⟩
  case round =>
    obtain ⟨i, hi, rfl, hs⟩ := hrel
    have hi2 : (i : Int) ≤ 32 := by have h32 : es.length ≤ 32 := HL.out.1; omega
    by_cases hlt : i < es.length
    · obtain ⟨e, he⟩ : ∃ e, es[i]? = some e := ⟨_, List.getElem?_eq_getElem hlt⟩
      have hm := List.mem_of_getElem? he
      obtain ⟨b0, off, e0, _, _, hld⟩ := (HA1.out.es.below hs.out.keep).at he
      have HT := Lib.hid (show (es.take (i + 1)).flatMap (fun e => blk e.enc) = (es.take i).flatMap (fun e => blk e.enc) ++ blk e.enc by rw [List.take_add_one, he, List.flatMap_append]; simp)
      have HLD := Lib.hid hld
      have HEK := Lib.hid (show e.K ∧ okE e = true ∧ e.R from ⟨HA1.out.es.1 e hm, HL.out.2.2 e hm, HER.out e hm⟩)
      have HLT := Lib.hid hlt
      have HLM := Lib.hid (HEB.out i)
      obtain ⟨ev, hev⟩ : ∃ v, e.val = v := ⟨_, rfl⟩
      rw [hev] at HLD
      have HEV := Lib.hid hev
      clear he hm hld hev
      subst e0
      go_wp2_with (first
        | (show wpList _ _ _ (⟨some 52, _, _, _, _, _⟩ :: _) _ _
           refine QB.wpList_ld 49 rfl rfl HLD.out rfl ?_; clear HLD)
        | (refine QB.wpList_alloc rfl 49 rfl zero_ent ?_; intro W2 hr2 hb2; have HR2 := Lib.hid (show Row W2 wr.heap.size zen.cs 49 from hr2); have HB2 := Lib.hid hb2; clear hr2 hb2)
        | (show wpList _ _ _ (⟨none, .store 49 (.tmp 7) (.tmp 52), _, _, _, _⟩ :: _) _ _
           refine wpList_storeRow rfl 49 (.tmp 7) (.tmp 52) rfl rfl (cs := e.cs) HEV.out.symm HR2.out (by kernel_rfl) (En.len HEK.out.1) (En.len zen_K) (En.one _) ?_
           refine QB.name fun W hW => ?_
           have HRW := Lib.hid (show Row W wr.heap.size e.cs 49 from hW ▸ HR2.out.setRow _)
           have HSW := Lib.hid (hs.out.below (show Below wr.heap.size wr W from hW ▸ below_setRow HB2.out (Nat.le_refl _) _))
           have HLV := Lib.hid (l_ent HRW.out HEK.out.1)
           rw [HEV.out] at HLV
           clear hW HR2 HB2)
        | (show wpList _ _ _ (⟨some 54, _, _, _, _, _⟩ :: _) _ _
           refine QB.wpList_ld 49 rfl rfl HLV.out rfl ?_; clear HLV)
        | fail)
      refine (show Calls Try.prog 23 #[ev] _ _ from HEV.out ▸ EntryBytes_ok HEK.out.1 HEK.out.2.1 HEK.out.2.2).mono ?_
      rintro r w6 ⟨v6, rfl, ho6, hb6⟩
      have HS6 := Lib.hid (HSW.out.below hb6)
      have HO6 := Lib.hid ho6
      obtain ⟨A6, n6, rfl⟩ := ho6.shape
      have HN6 := Lib.hid (En.enc_le HEK.out.1 HEK.out.2.1 HEK.out.2.2)
      clear ho6 hb6
      go_wp2_with fail
      refine (Block_ok _ _ _ e.enc w6 HS6.out.own.bs HO6.out.bs (by have := HN6.out; omega) (by have := HLM.out; have := HL0.out; rw [List.length_append]; omega)).mono ?_
      rintro r w7 ⟨v7, rfl, ho7, hb7⟩
      have HS7 := Lib.hid (show BSt W1 w7 v7 _ from ⟨ho7.less HS6.out.keep.size, nextB HS6.out.keep (Nat.le_refl _) hb7⟩)
      clear ho7 hb7
      go_wp2_with fail
      go_roundw
      case rel =>
        refine ⟨i + 1, by have := HLT.out; omega, by go_num, Lib.hid ?_⟩
        rw [HT.out]
        have := HS7.out
        simpa [blk] using this
      case measure => have := HLT.out; simp [intOf]; omega
    · have HS6 := Lib.hid (show BSt W1 wr u5 (L0 ++ es.flatMap (fun e => blk e.enc)) by
        have h := hs.out
        rwa [show i = es.length by omega, List.take_length] at h)
      have HLM := Lib.hid (show (es.flatMap (fun e => blk e.enc)).length ≤ 209 * 32 by have := HEB.out es.length; rwa [List.take_length] at this)
      clear hs hi2
      have c9 := (FRp.out wr HS6.out.keep).cell (i := 9) rfl
      have HBB := Lib.hid (show Bs wr wr.heap.size (.slice A2 body.length n2) body from ((HA1.out.body.below HS6.out.keep).more HS6.out.keep.size))
      go_wp2_with fail
      clear c9
      refine (Block_ok _ _ _ body wr HS6.out.own.bs HBB.out HL.out.2.1 (by have := HLM.out; have := HL0.out; rw [List.length_append]; omega)).mono ?_
      rintro r w7 ⟨v7, rfl, ho7, hb7⟩
      have HO7 := Lib.hid ho7
      have HB7 := Lib.hid hb7
      clear ho7 hb7
      go_wp2
      go_ret2
      refine ⟨_, rfl, ?_, nextB HB1.out (Nat.le_refl _) (nextB HS6.out.keep (Nat.le_refl _) HB7.out)⟩
      have := HO7.out.less (Nat.le_trans HB1.out.size HS6.out.keep.size)
      unfold Ms.enc
      rw [HE.out]
      simpa [blk] using this
end Go.Proofs.Ytedmogacklbcmaa.Wir
