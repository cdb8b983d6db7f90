/- config: setRoute. -/
import Derived.Test.YtlphmbefcbhhpaaCfgPut2
import Derived.Test.YtlphmbefcbhhpaaCfgSetPeer
namespace Go.Proofs.Ytlphmbefcbhhpaa.Cfg
open Go.RowKit
def zcfg : Value := .agg #[.slice none 0 0, .slice none 0 0]
theorem build_rt (a b p : Int) (w : World) : (Instr.build 87 #[(0, .int .u32 a), (1, .int .i64 b), (2, .int .i64 p)]).run Try.prog w = .ok (Rt.val ⟨a, b, p⟩) w := by
  show _ = _
  kernel_rfl
def setR (l : List Rt) (x : Rt) : List Rt := lo Rt.key x.key l ++ x :: hi Rt.key x.key l
theorem setR_is {l : List Rt} (hO : Ord Rt.key l) (x : Rt) : l.take (pos Rt.key (x.addr, x.bits) l) ++ [x] ++ l.drop (pos Rt.key (x.addr, x.bits) l + (if has Rt.key (x.addr, x.bits) l = true then 1 else 0)) = setR l x := by
  unfold setR
  rw [show x.key = (x.addr, x.bits) from rfl, take_pos _ hO, drop_pos _ hO, List.append_assoc]
  rfl
theorem pos_fitR {l : List Rt} (hO : Ord Rt.key l) (k : Ky) : pos Rt.key k l + (if has Rt.key k l = true then 1 else 0) ≤ l.length := by
  cases hh : has Rt.key k l with
  | false => simpa using pos_le k l
  | true =>
    obtain ⟨x, hx, _⟩ := at_pos k hO hh
    have := (List.getElem?_eq_some_iff.1 hx).1
    simp
    omega
set_option maxRecDepth 100000 in
set_option maxHeartbeats 2000000 in
theorem setRoute_none {w : World} {B : Nat} {vp vr : Value} {c : Cf} {o : Opn} (h : CAt w B vp vr c) (hV : Val c) (hk : o.ky.length = 32) (hpeer : has Mb.key (o.id, 0) c.ps = false) (hB : B ≤ w.heap.size) :
    Calls Try.prog 144 #[.agg #[vp, vr], o.val] w fun e w' => e = .returned (.tuple #[zcfg, .int .i64 6]) ∧ Below w.heap.size w w' := by
  obtain ⟨A1, n1, A2, n2, rfl, rfl⟩ := h.shape
  obtain ⟨W1, hW1⟩ : ∃ W1, ((w.alloc (.cells #[.slice A1 c.ps.length n1, .slice A2 c.rs.length n2] 27)).alloc (.cells o.cs.toArray 45)).alloc (.cells #[.slice none 0 0, .slice none 0 0] 27) = W1 := ⟨_, rfl⟩
  have hb1 : Below w.heap.size w W1 := hW1 ▸ (((Below.refl _ w).alloc (Nat.le_refl _) _).alloc (by simp) _).alloc (by simp; omega) _
  have hr0 : Row W1 w.heap.size [.slice A1 c.ps.length n1, .slice A2 c.rs.length n2] 27 := hW1 ▸ ((Row.new rfl rfl : Row (w.alloc (.cells #[.slice A1 c.ps.length n1, .slice A2 c.rs.length n2] 27)) w.heap.size [.slice A1 c.ps.length n1, .slice A2 c.rs.length n2] 27).alloc _).alloc _
  have hr1 : Row W1 (w.heap.size + 1) o.cs 45 := hW1 ▸ (Row.new (by simp) rfl : Row ((w.alloc (.cells #[.slice A1 c.ps.length n1, .slice A2 c.rs.length n2] 27)).alloc (.cells o.cs.toArray 45)) (w.heap.size + 1) o.cs 45).alloc _
  have hr2 : Row W1 (w.heap.size + 1 + 1) [.slice none 0 0, .slice none 0 0] 27 := hW1 ▸ Row.new (by simp) rfl
  have c0 := hr0.cell (i := 0) rfl
  have c1 := hr0.cell (i := 1) rfl
  have ci := hr1.cell (i := 2) rfl
  have ca := hr1.cell (i := 35) (Opn.at35 hk)
  have cb := hr1.cell (i := 36) (Opn.at36 hk)
  have HR0 := Lib.hid hr0
  have HR1 := Lib.hid hr1
  have HR2 := Lib.hid hr2
  have HB1 := Lib.hid hb1
  have HC := Lib.hid h
  have Hk := Lib.hid hk
  have HV := Lib.hid hV
  have HBw := Lib.hid hB
  have HAt := Lib.hid (At1_any (w := W1) (B := B) (vp := .slice A1 c.ps.length n1) (vr := .slice A2 c.rs.length n2) (h.1.below (hb1.mono hB)) (by have := hV.1; omega) hV.2.2.2.1 rfl rfl o.id (Nat.le_trans hB hb1.size))
  obtain ⟨p, hp⟩ : ∃ p, pos Mb.key (o.id, 0) c.ps = p := ⟨_, rfl⟩
  rw [hp, hpeer] at HAt
  clear h hV hk hB hb1 hr0 hr1 hr2 hp hpeer
  unfold Opn.val
  go_enter Try.func144, Try.ntmps144
  go_wp2_with fail
  refine HAt.out.mono ?_
  rintro e W2 ⟨rfl, hb⟩
  have HR0' := Lib.hid (HR0.out.below hb HR0.out.lt)
  have HR1' := Lib.hid (HR1.out.below hb HR1.out.lt)
  have HR2' := Lib.hid (HR2.out.below hb HR2.out.lt)
  have HB12 := Lib.hid (show Below w.heap.size w W2 from nextB HB1.out (Nat.le_refl _) hb)
  have d0 := HR0'.out.cell (i := 0) rfl
  have d1 := HR0'.out.cell (i := 1) rfl
  have di := HR1'.out.cell (i := 2) rfl
  have da := HR1'.out.cell (i := 35) (Opn.at35 Hk.out)
  have db := HR1'.out.cell (i := 36) (Opn.at36 Hk.out)
  clear hb c0 c1 ci ca cb hW1
  clear HAt HC HV Hk
  have f0 := frozen_row HR2'.out 0
  have f1 := frozen_row HR2'.out 1
  have g0 := HR2'.out.cell (i := 0) rfl
  have g1 := HR2'.out.cell (i := 1) rfl
  go_wp2_with fail
  refine bodyPost_ret (results_ct rfl rfl ((HR2'.out.set 0 _).set 1 _) Try.underlying27 rfl (by kernel_rfl) rfl) rfl ?_
  exact ⟨rfl, (HB12.out.setCell (by simp; omega) _).setCell (by simp; omega) _⟩
set_option maxRecDepth 100000 in
set_option maxHeartbeats 2000000 in
theorem setRoute_full {w : World} {B : Nat} {vp vr : Value} {c : Cf} {o : Opn} (h : CAt w B vp vr c) (hV : Val c) (hk : o.ky.length = 32) (hpeer : has Mb.key (o.id, 0) c.ps = true) (hth : has Rt.key (o.addr, o.bits) c.rs = false) (hfull : c.rs.length = 256) (hB : B ≤ w.heap.size) :
    Calls Try.prog 144 #[.agg #[vp, vr], o.val] w fun e w' => e = .returned (.tuple #[zcfg, .int .i64 9]) ∧ Below w.heap.size w w' := by
  obtain ⟨A1, n1, A2, n2, rfl, rfl⟩ := h.shape
  obtain ⟨W1, hW1⟩ : ∃ W1, ((w.alloc (.cells #[.slice A1 c.ps.length n1, .slice A2 c.rs.length n2] 27)).alloc (.cells o.cs.toArray 45)).alloc (.cells #[.slice none 0 0, .slice none 0 0] 27) = W1 := ⟨_, rfl⟩
  have hb1 : Below w.heap.size w W1 := hW1 ▸ (((Below.refl _ w).alloc (Nat.le_refl _) _).alloc (by simp) _).alloc (by simp; omega) _
  have hr0 : Row W1 w.heap.size [.slice A1 c.ps.length n1, .slice A2 c.rs.length n2] 27 := hW1 ▸ ((Row.new rfl rfl : Row (w.alloc (.cells #[.slice A1 c.ps.length n1, .slice A2 c.rs.length n2] 27)) w.heap.size [.slice A1 c.ps.length n1, .slice A2 c.rs.length n2] 27).alloc _).alloc _
  have hr1 : Row W1 (w.heap.size + 1) o.cs 45 := hW1 ▸ (Row.new (by simp) rfl : Row ((w.alloc (.cells #[.slice A1 c.ps.length n1, .slice A2 c.rs.length n2] 27)).alloc (.cells o.cs.toArray 45)) (w.heap.size + 1) o.cs 45).alloc _
  have hr2 : Row W1 (w.heap.size + 1 + 1) [.slice none 0 0, .slice none 0 0] 27 := hW1 ▸ Row.new (by simp) rfl
  have c0 := hr0.cell (i := 0) rfl
  have c1 := hr0.cell (i := 1) rfl
  have ci := hr1.cell (i := 2) rfl
  have ca := hr1.cell (i := 35) (Opn.at35 hk)
  have cb := hr1.cell (i := 36) (Opn.at36 hk)
  have HR0 := Lib.hid hr0
  have HR1 := Lib.hid hr1
  have HR2 := Lib.hid hr2
  have HB1 := Lib.hid hb1
  have HC := Lib.hid h
  have Hk := Lib.hid hk
  have HV := Lib.hid hV
  have HBw := Lib.hid hB
  have HTH := Lib.hid hth
  have hf : ((c.rs.length : Int) == 256) = true := by rw [hfull]; rfl
  clear hth hfull
  have HAt := Lib.hid (At1_any (w := W1) (B := B) (vp := .slice A1 c.ps.length n1) (vr := .slice A2 c.rs.length n2) (h.1.below (hb1.mono hB)) (by have := hV.1; omega) hV.2.2.2.1 rfl rfl o.id (Nat.le_trans hB hb1.size))
  obtain ⟨p, hp⟩ : ∃ p, pos Mb.key (o.id, 0) c.ps = p := ⟨_, rfl⟩
  rw [hp, hpeer] at HAt
  clear h hV hk hB hb1 hr0 hr1 hr2 hp hpeer
  unfold Opn.val
  go_enter Try.func144, Try.ntmps144
  go_wp2_with fail
  refine HAt.out.mono ?_
  rintro e W2 ⟨rfl, hb⟩
  have HR0' := Lib.hid (HR0.out.below hb HR0.out.lt)
  have HR1' := Lib.hid (HR1.out.below hb HR1.out.lt)
  have HR2' := Lib.hid (HR2.out.below hb HR2.out.lt)
  have HB12 := Lib.hid (show Below w.heap.size w W2 from nextB HB1.out (Nat.le_refl _) hb)
  have d0 := HR0'.out.cell (i := 0) rfl
  have d1 := HR0'.out.cell (i := 1) rfl
  have di := HR1'.out.cell (i := 2) rfl
  have da := HR1'.out.cell (i := 35) (Opn.at35 Hk.out)
  have db := HR1'.out.cell (i := 36) (Opn.at36 Hk.out)
  clear hb c0 c1 ci ca cb hW1
  have HAt2 := Lib.hid (At2_any (w := W2) (B := B) (vp := .slice A1 c.ps.length n1) (vr := .slice A2 c.rs.length n2) (RTab.below HC.out.2 (HB12.out.mono HBw.out)) (by have := HV.out.2.1; omega) HV.out.2.2.2.2.2 rfl rfl o.addr o.bits (Nat.le_trans HBw.out HB12.out.size))
  obtain ⟨q, hq⟩ : ∃ q, pos Rt.key (o.addr, o.bits) c.rs = q := ⟨_, rfl⟩
  rw [hq, HTH.out] at HAt2
  have Hq := Lib.hid hq
  clear HAt hq
  go_wp2_with fail
  refine HAt2.out.mono ?_
  rintro e W3 ⟨rfl, hb⟩
  have KR0 := Lib.hid (HR0'.out.below hb HR0'.out.lt)
  have KR1 := Lib.hid (HR1'.out.below hb HR1'.out.lt)
  have KR2 := Lib.hid (HR2'.out.below hb HR2'.out.lt)
  have HB13 := Lib.hid (show Below w.heap.size w W3 from nextB HB12.out (Nat.le_refl _) hb)
  clear hb d0 d1 di da db HAt2 HR0' HR1' HR2'
  have d0 := KR0.out.cell (i := 0) rfl
  have d1 := KR0.out.cell (i := 1) rfl
  have di := KR1.out.cell (i := 2) rfl
  have da := KR1.out.cell (i := 35) (Opn.at35 Hk.out)
  have db := KR1.out.cell (i := 36) (Opn.at36 Hk.out)
  clear HC HV Hk
  have f0 := frozen_row KR2.out 0
  have f1 := frozen_row KR2.out 1
  have g0 := KR2.out.cell (i := 0) rfl
  have g1 := KR2.out.cell (i := 1) rfl
  go_wp2_with fail
  refine bodyPost_ret (results_ct rfl rfl ((KR2.out.set 0 _).set 1 _) Try.underlying27 rfl (by kernel_rfl) rfl) rfl ?_
  exact ⟨rfl, (HB13.out.setCell (by simp; omega) _).setCell (by simp; omega) _⟩
set_option maxRecDepth 100000 in
set_option maxHeartbeats 4000000 in
theorem setRoute_ok {w : World} {B : Nat} {vp vr : Value} {c : Cf} {o : Opn} (h : CAt w B vp vr c) (hV : Val c) (hk : o.ky.length = 32) (hpeer : has Mb.key (o.id, 0) c.ps = true) (hfull : has Rt.key (o.addr, o.bits) c.rs = true ∨ c.rs.length ≠ 256) (hB : B ≤ w.heap.size) :
    Calls Try.prog 144 #[.agg #[vp, vr], o.val] w fun e w' => ∃ v1 v2, e = .returned (.tuple #[.agg #[v1, v2], .int .i64 0]) ∧ CNew w' w.heap.size v1 v2 ⟨c.ps, setR c.rs ⟨o.addr, o.bits, o.id⟩⟩ ∧ Below w.heap.size w w' := by
  obtain ⟨A1, n1, A2, n2, rfl, rfl⟩ := h.shape
  obtain ⟨W1, hW1⟩ : ∃ W1, ((w.alloc (.cells #[.slice A1 c.ps.length n1, .slice A2 c.rs.length n2] 27)).alloc (.cells o.cs.toArray 45)).alloc (.cells #[.slice none 0 0, .slice none 0 0] 27) = W1 := ⟨_, rfl⟩
  have hb1 : Below w.heap.size w W1 := hW1 ▸ (((Below.refl _ w).alloc (Nat.le_refl _) _).alloc (by simp) _).alloc (by simp; omega) _
  have hr0 : Row W1 w.heap.size [.slice A1 c.ps.length n1, .slice A2 c.rs.length n2] 27 := hW1 ▸ ((Row.new rfl rfl : Row (w.alloc (.cells #[.slice A1 c.ps.length n1, .slice A2 c.rs.length n2] 27)) w.heap.size [.slice A1 c.ps.length n1, .slice A2 c.rs.length n2] 27).alloc _).alloc _
  have hr1 : Row W1 (w.heap.size + 1) o.cs 45 := hW1 ▸ (Row.new (by simp) rfl : Row ((w.alloc (.cells #[.slice A1 c.ps.length n1, .slice A2 c.rs.length n2] 27)).alloc (.cells o.cs.toArray 45)) (w.heap.size + 1) o.cs 45).alloc _
  have hr2 : Row W1 (w.heap.size + 1 + 1) [.slice none 0 0, .slice none 0 0] 27 := hW1 ▸ Row.new (by simp) rfl
  have c0 := hr0.cell (i := 0) rfl
  have c1 := hr0.cell (i := 1) rfl
  have ci := hr1.cell (i := 2) rfl
  have ca := hr1.cell (i := 35) (Opn.at35 hk)
  have cb := hr1.cell (i := 36) (Opn.at36 hk)
  have HR0 := Lib.hid hr0
  have HR1 := Lib.hid hr1
  have HR2 := Lib.hid hr2
  have HB1 := Lib.hid hb1
  have HC := Lib.hid h
  have Hk := Lib.hid hk
  have HV := Lib.hid hV
  have HBw := Lib.hid hB
  obtain ⟨th, hth⟩ : ∃ th, has Rt.key (o.addr, o.bits) c.rs = th := ⟨_, rfl⟩
  have HTH := Lib.hid hth
  rw [hth] at hfull
  have Hfull := Lib.hid hfull
  clear hth hfull
  have HAt := Lib.hid (At1_any (w := W1) (B := B) (vp := .slice A1 c.ps.length n1) (vr := .slice A2 c.rs.length n2) (h.1.below (hb1.mono hB)) (by have := hV.1; omega) hV.2.2.2.1 rfl rfl o.id (Nat.le_trans hB hb1.size))
  obtain ⟨p, hp⟩ : ∃ p, pos Mb.key (o.id, 0) c.ps = p := ⟨_, rfl⟩
  rw [hp, hpeer] at HAt
  clear h hV hk hB hb1 hr0 hr1 hr2 hp hpeer
  unfold Opn.val
  go_enter Try.func144, Try.ntmps144
  go_wp2_with fail
  refine HAt.out.mono ?_
  rintro e W2 ⟨rfl, hb⟩
  have HR0' := Lib.hid (HR0.out.below hb HR0.out.lt)
  have HR1' := Lib.hid (HR1.out.below hb HR1.out.lt)
  have HR2' := Lib.hid (HR2.out.below hb HR2.out.lt)
  have HB12 := Lib.hid (show Below w.heap.size w W2 from nextB HB1.out (Nat.le_refl _) hb)
  have d0 := HR0'.out.cell (i := 0) rfl
  have d1 := HR0'.out.cell (i := 1) rfl
  have di := HR1'.out.cell (i := 2) rfl
  have da := HR1'.out.cell (i := 35) (Opn.at35 Hk.out)
  have db := HR1'.out.cell (i := 36) (Opn.at36 Hk.out)
  clear hb c0 c1 ci ca cb hW1
  have HAt2 := Lib.hid (At2_any (w := W2) (B := B) (vp := .slice A1 c.ps.length n1) (vr := .slice A2 c.rs.length n2) (RTab.below HC.out.2 (HB12.out.mono HBw.out)) (by have := HV.out.2.1; omega) HV.out.2.2.2.2.2 rfl rfl o.addr o.bits (Nat.le_trans HBw.out HB12.out.size))
  obtain ⟨q, hq⟩ : ∃ q, pos Rt.key (o.addr, o.bits) c.rs = q := ⟨_, rfl⟩
  rw [hq, HTH.out] at HAt2
  have Hq := Lib.hid hq
  clear HAt hq
  go_wp2_with fail
  refine HAt2.out.mono ?_
  rintro e W3 ⟨rfl, hb⟩
  have KR0 := Lib.hid (HR0'.out.below hb HR0'.out.lt)
  have KR1 := Lib.hid (HR1'.out.below hb HR1'.out.lt)
  have KR2 := Lib.hid (HR2'.out.below hb HR2'.out.lt)
  have HB13 := Lib.hid (show Below w.heap.size w W3 from nextB HB12.out (Nat.le_refl _) hb)
  clear hb d0 d1 di da db HAt2 HR0' HR1' HR2'
  have d0 := KR0.out.cell (i := 0) rfl
  have d1 := KR0.out.cell (i := 1) rfl
  have di := KR1.out.cell (i := 2) rfl
  have da := KR1.out.cell (i := 35) (Opn.at35 Hk.out)
  have db := KR1.out.cell (i := 36) (Opn.at36 Hk.out)
  have HBR := Lib.hid (build_rt o.addr o.bits o.id W3)
  have HS := Lib.hid (set2_any (w := W3) (B := B) (v := .slice A2 c.rs.length n2) (l := c.rs) (x := ⟨o.addr, o.bits, o.id⟩) (a := q) th (RTab.below HC.out.2 (HB13.out.mono HBw.out)) (by have := HV.out.2.1; omega) (by have := pos_fitR HV.out.2.2.2.2.2 (o.addr, o.bits); rw [Hq.out, HTH.out] at this; exact this) (Nat.le_trans HBw.out HB13.out.size))
  cases th
  · have hf : ((c.rs.length : Int) == 256) = false := by have := Hfull.out; simp at this ⊢; omega
    simp only [Bool.false_eq_true, if_false, Nat.add_zero] at HS
    go_wp2_with (first
      | (show wpList _ _ _ (⟨some 49, _, _, _, _, _⟩ :: _) _ _
         refine wpList_bp rfl 87 #[(0, .tmp 44), (1, .tmp 46), (2, .tmp 48)] rfl (ps := #[(0, .int .u32 o.addr), (1, .int .i64 o.bits), (2, .int .i64 o.id)]) (by kernel_rfl) HBR.out ?_
         clear HBR)
      | fail)
    refine HS.out.mono ?_
    rintro e W4 ⟨v1, rfl, ho, hb3⟩
    obtain ⟨l', hl'⟩ : ∃ l', c.rs.take q ++ [⟨o.addr, o.bits, o.id⟩] ++ c.rs.drop q = l' := ⟨_, rfl⟩
    rw [hl'] at ho
    have Hl' := Lib.hid hl'
    clear hl'
    obtain ⟨A3, n3, rfl, _⟩ := (show Tab 3 W4 W4.heap.size v1 l'.length (rcs l') from ho.tab).shape
    have HO := Lib.hid ho
    have HB4 := Lib.hid hb3
    have e0 := (KR0.out.below hb3 KR0.out.lt).cell (i := 0) rfl
    have LR2 := Lib.hid (KR2.out.below hb3 KR2.out.lt)
    have HB14 := Lib.hid (show Below w.heap.size w W4 from nextB HB13.out (Nat.le_refl _) hb3)
    have HCl := Lib.hid (clone1_any (w := W4) (B := B) (HC.out.1.below (HB14.out.mono HBw.out)) (by have := HV.out.1; omega))
    clear ho hb3 d0 d1 di da db HS hf
    go_wp2_with fail
    refine HCl.out.mono ?_
    rintro e W5 ⟨v2, rfl, ho4, hb4⟩
    obtain ⟨A4, n4, rfl, _⟩ := ho4.tab.2.shape
    have HO4 := Lib.hid ho4
    have HB5 := Lib.hid hb4
    have MR2 := Lib.hid (LR2.out.below hb4 LR2.out.lt)
    have f0 := frozen_row MR2.out 0
    have f1 := frozen_row MR2.out 1
    have g0 := MR2.out.cell (i := 0) rfl
    have g1 := MR2.out.cell (i := 1) rfl
    clear ho4 hb4 e0 HCl
    go_wp2_with fail
    have HX := Lib.hid ((((⟨⟨HO4.out.1, own_less HO4.out.2 (show w.heap.size + 1 + 1 + 1 ≤ W4.heap.size from LR2.out.lt)⟩, own_less (owns_below (show World.ownsRow _ _ _ _ _ _ _ from HO.out) HB5.out) (show w.heap.size + 1 + 1 + 1 ≤ W3.heap.size from KR2.out.lt)⟩ : CNew W5 (w.heap.size + 1 + 1 + 1) (.slice A4 c.ps.length n4) (.slice A3 l'.length n3) ⟨c.ps, l'⟩).setCell ⟨w.heap.size + 1 + 1, 0, none⟩ (Nat.lt_succ_self _) (.slice A4 c.ps.length n4)).setCell ⟨w.heap.size + 1 + 1, 1, none⟩ (Nat.lt_succ_self _) (.slice A3 l'.length n3)).less (base' := w.heap.size) (by omega))
    refine bodyPost_ret (results_ct rfl rfl ((MR2.out.set 0 _).set 1 _) Try.underlying27 rfl (by kernel_rfl) rfl) rfl ?_
    refine ⟨_, _, rfl, ?_, ((nextB HB14.out (Nat.le_refl _) HB5.out).setCell (by simp; omega) _).setCell (by simp; omega) _⟩
    have e2 := setR_is HV.out.2.2.2.2.2 ⟨o.addr, o.bits, o.id⟩
    rw [show (⟨o.addr, o.bits, o.id⟩ : Rt).addr = o.addr from rfl, show (⟨o.addr, o.bits, o.id⟩ : Rt).bits = o.bits from rfl, Hq.out, HTH.out] at e2
    rw [← e2]
    simp only [Bool.false_eq_true, if_false, Nat.add_zero, if_true]
    rw [Hl'.out]
    exact HX.out
  · simp only [if_true] at HS
    go_wp2_with (first
      | (show wpList _ _ _ (⟨some 49, _, _, _, _, _⟩ :: _) _ _
         refine wpList_bp rfl 87 #[(0, .tmp 44), (1, .tmp 46), (2, .tmp 48)] rfl (ps := #[(0, .int .u32 o.addr), (1, .int .i64 o.bits), (2, .int .i64 o.id)]) (by kernel_rfl) HBR.out ?_
         clear HBR)
      | fail)
    refine HS.out.mono ?_
    rintro e W4 ⟨v1, rfl, ho, hb3⟩
    obtain ⟨l', hl'⟩ : ∃ l', c.rs.take q ++ [⟨o.addr, o.bits, o.id⟩] ++ c.rs.drop (q + 1) = l' := ⟨_, rfl⟩
    rw [hl'] at ho
    have Hl' := Lib.hid hl'
    clear hl'
    obtain ⟨A3, n3, rfl, _⟩ := (show Tab 3 W4 W4.heap.size v1 l'.length (rcs l') from ho.tab).shape
    have HO := Lib.hid ho
    have HB4 := Lib.hid hb3
    have e0 := (KR0.out.below hb3 KR0.out.lt).cell (i := 0) rfl
    have LR2 := Lib.hid (KR2.out.below hb3 KR2.out.lt)
    have HB14 := Lib.hid (show Below w.heap.size w W4 from nextB HB13.out (Nat.le_refl _) hb3)
    have HCl := Lib.hid (clone1_any (w := W4) (B := B) (HC.out.1.below (HB14.out.mono HBw.out)) (by have := HV.out.1; omega))
    clear ho hb3 d0 d1 di da db HS
    go_wp2_with fail
    refine HCl.out.mono ?_
    rintro e W5 ⟨v2, rfl, ho4, hb4⟩
    obtain ⟨A4, n4, rfl, _⟩ := ho4.tab.2.shape
    have HO4 := Lib.hid ho4
    have HB5 := Lib.hid hb4
    have MR2 := Lib.hid (LR2.out.below hb4 LR2.out.lt)
    have f0 := frozen_row MR2.out 0
    have f1 := frozen_row MR2.out 1
    have g0 := MR2.out.cell (i := 0) rfl
    have g1 := MR2.out.cell (i := 1) rfl
    clear ho4 hb4 e0 HCl
    go_wp2_with fail
    have HX := Lib.hid ((((⟨⟨HO4.out.1, own_less HO4.out.2 (show w.heap.size + 1 + 1 + 1 ≤ W4.heap.size from LR2.out.lt)⟩, own_less (owns_below (show World.ownsRow _ _ _ _ _ _ _ from HO.out) HB5.out) (show w.heap.size + 1 + 1 + 1 ≤ W3.heap.size from KR2.out.lt)⟩ : CNew W5 (w.heap.size + 1 + 1 + 1) (.slice A4 c.ps.length n4) (.slice A3 l'.length n3) ⟨c.ps, l'⟩).setCell ⟨w.heap.size + 1 + 1, 0, none⟩ (Nat.lt_succ_self _) (.slice A4 c.ps.length n4)).setCell ⟨w.heap.size + 1 + 1, 1, none⟩ (Nat.lt_succ_self _) (.slice A3 l'.length n3)).less (base' := w.heap.size) (by omega))
    refine bodyPost_ret (results_ct rfl rfl ((MR2.out.set 0 _).set 1 _) Try.underlying27 rfl (by kernel_rfl) rfl) rfl ?_
    refine ⟨_, _, rfl, ?_, ((nextB HB14.out (Nat.le_refl _) HB5.out).setCell (by simp; omega) _).setCell (by simp; omega) _⟩
    have e2 := setR_is HV.out.2.2.2.2.2 ⟨o.addr, o.bits, o.id⟩
    rw [show (⟨o.addr, o.bits, o.id⟩ : Rt).addr = o.addr from rfl, show (⟨o.addr, o.bits, o.id⟩ : Rt).bits = o.bits from rfl, Hq.out, HTH.out] at e2
    rw [← e2]
    simp only [Bool.false_eq_true, if_false, Nat.add_zero, if_true]
    rw [Hl'.out]
    exact HX.out
end Go.Proofs.Ytlphmbefcbhhpaa.Cfg
