/- config: Do of what is no operation; of a route. -/
import Derived.Test.YtlphmbefcbhhpaaCfgDo
import Derived.Test.YtlphmbefcbhhpaaCfgSetRoute
namespace Go.Proofs.Ytlphmbefcbhhpaa.Cfg
open Go.RowKit
set_option maxRecDepth 100000 in
set_option maxHeartbeats 2000000 in
theorem Do_bad {w : World} {B : Nat} {vp vr : Value} {c : Cf} {o : Opn} (h : CAt w B vp vr c) (hV : Val c) (hk : o.ky.length = 32) (hok : okO o = false) (hB : B ≤ w.heap.size) :
    Calls Try.prog 34 #[.agg #[vp, vr], o.val] w fun e w' => e = .returned (.tuple #[zcfg, .int .i64 2]) ∧ Below w.heap.size w w' := by
  obtain ⟨A1, n1, A2, n2, rfl, rfl⟩ := h.shape
  obtain ⟨W1, hW1⟩ : ∃ W1, ((w.alloc (.cells #[.slice A1 c.ps.length n1, .slice A2 c.rs.length n2] 27)).alloc (.cells o.cs.toArray 45)).alloc (.cells #[.slice none 0 0, .slice none 0 0] 27) = W1 := ⟨_, rfl⟩
  have hb1 : Below w.heap.size w W1 := hW1 ▸ (((Below.refl _ w).alloc (Nat.le_refl _) _).alloc (by simp) _).alloc (by simp; omega) _
  have hr0 : Row W1 w.heap.size [.slice A1 c.ps.length n1, .slice A2 c.rs.length n2] 27 := hW1 ▸ ((Row.new rfl rfl : Row (w.alloc (.cells #[.slice A1 c.ps.length n1, .slice A2 c.rs.length n2] 27)) w.heap.size [.slice A1 c.ps.length n1, .slice A2 c.rs.length n2] 27).alloc _).alloc _
  have hr1 : Row W1 (w.heap.size + 1) o.cs 45 := hW1 ▸ (Row.new (by simp) rfl : Row ((w.alloc (.cells #[.slice A1 c.ps.length n1, .slice A2 c.rs.length n2] 27)).alloc (.cells o.cs.toArray 45)) (w.heap.size + 1) o.cs 45).alloc _
  have hr2 : Row W1 (w.heap.size + 1 + 1) [.slice none 0 0, .slice none 0 0] 27 := hW1 ▸ Row.new (by simp) rfl
  have c0 := hr0.cell (i := 0) rfl
  have c1 := hr0.cell (i := 1) rfl
  have HR0 := Lib.hid hr0
  have HR1 := Lib.hid hr1
  have HR2 := Lib.hid hr2
  have HB1 := Lib.hid hb1
  have HC := Lib.hid h
  have Hk := Lib.hid hk
  have HBw := Lib.hid hB
  have HCh := Lib.hid (Check_any (w := W1) (B := B) (h.below (hb1.mono hB)) (Nat.le_trans hB hb1.size))
  have Hok := Lib.hid (show checkOpZ o = 2 from if_neg (by rw [hok]; decide))
  rw [show checkZ c = 0 from if_pos hV] at HCh
  clear h hV hk hB hb1 hr0 hr1 hr2 hok
  unfold Opn.val
  go_enter Try.func34, Try.ntmps34
  go_wp2_with fail
  refine HCh.out.mono ?_
  rintro e W2 ⟨rfl, hb⟩
  have HB12 := Lib.hid (show Below w.heap.size w W2 from nextB HB1.out (Nat.le_refl _) hb)
  have HR0' := Lib.hid (HR0.out.below hb HR0.out.lt)
  have HR1' := Lib.hid (HR1.out.below hb HR1.out.lt)
  have HR2' := Lib.hid (HR2.out.below hb HR2.out.lt)
  have HLO := Lib.hid (l_op HR1'.out Hk.out)
  have HCO := Lib.hid (CheckOp_any o Hk.out W2)
  rw [Hok.out] at HCO
  clear hb c0 c1 hW1 HCh
  go_wp2_with (first
    | (show wpList _ _ _ (⟨some 14, _, _, _, _, _⟩ :: _) _ _
       refine QB.wpList_ld 45 rfl rfl HLO.out rfl ?_
       clear HLO)
    | fail)
  refine HCO.out.mono ?_
  rintro e W3 ⟨rfl, hb⟩
  have HB13 := Lib.hid (show Below w.heap.size w W3 from nextB HB12.out (Nat.le_refl _) hb)
  have HR0b := Lib.hid (HR0'.out.below hb HR0'.out.lt)
  have HR1b := Lib.hid (HR1'.out.below hb HR1'.out.lt)
  have HR2b := Lib.hid (HR2'.out.below hb HR2'.out.lt)
  clear hb HCO
  have f0 := frozen_row HR2b.out 0
  have f1 := frozen_row HR2b.out 1
  have g0 := HR2b.out.cell (i := 0) rfl
  have g1 := HR2b.out.cell (i := 1) rfl
  clear HC Hk HBw
  go_wp2_with fail
  refine bodyPost_ret (results_ct rfl rfl ((HR2b.out.set 0 _).set 1 _) Try.underlying27 rfl (by kernel_rfl) rfl) rfl ?_
  exact ⟨rfl, (HB13.out.setCell (by simp; omega) _).setCell (by simp; omega) _⟩
/-- What a deed that is not possible answers. -/
theorem res_zero : Res (fun _ v1 v2 => v1 = .slice none 0 0 ∧ v2 = .slice none 0 0) := ⟨fun _ _ _ _ h _ => h, fun _ _ _ ⟨h1, h2⟩ => by subst h1 h2; exact ⟨rfl, rfl⟩⟩
/-- What Do answers for a route: that it can't, or the new configuration. -/
theorem DoRoute {w : World} {B : Nat} {vp vr : Value} {c : Cf} {o : Opn} (h : CAt w B vp vr c) (hV : Val c) (hk : o.ky.length = 32) (hkind : o.kind = 4) (hB : B ≤ w.heap.size) :
    (∃ E : Int, E ≠ 0 ∧ Calls Try.prog 34 #[.agg #[vp, vr], o.val] w fun e w' => e = .returned (.tuple #[zcfg, .int .i64 E]) ∧ Below w.heap.size w w') ∨
    (okO o = true ∧ has Mb.key (o.id, 0) c.ps = true ∧ (has Rt.key (o.addr, o.bits) c.rs = true ∨ c.rs.length ≠ 256) ∧ Calls Try.prog 34 #[.agg #[vp, vr], o.val] w fun e w' => ∃ v1 v2, e = .returned (.tuple #[.agg #[v1, v2], .int .i64 0]) ∧ CNew w' w.heap.size v1 v2 ⟨c.ps, setR c.rs ⟨o.addr, o.bits, o.id⟩⟩ ∧ Below w.heap.size w w') := by
  cases hok : okO o with
  | false => exact .inl ⟨2, by decide, Do_bad h hV hk hok hB⟩
  | true =>
    have err : ∀ E : Int, (∀ W, CAt W B vp vr c → B ≤ W.heap.size → Calls Try.prog 144 #[.agg #[vp, vr], o.val] W fun e w' => e = .returned (.tuple #[zcfg, .int .i64 E]) ∧ Below W.heap.size W w') →
        Calls Try.prog 34 #[.agg #[vp, vr], o.val] w fun e w' => e = .returned (.tuple #[zcfg, .int .i64 E]) ∧ Below w.heap.size w w' := by
      intro E hd
      refine (Do_4 h hV hk hkind hok hB E (fun _ v1 v2 => v1 = .slice none 0 0 ∧ v2 = .slice none 0 0) res_zero (fun _ _ _ _ _ h => h) fun W hb hlt => (hd W (h.below (hb.mono hB)) (Nat.le_trans hB hb.size)).mono ?_).mono ?_
      · rintro e w' ⟨rfl, hb⟩
        exact ⟨_, _, rfl, ⟨rfl, rfl⟩, hb⟩
      · rintro e w' ⟨v1, v2, rfl, ⟨rfl, rfl⟩, hb⟩
        exact ⟨rfl, hb⟩
    cases hp : has Mb.key (o.id, 0) c.ps with
    | false => exact .inl ⟨6, by decide, err 6 fun W hW hs => setRoute_none hW hV hk hp hs⟩
    | true =>
      by_cases hfull : has Rt.key (o.addr, o.bits) c.rs = true ∨ c.rs.length ≠ 256
      · refine .inr ⟨rfl, rfl, hfull, ?_⟩
        exact (Do_4 h hV hk hkind hok hB 0 (fun x v1 v2 => CNew x (w.heap.size + 1 + 1 + 1) v1 v2 ⟨c.ps, setR c.rs ⟨o.addr, o.bits, o.id⟩⟩) (res_new _ _) (fun x u1 u2 v1 v2 hr => hr.setRow (Nat.lt_succ_self _) _) fun W hb hlt => (setRoute_ok (h.below (hb.mono hB)) hV hk hp hfull (Nat.le_trans hB hb.size)).mono fun e w' ⟨v1, v2, he, hn, hb2⟩ => ⟨v1, v2, he, hn.less (by omega), hb2⟩).mono
          fun e w' ⟨v1, v2, he, hn, hb2⟩ => ⟨v1, v2, he, hn.less (by omega), hb2⟩
      · have h1 : has Rt.key (o.addr, o.bits) c.rs = false := by cases hh : has Rt.key (o.addr, o.bits) c.rs with
          | false => rfl
          | true => exact absurd (.inl hh) hfull
        have h2 : c.rs.length = 256 := by
          rcases Nat.decEq c.rs.length 256 with hn | hn
          · exact absurd (.inr hn) hfull
          · exact hn
        exact .inl ⟨9, by decide, err 9 fun W hW hs => setRoute_full hW hV hk hp h1 h2 hs⟩
end Go.Proofs.Ytlphmbefcbhhpaa.Cfg
