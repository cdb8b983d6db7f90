/- Texts that the proofs share: PktBackKit, PktBackX, PktBackNo, PktBackOk, PktBackData. -/
import Derived.Test.YtbdpnpabpcidkaaDoorZ19
import Derived.Test.YtbdpnpabpcidkaaDoorZ46
import Derived.Test.YtbdpnpabpcidkaaDoorZ49
import Derived.Test.YtbdpnpabpcidkaaDoorZ50
namespace Go.Proofs.YtbdpnpabpcidkaaDoor.packetBack
open Go.ChangeShapes Go.WideShapes Go.ChangeAt Go.RowKit
open Pkt
open Shk (bsM wp_ld wp_conv grew_below sstop SStop)
theorem l_k {w : World} {g : Nat} {L : List UInt8} (h : Row w g (L.map bv) 24) (hk : L.length = 32) : (loadVar 24 ⟨g, 0, none⟩).run Tryd.prog w = .ok (arr8 L) w := l_k32 h hk
theorem nsg (x : List UInt8) (u v : Operand) (w : World) : (eqGuard .neq 9 u v (strOf x) (strOf x)).run Tryd.prog w = .ok () w := by unfold strOf; simp [eqGuard]
theorem nsv (x : List UInt8) (w : World) : (binOp .neq 9 (strOf x) (strOf x)).run Tryd.prog w = .ok (.bool false) w := by unfold strOf binOp Op.stringOp; simp [Sem.run_pure]
theorem wire_len {p : Pk} {m : List UInt8} (hi : p.In) (hc : chk p m.length = 0) : (wire p m).length ≤ 70000 := by
 obtain ⟨hh, hb⟩ := chk_ok hc
 have hr := hi.ok.r
 have hmk := hi.ok.m
 have l1 := Pkt.enc_len 1 (by decide)
 have l2 := Pkt.enc_len 2 (by decide)
 have l3 := Pkt.enc_len 3 (by decide)
 have l4 := Pkt.enc_len 4 (by decide)
 have l5 := Pkt.enc_len p.ses hi.s
 have l6 := Pkt.enc_len p.epo (by have := hi.e; omega)
 have l7 := Pkt.enc_len p.cnt hi.c
 rcases head_kind hh with k | k | k | k
 · have h := head1 hh k
   have l8 := Pkt.enc_len p.peer.toNat (by omega)
   rw [wire1 k]; simp only [List.length_append]; omega
 · rw [wire2 k]; simp only [List.length_append]; omega
 · have h := body3 hb k
   have l8 := Pkt.enc_len m.length (by omega)
   rw [wire3 k]; simp only [List.length_append]; omega
 · rw [wire4 k]; simp only [List.length_append]; omega
def sealM (lo s e n len : Nat) (L : List UInt8) : By.Mark Grew := ⟨fun v w => ∃ b R, v = .tuple #[(dp s e n (.slice (some ⟨b, 0, none⟩) len len)).val, .int .i64 0] ∧ lo ≤ b ∧ Row w b (L.map bv ++ R) 5, fun _ _ _ ⟨b, R, h1, h2, h3⟩ k => ⟨b, R, h1, h2, h3.below k h3.lt⟩⟩
def dpM (lo s e n len : Nat) (L : List UInt8) : By.Mark Grew := ⟨fun v w => ∃ b R, v = (dp s e n (.slice (some ⟨b, 0, none⟩) len len)).val ∧ lo ≤ b ∧ Row w b (L.map bv ++ R) 5, fun _ _ _ ⟨b, R, h1, h2, h3⟩ k => ⟨b, R, h1, h2, h3.below k h3.lt⟩⟩
def newM (lo : Nat) : By.Mark Grew := ⟨fun v w => ∃ g, v = .pointer (some ⟨g, 0, none⟩) ∧ lo ≤ g ∧ Row w g (nm 0).cells 40, fun _ _ _ ⟨g, h1, h3, h4⟩ h => ⟨g, h1, h3, h4.below h h4.lt⟩⟩
theorem below_grown {B : Nat} {a b : World} {row : Option Nat} (h : a.grownBy b row) (hr : ∀ g, row = some g → B ≤ g) (hB : B ≤ a.heap.size) : Below B a b := ⟨h.os, h.tape, h.output, h.size, fun k hk => h.block k (by omega) (fun e => by have := hr k e.symm; omega)⟩
theorem own_ne {w : World} {base g : Nat} {v : Value} {l : List UInt8} (h : Own w base v l) (hg : g < base) : v.ownBlock = none ∨ v.ownBlock ≠ some g := by
 cases hob : v.ownBlock with
 | none => exact .inl rfl
 | some k => exact .inr (by intro e; injection e with e; have := (h.block_ge hob).1; omega)
theorem own_lt {w : World} {base : Nat} {v : Value} {l : List UInt8} (h : Own w base v l) : ∀ g, v.ownBlock = some g → g < w.heap.size := fun g hg => (h.block_ge hg).2
theorem bs_zero (W : World) : Bs (W.alloc (.cells #[.int .u8 0] 5)) (W.heap.size + 1) (.slice (some ⟨W.heap.size, 0, none⟩) 1 1) [0] := by
 have h : Row (W.alloc (.cells ([(0 : UInt8)].map bv).toArray 5)) W.heap.size ([(0 : UInt8)].map bv) 5 := Row.new rfl rfl
 exact h.bs (B := W.heap.size + 1) (by omega)
theorem _root_.Go.Proofs.YtbdpnpabpcidkaaDoor.Pkt.BodyAt.grownO {W V : World} {lo : Nat} {v : Value} {l : List UInt8} {row : Option Nat} (h : BodyAt W lo v l) (hg : W.grownBy V row) (hr : ∀ g, row = some g → g < lo) : BodyAt V lo v l := by
 rcases h with h | ⟨b, R, h1, h2, h3⟩
 · exact .inl h
 · refine .inr ⟨b, R, h1, h2, ?_⟩
   unfold Row
   rw [hg.block b h3.lt (fun e => by have := hr b e.symm; omega)]
   exact h3
theorem data_ok {p : Pk} (h : Head p) (k : p.kind = 3) : dataOk p.ses p.epo p.cnt := by
 obtain ⟨h1, h2, h3, h4, _⟩ := head3 h k
 exact ⟨h1, h2, h3, h4⟩
theorem along_dp {p : Pk} (h : Head p) (k : p.kind = 3) (b : Value) : alongL (dp p.ses p.epo p.cnt b) = alongL p := by
 have e1 : alongL (dp p.ses p.epo p.cnt b) = (parts3 (dp p.ses p.epo p.cnt b) []).flatten := if_pos ⟨rfl, (head_dp _ _ _ b).2 (data_ok h k)⟩
 have e2 : alongL p = (parts3 p []).flatten := if_pos ⟨k, h⟩
 rw [e1, e2]
 simp only [parts3, k]
 rfl
set_option maxRecDepth 100000 in
set_option maxHeartbeats 400000 in
theorem long1 (p : Pk) (m b sec pl : List UInt8) (z : Int) (A Ab Ap : Option Addr) (c cb cp : Nat) (w : World) (ht : Tab w) (hs : sec.length = 32) (hp : p.In) (hb : p.bo = .slice A m.length c) (h1 : 300 < m.length) : Calls Tryd.prog 5 #[p.val, .slice Ab b.length cb, arr8 sec, .int .i64 z, .slice Ap pl.length cp] w fun e w' => e = .returned (.bool true) ∧ Below w.heap.size w w' := by
 have HB0 := Lib.hid (show Below w.heap.size w ((w.alloc (.cells p.cells.toArray 40)).alloc (.cells (sec.map bv).toArray 24)) from ((Below.refl _ w).alloc (Nat.le_refl _) _).alloc (by simp) _)
 have HT0 := Lib.hid (ht.below HB0.out ht.1)
 have HP0 := Lib.hid (show Row ((w.alloc (.cells p.cells.toArray 40)).alloc (.cells (sec.map bv).toArray 24)) w.heap.size p.cells 40 from (Row.new rfl rfl).alloc _)
 have HK0 := Lib.hid (show Row ((w.alloc (.cells p.cells.toArray 40)).alloc (.cells (sec.map bv).toArray 24)) (w.heap.size + 1) (sec.map bv) 24 from Row.new (by simp) rfl)
 have HLv := Lib.hid (fun w (ht : Tab w) => Pkt.lives_any w ht)
 have HPo := Lib.hid hp.ok
 have HPb := Lib.hid hb
 have Hs := Lib.hid hs
 have h1' : (300 : Int) < (m.length : Int) := by omega
 clear h1
 clear ht hp hb hs
 unfold arr8 Pk.val
 go_enter Tryd.func5, Tryd.ntmps5
 go_wp2_with fail
 refine (HLv.out _ HT0.out).mono ?_
 rintro e w1 ⟨rfl, hb⟩
 have HB1 := Lib.hid (nextB HB0.out (Nat.le_refl _) hb)
 have HT1 := Lib.hid (HT0.out.below hb HT0.out.1)
 have HKa := Lib.hid (HK0.out.below hb HK0.out.lt)
 have HPa := Lib.hid (HP0.out.below hb HP0.out.lt)
 clear hb
 have c37 := c_bo HPa.out HPo.out
 rw [HPb.out] at c37
 go_wp2
 go_ret
 exact ⟨rfl, HB1.out⟩
set_option maxRecDepth 100000 in
set_option maxHeartbeats 400000 in
theorem long2 (p : Pk) (m b sec pl : List UInt8) (z : Int) (A Ab Ap : Option Addr) (c cb cp : Nat) (w : World) (ht : Tab w) (hs : sec.length = 32) (hp : p.In) (hb : p.bo = .slice A m.length c) (h1 : ¬ 300 < m.length) (h2 : 300 < b.length) : Calls Tryd.prog 5 #[p.val, .slice Ab b.length cb, arr8 sec, .int .i64 z, .slice Ap pl.length cp] w fun e w' => e = .returned (.bool true) ∧ Below w.heap.size w w' := by
 have HB0 := Lib.hid (show Below w.heap.size w ((w.alloc (.cells p.cells.toArray 40)).alloc (.cells (sec.map bv).toArray 24)) from ((Below.refl _ w).alloc (Nat.le_refl _) _).alloc (by simp) _)
 have HT0 := Lib.hid (ht.below HB0.out ht.1)
 have HP0 := Lib.hid (show Row ((w.alloc (.cells p.cells.toArray 40)).alloc (.cells (sec.map bv).toArray 24)) w.heap.size p.cells 40 from (Row.new rfl rfl).alloc _)
 have HK0 := Lib.hid (show Row ((w.alloc (.cells p.cells.toArray 40)).alloc (.cells (sec.map bv).toArray 24)) (w.heap.size + 1) (sec.map bv) 24 from Row.new (by simp) rfl)
 have HLv := Lib.hid (fun w (ht : Tab w) => Pkt.lives_any w ht)
 have HPo := Lib.hid hp.ok
 have HPb := Lib.hid hb
 have Hs := Lib.hid hs
 have h1' : ¬ (300 : Int) < (m.length : Int) := by omega
 have h2' : (300 : Int) < (b.length : Int) := by omega
 clear h1 h2
 clear ht hp hb hs
 unfold arr8 Pk.val
 go_enter Tryd.func5, Tryd.ntmps5
 go_wp2_with fail
 refine (HLv.out _ HT0.out).mono ?_
 rintro e w1 ⟨rfl, hb⟩
 have HB1 := Lib.hid (nextB HB0.out (Nat.le_refl _) hb)
 have HT1 := Lib.hid (HT0.out.below hb HT0.out.1)
 have HKa := Lib.hid (HK0.out.below hb HK0.out.lt)
 have HPa := Lib.hid (HP0.out.below hb HP0.out.lt)
 clear hb
 have c37 := c_bo HPa.out HPo.out
 rw [HPb.out] at c37
 go_wp2
 go_ret
 exact ⟨rfl, HB1.out⟩
set_option maxRecDepth 100000 in
set_option maxHeartbeats 400000 in
theorem long3 (p : Pk) (m b sec pl : List UInt8) (z : Int) (A Ab Ap : Option Addr) (c cb cp : Nat) (w : World) (ht : Tab w) (hs : sec.length = 32) (hp : p.In) (hb : p.bo = .slice A m.length c) (h1 : ¬ 300 < m.length) (h2 : ¬ 300 < b.length) (h3 : 300 < pl.length) : Calls Tryd.prog 5 #[p.val, .slice Ab b.length cb, arr8 sec, .int .i64 z, .slice Ap pl.length cp] w fun e w' => e = .returned (.bool true) ∧ Below w.heap.size w w' := by
 have HB0 := Lib.hid (show Below w.heap.size w ((w.alloc (.cells p.cells.toArray 40)).alloc (.cells (sec.map bv).toArray 24)) from ((Below.refl _ w).alloc (Nat.le_refl _) _).alloc (by simp) _)
 have HT0 := Lib.hid (ht.below HB0.out ht.1)
 have HP0 := Lib.hid (show Row ((w.alloc (.cells p.cells.toArray 40)).alloc (.cells (sec.map bv).toArray 24)) w.heap.size p.cells 40 from (Row.new rfl rfl).alloc _)
 have HK0 := Lib.hid (show Row ((w.alloc (.cells p.cells.toArray 40)).alloc (.cells (sec.map bv).toArray 24)) (w.heap.size + 1) (sec.map bv) 24 from Row.new (by simp) rfl)
 have HLv := Lib.hid (fun w (ht : Tab w) => Pkt.lives_any w ht)
 have HPo := Lib.hid hp.ok
 have HPb := Lib.hid hb
 have Hs := Lib.hid hs
 have h1' : ¬ (300 : Int) < (m.length : Int) := by omega
 have h2' : ¬ (300 : Int) < (b.length : Int) := by omega
 have h3' : (300 : Int) < (pl.length : Int) := by omega
 clear h1 h2 h3
 clear ht hp hb hs
 unfold arr8 Pk.val
 go_enter Tryd.func5, Tryd.ntmps5
 go_wp2_with fail
 refine (HLv.out _ HT0.out).mono ?_
 rintro e w1 ⟨rfl, hb⟩
 have HB1 := Lib.hid (nextB HB0.out (Nat.le_refl _) hb)
 have HT1 := Lib.hid (HT0.out.below hb HT0.out.1)
 have HKa := Lib.hid (HK0.out.below hb HK0.out.lt)
 have HPa := Lib.hid (HP0.out.below hb HP0.out.lt)
 clear hb
 have c37 := c_bo HPa.out HPo.out
 rw [HPb.out] at c37
 go_wp2
 go_ret
 exact ⟨rfl, HB1.out⟩
end Go.Proofs.YtbdpnpabpcidkaaDoor.packetBack
namespace Go.Proofs.YtbdpnpabpcidkaaDoor.packetBack
open Go.ChangeShapes Go.WideShapes Go.ChangeAt Go.RowKit
open Pkt
open Shk (bsM wp_ld wp_conv grew_below sstop SStop)
set_option maxRecDepth 100000 in
set_option maxHeartbeats 16000000 in
theorem walk_x (p : Pk) (m b sec pl : List UInt8) (z : Int) (A Ab Ap : Option Addr) (c cb cp : Nat) (w : World) (ht : Tab w) (hs : sec.length = 32) (hz : -9223372036854775808 ≤ z ∧ z ≤ 9223372036854775807) (hp : p.In) (hb : p.bo = .slice A m.length c) (hm : Bs w w.heap.size p.bo m) (hbb : Bs w w.heap.size (.slice Ab b.length cb) b) (hpl : Bs w w.heap.size (.slice Ap pl.length cp) pl) (hl1 : ¬ 300 < m.length) (hl2 : ¬ 300 < b.length) (hl3 : ¬ 300 < pl.length) (hck : ¬ chk p m.length = 0) : Calls Tryd.prog 5 #[p.val, .slice Ab b.length cb, arr8 sec, .int .i64 z, .slice Ap pl.length cp] w fun e w' => e = .returned (.bool true) ∧ Below w.heap.size w w' := by
 have HB0 := Lib.hid (show Below w.heap.size w ((w.alloc (.cells p.cells.toArray 40)).alloc (.cells (sec.map bv).toArray 24)) from ((Below.refl _ w).alloc (Nat.le_refl _) _).alloc (by simp) _)
 have HT0 := Lib.hid (ht.below HB0.out ht.1)
 have HP0 := Lib.hid (show Row ((w.alloc (.cells p.cells.toArray 40)).alloc (.cells (sec.map bv).toArray 24)) w.heap.size p.cells 40 from (Row.new rfl rfl).alloc _)
 have HK0 := Lib.hid (show Row ((w.alloc (.cells p.cells.toArray 40)).alloc (.cells (sec.map bv).toArray 24)) (w.heap.size + 1) (sec.map bv) 24 from Row.new (by simp) rfl)
 have HLv := Lib.hid (fun w (ht : Tab w) => Pkt.lives_any w ht)
 have HPo := Lib.hid hp.ok
 have HPb := Lib.hid hb
 have Hs := Lib.hid hs
 have h1' : ¬ (300 : Int) < (m.length : Int) := by omega
 have h2' : ¬ (300 : Int) < (b.length : Int) := by omega
 have h3' : ¬ (300 : Int) < (pl.length : Int) := by omega
 have Hp := Lib.hid hp
 have Hm := Lib.hid hm
 have Hbb := Lib.hid hbb
 have Hpl := Lib.hid hpl
 have Hl2 := Lib.hid (show b.length ≤ 300 by omega)
 have Hl3 := Lib.hid (show pl.length ≤ 300 by omega)
 have Hck := Lib.hid hck
 have Hz := Lib.hid hz
 obtain ⟨E, hE⟩ : ∃ E, nm 0 = E := ⟨_, rfl⟩
 have HEe := Lib.hid hE
 have HEo := Lib.hid (show E.Ok by rw [← hE]; exact nm_ok 0)
 have HEb := Lib.hid (show E.bo = .slice none 0 0 by rw [← hE]; rfl)
 clear ht hs hp hb hm hbb hpl hl1 hl2 hl3 hck hz hE
 unfold arr8 Pk.val
 go_enter Tryd.func5, Tryd.ntmps5
 go_wp2_with fail
 refine (HLv.out _ HT0.out).mono ?_
 rintro e w1 ⟨rfl, hb⟩
 have HB1 := Lib.hid (nextB HB0.out (Nat.le_refl _) hb)
 have HT1 := Lib.hid (HT0.out.below hb HT0.out.1)
 have HKa := Lib.hid (HK0.out.below hb HK0.out.lt)
 have HPa := Lib.hid (HP0.out.below hb HP0.out.lt)
 clear hb
 have c37 := c_bo HPa.out HPo.out
 rw [HPb.out] at c37
 go_wp2_with fail
 clear c37
 have Hb1 := Lib.hid ((Hbb.out.below HB1.out).more HB1.out.size)
 refine (Own_any _ b w1 Hb1.out (by have := Hl2.out; omega)).mono ?_
 rintro e w2 ⟨v2, rfl, ho, hb⟩
 have HOw := Lib.hid ho.bs
 have HB2 := Lib.hid (nextB HB1.out (Nat.le_refl _) hb)
 have HK2 := Lib.hid (HKa.out.below hb HKa.out.lt)
 have HP2 := Lib.hid (HPa.out.below hb HPa.out.lt)
 have HT2 := Lib.hid (HT1.out.below hb HT1.out.1)
 clear ho hb
 go_wp2_with fail
 refine (Read_any v2 b w2 HOw.out (by have := Hl2.out; omega)).mono ?_
 rintro e w3 ⟨hx, hb⟩
 have HB3 := Lib.hid (nextB HB2.out (Nat.le_refl _) hb)
 have HK3 := Lib.hid (HK2.out.below hb HK2.out.lt)
 have HP3 := Lib.hid (HP2.out.below hb HP2.out.lt)
 have HT3 := Lib.hid (HT2.out.below hb HT2.out.1)
 clear hb
 rcases hx with ⟨q, n, Aq, cq, rfl, hqi, hqb, hqs, hqc, hqw, hqn⟩ | ⟨rfl, hno⟩
 case' inl =>
  have HQi := Lib.hid hqi
  have HQo := Lib.hid hqi.ok
  have HQb := Lib.hid hqb
  have HQs := Lib.hid hqs
  have HQc := Lib.hid hqc
  have HQw := Lib.hid hqw
  have HOl := Lib.hid (Pk.length hqi.ok)
  clear hqi hqb hqs hqc hqw hqn
  go_wp2_with (first
   | (show wpList _ _ _ (⟨none, Op.store 40 _ _, _, _, _, _⟩ :: _) _ _
      refine wpList_storeRow (g := w3.heap.size) rfl 40 _ _ rfl rfl rfl (cs := q.cells) (Row.new rfl rfl : Row (w3.alloc (.cells (nm 0).cells.toArray 40)) w3.heap.size (nm 0).cells 40) (by kernel_rfl) (Pk.length HQo.out) (Pk.length (nm_ok 0)) (Pk.one HQo.out) ?_
      refine wpList_name fun V hV => ?_
      refine sstop ?_)
   | fail)
  unfold SStop
  obtain ⟨W4, hV2⟩ : ∃ V2, V = V2 := ⟨V, rfl⟩
  rw [hV2] at hV ⊢
  clear hV2
  have hb : Below w3.heap.size w3 W4 := by rw [← hV]; exact (below_setRow ((Below.refl _ w3).alloc (Nat.le_refl _) _) (by omega) _)
  have HQ4 := Lib.hid (show Row W4 w3.heap.size q.cells 40 by rw [← hV]; exact ((Row.new rfl rfl : Row (w3.alloc (.cells (nm 0).cells.toArray 40)) w3.heap.size (nm 0).cells 40).setRow _))
  have HBs4 := Lib.hid hb
  have HB5 := Lib.hid (nextB HB3.out (Nat.le_refl _) hb)
  have HK5 := Lib.hid (HK3.out.below hb HK3.out.lt)
  have HP5 := Lib.hid (HP3.out.below hb HP3.out.lt)
  have HT5 := Lib.hid (HT3.out.below hb HT3.out.1)
  clear hV hb
  have HQs2 := Lib.hid (HQs.out.below HBs4.out).bs
  have HL6 := Lib.hid (l_all HQ4.out HQo.out)
  go_wp2_with (first
   | (refine wpList_ld 40 rfl rfl HL6.out rfl ?_)
   | fail)
  refine (Bytes_any q HQi.out Aq cq n HQb.out W4 HQs2.out).mono ?_
  rintro e WU ⟨⟨v5, rfl, h1, _⟩, hb⟩
  have ho := h1 HQc.out
  rw [HQc.out]
  rw [HQw.out] at ho
  obtain ⟨A5, c5, rfl⟩ := ho.shape
  have HX5 := Lib.hid ho.bs
  clear h1 ho
  have HBU := Lib.hid (nextB HB5.out (Nat.le_refl _) hb)
  have HKU := Lib.hid (HK5.out.below hb HK5.out.lt)
  have HPU := Lib.hid (HP5.out.below hb HP5.out.lt)
  have HQU := Lib.hid (HQ4.out.below hb HQ4.out.lt)
  have HTU := Lib.hid (HT5.out.below hb HT5.out.1)
  clear hb
  have Hb5 := Lib.hid ((Hbb.out.below HBU.out).more HBU.out.size)
  have cx := Lib.hid (run_str WU HX5.out)
  have cy := Lib.hid (run_str WU Hb5.out)
  have ng := fun u v w => nsg b u v w
  have nv := fun w => nsv b w
  have HL8 := Lib.hid (l_all HPU.out HPo.out)
  go_wp2_with (first
   | (refine wpList_ld 40 rfl rfl HL8.out rfl ?_)
   | (refine wpList_cv _ _ rfl rfl cx.out rfl ?_)
   | (refine wpList_cv _ _ rfl rfl cy.out rfl ?_)
   | fail)
  clear cx cy ng nv
 case' inr =>
  rw [HEe.out]
  clear hno
  have HOl := Lib.hid (Pk.length HEo.out)
  go_wp2_with (first
   | (show wpList _ _ _ (⟨none, Op.store 40 _ _, _, _, _, _⟩ :: _) _ _
      refine wpList_storeRow (g := w3.heap.size) rfl 40 _ _ rfl rfl rfl (cs := E.cells) (Row.new rfl rfl : Row (w3.alloc (.cells (nm 0).cells.toArray 40)) w3.heap.size (nm 0).cells 40) (by kernel_rfl) (Pk.length HEo.out) (Pk.length (nm_ok 0)) (Pk.one HEo.out) ?_
      refine wpList_name fun V hV => ?_
      refine sstop ?_)
   | fail)
  unfold SStop
  obtain ⟨WU, hV2⟩ : ∃ V2, V = V2 := ⟨V, rfl⟩
  rw [hV2] at hV ⊢
  clear hV2
  have hb : Below w3.heap.size w3 WU := by rw [← hV]; exact (below_setRow ((Below.refl _ w3).alloc (Nat.le_refl _) _) (by omega) _)
  have HQ9 := Lib.hid (show Row WU w3.heap.size E.cells 40 by rw [← hV]; exact ((Row.new rfl rfl : Row (w3.alloc (.cells (nm 0).cells.toArray 40)) w3.heap.size (nm 0).cells 40).setRow _))
  have HBs9 := Lib.hid hb
  have HB10 := Lib.hid (nextB HB3.out (Nat.le_refl _) hb)
  have HK10 := Lib.hid (HK3.out.below hb HK3.out.lt)
  have HP10 := Lib.hid (HP3.out.below hb HP3.out.lt)
  have HT10 := Lib.hid (HT3.out.below hb HT3.out.1)
  clear hV hb
  have HKU := HK10
  have HPU := HP10
  have HQU := HQ9
  have HBU := HB10
  have HTU := HT10
  have HL11 := Lib.hid (l_all HP10.out HPo.out)
  go_wp2_with (first
   | (refine wpList_ld 40 rfl rfl HL11.out rfl ?_)
   | fail)
 all_goals
  have Hm6 := Lib.hid ((Hm.out.below HBU.out).more HBU.out.size)
  refine (Bytes_any p Hp.out A c m HPb.out WU Hm6.out).mono ?_
  rintro e w6 ⟨⟨v6, rfl, h1, h2⟩, hb⟩
  have hv := h2 Hck.out
  subst hv
  have hc2 := chk_two Hck.out
  rw [hc2]
  have Hc2 := Lib.hid hc2
  clear h1 h2 hc2
  have HB12 := Lib.hid (nextB HBU.out (Nat.le_refl _) hb)
  have HK12 := Lib.hid (HKU.out.below hb HKU.out.lt)
  have HP12 := Lib.hid (HPU.out.below hb HPU.out.lt)
  have HQ12 := Lib.hid (HQU.out.below hb HQU.out.lt)
  have HT12 := Lib.hid (HTU.out.below hb HTU.out.1)
  clear hb
  have HL13 := Lib.hid (l_all HP12.out HPo.out)
  go_wp2_with (first
   | (refine wpList_ld 40 rfl rfl HL13.out rfl ?_)
   | fail)
  refine (Check_any p HPo.out A m.length c HPb.out w6).mono ?_
  rintro e w7 ⟨rfl, hb⟩
  rw [Hc2.out]
  have HB14 := Lib.hid (nextB HB12.out (Nat.le_refl _) hb)
  have HK14 := Lib.hid (HK12.out.below hb HK12.out.lt)
  have HP14 := Lib.hid (HP12.out.below hb HP12.out.lt)
  have HQ14 := Lib.hid (HQ12.out.below hb HQ12.out.lt)
  have HT14 := Lib.hid (HT12.out.below hb HT12.out.1)
  clear hb
  go_wp2
  go_ret
  exact ⟨rfl, HB14.out⟩
end Go.Proofs.YtbdpnpabpcidkaaDoor.packetBack
namespace Go.Proofs.YtbdpnpabpcidkaaDoor.packetBack
open Go.ChangeShapes Go.WideShapes Go.ChangeAt Go.RowKit
open Pkt
open Shk (bsM wp_ld wp_conv grew_below sstop SStop)
set_option maxRecDepth 100000 in
set_option maxHeartbeats 16000000 in
theorem walk_no (p : Pk) (m b sec pl : List UInt8) (z : Int) (A Ab Ap : Option Addr) (c cb cp : Nat) (w : World) (ht : Tab w) (hs : sec.length = 32) (hz : -9223372036854775808 ≤ z ∧ z ≤ 9223372036854775807) (hp : p.In) (hb : p.bo = .slice A m.length c) (hm : Bs w w.heap.size p.bo m) (hbb : Bs w w.heap.size (.slice Ab b.length cb) b) (hpl : Bs w w.heap.size (.slice Ap pl.length cp) pl) (hl1 : ¬ 300 < m.length) (hl2 : ¬ 300 < b.length) (hl3 : ¬ 300 < pl.length) (hck : chk p m.length = 0) (hkd : ¬ p.kind = 3) (hdo : ¬ dataOk p.ses p.epo p.cnt) : Calls Tryd.prog 5 #[p.val, .slice Ab b.length cb, arr8 sec, .int .i64 z, .slice Ap pl.length cp] w fun e w' => e = .returned (.bool true) ∧ Below w.heap.size w w' := by
 have HB0 := Lib.hid (show Below w.heap.size w ((w.alloc (.cells p.cells.toArray 40)).alloc (.cells (sec.map bv).toArray 24)) from ((Below.refl _ w).alloc (Nat.le_refl _) _).alloc (by simp) _)
 have HT0 := Lib.hid (ht.below HB0.out ht.1)
 have HP0 := Lib.hid (show Row ((w.alloc (.cells p.cells.toArray 40)).alloc (.cells (sec.map bv).toArray 24)) w.heap.size p.cells 40 from (Row.new rfl rfl).alloc _)
 have HK0 := Lib.hid (show Row ((w.alloc (.cells p.cells.toArray 40)).alloc (.cells (sec.map bv).toArray 24)) (w.heap.size + 1) (sec.map bv) 24 from Row.new (by simp) rfl)
 have HLv := Lib.hid (fun w (ht : Tab w) => Pkt.lives_any w ht)
 have HPo := Lib.hid hp.ok
 have HPb := Lib.hid hb
 have Hs := Lib.hid hs
 have h1' : ¬ (300 : Int) < (m.length : Int) := by omega
 have h2' : ¬ (300 : Int) < (b.length : Int) := by omega
 have h3' : ¬ (300 : Int) < (pl.length : Int) := by omega
 have Hp := Lib.hid hp
 have Hm := Lib.hid hm
 have Hbb := Lib.hid hbb
 have Hpl := Lib.hid hpl
 have Hl2 := Lib.hid (show b.length ≤ 300 by omega)
 have Hl3 := Lib.hid (show pl.length ≤ 300 by omega)
 have Hck := Lib.hid hck
 have Hz := Lib.hid hz
 obtain ⟨E, hE⟩ : ∃ E, nm 0 = E := ⟨_, rfl⟩
 have HEe := Lib.hid hE
 have HEo := Lib.hid (show E.Ok by rw [← hE]; exact nm_ok 0)
 have HEb := Lib.hid (show E.bo = .slice none 0 0 by rw [← hE]; rfl)
 have Hkd := Lib.hid hkd
 have Hdo := Lib.hid hdo
 have kneg : (p.kind != 3) = true := by simp [hkd]
 clear ht hs hp hb hm hbb hpl hl1 hl2 hl3 hck hz hE hkd hdo
 unfold arr8 Pk.val
 go_enter Tryd.func5, Tryd.ntmps5
 go_wp2_with fail
 refine (HLv.out _ HT0.out).mono ?_
 rintro e w1 ⟨rfl, hb⟩
 have HB1 := Lib.hid (nextB HB0.out (Nat.le_refl _) hb)
 have HT1 := Lib.hid (HT0.out.below hb HT0.out.1)
 have HKa := Lib.hid (HK0.out.below hb HK0.out.lt)
 have HPa := Lib.hid (HP0.out.below hb HP0.out.lt)
 clear hb
 have c37 := c_bo HPa.out HPo.out
 rw [HPb.out] at c37
 go_wp2_with fail
 clear c37
 have Hb1 := Lib.hid ((Hbb.out.below HB1.out).more HB1.out.size)
 refine (Own_any _ b w1 Hb1.out (by have := Hl2.out; omega)).mono ?_
 rintro e w2 ⟨v2, rfl, ho, hb⟩
 have HOw := Lib.hid ho.bs
 have HB2 := Lib.hid (nextB HB1.out (Nat.le_refl _) hb)
 have HK2 := Lib.hid (HKa.out.below hb HKa.out.lt)
 have HP2 := Lib.hid (HPa.out.below hb HPa.out.lt)
 have HT2 := Lib.hid (HT1.out.below hb HT1.out.1)
 clear ho hb
 go_wp2_with fail
 refine (Read_any v2 b w2 HOw.out (by have := Hl2.out; omega)).mono ?_
 rintro e w3 ⟨hx, hb⟩
 have HB3 := Lib.hid (nextB HB2.out (Nat.le_refl _) hb)
 have HK3 := Lib.hid (HK2.out.below hb HK2.out.lt)
 have HP3 := Lib.hid (HP2.out.below hb HP2.out.lt)
 have HT3 := Lib.hid (HT2.out.below hb HT2.out.1)
 clear hb
 rcases hx with ⟨q, n, Aq, cq, rfl, hqi, hqb, hqs, hqc, hqw, hqn⟩ | ⟨rfl, hno⟩
 case' inl =>
  have HQi := Lib.hid hqi
  have HQo := Lib.hid hqi.ok
  have HQb := Lib.hid hqb
  have HQs := Lib.hid hqs
  have HQc := Lib.hid hqc
  have HQw := Lib.hid hqw
  have HOl := Lib.hid (Pk.length hqi.ok)
  clear hqi hqb hqs hqc hqw hqn
  go_wp2_with (first
   | (show wpList _ _ _ (⟨none, Op.store 40 _ _, _, _, _, _⟩ :: _) _ _
      refine wpList_storeRow (g := w3.heap.size) rfl 40 _ _ rfl rfl rfl (cs := q.cells) (Row.new rfl rfl : Row (w3.alloc (.cells (nm 0).cells.toArray 40)) w3.heap.size (nm 0).cells 40) (by kernel_rfl) (Pk.length HQo.out) (Pk.length (nm_ok 0)) (Pk.one HQo.out) ?_
      refine wpList_name fun V hV => ?_
      refine sstop ?_)
   | fail)
  unfold SStop
  obtain ⟨W4, hV2⟩ : ∃ V2, V = V2 := ⟨V, rfl⟩
  rw [hV2] at hV ⊢
  clear hV2
  have hb : Below w3.heap.size w3 W4 := by rw [← hV]; exact (below_setRow ((Below.refl _ w3).alloc (Nat.le_refl _) _) (by omega) _)
  have HQ4 := Lib.hid (show Row W4 w3.heap.size q.cells 40 by rw [← hV]; exact ((Row.new rfl rfl : Row (w3.alloc (.cells (nm 0).cells.toArray 40)) w3.heap.size (nm 0).cells 40).setRow _))
  have HBs4 := Lib.hid hb
  have HB5 := Lib.hid (nextB HB3.out (Nat.le_refl _) hb)
  have HK5 := Lib.hid (HK3.out.below hb HK3.out.lt)
  have HP5 := Lib.hid (HP3.out.below hb HP3.out.lt)
  have HT5 := Lib.hid (HT3.out.below hb HT3.out.1)
  clear hV hb
  have HQs2 := Lib.hid (HQs.out.below HBs4.out).bs
  have HL6 := Lib.hid (l_all HQ4.out HQo.out)
  go_wp2_with (first
   | (refine wpList_ld 40 rfl rfl HL6.out rfl ?_)
   | fail)
  refine (Bytes_any q HQi.out Aq cq n HQb.out W4 HQs2.out).mono ?_
  rintro e WU ⟨⟨v5, rfl, h1, _⟩, hb⟩
  have ho := h1 HQc.out
  rw [HQc.out]
  rw [HQw.out] at ho
  obtain ⟨A5, c5, rfl⟩ := ho.shape
  have HX5 := Lib.hid ho.bs
  clear h1 ho
  have HBU := Lib.hid (nextB HB5.out (Nat.le_refl _) hb)
  have HKU := Lib.hid (HK5.out.below hb HK5.out.lt)
  have HPU := Lib.hid (HP5.out.below hb HP5.out.lt)
  have HQU := Lib.hid (HQ4.out.below hb HQ4.out.lt)
  have HTU := Lib.hid (HT5.out.below hb HT5.out.1)
  clear hb
  have Hb5 := Lib.hid ((Hbb.out.below HBU.out).more HBU.out.size)
  have cx := Lib.hid (run_str WU HX5.out)
  have cy := Lib.hid (run_str WU Hb5.out)
  have ng := fun u v w => nsg b u v w
  have nv := fun w => nsv b w
  have HL8 := Lib.hid (l_all HPU.out HPo.out)
  go_wp2_with (first
   | (refine wpList_ld 40 rfl rfl HL8.out rfl ?_)
   | (refine wpList_cv _ _ rfl rfl cx.out rfl ?_)
   | (refine wpList_cv _ _ rfl rfl cy.out rfl ?_)
   | fail)
  clear cx cy ng nv
 case' inr =>
  rw [HEe.out]
  clear hno
  have HOl := Lib.hid (Pk.length HEo.out)
  go_wp2_with (first
   | (show wpList _ _ _ (⟨none, Op.store 40 _ _, _, _, _, _⟩ :: _) _ _
      refine wpList_storeRow (g := w3.heap.size) rfl 40 _ _ rfl rfl rfl (cs := E.cells) (Row.new rfl rfl : Row (w3.alloc (.cells (nm 0).cells.toArray 40)) w3.heap.size (nm 0).cells 40) (by kernel_rfl) (Pk.length HEo.out) (Pk.length (nm_ok 0)) (Pk.one HEo.out) ?_
      refine wpList_name fun V hV => ?_
      refine sstop ?_)
   | fail)
  unfold SStop
  obtain ⟨WU, hV2⟩ : ∃ V2, V = V2 := ⟨V, rfl⟩
  rw [hV2] at hV ⊢
  clear hV2
  have hb : Below w3.heap.size w3 WU := by rw [← hV]; exact (below_setRow ((Below.refl _ w3).alloc (Nat.le_refl _) _) (by omega) _)
  have HQ9 := Lib.hid (show Row WU w3.heap.size E.cells 40 by rw [← hV]; exact ((Row.new rfl rfl : Row (w3.alloc (.cells (nm 0).cells.toArray 40)) w3.heap.size (nm 0).cells 40).setRow _))
  have HBs9 := Lib.hid hb
  have HB10 := Lib.hid (nextB HB3.out (Nat.le_refl _) hb)
  have HK10 := Lib.hid (HK3.out.below hb HK3.out.lt)
  have HP10 := Lib.hid (HP3.out.below hb HP3.out.lt)
  have HT10 := Lib.hid (HT3.out.below hb HT3.out.1)
  clear hV hb
  have HKU := HK10
  have HPU := HP10
  have HQU := HQ9
  have HBU := HB10
  have HTU := HT10
  have HL11 := Lib.hid (l_all HP10.out HPo.out)
  go_wp2_with (first
   | (refine wpList_ld 40 rfl rfl HL11.out rfl ?_)
   | fail)
 all_goals
  have Hm6 := Lib.hid ((Hm.out.below HBU.out).more HBU.out.size)
  refine (Bytes_any p Hp.out A c m HPb.out WU Hm6.out).mono ?_
  rintro e w6 ⟨⟨v6, rfl, h1, h2⟩, hb⟩
  have ho := h1 Hck.out
  rw [Hck.out]
  obtain ⟨X, hX⟩ : ∃ X, wire p m = X := ⟨_, rfl⟩
  have HXl := Lib.hid (show X.length ≤ 70000 by rw [← hX]; exact wire_len Hp.out Hck.out)
  have HXe := Lib.hid hX
  rw [hX] at ho
  obtain ⟨A6, c6, rfl⟩ := ho.shape
  have HX6 := Lib.hid ho
  have HS6 := Lib.hid hb.size
  clear h1 h2 ho hX
  have HB12 := Lib.hid (nextB HBU.out (Nat.le_refl _) hb)
  have HK12 := Lib.hid (HKU.out.below hb HKU.out.lt)
  have HP12 := Lib.hid (HPU.out.below hb HPU.out.lt)
  have HQ12 := Lib.hid (HQU.out.below hb HQU.out.lt)
  have HT12 := Lib.hid (HTU.out.below hb HTU.out.1)
  clear hb
  go_wp2_with fail
  refine (Read_any _ X w6 HX6.out.bs (by have := HXl.out; omega)).mono ?_
  rintro e w7 ⟨hx, hb⟩
  rcases hx with ⟨q2, m2, A2, c2, rfl, hqi, hqb, hqs, hqc, hqw, _⟩ | ⟨_, hno⟩
  case inr => exact (hno p m Hp.out Hck.out HXe.out).elim
  obtain ⟨hal, rfl, _⟩ := wire_split (r := []) (r' := []) hqi Hp.out hqc Hck.out (by rw [hqw, HXe.out])
  have HRi := Lib.hid hqi
  have HRo := Lib.hid hqi.ok
  have HRb := Lib.hid hqb
  have HRs := Lib.hid hqs
  have HRa := Lib.hid hal
  have HX7 := Lib.hid (HX6.out.below hb (Nat.le_refl _))
  have HS7 := Lib.hid hb.size
  clear hqi hqb hqs hqc hqw hal
  have HB13 := Lib.hid (nextB HB12.out (Nat.le_refl _) hb)
  have HK13 := Lib.hid (HK12.out.below hb HK12.out.lt)
  have HP13 := Lib.hid (HP12.out.below hb HP12.out.lt)
  have HQ13 := Lib.hid (HQ12.out.below hb HQ12.out.lt)
  have HT13 := Lib.hid (HT12.out.below hb HT12.out.1)
  clear hb
  go_wp2_with (first
   | (show wpList _ _ _ (⟨none, Op.store 40 _ _, _, _, _, _⟩ :: _) _ _
      refine wpList_storeRow (g := w3.heap.size) rfl 40 _ _ rfl rfl rfl (cs := q2.cells) HQ13.out (by kernel_rfl) (Pk.length HRo.out) HOl.out (Pk.one HRo.out) ?_
      refine wpList_name fun V hV => ?_
      refine sstop ?_)
   | fail)
  unfold SStop
  obtain ⟨W8, hV2⟩ : ∃ V2, V = V2 := ⟨V, rfl⟩
  rw [hV2] at hV ⊢
  clear hV2
  have hb : Below w3.heap.size w7 W8 := by rw [← hV]; exact below_setRow (Below.refl _ w7) (Nat.le_refl _) _
  have hg8 : w7.grownBy W8 (some w3.heap.size) := by rw [← hV]; exact keep_only (Pol.keep_setRow _)
  have HS8 := Lib.hid (show w7.heap.size ≤ W8.heap.size from hb.size)
  have HR8 := Lib.hid (show Row W8 w3.heap.size q2.cells 40 by rw [← hV]; exact HQ13.out.setRow _)
  have HX8 := Lib.hid (HX7.out.kept hg8 (own_ne HX7.out HQU.out.lt))
  have HRs8 := Lib.hid (HRs.out.grown hg8 (Nat.lt_of_lt_of_le HQU.out.lt HS6.out))
  clear hV hg8
  have HB14 := Lib.hid (HB13.out.trans (hb.mono HB3.out.size))
  have HK14 := Lib.hid (HK13.out.below hb HK3.out.lt)
  have HP14 := Lib.hid (HP13.out.below hb HP3.out.lt)
  have HT14 := Lib.hid (HT13.out.below hb HT3.out.1)
  clear hb
  have HXa := Lib.hid (HX8.out.alloc (.cells #[.int .u8 0] 5))
  have HZb := Lib.hid (bs_zero W8)
  have HSz := Lib.hid (show WU.heap.size ≤ (W8.alloc (.cells #[.int .u8 0] 5)).heap.size from Nat.le_trans (Nat.le_trans HS6.out (Nat.le_trans HS7.out HS8.out)) (by simp))
  have HLn := Lib.hid (show X.length + [(0 : UInt8)].length ≤ 140737488355327 by have := HXl.out; simp; omega)
  go_wp2_with (first
   | (at_builtin
      refine wpList_app_bytes _ rfl (.tmp 75) (.tmp 76) rfl rfl HXa.out rfl HZb.out HLn.out HSz.out ?_
      intro v9 w9 ho9 hg9 _
      have HO9 := Lib.hid ho9
      have HG9 := Lib.hid hg9
      clear ho9 hg9)
   | fail)
  have hb : Below WU.heap.size W8 w9 := ((Below.refl WU.heap.size W8).alloc (Nat.le_trans HS6.out (Nat.le_trans HS7.out HS8.out)) _).trans (below_grown HG9.out (fun g hg => (HXa.out.block_ge hg).1) HSz.out)
  have HRs9 := Lib.hid ((HRs8.out.below ((Below.refl _ W8).alloc (Nat.le_refl _) (.cells #[.int .u8 0] 5))).grownO HG9.out (own_lt HX6.out))
  have HB15 := Lib.hid (HB14.out.trans (hb.mono HBU.out.size))
  have HK15 := Lib.hid (HK14.out.below hb HKU.out.lt)
  have HP15 := Lib.hid (HP14.out.below hb HPU.out.lt)
  have HQ15 := Lib.hid (HR8.out.below hb HQU.out.lt)
  have HT15 := Lib.hid (HT14.out.below hb HTU.out.1)
  clear hb
  refine (Read_any v9 (X ++ [0]) w9 HO9.out.bs (by have := HXl.out; simp; omega)).mono ?_
  rintro e w10 ⟨hx, hb⟩
  rcases hx with ⟨q, n, Aq, cq, rfl, hqi, hqb, hqs, hqc, hqw, hqn⟩ | ⟨rfl, _⟩
  case inl => exact (wire_more Hp.out hqi Hck.out hqc 0 (by rw [hqw, HXe.out])).elim
  rw [HEe.out]
  have HRs10 := Lib.hid (HRs9.out.below hb)
  have HB16 := Lib.hid (nextB HB15.out (Nat.le_refl _) hb)
  have HK16 := Lib.hid (HK15.out.below hb HK15.out.lt)
  have HP16 := Lib.hid (HP15.out.below hb HP15.out.lt)
  have HQ16 := Lib.hid (HQ15.out.below hb HQ15.out.lt)
  have HT16 := Lib.hid (HT15.out.below hb HT15.out.1)
  clear hb
  go_wp2_with (first
   | (show wpList _ _ _ (⟨none, Op.store 40 _ _, _, _, _, _⟩ :: _) _ _
      refine wpList_storeRow (g := w10.heap.size) rfl 40 _ _ rfl rfl rfl (cs := E.cells) (Row.new rfl rfl : Row (w10.alloc (.cells (nm 0).cells.toArray 40)) w10.heap.size (nm 0).cells 40) (by kernel_rfl) (Pk.length HEo.out) (Pk.length (nm_ok 0)) (Pk.one HEo.out) ?_
      refine wpList_name fun V hV => ?_
      refine sstop ?_)
   | fail)
  unfold SStop
  obtain ⟨W17, hV2⟩ : ∃ V2, V = V2 := ⟨V, rfl⟩
  rw [hV2] at hV ⊢
  clear hV2
  have hb : Below w10.heap.size w10 W17 := by rw [← hV]; exact (below_setRow ((Below.refl _ w10).alloc (Nat.le_refl _) _) (by omega) _)
  have HE217 := Lib.hid (show Row W17 w10.heap.size E.cells 40 by rw [← hV]; exact ((Row.new rfl rfl : Row (w10.alloc (.cells (nm 0).cells.toArray 40)) w10.heap.size (nm 0).cells 40).setRow _))
  have HBs17 := Lib.hid hb
  have HB18 := Lib.hid (nextB HB16.out (Nat.le_refl _) hb)
  have HK18 := Lib.hid (HK16.out.below hb HK16.out.lt)
  have HP18 := Lib.hid (HP16.out.below hb HP16.out.lt)
  have HQ18 := Lib.hid (HQ16.out.below hb HQ16.out.lt)
  have HT18 := Lib.hid (HT16.out.below hb HT16.out.1)
  clear hV hb
  have HRs11 := Lib.hid (HRs10.out.below HBs17.out)
  have Hm11 := Lib.hid ((Hm.out.below HB18.out).more HB18.out.size)
  have HL19 := Lib.hid (l_all HP18.out HPo.out)
  have HL20 := Lib.hid (l_all HQ18.out HRo.out)
  go_wp2_with (first
   | (refine wpList_ld 40 rfl rfl HL19.out rfl ?_)
   | (refine wpList_ld 40 rfl rfl HL20.out rfl ?_)
   | fail)
  refine (KPacket_yes p q2 HPo.out HRo.out W17 m2 m2 Hm11.out HRs11.out.bs HRa.out.k.symm HRa.out.z.symm HRa.out.s.symm HRa.out.e.symm HRa.out.c.symm HRa.out.r.symm HRa.out.m.symm).mono ?_
  rintro e w12 ⟨rfl, hb⟩
  rw [decide_eq_true rfl]
  have HB21 := Lib.hid (nextB HB18.out (Nat.le_refl _) hb)
  have HK21 := Lib.hid (HK18.out.below hb HK18.out.lt)
  have HP21 := Lib.hid (HP18.out.below hb HP18.out.lt)
  have HQ21 := Lib.hid (HQ18.out.below hb HQ18.out.lt)
  have HE221 := Lib.hid (HE217.out.below hb HE217.out.lt)
  have HT21 := Lib.hid (HT18.out.below hb HT18.out.1)
  clear hb
  go_wp2_with fail
  have Hpl17 := Lib.hid ((Hpl.out.below HB21.out).more HB21.out.size)
  have hsz17 : w12.heap.size = w12.heap.size := rfl
  clear hsz17
  refine Tail.marksF Pol.mixed 15 13 106 Grew [By.is (arr8 sec),
   By.is (.int .i64 z),
   By.is (.pointer (some ⟨w.heap.size, 2, none⟩)),
   By.is (.int .u64 (p.ses : Int)),
   By.is (.pointer (some ⟨w.heap.size, 3, none⟩)),
   By.is (.int .u32 (p.epo : Int)),
   By.is (.pointer (some ⟨w.heap.size, 4, none⟩)),
   By.is (.int .u64 (p.cnt : Int)),
   By.is (.slice Ap pl.length cp),
   bsM pl,
   (By.is (.tuple #[E.val, .int .i64 2])),
   (By.is (.tuple #[E.val, .int .i64 2])),
   (By.is E.val),
   By.is (.int .i64 2),
   newM w12.heap.size]
   (Ev.masks _ []) (Nat.zero_lt_succ _) rfl (by kernel_rfl) (by kernel_rfl) rfl Grew.refl Grew.trans ⟨?_, ?_, ?_, ?_, ?_, ?_, ?_, ?_, ?_, ?_, ?_, ?_, ?_, ?_, ?_, trivial⟩ [_, _, _] (by rfl) ?_ ?_
  · intro a w ht hs hg
    have h7 := By.same_get hs 7 (by decide) (by kernel_rfl)
    refine By.yes rfl ?_
    clear hs hg
    have hr := l_k (Row.below (w := w12.drew) HK21.out ht HK21.out.lt) Hs.out
    refine wp_ld 24 _ rfl h7 hr ?_
    exact ⟨_, rfl, Grew.refl _, rfl⟩
  · intro a w ht hs hg
    have h3 := By.same_get hs 3 (by decide) (by kernel_rfl)
    refine By.yes rfl ?_
    clear hs hg
    go_simp
    exact ⟨_, rfl, Grew.refl _, rfl⟩
  · intro a w ht hs hg
    have h5 := By.same_get hs 5 (by decide) (by kernel_rfl)
    refine By.yes rfl ?_
    clear hs hg
    go_simp
    exact ⟨_, rfl, Grew.refl _, rfl⟩
  · intro a w ht hs hg
    have h96 : a.tmps.getD 96 undef = _ := By.given_get hg 2 rfl rfl (by kernel_rfl)
    refine By.yes rfl ?_
    clear hs hg
    have hc := c_ses (Row.below (w := w12.drew) HP21.out ht HP21.out.lt)
    clear ht
    go_simp
    exact ⟨_, rfl, Grew.refl _, rfl⟩
  · intro a w ht hs hg
    have h5 := By.same_get hs 5 (by decide) (by kernel_rfl)
    refine By.yes rfl ?_
    clear hs hg
    go_simp
    exact ⟨_, rfl, Grew.refl _, rfl⟩
  · intro a w ht hs hg
    have h98 : a.tmps.getD 98 undef = _ := By.given_get hg 4 rfl rfl (by kernel_rfl)
    refine By.yes rfl ?_
    clear hs hg
    have hc := c_epo (Row.below (w := w12.drew) HP21.out ht HP21.out.lt)
    clear ht
    go_simp
    exact ⟨_, rfl, Grew.refl _, rfl⟩
  · intro a w ht hs hg
    have h5 := By.same_get hs 5 (by decide) (by kernel_rfl)
    refine By.yes rfl ?_
    clear hs hg
    go_simp
    exact ⟨_, rfl, Grew.refl _, rfl⟩
  · intro a w ht hs hg
    have h100 : a.tmps.getD 100 undef = _ := By.given_get hg 6 rfl rfl (by kernel_rfl)
    refine By.yes rfl ?_
    clear hs hg
    have hc := c_cnt (Row.below (w := w12.drew) HP21.out ht HP21.out.lt)
    clear ht
    go_simp
    exact ⟨_, rfl, Grew.refl _, rfl⟩
  · intro a w ht hs hg
    have h4 := By.same_get hs 4 (by decide) (by kernel_rfl)
    refine By.yes rfl ?_
    clear hs hg
    go_simp
    exact ⟨_, rfl, Grew.refl _, rfl⟩
  · intro a w ht hs hg
    have h102 : a.tmps.getD 102 undef = _ := By.given_get hg 8 rfl rfl (by kernel_rfl)
    refine By.yes rfl ?_
    clear hs hg
    have hx := Lib.hid ((Bs.below (w := w12.drew) Hpl17.out ht).more ht.size)
    clear ht
    go_simp
    refine (Own_any _ pl w hx.out (by have := Hl3.out; omega)).mono ?_
    rintro e w' ⟨v, rfl, ho, hb⟩
    exact ⟨_, rfl, hb, ho.bs⟩
  · intro a w ht hs hg
    have h94 : a.tmps.getD 94 undef = _ := By.given_get hg 0 rfl rfl (by kernel_rfl)
    have h95 : a.tmps.getD 95 undef = _ := By.given_get hg 1 rfl rfl (by kernel_rfl)
    have h97 : a.tmps.getD 97 undef = _ := By.given_get hg 3 rfl rfl (by kernel_rfl)
    have h99 : a.tmps.getD 99 undef = _ := By.given_get hg 5 rfl rfl (by kernel_rfl)
    have h101 : a.tmps.getD 101 undef = _ := By.given_get hg 7 rfl rfl (by kernel_rfl)
    have h103 := By.given_get hg 9 rfl rfl (by kernel_rfl)
    refine By.yes rfl ?_
    obtain ⟨v103, hv103⟩ : ∃ v, a.tmps.getD 103 undef = v := ⟨_, rfl⟩
    replace h103 := (congrArg (fun v => (bsM pl).on v w) hv103).mp h103
    clear hs hg
    have HTw := Lib.hid (HT21.out.below (grew_below ht) HT21.out.1)
    obtain ⟨A3, c3, rfl, _, _⟩ := id h103
    clear h103 ht
    unfold arr8 at h94
    go_simp
    refine (Seal_args sec pl Hs.out z p.ses p.epo p.cnt A3 c3 (by have := Hl3.out; omega) Hdo.out w).mono ?_
    rintro e w' ⟨rfl, hb⟩
    rw [HEe.out]
    exact ⟨_, rfl, hb, rfl⟩
  · intro a w ht hs hg
    have h104 : a.tmps.getD 104 undef = _ := By.given_get hg 10 rfl rfl (by kernel_rfl)
    refine By.yes rfl ?_
    clear hs hg
    go_simp
    exact ⟨_, rfl, Grew.refl _, rfl⟩
  · intro a w ht hs hg
    have h93 : a.tmps.getD 93 undef = _ := By.given_get hg 11 rfl rfl (by kernel_rfl)
    refine By.yes rfl ?_
    clear hs hg
    go_simp
    exact ⟨_, rfl, Grew.refl _, rfl⟩
  · intro a w ht hs hg
    have h93 : a.tmps.getD 93 undef = _ := By.given_get hg 11 rfl rfl (by kernel_rfl)
    refine By.yes rfl ?_
    clear hs hg
    go_simp
    exact ⟨_, rfl, Grew.refl _, rfl⟩
  · intro a w ht hs hg
    refine By.yes rfl ?_
    clear hs hg
    have hBw : w12.heap.size ≤ w.heap.size := (show w12.drew.heap.size ≤ w.heap.size from ht.size)
    refine Oper.wp_mono ?_ (show Oper.wp Tryd.prog _ a w (fun a' w' => a' = a.put (some 18) (.pointer (some ⟨w.heap.size, 0, none⟩)) ∧ w' = w.alloc (.cells (nm 0).cells.toArray 40)) _ from by
     go_simp
     first | rfl | exact ⟨rfl, rfl⟩)
    rintro a' w' ⟨rfl, rfl⟩
    exact ⟨_, rfl, (Below.refl _ w).alloc (Nat.le_refl _) _, _, rfl, hBw, Row.new rfl rfl⟩
  all_goals
   refine By.ends_is (By.ends_is (By.ends_is (By.ends_is (By.ends_is (By.ends_is (By.ends_is (By.ends_is (By.ends_is (By.ends_skip fun v103 => (By.ends_is (By.ends_is (By.ends_is (By.ends_is (By.ends_any fun v18 => (By.ends_nil fun w17 hw17 => ?_)))))))))))))))
   simp only [Act.put, List.setIfInBounds_toArray, List.set_cons_succ, List.set_cons_zero]
   try simp only [List.drop_succ_cons, List.drop_zero]
   obtain ⟨hgr, g18, rfl, hg18, hr18⟩ := hw17
   have hb := grew_below hgr
   have HN18 := Lib.hid hr18
   have HG18 := Lib.hid hg18
   clear hgr hr18 hg18
   have HB22 := Lib.hid (nextB HB21.out (Nat.le_refl _) hb)
   have HK22 := Lib.hid (HK21.out.below hb HK21.out.lt)
   have HP22 := Lib.hid (HP21.out.below hb HP21.out.lt)
   have HQ22 := Lib.hid (HQ21.out.below hb HQ21.out.lt)
   have HE222 := Lib.hid (HE221.out.below hb HE221.out.lt)
   have HT22 := Lib.hid (HT21.out.below hb HT21.out.1)
   clear hb
   go_wp2_with (first
    | (show wpList _ _ _ (⟨none, Op.store 40 _ _, _, _, _, _⟩ :: _) _ _
       refine wpList_storeRow (g := g18) rfl 40 _ _ rfl rfl rfl (cs := E.cells) HN18.out (by kernel_rfl) (Pk.length HEo.out) (Pk.length (nm_ok 0)) (Pk.one HEo.out) ?_
       refine wpList_name fun V hV => ?_
       refine sstop ?_)
    | fail)
   unfold SStop
   obtain ⟨W18, hV2⟩ : ∃ V2, V = V2 := ⟨V, rfl⟩
   rw [hV2] at hV ⊢
   clear hV2
   have hb : Below w12.heap.size w17 W18 := by rw [← hV]; exact below_setRow (Below.refl _ w17) HG18.out _
   have HS18 := Lib.hid (show Row W18 g18 E.cells 40 by rw [← hV]; exact HN18.out.setRow _)
   clear hV
   have HB23 := Lib.hid (HB22.out.trans (hb.mono HB21.out.size))
   have HK23 := Lib.hid (HK22.out.below hb HK21.out.lt)
   have HP23 := Lib.hid (HP22.out.below hb HP21.out.lt)
   have HQ23 := Lib.hid (HQ22.out.below hb HQ21.out.lt)
   have HE223 := Lib.hid (HE222.out.below hb HE221.out.lt)
   have HT23 := Lib.hid (HT22.out.below hb HT21.out.1)
   clear hb
   have ck := c_kind HP23.out
   have hke : (p.kind == 3) = false := by simp [Hkd.out]
   go_wp2
   go_ret
   exact ⟨rfl, HB23.out⟩
end Go.Proofs.YtbdpnpabpcidkaaDoor.packetBack
namespace Go.Proofs.YtbdpnpabpcidkaaDoor.packetBack
open Go.ChangeShapes Go.WideShapes Go.ChangeAt Go.RowKit
open Pkt
open Shk (bsM wp_ld wp_conv grew_below sstop SStop)
set_option maxRecDepth 100000 in
set_option maxHeartbeats 16000000 in
theorem walk_ok (p : Pk) (m b sec pl : List UInt8) (z : Int) (A Ab Ap : Option Addr) (c cb cp : Nat) (w : World) (ht : Tab w) (hs : sec.length = 32) (hz : -9223372036854775808 ≤ z ∧ z ≤ 9223372036854775807) (hp : p.In) (hb : p.bo = .slice A m.length c) (hm : Bs w w.heap.size p.bo m) (hbb : Bs w w.heap.size (.slice Ab b.length cb) b) (hpl : Bs w w.heap.size (.slice Ap pl.length cp) pl) (hl1 : ¬ 300 < m.length) (hl2 : ¬ 300 < b.length) (hl3 : ¬ 300 < pl.length) (hck : chk p m.length = 0) (hkd : ¬ p.kind = 3) (hdo : dataOk p.ses p.epo p.cnt) : Calls Tryd.prog 5 #[p.val, .slice Ab b.length cb, arr8 sec, .int .i64 z, .slice Ap pl.length cp] w fun e w' => e = .returned (.bool true) ∧ Below w.heap.size w w' := by
 have HB0 := Lib.hid (show Below w.heap.size w ((w.alloc (.cells p.cells.toArray 40)).alloc (.cells (sec.map bv).toArray 24)) from ((Below.refl _ w).alloc (Nat.le_refl _) _).alloc (by simp) _)
 have HT0 := Lib.hid (ht.below HB0.out ht.1)
 have HP0 := Lib.hid (show Row ((w.alloc (.cells p.cells.toArray 40)).alloc (.cells (sec.map bv).toArray 24)) w.heap.size p.cells 40 from (Row.new rfl rfl).alloc _)
 have HK0 := Lib.hid (show Row ((w.alloc (.cells p.cells.toArray 40)).alloc (.cells (sec.map bv).toArray 24)) (w.heap.size + 1) (sec.map bv) 24 from Row.new (by simp) rfl)
 have HLv := Lib.hid (fun w (ht : Tab w) => Pkt.lives_any w ht)
 have HPo := Lib.hid hp.ok
 have HPb := Lib.hid hb
 have Hs := Lib.hid hs
 have h1' : ¬ (300 : Int) < (m.length : Int) := by omega
 have h2' : ¬ (300 : Int) < (b.length : Int) := by omega
 have h3' : ¬ (300 : Int) < (pl.length : Int) := by omega
 have Hp := Lib.hid hp
 have Hm := Lib.hid hm
 have Hbb := Lib.hid hbb
 have Hpl := Lib.hid hpl
 have Hl2 := Lib.hid (show b.length ≤ 300 by omega)
 have Hl3 := Lib.hid (show pl.length ≤ 300 by omega)
 have Hck := Lib.hid hck
 have Hz := Lib.hid hz
 obtain ⟨E, hE⟩ : ∃ E, nm 0 = E := ⟨_, rfl⟩
 have HEe := Lib.hid hE
 have HEo := Lib.hid (show E.Ok by rw [← hE]; exact nm_ok 0)
 have HEb := Lib.hid (show E.bo = .slice none 0 0 by rw [← hE]; rfl)
 have Hkd := Lib.hid hkd
 have Hdo := Lib.hid hdo
 have kneg : (p.kind != 3) = true := by simp [hkd]
 clear ht hs hp hb hm hbb hpl hl1 hl2 hl3 hck hz hE hkd hdo
 unfold arr8 Pk.val
 go_enter Tryd.func5, Tryd.ntmps5
 go_wp2_with fail
 refine (HLv.out _ HT0.out).mono ?_
 rintro e w1 ⟨rfl, hb⟩
 have HB1 := Lib.hid (nextB HB0.out (Nat.le_refl _) hb)
 have HT1 := Lib.hid (HT0.out.below hb HT0.out.1)
 have HKa := Lib.hid (HK0.out.below hb HK0.out.lt)
 have HPa := Lib.hid (HP0.out.below hb HP0.out.lt)
 clear hb
 have c37 := c_bo HPa.out HPo.out
 rw [HPb.out] at c37
 go_wp2_with fail
 clear c37
 have Hb1 := Lib.hid ((Hbb.out.below HB1.out).more HB1.out.size)
 refine (Own_any _ b w1 Hb1.out (by have := Hl2.out; omega)).mono ?_
 rintro e w2 ⟨v2, rfl, ho, hb⟩
 have HOw := Lib.hid ho.bs
 have HB2 := Lib.hid (nextB HB1.out (Nat.le_refl _) hb)
 have HK2 := Lib.hid (HKa.out.below hb HKa.out.lt)
 have HP2 := Lib.hid (HPa.out.below hb HPa.out.lt)
 have HT2 := Lib.hid (HT1.out.below hb HT1.out.1)
 clear ho hb
 go_wp2_with fail
 refine (Read_any v2 b w2 HOw.out (by have := Hl2.out; omega)).mono ?_
 rintro e w3 ⟨hx, hb⟩
 have HB3 := Lib.hid (nextB HB2.out (Nat.le_refl _) hb)
 have HK3 := Lib.hid (HK2.out.below hb HK2.out.lt)
 have HP3 := Lib.hid (HP2.out.below hb HP2.out.lt)
 have HT3 := Lib.hid (HT2.out.below hb HT2.out.1)
 clear hb
 rcases hx with ⟨q, n, Aq, cq, rfl, hqi, hqb, hqs, hqc, hqw, hqn⟩ | ⟨rfl, hno⟩
 case' inl =>
  have HQi := Lib.hid hqi
  have HQo := Lib.hid hqi.ok
  have HQb := Lib.hid hqb
  have HQs := Lib.hid hqs
  have HQc := Lib.hid hqc
  have HQw := Lib.hid hqw
  have HOl := Lib.hid (Pk.length hqi.ok)
  clear hqi hqb hqs hqc hqw hqn
  go_wp2_with (first
   | (show wpList _ _ _ (⟨none, Op.store 40 _ _, _, _, _, _⟩ :: _) _ _
      refine wpList_storeRow (g := w3.heap.size) rfl 40 _ _ rfl rfl rfl (cs := q.cells) (Row.new rfl rfl : Row (w3.alloc (.cells (nm 0).cells.toArray 40)) w3.heap.size (nm 0).cells 40) (by kernel_rfl) (Pk.length HQo.out) (Pk.length (nm_ok 0)) (Pk.one HQo.out) ?_
      refine wpList_name fun V hV => ?_
      refine sstop ?_)
   | fail)
  unfold SStop
  obtain ⟨W4, hV2⟩ : ∃ V2, V = V2 := ⟨V, rfl⟩
  rw [hV2] at hV ⊢
  clear hV2
  have hb : Below w3.heap.size w3 W4 := by rw [← hV]; exact (below_setRow ((Below.refl _ w3).alloc (Nat.le_refl _) _) (by omega) _)
  have HQ4 := Lib.hid (show Row W4 w3.heap.size q.cells 40 by rw [← hV]; exact ((Row.new rfl rfl : Row (w3.alloc (.cells (nm 0).cells.toArray 40)) w3.heap.size (nm 0).cells 40).setRow _))
  have HBs4 := Lib.hid hb
  have HB5 := Lib.hid (nextB HB3.out (Nat.le_refl _) hb)
  have HK5 := Lib.hid (HK3.out.below hb HK3.out.lt)
  have HP5 := Lib.hid (HP3.out.below hb HP3.out.lt)
  have HT5 := Lib.hid (HT3.out.below hb HT3.out.1)
  clear hV hb
  have HQs2 := Lib.hid (HQs.out.below HBs4.out).bs
  have HL6 := Lib.hid (l_all HQ4.out HQo.out)
  go_wp2_with (first
   | (refine wpList_ld 40 rfl rfl HL6.out rfl ?_)
   | fail)
  refine (Bytes_any q HQi.out Aq cq n HQb.out W4 HQs2.out).mono ?_
  rintro e WU ⟨⟨v5, rfl, h1, _⟩, hb⟩
  have ho := h1 HQc.out
  rw [HQc.out]
  rw [HQw.out] at ho
  obtain ⟨A5, c5, rfl⟩ := ho.shape
  have HX5 := Lib.hid ho.bs
  clear h1 ho
  have HBU := Lib.hid (nextB HB5.out (Nat.le_refl _) hb)
  have HKU := Lib.hid (HK5.out.below hb HK5.out.lt)
  have HPU := Lib.hid (HP5.out.below hb HP5.out.lt)
  have HQU := Lib.hid (HQ4.out.below hb HQ4.out.lt)
  have HTU := Lib.hid (HT5.out.below hb HT5.out.1)
  clear hb
  have Hb5 := Lib.hid ((Hbb.out.below HBU.out).more HBU.out.size)
  have cx := Lib.hid (run_str WU HX5.out)
  have cy := Lib.hid (run_str WU Hb5.out)
  have ng := fun u v w => nsg b u v w
  have nv := fun w => nsv b w
  have HL8 := Lib.hid (l_all HPU.out HPo.out)
  go_wp2_with (first
   | (refine wpList_ld 40 rfl rfl HL8.out rfl ?_)
   | (refine wpList_cv _ _ rfl rfl cx.out rfl ?_)
   | (refine wpList_cv _ _ rfl rfl cy.out rfl ?_)
   | fail)
  clear cx cy ng nv
 case' inr =>
  rw [HEe.out]
  clear hno
  have HOl := Lib.hid (Pk.length HEo.out)
  go_wp2_with (first
   | (show wpList _ _ _ (⟨none, Op.store 40 _ _, _, _, _, _⟩ :: _) _ _
      refine wpList_storeRow (g := w3.heap.size) rfl 40 _ _ rfl rfl rfl (cs := E.cells) (Row.new rfl rfl : Row (w3.alloc (.cells (nm 0).cells.toArray 40)) w3.heap.size (nm 0).cells 40) (by kernel_rfl) (Pk.length HEo.out) (Pk.length (nm_ok 0)) (Pk.one HEo.out) ?_
      refine wpList_name fun V hV => ?_
      refine sstop ?_)
   | fail)
  unfold SStop
  obtain ⟨WU, hV2⟩ : ∃ V2, V = V2 := ⟨V, rfl⟩
  rw [hV2] at hV ⊢
  clear hV2
  have hb : Below w3.heap.size w3 WU := by rw [← hV]; exact (below_setRow ((Below.refl _ w3).alloc (Nat.le_refl _) _) (by omega) _)
  have HQ9 := Lib.hid (show Row WU w3.heap.size E.cells 40 by rw [← hV]; exact ((Row.new rfl rfl : Row (w3.alloc (.cells (nm 0).cells.toArray 40)) w3.heap.size (nm 0).cells 40).setRow _))
  have HBs9 := Lib.hid hb
  have HB10 := Lib.hid (nextB HB3.out (Nat.le_refl _) hb)
  have HK10 := Lib.hid (HK3.out.below hb HK3.out.lt)
  have HP10 := Lib.hid (HP3.out.below hb HP3.out.lt)
  have HT10 := Lib.hid (HT3.out.below hb HT3.out.1)
  clear hV hb
  have HKU := HK10
  have HPU := HP10
  have HQU := HQ9
  have HBU := HB10
  have HTU := HT10
  have HL11 := Lib.hid (l_all HP10.out HPo.out)
  go_wp2_with (first
   | (refine wpList_ld 40 rfl rfl HL11.out rfl ?_)
   | fail)
 all_goals
  have Hm6 := Lib.hid ((Hm.out.below HBU.out).more HBU.out.size)
  refine (Bytes_any p Hp.out A c m HPb.out WU Hm6.out).mono ?_
  rintro e w6 ⟨⟨v6, rfl, h1, h2⟩, hb⟩
  have ho := h1 Hck.out
  rw [Hck.out]
  obtain ⟨X, hX⟩ : ∃ X, wire p m = X := ⟨_, rfl⟩
  have HXl := Lib.hid (show X.length ≤ 70000 by rw [← hX]; exact wire_len Hp.out Hck.out)
  have HXe := Lib.hid hX
  rw [hX] at ho
  obtain ⟨A6, c6, rfl⟩ := ho.shape
  have HX6 := Lib.hid ho
  have HS6 := Lib.hid hb.size
  clear h1 h2 ho hX
  have HB12 := Lib.hid (nextB HBU.out (Nat.le_refl _) hb)
  have HK12 := Lib.hid (HKU.out.below hb HKU.out.lt)
  have HP12 := Lib.hid (HPU.out.below hb HPU.out.lt)
  have HQ12 := Lib.hid (HQU.out.below hb HQU.out.lt)
  have HT12 := Lib.hid (HTU.out.below hb HTU.out.1)
  clear hb
  go_wp2_with fail
  refine (Read_any _ X w6 HX6.out.bs (by have := HXl.out; omega)).mono ?_
  rintro e w7 ⟨hx, hb⟩
  rcases hx with ⟨q2, m2, A2, c2, rfl, hqi, hqb, hqs, hqc, hqw, _⟩ | ⟨_, hno⟩
  case inr => exact (hno p m Hp.out Hck.out HXe.out).elim
  obtain ⟨hal, rfl, _⟩ := wire_split (r := []) (r' := []) hqi Hp.out hqc Hck.out (by rw [hqw, HXe.out])
  have HRi := Lib.hid hqi
  have HRo := Lib.hid hqi.ok
  have HRb := Lib.hid hqb
  have HRs := Lib.hid hqs
  have HRa := Lib.hid hal
  have HX7 := Lib.hid (HX6.out.below hb (Nat.le_refl _))
  have HS7 := Lib.hid hb.size
  clear hqi hqb hqs hqc hqw hal
  have HB13 := Lib.hid (nextB HB12.out (Nat.le_refl _) hb)
  have HK13 := Lib.hid (HK12.out.below hb HK12.out.lt)
  have HP13 := Lib.hid (HP12.out.below hb HP12.out.lt)
  have HQ13 := Lib.hid (HQ12.out.below hb HQ12.out.lt)
  have HT13 := Lib.hid (HT12.out.below hb HT12.out.1)
  clear hb
  go_wp2_with (first
   | (show wpList _ _ _ (⟨none, Op.store 40 _ _, _, _, _, _⟩ :: _) _ _
      refine wpList_storeRow (g := w3.heap.size) rfl 40 _ _ rfl rfl rfl (cs := q2.cells) HQ13.out (by kernel_rfl) (Pk.length HRo.out) HOl.out (Pk.one HRo.out) ?_
      refine wpList_name fun V hV => ?_
      refine sstop ?_)
   | fail)
  unfold SStop
  obtain ⟨W8, hV2⟩ : ∃ V2, V = V2 := ⟨V, rfl⟩
  rw [hV2] at hV ⊢
  clear hV2
  have hb : Below w3.heap.size w7 W8 := by rw [← hV]; exact below_setRow (Below.refl _ w7) (Nat.le_refl _) _
  have hg8 : w7.grownBy W8 (some w3.heap.size) := by rw [← hV]; exact keep_only (Pol.keep_setRow _)
  have HS8 := Lib.hid (show w7.heap.size ≤ W8.heap.size from hb.size)
  have HR8 := Lib.hid (show Row W8 w3.heap.size q2.cells 40 by rw [← hV]; exact HQ13.out.setRow _)
  have HX8 := Lib.hid (HX7.out.kept hg8 (own_ne HX7.out HQU.out.lt))
  have HRs8 := Lib.hid (HRs.out.grown hg8 (Nat.lt_of_lt_of_le HQU.out.lt HS6.out))
  clear hV hg8
  have HB14 := Lib.hid (HB13.out.trans (hb.mono HB3.out.size))
  have HK14 := Lib.hid (HK13.out.below hb HK3.out.lt)
  have HP14 := Lib.hid (HP13.out.below hb HP3.out.lt)
  have HT14 := Lib.hid (HT13.out.below hb HT3.out.1)
  clear hb
  have HXa := Lib.hid (HX8.out.alloc (.cells #[.int .u8 0] 5))
  have HZb := Lib.hid (bs_zero W8)
  have HSz := Lib.hid (show WU.heap.size ≤ (W8.alloc (.cells #[.int .u8 0] 5)).heap.size from Nat.le_trans (Nat.le_trans HS6.out (Nat.le_trans HS7.out HS8.out)) (by simp))
  have HLn := Lib.hid (show X.length + [(0 : UInt8)].length ≤ 140737488355327 by have := HXl.out; simp; omega)
  go_wp2_with (first
   | (at_builtin
      refine wpList_app_bytes _ rfl (.tmp 75) (.tmp 76) rfl rfl HXa.out rfl HZb.out HLn.out HSz.out ?_
      intro v9 w9 ho9 hg9 _
      have HO9 := Lib.hid ho9
      have HG9 := Lib.hid hg9
      clear ho9 hg9)
   | fail)
  have hb : Below WU.heap.size W8 w9 := ((Below.refl WU.heap.size W8).alloc (Nat.le_trans HS6.out (Nat.le_trans HS7.out HS8.out)) _).trans (below_grown HG9.out (fun g hg => (HXa.out.block_ge hg).1) HSz.out)
  have HRs9 := Lib.hid ((HRs8.out.below ((Below.refl _ W8).alloc (Nat.le_refl _) (.cells #[.int .u8 0] 5))).grownO HG9.out (own_lt HX6.out))
  have HB15 := Lib.hid (HB14.out.trans (hb.mono HBU.out.size))
  have HK15 := Lib.hid (HK14.out.below hb HKU.out.lt)
  have HP15 := Lib.hid (HP14.out.below hb HPU.out.lt)
  have HQ15 := Lib.hid (HR8.out.below hb HQU.out.lt)
  have HT15 := Lib.hid (HT14.out.below hb HTU.out.1)
  clear hb
  refine (Read_any v9 (X ++ [0]) w9 HO9.out.bs (by have := HXl.out; simp; omega)).mono ?_
  rintro e w10 ⟨hx, hb⟩
  rcases hx with ⟨q, n, Aq, cq, rfl, hqi, hqb, hqs, hqc, hqw, hqn⟩ | ⟨rfl, _⟩
  case inl => exact (wire_more Hp.out hqi Hck.out hqc 0 (by rw [hqw, HXe.out])).elim
  rw [HEe.out]
  have HRs10 := Lib.hid (HRs9.out.below hb)
  have HB16 := Lib.hid (nextB HB15.out (Nat.le_refl _) hb)
  have HK16 := Lib.hid (HK15.out.below hb HK15.out.lt)
  have HP16 := Lib.hid (HP15.out.below hb HP15.out.lt)
  have HQ16 := Lib.hid (HQ15.out.below hb HQ15.out.lt)
  have HT16 := Lib.hid (HT15.out.below hb HT15.out.1)
  clear hb
  go_wp2_with (first
   | (show wpList _ _ _ (⟨none, Op.store 40 _ _, _, _, _, _⟩ :: _) _ _
      refine wpList_storeRow (g := w10.heap.size) rfl 40 _ _ rfl rfl rfl (cs := E.cells) (Row.new rfl rfl : Row (w10.alloc (.cells (nm 0).cells.toArray 40)) w10.heap.size (nm 0).cells 40) (by kernel_rfl) (Pk.length HEo.out) (Pk.length (nm_ok 0)) (Pk.one HEo.out) ?_
      refine wpList_name fun V hV => ?_
      refine sstop ?_)
   | fail)
  unfold SStop
  obtain ⟨W17, hV2⟩ : ∃ V2, V = V2 := ⟨V, rfl⟩
  rw [hV2] at hV ⊢
  clear hV2
  have hb : Below w10.heap.size w10 W17 := by rw [← hV]; exact (below_setRow ((Below.refl _ w10).alloc (Nat.le_refl _) _) (by omega) _)
  have HE217 := Lib.hid (show Row W17 w10.heap.size E.cells 40 by rw [← hV]; exact ((Row.new rfl rfl : Row (w10.alloc (.cells (nm 0).cells.toArray 40)) w10.heap.size (nm 0).cells 40).setRow _))
  have HBs17 := Lib.hid hb
  have HB18 := Lib.hid (nextB HB16.out (Nat.le_refl _) hb)
  have HK18 := Lib.hid (HK16.out.below hb HK16.out.lt)
  have HP18 := Lib.hid (HP16.out.below hb HP16.out.lt)
  have HQ18 := Lib.hid (HQ16.out.below hb HQ16.out.lt)
  have HT18 := Lib.hid (HT16.out.below hb HT16.out.1)
  clear hV hb
  have HRs11 := Lib.hid (HRs10.out.below HBs17.out)
  have Hm11 := Lib.hid ((Hm.out.below HB18.out).more HB18.out.size)
  have HL19 := Lib.hid (l_all HP18.out HPo.out)
  have HL20 := Lib.hid (l_all HQ18.out HRo.out)
  go_wp2_with (first
   | (refine wpList_ld 40 rfl rfl HL19.out rfl ?_)
   | (refine wpList_ld 40 rfl rfl HL20.out rfl ?_)
   | fail)
  refine (KPacket_yes p q2 HPo.out HRo.out W17 m2 m2 Hm11.out HRs11.out.bs HRa.out.k.symm HRa.out.z.symm HRa.out.s.symm HRa.out.e.symm HRa.out.c.symm HRa.out.r.symm HRa.out.m.symm).mono ?_
  rintro e w12 ⟨rfl, hb⟩
  rw [decide_eq_true rfl]
  have HB21 := Lib.hid (nextB HB18.out (Nat.le_refl _) hb)
  have HK21 := Lib.hid (HK18.out.below hb HK18.out.lt)
  have HP21 := Lib.hid (HP18.out.below hb HP18.out.lt)
  have HQ21 := Lib.hid (HQ18.out.below hb HQ18.out.lt)
  have HE221 := Lib.hid (HE217.out.below hb HE217.out.lt)
  have HT21 := Lib.hid (HT18.out.below hb HT18.out.1)
  clear hb
  go_wp2_with fail
  have Hpl17 := Lib.hid ((Hpl.out.below HB21.out).more HB21.out.size)
  have hsz17 : w12.heap.size = w12.heap.size := rfl
  clear hsz17
  refine Tail.marksF Pol.mixed 15 13 106 Grew [By.is (arr8 sec),
   By.is (.int .i64 z),
   By.is (.pointer (some ⟨w.heap.size, 2, none⟩)),
   By.is (.int .u64 (p.ses : Int)),
   By.is (.pointer (some ⟨w.heap.size, 3, none⟩)),
   By.is (.int .u32 (p.epo : Int)),
   By.is (.pointer (some ⟨w.heap.size, 4, none⟩)),
   By.is (.int .u64 (p.cnt : Int)),
   By.is (.slice Ap pl.length cp),
   bsM pl,
   (sealM w12.heap.size p.ses p.epo p.cnt (pl.length + 16) (sealedL sec z p.ses p.epo p.cnt pl)),
   (sealM w12.heap.size p.ses p.epo p.cnt (pl.length + 16) (sealedL sec z p.ses p.epo p.cnt pl)),
   (dpM w12.heap.size p.ses p.epo p.cnt (pl.length + 16) (sealedL sec z p.ses p.epo p.cnt pl)),
   By.is (.int .i64 0),
   newM w12.heap.size]
   (Ev.masks _ []) (Nat.zero_lt_succ _) rfl (by kernel_rfl) (by kernel_rfl) rfl Grew.refl Grew.trans ⟨?_, ?_, ?_, ?_, ?_, ?_, ?_, ?_, ?_, ?_, ?_, ?_, ?_, ?_, ?_, trivial⟩ [_, _, _] (by rfl) ?_ ?_
  · intro a w ht hs hg
    have h7 := By.same_get hs 7 (by decide) (by kernel_rfl)
    refine By.yes rfl ?_
    clear hs hg
    have hr := l_k (Row.below (w := w12.drew) HK21.out ht HK21.out.lt) Hs.out
    refine wp_ld 24 _ rfl h7 hr ?_
    exact ⟨_, rfl, Grew.refl _, rfl⟩
  · intro a w ht hs hg
    have h3 := By.same_get hs 3 (by decide) (by kernel_rfl)
    refine By.yes rfl ?_
    clear hs hg
    go_simp
    exact ⟨_, rfl, Grew.refl _, rfl⟩
  · intro a w ht hs hg
    have h5 := By.same_get hs 5 (by decide) (by kernel_rfl)
    refine By.yes rfl ?_
    clear hs hg
    go_simp
    exact ⟨_, rfl, Grew.refl _, rfl⟩
  · intro a w ht hs hg
    have h96 : a.tmps.getD 96 undef = _ := By.given_get hg 2 rfl rfl (by kernel_rfl)
    refine By.yes rfl ?_
    clear hs hg
    have hc := c_ses (Row.below (w := w12.drew) HP21.out ht HP21.out.lt)
    clear ht
    go_simp
    exact ⟨_, rfl, Grew.refl _, rfl⟩
  · intro a w ht hs hg
    have h5 := By.same_get hs 5 (by decide) (by kernel_rfl)
    refine By.yes rfl ?_
    clear hs hg
    go_simp
    exact ⟨_, rfl, Grew.refl _, rfl⟩
  · intro a w ht hs hg
    have h98 : a.tmps.getD 98 undef = _ := By.given_get hg 4 rfl rfl (by kernel_rfl)
    refine By.yes rfl ?_
    clear hs hg
    have hc := c_epo (Row.below (w := w12.drew) HP21.out ht HP21.out.lt)
    clear ht
    go_simp
    exact ⟨_, rfl, Grew.refl _, rfl⟩
  · intro a w ht hs hg
    have h5 := By.same_get hs 5 (by decide) (by kernel_rfl)
    refine By.yes rfl ?_
    clear hs hg
    go_simp
    exact ⟨_, rfl, Grew.refl _, rfl⟩
  · intro a w ht hs hg
    have h100 : a.tmps.getD 100 undef = _ := By.given_get hg 6 rfl rfl (by kernel_rfl)
    refine By.yes rfl ?_
    clear hs hg
    have hc := c_cnt (Row.below (w := w12.drew) HP21.out ht HP21.out.lt)
    clear ht
    go_simp
    exact ⟨_, rfl, Grew.refl _, rfl⟩
  · intro a w ht hs hg
    have h4 := By.same_get hs 4 (by decide) (by kernel_rfl)
    refine By.yes rfl ?_
    clear hs hg
    go_simp
    exact ⟨_, rfl, Grew.refl _, rfl⟩
  · intro a w ht hs hg
    have h102 : a.tmps.getD 102 undef = _ := By.given_get hg 8 rfl rfl (by kernel_rfl)
    refine By.yes rfl ?_
    clear hs hg
    have hx := Lib.hid ((Bs.below (w := w12.drew) Hpl17.out ht).more ht.size)
    clear ht
    go_simp
    refine (Own_any _ pl w hx.out (by have := Hl3.out; omega)).mono ?_
    rintro e w' ⟨v, rfl, ho, hb⟩
    exact ⟨_, rfl, hb, ho.bs⟩
  · intro a w ht hs hg
    have h94 : a.tmps.getD 94 undef = _ := By.given_get hg 0 rfl rfl (by kernel_rfl)
    have h95 : a.tmps.getD 95 undef = _ := By.given_get hg 1 rfl rfl (by kernel_rfl)
    have h97 : a.tmps.getD 97 undef = _ := By.given_get hg 3 rfl rfl (by kernel_rfl)
    have h99 : a.tmps.getD 99 undef = _ := By.given_get hg 5 rfl rfl (by kernel_rfl)
    have h101 : a.tmps.getD 101 undef = _ := By.given_get hg 7 rfl rfl (by kernel_rfl)
    have h103 := By.given_get hg 9 rfl rfl (by kernel_rfl)
    refine By.yes rfl ?_
    obtain ⟨v103, hv103⟩ : ∃ v, a.tmps.getD 103 undef = v := ⟨_, rfl⟩
    replace h103 := (congrArg (fun v => (bsM pl).on v w) hv103).mp h103
    clear hs hg
    have HTw := Lib.hid (HT21.out.below (grew_below ht) HT21.out.1)
    have hW : w12.heap.size ≤ w.heap.size := (show w12.drew.heap.size ≤ w.heap.size from ht.size)
    obtain ⟨A3, c3, rfl, _, _⟩ := id h103
    have Hx := Lib.hid h103
    clear h103 ht
    unfold arr8 at h94
    go_simp
    refine (Seal_any sec pl Hs.out z p.ses p.epo p.cnt A3 c3 (by have := Hl3.out; omega) Hdo.out Hp.out.s Hp.out.e w HTw.out Hx.out).mono ?_
    rintro e w' ⟨⟨b, R, rfl, h1, h2⟩, hb⟩
    exact ⟨_, rfl, hb, b, R, rfl, Nat.le_trans hW h1, h2⟩
  · intro a w ht hs hg
    have h104 := By.given_get hg 10 rfl rfl (by kernel_rfl)
    refine By.yes rfl ?_
    obtain ⟨v104, hv104⟩ : ∃ v, a.tmps.getD 104 undef = v := ⟨_, rfl⟩
    replace h104 := (congrArg (fun v => ((sealM w12.heap.size p.ses p.epo p.cnt (pl.length + 16) (sealedL sec z p.ses p.epo p.cnt pl))).on v w) hv104).mp h104
    clear hs hg
    obtain ⟨b, R, rfl, h1, h2⟩ := h104
    have Hx := Lib.hid h2
    clear h2 ht
    go_simp
    exact ⟨_, rfl, Grew.refl _, b, R, rfl, h1, Hx.out⟩
  · intro a w ht hs hg
    have h93 := By.given_get hg 11 rfl rfl (by kernel_rfl)
    refine By.yes rfl ?_
    obtain ⟨v93, hv93⟩ : ∃ v, a.tmps.getD 93 undef = v := ⟨_, rfl⟩
    replace h93 := (congrArg (fun v => ((sealM w12.heap.size p.ses p.epo p.cnt (pl.length + 16) (sealedL sec z p.ses p.epo p.cnt pl))).on v w) hv93).mp h93
    clear hs hg
    obtain ⟨b, R, rfl, h1, h2⟩ := h93
    have Hx := Lib.hid h2
    clear h2 ht
    go_simp
    exact ⟨_, rfl, Grew.refl _, b, R, rfl, h1, Hx.out⟩
  · intro a w ht hs hg
    have h93 := By.given_get hg 11 rfl rfl (by kernel_rfl)
    refine By.yes rfl ?_
    obtain ⟨v93, hv93⟩ : ∃ v, a.tmps.getD 93 undef = v := ⟨_, rfl⟩
    replace h93 := (congrArg (fun v => ((sealM w12.heap.size p.ses p.epo p.cnt (pl.length + 16) (sealedL sec z p.ses p.epo p.cnt pl))).on v w) hv93).mp h93
    clear hs hg
    obtain ⟨b, R, rfl, h1, h2⟩ := h93
    clear h2 ht
    go_simp
    exact ⟨_, rfl, Grew.refl _, rfl⟩
  · intro a w ht hs hg
    refine By.yes rfl ?_
    clear hs hg
    have hBw : w12.heap.size ≤ w.heap.size := (show w12.drew.heap.size ≤ w.heap.size from ht.size)
    refine Oper.wp_mono ?_ (show Oper.wp Tryd.prog _ a w (fun a' w' => a' = a.put (some 18) (.pointer (some ⟨w.heap.size, 0, none⟩)) ∧ w' = w.alloc (.cells (nm 0).cells.toArray 40)) _ from by
     go_simp
     first | rfl | exact ⟨rfl, rfl⟩)
    rintro a' w' ⟨rfl, rfl⟩
    exact ⟨_, rfl, (Below.refl _ w).alloc (Nat.le_refl _) _, _, rfl, hBw, Row.new rfl rfl⟩
  all_goals
   refine By.ends_is (By.ends_is (By.ends_is (By.ends_is (By.ends_is (By.ends_is (By.ends_is (By.ends_is (By.ends_is (By.ends_skip fun v103 => (By.ends_skip fun v104 => (By.ends_any fun v93 => (By.ends_any fun v105 => (By.ends_is (By.ends_any fun v18 => (By.ends_nil fun w17 hw17 => ?_)))))))))))))))
   simp only [Act.put, List.setIfInBounds_toArray, List.set_cons_succ, List.set_cons_zero]
   try simp only [List.drop_succ_cons, List.drop_zero]
   obtain ⟨⟨⟨hgr, b8, R8, rfl, _, _⟩, b9, R9, rfl, hb9, hrow9⟩, g18, rfl, hg18, hr18⟩ := hw17
   obtain ⟨S, hS⟩ : ∃ S, dp p.ses p.epo p.cnt (.slice (some ⟨b9, 0, none⟩) (pl.length + 16) (pl.length + 16)) = S := ⟨_, rfl⟩
   have HSe := Lib.hid hS
   have HSi := Lib.hid (show S.In by rw [← hS]; exact ⟨dp_ok _ _ _ rfl, Hp.out.s, Hp.out.e, Hp.out.c⟩)
   have HSo := Lib.hid HSi.out.ok
   have HSb := Lib.hid (show S.bo = .slice (some ⟨b9, 0, none⟩) (pl.length + 16) (pl.length + 16) by rw [← hS]; rfl)
   have HSr := Lib.hid hrow9
   rw [hS]
   clear hS hrow9 hb9
   have hb := grew_below hgr
   have HN18 := Lib.hid hr18
   have HG18 := Lib.hid hg18
   clear hgr hr18 hg18
   have HB22 := Lib.hid (nextB HB21.out (Nat.le_refl _) hb)
   have HK22 := Lib.hid (HK21.out.below hb HK21.out.lt)
   have HP22 := Lib.hid (HP21.out.below hb HP21.out.lt)
   have HQ22 := Lib.hid (HQ21.out.below hb HQ21.out.lt)
   have HE222 := Lib.hid (HE221.out.below hb HE221.out.lt)
   have HT22 := Lib.hid (HT21.out.below hb HT21.out.1)
   clear hb
   go_wp2_with (first
    | (show wpList _ _ _ (⟨none, Op.store 40 _ _, _, _, _, _⟩ :: _) _ _
       refine wpList_storeRow (g := g18) rfl 40 _ _ rfl rfl rfl (cs := S.cells) HN18.out (by kernel_rfl) (Pk.length HSo.out) (Pk.length (nm_ok 0)) (Pk.one HSo.out) ?_
       refine wpList_name fun V hV => ?_
       refine sstop ?_)
    | fail)
   unfold SStop
   obtain ⟨W18, hV2⟩ : ∃ V2, V = V2 := ⟨V, rfl⟩
   rw [hV2] at hV ⊢
   clear hV2
   have hb : Below w12.heap.size w17 W18 := by rw [← hV]; exact below_setRow (Below.refl _ w17) HG18.out _
   have HS18 := Lib.hid (show Row W18 g18 S.cells 40 by rw [← hV]; exact HN18.out.setRow _)
   have HSr18 := Lib.hid (show Row W18 b9 ((sealedL sec z p.ses p.epo p.cnt pl).map bv ++ R9) 5 by
    rw [← hV]
    refine HSr.out.setOther _ _ (fun e => ?_)
    have h1 := HSr.out
    have h2 := HN18.out
    rw [e] at h1
    unfold Row at h1 h2
    rw [h1] at h2
    simp only [Option.some.injEq, Obj.cells.injEq] at h2
    exact absurd h2.2.1 (by decide))
   clear hV
   have HB23 := Lib.hid (HB22.out.trans (hb.mono HB21.out.size))
   have HK23 := Lib.hid (HK22.out.below hb HK21.out.lt)
   have HP23 := Lib.hid (HP22.out.below hb HP21.out.lt)
   have HQ23 := Lib.hid (HQ22.out.below hb HQ21.out.lt)
   have HE223 := Lib.hid (HE222.out.below hb HE221.out.lt)
   have HT23 := Lib.hid (HT22.out.below hb HT21.out.1)
   clear hb
   have ck := c_kind HP23.out
   have hke : (p.kind == 3) = false := by simp [Hkd.out]
   go_wp2
   go_ret
   exact ⟨rfl, HB23.out⟩
end Go.Proofs.YtbdpnpabpcidkaaDoor.packetBack
namespace Go.Proofs.YtbdpnpabpcidkaaDoor.packetBack
open Go.ChangeShapes Go.WideShapes Go.ChangeAt Go.RowKit
open Pkt
open Shk (bsM wp_ld wp_conv grew_below sstop SStop)
set_option maxRecDepth 100000 in
set_option maxHeartbeats 16000000 in
theorem walk_data (p : Pk) (m b sec pl : List UInt8) (z : Int) (A Ab Ap : Option Addr) (c cb cp : Nat) (w : World) (ht : Tab w) (hs : sec.length = 32) (hz : -9223372036854775808 ≤ z ∧ z ≤ 9223372036854775807) (hp : p.In) (hb : p.bo = .slice A m.length c) (hm : Bs w w.heap.size p.bo m) (hbb : Bs w w.heap.size (.slice Ab b.length cb) b) (hpl : Bs w w.heap.size (.slice Ap pl.length cp) pl) (hl1 : ¬ 300 < m.length) (hl2 : ¬ 300 < b.length) (hl3 : ¬ 300 < pl.length) (hck : chk p m.length = 0) (hkd : p.kind = 3) : Calls Tryd.prog 5 #[p.val, .slice Ab b.length cb, arr8 sec, .int .i64 z, .slice Ap pl.length cp] w fun e w' => e = .returned (.bool true) ∧ Below w.heap.size w w' := by
 have HB0 := Lib.hid (show Below w.heap.size w ((w.alloc (.cells p.cells.toArray 40)).alloc (.cells (sec.map bv).toArray 24)) from ((Below.refl _ w).alloc (Nat.le_refl _) _).alloc (by simp) _)
 have HT0 := Lib.hid (ht.below HB0.out ht.1)
 have HP0 := Lib.hid (show Row ((w.alloc (.cells p.cells.toArray 40)).alloc (.cells (sec.map bv).toArray 24)) w.heap.size p.cells 40 from (Row.new rfl rfl).alloc _)
 have HK0 := Lib.hid (show Row ((w.alloc (.cells p.cells.toArray 40)).alloc (.cells (sec.map bv).toArray 24)) (w.heap.size + 1) (sec.map bv) 24 from Row.new (by simp) rfl)
 have HLv := Lib.hid (fun w (ht : Tab w) => Pkt.lives_any w ht)
 have HPo := Lib.hid hp.ok
 have HPb := Lib.hid hb
 have Hs := Lib.hid hs
 have h1' : ¬ (300 : Int) < (m.length : Int) := by omega
 have h2' : ¬ (300 : Int) < (b.length : Int) := by omega
 have h3' : ¬ (300 : Int) < (pl.length : Int) := by omega
 have Hp := Lib.hid hp
 have Hm := Lib.hid hm
 have Hbb := Lib.hid hbb
 have Hpl := Lib.hid hpl
 have Hl2 := Lib.hid (show b.length ≤ 300 by omega)
 have Hl3 := Lib.hid (show pl.length ≤ 300 by omega)
 have Hck := Lib.hid hck
 have Hz := Lib.hid hz
 obtain ⟨E, hE⟩ : ∃ E, nm 0 = E := ⟨_, rfl⟩
 have HEe := Lib.hid hE
 have HEo := Lib.hid (show E.Ok by rw [← hE]; exact nm_ok 0)
 have HEb := Lib.hid (show E.bo = .slice none 0 0 by rw [← hE]; rfl)
 have Hkd := Lib.hid hkd
 have kneg : (p.kind != 3) = false := by simp [hkd]
 have Hdo := Lib.hid (data_ok (chk_ok hck).1 hkd)
 clear ht hs hp hb hm hbb hpl hl1 hl2 hl3 hck hz hE hkd
 unfold arr8 Pk.val
 go_enter Tryd.func5, Tryd.ntmps5
 go_wp2_with fail
 refine (HLv.out _ HT0.out).mono ?_
 rintro e w1 ⟨rfl, hb⟩
 have HB1 := Lib.hid (nextB HB0.out (Nat.le_refl _) hb)
 have HT1 := Lib.hid (HT0.out.below hb HT0.out.1)
 have HKa := Lib.hid (HK0.out.below hb HK0.out.lt)
 have HPa := Lib.hid (HP0.out.below hb HP0.out.lt)
 clear hb
 have c37 := c_bo HPa.out HPo.out
 rw [HPb.out] at c37
 go_wp2_with fail
 clear c37
 have Hb1 := Lib.hid ((Hbb.out.below HB1.out).more HB1.out.size)
 refine (Own_any _ b w1 Hb1.out (by have := Hl2.out; omega)).mono ?_
 rintro e w2 ⟨v2, rfl, ho, hb⟩
 have HOw := Lib.hid ho.bs
 have HB2 := Lib.hid (nextB HB1.out (Nat.le_refl _) hb)
 have HK2 := Lib.hid (HKa.out.below hb HKa.out.lt)
 have HP2 := Lib.hid (HPa.out.below hb HPa.out.lt)
 have HT2 := Lib.hid (HT1.out.below hb HT1.out.1)
 clear ho hb
 go_wp2_with fail
 refine (Read_any v2 b w2 HOw.out (by have := Hl2.out; omega)).mono ?_
 rintro e w3 ⟨hx, hb⟩
 have HB3 := Lib.hid (nextB HB2.out (Nat.le_refl _) hb)
 have HK3 := Lib.hid (HK2.out.below hb HK2.out.lt)
 have HP3 := Lib.hid (HP2.out.below hb HP2.out.lt)
 have HT3 := Lib.hid (HT2.out.below hb HT2.out.1)
 clear hb
 rcases hx with ⟨q, n, Aq, cq, rfl, hqi, hqb, hqs, hqc, hqw, hqn⟩ | ⟨rfl, hno⟩
 case' inl =>
  have HQi := Lib.hid hqi
  have HQo := Lib.hid hqi.ok
  have HQb := Lib.hid hqb
  have HQs := Lib.hid hqs
  have HQc := Lib.hid hqc
  have HQw := Lib.hid hqw
  have HOl := Lib.hid (Pk.length hqi.ok)
  clear hqi hqb hqs hqc hqw hqn
  go_wp2_with (first
   | (show wpList _ _ _ (⟨none, Op.store 40 _ _, _, _, _, _⟩ :: _) _ _
      refine wpList_storeRow (g := w3.heap.size) rfl 40 _ _ rfl rfl rfl (cs := q.cells) (Row.new rfl rfl : Row (w3.alloc (.cells (nm 0).cells.toArray 40)) w3.heap.size (nm 0).cells 40) (by kernel_rfl) (Pk.length HQo.out) (Pk.length (nm_ok 0)) (Pk.one HQo.out) ?_
      refine wpList_name fun V hV => ?_
      refine sstop ?_)
   | fail)
  unfold SStop
  obtain ⟨W4, hV2⟩ : ∃ V2, V = V2 := ⟨V, rfl⟩
  rw [hV2] at hV ⊢
  clear hV2
  have hb : Below w3.heap.size w3 W4 := by rw [← hV]; exact (below_setRow ((Below.refl _ w3).alloc (Nat.le_refl _) _) (by omega) _)
  have HQ4 := Lib.hid (show Row W4 w3.heap.size q.cells 40 by rw [← hV]; exact ((Row.new rfl rfl : Row (w3.alloc (.cells (nm 0).cells.toArray 40)) w3.heap.size (nm 0).cells 40).setRow _))
  have HBs4 := Lib.hid hb
  have HB5 := Lib.hid (nextB HB3.out (Nat.le_refl _) hb)
  have HK5 := Lib.hid (HK3.out.below hb HK3.out.lt)
  have HP5 := Lib.hid (HP3.out.below hb HP3.out.lt)
  have HT5 := Lib.hid (HT3.out.below hb HT3.out.1)
  clear hV hb
  have HQs2 := Lib.hid (HQs.out.below HBs4.out).bs
  have HL6 := Lib.hid (l_all HQ4.out HQo.out)
  go_wp2_with (first
   | (refine wpList_ld 40 rfl rfl HL6.out rfl ?_)
   | fail)
  refine (Bytes_any q HQi.out Aq cq n HQb.out W4 HQs2.out).mono ?_
  rintro e WU ⟨⟨v5, rfl, h1, _⟩, hb⟩
  have ho := h1 HQc.out
  rw [HQc.out]
  rw [HQw.out] at ho
  obtain ⟨A5, c5, rfl⟩ := ho.shape
  have HX5 := Lib.hid ho.bs
  clear h1 ho
  have HBU := Lib.hid (nextB HB5.out (Nat.le_refl _) hb)
  have HKU := Lib.hid (HK5.out.below hb HK5.out.lt)
  have HPU := Lib.hid (HP5.out.below hb HP5.out.lt)
  have HQU := Lib.hid (HQ4.out.below hb HQ4.out.lt)
  have HTU := Lib.hid (HT5.out.below hb HT5.out.1)
  clear hb
  have Hb5 := Lib.hid ((Hbb.out.below HBU.out).more HBU.out.size)
  have cx := Lib.hid (run_str WU HX5.out)
  have cy := Lib.hid (run_str WU Hb5.out)
  have ng := fun u v w => nsg b u v w
  have nv := fun w => nsv b w
  have HL8 := Lib.hid (l_all HPU.out HPo.out)
  go_wp2_with (first
   | (refine wpList_ld 40 rfl rfl HL8.out rfl ?_)
   | (refine wpList_cv _ _ rfl rfl cx.out rfl ?_)
   | (refine wpList_cv _ _ rfl rfl cy.out rfl ?_)
   | fail)
  clear cx cy ng nv
 case' inr =>
  rw [HEe.out]
  clear hno
  have HOl := Lib.hid (Pk.length HEo.out)
  go_wp2_with (first
   | (show wpList _ _ _ (⟨none, Op.store 40 _ _, _, _, _, _⟩ :: _) _ _
      refine wpList_storeRow (g := w3.heap.size) rfl 40 _ _ rfl rfl rfl (cs := E.cells) (Row.new rfl rfl : Row (w3.alloc (.cells (nm 0).cells.toArray 40)) w3.heap.size (nm 0).cells 40) (by kernel_rfl) (Pk.length HEo.out) (Pk.length (nm_ok 0)) (Pk.one HEo.out) ?_
      refine wpList_name fun V hV => ?_
      refine sstop ?_)
   | fail)
  unfold SStop
  obtain ⟨WU, hV2⟩ : ∃ V2, V = V2 := ⟨V, rfl⟩
  rw [hV2] at hV ⊢
  clear hV2
  have hb : Below w3.heap.size w3 WU := by rw [← hV]; exact (below_setRow ((Below.refl _ w3).alloc (Nat.le_refl _) _) (by omega) _)
  have HQ9 := Lib.hid (show Row WU w3.heap.size E.cells 40 by rw [← hV]; exact ((Row.new rfl rfl : Row (w3.alloc (.cells (nm 0).cells.toArray 40)) w3.heap.size (nm 0).cells 40).setRow _))
  have HBs9 := Lib.hid hb
  have HB10 := Lib.hid (nextB HB3.out (Nat.le_refl _) hb)
  have HK10 := Lib.hid (HK3.out.below hb HK3.out.lt)
  have HP10 := Lib.hid (HP3.out.below hb HP3.out.lt)
  have HT10 := Lib.hid (HT3.out.below hb HT3.out.1)
  clear hV hb
  have HKU := HK10
  have HPU := HP10
  have HQU := HQ9
  have HBU := HB10
  have HTU := HT10
  have HL11 := Lib.hid (l_all HP10.out HPo.out)
  go_wp2_with (first
   | (refine wpList_ld 40 rfl rfl HL11.out rfl ?_)
   | fail)
 all_goals
  have Hm6 := Lib.hid ((Hm.out.below HBU.out).more HBU.out.size)
  refine (Bytes_any p Hp.out A c m HPb.out WU Hm6.out).mono ?_
  rintro e w6 ⟨⟨v6, rfl, h1, h2⟩, hb⟩
  have ho := h1 Hck.out
  rw [Hck.out]
  obtain ⟨X, hX⟩ : ∃ X, wire p m = X := ⟨_, rfl⟩
  have HXl := Lib.hid (show X.length ≤ 70000 by rw [← hX]; exact wire_len Hp.out Hck.out)
  have HXe := Lib.hid hX
  rw [hX] at ho
  obtain ⟨A6, c6, rfl⟩ := ho.shape
  have HX6 := Lib.hid ho
  have HS6 := Lib.hid hb.size
  clear h1 h2 ho hX
  have HB12 := Lib.hid (nextB HBU.out (Nat.le_refl _) hb)
  have HK12 := Lib.hid (HKU.out.below hb HKU.out.lt)
  have HP12 := Lib.hid (HPU.out.below hb HPU.out.lt)
  have HQ12 := Lib.hid (HQU.out.below hb HQU.out.lt)
  have HT12 := Lib.hid (HTU.out.below hb HTU.out.1)
  clear hb
  go_wp2_with fail
  refine (Read_any _ X w6 HX6.out.bs (by have := HXl.out; omega)).mono ?_
  rintro e w7 ⟨hx, hb⟩
  rcases hx with ⟨q2, m2, A2, c2, rfl, hqi, hqb, hqs, hqc, hqw, _⟩ | ⟨_, hno⟩
  case inr => exact (hno p m Hp.out Hck.out HXe.out).elim
  obtain ⟨hal, rfl, _⟩ := wire_split (r := []) (r' := []) hqi Hp.out hqc Hck.out (by rw [hqw, HXe.out])
  have HRi := Lib.hid hqi
  have HRo := Lib.hid hqi.ok
  have HRb := Lib.hid hqb
  have HRs := Lib.hid hqs
  have HRa := Lib.hid hal
  have HX7 := Lib.hid (HX6.out.below hb (Nat.le_refl _))
  have HS7 := Lib.hid hb.size
  clear hqi hqb hqs hqc hqw hal
  have HB13 := Lib.hid (nextB HB12.out (Nat.le_refl _) hb)
  have HK13 := Lib.hid (HK12.out.below hb HK12.out.lt)
  have HP13 := Lib.hid (HP12.out.below hb HP12.out.lt)
  have HQ13 := Lib.hid (HQ12.out.below hb HQ12.out.lt)
  have HT13 := Lib.hid (HT12.out.below hb HT12.out.1)
  clear hb
  go_wp2_with (first
   | (show wpList _ _ _ (⟨none, Op.store 40 _ _, _, _, _, _⟩ :: _) _ _
      refine wpList_storeRow (g := w3.heap.size) rfl 40 _ _ rfl rfl rfl (cs := q2.cells) HQ13.out (by kernel_rfl) (Pk.length HRo.out) HOl.out (Pk.one HRo.out) ?_
      refine wpList_name fun V hV => ?_
      refine sstop ?_)
   | fail)
  unfold SStop
  obtain ⟨W8, hV2⟩ : ∃ V2, V = V2 := ⟨V, rfl⟩
  rw [hV2] at hV ⊢
  clear hV2
  have hb : Below w3.heap.size w7 W8 := by rw [← hV]; exact below_setRow (Below.refl _ w7) (Nat.le_refl _) _
  have hg8 : w7.grownBy W8 (some w3.heap.size) := by rw [← hV]; exact keep_only (Pol.keep_setRow _)
  have HS8 := Lib.hid (show w7.heap.size ≤ W8.heap.size from hb.size)
  have HR8 := Lib.hid (show Row W8 w3.heap.size q2.cells 40 by rw [← hV]; exact HQ13.out.setRow _)
  have HX8 := Lib.hid (HX7.out.kept hg8 (own_ne HX7.out HQU.out.lt))
  have HRs8 := Lib.hid (HRs.out.grown hg8 (Nat.lt_of_lt_of_le HQU.out.lt HS6.out))
  clear hV hg8
  have HB14 := Lib.hid (HB13.out.trans (hb.mono HB3.out.size))
  have HK14 := Lib.hid (HK13.out.below hb HK3.out.lt)
  have HP14 := Lib.hid (HP13.out.below hb HP3.out.lt)
  have HT14 := Lib.hid (HT13.out.below hb HT3.out.1)
  clear hb
  have HXa := Lib.hid (HX8.out.alloc (.cells #[.int .u8 0] 5))
  have HZb := Lib.hid (bs_zero W8)
  have HSz := Lib.hid (show WU.heap.size ≤ (W8.alloc (.cells #[.int .u8 0] 5)).heap.size from Nat.le_trans (Nat.le_trans HS6.out (Nat.le_trans HS7.out HS8.out)) (by simp))
  have HLn := Lib.hid (show X.length + [(0 : UInt8)].length ≤ 140737488355327 by have := HXl.out; simp; omega)
  go_wp2_with (first
   | (at_builtin
      refine wpList_app_bytes _ rfl (.tmp 75) (.tmp 76) rfl rfl HXa.out rfl HZb.out HLn.out HSz.out ?_
      intro v9 w9 ho9 hg9 _
      have HO9 := Lib.hid ho9
      have HG9 := Lib.hid hg9
      clear ho9 hg9)
   | fail)
  have hb : Below WU.heap.size W8 w9 := ((Below.refl WU.heap.size W8).alloc (Nat.le_trans HS6.out (Nat.le_trans HS7.out HS8.out)) _).trans (below_grown HG9.out (fun g hg => (HXa.out.block_ge hg).1) HSz.out)
  have HRs9 := Lib.hid ((HRs8.out.below ((Below.refl _ W8).alloc (Nat.le_refl _) (.cells #[.int .u8 0] 5))).grownO HG9.out (own_lt HX6.out))
  have HB15 := Lib.hid (HB14.out.trans (hb.mono HBU.out.size))
  have HK15 := Lib.hid (HK14.out.below hb HKU.out.lt)
  have HP15 := Lib.hid (HP14.out.below hb HPU.out.lt)
  have HQ15 := Lib.hid (HR8.out.below hb HQU.out.lt)
  have HT15 := Lib.hid (HT14.out.below hb HTU.out.1)
  clear hb
  refine (Read_any v9 (X ++ [0]) w9 HO9.out.bs (by have := HXl.out; simp; omega)).mono ?_
  rintro e w10 ⟨hx, hb⟩
  rcases hx with ⟨q, n, Aq, cq, rfl, hqi, hqb, hqs, hqc, hqw, hqn⟩ | ⟨rfl, _⟩
  case inl => exact (wire_more Hp.out hqi Hck.out hqc 0 (by rw [hqw, HXe.out])).elim
  rw [HEe.out]
  have HRs10 := Lib.hid (HRs9.out.below hb)
  have HB16 := Lib.hid (nextB HB15.out (Nat.le_refl _) hb)
  have HK16 := Lib.hid (HK15.out.below hb HK15.out.lt)
  have HP16 := Lib.hid (HP15.out.below hb HP15.out.lt)
  have HQ16 := Lib.hid (HQ15.out.below hb HQ15.out.lt)
  have HT16 := Lib.hid (HT15.out.below hb HT15.out.1)
  clear hb
  go_wp2_with (first
   | (show wpList _ _ _ (⟨none, Op.store 40 _ _, _, _, _, _⟩ :: _) _ _
      refine wpList_storeRow (g := w10.heap.size) rfl 40 _ _ rfl rfl rfl (cs := E.cells) (Row.new rfl rfl : Row (w10.alloc (.cells (nm 0).cells.toArray 40)) w10.heap.size (nm 0).cells 40) (by kernel_rfl) (Pk.length HEo.out) (Pk.length (nm_ok 0)) (Pk.one HEo.out) ?_
      refine wpList_name fun V hV => ?_
      refine sstop ?_)
   | fail)
  unfold SStop
  obtain ⟨W17, hV2⟩ : ∃ V2, V = V2 := ⟨V, rfl⟩
  rw [hV2] at hV ⊢
  clear hV2
  have hb : Below w10.heap.size w10 W17 := by rw [← hV]; exact (below_setRow ((Below.refl _ w10).alloc (Nat.le_refl _) _) (by omega) _)
  have HE217 := Lib.hid (show Row W17 w10.heap.size E.cells 40 by rw [← hV]; exact ((Row.new rfl rfl : Row (w10.alloc (.cells (nm 0).cells.toArray 40)) w10.heap.size (nm 0).cells 40).setRow _))
  have HBs17 := Lib.hid hb
  have HB18 := Lib.hid (nextB HB16.out (Nat.le_refl _) hb)
  have HK18 := Lib.hid (HK16.out.below hb HK16.out.lt)
  have HP18 := Lib.hid (HP16.out.below hb HP16.out.lt)
  have HQ18 := Lib.hid (HQ16.out.below hb HQ16.out.lt)
  have HT18 := Lib.hid (HT16.out.below hb HT16.out.1)
  clear hV hb
  have HRs11 := Lib.hid (HRs10.out.below HBs17.out)
  have Hm11 := Lib.hid ((Hm.out.below HB18.out).more HB18.out.size)
  have HL19 := Lib.hid (l_all HP18.out HPo.out)
  have HL20 := Lib.hid (l_all HQ18.out HRo.out)
  go_wp2_with (first
   | (refine wpList_ld 40 rfl rfl HL19.out rfl ?_)
   | (refine wpList_ld 40 rfl rfl HL20.out rfl ?_)
   | fail)
  refine (KPacket_yes p q2 HPo.out HRo.out W17 m2 m2 Hm11.out HRs11.out.bs HRa.out.k.symm HRa.out.z.symm HRa.out.s.symm HRa.out.e.symm HRa.out.c.symm HRa.out.r.symm HRa.out.m.symm).mono ?_
  rintro e w12 ⟨rfl, hb⟩
  rw [decide_eq_true rfl]
  have HB21 := Lib.hid (nextB HB18.out (Nat.le_refl _) hb)
  have HK21 := Lib.hid (HK18.out.below hb HK18.out.lt)
  have HP21 := Lib.hid (HP18.out.below hb HP18.out.lt)
  have HQ21 := Lib.hid (HQ18.out.below hb HQ18.out.lt)
  have HE221 := Lib.hid (HE217.out.below hb HE217.out.lt)
  have HT21 := Lib.hid (HT18.out.below hb HT18.out.1)
  clear hb
  go_wp2_with fail
  have Hpl17 := Lib.hid ((Hpl.out.below HB21.out).more HB21.out.size)
  have hsz17 : w12.heap.size = w12.heap.size := rfl
  clear hsz17
  refine Tail.marksF Pol.mixed 15 13 106 Grew [By.is (arr8 sec),
   By.is (.int .i64 z),
   By.is (.pointer (some ⟨w.heap.size, 2, none⟩)),
   By.is (.int .u64 (p.ses : Int)),
   By.is (.pointer (some ⟨w.heap.size, 3, none⟩)),
   By.is (.int .u32 (p.epo : Int)),
   By.is (.pointer (some ⟨w.heap.size, 4, none⟩)),
   By.is (.int .u64 (p.cnt : Int)),
   By.is (.slice Ap pl.length cp),
   bsM pl,
   (sealM w12.heap.size p.ses p.epo p.cnt (pl.length + 16) (sealedL sec z p.ses p.epo p.cnt pl)),
   (sealM w12.heap.size p.ses p.epo p.cnt (pl.length + 16) (sealedL sec z p.ses p.epo p.cnt pl)),
   (dpM w12.heap.size p.ses p.epo p.cnt (pl.length + 16) (sealedL sec z p.ses p.epo p.cnt pl)),
   By.is (.int .i64 0),
   newM w12.heap.size]
   (Ev.masks _ []) (Nat.zero_lt_succ _) rfl (by kernel_rfl) (by kernel_rfl) rfl Grew.refl Grew.trans ⟨?_, ?_, ?_, ?_, ?_, ?_, ?_, ?_, ?_, ?_, ?_, ?_, ?_, ?_, ?_, trivial⟩ [_, _, _] (by rfl) ?_ ?_
  · intro a w ht hs hg
    have h7 := By.same_get hs 7 (by decide) (by kernel_rfl)
    refine By.yes rfl ?_
    clear hs hg
    have hr := l_k (Row.below (w := w12.drew) HK21.out ht HK21.out.lt) Hs.out
    refine wp_ld 24 _ rfl h7 hr ?_
    exact ⟨_, rfl, Grew.refl _, rfl⟩
  · intro a w ht hs hg
    have h3 := By.same_get hs 3 (by decide) (by kernel_rfl)
    refine By.yes rfl ?_
    clear hs hg
    go_simp
    exact ⟨_, rfl, Grew.refl _, rfl⟩
  · intro a w ht hs hg
    have h5 := By.same_get hs 5 (by decide) (by kernel_rfl)
    refine By.yes rfl ?_
    clear hs hg
    go_simp
    exact ⟨_, rfl, Grew.refl _, rfl⟩
  · intro a w ht hs hg
    have h96 : a.tmps.getD 96 undef = _ := By.given_get hg 2 rfl rfl (by kernel_rfl)
    refine By.yes rfl ?_
    clear hs hg
    have hc := c_ses (Row.below (w := w12.drew) HP21.out ht HP21.out.lt)
    clear ht
    go_simp
    exact ⟨_, rfl, Grew.refl _, rfl⟩
  · intro a w ht hs hg
    have h5 := By.same_get hs 5 (by decide) (by kernel_rfl)
    refine By.yes rfl ?_
    clear hs hg
    go_simp
    exact ⟨_, rfl, Grew.refl _, rfl⟩
  · intro a w ht hs hg
    have h98 : a.tmps.getD 98 undef = _ := By.given_get hg 4 rfl rfl (by kernel_rfl)
    refine By.yes rfl ?_
    clear hs hg
    have hc := c_epo (Row.below (w := w12.drew) HP21.out ht HP21.out.lt)
    clear ht
    go_simp
    exact ⟨_, rfl, Grew.refl _, rfl⟩
  · intro a w ht hs hg
    have h5 := By.same_get hs 5 (by decide) (by kernel_rfl)
    refine By.yes rfl ?_
    clear hs hg
    go_simp
    exact ⟨_, rfl, Grew.refl _, rfl⟩
  · intro a w ht hs hg
    have h100 : a.tmps.getD 100 undef = _ := By.given_get hg 6 rfl rfl (by kernel_rfl)
    refine By.yes rfl ?_
    clear hs hg
    have hc := c_cnt (Row.below (w := w12.drew) HP21.out ht HP21.out.lt)
    clear ht
    go_simp
    exact ⟨_, rfl, Grew.refl _, rfl⟩
  · intro a w ht hs hg
    have h4 := By.same_get hs 4 (by decide) (by kernel_rfl)
    refine By.yes rfl ?_
    clear hs hg
    go_simp
    exact ⟨_, rfl, Grew.refl _, rfl⟩
  · intro a w ht hs hg
    have h102 : a.tmps.getD 102 undef = _ := By.given_get hg 8 rfl rfl (by kernel_rfl)
    refine By.yes rfl ?_
    clear hs hg
    have hx := Lib.hid ((Bs.below (w := w12.drew) Hpl17.out ht).more ht.size)
    clear ht
    go_simp
    refine (Own_any _ pl w hx.out (by have := Hl3.out; omega)).mono ?_
    rintro e w' ⟨v, rfl, ho, hb⟩
    exact ⟨_, rfl, hb, ho.bs⟩
  · intro a w ht hs hg
    have h94 : a.tmps.getD 94 undef = _ := By.given_get hg 0 rfl rfl (by kernel_rfl)
    have h95 : a.tmps.getD 95 undef = _ := By.given_get hg 1 rfl rfl (by kernel_rfl)
    have h97 : a.tmps.getD 97 undef = _ := By.given_get hg 3 rfl rfl (by kernel_rfl)
    have h99 : a.tmps.getD 99 undef = _ := By.given_get hg 5 rfl rfl (by kernel_rfl)
    have h101 : a.tmps.getD 101 undef = _ := By.given_get hg 7 rfl rfl (by kernel_rfl)
    have h103 := By.given_get hg 9 rfl rfl (by kernel_rfl)
    refine By.yes rfl ?_
    obtain ⟨v103, hv103⟩ : ∃ v, a.tmps.getD 103 undef = v := ⟨_, rfl⟩
    replace h103 := (congrArg (fun v => (bsM pl).on v w) hv103).mp h103
    clear hs hg
    have HTw := Lib.hid (HT21.out.below (grew_below ht) HT21.out.1)
    have hW : w12.heap.size ≤ w.heap.size := (show w12.drew.heap.size ≤ w.heap.size from ht.size)
    obtain ⟨A3, c3, rfl, _, _⟩ := id h103
    have Hx := Lib.hid h103
    clear h103 ht
    unfold arr8 at h94
    go_simp
    refine (Seal_any sec pl Hs.out z p.ses p.epo p.cnt A3 c3 (by have := Hl3.out; omega) Hdo.out Hp.out.s Hp.out.e w HTw.out Hx.out).mono ?_
    rintro e w' ⟨⟨b, R, rfl, h1, h2⟩, hb⟩
    exact ⟨_, rfl, hb, b, R, rfl, Nat.le_trans hW h1, h2⟩
  · intro a w ht hs hg
    have h104 := By.given_get hg 10 rfl rfl (by kernel_rfl)
    refine By.yes rfl ?_
    obtain ⟨v104, hv104⟩ : ∃ v, a.tmps.getD 104 undef = v := ⟨_, rfl⟩
    replace h104 := (congrArg (fun v => ((sealM w12.heap.size p.ses p.epo p.cnt (pl.length + 16) (sealedL sec z p.ses p.epo p.cnt pl))).on v w) hv104).mp h104
    clear hs hg
    obtain ⟨b, R, rfl, h1, h2⟩ := h104
    have Hx := Lib.hid h2
    clear h2 ht
    go_simp
    exact ⟨_, rfl, Grew.refl _, b, R, rfl, h1, Hx.out⟩
  · intro a w ht hs hg
    have h93 := By.given_get hg 11 rfl rfl (by kernel_rfl)
    refine By.yes rfl ?_
    obtain ⟨v93, hv93⟩ : ∃ v, a.tmps.getD 93 undef = v := ⟨_, rfl⟩
    replace h93 := (congrArg (fun v => ((sealM w12.heap.size p.ses p.epo p.cnt (pl.length + 16) (sealedL sec z p.ses p.epo p.cnt pl))).on v w) hv93).mp h93
    clear hs hg
    obtain ⟨b, R, rfl, h1, h2⟩ := h93
    have Hx := Lib.hid h2
    clear h2 ht
    go_simp
    exact ⟨_, rfl, Grew.refl _, b, R, rfl, h1, Hx.out⟩
  · intro a w ht hs hg
    have h93 := By.given_get hg 11 rfl rfl (by kernel_rfl)
    refine By.yes rfl ?_
    obtain ⟨v93, hv93⟩ : ∃ v, a.tmps.getD 93 undef = v := ⟨_, rfl⟩
    replace h93 := (congrArg (fun v => ((sealM w12.heap.size p.ses p.epo p.cnt (pl.length + 16) (sealedL sec z p.ses p.epo p.cnt pl))).on v w) hv93).mp h93
    clear hs hg
    obtain ⟨b, R, rfl, h1, h2⟩ := h93
    clear h2 ht
    go_simp
    exact ⟨_, rfl, Grew.refl _, rfl⟩
  · intro a w ht hs hg
    refine By.yes rfl ?_
    clear hs hg
    have hBw : w12.heap.size ≤ w.heap.size := (show w12.drew.heap.size ≤ w.heap.size from ht.size)
    refine Oper.wp_mono ?_ (show Oper.wp Tryd.prog _ a w (fun a' w' => a' = a.put (some 18) (.pointer (some ⟨w.heap.size, 0, none⟩)) ∧ w' = w.alloc (.cells (nm 0).cells.toArray 40)) _ from by
     go_simp
     first | rfl | exact ⟨rfl, rfl⟩)
    rintro a' w' ⟨rfl, rfl⟩
    exact ⟨_, rfl, (Below.refl _ w).alloc (Nat.le_refl _) _, _, rfl, hBw, Row.new rfl rfl⟩
  all_goals
   refine By.ends_is (By.ends_is (By.ends_is (By.ends_is (By.ends_is (By.ends_is (By.ends_is (By.ends_is (By.ends_is (By.ends_skip fun v103 => (By.ends_skip fun v104 => (By.ends_any fun v93 => (By.ends_any fun v105 => (By.ends_is (By.ends_any fun v18 => (By.ends_nil fun w17 hw17 => ?_)))))))))))))))
   simp only [Act.put, List.setIfInBounds_toArray, List.set_cons_succ, List.set_cons_zero]
   try simp only [List.drop_succ_cons, List.drop_zero]
   obtain ⟨⟨⟨hgr, b8, R8, rfl, _, _⟩, b9, R9, rfl, hb9, hrow9⟩, g18, rfl, hg18, hr18⟩ := hw17
   obtain ⟨S, hS⟩ : ∃ S, dp p.ses p.epo p.cnt (.slice (some ⟨b9, 0, none⟩) (pl.length + 16) (pl.length + 16)) = S := ⟨_, rfl⟩
   have HSe := Lib.hid hS
   have HSi := Lib.hid (show S.In by rw [← hS]; exact ⟨dp_ok _ _ _ rfl, Hp.out.s, Hp.out.e, Hp.out.c⟩)
   have HSo := Lib.hid HSi.out.ok
   have HSb := Lib.hid (show S.bo = .slice (some ⟨b9, 0, none⟩) (pl.length + 16) (pl.length + 16) by rw [← hS]; rfl)
   have HSr := Lib.hid hrow9
   rw [hS]
   clear hS hrow9 hb9
   have hb := grew_below hgr
   have HN18 := Lib.hid hr18
   have HG18 := Lib.hid hg18
   clear hgr hr18 hg18
   have HB22 := Lib.hid (nextB HB21.out (Nat.le_refl _) hb)
   have HK22 := Lib.hid (HK21.out.below hb HK21.out.lt)
   have HP22 := Lib.hid (HP21.out.below hb HP21.out.lt)
   have HQ22 := Lib.hid (HQ21.out.below hb HQ21.out.lt)
   have HE222 := Lib.hid (HE221.out.below hb HE221.out.lt)
   have HT22 := Lib.hid (HT21.out.below hb HT21.out.1)
   clear hb
   go_wp2_with (first
    | (show wpList _ _ _ (⟨none, Op.store 40 _ _, _, _, _, _⟩ :: _) _ _
       refine wpList_storeRow (g := g18) rfl 40 _ _ rfl rfl rfl (cs := S.cells) HN18.out (by kernel_rfl) (Pk.length HSo.out) (Pk.length (nm_ok 0)) (Pk.one HSo.out) ?_
       refine wpList_name fun V hV => ?_
       refine sstop ?_)
    | fail)
   unfold SStop
   obtain ⟨W18, hV2⟩ : ∃ V2, V = V2 := ⟨V, rfl⟩
   rw [hV2] at hV ⊢
   clear hV2
   have hb : Below w12.heap.size w17 W18 := by rw [← hV]; exact below_setRow (Below.refl _ w17) HG18.out _
   have HS18 := Lib.hid (show Row W18 g18 S.cells 40 by rw [← hV]; exact HN18.out.setRow _)
   have HSr18 := Lib.hid (show Row W18 b9 ((sealedL sec z p.ses p.epo p.cnt pl).map bv ++ R9) 5 by
    rw [← hV]
    refine HSr.out.setOther _ _ (fun e => ?_)
    have h1 := HSr.out
    have h2 := HN18.out
    rw [e] at h1
    unfold Row at h1 h2
    rw [h1] at h2
    simp only [Option.some.injEq, Obj.cells.injEq] at h2
    exact absurd h2.2.1 (by decide))
   clear hV
   have HB23 := Lib.hid (HB22.out.trans (hb.mono HB21.out.size))
   have HK23 := Lib.hid (HK22.out.below hb HK21.out.lt)
   have HP23 := Lib.hid (HP22.out.below hb HP21.out.lt)
   have HQ23 := Lib.hid (HQ22.out.below hb HQ21.out.lt)
   have HE223 := Lib.hid (HE222.out.below hb HE221.out.lt)
   have HT23 := Lib.hid (HT22.out.below hb HT21.out.1)
   clear hb
   have ck := c_kind HP23.out
   rw [Hkd.out] at ck
   have HSs := Lib.hid (show Bs W18 W18.heap.size S.bo (sealedL sec z p.ses p.epo p.cnt pl) by rw [HSb.out]; exact bs_row HSr18.out (sealedL_length _ _ _ _ _ _))
   have HL24 := Lib.hid (l_k HK23.out Hs.out)
   have HL25 := Lib.hid (l_all HS18.out HSo.out)
   go_wp2_with (first
    | (refine wpList_ld 24 rfl rfl HL24.out rfl ?_)
    | (refine wpList_ld 40 rfl rfl HL25.out rfl ?_)
    | fail)
   refine (Open_any sec Hs.out z S HSi.out (some ⟨b9, 0, none⟩) (sealedL sec z p.ses p.epo p.cnt pl) (pl.length + 16) (by rw [HSb.out, sealedL_length]) W18 HT23.out HSs.out).mono ?_
   rintro e w19 ⟨hx, hb⟩
   rw [← HSe.out] at hx
   obtain ⟨v19, rfl, hv19⟩ := open_sealed hx Hdo.out (by have := Hl3.out; omega)
   have HY := Lib.hid hv19
   obtain ⟨A19, c19, rfl, _, _⟩ := id hv19
   clear hx hv19
   have HB26 := Lib.hid (nextB HB23.out (Nat.le_refl _) hb)
   have HK26 := Lib.hid (HK23.out.below hb HK23.out.lt)
   have HP26 := Lib.hid (HP23.out.below hb HP23.out.lt)
   have HQ26 := Lib.hid (HQ23.out.below hb HQ23.out.lt)
   have HE226 := Lib.hid (HE223.out.below hb HE223.out.lt)
   have HS26 := Lib.hid (HS18.out.below hb HS18.out.lt)
   have HT26 := Lib.hid (HT23.out.below hb HT23.out.1)
   clear hb
   go_wp2_with fail
   have Hpl19 := Lib.hid ((Hpl.out.below HB26.out).more HB26.out.size)
   have HSc := Lib.hid (show chk S (pl.length + 16) = 0 by rw [← HSe.out]; exact chk_dp Hdo.out _ _ (by omega) (by have := Hl3.out; omega))
   have HSal := Lib.hid (show alongL S = alongL p by rw [← HSe.out]; exact along_dp (chk_ok Hck.out).1 Hkd.out _)
   have HS1 := Lib.hid (show (S.ses : Int) = (p.ses : Int) by rw [← HSe.out]; rfl)
   have HS2 := Lib.hid (show (S.epo : Int) = (p.epo : Int) by rw [← HSe.out]; rfl)
   have HS3 := Lib.hid (show (S.cnt : Int) = (p.cnt : Int) by rw [← HSe.out]; rfl)
   refine By.marks Pol.mixed Grew [By.is (.int .i64 0),
    By.is (.bool true),
    By.is (.bool true),
    By.is (.int .i64 0),
    By.is (.bool true),
    By.is (.bool true),
    By.is (.bool true),
    By.is (.slice A19 pl.length c19),
    By.is (strOf pl),
    By.is (.slice Ap pl.length cp),
    By.is (strOf pl),
    By.is (.bool true),
    By.is (.bool true),
    By.is (.bool true),
    By.is (S.val),
    By.is (.int .i64 0),
    By.is (.bool true),
    By.is (.bool true),
    By.is (.bool true),
    By.is (.pointer (some ⟨g18, 2, none⟩)),
    By.is (.int .u64 (S.ses : Int)),
    By.is (.pointer (some ⟨w.heap.size, 2, none⟩)),
    By.is (.int .u64 (p.ses : Int)),
    By.is (.bool true),
    By.is (.bool true),
    By.is (.bool true),
    By.is (.pointer (some ⟨g18, 3, none⟩)),
    By.is (.int .u32 (S.epo : Int)),
    By.is (.pointer (some ⟨w.heap.size, 3, none⟩)),
    By.is (.int .u32 (p.epo : Int)),
    By.is (.bool true),
    By.is (.bool true),
    By.is (.bool true),
    By.is (.pointer (some ⟨g18, 4, none⟩)),
    By.is (.int .u64 (S.cnt : Int)),
    By.is (.pointer (some ⟨w.heap.size, 4, none⟩)),
    By.is (.int .u64 (p.cnt : Int)),
    By.is (.bool true),
    By.is (.bool true),
    By.is (.bool true),
    By.is (S.val),
    bsM (alongL p),
    By.is (strOf (alongL p)),
    By.is (p.val),
    bsM (alongL p),
    By.is (strOf (alongL p)),
    By.is (.bool true),
    By.is (.bool true),
    By.is (.bool true)]
    (Ev.masks _ []) (by kernel_rfl) rfl Grew.refl Grew.trans ⟨?_, ?_, ?_, ?_, ?_, ?_, ?_, ?_, ?_, ?_, ?_, ?_, ?_, ?_, ?_, ?_, ?_, ?_, ?_, ?_, ?_, ?_, ?_, ?_, ?_, ?_, ?_, ?_, ?_, ?_, ?_, ?_, ?_, ?_, ?_, ?_, ?_, ?_, ?_, ?_, ?_, ?_, ?_, ?_, ?_, ?_, ?_, ?_, ?_, trivial⟩ ?_
   · intro a w ht hs hg
     have h12 := By.same_get hs 12 (by decide) (by kernel_rfl)
     refine By.yes rfl ?_
     clear hs hg
     go_simp
     exact ⟨_, rfl, Grew.refl _, rfl⟩
   · intro a w ht hs hg
     have h117 : a.tmps.getD 117 undef = _ := By.given_get hg 0 rfl rfl (by kernel_rfl)
     refine By.yes rfl ?_
     clear hs hg
     clear ht
     go_simp
     first | exact ⟨_, rfl, Grew.refl _, rfl⟩ | exact ⟨_, rfl, Grew.refl _, congrArg Value.bool (by simp)⟩
   · intro a w ht hs hg
     have h118 : a.tmps.getD 118 undef = _ := By.given_get hg 1 rfl rfl (by kernel_rfl)
     refine By.yes rfl ?_
     clear hs hg
     go_simp
     exact ⟨_, rfl, Grew.refl _, rfl⟩
   · intro a w ht hs hg
     have h17 := By.same_get hs 17 (by decide) (by kernel_rfl)
     have hg119 := By.given_get hg 2 rfl rfl (by kernel_rfl)
     refine By.yes (By.want_yes rfl rfl hg119) ?_
     clear hg119
     clear hs hg
     go_simp
     exact ⟨_, rfl, Grew.refl _, rfl⟩
   · intro a w ht hs hg
     have h120 : a.tmps.getD 120 undef = _ := By.given_get hg 3 rfl rfl (by kernel_rfl)
     have hg119 := By.given_get hg 2 rfl rfl (by kernel_rfl)
     refine By.yes (By.want_yes rfl rfl hg119) ?_
     clear hg119
     clear hs hg
     clear ht
     go_simp
     first | exact ⟨_, rfl, Grew.refl _, rfl⟩ | exact ⟨_, rfl, Grew.refl _, congrArg Value.bool (by simp)⟩
   · intro a w ht hs hg
     have h119 : a.tmps.getD 119 undef = _ := By.given_get hg 2 rfl rfl (by kernel_rfl)
     have h121 : a.tmps.getD 121 undef = _ := By.given_get hg 4 rfl rfl (by kernel_rfl)
     refine By.yes rfl ?_
     clear hs hg
     go_simp
     exact ⟨_, rfl, Grew.refl _, rfl⟩
   · intro a w ht hs hg
     have h122 : a.tmps.getD 122 undef = _ := By.given_get hg 5 rfl rfl (by kernel_rfl)
     refine By.yes rfl ?_
     clear hs hg
     go_simp
     exact ⟨_, rfl, Grew.refl _, rfl⟩
   · intro a w ht hs hg
     have h19 := By.same_get hs 19 (by decide) (by kernel_rfl)
     have hg123 := By.given_get hg 6 rfl rfl (by kernel_rfl)
     refine By.yes (By.want_yes rfl rfl hg123) ?_
     clear hg123
     clear hs hg
     go_simp
     exact ⟨_, rfl, Grew.refl _, rfl⟩
   · intro a w ht hs hg
     have h124 : a.tmps.getD 124 undef = _ := By.given_get hg 7 rfl rfl (by kernel_rfl)
     have hg123 := By.given_get hg 6 rfl rfl (by kernel_rfl)
     refine By.yes (By.want_yes rfl rfl hg123) ?_
     clear hg123
     clear hs hg
     have hr := run_str w (Bs.below (w := w19.drew) HY.out ht)
     go_simp
     exact ⟨_, rfl, Grew.refl _, rfl⟩
   · intro a w ht hs hg
     have h4 := By.same_get hs 4 (by decide) (by kernel_rfl)
     have hg123 := By.given_get hg 6 rfl rfl (by kernel_rfl)
     refine By.yes (By.want_yes rfl rfl hg123) ?_
     clear hg123
     clear hs hg
     go_simp
     exact ⟨_, rfl, Grew.refl _, rfl⟩
   · intro a w ht hs hg
     have h126 : a.tmps.getD 126 undef = _ := By.given_get hg 9 rfl rfl (by kernel_rfl)
     have hg123 := By.given_get hg 6 rfl rfl (by kernel_rfl)
     refine By.yes (By.want_yes rfl rfl hg123) ?_
     clear hg123
     clear hs hg
     have hr := run_str w (Bs.below (w := w19.drew) Hpl19.out ht)
     go_simp
     exact ⟨_, rfl, Grew.refl _, rfl⟩
   · intro a w ht hs hg
     have h125 : a.tmps.getD 125 undef = _ := By.given_get hg 8 rfl rfl (by kernel_rfl)
     have h127 : a.tmps.getD 127 undef = _ := By.given_get hg 10 rfl rfl (by kernel_rfl)
     have hg123 := By.given_get hg 6 rfl rfl (by kernel_rfl)
     refine By.yes (By.want_yes rfl rfl hg123) ?_
     clear hg123
     clear hs hg
     clear ht
     have hsg : ∀ u v w, (eqGuard .eql 9 u v (strOf pl) (strOf pl)).run Tryd.prog w = .ok () w := fun u v w => strg2 _ _ u v w
     have hsv : ∀ w, (binOp .eql 9 (strOf pl) (strOf pl)).run Tryd.prog w = .ok (.bool true) w := fun w => (strv2 _ _ w).trans (by rw [decide_eq_true rfl])
     go_simp
     exact ⟨_, rfl, Grew.refl _, rfl⟩
   · intro a w ht hs hg
     have h123 : a.tmps.getD 123 undef = _ := By.given_get hg 6 rfl rfl (by kernel_rfl)
     have h128 : a.tmps.getD 128 undef = _ := By.given_get hg 11 rfl rfl (by kernel_rfl)
     refine By.yes rfl ?_
     clear hs hg
     go_simp
     exact ⟨_, rfl, Grew.refl _, rfl⟩
   · intro a w ht hs hg
     have h129 : a.tmps.getD 129 undef = _ := By.given_get hg 12 rfl rfl (by kernel_rfl)
     refine By.yes rfl ?_
     clear hs hg
     go_simp
     exact ⟨_, rfl, Grew.refl _, rfl⟩
   · intro a w ht hs hg
     have h18 := By.same_get hs 18 (by decide) (by kernel_rfl)
     have hg130 := By.given_get hg 13 rfl rfl (by kernel_rfl)
     refine By.yes (By.want_yes rfl rfl hg130) ?_
     clear hg130
     clear hs hg
     have hr := l_all (Row.below (w := w19.drew) HS26.out ht HS26.out.lt) HSo.out
     refine wp_ld 40 _ rfl h18 hr ?_
     exact ⟨_, rfl, Grew.refl _, rfl⟩
   · intro a w ht hs hg
     have h131 : a.tmps.getD 131 undef = _ := By.given_get hg 14 rfl rfl (by kernel_rfl)
     have hg130 := By.given_get hg 13 rfl rfl (by kernel_rfl)
     refine By.yes (By.want_yes rfl rfl hg130) ?_
     clear hg130
     clear hs hg
     clear ht
     unfold Pk.val at h131
     go_simp
     refine (Check_any S HSo.out (some ⟨b9, 0, none⟩) (pl.length + 16) (pl.length + 16) HSb.out w).mono ?_
     rintro x w8 ⟨rfl, hb8⟩
     exact ⟨_, rfl, hb8, congrArg (Value.int .i64) HSc.out⟩
   · intro a w ht hs hg
     have h132 : a.tmps.getD 132 undef = _ := By.given_get hg 15 rfl rfl (by kernel_rfl)
     have hg130 := By.given_get hg 13 rfl rfl (by kernel_rfl)
     refine By.yes (By.want_yes rfl rfl hg130) ?_
     clear hg130
     clear hs hg
     clear ht
     go_simp
     first | exact ⟨_, rfl, Grew.refl _, rfl⟩ | exact ⟨_, rfl, Grew.refl _, congrArg Value.bool (by simp)⟩
   · intro a w ht hs hg
     have h130 : a.tmps.getD 130 undef = _ := By.given_get hg 13 rfl rfl (by kernel_rfl)
     have h133 : a.tmps.getD 133 undef = _ := By.given_get hg 16 rfl rfl (by kernel_rfl)
     refine By.yes rfl ?_
     clear hs hg
     go_simp
     exact ⟨_, rfl, Grew.refl _, rfl⟩
   · intro a w ht hs hg
     have h134 : a.tmps.getD 134 undef = _ := By.given_get hg 17 rfl rfl (by kernel_rfl)
     refine By.yes rfl ?_
     clear hs hg
     go_simp
     exact ⟨_, rfl, Grew.refl _, rfl⟩
   · intro a w ht hs hg
     have h18 := By.same_get hs 18 (by decide) (by kernel_rfl)
     have hg135 := By.given_get hg 18 rfl rfl (by kernel_rfl)
     refine By.yes (By.want_yes rfl rfl hg135) ?_
     clear hg135
     clear hs hg
     go_simp
     exact ⟨_, rfl, Grew.refl _, rfl⟩
   · intro a w ht hs hg
     have h136 : a.tmps.getD 136 undef = _ := By.given_get hg 19 rfl rfl (by kernel_rfl)
     have hg135 := By.given_get hg 18 rfl rfl (by kernel_rfl)
     refine By.yes (By.want_yes rfl rfl hg135) ?_
     clear hg135
     clear hs hg
     have hc := c_ses (Row.below (w := w19.drew) HS26.out ht HS26.out.lt)
     clear ht
     go_simp
     exact ⟨_, rfl, Grew.refl _, rfl⟩
   · intro a w ht hs hg
     have h5 := By.same_get hs 5 (by decide) (by kernel_rfl)
     have hg135 := By.given_get hg 18 rfl rfl (by kernel_rfl)
     refine By.yes (By.want_yes rfl rfl hg135) ?_
     clear hg135
     clear hs hg
     go_simp
     exact ⟨_, rfl, Grew.refl _, rfl⟩
   · intro a w ht hs hg
     have h138 : a.tmps.getD 138 undef = _ := By.given_get hg 21 rfl rfl (by kernel_rfl)
     have hg135 := By.given_get hg 18 rfl rfl (by kernel_rfl)
     refine By.yes (By.want_yes rfl rfl hg135) ?_
     clear hg135
     clear hs hg
     have hc := c_ses (Row.below (w := w19.drew) HP26.out ht HP26.out.lt)
     clear ht
     go_simp
     exact ⟨_, rfl, Grew.refl _, rfl⟩
   · intro a w ht hs hg
     have h137 : a.tmps.getD 137 undef = _ := By.given_get hg 20 rfl rfl (by kernel_rfl)
     have h139 : a.tmps.getD 139 undef = _ := By.given_get hg 22 rfl rfl (by kernel_rfl)
     have hg135 := By.given_get hg 18 rfl rfl (by kernel_rfl)
     refine By.yes (By.want_yes rfl rfl hg135) ?_
     clear hg135
     clear hs hg
     clear ht
     rw [HS1.out] at h137
     go_simp
     first | exact ⟨_, rfl, Grew.refl _, rfl⟩ | exact ⟨_, rfl, Grew.refl _, congrArg Value.bool (by simp)⟩
   · intro a w ht hs hg
     have h135 : a.tmps.getD 135 undef = _ := By.given_get hg 18 rfl rfl (by kernel_rfl)
     have h140 : a.tmps.getD 140 undef = _ := By.given_get hg 23 rfl rfl (by kernel_rfl)
     refine By.yes rfl ?_
     clear hs hg
     go_simp
     exact ⟨_, rfl, Grew.refl _, rfl⟩
   · intro a w ht hs hg
     have h141 : a.tmps.getD 141 undef = _ := By.given_get hg 24 rfl rfl (by kernel_rfl)
     refine By.yes rfl ?_
     clear hs hg
     go_simp
     exact ⟨_, rfl, Grew.refl _, rfl⟩
   · intro a w ht hs hg
     have h18 := By.same_get hs 18 (by decide) (by kernel_rfl)
     have hg142 := By.given_get hg 25 rfl rfl (by kernel_rfl)
     refine By.yes (By.want_yes rfl rfl hg142) ?_
     clear hg142
     clear hs hg
     go_simp
     exact ⟨_, rfl, Grew.refl _, rfl⟩
   · intro a w ht hs hg
     have h143 : a.tmps.getD 143 undef = _ := By.given_get hg 26 rfl rfl (by kernel_rfl)
     have hg142 := By.given_get hg 25 rfl rfl (by kernel_rfl)
     refine By.yes (By.want_yes rfl rfl hg142) ?_
     clear hg142
     clear hs hg
     have hc := c_epo (Row.below (w := w19.drew) HS26.out ht HS26.out.lt)
     clear ht
     go_simp
     exact ⟨_, rfl, Grew.refl _, rfl⟩
   · intro a w ht hs hg
     have h5 := By.same_get hs 5 (by decide) (by kernel_rfl)
     have hg142 := By.given_get hg 25 rfl rfl (by kernel_rfl)
     refine By.yes (By.want_yes rfl rfl hg142) ?_
     clear hg142
     clear hs hg
     go_simp
     exact ⟨_, rfl, Grew.refl _, rfl⟩
   · intro a w ht hs hg
     have h145 : a.tmps.getD 145 undef = _ := By.given_get hg 28 rfl rfl (by kernel_rfl)
     have hg142 := By.given_get hg 25 rfl rfl (by kernel_rfl)
     refine By.yes (By.want_yes rfl rfl hg142) ?_
     clear hg142
     clear hs hg
     have hc := c_epo (Row.below (w := w19.drew) HP26.out ht HP26.out.lt)
     clear ht
     go_simp
     exact ⟨_, rfl, Grew.refl _, rfl⟩
   · intro a w ht hs hg
     have h144 : a.tmps.getD 144 undef = _ := By.given_get hg 27 rfl rfl (by kernel_rfl)
     have h146 : a.tmps.getD 146 undef = _ := By.given_get hg 29 rfl rfl (by kernel_rfl)
     have hg142 := By.given_get hg 25 rfl rfl (by kernel_rfl)
     refine By.yes (By.want_yes rfl rfl hg142) ?_
     clear hg142
     clear hs hg
     clear ht
     rw [HS2.out] at h144
     go_simp
     first | exact ⟨_, rfl, Grew.refl _, rfl⟩ | exact ⟨_, rfl, Grew.refl _, congrArg Value.bool (by simp)⟩
   · intro a w ht hs hg
     have h142 : a.tmps.getD 142 undef = _ := By.given_get hg 25 rfl rfl (by kernel_rfl)
     have h147 : a.tmps.getD 147 undef = _ := By.given_get hg 30 rfl rfl (by kernel_rfl)
     refine By.yes rfl ?_
     clear hs hg
     go_simp
     exact ⟨_, rfl, Grew.refl _, rfl⟩
   · intro a w ht hs hg
     have h148 : a.tmps.getD 148 undef = _ := By.given_get hg 31 rfl rfl (by kernel_rfl)
     refine By.yes rfl ?_
     clear hs hg
     go_simp
     exact ⟨_, rfl, Grew.refl _, rfl⟩
   · intro a w ht hs hg
     have h18 := By.same_get hs 18 (by decide) (by kernel_rfl)
     have hg149 := By.given_get hg 32 rfl rfl (by kernel_rfl)
     refine By.yes (By.want_yes rfl rfl hg149) ?_
     clear hg149
     clear hs hg
     go_simp
     exact ⟨_, rfl, Grew.refl _, rfl⟩
   · intro a w ht hs hg
     have h150 : a.tmps.getD 150 undef = _ := By.given_get hg 33 rfl rfl (by kernel_rfl)
     have hg149 := By.given_get hg 32 rfl rfl (by kernel_rfl)
     refine By.yes (By.want_yes rfl rfl hg149) ?_
     clear hg149
     clear hs hg
     have hc := c_cnt (Row.below (w := w19.drew) HS26.out ht HS26.out.lt)
     clear ht
     go_simp
     exact ⟨_, rfl, Grew.refl _, rfl⟩
   · intro a w ht hs hg
     have h5 := By.same_get hs 5 (by decide) (by kernel_rfl)
     have hg149 := By.given_get hg 32 rfl rfl (by kernel_rfl)
     refine By.yes (By.want_yes rfl rfl hg149) ?_
     clear hg149
     clear hs hg
     go_simp
     exact ⟨_, rfl, Grew.refl _, rfl⟩
   · intro a w ht hs hg
     have h152 : a.tmps.getD 152 undef = _ := By.given_get hg 35 rfl rfl (by kernel_rfl)
     have hg149 := By.given_get hg 32 rfl rfl (by kernel_rfl)
     refine By.yes (By.want_yes rfl rfl hg149) ?_
     clear hg149
     clear hs hg
     have hc := c_cnt (Row.below (w := w19.drew) HP26.out ht HP26.out.lt)
     clear ht
     go_simp
     exact ⟨_, rfl, Grew.refl _, rfl⟩
   · intro a w ht hs hg
     have h151 : a.tmps.getD 151 undef = _ := By.given_get hg 34 rfl rfl (by kernel_rfl)
     have h153 : a.tmps.getD 153 undef = _ := By.given_get hg 36 rfl rfl (by kernel_rfl)
     have hg149 := By.given_get hg 32 rfl rfl (by kernel_rfl)
     refine By.yes (By.want_yes rfl rfl hg149) ?_
     clear hg149
     clear hs hg
     clear ht
     rw [HS3.out] at h151
     go_simp
     first | exact ⟨_, rfl, Grew.refl _, rfl⟩ | exact ⟨_, rfl, Grew.refl _, congrArg Value.bool (by simp)⟩
   · intro a w ht hs hg
     have h149 : a.tmps.getD 149 undef = _ := By.given_get hg 32 rfl rfl (by kernel_rfl)
     have h154 : a.tmps.getD 154 undef = _ := By.given_get hg 37 rfl rfl (by kernel_rfl)
     refine By.yes rfl ?_
     clear hs hg
     go_simp
     exact ⟨_, rfl, Grew.refl _, rfl⟩
   · intro a w ht hs hg
     have h155 : a.tmps.getD 155 undef = _ := By.given_get hg 38 rfl rfl (by kernel_rfl)
     refine By.yes rfl ?_
     clear hs hg
     go_simp
     exact ⟨_, rfl, Grew.refl _, rfl⟩
   · intro a w ht hs hg
     have h18 := By.same_get hs 18 (by decide) (by kernel_rfl)
     have hg156 := By.given_get hg 39 rfl rfl (by kernel_rfl)
     refine By.yes (By.want_yes rfl rfl hg156) ?_
     clear hg156
     clear hs hg
     have hr := l_all (Row.below (w := w19.drew) HS26.out ht HS26.out.lt) HSo.out
     refine wp_ld 40 _ rfl h18 hr ?_
     exact ⟨_, rfl, Grew.refl _, rfl⟩
   · intro a w ht hs hg
     have h157 : a.tmps.getD 157 undef = _ := By.given_get hg 40 rfl rfl (by kernel_rfl)
     have hg156 := By.given_get hg 39 rfl rfl (by kernel_rfl)
     refine By.yes (By.want_yes rfl rfl hg156) ?_
     clear hg156
     clear hs hg
     clear ht
     unfold Pk.val at h157
     go_simp
     refine (Along_any S HSi.out w).mono ?_
     rintro x w8 ⟨v, rfl, ho, hb8⟩
     rw [HSal.out] at ho
     exact ⟨_, rfl, hb8, ho.bs⟩
   · intro a w ht hs hg
     have h158 := By.given_get hg 41 rfl rfl (by kernel_rfl)
     have hg156 := By.given_get hg 39 rfl rfl (by kernel_rfl)
     refine By.yes (By.want_yes rfl rfl hg156) ?_
     clear hg156
     obtain ⟨v158, hv158⟩ : ∃ v, a.tmps.getD 158 undef = v := ⟨_, rfl⟩
     replace h158 := (congrArg (fun v => (bsM (alongL p)).on v w) hv158).mp h158
     clear hs hg
     have hr := run_str w h158
     clear h158 ht
     go_simp
     exact ⟨_, rfl, Grew.refl _, rfl⟩
   · intro a w ht hs hg
     have h5 := By.same_get hs 5 (by decide) (by kernel_rfl)
     have hg156 := By.given_get hg 39 rfl rfl (by kernel_rfl)
     refine By.yes (By.want_yes rfl rfl hg156) ?_
     clear hg156
     clear hs hg
     have hr := l_all (Row.below (w := w19.drew) HP26.out ht HP26.out.lt) HPo.out
     refine wp_ld 40 _ rfl h5 hr ?_
     exact ⟨_, rfl, Grew.refl _, rfl⟩
   · intro a w ht hs hg
     have h160 : a.tmps.getD 160 undef = _ := By.given_get hg 43 rfl rfl (by kernel_rfl)
     have hg156 := By.given_get hg 39 rfl rfl (by kernel_rfl)
     refine By.yes (By.want_yes rfl rfl hg156) ?_
     clear hg156
     clear hs hg
     clear ht
     unfold Pk.val at h160
     go_simp
     refine (Along_any p Hp.out w).mono ?_
     rintro x w8 ⟨v, rfl, ho, hb8⟩
     exact ⟨_, rfl, hb8, ho.bs⟩
   · intro a w ht hs hg
     have h161 := By.given_get hg 44 rfl rfl (by kernel_rfl)
     have hg156 := By.given_get hg 39 rfl rfl (by kernel_rfl)
     refine By.yes (By.want_yes rfl rfl hg156) ?_
     clear hg156
     obtain ⟨v161, hv161⟩ : ∃ v, a.tmps.getD 161 undef = v := ⟨_, rfl⟩
     replace h161 := (congrArg (fun v => (bsM (alongL p)).on v w) hv161).mp h161
     clear hs hg
     have hr := run_str w h161
     clear h161 ht
     go_simp
     exact ⟨_, rfl, Grew.refl _, rfl⟩
   · intro a w ht hs hg
     have h159 : a.tmps.getD 159 undef = _ := By.given_get hg 42 rfl rfl (by kernel_rfl)
     have h162 : a.tmps.getD 162 undef = _ := By.given_get hg 45 rfl rfl (by kernel_rfl)
     have hg156 := By.given_get hg 39 rfl rfl (by kernel_rfl)
     refine By.yes (By.want_yes rfl rfl hg156) ?_
     clear hg156
     clear hs hg
     clear ht
     have hsg : ∀ u v w, (eqGuard .eql 9 u v (strOf (alongL p)) (strOf (alongL p))).run Tryd.prog w = .ok () w := fun u v w => strg2 _ _ u v w
     have hsv : ∀ w, (binOp .eql 9 (strOf (alongL p)) (strOf (alongL p))).run Tryd.prog w = .ok (.bool true) w := fun w => (strv2 _ _ w).trans (by rw [decide_eq_true rfl])
     go_simp
     exact ⟨_, rfl, Grew.refl _, rfl⟩
   · intro a w ht hs hg
     have h156 : a.tmps.getD 156 undef = _ := By.given_get hg 39 rfl rfl (by kernel_rfl)
     have h163 : a.tmps.getD 163 undef = _ := By.given_get hg 46 rfl rfl (by kernel_rfl)
     refine By.yes rfl ?_
     clear hs hg
     go_simp
     exact ⟨_, rfl, Grew.refl _, rfl⟩
   · intro a w ht hs hg
     have h164 : a.tmps.getD 164 undef = _ := By.given_get hg 47 rfl rfl (by kernel_rfl)
     refine By.yes rfl ?_
     clear hs hg
     go_simp
     exact ⟨_, rfl, Grew.refl _, rfl⟩
   refine By.ends_is (By.ends_is (By.ends_is (By.ends_is (By.ends_is (By.ends_is (By.ends_is (By.ends_is (By.ends_is (By.ends_is (By.ends_is (By.ends_is (By.ends_is (By.ends_is (By.ends_is (By.ends_is (By.ends_is (By.ends_is (By.ends_is (By.ends_is (By.ends_is (By.ends_is (By.ends_is (By.ends_is (By.ends_is (By.ends_is (By.ends_is (By.ends_is (By.ends_is (By.ends_is (By.ends_is (By.ends_is (By.ends_is (By.ends_is (By.ends_is (By.ends_is (By.ends_is (By.ends_is (By.ends_is (By.ends_is (By.ends_is (By.ends_skip fun v158 => (By.ends_is (By.ends_is (By.ends_skip fun v161 => (By.ends_is (By.ends_is (By.ends_is (By.ends_is (By.ends_nil fun w21 hw21 => ?_)))))))))))))))))))))))))))))))))))))))))))))))))
   simp only [Act.put, List.setIfInBounds_toArray, List.set_cons_succ, List.set_cons_zero]
   have hb := grew_below hw21
   have HB21 := Lib.hid (nextB HB26.out (Nat.le_refl _) hb)
   clear hb hw21
   go_wp2
   go_ret
   exact ⟨rfl, HB21.out⟩
end Go.Proofs.YtbdpnpabpcidkaaDoor.packetBack
