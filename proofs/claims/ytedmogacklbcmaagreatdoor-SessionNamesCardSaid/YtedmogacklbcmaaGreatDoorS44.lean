/- Texts that the proofs share: PktSame, PktHead, PktCheck. -/
import Derived.Test.YtedmogacklbcmaaGreatDoorS17
import Derived.Test.YtedmogacklbcmaaGreatDoorS19
import Derived.Test.YtedmogacklbcmaaGreatDoorS34
import Derived.Test.YtedmogacklbcmaaGreatDoorS37
import Derived.Test.YtedmogacklbcmaaGreatDoorShelf
namespace Go.Proofs.YtedmogacklbcmaaGreatDoor.Pkt
open Go.RowKit
def nums (l : List UInt8) : List Int := l.map fun u => (u.toNat : Int)
theorem bytes_nums (l : List UInt8) : Lib.bytesOf (nums l) = l := by
 unfold Lib.bytesOf nums
 rw [List.map_map]
 conv => rhs; rw [← List.map_id l]
 refine List.map_congr_left fun u _ => ?_
 simp
theorem str_nums (l : List UInt8) : Value.string (strOfNums (nums l)) = strOf l := by
 unfold strOf strOfNums
 rw [show (nums l).map (fun n => UInt8.ofNat n.toNat) = l from bytes_nums l]
theorem Equal_any (u v : Value) (x y : List UInt8) (w : World) {B B' : Nat} (hu : Bs w B u x) (hv : Bs w B' v y) : Calls Tryz.prog 67 #[u, v] w fun e w' => e = .returned (.bool (decide (x = y))) ∧ w = w' := by
 refine (Tryz.bytes_Equal u v (nums x) (nums y) w ((run_str w hu).trans (by rw [str_nums])) ((run_str w hv).trans (by rw [str_nums]))).mono ?_
 rintro e w' ⟨rfl, rfl⟩
 rw [bytes_nums, bytes_nums]
 refine ⟨congrArg (fun b => Ending.returned (.bool b)) ?_, rfl⟩
 by_cases h : x = y
 · rw [decide_eq_true h]; exact beq_iff_eq.2 h
 · rw [decide_eq_false h]; exact beq_eq_false_iff_ne.2 h
def Eqv (p q : Pk) (x y : List UInt8) : Prop := p.kind = q.kind ∧ p.peer = q.peer ∧ p.ses = q.ses ∧ p.epo = q.epo ∧ p.cnt = q.cnt ∧ p.rnd = q.rnd ∧ p.mrk = q.mrk ∧ x = y
instance (p q : Pk) (x y : List UInt8) : Decidable (Eqv p q x y) := by unfold Eqv; infer_instance
set_option maxRecDepth 100000 in
set_option maxHeartbeats 2000000 in
theorem Same_no0 (p q : Pk) (_hpo : p.Ok) (_hqo : q.Ok) (w : World) (hn : ¬ p.kind = q.kind) : Calls Tryz.prog 57 #[p.val, q.val] w fun e w' => e = .returned (.bool false) ∧ Below w.heap.size w w' := by
 have hR1 : Row ((w.alloc (.cells p.cells.toArray 40)).alloc (.cells q.cells.toArray 40)) w.heap.size p.cells 40 := (Row.new rfl rfl).alloc _
 have hR2 : Row ((w.alloc (.cells p.cells.toArray 40)).alloc (.cells q.cells.toArray 40)) (w.heap.size + 1) q.cells 40 := Row.new (by simp) rfl
 have hB : Below w.heap.size w ((w.alloc (.cells p.cells.toArray 40)).alloc (.cells q.cells.toArray 40)) := ((Below.refl _ w).alloc (Nat.le_refl _) _).alloc (by simp) _
 have HB := Lib.hid hB
 have pkind := c_kind hR1
 have qkind := c_kind hR2
 have en := hn
 clear hR1 hR2 hB _hpo _hqo
 unfold Pk.val
 go_enter Tryz.func57, Tryz.ntmps57
 go_wp2_with fail
 go_ret
 exact ⟨rfl, HB.out⟩
set_option maxRecDepth 100000 in
set_option maxHeartbeats 2000000 in
theorem Same_no1 (p q : Pk) (_hpo : p.Ok) (_hqo : q.Ok) (w : World) (h0 : p.kind = q.kind) (hn : ¬ p.peer = q.peer) : Calls Tryz.prog 57 #[p.val, q.val] w fun e w' => e = .returned (.bool false) ∧ Below w.heap.size w w' := by
 have hR1 : Row ((w.alloc (.cells p.cells.toArray 40)).alloc (.cells q.cells.toArray 40)) w.heap.size p.cells 40 := (Row.new rfl rfl).alloc _
 have hR2 : Row ((w.alloc (.cells p.cells.toArray 40)).alloc (.cells q.cells.toArray 40)) (w.heap.size + 1) q.cells 40 := Row.new (by simp) rfl
 have hB : Below w.heap.size w ((w.alloc (.cells p.cells.toArray 40)).alloc (.cells q.cells.toArray 40)) := ((Below.refl _ w).alloc (Nat.le_refl _) _).alloc (by simp) _
 have HB := Lib.hid hB
 have pkind := c_kind hR1
 have qkind := c_kind hR2
 have ppeer := c_peer hR1
 have qpeer := c_peer hR2
 have e0 := h0
 have en := hn
 clear hR1 hR2 hB _hpo _hqo
 unfold Pk.val
 go_enter Tryz.func57, Tryz.ntmps57
 go_wp2_with fail
 go_ret
 exact ⟨rfl, HB.out⟩
set_option maxRecDepth 100000 in
set_option maxHeartbeats 2000000 in
theorem Same_no2 (p q : Pk) (_hpo : p.Ok) (_hqo : q.Ok) (w : World) (h0 : p.kind = q.kind) (h1 : p.peer = q.peer) (hn : ¬ p.ses = q.ses) : Calls Tryz.prog 57 #[p.val, q.val] w fun e w' => e = .returned (.bool false) ∧ Below w.heap.size w w' := by
 have hR1 : Row ((w.alloc (.cells p.cells.toArray 40)).alloc (.cells q.cells.toArray 40)) w.heap.size p.cells 40 := (Row.new rfl rfl).alloc _
 have hR2 : Row ((w.alloc (.cells p.cells.toArray 40)).alloc (.cells q.cells.toArray 40)) (w.heap.size + 1) q.cells 40 := Row.new (by simp) rfl
 have hB : Below w.heap.size w ((w.alloc (.cells p.cells.toArray 40)).alloc (.cells q.cells.toArray 40)) := ((Below.refl _ w).alloc (Nat.le_refl _) _).alloc (by simp) _
 have HB := Lib.hid hB
 have pkind := c_kind hR1
 have qkind := c_kind hR2
 have ppeer := c_peer hR1
 have qpeer := c_peer hR2
 have pses := c_ses hR1
 have qses := c_ses hR2
 have e0 := h0
 have e1 := h1
 have en : ¬ (p.ses : Int) = (q.ses : Int) := by omega
 clear hR1 hR2 hB _hpo _hqo
 unfold Pk.val
 go_enter Tryz.func57, Tryz.ntmps57
 go_wp2_with fail
 go_ret
 exact ⟨rfl, HB.out⟩
set_option maxRecDepth 100000 in
set_option maxHeartbeats 2000000 in
theorem Same_no3 (p q : Pk) (_hpo : p.Ok) (_hqo : q.Ok) (w : World) (h0 : p.kind = q.kind) (h1 : p.peer = q.peer) (h2 : p.ses = q.ses) (hn : ¬ p.epo = q.epo) : Calls Tryz.prog 57 #[p.val, q.val] w fun e w' => e = .returned (.bool false) ∧ Below w.heap.size w w' := by
 have hR1 : Row ((w.alloc (.cells p.cells.toArray 40)).alloc (.cells q.cells.toArray 40)) w.heap.size p.cells 40 := (Row.new rfl rfl).alloc _
 have hR2 : Row ((w.alloc (.cells p.cells.toArray 40)).alloc (.cells q.cells.toArray 40)) (w.heap.size + 1) q.cells 40 := Row.new (by simp) rfl
 have hB : Below w.heap.size w ((w.alloc (.cells p.cells.toArray 40)).alloc (.cells q.cells.toArray 40)) := ((Below.refl _ w).alloc (Nat.le_refl _) _).alloc (by simp) _
 have HB := Lib.hid hB
 have pkind := c_kind hR1
 have qkind := c_kind hR2
 have ppeer := c_peer hR1
 have qpeer := c_peer hR2
 have pses := c_ses hR1
 have qses := c_ses hR2
 have pepo := c_epo hR1
 have qepo := c_epo hR2
 have e0 := h0
 have e1 := h1
 have e2 : (p.ses : Int) = (q.ses : Int) := by rw [h2]
 have en : ¬ (p.epo : Int) = (q.epo : Int) := by omega
 clear hR1 hR2 hB _hpo _hqo
 unfold Pk.val
 go_enter Tryz.func57, Tryz.ntmps57
 go_wp2_with fail
 go_ret
 exact ⟨rfl, HB.out⟩
set_option maxRecDepth 100000 in
set_option maxHeartbeats 2000000 in
theorem Same_no4 (p q : Pk) (_hpo : p.Ok) (_hqo : q.Ok) (w : World) (h0 : p.kind = q.kind) (h1 : p.peer = q.peer) (h2 : p.ses = q.ses) (h3 : p.epo = q.epo) (hn : ¬ p.cnt = q.cnt) : Calls Tryz.prog 57 #[p.val, q.val] w fun e w' => e = .returned (.bool false) ∧ Below w.heap.size w w' := by
 have hR1 : Row ((w.alloc (.cells p.cells.toArray 40)).alloc (.cells q.cells.toArray 40)) w.heap.size p.cells 40 := (Row.new rfl rfl).alloc _
 have hR2 : Row ((w.alloc (.cells p.cells.toArray 40)).alloc (.cells q.cells.toArray 40)) (w.heap.size + 1) q.cells 40 := Row.new (by simp) rfl
 have hB : Below w.heap.size w ((w.alloc (.cells p.cells.toArray 40)).alloc (.cells q.cells.toArray 40)) := ((Below.refl _ w).alloc (Nat.le_refl _) _).alloc (by simp) _
 have HB := Lib.hid hB
 have pkind := c_kind hR1
 have qkind := c_kind hR2
 have ppeer := c_peer hR1
 have qpeer := c_peer hR2
 have pses := c_ses hR1
 have qses := c_ses hR2
 have pepo := c_epo hR1
 have qepo := c_epo hR2
 have pcnt := c_cnt hR1
 have qcnt := c_cnt hR2
 have e0 := h0
 have e1 := h1
 have e2 : (p.ses : Int) = (q.ses : Int) := by rw [h2]
 have e3 : (p.epo : Int) = (q.epo : Int) := by rw [h3]
 have en : ¬ (p.cnt : Int) = (q.cnt : Int) := by omega
 clear hR1 hR2 hB _hpo _hqo
 unfold Pk.val
 go_enter Tryz.func57, Tryz.ntmps57
 go_wp2_with fail
 go_ret
 exact ⟨rfl, HB.out⟩
set_option maxRecDepth 100000 in
set_option maxHeartbeats 2000000 in
theorem Same_no5 (p q : Pk) (hpo : p.Ok) (hqo : q.Ok) (w : World) (h0 : p.kind = q.kind) (h1 : p.peer = q.peer) (h2 : p.ses = q.ses) (h3 : p.epo = q.epo) (h4 : p.cnt = q.cnt) (hn : ¬ p.rnd = q.rnd) : Calls Tryz.prog 57 #[p.val, q.val] w fun e w' => e = .returned (.bool false) ∧ Below w.heap.size w w' := by
 have hR1 : Row ((w.alloc (.cells p.cells.toArray 40)).alloc (.cells q.cells.toArray 40)) w.heap.size p.cells 40 := (Row.new rfl rfl).alloc _
 have hR2 : Row ((w.alloc (.cells p.cells.toArray 40)).alloc (.cells q.cells.toArray 40)) (w.heap.size + 1) q.cells 40 := Row.new (by simp) rfl
 have hB : Below w.heap.size w ((w.alloc (.cells p.cells.toArray 40)).alloc (.cells q.cells.toArray 40)) := ((Below.refl _ w).alloc (Nat.le_refl _) _).alloc (by simp) _
 have HB := Lib.hid hB
 have pkind := c_kind hR1
 have qkind := c_kind hR2
 have ppeer := c_peer hR1
 have qpeer := c_peer hR2
 have pses := c_ses hR1
 have qses := c_ses hR2
 have pepo := c_epo hR1
 have qepo := c_epo hR2
 have pcnt := c_cnt hR1
 have qcnt := c_cnt hR2
 have pr := Lib.hid (l_rnd hR1 hpo)
 have qr := Lib.hid (l_rnd hR2 hqo)
 have gr := eqg16 p.rnd q.rnd
 have er := eqv16 p.rnd q.rnd hpo.r hqo.r
 have e0 := h0
 have e1 := h1
 have e2 : (p.ses : Int) = (q.ses : Int) := by rw [h2]
 have e3 : (p.epo : Int) = (q.epo : Int) := by rw [h3]
 have e4 : (p.cnt : Int) = (q.cnt : Int) := by rw [h4]
 have en : decide (p.rnd = q.rnd) = false := decide_eq_false hn
 clear hR1 hR2 hB hpo hqo
 unfold Pk.val
 go_enter Tryz.func57, Tryz.ntmps57
 go_wp2_with (first
  | (refine wpList_ld 37 rfl rfl pr.out rfl ?_)
  | (refine wpList_ld 37 rfl rfl qr.out rfl ?_)
  | fail)
 go_ret
 exact ⟨rfl, HB.out⟩
set_option maxRecDepth 100000 in
set_option maxHeartbeats 2000000 in
theorem Same_no6 (p q : Pk) (hpo : p.Ok) (hqo : q.Ok) (w : World) (h0 : p.kind = q.kind) (h1 : p.peer = q.peer) (h2 : p.ses = q.ses) (h3 : p.epo = q.epo) (h4 : p.cnt = q.cnt) (h5 : p.rnd = q.rnd) (hn : ¬ p.mrk = q.mrk) : Calls Tryz.prog 57 #[p.val, q.val] w fun e w' => e = .returned (.bool false) ∧ Below w.heap.size w w' := by
 have hR1 : Row ((w.alloc (.cells p.cells.toArray 40)).alloc (.cells q.cells.toArray 40)) w.heap.size p.cells 40 := (Row.new rfl rfl).alloc _
 have hR2 : Row ((w.alloc (.cells p.cells.toArray 40)).alloc (.cells q.cells.toArray 40)) (w.heap.size + 1) q.cells 40 := Row.new (by simp) rfl
 have hB : Below w.heap.size w ((w.alloc (.cells p.cells.toArray 40)).alloc (.cells q.cells.toArray 40)) := ((Below.refl _ w).alloc (Nat.le_refl _) _).alloc (by simp) _
 have HB := Lib.hid hB
 have pkind := c_kind hR1
 have qkind := c_kind hR2
 have ppeer := c_peer hR1
 have qpeer := c_peer hR2
 have pses := c_ses hR1
 have qses := c_ses hR2
 have pepo := c_epo hR1
 have qepo := c_epo hR2
 have pcnt := c_cnt hR1
 have qcnt := c_cnt hR2
 have pr := Lib.hid (l_rnd hR1 hpo)
 have qr := Lib.hid (l_rnd hR2 hqo)
 have gr := eqg16 q.rnd q.rnd
 have er := fun w => (eqv16 q.rnd q.rnd hqo.r hqo.r w).trans (by rw [decide_eq_true rfl])
 have pm := Lib.hid (l_mrk hR1 hpo)
 have qm := Lib.hid (l_mrk hR2 hqo)
 have gm := eqg16 p.mrk q.mrk
 have em := eqv16 p.mrk q.mrk hpo.m hqo.m
 have e0 := h0
 have e1 := h1
 have e2 : (p.ses : Int) = (q.ses : Int) := by rw [h2]
 have e3 : (p.epo : Int) = (q.epo : Int) := by rw [h3]
 have e4 : (p.cnt : Int) = (q.cnt : Int) := by rw [h4]
 have en : decide (p.mrk = q.mrk) = false := decide_eq_false hn
 clear hR1 hR2 hB hpo hqo
 unfold Pk.val
 go_enter Tryz.func57, Tryz.ntmps57
 go_wp2_with (first
  | (refine wpList_ld 37 rfl rfl pr.out rfl ?_)
  | (refine wpList_ld 37 rfl rfl qr.out rfl ?_)
  | (refine wpList_ld 37 rfl rfl pm.out rfl ?_)
  | (refine wpList_ld 37 rfl rfl qm.out rfl ?_)
  | fail)
 go_ret
 exact ⟨rfl, HB.out⟩
set_option maxRecDepth 100000 in
set_option maxHeartbeats 2000000 in
theorem Same_yes (p q : Pk) (hpo : p.Ok) (hqo : q.Ok) (w : World) (x y : List UInt8) (hx : Bs w w.heap.size p.bo x) (hy : Bs w w.heap.size q.bo y) (h0 : p.kind = q.kind) (h1 : p.peer = q.peer) (h2 : p.ses = q.ses) (h3 : p.epo = q.epo) (h4 : p.cnt = q.cnt) (h5 : p.rnd = q.rnd) (h6 : p.mrk = q.mrk) : Calls Tryz.prog 57 #[p.val, q.val] w fun e w' => e = .returned (.bool (decide (x = y))) ∧ Below w.heap.size w w' := by
 have hR1 : Row ((w.alloc (.cells p.cells.toArray 40)).alloc (.cells q.cells.toArray 40)) w.heap.size p.cells 40 := (Row.new rfl rfl).alloc _
 have hR2 : Row ((w.alloc (.cells p.cells.toArray 40)).alloc (.cells q.cells.toArray 40)) (w.heap.size + 1) q.cells 40 := Row.new (by simp) rfl
 have hB : Below w.heap.size w ((w.alloc (.cells p.cells.toArray 40)).alloc (.cells q.cells.toArray 40)) := ((Below.refl _ w).alloc (Nat.le_refl _) _).alloc (by simp) _
 have HB := Lib.hid hB
 have HX := Lib.hid (hx.below hB)
 have HY := Lib.hid (hy.below hB)
 have pkind := c_kind hR1
 have qkind := c_kind hR2
 have ppeer := c_peer hR1
 have qpeer := c_peer hR2
 have pses := c_ses hR1
 have qses := c_ses hR2
 have pepo := c_epo hR1
 have qepo := c_epo hR2
 have pcnt := c_cnt hR1
 have qcnt := c_cnt hR2
 have pr := Lib.hid (l_rnd hR1 hpo)
 have qr := Lib.hid (l_rnd hR2 hqo)
 have gr := eqg16 q.rnd q.rnd
 have er := fun w => (eqv16 q.rnd q.rnd hqo.r hqo.r w).trans (by rw [decide_eq_true rfl])
 have pm := Lib.hid (l_mrk hR1 hpo)
 have qm := Lib.hid (l_mrk hR2 hqo)
 have gm := eqg16 q.mrk q.mrk
 have em := fun w => (eqv16 q.mrk q.mrk hqo.m hqo.m w).trans (by rw [decide_eq_true rfl])
 have pb := c_bo hR1 hpo
 have qb := c_bo hR2 hqo
 have e0 := h0
 have e1 := h1
 have e2 : (p.ses : Int) = (q.ses : Int) := by rw [h2]
 have e3 : (p.epo : Int) = (q.epo : Int) := by rw [h3]
 have e4 : (p.cnt : Int) = (q.cnt : Int) := by rw [h4]
 clear hR1 hR2 hB hpo hqo hx hy
 unfold Pk.val
 go_enter Tryz.func57, Tryz.ntmps57
 go_wp2_with (first
  | (refine wpList_ld 37 rfl rfl pr.out rfl ?_)
  | (refine wpList_ld 37 rfl rfl qr.out rfl ?_)
  | (refine wpList_ld 37 rfl rfl pm.out rfl ?_)
  | (refine wpList_ld 37 rfl rfl qm.out rfl ?_)
  | fail)
 refine (Equal_any _ _ x y _ HX.out HY.out).mono ?_
 rintro e w' ⟨rfl, rfl⟩
 go_wp2
 go_ret
 exact ⟨rfl, HB.out⟩
theorem Same_any (p q : Pk) (hpo : p.Ok) (hqo : q.Ok) (w : World) (x y : List UInt8) (hx : Bs w w.heap.size p.bo x) (hy : Bs w w.heap.size q.bo y) : Calls Tryz.prog 57 #[p.val, q.val] w fun e w' => e = .returned (.bool (decide (Eqv p q x y))) ∧ Below w.heap.size w w' := by
 by_cases h0 : p.kind = q.kind
 case neg =>
  refine (Same_no0 p q hpo hqo w h0).mono fun e w' h => ⟨h.1.trans ?_, h.2⟩
  rw [decide_eq_false (fun h : Eqv p q x y => h0 h.1)]
 by_cases h1 : p.peer = q.peer
 case neg =>
  refine (Same_no1 p q hpo hqo w h0 h1).mono fun e w' h => ⟨h.1.trans ?_, h.2⟩
  rw [decide_eq_false (fun h : Eqv p q x y => h1 h.2.1)]
 by_cases h2 : p.ses = q.ses
 case neg =>
  refine (Same_no2 p q hpo hqo w h0 h1 h2).mono fun e w' h => ⟨h.1.trans ?_, h.2⟩
  rw [decide_eq_false (fun h : Eqv p q x y => h2 h.2.2.1)]
 by_cases h3 : p.epo = q.epo
 case neg =>
  refine (Same_no3 p q hpo hqo w h0 h1 h2 h3).mono fun e w' h => ⟨h.1.trans ?_, h.2⟩
  rw [decide_eq_false (fun h : Eqv p q x y => h3 h.2.2.2.1)]
 by_cases h4 : p.cnt = q.cnt
 case neg =>
  refine (Same_no4 p q hpo hqo w h0 h1 h2 h3 h4).mono fun e w' h => ⟨h.1.trans ?_, h.2⟩
  rw [decide_eq_false (fun h : Eqv p q x y => h4 h.2.2.2.2.1)]
 by_cases h5 : p.rnd = q.rnd
 case neg =>
  refine (Same_no5 p q hpo hqo w h0 h1 h2 h3 h4 h5).mono fun e w' h => ⟨h.1.trans ?_, h.2⟩
  rw [decide_eq_false (fun h : Eqv p q x y => h5 h.2.2.2.2.2.1)]
 by_cases h6 : p.mrk = q.mrk
 case neg =>
  refine (Same_no6 p q hpo hqo w h0 h1 h2 h3 h4 h5 h6).mono fun e w' h => ⟨h.1.trans ?_, h.2⟩
  rw [decide_eq_false (fun h : Eqv p q x y => h6 h.2.2.2.2.2.2.1)]
 refine (Same_yes p q hpo hqo w x y hx hy h0 h1 h2 h3 h4 h5 h6).mono fun e w' h => ⟨h.1.trans ?_, h.2⟩
 refine congrArg (fun b => Ending.returned (.bool b)) (decide_eq_decide.2 ?_)
 exact ⟨fun h => ⟨h0, h1, h2, h3, h4, h5, h6, h⟩, fun h => h.2.2.2.2.2.2.2⟩
end Go.Proofs.YtedmogacklbcmaaGreatDoor.Pkt
namespace Go.Proofs.YtedmogacklbcmaaGreatDoor.Pkt
open Go.RowKit
def z16 : List UInt8 := List.replicate 16 0
def nm (k : Int) : Pk := ⟨k, 0, 0, 0, 0, z16, z16, .slice none 0 0⟩
theorem nm_ok (k : Int) : (nm k).Ok := ⟨rfl, rfl, rfl⟩
structure Pk.In (p : Pk) : Prop where
 ok : p.Ok
 s : p.ses < 18446744073709551616
 e : p.epo < 4294967296
 c : p.cnt < 18446744073709551616
def Stop (p : Prop) : Prop := p
theorem stop {p : Prop} (h : Stop p) : p := h
theorem sp_peer (p : Pk) (z : Int) : splice p.cells 1 [.int .i64 z] = { p with peer := z }.cells := rfl
theorem sp_ses (p : Pk) (z : Nat) : splice p.cells 2 [.int .u64 (z : Int)] = { p with ses := z }.cells := rfl
theorem sp_epo (p : Pk) (z : Nat) : splice p.cells 3 [.int .u32 (z : Int)] = { p with epo := z }.cells := rfl
theorem sp_rnd (p : Pk) (ho : p.Ok) (r : List UInt8) (hr : r.length = 16) : splice p.cells 5 (r.map bv) = { p with rnd := r }.cells := by
 unfold splice
 rw [List.length_map, hr]
 show _ :: _ :: _ :: _ :: _ :: (r.map bv ++ (p.rnd.map bv ++ (p.mrk.map bv ++ [p.bo])).drop 16) = _
 rw [List.drop_left' (by rw [List.length_map, ho.r])]
 rfl
theorem sp_mrk (p : Pk) (ho : p.Ok) (r : List UInt8) (hr : r.length = 16) : splice p.cells 21 (r.map bv) = { p with mrk := r }.cells := by
 unfold splice
 rw [List.length_map, hr]
 show _ :: _ :: _ :: _ :: _ :: ((p.rnd.map bv ++ (p.mrk.map bv ++ [p.bo])).take 16 ++ (r.map bv ++ (p.rnd.map bv ++ (p.mrk.map bv ++ [p.bo])).drop 32)) = _
 rw [List.take_left' (by rw [List.length_map, ho.r]), show 32 = (p.rnd.map bv).length + 16 by rw [List.length_map, ho.r], List.drop_length_add_append, List.drop_left' (by rw [List.length_map, ho.m])]
 rfl
def st1 (q : Pk) (s : Nat) : Pk := ⟨1, if 1 ≤ s then q.peer else 0, 0, 0, 0, if 2 ≤ s then q.rnd else z16, if 3 ≤ s then q.mrk else z16, .slice none 0 0⟩
def st2 (q : Pk) (s : Nat) : Pk := ⟨2, 0, if 1 ≤ s then q.ses else 0, if 2 ≤ s then q.epo else 0, 0, if 3 ≤ s then q.rnd else z16, if 4 ≤ s then q.mrk else z16, .slice none 0 0⟩
theorem ite_len {c : Prop} [Decidable c] {r : List UInt8} (hr : r.length = 16) : (if c then r else z16).length = 16 := by split <;> first | exact hr | rfl
theorem st1_ok (q : Pk) (hq : q.Ok) (s : Nat) : (st1 q s).Ok := ⟨ite_len hq.r, ite_len hq.m, rfl⟩
theorem st2_ok (q : Pk) (hq : q.Ok) (s : Nat) : (st2 q s).Ok := ⟨ite_len hq.r, ite_len hq.m, rfl⟩
theorem then_name {K : Act → World → Prop} {Q : Exit → Act → World → Prop} {x : Exit} {a : Act} {w : World} (h : ∀ W, w = W → Exit.then K Q x a W) : Exit.then K Q x a w := h w rfl
def Head (p : Pk) : Prop :=
 if p.kind = 1 then 1 ≤ p.peer ∧ p.peer ≤ 65536 ∧ p.ses = 0 ∧ p.epo = 0 ∧ p.cnt = 0
 else if p.kind = 2 then 1 ≤ p.ses ∧ 1 ≤ p.epo ∧ p.peer = 0 ∧ p.cnt = 0
 else if p.kind = 3 then 1 ≤ p.ses ∧ 1 ≤ p.epo ∧ 1 ≤ p.cnt ∧ p.cnt ≤ 1152921504606846976 ∧ p.peer = 0 ∧ p.rnd = z16 ∧ p.mrk = z16
 else if p.kind = 4 then 1 ≤ p.ses ∧ p.peer = 0 ∧ p.epo = 0 ∧ p.cnt = 0 ∧ p.rnd = z16 ∧ p.mrk = z16
 else False
instance (p : Pk) : Decidable (Head p) := by unfold Head; infer_instance
theorem head_world (q : Pk) (k : Int) (w W : World) (h : ((w.alloc (.cells q.cells.toArray 40)).alloc (.cells (nm 0).cells.toArray 40)).setRow (w.heap.size + 1) (nm k).cells.toArray = W) :
 Row W w.heap.size q.cells 40 ∧ Row W (w.heap.size + 1) (nm k).cells 40 ∧ Below w.heap.size w W := by
 subst h
 refine ⟨((Row.new (cs := q.cells) rfl rfl).alloc _).setOther _ _ (by omega), ?_, ?_⟩
 · exact (Row.new (cs := (nm 0).cells) (by simp) rfl).setRow (nm k).cells
 · exact below_setRow (((Below.refl _ w).alloc (Nat.le_refl _) _).alloc (by simp) _) (by omega) _
theorem Bs_nil (w : World) (B : Nat) : Bs w B (.slice none 0 0) [] := Bs.nil _ _ _ _
set_option maxRecDepth 100000 in
set_option maxHeartbeats 4000000 in
theorem isHead_x (p : Pk) (ho : p.Ok) (w : World) (k1 : ¬ p.kind = 1) (k2 : ¬ p.kind = 2) (k3 : ¬ p.kind = 3) (k4 : ¬ p.kind = 4) : Calls Tryz.prog 45 #[p.val] w fun e w' => e = .returned (.bool (decide (Head p))) ∧ Below w.heap.size w w' := by
 obtain ⟨q, hq⟩ : ∃ q : Pk, q = { p with bo := .slice none 0 0 } := ⟨_, rfl⟩
 have hqo : q.Ok := hq ▸ Pk.with_bo ho rfl
 have hr0 : Row (w.alloc (.cells p.cells.toArray 40)) w.heap.size p.cells 40 := Row.new rfl rfl
 have hv0 := c_bo hr0 ho
 have hfr := frozen_row hr0 37
 have hset : p.cells.set 37 (.slice none 0 0) = q.cells := by rw [hq, Pk.set_bo ho]
 have hk0 : (w.alloc (.cells q.cells.toArray 40)).cell? ⟨w.heap.size, 0, none⟩ = some (.int .i64 p.kind) := by
  have h2 := c_kind (p := q) (w := w.alloc (.cells q.cells.toArray 40)) (g := w.heap.size) (Row.new rfl rfl)
  rw [hq] at h2 ⊢
  exact h2
 have Ho := Lib.hid ho
 have Hq := Lib.hid hq
 have Hqo := Lib.hid hqo
 clear hr0 ho hq hqo
 unfold Pk.val
 go_enter Tryz.func45, Tryz.ntmps45
 go_wp2_with (first
  | (show wpList _ _ _ (⟨none, Op.store 40 _ _, _, _, _, _⟩ :: _) _ _
     refine wpList_storeRow (g := w.heap.size + 1) rfl 40 _ _ rfl rfl rfl (cs := (nm p.kind).cells) (old := (nm 0).cells) (Row.new (by simp) rfl) (by kernel_rfl) rfl rfl (Pk.one (nm_ok _)) ?_
     refine wpList_name fun W hW => ?_
     obtain ⟨hR1, hR2, hB⟩ := head_world q p.kind w W hW
     have HR1 := Lib.hid hR1
     have HR2 := Lib.hid hR2
     have HB := Lib.hid hB
     refine stop ?_)
  | fail)
 unfold Stop
 clear hv0 hfr hk0 hW hB hset
 have ck := c_kind hR1
 have hqk : q.kind = p.kind := by rw [Hq.out]
 rw [hqk] at ck
 clear hR1 hR2 hqk
 go_wp2_with fail
 go_ret
 exact ⟨by rw [decide_eq_false (fun h : Head p => by unfold Head at h; rw [if_neg k1, if_neg k2, if_neg k3, if_neg k4] at h; exact h)]; rfl, HB.out⟩
set_option maxRecDepth 100000 in
set_option maxHeartbeats 4000000 in
theorem isHead_1 (p : Pk) (ho : p.Ok) (w : World) (hk : p.kind = 1) : Calls Tryz.prog 45 #[p.val] w fun e w' => e = .returned (.bool (decide (Head p))) ∧ Below w.heap.size w w' := by
 obtain ⟨q, hq⟩ : ∃ q : Pk, q = { p with bo := .slice none 0 0 } := ⟨_, rfl⟩
 have hqo : q.Ok := hq ▸ Pk.with_bo ho rfl
 have hr0 : Row (w.alloc (.cells p.cells.toArray 40)) w.heap.size p.cells 40 := Row.new rfl rfl
 have hv0 := c_bo hr0 ho
 have hfr := frozen_row hr0 37
 have hset : p.cells.set 37 (.slice none 0 0) = q.cells := by rw [hq, Pk.set_bo ho]
 have hk0 : (w.alloc (.cells q.cells.toArray 40)).cell? ⟨w.heap.size, 0, none⟩ = some (.int .i64 1) := by
  have h2 := c_kind (p := q) (w := w.alloc (.cells q.cells.toArray 40)) (g := w.heap.size) (Row.new rfl rfl)
  rw [hq] at h2 ⊢
  exact h2.trans (congrArg (fun z => some (Value.int .i64 z)) hk)
 have Ho := Lib.hid ho
 have Hq := Lib.hid hq
 have Hqo := Lib.hid hqo
 clear hr0 ho hq hqo
 unfold Pk.val
 go_enter Tryz.func45, Tryz.ntmps45
 go_wp2_with (first
  | (show wpList _ _ _ (⟨none, Op.store 40 _ _, _, _, _, _⟩ :: _) _ _
     refine wpList_storeRow (g := w.heap.size + 1) rfl 40 _ _ rfl rfl rfl (cs := (nm 1).cells) (old := (nm 0).cells) (Row.new (by simp) rfl) (by kernel_rfl) rfl rfl (Pk.one (nm_ok _)) ?_
     refine wpList_name fun W hW => ?_
     obtain ⟨hR1, hR2, hB⟩ := head_world q 1 w W hW
     have HR1 := Lib.hid hR1
     have HR2 := Lib.hid hR2
     have HB := Lib.hid hB
     refine stop ?_)
  | fail)
 unfold Stop
 clear hv0 hfr hk0 hW hB hset
 have HH := Lib.hid (show decide (Head p) = decide (Head q) from decide_eq_decide.2 (by rw [Hq.out]; exact Iff.rfl))
 have Hqk := Lib.hid (show q.kind = 1 by rw [Hq.out]; exact hk)
 obtain ⟨N, hN⟩ : ∃ N : Pk, { nm 1 with peer := q.peer, rnd := q.rnd, mrk := q.mrk } = N := ⟨_, rfl⟩
 have hNo : N.Ok := hN ▸ ⟨Hqo.out.r, Hqo.out.m, rfl⟩
 have HN := Lib.hid hN
 have ck := c_kind hR1
 rw [Hqk.out] at ck
 clear hk
 have HR1 := Lib.hid hR1
 obtain ⟨gn, hgn⟩ : ∃ gn, w.heap.size + 1 = gn := ⟨_, rfl⟩
 rw [hgn] at hR2
 have HR2 := Lib.hid hR2
 have HGne := Lib.hid (show w.heap.size ≠ gn by omega)
 have HGle := Lib.hid (show w.heap.size ≤ gn by omega)
 clear hR1 hR2 hN
 go_wp2_with fail
 refine ByN.marks Pol.mixed (Stg.St gn (fun s => (st1 q s).cells) 40) [By.is (.pointer (some ⟨w.heap.size, 1, none⟩)),
  By.is (.int .i64 q.peer),
  By.is (.pointer (some ⟨w.heap.size, 5, none⟩)),
  By.is (arr8 q.rnd),
  By.is (.pointer (some ⟨w.heap.size, 21, none⟩)),
  By.is (arr8 q.mrk),
  By.is (.pointer (some ⟨gn, 1, none⟩)),
  Stg.stM gn (fun s => (st1 q s).cells) 40 1,
  By.is (.pointer (some ⟨gn, 5, none⟩)),
  Stg.stM gn (fun s => (st1 q s).cells) 40 2,
  By.is (.pointer (some ⟨gn, 21, none⟩)),
  Stg.stM gn (fun s => (st1 q s).cells) 40 3]
  (Ev.masks _ []) (by kernel_rfl) rfl Stg.St.refl Stg.St.trans ⟨?_, ?_, ?_, ?_, ?_, ?_, ?_, ?_, ?_, ?_, ?_, ?_, trivial⟩ ?_
 · intro a w9 ht hs hg
   have h1 := By.same_get hs 1 (by decide) (by kernel_rfl)
   refine By.yes rfl ?_
   clear hs hg
   go_simp
   exact ⟨_, rfl, Stg.St.refl _, rfl⟩
 · intro a w9 ht hs hg
   have h13 : a.tmps.getD 13 undef = _ := ByN.given_get hg 0 rfl rfl (by kernel_rfl)
   refine By.yes rfl ?_
   clear hs hg
   have hc := c_peer (ht.row (x := W.drew) HR1.out HGne.out)
   clear ht
   go_simp
   exact ⟨_, rfl, Stg.St.refl _, rfl⟩
 · intro a w9 ht hs hg
   have h1 := By.same_get hs 1 (by decide) (by kernel_rfl)
   refine By.yes rfl ?_
   clear hs hg
   go_simp
   exact ⟨_, rfl, Stg.St.refl _, rfl⟩
 · intro a w9 ht hs hg
   have h15 : a.tmps.getD 15 undef = _ := ByN.given_get hg 2 rfl rfl (by kernel_rfl)
   refine By.yes rfl ?_
   clear hs hg
   refine Pol.wp_loadSub (off := 5) (n := 16) 37 _ rfl h15 (ht.row (x := W.drew) HR1.out HGne.out) Tryz.underlying37 rfl (by kernel_rfl) (by rw [Pk.length Hqo.out]; omega) ?_
   exact ⟨_, rfl, Stg.St.refl _, by rw [Pk.rnd_at Hqo.out]; rfl⟩
 · intro a w9 ht hs hg
   have h1 := By.same_get hs 1 (by decide) (by kernel_rfl)
   refine By.yes rfl ?_
   clear hs hg
   go_simp
   exact ⟨_, rfl, Stg.St.refl _, rfl⟩
 · intro a w9 ht hs hg
   have h17 : a.tmps.getD 17 undef = _ := ByN.given_get hg 4 rfl rfl (by kernel_rfl)
   refine By.yes rfl ?_
   clear hs hg
   refine Pol.wp_loadSub (off := 21) (n := 16) 37 _ rfl h17 (ht.row (x := W.drew) HR1.out HGne.out) Tryz.underlying37 rfl (by kernel_rfl) (by rw [Pk.length Hqo.out]; omega) ?_
   exact ⟨_, rfl, Stg.St.refl _, by rw [Pk.mrk_at Hqo.out]; rfl⟩
 · intro a w9 ht hs hg
   have h3 := By.same_get hs 3 (by decide) (by kernel_rfl)
   refine By.yes rfl ?_
   clear hs hg
   go_simp
   exact ⟨_, rfl, Stg.St.refl _, rfl⟩
 · intro a w9 ht hs hg
   have h19 : a.tmps.getD 19 undef = _ := ByN.given_get hg 6 rfl rfl (by kernel_rfl)
   have h14 : a.tmps.getD 14 undef = _ := ByN.given_get hg 1 rfl rfl (by kernel_rfl)
   obtain ⟨s0, _, hrow⟩ := ht.up 0 (show Row W.drew gn (st1 q 0).cells 40 from HR2.out)
   have hst : ∃ s, 1 ≤ s + 1 ∧ Row w9 gn ((fun s => (st1 q s).cells) s) 40 := ⟨s0, by omega, hrow⟩
   refine By.yes rfl ?_
   clear hs hg
   exact Stg.wp_stage (cells := (fun s => (st1 q s).cells)) (n := 1) 1 3 _ _ rfl rfl [.int .i64 q.peer] h19 h14 rfl hst (by kernel_rfl) rfl (fun s => by show 1 + 1 ≤ (st1 q s).cells.length; rw [Pk.length (st1_ok q Hqo.out s)]; omega) (by intro v hv; simp at hv; subst hv; rfl) (fun s hs => (sp_peer (st1 q s) q.peer).trans (congrArg Pk.cells (by simp [st1, show 1 ≤ max s 1 by omega, show (2 ≤ max s 1) ↔ (2 ≤ s) by omega, show (3 ≤ max s 1) ↔ (3 ≤ s) by omega])))
 · intro a w9 ht hs hg
   have h3 := By.same_get hs 3 (by decide) (by kernel_rfl)
   refine By.yes rfl ?_
   clear hs hg
   go_simp
   exact ⟨_, rfl, Stg.St.refl _, rfl⟩
 · intro a w9 ht hs hg
   have h20 : a.tmps.getD 20 undef = _ := ByN.given_get hg 8 rfl rfl (by kernel_rfl)
   have h16 : a.tmps.getD 16 undef = _ := ByN.given_get hg 3 rfl rfl (by kernel_rfl)
   have hp := ByN.given_get hg 7 rfl rfl (by kernel_rfl)
   obtain ⟨s0, hs0, hrow⟩ := hp
   have hst : ∃ s, 2 ≤ s + 1 ∧ Row w9 gn ((fun s => (st1 q s).cells) s) 40 := ⟨s0, by omega, hrow⟩
   refine By.yes rfl ?_
   clear hs hg
   exact Stg.wp_stage (cells := (fun s => (st1 q s).cells)) (n := 16) 2 37 _ _ rfl rfl (q.rnd.map bv) h20 h16 rfl hst (by kernel_rfl) (by rw [List.length_map]; exact Hqo.out.r) (fun s => by show 5 + (q.rnd.map bv).length ≤ (st1 q s).cells.length; rw [Pk.length (st1_ok q Hqo.out s), List.length_map, Hqo.out.r]; omega) (by intro v hv; simp at hv; obtain ⟨u, _, rfl⟩ := hv; rfl) (fun s hs => (sp_rnd (st1 q s) (st1_ok q Hqo.out s) q.rnd Hqo.out.r).trans (congrArg Pk.cells (by simp [st1, show 1 ≤ s by omega, show 1 ≤ max s 2 by omega, show 2 ≤ max s 2 by omega, show (3 ≤ max s 2) ↔ (3 ≤ s) by omega])))
 · intro a w9 ht hs hg
   have h3 := By.same_get hs 3 (by decide) (by kernel_rfl)
   refine By.yes rfl ?_
   clear hs hg
   go_simp
   exact ⟨_, rfl, Stg.St.refl _, rfl⟩
 · intro a w9 ht hs hg
   have h21 : a.tmps.getD 21 undef = _ := ByN.given_get hg 10 rfl rfl (by kernel_rfl)
   have h18 : a.tmps.getD 18 undef = _ := ByN.given_get hg 5 rfl rfl (by kernel_rfl)
   have hp := ByN.given_get hg 9 rfl rfl (by kernel_rfl)
   obtain ⟨s0, hs0, hrow⟩ := hp
   have hst : ∃ s, 3 ≤ s + 1 ∧ Row w9 gn ((fun s => (st1 q s).cells) s) 40 := ⟨s0, by omega, hrow⟩
   refine By.yes rfl ?_
   clear hs hg
   exact Stg.wp_stage (cells := (fun s => (st1 q s).cells)) (n := 16) 3 37 _ _ rfl rfl (q.mrk.map bv) h21 h18 rfl hst (by kernel_rfl) (by rw [List.length_map]; exact Hqo.out.m) (fun s => by show 21 + (q.mrk.map bv).length ≤ (st1 q s).cells.length; rw [Pk.length (st1_ok q Hqo.out s), List.length_map, Hqo.out.m]; omega) (by intro v hv; simp at hv; obtain ⟨u, _, rfl⟩ := hv; rfl) (fun s hs => (sp_mrk (st1 q s) (st1_ok q Hqo.out s) q.mrk Hqo.out.m).trans (congrArg Pk.cells (by simp [st1, show 1 ≤ s by omega, show 2 ≤ s by omega, show 1 ≤ max s 3 by omega, show 2 ≤ max s 3 by omega, show 3 ≤ max s 3 by omega])))
 refine ByN.ends_is ?_
 refine ByN.ends_is ?_
 refine ByN.ends_is ?_
 refine ByN.ends_is ?_
 refine ByN.ends_is ?_
 refine ByN.ends_is ?_
 refine ByN.ends_is ?_
 refine ByN.ends_skip fun _ => ?_
 refine ByN.ends_is ?_
 refine ByN.ends_skip fun _ => ?_
 refine ByN.ends_is ?_
 refine ByN.ends_any fun _ => ?_
 refine ByN.ends_nil fun W9 hw9 => ?_
 obtain ⟨hw9, hl9⟩ := hw9
 obtain ⟨s9, hs9, hrow9⟩ := (show ∃ s, 3 ≤ s ∧ Row W9 gn (st1 q s).cells 40 from hl9)
 have HRn := Lib.hid (show Row W9 gn N.cells 40 by
  rw [show N = st1 q s9 by rw [← HN.out]; simp [st1, nm, show 1 ≤ s9 by omega, show 2 ≤ s9 by omega, show 3 ≤ s9 by omega]]
  exact hrow9)
 have HRq := Lib.hid (hw9.row (x := W.drew) HR1.out HGne.out)
 have HB9 := Lib.hid (HB.out.drew.trans (hw9.below (x := W.drew) (B := w.heap.size) HGle.out HB.out.size))
 clear hw9 hl9 hrow9 hs9
 simp only [Act.put, List.setIfInBounds_toArray, List.set_cons_succ, List.set_cons_zero]
 have dk := c_kind HRq.out
 have dp := c_peer HRq.out
 have ds := c_ses HRq.out
 have de := c_epo HRq.out
 have dc := c_cnt HRq.out
 rw [Hqk.out] at dk
 have Hl1 := Lib.hid (l_all HRq.out Hqo.out)
 have Hl2 := Lib.hid (l_all HRn.out hNo)
 have HNo := Lib.hid hNo
 clear hNo
 by_cases f0 : (1 : Int) ≤ q.peer
 case neg =>
  go_wp2_with fail
  go_ret
  exact ⟨by rw [HH.out, decide_eq_false (fun h : Head q => by unfold Head at h; rw [if_pos Hqk.out] at h; omega)]; rfl, HB9.out⟩
 by_cases f1 : q.peer ≤ (65536 : Int)
 case neg =>
  go_wp2_with fail
  go_ret
  exact ⟨by rw [HH.out, decide_eq_false (fun h : Head q => by unfold Head at h; rw [if_pos Hqk.out] at h; omega)]; rfl, HB9.out⟩
 have Hf := Lib.hid (show 1 ≤ q.peer ∧ q.peer ≤ 65536 by omega)
 go_wp2_with (first
  | (refine wpList_ld 40 rfl rfl Hl1.out rfl ?_)
  | (refine wpList_ld 40 rfl rfl Hl2.out rfl ?_)
  | fail)
 have hqb : q.bo = .slice none 0 0 := by rw [Hq.out]
 refine (Same_any q N Hqo.out HNo.out _ [] [] (by rw [hqb]; exact Bs_nil _ _) (by rw [← HN.out]; exact Bs_nil _ _)).mono ?_
 rintro e w9 ⟨rfl, hb9⟩
 have HB10 := Lib.hid (nextB HB9.out (Nat.le_refl _) hb9)
 clear hb9
 have hend : decide (Eqv q N [] []) = decide (Head p) := by
  rw [HH.out]
  refine decide_eq_decide.2 ?_
  unfold Eqv Head
  rw [if_pos Hqk.out, ← HN.out]
  have := Hf.out
  have := Hqk.out
  simp only [nm]
  constructor
  · intro h
    simp_all
  · intro h
    simp_all
 have Hend := Lib.hid hend
 clear hend hqb
 go_wp2_with fail
 go_ret
 exact ⟨by rw [← Hend.out]; rfl, HB10.out⟩
set_option maxRecDepth 100000 in
set_option maxHeartbeats 4000000 in
theorem isHead_2 (p : Pk) (ho : p.Ok) (w : World) (hk : p.kind = 2) : Calls Tryz.prog 45 #[p.val] w fun e w' => e = .returned (.bool (decide (Head p))) ∧ Below w.heap.size w w' := by
 obtain ⟨q, hq⟩ : ∃ q : Pk, q = { p with bo := .slice none 0 0 } := ⟨_, rfl⟩
 have hqo : q.Ok := hq ▸ Pk.with_bo ho rfl
 have hr0 : Row (w.alloc (.cells p.cells.toArray 40)) w.heap.size p.cells 40 := Row.new rfl rfl
 have hv0 := c_bo hr0 ho
 have hfr := frozen_row hr0 37
 have hset : p.cells.set 37 (.slice none 0 0) = q.cells := by rw [hq, Pk.set_bo ho]
 have hk0 : (w.alloc (.cells q.cells.toArray 40)).cell? ⟨w.heap.size, 0, none⟩ = some (.int .i64 2) := by
  have h2 := c_kind (p := q) (w := w.alloc (.cells q.cells.toArray 40)) (g := w.heap.size) (Row.new rfl rfl)
  rw [hq] at h2 ⊢
  exact h2.trans (congrArg (fun z => some (Value.int .i64 z)) hk)
 have Ho := Lib.hid ho
 have Hq := Lib.hid hq
 have Hqo := Lib.hid hqo
 clear hr0 ho hq hqo
 unfold Pk.val
 go_enter Tryz.func45, Tryz.ntmps45
 go_wp2_with (first
  | (show wpList _ _ _ (⟨none, Op.store 40 _ _, _, _, _, _⟩ :: _) _ _
     refine wpList_storeRow (g := w.heap.size + 1) rfl 40 _ _ rfl rfl rfl (cs := (nm 2).cells) (old := (nm 0).cells) (Row.new (by simp) rfl) (by kernel_rfl) rfl rfl (Pk.one (nm_ok _)) ?_
     refine wpList_name fun W hW => ?_
     obtain ⟨hR1, hR2, hB⟩ := head_world q 2 w W hW
     have HR1 := Lib.hid hR1
     have HR2 := Lib.hid hR2
     have HB := Lib.hid hB
     refine stop ?_)
  | fail)
 unfold Stop
 clear hv0 hfr hk0 hW hB hset
 have HH := Lib.hid (show decide (Head p) = decide (Head q) from decide_eq_decide.2 (by rw [Hq.out]; exact Iff.rfl))
 have Hqk := Lib.hid (show q.kind = 2 by rw [Hq.out]; exact hk)
 obtain ⟨N, hN⟩ : ∃ N : Pk, { nm 2 with ses := q.ses, epo := q.epo, rnd := q.rnd, mrk := q.mrk } = N := ⟨_, rfl⟩
 have hNo : N.Ok := hN ▸ ⟨Hqo.out.r, Hqo.out.m, rfl⟩
 have HN := Lib.hid hN
 have ck := c_kind hR1
 rw [Hqk.out] at ck
 clear hk
 have HR1 := Lib.hid hR1
 obtain ⟨gn, hgn⟩ : ∃ gn, w.heap.size + 1 = gn := ⟨_, rfl⟩
 rw [hgn] at hR2
 have HR2 := Lib.hid hR2
 have HGne := Lib.hid (show w.heap.size ≠ gn by omega)
 have HGle := Lib.hid (show w.heap.size ≤ gn by omega)
 clear hR1 hR2 hN
 go_wp2_with fail
 refine ByN.marks Pol.mixed (Stg.St gn (fun s => (st2 q s).cells) 40) [By.is (.pointer (some ⟨w.heap.size, 2, none⟩)),
  By.is (.int .u64 (q.ses : Int)),
  By.is (.pointer (some ⟨w.heap.size, 3, none⟩)),
  By.is (.int .u32 (q.epo : Int)),
  By.is (.pointer (some ⟨w.heap.size, 5, none⟩)),
  By.is (arr8 q.rnd),
  By.is (.pointer (some ⟨w.heap.size, 21, none⟩)),
  By.is (arr8 q.mrk),
  By.is (.pointer (some ⟨gn, 2, none⟩)),
  Stg.stM gn (fun s => (st2 q s).cells) 40 1,
  By.is (.pointer (some ⟨gn, 3, none⟩)),
  Stg.stM gn (fun s => (st2 q s).cells) 40 2,
  By.is (.pointer (some ⟨gn, 5, none⟩)),
  Stg.stM gn (fun s => (st2 q s).cells) 40 3,
  By.is (.pointer (some ⟨gn, 21, none⟩)),
  Stg.stM gn (fun s => (st2 q s).cells) 40 4]
  (Ev.masks _ []) (by kernel_rfl) rfl Stg.St.refl Stg.St.trans ⟨?_, ?_, ?_, ?_, ?_, ?_, ?_, ?_, ?_, ?_, ?_, ?_, ?_, ?_, ?_, ?_, trivial⟩ ?_
 · intro a w9 ht hs hg
   have h1 := By.same_get hs 1 (by decide) (by kernel_rfl)
   refine By.yes rfl ?_
   clear hs hg
   go_simp
   exact ⟨_, rfl, Stg.St.refl _, rfl⟩
 · intro a w9 ht hs hg
   have h32 : a.tmps.getD 32 undef = _ := ByN.given_get hg 0 rfl rfl (by kernel_rfl)
   refine By.yes rfl ?_
   clear hs hg
   have hc := c_ses (ht.row (x := W.drew) HR1.out HGne.out)
   clear ht
   go_simp
   exact ⟨_, rfl, Stg.St.refl _, rfl⟩
 · intro a w9 ht hs hg
   have h1 := By.same_get hs 1 (by decide) (by kernel_rfl)
   refine By.yes rfl ?_
   clear hs hg
   go_simp
   exact ⟨_, rfl, Stg.St.refl _, rfl⟩
 · intro a w9 ht hs hg
   have h34 : a.tmps.getD 34 undef = _ := ByN.given_get hg 2 rfl rfl (by kernel_rfl)
   refine By.yes rfl ?_
   clear hs hg
   have hc := c_epo (ht.row (x := W.drew) HR1.out HGne.out)
   clear ht
   go_simp
   exact ⟨_, rfl, Stg.St.refl _, rfl⟩
 · intro a w9 ht hs hg
   have h1 := By.same_get hs 1 (by decide) (by kernel_rfl)
   refine By.yes rfl ?_
   clear hs hg
   go_simp
   exact ⟨_, rfl, Stg.St.refl _, rfl⟩
 · intro a w9 ht hs hg
   have h36 : a.tmps.getD 36 undef = _ := ByN.given_get hg 4 rfl rfl (by kernel_rfl)
   refine By.yes rfl ?_
   clear hs hg
   refine Pol.wp_loadSub (off := 5) (n := 16) 37 _ rfl h36 (ht.row (x := W.drew) HR1.out HGne.out) Tryz.underlying37 rfl (by kernel_rfl) (by rw [Pk.length Hqo.out]; omega) ?_
   exact ⟨_, rfl, Stg.St.refl _, by rw [Pk.rnd_at Hqo.out]; rfl⟩
 · intro a w9 ht hs hg
   have h1 := By.same_get hs 1 (by decide) (by kernel_rfl)
   refine By.yes rfl ?_
   clear hs hg
   go_simp
   exact ⟨_, rfl, Stg.St.refl _, rfl⟩
 · intro a w9 ht hs hg
   have h38 : a.tmps.getD 38 undef = _ := ByN.given_get hg 6 rfl rfl (by kernel_rfl)
   refine By.yes rfl ?_
   clear hs hg
   refine Pol.wp_loadSub (off := 21) (n := 16) 37 _ rfl h38 (ht.row (x := W.drew) HR1.out HGne.out) Tryz.underlying37 rfl (by kernel_rfl) (by rw [Pk.length Hqo.out]; omega) ?_
   exact ⟨_, rfl, Stg.St.refl _, by rw [Pk.mrk_at Hqo.out]; rfl⟩
 · intro a w9 ht hs hg
   have h3 := By.same_get hs 3 (by decide) (by kernel_rfl)
   refine By.yes rfl ?_
   clear hs hg
   go_simp
   exact ⟨_, rfl, Stg.St.refl _, rfl⟩
 · intro a w9 ht hs hg
   have h40 : a.tmps.getD 40 undef = _ := ByN.given_get hg 8 rfl rfl (by kernel_rfl)
   have h33 : a.tmps.getD 33 undef = _ := ByN.given_get hg 1 rfl rfl (by kernel_rfl)
   obtain ⟨s0, _, hrow⟩ := ht.up 0 (show Row W.drew gn (st2 q 0).cells 40 from HR2.out)
   have hst : ∃ s, 1 ≤ s + 1 ∧ Row w9 gn ((fun s => (st2 q s).cells) s) 40 := ⟨s0, by omega, hrow⟩
   refine By.yes rfl ?_
   clear hs hg
   exact Stg.wp_stage (cells := (fun s => (st2 q s).cells)) (n := 1) 1 22 _ _ rfl rfl [.int .u64 (q.ses : Int)] h40 h33 rfl hst (by kernel_rfl) rfl (fun s => by show 2 + 1 ≤ (st2 q s).cells.length; rw [Pk.length (st2_ok q Hqo.out s)]; omega) (by intro v hv; simp at hv; subst hv; rfl) (fun s hs => (sp_ses (st2 q s) q.ses).trans (congrArg Pk.cells (by simp [st2, show 1 ≤ max s 1 by omega, show (2 ≤ max s 1) ↔ (2 ≤ s) by omega, show (3 ≤ max s 1) ↔ (3 ≤ s) by omega, show (4 ≤ max s 1) ↔ (4 ≤ s) by omega])))
 · intro a w9 ht hs hg
   have h3 := By.same_get hs 3 (by decide) (by kernel_rfl)
   refine By.yes rfl ?_
   clear hs hg
   go_simp
   exact ⟨_, rfl, Stg.St.refl _, rfl⟩
 · intro a w9 ht hs hg
   have h41 : a.tmps.getD 41 undef = _ := ByN.given_get hg 10 rfl rfl (by kernel_rfl)
   have h35 : a.tmps.getD 35 undef = _ := ByN.given_get hg 3 rfl rfl (by kernel_rfl)
   have hp := ByN.given_get hg 9 rfl rfl (by kernel_rfl)
   obtain ⟨s0, hs0, hrow⟩ := hp
   have hst : ∃ s, 2 ≤ s + 1 ∧ Row w9 gn ((fun s => (st2 q s).cells) s) 40 := ⟨s0, by omega, hrow⟩
   refine By.yes rfl ?_
   clear hs hg
   exact Stg.wp_stage (cells := (fun s => (st2 q s).cells)) (n := 1) 2 26 _ _ rfl rfl [.int .u32 (q.epo : Int)] h41 h35 rfl hst (by kernel_rfl) rfl (fun s => by show 3 + 1 ≤ (st2 q s).cells.length; rw [Pk.length (st2_ok q Hqo.out s)]; omega) (by intro v hv; simp at hv; subst hv; rfl) (fun s hs => (sp_epo (st2 q s) q.epo).trans (congrArg Pk.cells (by simp [st2, show 1 ≤ s by omega, show 1 ≤ max s 2 by omega, show 2 ≤ max s 2 by omega, show (3 ≤ max s 2) ↔ (3 ≤ s) by omega, show (4 ≤ max s 2) ↔ (4 ≤ s) by omega])))
 · intro a w9 ht hs hg
   have h3 := By.same_get hs 3 (by decide) (by kernel_rfl)
   refine By.yes rfl ?_
   clear hs hg
   go_simp
   exact ⟨_, rfl, Stg.St.refl _, rfl⟩
 · intro a w9 ht hs hg
   have h42 : a.tmps.getD 42 undef = _ := ByN.given_get hg 12 rfl rfl (by kernel_rfl)
   have h37 : a.tmps.getD 37 undef = _ := ByN.given_get hg 5 rfl rfl (by kernel_rfl)
   have hp := ByN.given_get hg 11 rfl rfl (by kernel_rfl)
   obtain ⟨s0, hs0, hrow⟩ := hp
   have hst : ∃ s, 3 ≤ s + 1 ∧ Row w9 gn ((fun s => (st2 q s).cells) s) 40 := ⟨s0, by omega, hrow⟩
   refine By.yes rfl ?_
   clear hs hg
   exact Stg.wp_stage (cells := (fun s => (st2 q s).cells)) (n := 16) 3 37 _ _ rfl rfl (q.rnd.map bv) h42 h37 rfl hst (by kernel_rfl) (by rw [List.length_map]; exact Hqo.out.r) (fun s => by show 5 + (q.rnd.map bv).length ≤ (st2 q s).cells.length; rw [Pk.length (st2_ok q Hqo.out s), List.length_map, Hqo.out.r]; omega) (by intro v hv; simp at hv; obtain ⟨u, _, rfl⟩ := hv; rfl) (fun s hs => (sp_rnd (st2 q s) (st2_ok q Hqo.out s) q.rnd Hqo.out.r).trans (congrArg Pk.cells (by simp [st2, show 1 ≤ s by omega, show 2 ≤ s by omega, show 1 ≤ max s 3 by omega, show 2 ≤ max s 3 by omega, show 3 ≤ max s 3 by omega, show (4 ≤ max s 3) ↔ (4 ≤ s) by omega])))
 · intro a w9 ht hs hg
   have h3 := By.same_get hs 3 (by decide) (by kernel_rfl)
   refine By.yes rfl ?_
   clear hs hg
   go_simp
   exact ⟨_, rfl, Stg.St.refl _, rfl⟩
 · intro a w9 ht hs hg
   have h43 : a.tmps.getD 43 undef = _ := ByN.given_get hg 14 rfl rfl (by kernel_rfl)
   have h39 : a.tmps.getD 39 undef = _ := ByN.given_get hg 7 rfl rfl (by kernel_rfl)
   have hp := ByN.given_get hg 13 rfl rfl (by kernel_rfl)
   obtain ⟨s0, hs0, hrow⟩ := hp
   have hst : ∃ s, 4 ≤ s + 1 ∧ Row w9 gn ((fun s => (st2 q s).cells) s) 40 := ⟨s0, by omega, hrow⟩
   refine By.yes rfl ?_
   clear hs hg
   exact Stg.wp_stage (cells := (fun s => (st2 q s).cells)) (n := 16) 4 37 _ _ rfl rfl (q.mrk.map bv) h43 h39 rfl hst (by kernel_rfl) (by rw [List.length_map]; exact Hqo.out.m) (fun s => by show 21 + (q.mrk.map bv).length ≤ (st2 q s).cells.length; rw [Pk.length (st2_ok q Hqo.out s), List.length_map, Hqo.out.m]; omega) (by intro v hv; simp at hv; obtain ⟨u, _, rfl⟩ := hv; rfl) (fun s hs => (sp_mrk (st2 q s) (st2_ok q Hqo.out s) q.mrk Hqo.out.m).trans (congrArg Pk.cells (by simp [st2, show 1 ≤ s by omega, show 2 ≤ s by omega, show 3 ≤ s by omega, show 1 ≤ max s 4 by omega, show 2 ≤ max s 4 by omega, show 3 ≤ max s 4 by omega, show 4 ≤ max s 4 by omega])))
 refine ByN.ends_is ?_
 refine ByN.ends_is ?_
 refine ByN.ends_is ?_
 refine ByN.ends_is ?_
 refine ByN.ends_is ?_
 refine ByN.ends_is ?_
 refine ByN.ends_is ?_
 refine ByN.ends_is ?_
 refine ByN.ends_is ?_
 refine ByN.ends_skip fun _ => ?_
 refine ByN.ends_is ?_
 refine ByN.ends_skip fun _ => ?_
 refine ByN.ends_is ?_
 refine ByN.ends_skip fun _ => ?_
 refine ByN.ends_is ?_
 refine ByN.ends_any fun _ => ?_
 refine ByN.ends_nil fun W9 hw9 => ?_
 obtain ⟨hw9, hl9⟩ := hw9
 obtain ⟨s9, hs9, hrow9⟩ := (show ∃ s, 4 ≤ s ∧ Row W9 gn (st2 q s).cells 40 from hl9)
 have HRn := Lib.hid (show Row W9 gn N.cells 40 by
  rw [show N = st2 q s9 by rw [← HN.out]; simp [st2, nm, show 1 ≤ s9 by omega, show 2 ≤ s9 by omega, show 3 ≤ s9 by omega, show 4 ≤ s9 by omega]]
  exact hrow9)
 have HRq := Lib.hid (hw9.row (x := W.drew) HR1.out HGne.out)
 have HB9 := Lib.hid (HB.out.drew.trans (hw9.below (x := W.drew) (B := w.heap.size) HGle.out HB.out.size))
 clear hw9 hl9 hrow9 hs9
 simp only [Act.put, List.setIfInBounds_toArray, List.set_cons_succ, List.set_cons_zero]
 have dk := c_kind HRq.out
 have dp := c_peer HRq.out
 have ds := c_ses HRq.out
 have de := c_epo HRq.out
 have dc := c_cnt HRq.out
 rw [Hqk.out] at dk
 have Hl1 := Lib.hid (l_all HRq.out Hqo.out)
 have Hl2 := Lib.hid (l_all HRn.out hNo)
 have HNo := Lib.hid hNo
 clear hNo
 by_cases f0 : (1 : Int) ≤ (q.ses : Int)
 case neg =>
  go_wp2_with fail
  go_ret
  exact ⟨by rw [HH.out, decide_eq_false (fun h : Head q => by unfold Head at h; rw [if_neg (show ¬ q.kind = 1 by rw [Hqk.out]; decide), if_pos Hqk.out] at h; omega)]; rfl, HB9.out⟩
 by_cases f1 : (1 : Int) ≤ (q.epo : Int)
 case neg =>
  go_wp2_with fail
  go_ret
  exact ⟨by rw [HH.out, decide_eq_false (fun h : Head q => by unfold Head at h; rw [if_neg (show ¬ q.kind = 1 by rw [Hqk.out]; decide), if_pos Hqk.out] at h; omega)]; rfl, HB9.out⟩
 have Hf := Lib.hid (show 1 ≤ q.ses ∧ 1 ≤ q.epo by omega)
 go_wp2_with (first
  | (refine wpList_ld 40 rfl rfl Hl1.out rfl ?_)
  | (refine wpList_ld 40 rfl rfl Hl2.out rfl ?_)
  | fail)
 have hqb : q.bo = .slice none 0 0 := by rw [Hq.out]
 refine (Same_any q N Hqo.out HNo.out _ [] [] (by rw [hqb]; exact Bs_nil _ _) (by rw [← HN.out]; exact Bs_nil _ _)).mono ?_
 rintro e w9 ⟨rfl, hb9⟩
 have HB10 := Lib.hid (nextB HB9.out (Nat.le_refl _) hb9)
 clear hb9
 have hend : decide (Eqv q N [] []) = decide (Head p) := by
  rw [HH.out]
  refine decide_eq_decide.2 ?_
  unfold Eqv Head
  rw [if_neg (show ¬ q.kind = 1 by rw [Hqk.out]; decide), if_pos Hqk.out, ← HN.out]
  have := Hf.out
  have := Hqk.out
  simp only [nm]
  constructor
  · intro h
    simp_all
  · intro h
    simp_all
 have Hend := Lib.hid hend
 clear hend hqb
 go_wp2_with fail
 go_ret
 exact ⟨by rw [← Hend.out]; rfl, HB10.out⟩
set_option maxRecDepth 100000 in
set_option maxHeartbeats 4000000 in
theorem isHead_3 (p : Pk) (ho : p.Ok) (w : World) (hk : p.kind = 3) : Calls Tryz.prog 45 #[p.val] w fun e w' => e = .returned (.bool (decide (Head p))) ∧ Below w.heap.size w w' := by
 obtain ⟨q, hq⟩ : ∃ q : Pk, q = { p with bo := .slice none 0 0 } := ⟨_, rfl⟩
 have hqo : q.Ok := hq ▸ Pk.with_bo ho rfl
 have hr0 : Row (w.alloc (.cells p.cells.toArray 40)) w.heap.size p.cells 40 := Row.new rfl rfl
 have hv0 := c_bo hr0 ho
 have hfr := frozen_row hr0 37
 have hset : p.cells.set 37 (.slice none 0 0) = q.cells := by rw [hq, Pk.set_bo ho]
 have hk0 : (w.alloc (.cells q.cells.toArray 40)).cell? ⟨w.heap.size, 0, none⟩ = some (.int .i64 3) := by
  have h2 := c_kind (p := q) (w := w.alloc (.cells q.cells.toArray 40)) (g := w.heap.size) (Row.new rfl rfl)
  rw [hq] at h2 ⊢
  exact h2.trans (congrArg (fun z => some (Value.int .i64 z)) hk)
 have Ho := Lib.hid ho
 have Hq := Lib.hid hq
 have Hqo := Lib.hid hqo
 clear hr0 ho hq hqo
 unfold Pk.val
 go_enter Tryz.func45, Tryz.ntmps45
 go_wp2_with (first
  | (show wpList _ _ _ (⟨none, Op.store 40 _ _, _, _, _, _⟩ :: _) _ _
     refine wpList_storeRow (g := w.heap.size + 1) rfl 40 _ _ rfl rfl rfl (cs := (nm 3).cells) (old := (nm 0).cells) (Row.new (by simp) rfl) (by kernel_rfl) rfl rfl (Pk.one (nm_ok _)) ?_
     refine wpList_name fun W hW => ?_
     obtain ⟨hR1, hR2, hB⟩ := head_world q 3 w W hW
     have HR1 := Lib.hid hR1
     have HR2 := Lib.hid hR2
     have HB := Lib.hid hB
     refine stop ?_)
  | fail)
 unfold Stop
 clear hv0 hfr hk0 hW hB hset
 have HH := Lib.hid (show decide (Head p) = decide (Head q) from decide_eq_decide.2 (by rw [Hq.out]; exact Iff.rfl))
 have Hqk := Lib.hid (show q.kind = 3 by rw [Hq.out]; exact hk)
 obtain ⟨N, hN⟩ : ∃ N : Pk, { nm 3 with ses := q.ses, epo := q.epo, cnt := q.cnt } = N := ⟨_, rfl⟩
 have hNo : N.Ok := hN ▸ ⟨rfl, rfl, rfl⟩
 have HN := Lib.hid hN
 have ck := c_kind hR1
 rw [Hqk.out] at ck
 clear hk
 have cs := c_ses hR1
 have ce := c_epo hR1
 have cc := c_cnt hR1
 obtain ⟨gn, hgn⟩ : ∃ gn, w.heap.size + 1 = gn := ⟨_, rfl⟩
 rw [hgn] at hR2
 have hne : w.heap.size ≠ gn := by omega
 have hle : w.heap.size ≤ gn := by omega
 have n2 := c_ses hR2
 have f2 := frozen_row hR2 2
 have r2 := hR2.set 2 (.int .u64 (q.ses : Int))
 have n3 : (W.setCell ⟨gn, 2, none⟩ (.int .u64 (q.ses : Int))).cell? ⟨gn, 3, none⟩ = _ := r2.cell rfl
 have f3 := frozen_row r2 3
 have r3 := r2.set 3 (.int .u32 (q.epo : Int))
 have n4 : ((W.setCell ⟨gn, 2, none⟩ (.int .u64 (q.ses : Int))).setCell ⟨gn, 3, none⟩ (.int .u32 (q.epo : Int))).cell? ⟨gn, 4, none⟩ = _ := r3.cell rfl
 have f4 := frozen_row r3 4
 have r4 := r3.set 4 (.int .u64 (q.cnt : Int))
 have HRn0 := Lib.hid (show Row (((W.setCell ⟨gn, 2, none⟩ (.int .u64 (q.ses : Int))).setCell ⟨gn, 3, none⟩ (.int .u32 (q.epo : Int))).setCell ⟨gn, 4, none⟩ (.int .u64 (q.cnt : Int))) gn N.cells 40 from hN ▸ r4)
 have HRq0 := Lib.hid (((hR1.other ⟨gn, 2, none⟩ (.int .u64 (q.ses : Int)) hne).other ⟨gn, 3, none⟩ (.int .u32 (q.epo : Int)) hne).other ⟨gn, 4, none⟩ (.int .u64 (q.cnt : Int)) hne)
 have HB0 := Lib.hid (((HB.out.setCell (p := ⟨gn, 2, none⟩) hle (.int .u64 (q.ses : Int))).setCell (p := ⟨gn, 3, none⟩) hle (.int .u32 (q.epo : Int))).setCell (p := ⟨gn, 4, none⟩) hle (.int .u64 (q.cnt : Int)))
 clear hR1 hR2 r2 r3 r4 hN hne hle
 go_wp2_with fail
 go_region
 refine then_name fun W9 hW9 => ?_
 have HRq := Lib.hid (show Row W9 w.heap.size q.cells 40 from hW9 ▸ HRq0.out)
 have HRn := Lib.hid (show Row W9 gn N.cells 40 from hW9 ▸ HRn0.out)
 have HB9 := Lib.hid (show Below w.heap.size w W9 from hW9 ▸ HB0.out.drew)
 clear HRq0 HRn0 HB0 hW9 cs ce cc n2 n3 n4 f2 f3 f4
 have dk := c_kind HRq.out
 have dp := c_peer HRq.out
 have ds := c_ses HRq.out
 have de := c_epo HRq.out
 have dc := c_cnt HRq.out
 rw [Hqk.out] at dk
 have Hl1 := Lib.hid (l_all HRq.out Hqo.out)
 have Hl2 := Lib.hid (l_all HRn.out hNo)
 have HNo := Lib.hid hNo
 clear hNo
 by_cases f0 : (1 : Int) ≤ (q.ses : Int)
 case neg =>
  go_wp2_with fail
  go_ret
  exact ⟨by rw [HH.out, decide_eq_false (fun h : Head q => by unfold Head at h; rw [if_neg (show ¬ q.kind = 1 by rw [Hqk.out]; decide), if_neg (show ¬ q.kind = 2 by rw [Hqk.out]; decide), if_pos Hqk.out] at h; omega)]; rfl, HB9.out⟩
 by_cases f1 : (1 : Int) ≤ (q.epo : Int)
 case neg =>
  go_wp2_with fail
  go_ret
  exact ⟨by rw [HH.out, decide_eq_false (fun h : Head q => by unfold Head at h; rw [if_neg (show ¬ q.kind = 1 by rw [Hqk.out]; decide), if_neg (show ¬ q.kind = 2 by rw [Hqk.out]; decide), if_pos Hqk.out] at h; omega)]; rfl, HB9.out⟩
 by_cases f2 : (1 : Int) ≤ (q.cnt : Int)
 case neg =>
  go_wp2_with fail
  go_ret
  exact ⟨by rw [HH.out, decide_eq_false (fun h : Head q => by unfold Head at h; rw [if_neg (show ¬ q.kind = 1 by rw [Hqk.out]; decide), if_neg (show ¬ q.kind = 2 by rw [Hqk.out]; decide), if_pos Hqk.out] at h; omega)]; rfl, HB9.out⟩
 by_cases f3 : (q.cnt : Int) ≤ (1152921504606846976 : Int)
 case neg =>
  go_wp2_with fail
  go_ret
  exact ⟨by rw [HH.out, decide_eq_false (fun h : Head q => by unfold Head at h; rw [if_neg (show ¬ q.kind = 1 by rw [Hqk.out]; decide), if_neg (show ¬ q.kind = 2 by rw [Hqk.out]; decide), if_pos Hqk.out] at h; omega)]; rfl, HB9.out⟩
 have Hf := Lib.hid (show 1 ≤ q.ses ∧ 1 ≤ q.epo ∧ 1 ≤ q.cnt ∧ q.cnt ≤ 1152921504606846976 by omega)
 go_wp2_with (first
  | (refine wpList_ld 40 rfl rfl Hl1.out rfl ?_)
  | (refine wpList_ld 40 rfl rfl Hl2.out rfl ?_)
  | fail)
 have hqb : q.bo = .slice none 0 0 := by rw [Hq.out]
 refine (Same_any q N Hqo.out HNo.out _ [] [] (by rw [hqb]; exact Bs_nil _ _) (by rw [← HN.out]; exact Bs_nil _ _)).mono ?_
 rintro e w9 ⟨rfl, hb9⟩
 have HB10 := Lib.hid (nextB HB9.out (Nat.le_refl _) hb9)
 clear hb9
 have hend : decide (Eqv q N [] []) = decide (Head p) := by
  rw [HH.out]
  refine decide_eq_decide.2 ?_
  unfold Eqv Head
  rw [if_neg (show ¬ q.kind = 1 by rw [Hqk.out]; decide), if_neg (show ¬ q.kind = 2 by rw [Hqk.out]; decide), if_pos Hqk.out, ← HN.out]
  have := Hf.out
  have := Hqk.out
  simp only [nm]
  constructor
  · intro h
    simp_all
  · intro h
    simp_all
 have Hend := Lib.hid hend
 clear hend hqb
 go_wp2_with fail
 go_ret
 exact ⟨by rw [← Hend.out]; rfl, HB10.out⟩
set_option maxRecDepth 100000 in
set_option maxHeartbeats 4000000 in
theorem isHead_4 (p : Pk) (ho : p.Ok) (w : World) (hk : p.kind = 4) : Calls Tryz.prog 45 #[p.val] w fun e w' => e = .returned (.bool (decide (Head p))) ∧ Below w.heap.size w w' := by
 obtain ⟨q, hq⟩ : ∃ q : Pk, q = { p with bo := .slice none 0 0 } := ⟨_, rfl⟩
 have hqo : q.Ok := hq ▸ Pk.with_bo ho rfl
 have hr0 : Row (w.alloc (.cells p.cells.toArray 40)) w.heap.size p.cells 40 := Row.new rfl rfl
 have hv0 := c_bo hr0 ho
 have hfr := frozen_row hr0 37
 have hset : p.cells.set 37 (.slice none 0 0) = q.cells := by rw [hq, Pk.set_bo ho]
 have hk0 : (w.alloc (.cells q.cells.toArray 40)).cell? ⟨w.heap.size, 0, none⟩ = some (.int .i64 4) := by
  have h2 := c_kind (p := q) (w := w.alloc (.cells q.cells.toArray 40)) (g := w.heap.size) (Row.new rfl rfl)
  rw [hq] at h2 ⊢
  exact h2.trans (congrArg (fun z => some (Value.int .i64 z)) hk)
 have Ho := Lib.hid ho
 have Hq := Lib.hid hq
 have Hqo := Lib.hid hqo
 clear hr0 ho hq hqo
 unfold Pk.val
 go_enter Tryz.func45, Tryz.ntmps45
 go_wp2_with (first
  | (show wpList _ _ _ (⟨none, Op.store 40 _ _, _, _, _, _⟩ :: _) _ _
     refine wpList_storeRow (g := w.heap.size + 1) rfl 40 _ _ rfl rfl rfl (cs := (nm 4).cells) (old := (nm 0).cells) (Row.new (by simp) rfl) (by kernel_rfl) rfl rfl (Pk.one (nm_ok _)) ?_
     refine wpList_name fun W hW => ?_
     obtain ⟨hR1, hR2, hB⟩ := head_world q 4 w W hW
     have HR1 := Lib.hid hR1
     have HR2 := Lib.hid hR2
     have HB := Lib.hid hB
     refine stop ?_)
  | fail)
 unfold Stop
 clear hv0 hfr hk0 hW hB hset
 have HH := Lib.hid (show decide (Head p) = decide (Head q) from decide_eq_decide.2 (by rw [Hq.out]; exact Iff.rfl))
 have Hqk := Lib.hid (show q.kind = 4 by rw [Hq.out]; exact hk)
 obtain ⟨N, hN⟩ : ∃ N : Pk, { nm 4 with ses := q.ses } = N := ⟨_, rfl⟩
 have hNo : N.Ok := hN ▸ ⟨rfl, rfl, rfl⟩
 have HN := Lib.hid hN
 have ck := c_kind hR1
 rw [Hqk.out] at ck
 clear hk
 have cs := c_ses hR1
 have ns := c_ses hR2
 have fr := frozen_row hR2 2
 have hrn := hR2.set 2 (.int .u64 (q.ses : Int))
 have HRn := Lib.hid (show Row (W.setCell ⟨w.heap.size + 1, 2, none⟩ (.int .u64 (q.ses : Int))) (w.heap.size + 1) N.cells 40 from hN ▸ hrn)
 have HRq := Lib.hid (hR1.other ⟨w.heap.size + 1, 2, none⟩ (.int .u64 (q.ses : Int)) (by dsimp only; omega))
 have HB9 := Lib.hid (HB.out.setCell (p := ⟨w.heap.size + 1, 2, none⟩) (show w.heap.size ≤ w.heap.size + 1 by omega) (.int .u64 (q.ses : Int)))
 clear hR1 hR2 hrn hN
 have dk := c_kind HRq.out
 have dp := c_peer HRq.out
 have ds := c_ses HRq.out
 have de := c_epo HRq.out
 have dc := c_cnt HRq.out
 rw [Hqk.out] at dk
 have Hl1 := Lib.hid (l_all HRq.out Hqo.out)
 have Hl2 := Lib.hid (l_all HRn.out hNo)
 have HNo := Lib.hid hNo
 clear hNo
 by_cases f0 : (1 : Int) ≤ (q.ses : Int)
 case neg =>
  go_wp2_with fail
  go_ret
  exact ⟨by rw [HH.out, decide_eq_false (fun h : Head q => by unfold Head at h; rw [if_neg (show ¬ q.kind = 1 by rw [Hqk.out]; decide), if_neg (show ¬ q.kind = 2 by rw [Hqk.out]; decide), if_neg (show ¬ q.kind = 3 by rw [Hqk.out]; decide), if_pos Hqk.out] at h; omega)]; rfl, HB9.out⟩
 have Hf := Lib.hid (show 1 ≤ q.ses by omega)
 go_wp2_with (first
  | (refine wpList_ld 40 rfl rfl Hl1.out rfl ?_)
  | (refine wpList_ld 40 rfl rfl Hl2.out rfl ?_)
  | fail)
 have hqb : q.bo = .slice none 0 0 := by rw [Hq.out]
 refine (Same_any q N Hqo.out HNo.out _ [] [] (by rw [hqb]; exact Bs_nil _ _) (by rw [← HN.out]; exact Bs_nil _ _)).mono ?_
 rintro e w9 ⟨rfl, hb9⟩
 have HB10 := Lib.hid (nextB HB9.out (Nat.le_refl _) hb9)
 clear hb9
 have hend : decide (Eqv q N [] []) = decide (Head p) := by
  rw [HH.out]
  refine decide_eq_decide.2 ?_
  unfold Eqv Head
  rw [if_neg (show ¬ q.kind = 1 by rw [Hqk.out]; decide), if_neg (show ¬ q.kind = 2 by rw [Hqk.out]; decide), if_neg (show ¬ q.kind = 3 by rw [Hqk.out]; decide), if_pos Hqk.out, ← HN.out]
  have := Hf.out
  have := Hqk.out
  simp only [nm]
  constructor
  · intro h
    simp_all
  · intro h
    simp_all
 have Hend := Lib.hid hend
 clear hend hqb
 go_wp2_with fail
 go_ret
 exact ⟨by rw [← Hend.out]; rfl, HB10.out⟩
theorem isHead_any (p : Pk) (ho : p.Ok) (w : World) : Calls Tryz.prog 45 #[p.val] w fun e w' => e = .returned (.bool (decide (Head p))) ∧ Below w.heap.size w w' := by
 by_cases k1 : p.kind = 1
 · exact isHead_1 p ho w k1
 by_cases k2 : p.kind = 2
 · exact isHead_2 p ho w k2
 by_cases k3 : p.kind = 3
 · exact isHead_3 p ho w k3
 by_cases k4 : p.kind = 4
 · exact isHead_4 p ho w k4
 exact isHead_x p ho w k1 k2 k3 k4
end Go.Proofs.YtedmogacklbcmaaGreatDoor.Pkt
namespace Go.Proofs.YtedmogacklbcmaaGreatDoor.Pkt
open Go.RowKit
def BodyOk (p : Pk) (n : Nat) : Prop := if p.kind = 3 then 16 ≤ n ∧ n ≤ 65552 else n = 0
instance (p : Pk) (n : Nat) : Decidable (BodyOk p n) := by unfold BodyOk; infer_instance
set_option maxRecDepth 100000 in
set_option maxHeartbeats 2000000 in
theorem isBody_other (p : Pk) (ho : p.Ok) (A : Option Addr) (n c : Nat) (hb : p.bo = .slice A n c) (hk : ¬ p.kind = 3) (w : World) : Calls Tryz.prog 63 #[p.val] w fun e w' => e = .returned (.bool (decide (BodyOk p n))) ∧ Below w.heap.size w w' := by
 have hr0 : Row (w.alloc (.cells p.cells.toArray 40)) w.heap.size p.cells 40 := Row.new rfl rfl
 have hB0 : Below w.heap.size w (w.alloc (.cells p.cells.toArray 40)) := (Below.refl _ w).alloc (Nat.le_refl _) _
 have HR0 := Lib.hid hr0
 have HB0 := Lib.hid hB0
 have Ho := Lib.hid ho
 have ck := c_kind hr0
 have cb := c_bo hr0 ho
 rw [hb] at cb
 have hn : ((n : Int) == 0) = decide (n = 0) := by rw [Bool.eq_iff_iff]; simp
 clear hr0 hB0 ho
 unfold Pk.val
 go_enter Tryz.func63, Tryz.ntmps63
 go_wp2
 go_ret
 refine ⟨?_, HB0.out⟩
 rw [show decide (BodyOk p n) = decide (n = 0) from decide_eq_decide.2 (by unfold BodyOk; rw [if_neg hk])]
 rfl
set_option maxRecDepth 100000 in
set_option maxHeartbeats 2000000 in
theorem isBody_short (p : Pk) (ho : p.Ok) (A : Option Addr) (n c : Nat) (hb : p.bo = .slice A n c) (hk : p.kind = 3) (hn : ¬ 16 ≤ n) (w : World) : Calls Tryz.prog 63 #[p.val] w fun e w' => e = .returned (.bool (decide (BodyOk p n))) ∧ Below w.heap.size w w' := by
 have hr0 : Row (w.alloc (.cells p.cells.toArray 40)) w.heap.size p.cells 40 := Row.new rfl rfl
 have hB0 : Below w.heap.size w (w.alloc (.cells p.cells.toArray 40)) := (Below.refl _ w).alloc (Nat.le_refl _) _
 have HR0 := Lib.hid hr0
 have HB0 := Lib.hid hB0
 have Ho := Lib.hid ho
 have ck := c_kind hr0
 rw [hk] at ck
 have Hk := Lib.hid hk
 have Hn := Lib.hid hn
 have Hb := Lib.hid hb
 clear hr0 hB0 ho hk hb
 unfold Pk.val
 go_enter Tryz.func63, Tryz.ntmps63
 go_wp2_with fail
 refine code_name fun W0 hW0 => ?_
 have HRW := Lib.hid (show Row W0 w.heap.size p.cells 40 from hW0 ▸ HR0.out)
 have HBW := Lib.hid (show Below w.heap.size w W0 from hW0 ▸ HB0.out)
 clear hW0 HR0 HB0 ck
 refine By.marks Pol.mixed Grew [By.is (.pointer (some ⟨w.heap.size, 37, none⟩)),
  By.is (.slice A n c),
  By.is (.int .i64 (n : Int)),
  By.is (.int .i64 16),
  By.is (.bool false),
  By.is (.bool false),
  By.is undef,
  By.is undef,
  By.is undef,
  By.is undef,
  By.is undef,
  By.is undef,
  By.is (.bool false),
  By.is (.bool false)]
  (Ev.masks _ []) (by kernel_rfl) rfl Grew.refl Grew.trans ⟨?_, ?_, ?_, ?_, ?_, ?_, ?_, ?_, ?_, ?_, ?_, ?_, ?_, ?_, trivial⟩ ?_
 · intro a w ht hs hg
   have h1 := By.same_get hs 1 (by decide) (by kernel_rfl)
   refine By.yes rfl ?_
   clear hs hg
   go_simp
   exact ⟨_, rfl, Grew.refl _, rfl⟩
 · intro a w ht hs hg
   have h10 : a.tmps.getD 10 undef = _ := By.given_get hg 0 rfl rfl (by kernel_rfl)
   refine By.yes rfl ?_
   clear hs hg
   have hcb := c_bo (Row.below (w := W0.drew) HRW.out ht HRW.out.lt) Ho.out
   rw [Hb.out] at hcb
   clear ht
   go_simp
   exact ⟨_, rfl, Grew.refl _, rfl⟩
 · intro a w ht hs hg
   have h11 : a.tmps.getD 11 undef = _ := By.given_get hg 1 rfl rfl (by kernel_rfl)
   refine By.yes rfl ?_
   clear hs hg
   go_simp
   exact ⟨_, rfl, Grew.refl _, rfl⟩
 · intro a w ht hs hg
   refine By.yes rfl ?_
   clear hs hg
   go_simp
   refine (Aead.Extra_any w).mono ?_
   rintro e w' ⟨rfl, hb⟩
   exact ⟨_, rfl, hb, rfl⟩
 · intro a w ht hs hg
   have h12 : a.tmps.getD 12 undef = _ := By.given_get hg 2 rfl rfl (by kernel_rfl)
   have h13 : a.tmps.getD 13 undef = _ := By.given_get hg 3 rfl rfl (by kernel_rfl)
   refine By.yes rfl ?_
   clear hs hg
   go_simp
   exact ⟨_, rfl, Grew.refl _, congrArg Value.bool (by simp; omega)⟩
 · intro a w ht hs hg
   have h14 : a.tmps.getD 14 undef = _ := By.given_get hg 4 rfl rfl (by kernel_rfl)
   refine By.yes rfl ?_
   clear hs hg
   go_simp
   exact ⟨_, rfl, Grew.refl _, rfl⟩
 · intro a w ht hs hg
   have hg15 := By.given_get hg 5 rfl rfl (by kernel_rfl)
   exact By.no (By.want_no rfl rfl hg15 (by decide)) rfl
 · intro a w ht hs hg
   have hg15 := By.given_get hg 5 rfl rfl (by kernel_rfl)
   exact By.no (By.want_no rfl rfl hg15 (by decide)) rfl
 · intro a w ht hs hg
   have hg15 := By.given_get hg 5 rfl rfl (by kernel_rfl)
   exact By.no (By.want_no rfl rfl hg15 (by decide)) rfl
 · intro a w ht hs hg
   have hg15 := By.given_get hg 5 rfl rfl (by kernel_rfl)
   exact By.no (By.want_no rfl rfl hg15 (by decide)) rfl
 · intro a w ht hs hg
   have hg15 := By.given_get hg 5 rfl rfl (by kernel_rfl)
   exact By.no (By.want_no rfl rfl hg15 (by decide)) rfl
 · intro a w ht hs hg
   have hg15 := By.given_get hg 5 rfl rfl (by kernel_rfl)
   exact By.no (By.want_no rfl rfl hg15 (by decide)) rfl
 · intro a w ht hs hg
   have h15 : a.tmps.getD 15 undef = _ := By.given_get hg 5 rfl rfl (by kernel_rfl)
   have h21 : a.tmps.getD 21 undef = _ := By.given_get hg 11 rfl rfl (by kernel_rfl)
   refine By.yes rfl ?_
   clear hs hg
   go_simp
   exact ⟨_, rfl, Grew.refl _, rfl⟩
 · intro a w ht hs hg
   have h22 : a.tmps.getD 22 undef = _ := By.given_get hg 12 rfl rfl (by kernel_rfl)
   refine By.yes rfl ?_
   clear hs hg
   go_simp
   exact ⟨_, rfl, Grew.refl _, rfl⟩
 refine By.ends_is (By.ends_is (By.ends_is (By.ends_is (By.ends_is (By.ends_is (By.ends_is (By.ends_is (By.ends_is (By.ends_is (By.ends_is (By.ends_is (By.ends_is (By.ends_is (By.ends_nil fun wz hz => ?_))))))))))))))
 simp only [Act.put, List.setIfInBounds_toArray, List.set_cons_succ, List.set_cons_zero]
 have hz' : Below W0.heap.size W0 wz := ⟨hz.os, hz.tape, hz.output, hz.size, hz.block⟩
 go_wp2
 go_ret
 refine ⟨?_, nextB HBW.out (Nat.le_refl _) hz'⟩
 rw [decide_eq_false (fun h : BodyOk p n => by unfold BodyOk at h; rw [if_pos Hk.out] at h; exact Hn.out h.1)]
 rfl
set_option maxRecDepth 100000 in
set_option maxHeartbeats 2000000 in
theorem isBody_long (p : Pk) (ho : p.Ok) (A : Option Addr) (n c : Nat) (hb : p.bo = .slice A n c) (hk : p.kind = 3) (hn : 16 ≤ n) (w : World) : Calls Tryz.prog 63 #[p.val] w fun e w' => e = .returned (.bool (decide (BodyOk p n))) ∧ Below w.heap.size w w' := by
 have hr0 : Row (w.alloc (.cells p.cells.toArray 40)) w.heap.size p.cells 40 := Row.new rfl rfl
 have hB0 : Below w.heap.size w (w.alloc (.cells p.cells.toArray 40)) := (Below.refl _ w).alloc (Nat.le_refl _) _
 have HR0 := Lib.hid hr0
 have HB0 := Lib.hid hB0
 have Ho := Lib.hid ho
 have ck := c_kind hr0
 rw [hk] at ck
 have Hk := Lib.hid hk
 have Hn := Lib.hid hn
 have Hb := Lib.hid hb
 clear hr0 hB0 ho hk hb
 unfold Pk.val
 go_enter Tryz.func63, Tryz.ntmps63
 go_wp2_with fail
 refine code_name fun W0 hW0 => ?_
 have HRW := Lib.hid (show Row W0 w.heap.size p.cells 40 from hW0 ▸ HR0.out)
 have HBW := Lib.hid (show Below w.heap.size w W0 from hW0 ▸ HB0.out)
 clear hW0 HR0 HB0 ck
 refine By.marks Pol.mixed Grew [By.is (.pointer (some ⟨w.heap.size, 37, none⟩)),
  By.is (.slice A n c),
  By.is (.int .i64 (n : Int)),
  By.is (.int .i64 16),
  By.is (.bool true),
  By.is (.bool true),
  By.is (.pointer (some ⟨w.heap.size, 37, none⟩)),
  By.is (.slice A n c),
  By.is (.int .i64 (n : Int)),
  By.is (.int .i64 16),
  By.is (.int .i64 65552),
  By.is (.bool (decide (n ≤ 65552))),
  By.is (.bool (decide (n ≤ 65552))),
  By.is (.bool (decide (n ≤ 65552)))]
  (Ev.masks _ []) (by kernel_rfl) rfl Grew.refl Grew.trans ⟨?_, ?_, ?_, ?_, ?_, ?_, ?_, ?_, ?_, ?_, ?_, ?_, ?_, ?_, trivial⟩ ?_
 · intro a w ht hs hg
   have h1 := By.same_get hs 1 (by decide) (by kernel_rfl)
   refine By.yes rfl ?_
   clear hs hg
   go_simp
   exact ⟨_, rfl, Grew.refl _, rfl⟩
 · intro a w ht hs hg
   have h10 : a.tmps.getD 10 undef = _ := By.given_get hg 0 rfl rfl (by kernel_rfl)
   refine By.yes rfl ?_
   clear hs hg
   have hcb := c_bo (Row.below (w := W0.drew) HRW.out ht HRW.out.lt) Ho.out
   rw [Hb.out] at hcb
   clear ht
   go_simp
   exact ⟨_, rfl, Grew.refl _, rfl⟩
 · intro a w ht hs hg
   have h11 : a.tmps.getD 11 undef = _ := By.given_get hg 1 rfl rfl (by kernel_rfl)
   refine By.yes rfl ?_
   clear hs hg
   go_simp
   exact ⟨_, rfl, Grew.refl _, rfl⟩
 · intro a w ht hs hg
   refine By.yes rfl ?_
   clear hs hg
   go_simp
   refine (Aead.Extra_any w).mono ?_
   rintro e w' ⟨rfl, hb⟩
   exact ⟨_, rfl, hb, rfl⟩
 · intro a w ht hs hg
   have h12 : a.tmps.getD 12 undef = _ := By.given_get hg 2 rfl rfl (by kernel_rfl)
   have h13 : a.tmps.getD 13 undef = _ := By.given_get hg 3 rfl rfl (by kernel_rfl)
   refine By.yes rfl ?_
   clear hs hg
   go_simp
   exact ⟨_, rfl, Grew.refl _, congrArg Value.bool (by simp; omega)⟩
 · intro a w ht hs hg
   have h14 : a.tmps.getD 14 undef = _ := By.given_get hg 4 rfl rfl (by kernel_rfl)
   refine By.yes rfl ?_
   clear hs hg
   go_simp
   exact ⟨_, rfl, Grew.refl _, rfl⟩
 · intro a w ht hs hg
   have h1 := By.same_get hs 1 (by decide) (by kernel_rfl)
   have hg15 := By.given_get hg 5 rfl rfl (by kernel_rfl)
   refine By.yes (By.want_yes rfl rfl hg15) ?_
   clear hg15
   clear hs hg
   go_simp
   exact ⟨_, rfl, Grew.refl _, rfl⟩
 · intro a w ht hs hg
   have h16 : a.tmps.getD 16 undef = _ := By.given_get hg 6 rfl rfl (by kernel_rfl)
   have hg15 := By.given_get hg 5 rfl rfl (by kernel_rfl)
   refine By.yes (By.want_yes rfl rfl hg15) ?_
   clear hg15
   clear hs hg
   have hcb := c_bo (Row.below (w := W0.drew) HRW.out ht HRW.out.lt) Ho.out
   rw [Hb.out] at hcb
   clear ht
   go_simp
   exact ⟨_, rfl, Grew.refl _, rfl⟩
 · intro a w ht hs hg
   have h17 : a.tmps.getD 17 undef = _ := By.given_get hg 7 rfl rfl (by kernel_rfl)
   have hg15 := By.given_get hg 5 rfl rfl (by kernel_rfl)
   refine By.yes (By.want_yes rfl rfl hg15) ?_
   clear hg15
   clear hs hg
   go_simp
   exact ⟨_, rfl, Grew.refl _, rfl⟩
 · intro a w ht hs hg
   have hg15 := By.given_get hg 5 rfl rfl (by kernel_rfl)
   refine By.yes (By.want_yes rfl rfl hg15) ?_
   clear hg15
   clear hs hg
   go_simp
   refine (Aead.Extra_any w).mono ?_
   rintro e w' ⟨rfl, hb⟩
   exact ⟨_, rfl, hb, rfl⟩
 · intro a w ht hs hg
   have h19 : a.tmps.getD 19 undef = _ := By.given_get hg 9 rfl rfl (by kernel_rfl)
   have hg15 := By.given_get hg 5 rfl rfl (by kernel_rfl)
   refine By.yes (By.want_yes rfl rfl hg15) ?_
   clear hg15
   clear hs hg
   go_simp
   exact ⟨_, rfl, Grew.refl _, rfl⟩
 · intro a w ht hs hg
   have h18 : a.tmps.getD 18 undef = _ := By.given_get hg 8 rfl rfl (by kernel_rfl)
   have h20 : a.tmps.getD 20 undef = _ := By.given_get hg 10 rfl rfl (by kernel_rfl)
   have hg15 := By.given_get hg 5 rfl rfl (by kernel_rfl)
   refine By.yes (By.want_yes rfl rfl hg15) ?_
   clear hg15
   clear hs hg
   go_simp
   exact ⟨_, rfl, Grew.refl _, congrArg Value.bool (by rw [Bool.eq_iff_iff]; simp; omega)⟩
 · intro a w ht hs hg
   have h15 : a.tmps.getD 15 undef = _ := By.given_get hg 5 rfl rfl (by kernel_rfl)
   have h21 : a.tmps.getD 21 undef = _ := By.given_get hg 11 rfl rfl (by kernel_rfl)
   refine By.yes rfl ?_
   clear hs hg
   go_simp
   exact ⟨_, rfl, Grew.refl _, rfl⟩
 · intro a w ht hs hg
   have h22 : a.tmps.getD 22 undef = _ := By.given_get hg 12 rfl rfl (by kernel_rfl)
   refine By.yes rfl ?_
   clear hs hg
   go_simp
   exact ⟨_, rfl, Grew.refl _, rfl⟩
 refine By.ends_is (By.ends_is (By.ends_is (By.ends_is (By.ends_is (By.ends_is (By.ends_is (By.ends_is (By.ends_is (By.ends_is (By.ends_is (By.ends_is (By.ends_is (By.ends_is (By.ends_nil fun wz hz => ?_))))))))))))))
 simp only [Act.put, List.setIfInBounds_toArray, List.set_cons_succ, List.set_cons_zero]
 have hz' : Below W0.heap.size W0 wz := ⟨hz.os, hz.tape, hz.output, hz.size, hz.block⟩
 go_wp2
 go_ret
 refine ⟨?_, nextB HBW.out (Nat.le_refl _) hz'⟩
 rw [show decide (BodyOk p n) = decide (n ≤ 65552) from decide_eq_decide.2 (by unfold BodyOk; rw [if_pos Hk.out]; exact ⟨fun h => h.2, fun h => ⟨Hn.out, h⟩⟩)]
 rfl
theorem isBody_any (p : Pk) (ho : p.Ok) (A : Option Addr) (n c : Nat) (hb : p.bo = .slice A n c) (w : World) : Calls Tryz.prog 63 #[p.val] w fun e w' => e = .returned (.bool (decide (BodyOk p n))) ∧ Below w.heap.size w w' := by
 by_cases hk : p.kind = 3
 · by_cases hn : 16 ≤ n
   · exact isBody_long p ho A n c hb hk hn w
   · exact isBody_short p ho A n c hb hk hn w
 · exact isBody_other p ho A n c hb hk w
def chk (p : Pk) (n : Nat) : Int := if Head p ∧ BodyOk p n then 0 else 2
set_option maxRecDepth 100000 in
set_option maxHeartbeats 2000000 in
theorem Check_any (p : Pk) (ho : p.Ok) (A : Option Addr) (n c : Nat) (hb : p.bo = .slice A n c) (w : World) : Calls Tryz.prog 52 #[p.val] w fun e w' => e = .returned (.int .i64 (chk p n)) ∧ Below w.heap.size w w' := by
 have hr0 : Row (w.alloc (.cells p.cells.toArray 40)) w.heap.size p.cells 40 := Row.new rfl rfl
 have hB0 : Below w.heap.size w (w.alloc (.cells p.cells.toArray 40)) := (Below.refl _ w).alloc (Nat.le_refl _) _
 have HR0 := Lib.hid hr0
 have HB0 := Lib.hid hB0
 have Ho := Lib.hid ho
 have Hb := Lib.hid hb
 obtain ⟨W0, hW0⟩ : ∃ W0, w.alloc (.cells p.cells.toArray 40) = W0 := ⟨_, rfl⟩
 have HL := Lib.hid (l_all hr0 ho)
 have HW0 := Lib.hid hW0
 clear hr0 hB0 ho hb hW0
 unfold Pk.val
 go_enter Tryz.func52, Tryz.ntmps52
 go_wp2_with (first
  | (refine wpList_ld 40 rfl rfl HL.out rfl ?_)
  | fail)
 refine (isHead_any p Ho.out _).mono ?_
 rintro e w1 ⟨rfl, hb1⟩
 have HB1 := Lib.hid (nextB HB0.out (Nat.le_refl _) hb1)
 have HL1 := Lib.hid (l_all (HR0.out.below hb1 HR0.out.lt) Ho.out)
 clear hb1
 by_cases h : Head p
 · rw [decide_eq_true h]
   go_wp2_with (first
    | (refine wpList_ld 40 rfl rfl HL1.out rfl ?_)
    | fail)
   refine (isBody_any p Ho.out A n c Hb.out _).mono ?_
   rintro e w2 ⟨rfl, hb2⟩
   have HB2 := Lib.hid (nextB HB1.out (Nat.le_refl _) hb2)
   clear hb2
   by_cases h2 : BodyOk p n
   · rw [decide_eq_true h2]
     go_wp2
     go_ret
     exact ⟨by rw [chk, if_pos ⟨h, h2⟩]; rfl, HB2.out⟩
   · rw [decide_eq_false h2]
     go_wp2
     go_ret
     exact ⟨by rw [chk, if_neg (fun hh => h2 hh.2)]; rfl, HB2.out⟩
 · rw [decide_eq_false h]
   go_wp2
   go_ret
   exact ⟨by rw [chk, if_neg (fun hh => h hh.1)]; rfl, HB1.out⟩
end Go.Proofs.YtedmogacklbcmaaGreatDoor.Pkt
