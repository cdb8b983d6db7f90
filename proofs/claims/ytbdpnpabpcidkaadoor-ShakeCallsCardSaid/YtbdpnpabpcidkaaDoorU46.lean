/- Texts that the proofs share: PktFields, PktWritten, PktBytes, PktAlong, PktPure, RefHead, RefCheck. -/
import Derived.Test.YtbdpnpabpcidkaaDoorU16
import Derived.Test.YtbdpnpabpcidkaaDoorU26
import Derived.Test.YtbdpnpabpcidkaaDoorU33
import Derived.Test.YtbdpnpabpcidkaaDoorU35
import Derived.Test.YtbdpnpabpcidkaaDoorU42
import Derived.Test.YtbdpnpabpcidkaaDoorU45
import Derived.Carry
import Derived.WideMake
namespace Go.Proofs.YtbdpnpabpcidkaaDoor.Pkt
open Go.RowKit
section
variable {P : Program} {w : World}
end
structure Put (w w' : World) (r : Nat) (o : Obj) : Prop where
 at_ : w'.heap[r]? = some o
 keep : Ev.Keep ⟨w, fun k => k = r⟩ w'
theorem Put.row {w w' : World} {r g : Nat} {o : Obj} {cs : List Value} {u : TypeId} (h : Put w w' r o) (hr : Row w g cs u) (hne : g ≠ r) : Row w' g cs u := hr.keep h.keep hne
theorem Put.below {B : Nat} {w0 w w' : World} {r : Nat} {o : Obj} (h : Put w w' r o) (hb : Below B w0 w) (hB : B ≤ w.heap.size) (hr : B ≤ r) : Below B w0 w' := Below.keep hb h.keep hB hr
structure Fields (w : World) (r g1 g2 g3 g4 : Nat) : Prop where
 map : w.heap[r]? = some (.map #[{ key := .int .i64 1, val := .slice (some ⟨g1, 0, none⟩) 4 4, born := 0 }, { key := .int .i64 2, val := .slice (some ⟨g2, 0, none⟩) 5 5, born := 1 }, { key := .int .i64 3, val := .slice (some ⟨g3, 0, none⟩) 5 5, born := 2 }, { key := .int .i64 4, val := .slice (some ⟨g4, 0, none⟩) 2 2, born := 3 }] 4)
 l1 : Row w g1 [.func (.func 104) #[] #[], .func (.func 105) #[] #[], .func (.func 106) #[] #[], .func (.func 107) #[] #[]] 110
 l2 : Row w g2 [.func (.func 104) #[] #[], .func (.func 108) #[] #[], .func (.func 109) #[] #[], .func (.func 106) #[] #[], .func (.func 107) #[] #[]] 110
 l3 : Row w g3 [.func (.func 104) #[] #[], .func (.func 108) #[] #[], .func (.func 109) #[] #[], .func (.func 110) #[] #[], .func (.func 111) #[] #[]] 110
 l4 : Row w g4 [.func (.func 104) #[] #[], .func (.func 108) #[] #[]] 110
end Go.Proofs.YtbdpnpabpcidkaaDoor.Pkt
namespace Go.Proofs.YtbdpnpabpcidkaaDoor.Pkt
open Go.RowKit
end Go.Proofs.YtbdpnpabpcidkaaDoor.Pkt
namespace Go.Proofs.YtbdpnpabpcidkaaDoor.Pkt
open Go.RowKit
end Go.Proofs.YtbdpnpabpcidkaaDoor.Pkt
namespace Go.Proofs.YtbdpnpabpcidkaaDoor.Pkt
open Go.RowKit
end Go.Proofs.YtbdpnpabpcidkaaDoor.Pkt
namespace Go.Proofs.YtbdpnpabpcidkaaDoor.Pkt
open Go.RowKit
structure Alike (p q : Pk) : Prop where
 k : p.kind = q.kind
 z : p.peer = q.peer
 s : p.ses = q.ses
 e : p.epo = q.epo
 c : p.cnt = q.cnt
 r : p.rnd = q.rnd
 m : p.mrk = q.mrk
end Go.Proofs.YtbdpnpabpcidkaaDoor.Pkt
namespace Go.Proofs.YtbdpnpabpcidkaaDoor.Pkt
open Go.RowKit
def alike (p q : Pk) : Bool := decide (p.kind = q.kind) && (decide (p.peer = q.peer) && (decide (p.ses = q.ses) && (decide (p.epo = q.epo) && (decide (p.cnt = q.cnt) && (decide (p.rnd = q.rnd) && decide (p.mrk = q.mrk))))))
set_option maxRecDepth 100000 in
set_option maxHeartbeats 1000000 in
theorem head_0 (p q : Pk) (hpo : p.Ok) (hqo : q.Ok) (w : World) (h0 : ¬ p.kind = q.kind) : Calls Tryd.prog 87 #[p.val, q.val] w fun e w' => e = .returned (.bool false) ∧ Below w.heap.size w w' := by
 have hR1 : Row ((w.alloc (.cells p.cells.toArray 40)).alloc (.cells q.cells.toArray 40)) w.heap.size p.cells 40 := (Row.new rfl rfl).alloc _
 have hR2 : Row ((w.alloc (.cells p.cells.toArray 40)).alloc (.cells q.cells.toArray 40)) (w.heap.size + 1) q.cells 40 := Row.new (by simp) rfl
 have hB : Below w.heap.size w ((w.alloc (.cells p.cells.toArray 40)).alloc (.cells q.cells.toArray 40)) := ((Below.refl _ w).alloc (Nat.le_refl _) _).alloc (by simp) _
 have HB := Lib.hid hB
 have e0 : (p.kind == q.kind) = false := by simp [h0]
 have p0 := c_kind hR1
 have q0 := c_kind hR2
 have H0 := Lib.hid h0
 clear hR1 hR2 hB hpo hqo h0
 unfold Pk.val
 go_enter Tryd.func87, Tryd.ntmps87
 go_wp2
 go_ret
 exact ⟨rfl, HB.out⟩
set_option maxRecDepth 100000 in
set_option maxHeartbeats 1000000 in
theorem head_1 (p q : Pk) (hpo : p.Ok) (hqo : q.Ok) (w : World) (h0 : p.kind = q.kind) (h1 : ¬ p.peer = q.peer) : Calls Tryd.prog 87 #[p.val, q.val] w fun e w' => e = .returned (.bool false) ∧ Below w.heap.size w w' := by
 have hR1 : Row ((w.alloc (.cells p.cells.toArray 40)).alloc (.cells q.cells.toArray 40)) w.heap.size p.cells 40 := (Row.new rfl rfl).alloc _
 have hR2 : Row ((w.alloc (.cells p.cells.toArray 40)).alloc (.cells q.cells.toArray 40)) (w.heap.size + 1) q.cells 40 := Row.new (by simp) rfl
 have hB : Below w.heap.size w ((w.alloc (.cells p.cells.toArray 40)).alloc (.cells q.cells.toArray 40)) := ((Below.refl _ w).alloc (Nat.le_refl _) _).alloc (by simp) _
 have HB := Lib.hid hB
 have e0 : (p.kind == q.kind) = true := by simp [h0]
 have e1 : (p.peer == q.peer) = false := by simp [h1]
 have p0 := c_kind hR1
 have q0 := c_kind hR2
 have p1 := c_peer hR1
 have q1 := c_peer hR2
 have H0 := Lib.hid h0
 have H1 := Lib.hid h1
 clear hR1 hR2 hB hpo hqo h0 h1
 unfold Pk.val
 go_enter Tryd.func87, Tryd.ntmps87
 go_wp2
 go_ret
 exact ⟨rfl, HB.out⟩
set_option maxRecDepth 100000 in
set_option maxHeartbeats 1000000 in
theorem head_2 (p q : Pk) (hpo : p.Ok) (hqo : q.Ok) (w : World) (h0 : p.kind = q.kind) (h1 : p.peer = q.peer) (h2 : ¬ p.ses = q.ses) : Calls Tryd.prog 87 #[p.val, q.val] w fun e w' => e = .returned (.bool false) ∧ Below w.heap.size w w' := by
 have hR1 : Row ((w.alloc (.cells p.cells.toArray 40)).alloc (.cells q.cells.toArray 40)) w.heap.size p.cells 40 := (Row.new rfl rfl).alloc _
 have hR2 : Row ((w.alloc (.cells p.cells.toArray 40)).alloc (.cells q.cells.toArray 40)) (w.heap.size + 1) q.cells 40 := Row.new (by simp) rfl
 have hB : Below w.heap.size w ((w.alloc (.cells p.cells.toArray 40)).alloc (.cells q.cells.toArray 40)) := ((Below.refl _ w).alloc (Nat.le_refl _) _).alloc (by simp) _
 have HB := Lib.hid hB
 have e0 : (p.kind == q.kind) = true := by simp [h0]
 have e1 : (p.peer == q.peer) = true := by simp [h1]
 have e2 : ((p.ses : Int) == (q.ses : Int)) = false := by rw [beq_eq_false_iff_ne]; intro e; exact h2 (by omega)
 have p0 := c_kind hR1
 have q0 := c_kind hR2
 have p1 := c_peer hR1
 have q1 := c_peer hR2
 have p2 := c_ses hR1
 have q2 := c_ses hR2
 have H0 := Lib.hid h0
 have H1 := Lib.hid h1
 have H2 := Lib.hid h2
 clear hR1 hR2 hB hpo hqo h0 h1 h2
 unfold Pk.val
 go_enter Tryd.func87, Tryd.ntmps87
 go_wp2
 go_ret
 exact ⟨rfl, HB.out⟩
set_option maxRecDepth 100000 in
set_option maxHeartbeats 1000000 in
theorem head_3 (p q : Pk) (hpo : p.Ok) (hqo : q.Ok) (w : World) (h0 : p.kind = q.kind) (h1 : p.peer = q.peer) (h2 : p.ses = q.ses) (h3 : ¬ p.epo = q.epo) : Calls Tryd.prog 87 #[p.val, q.val] w fun e w' => e = .returned (.bool false) ∧ Below w.heap.size w w' := by
 have hR1 : Row ((w.alloc (.cells p.cells.toArray 40)).alloc (.cells q.cells.toArray 40)) w.heap.size p.cells 40 := (Row.new rfl rfl).alloc _
 have hR2 : Row ((w.alloc (.cells p.cells.toArray 40)).alloc (.cells q.cells.toArray 40)) (w.heap.size + 1) q.cells 40 := Row.new (by simp) rfl
 have hB : Below w.heap.size w ((w.alloc (.cells p.cells.toArray 40)).alloc (.cells q.cells.toArray 40)) := ((Below.refl _ w).alloc (Nat.le_refl _) _).alloc (by simp) _
 have HB := Lib.hid hB
 have e0 : (p.kind == q.kind) = true := by simp [h0]
 have e1 : (p.peer == q.peer) = true := by simp [h1]
 have e2 : ((p.ses : Int) == (q.ses : Int)) = true := by simp [h2]
 have e3 : ((p.epo : Int) == (q.epo : Int)) = false := by rw [beq_eq_false_iff_ne]; intro e; exact h3 (by omega)
 have p0 := c_kind hR1
 have q0 := c_kind hR2
 have p1 := c_peer hR1
 have q1 := c_peer hR2
 have p2 := c_ses hR1
 have q2 := c_ses hR2
 have p3 := c_epo hR1
 have q3 := c_epo hR2
 have H0 := Lib.hid h0
 have H1 := Lib.hid h1
 have H2 := Lib.hid h2
 have H3 := Lib.hid h3
 clear hR1 hR2 hB hpo hqo h0 h1 h2 h3
 unfold Pk.val
 go_enter Tryd.func87, Tryd.ntmps87
 go_wp2
 go_ret
 exact ⟨rfl, HB.out⟩
set_option maxRecDepth 100000 in
set_option maxHeartbeats 1000000 in
theorem head_4 (p q : Pk) (hpo : p.Ok) (hqo : q.Ok) (w : World) (h0 : p.kind = q.kind) (h1 : p.peer = q.peer) (h2 : p.ses = q.ses) (h3 : p.epo = q.epo) (h4 : ¬ p.cnt = q.cnt) : Calls Tryd.prog 87 #[p.val, q.val] w fun e w' => e = .returned (.bool false) ∧ Below w.heap.size w w' := by
 have hR1 : Row ((w.alloc (.cells p.cells.toArray 40)).alloc (.cells q.cells.toArray 40)) w.heap.size p.cells 40 := (Row.new rfl rfl).alloc _
 have hR2 : Row ((w.alloc (.cells p.cells.toArray 40)).alloc (.cells q.cells.toArray 40)) (w.heap.size + 1) q.cells 40 := Row.new (by simp) rfl
 have hB : Below w.heap.size w ((w.alloc (.cells p.cells.toArray 40)).alloc (.cells q.cells.toArray 40)) := ((Below.refl _ w).alloc (Nat.le_refl _) _).alloc (by simp) _
 have HB := Lib.hid hB
 have e0 : (p.kind == q.kind) = true := by simp [h0]
 have e1 : (p.peer == q.peer) = true := by simp [h1]
 have e2 : ((p.ses : Int) == (q.ses : Int)) = true := by simp [h2]
 have e3 : ((p.epo : Int) == (q.epo : Int)) = true := by simp [h3]
 have e4 : ((p.cnt : Int) == (q.cnt : Int)) = false := by rw [beq_eq_false_iff_ne]; intro e; exact h4 (by omega)
 have p0 := c_kind hR1
 have q0 := c_kind hR2
 have p1 := c_peer hR1
 have q1 := c_peer hR2
 have p2 := c_ses hR1
 have q2 := c_ses hR2
 have p3 := c_epo hR1
 have q3 := c_epo hR2
 have p4 := c_cnt hR1
 have q4 := c_cnt hR2
 have H0 := Lib.hid h0
 have H1 := Lib.hid h1
 have H2 := Lib.hid h2
 have H3 := Lib.hid h3
 have H4 := Lib.hid h4
 clear hR1 hR2 hB hpo hqo h0 h1 h2 h3 h4
 unfold Pk.val
 go_enter Tryd.func87, Tryd.ntmps87
 go_wp2
 go_ret
 exact ⟨rfl, HB.out⟩
set_option maxRecDepth 100000 in
set_option maxHeartbeats 1000000 in
theorem head_5 (p q : Pk) (hpo : p.Ok) (hqo : q.Ok) (w : World) (h0 : p.kind = q.kind) (h1 : p.peer = q.peer) (h2 : p.ses = q.ses) (h3 : p.epo = q.epo) (h4 : p.cnt = q.cnt) (h5 : ¬ p.rnd = q.rnd) : Calls Tryd.prog 87 #[p.val, q.val] w fun e w' => e = .returned (.bool false) ∧ Below w.heap.size w w' := by
 have hR1 : Row ((w.alloc (.cells p.cells.toArray 40)).alloc (.cells q.cells.toArray 40)) w.heap.size p.cells 40 := (Row.new rfl rfl).alloc _
 have hR2 : Row ((w.alloc (.cells p.cells.toArray 40)).alloc (.cells q.cells.toArray 40)) (w.heap.size + 1) q.cells 40 := Row.new (by simp) rfl
 have hB : Below w.heap.size w ((w.alloc (.cells p.cells.toArray 40)).alloc (.cells q.cells.toArray 40)) := ((Below.refl _ w).alloc (Nat.le_refl _) _).alloc (by simp) _
 have HB := Lib.hid hB
 have e0 : (p.kind == q.kind) = true := by simp [h0]
 have e1 : (p.peer == q.peer) = true := by simp [h1]
 have e2 : ((p.ses : Int) == (q.ses : Int)) = true := by simp [h2]
 have e3 : ((p.epo : Int) == (q.epo : Int)) = true := by simp [h3]
 have e4 : ((p.cnt : Int) == (q.cnt : Int)) = true := by simp [h4]
 have e5 := fun w => (eqv16 p.rnd q.rnd hpo.r hqo.r w).trans (by rw [decide_eq_false h5])
 have g5 := eqg16 p.rnd q.rnd
 have p0 := c_kind hR1
 have q0 := c_kind hR2
 have p1 := c_peer hR1
 have q1 := c_peer hR2
 have p2 := c_ses hR1
 have q2 := c_ses hR2
 have p3 := c_epo hR1
 have q3 := c_epo hR2
 have p4 := c_cnt hR1
 have q4 := c_cnt hR2
 have pr := Lib.hid (l_rnd hR1 hpo)
 have qr := Lib.hid (l_rnd hR2 hqo)
 have H0 := Lib.hid h0
 have H1 := Lib.hid h1
 have H2 := Lib.hid h2
 have H3 := Lib.hid h3
 have H4 := Lib.hid h4
 have H5 := Lib.hid h5
 clear hR1 hR2 hB hpo hqo h0 h1 h2 h3 h4 h5
 unfold Pk.val
 go_enter Tryd.func87, Tryd.ntmps87
 go_wp2_with (first
  | (refine wpList_ld 38 rfl rfl pr.out rfl ?_)
  | (refine wpList_ld 38 rfl rfl qr.out rfl ?_)
  | fail)
 go_ret
 exact ⟨rfl, HB.out⟩
set_option maxRecDepth 100000 in
set_option maxHeartbeats 1000000 in
theorem head_6 (p q : Pk) (hpo : p.Ok) (hqo : q.Ok) (w : World) (h0 : p.kind = q.kind) (h1 : p.peer = q.peer) (h2 : p.ses = q.ses) (h3 : p.epo = q.epo) (h4 : p.cnt = q.cnt) (h5 : p.rnd = q.rnd) (h6 : ¬ p.mrk = q.mrk) : Calls Tryd.prog 87 #[p.val, q.val] w fun e w' => e = .returned (.bool false) ∧ Below w.heap.size w w' := by
 have hR1 : Row ((w.alloc (.cells p.cells.toArray 40)).alloc (.cells q.cells.toArray 40)) w.heap.size p.cells 40 := (Row.new rfl rfl).alloc _
 have hR2 : Row ((w.alloc (.cells p.cells.toArray 40)).alloc (.cells q.cells.toArray 40)) (w.heap.size + 1) q.cells 40 := Row.new (by simp) rfl
 have hB : Below w.heap.size w ((w.alloc (.cells p.cells.toArray 40)).alloc (.cells q.cells.toArray 40)) := ((Below.refl _ w).alloc (Nat.le_refl _) _).alloc (by simp) _
 have HB := Lib.hid hB
 have e0 : (p.kind == q.kind) = true := by simp [h0]
 have e1 : (p.peer == q.peer) = true := by simp [h1]
 have e2 : ((p.ses : Int) == (q.ses : Int)) = true := by simp [h2]
 have e3 : ((p.epo : Int) == (q.epo : Int)) = true := by simp [h3]
 have e4 : ((p.cnt : Int) == (q.cnt : Int)) = true := by simp [h4]
 have e5 := fun w => (eqv16 p.rnd q.rnd hpo.r hqo.r w).trans (by rw [decide_eq_true h5])
 have g5 := eqg16 p.rnd q.rnd
 have e6 := fun w => (eqv16 p.mrk q.mrk hpo.m hqo.m w).trans (by rw [decide_eq_false h6])
 have g6 := eqg16 p.mrk q.mrk
 have p0 := c_kind hR1
 have q0 := c_kind hR2
 have p1 := c_peer hR1
 have q1 := c_peer hR2
 have p2 := c_ses hR1
 have q2 := c_ses hR2
 have p3 := c_epo hR1
 have q3 := c_epo hR2
 have p4 := c_cnt hR1
 have q4 := c_cnt hR2
 have pr := Lib.hid (l_rnd hR1 hpo)
 have qr := Lib.hid (l_rnd hR2 hqo)
 have pm := Lib.hid (l_mrk hR1 hpo)
 have qm := Lib.hid (l_mrk hR2 hqo)
 have H0 := Lib.hid h0
 have H1 := Lib.hid h1
 have H2 := Lib.hid h2
 have H3 := Lib.hid h3
 have H4 := Lib.hid h4
 have H5 := Lib.hid h5
 have H6 := Lib.hid h6
 clear hR1 hR2 hB hpo hqo h0 h1 h2 h3 h4 h5 h6
 unfold Pk.val
 go_enter Tryd.func87, Tryd.ntmps87
 go_wp2_with (first
  | (refine wpList_ld 38 rfl rfl pr.out rfl ?_)
  | (refine wpList_ld 38 rfl rfl qr.out rfl ?_)
  | (refine wpList_ld 38 rfl rfl pm.out rfl ?_)
  | (refine wpList_ld 38 rfl rfl qm.out rfl ?_)
  | fail)
 go_ret
 exact ⟨rfl, HB.out⟩
set_option maxRecDepth 100000 in
set_option maxHeartbeats 1000000 in
theorem head_7 (p q : Pk) (hpo : p.Ok) (hqo : q.Ok) (w : World) (h0 : p.kind = q.kind) (h1 : p.peer = q.peer) (h2 : p.ses = q.ses) (h3 : p.epo = q.epo) (h4 : p.cnt = q.cnt) (h5 : p.rnd = q.rnd) (h6 : p.mrk = q.mrk) : Calls Tryd.prog 87 #[p.val, q.val] w fun e w' => e = .returned (.bool true) ∧ Below w.heap.size w w' := by
 have hR1 : Row ((w.alloc (.cells p.cells.toArray 40)).alloc (.cells q.cells.toArray 40)) w.heap.size p.cells 40 := (Row.new rfl rfl).alloc _
 have hR2 : Row ((w.alloc (.cells p.cells.toArray 40)).alloc (.cells q.cells.toArray 40)) (w.heap.size + 1) q.cells 40 := Row.new (by simp) rfl
 have hB : Below w.heap.size w ((w.alloc (.cells p.cells.toArray 40)).alloc (.cells q.cells.toArray 40)) := ((Below.refl _ w).alloc (Nat.le_refl _) _).alloc (by simp) _
 have HB := Lib.hid hB
 have e0 : (p.kind == q.kind) = true := by simp [h0]
 have e1 : (p.peer == q.peer) = true := by simp [h1]
 have e2 : ((p.ses : Int) == (q.ses : Int)) = true := by simp [h2]
 have e3 : ((p.epo : Int) == (q.epo : Int)) = true := by simp [h3]
 have e4 : ((p.cnt : Int) == (q.cnt : Int)) = true := by simp [h4]
 have e5 := fun w => (eqv16 p.rnd q.rnd hpo.r hqo.r w).trans (by rw [decide_eq_true h5])
 have g5 := eqg16 p.rnd q.rnd
 have e6 := fun w => (eqv16 p.mrk q.mrk hpo.m hqo.m w).trans (by rw [decide_eq_true h6])
 have g6 := eqg16 p.mrk q.mrk
 have p0 := c_kind hR1
 have q0 := c_kind hR2
 have p1 := c_peer hR1
 have q1 := c_peer hR2
 have p2 := c_ses hR1
 have q2 := c_ses hR2
 have p3 := c_epo hR1
 have q3 := c_epo hR2
 have p4 := c_cnt hR1
 have q4 := c_cnt hR2
 have pr := Lib.hid (l_rnd hR1 hpo)
 have qr := Lib.hid (l_rnd hR2 hqo)
 have pm := Lib.hid (l_mrk hR1 hpo)
 have qm := Lib.hid (l_mrk hR2 hqo)
 have H0 := Lib.hid h0
 have H1 := Lib.hid h1
 have H2 := Lib.hid h2
 have H3 := Lib.hid h3
 have H4 := Lib.hid h4
 have H5 := Lib.hid h5
 have H6 := Lib.hid h6
 clear hR1 hR2 hB hpo hqo h0 h1 h2 h3 h4 h5 h6
 unfold Pk.val
 go_enter Tryd.func87, Tryd.ntmps87
 go_wp2_with (first
  | (refine wpList_ld 38 rfl rfl pr.out rfl ?_)
  | (refine wpList_ld 38 rfl rfl qr.out rfl ?_)
  | (refine wpList_ld 38 rfl rfl pm.out rfl ?_)
  | (refine wpList_ld 38 rfl rfl qm.out rfl ?_)
  | fail)
 go_ret
 exact ⟨rfl, HB.out⟩
theorem head_any (p q : Pk) (hpo : p.Ok) (hqo : q.Ok) (w : World) : Calls Tryd.prog 87 #[p.val, q.val] w fun e w' => e = .returned (.bool (alike p q)) ∧ Below w.heap.size w w' := by
 by_cases h0 : p.kind = q.kind
 case neg => exact (show alike p q = false by simp [alike, h0]) ▸ head_0 p q hpo hqo w h0
 by_cases h1 : p.peer = q.peer
 case neg => exact (show alike p q = false by simp [alike, h1]) ▸ head_1 p q hpo hqo w h0 h1
 by_cases h2 : p.ses = q.ses
 case neg => exact (show alike p q = false by simp [alike, h2]) ▸ head_2 p q hpo hqo w h0 h1 h2
 by_cases h3 : p.epo = q.epo
 case neg => exact (show alike p q = false by simp [alike, h3]) ▸ head_3 p q hpo hqo w h0 h1 h2 h3
 by_cases h4 : p.cnt = q.cnt
 case neg => exact (show alike p q = false by simp [alike, h4]) ▸ head_4 p q hpo hqo w h0 h1 h2 h3 h4
 by_cases h5 : p.rnd = q.rnd
 case neg => exact (show alike p q = false by simp [alike, h5]) ▸ head_5 p q hpo hqo w h0 h1 h2 h3 h4 h5
 by_cases h6 : p.mrk = q.mrk
 case neg => exact (show alike p q = false by simp [alike, h6]) ▸ head_6 p q hpo hqo w h0 h1 h2 h3 h4 h5 h6
 exact (show alike p q = true by simp [alike, h0, h1, h2, h3, h4, h5, h6]) ▸ head_7 p q hpo hqo w h0 h1 h2 h3 h4 h5 h6
end Go.Proofs.YtbdpnpabpcidkaaDoor.Pkt
namespace Go.Proofs.YtbdpnpabpcidkaaDoor.Pkt
open Go.RowKit
theorem chk_no {p : Pk} {n : Nat} (h : ¬ (Head p ∧ BodyOk p n)) : chk p n = 2 := if_neg h
set_option maxRecDepth 100000 in
set_option maxHeartbeats 4000000 in
theorem RCheck_x (q : Pk) (ho : q.Ok) (A : Option Addr) (n c : Nat) (hb : q.bo = .slice A n c) (w : World) (k1 : ¬ q.kind = 1) (k2 : ¬ q.kind = 2) (k3 : ¬ q.kind = 3) (k4 : ¬ q.kind = 4) : Calls Tryd.prog 62 #[q.val] w fun e w' => e = .returned (.int .i64 (chk q n)) ∧ Below w.heap.size w w' := by
 have hk0 : (w.alloc (.cells q.cells.toArray 40)).cell? ⟨w.heap.size, 0, none⟩ = some (.int .i64 q.kind) := by
  have h2 := c_kind (p := q) (w := w.alloc (.cells q.cells.toArray 40)) (g := w.heap.size) (Row.new rfl rfl)
  exact h2
 have Hqo := Lib.hid ho
 have Hqb := Lib.hid hb
 clear ho hb
 unfold Pk.val
 go_enter Tryd.func62, Tryd.ntmps62
 go_wp2_with (first
  | (show wpList _ _ _ (⟨none, Op.store 40 _ _, _, _, _, _⟩ :: _) _ _
     refine wpList_storeRow (g := w.heap.size + 1) rfl 40 _ _ rfl rfl rfl (cs := (nm q.kind).cells) (old := (nm 0).cells) (Row.new (by simp) rfl) (by kernel_rfl) rfl rfl (Pk.one (nm_ok _)) ?_
     refine wpList_name fun W hW => ?_
     obtain ⟨hR1, hR2, hB⟩ := head_world q (q.kind) w W hW
     have HR1 := Lib.hid hR1
     have HR2 := Lib.hid hR2
     have HB := Lib.hid hB
     refine stop ?_)
  | fail)
 unfold Stop
 have c37 := c_bo hR1 Hqo.out
 rw [Hqb.out] at c37
 clear hk0 hW hB
 have ck := c_kind hR1
 clear hR1 hR2
 go_wp2_with fail
 go_ret
 exact ⟨by rw [chk_no (fun h => by have h := h.1; unfold Head at h; rw [if_neg k1, if_neg k2, if_neg k3, if_neg k4] at h; exact h)]; rfl, HB.out⟩
set_option maxRecDepth 100000 in
set_option maxHeartbeats 4000000 in
theorem RCheck_1 (q : Pk) (ho : q.Ok) (A : Option Addr) (n c : Nat) (hb : q.bo = .slice A n c) (w : World) (hk : q.kind = 1) : Calls Tryd.prog 62 #[q.val] w fun e w' => e = .returned (.int .i64 (chk q n)) ∧ Below w.heap.size w w' := by
 have hk0 : (w.alloc (.cells q.cells.toArray 40)).cell? ⟨w.heap.size, 0, none⟩ = some (.int .i64 1) := by
  have h2 := c_kind (p := q) (w := w.alloc (.cells q.cells.toArray 40)) (g := w.heap.size) (Row.new rfl rfl)
  exact h2.trans (congrArg (fun z => some (Value.int .i64 z)) hk)
 have Hqo := Lib.hid ho
 have Hqb := Lib.hid hb
 clear ho hb
 unfold Pk.val
 go_enter Tryd.func62, Tryd.ntmps62
 go_wp2_with (first
  | (show wpList _ _ _ (⟨none, Op.store 40 _ _, _, _, _, _⟩ :: _) _ _
     refine wpList_storeRow (g := w.heap.size + 1) rfl 40 _ _ rfl rfl rfl (cs := (nm 1).cells) (old := (nm 0).cells) (Row.new (by simp) rfl) (by kernel_rfl) rfl rfl (Pk.one (nm_ok _)) ?_
     refine wpList_name fun W hW => ?_
     obtain ⟨hR1, hR2, hB⟩ := head_world q (1) w W hW
     have HR1 := Lib.hid hR1
     have HR2 := Lib.hid hR2
     have HB := Lib.hid hB
     refine stop ?_)
  | fail)
 unfold Stop
 have c37 := c_bo hR1 Hqo.out
 rw [Hqb.out] at c37
 clear hk0 hW hB
 have Hqk := Lib.hid hk
 obtain ⟨N, hN⟩ : ∃ N : Pk, { nm 1 with peer := q.peer, rnd := q.rnd, mrk := q.mrk } = N := ⟨_, rfl⟩
 have hNo : N.Ok := hN ▸ ⟨Hqo.out.r, Hqo.out.m, rfl⟩
 have HN := Lib.hid hN
 have ck := c_kind hR1
 rw [Hqk.out] at ck
 clear hk
 have HR1 := Lib.hid hR1
 obtain ⟨gn, hgn⟩ : ∃ gn, w.heap.size + 1 = gn := ⟨_, rfl⟩
 rw [hgn] at hR2
 have HR2 := Lib.hid hR2
 have HGne := Lib.hid (show w.heap.size ≠ gn by omega)
 have HGle := Lib.hid (show w.heap.size ≤ gn by omega)
 clear hR1 hR2 hN
 go_wp2_with fail
 refine ByN.marks Pol.mixed (Stg.St gn (fun s => (st1 q s).cells) 40) [By.is (.pointer (some ⟨w.heap.size, 1, none⟩)),
  By.is (.int .i64 q.peer),
  By.is (.pointer (some ⟨w.heap.size, 5, none⟩)),
  By.is (arr8 q.rnd),
  By.is (.pointer (some ⟨w.heap.size, 21, none⟩)),
  By.is (arr8 q.mrk),
  By.is (.pointer (some ⟨gn, 1, none⟩)),
  Stg.stM gn (fun s => (st1 q s).cells) 40 1,
  By.is (.pointer (some ⟨gn, 5, none⟩)),
  Stg.stM gn (fun s => (st1 q s).cells) 40 2,
  By.is (.pointer (some ⟨gn, 21, none⟩)),
  Stg.stM gn (fun s => (st1 q s).cells) 40 3]
  (Ev.masks _ []) (by kernel_rfl) rfl Stg.St.refl Stg.St.trans ⟨?_, ?_, ?_, ?_, ?_, ?_, ?_, ?_, ?_, ?_, ?_, ?_, trivial⟩ ?_
 · intro a w9 ht hs hg
   have h1 := By.same_get hs 1 (by decide) (by kernel_rfl)
   refine By.yes rfl ?_
   clear hs hg
   go_simp
   exact ⟨_, rfl, Stg.St.refl _, rfl⟩
 · intro a w9 ht hs hg
   have h17 : a.tmps.getD 17 undef = _ := ByN.given_get hg 0 rfl rfl (by kernel_rfl)
   refine By.yes rfl ?_
   clear hs hg
   have hc := c_peer (ht.row (x := W.drew) HR1.out HGne.out)
   clear ht
   go_simp
   exact ⟨_, rfl, Stg.St.refl _, rfl⟩
 · intro a w9 ht hs hg
   have h1 := By.same_get hs 1 (by decide) (by kernel_rfl)
   refine By.yes rfl ?_
   clear hs hg
   go_simp
   exact ⟨_, rfl, Stg.St.refl _, rfl⟩
 · intro a w9 ht hs hg
   have h19 : a.tmps.getD 19 undef = _ := ByN.given_get hg 2 rfl rfl (by kernel_rfl)
   refine By.yes rfl ?_
   clear hs hg
   refine Pol.wp_loadSub (off := 5) (n := 16) 38 _ rfl h19 (ht.row (x := W.drew) HR1.out HGne.out) Tryd.underlying38 rfl (by kernel_rfl) (by rw [Pk.length Hqo.out]; omega) ?_
   exact ⟨_, rfl, Stg.St.refl _, by rw [Pk.rnd_at Hqo.out]; rfl⟩
 · intro a w9 ht hs hg
   have h1 := By.same_get hs 1 (by decide) (by kernel_rfl)
   refine By.yes rfl ?_
   clear hs hg
   go_simp
   exact ⟨_, rfl, Stg.St.refl _, rfl⟩
 · intro a w9 ht hs hg
   have h21 : a.tmps.getD 21 undef = _ := ByN.given_get hg 4 rfl rfl (by kernel_rfl)
   refine By.yes rfl ?_
   clear hs hg
   refine Pol.wp_loadSub (off := 21) (n := 16) 38 _ rfl h21 (ht.row (x := W.drew) HR1.out HGne.out) Tryd.underlying38 rfl (by kernel_rfl) (by rw [Pk.length Hqo.out]; omega) ?_
   exact ⟨_, rfl, Stg.St.refl _, by rw [Pk.mrk_at Hqo.out]; rfl⟩
 · intro a w9 ht hs hg
   have h3 := By.same_get hs 3 (by decide) (by kernel_rfl)
   refine By.yes rfl ?_
   clear hs hg
   go_simp
   exact ⟨_, rfl, Stg.St.refl _, rfl⟩
 · intro a w9 ht hs hg
   have h23 : a.tmps.getD 23 undef = _ := ByN.given_get hg 6 rfl rfl (by kernel_rfl)
   have h18 : a.tmps.getD 18 undef = _ := ByN.given_get hg 1 rfl rfl (by kernel_rfl)
   obtain ⟨s0, _, hrow⟩ := ht.up 0 (show Row W.drew gn (st1 q 0).cells 40 from HR2.out)
   have hst : ∃ s, 1 ≤ s + 1 ∧ Row w9 gn ((fun s => (st1 q s).cells) s) 40 := ⟨s0, by omega, hrow⟩
   refine By.yes rfl ?_
   clear hs hg
   exact Stg.wp_stage (cells := (fun s => (st1 q s).cells)) (n := 1) 1 3 _ _ rfl rfl [.int .i64 q.peer] h23 h18 rfl hst (by kernel_rfl) rfl (fun s => by show 1 + 1 ≤ (st1 q s).cells.length; rw [Pk.length (st1_ok q Hqo.out s)]; omega) (by intro v hv; simp at hv; subst hv; rfl) (fun s hs => (sp_peer (st1 q s) q.peer).trans (congrArg Pk.cells (by simp [st1, show 1 ≤ max s 1 by omega, show (2 ≤ max s 1) ↔ (2 ≤ s) by omega, show (3 ≤ max s 1) ↔ (3 ≤ s) by omega])))
 · intro a w9 ht hs hg
   have h3 := By.same_get hs 3 (by decide) (by kernel_rfl)
   refine By.yes rfl ?_
   clear hs hg
   go_simp
   exact ⟨_, rfl, Stg.St.refl _, rfl⟩
 · intro a w9 ht hs hg
   have h24 : a.tmps.getD 24 undef = _ := ByN.given_get hg 8 rfl rfl (by kernel_rfl)
   have h20 : a.tmps.getD 20 undef = _ := ByN.given_get hg 3 rfl rfl (by kernel_rfl)
   have hp := ByN.given_get hg 7 rfl rfl (by kernel_rfl)
   obtain ⟨s0, hs0, hrow⟩ := hp
   have hst : ∃ s, 2 ≤ s + 1 ∧ Row w9 gn ((fun s => (st1 q s).cells) s) 40 := ⟨s0, by omega, hrow⟩
   refine By.yes rfl ?_
   clear hs hg
   exact Stg.wp_stage (cells := (fun s => (st1 q s).cells)) (n := 16) 2 38 _ _ rfl rfl (q.rnd.map bv) h24 h20 rfl hst (by kernel_rfl) (by rw [List.length_map]; exact Hqo.out.r) (fun s => by show 5 + (q.rnd.map bv).length ≤ (st1 q s).cells.length; rw [Pk.length (st1_ok q Hqo.out s), List.length_map, Hqo.out.r]; omega) (by intro v hv; simp at hv; obtain ⟨u, _, rfl⟩ := hv; rfl) (fun s hs => (sp_rnd (st1 q s) (st1_ok q Hqo.out s) q.rnd Hqo.out.r).trans (congrArg Pk.cells (by simp [st1, show 1 ≤ s by omega, show 1 ≤ max s 2 by omega, show 2 ≤ max s 2 by omega, show (3 ≤ max s 2) ↔ (3 ≤ s) by omega])))
 · intro a w9 ht hs hg
   have h3 := By.same_get hs 3 (by decide) (by kernel_rfl)
   refine By.yes rfl ?_
   clear hs hg
   go_simp
   exact ⟨_, rfl, Stg.St.refl _, rfl⟩
 · intro a w9 ht hs hg
   have h25 : a.tmps.getD 25 undef = _ := ByN.given_get hg 10 rfl rfl (by kernel_rfl)
   have h22 : a.tmps.getD 22 undef = _ := ByN.given_get hg 5 rfl rfl (by kernel_rfl)
   have hp := ByN.given_get hg 9 rfl rfl (by kernel_rfl)
   obtain ⟨s0, hs0, hrow⟩ := hp
   have hst : ∃ s, 3 ≤ s + 1 ∧ Row w9 gn ((fun s => (st1 q s).cells) s) 40 := ⟨s0, by omega, hrow⟩
   refine By.yes rfl ?_
   clear hs hg
   exact Stg.wp_stage (cells := (fun s => (st1 q s).cells)) (n := 16) 3 38 _ _ rfl rfl (q.mrk.map bv) h25 h22 rfl hst (by kernel_rfl) (by rw [List.length_map]; exact Hqo.out.m) (fun s => by show 21 + (q.mrk.map bv).length ≤ (st1 q s).cells.length; rw [Pk.length (st1_ok q Hqo.out s), List.length_map, Hqo.out.m]; omega) (by intro v hv; simp at hv; obtain ⟨u, _, rfl⟩ := hv; rfl) (fun s hs => (sp_mrk (st1 q s) (st1_ok q Hqo.out s) q.mrk Hqo.out.m).trans (congrArg Pk.cells (by simp [st1, show 1 ≤ s by omega, show 2 ≤ s by omega, show 1 ≤ max s 3 by omega, show 2 ≤ max s 3 by omega, show 3 ≤ max s 3 by omega])))
 refine ByN.ends_is ?_
 refine ByN.ends_is ?_
 refine ByN.ends_is ?_
 refine ByN.ends_is ?_
 refine ByN.ends_is ?_
 refine ByN.ends_is ?_
 refine ByN.ends_is ?_
 refine ByN.ends_skip fun _ => ?_
 refine ByN.ends_is ?_
 refine ByN.ends_skip fun _ => ?_
 refine ByN.ends_is ?_
 refine ByN.ends_any fun _ => ?_
 refine ByN.ends_nil fun W9 hw9 => ?_
 obtain ⟨hw9, hl9⟩ := hw9
 obtain ⟨s9, hs9, hrow9⟩ := (show ∃ s, 3 ≤ s ∧ Row W9 gn (st1 q s).cells 40 from hl9)
 have HRn := Lib.hid (show Row W9 gn N.cells 40 by
  rw [show N = st1 q s9 by rw [← HN.out]; simp [st1, nm, show 1 ≤ s9 by omega, show 2 ≤ s9 by omega, show 3 ≤ s9 by omega]]
  exact hrow9)
 have HRq := Lib.hid (hw9.row (x := W.drew) HR1.out HGne.out)
 have HB9 := Lib.hid (HB.out.drew.trans (hw9.below (x := W.drew) (B := w.heap.size) HGle.out HB.out.size))
 clear hw9 hl9 hrow9 hs9
 simp only [Act.put, List.setIfInBounds_toArray, List.set_cons_succ, List.set_cons_zero]
 have dk := c_kind HRq.out
 have dp := c_peer HRq.out
 have ds := c_ses HRq.out
 have de := c_epo HRq.out
 have dc := c_cnt HRq.out
 have db := c_bo HRq.out Hqo.out
 rw [Hqb.out] at db
 rw [Hqk.out] at dk
 have Hl1 := Lib.hid (l_all HRq.out Hqo.out)
 have Hl2 := Lib.hid (l_all HRn.out hNo)
 have HNo := Lib.hid hNo
 clear hNo
 by_cases f0 : (1 : Int) ≤ q.peer
 case neg =>
  go_wp2_with fail
  go_ret
  exact ⟨by rw [chk_no (fun h => by have h := h.1; unfold Head at h; rw [if_pos Hqk.out] at h; omega)]; rfl, HB9.out⟩
 by_cases f1 : q.peer ≤ (65536 : Int)
 case neg =>
  go_wp2_with fail
  go_ret
  exact ⟨by rw [chk_no (fun h => by have h := h.1; unfold Head at h; rw [if_pos Hqk.out] at h; omega)]; rfl, HB9.out⟩
 have Hf := Lib.hid (show 1 ≤ q.peer ∧ q.peer ≤ 65536 by omega)
 by_cases b0 : (n : Int) = 0
 case neg =>
  have b' : ((n : Int) == 0) = false := by rw [beq_eq_false_iff_ne]; exact b0
  go_wp2_with fail
  go_ret
  exact ⟨by rw [chk_no (fun h => by have h := h.2; unfold BodyOk at h; rw [if_neg (by rw [Hqk.out]; decide)] at h; omega)]; rfl, HB9.out⟩
 have b' : ((n : Int) == 0) = true := by rw [b0]; rfl
 have Hbo := Lib.hid (show BodyOk q n by unfold BodyOk; rw [if_neg (by rw [Hqk.out]; decide)]; omega)
 go_wp2_with (first
  | (refine wpList_ld 40 rfl rfl Hl1.out rfl ?_)
  | (refine wpList_ld 40 rfl rfl Hl2.out rfl ?_)
  | fail)
 refine (head_any q N Hqo.out HNo.out _).mono ?_
 rintro e w9 ⟨rfl, hb9⟩
 have HB10 := Lib.hid (nextB HB9.out (Nat.le_refl _) hb9)
 clear hb9
 have hend : alike q N = decide (Head q) := by
  unfold alike
  simp only [← Bool.decide_and]
  refine decide_eq_decide.2 ?_
  unfold Head
  rw [if_pos Hqk.out, ← HN.out]
  have := Hf.out
  have := Hqk.out
  simp only [nm]
  constructor
  · intro h
    simp_all
  · intro h
    simp_all
 have Hend := Lib.hid hend
 clear hend
 by_cases hh : Head q
 · rw [Hend.out, decide_eq_true hh]
   have hc : chk q n = 0 := if_pos ⟨hh, Hbo.out⟩
   clear hh
   go_wp2_with fail
   go_ret
   exact ⟨by rw [hc]; rfl, HB10.out⟩
 · rw [Hend.out, decide_eq_false hh]
   have hc : chk q n = 2 := chk_no (fun h => hh h.1)
   clear hh
   go_wp2_with fail
   go_ret
   exact ⟨by rw [hc]; rfl, HB10.out⟩
set_option maxRecDepth 100000 in
set_option maxHeartbeats 4000000 in
theorem RCheck_2 (q : Pk) (ho : q.Ok) (A : Option Addr) (n c : Nat) (hb : q.bo = .slice A n c) (w : World) (hk : q.kind = 2) : Calls Tryd.prog 62 #[q.val] w fun e w' => e = .returned (.int .i64 (chk q n)) ∧ Below w.heap.size w w' := by
 have hk0 : (w.alloc (.cells q.cells.toArray 40)).cell? ⟨w.heap.size, 0, none⟩ = some (.int .i64 2) := by
  have h2 := c_kind (p := q) (w := w.alloc (.cells q.cells.toArray 40)) (g := w.heap.size) (Row.new rfl rfl)
  exact h2.trans (congrArg (fun z => some (Value.int .i64 z)) hk)
 have Hqo := Lib.hid ho
 have Hqb := Lib.hid hb
 clear ho hb
 unfold Pk.val
 go_enter Tryd.func62, Tryd.ntmps62
 go_wp2_with (first
  | (show wpList _ _ _ (⟨none, Op.store 40 _ _, _, _, _, _⟩ :: _) _ _
     refine wpList_storeRow (g := w.heap.size + 1) rfl 40 _ _ rfl rfl rfl (cs := (nm 2).cells) (old := (nm 0).cells) (Row.new (by simp) rfl) (by kernel_rfl) rfl rfl (Pk.one (nm_ok _)) ?_
     refine wpList_name fun W hW => ?_
     obtain ⟨hR1, hR2, hB⟩ := head_world q (2) w W hW
     have HR1 := Lib.hid hR1
     have HR2 := Lib.hid hR2
     have HB := Lib.hid hB
     refine stop ?_)
  | fail)
 unfold Stop
 have c37 := c_bo hR1 Hqo.out
 rw [Hqb.out] at c37
 clear hk0 hW hB
 have Hqk := Lib.hid hk
 obtain ⟨N, hN⟩ : ∃ N : Pk, { nm 2 with ses := q.ses, epo := q.epo, rnd := q.rnd, mrk := q.mrk } = N := ⟨_, rfl⟩
 have hNo : N.Ok := hN ▸ ⟨Hqo.out.r, Hqo.out.m, rfl⟩
 have HN := Lib.hid hN
 have ck := c_kind hR1
 rw [Hqk.out] at ck
 clear hk
 have HR1 := Lib.hid hR1
 obtain ⟨gn, hgn⟩ : ∃ gn, w.heap.size + 1 = gn := ⟨_, rfl⟩
 rw [hgn] at hR2
 have HR2 := Lib.hid hR2
 have HGne := Lib.hid (show w.heap.size ≠ gn by omega)
 have HGle := Lib.hid (show w.heap.size ≤ gn by omega)
 clear hR1 hR2 hN
 go_wp2_with fail
 refine ByN.marks Pol.mixed (Stg.St gn (fun s => (st2 q s).cells) 40) [By.is (.pointer (some ⟨w.heap.size, 2, none⟩)),
  By.is (.int .u64 (q.ses : Int)),
  By.is (.pointer (some ⟨w.heap.size, 3, none⟩)),
  By.is (.int .u32 (q.epo : Int)),
  By.is (.pointer (some ⟨w.heap.size, 5, none⟩)),
  By.is (arr8 q.rnd),
  By.is (.pointer (some ⟨w.heap.size, 21, none⟩)),
  By.is (arr8 q.mrk),
  By.is (.pointer (some ⟨gn, 2, none⟩)),
  Stg.stM gn (fun s => (st2 q s).cells) 40 1,
  By.is (.pointer (some ⟨gn, 3, none⟩)),
  Stg.stM gn (fun s => (st2 q s).cells) 40 2,
  By.is (.pointer (some ⟨gn, 5, none⟩)),
  Stg.stM gn (fun s => (st2 q s).cells) 40 3,
  By.is (.pointer (some ⟨gn, 21, none⟩)),
  Stg.stM gn (fun s => (st2 q s).cells) 40 4]
  (Ev.masks _ []) (by kernel_rfl) rfl Stg.St.refl Stg.St.trans ⟨?_, ?_, ?_, ?_, ?_, ?_, ?_, ?_, ?_, ?_, ?_, ?_, ?_, ?_, ?_, ?_, trivial⟩ ?_
 · intro a w9 ht hs hg
   have h1 := By.same_get hs 1 (by decide) (by kernel_rfl)
   refine By.yes rfl ?_
   clear hs hg
   go_simp
   exact ⟨_, rfl, Stg.St.refl _, rfl⟩
 · intro a w9 ht hs hg
   have h36 : a.tmps.getD 36 undef = _ := ByN.given_get hg 0 rfl rfl (by kernel_rfl)
   refine By.yes rfl ?_
   clear hs hg
   have hc := c_ses (ht.row (x := W.drew) HR1.out HGne.out)
   clear ht
   go_simp
   exact ⟨_, rfl, Stg.St.refl _, rfl⟩
 · intro a w9 ht hs hg
   have h1 := By.same_get hs 1 (by decide) (by kernel_rfl)
   refine By.yes rfl ?_
   clear hs hg
   go_simp
   exact ⟨_, rfl, Stg.St.refl _, rfl⟩
 · intro a w9 ht hs hg
   have h38 : a.tmps.getD 38 undef = _ := ByN.given_get hg 2 rfl rfl (by kernel_rfl)
   refine By.yes rfl ?_
   clear hs hg
   have hc := c_epo (ht.row (x := W.drew) HR1.out HGne.out)
   clear ht
   go_simp
   exact ⟨_, rfl, Stg.St.refl _, rfl⟩
 · intro a w9 ht hs hg
   have h1 := By.same_get hs 1 (by decide) (by kernel_rfl)
   refine By.yes rfl ?_
   clear hs hg
   go_simp
   exact ⟨_, rfl, Stg.St.refl _, rfl⟩
 · intro a w9 ht hs hg
   have h40 : a.tmps.getD 40 undef = _ := ByN.given_get hg 4 rfl rfl (by kernel_rfl)
   refine By.yes rfl ?_
   clear hs hg
   refine Pol.wp_loadSub (off := 5) (n := 16) 38 _ rfl h40 (ht.row (x := W.drew) HR1.out HGne.out) Tryd.underlying38 rfl (by kernel_rfl) (by rw [Pk.length Hqo.out]; omega) ?_
   exact ⟨_, rfl, Stg.St.refl _, by rw [Pk.rnd_at Hqo.out]; rfl⟩
 · intro a w9 ht hs hg
   have h1 := By.same_get hs 1 (by decide) (by kernel_rfl)
   refine By.yes rfl ?_
   clear hs hg
   go_simp
   exact ⟨_, rfl, Stg.St.refl _, rfl⟩
 · intro a w9 ht hs hg
   have h42 : a.tmps.getD 42 undef = _ := ByN.given_get hg 6 rfl rfl (by kernel_rfl)
   refine By.yes rfl ?_
   clear hs hg
   refine Pol.wp_loadSub (off := 21) (n := 16) 38 _ rfl h42 (ht.row (x := W.drew) HR1.out HGne.out) Tryd.underlying38 rfl (by kernel_rfl) (by rw [Pk.length Hqo.out]; omega) ?_
   exact ⟨_, rfl, Stg.St.refl _, by rw [Pk.mrk_at Hqo.out]; rfl⟩
 · intro a w9 ht hs hg
   have h3 := By.same_get hs 3 (by decide) (by kernel_rfl)
   refine By.yes rfl ?_
   clear hs hg
   go_simp
   exact ⟨_, rfl, Stg.St.refl _, rfl⟩
 · intro a w9 ht hs hg
   have h44 : a.tmps.getD 44 undef = _ := ByN.given_get hg 8 rfl rfl (by kernel_rfl)
   have h37 : a.tmps.getD 37 undef = _ := ByN.given_get hg 1 rfl rfl (by kernel_rfl)
   obtain ⟨s0, _, hrow⟩ := ht.up 0 (show Row W.drew gn (st2 q 0).cells 40 from HR2.out)
   have hst : ∃ s, 1 ≤ s + 1 ∧ Row w9 gn ((fun s => (st2 q s).cells) s) 40 := ⟨s0, by omega, hrow⟩
   refine By.yes rfl ?_
   clear hs hg
   exact Stg.wp_stage (cells := (fun s => (st2 q s).cells)) (n := 1) 1 36 _ _ rfl rfl [.int .u64 (q.ses : Int)] h44 h37 rfl hst (by kernel_rfl) rfl (fun s => by show 2 + 1 ≤ (st2 q s).cells.length; rw [Pk.length (st2_ok q Hqo.out s)]; omega) (by intro v hv; simp at hv; subst hv; rfl) (fun s hs => (sp_ses (st2 q s) q.ses).trans (congrArg Pk.cells (by simp [st2, show 1 ≤ max s 1 by omega, show (2 ≤ max s 1) ↔ (2 ≤ s) by omega, show (3 ≤ max s 1) ↔ (3 ≤ s) by omega, show (4 ≤ max s 1) ↔ (4 ≤ s) by omega])))
 · intro a w9 ht hs hg
   have h3 := By.same_get hs 3 (by decide) (by kernel_rfl)
   refine By.yes rfl ?_
   clear hs hg
   go_simp
   exact ⟨_, rfl, Stg.St.refl _, rfl⟩
 · intro a w9 ht hs hg
   have h45 : a.tmps.getD 45 undef = _ := ByN.given_get hg 10 rfl rfl (by kernel_rfl)
   have h39 : a.tmps.getD 39 undef = _ := ByN.given_get hg 3 rfl rfl (by kernel_rfl)
   have hp := ByN.given_get hg 9 rfl rfl (by kernel_rfl)
   obtain ⟨s0, hs0, hrow⟩ := hp
   have hst : ∃ s, 2 ≤ s + 1 ∧ Row w9 gn ((fun s => (st2 q s).cells) s) 40 := ⟨s0, by omega, hrow⟩
   refine By.yes rfl ?_
   clear hs hg
   exact Stg.wp_stage (cells := (fun s => (st2 q s).cells)) (n := 1) 2 37 _ _ rfl rfl [.int .u32 (q.epo : Int)] h45 h39 rfl hst (by kernel_rfl) rfl (fun s => by show 3 + 1 ≤ (st2 q s).cells.length; rw [Pk.length (st2_ok q Hqo.out s)]; omega) (by intro v hv; simp at hv; subst hv; rfl) (fun s hs => (sp_epo (st2 q s) q.epo).trans (congrArg Pk.cells (by simp [st2, show 1 ≤ s by omega, show 1 ≤ max s 2 by omega, show 2 ≤ max s 2 by omega, show (3 ≤ max s 2) ↔ (3 ≤ s) by omega, show (4 ≤ max s 2) ↔ (4 ≤ s) by omega])))
 · intro a w9 ht hs hg
   have h3 := By.same_get hs 3 (by decide) (by kernel_rfl)
   refine By.yes rfl ?_
   clear hs hg
   go_simp
   exact ⟨_, rfl, Stg.St.refl _, rfl⟩
 · intro a w9 ht hs hg
   have h46 : a.tmps.getD 46 undef = _ := ByN.given_get hg 12 rfl rfl (by kernel_rfl)
   have h41 : a.tmps.getD 41 undef = _ := ByN.given_get hg 5 rfl rfl (by kernel_rfl)
   have hp := ByN.given_get hg 11 rfl rfl (by kernel_rfl)
   obtain ⟨s0, hs0, hrow⟩ := hp
   have hst : ∃ s, 3 ≤ s + 1 ∧ Row w9 gn ((fun s => (st2 q s).cells) s) 40 := ⟨s0, by omega, hrow⟩
   refine By.yes rfl ?_
   clear hs hg
   exact Stg.wp_stage (cells := (fun s => (st2 q s).cells)) (n := 16) 3 38 _ _ rfl rfl (q.rnd.map bv) h46 h41 rfl hst (by kernel_rfl) (by rw [List.length_map]; exact Hqo.out.r) (fun s => by show 5 + (q.rnd.map bv).length ≤ (st2 q s).cells.length; rw [Pk.length (st2_ok q Hqo.out s), List.length_map, Hqo.out.r]; omega) (by intro v hv; simp at hv; obtain ⟨u, _, rfl⟩ := hv; rfl) (fun s hs => (sp_rnd (st2 q s) (st2_ok q Hqo.out s) q.rnd Hqo.out.r).trans (congrArg Pk.cells (by simp [st2, show 1 ≤ s by omega, show 2 ≤ s by omega, show 1 ≤ max s 3 by omega, show 2 ≤ max s 3 by omega, show 3 ≤ max s 3 by omega, show (4 ≤ max s 3) ↔ (4 ≤ s) by omega])))
 · intro a w9 ht hs hg
   have h3 := By.same_get hs 3 (by decide) (by kernel_rfl)
   refine By.yes rfl ?_
   clear hs hg
   go_simp
   exact ⟨_, rfl, Stg.St.refl _, rfl⟩
 · intro a w9 ht hs hg
   have h47 : a.tmps.getD 47 undef = _ := ByN.given_get hg 14 rfl rfl (by kernel_rfl)
   have h43 : a.tmps.getD 43 undef = _ := ByN.given_get hg 7 rfl rfl (by kernel_rfl)
   have hp := ByN.given_get hg 13 rfl rfl (by kernel_rfl)
   obtain ⟨s0, hs0, hrow⟩ := hp
   have hst : ∃ s, 4 ≤ s + 1 ∧ Row w9 gn ((fun s => (st2 q s).cells) s) 40 := ⟨s0, by omega, hrow⟩
   refine By.yes rfl ?_
   clear hs hg
   exact Stg.wp_stage (cells := (fun s => (st2 q s).cells)) (n := 16) 4 38 _ _ rfl rfl (q.mrk.map bv) h47 h43 rfl hst (by kernel_rfl) (by rw [List.length_map]; exact Hqo.out.m) (fun s => by show 21 + (q.mrk.map bv).length ≤ (st2 q s).cells.length; rw [Pk.length (st2_ok q Hqo.out s), List.length_map, Hqo.out.m]; omega) (by intro v hv; simp at hv; obtain ⟨u, _, rfl⟩ := hv; rfl) (fun s hs => (sp_mrk (st2 q s) (st2_ok q Hqo.out s) q.mrk Hqo.out.m).trans (congrArg Pk.cells (by simp [st2, show 1 ≤ s by omega, show 2 ≤ s by omega, show 3 ≤ s by omega, show 1 ≤ max s 4 by omega, show 2 ≤ max s 4 by omega, show 3 ≤ max s 4 by omega, show 4 ≤ max s 4 by omega])))
 refine ByN.ends_is ?_
 refine ByN.ends_is ?_
 refine ByN.ends_is ?_
 refine ByN.ends_is ?_
 refine ByN.ends_is ?_
 refine ByN.ends_is ?_
 refine ByN.ends_is ?_
 refine ByN.ends_is ?_
 refine ByN.ends_is ?_
 refine ByN.ends_skip fun _ => ?_
 refine ByN.ends_is ?_
 refine ByN.ends_skip fun _ => ?_
 refine ByN.ends_is ?_
 refine ByN.ends_skip fun _ => ?_
 refine ByN.ends_is ?_
 refine ByN.ends_any fun _ => ?_
 refine ByN.ends_nil fun W9 hw9 => ?_
 obtain ⟨hw9, hl9⟩ := hw9
 obtain ⟨s9, hs9, hrow9⟩ := (show ∃ s, 4 ≤ s ∧ Row W9 gn (st2 q s).cells 40 from hl9)
 have HRn := Lib.hid (show Row W9 gn N.cells 40 by
  rw [show N = st2 q s9 by rw [← HN.out]; simp [st2, nm, show 1 ≤ s9 by omega, show 2 ≤ s9 by omega, show 3 ≤ s9 by omega, show 4 ≤ s9 by omega]]
  exact hrow9)
 have HRq := Lib.hid (hw9.row (x := W.drew) HR1.out HGne.out)
 have HB9 := Lib.hid (HB.out.drew.trans (hw9.below (x := W.drew) (B := w.heap.size) HGle.out HB.out.size))
 clear hw9 hl9 hrow9 hs9
 simp only [Act.put, List.setIfInBounds_toArray, List.set_cons_succ, List.set_cons_zero]
 have dk := c_kind HRq.out
 have dp := c_peer HRq.out
 have ds := c_ses HRq.out
 have de := c_epo HRq.out
 have dc := c_cnt HRq.out
 have db := c_bo HRq.out Hqo.out
 rw [Hqb.out] at db
 rw [Hqk.out] at dk
 have Hl1 := Lib.hid (l_all HRq.out Hqo.out)
 have Hl2 := Lib.hid (l_all HRn.out hNo)
 have HNo := Lib.hid hNo
 clear hNo
 by_cases f0 : (1 : Int) ≤ (q.ses : Int)
 case neg =>
  go_wp2_with fail
  go_ret
  exact ⟨by rw [chk_no (fun h => by have h := h.1; unfold Head at h; rw [if_neg (show ¬ q.kind = 1 by rw [Hqk.out]; decide), if_pos Hqk.out] at h; omega)]; rfl, HB9.out⟩
 by_cases f1 : (1 : Int) ≤ (q.epo : Int)
 case neg =>
  go_wp2_with fail
  go_ret
  exact ⟨by rw [chk_no (fun h => by have h := h.1; unfold Head at h; rw [if_neg (show ¬ q.kind = 1 by rw [Hqk.out]; decide), if_pos Hqk.out] at h; omega)]; rfl, HB9.out⟩
 have Hf := Lib.hid (show 1 ≤ q.ses ∧ 1 ≤ q.epo by omega)
 by_cases b0 : (n : Int) = 0
 case neg =>
  have b' : ((n : Int) == 0) = false := by rw [beq_eq_false_iff_ne]; exact b0
  go_wp2_with fail
  go_ret
  exact ⟨by rw [chk_no (fun h => by have h := h.2; unfold BodyOk at h; rw [if_neg (by rw [Hqk.out]; decide)] at h; omega)]; rfl, HB9.out⟩
 have b' : ((n : Int) == 0) = true := by rw [b0]; rfl
 have Hbo := Lib.hid (show BodyOk q n by unfold BodyOk; rw [if_neg (by rw [Hqk.out]; decide)]; omega)
 go_wp2_with (first
  | (refine wpList_ld 40 rfl rfl Hl1.out rfl ?_)
  | (refine wpList_ld 40 rfl rfl Hl2.out rfl ?_)
  | fail)
 refine (head_any q N Hqo.out HNo.out _).mono ?_
 rintro e w9 ⟨rfl, hb9⟩
 have HB10 := Lib.hid (nextB HB9.out (Nat.le_refl _) hb9)
 clear hb9
 have hend : alike q N = decide (Head q) := by
  unfold alike
  simp only [← Bool.decide_and]
  refine decide_eq_decide.2 ?_
  unfold Head
  rw [if_neg (show ¬ q.kind = 1 by rw [Hqk.out]; decide), if_pos Hqk.out, ← HN.out]
  have := Hf.out
  have := Hqk.out
  simp only [nm]
  constructor
  · intro h
    simp_all
  · intro h
    simp_all
 have Hend := Lib.hid hend
 clear hend
 by_cases hh : Head q
 · rw [Hend.out, decide_eq_true hh]
   have hc : chk q n = 0 := if_pos ⟨hh, Hbo.out⟩
   clear hh
   go_wp2_with fail
   go_ret
   exact ⟨by rw [hc]; rfl, HB10.out⟩
 · rw [Hend.out, decide_eq_false hh]
   have hc : chk q n = 2 := chk_no (fun h => hh h.1)
   clear hh
   go_wp2_with fail
   go_ret
   exact ⟨by rw [hc]; rfl, HB10.out⟩
set_option maxRecDepth 100000 in
set_option maxHeartbeats 4000000 in
theorem RCheck_3 (q : Pk) (ho : q.Ok) (A : Option Addr) (n c : Nat) (hb : q.bo = .slice A n c) (w : World) (hk : q.kind = 3) : Calls Tryd.prog 62 #[q.val] w fun e w' => e = .returned (.int .i64 (chk q n)) ∧ Below w.heap.size w w' := by
 have hk0 : (w.alloc (.cells q.cells.toArray 40)).cell? ⟨w.heap.size, 0, none⟩ = some (.int .i64 3) := by
  have h2 := c_kind (p := q) (w := w.alloc (.cells q.cells.toArray 40)) (g := w.heap.size) (Row.new rfl rfl)
  exact h2.trans (congrArg (fun z => some (Value.int .i64 z)) hk)
 have Hqo := Lib.hid ho
 have Hqb := Lib.hid hb
 clear ho hb
 unfold Pk.val
 go_enter Tryd.func62, Tryd.ntmps62
 go_wp2_with (first
  | (show wpList _ _ _ (⟨none, Op.store 40 _ _, _, _, _, _⟩ :: _) _ _
     refine wpList_storeRow (g := w.heap.size + 1) rfl 40 _ _ rfl rfl rfl (cs := (nm 3).cells) (old := (nm 0).cells) (Row.new (by simp) rfl) (by kernel_rfl) rfl rfl (Pk.one (nm_ok _)) ?_
     refine wpList_name fun W hW => ?_
     obtain ⟨hR1, hR2, hB⟩ := head_world q (3) w W hW
     have HR1 := Lib.hid hR1
     have HR2 := Lib.hid hR2
     have HB := Lib.hid hB
     refine stop ?_)
  | fail)
 unfold Stop
 have c37 := c_bo hR1 Hqo.out
 rw [Hqb.out] at c37
 clear hk0 hW hB
 have Hqk := Lib.hid hk
 obtain ⟨N, hN⟩ : ∃ N : Pk, { nm 3 with ses := q.ses, epo := q.epo, cnt := q.cnt } = N := ⟨_, rfl⟩
 have hNo : N.Ok := hN ▸ ⟨rfl, rfl, rfl⟩
 have HN := Lib.hid hN
 have ck := c_kind hR1
 rw [Hqk.out] at ck
 clear hk
 have cs := c_ses hR1
 have ce := c_epo hR1
 have cc := c_cnt hR1
 obtain ⟨gn, hgn⟩ : ∃ gn, w.heap.size + 1 = gn := ⟨_, rfl⟩
 rw [hgn] at hR2
 have hne : w.heap.size ≠ gn := by omega
 have hle : w.heap.size ≤ gn := by omega
 have n2 := c_ses hR2
 have f2 := frozen_row hR2 2
 have r2 := hR2.set 2 (.int .u64 (q.ses : Int))
 have n3 : (W.setCell ⟨gn, 2, none⟩ (.int .u64 (q.ses : Int))).cell? ⟨gn, 3, none⟩ = _ := r2.cell rfl
 have f3 := frozen_row r2 3
 have r3 := r2.set 3 (.int .u32 (q.epo : Int))
 have n4 : ((W.setCell ⟨gn, 2, none⟩ (.int .u64 (q.ses : Int))).setCell ⟨gn, 3, none⟩ (.int .u32 (q.epo : Int))).cell? ⟨gn, 4, none⟩ = _ := r3.cell rfl
 have f4 := frozen_row r3 4
 have r4 := r3.set 4 (.int .u64 (q.cnt : Int))
 have HRn0 := Lib.hid (show Row (((W.setCell ⟨gn, 2, none⟩ (.int .u64 (q.ses : Int))).setCell ⟨gn, 3, none⟩ (.int .u32 (q.epo : Int))).setCell ⟨gn, 4, none⟩ (.int .u64 (q.cnt : Int))) gn N.cells 40 from hN ▸ r4)
 have HRq0 := Lib.hid (((hR1.other ⟨gn, 2, none⟩ (.int .u64 (q.ses : Int)) hne).other ⟨gn, 3, none⟩ (.int .u32 (q.epo : Int)) hne).other ⟨gn, 4, none⟩ (.int .u64 (q.cnt : Int)) hne)
 have HB0 := Lib.hid (((HB.out.setCell (p := ⟨gn, 2, none⟩) hle (.int .u64 (q.ses : Int))).setCell (p := ⟨gn, 3, none⟩) hle (.int .u32 (q.epo : Int))).setCell (p := ⟨gn, 4, none⟩) hle (.int .u64 (q.cnt : Int)))
 clear hR1 hR2 r2 r3 r4 hN hne hle
 go_wp2_with fail
 go_region
 refine then_name fun W9 hW9 => ?_
 have HRq := Lib.hid (show Row W9 w.heap.size q.cells 40 from hW9 ▸ HRq0.out)
 have HRn := Lib.hid (show Row W9 gn N.cells 40 from hW9 ▸ HRn0.out)
 have HB9 := Lib.hid (show Below w.heap.size w W9 from hW9 ▸ HB0.out.drew)
 clear HRq0 HRn0 HB0 hW9 cs ce cc n2 n3 n4 f2 f3 f4
 have dk := c_kind HRq.out
 have dp := c_peer HRq.out
 have ds := c_ses HRq.out
 have de := c_epo HRq.out
 have dc := c_cnt HRq.out
 have db := c_bo HRq.out Hqo.out
 rw [Hqb.out] at db
 rw [Hqk.out] at dk
 have Hl1 := Lib.hid (l_all HRq.out Hqo.out)
 have Hl2 := Lib.hid (l_all HRn.out hNo)
 have HNo := Lib.hid hNo
 clear hNo
 by_cases f0 : (1 : Int) ≤ (q.ses : Int)
 case neg =>
  by_cases b0 : (16 : Int) ≤ (n : Int)
  all_goals by_cases b1 : (n : Int) ≤ (65552 : Int)
  all_goals first | have e0 := decide_eq_true b0 | have e0 := decide_eq_false b0
  all_goals first | have e1 := decide_eq_true b1 | have e1 := decide_eq_false b1
  all_goals try (exfalso; omega)
  all_goals
   go_wp2_with fail
   go_ret
   exact ⟨by rw [chk_no (fun h => by have h := h.1; unfold Head at h; rw [if_neg (show ¬ q.kind = 1 by rw [Hqk.out]; decide), if_neg (show ¬ q.kind = 2 by rw [Hqk.out]; decide), if_pos Hqk.out] at h; omega)]; rfl, HB9.out⟩
 by_cases f1 : (1 : Int) ≤ (q.epo : Int)
 case neg =>
  by_cases b0 : (16 : Int) ≤ (n : Int)
  all_goals by_cases b1 : (n : Int) ≤ (65552 : Int)
  all_goals first | have e0 := decide_eq_true b0 | have e0 := decide_eq_false b0
  all_goals first | have e1 := decide_eq_true b1 | have e1 := decide_eq_false b1
  all_goals try (exfalso; omega)
  all_goals
   go_wp2_with fail
   go_ret
   exact ⟨by rw [chk_no (fun h => by have h := h.1; unfold Head at h; rw [if_neg (show ¬ q.kind = 1 by rw [Hqk.out]; decide), if_neg (show ¬ q.kind = 2 by rw [Hqk.out]; decide), if_pos Hqk.out] at h; omega)]; rfl, HB9.out⟩
 by_cases f2 : (1 : Int) ≤ (q.cnt : Int)
 case neg =>
  by_cases b0 : (16 : Int) ≤ (n : Int)
  all_goals by_cases b1 : (n : Int) ≤ (65552 : Int)
  all_goals first | have e0 := decide_eq_true b0 | have e0 := decide_eq_false b0
  all_goals first | have e1 := decide_eq_true b1 | have e1 := decide_eq_false b1
  all_goals try (exfalso; omega)
  all_goals
   go_wp2_with fail
   go_ret
   exact ⟨by rw [chk_no (fun h => by have h := h.1; unfold Head at h; rw [if_neg (show ¬ q.kind = 1 by rw [Hqk.out]; decide), if_neg (show ¬ q.kind = 2 by rw [Hqk.out]; decide), if_pos Hqk.out] at h; omega)]; rfl, HB9.out⟩
 by_cases f3 : (q.cnt : Int) ≤ (1152921504606846976 : Int)
 case neg =>
  by_cases b0 : (16 : Int) ≤ (n : Int)
  all_goals by_cases b1 : (n : Int) ≤ (65552 : Int)
  all_goals first | have e0 := decide_eq_true b0 | have e0 := decide_eq_false b0
  all_goals first | have e1 := decide_eq_true b1 | have e1 := decide_eq_false b1
  all_goals try (exfalso; omega)
  all_goals
   go_wp2_with fail
   go_ret
   exact ⟨by rw [chk_no (fun h => by have h := h.1; unfold Head at h; rw [if_neg (show ¬ q.kind = 1 by rw [Hqk.out]; decide), if_neg (show ¬ q.kind = 2 by rw [Hqk.out]; decide), if_pos Hqk.out] at h; omega)]; rfl, HB9.out⟩
 have Hf := Lib.hid (show 1 ≤ q.ses ∧ 1 ≤ q.epo ∧ 1 ≤ q.cnt ∧ q.cnt ≤ 1152921504606846976 by omega)
 by_cases b0 : (16 : Int) ≤ (n : Int)
 case neg =>
  go_wp2_with fail
  go_ret
  exact ⟨by rw [chk_no (fun h => by have h := h.2; unfold BodyOk at h; rw [if_pos (by rw [Hqk.out])] at h; omega)]; rfl, HB9.out⟩
 by_cases b1 : (n : Int) ≤ (65552 : Int)
 case neg =>
  go_wp2_with fail
  go_ret
  exact ⟨by rw [chk_no (fun h => by have h := h.2; unfold BodyOk at h; rw [if_pos (by rw [Hqk.out])] at h; omega)]; rfl, HB9.out⟩
 have Hbo := Lib.hid (show BodyOk q n by unfold BodyOk; rw [if_pos (by rw [Hqk.out])]; omega)
 go_wp2_with (first
  | (refine wpList_ld 40 rfl rfl Hl1.out rfl ?_)
  | (refine wpList_ld 40 rfl rfl Hl2.out rfl ?_)
  | fail)
 refine (head_any q N Hqo.out HNo.out _).mono ?_
 rintro e w9 ⟨rfl, hb9⟩
 have HB10 := Lib.hid (nextB HB9.out (Nat.le_refl _) hb9)
 clear hb9
 have hend : alike q N = decide (Head q) := by
  unfold alike
  simp only [← Bool.decide_and]
  refine decide_eq_decide.2 ?_
  unfold Head
  rw [if_neg (show ¬ q.kind = 1 by rw [Hqk.out]; decide), if_neg (show ¬ q.kind = 2 by rw [Hqk.out]; decide), if_pos Hqk.out, ← HN.out]
  have := Hf.out
  have := Hqk.out
  simp only [nm]
  constructor
  · intro h
    simp_all
  · intro h
    simp_all
 have Hend := Lib.hid hend
 clear hend
 by_cases hh : Head q
 · rw [Hend.out, decide_eq_true hh]
   have hc : chk q n = 0 := if_pos ⟨hh, Hbo.out⟩
   clear hh
   go_wp2_with fail
   go_ret
   exact ⟨by rw [hc]; rfl, HB10.out⟩
 · rw [Hend.out, decide_eq_false hh]
   have hc : chk q n = 2 := chk_no (fun h => hh h.1)
   clear hh
   go_wp2_with fail
   go_ret
   exact ⟨by rw [hc]; rfl, HB10.out⟩
set_option maxRecDepth 100000 in
set_option maxHeartbeats 4000000 in
theorem RCheck_4 (q : Pk) (ho : q.Ok) (A : Option Addr) (n c : Nat) (hb : q.bo = .slice A n c) (w : World) (hk : q.kind = 4) : Calls Tryd.prog 62 #[q.val] w fun e w' => e = .returned (.int .i64 (chk q n)) ∧ Below w.heap.size w w' := by
 have hk0 : (w.alloc (.cells q.cells.toArray 40)).cell? ⟨w.heap.size, 0, none⟩ = some (.int .i64 4) := by
  have h2 := c_kind (p := q) (w := w.alloc (.cells q.cells.toArray 40)) (g := w.heap.size) (Row.new rfl rfl)
  exact h2.trans (congrArg (fun z => some (Value.int .i64 z)) hk)
 have Hqo := Lib.hid ho
 have Hqb := Lib.hid hb
 clear ho hb
 unfold Pk.val
 go_enter Tryd.func62, Tryd.ntmps62
 go_wp2_with (first
  | (show wpList _ _ _ (⟨none, Op.store 40 _ _, _, _, _, _⟩ :: _) _ _
     refine wpList_storeRow (g := w.heap.size + 1) rfl 40 _ _ rfl rfl rfl (cs := (nm 4).cells) (old := (nm 0).cells) (Row.new (by simp) rfl) (by kernel_rfl) rfl rfl (Pk.one (nm_ok _)) ?_
     refine wpList_name fun W hW => ?_
     obtain ⟨hR1, hR2, hB⟩ := head_world q (4) w W hW
     have HR1 := Lib.hid hR1
     have HR2 := Lib.hid hR2
     have HB := Lib.hid hB
     refine stop ?_)
  | fail)
 unfold Stop
 have c37 := c_bo hR1 Hqo.out
 rw [Hqb.out] at c37
 clear hk0 hW hB
 have Hqk := Lib.hid hk
 obtain ⟨N, hN⟩ : ∃ N : Pk, { nm 4 with ses := q.ses } = N := ⟨_, rfl⟩
 have hNo : N.Ok := hN ▸ ⟨rfl, rfl, rfl⟩
 have HN := Lib.hid hN
 have ck := c_kind hR1
 rw [Hqk.out] at ck
 clear hk
 have cs := c_ses hR1
 have ns := c_ses hR2
 have fr := frozen_row hR2 2
 have hrn := hR2.set 2 (.int .u64 (q.ses : Int))
 have HRn := Lib.hid (show Row (W.setCell ⟨w.heap.size + 1, 2, none⟩ (.int .u64 (q.ses : Int))) (w.heap.size + 1) N.cells 40 from hN ▸ hrn)
 have HRq := Lib.hid (hR1.other ⟨w.heap.size + 1, 2, none⟩ (.int .u64 (q.ses : Int)) (by dsimp only; omega))
 have HB9 := Lib.hid (HB.out.setCell (p := ⟨w.heap.size + 1, 2, none⟩) (show w.heap.size ≤ w.heap.size + 1 by omega) (.int .u64 (q.ses : Int)))
 clear hR1 hR2 hrn hN
 have dk := c_kind HRq.out
 have dp := c_peer HRq.out
 have ds := c_ses HRq.out
 have de := c_epo HRq.out
 have dc := c_cnt HRq.out
 have db := c_bo HRq.out Hqo.out
 rw [Hqb.out] at db
 rw [Hqk.out] at dk
 have Hl1 := Lib.hid (l_all HRq.out Hqo.out)
 have Hl2 := Lib.hid (l_all HRn.out hNo)
 have HNo := Lib.hid hNo
 clear hNo
 by_cases f0 : (1 : Int) ≤ (q.ses : Int)
 case neg =>
  go_wp2_with fail
  go_ret
  exact ⟨by rw [chk_no (fun h => by have h := h.1; unfold Head at h; rw [if_neg (show ¬ q.kind = 1 by rw [Hqk.out]; decide), if_neg (show ¬ q.kind = 2 by rw [Hqk.out]; decide), if_neg (show ¬ q.kind = 3 by rw [Hqk.out]; decide), if_pos Hqk.out] at h; omega)]; rfl, HB9.out⟩
 have Hf := Lib.hid (show 1 ≤ q.ses by omega)
 by_cases b0 : (n : Int) = 0
 case neg =>
  have b' : ((n : Int) == 0) = false := by rw [beq_eq_false_iff_ne]; exact b0
  go_wp2_with fail
  go_ret
  exact ⟨by rw [chk_no (fun h => by have h := h.2; unfold BodyOk at h; rw [if_neg (by rw [Hqk.out]; decide)] at h; omega)]; rfl, HB9.out⟩
 have b' : ((n : Int) == 0) = true := by rw [b0]; rfl
 have Hbo := Lib.hid (show BodyOk q n by unfold BodyOk; rw [if_neg (by rw [Hqk.out]; decide)]; omega)
 go_wp2_with (first
  | (refine wpList_ld 40 rfl rfl Hl1.out rfl ?_)
  | (refine wpList_ld 40 rfl rfl Hl2.out rfl ?_)
  | fail)
 refine (head_any q N Hqo.out HNo.out _).mono ?_
 rintro e w9 ⟨rfl, hb9⟩
 have HB10 := Lib.hid (nextB HB9.out (Nat.le_refl _) hb9)
 clear hb9
 have hend : alike q N = decide (Head q) := by
  unfold alike
  simp only [← Bool.decide_and]
  refine decide_eq_decide.2 ?_
  unfold Head
  rw [if_neg (show ¬ q.kind = 1 by rw [Hqk.out]; decide), if_neg (show ¬ q.kind = 2 by rw [Hqk.out]; decide), if_neg (show ¬ q.kind = 3 by rw [Hqk.out]; decide), if_pos Hqk.out, ← HN.out]
  have := Hf.out
  have := Hqk.out
  simp only [nm]
  constructor
  · intro h
    simp_all
  · intro h
    simp_all
 have Hend := Lib.hid hend
 clear hend
 by_cases hh : Head q
 · rw [Hend.out, decide_eq_true hh]
   have hc : chk q n = 0 := if_pos ⟨hh, Hbo.out⟩
   clear hh
   go_wp2_with fail
   go_ret
   exact ⟨by rw [hc]; rfl, HB10.out⟩
 · rw [Hend.out, decide_eq_false hh]
   have hc : chk q n = 2 := chk_no (fun h => hh h.1)
   clear hh
   go_wp2_with fail
   go_ret
   exact ⟨by rw [hc]; rfl, HB10.out⟩
theorem RCheck_any (q : Pk) (ho : q.Ok) (A : Option Addr) (n c : Nat) (hb : q.bo = .slice A n c) (w : World) : Calls Tryd.prog 62 #[q.val] w fun e w' => e = .returned (.int .i64 (chk q n)) ∧ Below w.heap.size w w' := by
 by_cases k1 : q.kind = 1
 · exact RCheck_1 q ho A n c hb w k1
 by_cases k2 : q.kind = 2
 · exact RCheck_2 q ho A n c hb w k2
 by_cases k3 : q.kind = 3
 · exact RCheck_3 q ho A n c hb w k3
 by_cases k4 : q.kind = 4
 · exact RCheck_4 q ho A n c hb w k4
 exact RCheck_x q ho A n c hb w k1 k2 k3 k4
end Go.Proofs.YtbdpnpabpcidkaaDoor.Pkt
