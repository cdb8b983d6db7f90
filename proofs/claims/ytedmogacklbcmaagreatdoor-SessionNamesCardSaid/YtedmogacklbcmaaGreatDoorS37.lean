/- Texts that the proofs share: PktBase, PolCalls, PolNew, PolTag, PolWrite, PolKey, PolMath, AeadPure, AeadEqual, EqKit. -/
import Derived.Test.YtedmogacklbcmaaGreatDoorS17
import Derived.Test.YtedmogacklbcmaaGreatDoorS19
import Derived.Test.YtedmogacklbcmaaGreatDoorS26
import Derived.Test.YtedmogacklbcmaaGreatDoorS29
import Derived.Test.YtedmogacklbcmaaGreatDoorS34
import Derived.BigFrame
import Derived.Laws.CopyOwn
namespace Go.Proofs.YtedmogacklbcmaaGreatDoor.Pkt
open Go.RowKit
structure Pk where
 kind : Int
 peer : Int
 ses : Nat
 epo : Nat
 cnt : Nat
 rnd : List UInt8
 mrk : List UInt8
 bo : Value
def Pk.cells (p : Pk) : List Value := .int .i64 p.kind :: .int .i64 p.peer :: .int .u64 (p.ses : Int) :: .int .u32 (p.epo : Int) :: .int .u64 (p.cnt : Int) :: (p.rnd.map bv ++ (p.mrk.map bv ++ [p.bo]))
def Pk.val (p : Pk) : Value := .agg p.cells.toArray
structure Pk.Ok (p : Pk) : Prop where
 r : p.rnd.length = 16
 m : p.mrk.length = 16
 b : p.bo.oneCell' = true
namespace Pk
variable {p : Pk}
theorem length (h : p.Ok) : p.cells.length = 38 := by simp [cells, h.r, h.m]
theorem rnd_at (h : p.Ok) : (p.cells.drop 5).take 16 = p.rnd.map bv := by
 show (p.rnd.map bv ++ (p.mrk.map bv ++ [p.bo])).take 16 = _
 rw [List.take_left' (by rw [List.length_map, h.r])]
theorem mrk_at (h : p.Ok) : (p.cells.drop 21).take 16 = p.mrk.map bv := by
 show ((p.rnd.map bv ++ (p.mrk.map bv ++ [p.bo])).drop 16).take 16 = _
 rw [List.drop_left' (by rw [List.length_map, h.r]), List.take_left' (by rw [List.length_map, h.m])]
theorem bo_at (h : p.Ok) : p.cells[37]? = some p.bo := by
 show (p.rnd.map bv ++ (p.mrk.map bv ++ [p.bo]))[32]? = _
 rw [List.getElem?_append_right (by rw [List.length_map, h.r]; omega), List.length_map, h.r, List.getElem?_append_right (by rw [List.length_map, h.m]; omega), List.length_map, h.m]
 rfl
theorem set_bo (h : p.Ok) (v : Value) : p.cells.set 37 v = { p with bo := v }.cells := by
 show _ :: _ :: _ :: _ :: _ :: (p.rnd.map bv ++ (p.mrk.map bv ++ [p.bo])).set 32 v = _
 rw [List.set_append_right _ _ (by rw [List.length_map, h.r]; omega), List.length_map, h.r, List.set_append_right _ _ (by rw [List.length_map, h.m]; omega), List.length_map, h.m]
 rfl
theorem one (h : p.Ok) : ∀ v ∈ p.cells, v.oneCell' = true := by
 intro v hv
 simp only [cells, List.mem_cons, List.mem_append, List.mem_map, List.not_mem_nil, or_false] at hv
 rcases hv with rfl | rfl | rfl | rfl | rfl | ⟨u, _, rfl⟩ | ⟨u, _, rfl⟩ | rfl
 · rfl
 · rfl
 · rfl
 · rfl
 · rfl
 · rfl
 · rfl
 · exact h.b
theorem with_bo (h : p.Ok) {v : Value} (hv : v.oneCell' = true) : Ok { p with bo := v } := ⟨h.r, h.m, hv⟩
end Pk
section
variable {p : Pk} {w : World} {g : Nat}
theorem c_kind (h : Row w g p.cells 40) : w.cell? ⟨g, 0, none⟩ = some (.int .i64 p.kind) := h.cell rfl
theorem c_peer (h : Row w g p.cells 40) : w.cell? ⟨g, 1, none⟩ = some (.int .i64 p.peer) := h.cell rfl
theorem c_ses (h : Row w g p.cells 40) : w.cell? ⟨g, 2, none⟩ = some (.int .u64 (p.ses : Int)) := h.cell rfl
theorem c_epo (h : Row w g p.cells 40) : w.cell? ⟨g, 3, none⟩ = some (.int .u32 (p.epo : Int)) := h.cell rfl
theorem c_cnt (h : Row w g p.cells 40) : w.cell? ⟨g, 4, none⟩ = some (.int .u64 (p.cnt : Int)) := h.cell rfl
theorem c_bo (h : Row w g p.cells 40) (ho : p.Ok) : w.cell? ⟨g, 37, none⟩ = some p.bo := h.cell (Pk.bo_at ho)
theorem l_rnd (h : Row w g p.cells 40) (ho : p.Ok) : (loadVar 37 ⟨g, 5, none⟩).run Tryz.prog w = .ok (arr8 p.rnd) w := by
 rw [Pol.run_loadVar_sub (off := 5) (n := 16) w h Tryz.underlying37 rfl (by kernel_rfl) (by rw [Pk.length ho]; omega), Pk.rnd_at ho]
 rfl
theorem l_mrk (h : Row w g p.cells 40) (ho : p.Ok) : (loadVar 37 ⟨g, 21, none⟩).run Tryz.prog w = .ok (arr8 p.mrk) w := by
 rw [Pol.run_loadVar_sub (off := 21) (n := 16) w h Tryz.underlying37 rfl (by kernel_rfl) (by rw [Pk.length ho]; omega), Pk.mrk_at ho]
 rfl
theorem l_all (h : Row w g p.cells 40) (ho : p.Ok) : (loadVar 40 ⟨g, 0, none⟩).run Tryz.prog w = .ok p.val w := by
 rw [Pol.run_loadVar_sub (off := 0) (n := 38) w h Tryz.underlying40 rfl (by kernel_rfl) (by rw [Pk.length ho]; omega), List.drop_zero, List.take_of_length_le (by rw [Pk.length ho]; omega)]
 rfl
end
theorem eqg16 (x y : List UInt8) (u v : Operand) (w : World) : (eqGuard .eql 37 u v (arr8 x) (arr8 y)).run Tryz.prog w = .ok () w := by
 have hg : Tryz.prog.eqGuardType Tryz.prog.depth 37 = false := by kernel_rfl
 unfold arr8
 simp [eqGuard, Sem.run_bind, hg]
theorem eqv16 (x y : List UInt8) (hx : x.length = 16) (hy : y.length = 16) (w : World) : (binOp .eql 37 (arr8 x) (arr8 y)).run Tryz.prog w = .ok (.bool (decide (x = y))) w := by
 have h := run_eql_arr8 (P := Tryz.prog) Tryz.underlying37 Tryz.underlying5 (by kernel_rfl) x y hx hy w
 unfold arr8 at h ⊢
 simp [binOp, h]
theorem wpList_name {P : Program} {ops : Array Oper} {l : List Oper} {a : Act} {w : World} {Q : Exit → Act → World → Prop} (h : ∀ W, w = W → wpList P ops Q l a W) : wpList P ops Q l a w := h w rfl
theorem code_name {P : Program} {c : Code} {Q : Exit → Act → World → Prop} {a : Act} {w : World} (h : ∀ W, w = W → Code.wp P c Q a W) : Code.wp P c Q a w := h w rfl
theorem wpList_ld {P : Program} {ops : Array Oper} {rest : List Oper} {o : Oper} {a : Act} {w : World} {Q : Exit → Act → World → Prop} (ty : TypeId) {x : Operand} {ad : Addr} {v : Value} (ho : o.op = .load ty x) (hx : a.eval x = .pointer (some ad)) (hrun : (loadVar ty ad).run P w = .ok v w)
 (hw : Region.wanted o (yielded ops a.tmps) = true) (hk : wpList P ops Q rest (a.put o.dst v) w) : wpList P ops Q (o :: rest) a w :=
 BigFrame.wpList_want hw fun K hK => by
  unfold Oper.wp execOp
  simp only [ho, hx, Instr.loadAt, Instr.sureAddr, Sem.run_bind, Sem.run_pure, Result.andThen_ok, hrun]
  exact hK _ _ hk
end Go.Proofs.YtedmogacklbcmaaGreatDoor.Pkt
namespace Go.Proofs.YtedmogacklbcmaaGreatDoor
open Go.RowKit
namespace Pol
open Poly (L)
def lv (a : L) : Value := (PolyI.ofL a).v
def lc (a : L) : List Value := [.int .u64 a.a0, .int .u64 a.a1, .int .u64 a.a2, .int .u64 a.a3, .int .u64 a.a4]
theorem plus_any {a b : L} (h : Poly.Sum3 (Poly.plus a b)) (w : World) : Calls Tryz.prog 87 #[lv a, lv b] w fun e w1 => e = .returned (lv (Poly.plus a b)) ∧ Below w.heap.size w w1 := by
 have hev := PolyI.plus_ev (PolyI.ofL a) (PolyI.ofL b)
 rw [PolyI.plus_is h] at hev
 exact Ev.calls_ans (l := []) mixed (by decide) (by simp) (by simp) (flat_args rfl) hev rfl
theorem carry_any {a : L} (h : Poly.Wide a) (w : World) : Calls Tryz.prog 86 #[lv a] w fun e w1 => e = .returned (.tuple #[lv (Poly.carry a).1, .int .u64 ((Poly.carry a).2 : Int)]) ∧ Below w.heap.size w w1 := by
 have hev := PolyI.carry_ev (PolyI.ofL a)
 rw [(PolyI.carry_is h).1, (PolyI.carry_is h).2] at hev
 exact Ev.calls_ans (l := []) mixed (by decide) (by simp) (by simp) (flat_args rfl) hev rfl
theorem reduce_any {a : L} (h : Poly.Loose a) (w : World) : Calls Tryz.prog 88 #[lv a] w fun e w1 => e = .returned (lv (Poly.red a)) ∧ Below w.heap.size w w1 := by
 have hev := PolyI.reduce_ev (PolyI.ofL a)
 rw [PolyI.reduce_is h] at hev
 exact Ev.calls_ans (l := []) mixed (by decide) (by simp) (by simp) (flat_args rfl) hev rfl
theorem bytes_any {a : L} (h : Poly.Fit a) (w : World) : Calls Tryz.prog 89 #[lv a] w fun e w1 => e = .returned (arr8 (Poly.bytes16 (Poly.val a))) ∧ Below w.heap.size w w1 := by
 have hev := PolyI.bytes_ev (PolyI.ofL a)
 have hb := PolyI.bytes_is h
 rw [hb] at hev
 exact Ev.calls_ans (l := []) mixed (by decide) (by simp) (by simp) (flat_args rfl) hev (by rw [← hb]; rfl)
theorem cells_nums (l : List UInt8) : PolyI.cells (PolyI.nums l) = l.map bv := by simp [PolyI.cells, PolyI.nums, bv]
theorem next_any {s r : L} (hs : Poly.Loose s) (hr : Poly.Fit r) (v : Value) (l : List UInt8) (h0 : 0 < l.length) (hl : l.length ≤ 16) (w : World) (hb : Bs w w.heap.size v l) :
 Calls Tryz.prog 85 #[lv s, lv r, v] w fun e w1 => e = .returned (lv (Poly.next s r (Poly.le l + 256 ^ l.length))) ∧ Below w.heap.size w w1 := by
 obtain ⟨A, c, rfl, hc, hcs⟩ := hb
 obtain ⟨b, off, rfl, hlt, hcell⟩ := hcs (by intro h; subst h; simp at h0)
 have hlen : (PolyI.nums l).length = l.length := by simp [PolyI.nums]
 have hev := PolyI.next_ev (PolyI.ofL s) (PolyI.ofL r) (PolyI.nums l) (by omega) (by omega)
 rw [PolyI.next_is hs hr l hl, cells_nums, hlen] at hev
 refine Ev.calls_ans (l := [(⟨l.map bv, 5, 3⟩, ⟨b, off, c - l.length⟩)]) mixed (by simp) ?_ (by simp) ?_ hev rfl
 · intro x hx
   simp only [List.mem_singleton] at hx
   subst hx
   refine ⟨?_, .inr ⟨rfl, fun h => h, hlt, fun j u hu => ?_⟩⟩
   · simp only [List.all_eq_true, List.mem_map]
     rintro _ ⟨u, _, rfl⟩
     rfl
   · simp only [List.getElem?_map, Option.map_eq_some_iff] at hu
     obtain ⟨u', hu', rfl⟩ := hu
     exact hcell j u' hu'
 · refine .cons (.flat rfl) (.cons (.flat rfl) (.cons ?_ (.nil _)))
   have := Ev.VR.slice (β := Ev.pl [(⟨l.map bv, 5, 3⟩, ⟨b, off, c - l.length⟩)]) (a := ⟨0, 0, none⟩) (a' := ⟨b, off + 0, none⟩) (n := l.length) (c := l.length) (bi := ⟨b, off, c - l.length⟩) ⟨rfl, _, rfl, rfl⟩ rfl
   rw [Nat.add_zero, show l.length + (c - l.length) = c by omega] at this
   exact this
/-! ### A mac in memory -/
def macCells (r s sum : L) (rest : List UInt8) (size : Nat) : List Value := .bool true :: (lc r ++ (lc s ++ (lc sum ++ (rest.map bv ++ [.int .i64 size]))))
theorem macCells_length (r s sum : L) (rest : List UInt8) (size : Nat) (h : rest.length = 16) : (macCells r s sum rest size).length = 33 := by simp [macCells, lc, h]
theorem mac_r (r s sum : L) (rest : List UInt8) (size : Nat) : ((macCells r s sum rest size).drop 1).take 5 = lc r := by simp [macCells, lc]
theorem mac_s (r s sum : L) (rest : List UInt8) (size : Nat) : ((macCells r s sum rest size).drop 6).take 5 = lc s := by simp [macCells, lc]
theorem mac_sum (r s sum : L) (rest : List UInt8) (size : Nat) : ((macCells r s sum rest size).drop 11).take 5 = lc sum := by simp [macCells, lc]
theorem mac_rest (r s sum : L) (rest : List UInt8) (size : Nat) (i : Nat) (u : UInt8) (hu : rest[i]? = some u) : (macCells r s sum rest size)[16 + i]? = some (bv u) := by
 have hi : i < rest.length := (List.getElem?_eq_some_iff.1 hu).1
 rw [show 16 + i = i + 15 + 1 by omega]
 simp only [macCells, List.getElem?_cons_succ, lc, List.cons_append, List.nil_append]
 rw [List.getElem?_append_left (by simpa using hi), List.getElem?_map, hu]
 rfl
theorem mac_size (r s sum : L) (rest : List UInt8) (size : Nat) (h : rest.length = 16) : (macCells r s sum rest size)[32]? = some (.int .i64 size) := by
 simp only [macCells, lc, List.cons_append, List.nil_append]
 rw [show 32 = 16 + 15 + 1 from rfl]
 simp only [List.getElem?_cons_succ]
 rw [List.getElem?_append_right (by simp [h])]
 simp [h]
theorem valid_any {w : World} {g : Nat} {cs : List Value} (h : Row w g (.bool true :: cs) 155) : Calls Tryz.prog 84 #[.pointer (some ⟨g, 0, none⟩)] w fun e w1 => e = .returned (.bool true) ∧ w = w1 := by
 have hc := h.cell (i := 0) rfl
 go_enter Tryz.func84, Tryz.ntmps84
 go_wp2
 go_ret
 exact ⟨rfl, rfl⟩
end Pol
end Go.Proofs.YtedmogacklbcmaaGreatDoor
namespace Go.Proofs.YtedmogacklbcmaaGreatDoor
open Go.RowKit
namespace PolyI
set_option maxRecDepth 100000
abbrev c15 (x : Int) : Int := oand .u8 x ((15 : Nat) : Int)
abbrev c252 (x : Int) : Int := oand .u8 x ((252 : Nat) : Int)
def clamp : List Int → List Int
 | k0 :: k1 :: k2 :: k3 :: k4 :: k5 :: k6 :: k7 :: k8 :: k9 :: k10 :: k11 :: k12 :: k13 :: k14 :: k15 :: _ => [k0, k1, k2, c15 k3, c252 k4, k5, k6, c15 k7, c252 k8, k9, k10, c15 k11, c252 k12, k13, k14, c15 k15]
 | _ => []
where
 r15 (x : Int) : Int := x.tmod 16
 r252 (x : Int) : Int := omul .u8 (IntKind.u8.wrap (x.tdiv 4)) 4
def lcells (a : I5) : List Value := [u6 a.a0, u6 a.a1, u6 a.a2, u6 a.a3, u6 a.a4]
def newCells (key : List Int) : List Value :=
 .bool true :: (lcells (number (clamp key) ((0 : Nat) : Int)) ++ (lcells (number (key.drop 16) ((0 : Nat) : Int)) ++ ([u6 ((0 : Nat) : Int), u6 ((0 : Nat) : Int), u6 ((0 : Nat) : Int), u6 ((0 : Nat) : Int), u6 ((0 : Nat) : Int)] ++ (List.replicate 16 (u8 ((0 : Nat) : Int)) ++ [.int .i64 ((0 : Nat) : Int)]))))
theorem New_ev : ∀ key : List Int, key.length = 32 → Ev.ansBlk Tryz.prog 2000 69 #[.agg (key.map u8).toArray] [] = some ⟨newCells key, 155, 0⟩
 | [_, _, _, _, _, _, _, _, _, _, _, _, _, _, _, _, _, _, _, _, _, _, _, _, _, _, _, _, _, _, _, _], _ => by kernel_rfl
end PolyI
end Go.Proofs.YtedmogacklbcmaaGreatDoor
namespace Go.Proofs.YtedmogacklbcmaaGreatDoor
open Go.RowKit
namespace Pol
open Poly (L)
def fin (r sum : L) (rest : List UInt8) (size : Nat) : L := if 0 < size % 16 then Poly.next sum r (Poly.le (rest.take (size % 16)) + 256 ^ (size % 16)) else sum
theorem lc_one (a : L) : ∀ v ∈ lc a, v.oneCell' = true := by
 intro v hv
 simp only [lc, List.mem_cons, List.not_mem_nil, or_false] at hv
 rcases hv with rfl | rfl | rfl | rfl | rfl <;> rfl
theorem bytes1 (l : List UInt8) : ∀ v ∈ l.map bv, v.oneCell' = true := by
 intro v hv
 rw [List.mem_map] at hv
 obtain ⟨u, _, rfl⟩ := hv
 rfl
def rowM (B : Nat) (cs : List Value) (t : TypeId) : By.Mark Grew := ⟨fun v w => ∃ q, v = .pointer (some ⟨q, 0, none⟩) ∧ B ≤ q ∧ Row w q cs t, fun _ _ _ ⟨q, h1, h2, h3⟩ k => ⟨q, h1, h2, h3.below k h3.lt⟩⟩
theorem rem16 (n : Nat) : ((n : Int).tmod 16) = ((n % 16 : Nat) : Int) := by rw [Int.tmod_eq_emod_of_nonneg (by omega)]; omega
set_option maxRecDepth 8000 in
set_option maxHeartbeats 1000000 in
theorem MTag_some {w : World} {g : Nat} {r s sum : L} {rest : List UInt8} {size : Nat} (hrest : rest.length = 16) (hsum : Poly.Loose sum) (hr : Poly.Fit r) (hs : Poly.Fit s) (hsz : size < 4611686018427387904) (h : Row w g (macCells r s sum rest size) 155) (h0 : 0 < size % 16) :
 Calls Tryz.prog 74 #[.pointer (some ⟨g, 0, none⟩)] w fun e w1 => e = .returned (arr8 (Poly.bytes16 (Poly.val (Poly.red (fin r sum rest size)) + Poly.val s))) ∧ Below w.heap.size w w1 := by
 have hg := h.lt
 have hl33 := macCells_length r s sum rest size hrest
 have hsize := (h.alloc (.cells ((List.replicate 16 (0 : UInt8)).map bv).toArray 37)).cell (mac_size r s sum rest size hrest)
 have h0' : (0 : Int) < (size : Int) % 16 := by omega
 have h1' : (size : Int) % 16 ≤ 16 := by omega
 have h2' : (0 : Int) ≤ (size : Int) % 16 := by omega
 have H := Lib.hid h
 have Hl := Lib.hid hl33
 have Hm := Lib.hid (mac_sum r s sum rest size)
 clear h hl33
 go_enter Tryz.func74, Tryz.ntmps74
 go_wp2_with (first
  | (go_at_call 84; refine (valid_any (H.out.alloc _)).mono ?_; rintro e w' ⟨rfl, rfl⟩)
  | (refine wpList_loadSub (n := 5) rfl 152 _ rfl rfl (H.out.alloc _) Tryz.underlying152 rfl (by kernel_rfl) (by rw [Hl.out]; decide) ?_; rw [Hm.out])
  | (refine wpList_storeRow (n := 5) rfl 152 _ _ rfl rfl rfl (cs := lc sum) (old := List.replicate 5 (.int .u64 0)) (Row.new (by simp) rfl) (by kernel_rfl) rfl (by simp) (lc_one sum) ?_
     obtain ⟨W, hW⟩ : ∃ W, ((w.alloc (.cells ((List.replicate 16 (0 : UInt8)).map bv).toArray 37)).alloc (.cells (List.replicate 5 (.int .u64 0)).toArray 152)).setRow (w.heap.size + 1) (lc sum).toArray = W := ⟨_, rfl⟩
     have hWm : Row W g (macCells r s sum rest size) 155 := hW ▸ ((H.out.alloc _).alloc _).setOther _ _ (by omega)
     have hW2 : Row W w.heap.size ((List.replicate 16 (0 : UInt8)).map bv) 37 := hW ▸ ((Row.new rfl rfl).alloc _).setOther _ _ (by omega)
     have hW3 : Row W (w.heap.size + 1) (lc sum) 152 := hW ▸ (Row.new (cs := List.replicate 5 (.int .u64 0)) (by simp) rfl).setRow (lc sum)
     have hWb : Below w.heap.size w W := hW ▸ below_setRow (((Below.refl _ w).alloc (Nat.le_refl _) _).alloc (by simp) _) (by omega) _
     have hWs : W.heap.size = w.heap.size + 2 := by rw [← hW]; simp
     clear hsize
     have hsize := hWm.cell (mac_size r s sum rest size hrest)
     refine wpList_world hW ?_
     clear hW
     have HWm := Lib.hid hWm
     have HW2 := Lib.hid hW2
     have HW3 := Lib.hid hW3
     clear hWm hW2 hW3)
  | fail)
 have hLt : (rest.take (size % 16)).length = size % 16 := by rw [List.length_take]; omega
 have HLt := Lib.hid hLt
 have hbs : ∀ w', Grew W.drew w' → Bs w' w'.heap.size (.slice (some ⟨g, 16, none⟩) (size % 16) 16) (rest.take (size % 16)) := by
  intro w' hw'
  refine ⟨_, 16, by rw [hLt], by rw [hLt]; omega, fun _ => ⟨g, 16, rfl, by have := hw'.size; have : W.heap.size ≤ w'.heap.size := this; omega, fun i u hu => ?_⟩⟩
  rw [List.getElem?_take] at hu
  split at hu
  · exact (Row.below (w := W.drew) HWm.out hw' (show g < W.heap.size by omega)).cell (mac_rest r s sum rest size i u hu)
  · cases hu
 have HBs := Lib.hid hbs
 clear hLt hbs
 refine Tail.marksAt mixed 11 Grew [By.is (lv sum),
  By.is (.pointer (some ⟨g, 0, none⟩)),
  By.is (.pointer (some ⟨g, 0, none⟩)),
  By.is (.pointer (some ⟨g, 1, none⟩)),
  By.is (lv r),
  By.is (.pointer (some ⟨g, 0, none⟩)),
  By.is (.pointer (some ⟨g, 0, none⟩)),
  By.is (.pointer (some ⟨g, 16, none⟩)),
  By.is (.int .i64 ((size : Int) % 16)),
  By.is (.slice (some ⟨g, 16, none⟩) (size % 16) 16),
  By.is (lv (Poly.next sum r (Poly.le (rest.take (size % 16)) + 256 ^ (size % 16))))]
  (Ev.masks _ []) (Nat.zero_lt_succ _) (by kernel_rfl) (by kernel_rfl) rfl Grew.refl Grew.trans ⟨?_, ?_, ?_, ?_, ?_, ?_, ?_, ?_, ?_, ?_, ?_, trivial⟩ ?_
 · intro a w ht hs hg
   have h3 := By.same_get hs 3 (by decide) (by kernel_rfl)
   refine By.yes rfl ?_
   clear hs hg
   refine wp_loadRow 152 _ rfl h3 (Row.below (w := W.drew) HW3.out ht HW3.out.lt) Tryz.underlying152 rfl (by kernel_rfl) rfl ?_
   exact ⟨_, rfl, Grew.refl _, rfl⟩
 · intro a w ht hs hg
   have h0 := By.same_get hs 0 (by decide) (by kernel_rfl)
   refine By.yes rfl ?_
   clear hs hg
   go_simp
   exact ⟨_, rfl, Grew.refl _, rfl⟩
 · intro a w ht hs hg
   have h23 : a.tmps.getD 23 undef = _ := By.given_get hg 1 rfl rfl (by kernel_rfl)
   refine By.yes rfl ?_
   clear hs hg
   go_simp
   exact ⟨_, rfl, Grew.refl _, rfl⟩
 · intro a w ht hs hg
   have h24 : a.tmps.getD 24 undef = _ := By.given_get hg 2 rfl rfl (by kernel_rfl)
   refine By.yes rfl ?_
   clear hs hg
   go_simp
   exact ⟨_, rfl, Grew.refl _, rfl⟩
 · intro a w ht hs hg
   have h25 : a.tmps.getD 25 undef = _ := By.given_get hg 3 rfl rfl (by kernel_rfl)
   refine By.yes rfl ?_
   clear hs hg
   refine wp_loadSub (n := 5) 152 _ rfl h25 (Row.below (w := W.drew) HWm.out ht HWm.out.lt) Tryz.underlying152 rfl (by kernel_rfl) (by rw [Hl.out]; decide) ?_
   rw [mac_r]
   exact ⟨_, rfl, Grew.refl _, rfl⟩
 · intro a w ht hs hg
   have h0 := By.same_get hs 0 (by decide) (by kernel_rfl)
   refine By.yes rfl ?_
   clear hs hg
   go_simp
   exact ⟨_, rfl, Grew.refl _, rfl⟩
 · intro a w ht hs hg
   have h27 : a.tmps.getD 27 undef = _ := By.given_get hg 5 rfl rfl (by kernel_rfl)
   refine By.yes rfl ?_
   clear hs hg
   go_simp
   exact ⟨_, rfl, Grew.refl _, rfl⟩
 · intro a w ht hs hg
   have h28 : a.tmps.getD 28 undef = _ := By.given_get hg 6 rfl rfl (by kernel_rfl)
   refine By.yes rfl ?_
   clear hs hg
   go_simp
   exact ⟨_, rfl, Grew.refl _, rfl⟩
 · intro a w ht hs hg
   have h4 := By.same_get hs 4 (by decide) (by kernel_rfl)
   refine By.yes rfl ?_
   clear hs hg
   go_simp
   exact ⟨_, rfl, Grew.refl _, rfl⟩
 · intro a w ht hs hg
   have h29 : a.tmps.getD 29 undef = _ := By.given_get hg 7 rfl rfl (by kernel_rfl)
   have h30 : a.tmps.getD 30 undef = _ := By.given_get hg 8 rfl rfl (by kernel_rfl)
   refine By.yes rfl ?_
   clear hs hg
   go_simp
   exact ⟨_, rfl, Grew.refl _, rfl⟩
 · intro a w ht hs hg
   have h22 : a.tmps.getD 22 undef = _ := By.given_get hg 0 rfl rfl (by kernel_rfl)
   have h26 : a.tmps.getD 26 undef = _ := By.given_get hg 4 rfl rfl (by kernel_rfl)
   have h31 : a.tmps.getD 31 undef = _ := By.given_get hg 9 rfl rfl (by kernel_rfl)
   refine By.yes rfl ?_
   clear hs hg
   have hb := HBs.out w ht
   go_simp
   refine (next_any hsum hr _ (rest.take (size % 16)) (by rw [HLt.out]; exact h0) (by rw [HLt.out]; omega) w hb).mono ?_
   rintro e w' ⟨rfl, hb2⟩
   rw [HLt.out]
   exact ⟨_, rfl, hb2, rfl⟩
 refine By.ends_is (By.ends_is (By.ends_is (By.ends_is (By.ends_is (By.ends_is (By.ends_is (By.ends_is (By.ends_is (By.ends_is (By.ends_is (By.ends_nil fun w9 hw9 => ?_)))))))))))
 simp only [Act.put, List.setIfInBounds_toArray, List.set_cons_succ, List.set_cons_zero]
 simp only [List.drop_succ_cons, List.drop_zero]
 have hX0 := Poly.next_loose hsum hr (PolyI.blk_lt (rest.take (size % 16)) (by rw [HLt.out]; omega))
 have hXf : fin r sum rest size = Poly.next sum r (Poly.le (rest.take (size % 16)) + 256 ^ (size % 16)) := by unfold fin; rw [if_pos h0]
 rw [HLt.out] at hX0
 obtain ⟨X, hX1⟩ : ∃ X, Poly.next sum r (Poly.le (rest.take (size % 16)) + 256 ^ (size % 16)) = X := ⟨_, rfl⟩
 rw [hX1] at hX0 ⊢
 have hX : Poly.Loose X := hX0
 have HXf := Lib.hid (hXf.trans hX1)
 clear hX0 hXf hX1
 have hM9 := Row.below (w := W.drew) HWm.out hw9 HWm.out.lt
 have hR9 := Row.below (w := W.drew) HW2.out hw9 HW2.out.lt
 have hX9 := Row.below (w := W.drew) HW3.out hw9 HW3.out.lt
 have hb9 := nextB hWb (by have := hWb.size; omega) (show Below W.heap.size W w9 from ⟨hw9.os, hw9.tape, hw9.output, hw9.size, hw9.block⟩)
 go_wp2_with (first
  | (refine wpList_storeRow (n := 5) rfl 152 _ _ rfl rfl rfl (cs := lc X) (old := lc sum) hX9 (by kernel_rfl) rfl rfl (lc_one X) ?_
     have HM := Lib.hid (hM9.setOther (w.heap.size + 1) (lc X).toArray (by omega))
     have HR := Lib.hid (hR9.setOther (w.heap.size + 1) (lc X).toArray (by omega))
     have HX := Lib.hid (hX9.setRow (lc X))
     have HBel := Lib.hid (below_setRow hb9 (Nat.le_succ _) (lc X).toArray)
     obtain ⟨V6, hV6⟩ : ∃ V6, w9.setRow (w.heap.size + 1) (lc X).toArray = V6 := ⟨_, rfl⟩
     rw [hV6] at HM HR HX HBel ⊢
     clear hV6 hM9 hR9 hX9 hb9)
  | fail)
 have HB := Lib.hid (show V6.heap.size ≤ V6.drew.heap.size from Nat.le_refl _)
 have hp3 := Poly.plus_sum3 (Poly.Fit.loose (Poly.red_val hX).2) hs
 have hpw : Poly.Wide (Poly.plus (Poly.red X) s) := by obtain ⟨q0, q1, q2, q3, q4⟩ := hp3; exact ⟨by omega, by omega, by omega, by omega, by omega⟩
 have Hp3 := Lib.hid hp3
 have Hpw := Lib.hid hpw
 clear hp3 hpw
 refine Tail.marksF mixed 12 10 43 Grew [By.is (lv X),
  By.is (lv (Poly.red X)),
  By.is (.pointer (some ⟨g, 0, none⟩)),
  By.is (.pointer (some ⟨g, 0, none⟩)),
  By.is (.pointer (some ⟨g, 6, none⟩)),
  By.is (lv s),
  By.is (lv (Poly.plus (Poly.red X) s)),
  By.is (.tuple #[lv (Poly.carry (Poly.plus (Poly.red X) s)).1, .int .u64 ((Poly.carry (Poly.plus (Poly.red X) s)).2 : Int)]),
  By.is (.tuple #[lv (Poly.carry (Poly.plus (Poly.red X) s)).1, .int .u64 ((Poly.carry (Poly.plus (Poly.red X) s)).2 : Int)]),
  By.is (lv (Poly.carry (Poly.plus (Poly.red X) s)).1),
  By.is (.int .u64 ((Poly.carry (Poly.plus (Poly.red X) s)).2 : Int)),
  rowM V6.heap.size (List.replicate 5 (.int .u64 0)) 152]
  (Ev.masks _ []) (Nat.zero_lt_succ _) rfl (by kernel_rfl) (by kernel_rfl) rfl Grew.refl Grew.trans ⟨?_, ?_, ?_, ?_, ?_, ?_, ?_, ?_, ?_, ?_, ?_, ?_, trivial⟩ [_, _, _] (by rfl) ?_ ?_
 · intro a w ht hs hg
   have h3 := By.same_get hs 3 (by decide) (by kernel_rfl)
   refine By.yes rfl ?_
   clear hs hg
   refine wp_loadRow 152 _ rfl h3 (Row.below (w := V6.drew) HX.out ht HX.out.lt) Tryz.underlying152 rfl (by kernel_rfl) rfl ?_
   exact ⟨_, rfl, Grew.refl _, rfl⟩
 · intro a w ht hs hg
   have h34 : a.tmps.getD 34 undef = _ := By.given_get hg 0 rfl rfl (by kernel_rfl)
   refine By.yes rfl ?_
   clear hs hg
   go_simp
   refine (reduce_any hX w).mono ?_
   rintro e w' ⟨rfl, hb2⟩
   exact ⟨_, rfl, hb2, rfl⟩
 · intro a w ht hs hg
   have h0 := By.same_get hs 0 (by decide) (by kernel_rfl)
   refine By.yes rfl ?_
   clear hs hg
   go_simp
   exact ⟨_, rfl, Grew.refl _, rfl⟩
 · intro a w ht hs hg
   have h36 : a.tmps.getD 36 undef = _ := By.given_get hg 2 rfl rfl (by kernel_rfl)
   refine By.yes rfl ?_
   clear hs hg
   go_simp
   exact ⟨_, rfl, Grew.refl _, rfl⟩
 · intro a w ht hs hg
   have h37 : a.tmps.getD 37 undef = _ := By.given_get hg 3 rfl rfl (by kernel_rfl)
   refine By.yes rfl ?_
   clear hs hg
   go_simp
   exact ⟨_, rfl, Grew.refl _, rfl⟩
 · intro a w ht hs hg
   have h38 : a.tmps.getD 38 undef = _ := By.given_get hg 4 rfl rfl (by kernel_rfl)
   refine By.yes rfl ?_
   clear hs hg
   refine wp_loadSub (n := 5) 152 _ rfl h38 (Row.below (w := V6.drew) HM.out ht HM.out.lt) Tryz.underlying152 rfl (by kernel_rfl) (by rw [Hl.out]; decide) ?_
   rw [mac_s]
   exact ⟨_, rfl, Grew.refl _, rfl⟩
 · intro a w ht hs hg
   have h35 : a.tmps.getD 35 undef = _ := By.given_get hg 1 rfl rfl (by kernel_rfl)
   have h39 : a.tmps.getD 39 undef = _ := By.given_get hg 5 rfl rfl (by kernel_rfl)
   refine By.yes rfl ?_
   clear hs hg
   go_simp
   refine (plus_any Hp3.out w).mono ?_
   rintro e w' ⟨rfl, hb2⟩
   exact ⟨_, rfl, hb2, rfl⟩
 · intro a w ht hs hg
   have h40 : a.tmps.getD 40 undef = _ := By.given_get hg 6 rfl rfl (by kernel_rfl)
   refine By.yes rfl ?_
   clear hs hg
   go_simp
   refine (carry_any Hpw.out w).mono ?_
   rintro e w' ⟨rfl, hb2⟩
   exact ⟨_, rfl, hb2, rfl⟩
 · intro a w ht hs hg
   have h41 : a.tmps.getD 41 undef = _ := By.given_get hg 7 rfl rfl (by kernel_rfl)
   refine By.yes rfl ?_
   clear hs hg
   go_simp
   exact ⟨_, rfl, Grew.refl _, rfl⟩
 · intro a w ht hs hg
   have h33 : a.tmps.getD 33 undef = _ := By.given_get hg 8 rfl rfl (by kernel_rfl)
   refine By.yes rfl ?_
   clear hs hg
   go_simp
   exact ⟨_, rfl, Grew.refl _, rfl⟩
 · intro a w ht hs hg
   have h33 : a.tmps.getD 33 undef = _ := By.given_get hg 8 rfl rfl (by kernel_rfl)
   refine By.yes rfl ?_
   clear hs hg
   go_simp
   exact ⟨_, rfl, Grew.refl _, rfl⟩
 · intro a w ht hs hg
   refine By.yes rfl ?_
   clear hs hg
   have hsz := Below.size ht
   go_simp
   exact ⟨_, rfl, (Below.refl _ w).alloc (Nat.le_refl _) _, w.heap.size, rfl, Nat.le_trans HB.out hsz, Row.new rfl rfl⟩
 · refine By.ends_is (By.ends_is (By.ends_is (By.ends_is (By.ends_is (By.ends_is (By.ends_is (By.ends_is (By.ends_is (By.ends_is (By.ends_is (By.ends_any fun v5 => (By.ends_nil fun w8 hw8 => ?_))))))))))))
   simp only [Act.put, List.setIfInBounds_toArray, List.set_cons_succ, List.set_cons_zero]
   simp only [List.drop_succ_cons, List.drop_zero]
   obtain ⟨hgr, q, rfl, hBq, hq⟩ := hw8
   have hM8 := Row.below (w := V6.drew) HM.out hgr HM.out.lt
   have hR8 := Row.below (w := V6.drew) HR.out hgr HR.out.lt
   have hbel := nextB HBel.out (Nat.le_refl _) (show Below V6.heap.size V6 w8 from ⟨hgr.os, hgr.tape, hgr.output, hgr.size, hgr.block⟩)
   have hqne : w.heap.size ≠ q := by have := HR.out.lt; omega
   have Hq := Lib.hid hq
   have HR8 := Lib.hid hR8
   have Hbel := Lib.hid hbel
   have hw0q : w.heap.size ≤ q := by have := HBel.out.size; omega
   obtain ⟨C, hC⟩ : ∃ C, (Poly.carry (Poly.plus (Poly.red X) s)).1 = C := ⟨_, rfl⟩
   have hCf : Poly.Fit C := hC ▸ Poly.carry_fit _
   have hCv : Poly.bytes16 (Poly.val C) = Poly.bytes16 (Poly.val (Poly.red X) + Poly.val s) := by
    have := Poly.carry_val (Poly.plus (Poly.red X) s)
    rw [Poly.plus_val, hC] at this
    refine Poly.bytes16_inj ?_
    rw [← this]
    omega
   have HCf := Lib.hid hCf
   have HCv := Lib.hid hCv
   rw [hC]
   clear hC hCf hCv hq hM8 hR8 hbel hgr
   go_wp2_with (first
    | (refine wpList_storeRow (n := 5) rfl 152 _ _ rfl rfl rfl (cs := lc C) (old := List.replicate 5 (.int .u64 0)) Hq.out (by kernel_rfl) rfl (by simp) (lc_one C) ?_
       have hq2 := Lib.hid (Hq.out.setRow (lc C))
       have hr2 := Lib.hid (HR8.out.setOther q (lc C).toArray hqne)
       have hb2 := Lib.hid (below_setRow Hbel.out hw0q (lc C).toArray)
       obtain ⟨V, hV⟩ : ∃ V, w8.setRow q (lc C).toArray = V := ⟨_, rfl⟩
       rw [hV] at hq2 hr2 hb2 ⊢
       clear hV)
    | (refine wpList_loadRow rfl 152 _ rfl rfl hq2.out Tryz.underlying152 rfl (by kernel_rfl) rfl ?_)
    | (go_at_call 89; refine (bytes_any HCf.out V).mono ?_; rintro e w' ⟨rfl, hb3⟩; have hr3 := Lib.hid (hr2.out.below hb3 hr2.out.lt); have hb4 := Lib.hid (nextB hb2.out (Nat.le_refl _) hb3))
    | (refine wpList_storeRow (n := 16) rfl 37 _ _ rfl rfl rfl (cs := (Poly.bytes16 (Poly.val C)).map bv) (old := (List.replicate 16 (0 : UInt8)).map bv) hr3.out (by kernel_rfl) (by simp [Poly.bytes16_length]) (by simp) (bytes1 _) ?_)
    | fail)
   refine bodyPost_ret (results_row rfl _ rfl (hr3.out.setRow _) Tryz.underlying37 rfl (by kernel_rfl) (n := 16) (by simp [Poly.bytes16_length])) rfl ?_
   exact ⟨by rw [HXf.out, ← HCv.out]; rfl, below_setRow hb4.out (Nat.le_refl _) _⟩
 · refine By.ends_is (By.ends_is (By.ends_is (By.ends_is (By.ends_is (By.ends_is (By.ends_is (By.ends_is (By.ends_is (By.ends_is (By.ends_is (By.ends_any fun v5 => (By.ends_nil fun w8 hw8 => ?_))))))))))))
   simp only [Act.put, List.setIfInBounds_toArray, List.set_cons_succ, List.set_cons_zero]
   obtain ⟨hgr, q, rfl, hBq, hq⟩ := hw8
   have hM8 := Row.below (w := V6.drew) HM.out hgr HM.out.lt
   have hR8 := Row.below (w := V6.drew) HR.out hgr HR.out.lt
   have hbel := nextB HBel.out (Nat.le_refl _) (show Below V6.heap.size V6 w8 from ⟨hgr.os, hgr.tape, hgr.output, hgr.size, hgr.block⟩)
   have hqne : w.heap.size ≠ q := by have := HR.out.lt; omega
   have Hq := Lib.hid hq
   have HR8 := Lib.hid hR8
   have Hbel := Lib.hid hbel
   have hw0q : w.heap.size ≤ q := by have := HBel.out.size; omega
   obtain ⟨C, hC⟩ : ∃ C, (Poly.carry (Poly.plus (Poly.red X) s)).1 = C := ⟨_, rfl⟩
   have hCf : Poly.Fit C := hC ▸ Poly.carry_fit _
   have hCv : Poly.bytes16 (Poly.val C) = Poly.bytes16 (Poly.val (Poly.red X) + Poly.val s) := by
    have := Poly.carry_val (Poly.plus (Poly.red X) s)
    rw [Poly.plus_val, hC] at this
    refine Poly.bytes16_inj ?_
    rw [← this]
    omega
   have HCf := Lib.hid hCf
   have HCv := Lib.hid hCv
   rw [hC]
   clear hC hCf hCv hq hM8 hR8 hbel hgr
   go_wp2_with (first
    | (refine wpList_storeRow (n := 5) rfl 152 _ _ rfl rfl rfl (cs := lc C) (old := List.replicate 5 (.int .u64 0)) Hq.out (by kernel_rfl) rfl (by simp) (lc_one C) ?_
       have hq2 := Lib.hid (Hq.out.setRow (lc C))
       have hr2 := Lib.hid (HR8.out.setOther q (lc C).toArray hqne)
       have hb2 := Lib.hid (below_setRow Hbel.out hw0q (lc C).toArray)
       obtain ⟨V, hV⟩ : ∃ V, w8.setRow q (lc C).toArray = V := ⟨_, rfl⟩
       rw [hV] at hq2 hr2 hb2 ⊢
       clear hV)
    | (refine wpList_loadRow rfl 152 _ rfl rfl hq2.out Tryz.underlying152 rfl (by kernel_rfl) rfl ?_)
    | (go_at_call 89; refine (bytes_any HCf.out V).mono ?_; rintro e w' ⟨rfl, hb3⟩; have hr3 := Lib.hid (hr2.out.below hb3 hr2.out.lt); have hb4 := Lib.hid (nextB hb2.out (Nat.le_refl _) hb3))
    | (refine wpList_storeRow (n := 16) rfl 37 _ _ rfl rfl rfl (cs := (Poly.bytes16 (Poly.val C)).map bv) (old := (List.replicate 16 (0 : UInt8)).map bv) hr3.out (by kernel_rfl) (by simp [Poly.bytes16_length]) (by simp) (bytes1 _) ?_)
    | fail)
   refine bodyPost_ret (results_row rfl _ rfl (hr3.out.setRow _) Tryz.underlying37 rfl (by kernel_rfl) (n := 16) (by simp [Poly.bytes16_length])) rfl ?_
   exact ⟨by rw [HXf.out, ← HCv.out]; rfl, below_setRow hb4.out (Nat.le_refl _) _⟩
set_option maxRecDepth 8000 in
set_option maxHeartbeats 1000000 in
theorem MTag_zero {w : World} {g : Nat} {r s sum : L} {rest : List UInt8} {size : Nat} (hrest : rest.length = 16) (hsum : Poly.Loose sum) (hr : Poly.Fit r) (hs : Poly.Fit s) (hsz : size < 4611686018427387904) (h : Row w g (macCells r s sum rest size) 155) (h0 : size % 16 = 0) :
 Calls Tryz.prog 74 #[.pointer (some ⟨g, 0, none⟩)] w fun e w1 => e = .returned (arr8 (Poly.bytes16 (Poly.val (Poly.red (fin r sum rest size)) + Poly.val s))) ∧ Below w.heap.size w w1 := by
 have hg := h.lt
 have hl33 := macCells_length r s sum rest size hrest
 have hsize := (h.alloc (.cells ((List.replicate 16 (0 : UInt8)).map bv).toArray 37)).cell (mac_size r s sum rest size hrest)
 have h0' : (size : Int) % 16 = 0 := by omega
 have H := Lib.hid h
 have Hl := Lib.hid hl33
 have Hm := Lib.hid (mac_sum r s sum rest size)
 clear h hl33
 go_enter Tryz.func74, Tryz.ntmps74
 go_wp2_with (first
  | (go_at_call 84; refine (valid_any (H.out.alloc _)).mono ?_; rintro e w' ⟨rfl, rfl⟩)
  | (refine wpList_loadSub (n := 5) rfl 152 _ rfl rfl (H.out.alloc _) Tryz.underlying152 rfl (by kernel_rfl) (by rw [Hl.out]; decide) ?_; rw [Hm.out])
  | (refine wpList_storeRow (n := 5) rfl 152 _ _ rfl rfl rfl (cs := lc sum) (old := List.replicate 5 (.int .u64 0)) (Row.new (by simp) rfl) (by kernel_rfl) rfl (by simp) (lc_one sum) ?_
     obtain ⟨W, hW⟩ : ∃ W, ((w.alloc (.cells ((List.replicate 16 (0 : UInt8)).map bv).toArray 37)).alloc (.cells (List.replicate 5 (.int .u64 0)).toArray 152)).setRow (w.heap.size + 1) (lc sum).toArray = W := ⟨_, rfl⟩
     have hWm : Row W g (macCells r s sum rest size) 155 := hW ▸ ((H.out.alloc _).alloc _).setOther _ _ (by omega)
     have hW2 : Row W w.heap.size ((List.replicate 16 (0 : UInt8)).map bv) 37 := hW ▸ ((Row.new rfl rfl).alloc _).setOther _ _ (by omega)
     have hW3 : Row W (w.heap.size + 1) (lc sum) 152 := hW ▸ (Row.new (cs := List.replicate 5 (.int .u64 0)) (by simp) rfl).setRow (lc sum)
     have hWb : Below w.heap.size w W := hW ▸ below_setRow (((Below.refl _ w).alloc (Nat.le_refl _) _).alloc (by simp) _) (by omega) _
     have hWs : W.heap.size = w.heap.size + 2 := by rw [← hW]; simp
     clear hsize
     have hsize := hWm.cell (mac_size r s sum rest size hrest)
     refine wpList_world hW ?_
     clear hW
     have HWm := Lib.hid hWm
     have HW2 := Lib.hid hW2
     have HW3 := Lib.hid hW3
     clear hWm hW2 hW3)
  | fail)
 have hX : Poly.Loose sum := hsum
 have HXf := Lib.hid (show fin r sum rest size = sum by unfold fin; rw [if_neg (by omega)])
 have HM := Lib.hid HWm.out
 have HR := Lib.hid HW2.out
 have HX := Lib.hid HW3.out
 have HBel := Lib.hid hWb
 have HB := Lib.hid (show W.heap.size ≤ W.drew.heap.size from Nat.le_refl _)
 clear hWb hsum hWs
 have hp3 := Poly.plus_sum3 (Poly.Fit.loose (Poly.red_val hX).2) hs
 have hpw : Poly.Wide (Poly.plus (Poly.red sum) s) := by obtain ⟨q0, q1, q2, q3, q4⟩ := hp3; exact ⟨by omega, by omega, by omega, by omega, by omega⟩
 have Hp3 := Lib.hid hp3
 have Hpw := Lib.hid hpw
 clear hp3 hpw
 refine Tail.marksF mixed 12 10 43 Grew [By.is (lv sum),
  By.is (lv (Poly.red sum)),
  By.is (.pointer (some ⟨g, 0, none⟩)),
  By.is (.pointer (some ⟨g, 0, none⟩)),
  By.is (.pointer (some ⟨g, 6, none⟩)),
  By.is (lv s),
  By.is (lv (Poly.plus (Poly.red sum) s)),
  By.is (.tuple #[lv (Poly.carry (Poly.plus (Poly.red sum) s)).1, .int .u64 ((Poly.carry (Poly.plus (Poly.red sum) s)).2 : Int)]),
  By.is (.tuple #[lv (Poly.carry (Poly.plus (Poly.red sum) s)).1, .int .u64 ((Poly.carry (Poly.plus (Poly.red sum) s)).2 : Int)]),
  By.is (lv (Poly.carry (Poly.plus (Poly.red sum) s)).1),
  By.is (.int .u64 ((Poly.carry (Poly.plus (Poly.red sum) s)).2 : Int)),
  rowM W.heap.size (List.replicate 5 (.int .u64 0)) 152]
  (Ev.masks _ []) (Nat.zero_lt_succ _) rfl (by kernel_rfl) (by kernel_rfl) rfl Grew.refl Grew.trans ⟨?_, ?_, ?_, ?_, ?_, ?_, ?_, ?_, ?_, ?_, ?_, ?_, trivial⟩ [_, _, _] (by rfl) ?_ ?_
 · intro a w ht hs hg
   have h3 := By.same_get hs 3 (by decide) (by kernel_rfl)
   refine By.yes rfl ?_
   clear hs hg
   refine wp_loadRow 152 _ rfl h3 (Row.below (w := W.drew) HX.out ht HX.out.lt) Tryz.underlying152 rfl (by kernel_rfl) rfl ?_
   exact ⟨_, rfl, Grew.refl _, rfl⟩
 · intro a w ht hs hg
   have h34 : a.tmps.getD 34 undef = _ := By.given_get hg 0 rfl rfl (by kernel_rfl)
   refine By.yes rfl ?_
   clear hs hg
   go_simp
   refine (reduce_any hX w).mono ?_
   rintro e w' ⟨rfl, hb2⟩
   exact ⟨_, rfl, hb2, rfl⟩
 · intro a w ht hs hg
   have h0 := By.same_get hs 0 (by decide) (by kernel_rfl)
   refine By.yes rfl ?_
   clear hs hg
   go_simp
   exact ⟨_, rfl, Grew.refl _, rfl⟩
 · intro a w ht hs hg
   have h36 : a.tmps.getD 36 undef = _ := By.given_get hg 2 rfl rfl (by kernel_rfl)
   refine By.yes rfl ?_
   clear hs hg
   go_simp
   exact ⟨_, rfl, Grew.refl _, rfl⟩
 · intro a w ht hs hg
   have h37 : a.tmps.getD 37 undef = _ := By.given_get hg 3 rfl rfl (by kernel_rfl)
   refine By.yes rfl ?_
   clear hs hg
   go_simp
   exact ⟨_, rfl, Grew.refl _, rfl⟩
 · intro a w ht hs hg
   have h38 : a.tmps.getD 38 undef = _ := By.given_get hg 4 rfl rfl (by kernel_rfl)
   refine By.yes rfl ?_
   clear hs hg
   refine wp_loadSub (n := 5) 152 _ rfl h38 (Row.below (w := W.drew) HM.out ht HM.out.lt) Tryz.underlying152 rfl (by kernel_rfl) (by rw [Hl.out]; decide) ?_
   rw [mac_s]
   exact ⟨_, rfl, Grew.refl _, rfl⟩
 · intro a w ht hs hg
   have h35 : a.tmps.getD 35 undef = _ := By.given_get hg 1 rfl rfl (by kernel_rfl)
   have h39 : a.tmps.getD 39 undef = _ := By.given_get hg 5 rfl rfl (by kernel_rfl)
   refine By.yes rfl ?_
   clear hs hg
   go_simp
   refine (plus_any Hp3.out w).mono ?_
   rintro e w' ⟨rfl, hb2⟩
   exact ⟨_, rfl, hb2, rfl⟩
 · intro a w ht hs hg
   have h40 : a.tmps.getD 40 undef = _ := By.given_get hg 6 rfl rfl (by kernel_rfl)
   refine By.yes rfl ?_
   clear hs hg
   go_simp
   refine (carry_any Hpw.out w).mono ?_
   rintro e w' ⟨rfl, hb2⟩
   exact ⟨_, rfl, hb2, rfl⟩
 · intro a w ht hs hg
   have h41 : a.tmps.getD 41 undef = _ := By.given_get hg 7 rfl rfl (by kernel_rfl)
   refine By.yes rfl ?_
   clear hs hg
   go_simp
   exact ⟨_, rfl, Grew.refl _, rfl⟩
 · intro a w ht hs hg
   have h33 : a.tmps.getD 33 undef = _ := By.given_get hg 8 rfl rfl (by kernel_rfl)
   refine By.yes rfl ?_
   clear hs hg
   go_simp
   exact ⟨_, rfl, Grew.refl _, rfl⟩
 · intro a w ht hs hg
   have h33 : a.tmps.getD 33 undef = _ := By.given_get hg 8 rfl rfl (by kernel_rfl)
   refine By.yes rfl ?_
   clear hs hg
   go_simp
   exact ⟨_, rfl, Grew.refl _, rfl⟩
 · intro a w ht hs hg
   refine By.yes rfl ?_
   clear hs hg
   have hsz := Below.size ht
   go_simp
   exact ⟨_, rfl, (Below.refl _ w).alloc (Nat.le_refl _) _, w.heap.size, rfl, Nat.le_trans HB.out hsz, Row.new rfl rfl⟩
 · refine By.ends_is (By.ends_is (By.ends_is (By.ends_is (By.ends_is (By.ends_is (By.ends_is (By.ends_is (By.ends_is (By.ends_is (By.ends_is (By.ends_any fun v5 => (By.ends_nil fun w8 hw8 => ?_))))))))))))
   simp only [Act.put, List.setIfInBounds_toArray, List.set_cons_succ, List.set_cons_zero]
   simp only [List.drop_succ_cons, List.drop_zero]
   obtain ⟨hgr, q, rfl, hBq, hq⟩ := hw8
   have hM8 := Row.below (w := W.drew) HM.out hgr HM.out.lt
   have hR8 := Row.below (w := W.drew) HR.out hgr HR.out.lt
   have hbel := nextB HBel.out (Nat.le_refl _) (show Below W.heap.size W w8 from ⟨hgr.os, hgr.tape, hgr.output, hgr.size, hgr.block⟩)
   have hqne : w.heap.size ≠ q := by have := HR.out.lt; omega
   have Hq := Lib.hid hq
   have HR8 := Lib.hid hR8
   have Hbel := Lib.hid hbel
   have hw0q : w.heap.size ≤ q := by have := HBel.out.size; omega
   obtain ⟨C, hC⟩ : ∃ C, (Poly.carry (Poly.plus (Poly.red sum) s)).1 = C := ⟨_, rfl⟩
   have hCf : Poly.Fit C := hC ▸ Poly.carry_fit _
   have hCv : Poly.bytes16 (Poly.val C) = Poly.bytes16 (Poly.val (Poly.red sum) + Poly.val s) := by
    have := Poly.carry_val (Poly.plus (Poly.red sum) s)
    rw [Poly.plus_val, hC] at this
    refine Poly.bytes16_inj ?_
    rw [← this]
    omega
   have HCf := Lib.hid hCf
   have HCv := Lib.hid hCv
   rw [hC]
   clear hC hCf hCv hq hM8 hR8 hbel hgr
   go_wp2_with (first
    | (refine wpList_storeRow (n := 5) rfl 152 _ _ rfl rfl rfl (cs := lc C) (old := List.replicate 5 (.int .u64 0)) Hq.out (by kernel_rfl) rfl (by simp) (lc_one C) ?_
       have hq2 := Lib.hid (Hq.out.setRow (lc C))
       have hr2 := Lib.hid (HR8.out.setOther q (lc C).toArray hqne)
       have hb2 := Lib.hid (below_setRow Hbel.out hw0q (lc C).toArray)
       obtain ⟨V, hV⟩ : ∃ V, w8.setRow q (lc C).toArray = V := ⟨_, rfl⟩
       rw [hV] at hq2 hr2 hb2 ⊢
       clear hV)
    | (refine wpList_loadRow rfl 152 _ rfl rfl hq2.out Tryz.underlying152 rfl (by kernel_rfl) rfl ?_)
    | (go_at_call 89; refine (bytes_any HCf.out V).mono ?_; rintro e w' ⟨rfl, hb3⟩; have hr3 := Lib.hid (hr2.out.below hb3 hr2.out.lt); have hb4 := Lib.hid (nextB hb2.out (Nat.le_refl _) hb3))
    | (refine wpList_storeRow (n := 16) rfl 37 _ _ rfl rfl rfl (cs := (Poly.bytes16 (Poly.val C)).map bv) (old := (List.replicate 16 (0 : UInt8)).map bv) hr3.out (by kernel_rfl) (by simp [Poly.bytes16_length]) (by simp) (bytes1 _) ?_)
    | fail)
   refine bodyPost_ret (results_row rfl _ rfl (hr3.out.setRow _) Tryz.underlying37 rfl (by kernel_rfl) (n := 16) (by simp [Poly.bytes16_length])) rfl ?_
   exact ⟨by rw [HXf.out, ← HCv.out]; rfl, below_setRow hb4.out (Nat.le_refl _) _⟩
 · refine By.ends_is (By.ends_is (By.ends_is (By.ends_is (By.ends_is (By.ends_is (By.ends_is (By.ends_is (By.ends_is (By.ends_is (By.ends_is (By.ends_any fun v5 => (By.ends_nil fun w8 hw8 => ?_))))))))))))
   simp only [Act.put, List.setIfInBounds_toArray, List.set_cons_succ, List.set_cons_zero]
   obtain ⟨hgr, q, rfl, hBq, hq⟩ := hw8
   have hM8 := Row.below (w := W.drew) HM.out hgr HM.out.lt
   have hR8 := Row.below (w := W.drew) HR.out hgr HR.out.lt
   have hbel := nextB HBel.out (Nat.le_refl _) (show Below W.heap.size W w8 from ⟨hgr.os, hgr.tape, hgr.output, hgr.size, hgr.block⟩)
   have hqne : w.heap.size ≠ q := by have := HR.out.lt; omega
   have Hq := Lib.hid hq
   have HR8 := Lib.hid hR8
   have Hbel := Lib.hid hbel
   have hw0q : w.heap.size ≤ q := by have := HBel.out.size; omega
   obtain ⟨C, hC⟩ : ∃ C, (Poly.carry (Poly.plus (Poly.red sum) s)).1 = C := ⟨_, rfl⟩
   have hCf : Poly.Fit C := hC ▸ Poly.carry_fit _
   have hCv : Poly.bytes16 (Poly.val C) = Poly.bytes16 (Poly.val (Poly.red sum) + Poly.val s) := by
    have := Poly.carry_val (Poly.plus (Poly.red sum) s)
    rw [Poly.plus_val, hC] at this
    refine Poly.bytes16_inj ?_
    rw [← this]
    omega
   have HCf := Lib.hid hCf
   have HCv := Lib.hid hCv
   rw [hC]
   clear hC hCf hCv hq hM8 hR8 hbel hgr
   go_wp2_with (first
    | (refine wpList_storeRow (n := 5) rfl 152 _ _ rfl rfl rfl (cs := lc C) (old := List.replicate 5 (.int .u64 0)) Hq.out (by kernel_rfl) rfl (by simp) (lc_one C) ?_
       have hq2 := Lib.hid (Hq.out.setRow (lc C))
       have hr2 := Lib.hid (HR8.out.setOther q (lc C).toArray hqne)
       have hb2 := Lib.hid (below_setRow Hbel.out hw0q (lc C).toArray)
       obtain ⟨V, hV⟩ : ∃ V, w8.setRow q (lc C).toArray = V := ⟨_, rfl⟩
       rw [hV] at hq2 hr2 hb2 ⊢
       clear hV)
    | (refine wpList_loadRow rfl 152 _ rfl rfl hq2.out Tryz.underlying152 rfl (by kernel_rfl) rfl ?_)
    | (go_at_call 89; refine (bytes_any HCf.out V).mono ?_; rintro e w' ⟨rfl, hb3⟩; have hr3 := Lib.hid (hr2.out.below hb3 hr2.out.lt); have hb4 := Lib.hid (nextB hb2.out (Nat.le_refl _) hb3))
    | (refine wpList_storeRow (n := 16) rfl 37 _ _ rfl rfl rfl (cs := (Poly.bytes16 (Poly.val C)).map bv) (old := (List.replicate 16 (0 : UInt8)).map bv) hr3.out (by kernel_rfl) (by simp [Poly.bytes16_length]) (by simp) (bytes1 _) ?_)
    | fail)
   refine bodyPost_ret (results_row rfl _ rfl (hr3.out.setRow _) Tryz.underlying37 rfl (by kernel_rfl) (n := 16) (by simp [Poly.bytes16_length])) rfl ?_
   exact ⟨by rw [HXf.out, ← HCv.out]; rfl, below_setRow hb4.out (Nat.le_refl _) _⟩
end Pol
end Go.Proofs.YtedmogacklbcmaaGreatDoor
namespace Go.Proofs.YtedmogacklbcmaaGreatDoor
open Go.RowKit
namespace Pol
open Poly (L)
def blockAt (l : List UInt8) (i : Nat) : Nat := Poly.le ((l.drop (16 * i)).take 16) + 256 ^ 16
def zeroL : L := ⟨0, 0, 0, 0, 0⟩
def sumN (r : L) (l : List UInt8) : Nat → L
 | 0 => zeroL
 | n + 1 => Poly.next (sumN r l n) r (blockAt l n)
def sumL (r : L) (l : List UInt8) : L := sumN r l (l.length / 16)
def MacAt (w : World) (g : Nat) (r s : L) (l : List UInt8) : Prop :=
 ∃ rest : List UInt8, rest.length = 16 ∧ rest.take (l.length % 16) = l.drop (16 * (l.length / 16)) ∧ Row w g (macCells r s (sumL r l) rest l.length) 155
theorem blockAt_append {l l2 : List UInt8} {i : Nat} (h : 16 * i + 16 ≤ l.length) : blockAt (l ++ l2) i = blockAt l i := by
 unfold blockAt
 rw [List.drop_append_of_le_length (by omega), List.take_append_of_le_length (by rw [List.length_drop]; omega)]
theorem sumN_append {r : L} {l l2 : List UInt8} : ∀ {n : Nat}, 16 * n ≤ l.length → sumN r (l ++ l2) n = sumN r l n
 | 0, _ => rfl
 | n + 1, h => by
   simp only [sumN]
   rw [sumN_append (by omega), blockAt_append (by omega)]
theorem sumN_loose {r : L} (hr : Poly.Fit r) (l : List UInt8) : ∀ n, Poly.Loose (sumN r l n)
 | 0 => by simp only [sumN, zeroL, Poly.Loose]; decide
 | n + 1 => Poly.next_loose (sumN_loose hr l n) hr (by
     have h1 := Poly.le_lt ((l.drop (16 * n)).take 16)
     have h2 : 256 ^ ((l.drop (16 * n)).take 16).length ≤ 256 ^ 16 := Nat.pow_le_pow_right (by decide) (by rw [List.length_take]; omega)
     have e : (256 : Nat) ^ 16 = 340282366920938463463374607431768211456 := by decide
     unfold blockAt
     omega)
theorem step_take {l b rest : List UInt8} (hr : rest.length = 16) (h : rest.take (l.length % 16) = l.drop (16 * (l.length / 16))) (hb : l.length % 16 + b.length < 16) :
 (splice rest (l.length % 16) b).take ((l ++ b).length % 16) = (l ++ b).drop (16 * ((l ++ b).length / 16)) := by
 have e1 : (l ++ b).length = l.length + b.length := List.length_append
 have e2 : (l.length + b.length) % 16 = l.length % 16 + b.length := by omega
 have e3 : (l.length + b.length) / 16 = l.length / 16 := by omega
 rw [e1, e2, e3, List.drop_append_of_le_length (by omega), ← h]
 unfold splice
 have hl : (rest.take (l.length % 16)).length = l.length % 16 := by rw [List.length_take]; omega
 rw [List.take_append, hl, Nat.add_sub_cancel_left, List.take_append_of_le_length (Nat.le_refl _), List.take_length, List.take_of_length_le (by omega)]
theorem step_fill {l b rest : List UInt8} (hr : rest.length = 16) (h : rest.take (l.length % 16) = l.drop (16 * (l.length / 16))) (hb : l.length % 16 + b.length = 16) :
 splice rest (l.length % 16) b = ((l ++ b).drop (16 * (l.length / 16))).take 16 ∧ (l ++ b).length % 16 = 0 ∧ (l ++ b).length / 16 = l.length / 16 + 1 := by
 have e1 : (l ++ b).length = l.length + b.length := List.length_append
 refine ⟨?_, by omega, by omega⟩
 rw [List.drop_append_of_le_length (by omega), ← h]
 unfold splice
 rw [hb, List.drop_of_length_le (by omega), List.append_nil]
 exact (List.take_of_length_le (by rw [List.length_append, List.length_take]; omega)).symm
theorem sum_fill {r : L} {l b rest : List UInt8} (hr : rest.length = 16) (h : rest.take (l.length % 16) = l.drop (16 * (l.length / 16))) (hb : l.length % 16 + b.length = 16) :
 sumL r (l ++ b) = Poly.next (sumL r l) r (Poly.le (splice rest (l.length % 16) b) + 256 ^ 16) := by
 obtain ⟨h1, h2, h3⟩ := step_fill hr h hb
 unfold sumL
 rw [h3]
 simp only [sumN]
 rw [sumN_append (by omega), h1]
 rfl
theorem sum_take {r : L} {l b : List UInt8} (hb : l.length % 16 + b.length < 16) : sumL r (l ++ b) = sumL r l := by
 have e1 : (l ++ b).length = l.length + b.length := List.length_append
 unfold sumL
 rw [show (l ++ b).length / 16 = l.length / 16 by omega, sumN_append (by omega)]
theorem MacAt.new {w : World} {g : Nat} {r s : L} (h : Row w g (macCells r s zeroL (List.replicate 16 0) 0) 155) : MacAt w g r s [] := ⟨_, by simp, by simp, h⟩
theorem mac_head (r s S : L) : ∃ X : List Value, (∀ rest sz, macCells r s S rest sz = X ++ (rest.map bv ++ [.int .i64 ((sz : Nat) : Int)])) ∧ X.length = 16 :=
 ⟨.bool true :: (lc r ++ (lc s ++ lc S)), fun rest sz => by simp [macCells], rfl⟩
theorem mac_splice {r s S : L} {rest p : List UInt8} {sz k : Nat} (h : rest.length = 16) (hk : k + p.length ≤ 16) : splice (macCells r s S rest sz) (16 + k) (p.map bv) = macCells r s S (splice rest k p) sz := by
 obtain ⟨X, hX, hl⟩ := mac_head r s S
 rw [hX, hX]
 unfold splice
 rw [← hl, Nat.add_assoc, List.take_length_add_append, List.drop_length_add_append, List.length_map, List.take_append_of_le_length (by simp; omega), List.drop_append_of_le_length (by simp; omega)]
 simp
theorem mac_sum_store {r s S X : L} {rest : List UInt8} {sz : Nat} : splice (macCells r s S rest sz) 11 (lc X) = macCells r s X rest sz := by
 simp [splice, macCells, lc]
theorem mac_set {r s S : L} {rest : List UInt8} {sz sz' : Nat} (h : rest.length = 16) : (macCells r s S rest sz).set 32 (.int .i64 (sz' : Int)) = macCells r s S rest sz' := by
 obtain ⟨X, hX, hl⟩ := mac_head r s S
 rw [hX, hX, List.set_append_right _ _ (by omega), hl, List.set_append_right _ _ (by simp; omega)]
 simp [h]
theorem rest_len {rest p : List UInt8} {k : Nat} (h : rest.length = 16) (hk : k + p.length ≤ 16) : (splice rest k p).length = 16 := by rw [length_splice _ _ _ (by omega), h]
theorem row_copied {w : World} {g k sz : Nat} {r s S : L} {rest p : List UInt8} (h : rest.length = 16) (hk : k + p.length ≤ 16) (hg : Row w g (splice (macCells r s S rest sz) (16 + k) (p.map bv)) 155) : Row w g (macCells r s S (splice rest k p) sz) 155 := hg.same (mac_splice h hk).symm
theorem copy_src {w wr w4 : World} {g kb off : Nat} {b p : List UInt8} (h4 : Grew wr.drew w4) (hk : Ev.Keep ⟨w, fun k => k = g⟩ wr) (hne : kb ≠ g) (hlt : kb < w.heap.size)
 (hc : ∀ (i : Nat) (u : UInt8), b[i]? = some u → w.cell? ⟨kb, off + i, none⟩ = some (bv u)) (hp : ∀ (i : Nat) (u : UInt8), p[i]? = some u → b[i]? = some u) :
 ∀ j v, (p.map bv)[j]? = some v → w4.cell? ((⟨kb, off, none⟩ : Addr).add j) = some v := by
 intro j v hv
 rw [List.getElem?_map, Option.map_eq_some_iff] at hv
 obtain ⟨u, hu, rfl⟩ := hv
 have hadd : (⟨kb, off, none⟩ : Addr).add j = ⟨kb, off + j, none⟩ := by unfold Addr.add; split <;> simp_all
 rw [hadd, ← hc j u (hp j u hu)]
 have h1 : wr.heap[kb]? = w.heap[kb]? := hk.block kb (by
  rintro (e | e)
  · exact absurd hlt (Nat.not_lt.2 e)
  · exact hne e)
 have h2 : w4.heap[kb]? = wr.heap[kb]? := h4.block kb (by
  have := hk.size
  have e1 : w.heap.size ≤ wr.heap.size := this
  show kb < wr.heap.size
  omega)
 exact World.cell?_of_block (a := ⟨kb, off + j, none⟩) (h2.trans h1)
theorem mac_bs {w : World} {g sz : Nat} {r s S : L} {rest : List UInt8} (h : rest.length = 16) (hm : Row w g (macCells r s S rest sz) 155) : Bs w w.heap.size (.slice (some ⟨g, 16, none⟩) 16 16) rest :=
 ⟨_, 16, by rw [h], by omega, fun _ => ⟨g, 16, rfl, hm.lt, fun i u hu => hm.cell (mac_rest r s S rest sz i u hu)⟩⟩
theorem wpList_copy_keep {P : Program} {w : World} {ops : Array Oper} {rest : List Oper} {o : Oper} {a : Act} {Q : Exit → Act → World → Prop} (hgd : o.guard = none) (d s : Operand) (dT sT : TypeId)
 (ho : o.op = .call { callee := .builtin .copy, args := #[d, s], argTypes := #[dT, sT] }) (elem : TypeId) (hu : P.underlying dT = some (.slice elem)) (hsz : (P.info? elem).map (·.size) = some 1)
 {g off dLen dCap : Nat} {ad : Addr} {sLen sCap : Nat} (hd : a.eval d = .slice (some ⟨g, off, none⟩) dLen dCap) (hs : a.eval s = .slice (some ad) sLen sCap)
 {cur : List Value} {t : TypeId} (hg : Row w g cur t) (cs : List Value) (hn : cs.length = Nat.min sLen dLen)
 (hsrc : ∀ j v, cs[j]? = some v → w.cell? (ad.add j) = some v) (hfit : off + cs.length ≤ cur.length) (h1 : ∀ v ∈ cs, v.oneCell' = true)
 (h : ∀ w', Row w' g (splice cur off cs) t → Ev.Keep ⟨w, fun k => k = g⟩ w' → wpList P ops Q rest (a.put o.dst (goInt cs.length)) w') : wpList P ops Q (o :: rest) a w := by
 refine wpList_copy_own hgd d s dT sT ho elem hu hsz g off dLen dCap ad sLen sCap hd hs cur.toArray t hg cs hn hsrc (by simpa using hfit) h1 (h _ ?_ ⟨rfl, rfl, rfl, by simp [World.setRow], fun k hk => setRow_other w g k _ fun e => hk (.inr e)⟩)
 exact setRow_heap w g _ _ t _ hg
theorem keep_on {w wr w4 w5 : World} {g : Nat} (h1 : Ev.Keep ⟨w, fun k => k = g⟩ wr) (h2 : Grew wr.drew w4) (h3 : Ev.Keep ⟨w4, fun k => k = g⟩ w5) : Ev.Keep ⟨w, fun k => k = g⟩ w5 := by
 have s1 : w.heap.size ≤ wr.heap.size := h1.size
 have s2 : wr.heap.size ≤ w4.heap.size := h2.size
 have s3 : w4.heap.size ≤ w5.heap.size := h3.size
 refine ⟨h3.os.trans (h2.os.trans h1.os), h3.tape.trans (h2.tape.trans h1.tape), h3.output.trans (h2.output.trans h1.output), by show w.heap.size ≤ _; omega, fun k hk => ?_⟩
 have hk1 : k < w.heap.size := Nat.lt_of_not_le fun e => hk (.inl e)
 have hk2 : k ≠ g := fun e => hk (.inr e)
 have e3 := h3.block k (by
  rintro (e | e)
  · have e' : w4.heap.size ≤ k := e
    omega
  · exact hk2 e)
 have e2 := h2.block k (by show k < wr.heap.size; omega)
 exact e3.trans (e2.trans (h1.block k hk))
theorem keep_setRow {w : World} {g : Nat} (cs : Array Value) : Ev.Keep ⟨w, fun k => k = g⟩ (w.setRow g cs) := ⟨rfl, rfl, rfl, by simp [World.setRow], fun k hk => setRow_other w g k _ fun e => hk (.inr e)⟩
theorem joined {l b l' p : List UInt8} {j m : Nat} (hl' : l ++ b.take j = l') (hp : (b.drop j).take m = p) : l ++ b.take (j + p.length) = l' ++ p := by
 rw [← hl', List.append_assoc]
 congr 1
 rw [List.take_add]
 congr 1
 rw [← hp, List.length_take, ← List.take_take, List.take_length]
theorem mac_after_take {W : World} {g : Nat} {r s S : L} {l' p rest' : List UInt8} {sz k16 : Nat} (HRl : rest'.length = 16) (Hrest : rest'.take (l'.length % 16) = l'.drop (16 * (l'.length / 16))) (HS : sumL r l' = S) (Hszl : l'.length = sz) (Hk : sz % 16 = k16)
 (hlt : k16 + p.length < 16) (hrow : Row W g (macCells r s S (splice rest' k16 p) (sz + p.length)) 155) : MacAt W g r s (l' ++ p) := by
 subst HS
 subst Hszl
 subst Hk
 refine ⟨_, rest_len HRl (Nat.le_of_lt hlt), step_take HRl Hrest hlt, ?_⟩
 rw [sum_take hlt, List.length_append]
 exact hrow
theorem mac_after_fill {W : World} {g : Nat} {r s S : L} {l' p rest' : List UInt8} {sz k16 : Nat} (HRl : rest'.length = 16) (Hrest : rest'.take (l'.length % 16) = l'.drop (16 * (l'.length / 16))) (HS : sumL r l' = S) (Hszl : l'.length = sz) (Hk : sz % 16 = k16)
 (heq : k16 + p.length = 16) (hrow : Row W g (macCells r s (Poly.next S r (Poly.le (splice rest' k16 p) + 256 ^ 16)) (splice rest' k16 p) (sz + p.length)) 155) : MacAt W g r s (l' ++ p) := by
 subst HS
 subst Hszl
 subst Hk
 obtain ⟨h1, h2, h3⟩ := step_fill HRl Hrest heq
 refine ⟨_, rest_len HRl (Nat.le_of_eq heq), ?_, ?_⟩
 · rw [h2, List.take_zero, List.drop_of_length_le (by omega)]
 · rw [sum_fill HRl Hrest heq, List.length_append]
   exact hrow
theorem slice_next {w : World} {g kb off j n c' : Nat} {b : List UInt8} (hkg : kb ≠ g) (hkw : kb < w.heap.size) (hn : n ≤ b.length - j) (hc : b.length - j ≤ c') (hc2 : ¬ c' = n)
 (hcell : ∀ (i : Nat) (u : UInt8), (b.drop j)[i]? = some u → w.cell? ⟨kb, off + i, none⟩ = some (bv u)) :
 ∃ A' c'', Value.slice (some ⟨kb, off + n, none⟩) (b.length - j - n) (c' - n) = .slice A' (b.length - (j + n)) c'' ∧ b.length - (j + n) ≤ c'' ∧ (j + n < b.length → ∃ k off', A' = some ⟨k, off', none⟩ ∧ k ≠ g ∧ k < w.heap.size ∧ ∀ (i : Nat) (u : UInt8), (b.drop (j + n))[i]? = some u → w.cell? ⟨k, off' + i, none⟩ = some (bv u)) := by
 refine ⟨_, c' - n, by rw [Nat.sub_sub], by omega, fun _ => ⟨kb, off + n, rfl, hkg, hkw, fun i u hu => ?_⟩⟩
 rw [Nat.add_assoc]
 refine hcell (n + i) u ?_
 rw [List.getElem?_drop] at hu ⊢
 rw [← hu]
 congr 1
 omega
theorem slice_last {w : World} {g j n c' : Nat} {X : Option Addr} {b : List UInt8} (hn : n ≤ b.length - j) (hc : b.length - j ≤ c') (hc2 : c' = n) :
 ∃ A' c'', Value.slice X (b.length - j - n) 0 = .slice A' (b.length - (j + n)) c'' ∧ b.length - (j + n) ≤ c'' ∧ (j + n < b.length → ∃ k off', A' = some ⟨k, off', none⟩ ∧ k ≠ g ∧ k < w.heap.size ∧ ∀ (i : Nat) (u : UInt8), (b.drop (j + n))[i]? = some u → w.cell? ⟨k, off' + i, none⟩ = some (bv u)) :=
 ⟨X, 0, by rw [Nat.sub_sub], by omega, fun h => absurd h (by omega)⟩
def Rest (w : World) (g : Nat) (v : Value) (b : List UInt8) : Prop :=
 ∃ A c, v = .slice A b.length c ∧ b.length ≤ c ∧ (b ≠ [] → ∃ k off, A = some ⟨k, off, none⟩ ∧ k ≠ g ∧ k < w.heap.size ∧ ∀ (i : Nat) (u : UInt8), b[i]? = some u → w.cell? ⟨k, off + i, none⟩ = some (bv u))
def lenOf : Value → Nat
 | .slice _ n _ => n
 | _ => 0
set_option maxRecDepth 100000 in
set_option maxHeartbeats 1000000 in
theorem Write_any {w : World} {g : Nat} {r s : L} {l b : List UInt8} {v : Value} (hr : Poly.Fit r) (h : MacAt w g r s l) (hb : Rest w g v b) (hsz : l.length + b.length < 4611686018427387904) :
 Calls Tryz.prog 73 #[.pointer (some ⟨g, 0, none⟩), v] w fun e w1 => e = .returned (.int .i64 0) ∧ MacAt w1 g r s (l ++ b) ∧ Ev.Keep ⟨w, fun k => k = g⟩ w1 := by
 obtain ⟨A, c, rfl, hc, hcs⟩ := hb
 have H := Lib.hid h
 have Hcs := Lib.hid hcs
 obtain ⟨rest, hrl, hrest, hrow⟩ := h
 have Hrow := Lib.hid hrow
 clear hrow hcs
 have hglt : g < w.heap.size := Hrow.out.lt
 go_enter Tryz.func73, Tryz.ntmps73
 go_wp2_with (first
  | (go_at_call 84; refine (valid_any Hrow.out).mono ?_; rintro e w' ⟨rfl, rfl⟩)
  | fail)
 clear Hrow hrest hrl rest
 go_loopw [1] (fun vv wr => ∃ j : Nat, j ≤ b.length ∧ (∃ A' c', vv = .slice A' (b.length - j) c' ∧ b.length - j ≤ c' ∧ (j < b.length → ∃ k off, A' = some ⟨k, off, none⟩ ∧ k ≠ g ∧ k < w.heap.size ∧ ∀ (i : Nat) (u : UInt8), (b.drop j)[i]? = some u → w.cell? ⟨k, off + i, none⟩ = some (bv u))) ∧ MacAt wr g r s (l ++ b.take j) ∧ Ev.Keep ⟨w, fun k => k = g⟩ wr) (fun vv _ => lenOf vv)
 case atStart =>
  refine ⟨0, Nat.zero_le _, ⟨A, c, rfl, hc, fun hj => ?_⟩, by simpa using H.out, ⟨rfl, rfl, rfl, Nat.le_refl _, fun _ _ => rfl⟩⟩
  exact Hcs.out (by intro h; subst h; simp at hj)
 case round =>
  obtain ⟨j, hj, ⟨A', c', rfl, hc', hcl⟩, hmac, hkeep⟩ := hrel
  by_cases hjb : j < b.length
  · obtain ⟨kb, off, rfl, hkg, hkw, hcell⟩ := hcl hjb
    obtain ⟨rest', hrl, hrest, hrow⟩ := hmac
    obtain ⟨l', hl'⟩ : ∃ l', l ++ b.take j = l' := ⟨_, rfl⟩
    rw [hl'] at hrest hrow
    have hlen' : l'.length = l.length + j := by rw [← hl', List.length_append, List.length_take]; omega
    obtain ⟨S, hS⟩ : ∃ S, sumL r l' = S := ⟨_, rfl⟩
    obtain ⟨sz, hszl⟩ : ∃ sz, l'.length = sz := ⟨_, rfl⟩
    rw [hS, hszl] at hrow
    obtain ⟨k16, hk⟩ : ∃ k16, sz % 16 = k16 := ⟨_, rfl⟩
    have hk16 : (sz : Int) % 16 = (k16 : Int) := by omega
    have hk16' : k16 < 16 := by omega
    have hk16i : (k16 : Int) ≤ 16 := by omega
    have hk16n : ¬ (16 : Int) = (k16 : Int) := by omega
    have hk16m : ¬ 16 = k16 := by omega
    have hjl : 0 < b.length - j := Nat.sub_pos_of_lt hjb
    have hjl' : (0 : Int) < ((b.length - j : Nat) : Int) := by omega
    have HM := Lib.hid hrow
    have HRl := Lib.hid hrl
    have Hrest := Lib.hid hrest
    have Hcell := Lib.hid hcell
    have Hkeep := Lib.hid hkeep
    have HS := Lib.hid hS
    have Hszl := Lib.hid hszl
    have Hl' := Lib.hid hl'
    have Hlen := Lib.hid hlen'
    have Hk := Lib.hid hk
    clear hcl hrow hrl hrest hcell hkeep hS hszl hl' hlen' hk H Hcs
    go_wp2_with fail
    refine Tail.marksAt mixed 10 Grew [By.is (.pointer (some ⟨g, 0, none⟩)),
     By.is (.pointer (some ⟨g, 0, none⟩)),
     By.is (.pointer (some ⟨g, 16, none⟩)),
     By.is (.pointer (some ⟨g, 0, none⟩)),
     By.is (.pointer (some ⟨g, 0, none⟩)),
     By.is (.pointer (some ⟨g, 32, none⟩)),
     By.is (.int .i64 (sz : Int)),
     By.is (.int .i64 (k16 : Int)),
     By.is (.slice (some ⟨g, 16 + k16, none⟩) (16 - k16) (16 - k16)),
     By.is (.slice (some ⟨kb, off, none⟩) (b.length - j) c')]
     (Ev.masks _ []) (Nat.zero_lt_succ _) (by kernel_rfl) (by kernel_rfl) rfl Grew.refl Grew.trans ⟨?_, ?_, ?_, ?_, ?_, ?_, ?_, ?_, ?_, ?_, trivial⟩ ?_
    · intro a w ht hs hg
      have h0 := By.same_get hs 0 (by decide) (by kernel_rfl)
      refine By.yes rfl ?_
      clear hs hg
      go_simp
      exact ⟨_, rfl, Grew.refl _, rfl⟩
    · intro a w ht hs hg
      have h12 : a.tmps.getD 12 undef = _ := By.given_get hg 0 rfl rfl (by kernel_rfl)
      refine By.yes rfl ?_
      clear hs hg
      go_simp
      exact ⟨_, rfl, Grew.refl _, rfl⟩
    · intro a w ht hs hg
      have h13 : a.tmps.getD 13 undef = _ := By.given_get hg 1 rfl rfl (by kernel_rfl)
      refine By.yes rfl ?_
      clear hs hg
      go_simp
      exact ⟨_, rfl, Grew.refl _, rfl⟩
    · intro a w ht hs hg
      have h0 := By.same_get hs 0 (by decide) (by kernel_rfl)
      refine By.yes rfl ?_
      clear hs hg
      go_simp
      exact ⟨_, rfl, Grew.refl _, rfl⟩
    · intro a w ht hs hg
      have h15 : a.tmps.getD 15 undef = _ := By.given_get hg 3 rfl rfl (by kernel_rfl)
      refine By.yes rfl ?_
      clear hs hg
      go_simp
      exact ⟨_, rfl, Grew.refl _, rfl⟩
    · intro a w ht hs hg
      have h16 : a.tmps.getD 16 undef = _ := By.given_get hg 4 rfl rfl (by kernel_rfl)
      refine By.yes rfl ?_
      clear hs hg
      go_simp
      exact ⟨_, rfl, Grew.refl _, rfl⟩
    · intro a w ht hs hg
      have h17 : a.tmps.getD 17 undef = _ := By.given_get hg 5 rfl rfl (by kernel_rfl)
      refine By.yes rfl ?_
      clear hs hg
      have hcell := (Row.below (w := wr.drew) HM.out ht HM.out.lt).cell (mac_size r s S rest' sz HRl.out)
      go_simp
      exact ⟨_, rfl, Grew.refl _, rfl⟩
    · intro a w ht hs hg
      have h18 : a.tmps.getD 18 undef = _ := By.given_get hg 6 rfl rfl (by kernel_rfl)
      refine By.yes rfl ?_
      clear hs hg
      go_simp
      exact ⟨_, rfl, Grew.refl _, by rw [rem16, Hk.out]; rfl⟩
    · intro a w ht hs hg
      have h14 : a.tmps.getD 14 undef = _ := By.given_get hg 2 rfl rfl (by kernel_rfl)
      have h19 : a.tmps.getD 19 undef = _ := By.given_get hg 7 rfl rfl (by kernel_rfl)
      refine By.yes rfl ?_
      clear hs hg
      go_simp
      exact ⟨_, rfl, Grew.refl _, rfl⟩
    · intro a w ht hs hg
      have h1 := By.same_get hs 1 (by decide) (by kernel_rfl)
      refine By.yes rfl ?_
      clear hs hg
      go_simp
      exact ⟨_, rfl, Grew.refl _, rfl⟩
    refine By.ends_is (By.ends_is (By.ends_is (By.ends_is (By.ends_is (By.ends_is (By.ends_is (By.ends_is (By.ends_is (By.ends_is (By.ends_nil fun w4 hw4 => ?_))))))))))
    simp only [Act.put, List.setIfInBounds_toArray, List.set_cons_succ, List.set_cons_zero]
    simp only [List.drop_succ_cons, List.drop_zero]
    obtain ⟨p, hp⟩ : ∃ p, (b.drop j).take (16 - k16) = p := ⟨_, rfl⟩
    have hpl : p.length = Nat.min (b.length - j) (16 - k16) := by rw [← hp, List.length_take, List.length_drop]; exact Nat.min_comm _ _
    have hpi : ∀ (i : Nat) (u : UInt8), p[i]? = some u → (b.drop j)[i]? = some u := by
     intro i u hu
     rw [← hp, List.getElem?_take] at hu
     split at hu
     · exact hu
     · cases hu
    have hM4 := Row.below (w := wr.drew) HM.out hw4 HM.out.lt
    have hp1 : k16 + p.length ≤ 16 := by
     have : p.length ≤ 16 - k16 := by rw [hpl]; exact Nat.min_le_right _ _
     omega
    have hp2 : p.length ≤ b.length - j := by rw [hpl]; exact Nat.min_le_left _ _
    have hp0 : 0 < p.length := by rw [hpl]; exact Nat.lt_min.2 ⟨hjl, by omega⟩
    have Hp := Lib.hid hp
    have Hpl := Lib.hid hpl
    have Hpi := Lib.hid hpi
    have HM4 := Lib.hid hM4
    have Hw4 := Lib.hid hw4
    clear hp hpl hpi hM4 hw4
    have hj8 : sz + p.length = l.length + (j + p.length) := by rw [← Hszl.out, Hlen.out]; omega
    have hs1 : IntKind.i64.wrap ((sz : Int) + (p.length : Int)) = (sz : Int) + (p.length : Int) := by
     have : (sz : Int) + (p.length : Int) < 4611686018427387904 := by omega
     unfold IntKind.wrap
     simp [IntKind.bits, IntKind.signed]
     omega
    have hs2 : (p.length : Int) ≤ ((b.length - j : Nat) : Int) := by omega
    have hs3 : (p.length : Int) ≤ (c' : Int) := by omega
    have hs4 : ((b.length - j : Nat) : Int) ≤ (c' : Int) := by omega
    have Hj8 := Lib.hid hj8
    have Hsz := Lib.hid hsz
    clear hj8 hsz
    by_cases hcp : c' = p.length
    · have hcp1 : (c' : Int) = (p.length : Int) := by omega
      by_cases hz : (sz + p.length) % 16 = 0
      · have hz1 : ((sz : Int) + (p.length : Int)) % 16 = 0 := by omega
        go_wp2_with (first
         | (refine wpList_copy_keep rfl (.tmp 20) (.tmp 21) 38 38 rfl 5 (by kernel_rfl) (by kernel_rfl) rfl rfl HM4.out (p.map bv) (by rw [List.length_map]; exact Hpl.out) (copy_src Hw4.out Hkeep.out hkg hkw Hcell.out Hpi.out) (by rw [macCells_length _ _ _ _ _ HRl.out, List.length_map]; have := hp1; omega) (bytes1 p) ?_
            intro w5 hG5 hB5
            have HM5 := Lib.hid (row_copied HRl.out hp1 hG5)
            have hcell5 := HM5.out.cell (mac_size r s S (splice rest' k16 p) sz (rest_len HRl.out hp1))
            have hfr5 := frozen_row HM5.out 32
            have HM6 := Lib.hid ((HM5.out.set 32 (.int .i64 ((sz + p.length : Nat) : Int))).same (mac_set (rest_len HRl.out hp1)).symm)
            have HB5 := Lib.hid (keep_on Hkeep.out Hw4.out hB5)
            clear hG5 hB5)
         | fail)
        obtain ⟨wz, hwz⟩ : ∃ wz, w5.setCell ⟨g, 32, none⟩ (.int .i64 ((sz : Int) + (p.length : Int))) = wz := ⟨_, rfl⟩
        have hKz : Ev.Keep ⟨w, fun k => k = g⟩ wz := hwz ▸ HB5.out.setCell (.inr rfl) _
        obtain ⟨restn, hrn⟩ : ∃ restn, splice rest' k16 p = restn := ⟨_, rfl⟩
        have hrnl : restn.length = 16 := hrn ▸ rest_len HRl.out hp1
        have hMz : Row wz g (macCells r s S restn (sz + p.length)) 155 := by rw [← hrn, ← hwz]; exact HM6.out
        have hSl : Poly.Loose S := HS.out ▸ sumN_loose hr _ _
        have hbz : ∀ w', Grew wz.drew w' → Bs w' w'.heap.size (.slice (some ⟨g, 16, none⟩) 16 16) restn := by
         intro w' hw'
         have hlt := (Row.below (w := wz.drew) hMz hw' hMz.lt).lt
         have := (mac_bs hrnl (Row.below (w := wz.drew) hMz hw' hMz.lt))
         exact this
        have HKz := Lib.hid hKz
        have HRn := Lib.hid hrnl
        have HMz := Lib.hid hMz
        have HSl := Lib.hid hSl
        have HBz := Lib.hid hbz
        have Hrn := Lib.hid hrn
        have Hlz := Lib.hid (macCells_length r s S restn (sz + p.length) hrnl)
        rw [hwz]
        clear hwz hKz hrnl hMz hSl hbz hrn HM5 HM6 HB5 hcell5 hfr5
        refine Tail.marksAt mixed 14 Grew [By.is (.pointer (some ⟨g, 0, none⟩)),
         By.is (.pointer (some ⟨g, 0, none⟩)),
         By.is (.pointer (some ⟨g, 0, none⟩)),
         By.is (.pointer (some ⟨g, 11, none⟩)),
         By.is (lv S),
         By.is (.pointer (some ⟨g, 0, none⟩)),
         By.is (.pointer (some ⟨g, 0, none⟩)),
         By.is (.pointer (some ⟨g, 1, none⟩)),
         By.is (lv r),
         By.is (.pointer (some ⟨g, 0, none⟩)),
         By.is (.pointer (some ⟨g, 0, none⟩)),
         By.is (.pointer (some ⟨g, 16, none⟩)),
         By.is (.slice (some ⟨g, 16, none⟩) 16 16),
         By.is (lv (Poly.next S r (Poly.le restn + 256 ^ 16)))]
         (Ev.masks _ []) (Nat.zero_lt_succ _) (by kernel_rfl) (by kernel_rfl) rfl Grew.refl Grew.trans ⟨?_, ?_, ?_, ?_, ?_, ?_, ?_, ?_, ?_, ?_, ?_, ?_, ?_, ?_, trivial⟩ ?_
        · intro a w ht hs hg
          have h0 := By.same_get hs 0 (by decide) (by kernel_rfl)
          refine By.yes rfl ?_
          clear hs hg
          go_simp
          exact ⟨_, rfl, Grew.refl _, rfl⟩
        · intro a w ht hs hg
          have h0 := By.same_get hs 0 (by decide) (by kernel_rfl)
          refine By.yes rfl ?_
          clear hs hg
          go_simp
          exact ⟨_, rfl, Grew.refl _, rfl⟩
        · intro a w ht hs hg
          have h41 : a.tmps.getD 41 undef = _ := By.given_get hg 1 rfl rfl (by kernel_rfl)
          refine By.yes rfl ?_
          clear hs hg
          go_simp
          exact ⟨_, rfl, Grew.refl _, rfl⟩
        · intro a w ht hs hg
          have h42 : a.tmps.getD 42 undef = _ := By.given_get hg 2 rfl rfl (by kernel_rfl)
          refine By.yes rfl ?_
          clear hs hg
          go_simp
          exact ⟨_, rfl, Grew.refl _, rfl⟩
        · intro a w ht hs hg
          have h43 : a.tmps.getD 43 undef = _ := By.given_get hg 3 rfl rfl (by kernel_rfl)
          refine By.yes rfl ?_
          clear hs hg
          refine wp_loadSub (n := 5) 152 _ rfl h43 (Row.below (w := wz.drew) HMz.out ht HMz.out.lt) Tryz.underlying152 rfl (by kernel_rfl) (by rw [Hlz.out]; decide) ?_
          rw [mac_sum]
          exact ⟨_, rfl, Grew.refl _, rfl⟩
        · intro a w ht hs hg
          have h0 := By.same_get hs 0 (by decide) (by kernel_rfl)
          refine By.yes rfl ?_
          clear hs hg
          go_simp
          exact ⟨_, rfl, Grew.refl _, rfl⟩
        · intro a w ht hs hg
          have h45 : a.tmps.getD 45 undef = _ := By.given_get hg 5 rfl rfl (by kernel_rfl)
          refine By.yes rfl ?_
          clear hs hg
          go_simp
          exact ⟨_, rfl, Grew.refl _, rfl⟩
        · intro a w ht hs hg
          have h46 : a.tmps.getD 46 undef = _ := By.given_get hg 6 rfl rfl (by kernel_rfl)
          refine By.yes rfl ?_
          clear hs hg
          go_simp
          exact ⟨_, rfl, Grew.refl _, rfl⟩
        · intro a w ht hs hg
          have h47 : a.tmps.getD 47 undef = _ := By.given_get hg 7 rfl rfl (by kernel_rfl)
          refine By.yes rfl ?_
          clear hs hg
          refine wp_loadSub (n := 5) 152 _ rfl h47 (Row.below (w := wz.drew) HMz.out ht HMz.out.lt) Tryz.underlying152 rfl (by kernel_rfl) (by rw [Hlz.out]; decide) ?_
          rw [mac_r]
          exact ⟨_, rfl, Grew.refl _, rfl⟩
        · intro a w ht hs hg
          have h0 := By.same_get hs 0 (by decide) (by kernel_rfl)
          refine By.yes rfl ?_
          clear hs hg
          go_simp
          exact ⟨_, rfl, Grew.refl _, rfl⟩
        · intro a w ht hs hg
          have h49 : a.tmps.getD 49 undef = _ := By.given_get hg 9 rfl rfl (by kernel_rfl)
          refine By.yes rfl ?_
          clear hs hg
          go_simp
          exact ⟨_, rfl, Grew.refl _, rfl⟩
        · intro a w ht hs hg
          have h50 : a.tmps.getD 50 undef = _ := By.given_get hg 10 rfl rfl (by kernel_rfl)
          refine By.yes rfl ?_
          clear hs hg
          go_simp
          exact ⟨_, rfl, Grew.refl _, rfl⟩
        · intro a w ht hs hg
          have h51 : a.tmps.getD 51 undef = _ := By.given_get hg 11 rfl rfl (by kernel_rfl)
          refine By.yes rfl ?_
          clear hs hg
          go_simp
          exact ⟨_, rfl, Grew.refl _, rfl⟩
        · intro a w ht hs hg
          have h44 : a.tmps.getD 44 undef = _ := By.given_get hg 4 rfl rfl (by kernel_rfl)
          have h48 : a.tmps.getD 48 undef = _ := By.given_get hg 8 rfl rfl (by kernel_rfl)
          have h52 : a.tmps.getD 52 undef = _ := By.given_get hg 12 rfl rfl (by kernel_rfl)
          refine By.yes rfl ?_
          clear hs hg
          have hb := HBz.out w ht
          go_simp
          have hn := next_any HSl.out hr _ restn (by rw [HRn.out]; decide) (by rw [HRn.out]; decide) w hb
          rw [HRn.out] at hn
          refine hn.mono ?_
          rintro e w' ⟨rfl, hb2⟩
          exact ⟨_, rfl, hb2, rfl⟩
        refine By.ends_is (By.ends_is (By.ends_is (By.ends_is (By.ends_is (By.ends_is (By.ends_is (By.ends_is (By.ends_is (By.ends_is (By.ends_is (By.ends_is (By.ends_is (By.ends_is (By.ends_nil fun w8 hw8 => ?_))))))))))))))
        simp only [Act.put, List.setIfInBounds_toArray, List.set_cons_succ, List.set_cons_zero]
        simp only [List.drop_succ_cons, List.drop_zero]
        have HM8 := Lib.hid (Row.below (w := wz.drew) HMz.out hw8 HMz.out.lt)
        have Hw8 := Lib.hid hw8
        clear hw8
        obtain ⟨X, hX⟩ : ∃ X, Poly.next S r (Poly.le restn + 256 ^ 16) = X := ⟨_, rfl⟩
        have HX := Lib.hid hX
        rw [hX]
        clear hX
        go_wp2_with (first
         | (refine wpList_storeSub (n := 5) rfl 152 _ _ rfl rfl rfl (cs := lc X) (old := macCells r s S restn (sz + p.length)) HM8.out (by kernel_rfl) rfl (by rw [Hlz.out]; exact (by decide : 16 ≤ 33)) (lc_one X) ?_
            simp only [Act.put])
         | fail)
        go_roundw
        case rel =>
         refine ⟨j + p.length, by omega, slice_last hp2 hc' hcp, ?_, keep_on HKz.out Hw8.out (keep_setRow _)⟩
         rw [joined Hl'.out Hp.out]
         exact mac_after_fill HRl.out Hrest.out HS.out Hszl.out Hk.out (by have := hz; have := Hk.out; omega) (by rw [Hrn.out, HX.out]; exact (HM8.out.setRow _).same mac_sum_store.symm)
        case measure => simp [lenOf]; omega
      · obtain ⟨m16, hm16⟩ : ∃ m16, (sz + p.length) % 16 = m16 := ⟨_, rfl⟩
        have hz1 : ((sz : Int) + (p.length : Int)) % 16 = (m16 : Int) := by omega
        have hz2 : ¬ (m16 : Int) = 0 := by omega
        have hz3 : ¬ m16 = 0 := by omega
        have Hm16 := Lib.hid hm16
        have Hz := Lib.hid hz
        clear hm16 hz
        go_wp2_with (first
         | (refine wpList_copy_keep rfl (.tmp 20) (.tmp 21) 38 38 rfl 5 (by kernel_rfl) (by kernel_rfl) rfl rfl HM4.out (p.map bv) (by rw [List.length_map]; exact Hpl.out) (copy_src Hw4.out Hkeep.out hkg hkw Hcell.out Hpi.out) (by rw [macCells_length _ _ _ _ _ HRl.out, List.length_map]; have := hp1; omega) (bytes1 p) ?_
            intro w5 hG5 hB5
            have HM5 := Lib.hid (row_copied HRl.out hp1 hG5)
            have hcell5 := HM5.out.cell (mac_size r s S (splice rest' k16 p) sz (rest_len HRl.out hp1))
            have hfr5 := frozen_row HM5.out 32
            have HM6 := Lib.hid ((HM5.out.set 32 (.int .i64 ((sz + p.length : Nat) : Int))).same (mac_set (rest_len HRl.out hp1)).symm)
            have HB5 := Lib.hid (keep_on Hkeep.out Hw4.out hB5)
            clear hG5 hB5)
         | fail)
        go_roundw
        case rel =>
         refine ⟨j + p.length, by omega, slice_last hp2 hc' hcp, ?_, HB5.out.setCell (.inr rfl) _⟩
         rw [joined Hl'.out Hp.out]
         exact mac_after_take HRl.out Hrest.out HS.out Hszl.out Hk.out (by have := Hz.out; have := Hk.out; omega) HM6.out
        case measure => simp [lenOf]; omega
    · have hcp1 : ¬ (c' : Int) = (p.length : Int) := by omega
      by_cases hz : (sz + p.length) % 16 = 0
      · have hz1 : ((sz : Int) + (p.length : Int)) % 16 = 0 := by omega
        go_wp2_with (first
         | (refine wpList_copy_keep rfl (.tmp 20) (.tmp 21) 38 38 rfl 5 (by kernel_rfl) (by kernel_rfl) rfl rfl HM4.out (p.map bv) (by rw [List.length_map]; exact Hpl.out) (copy_src Hw4.out Hkeep.out hkg hkw Hcell.out Hpi.out) (by rw [macCells_length _ _ _ _ _ HRl.out, List.length_map]; have := hp1; omega) (bytes1 p) ?_
            intro w5 hG5 hB5
            have HM5 := Lib.hid (row_copied HRl.out hp1 hG5)
            have hcell5 := HM5.out.cell (mac_size r s S (splice rest' k16 p) sz (rest_len HRl.out hp1))
            have hfr5 := frozen_row HM5.out 32
            have HM6 := Lib.hid ((HM5.out.set 32 (.int .i64 ((sz + p.length : Nat) : Int))).same (mac_set (rest_len HRl.out hp1)).symm)
            have HB5 := Lib.hid (keep_on Hkeep.out Hw4.out hB5)
            clear hG5 hB5)
         | fail)
        obtain ⟨wz, hwz⟩ : ∃ wz, w5.setCell ⟨g, 32, none⟩ (.int .i64 ((sz : Int) + (p.length : Int))) = wz := ⟨_, rfl⟩
        have hKz : Ev.Keep ⟨w, fun k => k = g⟩ wz := hwz ▸ HB5.out.setCell (.inr rfl) _
        obtain ⟨restn, hrn⟩ : ∃ restn, splice rest' k16 p = restn := ⟨_, rfl⟩
        have hrnl : restn.length = 16 := hrn ▸ rest_len HRl.out hp1
        have hMz : Row wz g (macCells r s S restn (sz + p.length)) 155 := by rw [← hrn, ← hwz]; exact HM6.out
        have hSl : Poly.Loose S := HS.out ▸ sumN_loose hr _ _
        have hbz : ∀ w', Grew wz.drew w' → Bs w' w'.heap.size (.slice (some ⟨g, 16, none⟩) 16 16) restn := by
         intro w' hw'
         have hlt := (Row.below (w := wz.drew) hMz hw' hMz.lt).lt
         have := (mac_bs hrnl (Row.below (w := wz.drew) hMz hw' hMz.lt))
         exact this
        have HKz := Lib.hid hKz
        have HRn := Lib.hid hrnl
        have HMz := Lib.hid hMz
        have HSl := Lib.hid hSl
        have HBz := Lib.hid hbz
        have Hrn := Lib.hid hrn
        have Hlz := Lib.hid (macCells_length r s S restn (sz + p.length) hrnl)
        rw [hwz]
        clear hwz hKz hrnl hMz hSl hbz hrn HM5 HM6 HB5 hcell5 hfr5
        refine Tail.marksAt mixed 14 Grew [By.is (.pointer (some ⟨g, 0, none⟩)),
         By.is (.pointer (some ⟨g, 0, none⟩)),
         By.is (.pointer (some ⟨g, 0, none⟩)),
         By.is (.pointer (some ⟨g, 11, none⟩)),
         By.is (lv S),
         By.is (.pointer (some ⟨g, 0, none⟩)),
         By.is (.pointer (some ⟨g, 0, none⟩)),
         By.is (.pointer (some ⟨g, 1, none⟩)),
         By.is (lv r),
         By.is (.pointer (some ⟨g, 0, none⟩)),
         By.is (.pointer (some ⟨g, 0, none⟩)),
         By.is (.pointer (some ⟨g, 16, none⟩)),
         By.is (.slice (some ⟨g, 16, none⟩) 16 16),
         By.is (lv (Poly.next S r (Poly.le restn + 256 ^ 16)))]
         (Ev.masks _ []) (Nat.zero_lt_succ _) (by kernel_rfl) (by kernel_rfl) rfl Grew.refl Grew.trans ⟨?_, ?_, ?_, ?_, ?_, ?_, ?_, ?_, ?_, ?_, ?_, ?_, ?_, ?_, trivial⟩ ?_
        · intro a w ht hs hg
          have h0 := By.same_get hs 0 (by decide) (by kernel_rfl)
          refine By.yes rfl ?_
          clear hs hg
          go_simp
          exact ⟨_, rfl, Grew.refl _, rfl⟩
        · intro a w ht hs hg
          have h0 := By.same_get hs 0 (by decide) (by kernel_rfl)
          refine By.yes rfl ?_
          clear hs hg
          go_simp
          exact ⟨_, rfl, Grew.refl _, rfl⟩
        · intro a w ht hs hg
          have h41 : a.tmps.getD 41 undef = _ := By.given_get hg 1 rfl rfl (by kernel_rfl)
          refine By.yes rfl ?_
          clear hs hg
          go_simp
          exact ⟨_, rfl, Grew.refl _, rfl⟩
        · intro a w ht hs hg
          have h42 : a.tmps.getD 42 undef = _ := By.given_get hg 2 rfl rfl (by kernel_rfl)
          refine By.yes rfl ?_
          clear hs hg
          go_simp
          exact ⟨_, rfl, Grew.refl _, rfl⟩
        · intro a w ht hs hg
          have h43 : a.tmps.getD 43 undef = _ := By.given_get hg 3 rfl rfl (by kernel_rfl)
          refine By.yes rfl ?_
          clear hs hg
          refine wp_loadSub (n := 5) 152 _ rfl h43 (Row.below (w := wz.drew) HMz.out ht HMz.out.lt) Tryz.underlying152 rfl (by kernel_rfl) (by rw [Hlz.out]; decide) ?_
          rw [mac_sum]
          exact ⟨_, rfl, Grew.refl _, rfl⟩
        · intro a w ht hs hg
          have h0 := By.same_get hs 0 (by decide) (by kernel_rfl)
          refine By.yes rfl ?_
          clear hs hg
          go_simp
          exact ⟨_, rfl, Grew.refl _, rfl⟩
        · intro a w ht hs hg
          have h45 : a.tmps.getD 45 undef = _ := By.given_get hg 5 rfl rfl (by kernel_rfl)
          refine By.yes rfl ?_
          clear hs hg
          go_simp
          exact ⟨_, rfl, Grew.refl _, rfl⟩
        · intro a w ht hs hg
          have h46 : a.tmps.getD 46 undef = _ := By.given_get hg 6 rfl rfl (by kernel_rfl)
          refine By.yes rfl ?_
          clear hs hg
          go_simp
          exact ⟨_, rfl, Grew.refl _, rfl⟩
        · intro a w ht hs hg
          have h47 : a.tmps.getD 47 undef = _ := By.given_get hg 7 rfl rfl (by kernel_rfl)
          refine By.yes rfl ?_
          clear hs hg
          refine wp_loadSub (n := 5) 152 _ rfl h47 (Row.below (w := wz.drew) HMz.out ht HMz.out.lt) Tryz.underlying152 rfl (by kernel_rfl) (by rw [Hlz.out]; decide) ?_
          rw [mac_r]
          exact ⟨_, rfl, Grew.refl _, rfl⟩
        · intro a w ht hs hg
          have h0 := By.same_get hs 0 (by decide) (by kernel_rfl)
          refine By.yes rfl ?_
          clear hs hg
          go_simp
          exact ⟨_, rfl, Grew.refl _, rfl⟩
        · intro a w ht hs hg
          have h49 : a.tmps.getD 49 undef = _ := By.given_get hg 9 rfl rfl (by kernel_rfl)
          refine By.yes rfl ?_
          clear hs hg
          go_simp
          exact ⟨_, rfl, Grew.refl _, rfl⟩
        · intro a w ht hs hg
          have h50 : a.tmps.getD 50 undef = _ := By.given_get hg 10 rfl rfl (by kernel_rfl)
          refine By.yes rfl ?_
          clear hs hg
          go_simp
          exact ⟨_, rfl, Grew.refl _, rfl⟩
        · intro a w ht hs hg
          have h51 : a.tmps.getD 51 undef = _ := By.given_get hg 11 rfl rfl (by kernel_rfl)
          refine By.yes rfl ?_
          clear hs hg
          go_simp
          exact ⟨_, rfl, Grew.refl _, rfl⟩
        · intro a w ht hs hg
          have h44 : a.tmps.getD 44 undef = _ := By.given_get hg 4 rfl rfl (by kernel_rfl)
          have h48 : a.tmps.getD 48 undef = _ := By.given_get hg 8 rfl rfl (by kernel_rfl)
          have h52 : a.tmps.getD 52 undef = _ := By.given_get hg 12 rfl rfl (by kernel_rfl)
          refine By.yes rfl ?_
          clear hs hg
          have hb := HBz.out w ht
          go_simp
          have hn := next_any HSl.out hr _ restn (by rw [HRn.out]; decide) (by rw [HRn.out]; decide) w hb
          rw [HRn.out] at hn
          refine hn.mono ?_
          rintro e w' ⟨rfl, hb2⟩
          exact ⟨_, rfl, hb2, rfl⟩
        refine By.ends_is (By.ends_is (By.ends_is (By.ends_is (By.ends_is (By.ends_is (By.ends_is (By.ends_is (By.ends_is (By.ends_is (By.ends_is (By.ends_is (By.ends_is (By.ends_is (By.ends_nil fun w8 hw8 => ?_))))))))))))))
        simp only [Act.put, List.setIfInBounds_toArray, List.set_cons_succ, List.set_cons_zero]
        simp only [List.drop_succ_cons, List.drop_zero]
        have HM8 := Lib.hid (Row.below (w := wz.drew) HMz.out hw8 HMz.out.lt)
        have Hw8 := Lib.hid hw8
        clear hw8
        obtain ⟨X, hX⟩ : ∃ X, Poly.next S r (Poly.le restn + 256 ^ 16) = X := ⟨_, rfl⟩
        have HX := Lib.hid hX
        rw [hX]
        clear hX
        go_wp2_with (first
         | (refine wpList_storeSub (n := 5) rfl 152 _ _ rfl rfl rfl (cs := lc X) (old := macCells r s S restn (sz + p.length)) HM8.out (by kernel_rfl) rfl (by rw [Hlz.out]; exact (by decide : 16 ≤ 33)) (lc_one X) ?_
            simp only [Act.put])
         | fail)
        go_roundw
        case rel =>
         refine ⟨j + p.length, by omega, slice_next hkg hkw hp2 hc' hcp Hcell.out, ?_, keep_on HKz.out Hw8.out (keep_setRow _)⟩
         rw [joined Hl'.out Hp.out]
         exact mac_after_fill HRl.out Hrest.out HS.out Hszl.out Hk.out (by have := hz; have := Hk.out; omega) (by rw [Hrn.out, HX.out]; exact (HM8.out.setRow _).same mac_sum_store.symm)
        case measure => simp [lenOf]; omega
      · obtain ⟨m16, hm16⟩ : ∃ m16, (sz + p.length) % 16 = m16 := ⟨_, rfl⟩
        have hz1 : ((sz : Int) + (p.length : Int)) % 16 = (m16 : Int) := by omega
        have hz2 : ¬ (m16 : Int) = 0 := by omega
        have hz3 : ¬ m16 = 0 := by omega
        have Hm16 := Lib.hid hm16
        have Hz := Lib.hid hz
        clear hm16 hz
        go_wp2_with (first
         | (refine wpList_copy_keep rfl (.tmp 20) (.tmp 21) 38 38 rfl 5 (by kernel_rfl) (by kernel_rfl) rfl rfl HM4.out (p.map bv) (by rw [List.length_map]; exact Hpl.out) (copy_src Hw4.out Hkeep.out hkg hkw Hcell.out Hpi.out) (by rw [macCells_length _ _ _ _ _ HRl.out, List.length_map]; have := hp1; omega) (bytes1 p) ?_
            intro w5 hG5 hB5
            have HM5 := Lib.hid (row_copied HRl.out hp1 hG5)
            have hcell5 := HM5.out.cell (mac_size r s S (splice rest' k16 p) sz (rest_len HRl.out hp1))
            have hfr5 := frozen_row HM5.out 32
            have HM6 := Lib.hid ((HM5.out.set 32 (.int .i64 ((sz + p.length : Nat) : Int))).same (mac_set (rest_len HRl.out hp1)).symm)
            have HB5 := Lib.hid (keep_on Hkeep.out Hw4.out hB5)
            clear hG5 hB5)
         | fail)
        go_roundw
        case rel =>
         refine ⟨j + p.length, by omega, slice_next hkg hkw hp2 hc' hcp Hcell.out, ?_, HB5.out.setCell (.inr rfl) _⟩
         rw [joined Hl'.out Hp.out]
         exact mac_after_take HRl.out Hrest.out HS.out Hszl.out Hk.out (by have := Hz.out; have := Hk.out; omega) HM6.out
        case measure => simp [lenOf]; omega
  · have hj2 : j = b.length := by omega
    subst hj2
    have Hmac := Lib.hid hmac
    have Hkeep := Lib.hid hkeep
    have hlen0 : ¬ (0 : Int) < ((b.length - b.length : Nat) : Int) := by omega
    have hlen1 : b.length - b.length = 0 := Nat.sub_self _
    clear hmac hkeep hcl
    go_wp2_with fail
    go_ret
    exact ⟨rfl, by have := Hmac.out; rwa [List.take_length] at this, Hkeep.out⟩
end Pol
end Go.Proofs.YtedmogacklbcmaaGreatDoor
namespace Go.Proofs.YtedmogacklbcmaaGreatDoor
open Go.RowKit
namespace Pol
open Poly (L)
def finL (r : L) (l : List UInt8) : L := if 0 < l.length % 16 then Poly.next (sumL r l) r (Poly.le (l.drop (16 * (l.length / 16))) + 256 ^ (l.length % 16)) else sumL r l
def tagL (r s : L) (l : List UInt8) : List UInt8 := Poly.bytes16 (Poly.val (Poly.red (finL r l)) + Poly.val s)
theorem MTag_any {w : World} {g : Nat} {r s : L} {l : List UInt8} (hr : Poly.Fit r) (hs : Poly.Fit s) (h : MacAt w g r s l) (hsz : l.length < 4611686018427387904) :
 Calls Tryz.prog 74 #[.pointer (some ⟨g, 0, none⟩)] w fun e w1 => e = .returned (arr8 (tagL r s l)) ∧ Below w.heap.size w w1 := by
 obtain ⟨rest, h1, h2, h3⟩ := h
 by_cases h0 : l.length % 16 = 0
 · have := MTag_zero h1 (sumN_loose hr l _) hr hs hsz h3 h0
   have e : fin r (sumN r l (l.length / 16)) rest l.length = finL r l := by unfold fin finL sumL; rw [if_neg (by omega), if_neg (by omega)]
   rw [e] at this
   exact this
 · have := MTag_some h1 (sumN_loose hr l _) hr hs hsz h3 (by omega)
   have e : fin r (sumN r l (l.length / 16)) rest l.length = finL r l := by unfold fin finL sumL; rw [if_pos (by omega), if_pos (by omega), h2]
   rw [e] at this
   exact this
set_option maxRecDepth 100000
theorem keep_below {w w1 : World} {K : Nat → Prop} {lo : Nat} (h : Ev.Keep ⟨w, K⟩ w1) (hK : ∀ k, K k → lo ≤ k) (hlo : lo ≤ w.heap.size) : Below lo w w1 :=
 ⟨h.os, h.tape, h.output, h.size, fun k hk => h.block k fun e => by
  rcases e with e | e
  · have e' : w.heap.size ≤ k := e
    omega
  · have := hK k e
    omega⟩
theorem cell_freeze (w : World) (p q : Addr) (n : Nat) : (w.freeze p n).cell? q = w.cell? q := by
 unfold World.freeze
 split
 · rfl
 · unfold World.cell?
   by_cases hb : p.block = q.block
   · simp only [Array.getElem?_modify, if_pos hb]
     cases w.heap[q.block]? with
     | none => rfl
     | some o => cases o <;> rfl
   · simp only [Array.getElem?_modify, if_neg hb]
theorem below_frozen {B : Nat} {w w1 : World} (h : Below B w w1) {p : Addr} (hp : B ≤ p.block) (n : Nat) : Below B w (w1.freeze p n) := by
 refine h.trans ?_
 unfold World.freeze
 split
 · exact Below.refl _ _
 · refine ⟨rfl, rfl, rfl, by simp, fun k hk => ?_⟩
   simp only [Array.getElem?_modify]
   rw [if_neg (by omega)]
end Pol
end Go.Proofs.YtedmogacklbcmaaGreatDoor
namespace Go.Proofs.YtedmogacklbcmaaGreatDoor
open Go.RowKit
namespace Pol
open Poly (L)
set_option maxRecDepth 100000
def clampB : List UInt8 → List UInt8
 | k0 :: k1 :: k2 :: k3 :: k4 :: k5 :: k6 :: k7 :: k8 :: k9 :: k10 :: k11 :: k12 :: k13 :: k14 :: k15 :: _ => [k0, k1, k2, k3 &&& 15, k4 &&& 252, k5, k6, k7 &&& 15, k8 &&& 252, k9, k10, k11 &&& 15, k12 &&& 252, k13, k14, k15 &&& 15]
 | _ => []
theorem oand_is (a b : UInt8) : oand .u8 (a.toNat : Int) (b.toNat : Int) = ((a &&& b).toNat : Int) := by
 show IntKind.u8.wrap ((BitVec.ofInt 8 (a.toNat : Int) &&& BitVec.ofInt 8 (b.toNat : Int)).toNat : Int) = _
 simp only [BitVec.ofInt_natCast, BitVec.toNat_and, BitVec.toNat_ofNat]
 rw [Nat.mod_eq_of_lt a.toNat_lt, Nat.mod_eq_of_lt b.toNat_lt, UInt8.toNat_and]
 exact wrap_u8 _ (Nat.lt_of_le_of_lt Nat.and_le_left a.toNat_lt)
theorem c15_is (a : UInt8) : PolyI.c15 (a.toNat : Int) = ((a &&& 15).toNat : Int) := oand_is a 15
theorem c252_is (a : UInt8) : PolyI.c252 (a.toNat : Int) = ((a &&& 252).toNat : Int) := oand_is a 252
theorem clamp_is : ∀ key : List UInt8, key.length = 32 → PolyI.clamp (PolyI.nums key) = PolyI.nums (clampB key)
 | [_, _, _, _, _, _, _, _, _, _, _, _, _, _, _, _, _, _, _, _, _, _, _, _, _, _, _, _, _, _, _, _], _ => by
   simp only [PolyI.nums, List.map_cons, List.map_nil, PolyI.clamp, clampB, c15_is, c252_is]
theorem clampB_length : ∀ key : List UInt8, key.length = 32 → (clampB key).length = 16
 | [_, _, _, _, _, _, _, _, _, _, _, _, _, _, _, _, _, _, _, _, _, _, _, _, _, _, _, _, _, _, _, _], _ => rfl
def rOf (key : List UInt8) : L := Poly.limbs (Poly.le (clampB key))
def sOf (key : List UInt8) : L := Poly.limbs (Poly.le (key.drop 16))
theorem e256 : (256 : Nat) ^ 16 = 340282366920938463463374607431768211456 := by decide
theorem rOf_fit {key : List UInt8} (h : key.length = 32) : Poly.Fit (rOf key) := Poly.limbs_fit (by
 have := Poly.le_lt (clampB key)
 rw [clampB_length key h, e256] at this
 omega)
theorem sOf_fit {key : List UInt8} (h : key.length = 32) : Poly.Fit (sOf key) := Poly.limbs_fit (by
 have := Poly.le_lt (key.drop 16)
 rw [List.length_drop, h, e256] at this
 omega)
theorem number0 (l : List UInt8) (h : l.length ≤ 16) : PolyI.number (PolyI.nums l) ((0 : Nat) : Int) = PolyI.ofL (Poly.limbs (Poly.le l)) := by
 rw [PolyI.number_is l 0 (by decide) h, Nat.zero_mul, Nat.add_zero]
theorem newCells_is {key : List UInt8} (h : key.length = 32) : PolyI.newCells (PolyI.nums key) = macCells (rOf key) (sOf key) zeroL (List.replicate 16 0) 0 := by
 unfold PolyI.newCells
 rw [clamp_is key h, show (PolyI.nums key).drop 16 = PolyI.nums (key.drop 16) from List.map_drop.symm, number0 _ (by rw [clampB_length key h]; decide), number0 _ (by rw [List.length_drop]; omega)]
 rfl
theorem flat_bv (l : List UInt8) : Ev.flat (arr8 l) = true := by
 simp only [arr8, Ev.flat, List.all_map, List.all_eq_true]
 intro u _
 rfl
theorem one_flat (l : List UInt8) : [arr8 l].all Ev.flat = true := by rw [List.all_cons, flat_bv]; rfl
theorem mac_flat (r s S : L) (rest : List UInt8) (n : Nat) : (macCells r s S rest n).all Ev.flat = true := by
 have h : (rest.map bv).all Ev.flat = true := by
  rw [List.all_map, List.all_eq_true]
  intro u _
  rfl
 simp only [macCells, List.all_cons, List.all_append, h]
 rfl
theorem flat2_bv (l : List UInt8) : Ev.flat2 (arr8 l) = true := flat_bv l
theorem New_any {key : List UInt8} (h : key.length = 32) (w : World) : Calls Tryz.prog 69 #[arr8 key] w fun e w1 => ∃ g, e = .returned (.pointer (some ⟨g, 0, none⟩)) ∧ w.heap.size ≤ g ∧ Row w1 g (macCells (rOf key) (sOf key) zeroL (List.replicate 16 0) 0) 155 ∧ Below w.heap.size w w1 := by
 have hev := PolyI.New_ev (PolyI.nums key) (by simp [PolyI.nums, h])
 rw [show (PolyI.nums key).map PolyI.u8 = key.map bv from cells_nums key, newCells_is h] at hev
 exact Ev.calls_blk (l := []) mixed (by decide) (by simp) (by simp) (flat_args (one_flat key)) hev rfl (mac_flat _ _ _ _ _)
def tagK (key l : List UInt8) : List UInt8 := tagL (rOf key) (sOf key) l
theorem tagK_length (key l : List UInt8) : (tagK key l).length = 16 := by simp [tagK, tagL, Poly.bytes16_length]
end Pol
end Go.Proofs.YtedmogacklbcmaaGreatDoor
namespace Go.Proofs.YtedmogacklbcmaaGreatDoor
namespace Pol
open Poly (L)
end Pol
end Go.Proofs.YtedmogacklbcmaaGreatDoor
namespace Go.Proofs.YtedmogacklbcmaaGreatDoor
open Go.RowKit
namespace Aead
set_option maxRecDepth 100000
def eqAcc : List Int → List Int → Int → Int
 | x :: xs, y :: ys, acc => eqAcc xs ys (oor .u8 acc (oxor .u8 x y))
 | _, _, acc => acc
theorem Equal_ev : ∀ a b : List Int, a.length = 16 → b.length = 16 → Ev.ans Tryz.prog 2000 64 #[.agg (a.map PolyI.u8).toArray, .agg (b.map PolyI.u8).toArray] [] = some (.bool (eqAcc a b ((0 : Nat) : Int) == ((0 : Nat) : Int)))
 | [_, _, _, _, _, _, _, _, _, _, _, _, _, _, _, _], [_, _, _, _, _, _, _, _, _, _, _, _, _, _, _, _], _, _ => by kernel_rfl
def byteI (x : Int) (n : Nat) : Value := PolyI.u8 (IntKind.u8.wrap (oshr (IntKind.u64.wrap x) n))
def eight (x : Int) : List Value := [byteI x 0, byteI x 8, byteI x 16, byteI x 24, byteI x 32, byteI x 40, byteI x 48, byteI x 56]
theorem lengths_ev (a c : Int) : Ev.ans Tryz.prog 4000 72 #[.int .i64 a, .int .i64 c] [] = some (.agg (eight a ++ eight c).toArray) := by kernel_rfl
end Aead
end Go.Proofs.YtedmogacklbcmaaGreatDoor
namespace Go.Proofs.YtedmogacklbcmaaGreatDoor
namespace Aead
def zpad (n : Nat) : List UInt8 := List.replicate ((16 - n % 16) % 16) 0
def padB (l : List UInt8) : List UInt8 := l ++ zpad l.length
def le8 (n : Nat) : List UInt8 := [UInt8.ofNat n, UInt8.ofNat (n / 256), UInt8.ofNat (n / 65536), UInt8.ofNat (n / 16777216), UInt8.ofNat (n / 4294967296), UInt8.ofNat (n / 1099511627776), UInt8.ofNat (n / 281474976710656), UInt8.ofNat (n / 72057594037927936)]
def once (key nonce : List UInt8) : List UInt8 := (Cha.block key 0#32 nonce).take 32
def body (cipher along : List UInt8) : List UInt8 := padB along ++ padB cipher ++ (le8 along.length ++ le8 cipher.length)
def tag (key nonce cipher along : List UInt8) : List UInt8 := Pol.tagK (once key nonce) (body cipher along)
def sealed (key nonce plain along : List UInt8) : List UInt8 := Cha.xor key 1#32 nonce plain ++ tag key nonce (Cha.xor key 1#32 nonce plain) along
theorem once_length (key nonce : List UInt8) : (once key nonce).length = 32 := by
 unfold once
 rw [List.length_take, Cha.block_length]
 rfl
theorem tag_length (key nonce cipher along : List UInt8) : (tag key nonce cipher along).length = 16 := Pol.tagK_length _ _
theorem padB_length (l : List UInt8) : (padB l).length ≤ l.length + 15 := by
 unfold padB zpad
 rw [List.length_append, List.length_replicate]
 omega
theorem body_length (cipher along : List UInt8) : (body cipher along).length ≤ cipher.length + along.length + 46 := by
 unfold body
 have h1 := padB_length cipher
 have h2 := padB_length along
 simp only [List.length_append, le8, List.length_cons, List.length_nil]
 omega
theorem sealed_length (key nonce plain along : List UInt8) : (sealed key nonce plain along).length = plain.length + 16 := by
 unfold sealed
 rw [List.length_append, Cha.xor_length, tag_length]
theorem xor_twice (key : List UInt8) (c : BitVec 32) (nonce l : List UInt8) : Cha.xor key c nonce (Cha.xor key c nonce l) = l := by
 apply List.ext_getElem?
 intro i
 cases h : l[i]? with
 | none => exact List.getElem?_eq_none (by rw [Cha.xor_length, Cha.xor_length]; exact List.getElem?_eq_none_iff.1 h)
 | some u =>
   rw [Cha.xor_at _ _ _ _ _ _ (Cha.xor_at _ _ _ _ _ _ h)]
   rw [UInt8.xor_assoc, UInt8.xor_self, UInt8.xor_zero]
theorem or_is (a b : UInt8) : oor .u8 (a.toNat : Int) (b.toNat : Int) = ((a ||| b).toNat : Int) := by
 show IntKind.u8.wrap ((BitVec.ofInt 8 (a.toNat : Int) ||| BitVec.ofInt 8 (b.toNat : Int)).toNat : Int) = _
 have h := (a ||| b).toNat_lt
 simp only [BitVec.ofInt_natCast, BitVec.toNat_or, BitVec.toNat_ofNat]
 rw [Nat.mod_eq_of_lt a.toNat_lt, Nat.mod_eq_of_lt b.toNat_lt, ← UInt8.toNat_or]
 exact wrap_u8 _ h
theorem xor_is (a b : UInt8) : oxor .u8 (a.toNat : Int) (b.toNat : Int) = ((a ^^^ b).toNat : Int) := by
 show IntKind.u8.wrap ((BitVec.ofInt 8 (a.toNat : Int) ^^^ BitVec.ofInt 8 (b.toNat : Int)).toNat : Int) = _
 have h := (a ^^^ b).toNat_lt
 simp only [BitVec.ofInt_natCast, BitVec.toNat_xor, BitVec.toNat_ofNat]
 rw [Nat.mod_eq_of_lt a.toNat_lt, Nat.mod_eq_of_lt b.toNat_lt, ← UInt8.toNat_xor]
 exact wrap_u8 _ h
theorem or_zero (a b : UInt8) : (a ||| b) = 0 ↔ a = 0 ∧ b = 0 := by
 constructor
 · intro h
   have h' : (a.toBitVec ||| b.toBitVec) = 0#8 := congrArg UInt8.toBitVec h
   rw [BitVec.or_eq_zero_iff] at h'
   exact ⟨UInt8.toBitVec_inj.1 h'.1, UInt8.toBitVec_inj.1 h'.2⟩
 · rintro ⟨rfl, rfl⟩
   rfl
theorem xor_zero (a b : UInt8) : (a ^^^ b) = 0 ↔ a = b := by
 constructor
 · intro h
   have h2 : (a ^^^ b) ^^^ b = 0 ^^^ b := by rw [h]
   rw [UInt8.xor_assoc, UInt8.xor_self, UInt8.xor_zero, UInt8.zero_xor] at h2
   exact h2
 · rintro rfl
   exact UInt8.xor_self
def accB : List UInt8 → List UInt8 → UInt8 → UInt8
 | x :: xs, y :: ys, acc => accB xs ys (acc ||| (x ^^^ y))
 | _, _, acc => acc
theorem eqAcc_is : ∀ (a b : List UInt8) (acc : UInt8), eqAcc (PolyI.nums a) (PolyI.nums b) (acc.toNat : Int) = ((accB a b acc).toNat : Int)
 | [], _, _ => rfl
 | _ :: _, [], _ => rfl
 | x :: xs, y :: ys, acc => by
   show eqAcc (PolyI.nums xs) (PolyI.nums ys) (oor .u8 (acc.toNat : Int) (oxor .u8 (x.toNat : Int) (y.toNat : Int))) = _
   rw [xor_is, or_is]
   exact eqAcc_is xs ys _
theorem accB_zero : ∀ (a b : List UInt8) (acc : UInt8), a.length = b.length → (accB a b acc = 0 ↔ acc = 0 ∧ a = b)
 | [], [], acc, _ => by simp [accB]
 | [], _ :: _, _, h => by simp at h
 | _ :: _, [], _, h => by simp at h
 | x :: xs, y :: ys, acc, h => by
   show accB xs ys _ = 0 ↔ _
   rw [accB_zero xs ys _ (by simpa using h), or_zero, xor_zero, List.cons.injEq, and_assoc]
theorem equal_is {a b : List UInt8} (ha : a.length = 16) (hb : b.length = 16) : (eqAcc (PolyI.nums a) (PolyI.nums b) ((0 : Nat) : Int) == ((0 : Nat) : Int)) = decide (a = b) := by
 have h := eqAcc_is a b 0
 rw [show ((0 : UInt8).toNat : Int) = ((0 : Nat) : Int) from rfl] at h
 rw [h, Bool.eq_iff_iff]
 simp only [beq_iff_eq, decide_eq_true_eq, Int.natCast_inj]
 have h2 := accB_zero a b 0 (by omega)
 rw [← UInt8.toNat_inj] at h2
 rw [show (0 : UInt8).toNat = 0 from rfl] at h2
 rw [h2]
 simp
theorem byte_at (n k : Nat) (h : n < 18446744073709551616) : byteI (n : Int) k = bv (UInt8.ofNat (n / 2 ^ k)) := by
 unfold byteI
 rw [wrap_u64 _ h, oshr_nat]
 unfold PolyI.u8 bv
 congr 1
theorem eight_is (n : Nat) (h : n < 18446744073709551616) : eight (n : Int) = (le8 n).map bv := by
 simp only [eight, byte_at _ _ h]
 simp [le8]
end Aead
end Go.Proofs.YtedmogacklbcmaaGreatDoor
namespace Go.Proofs.YtedmogacklbcmaaGreatDoor
open Go.RowKit
namespace Aead
open Pol (own mixed laid MacAt rOf sOf tagK)
theorem two_flat (a b : List UInt8) : [arr8 a, arr8 b].all Ev.flat = true := by rw [List.all_cons, Pol.flat_bv]; exact Pol.one_flat b
theorem Equal_any {a b : List UInt8} (ha : a.length = 16) (hb : b.length = 16) (w : World) : Calls Tryz.prog 64 #[arr8 a, arr8 b] w fun e w' => e = .returned (.bool (decide (a = b))) ∧ Below w.heap.size w w' := by
 have h := Equal_ev (PolyI.nums a) (PolyI.nums b) (by simp [PolyI.nums, ha]) (by simp [PolyI.nums, hb])
 rw [show (PolyI.nums a).map PolyI.u8 = a.map bv from Pol.cells_nums a, show (PolyI.nums b).map PolyI.u8 = b.map bv from Pol.cells_nums b, equal_is ha hb] at h
 exact Ev.calls_ans (l := []) mixed (by decide) (by simp) (by simp) (Pol.flat_args (two_flat a b)) h rfl
end Aead
end Go.Proofs.YtedmogacklbcmaaGreatDoor
namespace Go.Proofs.YtedmogacklbcmaaGreatDoor
open Go.RowKit
section
variable {P : Program}
end
end Go.Proofs.YtedmogacklbcmaaGreatDoor
