/- Texts that the proofs share: HkBase, HkSched, HkComp, HkCut, HkPad. -/
import Derived.Test.YtedmogacklbcmaaGreatDoorS18
import Derived.Test.YtedmogacklbcmaaGreatDoorS19
import Derived.Test.YtedmogacklbcmaaGreatDoorS26
import Derived.Test.YtedmogacklbcmaaGreatDoorS29
import Derived.Test.YtedmogacklbcmaaGreatDoorS34
import Derived.Lib.LaidTab
import Derived.Laws.CopyOwn
import Derived.StillTailTactics
import Derived.Deep.QuietTactic
import Derived.BigQuiet
import Derived.WalkMore
namespace Go.Proofs.YtedmogacklbcmaaGreatDoor
open Go.RowKit
theorem hgetD_cell (l : List UInt8) (k : Nat) (h : k < l.length) : (l.map bv)[k]? = some (bv (l.getD k 0)) := by
 rw [List.getElem?_map, List.getElem?_eq_getElem h, List.getD_eq_getElem?_getD, List.getElem?_eq_getElem h]
 rfl
theorem hgetD_word (s : List (BitVec 32)) (k : Nat) (h : k < s.length) : (s.map wv)[k]? = some (wv (Sha.at_ s k)) := by
 rw [List.getElem?_map, List.getElem?_eq_getElem h, Sha.at_, List.getD_eq_getElem?_getD, List.getElem?_eq_getElem h]
 rfl
theorem hwords_one (s : List (BitVec 32)) : ∀ v ∈ s.map wv, v.oneCell' = true := by
 intro v hv
 rw [List.mem_map] at hv
 obtain ⟨x, _, rfl⟩ := hv
 rfl
theorem hbytes_one (s : List UInt8) : ∀ v ∈ s.map bv, v.oneCell' = true := by
 intro v hv
 rw [List.mem_map] at hv
 obtain ⟨x, _, rfl⟩ := hv
 rfl
theorem code_world {P : Program} {c : Code} {Q : Exit → Act → World → Prop} {a : Act} {w W : World} (h : w = W) (hk : Code.wp P c Q a W) : Code.wp P c Q a w := h ▸ hk
theorem wpList_in {P : Program} {ops : Array Oper} {l : List Oper} {a : Act} {w W : World} {Q : Exit → Act → World → Prop} (h : w = W) (hk : wpList P ops Q l a W) : wpList P ops Q l a w := h ▸ hk
theorem wpList_copy_keep {P : Program} {w : World} {ops : Array Oper} {rest : List Oper} {o : Oper} {a : Act} {Q : Exit → Act → World → Prop} (hgd : o.guard = none) (d s : Operand) (dT sT : TypeId)
 (ho : o.op = .call { callee := .builtin .copy, args := #[d, s], argTypes := #[dT, sT] }) (elem : TypeId) (hu : P.underlying dT = some (.slice elem)) (hsz : (P.info? elem).map (·.size) = some 1)
 {g off dLen dCap : Nat} {ad : Addr} {sLen sCap : Nat} (hd : a.eval d = .slice (some ⟨g, off, none⟩) dLen dCap) (hs : a.eval s = .slice (some ad) sLen sCap)
 {cur : List Value} {t : TypeId} (hg : Row w g cur t) (cs : List Value) (hn : cs.length = Nat.min sLen dLen)
 (hsrc : ∀ j v, cs[j]? = some v → w.cell? (ad.add j) = some v) (hfit : off + cs.length ≤ cur.length) (h1 : ∀ v ∈ cs, v.oneCell' = true)
 (h : ∀ w', Row w' g (splice cur off cs) t → Ev.Keep ⟨w, fun k => k = g⟩ w' → wpList P ops Q rest (a.put o.dst (goInt cs.length)) w') : wpList P ops Q (o :: rest) a w := by
 refine wpList_copy_own hgd d s dT sT ho elem hu hsz g off dLen dCap ad sLen sCap hd hs cur.toArray t hg cs hn hsrc (by simpa using hfit) h1 (h _ ?_ ⟨rfl, rfl, rfl, by simp [World.setRow], fun k hk => setRow_other w g k _ fun e => hk (.inr e)⟩)
 exact setRow_heap w g _ _ t _ hg
theorem Row.keep {w w' : World} {g k : Nat} {cs : List Value} {t : TypeId} (h : Row w k cs t) (hk : Ev.Keep ⟨w, fun k => k = g⟩ w') (hne : k ≠ g) : Row w' k cs t := by
 unfold Row
 rw [hk.block k (by
  rintro (e | e)
  · have := h.lt; have e' : w.heap.size ≤ k := e; omega
  · exact hne e)]
 exact h
theorem Below.keep {B : Nat} {w0 w w' : World} {g : Nat} (h : Below B w0 w) (hk : Ev.Keep ⟨w, fun k => k = g⟩ w') (hB : B ≤ w.heap.size) (hg : B ≤ g) : Below B w0 w' :=
 h.trans ⟨hk.os, hk.tape, hk.output, hk.size, fun k hlt => hk.block k (by
  rintro (e | e)
  · have e' : w.heap.size ≤ k := e; omega
  · have e' : k = g := e; omega)⟩
def Tab (w : World) : Prop := 0 < w.heap.size ∧ ∀ i, i < 64 → w.cell? ⟨0, i, none⟩ = some (wv (Sha.at_ Sha.K i))
theorem Tab.below {w w' : World} {B : Nat} (h : Tab w) (hb : Below B w w') (hB : 0 < B) : Tab w' :=
 ⟨Nat.lt_of_lt_of_le h.1 hb.size, fun i hi => (hb.cell (p := ⟨0, i, none⟩) hB).trans (h.2 i hi)⟩
theorem Tab.drewN {w : World} (h : Tab w) (n : Nat) : Tab (w.drewN n) := h
def rights : List Nat := [2, 6, 7, 11, 13, 17, 18, 19, 22, 25]
theorem rights_bits (n : Nat) (hn : n ∈ rights) : bits .and .u64 (IntKind.u64.wrap (-(n : Int))) 31 = ((32 - n : Nat) : Int) ∧ n < 32 := by
 simp only [rights, List.mem_cons, List.not_mem_nil, or_false] at hn
 rcases hn with rfl | rfl | rfl | rfl | rfl | rfl | rfl | rfl | rfl | rfl <;> exact ⟨by decide, by decide⟩
theorem rot_any (x : BitVec 32) (n : Nat) (hn : n ∈ rights) (w : World) : Calls Tryz.prog 124 #[wv x, .int .i64 (-(n : Int))] w fun e w' => e = .returned (wv (Sha.rotr x n)) ∧ w = w' := by
 obtain ⟨hb, hlt⟩ := rights_bits n hn
 obtain ⟨m, hm⟩ : ∃ m, 32 - n = m := ⟨_, rfl⟩
 rw [hm] at hb
 have hu : IntKind.u64.wrap (32 - (m : Int)) = (n : Int) := by rw [show (32 : Int) - (m : Int) = (n : Int) by omega]; exact IntWalk.u64_in _ (by omega)
 have e1 : (x.toNat : Int) * 2 ^ min m 32 % 4294967296 = ((x <<< m).toNat : Int) := by rw [show min m 32 = m by omega, ← w_shl x m, Int.natCast_pow]; rfl
 have e2 : (x.toNat : Int) / 2 ^ n = ((x >>> n).toNat : Int) := by rw [← w_shr x n, Int.natCast_pow]; rfl
 have E1 := Lib.hid e1
 have E2 := Lib.hid e2
 have Hm := Lib.hid hm
 clear e1 e2 hm hn
 go_enter Tryz.func124, Tryz.ntmps124
 go_wp2
 rw [E1.out, E2.out, w_or]
 go_ret
 exact ⟨by rw [Sha.rotr, Hm.out]; rfl, rfl⟩
theorem right_any (x : BitVec 32) (n : Nat) (hn : n ∈ rights) (w : World) : Calls Tryz.prog 120 #[wv x, .int .i64 (n : Int)] w fun e w' => e = .returned (wv (Sha.rotr x n)) ∧ w = w' := by
 have hw : IntKind.i64.wrap (-(n : Int)) = -(n : Int) := IntWalk.i64_in _ (by have := (rights_bits n hn).2; omega)
 go_enter Tryz.func120, Tryz.ntmps120
 go_wp2_with fail
 refine (rot_any x n hn _).mono ?_
 rintro e w1 ⟨rfl, rfl⟩
 go_wp2
 go_ret
 exact ⟨rfl, rfl⟩
end Go.Proofs.YtedmogacklbcmaaGreatDoor
namespace Go.Proofs.YtedmogacklbcmaaGreatDoor
open Go.RowKit
theorem sched_cut (m : List (BitVec 32)) (hm : m.length = 16) : splice ((List.replicate 64 0#32).map wv) 0 (m.map wv) = (Sha.sched m 0).map wv := by
 unfold splice Sha.sched
 simp [hm]
theorem w_shr3 (x : BitVec 32) : (x.toNat : Int) / (8 : Int) = ((x >>> 3).toNat : Int) := w_shr x 3
theorem w_shr10 (x : BitVec 32) : (x.toNat : Int) / (1024 : Int) = ((x >>> 10).toNat : Int) := w_shr x 10
theorem s0_is (x : BitVec 32) : bits .xor .u32 (bits .xor .u32 ((Sha.rotr x 7).toNat : Int) ((Sha.rotr x 18).toNat : Int)) ((x.toNat : Int) / 8) = ((Sha.s0 x).toNat : Int) := by
 rw [w_xor, w_shr3, w_xor]; rfl
theorem s1_is (x : BitVec 32) : bits .xor .u32 (bits .xor .u32 ((Sha.rotr x 17).toNat : Int) ((Sha.rotr x 19).toNat : Int)) ((x.toNat : Int) / 1024) = ((Sha.s1 x).toNat : Int) := by
 rw [w_xor, w_shr10, w_xor]; rfl
theorem sum4_is (a b c d : BitVec 32) : ((a.toNat : Int) + (b.toNat : Int) + (c.toNat : Int) + (d.toNat : Int)) % 4294967296 = ((a + b + c + d).toNat : Int) := by
 simp only [BitVec.toNat_add]
 omega
set_option maxRecDepth 8000 in
set_option maxHeartbeats 2000000 in
theorem Sched_any (m : List (BitVec 32)) (hm : m.length = 16) (w : World) : Calls Tryz.prog 119 #[arr32 m] w fun e w' => e = .returned (arr32 (Sha.sched m 48)) ∧ Below w.heap.size w w' := by
 have Hm := Lib.hid hm
 have Hml := Lib.hid (show (m.map wv).length = 16 by simpa using hm)
 clear hm
 unfold arr32
 go_enter Tryz.func119, Tryz.ntmps119
 go_wp2_with fail
 obtain ⟨W, hW⟩ : ∃ W, ((w.alloc (.cells (m.map wv).toArray 147)).alloc (.cells ((List.replicate 64 0#32).map wv).toArray 183)).alloc (.cells ((List.replicate 64 0#32).map wv).toArray 183) = W := ⟨_, rfl⟩
 have hr0 : Row W w.heap.size (m.map wv) 147 := hW ▸ ((Row.new rfl rfl).alloc _).alloc _
 have hr1 : Row W (w.heap.size + 1) ((List.replicate 64 0#32).map wv) 183 := hW ▸ (Row.new (by simp) rfl).alloc _
 have hr2 : Row W (w.heap.size + 1 + 1) ((List.replicate 64 0#32).map wv) 183 := hW ▸ Row.new (by simp) rfl
 have hb : Below w.heap.size w W := hW ▸ (((Below.refl _ w).alloc (Nat.le_refl _) _).alloc (by simp) _).alloc (by simp; omega) _
 refine code_world hW ?_
 clear hW
 have Hr0 := Lib.hid hr0
 have Hr1 := Lib.hid hr1
 have Hr2 := Lib.hid hr2
 have Hb := Lib.hid hb
 clear hr0 hr1 hr2 hb
 go_still_tail 2, Pol.mixed
 change wpList _ _ _ _ _ W.drew
 go_wp2_with (first
  | (refine wpList_copy_keep rfl (.tmp 8) (.tmp 9) 190 190 rfl 26 (by kernel_rfl) (by kernel_rfl) rfl rfl (w := W.drew) Hr2.out (m.map wv) (by rw [Hml.out]; rfl) (fun j v hj => by rw [show (⟨w.heap.size, 0, none⟩ : Addr).add j = ⟨w.heap.size, 0 + j, none⟩ by unfold Addr.add; split <;> simp_all]; rw [Nat.zero_add]; exact Row.cell (w := W.drew) Hr0.out hj) (by rw [Hml.out]; simp) (hwords_one _) ?_
     intro W2 hc2 hk2
     rw [Hml.out])
  | fail)
 have hz : Row W2 (w.heap.size + 1) ((List.replicate 64 0#32).map wv) 183 := Row.keep (w := W.drew) Hr1.out hk2 (by omega)
 have hs : Row W2 (w.heap.size + 1 + 1) ((Sha.sched m 0).map wv) 183 := hc2.same (sched_cut m Hm.out).symm
 have hsz0 : w.heap.size + 1 + 1 < W2.heap.size := hc2.lt
 have hb2 : Below w.heap.size w W2 := Below.keep (w := W.drew) Hb.out.drew hk2 (by have := Hr0.out.lt; show w.heap.size ≤ W.heap.size; omega) (by omega)
 have Hz := Lib.hid hz
 have Hs := Lib.hid hs
 have Hb2 := Lib.hid hb2
 have Hsz := Lib.hid hsz0
 clear hz hs hb2 hsz0 hc2 hk2
 go_loopw [13] (fun iv wr => ∃ i : Nat, i ≤ 48 ∧ iv = .int .i64 (i : Int) ∧ Row wr (w.heap.size + 1) ((List.replicate 64 0#32).map wv) 183 ∧ Row wr (w.heap.size + 1 + 1) ((Sha.sched m i).map wv) 183 ∧ Below w.heap.size w wr) (fun iv _ => 48 - (intOf iv).toNat)
 case atStart => exact ⟨0, by omega, rfl, Hz.out, Hs.out, Hb2.out⟩
 case round =>
  obtain ⟨i, hi, rfl, hr1, hr2, hbel⟩ := hrel
  have Hr1 := Lib.hid hr1
  have Hr2 := Lib.hid hr2
  have Hbel := Lib.hid hbel
  have Hl := Lib.hid (show (Sha.sched m i).length = 64 by rw [Sha.sched_length, Hm.out])
  clear hr1 hr2 hbel
  by_cases h48 : i < 48
  · have h48' : (i : Int) < 48 := by omega
    have hx0 := Hr2.out.cell (hgetD_word (Sha.sched m i) i (by rw [Hl.out]; omega))
    have hx1 := Hr2.out.cell (hgetD_word (Sha.sched m i) (i + 1) (by rw [Hl.out]; omega))
    have hx9 := Hr2.out.cell (hgetD_word (Sha.sched m i) (i + 9) (by rw [Hl.out]; omega))
    have hx14 := Hr2.out.cell (hgetD_word (Sha.sched m i) (i + 14) (by rw [Hl.out]; omega))
    have hw9 : IntKind.i64.wrap ((i : Int) + 9) = (i : Int) + 9 := IntWalk.i64_in _ (by omega)
    have hw14 : IntKind.i64.wrap ((i : Int) + 14) = (i : Int) + 14 := IntWalk.i64_in _ (by omega)
    have hw16 : IntKind.i64.wrap (16 + (i : Int)) = 16 + (i : Int) := IntWalk.i64_in _ (by omega)
    have hb9 : 0 ≤ (i : Int) + 9 ∧ (i : Int) + 9 < 64 := by omega
    have hb14 : 0 ≤ (i : Int) + 14 ∧ (i : Int) + 14 < 64 := by omega
    have hb16 : 0 ≤ 16 + (i : Int) ∧ 16 + (i : Int) < 64 := by omega
    have hb0 : 0 ≤ (i : Int) ∧ (i : Int) < 64 := by omega
    have ht9 : ((i : Int) + 9).toNat = i + 9 := by omega
    have ht14 : ((i : Int) + 14).toNat = i + 14 := by omega
    have ht16 : (16 + (i : Int)).toNat = 16 + i := by omega
    have he0 := s0_is (Sha.at_ (Sha.sched m i) (i + 1))
    have he1 := s1_is (Sha.at_ (Sha.sched m i) (i + 14))
    go_wp2_with fail
    go_quiet ((go_at_call 120; exact quiet_same fun W hW => right_any _ _ (by decide) W))
    obtain ⟨W5, hW5⟩ : ∃ W5, wr.drewN nq = W5 := ⟨_, rfl⟩
    have Hr1 := Lib.hid (Hr1.out.drewN nq)
    have Hr2 := Lib.hid (Hr2.out.drewN nq)
    have Hbel := Lib.hid (below_drewN Hbel.out nq)
    rw [hW5] at Hr1 Hr2 Hbel
    rw [hW5]
    clear hW5 hx0 hx1 hx9 hx14 he0
    have hx0 := Hr2.out.cell (hgetD_word (Sha.sched m i) i (by rw [Hl.out]; omega))
    have hx9 := Hr2.out.cell (hgetD_word (Sha.sched m i) (i + 9) (by rw [Hl.out]; omega))
    have hx14 := Hr2.out.cell (hgetD_word (Sha.sched m i) (i + 14) (by rw [Hl.out]; omega))
    go_wp2_with fail
    go_quiet ((go_at_call 120; exact quiet_same fun W hW => right_any _ _ (by decide) W))
    obtain ⟨W6, hW6⟩ : ∃ W6, W5.drewN nq = W6 := ⟨_, rfl⟩
    have Hr1 := Lib.hid (Hr1.out.drewN nq)
    have Hr2 := Lib.hid (Hr2.out.drewN nq)
    have Hbel := Lib.hid (below_drewN Hbel.out nq)
    rw [hW6] at Hr1 Hr2 Hbel
    rw [hW6]
    clear hW6 hx0 hx9 hx14 he1
    have hx0 := Hr2.out.cell (hgetD_word (Sha.sched m i) i (by rw [Hl.out]; omega))
    have hx9 := Hr2.out.cell (hgetD_word (Sha.sched m i) (i + 9) (by rw [Hl.out]; omega))
    have hx16 := Hr2.out.cell (hgetD_word (Sha.sched m i) (16 + i) (by rw [Hl.out]; omega))
    have hfr := frozen_row Hr2.out (16 + i)
    go_wp2_with fail
    go_still_tail 15, Pol.mixed
    change wpList _ _ _ _ _ W6.drew
    go_wp2
    rw [sum4_is]
    go_roundw
    case rel =>
     refine ⟨i + 1, by omega, by simp, (Hr1.out.other _ _ (by dsimp only; omega)).drewN 1, ?_, (Hbel.out.setCell (by dsimp only; omega) _).drew⟩
     have := (Hr2.out.set (16 + i) (wv (Sha.next (Sha.sched m i) i))).drewN 1
     rw [← List.map_set] at this
     exact this
    case measure => simp [intOf]; omega
  · have h48' : ¬ (i : Int) < 48 := by omega
    have : i = 48 := by omega
    subst this
    obtain ⟨s, hs⟩ : ∃ s, Sha.sched m 48 = s := ⟨_, rfl⟩
    rw [hs] at Hr2 Hl
    have Hml := Lib.hid (show (s.map wv).length = 64 by rw [List.length_map]; exact Hl.out)
    have HS := Lib.hid hs
    clear hs
    go_wp2_with (first
     | (refine wpList_loadRow rfl 183 _ rfl rfl Hr2.out Tryz.underlying183 rfl (by kernel_rfl) Hml.out ?_)
     | (refine wpList_storeRow rfl 183 _ _ rfl rfl rfl Hr1.out (by kernel_rfl) Hml.out (by simp) (hwords_one s) ?_))
    refine bodyPost_ret (results_row rfl _ rfl (Hr1.out.setRow (s.map wv)) Tryz.underlying183 rfl (by kernel_rfl) Hml.out) rfl ?_
    exact ⟨by rw [HS.out], below_setRow Hbel.out (by omega) _⟩
end Go.Proofs.YtedmogacklbcmaaGreatDoor
namespace Go.Proofs.YtedmogacklbcmaaGreatDoor
open Go.RowKit
namespace Sha
def upd (s t : List Wd) : Nat → List Wd
 | 0 => s
 | i + 1 => (upd s t i).set i (at_ (upd s t i) i + at_ t i)
theorem upd_length (s t : List Wd) (i : Nat) : (upd s t i).length = s.length := by
 induction i with
 | zero => rfl
 | succ i ih => rw [upd, List.length_set, ih]
theorem upd_all : ∀ (s t : List Wd), s.length = 8 → t.length = 8 → upd s t 8 = List.zipWith (· + ·) s t
 | [_, _, _, _, _, _, _, _], [_, _, _, _, _, _, _, _], _, _ => rfl
end Sha
theorem S1_is (x : BitVec 32) : bits .xor .u32 (bits .xor .u32 ((Sha.rotr x 6).toNat : Int) ((Sha.rotr x 11).toNat : Int)) ((Sha.rotr x 25).toNat : Int) = ((Sha.S1 x).toNat : Int) := by
 rw [w_xor, w_xor]; rfl
theorem S0_is (x : BitVec 32) : bits .xor .u32 (bits .xor .u32 ((Sha.rotr x 2).toNat : Int) ((Sha.rotr x 13).toNat : Int)) ((Sha.rotr x 22).toNat : Int) = ((Sha.S0 x).toNat : Int) := by
 rw [w_xor, w_xor]; rfl
theorem maj_is (a b c : BitVec 32) : bits .xor .u32 (bits .xor .u32 (bits .and .u32 (a.toNat : Int) (b.toNat : Int)) (bits .and .u32 (a.toNat : Int) (c.toNat : Int))) (bits .and .u32 (b.toNat : Int) (c.toNat : Int)) = ((a &&& b ^^^ a &&& c ^^^ b &&& c).toNat : Int) := by
 rw [w_and, w_and, w_and, w_xor, w_xor]
theorem not_is (x : BitVec 32) : bits .xor .u32 (if IntKind.u32.signed = true then -1 else IntKind.u32.max) (x.toNat : Int) = ((~~~ x).toNat : Int) := by
 have h := w_xor (BitVec.allOnes 32) x
 rw [BitVec.allOnes_xor] at h
 exact h
theorem tOf_is (t : Sha.St) (k w : BitVec 32) : (((t.h.toNat : Int) + ((Sha.S1 t.e).toNat : Int) + bits .xor .u32 (bits .and .u32 (t.e.toNat : Int) (t.f.toNat : Int)) (bits .and .u32 (bits .xor .u32 (if IntKind.u32.signed = true then -1 else IntKind.u32.max) (t.e.toNat : Int)) (t.g.toNat : Int)) + (k.toNat : Int)) % 4294967296 + (w.toNat : Int)) % 4294967296 = ((Sha.tOf t k w).toNat : Int) := by
 rw [not_is, w_and, w_and, w_xor, sum4_is, w_add]
 rfl
theorem uOf_is (t : Sha.St) : (((Sha.S0 t.a).toNat : Int) + bits .xor .u32 (bits .xor .u32 (bits .and .u32 (t.a.toNat : Int) (t.b.toNat : Int)) (bits .and .u32 (t.a.toNat : Int) (t.c.toNat : Int))) (bits .and .u32 (t.b.toNat : Int) (t.c.toNat : Int))) % 4294967296 = ((Sha.uOf t).toNat : Int) := by
 rw [maj_is, w_add]
 rfl
theorem rnd_eq {ws : List (BitVec 32)} {s : Sha.St} {i : Nat} {t : Sha.St} (h : Sha.rnds ws s i = t) : Sha.rnds ws s (i + 1) = Sha.rnd t (Sha.at_ Sha.K i) (Sha.at_ ws i) := by rw [Sha.rnds, h]
set_option maxRecDepth 8000 in
set_option maxHeartbeats 4000000 in
theorem Comp_any (s m : List (BitVec 32)) (hs : s.length = 8) (hm : m.length = 16) (w : World) (ht : Tab w) : Calls Tryz.prog 113 #[arr32 s, arr32 m] w fun e w' => e = .returned (arr32 (Sha.comp s m)) ∧ Below w.heap.size w w' := by
 have Hm := Lib.hid hm
 have Hs := Lib.hid hs
 have Ht := Lib.hid ht
 have Hml := Lib.hid (show (m.map wv).length = 16 by simpa using hm)
 have Hsl := Lib.hid (show (s.map wv).length = 8 by simpa using hs)
 clear hm hs ht
 unfold arr32
 go_enter Tryz.func113, Tryz.ntmps113
 go_wp2_with (first
  | (refine wpList_loadRow rfl 147 _ rfl rfl ((Row.new (by simp) rfl).alloc _) Tryz.underlying147 rfl (by kernel_rfl) Hml.out ?_)
  | fail)
 obtain ⟨W, hW⟩ : ∃ W, ((w.alloc (.cells (s.map wv).toArray 176)).alloc (.cells (m.map wv).toArray 147)).alloc (.cells ((List.replicate 8 0#32).map wv).toArray 176) = W := ⟨_, rfl⟩
 have hr0 : Row W w.heap.size (s.map wv) 176 := hW ▸ ((Row.new rfl rfl).alloc _).alloc _
 have hr2 : Row W (w.heap.size + 1 + 1) ((List.replicate 8 0#32).map wv) 176 := hW ▸ Row.new (by simp) rfl
 have hb : Below w.heap.size w W := hW ▸ (((Below.refl _ w).alloc (Nat.le_refl _) _).alloc (by simp) _).alloc (by simp; omega) _
 have Hr0 := Lib.hid hr0
 have Hr2 := Lib.hid hr2
 have Hb := Lib.hid hb
 clear hr0 hr2 hb
 refine (Sched_any m Hm.out _).mono ?_
 rintro e w2 ⟨rfl, hb2⟩
 have hb2' : Below W.heap.size W w2 := by rw [← hW]; exact hb2
 clear hb2 hW
 have hlW : w.heap.size + 1 + 1 < W.heap.size := Hr2.out.lt
 have Hr0 := Lib.hid (Hr0.out.below hb2' (by omega))
 have Hr2 := Lib.hid (Hr2.out.below hb2' (by omega))
 have Hb := Lib.hid (nextB Hb.out (by omega) hb2')
 have hl2 : w.heap.size + 1 + 1 < w2.heap.size := Hr2.out.lt
 clear hb2' hlW
 obtain ⟨ws, hws⟩ : ∃ ws, Sha.sched m 48 = ws := ⟨_, rfl⟩
 have hwl : ws.length = 64 := by rw [← hws, Sha.sched_length, Hm.out]
 rw [hws]
 have Hws := Lib.hid hws
 have Hwl := Lib.hid hwl
 have Hwml := Lib.hid (show (ws.map wv).length = 64 by rw [List.length_map]; exact hwl)
 clear hws hwl
 unfold arr32
 go_wp2_with (first
  | (refine wpList_storeRow rfl 183 _ _ rfl rfl rfl (old := (List.replicate 64 0#32).map wv) (Row.new rfl rfl) (by kernel_rfl) Hwml.out (by simp) (hwords_one ws) ?_)
  | fail)
 have hr0 := (Hr0.out.alloc (.cells ((List.replicate 64 0#32).map wv).toArray 183)).setOther w2.heap.size (ws.map wv).toArray (by omega)
 have hr2 := (Hr2.out.alloc (.cells ((List.replicate 64 0#32).map wv).toArray 183)).setOther w2.heap.size (ws.map wv).toArray (by omega)
 have hr5 : Row ((w2.alloc (.cells ((List.replicate 64 0#32).map wv).toArray 183)).setRow w2.heap.size (ws.map wv).toArray) w2.heap.size (ws.map wv) 183 := (Row.new (cs := (List.replicate 64 0#32).map wv) rfl rfl).setRow (ws.map wv)
 have hb5 := below_setRow (Hb.out.alloc (by omega) (.cells ((List.replicate 64 0#32).map wv).toArray 183)) (show w.heap.size ≤ w2.heap.size by omega) (ws.map wv).toArray
 obtain ⟨V, hV⟩ : ∃ V, (w2.alloc (.cells ((List.replicate 64 0#32).map wv).toArray 183)).setRow w2.heap.size (ws.map wv).toArray = V := ⟨_, rfl⟩
 refine code_world hV ?_
 rw [hV] at hr0 hr2 hr5 hb5
 obtain ⟨g, hg⟩ : ∃ g, w2.heap.size = g := ⟨_, rfl⟩
 rw [hg] at hr5 hl2 ⊢
 have Hg := Lib.hid hl2
 have Hr0 := Lib.hid hr0
 have Hr2 := Lib.hid hr2
 have Hr5 := Lib.hid hr5
 have Hb := Lib.hid hb5
 clear hV hr0 hr2 hr5 hb5 hg hl2
 have hc0 := Hr0.out.cell (hgetD_word s 0 (by rw [Hs.out]; omega))
 have hc1 := Hr0.out.cell (hgetD_word s 1 (by rw [Hs.out]; omega))
 have hc2 := Hr0.out.cell (hgetD_word s 2 (by rw [Hs.out]; omega))
 have hc3 := Hr0.out.cell (hgetD_word s 3 (by rw [Hs.out]; omega))
 have hc4 := Hr0.out.cell (hgetD_word s 4 (by rw [Hs.out]; omega))
 have hc5 := Hr0.out.cell (hgetD_word s 5 (by rw [Hs.out]; omega))
 have hc6 := Hr0.out.cell (hgetD_word s 6 (by rw [Hs.out]; omega))
 have hc7 := Hr0.out.cell (hgetD_word s 7 (by rw [Hs.out]; omega))
 go_quiet (fail)
 obtain ⟨V2, hV2⟩ : ∃ V2, V.drewN nq = V2 := ⟨_, rfl⟩
 have Hr0 := Lib.hid (Hr0.out.drewN nq)
 have Hr2 := Lib.hid (Hr2.out.drewN nq)
 have Hr5 := Lib.hid (Hr5.out.drewN nq)
 have Hb := Lib.hid (below_drewN Hb.out nq)
 rw [hV2] at Hr0 Hr2 Hr5 Hb
 rw [hV2]
 clear hV2 hc0 hc1 hc2 hc3 hc4 hc5 hc6 hc7
 go_wp2_with fail
 go_loopw [37, 6, 7, 8, 9, 10, 11, 12, 13] (fun iv a b c d e f g' h wr => ∃ (i : Nat) (t : Sha.St), i ≤ 64 ∧ iv = .int .i64 (i : Int) ∧ Sha.rnds ws (Sha.ofList s) i = t ∧ a = wv t.a ∧ b = wv t.b ∧ c = wv t.c ∧ d = wv t.d ∧ e = wv t.e ∧ f = wv t.f ∧ g' = wv t.g ∧ h = wv t.h ∧
  Row wr w.heap.size (s.map wv) 176 ∧ Row wr (w.heap.size + 1 + 1) ((List.replicate 8 0#32).map wv) 176 ∧ Row wr g (ws.map wv) 183 ∧ Below w.heap.size w wr) (fun iv _ _ _ _ _ _ _ _ _ => 64 - (intOf iv).toNat)
 case atStart => exact ⟨0, Sha.ofList s, by omega, rfl, rfl, rfl, rfl, rfl, rfl, rfl, rfl, rfl, rfl, Hr0.out, Hr2.out, Hr5.out, Hb.out⟩
 case round =>
  obtain ⟨i, t, hi, rfl, ht, rfl, rfl, rfl, rfl, rfl, rfl, rfl, rfl, hr0, hr2, hr5, hb⟩ := hrel
  have Hr0 := Lib.hid hr0
  have Hr2 := Lib.hid hr2
  have Hr5 := Lib.hid hr5
  have Hb := Lib.hid hb
  have HT := Lib.hid ht
  clear hr0 hr2 hr5 hb ht
  by_cases h64 : i < 64
  · have h64' : (i : Int) < 64 := by omega
    have hk := (Ht.out.below Hb.out Ht.out.1).2 i h64
    have hw := Hr5.out.cell (hgetD_word ws i (by rw [Hwl.out]; omega))
    have hS1 := S1_is t.e
    go_wp2_with fail
    go_quiet ((go_at_call 120; exact quiet_same fun W hW => right_any _ _ (by decide) W))
    rw [tOf_is]
    obtain ⟨V3, hV3⟩ : ∃ V3, wr.drewN nq = V3 := ⟨_, rfl⟩
    have Hr0 := Lib.hid (Hr0.out.drewN nq)
    have Hr2 := Lib.hid (Hr2.out.drewN nq)
    have Hr5 := Lib.hid (Hr5.out.drewN nq)
    have Hb := Lib.hid (below_drewN Hb.out nq)
    rw [hV3] at Hr0 Hr2 Hr5 Hb
    rw [hV3]
    clear hV3 hk hw hS1
    have hS0 := S0_is t.a
    have hu := uOf_is t
    obtain ⟨T, hT⟩ : ∃ T, Sha.tOf t (Sha.at_ Sha.K i) (Sha.at_ ws i) = T := ⟨_, rfl⟩
    obtain ⟨U, hU⟩ : ∃ U, Sha.uOf t = U := ⟨_, rfl⟩
    rw [hT]
    rw [hU] at hu
    have HTT := Lib.hid hT
    have HUU := Lib.hid hU
    clear hT hU
    go_wp2_with (first
     | (go_at_call 120; refine (right_any _ _ (by decide) _).mono ?_; rintro e w' ⟨rfl, rfl⟩)
     | fail)
    go_roundw
    case rel =>
     refine ⟨i + 1, _, h64, by simp, rnd_eq HT.out, ?_, rfl, rfl, rfl, ?_, rfl, rfl, rfl, Hr0.out, Hr2.out, Hr5.out, Hb.out⟩
     · rw [Sha.rnd, HTT.out, HUU.out]
       exact congrArg (Value.int .u32) (w_add T U)
     · rw [Sha.rnd, HTT.out]
       exact congrArg (Value.int .u32) (w_add t.d T)
    case measure => simp [intOf]; omega
  · have h64' : ¬ (i : Int) < 64 := by omega
    have : i = 64 := by omega
    subst this
    obtain ⟨B, hB⟩ : ∃ B, Sha.comp s m = B := ⟨_, rfl⟩
    have hB2 : Sha.upd s t.toList 8 = B := by rw [← hB, Sha.upd_all _ _ Hs.out rfl, Sha.comp, Hws.out, HT.out]
    have hBl : B.length = 8 := by rw [← hB]; exact Sha.comp_length _ _ Hs.out
    have HB := Lib.hid hB
    have HB2 := Lib.hid hB2
    have HBl := Lib.hid hBl
    clear hB hB2 hBl
    go_wp2_with fail
    go_loopw [109] (fun iv wq => ∃ i : Nat, i ≤ 8 ∧ iv = .int .i64 (i : Int) ∧ Row wq w.heap.size ((Sha.upd s t.toList i).map wv) 176 ∧ Row wq (w.heap.size + 1 + 1) ((List.replicate 8 0#32).map wv) 176 ∧ Below w.heap.size w wq) (fun iv _ => 8 - (intOf iv).toNat)
    case atStart => exact ⟨0, by omega, rfl, Hr0.out, Hr2.out, Hb.out⟩
    case round =>
     obtain ⟨i, hi, rfl, hr0, hr2, hb⟩ := hrel
     have Hr0 := Lib.hid hr0
     have Hr2 := Lib.hid hr2
     have Hb := Lib.hid hb
     have Hl := Lib.hid (show (Sha.upd s t.toList i).length = 8 by rw [Sha.upd_length, Hs.out])
     clear hr0 hr2 hb
     by_cases h8 : i < 8
     · have h8' : (i : Int) < 8 := by omega
       have hix : (Instr.index 176 (.agg #[wv t.a, wv t.b, wv t.c, wv t.d, wv t.e, wv t.f, wv t.g, wv t.h]) (.int .i64 (i : Int))).run Tryz.prog wr = .ok (wv (Sha.at_ t.toList i)) wr :=
        run_index_one (cs := t.toList.map wv) wr Tryz.underlying176 Tryz.underlying26 rfl (by kernel_rfl) h8 (hgetD_word t.toList i h8)
       have hcell := Hr0.out.cell (hgetD_word (Sha.upd s t.toList i) i (by rw [Hl.out]; exact h8))
       have hfr := frozen_row Hr0.out i
       go_wp2
       rw [w_add]
       go_roundw
       case rel =>
        refine ⟨i + 1, h8, by simp, ?_, Hr2.out.other _ _ (by dsimp only; omega), Hb.out.setCell (by dsimp only; omega) _⟩
        have := Hr0.out.set i (wv (Sha.at_ (Sha.upd s t.toList i) i + Sha.at_ t.toList i))
        rw [← List.map_set] at this
        exact this
       case measure => simp [intOf]; omega
     · have h8' : ¬ (i : Int) < 8 := by omega
       have : i = 8 := by omega
       subst this
       have hr0 := Hr0.out
       rw [HB2.out] at hr0
       have Hr0 := Lib.hid hr0
       have Hml := Lib.hid (show (B.map wv).length = 8 by rw [List.length_map]; exact HBl.out)
       clear hr0
       go_wp2_with (first
        | (refine wpList_loadRow rfl 176 _ rfl rfl Hr0.out Tryz.underlying176 rfl (by kernel_rfl) Hml.out ?_)
        | (refine wpList_storeRow rfl 176 _ _ rfl rfl rfl Hr2.out (by kernel_rfl) Hml.out (by simp) (hwords_one B) ?_))
       refine bodyPost_ret (results_row rfl _ rfl (Hr2.out.setRow (B.map wv)) Tryz.underlying176 rfl (by kernel_rfl) Hml.out) rfl ?_
       exact ⟨by rw [HB.out], below_setRow Hb.out (by omega) _⟩
end Go.Proofs.YtedmogacklbcmaaGreatDoor
namespace Go.Proofs.YtedmogacklbcmaaGreatDoor
open Go.RowKit
theorem results_row_tmp {P : Program} {fn : Func} {p q : Tmp} {ty : TypeId} (hr : fn.results = #[.cell p ty, .tmp q]) (tmps : Array Value) {w : World} {g : Nat} {t : TypeId} {cs : List Value} {d : TypeDesc}
 (hp : tmps.getD p undef = .pointer (some ⟨g, 0, none⟩)) (h1 : Row w g cs t) (hu : P.underlying ty = some d) (hd : (match d with | .struct _ | .array _ _ => true | _ => false) = true) {n : Nat} (hi : (P.info? ty).map (·.size) = some n) (hn : cs.length = n) :
 (results fn tmps).run P w = .ok (.tuple #[.agg cs.toArray, tmps.getD q undef]) w := by
 have hp' : tmps[p]?.getD undef = .pointer (some ⟨g, 0, none⟩) := by simpa using hp
 have r1 := run_loadVar_row (P := P) w g t ty cs.toArray (0, 0) d h1 hu hd (by rw [hi]; simp [hn])
 simp [results, hr, hp', asAddr, r1]
def Pcs (w : World) (g : Nat) (v : Value) (ls : List (List UInt8)) : Prop :=
 ∃ off c cs, v = .slice (some ⟨g, off, none⟩) ls.length c ∧ ls.length ≤ c ∧ Row w g cs 38 ∧ off + ls.length ≤ cs.length ∧ ∀ (i : Nat) (l : List UInt8), ls[i]? = some l → ∃ u, cs[off + i]? = some u ∧ Bs w g u l
theorem Pcs.lt {w : World} {g : Nat} {v : Value} {ls : List (List UInt8)} (h : Pcs w g v ls) : g < w.heap.size := by
 obtain ⟨_, _, _, _, _, h, _⟩ := h
 exact h.lt
theorem Pcs.below {w w' : World} {g B : Nat} {v : Value} {ls : List (List UInt8)} (h : Pcs w g v ls) (hb : Below B w w') (hg : g < B) : Pcs w' g v ls := by
 obtain ⟨off, c, cs, h1, h2, h3, h4, h5⟩ := h
 refine ⟨off, c, cs, h1, h2, h3.below hb hg, h4, fun i l hl => ?_⟩
 obtain ⟨u, h6, h7⟩ := h5 i l hl
 exact ⟨u, h6, h7.below (hb.mono (by omega))⟩
namespace Sha
theorem feed_take {pre piece : List UInt8} {j : Nat} {c : UInt8} (hc : piece[j]? = some c) (B : List Wd) : feed B 0 (pre ++ piece.take (j + 1)) = put (feed B 0 (pre ++ piece.take j)) (pre.length + j) c := by
 have hj : j < piece.length := (List.getElem?_eq_some_iff.1 hc).1
 have e : piece.take (j + 1) = piece.take j ++ [c] := by rw [List.take_add_one, hc]; rfl
 have hl : (piece.take j).length = j := by rw [List.length_take]; omega
 rw [e, ← List.append_assoc, feed_append, List.length_append, hl, Nat.zero_add]
 rfl
theorem flat_at_piece {ls : List (List UInt8)} {i : Nat} {l : List UInt8} (h : ls[i]? = some l) : ls.flatten = (ls.take i).flatten ++ (l ++ (ls.drop (i + 1)).flatten) := by
 have hi : i < ls.length := (List.getElem?_eq_some_iff.1 h).1
 have e : ls.drop i = l :: ls.drop (i + 1) := by rw [List.drop_eq_getElem_cons hi]; congr 1; exact Option.some.inj ((List.getElem?_eq_getElem hi).symm.trans h)
 rw [← List.flatten_cons, ← e, ← List.flatten_append, List.take_append_drop]
theorem take_flat {ls : List (List UInt8)} {i : Nat} {l : List UInt8} (h : ls[i]? = some l) : (ls.take (i + 1)).flatten = (ls.take i).flatten ++ l := by
 rw [List.take_add_one, h]
 simp
theorem cut_end {ls : List (List UInt8)} {i : Nat} {piece pre : List UInt8} {n j N : Nat} (hpi : ls[i]? = some piece) (hpre : (ls.take i).flatten = pre) (hnl : pre.length = n) (hN : N = n + j) (h64 : N + 1 = 64) (hj : j < piece.length) :
 words ls.flatten = feed zeros16 0 (pre ++ piece.take (j + 1)) ∧ (piece.drop (j + 1) :: ls.drop (i + 1)).flatten = ls.flatten.drop 64 := by
 have e : ls.flatten = (pre ++ piece.take (j + 1)) ++ (piece.drop (j + 1) ++ (ls.drop (i + 1)).flatten) := by
  rw [flat_at_piece hpi, hpre]
  have := List.take_append_drop (j + 1) piece
  rw [List.append_assoc, ← List.append_assoc (piece.take (j + 1)), this]
 have hl : (pre ++ piece.take (j + 1)).length = 64 := by rw [List.length_append, List.length_take]; omega
 refine ⟨by rw [e, words_app _ _ hl], ?_⟩
 rw [e, List.flatten_cons, List.drop_append_of_le_length (l₁ := pre ++ piece.take (j + 1)) (by omega), List.drop_of_length_le (l := pre ++ piece.take (j + 1)) (by omega)]
 rfl
end Sha
theorem keep_bs {w W : World} {g : Nat} {u : Value} {l : List UInt8} (h : Bs w g u l) (hk : Ev.Keep ⟨w, fun k => k = g⟩ W) (hg : g < w.heap.size) : Bs W g u l :=
 h.keep fun b o hb => World.cell?_of_block (a := ⟨b, o, none⟩) (hk.block b (by
  rintro (e | e)
  · have e' : w.heap.size ≤ b := e; omega
  · have e' : b = g := e; omega))
theorem cut_pcs {w W : World} {g off c i j : Nat} {ls : List (List UInt8)} {cs : List Value} {piece : List UInt8} {u : Value} (hi : ls[i]? = some piece) (hc : ls.length ≤ c) (hcs : off + ls.length ≤ cs.length) (hg : g < w.heap.size)
 (hpc : ∀ (i : Nat) (l : List UInt8), ls[i]? = some l → ∃ u, cs[off + i]? = some u ∧ Bs w g u l) (hk : Ev.Keep ⟨w, fun k => k = g⟩ W) (hrow : Row W g (cs.set (off + i) u) 38) (hu : Bs w g u (piece.drop (j + 1))) :
 Pcs W g (.slice (some ⟨g, off + i, none⟩) (ls.length - i) (c - i)) (piece.drop (j + 1) :: ls.drop (i + 1)) := by
 have hil : i < ls.length := (List.getElem?_eq_some_iff.1 hi).1
 have hl : (piece.drop (j + 1) :: ls.drop (i + 1)).length = ls.length - i := by rw [List.length_cons, List.length_drop]; omega
 refine ⟨off + i, c - i, _, by rw [hl], by rw [hl]; omega, hrow, by rw [hl, List.length_set]; omega, fun q l hq => ?_⟩
 cases q with
 | zero =>
   rw [List.getElem?_cons_zero] at hq
   injection hq with hq
   subst hq
   refine ⟨u, ?_, keep_bs hu hk hg⟩
   rw [Nat.add_zero, List.getElem?_set]
   simp
   omega
 | succ q =>
   rw [List.getElem?_cons_succ, List.getElem?_drop] at hq
   obtain ⟨u', h1, h2⟩ := hpc _ l hq
   refine ⟨u', ?_, keep_bs h2 hk hg⟩
   rw [List.getElem?_set, if_neg (by omega), show off + i + (q + 1) = off + (i + 1 + q) by omega]
   exact h1
theorem cut_keep {w wr : World} {g gb : Nat} (hb : Below w.heap.size w wr) (hgb : w.heap.size = gb) (a b : Addr) (ha : a.block = gb) (hbg : b.block = g) (u v : Value) (cs : Array Value) :
 Ev.Keep ⟨w, fun k => k = g⟩ (((wr.setCell a u).setCell b v).setRow gb cs) := by
 refine ⟨hb.os, hb.tape, hb.output, ?_, fun k hk => ?_⟩
 · show w.heap.size ≤ _
   rw [size_setRow]
   simpa [World.setCell] using hb.size
 · have h1 : k < w.heap.size := Nat.lt_of_not_le fun e => hk (.inl e)
   have h2 : k ≠ g := fun e => hk (.inr e)
   rw [setRow_other _ _ _ _ (by omega), Below.heap_setCell _ _ _ _ (by omega), Below.heap_setCell _ _ _ _ (by omega)]
   exact hb.block k h1
set_option maxRecDepth 8000 in
set_option maxHeartbeats 1000000 in
theorem Cut_any (g : Nat) (v : Value) (ls : List (List UInt8)) (w : World) (hp : Pcs w g v ls) (hl : 64 ≤ ls.flatten.length) (hn : ls.length ≤ 1000000) (hm : ∀ l ∈ ls, l.length ≤ 1000000000) :
 Calls Tryz.prog 112 #[v] w fun e w' => ∃ v' ls', e = .returned (.tuple #[arr32 (Sha.words ls.flatten), v']) ∧ Pcs w' g v' ls' ∧ ls'.flatten = ls.flatten.drop 64 ∧ ls'.length ≤ ls.length ∧ (∀ l ∈ ls', l.length ≤ 1000000000) ∧ Ev.Keep ⟨w, fun k => k = g⟩ w' := by
 have Hl := Lib.hid hl
 have Hm := Lib.hid hm
 obtain ⟨off, c, cs, rfl, hc, hrow, hcs, hpc⟩ := hp
 have Hc := Lib.hid hc
 have Hrow := Lib.hid hrow
 have Hcs := Lib.hid hcs
 have Hpc := Lib.hid hpc
 clear hl hm hc hrow hcs hpc
 go_enter Tryz.func112, Tryz.ntmps112
 go_wp2_with fail
 obtain ⟨W, hW⟩ : ∃ W, w.alloc (.cells ((List.replicate 16 0#32).map wv).toArray 147) = W := ⟨_, rfl⟩
 have hr2 : Row W w.heap.size ((List.replicate 16 0#32).map wv) 147 := hW ▸ Row.new rfl rfl
 have hb : Below w.heap.size w W := hW ▸ (Below.refl _ w).alloc (Nat.le_refl _) _
 refine code_world hW ?_
 have Hr2 := Lib.hid hr2
 have Hb := Lib.hid hb
 clear hW hr2 hb
 obtain ⟨gb, hgb⟩ : ∃ gb, w.heap.size = gb := ⟨_, rfl⟩
 have Hgb := Lib.hid hgb
 rw [hgb] at Hr2
 rw [hgb]
 clear hgb
 go_wp2
 go_step3
 go_wp2
 go_step3
 go_wp2
 go_loopw [11, 4] (fun iv nv wr => ∃ i n : Nat, i ≤ ls.length ∧ iv = .int .i64 (i : Int) ∧ nv = .int .i64 (n : Int) ∧ n < 64 ∧ (ls.take i).flatten.length = n ∧ Row wr gb ((Sha.feed Sha.zeros16 0 (ls.take i).flatten).map wv) 147 ∧ Below w.heap.size w wr) (fun iv _ _ => ls.length - (intOf iv).toNat)
 case atStart => exact ⟨0, 0, by omega, rfl, rfl, by omega, rfl, Hr2.out, Hb.out⟩
 case round =>
  obtain ⟨i, n, hi, rfl, rfl, hn64, hnl, hr, hb⟩ := hrel
  have Hr := Lib.hid hr
  have Hb := Lib.hid hb
  have Hnl := Lib.hid hnl
  clear hr hb hnl
  by_cases h1 : i < ls.length
  · have h1' : (i : Int) < (ls.length : Int) := by omega
    obtain ⟨u, hu, hbs⟩ := Hpc.out i _ (List.getElem?_eq_getElem h1)
    obtain ⟨piece, hpiece⟩ : ∃ piece, ls[i] = piece := ⟨_, rfl⟩
    have hpi : ls[i]? = some piece := by rw [← hpiece]; exact List.getElem?_eq_getElem h1
    rw [hpiece] at hbs
    have hcell := (Hrow.out.below Hb.out Hrow.out.lt).cell hu
    have Hbs := Lib.hid hbs
    obtain ⟨A, c2, rfl, hc2, hcs2⟩ := hbs
    have Hpi := Lib.hid hpi
    have Hc2 := Lib.hid hc2
    have Hcs2 := Lib.hid hcs2
    have Hu := Lib.hid hu
    clear hpi hc2 hcs2 hu hpiece
    go_wp2_with fail
    obtain ⟨pre, hpre⟩ : ∃ pre, (ls.take i).flatten = pre := ⟨_, rfl⟩
    rw [hpre] at Hr Hnl
    have Hpre := Lib.hid hpre
    clear hpre hcell
    go_loopw [18, 4] (fun jv nv wr => ∃ j N : Nat, j ≤ piece.length ∧ jv = .int .i64 (j : Int) ∧ nv = .int .i64 (N : Int) ∧ N = n + j ∧ N < 64 ∧ Row wr gb ((Sha.feed Sha.zeros16 0 (pre ++ piece.take j)).map wv) 147 ∧ Below w.heap.size w wr) (fun jv _ _ => piece.length - (intOf jv).toNat)
    case atStart => exact ⟨0, n, by omega, rfl, rfl, rfl, hn64, by rw [List.take_zero, List.append_nil]; exact Hr.out, Hb.out⟩
    case round =>
     obtain ⟨j, N, hj, rfl, rfl, hN, hN64, hr, hb⟩ := hrel
     have Hr := Lib.hid hr
     have Hb := Lib.hid hb
     have HN := Lib.hid hN
     have Hfl := Lib.hid (show (Sha.feed Sha.zeros16 0 (pre ++ piece.take j)).length = 16 by rw [Sha.feed_length]; rfl)
     clear hr hb hN
     by_cases h2 : j < piece.length
     · have h2' : (j : Int) < (piece.length : Int) := by omega
       obtain ⟨c0, hc0⟩ : ∃ c0, piece[j]? = some c0 := ⟨_, List.getElem?_eq_getElem h2⟩
       obtain ⟨pb, po, rfl, hpb, hcell0⟩ := Hcs2.out (by intro h; subst h; simp at h2)
       have hg0 := Hrow.out.lt
       have hcell : wr.cell? ⟨pb, po + j, none⟩ = some (.int .u8 (c0.toNat : Int)) := (Hb.out.cell (p := ⟨pb, po + j, none⟩) (by show pb < w.heap.size; omega)).trans (hcell0 j c0 hc0)
       obtain ⟨k, hk⟩ : ∃ k, N / 4 = k := ⟨_, rfl⟩
       have hk16 : k < 16 := by omega
       have hq : (N : Int) / 4 = (k : Int) := by omega
       have hwc := Hr.out.cell (hgetD_word (Sha.feed Sha.zeros16 0 (pre ++ piece.take j)) k (by rw [Hfl.out]; exact hk16))
       have hfr := frozen_row Hr.out k
       have hmod : (c0.toNat : Int) % 4294967296 = (c0.toNat : Int) := by have := c0.toNat_lt; omega
       have hwrap : IntKind.u32.wrap (c0.toNat : Int) = (c0.toNat : Int) := wrap_u32_lt _ (by have := c0.toNat_lt; omega)
       have Hcell0 := Lib.hid hcell0
       have Hc0 := Lib.hid hc0
       have Hk := Lib.hid hk
       clear hcell0 hc0 hk
       have hsetn : Sha.put (Sha.feed Sha.zeros16 0 (pre ++ piece.take j)) N c0 = (Sha.feed Sha.zeros16 0 (pre ++ piece.take j)).set k (Sha.at_ (Sha.feed Sha.zeros16 0 (pre ++ piece.take j)) k <<< 8 ||| wb c0) := by rw [Sha.put, Hk.out]
       have hft : Sha.feed Sha.zeros16 0 (pre ++ piece.take (j + 1)) = (Sha.feed Sha.zeros16 0 (pre ++ piece.take j)).set k (Sha.at_ (Sha.feed Sha.zeros16 0 (pre ++ piece.take j)) k <<< 8 ||| wb c0) := by rw [Sha.feed_take Hc0.out, Hnl.out, ← HN.out, hsetn]
       have hset := Hr.out.set k (wv (Sha.at_ (Sha.feed Sha.zeros16 0 (pre ++ piece.take j)) k <<< 8 ||| wb c0))
       rw [← List.map_set, ← hft] at hset
       have Hset := Lib.hid hset
       have hbw := Hb.out.setCell (p := ⟨gb, k, none⟩) (Nat.le_of_eq Hgb.out) (wv (Sha.at_ (Sha.feed Sha.zeros16 0 (pre ++ piece.take j)) k <<< 8 ||| wb c0))
       have Hbw := Lib.hid hbw
       obtain ⟨X, hX⟩ : ∃ X, Sha.at_ (Sha.feed Sha.zeros16 0 (pre ++ piece.take j)) k = X := ⟨_, rfl⟩
       rw [hX] at hwc Hset Hbw
       have hor : bits .or .u32 ((X.toNat : Int) * 256 % 4294967296) (c0.toNat : Int) = ((X <<< 8 ||| wb c0).toNat : Int) := by rw [w_shl8, w_byte, w_or]
       have hw1 : IntKind.i64.wrap ((j : Int) + 1) = (j : Int) + 1 := IntWalk.i64_in _ (by have := Hm.out _ (List.mem_of_getElem? Hpi.out); omega)
       clear hsetn hft hset hbw hX
       by_cases h64 : N + 1 = 64
       · have h64' : (N : Int) + 1 = 64 := by omega
         have hgne : gb ≠ g := by have := Hgb.out; omega
         have hci : ¬ c = i := by have := Hc.out; omega
         have hic : i ≤ c := by have := Hc.out; omega
         have hcg : wr.cell? ⟨g, off + i, none⟩ = some (.slice (some ⟨pb, po, none⟩) piece.length c2) := (Hb.out.cell (p := ⟨g, off + i, none⟩) hg0).trans (Hrow.out.cell Hu.out)
         have hfg : wr.frozen? ⟨g, off + i, none⟩ = false := frozen_row (Hrow.out.below Hb.out hg0) (off + i)
         have hj1 : j + 1 ≤ piece.length := h2
         have hjc : j + 1 ≤ c2 := by have := Hc2.out; omega
         by_cases hcap : c2 = j + 1
         · have hlen : piece.length = j + 1 := by have := Hc2.out; omega
           obtain ⟨hwords, hflat⟩ := Sha.cut_end Hpi.out Hpre.out Hnl.out HN.out h64 h2
           obtain ⟨Bl, hBl⟩ : ∃ Bl, Sha.feed Sha.zeros16 0 (pre ++ piece.take (j + 1)) = Bl := ⟨_, rfl⟩
           rw [hBl] at Hset hwords
           have Hml := Lib.hid (show (Bl.map wv).length = 16 by rw [List.length_map, ← hBl, Sha.feed_length]; rfl)
           have Hwords := Lib.hid hwords
           have Hflat := Lib.hid hflat
           clear hBl hwords hflat
           go_wp2_with (first
            | (show wpList _ _ _ (⟨some 49, _, _, _, _, _⟩ :: _) _ _; refine wpList_loadRow (g := gb) rfl 147 (.tmp 2) rfl rfl (Hset.out.other ⟨g, off + i, none⟩ _ hgne) Tryz.underlying147 rfl (by kernel_rfl) Hml.out ?_)
            | (show wpList _ _ _ (⟨none, Op.store 147 _ _, _, _, _, _⟩ :: _) _ _; refine wpList_storeRow (g := gb) (cs := Bl.map wv) rfl 147 (.tmp 2) (.tmp 49) rfl rfl rfl (Hset.out.other ⟨g, off + i, none⟩ _ hgne) (by kernel_rfl) Hml.out Hml.out (hwords_one Bl) ?_)
            | fail)
           rw [Exit.noGoto_ret]
           have hcut := Hbs.out.cut (k := j + 1) hj1
           rw [if_pos hcap, show piece.length - (j + 1) = 0 by omega, show c2 - (j + 1) = 0 by omega] at hcut
           have hk9 := cut_keep Hb.out Hgb.out ⟨gb, k, none⟩ ⟨g, off + i, none⟩ rfl rfl (wv (X <<< 8 ||| wb c0)) (.slice (some ⟨pb, po, none⟩) 0 0) (Bl.map wv).toArray
           have hr9 := ((Hrow.out.below Hb.out hg0).other ⟨gb, k, none⟩ (wv (X <<< 8 ||| wb c0)) (Ne.symm hgne)).set (off + i) (.slice (some ⟨pb, po, none⟩) 0 0)
           refine bodyPost_ret (results_row_tmp rfl _ rfl ((Hset.out.other ⟨g, off + i, none⟩ _ hgne).setRow (Bl.map wv)) Tryz.underlying147 rfl (by kernel_rfl) Hml.out) rfl ?_
           refine ⟨_, piece.drop (j + 1) :: ls.drop (i + 1), by rw [Hwords.out]; rfl, cut_pcs Hpi.out Hc.out Hcs.out hg0 Hpc.out hk9 (hr9.setOther gb _ (Ne.symm hgne)) hcut, Hflat.out, by rw [List.length_cons, List.length_drop]; omega, ?_, hk9⟩
           intro l hl
           rcases List.mem_cons.1 hl with rfl | hl
           · rw [List.length_drop]
             have := Hm.out _ (List.mem_of_getElem? Hpi.out)
             omega
           · exact Hm.out l (List.mem_of_mem_drop hl)
         · obtain ⟨hwords, hflat⟩ := Sha.cut_end Hpi.out Hpre.out Hnl.out HN.out h64 h2
           obtain ⟨Bl, hBl⟩ : ∃ Bl, Sha.feed Sha.zeros16 0 (pre ++ piece.take (j + 1)) = Bl := ⟨_, rfl⟩
           rw [hBl] at Hset hwords
           have Hml := Lib.hid (show (Bl.map wv).length = 16 by rw [List.length_map, ← hBl, Sha.feed_length]; rfl)
           have Hwords := Lib.hid hwords
           have Hflat := Lib.hid hflat
           clear hBl hwords hflat
           go_wp2_with (first
            | (show wpList _ _ _ (⟨some 49, _, _, _, _, _⟩ :: _) _ _; refine wpList_loadRow (g := gb) rfl 147 (.tmp 2) rfl rfl (Hset.out.other ⟨g, off + i, none⟩ _ hgne) Tryz.underlying147 rfl (by kernel_rfl) Hml.out ?_)
            | (show wpList _ _ _ (⟨none, Op.store 147 _ _, _, _, _, _⟩ :: _) _ _; refine wpList_storeRow (g := gb) (cs := Bl.map wv) rfl 147 (.tmp 2) (.tmp 49) rfl rfl rfl (Hset.out.other ⟨g, off + i, none⟩ _ hgne) (by kernel_rfl) Hml.out Hml.out (hwords_one Bl) ?_)
            | fail)
           rw [Exit.noGoto_ret]
           have hcut := Hbs.out.cut (k := j + 1) hj1
           rw [if_neg hcap, Option.map_some, show (⟨pb, po, none⟩ : Addr).add (j + 1) = ⟨pb, po + (j + 1), none⟩ by unfold Addr.add; split <;> simp_all] at hcut
           have hk9 := cut_keep Hb.out Hgb.out ⟨gb, k, none⟩ ⟨g, off + i, none⟩ rfl rfl (wv (X <<< 8 ||| wb c0)) (.slice (some ⟨pb, po + (j + 1), none⟩) (piece.length - (j + 1)) (c2 - (j + 1))) (Bl.map wv).toArray
           have hr9 := ((Hrow.out.below Hb.out hg0).other ⟨gb, k, none⟩ (wv (X <<< 8 ||| wb c0)) (Ne.symm hgne)).set (off + i) (.slice (some ⟨pb, po + (j + 1), none⟩) (piece.length - (j + 1)) (c2 - (j + 1)))
           refine bodyPost_ret (results_row_tmp rfl _ rfl ((Hset.out.other ⟨g, off + i, none⟩ _ hgne).setRow (Bl.map wv)) Tryz.underlying147 rfl (by kernel_rfl) Hml.out) rfl ?_
           refine ⟨_, piece.drop (j + 1) :: ls.drop (i + 1), by rw [Hwords.out]; rfl, cut_pcs Hpi.out Hc.out Hcs.out hg0 Hpc.out hk9 (hr9.setOther gb _ (Ne.symm hgne)) hcut, Hflat.out, by rw [List.length_cons, List.length_drop]; omega, ?_, hk9⟩
           intro l hl
           rcases List.mem_cons.1 hl with rfl | hl
           · rw [List.length_drop]
             have := Hm.out _ (List.mem_of_getElem? Hpi.out)
             omega
           · exact Hm.out l (List.mem_of_mem_drop hl)
       · have h64' : ¬ (N : Int) + 1 = 64 := by omega
         go_wp2
         go_roundw
         case rel => exact ⟨j + 1, N + 1, h2, by simp, by simp, by have := HN.out; omega, by omega, Hset.out, Hbw.out⟩
         case measure => simp [intOf]; omega
     · have h2' : ¬ (j : Int) < (piece.length : Int) := by omega
       have : j = piece.length := by omega
       subst this
       go_wp2
       go_roundw
       case rel =>
        refine ⟨i + 1, N, by omega, by simp, rfl, hN64, ?_, ?_, Hb.out⟩
        · rw [Sha.take_flat Hpi.out, Hpre.out, List.length_append, Hnl.out, HN.out]
        · rw [Sha.take_flat Hpi.out, Hpre.out]
          have := Hr.out
          rw [List.take_length] at this
          exact this
       case measure => simp [intOf]; omega
  · exfalso
    have : i = ls.length := by omega
    subst this
    have := Hnl.out
    rw [List.take_length] at this
    have := Hl.out
    omega
end Go.Proofs.YtedmogacklbcmaaGreatDoor
namespace Go.Proofs.YtedmogacklbcmaaGreatDoor
open Go.RowKit
namespace Sha
def padRow (n : Nat) : Nat → List UInt8
 | 0 => 0x80 :: (List.replicate (zerosOf n) 0 ++ [0, 0, 0, 0, 0, 0, 0, 0])
 | i + 1 => (padRow n i).set (zerosOf n + 8 - i) (lenByte n i)
theorem padRow_length (n i : Nat) : (padRow n i).length = zerosOf n + 9 := by
 induction i with
 | zero => simp [padRow]
 | succ i ih => rw [padRow, List.length_set, ih]
theorem set_in (z k : Nat) (a x : UInt8) (t : List UInt8) : (a :: (List.replicate z 0 ++ t)).set (z + 1 + k) x = a :: (List.replicate z 0 ++ t.set k x) := by
 rw [show z + 1 + k = (z + k) + 1 by omega, List.set_cons_succ, List.set_append_right _ _ (by simp)]
 simp
theorem padRow_all (n : Nat) : padRow n 8 = pad n := by
 obtain ⟨z, hz⟩ : ∃ z, zerosOf n = z := ⟨_, rfl⟩
 simp only [padRow, pad, hz]
 rw [show z + 8 - 0 = z + 1 + 7 by omega, set_in, show z + 8 - 1 = z + 1 + 6 by omega, set_in, show z + 8 - 2 = z + 1 + 5 by omega, set_in, show z + 8 - 3 = z + 1 + 4 by omega, set_in,
  show z + 8 - 4 = z + 1 + 3 by omega, set_in, show z + 8 - 5 = z + 1 + 2 by omega, set_in, show z + 8 - 6 = z + 1 + 1 by omega, set_in, show z + 8 - 7 = z + 1 + 0 by omega, set_in]
 rfl
theorem lenByte_is (n i : Nat) : bv (lenByte n i) = .int .u8 ((n * 8 / 2 ^ (8 * i) % 256 : Nat) : Int) := by
 unfold bv lenByte
 rw [UInt8.toNat_ofNat']
 congr 2
 omega
end Sha
set_option maxRecDepth 8000 in
set_option maxHeartbeats 1000000 in
theorem Pad_any (n : Nat) (hn : n ≤ 1125899906842624) (w : World) : Calls Tryz.prog 118 #[.int .i64 (n : Int)] w fun e w' => e = .returned (.slice (some ⟨w.heap.size, 0, none⟩) (Sha.zerosOf n + 9) (Sha.zerosOf n + 9)) ∧ Row w' w.heap.size ((Sha.pad n).map bv) 5 ∧ Below w.heap.size w w' := by
 obtain ⟨z, hz⟩ : ∃ z, Sha.zerosOf n = z := ⟨_, rfl⟩
 have hz64 : z < 64 := by rw [← hz]; exact (Sha.zerosOf_is n).2
 have hzi : (119 - (n : Int) % 64) % 64 = (z : Int) := by rw [← hz, Sha.zerosOf]; omega
 have Hz := Lib.hid hz
 obtain ⟨L, hL⟩ : ∃ L, z + 9 = L := ⟨_, rfl⟩
 have hLi : 1 + (z : Int) + 8 = (L : Int) := by omega
 have HL := Lib.hid hL
 have hzero : (List.replicate L (0 : UInt8)).map bv = ((0 : UInt8) :: (List.replicate z 0 ++ [0, 0, 0, 0, 0, 0, 0, 0])).map bv := by
  rw [← hL, List.replicate_succ, show [(0 : UInt8), 0, 0, 0, 0, 0, 0, 0] = List.replicate 8 0 from rfl, List.replicate_append_replicate]
 have Hzero := Lib.hid hzero
 rw [hz]
 clear hz hL hzero
 go_enter Tryz.func118, Tryz.ntmps118
 go_wp2_with (first
  | (at_make; refine wpList_make_bytes _ rfl _ _ rfl L rfl rfl (by omega) ?_; intro w1 hrow1 hg1
     have hb1 := Lib.hid ((Below.refl w.heap.size w).grown hg1 (Nat.le_refl _) (fun k hk => by cases hk))
     have Hrow1 := Lib.hid (hrow1.same Hzero.out.symm)
     have hL0 : (0 : Int) < (L : Int) := by omega
     have hc0 : w1.cell? ⟨w.heap.size, 0, none⟩ = some (bv 0) := Hrow1.out.cell rfl
     have hf0 := frozen_row Hrow1.out 0
     clear hrow1 hg1)
  | fail)
 have hr2 : Row (w1.setCell ⟨w.heap.size, 0, none⟩ (.int .u8 128)) w.heap.size ((Sha.padRow n 0).map bv) 5 := by
  have := Hrow1.out.set 0 (.int .u8 128)
  rw [Sha.padRow, Hz.out]
  exact this
 have hb2 := hb1.out.setCell (p := ⟨w.heap.size, 0, none⟩) (Nat.le_refl _) (.int .u8 128)
 obtain ⟨V, hV⟩ : ∃ V, w1.setCell ⟨w.heap.size, 0, none⟩ (.int .u8 128) = V := ⟨_, rfl⟩
 rw [hV] at hr2 hb2
 refine code_world hV ?_
 have Hr2 := Lib.hid hr2
 have Hb2 := Lib.hid hb2
 clear hV hr2 hb2 hc0 hf0 hL0 hLi
 go_loopw [22] (fun iv wr => ∃ i : Nat, i ≤ 8 ∧ iv = .int .i64 (i : Int) ∧ Row wr w.heap.size ((Sha.padRow n i).map bv) 5 ∧ Below w.heap.size w wr) (fun iv _ => 8 - (intOf iv).toNat)
 case atStart => exact ⟨0, by omega, rfl, Hr2.out, Hb2.out⟩
 case round =>
  obtain ⟨i, hi, rfl, hr, hb⟩ := hrel
  have Hr := Lib.hid hr
  have Hb := Lib.hid hb
  have Hl := Lib.hid (show (Sha.padRow n i).length = L by rw [Sha.padRow_length, Hz.out, HL.out])
  clear hr hb
  by_cases h8 : i < 8
  · have h8' : (i : Int) < 8 := by omega
    have hcell : ∀ k, k < 8 → (∃ v, wr.cell? ⟨w.heap.size, L - 1 - k, none⟩ = some v) ∧ wr.frozen? ⟨w.heap.size, L - 1 - k, none⟩ = false := fun k hk => ⟨⟨_, Hr.out.cell (hgetD_cell _ (L - 1 - k) (by rw [Hl.out]; have := HL.out; omega))⟩, frozen_row Hr.out _⟩
    have hset : ∀ k, i = k → Row (wr.setCell ⟨w.heap.size, L - 1 - k, none⟩ (.int .u8 ((n * 8 / 2 ^ (8 * k) % 256 : Nat) : Int))) w.heap.size ((Sha.padRow n (i + 1)).map bv) 5 := by
     intro k hk
     subst hk
     have := Hr.out.set (L - 1 - i) (bv (Sha.lenByte n i))
     rw [← List.map_set, Sha.lenByte_is] at this
     rw [Sha.padRow, Hz.out, show z + 8 - i = L - 1 - i by have := HL.out; omega]
     exact this
    have Hcell := Lib.hid hcell
    have Hset := Lib.hid hset
    clear hcell hset
    have hz64 := hz64
    obtain rfl | rfl | rfl | rfl | rfl | rfl | rfl | rfl : i = 0 ∨ i = 1 ∨ i = 2 ∨ i = 3 ∨ i = 4 ∨ i = 5 ∨ i = 6 ∨ i = 7 := by omega
    · have hset := Hset.out 0 rfl
      have hL1 : (L : Int) - 1 = ((L - 1 - 0 : Nat) : Int) := by have := HL.out; omega
      have hcl := Hcell.out 0 (by omega)
      obtain ⟨q, hq⟩ : ∃ q, L - 1 - 0 = q := ⟨_, rfl⟩
      rw [hq] at hset hL1 hcl
      have hwq : IntKind.i64.wrap (q : Int) = (q : Int) := IntWalk.i64_in _ (by have := HL.out; omega)
      have hql : (q : Int) < (L : Int) := by have := HL.out; omega
      have Hset := Lib.hid hset
      obtain ⟨⟨v, hcv⟩, hfr⟩ := hcl
      have Hne := Lib.hid hq
      clear hset hq
      go_wp2
      have e1 : (n : Int) * 8 % 256 = ((n * 8 / 2 ^ (8 * 0) % 256 : Nat) : Int) := by
       rw [show 2 ^ (8 * 0) = 1 from rfl]
       omega
      rw [e1]
      go_roundw
      case rel => exact ⟨0 + 1, by omega, rfl, Hset.out, Hb.out.setCell (by dsimp only; omega) _⟩
      case measure => simp [intOf]
    · have hset := Hset.out 1 rfl
      have hw1 : IntKind.i64.wrap ((L : Int) - 1) = (L : Int) - 1 := IntWalk.i64_in _ (by have := HL.out; omega)
      have hL1 : IntKind.i64.wrap ((L : Int) - 1 - 1) = ((L - 1 - 1 : Nat) : Int) := (IntWalk.i64_in _ (by have := HL.out; omega)).trans (by have := HL.out; omega)
      have hcl := Hcell.out 1 (by omega)
      obtain ⟨q, hq⟩ : ∃ q, L - 1 - 1 = q := ⟨_, rfl⟩
      rw [hq] at hset hL1 hcl
      have hql : (q : Int) < (L : Int) := by have := HL.out; omega
      have Hset := Lib.hid hset
      obtain ⟨⟨v, hcv⟩, hfr⟩ := hcl
      have Hne := Lib.hid hq
      clear hset hq
      go_wp2
      have e1 : (n : Int) * 8 / 256 % 256 = ((n * 8 / 2 ^ (8 * 1) % 256 : Nat) : Int) := by
       rw [show 2 ^ (8 * 1) = 256 from rfl]
       omega
      rw [e1]
      go_roundw
      case rel => exact ⟨1 + 1, by omega, rfl, Hset.out, Hb.out.setCell (by dsimp only; omega) _⟩
      case measure => simp [intOf]
    · have hset := Hset.out 2 rfl
      have hw1 : IntKind.i64.wrap ((L : Int) - 1) = (L : Int) - 1 := IntWalk.i64_in _ (by have := HL.out; omega)
      have hL1 : IntKind.i64.wrap ((L : Int) - 1 - 2) = ((L - 1 - 2 : Nat) : Int) := (IntWalk.i64_in _ (by have := HL.out; omega)).trans (by have := HL.out; omega)
      have hcl := Hcell.out 2 (by omega)
      obtain ⟨q, hq⟩ : ∃ q, L - 1 - 2 = q := ⟨_, rfl⟩
      rw [hq] at hset hL1 hcl
      have hql : (q : Int) < (L : Int) := by have := HL.out; omega
      have Hset := Lib.hid hset
      obtain ⟨⟨v, hcv⟩, hfr⟩ := hcl
      have Hne := Lib.hid hq
      clear hset hq
      go_wp2
      have e1 : (n : Int) * 8 / 65536 % 256 = ((n * 8 / 2 ^ (8 * 2) % 256 : Nat) : Int) := by
       rw [show 2 ^ (8 * 2) = 65536 from rfl]
       omega
      rw [e1]
      go_roundw
      case rel => exact ⟨2 + 1, by omega, rfl, Hset.out, Hb.out.setCell (by dsimp only; omega) _⟩
      case measure => simp [intOf]
    · have hset := Hset.out 3 rfl
      have hw1 : IntKind.i64.wrap ((L : Int) - 1) = (L : Int) - 1 := IntWalk.i64_in _ (by have := HL.out; omega)
      have hL1 : IntKind.i64.wrap ((L : Int) - 1 - 3) = ((L - 1 - 3 : Nat) : Int) := (IntWalk.i64_in _ (by have := HL.out; omega)).trans (by have := HL.out; omega)
      have hcl := Hcell.out 3 (by omega)
      obtain ⟨q, hq⟩ : ∃ q, L - 1 - 3 = q := ⟨_, rfl⟩
      rw [hq] at hset hL1 hcl
      have hql : (q : Int) < (L : Int) := by have := HL.out; omega
      have Hset := Lib.hid hset
      obtain ⟨⟨v, hcv⟩, hfr⟩ := hcl
      have Hne := Lib.hid hq
      clear hset hq
      go_wp2
      have e1 : (n : Int) * 8 / 16777216 % 256 = ((n * 8 / 2 ^ (8 * 3) % 256 : Nat) : Int) := by
       rw [show 2 ^ (8 * 3) = 16777216 from rfl]
       omega
      rw [e1]
      go_roundw
      case rel => exact ⟨3 + 1, by omega, rfl, Hset.out, Hb.out.setCell (by dsimp only; omega) _⟩
      case measure => simp [intOf]
    · have hset := Hset.out 4 rfl
      have hw1 : IntKind.i64.wrap ((L : Int) - 1) = (L : Int) - 1 := IntWalk.i64_in _ (by have := HL.out; omega)
      have hL1 : IntKind.i64.wrap ((L : Int) - 1 - 4) = ((L - 1 - 4 : Nat) : Int) := (IntWalk.i64_in _ (by have := HL.out; omega)).trans (by have := HL.out; omega)
      have hcl := Hcell.out 4 (by omega)
      obtain ⟨q, hq⟩ : ∃ q, L - 1 - 4 = q := ⟨_, rfl⟩
      rw [hq] at hset hL1 hcl
      have hql : (q : Int) < (L : Int) := by have := HL.out; omega
      have Hset := Lib.hid hset
      obtain ⟨⟨v, hcv⟩, hfr⟩ := hcl
      have Hne := Lib.hid hq
      clear hset hq
      go_wp2
      have e1 : (n : Int) * 8 / 4294967296 % 256 = ((n * 8 / 2 ^ (8 * 4) % 256 : Nat) : Int) := by
       rw [show 2 ^ (8 * 4) = 4294967296 from rfl]
       omega
      rw [e1]
      go_roundw
      case rel => exact ⟨4 + 1, by omega, rfl, Hset.out, Hb.out.setCell (by dsimp only; omega) _⟩
      case measure => simp [intOf]
    · have hset := Hset.out 5 rfl
      have hw1 : IntKind.i64.wrap ((L : Int) - 1) = (L : Int) - 1 := IntWalk.i64_in _ (by have := HL.out; omega)
      have hL1 : IntKind.i64.wrap ((L : Int) - 1 - 5) = ((L - 1 - 5 : Nat) : Int) := (IntWalk.i64_in _ (by have := HL.out; omega)).trans (by have := HL.out; omega)
      have hcl := Hcell.out 5 (by omega)
      obtain ⟨q, hq⟩ : ∃ q, L - 1 - 5 = q := ⟨_, rfl⟩
      rw [hq] at hset hL1 hcl
      have hql : (q : Int) < (L : Int) := by have := HL.out; omega
      have Hset := Lib.hid hset
      obtain ⟨⟨v, hcv⟩, hfr⟩ := hcl
      have Hne := Lib.hid hq
      clear hset hq
      go_wp2
      have e1 : (n : Int) * 8 / 1099511627776 % 256 = ((n * 8 / 2 ^ (8 * 5) % 256 : Nat) : Int) := by
       rw [show 2 ^ (8 * 5) = 1099511627776 from rfl]
       omega
      rw [e1]
      go_roundw
      case rel => exact ⟨5 + 1, by omega, rfl, Hset.out, Hb.out.setCell (by dsimp only; omega) _⟩
      case measure => simp [intOf]
    · have hset := Hset.out 6 rfl
      have hw1 : IntKind.i64.wrap ((L : Int) - 1) = (L : Int) - 1 := IntWalk.i64_in _ (by have := HL.out; omega)
      have hL1 : IntKind.i64.wrap ((L : Int) - 1 - 6) = ((L - 1 - 6 : Nat) : Int) := (IntWalk.i64_in _ (by have := HL.out; omega)).trans (by have := HL.out; omega)
      have hcl := Hcell.out 6 (by omega)
      obtain ⟨q, hq⟩ : ∃ q, L - 1 - 6 = q := ⟨_, rfl⟩
      rw [hq] at hset hL1 hcl
      have hql : (q : Int) < (L : Int) := by have := HL.out; omega
      have Hset := Lib.hid hset
      obtain ⟨⟨v, hcv⟩, hfr⟩ := hcl
      have Hne := Lib.hid hq
      clear hset hq
      go_wp2
      have e1 : (n : Int) * 8 / 281474976710656 = ((n * 8 / 2 ^ (8 * 6) % 256 : Nat) : Int) := by
       rw [show 2 ^ (8 * 6) = 281474976710656 from rfl]
       omega
      rw [e1]
      go_roundw
      case rel => exact ⟨6 + 1, by omega, rfl, Hset.out, Hb.out.setCell (by dsimp only; omega) _⟩
      case measure => simp [intOf]
    · have hset := Hset.out 7 rfl
      have hw1 : IntKind.i64.wrap ((L : Int) - 1) = (L : Int) - 1 := IntWalk.i64_in _ (by have := HL.out; omega)
      have hL1 : IntKind.i64.wrap ((L : Int) - 1 - 7) = ((L - 1 - 7 : Nat) : Int) := (IntWalk.i64_in _ (by have := HL.out; omega)).trans (by have := HL.out; omega)
      have hcl := Hcell.out 7 (by omega)
      obtain ⟨q, hq⟩ : ∃ q, L - 1 - 7 = q := ⟨_, rfl⟩
      rw [hq] at hset hL1 hcl
      have hql : (q : Int) < (L : Int) := by have := HL.out; omega
      have Hset := Lib.hid hset
      obtain ⟨⟨v, hcv⟩, hfr⟩ := hcl
      have Hne := Lib.hid hq
      clear hset hq
      go_wp2
      have e1 : (n : Int) * 8 / 72057594037927936 = ((n * 8 / 2 ^ (8 * 7) % 256 : Nat) : Int) := by
       rw [show 2 ^ (8 * 7) = 72057594037927936 from rfl]
       omega
      rw [e1]
      go_roundw
      case rel => exact ⟨7 + 1, by omega, rfl, Hset.out, Hb.out.setCell (by dsimp only; omega) _⟩
      case measure => simp [intOf]
  · have h8' : ¬ (i : Int) < 8 := by omega
    have : i = 8 := by omega
    subst this
    have hr := Hr.out
    rw [Sha.padRow_all] at hr
    have Hr := Lib.hid hr
    clear hr
    go_wp2
    go_ret
    exact ⟨by rw [HL.out]; rfl, Hr.out, Hb.out⟩
end Go.Proofs.YtedmogacklbcmaaGreatDoor
