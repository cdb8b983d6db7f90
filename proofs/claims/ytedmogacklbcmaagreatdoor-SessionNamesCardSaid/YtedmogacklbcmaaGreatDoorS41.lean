/- Texts that the proofs share: HkRep, HkMac, HkExtract, HkExpand, HkKey, HkLit, HkAppFull. -/
import Derived.Test.YtedmogacklbcmaaGreatDoorS14
import Derived.Test.YtedmogacklbcmaaGreatDoorS17
import Derived.Test.YtedmogacklbcmaaGreatDoorS40
import Derived.Lib.MakeNoZero
import Derived.ArgAppend
import Derived.BigRegion
namespace Go.Proofs.YtedmogacklbcmaaGreatDoor
open Go.RowKit
theorem and1 : bits .and .u64 1 4294967295 = 1 := by decide
theorem and64 : bits .and .u64 64 4294967295 = 64 := by decide
theorem and0 : bits .and .u64 0 4294967295 = 0 := by decide
theorem mul64_any (w : World) : Calls Tryz.prog 126 #[.int .u64 1, .int .u64 64] w fun e w1 => e = .returned (.tuple #[.int .u64 0, .int .u64 64]) ∧ w = w1 := by
 have h1 := and1
 have h2 := and64
 have h3 := and0
 go_enter Tryz.func126, Tryz.ntmps126
 go_wp2
 refine bodyPost_ret (results_tmp2 rfl _ _ _) rfl ?_
 exact ⟨rfl, rfl⟩
theorem mul_any (w : World) : Calls Tryz.prog 121 #[.int .u64 1, .int .u64 64] w fun e w1 => e = .returned (.tuple #[.int .u64 0, .int .u64 64]) ∧ w = w1 := by
 go_enter Tryz.func121, Tryz.ntmps121
 go_wp2_with (first
  | (go_at_call 126; refine (mul64_any _).mono ?_; rintro e w1 ⟨rfl, rfl⟩)
  | fail)
 refine bodyPost_ret (results_tmp2 rfl _ _ _) rfl ?_
 exact ⟨rfl, rfl⟩
theorem splice_rep {α : Type} (v : α) (p : Nat) (R : List α) : splice (List.replicate p v ++ R) p (List.replicate p v) = List.replicate (p + p) v ++ R.drop p := by
 have e1 : (List.replicate p v ++ R).take p = List.replicate p v := by rw [List.take_append_of_le_length (by simp)]; simp
 have e2 : (List.replicate p v ++ R).drop (p + p) = R.drop p := by
  rw [List.drop_append, List.drop_of_length_le (by simp), List.nil_append, List.length_replicate]
  congr 1
  omega
 rw [splice, List.length_replicate, e1, e2, ← List.append_assoc, List.replicate_append_replicate]
set_option maxRecDepth 8000 in
set_option maxHeartbeats 1000000 in
theorem Rep_any (x : UInt8) (gb : Nat) (w : World) (hb : w.cell? ⟨gb, 0, none⟩ = some (bv x)) (hlt : gb < w.heap.size) :
 Calls Tryz.prog 114 #[.slice (some ⟨gb, 0, none⟩) 1 1, .int .i64 64] w fun e w' => ∃ g R, e = .returned (.slice (some ⟨g, 0, none⟩) 64 64) ∧ w.heap.size ≤ g ∧ Row w' g ((List.replicate 64 x).map bv ++ R) 5 ∧ Below w.heap.size w w' := by
 have Hb := Lib.hid hb
 have Hlt := Lib.hid hlt
 clear hb hlt
 obtain ⟨cs, hrunM, hle, _⟩ := Lib.run_makeNoZero (P := Tryz.prog) w #[3] 38 5 Tryz.underlying38 64 (by omega)
 have hcall : (callFunc 122 #[.int .i64 64]).run Tryz.prog w = .ok (.value (.slice (some ⟨w.heap.size, 0, none⟩) 64 cs.size)) ((w.alloc (.cells cs 5)).drewN 2) := by
  rw [run_callFunc_extern Tryz.func122 (by kernel_rfl) (by kernel_rfl) (by kernel_rfl) (e := Extern.BytealgMakeNoZero.makeNoZero #[3] #[38]) (by kernel_rfl), show (Value.int .i64 64) = .int .i64 ((64 : Nat) : Int) from rfl, hrunM]
  rfl
 have hcap : (64 : Int) ≤ (cs.size : Int) := by omega
 have Hle := Lib.hid hle
 have hsrc : ∀ (j : Nat) (v : Value), [bv x][j]? = some v → ((w.alloc (.cells cs 5)).drewN 2).cell? ((⟨gb, 0, none⟩ : Addr).add j) = some v := by
  intro j v hj
  cases j with
  | zero =>
    simp at hj
    subst hj
    rw [show (⟨gb, 0, none⟩ : Addr).add 0 = ⟨gb, 0, none⟩ by unfold Addr.add; split <;> simp_all]
    exact (World.cell?_alloc_lt w (.cells cs 5) ⟨gb, 0, none⟩ Hlt.out).trans Hb.out
  | succ j => simp at hj
 have Hsrc := Lib.hid hsrc
 have hrow0 : Row ((w.alloc (.cells cs 5)).drewN 2) w.heap.size cs.toList 5 := Row.drewN (Row.new rfl (by simp)) 2
 have Hrow0 := Lib.hid hrow0
 clear hrunM hle hsrc hrow0
 go_enter Tryz.func114, Tryz.ntmps114
 go_wp2_with (first
  | (go_at_call 121; refine (mul_any _).mono ?_; rintro e w1 ⟨rfl, rfl⟩)
  | (show wpList _ _ _ (⟨some 60, _, _, _, _, _⟩ :: _) _ _; go_loud (
     refine wpList_copy_keep rfl (.tmp 58) (.tmp 59) 38 38 rfl 5 (by kernel_rfl) (by kernel_rfl) rfl rfl Hrow0.out [bv x] (by rfl) Hsrc.out (by have := Hle.out; simp; omega) (by intro v hv; simp at hv; subst hv; rfl) ?_
     intro W hr hk
     have Hr := Lib.hid hr
     have Hk := Lib.hid hk
     clear hr hk))
  | fail)
 have hb0 : Below w.heap.size w W := Below.keep (((Below.refl _ w).alloc (Nat.le_refl _) (.cells cs 5)).drew.drew) Hk.out (by show w.heap.size ≤ (w.alloc _).heap.size; simp) (Nat.le_refl _)
 have hr0 : ∃ R, R.length + 1 = cs.size ∧ Row W w.heap.size ((List.replicate 1 x).map bv ++ R) 5 := by
  refine ⟨cs.toList.drop 1, by have := Hle.out; simp; omega, Hr.out.same ?_⟩
  simp [splice]
 obtain ⟨R0, hR0, hr0⟩ := hr0
 have Hb0 := Lib.hid hb0
 have Hr0 := Lib.hid hr0
 have HR0 := Lib.hid hR0
 clear hb0 hr0 hR0
 go_loopw [10] (fun pv wr => ∃ (p : Nat) (R : List Value), (p = 1 ∨ p = 2 ∨ p = 4 ∨ p = 8 ∨ p = 16 ∨ p = 32 ∨ p = 64) ∧ pv = .int .i64 (p : Int) ∧ R.length + p = cs.size ∧ Row wr w.heap.size ((List.replicate p x).map bv ++ R) 5 ∧ Below w.heap.size w wr) (fun pv _ => 64 - (intOf pv).toNat)
 case atStart => exact ⟨1, R0, by omega, rfl, HR0.out, Hr0.out, Hb0.out⟩
 case round =>
  obtain ⟨p, R, hp, rfl, hR, hr, hb⟩ := hrel
  have Hp := Lib.hid hp
  have HR := Lib.hid hR
  have Hr := Lib.hid hr
  have Hbl := Lib.hid hb
  clear hp hR hr hb
  by_cases h64 : p < 64
  · have h64' : (p : Int) < 64 := by omega
    have hpm : ¬ (64 : Int) < (p : Int) := by omega
    have hp0 : 0 < p := by have := Hp.out; omega
    have hne : ¬ (64 = p) := by omega
    have hwp : IntKind.i64.wrap ((p : Int) + (p : Int)) = (p : Int) + (p : Int) := IntWalk.i64_in _ (by omega)
    have hmin : min p (64 - p) = p := by have := Hp.out; omega
    have hmin' : Nat.min p (64 - p) = p := hmin
    have Hsrc2 : Hid (∀ (j : Nat) (v : Value), (List.replicate p (bv x))[j]? = some v → wr.drew.cell? ((⟨w.heap.size, 0, none⟩ : Addr).add j) = some v) := fun j v hj => by
     rw [show (⟨w.heap.size, 0, none⟩ : Addr).add j = ⟨w.heap.size, 0 + j, none⟩ by unfold Addr.add; split <;> simp_all, Nat.zero_add]
     refine Row.cell (w := wr.drew) Hr.out ?_
     have hlt : j < p := by have := (List.getElem?_eq_some_iff.1 hj).1; simpa using this
     rw [List.getElem?_append_left (by simpa using hlt), List.map_replicate]
     exact hj
    have Hfit : Hid (p + (List.replicate p (bv x)).length ≤ ((List.replicate p x).map bv ++ R).length) := by have h1 := HR.out; have h2 := Hle.out; have h3 := Hp.out; show p + _ ≤ _; simp; omega
    have Hlen : Hid ((List.replicate p (bv x)).length = Nat.min p (64 - p)) := by show _ = _; rw [hmin']; simp
    have Hone : Hid (∀ v ∈ List.replicate p (bv x), v.oneCell' = true) := fun v hv => by rw [List.eq_of_mem_replicate hv]; rfl
    clear hmin hmin'
    go_wp2_with fail
    go_region_law (refine step_copy_splice rfl (.tmp 70) (.tmp 73) 38 38 rfl 5 (by kernel_rfl) (by kernel_rfl) (some ⟨w.heap.size, p, none⟩) (some ⟨w.heap.size, 0, none⟩) (64 - p) (64 - p) p 64 (by simp [Act.eval, Act.put]) (by simp [Act.eval, Act.put]) w.heap.size p ((List.replicate p x).map bv ++ R) 5 Hr.out (List.replicate p (bv x)) Hlen.out (fun _ => ⟨rfl, _, rfl, Hsrc2.out⟩) Hfit.out Hone.out w.heap.size w Hbl.out.drew (Nat.le_refl _) ?_; intro w4 hg4 hb4)
    have Hg4 : Row w4 w.heap.size (splice ((List.replicate p x).map bv ++ R) p (List.replicate p (bv x))) 5 := hg4
    have Hb4 := Lib.hid hb4
    have hR4 : ∃ R2, R2.length + (p + p) = cs.size ∧ Row w4 w.heap.size ((List.replicate (p + p) x).map bv ++ R2) 5 := by
     refine ⟨R.drop p, ?_, Hg4.same ?_⟩
     · have h1 := HR.out
       have h2 := Hle.out
       have h3 := Hp.out
       rw [List.length_drop]
       omega
     · rw [List.map_replicate, List.map_replicate, splice_rep]
    have HR4 := Lib.hid hR4
    clear hg4 hb4 Hg4 hR4
    simp only [Act.put, List.getElem_toArray, List.getElem_cons_succ, List.getElem_cons_zero, List.setIfInBounds_toArray, List.set_cons_succ, List.set_cons_zero]
    go_wp2
    go_roundw
    case rel =>
     obtain ⟨R2, h1, h2⟩ := HR4.out
     exact ⟨p + p, R2, by have := Hp.out; omega, by simp, h1, h2, Hb4.out⟩
    case measure => simp [intOf]; omega
  · have h64' : ¬ (p : Int) < 64 := by omega
    have : p = 64 := by have := Hp.out; omega
    subst this
    go_wp2
    go_ret
    first
     | exact ⟨w.heap.size, rfl, Nat.le_refl _, ⟨R, Hr.out⟩, Hbl.out⟩
     | exact ⟨w.heap.size, R, rfl, Nat.le_refl _, Hr.out, Hbl.out⟩
end Go.Proofs.YtedmogacklbcmaaGreatDoor
namespace Go.Proofs.YtedmogacklbcmaaGreatDoor
open Go.RowKit
namespace Sha
def maskN (key : List UInt8) (m : UInt8) (i : Nat) : List UInt8 := (key.take i).map (m ^^^ ·) ++ List.replicate (64 - i) m
theorem maskN_length (key : List UInt8) (m : UInt8) (i : Nat) (h : i ≤ key.length) (hk : key.length ≤ 64) : (maskN key m i).length = 64 := by
 simp [maskN]
 omega
theorem maskN_at (key : List UInt8) (m : UInt8) (i : Nat) (h : i < key.length) (hk : key.length ≤ 64) : (maskN key m i).getD i 0 = m := by
 rw [List.getD_eq_getElem?_getD, maskN, List.getElem?_append_right (by simp; omega), List.getElem?_replicate, if_pos (by simp; omega)]
 rfl
theorem maskN_set (key : List UInt8) (m c : UInt8) (i : Nat) (hk : key.length ≤ 64) (hc : key[i]? = some c) : (maskN key m i).set i (m ^^^ c) = maskN key m (i + 1) := by
 have hi : i < key.length := (List.getElem?_eq_some_iff.1 hc).1
 have e1 : ((key.take i).map (m ^^^ ·)).length = i := by simp; omega
 have e2 : List.replicate (64 - i) m = m :: List.replicate (64 - (i + 1)) m := by rw [show 64 - i = (64 - (i + 1)) + 1 by omega, List.replicate_succ]
 unfold maskN
 rw [List.set_append_right _ _ (by omega), e1, Nat.sub_self, e2, List.set_cons_zero, List.take_add_one, hc]
 simp
theorem maskN_all (key : List UInt8) (m : UInt8) (_hk : key.length ≤ 64) : maskN key m key.length = masked key m := by
 unfold maskN masked
 rw [List.take_length, List.map_append, List.map_replicate]
 simp
end Sha
theorem w_xor8 (x y : UInt8) : bits .xor .u8 (x.toNat : Int) (y.toNat : Int) = ((x ^^^ y).toNat : Int) := by
 have h : ∀ a b : BitVec 8, bits .xor .u8 (a.toNat : Int) (b.toNat : Int) = ((a ^^^ b).toNat : Int) := by
  intro a b
  show IntKind.u8.wrap ((BitVec.ofInt 8 (a.toNat : Int) ^^^ BitVec.ofInt 8 (b.toNat : Int)).toNat : Int) = _
  simp only [BitVec.ofInt_natCast, BitVec.ofNat_toNat, BitVec.setWidth_eq]
  have h := (a ^^^ b).isLt
  obtain ⟨c, hc⟩ : ∃ c, (a ^^^ b).toNat = c := ⟨_, rfl⟩
  rw [hc] at h ⊢
  simp only [IntKind.wrap, IntKind.bits, IntKind.signed]
  simp
  omega
 exact h x.toBitVec y.toBitVec
set_option maxRecDepth 8000 in
set_option maxHeartbeats 1000000 in
theorem Masked_any (v : Value) (key : List UInt8) (m : UInt8) (w : World) (hb : Bs w w.heap.size v key) (hk : key.length ≤ 64) :
 Calls Tryz.prog 107 #[v, .int .u8 (m.toNat : Int)] w fun e w' => ∃ g, e = .returned (.slice (some ⟨g, 0, none⟩) 64 64) ∧ w.heap.size ≤ g ∧ (∃ R, Row w' g ((Sha.masked key m).map bv ++ R) 5) ∧ Below w.heap.size w w' := by
 have Hb := Lib.hid hb
 obtain ⟨A, c, rfl, hc, hcs⟩ := hb
 have Hcs := Lib.hid hcs
 clear hc hcs
 go_enter Tryz.func107, Tryz.ntmps107
 go_wp2_with fail
 have hc0 : (w.alloc (.cells #[.int .u8 (m.toNat : Int)] 5)).cell? ⟨w.heap.size, 0, none⟩ = some (bv m) := Row.cell (cs := [bv m]) (t := 5) (Row.new rfl rfl) rfl
 refine (Rep_any m w.heap.size (w.alloc (.cells #[.int .u8 (m.toNat : Int)] 5)) hc0 (by simp)).mono ?_
 rintro e w2 ⟨g, R, rfl, hg2, hr2, hb2⟩
 have hsz : (w.alloc (.cells #[.int .u8 (m.toNat : Int)] 5)).heap.size = w.heap.size + 1 := by simp
 have hbw : Below w.heap.size w w2 := nextB ((Below.refl w.heap.size w).alloc (Nat.le_refl _) (.cells #[.int .u8 (m.toNat : Int)] 5)) (Nat.le_refl _) hb2
 rw [hsz] at hg2
 have hr0 : Row w2 g ((Sha.maskN key m 0).map bv ++ R) 5 := by simpa [Sha.maskN] using hr2
 have Hr0 := Lib.hid hr0
 have Hg2 := Lib.hid hg2
 have Hbw := Lib.hid hbw
 clear hb2 hsz hbw hr0 hr2 hg2 hc0
 go_wp2_with fail
 go_loopw [13] (fun iv wr => ∃ i : Nat, i ≤ key.length ∧ iv = .int .i64 (i : Int) ∧ Row wr g ((Sha.maskN key m i).map bv ++ R) 5 ∧ Below w.heap.size w wr) (fun iv _ => key.length - (intOf iv).toNat)
 case atStart => exact ⟨0, Nat.zero_le _, rfl, Hr0.out, Hbw.out⟩
 case round =>
  obtain ⟨i, hi, rfl, hr, hb⟩ := hrel
  have Hr := Lib.hid hr
  have Hbw := Lib.hid hb
  have Hl := Lib.hid (Sha.maskN_length key m i hi hk)
  clear hr hb
  by_cases h1 : i < key.length
  · have h1' : (i : Int) < (key.length : Int) := by omega
    have h64 : (i : Int) < 64 := by omega
    obtain ⟨c0, hc0⟩ : ∃ c0, key[i]? = some c0 := ⟨_, List.getElem?_eq_getElem h1⟩
    obtain ⟨b, off, rfl, hlt, hcell⟩ := Hcs.out (by intro h; subst h; simp at h1)
    have hcell0 : wr.cell? ⟨b, off + i, none⟩ = some (.int .u8 (c0.toNat : Int)) := (Hbw.out.cell (p := ⟨b, off + i, none⟩) hlt).trans (hcell i c0 hc0)
    have hcell1 : wr.cell? ⟨g, i, none⟩ = some (.int .u8 (m.toNat : Int)) := by
     refine Hr.out.cell ?_
     rw [List.getElem?_append_left (by rw [List.length_map, Hl.out]; omega), hgetD_cell _ i (by rw [Hl.out]; omega), Sha.maskN_at key m i h1 hk]
     rfl
    have hfr := frozen_row Hr.out i
    have hx := w_xor8 m c0
    have hset := Hr.out.set i (bv (m ^^^ c0))
    rw [List.set_append_left _ _ (by rw [List.length_map, Hl.out]; omega), ← List.map_set, Sha.maskN_set key m c0 i hk hc0] at hset
    have Hset := Lib.hid hset
    clear hset hcell hc0
    go_wp2
    go_roundw
    case rel => exact ⟨i + 1, h1, by simp, Hset.out, Hbw.out.setCell (by have := Hg2.out; dsimp only; omega) _⟩
    case measure => simp [intOf]; omega
  · have h1' : ¬ (i : Int) < (key.length : Int) := by omega
    have : i = key.length := by omega
    subst this
    have hr := Hr.out
    rw [Sha.maskN_all key m hk] at hr
    have Hr := Lib.hid hr
    clear hr
    go_wp2
    go_ret
    exact ⟨g, rfl, by have := Hg2.out; omega, ⟨R, Hr.out⟩, Hbw.out⟩
theorem bs_row {w : World} {g n : Nat} {l : List UInt8} {R : List Value} (h : Row w g (l.map bv ++ R) 5) (hl : l.length = n) : Bs w w.heap.size (.slice (some ⟨g, 0, none⟩) n n) l := by
 subst hl
 exact ⟨_, _, rfl, Nat.le_refl _, fun _ => ⟨g, 0, rfl, h.lt, fun i u hu => h.cell (by rw [Nat.zero_add, List.getElem?_append_left (by rw [List.length_map]; exact (List.getElem?_eq_some_iff.1 hu).1), List.getElem?_map, hu]; rfl)⟩⟩
theorem grew_bs {w w' : World} {v : Value} {l : List UInt8} (h : Bs w w.heap.size v l) (hg : Grew w.drew w') : Bs w' w'.heap.size v l :=
 (Bs.below (w := w.drew) h hg).more hg.size
def rdM (l : List UInt8) (n : Nat) : By.Mark Grew := ⟨fun v w => ∃ g, v = .slice (some ⟨g, 0, none⟩) n n ∧ Bs w w.heap.size v l, fun _ _ _ h k => by
 obtain ⟨g, h1, h2⟩ := h
 exact ⟨g, h1, (h2.below k).more k.size⟩⟩
def rdL (ls : List (List UInt8)) (n : Nat) : By.Mark Grew := ⟨fun v w => ∃ g, v = .slice (some ⟨g, 0, none⟩) n n ∧ Bss w w.heap.size v ls, fun _ _ _ h k => by
 obtain ⟨g, h1, h2⟩ := h
 exact ⟨g, h1, (h2.below k).more' k.size⟩⟩
theorem calls_in {P : Program} {f : FuncId} {args : Array Value} {w W : World} {Q : Ending → World → Prop} (h : w = W) (hk : Calls P f args W Q) : Calls P f args w Q := h ▸ hk
theorem Masked_at (v : Value) (key : List UInt8) (m : UInt8) (z : Int) (hz : z = (m.toNat : Int)) (w : World) (hb : Bs w w.heap.size v key) (hk : key.length ≤ 64) :
 Calls Tryz.prog 107 #[v, .int .u8 z] w fun e w' => ∃ g, e = .returned (.slice (some ⟨g, 0, none⟩) 64 64) ∧ w.heap.size ≤ g ∧ (∃ R, Row w' g ((Sha.masked key m).map bv ++ R) 5) ∧ Below w.heap.size w w' := by
 subst hz
 exact Masked_any v key m w hb hk
theorem bss_lt {w : World} {B : Nat} {v : Value} {ls : List (List UInt8)} {us : List Value} (h : Bss w B v ls) (hl : us.length = ls.length) : ∀ b off c, v = .slice (some ⟨b, off, none⟩) us.length c → us ≠ [] → b < B := by
 intro b off c e hne
 obtain ⟨A, c', rfl, _, hcs⟩ := h
 have hl0 : ls ≠ [] := by intro h; subst h; exact hne (List.eq_nil_of_length_eq_zero hl)
 obtain ⟨b', off', rfl, hlt, _⟩ := hcs hl0
 simp only [Value.slice.injEq, Option.some.injEq, Addr.mk.injEq] at e
 omega
set_option maxRecDepth 8000 in
set_option maxHeartbeats 1000000 in
theorem Mac_any (v lv : Value) (key : List UInt8) (ls : List (List UInt8)) (w : World) (ht : Tab w) (hk : Bs w w.heap.size v key) (hkl : key.length ≤ 1000000000) (hb : Bss w w.heap.size lv ls) (hn : ls.length ≤ 50000) (hm : ∀ l ∈ ls, l.length ≤ 1000000000) (hf : ls.flatten.length ≤ 100000000000) :
 Calls Tryz.prog 90 #[v, lv] w fun e w' => e = .returned (arr8 (Sha.mac key ls.flatten)) ∧ Below w.heap.size w w' := by
 have Ht := Lib.hid ht
 have Hk := Lib.hid hk
 have Hls := Lib.hid hb
 have Hm := Lib.hid hm
 have Hf := Lib.hid hf
 obtain ⟨A, c, rfl, _, _⟩ := hk
 clear ht hb hm hf
 have HR0 := Lib.hid (show Row (w.alloc (.cells ((List.replicate 32 (0 : UInt8)).map bv).toArray 23)) w.heap.size ((List.replicate 32 (0 : UInt8)).map bv) 23 from Row.new rfl rfl)
 have HB0 := Lib.hid ((Below.refl w.heap.size w).alloc (Nat.le_refl _) (.cells ((List.replicate 32 (0 : UInt8)).map bv).toArray 23))
 have HK0 := Lib.hid (((Hk.out.alloc (Nat.le_refl _) (.cells ((List.replicate 32 (0 : UInt8)).map bv).toArray 23))).more (B' := (w.alloc (.cells ((List.replicate 32 (0 : UInt8)).map bv).toArray 23)).heap.size) (by simp))
 by_cases h64 : 64 < key.length
 · have h64' : (64 : Int) < (key.length : Int) := by omega
   have hsh : Sha.short key = Sha.sum key := by rw [Sha.short, if_pos h64]
   have Hsh := Lib.hid hsh
   clear hsh
   go_enter Tryz.func90, Tryz.ntmps90
   go_wp2_with fail
   obtain ⟨W0, hW0⟩ : ∃ W0, w.alloc (.cells ((List.replicate 32 (0 : UInt8)).map bv).toArray 23) = W0 := ⟨_, rfl⟩
   rw [hW0] at HK0 HR0 HB0
   have hss0 := bss_new (n := 1) (ls := [key]) (vs := [.slice A key.length c]) (w := W0) rfl rfl (.one HK0.out)
   have htab0 : Tab (W0.alloc (.cells #[.slice A key.length c] 38)) := (Ht.out.below HB0.out Ht.out.1).below ((Below.refl W0.heap.size W0).alloc (Nat.le_refl _) _) (by have := Ht.out.1; have := HB0.out.size; omega)
   have hsum0 := Sum_any _ [key] (W0.alloc (.cells #[.slice A key.length c] 38)) htab0 hss0 (by simp) (by intro l hl; simp at hl; subst hl; exact hkl) (by simp; omega)
   have hWa : (w.alloc (.cells ((List.replicate 32 (0 : UInt8)).map bv).toArray 23)).alloc (.cells #[.slice A key.length c] 38) = W0.alloc (.cells #[.slice A key.length c] 38) := by rw [hW0]
   refine calls_in hWa ?_
   clear hWa
   have hszW : w.heap.size + 1 = W0.heap.size := by rw [← hW0]; simp
   rw [← hszW] at hsum0
   refine hsum0.mono ?_
   rintro e w1 ⟨rfl, hb1⟩
   have hb01 : Below w.heap.size w w1 := nextB (nextB HB0.out (Nat.le_refl _) ((Below.refl W0.heap.size W0).alloc (Nat.le_refl _) (.cells #[.slice A key.length c] 38))) (Nat.le_refl _) hb1
   have hr01 := (HR0.out.alloc (.cells #[.slice A key.length c] 38)).below hb1 (HR0.out.alloc (.cells #[.slice A key.length c] 38)).lt
   have HB1 := Lib.hid hb01
   have HR1 := Lib.hid hr01
   clear hb1 hb01 hr01 hsum0 hss0 htab0 hszW
   rw [show [key].flatten = key by simp]
   obtain ⟨K, hK⟩ : ∃ K, Sha.sum key = K := ⟨_, rfl⟩
   have hKl : K.length = 32 := by rw [← hK]; exact Sha.sum_length _
   rw [hK]
   have HKe := Lib.hid (show Sha.short key = K by rw [Hsh.out, hK])
   have HK32 := Lib.hid hKl
   have HKm := Lib.hid (show (K.map bv).length = 32 by rw [List.length_map]; exact hKl)
   have HKl := Lib.hid (show K.length ≤ 64 by omega)
   clear hK hKl hW0
   unfold arr8
   go_wp2_with (first
    | (show wpList _ _ _ (⟨none, Op.store 23 _ _, _, _, _, _⟩ :: _) _ _; refine wpList_storeRow (g := w1.heap.size) rfl 23 _ _ rfl rfl rfl (cs := K.map bv) (old := (List.replicate 32 (0 : UInt8)).map bv) (Row.new rfl rfl) (by kernel_rfl) HKm.out (by simp) (hbytes_one K) ?_)
    | fail)
   have hr5 : Row ((w1.alloc (.cells ((List.replicate 32 (0 : UInt8)).map bv).toArray 23)).setRow w1.heap.size (K.map bv).toArray) w1.heap.size (K.map bv) 23 := (Row.new (cs := (List.replicate 32 (0 : UInt8)).map bv) rfl rfl).setRow (K.map bv)
   have hb5 : Below w1.heap.size w1 ((w1.alloc (.cells ((List.replicate 32 (0 : UInt8)).map bv).toArray 23)).setRow w1.heap.size (K.map bv).toArray) := below_setRow ((Below.refl w1.heap.size w1).alloc (Nat.le_refl _) _) (Nat.le_refl _) _
   obtain ⟨W, hW⟩ : ∃ W, (w1.alloc (.cells ((List.replicate 32 (0 : UInt8)).map bv).toArray 23)).setRow w1.heap.size (K.map bv).toArray = W := ⟨_, rfl⟩
   rw [hW] at hr5 hb5
   have HB := Lib.hid (nextB HB1.out (Nat.le_refl _) hb5)
   have HR := Lib.hid (HR1.out.below hb5 HR1.out.lt)
   have hkb : Bs W W.heap.size (.slice (some ⟨w1.heap.size, 0, none⟩) 32 32) K := by
    have h1 := hr5.bs (B := W.heap.size) hr5.lt
    rwa [HK32.out] at h1
   obtain ⟨kv, hkv⟩ : ∃ kv, Value.slice (some ⟨w1.heap.size, 0, none⟩) 32 32 = kv := ⟨_, rfl⟩
   rw [hkv] at hkb ⊢
   have HK := Lib.hid hkb
   clear hr5 hb5 hkb hkv
   have hkK := HKl.out
   refine calls_in hW ?_
   clear hW
   refine (Masked_at kv K 0x36 54 rfl W HK.out hkK).mono ?_
   rintro e w1 ⟨g1, rfl, hg1, hr1, hb1⟩
   obtain ⟨R1, hr1⟩ := hr1
   have hm1 : Bs w1 w1.heap.size (.slice (some ⟨g1, 0, none⟩) 64 64) (Sha.masked K 0x36) := bs_row hr1 (Sha.masked_length _ _ hkK)
   have HB1 := Lib.hid (nextB HB.out (Nat.le_refl _) hb1)
   have HR1 := Lib.hid (HR.out.below hb1 HR.out.lt)
   have HK1 := Lib.hid ((HK.out.below hb1).more hb1.size)
   have HM1 := Lib.hid hm1
   have Hls1 := Lib.hid (Hls.out.below HB1.out)
   clear hg1 hr1 hb1 hm1
   obtain ⟨us, hvals, hreads⟩ := bss_vals Hls1.out
   have hsz1 : w.heap.size ≤ w1.heap.size := HB1.out.size
   have hvals1 : Vals (w1.alloc (.cells #[.slice (some ⟨g1, 0, none⟩) 64 64] 38)) lv us := hvals.grown (B := w.heap.size) (bss_lt Hls1.out hreads.1) ((Below.refl w.heap.size w1).alloc hsz1 _)
   have Hvals1 := Lib.hid hvals1
   have Hone := Lib.hid hreads.one_cell
   have Hul := Lib.hid (show us.length = ls.length from hreads.1)
   have Hreads := Lib.hid hreads
   clear hvals hvals1 hreads
   go_wp2_with (first
    | (show wpList _ _ _ (⟨some 18, _, _, _, _, _⟩ :: _) _ _
       refine wpList_app_lists (w1.alloc (.cells #[.slice (some ⟨g1, 0, none⟩) 64 64] 38)) rfl _ _ rfl rfl rfl (ownVs_new w1 _) Hvals1.out Hone.out (by rw [Hul.out]; simp; omega) (by simp) ?_
       intro v2 w2 hown2 hg2
       have hbg : Below w1.heap.size w1 w2 := ((Below.refl w1.heap.size w1).alloc (Nat.le_refl _) (.cells #[.slice (some ⟨g1, 0, none⟩) 64 64] 38)).grown hg2 (by simp) (fun k hk => by have hk' : some w1.heap.size = some k := hk; injection hk' with hk'; omega)
       have hrd2 : Reads w2 w2.heap.size ([.slice (some ⟨g1, 0, none⟩) 64 64] ++ us) ([Sha.masked K 0x36] ++ ls) :=
        Reads.append (.one ((HM1.out.below hbg).more hbg.size)) ((Hreads.out.below (hbg.mono hsz1)).more (Nat.le_trans hsz1 hbg.size))
       have Hss2 := Lib.hid (bss_own hown2 hrd2)
       have HB2 := Lib.hid (nextB HB1.out (Nat.le_refl _) hbg)
       have HR2 := Lib.hid (HR1.out.below hbg HR1.out.lt)
       have HK2 := Lib.hid ((HK1.out.below hbg).more hbg.size)
       clear hown2 hg2 hbg hrd2)
    | fail)
   refine (Sum_any v2 ([Sha.masked K 0x36] ++ ls) w2 (Ht.out.below HB2.out Ht.out.1) Hss2.out (by simp; omega) (by
    intro l hl
    rcases List.mem_append.1 hl with h | h
    · rw [List.mem_singleton] at h; subst h; rw [Sha.masked_length _ _ hkK]; omega
    · exact Hm.out l h) (by rw [List.flatten_append, List.length_append]; simp only [List.flatten_cons, List.flatten_nil, List.append_nil]; rw [Sha.masked_length _ _ hkK]; have := Hf.out; omega)).mono ?_
   rintro e w3 ⟨rfl, hb3⟩
   have hfl : ([Sha.masked K 0x36] ++ ls).flatten = Sha.masked K 0x36 ++ ls.flatten := by simp
   rw [hfl]
   obtain ⟨I, hI⟩ : ∃ I, Sha.sum (Sha.masked K 0x36 ++ ls.flatten) = I := ⟨_, rfl⟩
   have hIl : I.length = 32 := by rw [← hI]; exact Sha.sum_length _
   rw [hI]
   have hsz2 : w.heap.size ≤ w2.heap.size := HB2.out.size
   have HB3 := Lib.hid (nextB HB2.out (Nat.le_refl _) hb3)
   have HR3 := Lib.hid (HR2.out.below hb3 HR2.out.lt)
   have HK3 := Lib.hid ((HK2.out.below hb3).more hb3.size)
   have HI := Lib.hid hI
   have HIl := Lib.hid (show (I.map bv).length = 32 by rw [List.length_map]; exact hIl)
   have HIn := Lib.hid hIl
   clear hb3 hfl hI hIl
   unfold arr8
   go_wp2_with (first
    | (show wpList _ _ _ (⟨none, Op.store 23 _ _, _, _, _, _⟩ :: _) _ _; refine wpList_storeRow (g := w3.heap.size) rfl 23 _ _ rfl rfl rfl (cs := I.map bv) (old := (List.replicate 32 (0 : UInt8)).map bv) (Row.new rfl rfl) (by kernel_rfl) HIl.out (by simp) (hbytes_one I) ?_)
    | fail)
   have hr6 : Row ((w3.alloc (.cells ((List.replicate 32 (0 : UInt8)).map bv).toArray 23)).setRow w3.heap.size (I.map bv).toArray) w3.heap.size (I.map bv) 23 := (Row.new (cs := (List.replicate 32 (0 : UInt8)).map bv) rfl rfl).setRow (I.map bv)
   have hb36 : Below w3.heap.size w3 ((w3.alloc (.cells ((List.replicate 32 (0 : UInt8)).map bv).toArray 23)).setRow w3.heap.size (I.map bv).toArray) := below_setRow ((Below.refl w3.heap.size w3).alloc (Nat.le_refl _) _) (Nat.le_refl _) _
   obtain ⟨V, hV⟩ : ∃ V, (w3.alloc (.cells ((List.replicate 32 (0 : UInt8)).map bv).toArray 23)).setRow w3.heap.size (I.map bv).toArray = V := ⟨_, rfl⟩
   refine code_world hV ?_
   rw [hV] at hr6 hb36
   obtain ⟨g6, hg6⟩ : ∃ g6, w3.heap.size = g6 := ⟨_, rfl⟩
   rw [hg6] at hr6 ⊢
   have HR6 := Lib.hid hr6
   have HRV := Lib.hid (HR3.out.below hb36 HR3.out.lt)
   have HBV := Lib.hid (nextB HB3.out (Nat.le_refl _) hb36)
   have HKV := Lib.hid ((HK3.out.below hb36).more hb36.size)
   have hgw : w.heap.size < g6 := by rw [← hg6]; exact HR3.out.lt
   clear hr6 hb36 hV hg6
   have HTV := Lib.hid (Ht.out.below HBV.out Ht.out.1)
   have hI6 : ∀ w', Grew V.drew w' → Bs w' w'.heap.size (.slice (some ⟨g6, 0, none⟩) 32 32) I := by
    intro w' hw'
    have hr6 := Row.below (w := V.drew) HR6.out hw' HR6.out.lt
    have h1 := hr6.bs (B := w'.heap.size) hr6.lt
    rwa [HIn.out] at h1
   have HI6 := Lib.hid hI6
   have HM2 : Hid (∀ l ∈ [Sha.masked K 0x5c, I], l.length ≤ 1000000000) := by
    intro l hl
    simp only [List.mem_cons, List.not_mem_nil, or_false] at hl
    rcases hl with rfl | rfl
    · rw [Sha.masked_length _ _ hkK]; omega
    · rw [HIn.out]; omega
   have HF2 : Hid ([Sha.masked K 0x5c, I].flatten.length ≤ 1000000000000) := by
    show _ ≤ _
    simp only [List.flatten_cons, List.flatten_nil, List.append_nil, List.length_append]
    rw [Sha.masked_length _ _ hkK, HIn.out]
    omega
   clear hI6
   obtain ⟨O, hO⟩ : ∃ O, Sha.sum [Sha.masked K 0x5c, I].flatten = O := ⟨_, rfl⟩
   have hmac : Sha.mac key ls.flatten = O := by
    rw [← hO, Sha.mac, HKe.out, HI.out]
    simp
   have hOl : O.length = 32 := by rw [← hO]; exact Sha.sum_length _
   have HO := Lib.hid hO
   have Hmac := Lib.hid hmac
   have HOm := Lib.hid (show (O.map bv).length = 32 by rw [List.length_map]; exact hOl)
   clear hO hmac hOl
   refine Tail.marksAt Pol.mixed 5 Grew [By.is kv,
    rdM (Sha.masked K 0x5c) 64,
    By.is (.slice (some ⟨g6, 0, none⟩) 32 32),
    rdL [Sha.masked K 0x5c, I] 2,
    By.is (arr8 O)]
    (Ev.masks _ []) (Nat.zero_lt_succ _) (by kernel_rfl) (by kernel_rfl) rfl Grew.refl Grew.trans ⟨?_, ?_, ?_, ?_, ?_, trivial⟩ ?_
   · intro a w ht hs hg
     have h0 := By.same_get hs 0 (by decide) (by kernel_rfl)
     refine By.yes rfl ?_
     clear hs hg
     go_simp
     exact ⟨_, rfl, Grew.refl _, rfl⟩
   · intro a w ht hs hg
     have h20 : a.tmps.getD 20 undef = _ := By.given_get hg 0 rfl rfl (by kernel_rfl)
     refine By.yes rfl ?_
     clear hs hg
     have hkw := Lib.hid (grew_bs HKV.out ht)
     clear ht
     go_simp
     refine (Masked_at kv K 0x5c 92 rfl w hkw.out hkK).mono ?_
     rintro e w7 ⟨g7, rfl, hg7, hr7, hb7⟩
     obtain ⟨R7, hr7⟩ := hr7
     exact ⟨_, rfl, hb7, g7, rfl, bs_row hr7 (Sha.masked_length _ _ hkK)⟩
   · intro a w ht hs hg
     have h6 := By.same_get hs 6 (by decide) (by kernel_rfl)
     refine By.yes rfl ?_
     clear hs hg
     go_simp
     exact ⟨_, rfl, Grew.refl _, rfl⟩
   · intro a w ht hs hg
     have h21 := By.given_get hg 1 rfl rfl (by kernel_rfl)
     have h22 : a.tmps.getD 22 undef = _ := By.given_get hg 2 rfl rfl (by kernel_rfl)
     refine By.yes rfl ?_
     obtain ⟨v21, hv21⟩ : ∃ v, a.tmps.getD 21 undef = v := ⟨_, rfl⟩
     replace h21 := (congrArg (fun v => (rdM (Sha.masked K 0x5c) 64).on v w) hv21).mp h21
     clear hs hg
     have hi6 := Lib.hid (HI6.out w ht)
     clear ht
     obtain ⟨g7, rfl, hm7⟩ := h21
     have Hm7 := Lib.hid hm7
     clear hm7
     rw [Array.getD_eq_getD_getElem?] at hv21 h22
     go_simp
     exact ⟨_, rfl, (Below.refl _ w).alloc (Nat.le_refl _) _, w.heap.size, rfl, bss_new (n := 2) (ls := [Sha.masked K 0x5c, I]) (vs := [.slice (some ⟨g7, 0, none⟩) 64 64, .slice (some ⟨g6, 0, none⟩) 32 32]) (w := w) rfl rfl (Reads.append (.one Hm7.out) (.one hi6.out))⟩
   · intro a w ht hs hg
     have h23 := By.given_get hg 3 rfl rfl (by kernel_rfl)
     refine By.yes rfl ?_
     obtain ⟨v23, hv23⟩ : ∃ v, a.tmps.getD 23 undef = v := ⟨_, rfl⟩
     replace h23 := (congrArg (fun v => (rdL [Sha.masked K 0x5c, I] 2).on v w) hv23).mp h23
     clear hs hg
     have htab := Lib.hid (HTV.out.below (show Below V.heap.size V w from ⟨ht.os, ht.tape, ht.output, ht.size, ht.block⟩) HTV.out.1)
     clear ht
     obtain ⟨g8, rfl, hs8⟩ := h23
     have Hs8 := Lib.hid hs8
     clear hs8
     go_simp
     refine (Sum_any _ [Sha.masked K 0x5c, I] w htab.out Hs8.out (by simp) HM2.out HF2.out).mono ?_
     rintro e w8 ⟨rfl, hb8⟩
     exact ⟨_, rfl, hb8, congrArg arr8 HO.out⟩
   refine By.ends_is (By.ends_skip fun v21 => (By.ends_is (By.ends_skip fun v23 => (By.ends_is (By.ends_nil fun w9 hw9 => ?_)))))
   simp only [Act.put, List.setIfInBounds_toArray, List.set_cons_succ, List.set_cons_zero]
   simp only [List.drop_succ_cons, List.drop_zero]
   have hr9 := Lib.hid (Row.below (w := V.drew) HRV.out hw9 HRV.out.lt)
   have hb9 : Below w.heap.size w w9 := nextB HBV.out (Nat.le_refl _) (show Below V.heap.size V w9 from ⟨hw9.os, hw9.tape, hw9.output, hw9.size, hw9.block⟩)
   have HB9 := Lib.hid hb9
   clear hb9 hw9
   unfold arr8
   go_wp2_with (first
    | (show wpList _ _ _ (⟨none, Op.store 23 _ _, _, _, _, _⟩ :: _) _ _; refine wpList_storeRow (g := w.heap.size) rfl 23 _ _ rfl rfl rfl (cs := O.map bv) hr9.out (by kernel_rfl) HOm.out (by simp) (hbytes_one O) ?_)
    | fail)
   refine bodyPost_ret (results_row rfl _ rfl (hr9.out.setRow (O.map bv)) Tryz.underlying23 rfl (by kernel_rfl) HOm.out) rfl ?_
   exact ⟨by rw [Hmac.out]; rfl, below_setRow HB9.out (Nat.le_refl _) _⟩
 · have h64' : ¬ (64 : Int) < (key.length : Int) := by omega
   have hsh : Sha.short key = key := by rw [Sha.short, if_neg h64]
   go_enter Tryz.func90, Tryz.ntmps90
   go_wp2_with fail
   obtain ⟨kv, hkv⟩ : ∃ kv, Value.slice A key.length c = kv := ⟨_, rfl⟩
   obtain ⟨W, hW⟩ : ∃ W, w.alloc (.cells ((List.replicate 32 (0 : UInt8)).map bv).toArray 23) = W := ⟨_, rfl⟩
   have HK := HK0
   have HB := HB0
   have HR := HR0
   rw [hW, hkv] at HK
   rw [← hsh] at HK
   rw [hW] at HB HR
   have HKl := Lib.hid (show (Sha.short key).length ≤ 64 by rw [hsh]; omega)
   rw [hkv]
   obtain ⟨K, hKe⟩ : ∃ K, Sha.short key = K := ⟨_, rfl⟩
   rw [hKe] at HK HKl
   have HKe := Lib.hid hKe
   clear hsh hKe
   have hkK := HKl.out
   refine calls_in hW ?_
   clear hW
   refine (Masked_at kv K 0x36 54 rfl W HK.out hkK).mono ?_
   rintro e w1 ⟨g1, rfl, hg1, hr1, hb1⟩
   obtain ⟨R1, hr1⟩ := hr1
   have hm1 : Bs w1 w1.heap.size (.slice (some ⟨g1, 0, none⟩) 64 64) (Sha.masked K 0x36) := bs_row hr1 (Sha.masked_length _ _ hkK)
   have HB1 := Lib.hid (nextB HB.out (Nat.le_refl _) hb1)
   have HR1 := Lib.hid (HR.out.below hb1 HR.out.lt)
   have HK1 := Lib.hid ((HK.out.below hb1).more hb1.size)
   have HM1 := Lib.hid hm1
   have Hls1 := Lib.hid (Hls.out.below HB1.out)
   clear hg1 hr1 hb1 hm1
   obtain ⟨us, hvals, hreads⟩ := bss_vals Hls1.out
   have hsz1 : w.heap.size ≤ w1.heap.size := HB1.out.size
   have hvals1 : Vals (w1.alloc (.cells #[.slice (some ⟨g1, 0, none⟩) 64 64] 38)) lv us := hvals.grown (B := w.heap.size) (bss_lt Hls1.out hreads.1) ((Below.refl w.heap.size w1).alloc hsz1 _)
   have Hvals1 := Lib.hid hvals1
   have Hone := Lib.hid hreads.one_cell
   have Hul := Lib.hid (show us.length = ls.length from hreads.1)
   have Hreads := Lib.hid hreads
   clear hvals hvals1 hreads
   go_wp2_with (first
    | (show wpList _ _ _ (⟨some 18, _, _, _, _, _⟩ :: _) _ _
       refine wpList_app_lists (w1.alloc (.cells #[.slice (some ⟨g1, 0, none⟩) 64 64] 38)) rfl _ _ rfl rfl rfl (ownVs_new w1 _) Hvals1.out Hone.out (by rw [Hul.out]; simp; omega) (by simp) ?_
       intro v2 w2 hown2 hg2
       have hbg : Below w1.heap.size w1 w2 := ((Below.refl w1.heap.size w1).alloc (Nat.le_refl _) (.cells #[.slice (some ⟨g1, 0, none⟩) 64 64] 38)).grown hg2 (by simp) (fun k hk => by have hk' : some w1.heap.size = some k := hk; injection hk' with hk'; omega)
       have hrd2 : Reads w2 w2.heap.size ([.slice (some ⟨g1, 0, none⟩) 64 64] ++ us) ([Sha.masked K 0x36] ++ ls) :=
        Reads.append (.one ((HM1.out.below hbg).more hbg.size)) ((Hreads.out.below (hbg.mono hsz1)).more (Nat.le_trans hsz1 hbg.size))
       have Hss2 := Lib.hid (bss_own hown2 hrd2)
       have HB2 := Lib.hid (nextB HB1.out (Nat.le_refl _) hbg)
       have HR2 := Lib.hid (HR1.out.below hbg HR1.out.lt)
       have HK2 := Lib.hid ((HK1.out.below hbg).more hbg.size)
       clear hown2 hg2 hbg hrd2)
    | fail)
   refine (Sum_any v2 ([Sha.masked K 0x36] ++ ls) w2 (Ht.out.below HB2.out Ht.out.1) Hss2.out (by simp; omega) (by
    intro l hl
    rcases List.mem_append.1 hl with h | h
    · rw [List.mem_singleton] at h; subst h; rw [Sha.masked_length _ _ hkK]; omega
    · exact Hm.out l h) (by rw [List.flatten_append, List.length_append]; simp only [List.flatten_cons, List.flatten_nil, List.append_nil]; rw [Sha.masked_length _ _ hkK]; have := Hf.out; omega)).mono ?_
   rintro e w3 ⟨rfl, hb3⟩
   have hfl : ([Sha.masked K 0x36] ++ ls).flatten = Sha.masked K 0x36 ++ ls.flatten := by simp
   rw [hfl]
   obtain ⟨I, hI⟩ : ∃ I, Sha.sum (Sha.masked K 0x36 ++ ls.flatten) = I := ⟨_, rfl⟩
   have hIl : I.length = 32 := by rw [← hI]; exact Sha.sum_length _
   rw [hI]
   have hsz2 : w.heap.size ≤ w2.heap.size := HB2.out.size
   have HB3 := Lib.hid (nextB HB2.out (Nat.le_refl _) hb3)
   have HR3 := Lib.hid (HR2.out.below hb3 HR2.out.lt)
   have HK3 := Lib.hid ((HK2.out.below hb3).more hb3.size)
   have HI := Lib.hid hI
   have HIl := Lib.hid (show (I.map bv).length = 32 by rw [List.length_map]; exact hIl)
   have HIn := Lib.hid hIl
   clear hb3 hfl hI hIl
   unfold arr8
   go_wp2_with (first
    | (show wpList _ _ _ (⟨none, Op.store 23 _ _, _, _, _, _⟩ :: _) _ _; refine wpList_storeRow (g := w3.heap.size) rfl 23 _ _ rfl rfl rfl (cs := I.map bv) (old := (List.replicate 32 (0 : UInt8)).map bv) (Row.new rfl rfl) (by kernel_rfl) HIl.out (by simp) (hbytes_one I) ?_)
    | fail)
   have hr6 : Row ((w3.alloc (.cells ((List.replicate 32 (0 : UInt8)).map bv).toArray 23)).setRow w3.heap.size (I.map bv).toArray) w3.heap.size (I.map bv) 23 := (Row.new (cs := (List.replicate 32 (0 : UInt8)).map bv) rfl rfl).setRow (I.map bv)
   have hb36 : Below w3.heap.size w3 ((w3.alloc (.cells ((List.replicate 32 (0 : UInt8)).map bv).toArray 23)).setRow w3.heap.size (I.map bv).toArray) := below_setRow ((Below.refl w3.heap.size w3).alloc (Nat.le_refl _) _) (Nat.le_refl _) _
   obtain ⟨V, hV⟩ : ∃ V, (w3.alloc (.cells ((List.replicate 32 (0 : UInt8)).map bv).toArray 23)).setRow w3.heap.size (I.map bv).toArray = V := ⟨_, rfl⟩
   refine code_world hV ?_
   rw [hV] at hr6 hb36
   obtain ⟨g6, hg6⟩ : ∃ g6, w3.heap.size = g6 := ⟨_, rfl⟩
   rw [hg6] at hr6 ⊢
   have HR6 := Lib.hid hr6
   have HRV := Lib.hid (HR3.out.below hb36 HR3.out.lt)
   have HBV := Lib.hid (nextB HB3.out (Nat.le_refl _) hb36)
   have HKV := Lib.hid ((HK3.out.below hb36).more hb36.size)
   have hgw : w.heap.size < g6 := by rw [← hg6]; exact HR3.out.lt
   clear hr6 hb36 hV hg6
   have HTV := Lib.hid (Ht.out.below HBV.out Ht.out.1)
   have hI6 : ∀ w', Grew V.drew w' → Bs w' w'.heap.size (.slice (some ⟨g6, 0, none⟩) 32 32) I := by
    intro w' hw'
    have hr6 := Row.below (w := V.drew) HR6.out hw' HR6.out.lt
    have h1 := hr6.bs (B := w'.heap.size) hr6.lt
    rwa [HIn.out] at h1
   have HI6 := Lib.hid hI6
   have HM2 : Hid (∀ l ∈ [Sha.masked K 0x5c, I], l.length ≤ 1000000000) := by
    intro l hl
    simp only [List.mem_cons, List.not_mem_nil, or_false] at hl
    rcases hl with rfl | rfl
    · rw [Sha.masked_length _ _ hkK]; omega
    · rw [HIn.out]; omega
   have HF2 : Hid ([Sha.masked K 0x5c, I].flatten.length ≤ 1000000000000) := by
    show _ ≤ _
    simp only [List.flatten_cons, List.flatten_nil, List.append_nil, List.length_append]
    rw [Sha.masked_length _ _ hkK, HIn.out]
    omega
   clear hI6
   obtain ⟨O, hO⟩ : ∃ O, Sha.sum [Sha.masked K 0x5c, I].flatten = O := ⟨_, rfl⟩
   have hmac : Sha.mac key ls.flatten = O := by
    rw [← hO, Sha.mac, HKe.out, HI.out]
    simp
   have hOl : O.length = 32 := by rw [← hO]; exact Sha.sum_length _
   have HO := Lib.hid hO
   have Hmac := Lib.hid hmac
   have HOm := Lib.hid (show (O.map bv).length = 32 by rw [List.length_map]; exact hOl)
   clear hO hmac hOl
   refine Tail.marksAt Pol.mixed 5 Grew [By.is kv,
    rdM (Sha.masked K 0x5c) 64,
    By.is (.slice (some ⟨g6, 0, none⟩) 32 32),
    rdL [Sha.masked K 0x5c, I] 2,
    By.is (arr8 O)]
    (Ev.masks _ []) (Nat.zero_lt_succ _) (by kernel_rfl) (by kernel_rfl) rfl Grew.refl Grew.trans ⟨?_, ?_, ?_, ?_, ?_, trivial⟩ ?_
   · intro a w ht hs hg
     have h0 := By.same_get hs 0 (by decide) (by kernel_rfl)
     refine By.yes rfl ?_
     clear hs hg
     go_simp
     exact ⟨_, rfl, Grew.refl _, rfl⟩
   · intro a w ht hs hg
     have h20 : a.tmps.getD 20 undef = _ := By.given_get hg 0 rfl rfl (by kernel_rfl)
     refine By.yes rfl ?_
     clear hs hg
     have hkw := Lib.hid (grew_bs HKV.out ht)
     clear ht
     go_simp
     refine (Masked_at kv K 0x5c 92 rfl w hkw.out hkK).mono ?_
     rintro e w7 ⟨g7, rfl, hg7, hr7, hb7⟩
     obtain ⟨R7, hr7⟩ := hr7
     exact ⟨_, rfl, hb7, g7, rfl, bs_row hr7 (Sha.masked_length _ _ hkK)⟩
   · intro a w ht hs hg
     have h6 := By.same_get hs 6 (by decide) (by kernel_rfl)
     refine By.yes rfl ?_
     clear hs hg
     go_simp
     exact ⟨_, rfl, Grew.refl _, rfl⟩
   · intro a w ht hs hg
     have h21 := By.given_get hg 1 rfl rfl (by kernel_rfl)
     have h22 : a.tmps.getD 22 undef = _ := By.given_get hg 2 rfl rfl (by kernel_rfl)
     refine By.yes rfl ?_
     obtain ⟨v21, hv21⟩ : ∃ v, a.tmps.getD 21 undef = v := ⟨_, rfl⟩
     replace h21 := (congrArg (fun v => (rdM (Sha.masked K 0x5c) 64).on v w) hv21).mp h21
     clear hs hg
     have hi6 := Lib.hid (HI6.out w ht)
     clear ht
     obtain ⟨g7, rfl, hm7⟩ := h21
     have Hm7 := Lib.hid hm7
     clear hm7
     rw [Array.getD_eq_getD_getElem?] at hv21 h22
     go_simp
     exact ⟨_, rfl, (Below.refl _ w).alloc (Nat.le_refl _) _, w.heap.size, rfl, bss_new (n := 2) (ls := [Sha.masked K 0x5c, I]) (vs := [.slice (some ⟨g7, 0, none⟩) 64 64, .slice (some ⟨g6, 0, none⟩) 32 32]) (w := w) rfl rfl (Reads.append (.one Hm7.out) (.one hi6.out))⟩
   · intro a w ht hs hg
     have h23 := By.given_get hg 3 rfl rfl (by kernel_rfl)
     refine By.yes rfl ?_
     obtain ⟨v23, hv23⟩ : ∃ v, a.tmps.getD 23 undef = v := ⟨_, rfl⟩
     replace h23 := (congrArg (fun v => (rdL [Sha.masked K 0x5c, I] 2).on v w) hv23).mp h23
     clear hs hg
     have htab := Lib.hid (HTV.out.below (show Below V.heap.size V w from ⟨ht.os, ht.tape, ht.output, ht.size, ht.block⟩) HTV.out.1)
     clear ht
     obtain ⟨g8, rfl, hs8⟩ := h23
     have Hs8 := Lib.hid hs8
     clear hs8
     go_simp
     refine (Sum_any _ [Sha.masked K 0x5c, I] w htab.out Hs8.out (by simp) HM2.out HF2.out).mono ?_
     rintro e w8 ⟨rfl, hb8⟩
     exact ⟨_, rfl, hb8, congrArg arr8 HO.out⟩
   refine By.ends_is (By.ends_skip fun v21 => (By.ends_is (By.ends_skip fun v23 => (By.ends_is (By.ends_nil fun w9 hw9 => ?_)))))
   simp only [Act.put, List.setIfInBounds_toArray, List.set_cons_succ, List.set_cons_zero]
   simp only [List.drop_succ_cons, List.drop_zero]
   have hr9 := Lib.hid (Row.below (w := V.drew) HRV.out hw9 HRV.out.lt)
   have hb9 : Below w.heap.size w w9 := nextB HBV.out (Nat.le_refl _) (show Below V.heap.size V w9 from ⟨hw9.os, hw9.tape, hw9.output, hw9.size, hw9.block⟩)
   have HB9 := Lib.hid hb9
   clear hb9 hw9
   unfold arr8
   go_wp2_with (first
    | (show wpList _ _ _ (⟨none, Op.store 23 _ _, _, _, _, _⟩ :: _) _ _; refine wpList_storeRow (g := w.heap.size) rfl 23 _ _ rfl rfl rfl (cs := O.map bv) hr9.out (by kernel_rfl) HOm.out (by simp) (hbytes_one O) ?_)
    | fail)
   refine bodyPost_ret (results_row rfl _ rfl (hr9.out.setRow (O.map bv)) Tryz.underlying23 rfl (by kernel_rfl) HOm.out) rfl ?_
   exact ⟨by rw [Hmac.out]; rfl, below_setRow HB9.out (Nat.le_refl _) _⟩
end Go.Proofs.YtedmogacklbcmaaGreatDoor
namespace Go.Proofs.YtedmogacklbcmaaGreatDoor
open Go.RowKit
set_option maxRecDepth 8000 in
set_option maxHeartbeats 1000000 in
theorem Extract_any (v sv : Value) (key sec : List UInt8) (w : World) (ht : Tab w) (hk : Bs w w.heap.size v key) (hkl : key.length ≤ 1000000000) (hs : Bs w w.heap.size sv sec) (hsl : sec.length ≤ 1000000000) :
 Calls Tryz.prog 76 #[v, sv] w fun e w' => e = .returned (arr8 (Sha.mac key sec)) ∧ Below w.heap.size w w' := by
 have hr0 : Row (w.alloc (.cells ((List.replicate 32 (0 : UInt8)).map bv).toArray 23)) w.heap.size ((List.replicate 32 (0 : UInt8)).map bv) 23 := Row.new rfl rfl
 have hb0 := (Below.refl w.heap.size w).alloc (Nat.le_refl _) (.cells ((List.replicate 32 (0 : UInt8)).map bv).toArray 23)
 have hk0 := (hk.alloc (Nat.le_refl _) (.cells ((List.replicate 32 (0 : UInt8)).map bv).toArray 23)).more (B' := (w.alloc (.cells ((List.replicate 32 (0 : UInt8)).map bv).toArray 23)).heap.size) (by simp)
 have hs0 := (hs.alloc (Nat.le_refl _) (.cells ((List.replicate 32 (0 : UInt8)).map bv).toArray 23)).more (B' := (w.alloc (.cells ((List.replicate 32 (0 : UInt8)).map bv).toArray 23)).heap.size) (by simp)
 obtain ⟨W, hW⟩ : ∃ W, w.alloc (.cells ((List.replicate 32 (0 : UInt8)).map bv).toArray 23) = W := ⟨_, rfl⟩
 rw [hW] at hr0 hb0 hk0 hs0
 obtain ⟨A1, c1, rfl, _, _⟩ := hk
 obtain ⟨A2, c2, rfl, _, _⟩ := hs
 have hss := bss_new (n := 1) (ls := [sec]) (vs := [.slice A2 sec.length c2]) (w := W) rfl rfl (.one hs0)
 have hb1 := (Below.refl W.heap.size W).alloc (Nat.le_refl _) (.cells #[.slice A2 sec.length c2] 38)
 have htab : Tab (W.alloc (.cells #[.slice A2 sec.length c2] 38)) := (ht.below hb0 ht.1).below hb1 (by have := ht.1; have := hb0.size; omega)
 have hk1 := (hk0.alloc (Nat.le_refl _) (.cells #[.slice A2 sec.length c2] 38)).more (B' := (W.alloc (.cells #[.slice A2 sec.length c2] 38)).heap.size) (by simp)
 have hmac := Mac_any _ _ key [sec] _ htab hk1 hkl hss (by simp) (by intro l hl; simp at hl; subst hl; exact hsl) (by simp; omega)
 rw [show [sec].flatten = sec by simp] at hmac
 have hWa : (w.alloc (.cells ((List.replicate 32 (0 : UInt8)).map bv).toArray 23)).alloc (.cells #[.slice A2 sec.length c2] 38) = W.alloc (.cells #[.slice A2 sec.length c2] 38) := by rw [hW]
 have hszW : w.heap.size + 1 = W.heap.size := by rw [← hW]; simp
 rw [← hszW] at hmac
 obtain ⟨O, hO⟩ : ∃ O, Sha.mac key sec = O := ⟨_, rfl⟩
 have hOl : O.length = 32 := by rw [← hO]; exact Sha.sum_length _
 rw [hO] at hmac ⊢
 have HOm := Lib.hid (show (O.map bv).length = 32 by rw [List.length_map]; exact hOl)
 have Hmac := Lib.hid hmac
 have HWa := Lib.hid hWa
 have HR := Lib.hid (hr0.alloc (.cells #[.slice A2 sec.length c2] 38))
 have HB := Lib.hid (nextB hb0 (Nat.le_refl _) hb1)
 clear hr0 hb0 hk0 hs0 hW hss hb1 htab hk1 hmac hWa hszW hO hOl ht hkl hsl
 go_enter Tryz.func76, Tryz.ntmps76
 go_wp2_with fail
 refine calls_in HWa.out ?_
 refine Hmac.out.mono ?_
 rintro e w1 ⟨rfl, hb2⟩
 have HB2 := Lib.hid (nextB HB.out (Nat.le_refl _) hb2)
 have hr9 := Lib.hid (HR.out.below hb2 HR.out.lt)
 clear hb2
 unfold arr8
 go_wp2_with (first
  | (show wpList _ _ _ (⟨none, Op.store 23 _ _, _, _, _, _⟩ :: _) _ _; refine wpList_storeRow (g := w.heap.size) rfl 23 _ _ rfl rfl rfl (cs := O.map bv) hr9.out (by kernel_rfl) HOm.out (by simp) (hbytes_one O) ?_)
  | fail)
 refine bodyPost_ret (results_row rfl _ rfl (hr9.out.setRow (O.map bv)) Tryz.underlying23 rfl (by kernel_rfl) HOm.out) rfl ?_
 exact ⟨rfl, below_setRow HB2.out (Nat.le_refl _) _⟩
end Go.Proofs.YtedmogacklbcmaaGreatDoor
namespace Go.Proofs.YtedmogacklbcmaaGreatDoor
open Go.RowKit
namespace Hk
def tN (key info : List UInt8) : Nat → List UInt8
 | 0 => []
 | i + 1 => Sha.mac key [tN key info i, info, [UInt8.ofNat (i + 1)]].flatten
def catN (key info : List UInt8) : Nat → List UInt8
 | 0 => []
 | i + 1 => catN key info i ++ tN key info (i + 1)
theorem tN_length (key info : List UInt8) (i : Nat) : (tN key info (i + 1)).length = 32 := Sha.sum_length _
theorem tN_le (key info : List UInt8) (i : Nat) : (tN key info i).length ≤ 32 := by
 cases i with
 | zero => simp [tN]
 | succ i => exact Nat.le_of_eq (tN_length _ _ _)
theorem catN_length (key info : List UInt8) (i : Nat) : (catN key info i).length = 32 * i := by
 induction i with
 | zero => rfl
 | succ i ih => rw [catN, List.length_append, ih, tN_length]; omega
def outN (key info : List UInt8) (n i : Nat) : List UInt8 := (catN key info i).take n ++ List.replicate (n - 32 * i) 0
theorem outN_length (key info : List UInt8) (n i : Nat) : (outN key info n i).length = n := by
 rw [outN, List.length_append, List.length_take, catN_length, List.length_replicate]
 omega
def outL (key info : List UInt8) (n : Nat) : List UInt8 := (catN key info ((n + 31) / 32)).take n
theorem outN_end (key info : List UInt8) (n i : Nat) (h1 : n ≤ 32 * i) (h2 : 32 * i ≤ n + 31) : outN key info n i = outL key info n := by
 have : i = (n + 31) / 32 := by omega
 subst this
 rw [outN, outL, Nat.sub_eq_zero_of_le h1]
 simp
theorem outN_step (key info : List UInt8) (n i : Nat) (h : 32 * i < n) :
 splice ((outN key info n i).map bv) (32 * i) (((tN key info (i + 1)).take (n - 32 * i)).map bv) = (outN key info n (i + 1)).map bv := by
 have hc := catN_length key info i
 have ht := tN_length key info i
 have e1 : (catN key info i).take n = catN key info i := List.take_of_length_le (by omega)
 have e2 : (catN key info (i + 1)).take n = catN key info i ++ (tN key info (i + 1)).take (n - 32 * i) := by
  rw [catN, List.take_append, hc, e1]
 unfold splice
 rw [outN, outN, e1, e2, ← List.map_take, ← List.map_drop, ← List.map_append, ← List.map_append, List.take_append_of_le_length (by omega), List.take_of_length_le (by omega), List.drop_append, List.drop_of_length_le (by omega), List.nil_append, List.drop_replicate, List.length_map, List.length_take, hc, ht]
 rw [show n - 32 * i - (32 * i + min (n - 32 * i) 32 - 32 * i) = n - 32 * (i + 1) by omega]
 simp
end Hk
set_option maxRecDepth 8000 in
set_option maxHeartbeats 2000000 in
theorem Expand_ok (v : Value) (key info : List UInt8) (z : Int) (n : Nat) (hz : (z ≤ 0 ∧ n = 0) ∨ z = (n : Int)) (hn : n ≤ 8160) (hk : key.length = 32) (w : World) (ht : Tab w) (hi : Bs w w.heap.size v info) (hil : info.length ≤ 1000000000) :
 Calls Tryz.prog 75 #[arr8 key, v, .int .i64 z] w fun e w' => ∃ g, e = .returned (.tuple #[.slice (some ⟨g, 0, none⟩) n n, .int .i64 0]) ∧ w.heap.size ≤ g ∧ Row w' g ((Hk.outL key info n).map bv) 5 ∧ Below w.heap.size w w' := by
 have hr0 : Row (w.alloc (.cells (key.map bv).toArray 23)) w.heap.size (key.map bv) 23 := Row.new (by simp) rfl
 have hb0 := (Below.refl w.heap.size w).alloc (Nat.le_refl _) (.cells (key.map bv).toArray 23)
 have hi0 := (hi.alloc (Nat.le_refl _) (.cells (key.map bv).toArray 23)).more (B' := (w.alloc (.cells (key.map bv).toArray 23)).heap.size) (by simp)
 have ht0 := ht.below hb0 ht.1
 obtain ⟨W0, hW0⟩ : ∃ W0, w.alloc (.cells (key.map bv).toArray 23) = W0 := ⟨_, rfl⟩
 rw [hW0] at hr0 hb0 hi0 ht0
 have HI := Lib.hid hi
 obtain ⟨A, c, rfl, _, hxx⟩ := hi
 clear hxx
 have hz81 : ¬ (8160 : Int) < z := by omega
 have hmx : (if z < (0 : Int) then (0 : Int) else z) = (n : Int) := by
  by_cases h : z < 0
  · rw [if_pos h]; omega
  · rw [if_neg h]; omega
 have HW0 := Lib.hid hW0
 have HR0 := Lib.hid hr0
 have HB0 := Lib.hid hb0
 have HI0 := Lib.hid hi0
 have HT0 := Lib.hid ht0
 have Hn := Lib.hid hn
 have Hkl := Lib.hid hk
 have Hil := Lib.hid hil
 have HT := Lib.hid ht
 clear hW0 hr0 hb0 hi0 ht0 hn hk hil ht hz
 unfold arr8
 go_enter Tryz.func75, Tryz.ntmps75
 go_wp2_with (first
  | (at_make; refine wpList_in HW0.out ?_; refine wpList_make_bytes _ rfl _ _ rfl n rfl rfl (by have := Hn.out; omega) ?_; intro w4 hrow4 hg4
     have hb34 : Below W0.heap.size W0 w4 := (Below.refl W0.heap.size W0).grown hg4 (Nat.le_refl _) (fun k hk => by cases hk)
     have HB4 := Lib.hid (nextB HB0.out (Nat.le_refl _) hb34)
     have HR4 := Lib.hid (HR0.out.below hb34 HR0.out.lt)
     have HI4 := Lib.hid ((HI0.out.below hb34).more hb34.size)
     have HO4 := Lib.hid hrow4
     clear hrow4 hg4 hb34)
  | fail)
 have hgo : ∀ (k : Nat), 32 * k ≤ n + 31 → k ≤ 255 := by have := Hn.out; omega
 have Hgo := Lib.hid hgo
 have HszW := Lib.hid (show W0.heap.size = w.heap.size + 1 by rw [← HW0.out]; simp)
 clear hgo hmx hz81
 go_loopw [9, 10] (fun lv iv wr => ∃ i p : Nat, p = 32 * i ∧ 32 * i ≤ n + 31 ∧ iv = .int .i64 (p : Int) ∧ Bs wr wr.heap.size lv (Hk.tN key info i) ∧ Row wr W0.heap.size ((Hk.outN key info n i).map bv) 5 ∧ Row wr w.heap.size (key.map bv) 23 ∧ Below w.heap.size w wr) (fun _ iv _ => n + 31 - (intOf iv).toNat)
 case atStart =>
  refine ⟨0, 0, rfl, by omega, rfl, ?_, ?_, HR4.out, HB4.out⟩
  · exact ⟨none, 0, rfl, Nat.le_refl _, fun h => absurd rfl h⟩
  · have h := HO4.out
    simpa [Hk.outN, Hk.catN] using h
 case round =>
  obtain ⟨i, p, hp, hpn, rfl, hlv, hro, hrk, hb⟩ := hrel
  have Hp := Lib.hid hp
  have Hpn := Lib.hid hpn
  have Hlv := Lib.hid hlv
  have Hro := Lib.hid hro
  have Hrk := Lib.hid hrk
  have Hb := Lib.hid hb
  clear hp hpn hrk hro hb
  by_cases hlt : p < n
  · have hlt' : (p : Int) < (n : Int) := by omega
    obtain ⟨A3, c3, rfl, hlc, hx3⟩ := hlv
    clear hx3 hlc
    have hi255 : i + 1 ≤ 255 := Hgo.out (i + 1) (by have := Hp.out; omega)
    have hpi := Hp.out
    have hq : (p : Int) / 32 = (i : Int) := by omega
    have hq2 : (p : Int).tdiv 32 = (i : Int) := by rw [Int.tdiv_eq_ediv_of_nonneg (by omega)]; omega
    have hw1 : IntKind.i64.wrap ((i : Int) + 1) = (i : Int) + 1 := IntWalk.i64_in _ (by omega)
    have hw8 : IntKind.u8.wrap ((i : Int) + 1) = (i : Int) + 1 := IntWalk.u8_in _ (by omega)
    have hib : (i : Int) ≤ 254 := by omega
    obtain ⟨x, hx⟩ : ∃ x : UInt8, UInt8.ofNat (i + 1) = x := ⟨_, rfl⟩
    have hbx : Value.int .u8 ((i : Int) + 1) = bv x := by
     rw [← hx]
     unfold bv
     rw [UInt8.toNat_ofNat']
     congr 1
     omega
    obtain ⟨W1, hW1⟩ : ∃ W1, wr.alloc (.cells #[.int .u8 ((i : Int) + 1)] 5) = W1 := ⟨_, rfl⟩
    have hb1 : Below wr.heap.size wr W1 := hW1 ▸ (Below.refl _ _).alloc (Nat.le_refl _) _
    have hrx : Row W1 wr.heap.size ([x].map bv) 5 := by rw [← hW1, hbx]; exact Row.new rfl rfl
    have hbsx : Bs W1 W1.heap.size (.slice (some ⟨wr.heap.size, 0, none⟩) 1 1) [x] := hrx.bs hrx.lt
    have hl1 := (Hlv.out.below hb1).more hb1.size
    have hi1 := (HI.out.below (nextB Hb.out (Nat.le_refl _) hb1)).more (nextB Hb.out (Nat.le_refl _) hb1).size
    have hss := bss_new (n := 3) (ls := [Hk.tN key info i, info, [x]]) (vs := [.slice A3 (Hk.tN key info i).length c3, .slice A info.length c, .slice (some ⟨wr.heap.size, 0, none⟩) 1 1]) (w := W1) rfl rfl (Reads.append (.one hl1) (Reads.append (.one hi1) (.one hbsx)))
    have hb2 := (Below.refl W1.heap.size W1).alloc (Nat.le_refl _) (.cells #[.slice A3 (Hk.tN key info i).length c3, .slice A info.length c, .slice (some ⟨wr.heap.size, 0, none⟩) 1 1] 38)
    have hbr2 := nextB hb1 (Nat.le_refl _) hb2
    have hbb2 := nextB Hb.out (Nat.le_refl _) hbr2
    have hks : Bs wr wr.heap.size (.slice (some ⟨w.heap.size, 0, none⟩) 32 32) key := by
     have h1 := Hrk.out.bs (B := wr.heap.size) Hrk.out.lt
     rwa [Hkl.out] at h1
    have hmac := Mac_any _ _ key [Hk.tN key info i, info, [x]] _ (HT.out.below hbb2 HT.out.1) ((hks.below hbr2).more hbr2.size) (by rw [Hkl.out]; omega) hss (by simp) (by
     intro l hl
     simp only [List.mem_cons, List.not_mem_nil, or_false] at hl
     rcases hl with rfl | rfl | rfl
     · exact Nat.le_trans (Hk.tN_le _ _ _) (by omega)
     · exact Hil.out
     · simp) (by
     have h1 := Hk.tN_le key info i
     have h2 := Hil.out
     simp
     omega)
    obtain ⟨T, hT⟩ : ∃ T, Hk.tN key info (i + 1) = T := ⟨_, rfl⟩
    have hTl : T.length = 32 := by rw [← hT]; exact Hk.tN_length _ _ _
    rw [show Sha.mac key [Hk.tN key info i, info, [x]].flatten = T by rw [← hT, ← hx]; rfl] at hmac
    have hWa : (wr.alloc (.cells #[.int .u8 ((i : Int) + 1)] 5)).alloc (.cells #[.slice A3 (Hk.tN key info i).length c3, .slice A info.length c, .slice (some ⟨wr.heap.size, 0, none⟩) 1 1] 38) = W1.alloc (.cells #[.slice A3 (Hk.tN key info i).length c3, .slice A info.length c, .slice (some ⟨wr.heap.size, 0, none⟩) 1 1] 38) := by rw [hW1]
    have hszW : wr.heap.size + 1 = W1.heap.size := by rw [← hW1]; simp
    rw [← hszW] at hmac
    have HWa := Lib.hid hWa
    have Hmac := Lib.hid hmac
    have HT1 := Lib.hid hT
    have HTl := Lib.hid hTl
    have HTm := Lib.hid (show (T.map bv).length = 32 by rw [List.length_map]; exact hTl)
    have Hbr2 := Lib.hid hbr2
    have HLen := Lib.hid (show ((T.take (n - p)).map bv).length = Nat.min 32 (n - p) by rw [List.length_map, List.length_take, hTl]; exact Nat.min_comm _ _)
    have HFit := Lib.hid (show p + ((T.take (n - p)).map bv).length ≤ ((Hk.outN key info n i).map bv).length by
     rw [List.length_map, List.length_take, hTl, List.length_map, Hk.outN_length]
     omega)
    have HSrc := Lib.hid (show ∀ (V : World) (g : Nat), Row V g (T.map bv) 23 → ∀ (j : Nat) (u : Value), ((T.take (n - p)).map bv)[j]? = some u → V.cell? ((⟨g, 0, none⟩ : Addr).add j) = some u from fun V g hr j u hj => by
     rw [show (⟨g, 0, none⟩ : Addr).add j = ⟨g, 0 + j, none⟩ by unfold Addr.add; split <;> simp_all]
     rw [Nat.zero_add]
     rw [List.map_take, List.getElem?_take] at hj
     split at hj
     · exact Row.cell hr hj
     · cases hj)
    have HStep := Lib.hid (show splice ((Hk.outN key info n i).map bv) p ((T.take (n - p)).map bv) = (Hk.outN key info n (i + 1)).map bv by
     have h := Hk.outN_step key info n i (by omega)
     rw [hT, ← hpi] at h
     exact h)
    have hpb : (p : Int) ≤ 8160 := by have := Hn.out; omega
    clear hW1 hb1 hrx hbsx hl1 hi1 hss hb2 hbr2 hbb2 hks hmac hT hTl hWa hszW hx hbx hpi hi255
    go_wp2_with fail
    refine calls_in HWa.out ?_
    refine Hmac.out.mono ?_
    rintro e w5 ⟨rfl, hb5⟩
    have hb55 := nextB Hbr2.out (Nat.le_refl _) hb5
    have Hb55 := Lib.hid hb55
    have HB5 := Lib.hid (nextB Hb.out (Nat.le_refl _) hb55)
    have Hro5 := Lib.hid (Hro.out.below hb55 Hro.out.lt)
    have Hrk5 := Lib.hid (Hrk.out.below hb55 Hrk.out.lt)
    clear hb5 hb55
    unfold arr8
    go_wp2_with (first
     | (show wpList _ _ _ (⟨none, Op.store 23 _ _, _, _, _, _⟩ :: _) _ _; refine wpList_storeRow (g := w5.heap.size) rfl 23 _ _ rfl rfl rfl (cs := T.map bv) (old := (List.replicate 32 (0 : UInt8)).map bv) (Row.new rfl rfl) (by kernel_rfl) HTm.out (by simp) (hbytes_one T) ?_
        have hr3 : Row ((w5.alloc (.cells ((List.replicate 32 (0 : UInt8)).map bv).toArray 23)).setRow w5.heap.size (T.map bv).toArray) w5.heap.size (T.map bv) 23 := (Row.new (cs := (List.replicate 32 (0 : UInt8)).map bv) rfl rfl).setRow (T.map bv)
        have hb3 : Below w5.heap.size w5 ((w5.alloc (.cells ((List.replicate 32 (0 : UInt8)).map bv).toArray 23)).setRow w5.heap.size (T.map bv).toArray) := below_setRow ((Below.refl w5.heap.size w5).alloc (Nat.le_refl _) _) (Nat.le_refl _) _
        obtain ⟨V3, hV3⟩ : ∃ V3, (w5.alloc (.cells ((List.replicate 32 (0 : UInt8)).map bv).toArray 23)).setRow w5.heap.size (T.map bv).toArray = V3 := ⟨_, rfl⟩
        refine wpList_in hV3 ?_
        rw [hV3] at hr3 hb3
        have Hr3 := Lib.hid hr3
        have HB3 := Lib.hid (nextB HB5.out (Nat.le_refl _) hb3)
        have Hro3 := Lib.hid (Hro5.out.below hb3 Hro5.out.lt)
        have Hrk3 := Lib.hid (Hrk5.out.below hb3 Hrk5.out.lt)
        clear hr3 hb3 hV3)
     | (show wpList _ _ _ (⟨some 38, _, _, _, _, _⟩ :: _) _ _
        refine wpList_copy_keep rfl (.tmp 36) (.tmp 37) 38 38 rfl 5 (by kernel_rfl) (by kernel_rfl) rfl rfl (w := V3) Hro3.out ((T.take (n - p)).map bv) HLen.out (HSrc.out V3 w5.heap.size Hr3.out) HFit.out (hbytes_one _) ?_
        intro W6 hc6 hk6
        have hszl := HszW.out
        have h5l := Hro5.out.lt
        have h3l := Hro3.out.lt
        have HR6 := Lib.hid (Row.keep (w := V3) Hr3.out hk6 (by omega))
        have Hrk6 := Lib.hid (Row.keep (w := V3) Hrk3.out hk6 (by omega))
        have HB6 := Lib.hid (Below.keep (w := V3) HB3.out hk6 (by omega) (by omega))
        have Hro6 := Lib.hid (show Row W6 W0.heap.size ((Hk.outN key info n (i + 1)).map bv) 5 from HStep.out ▸ hc6)
        clear hc6 hk6 hszl h5l h3l)
     | fail)
    go_roundw
    case rel =>
     refine ⟨i + 1, p + 32, by have := Hp.out; omega, by have := Hp.out; omega, by simp, ?_, Hro6.out, Hrk6.out, HB6.out⟩
     rw [HT1.out]
     have h1 := HR6.out.bs (B := W6.heap.size) HR6.out.lt
     rwa [HTl.out] at h1
    case measure => simp [intOf]; omega
  · have hlt' : ¬ (p : Int) < (n : Int) := by omega
    clear hlv
    go_wp2
    go_ret2
    refine ⟨_, rfl, by have := HszW.out; omega, ?_, Hb.out⟩
    have h := Hro.out
    rwa [Hk.outN_end key info n i (by have := Hp.out; omega) Hpn.out] at h
end Go.Proofs.YtedmogacklbcmaaGreatDoor
namespace Go.Proofs.YtedmogacklbcmaaGreatDoor
open Go.RowKit
set_option maxRecDepth 8000 in
set_option maxHeartbeats 1000000 in
theorem Key_any (v sv iv : Value) (key sec info : List UInt8) (w : World) (ht : Tab w) (hk : Bs w w.heap.size v key) (hkl : key.length ≤ 1000000000) (hs : Bs w w.heap.size sv sec) (hsl : sec.length ≤ 1000000000) (hi : Bs w w.heap.size iv info) (hil : info.length ≤ 1000000000) :
 Calls Tryz.prog 60 #[v, sv, iv] w fun e w' => e = .returned (arr8 (Hk.outL (Sha.mac key sec) info 32)) ∧ Below w.heap.size w w' := by
 have hr0 : Row (w.alloc (.cells ((List.replicate 32 (0 : UInt8)).map bv).toArray 23)) w.heap.size ((List.replicate 32 (0 : UInt8)).map bv) 23 := Row.new rfl rfl
 have hb0 := (Below.refl w.heap.size w).alloc (Nat.le_refl _) (.cells ((List.replicate 32 (0 : UInt8)).map bv).toArray 23)
 have hsz : (w.alloc (.cells ((List.replicate 32 (0 : UInt8)).map bv).toArray 23)).heap.size = w.heap.size + 1 := by simp
 obtain ⟨W, hW⟩ : ∃ W, w.alloc (.cells ((List.replicate 32 (0 : UInt8)).map bv).toArray 23) = W := ⟨_, rfl⟩
 rw [hW] at hr0 hb0 hsz
 have hk0 := (hk.below hb0).more hb0.size
 have hs0 := (hs.below hb0).more hb0.size
 have hi0 := (hi.below hb0).more hb0.size
 have ht0 := ht.below hb0 ht.1
 have hext := Extract_any v sv key sec W ht0 hk0 hkl hs0 hsl
 obtain ⟨M, hM⟩ : ∃ M, Sha.mac key sec = M := ⟨_, rfl⟩
 have hMl : M.length = 32 := by rw [← hM]; exact Sha.sum_length _
 rw [hM] at hext ⊢
 obtain ⟨O, hO⟩ : ∃ O, Hk.outL M info 32 = O := ⟨_, rfl⟩
 have hOl : O.length = 32 := by rw [← hO, ← Hk.outN_end M info 32 1 (by omega) (by omega)]; exact Hk.outN_length _ _ _ _
 have HO := Lib.hid hO
 have HOm := Lib.hid (show (O.map bv).length = 32 by rw [List.length_map]; exact hOl)
 rw [hO]
 have HW := Lib.hid hW
 have Hext := Lib.hid hext
 have HR := Lib.hid hr0
 have HB := Lib.hid hb0
 have HI := Lib.hid hi0
 have HT := Lib.hid ht0
 have HMl := Lib.hid hMl
 have Hil := Lib.hid hil
 clear hr0 hb0 hsz hW hk0 hs0 hi0 ht0 hext hM hMl hO hOl hil hi hs hk ht hkl hsl
 go_enter Tryz.func60, Tryz.ntmps60
 go_wp2_with fail
 refine calls_in HW.out ?_
 refine Hext.out.mono ?_
 rintro e w1 ⟨rfl, hb1⟩
 have HI1 := Lib.hid ((HI.out.below hb1).more hb1.size)
 have HT1 := Lib.hid (HT.out.below hb1 HT.out.1)
 have HR1 := Lib.hid (HR.out.below hb1 HR.out.lt)
 have HB1 := Lib.hid (nextB HB.out (Nat.le_refl _) hb1)
 clear hb1
 go_wp2_with fail
 refine (Expand_ok iv M info 32 32 (.inr rfl) (by omega) HMl.out w1 HT1.out HI1.out Hil.out).mono ?_
 rintro e w2 ⟨g, rfl, hg, hr2, hb2⟩
 rw [HO.out] at hr2
 have HR2 := Lib.hid hr2
 have HR3 := Lib.hid (HR1.out.below hb2 HR1.out.lt)
 have HB2 := Lib.hid (nextB HB1.out (Nat.le_refl _) hb2)
 have Hg2 := Lib.hid hr2.lt
 clear hr2 hb2 hg
 have harr : (Instr.arrayAt 23 (.slice (some ⟨g, 0, none⟩) 32 32)).run Tryz.prog w2 = .ok (.pointer (some ⟨g, 0, none⟩)) w2 := by simp [Instr.arrayAt, run_underlying Tryz.underlying23]
 go_wp2_with (first
  | (show wpList _ _ _ (⟨some 19, _, _, _, _, _⟩ :: _) _ _; refine wpList_loadRow rfl 23 _ rfl rfl HR2.out Tryz.underlying23 rfl (by kernel_rfl) HOm.out ?_)
  | (show wpList _ _ _ (⟨none, Op.store 23 _ _, _, _, _, _⟩ :: _) _ _; refine wpList_storeRow (g := w.heap.size) rfl 23 _ _ rfl rfl rfl (cs := O.map bv) HR3.out (by kernel_rfl) HOm.out (by simp) (hbytes_one O) ?_)
  | fail)
 refine bodyPost_ret (results_row rfl _ rfl (HR3.out.setRow (O.map bv)) Tryz.underlying23 rfl (by kernel_rfl) HOm.out) rfl ?_
 exact ⟨rfl, below_setRow HB2.out (Nat.le_refl _) _⟩
end Go.Proofs.YtedmogacklbcmaaGreatDoor
namespace Go.Proofs.YtedmogacklbcmaaGreatDoor
open Go.RowKit
namespace Hk
theorem cell_freeze (w : World) (p q : Addr) (n : Nat) : (w.freeze p n).cell? q = w.cell? q := by
 unfold World.freeze
 split
 · rfl
 · unfold World.cell?
   by_cases hb : p.block = q.block
   · simp only [Array.getElem?_modify, if_pos hb]
     cases w.heap[q.block]? with
     | none => rfl
     | some o => cases o <;> rfl
   · simp only [Array.getElem?_modify, if_neg hb]
theorem below_frozen {B : Nat} {w w1 : World} (h : Below B w w1) {p : Addr} (hp : B ≤ p.block) (n : Nat) : Below B w (w1.freeze p n) := by
 refine h.trans ?_
 unfold World.freeze
 split
 · exact Below.refl _ _
 · refine ⟨rfl, rfl, rfl, by simp, fun k hk => ?_⟩
   simp only [Array.getElem?_modify]
   rw [if_neg (by omega)]
theorem size_freeze (w : World) (p : Addr) (n : Nat) : (w.freeze p n).heap.size = w.heap.size := by
 unfold World.freeze
 split <;> simp
theorem conv_lit (w : World) (l : List UInt8) (n : Nat) (hn : l.length = n) (h0 : 0 < n) : ∃ m, (convert 38 38 (.slice (some ⟨w.heap.size, 0, none⟩) n n)).run Tryz.prog (w.alloc (.cells (l.map bv).toArray 5)) =
 .ok (.slice (some ⟨w.heap.size, 0, none⟩) n n) ((w.alloc (.cells (l.map bv).toArray 5)).freeze ⟨w.heap.size, m, none⟩ 1) := by
 obtain ⟨e, m, hs, _⟩ := World.shape?_of_cell? (Row.cell (w := w.alloc (.cells (l.map bv).toArray 5)) (g := w.heap.size) (i := 0) (Row.new rfl rfl) (hgetD_cell l 0 (by omega)))
 refine ⟨m, ?_⟩
 simp [convert, run_underlying Tryz.underlying38, run_underlying Tryz.underlying5, Ev.mark_run hs]
theorem bs_lit (w : World) (l : List UInt8) (n m : Nat) (hn : l.length = n) : Bs ((w.alloc (.cells (l.map bv).toArray 5)).freeze ⟨w.heap.size, m, none⟩ 1) (w.heap.size + 1) (.slice (some ⟨w.heap.size, 0, none⟩) n n) l := by
 subst hn
 exact ⟨_, _, rfl, Nat.le_refl _, fun _ => ⟨w.heap.size, 0, rfl, by omega, fun i u hu => by
  rw [cell_freeze]
  exact Row.cell (Row.new rfl rfl) (by rw [Nat.zero_add, List.getElem?_map, hu]; rfl)⟩⟩
end Hk
end Go.Proofs.YtedmogacklbcmaaGreatDoor
namespace Go.Proofs.YtedmogacklbcmaaGreatDoor
open Go.RowKit
theorem hrun_app_full (w : World) (ty : TypeId) {b off n B : Nat} {y : Value} {l m : List UInt8} (hl : l.length = n) (hx : ∀ (i : Nat) (u : UInt8), l[i]? = some u → w.cell? ⟨b, off + i, none⟩ = some (bv u)) (hb : b < w.heap.size) (hy : Bs w B y m) (hlen : l.length + m.length ≤ 1000000000) :
 ∃ v' w', (Builtin.append_ #[38, 38] ty #[.slice (some ⟨b, off, none⟩) n n, y]).run Tryz.prog w = .ok v' w' ∧ (∃ b' o' c', v' = .slice (some ⟨b', o', none⟩) (l ++ m).length c' ∧ (l ++ m).length ≤ c' ∧ b' < w'.heap.size ∧ ∀ (i : Nat) (u : UInt8), (l ++ m)[i]? = some u → w'.cell? ⟨b', o' + i, none⟩ = some (bv u)) ∧ Below w.heap.size w w' := by
 obtain ⟨i, hi, hz, hs, hbb⟩ := info_u8
 obtain ⟨A, c, rfl, hc, hcell⟩ := hy
 by_cases hm : m = []
 · subst hm
   refine ⟨_, w, ?_, ⟨b, off, n, by rw [List.append_nil, hl], by rw [List.append_nil, hl]; exact Nat.le_refl _, hb, by rw [List.append_nil]; exact hx⟩, Below.refl _ _⟩
   have hrun := Ev.run_append_fit (P := Tryz.prog) (ty := ty) (base := some ⟨b, off, none⟩) (m := n) (n := 0) (c := n) (x := .slice A 0 c) (w := w) (new := #[]) Tryz.underlying38 Tryz.underlying38 (.inr ⟨_, rfl⟩) hi rfl (by cases A <;> simp [Builtin.firstCells, loadCells, loadCellsFrom]) (by omega)
   rw [List.length_nil, hrun]
   simp [storeCells]
 · obtain ⟨b2, off2, rfl, _, h4⟩ := hcell hm
   have h0 : 0 < m.length := List.length_pos_iff.2 hm
   obtain ⟨v', w', hr, h1, h2⟩ := run_append_arg_grows (P := Tryz.prog) w 38 ty 5 i (.int .u8 0) 1 1 Tryz.underlying38 hi hz hs hbb rfl (by decide) ⟨b, off, none⟩ n n (l.map bv) (by simp [hl]) (fun j u hj => by
    rw [List.getElem?_map, Option.map_eq_some_iff] at hj
    obtain ⟨x, hx2, rfl⟩ := hj
    rw [show (⟨b, off, none⟩ : Addr).add j = ⟨b, off + j, none⟩ by unfold Addr.add; split <;> simp_all]
    exact hx j x hx2) ⟨b2, off2, none⟩ m.length c (m.map bv) (by simp) (fun j u hj => by
    rw [List.getElem?_map, Option.map_eq_some_iff] at hj
    obtain ⟨x, hx2, rfl⟩ := hj
    rw [show (⟨b2, off2, none⟩ : Addr).add j = ⟨b2, off2 + j, none⟩ by unfold Addr.add; split <;> simp_all]
    exact h4 j x hx2) (by omega) (by unfold maxLen; omega) (by omega)
   have hown : Own w' w.heap.size v' (l ++ m) := by
    unfold Own
    rw [List.length_append, hl, List.map_append]
    exact h1
   obtain ⟨A5, c5, e5, h5, h6⟩ := hown.bs
   obtain ⟨b', o', rfl, h7, h8⟩ := h6 (by intro h; exact hm (List.append_eq_nil_iff.1 h).2)
   exact ⟨v', w', hr, ⟨b', o', c5, e5, h5, h7, h8⟩, (Below.refl _ w).grown h2 (Nat.le_refl _) (fun k hk => by cases hk)⟩
theorem hwp_app_full {o : Oper} {a : Act} {w : World} {K : Act → World → Prop} {Q : Exit → Act → World → Prop} (s x : Operand) (ho : o.op = .call { callee := .builtin .append, args := #[s, x], argTypes := #[38, 38] }) {b off n B : Nat} {y : Value} {l m : List UInt8}
 (hs : a.eval s = .slice (some ⟨b, off, none⟩) n n) (hl : l.length = n) (hcx : ∀ (i : Nat) (u : UInt8), l[i]? = some u → w.cell? ⟨b, off + i, none⟩ = some (bv u)) (hb : b < w.heap.size) (hx : a.eval x = y) (hy : Bs w B y m) (hlen : l.length + m.length ≤ 1000000000)
 (h : ∀ v' w', (∃ b' o' c', v' = .slice (some ⟨b', o', none⟩) (l ++ m).length c' ∧ (l ++ m).length ≤ c' ∧ b' < w'.heap.size ∧ ∀ (i : Nat) (u : UInt8), (l ++ m)[i]? = some u → w'.cell? ⟨b', o' + i, none⟩ = some (bv u)) → Below w.heap.size w w' → K (a.put o.dst v') w') : o.wp Tryz.prog a w K Q := by
 obtain ⟨v', w', hr, h2, h3⟩ := hrun_app_full w o.type hl hcx hb hy hlen
 unfold Oper.wp execOp
 simp only [ho, resolve, invoke, builtin, Sem.run_bind, Sem.run_pure, Result.andThen_ok, List.map_toArray, List.map_cons, List.map_nil, hs, hx, hr]
 exact h v' w' h2 h3
def AtB (w : World) (v : Value) (l : List UInt8) : Prop := ∃ b' o' c', v = .slice (some ⟨b', o', none⟩) l.length c' ∧ l.length ≤ c' ∧ b' < w.heap.size ∧ ∀ (i : Nat) (u : UInt8), l[i]? = some u → w.cell? ⟨b', o' + i, none⟩ = some (bv u)
theorem AtB.below {w w' : World} {v : Value} {l : List UInt8} (h : AtB w v l) (hb : Below w.heap.size w w') : AtB w' v l := by
 obtain ⟨b, o, c, h1, h2, h3, h4⟩ := h
 exact ⟨b, o, c, h1, h2, Nat.lt_of_lt_of_le h3 hb.size, fun i u hu => (hb.cell (p := ⟨b, o + i, none⟩) h3).trans (h4 i u hu)⟩
theorem AtB.bs {w : World} {v : Value} {l : List UInt8} (h : AtB w v l) : Bs w w.heap.size v l := by
 obtain ⟨b, o, c, h1, h2, h3, h4⟩ := h
 exact ⟨_, c, h1, h2, fun _ => ⟨b, o, rfl, h3, h4⟩⟩
theorem AtB.cells {w : World} {b o n c : Nat} {l : List UInt8} (h : AtB w (.slice (some ⟨b, o, none⟩) n c) l) : ∀ (i : Nat) (u : UInt8), l[i]? = some u → w.cell? ⟨b, o + i, none⟩ = some (bv u) := by
 obtain ⟨b', o', c', h1, h2, h3, h4⟩ := h
 simp only [Value.slice.injEq, Option.some.injEq, Addr.mk.injEq] at h1
 obtain ⟨⟨rfl, rfl, _⟩, _, _⟩ := h1
 exact h4
theorem AtB.lt {w : World} {b o n c : Nat} {l : List UInt8} (h : AtB w (.slice (some ⟨b, o, none⟩) n c) l) : b < w.heap.size := by
 obtain ⟨b', o', c', h1, h2, h3, h4⟩ := h
 simp only [Value.slice.injEq, Option.some.injEq, Addr.mk.injEq] at h1
 obtain ⟨⟨rfl, rfl, _⟩, _, _⟩ := h1
 exact h3
def bsM (l : List UInt8) : By.Mark Grew := ⟨fun v w => Bs w w.heap.size v l, fun _ _ _ h k => (h.below k).more k.size⟩
end Go.Proofs.YtedmogacklbcmaaGreatDoor
