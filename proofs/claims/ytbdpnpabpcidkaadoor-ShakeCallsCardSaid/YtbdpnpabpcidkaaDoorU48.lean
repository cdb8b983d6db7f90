/- Texts that the proofs share: ShkSecret, ShkAnswer, ShkCheckAns, ShkPure, ShkLives, ShkRAm, ShkRSec. -/
import Derived.Test.YtbdpnpabpcidkaaDoorU27
import Derived.Test.YtbdpnpabpcidkaaDoorU32
import Derived.Test.YtbdpnpabpcidkaaDoorU37
import Derived.Test.YtbdpnpabpcidkaaDoorU40
import Derived.Test.YtbdpnpabpcidkaaDoorU47
namespace Go.Proofs.YtbdpnpabpcidkaaDoor.Shk
open Go.RowKit
open Pkt (Pk code_name wpList_name wpList_ld l_all c_ses)
structure Soft (B : Nat) (x y : World) : Prop where
 below : Below B x y
 cells : ∀ p : Addr, p.spot = none → p.block < x.heap.size → y.cell? p = x.cell? p
theorem Soft.refl (B : Nat) (x : World) : Soft B x x := ⟨Below.refl _ _, fun _ _ _ => rfl⟩
theorem soft_below {w x : World} (h : Soft w.heap.size w.drew x) : Below w.heap.size w x := ⟨h.below.os, h.below.tape, h.below.output, h.below.size, h.below.block⟩
theorem Soft.trans (B : Nat) (x y z : World) (h : Soft B x y) (k : Soft B y z) : Soft B x z := ⟨h.below.trans k.below, fun p hs hp => (k.cells p hs (Nat.lt_of_lt_of_le hp h.below.size)).trans (h.cells p hs hp)⟩
theorem Soft.of {B : Nat} {x y : World} (h : Below x.heap.size x y) (hB : B ≤ x.heap.size) : Soft B x y := ⟨h.mono hB, fun p hs hp => by
 obtain ⟨b, o, s⟩ := p
 cases hs
 exact h.cell hp⟩
theorem Soft.bs {B : Nat} {x y : World} {v : Value} {l : List UInt8} (h : Bs x x.heap.size v l) (k : Soft B x y) : Bs y y.heap.size v l :=
 (h.keep fun b o hb => k.cells ⟨b, o, none⟩ rfl hb).more k.below.size
def bsS (B : Nat) (l : List UInt8) : By.Mark (Soft B) := ⟨fun v w => Bs w w.heap.size v l, fun _ _ _ h k => k.bs h⟩
def LitB (B : Nat) (l : List UInt8) (v : Value) (w : World) : Prop := ∃ g, v = .slice (some ⟨g, 0, none⟩) l.length l.length ∧ B ≤ g ∧ g < w.heap.size ∧ ∀ (i : Nat) (u : UInt8), l[i]? = some u → w.cell? ⟨g, 0 + i, none⟩ = some (bv u)
def litS (B : Nat) (l : List UInt8) : By.Mark (Soft B) := ⟨LitB B l, fun _ _ _ ⟨g, h1, h2, h3, h4⟩ k => ⟨g, h1, h2, Nat.lt_of_lt_of_le h3 k.below.size, fun i u hu => (k.cells ⟨g, 0 + i, none⟩ rfl h3).trans (h4 i u hu)⟩⟩
theorem run_lit {B : Nat} {l : List UInt8} {v : Value} {w : World} (h : LitB B l v w) (h0 : l ≠ []) : ∃ W, (convert 23 23 v).run Tryd.prog w = .ok v W ∧ LitB B l v W ∧ Soft B w W := by
 obtain ⟨g, rfl, h2, h3, h4⟩ := h
 have hl : 0 < l.length := List.length_pos_iff.2 h0
 have hc := h4 0 _ (List.getElem?_eq_getElem hl)
 obtain ⟨e, m, hs, _⟩ := World.shape?_of_cell? hc
 refine ⟨w.freeze ⟨g, m, none⟩ 1, ?_, ⟨g, rfl, h2, by rw [Hk.size_freeze]; exact h3, fun i u hu => by rw [Hk.cell_freeze]; exact h4 i u hu⟩, ⟨Hk.below_frozen (Below.refl _ _) h2 1, fun p _ _ => Hk.cell_freeze _ _ _ _⟩⟩
 simp [convert, run_underlying Tryd.underlying23, run_underlying Tryd.underlying5, Ev.mark_run hs]
def secret6 : List UInt8 := [115, 101, 99, 114, 101, 116]
def secL (key : List UInt8) (p q : Pk) : List UInt8 := Hk.outL (Sha.mac (p.rnd ++ q.rnd) key) (secret6 ++ Oct.bytesBE 8 q.ses) 32
set_option maxRecDepth 100000 in
set_option maxHeartbeats 2000000 in
theorem Secret_any (key : List UInt8) (p q : Pk) (hk : key.length = 32) (ho : p.Ok) (hq : q.Ok) (w : World) (ht : Tab w) :
 Calls Tryd.prog 37 #[arr8 key, p.val, q.val] w fun e w' => e = .returned (arr8 (secL key p q)) ∧ Below w.heap.size w w' := by
 have Hkl := Lib.hid hk
 have Ho := Lib.hid ho
 have Hq := Lib.hid hq
 have Ht := Lib.hid ht
 obtain ⟨O, hO⟩ : ∃ O, secL key p q = O := ⟨_, rfl⟩
 have hOl : O.length = 32 := by rw [← hO, secL, ← Hk.outN_end (Sha.mac (p.rnd ++ q.rnd) key) (secret6 ++ Oct.bytesBE 8 q.ses) 32 1 (by omega) (by omega)]; exact Hk.outN_length _ _ _ _
 have HO := Lib.hid hO
 have HOm := Lib.hid (show (O.map bv).length = 32 by rw [List.length_map]; exact hOl)
 rw [hO]
 obtain ⟨g0, hg0⟩ : ∃ g, w.heap.size = g := ⟨_, rfl⟩
 have Hg0 := Lib.hid hg0
 clear hk ho hq ht hg0 hO hOl
 unfold arr8 Pk.val
 go_enter Tryd.func37, Tryd.ntmps37
 go_wp2_with fail
 refine code_name fun W0 hW0 => ?_
 rw [Hg0.out]
 have HK := Lib.hid (show Row W0 g0 (key.map bv) 24 from Hg0.out ▸ hW0 ▸ (((Row.new rfl rfl).alloc _).alloc _).alloc _)
 have HP := Lib.hid (show Row W0 (g0 + 1) p.cells 40 from Hg0.out ▸ hW0 ▸ ((Row.new (by simp) rfl).alloc _).alloc _)
 have HQ := Lib.hid (show Row W0 (g0 + 1 + 1) q.cells 40 from Hg0.out ▸ hW0 ▸ (Row.new (by simp) rfl).alloc _)
 have HR := Lib.hid (show Row W0 (g0 + 1 + 1 + 1) ((List.replicate 32 (0 : UInt8)).map bv) 24 from Hg0.out ▸ hW0 ▸ Row.new (by simp) rfl)
 have HB0 := Lib.hid (show Below w.heap.size w W0 from hW0 ▸ ((((Below.refl _ w).alloc (Nat.le_refl _) _).alloc (by simp) _).alloc (by simp; omega) _).alloc (by simp; omega) _)
 have HT := Lib.hid (Ht.out.below HB0.out Ht.out.1)
 clear hW0
 refine By.marks Pol.mixed Grew [By.is (.pointer (some ⟨(g0 + 1), 5, none⟩)),
  By.is (.slice (some ⟨(g0 + 1), 5, none⟩) 16 16),
  By.is (.pointer (some ⟨(g0 + 1 + 1), 5, none⟩)),
  By.is (.slice (some ⟨(g0 + 1 + 1), 5, none⟩) 16 16),
  fullM [p.rnd, q.rnd],
  bsM (p.rnd ++ q.rnd),
  bsM (p.rnd ++ q.rnd)]
  (Ev.masks _ []) (by kernel_rfl) rfl Grew.refl Grew.trans ⟨?_, ?_, ?_, ?_, ?_, ?_, ?_, trivial⟩ ?_
 · intro a w ht hs hg
   have h4 := By.same_get hs 4 (by decide) (by kernel_rfl)
   refine By.yes rfl ?_
   clear hs hg
   go_simp
   exact ⟨_, rfl, Grew.refl _, rfl⟩
 · intro a w ht hs hg
   have h8 : a.tmps.getD 8 undef = _ := By.given_get hg 0 rfl rfl (by kernel_rfl)
   refine By.yes rfl ?_
   clear hs hg
   go_simp
   exact ⟨_, rfl, Grew.refl _, rfl⟩
 · intro a w ht hs hg
   have h5 := By.same_get hs 5 (by decide) (by kernel_rfl)
   refine By.yes rfl ?_
   clear hs hg
   go_simp
   exact ⟨_, rfl, Grew.refl _, rfl⟩
 · intro a w ht hs hg
   have h10 : a.tmps.getD 10 undef = _ := By.given_get hg 2 rfl rfl (by kernel_rfl)
   refine By.yes rfl ?_
   clear hs hg
   go_simp
   exact ⟨_, rfl, Grew.refl _, rfl⟩
 · intro a w ht hs hg
   have h9 : a.tmps.getD 9 undef = _ := By.given_get hg 1 rfl rfl (by kernel_rfl)
   have h11 : a.tmps.getD 11 undef = _ := By.given_get hg 3 rfl rfl (by kernel_rfl)
   refine By.yes rfl ?_
   clear hs hg
   have h2 := bs_rnd (Row.below (w := W0.drew) HP.out ht HP.out.lt) Ho.out
   have h3 := bs_rnd (Row.below (w := W0.drew) HQ.out ht HQ.out.lt) Hq.out
   refine wp_list2 (.tmp 9) (.tmp 11) rfl h9 h2 h11 h3 ?_
   intro v' w' h hb
   exact ⟨_, rfl, hb, h⟩
 · intro a w ht hs hg
   have h12 := By.given_get hg 4 rfl rfl (by kernel_rfl)
   refine By.yes rfl ?_
   obtain ⟨v12, hv12⟩ : ∃ v, a.tmps.getD 12 undef = v := ⟨_, rfl⟩
   replace h12 := (congrArg (fun v => ((fullM [p.rnd, q.rnd])).on v w) hv12).mp h12
   clear hs hg
   have Hx := Lib.hid h12.bss
   clear h12 ht
   go_simp
   refine (Concat_any _ [p.rnd, q.rnd] w Hx.out (by simp) (by intro h; have := congrArg List.length h; simp [Ho.out.r] at this) (by simp [Ho.out.r, Hq.out.r])).mono ?_
   rintro e w' ⟨v, rfl, hv, hb⟩
   exact ⟨_, rfl, hb, (show [p.rnd, q.rnd].flatten = p.rnd ++ q.rnd by simp) ▸ hv⟩
 · intro a w ht hs hg
   have h13 := By.given_get hg 5 rfl rfl (by kernel_rfl)
   refine By.yes rfl ?_
   obtain ⟨v13, hv13⟩ : ∃ v, a.tmps.getD 13 undef = v := ⟨_, rfl⟩
   replace h13 := (congrArg (fun v => ((bsM (p.rnd ++ q.rnd))).on v w) hv13).mp h13
   clear hs hg
   have Hx := Lib.hid h13
   clear h13
   go_simp
   exact ⟨_, rfl, Grew.refl _, Hx.out⟩
 refine By.ends_is (By.ends_is (By.ends_is (By.ends_is (By.ends_skip fun v12 => (By.ends_skip fun v13 => (By.ends_any fun v7 => (By.ends_nil fun W1 hw9 => ?_)))))))
 simp only [Act.put, List.setIfInBounds_toArray, List.set_cons_succ, List.set_cons_zero]
 obtain ⟨hw, h7⟩ := hw9
 have hbw := grew_below hw
 have HB1 := Lib.hid (nextB HB0.out (Nat.le_refl _) hbw)
 have HK1 := Lib.hid (HK.out.below hbw HK.out.lt)
 have HQ1 := Lib.hid (HQ.out.below hbw HQ.out.lt)
 have HR1 := Lib.hid (HR.out.below hbw HR.out.lt)
 have HT1 := Lib.hid (HT.out.below hbw HT.out.1)
 have HS1 := Lib.hid (show Bs W1 W1.heap.size v7 (p.rnd ++ q.rnd) from h7)
 have HKs := Lib.hid (show Bs W1 W1.heap.size (.slice (some ⟨g0, 0, none⟩) 32 32) key by
  have h1 := HK1.out.bs (B := W1.heap.size) HK1.out.lt
  rwa [Hkl.out] at h1)
 clear hw h7 hbw
 go_wp2_with fail
 refine Tail.marksAt Pol.mixed 9 (Soft W1.heap.size) [By.is v7,
  By.is (.slice (some ⟨g0, 0, none⟩) 32 32),
  litS W1.heap.size secret6,
  litS W1.heap.size secret6,
  By.is (.pointer (some ⟨(g0 + 1 + 1), 2, none⟩)),
  By.is (.int .u64 (q.ses : Int)),
  bsS W1.heap.size (Oct.bytesBE 8 q.ses),
  bsS W1.heap.size (secret6 ++ Oct.bytesBE 8 q.ses),
  By.is (arr8 O)]
  (Ev.masks _ []) (Nat.zero_lt_succ _) (by kernel_rfl) (by kernel_rfl) rfl (Soft.refl W1.heap.size) (Soft.trans W1.heap.size) ⟨?_, ?_, ?_, ?_, ?_, ?_, ?_, ?_, ?_, trivial⟩ ?_
 · intro a w ht hs hg
   have h7 := By.same_get hs 7 (by decide) (by kernel_rfl)
   refine By.yes rfl ?_
   clear hs hg
   go_simp
   exact ⟨_, rfl, Soft.refl _ _, rfl⟩
 · intro a w ht hs hg
   have h3 := By.same_get hs 3 (by decide) (by kernel_rfl)
   refine By.yes rfl ?_
   clear hs hg
   go_simp
   exact ⟨_, rfl, Soft.refl _ _, rfl⟩
 · intro a w ht hs hg
   refine By.yes rfl ?_
   clear hs hg
   have hs := ht.below.size
   have hs' : W1.heap.size ≤ w.heap.size := hs
   go_simp
   exact ⟨_, rfl, Soft.of ((Below.refl _ w).alloc (Nat.le_refl _) _) hs', w.heap.size, rfl, hs', by simp, fun i u hu => (Row.new (cs := secret6.map bv) rfl rfl : Row (w.alloc (.cells (secret6.map bv).toArray 5)) w.heap.size (secret6.map bv) 5).cell (by rw [Nat.zero_add, List.getElem?_map, hu]; rfl)⟩
 · intro a w ht hs hg
   have h16 := By.given_get hg 2 rfl rfl (by kernel_rfl)
   refine By.yes rfl ?_
   obtain ⟨v16, hv16⟩ : ∃ v, a.tmps.getD 16 undef = v := ⟨_, rfl⟩
   replace h16 := (congrArg (fun v => ((litS W1.heap.size secret6)).on v w) hv16).mp h16
   clear hs hg
   obtain ⟨W, hr, h1, h2⟩ := run_lit h16 (by decide)
   refine wp_conv _ _ (.tmp 16) rfl hv16 hr ?_
   exact ⟨_, rfl, h2, h1⟩
 · intro a w ht hs hg
   have h5 := By.same_get hs 5 (by decide) (by kernel_rfl)
   refine By.yes rfl ?_
   clear hs hg
   go_simp
   exact ⟨_, rfl, Soft.refl _ _, rfl⟩
 · intro a w ht hs hg
   have h18 : a.tmps.getD 18 undef = _ := By.given_get hg 4 rfl rfl (by kernel_rfl)
   refine By.yes rfl ?_
   clear hs hg
   have hc := (ht.cells ⟨g0 + 1 + 1, 2, none⟩ rfl HQ1.out.lt).trans (c_ses HQ1.out)
   clear ht
   go_simp
   exact ⟨_, rfl, Soft.refl _ _, rfl⟩
 · intro a w ht hs hg
   have h19 : a.tmps.getD 19 undef = _ := By.given_get hg 5 rfl rfl (by kernel_rfl)
   refine By.yes rfl ?_
   clear hs hg
   have hs' : W1.heap.size ≤ w.heap.size := ht.below.size
   clear ht
   go_simp
   refine (num8_any q.ses w).mono ?_
   rintro e w' ⟨v, rfl, hv, hb⟩
   exact ⟨_, rfl, Soft.of hb hs', hv⟩
 · intro a w ht hs hg
   have h17 := By.given_get hg 3 rfl rfl (by kernel_rfl)
   have h20 := By.given_get hg 6 rfl rfl (by kernel_rfl)
   refine By.yes rfl ?_
   obtain ⟨v17, hv17⟩ : ∃ v, a.tmps.getD 17 undef = v := ⟨_, rfl⟩
   replace h17 := (congrArg (fun v => ((litS W1.heap.size secret6)).on v w) hv17).mp h17
   obtain ⟨v20, hv20⟩ : ∃ v, a.tmps.getD 20 undef = v := ⟨_, rfl⟩
   replace h20 := (congrArg (fun v => ((bsS W1.heap.size (Oct.bytesBE 8 q.ses))).on v w) hv20).mp h20
   clear hs hg
   have hs' : W1.heap.size ≤ w.heap.size := ht.below.size
   obtain ⟨g, rfl, k2, k3, k4⟩ := h17
   have hlen := Oct.bytesBE_length 8 q.ses
   refine hwp_app_full (.tmp 17) (.tmp 20) rfl hv17 (l := secret6) rfl k4 k3 hv20 h20 (by rw [hlen]; decide) ?_
   intro v' w' hv hb
   exact ⟨_, rfl, Soft.of hb hs', AtB.bs hv⟩
 · intro a w ht hs hg
   have h14 : a.tmps.getD 14 undef = _ := By.given_get hg 0 rfl rfl (by kernel_rfl)
   have h15 : a.tmps.getD 15 undef = _ := By.given_get hg 1 rfl rfl (by kernel_rfl)
   have h21 := By.given_get hg 7 rfl rfl (by kernel_rfl)
   refine By.yes rfl ?_
   obtain ⟨v21, hv21⟩ : ∃ v, a.tmps.getD 21 undef = v := ⟨_, rfl⟩
   replace h21 := (congrArg (fun v => ((bsS W1.heap.size (secret6 ++ Oct.bytesBE 8 q.ses))).on v w) hv21).mp h21
   clear hs hg
   have HTw := Lib.hid (show Tab w from HT1.out.below (soft_below ht) HT1.out.1)
   have HSw := Lib.hid (show Bs w w.heap.size v7 (p.rnd ++ q.rnd) from ht.bs (x := W1.drew) HS1.out)
   have HIw := Lib.hid h21
   have HKw := Lib.hid (show Bs w w.heap.size (.slice (some ⟨g0, 0, none⟩) 32 32) key from ht.bs (x := W1.drew) HKs.out)
   have hlen := Oct.bytesBE_length 8 q.ses
   have hs' : W1.heap.size ≤ w.heap.size := ht.below.size
   clear h21 ht
   go_simp
   refine (Key_any _ _ _ (p.rnd ++ q.rnd) key (secret6 ++ Oct.bytesBE 8 q.ses) w HTw.out HSw.out (by rw [List.length_append, Ho.out.r, Hq.out.r]; decide) HKw.out (by rw [Hkl.out]; decide) HIw.out (by rw [List.length_append, hlen]; decide)).mono ?_
   rintro e w8 ⟨rfl, hb8⟩
   exact ⟨_, rfl, Soft.of hb8 hs', congrArg arr8 HO.out⟩
 refine By.ends_is (By.ends_is (By.ends_skip fun v16 => (By.ends_skip fun v17 => (By.ends_is (By.ends_is (By.ends_skip fun v20 => (By.ends_skip fun v21 => (By.ends_is (By.ends_nil fun w9 hw9 => ?_)))))))))
 simp only [Act.put, List.setIfInBounds_toArray, List.set_cons_succ, List.set_cons_zero]
 simp only [List.drop_succ_cons, List.drop_zero]
 have hbw := soft_below hw9
 have HB9 := Lib.hid (nextB HB1.out (Nat.le_refl _) hbw)
 have HR9 := Lib.hid (HR1.out.below hbw HR1.out.lt)
 clear hw9 hbw
 refine wpList_storeRow (g := g0 + 1 + 1 + 1) rfl 24 (.tmp 6) (.tmp 22) rfl rfl rfl (cs := O.map bv) HR9.out (by kernel_rfl) HOm.out (by simp) (hbytes_one O) ?_
 go_wp2_with fail
 refine bodyPost_ret (results_row rfl _ rfl (HR9.out.setRow (O.map bv)) Tryd.underlying24 rfl (by kernel_rfl) HOm.out) rfl ?_
 exact ⟨rfl, below_setRow HB9.out (by rw [Hg0.out]; omega) _⟩
end Go.Proofs.YtbdpnpabpcidkaaDoor.Shk
namespace Go.Proofs.YtbdpnpabpcidkaaDoor.Shk
open Go.RowKit
open Pkt (Pk code_name wpList_name wpList_ld l_all c_ses Head BodyOk chk Check_any nm z16)
theorem results_cct {P : Program} {fn : Func} {tmps : Array Value} {w : World} {p q t : Tmp} {ty ty2 : TypeId} (hr : fn.results = #[.cell p ty, .cell q ty2, .tmp t]) {g g2 : Nat} {t' t2 : TypeId} {cs cs2 : List Value} {d d2 : TypeDesc}
 (hp : tmps.getD p undef = .pointer (some ⟨g, 0, none⟩)) (h : Row w g cs t') (hu : P.underlying ty = some d) (hd : (match d with | .struct _ | .array _ _ => true | _ => false) = true) {n : Nat} (hi : (P.info? ty).map (·.size) = some n) (hn : cs.length = n)
 (hq : tmps.getD q undef = .pointer (some ⟨g2, 0, none⟩)) (h2 : Row w g2 cs2 t2) (hu2 : P.underlying ty2 = some d2) (hd2 : (match d2 with | .struct _ | .array _ _ => true | _ => false) = true) {n2 : Nat} (hi2 : (P.info? ty2).map (·.size) = some n2) (hn2 : cs2.length = n2) :
 (results fn tmps).run P w = .ok (.tuple #[.agg cs.toArray, .agg cs2.toArray, tmps.getD t undef]) w := by
 have hp' : tmps[p]?.getD undef = .pointer (some ⟨g, 0, none⟩) := by simpa using hp
 have hq' : tmps[q]?.getD undef = .pointer (some ⟨g2, 0, none⟩) := by simpa using hq
 simp [results, hr, hp', hq', asAddr, run_loadVar_row w g t' ty cs.toArray (0, 0) d h hu hd (by rw [hi]; simp [hn]), run_loadVar_row w g2 t2 ty2 cs2.toArray (0, 0) d2 h2 hu2 hd2 (by rw [hi2]; simp [hn2])]
def answer6 : List UInt8 := [97, 110, 115, 119, 101, 114]
theorem few_answer {p q : Pk} (ho : p.Ok) (hq : q.Ok) : Few (answerL p q) := by
 have h1 := Oct.bytesBE_length 4 (p32 p.peer)
 have h2 := Oct.bytesBE_length 8 q.ses
 have h3 := Oct.bytesBE_length 4 q.epo
 have h4 := ho.r
 have h5 := hq.r
 refine ⟨by simp [answerL, helloL], fun l hl => ?_, by simp [answerL, helloL, h1, h2, h3, h4, h5]⟩
 simp only [answerL, helloL, List.cons_append, List.nil_append, List.mem_cons, List.not_mem_nil, or_false] at hl
 rcases hl with rfl | rfl | rfl | rfl | rfl <;> omega
def ansOk (s e : Nat) : Prop := 1 ≤ s ∧ 1 ≤ e
instance (s e : Nat) : Decidable (ansOk s e) := by unfold ansOk; infer_instance
theorem chk_ap (s e : Nat) (r m : List UInt8) : chk (ap s e r m) 0 = if ansOk s e then 0 else 2 := by
 have h0 : (Head (ap s e r m) ∧ BodyOk (ap s e r m) 0) ↔ ansOk s e := by
  unfold Head BodyOk ap ansOk
  simp
 unfold chk
 by_cases h : ansOk s e
 · rw [if_pos (h0.2 h), if_pos h]
 · rw [if_neg (fun k => h (h0.1 k)), if_neg h]
theorem secL_length (key : List UInt8) (p q : Pk) : (secL key p q).length = 32 := by
 rw [secL, ← Hk.outN_end (Sha.mac (p.rnd ++ q.rnd) key) (secret6 ++ Oct.bytesBE 8 q.ses) 32 1 (by omega) (by omega)]
 exact Hk.outN_length _ _ _ _
def ckH (key : List UInt8) (p : Pk) (n : Nat) : Int := chkk p n 1 (mark key (hello5 ++ (helloL p).flatten))
def ckA (key : List UInt8) (p q : Pk) (n : Nat) : Int := chkk q n 2 (mark key (answer6 ++ (answerL p q).flatten))
def answerP (key : List UInt8) (p : Pk) (s e : Nat) (r : List UInt8) : Pk := ap s e r (mark key (answer6 ++ (answerL p (ap s e r z16)).flatten))
def ansV (key : List UInt8) (p : Pk) (n s e : Nat) (r : List UInt8) : Value :=
 if ckH key p n = 0 then (if ansOk s e then .tuple #[(answerP key p s e r).val, arr8 (secL key p (answerP key p s e r)), .int .i64 0] else .tuple #[(nm 0).val, .agg z32.toArray, .int .i64 2]) else .tuple #[(nm 0).val, .agg z32.toArray, .int .i64 (ckH key p n)]
theorem z32_one : ∀ v ∈ z32, v.oneCell' = true := hbytes_one _
set_option maxRecDepth 100000 in
set_option maxHeartbeats 2000000 in
theorem Answer_any (key : List UInt8) (p : Pk) (s e : Nat) (r : List UInt8) (hk : key.length = 32) (ho : p.Ok) (A : Option Addr) (n c : Nat) (hbo : p.bo = .slice A n c) (hrl : r.length = 16) (w : World) (ht : Tab w) :
 Calls Tryd.prog 29 #[arr8 key, p.val, .int .u64 (s : Int), .int .u32 (e : Int), arr8 r] w fun x w' => x = .returned (ansV key p n s e r) ∧ Below w.heap.size w w' := by
 have Hkl := Lib.hid hk
 have Ho := Lib.hid ho
 have Hbo := Lib.hid hbo
 have Hrl := Lib.hid hrl
 have Ht := Lib.hid ht
 obtain ⟨C, hC⟩ : ∃ C, ckH key p n = C := ⟨_, rfl⟩
 obtain ⟨M, hM⟩ : ∃ M, mark key (answer6 ++ (answerL p (ap s e r z16)).flatten) = M := ⟨_, rfl⟩
 have HMl := Lib.hid (show M.length = 16 by rw [← hM]; exact mark_length _ _)
 have HM := Lib.hid hM
 have HX := Lib.hid (show answerP key p s e r = ap s e r M by rw [answerP, hM])
 obtain ⟨O, hO⟩ : ∃ O, secL key p (ap s e r M) = O := ⟨_, rfl⟩
 have HOl := Lib.hid (show (O.map bv).length = 32 by rw [List.length_map, ← hO]; exact secL_length _ _ _)
 have HO := Lib.hid hO
 have HC := Lib.hid hC
 obtain ⟨R, hR⟩ : ∃ R, ansV key p n s e r = R := ⟨_, rfl⟩
 rw [hR]
 rw [ansV, hC, HX.out, HO.out] at hR
 have HRes := Lib.hid hR
 have HB0 := Lib.hid (show Below w.heap.size w (((((w.alloc (.cells (key.map bv).toArray 24)).alloc (.cells p.cells.toArray 40)).alloc (.cells (r.map bv).toArray 38)).alloc (.cells (nm 0).cells.toArray 40)).alloc (.cells z32.toArray 24)) from (((((Below.refl _ w).alloc (Nat.le_refl _) _).alloc (by simp) _).alloc (by simp; omega) _).alloc (by simp; omega) _).alloc (by simp; omega) _)
 have HK := Lib.hid (show Row (((((w.alloc (.cells (key.map bv).toArray 24)).alloc (.cells p.cells.toArray 40)).alloc (.cells (r.map bv).toArray 38)).alloc (.cells (nm 0).cells.toArray 40)).alloc (.cells z32.toArray 24)) (w.heap.size) (key.map bv) 24 from ((((Row.new rfl rfl).alloc _).alloc _).alloc _).alloc _)
 have HP := Lib.hid (show Row (((((w.alloc (.cells (key.map bv).toArray 24)).alloc (.cells p.cells.toArray 40)).alloc (.cells (r.map bv).toArray 38)).alloc (.cells (nm 0).cells.toArray 40)).alloc (.cells z32.toArray 24)) (w.heap.size + 1) p.cells 40 from (((Row.new (by simp) rfl).alloc _).alloc _).alloc _)
 have HR := Lib.hid (show Row (((((w.alloc (.cells (key.map bv).toArray 24)).alloc (.cells p.cells.toArray 40)).alloc (.cells (r.map bv).toArray 38)).alloc (.cells (nm 0).cells.toArray 40)).alloc (.cells z32.toArray 24)) (w.heap.size + 1 + 1) (r.map bv) 38 from ((Row.new (by simp) rfl).alloc _).alloc _)
 have HN := Lib.hid (show Row (((((w.alloc (.cells (key.map bv).toArray 24)).alloc (.cells p.cells.toArray 40)).alloc (.cells (r.map bv).toArray 38)).alloc (.cells (nm 0).cells.toArray 40)).alloc (.cells z32.toArray 24)) (w.heap.size + 1 + 1 + 1) (nm 0).cells 40 from (Row.new (by simp) rfl).alloc _)
 have HZ := Lib.hid (show Row (((((w.alloc (.cells (key.map bv).toArray 24)).alloc (.cells p.cells.toArray 40)).alloc (.cells (r.map bv).toArray 38)).alloc (.cells (nm 0).cells.toArray 40)).alloc (.cells z32.toArray 24)) (w.heap.size + 1 + 1 + 1 + 1) z32 24 from Row.new (by simp) rfl)
 have hrun := l_a32 HK.out hk
 unfold arr8 at hrun
 have HRr := Lib.hid hrun
 clear hk ho hbo hrl ht hM hR hrun hC hO
 unfold arr8 Pk.val
 go_enter Tryd.func29, Tryd.ntmps29
 go_wp2_with (first
  | (refine wpList_ld 24 rfl rfl HRr.out rfl ?_
     refine wpList_name fun W0 hW0 => ?_
     refine sstop ?_)
  | fail)
 unfold SStop
 have HK0 := Lib.hid (show Row W0 (w.heap.size) (key.map bv) 24 from hW0 ▸ HK.out)
 have HP0 := Lib.hid (show Row W0 (w.heap.size + 1) p.cells 40 from hW0 ▸ HP.out)
 have HR0 := Lib.hid (show Row W0 (w.heap.size + 1 + 1) (r.map bv) 38 from hW0 ▸ HR.out)
 have HN0 := Lib.hid (show Row W0 (w.heap.size + 1 + 1 + 1) (nm 0).cells 40 from hW0 ▸ HN.out)
 have HZ0 := Lib.hid (show Row W0 (w.heap.size + 1 + 1 + 1 + 1) z32 24 from hW0 ▸ HZ.out)
 have HBW := Lib.hid (show Below w.heap.size w W0 from hW0 ▸ HB0.out)
 have hs0 : W0.heap.size = w.heap.size + 1 + 1 + 1 + 1 + 1 := by rw [← hW0]; simp
 have Hs0 := Lib.hid hs0
 have HLd := Lib.hid (l_all HP0.out Ho.out)
 have HT0 := Lib.hid (Ht.out.below HBW.out Ht.out.1)
 clear hW0 hs0
 go_wp2_with (first
  | (refine wpList_ld 40 rfl rfl HLd.out rfl ?_)
  | fail)
 refine (CheckHello_any key p Hkl.out Ho.out A n c Hbo.out W0 HT0.out).mono ?_
 rintro x w1 ⟨rfl, hb1⟩
 rw [show chkk p n 1 (mark key (hello5 ++ (helloL p).flatten)) = C from HC.out]
 have HB1 := Lib.hid (nextB HBW.out (Nat.le_refl _) hb1)
 have HK1 := Lib.hid (HK0.out.below hb1 HK0.out.lt)
 have HP1 := Lib.hid (HP0.out.below hb1 HP0.out.lt)
 have HR1 := Lib.hid (HR0.out.below hb1 HR0.out.lt)
 have HN1 := Lib.hid (HN0.out.below hb1 HN0.out.lt)
 have HZ1 := Lib.hid (HZ0.out.below hb1 HZ0.out.lt)
 have HT1 := Lib.hid (HT0.out.below hb1 HT0.out.1)
 have Hs1 := Lib.hid (show w.heap.size + 1 + 1 + 1 + 1 + 1 ≤ w1.heap.size from Hs0.out ▸ hb1.size)
 clear hb1
 by_cases hc : C = 0
 · subst hc
   have hra := l_a16 HR1.out Hrl.out
   unfold arr8 at hra
   have HRa := Lib.hid hra
   clear hra
   go_wp2_with (first
    | (refine wpList_ld 38 rfl rfl HRa.out rfl ?_
       refine wpList_build rfl _ _ rfl (v := (ap s e r z16).val) (Eq.trans (congrArg (fun q => (Instr.build 40 q).run Tryd.prog w1) (by kernel_rfl)) (build_ap s e w1 r Hrl.out)) ?_)
    | (show wpList _ _ _ (⟨none, Op.store 40 _ _, _, _, _, _⟩ :: _) _ _
       refine wpList_storeRow (g := w1.heap.size) rfl 40 _ _ rfl rfl rfl (cs := (ap s e r z16).cells) (Row.new rfl rfl : Row (w1.alloc (.cells (nm 0).cells.toArray 40)) w1.heap.size (nm 0).cells 40) (by kernel_rfl) (Pk.length (ap_ok Hrl.out rfl)) (Pk.length nm_ok) (Pk.one (ap_ok Hrl.out rfl)) ?_
       refine wpList_name fun V hV => ?_
       refine sstop ?_)
    | fail)
   unfold SStop
   obtain ⟨ga, hga⟩ : ∃ g, w1.heap.size = g := ⟨_, rfl⟩
   have hge : w.heap.size + 1 + 1 + 1 + 1 + 1 ≤ ga := hga ▸ Hs1.out
   rw [hga] at hV ⊢
   have HKV := Lib.hid (show Row V (w.heap.size) (key.map bv) 24 by rw [← hV]; exact (HK1.out.alloc _).setOther _ _ (by omega))
   have HPV := Lib.hid (show Row V (w.heap.size + 1) p.cells 40 by rw [← hV]; exact (HP1.out.alloc _).setOther _ _ (by omega))
   have HNV := Lib.hid (show Row V (w.heap.size + 1 + 1 + 1) (nm 0).cells 40 by rw [← hV]; exact (HN1.out.alloc _).setOther _ _ (by omega))
   have HZV := Lib.hid (show Row V (w.heap.size + 1 + 1 + 1 + 1) z32 24 by rw [← hV]; exact (HZ1.out.alloc _).setOther _ _ (by omega))
   have HAV := Lib.hid (show Row V ga (ap s e r z16).cells 40 by rw [← hV, ← hga]; exact (Row.new rfl rfl : Row (w1.alloc (.cells (nm 0).cells.toArray 40)) w1.heap.size (nm 0).cells 40).setRow _)
   have HBV := Lib.hid (show Below w.heap.size w V by rw [← hV]; exact below_setRow (HB1.out.alloc (by omega) _) (by omega) _)
   have HTV := Lib.hid (Ht.out.below HBV.out Ht.out.1)
   have HLa := Lib.hid (l_all HAV.out (ap_ok Hrl.out rfl))
   have Hge := Lib.hid hge
   clear hV hga hge
   go_wp2_with (first
    | (refine wpList_ld 40 rfl rfl HLa.out rfl ?_)
    | fail)
   refine (Check_any (ap s e r z16) (ap_ok Hrl.out rfl) none 0 0 rfl _).mono ?_
   rintro x w2 ⟨rfl, hb2⟩
   rw [chk_ap]
   have HB2 := Lib.hid (nextB HBV.out (Nat.le_refl _) hb2)
   have HK2 := Lib.hid (HKV.out.below hb2 HKV.out.lt)
   have HP2 := Lib.hid (HPV.out.below hb2 HPV.out.lt)
   have HA2 := Lib.hid (HAV.out.below hb2 HAV.out.lt)
   have HN2 := Lib.hid (HNV.out.below hb2 HNV.out.lt)
   have HZ2 := Lib.hid (HZV.out.below hb2 HZV.out.lt)
   have HT2 := Lib.hid (HTV.out.below hb2 HTV.out.1)
   clear hb2
   by_cases ha : ansOk s e
   · rw [if_pos ha]
     have Ha := Lib.hid ha
     clear ha
     go_wp2_with fail
     refine Tail.marksAt Pol.mixed 6 Grew [By.is (arr8 key),
      By.is p.val,
      By.is (ap s e r z16).val,
      bssM (answerL p (ap s e r z16)),
      By.is (arr8 M),
      By.is (.pointer (some ⟨ga, 21, none⟩))]
      (Ev.masks _ []) (Nat.zero_lt_succ _) (by kernel_rfl) (by kernel_rfl) rfl Grew.refl Grew.trans ⟨?_, ?_, ?_, ?_, ?_, ?_, trivial⟩ ?_
     · intro a w ht hs hg
       have h5 := By.same_get hs 5 (by decide) (by kernel_rfl)
       refine By.yes rfl ?_
       clear hs hg
       have hr := l_a32 (Row.below (w := w2.drew) HK2.out ht HK2.out.lt) Hkl.out
       refine wp_ld 24 _ rfl h5 hr ?_
       exact ⟨_, rfl, Grew.refl _, rfl⟩
     · intro a w ht hs hg
       have h6 := By.same_get hs 6 (by decide) (by kernel_rfl)
       refine By.yes rfl ?_
       clear hs hg
       have hr := l_all (Row.below (w := w2.drew) HP2.out ht HP2.out.lt) Ho.out
       refine wp_ld 40 _ rfl h6 hr ?_
       exact ⟨_, rfl, Grew.refl _, rfl⟩
     · intro a w ht hs hg
       have h14 := By.same_get hs 14 (by decide) (by kernel_rfl)
       refine By.yes rfl ?_
       clear hs hg
       have hr := l_all (Row.below (w := w2.drew) HA2.out ht HA2.out.lt) (ap_ok Hrl.out rfl)
       refine wp_ld 40 _ rfl h14 hr ?_
       exact ⟨_, rfl, Grew.refl _, rfl⟩
     · intro a w ht hs hg
       have h36 : a.tmps.getD 36 undef = _ := By.given_get hg 1 rfl rfl (by kernel_rfl)
       have h37 : a.tmps.getD 37 undef = _ := By.given_get hg 2 rfl rfl (by kernel_rfl)
       refine By.yes rfl ?_
       clear hs hg
       clear ht
       unfold Pk.val at h36 h37
       go_simp
       refine (answerBytes_any p (ap s e r z16) Ho.out (ap_ok Hrl.out rfl) w).mono ?_
       rintro x w' ⟨v, rfl, hv, hb⟩
       exact ⟨_, rfl, hb, hv⟩
     · intro a w ht hs hg
       have h35 : a.tmps.getD 35 undef = _ := By.given_get hg 0 rfl rfl (by kernel_rfl)
       have h38 := By.given_get hg 3 rfl rfl (by kernel_rfl)
       refine By.yes rfl ?_
       obtain ⟨v38, hv38⟩ : ∃ v, a.tmps.getD 38 undef = v := ⟨_, rfl⟩
       replace h38 := (congrArg (fun v => ((bssM (answerL p (ap s e r z16)))).on v w) hv38).mp h38
       clear hs hg
       have HTw := Lib.hid (HT2.out.below (grew_below ht) HT2.out.1)
       have HLw := Lib.hid h38
       obtain ⟨A8, c8, rfl, _, _⟩ := id HLw.out
       clear ht h38
       unfold arr8 at h35
       go_simp
       have hfw := few_answer (p := p) (q := ap s e r z16) Ho.out (ap_ok Hrl.out rfl)
       refine (Mark_any key answer6 (answerL p (ap s e r z16)) _ Hkl.out (by decide) w HTw.out HLw.out hfw.n hfw.m hfw.f).mono ?_
       rintro x w8 ⟨rfl, hb8⟩
       exact ⟨_, rfl, hb8, congrArg arr8 HM.out⟩
     · intro a w ht hs hg
       have h14 := By.same_get hs 14 (by decide) (by kernel_rfl)
       refine By.yes rfl ?_
       clear hs hg
       go_simp
       exact ⟨_, rfl, Grew.refl _, rfl⟩
     refine By.ends_is (By.ends_is (By.ends_is (By.ends_skip fun v38 => (By.ends_is (By.ends_is (By.ends_nil fun w3 hw3 => ?_))))))
     simp only [Act.put, List.setIfInBounds_toArray, List.set_cons_succ, List.set_cons_zero]
     simp only [List.drop_succ_cons, List.drop_zero]
     have hbw := grew_below hw3
     have HB3 := Lib.hid (nextB HB2.out (Nat.le_refl _) hbw)
     have HK3 := Lib.hid (HK2.out.below hbw HK2.out.lt)
     have HP3 := Lib.hid (HP2.out.below hbw HP2.out.lt)
     have HA3 := Lib.hid (HA2.out.below hbw HA2.out.lt)
     have HN3 := Lib.hid (HN2.out.below hbw HN2.out.lt)
     have HZ3 := Lib.hid (HZ2.out.below hbw HZ2.out.lt)
     clear hw3 hbw
     refine Pol.wpList_storeSub (n := 16) rfl 38 (.tmp 40) (.tmp 39) rfl rfl rfl (cs := M.map bv) HA3.out (by kernel_rfl) (by rw [List.length_map]; exact HMl.out) (by rw [List.length_map, HMl.out, Pk.length (ap_ok Hrl.out rfl)]; omega) (hbytes_one M) ?_
     rw [Pkt.sp_mrk _ (ap_ok Hrl.out rfl) M HMl.out]
     refine wpList_name fun W4 hV => ?_
     have hge := Hge.out
     have HK4 := Lib.hid (show Row W4 (w.heap.size) (key.map bv) 24 by rw [← hV]; exact HK3.out.setOther _ _ (by omega))
     have HP4 := Lib.hid (show Row W4 (w.heap.size + 1) p.cells 40 by rw [← hV]; exact HP3.out.setOther _ _ (by omega))
     have HN4 := Lib.hid (show Row W4 (w.heap.size + 1 + 1 + 1) (nm 0).cells 40 by rw [← hV]; exact HN3.out.setOther _ _ (by omega))
     have HZ4 := Lib.hid (show Row W4 (w.heap.size + 1 + 1 + 1 + 1) z32 24 by rw [← hV]; exact HZ3.out.setOther _ _ (by omega))
     have HA4 := Lib.hid (show Row W4 ga (ap s e r M).cells 40 by rw [← hV]; exact HA3.out.setRow _)
     have HB4 := Lib.hid (show Below w.heap.size w W4 by rw [← hV]; exact below_setRow HB3.out (by omega) _)
     have HT4 := Lib.hid (Ht.out.below HB4.out Ht.out.1)
     clear hV hge
     go_wp2_with fail
     refine Tail.marksAt Pol.mixed 5 Grew [By.is (ap s e r M).val,
      By.is (arr8 key),
      By.is p.val,
      By.is (ap s e r M).val,
      By.is (arr8 O)]
      (Ev.masks _ []) (Nat.zero_lt_succ _) (by kernel_rfl) (by kernel_rfl) rfl Grew.refl Grew.trans ⟨?_, ?_, ?_, ?_, ?_, trivial⟩ ?_
     · intro a w ht hs hg
       have h14 := By.same_get hs 14 (by decide) (by kernel_rfl)
       refine By.yes rfl ?_
       clear hs hg
       have hr := l_all (Row.below (w := W4.drew) HA4.out ht HA4.out.lt) (ap_ok Hrl.out HMl.out)
       refine wp_ld 40 _ rfl h14 hr ?_
       exact ⟨_, rfl, Grew.refl _, rfl⟩
     · intro a w ht hs hg
       have h5 := By.same_get hs 5 (by decide) (by kernel_rfl)
       refine By.yes rfl ?_
       clear hs hg
       have hr := l_a32 (Row.below (w := W4.drew) HK4.out ht HK4.out.lt) Hkl.out
       refine wp_ld 24 _ rfl h5 hr ?_
       exact ⟨_, rfl, Grew.refl _, rfl⟩
     · intro a w ht hs hg
       have h6 := By.same_get hs 6 (by decide) (by kernel_rfl)
       refine By.yes rfl ?_
       clear hs hg
       have hr := l_all (Row.below (w := W4.drew) HP4.out ht HP4.out.lt) Ho.out
       refine wp_ld 40 _ rfl h6 hr ?_
       exact ⟨_, rfl, Grew.refl _, rfl⟩
     · intro a w ht hs hg
       have h14 := By.same_get hs 14 (by decide) (by kernel_rfl)
       refine By.yes rfl ?_
       clear hs hg
       have hr := l_all (Row.below (w := W4.drew) HA4.out ht HA4.out.lt) (ap_ok Hrl.out HMl.out)
       refine wp_ld 40 _ rfl h14 hr ?_
       exact ⟨_, rfl, Grew.refl _, rfl⟩
     · intro a w ht hs hg
       have h42 : a.tmps.getD 42 undef = _ := By.given_get hg 1 rfl rfl (by kernel_rfl)
       have h43 : a.tmps.getD 43 undef = _ := By.given_get hg 2 rfl rfl (by kernel_rfl)
       have h44 : a.tmps.getD 44 undef = _ := By.given_get hg 3 rfl rfl (by kernel_rfl)
       refine By.yes rfl ?_
       clear hs hg
       have HTw := Lib.hid (HT4.out.below (grew_below ht) HT4.out.1)
       clear ht
       unfold arr8 at h42
       unfold Pk.val at h43 h44
       go_simp
       refine (Secret_any key p (ap s e r M) Hkl.out Ho.out (ap_ok Hrl.out HMl.out) w HTw.out).mono ?_
       rintro x w8 ⟨rfl, hb8⟩
       exact ⟨_, rfl, hb8, congrArg arr8 HO.out⟩
     refine By.ends_is (By.ends_is (By.ends_is (By.ends_is (By.ends_is (By.ends_nil fun w5 hw5 => ?_)))))
     simp only [Act.put, List.setIfInBounds_toArray, List.set_cons_succ, List.set_cons_zero]
     simp only [List.drop_succ_cons, List.drop_zero]
     have hbw := grew_below hw5
     have HB5 := Lib.hid (nextB HB4.out (Nat.le_refl _) hbw)
     have HN5 := Lib.hid (HN4.out.below hbw HN4.out.lt)
     have HZ5 := Lib.hid (HZ4.out.below hbw HZ4.out.lt)
     clear hw5 hbw
     refine wpList_storeRow (g := w.heap.size + 1 + 1 + 1) rfl 40 (.tmp 10) (.tmp 41) rfl rfl rfl (cs := (ap s e r M).cells) HN5.out (by kernel_rfl) (Pk.length (ap_ok Hrl.out HMl.out)) (Pk.length nm_ok) (Pk.one (ap_ok Hrl.out HMl.out)) ?_
     refine wpList_storeRow (g := w.heap.size + 1 + 1 + 1 + 1) rfl 24 (.tmp 11) (.tmp 45) rfl rfl rfl (cs := O.map bv) (HZ5.out.setOther _ _ (by omega)) (by kernel_rfl) HOl.out rfl (hbytes_one O) ?_
     go_wp2_with fail
     have hrP := (HN5.out.setRow (ap s e r M).cells).setOther (w.heap.size + 1 + 1 + 1 + 1) (O.map bv).toArray (by omega)
     have hrA := (HZ5.out.setOther (w.heap.size + 1 + 1 + 1) (ap s e r M).cells.toArray (by omega)).setRow (O.map bv)
     refine bodyPost_ret (results_cct rfl rfl hrP Tryd.underlying40 rfl (by kernel_rfl) (Pk.length (ap_ok Hrl.out HMl.out)) rfl hrA Tryd.underlying24 rfl (by kernel_rfl) HOl.out) rfl ?_
     exact ⟨by rw [← HRes.out, if_pos trivial, if_pos Ha.out]; rfl, below_setRow (below_setRow HB5.out (by omega) _) (by omega) _⟩
   · rw [if_neg ha]
     have Ha := Lib.hid ha
     clear ha
     go_wp2_with (first
      | (show wpList _ _ _ (⟨some 32, _, _, _, _, _⟩ :: _) _ _; refine wpList_build rfl _ _ rfl (v := (nm 0).val) (by kernel_rfl) ?_)
      | (show wpList _ _ _ (⟨some 33, _, _, _, _, _⟩ :: _) _ _; refine wpList_build rfl _ _ rfl (v := .agg z32.toArray) (by kernel_rfl) ?_)
      | (show wpList _ _ _ (⟨none, Op.store 40 _ _, _, _, _, _⟩ :: _) _ _
         refine wpList_storeRow (g := w.heap.size + 1 + 1 + 1) rfl 40 _ _ rfl rfl rfl (cs := (nm 0).cells) HN2.out (by kernel_rfl) (Pk.length nm_ok) (Pk.length nm_ok) (Pk.one nm_ok) ?_)
      | (show wpList _ _ _ (⟨none, Op.store 24 _ _, _, _, _, _⟩ :: _) _ _
         refine wpList_storeRow (g := w.heap.size + 1 + 1 + 1 + 1) rfl 24 _ _ rfl rfl rfl (cs := z32) (HZ2.out.setOther _ _ (by omega)) (by kernel_rfl) rfl rfl z32_one ?_)
      | fail)
     have hrP := (HN2.out.setRow (nm 0).cells).setOther (w.heap.size + 1 + 1 + 1 + 1) z32.toArray (by omega)
     have hrA := (HZ2.out.setOther (w.heap.size + 1 + 1 + 1) (nm 0).cells.toArray (by omega)).setRow z32
     refine bodyPost_ret (results_cct rfl rfl hrP Tryd.underlying40 rfl (by kernel_rfl) (Pk.length nm_ok) rfl hrA Tryd.underlying24 rfl (by kernel_rfl) rfl) rfl ?_
     exact ⟨by rw [← HRes.out, if_pos trivial, if_neg Ha.out]; rfl, below_setRow (below_setRow HB2.out (by omega) _) (by omega) _⟩
 · have hcc : (C != 0) = true := by simp [hc]
   have Hc := Lib.hid hc
   clear hc
   go_wp2_with (first
    | (show wpList _ _ _ (⟨some 21, _, _, _, _, _⟩ :: _) _ _; refine wpList_build rfl _ _ rfl (v := (nm 0).val) (by kernel_rfl) ?_)
    | (show wpList _ _ _ (⟨some 22, _, _, _, _, _⟩ :: _) _ _; refine wpList_build rfl _ _ rfl (v := .agg z32.toArray) (by kernel_rfl) ?_)
    | (show wpList _ _ _ (⟨none, Op.store 40 _ _, _, _, _, _⟩ :: _) _ _
       refine wpList_storeRow (g := w.heap.size + 1 + 1 + 1) rfl 40 _ _ rfl rfl rfl (cs := (nm 0).cells) HN1.out (by kernel_rfl) (Pk.length nm_ok) (Pk.length nm_ok) (Pk.one nm_ok) ?_)
    | (show wpList _ _ _ (⟨none, Op.store 24 _ _, _, _, _, _⟩ :: _) _ _
       refine wpList_storeRow (g := w.heap.size + 1 + 1 + 1 + 1) rfl 24 _ _ rfl rfl rfl (cs := z32) (HZ1.out.setOther _ _ (by omega)) (by kernel_rfl) rfl rfl z32_one ?_)
    | fail)
   have hrP := (HN1.out.setRow (nm 0).cells).setOther (w.heap.size + 1 + 1 + 1 + 1) z32.toArray (by omega)
   have hrA := (HZ1.out.setOther (w.heap.size + 1 + 1 + 1) (nm 0).cells.toArray (by omega)).setRow z32
   refine bodyPost_ret (results_cct rfl rfl hrP Tryd.underlying40 rfl (by kernel_rfl) (Pk.length nm_ok) rfl hrA Tryd.underlying24 rfl (by kernel_rfl) rfl) rfl ?_
   exact ⟨by rw [← HRes.out, if_neg Hc.out]; rfl, below_setRow (below_setRow HB1.out (by omega) _) (by omega) _⟩
end Go.Proofs.YtbdpnpabpcidkaaDoor.Shk
namespace Go.Proofs.YtbdpnpabpcidkaaDoor.Shk
open Go.RowKit
open Pkt (Pk code_name wpList_name wpList_ld l_all c_ses Head BodyOk chk Check_any nm z16)
theorem results_c2 {P : Program} {fn : Func} {tmps : Array Value} {w : World} {p t : Tmp} {ty : TypeId} (hr : fn.results = #[.cell p ty, .tmp t]) {g : Nat} {t' : TypeId} {cs : List Value} {d : TypeDesc}
 (hp : tmps.getD p undef = .pointer (some ⟨g, 0, none⟩)) (h : Row w g cs t') (hu : P.underlying ty = some d) (hd : (match d with | .struct _ | .array _ _ => true | _ => false) = true) {n : Nat} (hi : (P.info? ty).map (·.size) = some n) (hn : cs.length = n) :
 (results fn tmps).run P w = .ok (.tuple #[.agg cs.toArray, tmps.getD t undef]) w := results_ct hr hp h hu hd hi hn
def cansV (key : List UInt8) (p q : Pk) (n m : Nat) : Value :=
 if ckH key p n = 0 then (if ckA key p q m = 0 then .tuple #[arr8 (secL key p q), .int .i64 0] else .tuple #[.agg z32.toArray, .int .i64 (ckA key p q m)]) else .tuple #[.agg z32.toArray, .int .i64 (ckH key p n)]
set_option maxRecDepth 100000 in
set_option maxHeartbeats 2000000 in
theorem CheckAnswer_any (key : List UInt8) (p q : Pk) (hk : key.length = 32) (ho : p.Ok) (hq : q.Ok) (A A2 : Option Addr) (n m c c2 : Nat) (hbo : p.bo = .slice A n c) (hbq : q.bo = .slice A2 m c2) (w : World) (ht : Tab w) :
 Calls Tryd.prog 30 #[arr8 key, p.val, q.val] w fun x w' => x = .returned (cansV key p q n m) ∧ Below w.heap.size w w' := by
 have Hkl := Lib.hid hk
 have Ho := Lib.hid ho
 have Hq := Lib.hid hq
 have Hbo := Lib.hid hbo
 have Hbq := Lib.hid hbq
 have Ht := Lib.hid ht
 obtain ⟨C, hC⟩ : ∃ C, ckH key p n = C := ⟨_, rfl⟩
 obtain ⟨D, hD⟩ : ∃ D, ckA key p q m = D := ⟨_, rfl⟩
 obtain ⟨O, hO⟩ : ∃ O, secL key p q = O := ⟨_, rfl⟩
 have HOl := Lib.hid (show (O.map bv).length = 32 by rw [List.length_map, ← hO]; exact secL_length _ _ _)
 have HO := Lib.hid hO
 have HC := Lib.hid hC
 have HD := Lib.hid hD
 obtain ⟨R, hR⟩ : ∃ R, cansV key p q n m = R := ⟨_, rfl⟩
 rw [hR]
 rw [cansV, hC, hD, hO] at hR
 have HRes := Lib.hid hR
 have HB0 := Lib.hid (show Below w.heap.size w ((((w.alloc (.cells (key.map bv).toArray 24)).alloc (.cells p.cells.toArray 40)).alloc (.cells q.cells.toArray 40)).alloc (.cells z32.toArray 24)) from ((((Below.refl _ w).alloc (Nat.le_refl _) _).alloc (by simp) _).alloc (by simp; omega) _).alloc (by simp; omega) _)
 have HK := Lib.hid (show Row ((((w.alloc (.cells (key.map bv).toArray 24)).alloc (.cells p.cells.toArray 40)).alloc (.cells q.cells.toArray 40)).alloc (.cells z32.toArray 24)) (w.heap.size) (key.map bv) 24 from (((Row.new rfl rfl).alloc _).alloc _).alloc _)
 have HP := Lib.hid (show Row ((((w.alloc (.cells (key.map bv).toArray 24)).alloc (.cells p.cells.toArray 40)).alloc (.cells q.cells.toArray 40)).alloc (.cells z32.toArray 24)) (w.heap.size + 1) p.cells 40 from ((Row.new (by simp) rfl).alloc _).alloc _)
 have HQ := Lib.hid (show Row ((((w.alloc (.cells (key.map bv).toArray 24)).alloc (.cells p.cells.toArray 40)).alloc (.cells q.cells.toArray 40)).alloc (.cells z32.toArray 24)) (w.heap.size + 1 + 1) q.cells 40 from (Row.new (by simp) rfl).alloc _)
 have HZ := Lib.hid (show Row ((((w.alloc (.cells (key.map bv).toArray 24)).alloc (.cells p.cells.toArray 40)).alloc (.cells q.cells.toArray 40)).alloc (.cells z32.toArray 24)) (w.heap.size + 1 + 1 + 1) z32 24 from Row.new (by simp) rfl)
 have hrun := l_a32 HK.out hk
 unfold arr8 at hrun
 have HRr := Lib.hid hrun
 clear hk ho hq hbo hbq ht hR hrun hC hD hO
 unfold arr8 Pk.val
 go_enter Tryd.func30, Tryd.ntmps30
 go_wp2_with (first
  | (refine wpList_ld 24 rfl rfl HRr.out rfl ?_
     refine wpList_name fun W0 hW0 => ?_
     refine sstop ?_)
  | fail)
 unfold SStop
 have HK0 := Lib.hid (show Row W0 (w.heap.size) (key.map bv) 24 from hW0 ▸ HK.out)
 have HP0 := Lib.hid (show Row W0 (w.heap.size + 1) p.cells 40 from hW0 ▸ HP.out)
 have HQ0 := Lib.hid (show Row W0 (w.heap.size + 1 + 1) q.cells 40 from hW0 ▸ HQ.out)
 have HZ0 := Lib.hid (show Row W0 (w.heap.size + 1 + 1 + 1) z32 24 from hW0 ▸ HZ.out)
 have HBW := Lib.hid (show Below w.heap.size w W0 from hW0 ▸ HB0.out)
 have HLd := Lib.hid (l_all HP0.out Ho.out)
 have HT0 := Lib.hid (Ht.out.below HBW.out Ht.out.1)
 clear hW0
 go_wp2_with (first
  | (refine wpList_ld 40 rfl rfl HLd.out rfl ?_)
  | fail)
 refine (CheckHello_any key p Hkl.out Ho.out A n c Hbo.out W0 HT0.out).mono ?_
 rintro x w1 ⟨rfl, hb1⟩
 rw [show chkk p n 1 (mark key (hello5 ++ (helloL p).flatten)) = C from HC.out]
 have HB1 := Lib.hid (nextB HBW.out (Nat.le_refl _) hb1)
 have HK1 := Lib.hid (HK0.out.below hb1 HK0.out.lt)
 have HP1 := Lib.hid (HP0.out.below hb1 HP0.out.lt)
 have HQ1 := Lib.hid (HQ0.out.below hb1 HQ0.out.lt)
 have HZ1 := Lib.hid (HZ0.out.below hb1 HZ0.out.lt)
 have HT1 := Lib.hid (HT0.out.below hb1 HT0.out.1)
 clear hb1
 by_cases hc : C = 0
 · subst hc
   go_wp2_with fail
   refine By.marks Pol.mixed Grew [By.is (arr8 key),
    By.is q.val,
    By.is p.val,
    By.is q.val,
    bssM (answerL p q),
    By.is (.int .i64 D),
    By.is (.int .i64 D)]
    (Ev.masks _ []) (by kernel_rfl) rfl Grew.refl Grew.trans ⟨?_, ?_, ?_, ?_, ?_, ?_, ?_, trivial⟩ ?_
   · intro a w ht hs hg
     have h3 := By.same_get hs 3 (by decide) (by kernel_rfl)
     refine By.yes rfl ?_
     clear hs hg
     have hr := l_a32 (Row.below (w := w1.drew) HK1.out ht HK1.out.lt) Hkl.out
     refine wp_ld 24 _ rfl h3 hr ?_
     exact ⟨_, rfl, Grew.refl _, rfl⟩
   · intro a w ht hs hg
     have h5 := By.same_get hs 5 (by decide) (by kernel_rfl)
     refine By.yes rfl ?_
     clear hs hg
     have hr := l_all (Row.below (w := w1.drew) HQ1.out ht HQ1.out.lt) Hq.out
     refine wp_ld 40 _ rfl h5 hr ?_
     exact ⟨_, rfl, Grew.refl _, rfl⟩
   · intro a w ht hs hg
     have h4 := By.same_get hs 4 (by decide) (by kernel_rfl)
     refine By.yes rfl ?_
     clear hs hg
     have hr := l_all (Row.below (w := w1.drew) HP1.out ht HP1.out.lt) Ho.out
     refine wp_ld 40 _ rfl h4 hr ?_
     exact ⟨_, rfl, Grew.refl _, rfl⟩
   · intro a w ht hs hg
     have h5 := By.same_get hs 5 (by decide) (by kernel_rfl)
     refine By.yes rfl ?_
     clear hs hg
     have hr := l_all (Row.below (w := w1.drew) HQ1.out ht HQ1.out.lt) Hq.out
     refine wp_ld 40 _ rfl h5 hr ?_
     exact ⟨_, rfl, Grew.refl _, rfl⟩
   · intro a w ht hs hg
     have h19 : a.tmps.getD 19 undef = _ := By.given_get hg 2 rfl rfl (by kernel_rfl)
     have h20 : a.tmps.getD 20 undef = _ := By.given_get hg 3 rfl rfl (by kernel_rfl)
     refine By.yes rfl ?_
     clear hs hg
     clear ht
     unfold Pk.val at h19 h20
     go_simp
     refine (answerBytes_any p q Ho.out Hq.out w).mono ?_
     rintro x w' ⟨v, rfl, hv, hb⟩
     exact ⟨_, rfl, hb, hv⟩
   · intro a w ht hs hg
     have h17 : a.tmps.getD 17 undef = _ := By.given_get hg 0 rfl rfl (by kernel_rfl)
     have h18 : a.tmps.getD 18 undef = _ := By.given_get hg 1 rfl rfl (by kernel_rfl)
     have h21 := By.given_get hg 4 rfl rfl (by kernel_rfl)
     refine By.yes rfl ?_
     obtain ⟨v21, hv21⟩ : ∃ v, a.tmps.getD 21 undef = v := ⟨_, rfl⟩
     replace h21 := (congrArg (fun v => ((bssM (answerL p q))).on v w) hv21).mp h21
     clear hs hg
     have HTw := Lib.hid (HT1.out.below (grew_below ht) HT1.out.1)
     have HLw := Lib.hid h21
     obtain ⟨A8, c8, rfl, _, _⟩ := id HLw.out
     clear ht h21
     unfold arr8 at h17
     unfold Pk.val at h18
     go_simp
     refine (check_any key answer6 q 2 (answerL p q) _ Hkl.out Hq.out A2 m c2 Hbq.out (by decide) w HTw.out HLw.out (few_answer Ho.out Hq.out)).mono ?_
     rintro x w8 ⟨rfl, hb8⟩
     exact ⟨_, rfl, hb8, congrArg (Value.int .i64) HD.out⟩
   · intro a w ht hs hg
     have h22 : a.tmps.getD 22 undef = _ := By.given_get hg 5 rfl rfl (by kernel_rfl)
     refine By.yes rfl ?_
     clear hs hg
     go_simp
     exact ⟨_, rfl, Grew.refl _, rfl⟩
   refine By.ends_is (By.ends_is (By.ends_is (By.ends_is (By.ends_skip fun v21 => (By.ends_is (By.ends_is (By.ends_nil fun w2 hw2 => ?_)))))))
   simp only [Act.put, List.setIfInBounds_toArray, List.set_cons_succ, List.set_cons_zero]
   have hbw := grew_below hw2
   have HB2 := Lib.hid (nextB HB1.out (Nat.le_refl _) hbw)
   have HK2 := Lib.hid (HK1.out.below hbw HK1.out.lt)
   have HP2 := Lib.hid (HP1.out.below hbw HP1.out.lt)
   have HQ2 := Lib.hid (HQ1.out.below hbw HQ1.out.lt)
   have HZ2 := Lib.hid (HZ1.out.below hbw HZ1.out.lt)
   have HT2 := Lib.hid (Ht.out.below HB2.out Ht.out.1)
   clear hw2 hbw
   by_cases hd : D = 0
   · subst hd
     have hlk := l_a32 HK2.out Hkl.out
     unfold arr8 at hlk
     have HLk := Lib.hid hlk
     have HLp := Lib.hid (l_all HP2.out Ho.out)
     have HLq := Lib.hid (l_all HQ2.out Hq.out)
     clear hlk
     go_wp2_with (first
      | (refine wpList_ld 24 rfl rfl HLk.out rfl ?_)
      | (refine wpList_ld 40 rfl rfl HLp.out rfl ?_)
      | (refine wpList_ld 40 rfl rfl HLq.out rfl ?_)
      | fail)
     refine (Secret_any key p q Hkl.out Ho.out Hq.out w2 HT2.out).mono ?_
     rintro x w3 ⟨rfl, hb3⟩
     rw [HO.out]
     have HB3 := Lib.hid (nextB HB2.out (Nat.le_refl _) hb3)
     have HZ3 := Lib.hid (HZ2.out.below hb3 HZ2.out.lt)
     clear hb3
     unfold arr8
     go_wp2_with (first
      | (show wpList _ _ _ (⟨none, Op.store 24 _ _, _, _, _, _⟩ :: _) _ _
         refine wpList_storeRow (g := w.heap.size + 1 + 1 + 1) rfl 24 _ _ rfl rfl rfl (cs := O.map bv) HZ3.out (by kernel_rfl) HOl.out rfl (hbytes_one O) ?_)
      | fail)
     refine bodyPost_ret (results_c2 rfl rfl (HZ3.out.setRow (O.map bv)) Tryd.underlying24 rfl (by kernel_rfl) HOl.out) rfl ?_
     exact ⟨by rw [← HRes.out, if_pos trivial, if_pos trivial]; rfl, below_setRow HB3.out (by omega) _⟩
   · have hdd : (D != 0) = true := by simp [hd]
     have Hd := Lib.hid hd
     clear hd
     go_wp2_with (first
      | (show wpList _ _ _ (⟨some 25, _, _, _, _, _⟩ :: _) _ _; refine wpList_build rfl _ _ rfl (v := .agg z32.toArray) (by kernel_rfl) ?_)
      | (show wpList _ _ _ (⟨none, Op.store 24 _ _, _, _, _, _⟩ :: _) _ _
         refine wpList_storeRow (g := w.heap.size + 1 + 1 + 1) rfl 24 _ _ rfl rfl rfl (cs := z32) HZ2.out (by kernel_rfl) rfl rfl z32_one ?_)
      | fail)
     refine bodyPost_ret (results_c2 rfl rfl (HZ2.out.setRow z32) Tryd.underlying24 rfl (by kernel_rfl) rfl) rfl ?_
     exact ⟨by rw [← HRes.out, if_pos trivial, if_neg Hd.out]; rfl, below_setRow HB2.out (by omega) _⟩
 · have hcc : (C != 0) = true := by simp [hc]
   have Hc := Lib.hid hc
   clear hc
   go_wp2_with (first
    | (show wpList _ _ _ (⟨some 15, _, _, _, _, _⟩ :: _) _ _; refine wpList_build rfl _ _ rfl (v := .agg z32.toArray) (by kernel_rfl) ?_)
    | (show wpList _ _ _ (⟨none, Op.store 24 _ _, _, _, _, _⟩ :: _) _ _
       refine wpList_storeRow (g := w.heap.size + 1 + 1 + 1) rfl 24 _ _ rfl rfl rfl (cs := z32) HZ1.out (by kernel_rfl) rfl rfl z32_one ?_)
    | fail)
   refine bodyPost_ret (results_c2 rfl rfl (HZ1.out.setRow z32) Tryd.underlying24 rfl (by kernel_rfl) rfl) rfl ?_
   exact ⟨by rw [← HRes.out, if_neg Hc.out]; rfl, below_setRow HB1.out (by omega) _⟩
end Go.Proofs.YtbdpnpabpcidkaaDoor.Shk
namespace Go.Proofs.YtbdpnpabpcidkaaDoor.Shk
open Go.RowKit
open Pkt (Pk Head BodyOk chk nm z16)
theorem head_hp (z : Int) (r m : List UInt8) (h : helloOk z) : Head (hp z r m) ∧ BodyOk (hp z r m) 0 := by
 have h1 := chk_hp z r m
 rw [if_pos h] at h1
 unfold chk at h1
 by_cases h2 : Head (hp z r m) ∧ BodyOk (hp z r m) 0
 · exact h2
 · rw [if_neg h2] at h1; cases h1
theorem head_ap (s e : Nat) (r m : List UInt8) (h : ansOk s e) : Head (ap s e r m) ∧ BodyOk (ap s e r m) 0 := by
 have h1 := chk_ap s e r m
 rw [if_pos h] at h1
 unfold chk at h1
 by_cases h2 : Head (ap s e r m) ∧ BodyOk (ap s e r m) 0
 · exact h2
 · rw [if_neg h2] at h1; cases h1
theorem ckH_hp (key : List UInt8) (z : Int) (r m : List UInt8) (h : helloOk z) : ckH key (hp z r m) 0 = if m = mark key (hello5 ++ (helloL (hp z r z16)).flatten) then 0 else 12 := by
 rw [ckH, chkk, if_pos (head_hp z r m h), if_pos (show (hp z r m).kind = 1 from rfl)]
 rfl
theorem ckH_hello (key : List UInt8) (z : Int) (r : List UInt8) (h : helloOk z) : ckH key (helloP key z r) 0 = 0 := by
 rw [helloP, ckH_hp key z r _ h, if_pos rfl]
theorem ckA_ap (key : List UInt8) (p : Pk) (s e : Nat) (r m : List UInt8) (h : ansOk s e) : ckA key p (ap s e r m) 0 = if m = mark key (answer6 ++ (answerL p (ap s e r z16)).flatten) then 0 else 12 := by
 rw [ckA, chkk, if_pos (head_ap s e r m h), if_pos (show (ap s e r m).kind = 2 from rfl)]
 rfl
theorem ckA_answer (key : List UInt8) (p : Pk) (s e : Nat) (r : List UInt8) (h : ansOk s e) : ckA key p (answerP key p s e r) 0 = 0 := by
 rw [answerP, ckA_ap key p s e r _ h, if_pos rfl]
theorem helloP_ok (key : List UInt8) (z : Int) {r : List UInt8} (hr : r.length = 16) : (helloP key z r).Ok := hp_ok hr (mark_length _ _)
theorem answerP_ok (key : List UInt8) (p : Pk) (s e : Nat) {r : List UInt8} (hr : r.length = 16) : (answerP key p s e r).Ok := ap_ok hr (mark_length _ _)
theorem ansV_yes {key : List UInt8} {p : Pk} {n s e : Nat} {r : List UInt8} (h : ckH key p n = 0) (h2 : ansOk s e) : ansV key p n s e r = .tuple #[(answerP key p s e r).val, arr8 (secL key p (answerP key p s e r)), .int .i64 0] := by
 rw [ansV, if_pos h, if_pos h2]
theorem ansV_args {key : List UInt8} {p : Pk} {n s e : Nat} {r : List UInt8} (h : ckH key p n = 0) (h2 : ¬ ansOk s e) : ansV key p n s e r = .tuple #[(nm 0).val, .agg z32.toArray, .int .i64 2] := by
 rw [ansV, if_pos h, if_neg h2]
theorem ansV_no {key : List UInt8} {p : Pk} {n s e : Nat} {r : List UInt8} {c : Int} (h : ckH key p n = c) (h2 : c ≠ 0) : ansV key p n s e r = .tuple #[(nm 0).val, .agg z32.toArray, .int .i64 c] := by
 rw [ansV, h, if_neg h2]
theorem cansV_yes {key : List UInt8} {p q : Pk} {n m : Nat} (h : ckH key p n = 0) (h2 : ckA key p q m = 0) : cansV key p q n m = .tuple #[arr8 (secL key p q), .int .i64 0] := by
 rw [cansV, if_pos h, if_pos h2]
/-! Equality of arrays, as it is asked in a law. -/
theorem wpList_bd {P : Program} {ops : Array Oper} {rest : List Oper} {o : Oper} {a : Act} {w : World} {Q : Exit → Act → World → Prop} (t : TypeId) (parts : Array (Nat × Operand)) (ho : o.op = .build t parts) {v : Value}
 (hrun : (Instr.build t (parts.map fun (i, x) => (i, a.eval x))).run P w = .ok v w) (hw : Region.wanted o (yielded ops a.tmps) = true) (hk : wpList P ops Q rest (a.put o.dst v) w) : wpList P ops Q (o :: rest) a w :=
 BigFrame.wpList_want hw fun K hK => by
  unfold Oper.wp execOp
  simp only [ho, Sem.run_bind, Sem.run_pure, Result.andThen_ok, hrun]
  exact hK _ _ hk
theorem eqg (o : BinOp) (ho : o = .eql ∨ o = .neq) (x y : List UInt8) (u v : Operand) (w : World) : (eqGuard o 24 u v (arr8 x) (arr8 y)).run Tryd.prog w = .ok () w := by
 have hg : Tryd.prog.eqGuardType Tryd.prog.depth 24 = false := by kernel_rfl
 unfold arr8
 rcases ho with rfl | rfl <;> simp [eqGuard, Sem.run_bind, hg]
theorem eqv (x y : List UInt8) (hx : x.length = 32) (hy : y.length = 32) (w : World) : (binOp .eql 24 (arr8 x) (arr8 y)).run Tryd.prog w = .ok (.bool (decide (x = y))) w := by
 have h := run_eql_arr8 (P := Tryd.prog) Tryd.underlying24 Tryd.underlying5 (by kernel_rfl) x y hx hy w
 unfold arr8 at h ⊢
 simp [binOp, h]
theorem nev (x y : List UInt8) (hx : x.length = 32) (hy : y.length = 32) (w : World) : (binOp .neq 24 (arr8 x) (arr8 y)).run Tryd.prog w = .ok (.bool (!decide (x = y))) w := by
 have h := run_eql_arr8 (P := Tryd.prog) Tryd.underlying24 Tryd.underlying5 (by kernel_rfl) x y hx hy w
 unfold arr8 at h ⊢
 simp [binOp, h]
end Go.Proofs.YtbdpnpabpcidkaaDoor.Shk
namespace Go.Proofs.YtbdpnpabpcidkaaDoor.Shk
open Go.RowKit
open Pkt (Pk code_name wpList_name wpList_ld l_all nm z16)
def b32 (x : UInt8) : List UInt8 := x :: List.replicate 31 0
def b16 (x : UInt8) : List UInt8 := x :: List.replicate 15 0
theorem h_marks : mark (b32 7) (hello5 ++ (helloL (hp 3 (b16 1) z16)).flatten) ≠ mark (b32 8) (hello5 ++ (helloL (hp 3 (b16 1) z16)).flatten) := by decide +kernel
theorem h_secret : secL (b32 7) (hp 3 (b16 1) z16) (ap 9 2 (b16 2) z16) ≠ List.replicate 32 0 := by decide +kernel
set_option maxRecDepth 100000 in
set_option maxHeartbeats 2000000 in
theorem lives_any (w : World) (ht : Tab w) : Calls Tryd.prog 31 #[] w fun e w' => e = .returned (.bool true) ∧ Below w.heap.size w w' := by
 have HB0 := Lib.hid (Below.refl w.heap.size w)
 have HT0 := Lib.hid ht
 obtain ⟨K, hK⟩ : ∃ K, b32 7 = K := ⟨_, rfl⟩
 obtain ⟨K8, hK8⟩ : ∃ K, b32 8 = K := ⟨_, rfl⟩
 obtain ⟨R1, hR1⟩ : ∃ R, b16 1 = R := ⟨_, rfl⟩
 obtain ⟨R2, hR2⟩ : ∃ R, b16 2 = R := ⟨_, rfl⟩
 obtain ⟨Z, hZ⟩ : ∃ Z, List.replicate 32 (0 : UInt8) = Z := ⟨_, rfl⟩
 have HZe := Lib.hid hZ
 have HZl := Lib.hid (show Z.length = 32 by rw [← hZ]; rfl)
 have HKl := Lib.hid (show K.length = 32 by rw [← hK]; rfl)
 have HK8l := Lib.hid (show K8.length = 32 by rw [← hK8]; rfl)
 have HR1l := Lib.hid (show R1.length = 16 by rw [← hR1]; rfl)
 have HR2l := Lib.hid (show R2.length = 16 by rw [← hR2]; rfl)
 obtain ⟨H, hH⟩ : ∃ H, helloP K 3 R1 = H := ⟨_, rfl⟩
 obtain ⟨Q, hQ⟩ : ∃ Q, answerP K H 9 2 R2 = Q := ⟨_, rfl⟩
 obtain ⟨S, hS⟩ : ∃ S, secL K H Q = S := ⟨_, rfl⟩
 have HHo := Lib.hid (show H.Ok by rw [← hH]; exact helloP_ok K 3 HR1l.out)
 have HHb := Lib.hid (show H.bo = .slice none 0 0 by rw [← hH]; rfl)
 have HQo := Lib.hid (show Q.Ok by rw [← hQ]; exact answerP_ok K H 9 2 HR2l.out)
 have HQb := Lib.hid (show Q.bo = .slice none 0 0 by rw [← hQ]; rfl)
 have HSl := Lib.hid (show S.length = 32 by rw [← hS]; exact secL_length _ _ _)
 have HH1 := Lib.hid (show (if helloOk 3 then Value.tuple #[(helloP K 3 R1).val, .int .i64 0] else .tuple #[(nm 0).val, .int .i64 2]) = .tuple #[H.val, .int .i64 0] by rw [if_pos (by decide), hH])
 have hc : ckH K H 0 = 0 := by rw [← hH]; exact ckH_hello K 3 R1 (by decide)
 have HA1 := Lib.hid (show ansV K H 0 9 2 R2 = .tuple #[Q.val, arr8 S, .int .i64 0] by rw [ansV_yes hc (by decide), hQ, hS])
 have HC1 := Lib.hid (show cansV K H Q 0 0 = .tuple #[arr8 S, .int .i64 0] by rw [cansV_yes hc (by rw [← hQ]; exact ckA_answer K H 9 2 R2 (by decide)), hS])
 have HN := Lib.hid (show S ≠ Z by rw [← hZ, ← hS, ← hQ, ← hH, ← hK, ← hR1, ← hR2]; exact h_secret)
 have H8 := Lib.hid (show chkk H 0 1 (mark K8 (hello5 ++ (helloL H).flatten)) = 12 by
  have h : ckH K8 H 0 = 12 := by
   rw [← hH, helloP, ckH_hp K8 3 R1 _ (by decide), if_neg]
   rw [← hK, ← hK8, ← hR1]
   exact h_marks
  exact h)
 have HKe := Lib.hid hK
 have HK8e := Lib.hid hK8
 have HR1e := Lib.hid hR1
 have HR2e := Lib.hid hR2
 clear ht hZ hK hK8 hR1 hR2 hH hQ hS hc
 go_enter Tryd.func31, Tryd.ntmps31
 go_wp2_with (first
  | (show wpList _ _ _ (⟨some 9, _, _, _, _, _⟩ :: _) _ _; refine wpList_bd _ _ rfl (v := arr8 K) (by rw [← HKe.out]; kernel_rfl) rfl ?_)
  | (show wpList _ _ _ (⟨none, Op.store 24 _ _, _, _, _, _⟩ :: _) _ _
     refine wpList_storeRow (g := w.heap.size) rfl 24 _ _ rfl rfl rfl (cs := K.map bv) (old := z32) (Row.new rfl rfl) (by kernel_rfl) (by rw [List.length_map]; exact HKl.out) rfl (hbytes_one K) ?_
     refine wpList_name fun V hV => ?_
     refine sstop ?_)
  | fail)
 unfold SStop
 have HKV := Lib.hid (show Row V w.heap.size (K.map bv) 24 by rw [← hV]; exact (Row.new rfl rfl : Row (w.alloc (.cells z32.toArray 24)) w.heap.size z32 24).setRow _)
 have HBV := Lib.hid (show Below w.heap.size w V by rw [← hV]; exact below_setRow ((Below.refl _ w).alloc (Nat.le_refl _) _) (by omega) _)
 have HTV := Lib.hid (HT0.out.below HBV.out HT0.out.1)
 clear hV
 have HL1 := Lib.hid (l_a32 HKV.out HKl.out)
 go_wp2_with (first
  | (refine wpList_ld 24 rfl rfl HL1.out rfl ?_)
  | (show wpList _ _ _ (⟨some 12, _, _, _, _, _⟩ :: _) _ _; refine wpList_bd _ _ rfl (v := arr8 R1) (by rw [← HR1e.out]; kernel_rfl) rfl ?_)
  | fail)
 refine (Hello_any K 3 R1 HKl.out HR1l.out V HTV.out).mono ?_
 rintro e w2 ⟨rfl, hb⟩
 rw [HH1.out]
 have HB3 := Lib.hid (nextB HBV.out (Nat.le_refl _) hb)
 have HK3 := Lib.hid (HKV.out.below hb HKV.out.lt)
 have HT3 := Lib.hid (HTV.out.below hb HTV.out.1)
 clear hb
 go_wp2_with (first
  | (show wpList _ _ _ (⟨none, Op.store 40 _ _, _, _, _, _⟩ :: _) _ _
     refine wpList_storeRow (g := w2.heap.size) rfl 40 _ _ rfl rfl rfl (cs := H.cells) (Row.new rfl rfl : Row (w2.alloc (.cells (nm 0).cells.toArray 40)) w2.heap.size (nm 0).cells 40) (by kernel_rfl) (Pk.length HHo.out) (Pk.length nm_ok) (Pk.one HHo.out) ?_
     refine wpList_name fun V hV => ?_
     refine sstop ?_)
  | fail)
 unfold SStop
 obtain ⟨W4, hV2⟩ : ∃ V2, V = V2 := ⟨V, rfl⟩
 rw [hV2] at hV ⊢
 clear hV2
 have hb : Below w2.heap.size w2 W4 := by rw [← hV]; exact (below_setRow ((Below.refl _ w2).alloc (Nat.le_refl _) _) (by omega) _)
 have HH4 := Lib.hid (show Row W4 w2.heap.size H.cells 40 by rw [← hV]; exact ((Row.new rfl rfl : Row (w2.alloc (.cells (nm 0).cells.toArray 40)) w2.heap.size (nm 0).cells 40).setRow _))
 have HB5 := Lib.hid (nextB HB3.out (Nat.le_refl _) hb)
 have HK5 := Lib.hid (HK3.out.below hb HK3.out.lt)
 have HT5 := Lib.hid (HT3.out.below hb HT3.out.1)
 clear hV hb
 have HL6 := Lib.hid (l_a32 HK5.out HKl.out)
 have HL7 := Lib.hid (l_all HH4.out HHo.out)
 go_wp2_with (first
  | (refine wpList_ld 24 rfl rfl HL6.out rfl ?_)
  | (refine wpList_ld 40 rfl rfl HL7.out rfl ?_)
  | (show wpList _ _ _ (⟨some 19, _, _, _, _, _⟩ :: _) _ _; refine wpList_bd _ _ rfl (v := arr8 R2) (by rw [← HR2e.out]; kernel_rfl) rfl ?_)
  | fail)
 refine (Answer_any K H 9 2 R2 HKl.out HHo.out none 0 0 HHb.out HR2l.out W4 HT5.out).mono ?_
 rintro e w8 ⟨rfl, hb⟩
 rw [HA1.out]
 have HB9 := Lib.hid (nextB HB5.out (Nat.le_refl _) hb)
 have HK9 := Lib.hid (HK5.out.below hb HK5.out.lt)
 have HH9 := Lib.hid (HH4.out.below hb HH4.out.lt)
 have HT9 := Lib.hid (HT5.out.below hb HT5.out.1)
 clear hb
 go_wp2_with (first
  | (show wpList _ _ _ (⟨none, Op.store 40 _ _, _, _, _, _⟩ :: _) _ _
     refine wpList_storeRow (g := w8.heap.size) rfl 40 _ _ rfl rfl rfl (cs := Q.cells) ((Row.new rfl rfl : Row (w8.alloc (.cells (nm 0).cells.toArray 40)) w8.heap.size (nm 0).cells 40).alloc _) (by kernel_rfl) (Pk.length HQo.out) (Pk.length nm_ok) (Pk.one HQo.out) ?_)
  | (show wpList _ _ _ (⟨none, Op.store 24 _ _, _, _, _, _⟩ :: _) _ _
     refine wpList_storeRow (g := (w8.heap.size + 1)) rfl 24 _ _ rfl rfl rfl (cs := (S.map bv)) ((Row.new (by simp) rfl : Row ((w8.alloc (.cells (nm 0).cells.toArray 40)).alloc (.cells z32.toArray 24)) (w8.heap.size + 1) z32 24).setOther _ _ (by omega)) (by kernel_rfl) (by rw [List.length_map]; exact HSl.out) rfl (hbytes_one S) ?_
     refine wpList_name fun V hV => ?_
     refine sstop ?_)
  | fail)
 unfold SStop
 obtain ⟨W10, hV2⟩ : ∃ V2, V = V2 := ⟨V, rfl⟩
 rw [hV2] at hV ⊢
 clear hV2
 have hb : Below w8.heap.size w8 W10 := by rw [← hV]; exact (below_setRow (below_setRow (((Below.refl _ w8).alloc (Nat.le_refl _) _).alloc (by simp) _) (by omega) _) (by omega) _)
 have HQ10 := Lib.hid (show Row W10 w8.heap.size Q.cells 40 by rw [← hV]; exact ((((Row.new rfl rfl : Row (w8.alloc (.cells (nm 0).cells.toArray 40)) w8.heap.size (nm 0).cells 40).alloc _).setRow _).setOther _ _ (by omega)))
 have HS10 := Lib.hid (show Row W10 (w8.heap.size + 1) (S.map bv) 24 by rw [← hV]; exact (((Row.new (by simp) rfl : Row ((w8.alloc (.cells (nm 0).cells.toArray 40)).alloc (.cells z32.toArray 24)) (w8.heap.size + 1) z32 24).setOther _ _ (by omega)).setRow _))
 have HB11 := Lib.hid (nextB HB9.out (Nat.le_refl _) hb)
 have HK11 := Lib.hid (HK9.out.below hb HK9.out.lt)
 have HH11 := Lib.hid (HH9.out.below hb HH9.out.lt)
 have HT11 := Lib.hid (HT9.out.below hb HT9.out.1)
 clear hV hb
 have HL12 := Lib.hid (l_a32 HK11.out HKl.out)
 have HL13 := Lib.hid (l_all HH11.out HHo.out)
 have HL14 := Lib.hid (l_all HQ10.out HQo.out)
 go_wp2_with (first
  | (refine wpList_ld 24 rfl rfl HL12.out rfl ?_)
  | (refine wpList_ld 40 rfl rfl HL13.out rfl ?_)
  | (refine wpList_ld 40 rfl rfl HL14.out rfl ?_)
  | fail)
 refine (CheckAnswer_any K H Q HKl.out HHo.out HQo.out none none 0 0 0 0 HHb.out HQb.out W10 HT11.out).mono ?_
 rintro e w15 ⟨rfl, hb⟩
 rw [HC1.out]
 have HB16 := Lib.hid (nextB HB11.out (Nat.le_refl _) hb)
 have HK16 := Lib.hid (HK11.out.below hb HK11.out.lt)
 have HH16 := Lib.hid (HH11.out.below hb HH11.out.lt)
 have HQ16 := Lib.hid (HQ10.out.below hb HQ10.out.lt)
 have HS16 := Lib.hid (HS10.out.below hb HS10.out.lt)
 have HT16 := Lib.hid (HT11.out.below hb HT11.out.1)
 clear hb
 go_wp2_with (first
  | (show wpList _ _ _ (⟨none, Op.store 24 _ _, _, _, _, _⟩ :: _) _ _
     refine wpList_storeRow (g := w15.heap.size) rfl 24 _ _ rfl rfl rfl (cs := (S.map bv)) (Row.new rfl rfl : Row (w15.alloc (.cells z32.toArray 24)) w15.heap.size z32 24) (by kernel_rfl) (by rw [List.length_map]; exact HSl.out) rfl (hbytes_one S) ?_
     refine wpList_name fun V hV => ?_
     refine sstop ?_)
  | fail)
 unfold SStop
 obtain ⟨W17, hV2⟩ : ∃ V2, V = V2 := ⟨V, rfl⟩
 rw [hV2] at hV ⊢
 clear hV2
 have hb : Below w15.heap.size w15 W17 := by rw [← hV]; exact (below_setRow ((Below.refl _ w15).alloc (Nat.le_refl _) _) (by omega) _)
 have HU17 := Lib.hid (show Row W17 w15.heap.size (S.map bv) 24 by rw [← hV]; exact ((Row.new rfl rfl : Row (w15.alloc (.cells z32.toArray 24)) w15.heap.size z32 24).setRow _))
 have HB18 := Lib.hid (nextB HB16.out (Nat.le_refl _) hb)
 have HK18 := Lib.hid (HK16.out.below hb HK16.out.lt)
 have HH18 := Lib.hid (HH16.out.below hb HH16.out.lt)
 have HQ18 := Lib.hid (HQ16.out.below hb HQ16.out.lt)
 have HS18 := Lib.hid (HS16.out.below hb HS16.out.lt)
 have HT18 := Lib.hid (HT16.out.below hb HT16.out.1)
 clear hV hb
 have heg := fun u v w => eqg .eql (.inl rfl) S S u v w
 have hev := fun w => eqv S S HSl.out HSl.out w
 rw [show decide (S = S) = true by simp] at hev
 have hng := fun u v w => eqg .neq (.inr rfl) S Z u v w
 have hnv := fun w => nev S Z HSl.out HZl.out w
 rw [show decide (S = Z) = false from decide_eq_false HN.out] at hnv
 have HL19 := Lib.hid (l_a32 HS18.out HSl.out)
 have HL20 := Lib.hid (l_a32 HU17.out HSl.out)
 have HL21 := Lib.hid (l_all HH18.out HHo.out)
 go_wp2_with (first
  | (refine wpList_ld 24 rfl rfl HL19.out rfl ?_)
  | (refine wpList_ld 24 rfl rfl HL20.out rfl ?_)
  | (refine wpList_ld 40 rfl rfl HL21.out rfl ?_)
  | (show wpList _ _ _ (⟨some 48, _, _, _, _, _⟩ :: _) _ _; refine wpList_bd _ _ rfl (v := arr8 Z) (by rw [← HZe.out]; kernel_rfl) rfl ?_)
  | (show wpList _ _ _ (⟨some 52, _, _, _, _, _⟩ :: _) _ _; refine wpList_bd _ _ rfl (v := arr8 K8) (by rw [← HK8e.out]; kernel_rfl) rfl ?_)
  | fail)
 refine (CheckHello_any K8 H HK8l.out HHo.out none 0 0 HHb.out W17 HT18.out).mono ?_
 rintro e w22 ⟨rfl, hb⟩
 rw [H8.out]
 have HB23 := Lib.hid (nextB HB18.out (Nat.le_refl _) hb)
 have HK23 := Lib.hid (HK18.out.below hb HK18.out.lt)
 have HH23 := Lib.hid (HH18.out.below hb HH18.out.lt)
 have HQ23 := Lib.hid (HQ18.out.below hb HQ18.out.lt)
 have HS23 := Lib.hid (HS18.out.below hb HS18.out.lt)
 have HU23 := Lib.hid (HU17.out.below hb HU17.out.lt)
 have HT23 := Lib.hid (HT18.out.below hb HT18.out.1)
 clear hb
 go_wp2
 go_ret
 exact ⟨rfl, HB23.out⟩
end Go.Proofs.YtbdpnpabpcidkaaDoor.Shk
namespace Go.Proofs.YtbdpnpabpcidkaaDoor.Shk
open Go.RowKit
open Pkt (Pk code_name wpList_name wpList_ld c_peer c_ses c_epo l_all)
theorem wp_list5 {o : Oper} {a : Act} {w : World} {K : Act → World → Prop} {Q : Exit → Act → World → Prop} {v1 v2 v3 v4 v5 : Value} {l1 l2 l3 l4 l5 : List UInt8} (x1 x2 x3 x4 x5 : Operand) (ho : o.op = .buildSlice 22 5 #[(0, x1), (1, x2), (2, x3), (3, x4), (4, x5)])
 (h1 : a.eval x1 = v1) (b1 : Bs w w.heap.size v1 l1) (h2 : a.eval x2 = v2) (b2 : Bs w w.heap.size v2 l2) (h3 : a.eval x3 = v3) (b3 : Bs w w.heap.size v3 l3) (h4 : a.eval x4 = v4) (b4 : Bs w w.heap.size v4 l4) (h5 : a.eval x5 = v5) (b5 : Bs w w.heap.size v5 l5)
 (h : ∀ v' w', FullL w' v' [l1, l2, l3, l4, l5] → Below w.heap.size w w' → K (a.put o.dst v') w') : o.wp Tryd.prog a w K Q := by
 obtain ⟨i, hi, hz, hs, _⟩ := info_bs
 obtain ⟨A1, c1, e1, _⟩ := id b1
 obtain ⟨A2, c2, e2, _⟩ := id b2
 obtain ⟨A3, c3, e3, _⟩ := id b3
 obtain ⟨A4, c4, e4, _⟩ := id b4
 obtain ⟨A5, c5, e5, _⟩ := id b5
 refine wp_buildSlice 22 23 5 #[(0, x1), (1, x2), (2, x3), (3, x4), (4, x5)] ho #[v1, v2, v3, v4, v5] i _ Tryd.underlying22 hi hz (by rw [hs]; decide) (by rw [hs]; decide) ?_ ?_
 · rw [hs, show Array.range (5 * 1) = #[0, 1, 2, 3, 4] from by kernel_rfl]
   subst e1 e2 e3 e4 e5
   simp [Instr.fill, h1, h2, h3, h4, h5, Value.cells]
 · exact h _ _ (fullL_lit w (hne := by simp) (vs := [v1, v2, v3, v4, v5]) (Reads.append (.one b1) (Reads.append (.one b2) (Reads.append (.one b3) (Reads.append (.one b4) (.one b5)))))) ((Below.refl _ w).alloc (Nat.le_refl _) _)
theorem u32_u64 (n : Nat) (h : n < 4294967296) : IntKind.u64.wrap (n : Int) = (n : Int) := by
 rw [show IntKind.u64.wrap (n : Int) = (n : Int) % 18446744073709551616 by simp [IntKind.wrap, IntKind.signed, IntKind.bits]]
 omega
set_option maxRecDepth 100000 in
set_option maxHeartbeats 2000000 in
theorem RAnswerMark_any (key : List UInt8) (p q : Pk) (hk : key.length = 32) (ho : p.Ok) (hq : q.Ok) (he : q.epo < 4294967296) (w : World) (ht : Tab w) :
 Calls Tryd.prog 69 #[arr8 key, p.val, q.val] w fun e w' => e = .returned (arr8 (mark key (answer6 ++ (answerL p q).flatten))) ∧ Below w.heap.size w w' := by
 have Hkl := Lib.hid hk
 have Ho := Lib.hid ho
 have Hq := Lib.hid hq
 have He := Lib.hid he
 have Ht := Lib.hid ht
 obtain ⟨M, hM⟩ : ∃ M, mark key (answer6 ++ (answerL p q).flatten) = M := ⟨_, rfl⟩
 have HMl := Lib.hid (show (M.map bv).length = 16 by rw [List.length_map, ← hM]; exact mark_length _ _)
 have HM := Lib.hid (show mark key (answer6 ++ [Oct.bytesBE 4 (p64 p.peer), p.rnd, Oct.bytesBE 8 q.ses, Oct.bytesBE 4 q.epo, q.rnd].flatten) = M by rw [be4_p64]; exact hM)
 have Hfl := Lib.hid (show [Oct.bytesBE 4 (p64 p.peer), p.rnd, Oct.bytesBE 8 q.ses, Oct.bytesBE 4 q.epo, q.rnd].flatten.length ≤ 100000 by
  simp only [List.flatten_cons, List.flatten_nil, List.append_nil, List.length_append, ho.r, hq.r, Oct.bytesBE]
  simp)
 rw [hM]
 clear hk ho hq ht hM he
 unfold arr8 Pk.val
 go_enter Tryd.func69, Tryd.ntmps69
 go_wp2_with fail
 refine code_name fun W0 hW0 => ?_
 have HK := Lib.hid (show Row W0 w.heap.size (key.map bv) 24 from hW0 ▸ (((Row.new rfl rfl).alloc _).alloc _).alloc _)
 have HP := Lib.hid (show Row W0 (w.heap.size + 1) p.cells 40 from hW0 ▸ ((Row.new (by simp) rfl).alloc _).alloc _)
 have HQ := Lib.hid (show Row W0 (w.heap.size + 1 + 1) q.cells 40 from hW0 ▸ (Row.new (by simp) rfl).alloc _)
 have HO := Lib.hid (show Row W0 (w.heap.size + 1 + 1 + 1) ((List.replicate 16 (0 : UInt8)).map bv) 38 from hW0 ▸ Row.new (by simp) rfl)
 have HB0 := Lib.hid (show Below w.heap.size w W0 from hW0 ▸ ((((Below.refl _ w).alloc (Nat.le_refl _) _).alloc (by simp) _).alloc (by simp; omega) _).alloc (by simp; omega) _)
 have HT := Lib.hid (Ht.out.below HB0.out Ht.out.1)
 clear hW0
 refine Tail.marksAt Pol.mixed 18 Grew [By.is (arr8 key),
  By.is (.pointer (some ⟨(w.heap.size + 1), 1, none⟩)),
  By.is (.int .i64 p.peer),
  By.is (.int .u64 ((p64 p.peer : Nat) : Int)),
  bsM (Oct.bytesBE 4 (p64 p.peer)),
  By.is (.pointer (some ⟨(w.heap.size + 1), 5, none⟩)),
  By.is (.slice (some ⟨(w.heap.size + 1), 5, none⟩) 16 16),
  By.is (.pointer (some ⟨(w.heap.size + 1 + 1), 2, none⟩)),
  By.is (.int .u64 (q.ses : Int)),
  bsM (Oct.bytesBE 8 q.ses),
  By.is (.pointer (some ⟨(w.heap.size + 1 + 1), 3, none⟩)),
  By.is (.int .u32 (q.epo : Int)),
  By.is (.int .u64 (q.epo : Int)),
  bsM (Oct.bytesBE 4 q.epo),
  By.is (.pointer (some ⟨(w.heap.size + 1 + 1), 5, none⟩)),
  By.is (.slice (some ⟨(w.heap.size + 1 + 1), 5, none⟩) 16 16),
  bssM [Oct.bytesBE 4 (p64 p.peer), p.rnd, Oct.bytesBE 8 q.ses, Oct.bytesBE 4 q.epo, q.rnd],
  By.is (arr8 M)]
  (Ev.masks _ []) (Nat.zero_lt_succ _) (by kernel_rfl) (by kernel_rfl) rfl Grew.refl Grew.trans ⟨?_, ?_, ?_, ?_, ?_, ?_, ?_, ?_, ?_, ?_, ?_, ?_, ?_, ?_, ?_, ?_, ?_, ?_, trivial⟩ ?_
 · intro a w ht hs hg
   have h3 := By.same_get hs 3 (by decide) (by kernel_rfl)
   refine By.yes rfl ?_
   clear hs hg
   have hr := l_a32 (Row.below (w := W0.drew) HK.out ht HK.out.lt) Hkl.out
   refine wp_ld 24 _ rfl h3 hr ?_
   exact ⟨_, rfl, Grew.refl _, rfl⟩
 · intro a w ht hs hg
   have h4 := By.same_get hs 4 (by decide) (by kernel_rfl)
   refine By.yes rfl ?_
   clear hs hg
   go_simp
   exact ⟨_, rfl, Grew.refl _, rfl⟩
 · intro a w ht hs hg
   have h8 : a.tmps.getD 8 undef = _ := By.given_get hg 1 rfl rfl (by kernel_rfl)
   refine By.yes rfl ?_
   clear hs hg
   have hc := c_peer (Row.below (w := W0.drew) HP.out ht HP.out.lt)
   clear ht
   go_simp
   exact ⟨_, rfl, Grew.refl _, rfl⟩
 · intro a w ht hs hg
   have h9 : a.tmps.getD 9 undef = _ := By.given_get hg 2 rfl rfl (by kernel_rfl)
   refine By.yes rfl ?_
   clear hs hg
   go_simp
   exact ⟨_, rfl, Grew.refl _, congrArg (Value.int .u64) (p64_wrap p.peer)⟩
 · intro a w ht hs hg
   have h10 : a.tmps.getD 10 undef = _ := By.given_get hg 3 rfl rfl (by kernel_rfl)
   refine By.yes rfl ?_
   clear hs hg
   clear ht
   go_simp
   refine (big4_any (p64 p.peer) w).mono ?_
   rintro e w' ⟨v, rfl, hv, hb⟩
   exact ⟨_, rfl, hb, hv⟩
 · intro a w ht hs hg
   have h4 := By.same_get hs 4 (by decide) (by kernel_rfl)
   refine By.yes rfl ?_
   clear hs hg
   go_simp
   exact ⟨_, rfl, Grew.refl _, rfl⟩
 · intro a w ht hs hg
   have h12 : a.tmps.getD 12 undef = _ := By.given_get hg 5 rfl rfl (by kernel_rfl)
   refine By.yes rfl ?_
   clear hs hg
   go_simp
   exact ⟨_, rfl, Grew.refl _, rfl⟩
 · intro a w ht hs hg
   have h5 := By.same_get hs 5 (by decide) (by kernel_rfl)
   refine By.yes rfl ?_
   clear hs hg
   go_simp
   exact ⟨_, rfl, Grew.refl _, rfl⟩
 · intro a w ht hs hg
   have h14 : a.tmps.getD 14 undef = _ := By.given_get hg 7 rfl rfl (by kernel_rfl)
   refine By.yes rfl ?_
   clear hs hg
   have hc := c_ses (Row.below (w := W0.drew) HQ.out ht HQ.out.lt)
   clear ht
   go_simp
   exact ⟨_, rfl, Grew.refl _, rfl⟩
 · intro a w ht hs hg
   have h15 : a.tmps.getD 15 undef = _ := By.given_get hg 8 rfl rfl (by kernel_rfl)
   refine By.yes rfl ?_
   clear hs hg
   clear ht
   go_simp
   refine (big8_any q.ses w).mono ?_
   rintro e w' ⟨v, rfl, hv, hb⟩
   exact ⟨_, rfl, hb, hv⟩
 · intro a w ht hs hg
   have h5 := By.same_get hs 5 (by decide) (by kernel_rfl)
   refine By.yes rfl ?_
   clear hs hg
   go_simp
   exact ⟨_, rfl, Grew.refl _, rfl⟩
 · intro a w ht hs hg
   have h17 : a.tmps.getD 17 undef = _ := By.given_get hg 10 rfl rfl (by kernel_rfl)
   refine By.yes rfl ?_
   clear hs hg
   have hc := c_epo (Row.below (w := W0.drew) HQ.out ht HQ.out.lt)
   clear ht
   go_simp
   exact ⟨_, rfl, Grew.refl _, rfl⟩
 · intro a w ht hs hg
   have h18 : a.tmps.getD 18 undef = _ := By.given_get hg 11 rfl rfl (by kernel_rfl)
   refine By.yes rfl ?_
   clear hs hg
   go_simp
   exact ⟨_, rfl, Grew.refl _, congrArg (Value.int .u64) (u32_u64 q.epo He.out)⟩
 · intro a w ht hs hg
   have h19 : a.tmps.getD 19 undef = _ := By.given_get hg 12 rfl rfl (by kernel_rfl)
   refine By.yes rfl ?_
   clear hs hg
   clear ht
   go_simp
   refine (big4_any q.epo w).mono ?_
   rintro e w' ⟨v, rfl, hv, hb⟩
   exact ⟨_, rfl, hb, hv⟩
 · intro a w ht hs hg
   have h5 := By.same_get hs 5 (by decide) (by kernel_rfl)
   refine By.yes rfl ?_
   clear hs hg
   go_simp
   exact ⟨_, rfl, Grew.refl _, rfl⟩
 · intro a w ht hs hg
   have h21 : a.tmps.getD 21 undef = _ := By.given_get hg 14 rfl rfl (by kernel_rfl)
   refine By.yes rfl ?_
   clear hs hg
   go_simp
   exact ⟨_, rfl, Grew.refl _, rfl⟩
 · intro a w ht hs hg
   have h11 := By.given_get hg 4 rfl rfl (by kernel_rfl)
   have h13 : a.tmps.getD 13 undef = _ := By.given_get hg 6 rfl rfl (by kernel_rfl)
   have h16 := By.given_get hg 9 rfl rfl (by kernel_rfl)
   have h20 := By.given_get hg 13 rfl rfl (by kernel_rfl)
   have h22 : a.tmps.getD 22 undef = _ := By.given_get hg 15 rfl rfl (by kernel_rfl)
   refine By.yes rfl ?_
   obtain ⟨v11, hv11⟩ : ∃ v, a.tmps.getD 11 undef = v := ⟨_, rfl⟩
   replace h11 := (congrArg (fun v => ((bsM (Oct.bytesBE 4 (p64 p.peer)))).on v w) hv11).mp h11
   obtain ⟨v16, hv16⟩ : ∃ v, a.tmps.getD 16 undef = v := ⟨_, rfl⟩
   replace h16 := (congrArg (fun v => ((bsM (Oct.bytesBE 8 q.ses))).on v w) hv16).mp h16
   obtain ⟨v20, hv20⟩ : ∃ v, a.tmps.getD 20 undef = v := ⟨_, rfl⟩
   replace h20 := (congrArg (fun v => ((bsM (Oct.bytesBE 4 q.epo))).on v w) hv20).mp h20
   clear hs hg
   have hp2 := bs_rnd (Row.below (w := W0.drew) HP.out ht HP.out.lt) Ho.out
   have hq2 := bs_rnd (Row.below (w := W0.drew) HQ.out ht HQ.out.lt) Hq.out
   refine wp_list5 (.tmp 11) (.tmp 13) (.tmp 16) (.tmp 20) (.tmp 22) rfl hv11 h11 h13 hp2 hv16 h16 hv20 h20 h22 hq2 ?_
   intro v' w' h hb
   exact ⟨_, rfl, hb, h.bss⟩
 · intro a w ht hs hg
   have h7 : a.tmps.getD 7 undef = _ := By.given_get hg 0 rfl rfl (by kernel_rfl)
   have h23 := By.given_get hg 16 rfl rfl (by kernel_rfl)
   refine By.yes rfl ?_
   obtain ⟨v23, hv23⟩ : ∃ v, a.tmps.getD 23 undef = v := ⟨_, rfl⟩
   replace h23 := (congrArg (fun v => ((bssM [Oct.bytesBE 4 (p64 p.peer), p.rnd, Oct.bytesBE 8 q.ses, Oct.bytesBE 4 q.epo, q.rnd])).on v w) hv23).mp h23
   clear hs hg
   have HTw := Lib.hid (HT.out.below (grew_below ht) HT.out.1)
   have HLw := Lib.hid h23
   obtain ⟨A8, c8, rfl, _, _⟩ := id HLw.out
   clear ht h23
   unfold arr8 at h7
   go_simp
   refine (RMark_any key answer6 [Oct.bytesBE 4 (p64 p.peer), p.rnd, Oct.bytesBE 8 q.ses, Oct.bytesBE 4 q.epo, q.rnd] _ Hkl.out (by decide) w HTw.out HLw.out (by simp) Hfl.out).mono ?_
   rintro e w8 ⟨rfl, hb8⟩
   exact ⟨_, rfl, hb8, congrArg arr8 HM.out⟩
 refine By.ends_is (By.ends_is (By.ends_is (By.ends_is (By.ends_skip fun v11 => (By.ends_is (By.ends_is (By.ends_is (By.ends_is (By.ends_skip fun v16 => (By.ends_is (By.ends_is (By.ends_is (By.ends_skip fun v20 => (By.ends_is (By.ends_is (By.ends_skip fun v23 => (By.ends_is (By.ends_nil fun w9 hw9 => ?_))))))))))))))))))
 simp only [Act.put, List.setIfInBounds_toArray, List.set_cons_succ, List.set_cons_zero]
 simp only [List.drop_succ_cons, List.drop_zero]
 have hbw := grew_below hw9
 have HO9 := Lib.hid (HO.out.below hbw HO.out.lt)
 have HB9 := Lib.hid (nextB HB0.out (Nat.le_refl _) hbw)
 clear hbw
 unfold arr8
 refine wpList_storeRow (g := w.heap.size + 1 + 1 + 1) rfl 38 _ _ rfl rfl rfl (cs := M.map bv) HO9.out (by kernel_rfl) HMl.out (by simp) (hbytes_one M) ?_
 go_wp2_with fail
 refine bodyPost_ret (results_row rfl _ rfl (HO9.out.setRow (M.map bv)) Tryd.underlying38 rfl (by kernel_rfl) HMl.out) rfl ?_
 exact ⟨rfl, below_setRow HB9.out (by omega) _⟩
end Go.Proofs.YtbdpnpabpcidkaaDoor.Shk
namespace Go.Proofs.YtbdpnpabpcidkaaDoor.Shk
open Go.RowKit
open Pkt (Pk code_name wpList_name wpList_ld l_all c_ses)
def emptyM (_lo : Nat) : By.Mark Grew := ⟨fun v w => ∃ g, v = .slice (some ⟨g, 0, none⟩) 0 0 ∧ Row w g [] 5, fun _ _ _ ⟨g, h1, h2⟩ k => ⟨g, h1, h2.below k h2.lt⟩⟩
set_option maxRecDepth 100000 in
set_option maxHeartbeats 2000000 in
theorem RSecret_any (key : List UInt8) (p q : Pk) (hk : key.length = 32) (ho : p.Ok) (hq : q.Ok) (w : World) (ht : Tab w) :
 Calls Tryd.prog 38 #[arr8 key, p.val, q.val] w fun e w' => e = .returned (arr8 (secL key p q)) ∧ Below w.heap.size w w' := by
 have Hkl := Lib.hid hk
 have Ho := Lib.hid ho
 have Hq := Lib.hid hq
 have Ht := Lib.hid ht
 obtain ⟨O, hO⟩ : ∃ O, secL key p q = O := ⟨_, rfl⟩
 have hOl : O.length = 32 := by rw [← hO, secL, ← Hk.outN_end (Sha.mac (p.rnd ++ q.rnd) key) (secret6 ++ Oct.bytesBE 8 q.ses) 32 1 (by omega) (by omega)]; exact Hk.outN_length _ _ _ _
 have HO := Lib.hid hO
 have HOm := Lib.hid (show (O.map bv).length = 32 by rw [List.length_map]; exact hOl)
 rw [hO]
 obtain ⟨g0, hg0⟩ : ∃ g, w.heap.size = g := ⟨_, rfl⟩
 have Hg0 := Lib.hid hg0
 clear hk ho hq ht hg0 hO hOl
 unfold arr8 Pk.val
 go_enter Tryd.func38, Tryd.ntmps38
 go_wp2_with fail
 refine code_name fun W0 hW0 => ?_
 rw [Hg0.out]
 have HK := Lib.hid (show Row W0 g0 (key.map bv) 24 from Hg0.out ▸ hW0 ▸ (((Row.new rfl rfl).alloc _).alloc _).alloc _)
 have HP := Lib.hid (show Row W0 (g0 + 1) p.cells 40 from Hg0.out ▸ hW0 ▸ ((Row.new (by simp) rfl).alloc _).alloc _)
 have HQ := Lib.hid (show Row W0 (g0 + 1 + 1) q.cells 40 from Hg0.out ▸ hW0 ▸ (Row.new (by simp) rfl).alloc _)
 have HR := Lib.hid (show Row W0 (g0 + 1 + 1 + 1) ((List.replicate 32 (0 : UInt8)).map bv) 24 from Hg0.out ▸ hW0 ▸ Row.new (by simp) rfl)
 have HB0 := Lib.hid (show Below w.heap.size w W0 from hW0 ▸ ((((Below.refl _ w).alloc (Nat.le_refl _) _).alloc (by simp) _).alloc (by simp; omega) _).alloc (by simp; omega) _)
 have HT := Lib.hid (Ht.out.below HB0.out Ht.out.1)
 clear hW0
 refine Tail.marksAt Pol.mixed 6 Grew [emptyM W0.heap.size,
  By.is (.pointer (some ⟨(g0 + 1), 5, none⟩)),
  By.is (.slice (some ⟨(g0 + 1), 5, none⟩) 16 16),
  ownM W0.heap.size p.rnd,
  By.is (.pointer (some ⟨(g0 + 1 + 1), 5, none⟩)),
  By.is (.slice (some ⟨(g0 + 1 + 1), 5, none⟩) 16 16)]
  (Ev.masks _ []) (Nat.zero_lt_succ _) (by kernel_rfl) (by kernel_rfl) rfl Grew.refl Grew.trans ⟨?_, ?_, ?_, ?_, ?_, ?_, trivial⟩ ?_
 · intro a w ht hs hg
   refine By.yes rfl ?_
   clear hs hg
   clear ht
   go_simp
   exact ⟨_, rfl, (Below.refl _ w).alloc (Nat.le_refl _) _, _, rfl, Row.new rfl rfl⟩
 · intro a w ht hs hg
   have h4 := By.same_get hs 4 (by decide) (by kernel_rfl)
   refine By.yes rfl ?_
   clear hs hg
   go_simp
   exact ⟨_, rfl, Grew.refl _, rfl⟩
 · intro a w ht hs hg
   have h9 : a.tmps.getD 9 undef = _ := By.given_get hg 1 rfl rfl (by kernel_rfl)
   refine By.yes rfl ?_
   clear hs hg
   go_simp
   exact ⟨_, rfl, Grew.refl _, rfl⟩
 · intro a w ht hs hg
   have h8 := By.given_get hg 0 rfl rfl (by kernel_rfl)
   have h10 : a.tmps.getD 10 undef = _ := By.given_get hg 2 rfl rfl (by kernel_rfl)
   refine By.yes rfl ?_
   obtain ⟨v8, hv8⟩ : ∃ v, a.tmps.getD 8 undef = v := ⟨_, rfl⟩
   replace h8 := (congrArg (fun v => ((emptyM W0.heap.size)).on v w) hv8).mp h8
   clear hs hg
   have hs' : W0.heap.size ≤ w.heap.size := (show W0.drew.heap.size ≤ w.heap.size from ht.size)
   have h2 := bs_rnd (Row.below (w := W0.drew) HP.out ht HP.out.lt) Ho.out
   obtain ⟨g, rfl, hg⟩ := h8
   refine wp_app_first (.tmp 8) (.tmp 10) rfl hv8 hg h10 h2 (by intro h; have := congrArg List.length h; simp [Ho.out.r] at this) (by rw [Ho.out.r]; decide) ?_
   intro v' w' h hb
   exact ⟨_, rfl, hb, h.less hs'⟩
 · intro a w ht hs hg
   have h5 := By.same_get hs 5 (by decide) (by kernel_rfl)
   refine By.yes rfl ?_
   clear hs hg
   go_simp
   exact ⟨_, rfl, Grew.refl _, rfl⟩
 · intro a w ht hs hg
   have h12 : a.tmps.getD 12 undef = _ := By.given_get hg 4 rfl rfl (by kernel_rfl)
   refine By.yes rfl ?_
   clear hs hg
   go_simp
   exact ⟨_, rfl, Grew.refl _, rfl⟩
 refine By.ends_skip fun v8 => (By.ends_is (By.ends_is (By.ends_any fun v11 => (By.ends_is (By.ends_is (By.ends_nil fun W1a hw9 => ?_))))))
 simp only [Act.put, List.setIfInBounds_toArray, List.set_cons_succ, List.set_cons_zero]
 simp only [List.drop_succ_cons, List.drop_zero]
 obtain ⟨hw, h7⟩ := hw9
 have hba := grew_below hw
 have HOx := Lib.hid h7
 have HBq := Lib.hid (bs_rnd (HQ.out.below hba HQ.out.lt) Hq.out)
 have HSz := Lib.hid (show W0.heap.size ≤ W1a.heap.size from hba.size)
 refine wpList_app_bytes W1a rfl (.tmp 11) (.tmp 13) rfl rfl HOx.out rfl HBq.out (by rw [Ho.out.r, Hq.out.r]; decide) HSz.out ?_
 intro v7 W1 ho1 hg1 _
 have h7 := ho1.bs
 have hb7 : Below W0.heap.size W0 W1 := hba.trans ⟨hg1.os, hg1.tape, hg1.output, hg1.size, fun k hk => hg1.block k (Nat.lt_of_lt_of_le hk HSz.out) (fun e => by have := (HOx.out.block_ge e.symm).1; omega)⟩
 clear hw ho1 hg1 hba
 go_wp2_with fail
 have hbw := hb7
 have HB1 := Lib.hid (nextB HB0.out (Nat.le_refl _) hbw)
 have HK1 := Lib.hid (HK.out.below hbw HK.out.lt)
 have HQ1 := Lib.hid (HQ.out.below hbw HQ.out.lt)
 have HR1 := Lib.hid (HR.out.below hbw HR.out.lt)
 have HT1 := Lib.hid (HT.out.below hbw HT.out.1)
 have HS1 := Lib.hid (show Bs W1 W1.heap.size v7 (p.rnd ++ q.rnd) from h7)
 have HKs := Lib.hid (show Bs W1 W1.heap.size (.slice (some ⟨g0, 0, none⟩) 32 32) key by
  have h1 := HK1.out.bs (B := W1.heap.size) HK1.out.lt
  rwa [Hkl.out] at h1)
 clear h7 hbw hb7
 refine Tail.marksAt Pol.mixed 9 (Soft W1.heap.size) [By.is v7,
  By.is (.slice (some ⟨g0, 0, none⟩) 32 32),
  litS W1.heap.size secret6,
  litS W1.heap.size secret6,
  By.is (.pointer (some ⟨(g0 + 1 + 1), 2, none⟩)),
  By.is (.int .u64 (q.ses : Int)),
  bsS W1.heap.size (Oct.bytesBE 8 q.ses),
  bsS W1.heap.size (secret6 ++ Oct.bytesBE 8 q.ses),
  By.is (arr8 O)]
  (Ev.masks _ []) (Nat.zero_lt_succ _) (by kernel_rfl) (by kernel_rfl) rfl (Soft.refl W1.heap.size) (Soft.trans W1.heap.size) ⟨?_, ?_, ?_, ?_, ?_, ?_, ?_, ?_, ?_, trivial⟩ ?_
 · intro a w ht hs hg
   have h7 := By.same_get hs 7 (by decide) (by kernel_rfl)
   refine By.yes rfl ?_
   clear hs hg
   go_simp
   exact ⟨_, rfl, Soft.refl _ _, rfl⟩
 · intro a w ht hs hg
   have h3 := By.same_get hs 3 (by decide) (by kernel_rfl)
   refine By.yes rfl ?_
   clear hs hg
   go_simp
   exact ⟨_, rfl, Soft.refl _ _, rfl⟩
 · intro a w ht hs hg
   refine By.yes rfl ?_
   clear hs hg
   have hs := ht.below.size
   have hs' : W1.heap.size ≤ w.heap.size := hs
   go_simp
   exact ⟨_, rfl, Soft.of ((Below.refl _ w).alloc (Nat.le_refl _) _) hs', w.heap.size, rfl, hs', by simp, fun i u hu => (Row.new (cs := secret6.map bv) rfl rfl : Row (w.alloc (.cells (secret6.map bv).toArray 5)) w.heap.size (secret6.map bv) 5).cell (by rw [Nat.zero_add, List.getElem?_map, hu]; rfl)⟩
 · intro a w ht hs hg
   have h17 := By.given_get hg 2 rfl rfl (by kernel_rfl)
   refine By.yes rfl ?_
   obtain ⟨v17, hv17⟩ : ∃ v, a.tmps.getD 17 undef = v := ⟨_, rfl⟩
   replace h17 := (congrArg (fun v => ((litS W1.heap.size secret6)).on v w) hv17).mp h17
   clear hs hg
   obtain ⟨W, hr, h1, h2⟩ := run_lit h17 (by decide)
   refine wp_conv _ _ (.tmp 17) rfl hv17 hr ?_
   exact ⟨_, rfl, h2, h1⟩
 · intro a w ht hs hg
   have h5 := By.same_get hs 5 (by decide) (by kernel_rfl)
   refine By.yes rfl ?_
   clear hs hg
   go_simp
   exact ⟨_, rfl, Soft.refl _ _, rfl⟩
 · intro a w ht hs hg
   have h19 : a.tmps.getD 19 undef = _ := By.given_get hg 4 rfl rfl (by kernel_rfl)
   refine By.yes rfl ?_
   clear hs hg
   have hc := (ht.cells ⟨g0 + 1 + 1, 2, none⟩ rfl HQ1.out.lt).trans (c_ses HQ1.out)
   clear ht
   go_simp
   exact ⟨_, rfl, Soft.refl _ _, rfl⟩
 · intro a w ht hs hg
   have h20 : a.tmps.getD 20 undef = _ := By.given_get hg 5 rfl rfl (by kernel_rfl)
   refine By.yes rfl ?_
   clear hs hg
   have hs' : W1.heap.size ≤ w.heap.size := ht.below.size
   clear ht
   go_simp
   refine (big8_any q.ses w).mono ?_
   rintro e w' ⟨v, rfl, hv, hb⟩
   exact ⟨_, rfl, Soft.of hb hs', hv⟩
 · intro a w ht hs hg
   have h18 := By.given_get hg 3 rfl rfl (by kernel_rfl)
   have h21 := By.given_get hg 6 rfl rfl (by kernel_rfl)
   refine By.yes rfl ?_
   obtain ⟨v18, hv18⟩ : ∃ v, a.tmps.getD 18 undef = v := ⟨_, rfl⟩
   replace h18 := (congrArg (fun v => ((litS W1.heap.size secret6)).on v w) hv18).mp h18
   obtain ⟨v21, hv21⟩ : ∃ v, a.tmps.getD 21 undef = v := ⟨_, rfl⟩
   replace h21 := (congrArg (fun v => ((bsS W1.heap.size (Oct.bytesBE 8 q.ses))).on v w) hv21).mp h21
   clear hs hg
   have hs' : W1.heap.size ≤ w.heap.size := ht.below.size
   obtain ⟨g, rfl, k2, k3, k4⟩ := h18
   have hlen := Oct.bytesBE_length 8 q.ses
   refine hwp_app_full (.tmp 18) (.tmp 21) rfl hv18 (l := secret6) rfl k4 k3 hv21 h21 (by rw [hlen]; decide) ?_
   intro v' w' hv hb
   exact ⟨_, rfl, Soft.of hb hs', AtB.bs hv⟩
 · intro a w ht hs hg
   have h15 : a.tmps.getD 15 undef = _ := By.given_get hg 0 rfl rfl (by kernel_rfl)
   have h16 : a.tmps.getD 16 undef = _ := By.given_get hg 1 rfl rfl (by kernel_rfl)
   have h22 := By.given_get hg 7 rfl rfl (by kernel_rfl)
   refine By.yes rfl ?_
   obtain ⟨v22, hv22⟩ : ∃ v, a.tmps.getD 22 undef = v := ⟨_, rfl⟩
   replace h22 := (congrArg (fun v => ((bsS W1.heap.size (secret6 ++ Oct.bytesBE 8 q.ses))).on v w) hv22).mp h22
   clear hs hg
   have HTw := Lib.hid (show Tab w from HT1.out.below (soft_below ht) HT1.out.1)
   have HSw := Lib.hid (show Bs w w.heap.size v7 (p.rnd ++ q.rnd) from ht.bs (x := W1.drew) HS1.out)
   have HIw := Lib.hid h22
   have HKw := Lib.hid (show Bs w w.heap.size (.slice (some ⟨g0, 0, none⟩) 32 32) key from ht.bs (x := W1.drew) HKs.out)
   have hlen := Oct.bytesBE_length 8 q.ses
   have hs' : W1.heap.size ≤ w.heap.size := ht.below.size
   clear h22 ht
   go_simp
   refine (RKey_any _ _ _ (p.rnd ++ q.rnd) key (secret6 ++ Oct.bytesBE 8 q.ses) w HTw.out HSw.out (by rw [List.length_append, Ho.out.r, Hq.out.r]; decide) HKw.out (by rw [Hkl.out]; decide) HIw.out (by rw [List.length_append, hlen]; decide)).mono ?_
   rintro e w8 ⟨rfl, hb8⟩
   exact ⟨_, rfl, Soft.of hb8 hs', congrArg arr8 HO.out⟩
 refine By.ends_is (By.ends_is (By.ends_skip fun v17 => (By.ends_skip fun v18 => (By.ends_is (By.ends_is (By.ends_skip fun v21 => (By.ends_skip fun v22 => (By.ends_is (By.ends_nil fun w9 hw9 => ?_)))))))))
 simp only [Act.put, List.setIfInBounds_toArray, List.set_cons_succ, List.set_cons_zero]
 simp only [List.drop_succ_cons, List.drop_zero]
 have hbw := soft_below hw9
 have HB9 := Lib.hid (nextB HB1.out (Nat.le_refl _) hbw)
 have HR9 := Lib.hid (HR1.out.below hbw HR1.out.lt)
 clear hw9 hbw
 refine wpList_storeRow (g := g0 + 1 + 1 + 1) rfl 24 (.tmp 6) (.tmp 23) rfl rfl rfl (cs := O.map bv) HR9.out (by kernel_rfl) HOm.out (by simp) (hbytes_one O) ?_
 go_wp2_with fail
 refine bodyPost_ret (results_row rfl _ rfl (HR9.out.setRow (O.map bv)) Tryd.underlying24 rfl (by kernel_rfl) HOm.out) rfl ?_
 exact ⟨rfl, below_setRow HB9.out (by rw [Hg0.out]; omega) _⟩
end Go.Proofs.YtbdpnpabpcidkaaDoor.Shk
