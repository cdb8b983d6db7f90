/- Texts that the proofs share: PktWr, PktWr2, PktWr3. -/
import Derived.Test.YtedmogacklbcmaaGreatDoorS13
import Derived.Test.YtedmogacklbcmaaGreatDoorS17
import Derived.Test.YtedmogacklbcmaaGreatDoorS19
import Derived.Test.YtedmogacklbcmaaGreatDoorS24
import Derived.Test.YtedmogacklbcmaaGreatDoorS34
import Derived.Test.YtedmogacklbcmaaGreatDoorS37
namespace Go.Proofs.YtedmogacklbcmaaGreatDoor.Pkt
open Go.RowKit
structure Wr (w : World) (lo g : Nat) (v : Value) (l : List UInt8) : Prop where
 row : Row w g [v] 141
 own : Own w lo v l
 lt : g < lo
 le : lo ≤ w.heap.size
structure KB (lo g : Nat) (x y : World) : Prop where
 os : y.os = x.os
 tape : y.tape = x.tape
 output : y.output = x.output
 size : x.heap.size ≤ y.heap.size
 block : ∀ k, k < lo → k ≠ g → y.heap[k]? = x.heap[k]?
theorem KB.trans {lo g : Nat} {x y z : World} (h : KB lo g x y) (k : KB lo g y z) : KB lo g x z := ⟨k.os.trans h.os, k.tape.trans h.tape, k.output.trans h.output, Nat.le_trans h.size k.size, fun i h1 h2 => (k.block i h1 h2).trans (h.block i h1 h2)⟩
theorem KB.row {lo g b : Nat} {x y : World} {cs : List Value} {u : TypeId} (h : KB lo g x y) (hr : Row x b cs u) (h1 : b < lo) (h2 : b ≠ g) : Row y b cs u := by
 unfold Row
 rw [h.block b h1 h2]
 exact hr
theorem own_same {w w' : World} {lo : Nat} {v : Value} {l : List UInt8} (h : Own w lo v l) (hs : ∀ k, lo ≤ k → w'.heap[k]? = w.heap[k]?) : Own w' lo v l := by
 refine ⟨h.1, ?_⟩
 rcases h.2 with h2 | ⟨g, cap, cur, e, hg, hgg, r⟩
 · exact .inl h2
 · exact .inr ⟨g, cap, cur, e, hg, (hs g hg).trans hgg, r⟩
set_option maxRecDepth 100000 in
set_option maxHeartbeats 2000000 in
theorem wkind_any (p : Pk) (ho : p.Ok) (hk : 0 ≤ p.kind ∧ p.kind < 18446744073709551616) (w : World) {lo g : Nat} {v : Value} {l : List UInt8} (h : Wr w lo g v l) (hl : l.length ≤ 1000000) : Calls Tryz.prog 91 #[.pointer (some ⟨g, 0, none⟩), p.val] w fun e w' => e = .returned (.tuple #[]) ∧ (∃ v', Wr w' lo g v' (l ++ Oct.enc (p.kind.toNat))) ∧ KB lo g w w' := by
 obtain ⟨x, hx⟩ : ∃ x, p.kind.toNat = x := ⟨_, rfl⟩
 rw [hx]
 have HX := Lib.hid hx
 have Hx := Lib.hid (show x < 2 ^ 64 by omega)
 have HCv := Lib.hid (show IntKind.u64.wrap p.kind = (x : Int) from (IntWalk.u64_in _ (by omega)).trans (by omega))
 have Hl := Lib.hid (show l.length ≤ 35184372088832 by omega)
 have HW := Lib.hid h
 clear hx hk hl ho
 unfold Pk.val
 go_enter Tryz.func91, Tryz.ntmps91
 go_wp2_with fail
 refine code_name fun W0 hW0 => ?_
 have HP := Lib.hid (show Row W0 w.heap.size p.cells 40 from hW0 ▸ Row.new rfl rfl)
 have HB0 := Lib.hid (show Below w.heap.size w W0 from hW0 ▸ (Below.refl _ w).alloc (Nat.le_refl _) _)
 have HWr := Lib.hid (show Wr W0 lo g v l from ⟨HW.out.row.below HB0.out HW.out.row.lt, HW.out.own.below HB0.out (Nat.le_refl _), HW.out.lt, Nat.le_trans HW.out.le HB0.out.size⟩)
 clear hW0
 refine Tail.marksAt Pol.mixed 9 Grew [By.is (.pointer (some ⟨g, 0, none⟩)),
  By.is (.pointer (some ⟨g, 0, none⟩)),
  By.is (.pointer (some ⟨g, 0, none⟩)),
  By.is (.pointer (some ⟨g, 0, none⟩)),
  By.is v,
  By.is (.pointer (some ⟨w.heap.size, 0, none⟩)),
  By.is (.int .i64 p.kind),
  By.is (.int .u64 (x : Int)),
  ownM lo (l ++ Oct.enc x)]
  (Ev.masks _ []) (Nat.zero_lt_succ _) (by kernel_rfl) (by kernel_rfl) rfl Grew.refl Grew.trans ⟨?_, ?_, ?_, ?_, ?_, ?_, ?_, ?_, ?_, trivial⟩ ?_
 · intro a w ht hs hg
   have h0 := By.same_get hs 0 (by decide) (by kernel_rfl)
   refine By.yes rfl ?_
   clear hs hg
   go_simp
   exact ⟨_, rfl, Grew.refl _, rfl⟩
 · intro a w ht hs hg
   have h0 := By.same_get hs 0 (by decide) (by kernel_rfl)
   refine By.yes rfl ?_
   clear hs hg
   go_simp
   exact ⟨_, rfl, Grew.refl _, rfl⟩
 · intro a w ht hs hg
   have h5 : a.tmps.getD 5 undef = _ := By.given_get hg 1 rfl rfl (by kernel_rfl)
   refine By.yes rfl ?_
   clear hs hg
   go_simp
   exact ⟨_, rfl, Grew.refl _, rfl⟩
 · intro a w ht hs hg
   have h6 : a.tmps.getD 6 undef = _ := By.given_get hg 2 rfl rfl (by kernel_rfl)
   refine By.yes rfl ?_
   clear hs hg
   go_simp
   exact ⟨_, rfl, Grew.refl _, rfl⟩
 · intro a w ht hs hg
   have h7 : a.tmps.getD 7 undef = _ := By.given_get hg 3 rfl rfl (by kernel_rfl)
   refine By.yes rfl ?_
   clear hs hg
   have hc := (Row.below (w := W0.drew) HWr.out.row ht HWr.out.row.lt).cell (i := 0) rfl
   clear ht
   go_simp
   exact ⟨_, rfl, Grew.refl _, rfl⟩
 · intro a w ht hs hg
   have h3 := By.same_get hs 3 (by decide) (by kernel_rfl)
   refine By.yes rfl ?_
   clear hs hg
   go_simp
   exact ⟨_, rfl, Grew.refl _, rfl⟩
 · intro a w ht hs hg
   have h9 : a.tmps.getD 9 undef = _ := By.given_get hg 5 rfl rfl (by kernel_rfl)
   refine By.yes rfl ?_
   clear hs hg
   have hc := c_kind (Row.below (w := W0.drew) HP.out ht HP.out.lt)
   clear ht
   go_simp
   exact ⟨_, rfl, Grew.refl _, rfl⟩
 · intro a w ht hs hg
   have h10 : a.tmps.getD 10 undef = _ := By.given_get hg 6 rfl rfl (by kernel_rfl)
   refine By.yes rfl ?_
   clear hs hg
   have hcv := HCv.out
   clear ht
   go_simp
   exact ⟨_, rfl, Grew.refl _, rfl⟩
 · intro a w ht hs hg
   have h8 : a.tmps.getD 8 undef = _ := By.given_get hg 4 rfl rfl (by kernel_rfl)
   have h11 : a.tmps.getD 11 undef = _ := By.given_get hg 7 rfl rfl (by kernel_rfl)
   refine By.yes rfl ?_
   clear hs hg
   have Hv := Lib.hid ((Bs.below (w := W0.drew) HWr.out.own.bs ht).more ht.size)
   have hle : lo ≤ w.heap.size := Nat.le_trans HWr.out.le (show W0.heap.size ≤ w.heap.size from ht.size)
   clear ht

   go_simp
   refine (Number_any v l x w Hv.out Hx.out Hl.out).mono ?_
   rintro e w' ⟨r, rfl, ho, hb⟩
   exact ⟨_, rfl, hb, ho.less hle⟩
 refine By.ends_is (By.ends_is (By.ends_is (By.ends_is (By.ends_is (By.ends_is (By.ends_is (By.ends_is (By.ends_any fun v12 => (By.ends_nil fun wz hz => ?_)))))))))
 simp only [Act.put, List.setIfInBounds_toArray, List.set_cons_succ, List.set_cons_zero]
 simp only [List.drop_succ_cons, List.drop_zero]
 obtain ⟨hz, hown⟩ := hz
 have hown' : Own wz lo v12 (l ++ Oct.enc x) := hown
 obtain ⟨A9, c9, e9⟩ := hown'.shape
 obtain ⟨n9, hn9⟩ : ∃ n, (l ++ Oct.enc x).length = n := ⟨_, rfl⟩
 rw [hn9] at e9
 subst e9
 have hrow := Row.below (w := W0.drew) HWr.out.row hz HWr.out.row.lt
 have hc9 := hrow.cell (i := 0) rfl
 have hf9 := frozen_row hrow 0
 have HRow := Lib.hid (hrow.set 0 (.slice A9 n9 c9))
 have HOwn := Lib.hid (own_same (w' := wz.setCell ⟨g, 0, none⟩ (.slice A9 n9 c9)) hown' (fun k hk => Below.heap_setCell wz _ _ k (by dsimp only; have := HW.out.lt; omega)))
 have HBz := Lib.hid (nextB HB0.out (Nat.le_refl _) (show Below W0.heap.size W0 wz from ⟨hz.os, hz.tape, hz.output, hz.size, hz.block⟩))
 have HSz := Lib.hid hz.size
 clear hz hown hown' hrow
 go_wp2
 refine bodyPost_end (results_none rfl _ _ _) rfl ?_
 refine ⟨rfl, ⟨_, HRow.out, HOwn.out, HW.out.lt, ?_⟩, ?_⟩
 · have h1 := HW.out.le
   have h2 := HBz.out.size
   simp
   omega
 · refine ⟨HBz.out.os, HBz.out.tape, HBz.out.output, ?_, fun k h1 h2 => (Below.heap_setCell wz _ _ k (by dsimp only; exact h2)).trans (HBz.out.block k (by have := HW.out.le; omega))⟩
   have h2 := HBz.out.size
   simp
   omega
set_option maxRecDepth 100000 in
set_option maxHeartbeats 2000000 in
theorem wpeer_any (p : Pk) (ho : p.Ok) (hk : 0 ≤ p.peer ∧ p.peer < 18446744073709551616) (w : World) {lo g : Nat} {v : Value} {l : List UInt8} (h : Wr w lo g v l) (hl : l.length ≤ 1000000) : Calls Tryz.prog 92 #[.pointer (some ⟨g, 0, none⟩), p.val] w fun e w' => e = .returned (.tuple #[]) ∧ (∃ v', Wr w' lo g v' (l ++ Oct.enc (p.peer.toNat))) ∧ KB lo g w w' := by
 obtain ⟨x, hx⟩ : ∃ x, p.peer.toNat = x := ⟨_, rfl⟩
 rw [hx]
 have HX := Lib.hid hx
 have Hx := Lib.hid (show x < 2 ^ 64 by omega)
 have HCv := Lib.hid (show IntKind.u64.wrap p.peer = (x : Int) from (IntWalk.u64_in _ (by omega)).trans (by omega))
 have Hl := Lib.hid (show l.length ≤ 35184372088832 by omega)
 have HW := Lib.hid h
 clear hx hk hl ho
 unfold Pk.val
 go_enter Tryz.func92, Tryz.ntmps92
 go_wp2_with fail
 refine code_name fun W0 hW0 => ?_
 have HP := Lib.hid (show Row W0 w.heap.size p.cells 40 from hW0 ▸ Row.new rfl rfl)
 have HB0 := Lib.hid (show Below w.heap.size w W0 from hW0 ▸ (Below.refl _ w).alloc (Nat.le_refl _) _)
 have HWr := Lib.hid (show Wr W0 lo g v l from ⟨HW.out.row.below HB0.out HW.out.row.lt, HW.out.own.below HB0.out (Nat.le_refl _), HW.out.lt, Nat.le_trans HW.out.le HB0.out.size⟩)
 clear hW0
 refine Tail.marksAt Pol.mixed 9 Grew [By.is (.pointer (some ⟨g, 0, none⟩)),
  By.is (.pointer (some ⟨g, 0, none⟩)),
  By.is (.pointer (some ⟨g, 0, none⟩)),
  By.is (.pointer (some ⟨g, 0, none⟩)),
  By.is v,
  By.is (.pointer (some ⟨w.heap.size, 1, none⟩)),
  By.is (.int .i64 p.peer),
  By.is (.int .u64 (x : Int)),
  ownM lo (l ++ Oct.enc x)]
  (Ev.masks _ []) (Nat.zero_lt_succ _) (by kernel_rfl) (by kernel_rfl) rfl Grew.refl Grew.trans ⟨?_, ?_, ?_, ?_, ?_, ?_, ?_, ?_, ?_, trivial⟩ ?_
 · intro a w ht hs hg
   have h0 := By.same_get hs 0 (by decide) (by kernel_rfl)
   refine By.yes rfl ?_
   clear hs hg
   go_simp
   exact ⟨_, rfl, Grew.refl _, rfl⟩
 · intro a w ht hs hg
   have h0 := By.same_get hs 0 (by decide) (by kernel_rfl)
   refine By.yes rfl ?_
   clear hs hg
   go_simp
   exact ⟨_, rfl, Grew.refl _, rfl⟩
 · intro a w ht hs hg
   have h5 : a.tmps.getD 5 undef = _ := By.given_get hg 1 rfl rfl (by kernel_rfl)
   refine By.yes rfl ?_
   clear hs hg
   go_simp
   exact ⟨_, rfl, Grew.refl _, rfl⟩
 · intro a w ht hs hg
   have h6 : a.tmps.getD 6 undef = _ := By.given_get hg 2 rfl rfl (by kernel_rfl)
   refine By.yes rfl ?_
   clear hs hg
   go_simp
   exact ⟨_, rfl, Grew.refl _, rfl⟩
 · intro a w ht hs hg
   have h7 : a.tmps.getD 7 undef = _ := By.given_get hg 3 rfl rfl (by kernel_rfl)
   refine By.yes rfl ?_
   clear hs hg
   have hc := (Row.below (w := W0.drew) HWr.out.row ht HWr.out.row.lt).cell (i := 0) rfl
   clear ht
   go_simp
   exact ⟨_, rfl, Grew.refl _, rfl⟩
 · intro a w ht hs hg
   have h3 := By.same_get hs 3 (by decide) (by kernel_rfl)
   refine By.yes rfl ?_
   clear hs hg
   go_simp
   exact ⟨_, rfl, Grew.refl _, rfl⟩
 · intro a w ht hs hg
   have h9 : a.tmps.getD 9 undef = _ := By.given_get hg 5 rfl rfl (by kernel_rfl)
   refine By.yes rfl ?_
   clear hs hg
   have hc := c_peer (Row.below (w := W0.drew) HP.out ht HP.out.lt)
   clear ht
   go_simp
   exact ⟨_, rfl, Grew.refl _, rfl⟩
 · intro a w ht hs hg
   have h10 : a.tmps.getD 10 undef = _ := By.given_get hg 6 rfl rfl (by kernel_rfl)
   refine By.yes rfl ?_
   clear hs hg
   have hcv := HCv.out
   clear ht
   go_simp
   exact ⟨_, rfl, Grew.refl _, rfl⟩
 · intro a w ht hs hg
   have h8 : a.tmps.getD 8 undef = _ := By.given_get hg 4 rfl rfl (by kernel_rfl)
   have h11 : a.tmps.getD 11 undef = _ := By.given_get hg 7 rfl rfl (by kernel_rfl)
   refine By.yes rfl ?_
   clear hs hg
   have Hv := Lib.hid ((Bs.below (w := W0.drew) HWr.out.own.bs ht).more ht.size)
   have hle : lo ≤ w.heap.size := Nat.le_trans HWr.out.le (show W0.heap.size ≤ w.heap.size from ht.size)
   clear ht

   go_simp
   refine (Number_any v l x w Hv.out Hx.out Hl.out).mono ?_
   rintro e w' ⟨r, rfl, ho, hb⟩
   exact ⟨_, rfl, hb, ho.less hle⟩
 refine By.ends_is (By.ends_is (By.ends_is (By.ends_is (By.ends_is (By.ends_is (By.ends_is (By.ends_is (By.ends_any fun v12 => (By.ends_nil fun wz hz => ?_)))))))))
 simp only [Act.put, List.setIfInBounds_toArray, List.set_cons_succ, List.set_cons_zero]
 simp only [List.drop_succ_cons, List.drop_zero]
 obtain ⟨hz, hown⟩ := hz
 have hown' : Own wz lo v12 (l ++ Oct.enc x) := hown
 obtain ⟨A9, c9, e9⟩ := hown'.shape
 obtain ⟨n9, hn9⟩ : ∃ n, (l ++ Oct.enc x).length = n := ⟨_, rfl⟩
 rw [hn9] at e9
 subst e9
 have hrow := Row.below (w := W0.drew) HWr.out.row hz HWr.out.row.lt
 have hc9 := hrow.cell (i := 0) rfl
 have hf9 := frozen_row hrow 0
 have HRow := Lib.hid (hrow.set 0 (.slice A9 n9 c9))
 have HOwn := Lib.hid (own_same (w' := wz.setCell ⟨g, 0, none⟩ (.slice A9 n9 c9)) hown' (fun k hk => Below.heap_setCell wz _ _ k (by dsimp only; have := HW.out.lt; omega)))
 have HBz := Lib.hid (nextB HB0.out (Nat.le_refl _) (show Below W0.heap.size W0 wz from ⟨hz.os, hz.tape, hz.output, hz.size, hz.block⟩))
 have HSz := Lib.hid hz.size
 clear hz hown hown' hrow
 go_wp2
 refine bodyPost_end (results_none rfl _ _ _) rfl ?_
 refine ⟨rfl, ⟨_, HRow.out, HOwn.out, HW.out.lt, ?_⟩, ?_⟩
 · have h1 := HW.out.le
   have h2 := HBz.out.size
   simp
   omega
 · refine ⟨HBz.out.os, HBz.out.tape, HBz.out.output, ?_, fun k h1 h2 => (Below.heap_setCell wz _ _ k (by dsimp only; exact h2)).trans (HBz.out.block k (by have := HW.out.le; omega))⟩
   have h2 := HBz.out.size
   simp
   omega
set_option maxRecDepth 100000 in
set_option maxHeartbeats 2000000 in
theorem wses_any (p : Pk) (ho : p.Ok) (hk : p.ses < 18446744073709551616) (w : World) {lo g : Nat} {v : Value} {l : List UInt8} (h : Wr w lo g v l) (hl : l.length ≤ 1000000) : Calls Tryz.prog 95 #[.pointer (some ⟨g, 0, none⟩), p.val] w fun e w' => e = .returned (.tuple #[]) ∧ (∃ v', Wr w' lo g v' (l ++ Oct.enc (p.ses))) ∧ KB lo g w w' := by
 obtain ⟨x, hx⟩ : ∃ x, p.ses = x := ⟨_, rfl⟩
 rw [hx]
 have HX := Lib.hid hx
 have Hx := Lib.hid (show x < 2 ^ 64 by omega)
 have Hl := Lib.hid (show l.length ≤ 35184372088832 by omega)
 have HW := Lib.hid h
 clear hx hk hl ho
 unfold Pk.val
 go_enter Tryz.func95, Tryz.ntmps95
 go_wp2_with fail
 refine code_name fun W0 hW0 => ?_
 have HP := Lib.hid (show Row W0 w.heap.size p.cells 40 from hW0 ▸ Row.new rfl rfl)
 have HB0 := Lib.hid (show Below w.heap.size w W0 from hW0 ▸ (Below.refl _ w).alloc (Nat.le_refl _) _)
 have HWr := Lib.hid (show Wr W0 lo g v l from ⟨HW.out.row.below HB0.out HW.out.row.lt, HW.out.own.below HB0.out (Nat.le_refl _), HW.out.lt, Nat.le_trans HW.out.le HB0.out.size⟩)
 clear hW0
 refine Tail.marksAt Pol.mixed 8 Grew [By.is (.pointer (some ⟨g, 0, none⟩)),
  By.is (.pointer (some ⟨g, 0, none⟩)),
  By.is (.pointer (some ⟨g, 0, none⟩)),
  By.is (.pointer (some ⟨g, 0, none⟩)),
  By.is v,
  By.is (.pointer (some ⟨w.heap.size, 2, none⟩)),
  By.is (.int .u64 (p.ses : Int)),
  ownM lo (l ++ Oct.enc x)]
  (Ev.masks _ []) (Nat.zero_lt_succ _) (by kernel_rfl) (by kernel_rfl) rfl Grew.refl Grew.trans ⟨?_, ?_, ?_, ?_, ?_, ?_, ?_, ?_, trivial⟩ ?_
 · intro a w ht hs hg
   have h0 := By.same_get hs 0 (by decide) (by kernel_rfl)
   refine By.yes rfl ?_
   clear hs hg
   go_simp
   exact ⟨_, rfl, Grew.refl _, rfl⟩
 · intro a w ht hs hg
   have h0 := By.same_get hs 0 (by decide) (by kernel_rfl)
   refine By.yes rfl ?_
   clear hs hg
   go_simp
   exact ⟨_, rfl, Grew.refl _, rfl⟩
 · intro a w ht hs hg
   have h5 : a.tmps.getD 5 undef = _ := By.given_get hg 1 rfl rfl (by kernel_rfl)
   refine By.yes rfl ?_
   clear hs hg
   go_simp
   exact ⟨_, rfl, Grew.refl _, rfl⟩
 · intro a w ht hs hg
   have h6 : a.tmps.getD 6 undef = _ := By.given_get hg 2 rfl rfl (by kernel_rfl)
   refine By.yes rfl ?_
   clear hs hg
   go_simp
   exact ⟨_, rfl, Grew.refl _, rfl⟩
 · intro a w ht hs hg
   have h7 : a.tmps.getD 7 undef = _ := By.given_get hg 3 rfl rfl (by kernel_rfl)
   refine By.yes rfl ?_
   clear hs hg
   have hc := (Row.below (w := W0.drew) HWr.out.row ht HWr.out.row.lt).cell (i := 0) rfl
   clear ht
   go_simp
   exact ⟨_, rfl, Grew.refl _, rfl⟩
 · intro a w ht hs hg
   have h3 := By.same_get hs 3 (by decide) (by kernel_rfl)
   refine By.yes rfl ?_
   clear hs hg
   go_simp
   exact ⟨_, rfl, Grew.refl _, rfl⟩
 · intro a w ht hs hg
   have h9 : a.tmps.getD 9 undef = _ := By.given_get hg 5 rfl rfl (by kernel_rfl)
   refine By.yes rfl ?_
   clear hs hg
   have hc := c_ses (Row.below (w := W0.drew) HP.out ht HP.out.lt)
   clear ht
   go_simp
   exact ⟨_, rfl, Grew.refl _, rfl⟩
 · intro a w ht hs hg
   have h8 : a.tmps.getD 8 undef = _ := By.given_get hg 4 rfl rfl (by kernel_rfl)
   have h10 : a.tmps.getD 10 undef = _ := By.given_get hg 6 rfl rfl (by kernel_rfl)
   refine By.yes rfl ?_
   clear hs hg
   have Hv := Lib.hid ((Bs.below (w := W0.drew) HWr.out.own.bs ht).more ht.size)
   have hle : lo ≤ w.heap.size := Nat.le_trans HWr.out.le (show W0.heap.size ≤ w.heap.size from ht.size)
   clear ht
   rw [show (.int .u64 (p.ses : Int) : Value) = .int .u64 (x : Int) by rw [← HX.out]] at h10
   go_simp
   refine (Number_any v l x w Hv.out Hx.out Hl.out).mono ?_
   rintro e w' ⟨r, rfl, ho, hb⟩
   exact ⟨_, rfl, hb, ho.less hle⟩
 refine By.ends_is (By.ends_is (By.ends_is (By.ends_is (By.ends_is (By.ends_is (By.ends_is (By.ends_any fun v11 => (By.ends_nil fun wz hz => ?_))))))))
 simp only [Act.put, List.setIfInBounds_toArray, List.set_cons_succ, List.set_cons_zero]
 simp only [List.drop_succ_cons, List.drop_zero]
 obtain ⟨hz, hown⟩ := hz
 have hown' : Own wz lo v11 (l ++ Oct.enc x) := hown
 obtain ⟨A9, c9, e9⟩ := hown'.shape
 obtain ⟨n9, hn9⟩ : ∃ n, (l ++ Oct.enc x).length = n := ⟨_, rfl⟩
 rw [hn9] at e9
 subst e9
 have hrow := Row.below (w := W0.drew) HWr.out.row hz HWr.out.row.lt
 have hc9 := hrow.cell (i := 0) rfl
 have hf9 := frozen_row hrow 0
 have HRow := Lib.hid (hrow.set 0 (.slice A9 n9 c9))
 have HOwn := Lib.hid (own_same (w' := wz.setCell ⟨g, 0, none⟩ (.slice A9 n9 c9)) hown' (fun k hk => Below.heap_setCell wz _ _ k (by dsimp only; have := HW.out.lt; omega)))
 have HBz := Lib.hid (nextB HB0.out (Nat.le_refl _) (show Below W0.heap.size W0 wz from ⟨hz.os, hz.tape, hz.output, hz.size, hz.block⟩))
 have HSz := Lib.hid hz.size
 clear hz hown hown' hrow
 go_wp2
 refine bodyPost_end (results_none rfl _ _ _) rfl ?_
 refine ⟨rfl, ⟨_, HRow.out, HOwn.out, HW.out.lt, ?_⟩, ?_⟩
 · have h1 := HW.out.le
   have h2 := HBz.out.size
   simp
   omega
 · refine ⟨HBz.out.os, HBz.out.tape, HBz.out.output, ?_, fun k h1 h2 => (Below.heap_setCell wz _ _ k (by dsimp only; exact h2)).trans (HBz.out.block k (by have := HW.out.le; omega))⟩
   have h2 := HBz.out.size
   simp
   omega
set_option maxRecDepth 100000 in
set_option maxHeartbeats 2000000 in
theorem wepo_any (p : Pk) (ho : p.Ok) (hk : p.epo < 18446744073709551616) (w : World) {lo g : Nat} {v : Value} {l : List UInt8} (h : Wr w lo g v l) (hl : l.length ≤ 1000000) : Calls Tryz.prog 96 #[.pointer (some ⟨g, 0, none⟩), p.val] w fun e w' => e = .returned (.tuple #[]) ∧ (∃ v', Wr w' lo g v' (l ++ Oct.enc (p.epo))) ∧ KB lo g w w' := by
 obtain ⟨x, hx⟩ : ∃ x, p.epo = x := ⟨_, rfl⟩
 rw [hx]
 have HX := Lib.hid hx
 have Hx := Lib.hid (show x < 2 ^ 64 by omega)
 have HCv := Lib.hid (show IntKind.u64.wrap (p.epo : Int) = (x : Int) from (IntWalk.u64_in _ (by omega)).trans (by omega))
 have Hl := Lib.hid (show l.length ≤ 35184372088832 by omega)
 have HW := Lib.hid h
 clear hx hk hl ho
 unfold Pk.val
 go_enter Tryz.func96, Tryz.ntmps96
 go_wp2_with fail
 refine code_name fun W0 hW0 => ?_
 have HP := Lib.hid (show Row W0 w.heap.size p.cells 40 from hW0 ▸ Row.new rfl rfl)
 have HB0 := Lib.hid (show Below w.heap.size w W0 from hW0 ▸ (Below.refl _ w).alloc (Nat.le_refl _) _)
 have HWr := Lib.hid (show Wr W0 lo g v l from ⟨HW.out.row.below HB0.out HW.out.row.lt, HW.out.own.below HB0.out (Nat.le_refl _), HW.out.lt, Nat.le_trans HW.out.le HB0.out.size⟩)
 clear hW0
 refine Tail.marksAt Pol.mixed 9 Grew [By.is (.pointer (some ⟨g, 0, none⟩)),
  By.is (.pointer (some ⟨g, 0, none⟩)),
  By.is (.pointer (some ⟨g, 0, none⟩)),
  By.is (.pointer (some ⟨g, 0, none⟩)),
  By.is v,
  By.is (.pointer (some ⟨w.heap.size, 3, none⟩)),
  By.is (.int .u32 (p.epo : Int)),
  By.is (.int .u64 (x : Int)),
  ownM lo (l ++ Oct.enc x)]
  (Ev.masks _ []) (Nat.zero_lt_succ _) (by kernel_rfl) (by kernel_rfl) rfl Grew.refl Grew.trans ⟨?_, ?_, ?_, ?_, ?_, ?_, ?_, ?_, ?_, trivial⟩ ?_
 · intro a w ht hs hg
   have h0 := By.same_get hs 0 (by decide) (by kernel_rfl)
   refine By.yes rfl ?_
   clear hs hg
   go_simp
   exact ⟨_, rfl, Grew.refl _, rfl⟩
 · intro a w ht hs hg
   have h0 := By.same_get hs 0 (by decide) (by kernel_rfl)
   refine By.yes rfl ?_
   clear hs hg
   go_simp
   exact ⟨_, rfl, Grew.refl _, rfl⟩
 · intro a w ht hs hg
   have h5 : a.tmps.getD 5 undef = _ := By.given_get hg 1 rfl rfl (by kernel_rfl)
   refine By.yes rfl ?_
   clear hs hg
   go_simp
   exact ⟨_, rfl, Grew.refl _, rfl⟩
 · intro a w ht hs hg
   have h6 : a.tmps.getD 6 undef = _ := By.given_get hg 2 rfl rfl (by kernel_rfl)
   refine By.yes rfl ?_
   clear hs hg
   go_simp
   exact ⟨_, rfl, Grew.refl _, rfl⟩
 · intro a w ht hs hg
   have h7 : a.tmps.getD 7 undef = _ := By.given_get hg 3 rfl rfl (by kernel_rfl)
   refine By.yes rfl ?_
   clear hs hg
   have hc := (Row.below (w := W0.drew) HWr.out.row ht HWr.out.row.lt).cell (i := 0) rfl
   clear ht
   go_simp
   exact ⟨_, rfl, Grew.refl _, rfl⟩
 · intro a w ht hs hg
   have h3 := By.same_get hs 3 (by decide) (by kernel_rfl)
   refine By.yes rfl ?_
   clear hs hg
   go_simp
   exact ⟨_, rfl, Grew.refl _, rfl⟩
 · intro a w ht hs hg
   have h9 : a.tmps.getD 9 undef = _ := By.given_get hg 5 rfl rfl (by kernel_rfl)
   refine By.yes rfl ?_
   clear hs hg
   have hc := c_epo (Row.below (w := W0.drew) HP.out ht HP.out.lt)
   clear ht
   go_simp
   exact ⟨_, rfl, Grew.refl _, rfl⟩
 · intro a w ht hs hg
   have h10 : a.tmps.getD 10 undef = _ := By.given_get hg 6 rfl rfl (by kernel_rfl)
   refine By.yes rfl ?_
   clear hs hg
   have hcv := HCv.out
   clear ht
   go_simp
   exact ⟨_, rfl, Grew.refl _, rfl⟩
 · intro a w ht hs hg
   have h8 : a.tmps.getD 8 undef = _ := By.given_get hg 4 rfl rfl (by kernel_rfl)
   have h11 : a.tmps.getD 11 undef = _ := By.given_get hg 7 rfl rfl (by kernel_rfl)
   refine By.yes rfl ?_
   clear hs hg
   have Hv := Lib.hid ((Bs.below (w := W0.drew) HWr.out.own.bs ht).more ht.size)
   have hle : lo ≤ w.heap.size := Nat.le_trans HWr.out.le (show W0.heap.size ≤ w.heap.size from ht.size)
   clear ht

   go_simp
   refine (Number_any v l x w Hv.out Hx.out Hl.out).mono ?_
   rintro e w' ⟨r, rfl, ho, hb⟩
   exact ⟨_, rfl, hb, ho.less hle⟩
 refine By.ends_is (By.ends_is (By.ends_is (By.ends_is (By.ends_is (By.ends_is (By.ends_is (By.ends_is (By.ends_any fun v12 => (By.ends_nil fun wz hz => ?_)))))))))
 simp only [Act.put, List.setIfInBounds_toArray, List.set_cons_succ, List.set_cons_zero]
 simp only [List.drop_succ_cons, List.drop_zero]
 obtain ⟨hz, hown⟩ := hz
 have hown' : Own wz lo v12 (l ++ Oct.enc x) := hown
 obtain ⟨A9, c9, e9⟩ := hown'.shape
 obtain ⟨n9, hn9⟩ : ∃ n, (l ++ Oct.enc x).length = n := ⟨_, rfl⟩
 rw [hn9] at e9
 subst e9
 have hrow := Row.below (w := W0.drew) HWr.out.row hz HWr.out.row.lt
 have hc9 := hrow.cell (i := 0) rfl
 have hf9 := frozen_row hrow 0
 have HRow := Lib.hid (hrow.set 0 (.slice A9 n9 c9))
 have HOwn := Lib.hid (own_same (w' := wz.setCell ⟨g, 0, none⟩ (.slice A9 n9 c9)) hown' (fun k hk => Below.heap_setCell wz _ _ k (by dsimp only; have := HW.out.lt; omega)))
 have HBz := Lib.hid (nextB HB0.out (Nat.le_refl _) (show Below W0.heap.size W0 wz from ⟨hz.os, hz.tape, hz.output, hz.size, hz.block⟩))
 have HSz := Lib.hid hz.size
 clear hz hown hown' hrow
 go_wp2
 refine bodyPost_end (results_none rfl _ _ _) rfl ?_
 refine ⟨rfl, ⟨_, HRow.out, HOwn.out, HW.out.lt, ?_⟩, ?_⟩
 · have h1 := HW.out.le
   have h2 := HBz.out.size
   simp
   omega
 · refine ⟨HBz.out.os, HBz.out.tape, HBz.out.output, ?_, fun k h1 h2 => (Below.heap_setCell wz _ _ k (by dsimp only; exact h2)).trans (HBz.out.block k (by have := HW.out.le; omega))⟩
   have h2 := HBz.out.size
   simp
   omega
set_option maxRecDepth 100000 in
set_option maxHeartbeats 2000000 in
theorem wcnt_any (p : Pk) (ho : p.Ok) (hk : p.cnt < 18446744073709551616) (w : World) {lo g : Nat} {v : Value} {l : List UInt8} (h : Wr w lo g v l) (hl : l.length ≤ 1000000) : Calls Tryz.prog 97 #[.pointer (some ⟨g, 0, none⟩), p.val] w fun e w' => e = .returned (.tuple #[]) ∧ (∃ v', Wr w' lo g v' (l ++ Oct.enc (p.cnt))) ∧ KB lo g w w' := by
 obtain ⟨x, hx⟩ : ∃ x, p.cnt = x := ⟨_, rfl⟩
 rw [hx]
 have HX := Lib.hid hx
 have Hx := Lib.hid (show x < 2 ^ 64 by omega)
 have Hl := Lib.hid (show l.length ≤ 35184372088832 by omega)
 have HW := Lib.hid h
 clear hx hk hl ho
 unfold Pk.val
 go_enter Tryz.func97, Tryz.ntmps97
 go_wp2_with fail
 refine code_name fun W0 hW0 => ?_
 have HP := Lib.hid (show Row W0 w.heap.size p.cells 40 from hW0 ▸ Row.new rfl rfl)
 have HB0 := Lib.hid (show Below w.heap.size w W0 from hW0 ▸ (Below.refl _ w).alloc (Nat.le_refl _) _)
 have HWr := Lib.hid (show Wr W0 lo g v l from ⟨HW.out.row.below HB0.out HW.out.row.lt, HW.out.own.below HB0.out (Nat.le_refl _), HW.out.lt, Nat.le_trans HW.out.le HB0.out.size⟩)
 clear hW0
 refine Tail.marksAt Pol.mixed 8 Grew [By.is (.pointer (some ⟨g, 0, none⟩)),
  By.is (.pointer (some ⟨g, 0, none⟩)),
  By.is (.pointer (some ⟨g, 0, none⟩)),
  By.is (.pointer (some ⟨g, 0, none⟩)),
  By.is v,
  By.is (.pointer (some ⟨w.heap.size, 4, none⟩)),
  By.is (.int .u64 (p.cnt : Int)),
  ownM lo (l ++ Oct.enc x)]
  (Ev.masks _ []) (Nat.zero_lt_succ _) (by kernel_rfl) (by kernel_rfl) rfl Grew.refl Grew.trans ⟨?_, ?_, ?_, ?_, ?_, ?_, ?_, ?_, trivial⟩ ?_
 · intro a w ht hs hg
   have h0 := By.same_get hs 0 (by decide) (by kernel_rfl)
   refine By.yes rfl ?_
   clear hs hg
   go_simp
   exact ⟨_, rfl, Grew.refl _, rfl⟩
 · intro a w ht hs hg
   have h0 := By.same_get hs 0 (by decide) (by kernel_rfl)
   refine By.yes rfl ?_
   clear hs hg
   go_simp
   exact ⟨_, rfl, Grew.refl _, rfl⟩
 · intro a w ht hs hg
   have h5 : a.tmps.getD 5 undef = _ := By.given_get hg 1 rfl rfl (by kernel_rfl)
   refine By.yes rfl ?_
   clear hs hg
   go_simp
   exact ⟨_, rfl, Grew.refl _, rfl⟩
 · intro a w ht hs hg
   have h6 : a.tmps.getD 6 undef = _ := By.given_get hg 2 rfl rfl (by kernel_rfl)
   refine By.yes rfl ?_
   clear hs hg
   go_simp
   exact ⟨_, rfl, Grew.refl _, rfl⟩
 · intro a w ht hs hg
   have h7 : a.tmps.getD 7 undef = _ := By.given_get hg 3 rfl rfl (by kernel_rfl)
   refine By.yes rfl ?_
   clear hs hg
   have hc := (Row.below (w := W0.drew) HWr.out.row ht HWr.out.row.lt).cell (i := 0) rfl
   clear ht
   go_simp
   exact ⟨_, rfl, Grew.refl _, rfl⟩
 · intro a w ht hs hg
   have h3 := By.same_get hs 3 (by decide) (by kernel_rfl)
   refine By.yes rfl ?_
   clear hs hg
   go_simp
   exact ⟨_, rfl, Grew.refl _, rfl⟩
 · intro a w ht hs hg
   have h9 : a.tmps.getD 9 undef = _ := By.given_get hg 5 rfl rfl (by kernel_rfl)
   refine By.yes rfl ?_
   clear hs hg
   have hc := c_cnt (Row.below (w := W0.drew) HP.out ht HP.out.lt)
   clear ht
   go_simp
   exact ⟨_, rfl, Grew.refl _, rfl⟩
 · intro a w ht hs hg
   have h8 : a.tmps.getD 8 undef = _ := By.given_get hg 4 rfl rfl (by kernel_rfl)
   have h10 : a.tmps.getD 10 undef = _ := By.given_get hg 6 rfl rfl (by kernel_rfl)
   refine By.yes rfl ?_
   clear hs hg
   have Hv := Lib.hid ((Bs.below (w := W0.drew) HWr.out.own.bs ht).more ht.size)
   have hle : lo ≤ w.heap.size := Nat.le_trans HWr.out.le (show W0.heap.size ≤ w.heap.size from ht.size)
   clear ht
   rw [show (.int .u64 (p.cnt : Int) : Value) = .int .u64 (x : Int) by rw [← HX.out]] at h10
   go_simp
   refine (Number_any v l x w Hv.out Hx.out Hl.out).mono ?_
   rintro e w' ⟨r, rfl, ho, hb⟩
   exact ⟨_, rfl, hb, ho.less hle⟩
 refine By.ends_is (By.ends_is (By.ends_is (By.ends_is (By.ends_is (By.ends_is (By.ends_is (By.ends_any fun v11 => (By.ends_nil fun wz hz => ?_))))))))
 simp only [Act.put, List.setIfInBounds_toArray, List.set_cons_succ, List.set_cons_zero]
 simp only [List.drop_succ_cons, List.drop_zero]
 obtain ⟨hz, hown⟩ := hz
 have hown' : Own wz lo v11 (l ++ Oct.enc x) := hown
 obtain ⟨A9, c9, e9⟩ := hown'.shape
 obtain ⟨n9, hn9⟩ : ∃ n, (l ++ Oct.enc x).length = n := ⟨_, rfl⟩
 rw [hn9] at e9
 subst e9
 have hrow := Row.below (w := W0.drew) HWr.out.row hz HWr.out.row.lt
 have hc9 := hrow.cell (i := 0) rfl
 have hf9 := frozen_row hrow 0
 have HRow := Lib.hid (hrow.set 0 (.slice A9 n9 c9))
 have HOwn := Lib.hid (own_same (w' := wz.setCell ⟨g, 0, none⟩ (.slice A9 n9 c9)) hown' (fun k hk => Below.heap_setCell wz _ _ k (by dsimp only; have := HW.out.lt; omega)))
 have HBz := Lib.hid (nextB HB0.out (Nat.le_refl _) (show Below W0.heap.size W0 wz from ⟨hz.os, hz.tape, hz.output, hz.size, hz.block⟩))
 have HSz := Lib.hid hz.size
 clear hz hown hown' hrow
 go_wp2
 refine bodyPost_end (results_none rfl _ _ _) rfl ?_
 refine ⟨rfl, ⟨_, HRow.out, HOwn.out, HW.out.lt, ?_⟩, ?_⟩
 · have h1 := HW.out.le
   have h2 := HBz.out.size
   simp
   omega
 · refine ⟨HBz.out.os, HBz.out.tape, HBz.out.output, ?_, fun k h1 h2 => (Below.heap_setCell wz _ _ k (by dsimp only; exact h2)).trans (HBz.out.block k (by have := HW.out.le; omega))⟩
   have h2 := HBz.out.size
   simp
   omega
end Go.Proofs.YtedmogacklbcmaaGreatDoor.Pkt
namespace Go.Proofs.YtedmogacklbcmaaGreatDoor.Pkt
open Go.RowKit
theorem Pk.rnd_cell {p : Pk} (h : p.Ok) (i : Nat) (u : UInt8) (hu : p.rnd[i]? = some u) : p.cells[5 + i]? = some (bv u) := by
 have hi := (List.getElem?_eq_some_iff.1 hu).1
 rw [Nat.add_comm]
 show (p.rnd.map bv ++ (p.mrk.map bv ++ [p.bo]))[i]? = _
 rw [List.getElem?_append_left (by rw [List.length_map]; exact hi), List.getElem?_map, hu]
 rfl
theorem Pk.mrk_cell {p : Pk} (h : p.Ok) (i : Nat) (u : UInt8) (hu : p.mrk[i]? = some u) : p.cells[21 + i]? = some (bv u) := by
 have hi := (List.getElem?_eq_some_iff.1 hu).1
 rw [show 21 + i = 16 + i + 5 by omega]
 show (p.rnd.map bv ++ (p.mrk.map bv ++ [p.bo]))[16 + i]? = _
 rw [List.getElem?_append_right (by rw [List.length_map, h.r]; omega), List.length_map, h.r, show 16 + i - 16 = i by omega, List.getElem?_append_left (by rw [List.length_map]; exact hi), List.getElem?_map, hu]
 rfl
set_option maxRecDepth 100000 in
set_option maxHeartbeats 2000000 in
theorem wrnd_any (p : Pk) (ho : p.Ok) (w : World) {lo g : Nat} {v : Value} {l : List UInt8} (h : Wr w lo g v l) (hl : l.length ≤ 1000000) : Calls Tryz.prog 93 #[.pointer (some ⟨g, 0, none⟩), p.val] w fun e w' => e = .returned (.tuple #[]) ∧ (∃ v', Wr w' lo g v' (l ++ p.rnd)) ∧ KB lo g w w' := by
 have Ho := Lib.hid ho
 have Hl := Lib.hid hl
 have HW := Lib.hid h
 clear hl ho
 unfold Pk.val
 go_enter Tryz.func93, Tryz.ntmps93
 go_wp2_with fail
 refine code_name fun W0 hW0 => ?_
 have HP := Lib.hid (show Row W0 w.heap.size p.cells 40 from hW0 ▸ Row.new rfl rfl)
 have HB0 := Lib.hid (show Below w.heap.size w W0 from hW0 ▸ (Below.refl _ w).alloc (Nat.le_refl _) _)
 have HWr := Lib.hid (show Wr W0 lo g v l from ⟨HW.out.row.below HB0.out HW.out.row.lt, HW.out.own.below HB0.out (Nat.le_refl _), HW.out.lt, Nat.le_trans HW.out.le HB0.out.size⟩)
 clear hW0
 refine Tail.marksF Pol.mixed 7 0 4 Grew [By.is (.pointer (some ⟨g, 0, none⟩)),
  By.is (.pointer (some ⟨g, 0, none⟩)),
  By.is (.pointer (some ⟨g, 0, none⟩)),
  By.is (.pointer (some ⟨g, 0, none⟩)),
  By.is v,
  By.is (.pointer (some ⟨w.heap.size, 5, none⟩)),
  By.is (.slice (some ⟨w.heap.size, 5, none⟩) 16 16)]
  (Ev.masks _ []) (Nat.zero_lt_succ _) rfl (by kernel_rfl) (by kernel_rfl) rfl Grew.refl Grew.trans ⟨?_, ?_, ?_, ?_, ?_, ?_, ?_, trivial⟩ [_, _, _, _, _] (by rfl) ?_ ?_
 · intro a w ht hs hg
   have h0 := By.same_get hs 0 (by decide) (by kernel_rfl)
   refine By.yes rfl ?_
   clear hs hg
   go_simp
   exact ⟨_, rfl, Grew.refl _, rfl⟩
 · intro a w ht hs hg
   have h0 := By.same_get hs 0 (by decide) (by kernel_rfl)
   refine By.yes rfl ?_
   clear hs hg
   go_simp
   exact ⟨_, rfl, Grew.refl _, rfl⟩
 · intro a w ht hs hg
   have h5 : a.tmps.getD 5 undef = _ := By.given_get hg 1 rfl rfl (by kernel_rfl)
   refine By.yes rfl ?_
   clear hs hg
   go_simp
   exact ⟨_, rfl, Grew.refl _, rfl⟩
 · intro a w ht hs hg
   have h6 : a.tmps.getD 6 undef = _ := By.given_get hg 2 rfl rfl (by kernel_rfl)
   refine By.yes rfl ?_
   clear hs hg
   go_simp
   exact ⟨_, rfl, Grew.refl _, rfl⟩
 · intro a w ht hs hg
   have h7 : a.tmps.getD 7 undef = _ := By.given_get hg 3 rfl rfl (by kernel_rfl)
   refine By.yes rfl ?_
   clear hs hg
   have hc := (Row.below (w := W0.drew) HWr.out.row ht HWr.out.row.lt).cell (i := 0) rfl
   clear ht
   go_simp
   exact ⟨_, rfl, Grew.refl _, rfl⟩
 · intro a w ht hs hg
   have h3 := By.same_get hs 3 (by decide) (by kernel_rfl)
   refine By.yes rfl ?_
   clear hs hg
   go_simp
   exact ⟨_, rfl, Grew.refl _, rfl⟩
 · intro a w ht hs hg
   have h9 : a.tmps.getD 9 undef = _ := By.given_get hg 5 rfl rfl (by kernel_rfl)
   refine By.yes rfl ?_
   clear hs hg
   go_simp
   exact ⟨_, rfl, Grew.refl _, rfl⟩
 · refine By.ends_is (By.ends_is (By.ends_is (By.ends_is (By.ends_is (By.ends_is (By.ends_is (By.ends_nil fun wz hz => ?_)))))))
   simp only [Act.put, List.setIfInBounds_toArray, List.set_cons_succ, List.set_cons_zero]
   simp only [List.drop_succ_cons, List.drop_zero]
   have hw8' : Below W0.heap.size W0 wz := ⟨hz.os, hz.tape, hz.output, hz.size, hz.block⟩
   have HBz := Lib.hid (nextB HB0.out (Nat.le_refl _) hw8')
   have HOz := Lib.hid (HWr.out.own.below (w := W0) hw8' (Nat.le_refl _))
   have HRz := Lib.hid (HWr.out.row.below hw8' HWr.out.row.lt)
   have HBs := Lib.hid (show Bs wz wz.heap.size (.slice (some ⟨w.heap.size, 5, none⟩) 16 16) p.rnd from ⟨_, 16, by rw [Ho.out.r], by rw [Ho.out.r]; exact Nat.le_refl _, fun _ => ⟨w.heap.size, 5, rfl, Nat.lt_of_lt_of_le HP.out.lt hw8'.size, fun i u hu => (HP.out.below hw8' HP.out.lt).cell (Pk.rnd_cell Ho.out i u hu)⟩⟩)
   have HSz := Lib.hid (show lo ≤ wz.heap.size from Nat.le_trans HWr.out.le hw8'.size)
   clear hz hw8'
   refine wpList_app_bytes wz rfl (.tmp 8) (.tmp 10) rfl rfl HOz.out rfl HBs.out (by have := Hl.out; have := Ho.out.r; omega) HSz.out ?_
   intro v2 w2 ho2 hg2 _
   have hb2 : Below lo wz w2 := (Below.refl lo wz).grown hg2 HSz.out (fun k hk => (HOz.out.block_ge hk).1)
   have hrow := HRz.out.below hb2 HW.out.lt
   obtain ⟨A9, c9, e9⟩ := ho2.shape
   obtain ⟨n9, hn9⟩ : ∃ n, (l ++ p.rnd).length = n := ⟨_, rfl⟩
   rw [hn9] at e9
   subst e9
   have hc9 := hrow.cell (i := 0) rfl
   have hf9 := frozen_row hrow 0
   have HRow := Lib.hid (hrow.set 0 (.slice A9 n9 c9))
   have HOwn := Lib.hid (own_same (w' := w2.setCell ⟨g, 0, none⟩ (.slice A9 n9 c9)) ho2 (fun k hk => Below.heap_setCell w2 _ _ k (by dsimp only; have := HW.out.lt; omega)))
   have HB2 := Lib.hid hb2
   clear hg2 ho2 hb2 hrow hn9
   go_wp2
   refine bodyPost_end (results_none rfl _ _ _) rfl ?_
   refine ⟨rfl, ⟨_, HRow.out, HOwn.out, HW.out.lt, ?_⟩, ?_⟩
   · have h1 := HSz.out
     have h2 := HB2.out.size
     simp
     omega
   · refine ⟨HB2.out.os.trans HBz.out.os, HB2.out.tape.trans HBz.out.tape, HB2.out.output.trans HBz.out.output, ?_, fun k h1 h2 => (Below.heap_setCell w2 _ _ k (by dsimp only; exact h2)).trans ((HB2.out.block k h1).trans (HBz.out.block k (by have := HW.out.le; omega)))⟩
     have h1 := HBz.out.size
     have h2 := HB2.out.size
     simp
     omega
 · refine By.ends_is (By.ends_is (By.ends_is (By.ends_is (By.ends_is (By.ends_is (By.ends_is (By.ends_nil fun wz hz => ?_)))))))
   simp only [Act.put, List.setIfInBounds_toArray, List.set_cons_succ, List.set_cons_zero]
   have hw8' : Below W0.heap.size W0 wz := ⟨hz.os, hz.tape, hz.output, hz.size, hz.block⟩
   have HBz := Lib.hid (nextB HB0.out (Nat.le_refl _) hw8')
   have HOz := Lib.hid (HWr.out.own.below (w := W0) hw8' (Nat.le_refl _))
   have HRz := Lib.hid (HWr.out.row.below hw8' HWr.out.row.lt)
   have HBs := Lib.hid (show Bs wz wz.heap.size (.slice (some ⟨w.heap.size, 5, none⟩) 16 16) p.rnd from ⟨_, 16, by rw [Ho.out.r], by rw [Ho.out.r]; exact Nat.le_refl _, fun _ => ⟨w.heap.size, 5, rfl, Nat.lt_of_lt_of_le HP.out.lt hw8'.size, fun i u hu => (HP.out.below hw8' HP.out.lt).cell (Pk.rnd_cell Ho.out i u hu)⟩⟩)
   have HSz := Lib.hid (show lo ≤ wz.heap.size from Nat.le_trans HWr.out.le hw8'.size)
   clear hz hw8'
   refine wpList_app_bytes wz rfl (.tmp 8) (.tmp 10) rfl rfl HOz.out rfl HBs.out (by have := Hl.out; have := Ho.out.r; omega) HSz.out ?_
   intro v2 w2 ho2 hg2 _
   have hb2 : Below lo wz w2 := (Below.refl lo wz).grown hg2 HSz.out (fun k hk => (HOz.out.block_ge hk).1)
   have hrow := HRz.out.below hb2 HW.out.lt
   obtain ⟨A9, c9, e9⟩ := ho2.shape
   obtain ⟨n9, hn9⟩ : ∃ n, (l ++ p.rnd).length = n := ⟨_, rfl⟩
   rw [hn9] at e9
   subst e9
   have hc9 := hrow.cell (i := 0) rfl
   have hf9 := frozen_row hrow 0
   have HRow := Lib.hid (hrow.set 0 (.slice A9 n9 c9))
   have HOwn := Lib.hid (own_same (w' := w2.setCell ⟨g, 0, none⟩ (.slice A9 n9 c9)) ho2 (fun k hk => Below.heap_setCell w2 _ _ k (by dsimp only; have := HW.out.lt; omega)))
   have HB2 := Lib.hid hb2
   clear hg2 ho2 hb2 hrow hn9
   go_wp2
   refine bodyPost_end (results_none rfl _ _ _) rfl ?_
   refine ⟨rfl, ⟨_, HRow.out, HOwn.out, HW.out.lt, ?_⟩, ?_⟩
   · have h1 := HSz.out
     have h2 := HB2.out.size
     simp
     omega
   · refine ⟨HB2.out.os.trans HBz.out.os, HB2.out.tape.trans HBz.out.tape, HB2.out.output.trans HBz.out.output, ?_, fun k h1 h2 => (Below.heap_setCell w2 _ _ k (by dsimp only; exact h2)).trans ((HB2.out.block k h1).trans (HBz.out.block k (by have := HW.out.le; omega)))⟩
     have h1 := HBz.out.size
     have h2 := HB2.out.size
     simp
     omega
set_option maxRecDepth 100000 in
set_option maxHeartbeats 2000000 in
theorem wmrk_any (p : Pk) (ho : p.Ok) (w : World) {lo g : Nat} {v : Value} {l : List UInt8} (h : Wr w lo g v l) (hl : l.length ≤ 1000000) : Calls Tryz.prog 94 #[.pointer (some ⟨g, 0, none⟩), p.val] w fun e w' => e = .returned (.tuple #[]) ∧ (∃ v', Wr w' lo g v' (l ++ p.mrk)) ∧ KB lo g w w' := by
 have Ho := Lib.hid ho
 have Hl := Lib.hid hl
 have HW := Lib.hid h
 clear hl ho
 unfold Pk.val
 go_enter Tryz.func94, Tryz.ntmps94
 go_wp2_with fail
 refine code_name fun W0 hW0 => ?_
 have HP := Lib.hid (show Row W0 w.heap.size p.cells 40 from hW0 ▸ Row.new rfl rfl)
 have HB0 := Lib.hid (show Below w.heap.size w W0 from hW0 ▸ (Below.refl _ w).alloc (Nat.le_refl _) _)
 have HWr := Lib.hid (show Wr W0 lo g v l from ⟨HW.out.row.below HB0.out HW.out.row.lt, HW.out.own.below HB0.out (Nat.le_refl _), HW.out.lt, Nat.le_trans HW.out.le HB0.out.size⟩)
 clear hW0
 refine Tail.marksF Pol.mixed 7 0 4 Grew [By.is (.pointer (some ⟨g, 0, none⟩)),
  By.is (.pointer (some ⟨g, 0, none⟩)),
  By.is (.pointer (some ⟨g, 0, none⟩)),
  By.is (.pointer (some ⟨g, 0, none⟩)),
  By.is v,
  By.is (.pointer (some ⟨w.heap.size, 21, none⟩)),
  By.is (.slice (some ⟨w.heap.size, 21, none⟩) 16 16)]
  (Ev.masks _ []) (Nat.zero_lt_succ _) rfl (by kernel_rfl) (by kernel_rfl) rfl Grew.refl Grew.trans ⟨?_, ?_, ?_, ?_, ?_, ?_, ?_, trivial⟩ [_, _, _, _, _] (by rfl) ?_ ?_
 · intro a w ht hs hg
   have h0 := By.same_get hs 0 (by decide) (by kernel_rfl)
   refine By.yes rfl ?_
   clear hs hg
   go_simp
   exact ⟨_, rfl, Grew.refl _, rfl⟩
 · intro a w ht hs hg
   have h0 := By.same_get hs 0 (by decide) (by kernel_rfl)
   refine By.yes rfl ?_
   clear hs hg
   go_simp
   exact ⟨_, rfl, Grew.refl _, rfl⟩
 · intro a w ht hs hg
   have h5 : a.tmps.getD 5 undef = _ := By.given_get hg 1 rfl rfl (by kernel_rfl)
   refine By.yes rfl ?_
   clear hs hg
   go_simp
   exact ⟨_, rfl, Grew.refl _, rfl⟩
 · intro a w ht hs hg
   have h6 : a.tmps.getD 6 undef = _ := By.given_get hg 2 rfl rfl (by kernel_rfl)
   refine By.yes rfl ?_
   clear hs hg
   go_simp
   exact ⟨_, rfl, Grew.refl _, rfl⟩
 · intro a w ht hs hg
   have h7 : a.tmps.getD 7 undef = _ := By.given_get hg 3 rfl rfl (by kernel_rfl)
   refine By.yes rfl ?_
   clear hs hg
   have hc := (Row.below (w := W0.drew) HWr.out.row ht HWr.out.row.lt).cell (i := 0) rfl
   clear ht
   go_simp
   exact ⟨_, rfl, Grew.refl _, rfl⟩
 · intro a w ht hs hg
   have h3 := By.same_get hs 3 (by decide) (by kernel_rfl)
   refine By.yes rfl ?_
   clear hs hg
   go_simp
   exact ⟨_, rfl, Grew.refl _, rfl⟩
 · intro a w ht hs hg
   have h9 : a.tmps.getD 9 undef = _ := By.given_get hg 5 rfl rfl (by kernel_rfl)
   refine By.yes rfl ?_
   clear hs hg
   go_simp
   exact ⟨_, rfl, Grew.refl _, rfl⟩
 · refine By.ends_is (By.ends_is (By.ends_is (By.ends_is (By.ends_is (By.ends_is (By.ends_is (By.ends_nil fun wz hz => ?_)))))))
   simp only [Act.put, List.setIfInBounds_toArray, List.set_cons_succ, List.set_cons_zero]
   simp only [List.drop_succ_cons, List.drop_zero]
   have hw8' : Below W0.heap.size W0 wz := ⟨hz.os, hz.tape, hz.output, hz.size, hz.block⟩
   have HBz := Lib.hid (nextB HB0.out (Nat.le_refl _) hw8')
   have HOz := Lib.hid (HWr.out.own.below (w := W0) hw8' (Nat.le_refl _))
   have HRz := Lib.hid (HWr.out.row.below hw8' HWr.out.row.lt)
   have HBs := Lib.hid (show Bs wz wz.heap.size (.slice (some ⟨w.heap.size, 21, none⟩) 16 16) p.mrk from ⟨_, 16, by rw [Ho.out.m], by rw [Ho.out.m]; exact Nat.le_refl _, fun _ => ⟨w.heap.size, 21, rfl, Nat.lt_of_lt_of_le HP.out.lt hw8'.size, fun i u hu => (HP.out.below hw8' HP.out.lt).cell (Pk.mrk_cell Ho.out i u hu)⟩⟩)
   have HSz := Lib.hid (show lo ≤ wz.heap.size from Nat.le_trans HWr.out.le hw8'.size)
   clear hz hw8'
   refine wpList_app_bytes wz rfl (.tmp 8) (.tmp 10) rfl rfl HOz.out rfl HBs.out (by have := Hl.out; have := Ho.out.m; omega) HSz.out ?_
   intro v2 w2 ho2 hg2 _
   have hb2 : Below lo wz w2 := (Below.refl lo wz).grown hg2 HSz.out (fun k hk => (HOz.out.block_ge hk).1)
   have hrow := HRz.out.below hb2 HW.out.lt
   obtain ⟨A9, c9, e9⟩ := ho2.shape
   obtain ⟨n9, hn9⟩ : ∃ n, (l ++ p.mrk).length = n := ⟨_, rfl⟩
   rw [hn9] at e9
   subst e9
   have hc9 := hrow.cell (i := 0) rfl
   have hf9 := frozen_row hrow 0
   have HRow := Lib.hid (hrow.set 0 (.slice A9 n9 c9))
   have HOwn := Lib.hid (own_same (w' := w2.setCell ⟨g, 0, none⟩ (.slice A9 n9 c9)) ho2 (fun k hk => Below.heap_setCell w2 _ _ k (by dsimp only; have := HW.out.lt; omega)))
   have HB2 := Lib.hid hb2
   clear hg2 ho2 hb2 hrow hn9
   go_wp2
   refine bodyPost_end (results_none rfl _ _ _) rfl ?_
   refine ⟨rfl, ⟨_, HRow.out, HOwn.out, HW.out.lt, ?_⟩, ?_⟩
   · have h1 := HSz.out
     have h2 := HB2.out.size
     simp
     omega
   · refine ⟨HB2.out.os.trans HBz.out.os, HB2.out.tape.trans HBz.out.tape, HB2.out.output.trans HBz.out.output, ?_, fun k h1 h2 => (Below.heap_setCell w2 _ _ k (by dsimp only; exact h2)).trans ((HB2.out.block k h1).trans (HBz.out.block k (by have := HW.out.le; omega)))⟩
     have h1 := HBz.out.size
     have h2 := HB2.out.size
     simp
     omega
 · refine By.ends_is (By.ends_is (By.ends_is (By.ends_is (By.ends_is (By.ends_is (By.ends_is (By.ends_nil fun wz hz => ?_)))))))
   simp only [Act.put, List.setIfInBounds_toArray, List.set_cons_succ, List.set_cons_zero]
   have hw8' : Below W0.heap.size W0 wz := ⟨hz.os, hz.tape, hz.output, hz.size, hz.block⟩
   have HBz := Lib.hid (nextB HB0.out (Nat.le_refl _) hw8')
   have HOz := Lib.hid (HWr.out.own.below (w := W0) hw8' (Nat.le_refl _))
   have HRz := Lib.hid (HWr.out.row.below hw8' HWr.out.row.lt)
   have HBs := Lib.hid (show Bs wz wz.heap.size (.slice (some ⟨w.heap.size, 21, none⟩) 16 16) p.mrk from ⟨_, 16, by rw [Ho.out.m], by rw [Ho.out.m]; exact Nat.le_refl _, fun _ => ⟨w.heap.size, 21, rfl, Nat.lt_of_lt_of_le HP.out.lt hw8'.size, fun i u hu => (HP.out.below hw8' HP.out.lt).cell (Pk.mrk_cell Ho.out i u hu)⟩⟩)
   have HSz := Lib.hid (show lo ≤ wz.heap.size from Nat.le_trans HWr.out.le hw8'.size)
   clear hz hw8'
   refine wpList_app_bytes wz rfl (.tmp 8) (.tmp 10) rfl rfl HOz.out rfl HBs.out (by have := Hl.out; have := Ho.out.m; omega) HSz.out ?_
   intro v2 w2 ho2 hg2 _
   have hb2 : Below lo wz w2 := (Below.refl lo wz).grown hg2 HSz.out (fun k hk => (HOz.out.block_ge hk).1)
   have hrow := HRz.out.below hb2 HW.out.lt
   obtain ⟨A9, c9, e9⟩ := ho2.shape
   obtain ⟨n9, hn9⟩ : ∃ n, (l ++ p.mrk).length = n := ⟨_, rfl⟩
   rw [hn9] at e9
   subst e9
   have hc9 := hrow.cell (i := 0) rfl
   have hf9 := frozen_row hrow 0
   have HRow := Lib.hid (hrow.set 0 (.slice A9 n9 c9))
   have HOwn := Lib.hid (own_same (w' := w2.setCell ⟨g, 0, none⟩ (.slice A9 n9 c9)) ho2 (fun k hk => Below.heap_setCell w2 _ _ k (by dsimp only; have := HW.out.lt; omega)))
   have HB2 := Lib.hid hb2
   clear hg2 ho2 hb2 hrow hn9
   go_wp2
   refine bodyPost_end (results_none rfl _ _ _) rfl ?_
   refine ⟨rfl, ⟨_, HRow.out, HOwn.out, HW.out.lt, ?_⟩, ?_⟩
   · have h1 := HSz.out
     have h2 := HB2.out.size
     simp
     omega
   · refine ⟨HB2.out.os.trans HBz.out.os, HB2.out.tape.trans HBz.out.tape, HB2.out.output.trans HBz.out.output, ?_, fun k h1 h2 => (Below.heap_setCell w2 _ _ k (by dsimp only; exact h2)).trans ((HB2.out.block k h1).trans (HBz.out.block k (by have := HW.out.le; omega)))⟩
     have h1 := HBz.out.size
     have h2 := HB2.out.size
     simp
     omega
end Go.Proofs.YtedmogacklbcmaaGreatDoor.Pkt
namespace Go.Proofs.YtedmogacklbcmaaGreatDoor.Pkt
open Go.RowKit
structure KG (lo g : Nat) (F : List UInt8) (x y : World) : Prop where
 os : y.os = x.os
 tape : y.tape = x.tape
 output : y.output = x.output
 size : x.heap.size ≤ y.heap.size
 block : ∀ k, k < x.heap.size → k ≠ g → y.heap[k]? = x.heap[k]?
 up : ∀ u, Row x g [u] 141 → ∃ u', Row y g [u'] 141
 has : (∃ u, Row x g [u] 141 ∧ Own x lo u F) → ∃ u, Row y g [u] 141 ∧ Own y lo u F
section
variable {lo g : Nat} {F : List UInt8}
theorem KG.refl (x : World) : KG lo g F x x := ⟨rfl, rfl, rfl, Nat.le_refl _, fun _ _ _ => rfl, fun u h => ⟨u, h⟩, fun h => h⟩
theorem KG.trans (x y z : World) (h : KG lo g F x y) (k : KG lo g F y z) : KG lo g F x z :=
 ⟨k.os.trans h.os, k.tape.trans h.tape, k.output.trans h.output, Nat.le_trans h.size k.size, fun i h1 h2 => (k.block i (Nat.lt_of_lt_of_le h1 h.size) h2).trans (h.block i h1 h2), fun u hu => by
  obtain ⟨u', hu'⟩ := h.up u hu
  exact k.up u' hu', fun hu => k.has (h.has hu)⟩
theorem KG.of_grew {x y : World} (h : Grew x y) : KG lo g F x y :=
 ⟨h.os, h.tape, h.output, h.size, fun k hk _ => h.block k hk, fun u hu => ⟨u, hu.below h hu.lt⟩, fun ⟨u, h1, h2⟩ => ⟨u, h1.below h h1.lt, h2.below h (Nat.le_refl _)⟩⟩
theorem own_KG {x y : World} (hg : g < lo) {v : Value} {l : List UInt8} (h : KG lo g F x y) (ho : Own x lo v l) : Own y lo v l := by
 refine ⟨ho.1, ?_⟩
 rcases ho.2 with h2 | ⟨b, cap, cur, e, hb, hbb, r⟩
 · exact .inl h2
 · exact .inr ⟨b, cap, cur, e, hb, (h.block b (Array.getElem?_eq_some_iff.1 hbb).1 (by omega)).trans hbb, r⟩
end
def resO (lo g : Nat) (F : List UInt8) (hg : g < lo) : By.Mark (KG lo g F) := ⟨fun v w => ∃ x, v = .tuple #[x, .int .i64 0] ∧ Own w lo x F, fun _ _ _ ⟨x, h1, h2⟩ k => ⟨x, h1, own_KG hg k h2⟩⟩
def ownK (lo g : Nat) (F : List UInt8) (hg : g < lo) : By.Mark (KG lo g F) := ⟨fun v w => Own w lo v F, fun _ _ _ h k => own_KG hg k h⟩
def hasM (lo g : Nat) (F : List UInt8) : By.Mark (KG lo g F) := ByN.wo (fun w => ∃ u, Row w g [u] 141 ∧ Own w lo u F) fun _ _ h k => k.has h
set_option maxRecDepth 100000 in
set_option maxHeartbeats 2000000 in
theorem wbody_any (p : Pk) (ho : p.Ok) (w : World) {m : List UInt8} (hm : Bs w w.heap.size p.bo m) (hml : m.length ≤ 1048576) {lo g : Nat} {v : Value} {l : List UInt8} (h : Wr w lo g v l) (hl : l.length ≤ 1000000) : Calls Tryz.prog 98 #[.pointer (some ⟨g, 0, none⟩), p.val] w fun e w' => e = .returned (.tuple #[]) ∧ (∃ v', Wr w' lo g v' (l ++ Oct.enc m.length ++ m)) ∧ KB lo g w w' := by
 obtain ⟨F, hF⟩ : ∃ F, l ++ Oct.enc m.length ++ m = F := ⟨_, rfl⟩
 rw [hF]
 have HF := Lib.hid hF
 clear hF
 have Ho := Lib.hid ho
 have Hl := Lib.hid (show l.length ≤ 35184372088832 by omega)
 have Hml := Lib.hid hml
 have HM0 := Lib.hid hm
 have HW := Lib.hid h
 clear hl ho hm hml
 unfold Pk.val
 go_enter Tryz.func98, Tryz.ntmps98
 go_wp2_with fail
 refine code_name fun W0 hW0 => ?_
 have HP := Lib.hid (show Row W0 w.heap.size p.cells 40 from hW0 ▸ Row.new rfl rfl)
 have HB0 := Lib.hid (show Below w.heap.size w W0 from hW0 ▸ (Below.refl _ w).alloc (Nat.le_refl _) _)
 have HM := Lib.hid ((HM0.out.below HB0.out).more HB0.out.size)
 have HWr := Lib.hid (show Wr W0 lo g v l from ⟨HW.out.row.below HB0.out HW.out.row.lt, HW.out.own.below HB0.out (Nat.le_refl _), HW.out.lt, Nat.le_trans HW.out.le HB0.out.size⟩)
 clear hW0
 have hg := HW.out.lt
 refine ByC.marks Pol.mixed (KG lo g F) Grew 13 [By.is (.pointer (some ⟨g, 0, none⟩)),
  By.is (.pointer (some ⟨g, 0, none⟩)),
  By.is (.pointer (some ⟨g, 0, none⟩)),
  By.is (.pointer (some ⟨g, 0, none⟩)),
  By.is v,
  By.is (.pointer (some ⟨w.heap.size, 37, none⟩)),
  By.is p.bo,
  (resO lo g F hg),
  (resO lo g F hg),
  (ownK lo g F hg),
  By.is (.int .i64 0),
  By.is (.pointer (some ⟨g, 0, none⟩)),
  By.is (.pointer (some ⟨g, 0, none⟩)),
  (hasM lo g F)]
  (Ev.masks _ []) (by kernel_rfl) rfl KG.refl KG.trans Grew.refl Grew.trans ⟨?_, ?_, ?_, ?_, ?_, ?_, ?_, ?_, ?_, ?_, ?_, ?_, ?_, ?_, trivial⟩ ?_
 · intro a w' ht ht0 hs hg'
   have h0 := By.same_get hs 0 (by decide) (by kernel_rfl)
   refine By.yes rfl ?_
   clear hs hg'
   go_simp
   first | exact ⟨_, rfl, KG.refl _, fun _ => Grew.refl _, rfl⟩ | exact ⟨_, rfl, KG.refl _, Grew.refl _, rfl⟩ | exact ⟨_, rfl, KG.refl _, rfl⟩
 · intro a w' ht ht0 hs hg'
   have h0 := By.same_get hs 0 (by decide) (by kernel_rfl)
   refine By.yes rfl ?_
   clear hs hg'
   go_simp
   first | exact ⟨_, rfl, KG.refl _, fun _ => Grew.refl _, rfl⟩ | exact ⟨_, rfl, KG.refl _, Grew.refl _, rfl⟩ | exact ⟨_, rfl, KG.refl _, rfl⟩
 · intro a w' ht ht0 hs hg'
   have h6 : a.tmps.getD 6 undef = _ := ByN.given_get hg' 1 rfl rfl (by kernel_rfl)
   refine By.yes rfl ?_
   clear hs hg'
   go_simp
   first | exact ⟨_, rfl, KG.refl _, fun _ => Grew.refl _, rfl⟩ | exact ⟨_, rfl, KG.refl _, Grew.refl _, rfl⟩ | exact ⟨_, rfl, KG.refl _, rfl⟩
 · intro a w' ht ht0 hs hg'
   have h7 : a.tmps.getD 7 undef = _ := ByN.given_get hg' 2 rfl rfl (by kernel_rfl)
   refine By.yes rfl ?_
   clear hs hg'
   go_simp
   first | exact ⟨_, rfl, KG.refl _, fun _ => Grew.refl _, rfl⟩ | exact ⟨_, rfl, KG.refl _, Grew.refl _, rfl⟩ | exact ⟨_, rfl, KG.refl _, rfl⟩
 · intro a w' ht ht0 hs hg'
   have h8 : a.tmps.getD 8 undef = _ := ByN.given_get hg' 3 rfl rfl (by kernel_rfl)
   refine By.yes rfl ?_
   clear hs hg'
   have hc := (Row.below (w := W0.drew) HWr.out.row (ht0 (by kernel_rfl)) HWr.out.row.lt).cell (i := 0) rfl
   clear ht ht0
   go_simp
   first | exact ⟨_, rfl, KG.refl _, fun _ => Grew.refl _, rfl⟩ | exact ⟨_, rfl, KG.refl _, Grew.refl _, rfl⟩ | exact ⟨_, rfl, KG.refl _, rfl⟩
 · intro a w' ht ht0 hs hg'
   have h3 := By.same_get hs 3 (by decide) (by kernel_rfl)
   refine By.yes rfl ?_
   clear hs hg'
   go_simp
   first | exact ⟨_, rfl, KG.refl _, fun _ => Grew.refl _, rfl⟩ | exact ⟨_, rfl, KG.refl _, Grew.refl _, rfl⟩ | exact ⟨_, rfl, KG.refl _, rfl⟩
 · intro a w' ht ht0 hs hg'
   have h10 : a.tmps.getD 10 undef = _ := ByN.given_get hg' 5 rfl rfl (by kernel_rfl)
   refine By.yes rfl ?_
   clear hs hg'
   have hc := c_bo (Row.below (w := W0.drew) HP.out (ht0 (by kernel_rfl)) HP.out.lt) Ho.out
   clear ht ht0
   go_simp
   first | exact ⟨_, rfl, KG.refl _, fun _ => Grew.refl _, rfl⟩ | exact ⟨_, rfl, KG.refl _, Grew.refl _, rfl⟩ | exact ⟨_, rfl, KG.refl _, rfl⟩
 · intro a w' ht ht0 hs hg'
   have h9 : a.tmps.getD 9 undef = _ := ByN.given_get hg' 4 rfl rfl (by kernel_rfl)
   have h11 : a.tmps.getD 11 undef = _ := ByN.given_get hg' 6 rfl rfl (by kernel_rfl)
   refine By.yes rfl ?_
   clear hs hg'
   have hgr : Grew W0.drew w' := ht0 (by kernel_rfl)
   have Hv := Lib.hid ((Bs.below (w := W0.drew) HWr.out.own.bs hgr).more hgr.size)
   have Hm := Lib.hid ((Bs.below (w := W0.drew) HM.out hgr).more hgr.size)
   have hle : lo ≤ w'.heap.size := Nat.le_trans HWr.out.le (show W0.heap.size ≤ w'.heap.size from hgr.size)
   clear ht ht0 hgr
   go_simp
   refine (Block_ok v p.bo l m w' Hv.out Hm.out Hml.out Hl.out).mono ?_
   rintro e w2 ⟨r, rfl, ho, hb⟩
   rw [HF.out] at ho
   first | exact ⟨_, rfl, KG.of_grew hb, fun _ => hb, r, rfl, ho.less hle⟩ | exact ⟨_, rfl, KG.of_grew hb, hb, r, rfl, ho.less hle⟩
 · intro a w' ht ht0 hs hg'
   have h12 := ByN.given_get hg' 7 rfl rfl (by kernel_rfl)
   obtain ⟨v12, hv12⟩ : ∃ v, a.tmps.getD 12 undef = v := ⟨_, rfl⟩
   replace h12 := (congrArg (fun v => ((resO lo g F hg)).on v w') hv12).mp h12
   refine By.yes rfl ?_
   clear hs hg'
   go_simp
   first | exact ⟨_, rfl, KG.refl _, fun _ => Grew.refl _, h12⟩ | exact ⟨_, rfl, KG.refl _, Grew.refl _, h12⟩ | exact ⟨_, rfl, KG.refl _, h12⟩
 · intro a w' ht ht0 hs hg'
   have h4 := ByN.given_get hg' 8 rfl rfl (by kernel_rfl)
   obtain ⟨v4, hv4⟩ : ∃ v, a.tmps.getD 4 undef = v := ⟨_, rfl⟩
   replace h4 := (congrArg (fun v => ((resO lo g F hg)).on v w') hv4).mp h4
   refine By.yes rfl ?_
   clear hs hg'
   obtain ⟨x, rfl, hx⟩ := h4
   have Hx := Lib.hid hx
   clear hx
   go_simp
   first | exact ⟨_, rfl, KG.refl _, fun _ => Grew.refl _, Hx.out⟩ | exact ⟨_, rfl, KG.refl _, Grew.refl _, Hx.out⟩ | exact ⟨_, rfl, KG.refl _, Hx.out⟩
 · intro a w' ht ht0 hs hg'
   have h4 := ByN.given_get hg' 8 rfl rfl (by kernel_rfl)
   obtain ⟨v4, hv4⟩ : ∃ v, a.tmps.getD 4 undef = v := ⟨_, rfl⟩
   replace h4 := (congrArg (fun v => ((resO lo g F hg)).on v w') hv4).mp h4
   refine By.yes rfl ?_
   clear hs hg'
   obtain ⟨x, rfl, hx⟩ := h4
   clear hx
   go_simp
   first | exact ⟨_, rfl, KG.refl _, fun _ => Grew.refl _, rfl⟩ | exact ⟨_, rfl, KG.refl _, Grew.refl _, rfl⟩ | exact ⟨_, rfl, KG.refl _, rfl⟩
 · intro a w' ht ht0 hs hg'
   have h5 : a.tmps.getD 5 undef = _ := ByN.given_get hg' 0 rfl rfl (by kernel_rfl)
   refine By.yes rfl ?_
   clear hs hg'
   go_simp
   first | exact ⟨_, rfl, KG.refl _, fun _ => Grew.refl _, rfl⟩ | exact ⟨_, rfl, KG.refl _, Grew.refl _, rfl⟩ | exact ⟨_, rfl, KG.refl _, rfl⟩
 · intro a w' ht ht0 hs hg'
   have h15 : a.tmps.getD 15 undef = _ := ByN.given_get hg' 11 rfl rfl (by kernel_rfl)
   refine By.yes rfl ?_
   clear hs hg'
   go_simp
   first | exact ⟨_, rfl, KG.refl _, fun _ => Grew.refl _, rfl⟩ | exact ⟨_, rfl, KG.refl _, Grew.refl _, rfl⟩ | exact ⟨_, rfl, KG.refl _, rfl⟩
 · intro a w' ht ht0 hs hg'
   have h16 : a.tmps.getD 16 undef = _ := ByN.given_get hg' 12 rfl rfl (by kernel_rfl)
   have h13 := ByN.given_get hg' 9 rfl rfl (by kernel_rfl)
   obtain ⟨v13, hv13⟩ : ∃ v, a.tmps.getD 13 undef = v := ⟨_, rfl⟩
   replace h13 := (congrArg (fun v => ((ownK lo g F hg)).on v w') hv13).mp h13
   refine By.yes rfl ?_
   clear hs hg'
   obtain ⟨u, hu⟩ := ht.up v (show Row W0.drew g [v] 141 from HWr.out.row)
   have hown : Own w' lo v13 F := h13
   obtain ⟨A9, c9, e9⟩ := hown.shape
   refine Stg.wp_storeAny (n := 1) (off := 0) (cs := [v13]) 38 _ _ rfl h16 hv13 (by rw [e9]; rfl) hu (by kernel_rfl) rfl (by simp) (by intro x hx; simp at hx; subst hx; rw [e9]; rfl) ?_
   have hw2 : splice [u] 0 [v13] = [v13] := rfl
   rw [hw2]
   have hrow : Row (w'.setRow g [v13].toArray) g [v13] 141 := hu.setRow _
   have hblk : ∀ k, k ≠ g → (w'.setRow g [v13].toArray).heap[k]? = w'.heap[k]? := fun k hk => setRow_other w' g k _ hk
   have hown2 : Own (w'.setRow g [v13].toArray) lo v13 F := own_same hown fun k hk => hblk k (by omega)
   exact ⟨undef, rfl, ⟨rfl, rfl, rfl, by simp [World.setRow], fun k _ hk => hblk k hk, fun _ _ => ⟨_, hrow⟩, fun _ => ⟨_, hrow, hown2⟩⟩, fun h => absurd (Eq.trans (Eq.symm (by kernel_rfl)) h) Bool.false_ne_true, ⟨_, hrow, hown2⟩⟩
 refine ByN.ends_is ?_
 refine ByN.ends_is ?_
 refine ByN.ends_is ?_
 refine ByN.ends_is ?_
 refine ByN.ends_is ?_
 refine ByN.ends_is ?_
 refine ByN.ends_is ?_
 refine ByN.ends_skip fun _ => ?_
 refine ByN.ends_skip fun _ => ?_
 refine ByN.ends_skip fun _ => ?_
 refine ByN.ends_is ?_
 refine ByN.ends_is ?_
 refine ByN.ends_is ?_
 refine ByN.ends_any fun _ => ?_
 refine ByN.ends_nil fun wz hz => ?_
 obtain ⟨hz, hl9⟩ := hz
 obtain ⟨u9, hrow9, hown9⟩ := (show ∃ u, Row wz g [u] 141 ∧ Own wz lo u F from hl9)
 have HRow := Lib.hid hrow9
 have HOwn := Lib.hid hown9
 have HK := Lib.hid hz
 clear hl9 hrow9 hown9 hz
 simp only [Act.put, List.setIfInBounds_toArray, List.set_cons_succ, List.set_cons_zero]
 go_wp2
 refine bodyPost_end (results_none rfl _ _ _) rfl ?_
 refine ⟨rfl, ⟨_, HRow.out, HOwn.out, HW.out.lt, ?_⟩, ?_⟩
 · exact Nat.le_trans HWr.out.le (show W0.heap.size ≤ wz.heap.size from HK.out.size)
 · exact ⟨HK.out.os.trans HB0.out.os, HK.out.tape.trans HB0.out.tape, HK.out.output.trans HB0.out.output, Nat.le_trans HB0.out.size HK.out.size, fun k h1 h2 => (HK.out.block k (show k < W0.heap.size from Nat.lt_of_lt_of_le h1 HWr.out.le) h2).trans (HB0.out.block k (Nat.lt_of_lt_of_le h1 HW.out.le))⟩
end Go.Proofs.YtedmogacklbcmaaGreatDoor.Pkt
