/- Texts that the proofs share: PktWr3. -/
import Derived.Test.YtgmmjnedgaeefaaDoorF13
import Derived.Test.YtgmmjnedgaeefaaDoorF28
import Derived.Test.YtgmmjnedgaeefaaDoorF36
import Derived.Test.YtgmmjnedgaeefaaDoorF45
namespace Go.Proofs.YtgmmjnedgaeefaaDoor.Pkt
open Go.RowKit
structure KG (lo g : Nat) (F : List UInt8) (x y : World) : Prop where
 os : y.os = x.os
 tape : y.tape = x.tape
 output : y.output = x.output
 size : x.heap.size ≤ y.heap.size
 block : ∀ k, k < x.heap.size → k ≠ g → y.heap[k]? = x.heap[k]?
 up : ∀ u, Row x g [u] 86 → ∃ u', Row y g [u'] 86
 has : (∃ u, Row x g [u] 86 ∧ Own x lo u F) → ∃ u, Row y g [u] 86 ∧ Own y lo u F
section
variable {lo g : Nat} {F : List UInt8}
theorem KG.refl (x : World) : KG lo g F x x := ⟨rfl, rfl, rfl, Nat.le_refl _, fun _ _ _ => rfl, fun u h => ⟨u, h⟩, fun h => h⟩
theorem KG.trans (x y z : World) (h : KG lo g F x y) (k : KG lo g F y z) : KG lo g F x z :=
 ⟨k.os.trans h.os, k.tape.trans h.tape, k.output.trans h.output, Nat.le_trans h.size k.size, fun i h1 h2 => (k.block i (Nat.lt_of_lt_of_le h1 h.size) h2).trans (h.block i h1 h2), fun u hu => by
  obtain ⟨u', hu'⟩ := h.up u hu
  exact k.up u' hu', fun hu => k.has (h.has hu)⟩
theorem KG.of_grew {x y : World} (h : Grew x y) : KG lo g F x y :=
 ⟨h.os, h.tape, h.output, h.size, fun k hk _ => h.block k hk, fun u hu => ⟨u, hu.below h hu.lt⟩, fun ⟨u, h1, h2⟩ => ⟨u, h1.below h h1.lt, h2.below h (Nat.le_refl _)⟩⟩
theorem own_KG {x y : World} (hg : g < lo) {v : Value} {l : List UInt8} (h : KG lo g F x y) (ho : Own x lo v l) : Own y lo v l := by
 refine ⟨ho.1, ?_⟩
 rcases ho.2 with h2 | ⟨b, cap, cur, e, hb, hbb, r⟩
 · exact .inl h2
 · exact .inr ⟨b, cap, cur, e, hb, (h.block b (Array.getElem?_eq_some_iff.1 hbb).1 (by omega)).trans hbb, r⟩
end
def resO (lo g : Nat) (F : List UInt8) (hg : g < lo) : By.Mark (KG lo g F) := ⟨fun v w => ∃ x, v = .tuple #[x, .int .i64 0] ∧ Own w lo x F, fun _ _ _ ⟨x, h1, h2⟩ k => ⟨x, h1, own_KG hg k h2⟩⟩
def ownK (lo g : Nat) (F : List UInt8) (hg : g < lo) : By.Mark (KG lo g F) := ⟨fun v w => Own w lo v F, fun _ _ _ h k => own_KG hg k h⟩
def hasM (lo g : Nat) (F : List UInt8) : By.Mark (KG lo g F) := ByN.wo (fun w => ∃ u, Row w g [u] 86 ∧ Own w lo u F) fun _ _ h k => k.has h
set_option maxRecDepth 100000 in
set_option maxHeartbeats 2000000 in
theorem wbody_any (p : Pk) (ho : p.Ok) (w : World) {m : List UInt8} (hm : Bs w w.heap.size p.bo m) (hml : m.length ≤ 1048576) {lo g : Nat} {v : Value} {l : List UInt8} (h : Wr w lo g v l) (hl : l.length ≤ 1000000) : Calls Tryd.prog 68 #[.pointer (some ⟨g, 0, none⟩), p.val] w fun e w' => e = .returned (.tuple #[]) ∧ (∃ v', Wr w' lo g v' (l ++ Oct.enc m.length ++ m)) ∧ KB lo g w w' := by
 obtain ⟨F, hF⟩ : ∃ F, l ++ Oct.enc m.length ++ m = F := ⟨_, rfl⟩
 rw [hF]
 have HF := Lib.hid hF
 clear hF
 have Ho := Lib.hid ho
 have Hl := Lib.hid (show l.length ≤ 35184372088832 by omega)
 have Hml := Lib.hid hml
 have HM0 := Lib.hid hm
 have HW := Lib.hid h
 clear hl ho hm hml
 unfold Pk.val
 go_enter Tryd.func68, Tryd.ntmps68
 go_wp2_with fail
 refine code_name fun W0 hW0 => ?_
 have HP := Lib.hid (show Row W0 w.heap.size p.cells 40 from hW0 ▸ Row.new rfl rfl)
 have HB0 := Lib.hid (show Below w.heap.size w W0 from hW0 ▸ (Below.refl _ w).alloc (Nat.le_refl _) _)
 have HM := Lib.hid ((HM0.out.below HB0.out).more HB0.out.size)
 have HWr := Lib.hid (show Wr W0 lo g v l from ⟨HW.out.row.below HB0.out HW.out.row.lt, HW.out.own.below HB0.out (Nat.le_refl _), HW.out.lt, Nat.le_trans HW.out.le HB0.out.size⟩)
 clear hW0
 have hg := HW.out.lt
 refine ByC.marks Pol.mixed (KG lo g F) Grew 13 [By.is (.pointer (some ⟨g, 0, none⟩)),
  By.is (.pointer (some ⟨g, 0, none⟩)),
  By.is (.pointer (some ⟨g, 0, none⟩)),
  By.is (.pointer (some ⟨g, 0, none⟩)),
  By.is v,
  By.is (.pointer (some ⟨w.heap.size, 37, none⟩)),
  By.is p.bo,
  (resO lo g F hg),
  (resO lo g F hg),
  (ownK lo g F hg),
  By.is (.int .i64 0),
  By.is (.pointer (some ⟨g, 0, none⟩)),
  By.is (.pointer (some ⟨g, 0, none⟩)),
  (hasM lo g F)]
  (Ev.masks _ []) (by kernel_rfl) rfl KG.refl KG.trans Grew.refl Grew.trans ⟨?_, ?_, ?_, ?_, ?_, ?_, ?_, ?_, ?_, ?_, ?_, ?_, ?_, ?_, trivial⟩ ?_
 · intro a w' ht ht0 hs hg'
   have h0 := By.same_get hs 0 (by decide) (by kernel_rfl)
   refine By.yes rfl ?_
   clear hs hg'
   go_simp
   first | exact ⟨_, rfl, KG.refl _, fun _ => Grew.refl _, rfl⟩ | exact ⟨_, rfl, KG.refl _, Grew.refl _, rfl⟩ | exact ⟨_, rfl, KG.refl _, rfl⟩
 · intro a w' ht ht0 hs hg'
   have h0 := By.same_get hs 0 (by decide) (by kernel_rfl)
   refine By.yes rfl ?_
   clear hs hg'
   go_simp
   first | exact ⟨_, rfl, KG.refl _, fun _ => Grew.refl _, rfl⟩ | exact ⟨_, rfl, KG.refl _, Grew.refl _, rfl⟩ | exact ⟨_, rfl, KG.refl _, rfl⟩
 · intro a w' ht ht0 hs hg'
   have h6 : a.tmps.getD 6 undef = _ := ByN.given_get hg' 1 rfl rfl (by kernel_rfl)
   refine By.yes rfl ?_
   clear hs hg'
   go_simp
   first | exact ⟨_, rfl, KG.refl _, fun _ => Grew.refl _, rfl⟩ | exact ⟨_, rfl, KG.refl _, Grew.refl _, rfl⟩ | exact ⟨_, rfl, KG.refl _, rfl⟩
 · intro a w' ht ht0 hs hg'
   have h7 : a.tmps.getD 7 undef = _ := ByN.given_get hg' 2 rfl rfl (by kernel_rfl)
   refine By.yes rfl ?_
   clear hs hg'
   go_simp
   first | exact ⟨_, rfl, KG.refl _, fun _ => Grew.refl _, rfl⟩ | exact ⟨_, rfl, KG.refl _, Grew.refl _, rfl⟩ | exact ⟨_, rfl, KG.refl _, rfl⟩
 · intro a w' ht ht0 hs hg'
   have h8 : a.tmps.getD 8 undef = _ := ByN.given_get hg' 3 rfl rfl (by kernel_rfl)
   refine By.yes rfl ?_
   clear hs hg'
   have hc := (Row.below (w := W0.drew) HWr.out.row (ht0 (by kernel_rfl)) HWr.out.row.lt).cell (i := 0) rfl
   clear ht ht0
   go_simp
   first | exact ⟨_, rfl, KG.refl _, fun _ => Grew.refl _, rfl⟩ | exact ⟨_, rfl, KG.refl _, Grew.refl _, rfl⟩ | exact ⟨_, rfl, KG.refl _, rfl⟩
 · intro a w' ht ht0 hs hg'
   have h3 := By.same_get hs 3 (by decide) (by kernel_rfl)
   refine By.yes rfl ?_
   clear hs hg'
   go_simp
   first | exact ⟨_, rfl, KG.refl _, fun _ => Grew.refl _, rfl⟩ | exact ⟨_, rfl, KG.refl _, Grew.refl _, rfl⟩ | exact ⟨_, rfl, KG.refl _, rfl⟩
 · intro a w' ht ht0 hs hg'
   have h10 : a.tmps.getD 10 undef = _ := ByN.given_get hg' 5 rfl rfl (by kernel_rfl)
   refine By.yes rfl ?_
   clear hs hg'
   have hc := c_bo (Row.below (w := W0.drew) HP.out (ht0 (by kernel_rfl)) HP.out.lt) Ho.out
   clear ht ht0
   go_simp
   first | exact ⟨_, rfl, KG.refl _, fun _ => Grew.refl _, rfl⟩ | exact ⟨_, rfl, KG.refl _, Grew.refl _, rfl⟩ | exact ⟨_, rfl, KG.refl _, rfl⟩
 · intro a w' ht ht0 hs hg'
   have h9 : a.tmps.getD 9 undef = _ := ByN.given_get hg' 4 rfl rfl (by kernel_rfl)
   have h11 : a.tmps.getD 11 undef = _ := ByN.given_get hg' 6 rfl rfl (by kernel_rfl)
   refine By.yes rfl ?_
   clear hs hg'
   have hgr : Grew W0.drew w' := ht0 (by kernel_rfl)
   have Hv := Lib.hid ((Bs.below (w := W0.drew) HWr.out.own.bs hgr).more hgr.size)
   have Hm := Lib.hid ((Bs.below (w := W0.drew) HM.out hgr).more hgr.size)
   have hle : lo ≤ w'.heap.size := Nat.le_trans HWr.out.le (show W0.heap.size ≤ w'.heap.size from hgr.size)
   clear ht ht0 hgr
   go_simp
   refine (Block_ok v p.bo l m w' Hv.out Hm.out Hml.out Hl.out).mono ?_
   rintro e w2 ⟨r, rfl, ho, hb⟩
   rw [HF.out] at ho
   first | exact ⟨_, rfl, KG.of_grew hb, fun _ => hb, r, rfl, ho.less hle⟩ | exact ⟨_, rfl, KG.of_grew hb, hb, r, rfl, ho.less hle⟩
 · intro a w' ht ht0 hs hg'
   have h12 := ByN.given_get hg' 7 rfl rfl (by kernel_rfl)
   obtain ⟨v12, hv12⟩ : ∃ v, a.tmps.getD 12 undef = v := ⟨_, rfl⟩
   replace h12 := (congrArg (fun v => ((resO lo g F hg)).on v w') hv12).mp h12
   refine By.yes rfl ?_
   clear hs hg'
   go_simp
   first | exact ⟨_, rfl, KG.refl _, fun _ => Grew.refl _, h12⟩ | exact ⟨_, rfl, KG.refl _, Grew.refl _, h12⟩ | exact ⟨_, rfl, KG.refl _, h12⟩
 · intro a w' ht ht0 hs hg'
   have h4 := ByN.given_get hg' 8 rfl rfl (by kernel_rfl)
   obtain ⟨v4, hv4⟩ : ∃ v, a.tmps.getD 4 undef = v := ⟨_, rfl⟩
   replace h4 := (congrArg (fun v => ((resO lo g F hg)).on v w') hv4).mp h4
   refine By.yes rfl ?_
   clear hs hg'
   obtain ⟨x, rfl, hx⟩ := h4
   have Hx := Lib.hid hx
   clear hx
   go_simp
   first | exact ⟨_, rfl, KG.refl _, fun _ => Grew.refl _, Hx.out⟩ | exact ⟨_, rfl, KG.refl _, Grew.refl _, Hx.out⟩ | exact ⟨_, rfl, KG.refl _, Hx.out⟩
 · intro a w' ht ht0 hs hg'
   have h4 := ByN.given_get hg' 8 rfl rfl (by kernel_rfl)
   obtain ⟨v4, hv4⟩ : ∃ v, a.tmps.getD 4 undef = v := ⟨_, rfl⟩
   replace h4 := (congrArg (fun v => ((resO lo g F hg)).on v w') hv4).mp h4
   refine By.yes rfl ?_
   clear hs hg'
   obtain ⟨x, rfl, hx⟩ := h4
   clear hx
   go_simp
   first | exact ⟨_, rfl, KG.refl _, fun _ => Grew.refl _, rfl⟩ | exact ⟨_, rfl, KG.refl _, Grew.refl _, rfl⟩ | exact ⟨_, rfl, KG.refl _, rfl⟩
 · intro a w' ht ht0 hs hg'
   have h5 : a.tmps.getD 5 undef = _ := ByN.given_get hg' 0 rfl rfl (by kernel_rfl)
   refine By.yes rfl ?_
   clear hs hg'
   go_simp
   first | exact ⟨_, rfl, KG.refl _, fun _ => Grew.refl _, rfl⟩ | exact ⟨_, rfl, KG.refl _, Grew.refl _, rfl⟩ | exact ⟨_, rfl, KG.refl _, rfl⟩
 · intro a w' ht ht0 hs hg'
   have h15 : a.tmps.getD 15 undef = _ := ByN.given_get hg' 11 rfl rfl (by kernel_rfl)
   refine By.yes rfl ?_
   clear hs hg'
   go_simp
   first | exact ⟨_, rfl, KG.refl _, fun _ => Grew.refl _, rfl⟩ | exact ⟨_, rfl, KG.refl _, Grew.refl _, rfl⟩ | exact ⟨_, rfl, KG.refl _, rfl⟩
 · intro a w' ht ht0 hs hg'
   have h16 : a.tmps.getD 16 undef = _ := ByN.given_get hg' 12 rfl rfl (by kernel_rfl)
   have h13 := ByN.given_get hg' 9 rfl rfl (by kernel_rfl)
   obtain ⟨v13, hv13⟩ : ∃ v, a.tmps.getD 13 undef = v := ⟨_, rfl⟩
   replace h13 := (congrArg (fun v => ((ownK lo g F hg)).on v w') hv13).mp h13
   refine By.yes rfl ?_
   clear hs hg'
   obtain ⟨u, hu⟩ := ht.up v (show Row W0.drew g [v] 86 from HWr.out.row)
   have hown : Own w' lo v13 F := h13
   obtain ⟨A9, c9, e9⟩ := hown.shape
   refine Stg.wp_storeAny (n := 1) (off := 0) (cs := [v13]) 23 _ _ rfl h16 hv13 (by rw [e9]; rfl) hu (by kernel_rfl) rfl (by simp) (by intro x hx; simp at hx; subst hx; rw [e9]; rfl) ?_
   have hw2 : splice [u] 0 [v13] = [v13] := rfl
   rw [hw2]
   have hrow : Row (w'.setRow g [v13].toArray) g [v13] 86 := hu.setRow _
   have hblk : ∀ k, k ≠ g → (w'.setRow g [v13].toArray).heap[k]? = w'.heap[k]? := fun k hk => setRow_other w' g k _ hk
   have hown2 : Own (w'.setRow g [v13].toArray) lo v13 F := own_same hown fun k hk => hblk k (by omega)
   exact ⟨undef, rfl, ⟨rfl, rfl, rfl, by simp [World.setRow], fun k _ hk => hblk k hk, fun _ _ => ⟨_, hrow⟩, fun _ => ⟨_, hrow, hown2⟩⟩, fun h => absurd (Eq.trans (Eq.symm (by kernel_rfl)) h) Bool.false_ne_true, ⟨_, hrow, hown2⟩⟩
 refine ByN.ends_is ?_
 refine ByN.ends_is ?_
 refine ByN.ends_is ?_
 refine ByN.ends_is ?_
 refine ByN.ends_is ?_
 refine ByN.ends_is ?_
 refine ByN.ends_is ?_
 refine ByN.ends_skip fun _ => ?_
 refine ByN.ends_skip fun _ => ?_
 refine ByN.ends_skip fun _ => ?_
 refine ByN.ends_is ?_
 refine ByN.ends_is ?_
 refine ByN.ends_is ?_
 refine ByN.ends_any fun _ => ?_
 refine ByN.ends_nil fun wz hz => ?_
 obtain ⟨hz, hl9⟩ := hz
 obtain ⟨u9, hrow9, hown9⟩ := (show ∃ u, Row wz g [u] 86 ∧ Own wz lo u F from hl9)
 have HRow := Lib.hid hrow9
 have HOwn := Lib.hid hown9
 have HK := Lib.hid hz
 clear hl9 hrow9 hown9 hz
 simp only [Act.put, List.setIfInBounds_toArray, List.set_cons_succ, List.set_cons_zero]
 go_wp2
 refine bodyPost_end (results_none rfl _ _ _) rfl ?_
 refine ⟨rfl, ⟨_, HRow.out, HOwn.out, HW.out.lt, ?_⟩, ?_⟩
 · exact Nat.le_trans HWr.out.le (show W0.heap.size ≤ wz.heap.size from HK.out.size)
 · exact ⟨HK.out.os.trans HB0.out.os, HK.out.tape.trans HB0.out.tape, HK.out.output.trans HB0.out.output, Nat.le_trans HB0.out.size HK.out.size, fun k h1 h2 => (HK.out.block k (show k < W0.heap.size from Nat.lt_of_lt_of_le h1 HWr.out.le) h2).trans (HB0.out.block k (Nat.lt_of_lt_of_le h1 HW.out.le))⟩
end Go.Proofs.YtgmmjnedgaeefaaDoor.Pkt
