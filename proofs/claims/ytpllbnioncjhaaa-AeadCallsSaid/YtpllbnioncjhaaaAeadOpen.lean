/- Sealing: Open. -/
import Derived.Test.YtpllbnioncjhaaaAeadSeal
import Derived.Laws.Cover3
namespace Go.Proofs.Ytpllbnioncjhaaa
open Go.RowKit
namespace Aead
open Pol (own mixed laid)
section
variable {P : Program}
/-- Cells, read as an array. -/
theorem run_loadVar_cells (w : World) {g off n : Nat} {ty : TypeId} {cs : List Value} {d : TypeDesc} (h : ∀ j v, cs[j]? = some v → w.cell? ⟨g, off + j, none⟩ = some v) (hu : P.underlying ty = some d) (hd : (match d with | .struct _ | .array _ _ => true | _ => false) = true)
    (hi : (P.info? ty).map (·.size) = some n) (hn : cs.length = n) : (loadVar ty ⟨g, off, none⟩).run P w = .ok (.agg cs.toArray) w := by
  have hl : (loadCells ⟨g, off, none⟩ cs.length).run P w = .ok cs.toArray w :=
    run_loadCells_list (P := P) w ⟨g, off, none⟩ cs (fun j v hv => by
      have hadd : (⟨g, off, none⟩ : Addr).add j = ⟨g, off + j, none⟩ := by unfold Addr.add; split <;> simp_all
      rw [hadd]
      exact h j v hv)
  rw [hn] at hl
  cases hq : P.info? ty with
  | none => simp [hq] at hi
  | some i =>
    have hs : i.size = n := by simpa [hq] using hi
    have hagg : (isAgg ty).run P w = .ok true w := by
      unfold isAgg
      rw [Sem.run_bind, run_underlying hu w]
      cases d <;> simp_all
    simp [loadVar, Sem.run_bind, hagg, sizeOf, typeInfo, hq, hs, hl]
theorem wp_loadCells {o : Oper} {a : Act} {w : World} {K : Act → World → Prop} {Q : Exit → Act → World → Prop} (ty : TypeId) (x : Operand) (ho : o.op = .load ty x)
    {g off n : Nat} (hx : a.eval x = .pointer (some ⟨g, off, none⟩)) {cs : List Value} {d : TypeDesc} (h : ∀ j v, cs[j]? = some v → w.cell? ⟨g, off + j, none⟩ = some v) (hu : P.underlying ty = some d) (hd : (match d with | .struct _ | .array _ _ => true | _ => false) = true)
    (hi : (P.info? ty).map (·.size) = some n) (hn : cs.length = n) (hk : K (a.put o.dst (.agg cs.toArray)) w) : o.wp P a w K Q := by
  unfold Oper.wp execOp
  simp only [ho, hx, Instr.loadAt, Instr.sureAddr, Sem.run_bind, Sem.run_pure, Result.andThen_ok, run_loadVar_cells w h hu hd hi hn]
  exact hk
end
/-- A new block of sixteen zeros. -/
def zeroM (lo : Nat) : By.Mark Grew := ⟨fun v w => ∃ g, v = .pointer (some ⟨g, 0, none⟩) ∧ lo ≤ g ∧ Row w g ((List.replicate 16 (0 : UInt8)).map bv) 35, fun v x y h k => by
  obtain ⟨g, h1, h2, h3⟩ := h
  exact ⟨g, h1, h2, h3.below k h3.lt⟩⟩
/-- Bytes behind others, in a block. -/
def At (w : World) (kb o : Nat) (t : List UInt8) : Prop := kb < w.heap.size ∧ ∀ (i : Nat) (u : UInt8), t[i]? = some u → w.cell? ⟨kb, o + i, none⟩ = some (bv u)
theorem At.below {w w1 : World} {kb o : Nat} {t : List UInt8} (h : At w kb o t) (hb : Below w.heap.size w w1) : At w1 kb o t :=
  ⟨Nat.lt_of_lt_of_le h.1 hb.size, fun i u hu => (hb.cell (p := ⟨kb, o + i, none⟩) h.1).trans (h.2 i u hu)⟩
theorem cells_at {w : World} {kb o : Nat} {t : List UInt8} (h : At w kb o t) : ∀ j v, (t.map bv)[j]? = some v → w.cell? ⟨kb, o + j, none⟩ = some v := by
  intro j v hv
  rw [List.getElem?_map, Option.map_eq_some_iff] at hv
  obtain ⟨u, hu, rfl⟩ := hv
  exact h.2 j u hu
set_option maxRecDepth 100000 in
set_option maxHeartbeats 1000000 in
theorem Open_more (key nonce : List UInt8) (A1 : Option Addr) (v2 : Value) (n1 c1 : Nat) (h : n1 < 16) (w : World) :
    Calls Try.prog 21 #[arr8 key, arr8 nonce, .slice A1 n1 c1, v2] w fun e w' => e = .returned (.tuple #[.slice none 0 0, .int .i64 5]) ∧ Below w.heap.size w w' := by
  unfold arr8
  have h1' : (n1 : Int) < (16 : Int) := by omega
  go_enter Try.func21, Try.ntmps21
  go_wp2
  go_ret2
  exact ⟨rfl, ((Below.refl _ w).alloc (Nat.le_refl _) _).alloc (by simp) _⟩
set_option maxRecDepth 100000 in
set_option maxHeartbeats 1000000 in
theorem Open_long (key nonce : List UInt8) (A1 A2 : Option Addr) (n1 n2 c1 c2 : Nat) (h16 : 16 ≤ n1) (h : 65552 < n1 ∨ 65536 < n2) (w : World) :
    Calls Try.prog 21 #[arr8 key, arr8 nonce, .slice A1 n1 c1, .slice A2 n2 c2] w fun e w' => e = .returned (.tuple #[.slice none 0 0, .int .i64 3]) ∧ Below w.heap.size w w' := by
  unfold arr8
  have h0' : ¬ (n1 : Int) < (16 : Int) := by omega
  by_cases h1 : 65552 < n1
  · have h1' : (65552 : Int) < (n1 : Int) := by omega
    go_enter Try.func21, Try.ntmps21
    go_wp2
    go_ret2
    exact ⟨rfl, ((Below.refl _ w).alloc (Nat.le_refl _) _).alloc (by simp) _⟩
  · have h1' : ¬ (65552 : Int) < (n1 : Int) := by omega
    have h2' : (65536 : Int) < (n2 : Int) := by omega
    go_enter Try.func21, Try.ntmps21
    go_wp2
    go_ret2
    exact ⟨rfl, ((Below.refl _ w).alloc (Nat.le_refl _) _).alloc (by simp) _⟩
set_option maxRecDepth 100000 in
set_option maxHeartbeats 1000000 in
theorem Open_ok (key nonce c t along : List UInt8) (v1 v2 : Value) (hk : key.length = 32) (hn : nonce.length = 12) (ht : t.length = 16) (w : World) (hp : Bs w w.heap.size v1 (c ++ t)) (ha : Bs w w.heap.size v2 along) (hcl : c.length ≤ 65536) (hal : along.length ≤ 65536) :
    Calls Try.prog 21 #[arr8 key, arr8 nonce, v1, v2] w fun e w' => (if t = tag key nonce c along then ∃ v, e = .returned (.tuple #[v, .int .i64 0]) ∧ Own w' w.heap.size v (Cha.xor key 1#32 nonce c) else e = .returned (.tuple #[.slice none 0 0, .int .i64 12])) ∧ Below w.heap.size w w' := by
  have hlen : (c ++ t).length = c.length + 16 := by rw [List.length_append, ht]
  obtain ⟨A1, c1, rfl, hc1, hcs1⟩ := id hp
  obtain ⟨A2, c2, rfl, hc2, hcs2⟩ := id ha
  obtain ⟨kb, off, rfl, hkb, hcells⟩ := hcs1 (by intro h; rw [h] at hlen; simp at hlen)
  obtain ⟨m, hm⟩ : ∃ m, c.length = m := ⟨_, rfl⟩
  obtain ⟨n, hnn⟩ : ∃ n, m + 16 = n := ⟨_, rfl⟩
  have hcb : Bs w w.heap.size (.slice (some ⟨kb, off, none⟩) m c1) c := ⟨_, _, by rw [hm], by omega, fun _ => ⟨kb, off, rfl, hkb, fun i u hu => hcells i u (by rw [List.getElem?_append_left (List.getElem?_eq_some_iff.1 hu).1]; exact hu)⟩⟩
  have hat : At w kb (off + m) t := ⟨hkb, fun i u hu => by
    rw [Nat.add_assoc]
    exact hcells (m + i) u (by rw [List.getElem?_append_right (by omega), hm, Nat.add_sub_cancel_left]; exact hu)⟩
  rw [hlen, hm, hnn] at hp hc1 ⊢
  obtain ⟨T, hT⟩ : ∃ T, tag key nonce c along = T := ⟨_, rfl⟩
  obtain ⟨X, hX⟩ : ∃ X, Cha.xor key 1#32 nonce c = X := ⟨_, rfl⟩
  rw [hT, hX]
  have HT := Lib.hid hT
  have HX := Lib.hid hX
  have HTl := Lib.hid (show T.length = 16 by rw [← hT]; exact tag_length _ _ _ _)
  have Hk := Lib.hid hk
  have Hn := Lib.hid hn
  have Ht := Lib.hid ht
  have Hkl := Lib.hid (show (key.map bv).length = 32 by rw [List.length_map]; exact hk)
  have Hnl := Lib.hid (show (nonce.map bv).length = 12 by rw [List.length_map]; exact hn)
  have Htl := Lib.hid (show (t.map bv).length = 16 by rw [List.length_map]; exact ht)
  have Hc := Lib.hid hcb
  have Hat := Lib.hid hat
  have Ha := Lib.hid ha
  have Hcl := Lib.hid hcl
  have Hal := Lib.hid hal
  have Hm := Lib.hid hm
  have H16 := Lib.hid (show 16 ≤ n - m by omega)
  have h0' : ¬ (n : Int) < (16 : Int) := by omega
  have h1' : ¬ (65552 : Int) < (n : Int) := by omega
  have h2' : ¬ (65536 : Int) < (along.length : Int) := by omega
  have hsub : (n : Int) - 16 = (m : Int) := by omega
  have hmn : (m : Int) ≤ (n : Int) := by omega
  have hmc : (m : Int) ≤ (c1 : Int) := by omega
  have hnc : (n : Int) ≤ (c1 : Int) := by omega
  have hcm : ¬ c1 = m := by omega
  clear hk hn hp ha hcs1 hcs2 hcl hal hnn hlen hm ht hcells hcb hat hT hX
  unfold arr8
  go_enter Try.func21, Try.ntmps21
  go_wp2_with fail
  obtain ⟨W, hW⟩ : ∃ W, (w.alloc (.cells (key.map bv).toArray 24)).alloc (.cells (nonce.map bv).toArray 25) = W := ⟨_, rfl⟩
  have hWb : Below w.heap.size w W := hW ▸ ((Below.refl _ w).alloc (Nat.le_refl _) _).alloc (by simp) _
  have hWk : Row W w.heap.size (key.map bv) 24 := hW ▸ (Row.new rfl rfl).alloc _
  have hWn : Row W (w.heap.size + 1) (nonce.map bv) 25 := hW ▸ Row.new (by simp) rfl
  have HW := Lib.hid hWb
  have HWk := Lib.hid hWk
  have HWn := Lib.hid hWn
  have Hcells := Lib.hid (Hat.out.below hWb)
  obtain ⟨L0, hL0⟩ : ∃ L0, w.heap.size + 2 = L0 := ⟨_, rfl⟩
  have HL0e := Lib.hid hL0
  have HL0 := Lib.hid (show L0 ≤ W.heap.size by rw [← hL0, ← hW]; simp)
  clear hL0
  show Code.wp _ _ _ _ ((w.alloc (.cells (key.map bv).toArray 24)).alloc (.cells (nonce.map bv).toArray 25))
  rw [hW]
  clear hW hWb hWk hWn
  refine Tail.marksAt mixed 10 Grew [By.is (.slice (some ⟨kb, off, none⟩) n c1),
    By.is (.int .i64 (m : Int)),
    By.is (.slice (some ⟨kb, off, none⟩) m c1),
    By.is (.slice (some ⟨kb, off, none⟩) n c1),
    By.is (.int .i64 (m : Int)),
    By.is (.slice (some ⟨kb, off + m, none⟩) (n - m) (c1 - m)),
    By.is (.pointer (some ⟨kb, off + m, none⟩)),
    By.is (arr8 t),
    zeroM L0,
    By.is (.slice (some ⟨kb, off, none⟩) m c1)]
    (Ev.masks _ []) (Nat.zero_lt_succ _) (by kernel_rfl) (by kernel_rfl) rfl Grew.refl Grew.trans ⟨?_, ?_, ?_, ?_, ?_, ?_, ?_, ?_, ?_, ?_, trivial⟩ ?_
  · intro a w ht hs hg -- 27
    have h2 := By.same_get hs 2 (by decide) (by kernel_rfl)
    refine By.yes rfl ?_
    clear hs hg
    go_simp
    exact ⟨_, rfl, Grew.refl _, rfl⟩
  · intro a w ht hs hg -- 28
    have h10 := By.same_get hs 10 (by decide) (by kernel_rfl)
    refine By.yes rfl ?_
    clear hs hg
    go_simp
    exact ⟨_, rfl, Grew.refl _, rfl⟩
  · intro a w ht hs hg -- 29
    have h27 : a.tmps.getD 27 undef = _ := By.given_get hg 0 rfl rfl (by kernel_rfl)
    have h28 : a.tmps.getD 28 undef = _ := By.given_get hg 1 rfl rfl (by kernel_rfl)
    refine By.yes rfl ?_
    clear hs hg
    go_simp
    exact ⟨_, rfl, Grew.refl _, rfl⟩
  · intro a w ht hs hg -- 30
    have h2 := By.same_get hs 2 (by decide) (by kernel_rfl)
    refine By.yes rfl ?_
    clear hs hg
    go_simp
    exact ⟨_, rfl, Grew.refl _, rfl⟩
  · intro a w ht hs hg -- 31
    have h10 := By.same_get hs 10 (by decide) (by kernel_rfl)
    refine By.yes rfl ?_
    clear hs hg
    go_simp
    exact ⟨_, rfl, Grew.refl _, rfl⟩
  · intro a w ht hs hg -- 32
    have h30 : a.tmps.getD 30 undef = _ := By.given_get hg 3 rfl rfl (by kernel_rfl)
    have h31 : a.tmps.getD 31 undef = _ := By.given_get hg 4 rfl rfl (by kernel_rfl)
    refine By.yes rfl ?_
    clear hs hg
    go_simp
    exact ⟨_, rfl, Grew.refl _, rfl⟩
  · intro a w ht hs hg -- 33
    have h32 : a.tmps.getD 32 undef = _ := By.given_get hg 5 rfl rfl (by kernel_rfl)
    refine By.yes rfl ?_
    clear hs hg
    have har := run_arrayAt w 35 5 16 (some ⟨kb, off + m, none⟩) (n - m) (c1 - m) Try.underlying35 H16.out
    go_simp
    exact ⟨_, rfl, Grew.refl _, rfl⟩
  · intro a w ht hs hg -- 34
    have h33 : a.tmps.getD 33 undef = _ := By.given_get hg 6 rfl rfl (by kernel_rfl)
    refine By.yes rfl ?_
    clear hs hg
    refine wp_loadCells (n := 16) (cs := t.map bv) _ _ rfl h33 (cells_at (At.below (w := W.drew) Hcells.out ht)) Try.underlying35 rfl (by kernel_rfl) Htl.out ?_
    exact ⟨_, rfl, Grew.refl _, rfl⟩
  · intro a w ht hs hg -- 12
    refine By.yes rfl ?_
    clear hs hg
    have hlo : L0 ≤ w.heap.size := Nat.le_trans HL0.out (show W.heap.size ≤ w.heap.size from ht.size)
    go_simp
    exact ⟨_, rfl, (Below.refl _ w).alloc (Nat.le_refl _) _, _, rfl, hlo, Row.new rfl rfl⟩
  · intro a w ht hs hg -- 11
    have h29 : a.tmps.getD 29 undef = _ := By.given_get hg 2 rfl rfl (by kernel_rfl)
    refine By.yes rfl ?_
    clear hs hg
    go_simp
    exact ⟨_, rfl, Grew.refl _, rfl⟩
  refine By.ends_is (By.ends_is (By.ends_is (By.ends_is (By.ends_is (By.ends_is (By.ends_is (By.ends_is (By.ends_any fun v12 => (By.ends_is (By.ends_nil fun w1 hw1 => ?_))))))))))
  simp only [Act.put, List.setIfInBounds_toArray, List.set_cons_succ, List.set_cons_zero]
  simp only [List.drop_succ_cons, List.drop_zero]
  obtain ⟨hg1, g, rfl, hlo, hrow⟩ := hw1
  have hb1 : Below w.heap.size w w1 := nextB (b := W.drew) HW.out.drew (Nat.le_refl _) hg1
  have HB1 := Lib.hid hb1
  have HK1 := Lib.hid (Row.below (w := W.drew) HWk.out hg1 HWk.out.lt)
  have HN1 := Lib.hid (Row.below (w := W.drew) HWn.out hg1 HWn.out.lt)
  have HR1 := Lib.hid hrow
  have Hlo := Lib.hid (show w.heap.size + 2 ≤ g by rw [HL0e.out]; exact hlo)
  clear hg1 hlo hrow hb1
  unfold arr8
  go_wp2_with (first
    | (refine wpList_storeRow (n := 16) rfl 35 _ _ rfl rfl rfl (cs := t.map bv) (old := (List.replicate 16 (0 : UInt8)).map bv) (g := g) HR1.out (by kernel_rfl) Htl.out (by simp) (bytes_one _) ?_
       obtain ⟨w2, hw2⟩ : ∃ w2, w1.setRow g (t.map bv).toArray = w2 := ⟨_, rfl⟩
       have HT2 := Lib.hid (show Row w2 g (t.map bv) 35 from hw2 ▸ HR1.out.setRow _)
       have HK2 := Lib.hid (show Row w2 w.heap.size (key.map bv) 24 from hw2 ▸ HK1.out.setOther _ _ (by have := Hlo.out; omega))
       have HN2 := Lib.hid (show Row w2 (w.heap.size + 1) (nonce.map bv) 25 from hw2 ▸ HN1.out.setOther _ _ (by have := Hlo.out; omega))
       have HB2 := Lib.hid (show Below w.heap.size w w2 from hw2 ▸ below_setRow HB1.out (by have := Hlo.out; omega) _)
       refine wpList_world hw2 ?_
       clear hw2)
    | fail)
  refine By.marks mixed Grew [By.is (arr8 t),
    By.is (arr8 key),
    By.is (arr8 nonce),
    By.is (.slice (some ⟨kb, off, none⟩) m c1),
    By.is (.slice A2 along.length c2),
    By.is (arr8 T),
    By.is (.bool (decide (t = T))),
    By.is (.bool (!decide (t = T)))]
    (Ev.masks _ []) (by kernel_rfl) rfl Grew.refl Grew.trans ⟨?_, ?_, ?_, ?_, ?_, ?_, ?_, ?_, trivial⟩ ?_
  · intro a w ht hs hg -- 35
    have h12 := By.same_get hs 12 (by decide) (by kernel_rfl)
    refine By.yes rfl ?_
    clear hs hg
    refine wp_loadRow 35 _ rfl h12 (Row.below (w := w2.drew) HT2.out ht HT2.out.lt) Try.underlying35 rfl (by kernel_rfl) Htl.out ?_
    exact ⟨_, rfl, Grew.refl _, rfl⟩
  · intro a w ht hs hg -- 36
    have h4 := By.same_get hs 4 (by decide) (by kernel_rfl)
    refine By.yes rfl ?_
    clear hs hg
    refine wp_loadRow 24 _ rfl h4 (Row.below (w := w2.drew) HK2.out ht HK2.out.lt) Try.underlying24 rfl (by kernel_rfl) Hkl.out ?_
    exact ⟨_, rfl, Grew.refl _, rfl⟩
  · intro a w ht hs hg -- 37
    have h5 := By.same_get hs 5 (by decide) (by kernel_rfl)
    refine By.yes rfl ?_
    clear hs hg
    refine wp_loadRow 25 _ rfl h5 (Row.below (w := w2.drew) HN2.out ht HN2.out.lt) Try.underlying25 rfl (by kernel_rfl) Hnl.out ?_
    exact ⟨_, rfl, Grew.refl _, rfl⟩
  · intro a w ht hs hg -- 38
    have h11 := By.same_get hs 11 (by decide) (by kernel_rfl)
    refine By.yes rfl ?_
    clear hs hg
    go_simp
    exact ⟨_, rfl, Grew.refl _, rfl⟩
  · intro a w ht hs hg -- 39
    have h3 := By.same_get hs 3 (by decide) (by kernel_rfl)
    refine By.yes rfl ?_
    clear hs hg
    go_simp
    exact ⟨_, rfl, Grew.refl _, rfl⟩
  · intro a w ht hs hg -- 40
    have h36 : a.tmps.getD 36 undef = _ := By.given_get hg 1 rfl rfl (by kernel_rfl)
    have h37 : a.tmps.getD 37 undef = _ := By.given_get hg 2 rfl rfl (by kernel_rfl)
    have h38 : a.tmps.getD 38 undef = _ := By.given_get hg 3 rfl rfl (by kernel_rfl)
    have h39 : a.tmps.getD 39 undef = _ := By.given_get hg 4 rfl rfl (by kernel_rfl)
    refine By.yes rfl ?_
    clear hs hg
    have hc := ((Hc.out.below HB2.out).more HB2.out.size)
    have ha := ((Ha.out.below HB2.out).more HB2.out.size)
    have hc2 := (Bs.below (w := w2.drew) hc ht).more ht.size
    have ha2 := (Bs.below (w := w2.drew) ha ht).more ht.size
    clear hc ha
    have hc := Lib.hid hc2
    have ha := Lib.hid ha2
    clear hc2 ha2
    go_simp
    refine (ATag_any key nonce c along _ _ Hk.out Hn.out w hc.out ha.out (by have := Hcl.out; omega) (by have := Hal.out; omega)).mono ?_
    rw [HT.out]
    rintro e w' ⟨rfl, hb⟩
    exact ⟨_, rfl, hb, rfl⟩
  · intro a w ht hs hg -- 41
    have h35 : a.tmps.getD 35 undef = _ := By.given_get hg 0 rfl rfl (by kernel_rfl)
    have h40 : a.tmps.getD 40 undef = _ := By.given_get hg 5 rfl rfl (by kernel_rfl)
    refine By.yes rfl ?_
    clear hs hg
    go_simp
    refine (Equal_any Ht.out HTl.out w).mono ?_
    rintro e w' ⟨rfl, hb⟩
    exact ⟨_, rfl, hb, rfl⟩
  · intro a w ht hs hg -- 42
    have h41 : a.tmps.getD 41 undef = _ := By.given_get hg 6 rfl rfl (by kernel_rfl)
    refine By.yes rfl ?_
    clear hs hg
    go_simp
    exact ⟨_, rfl, Grew.refl _, rfl⟩
  refine By.ends_is (By.ends_is (By.ends_is (By.ends_is (By.ends_is (By.ends_is (By.ends_is (By.ends_is (By.ends_nil fun w3 hw3 => ?_))))))))
  simp only [Act.put, List.setIfInBounds_toArray, List.set_cons_succ, List.set_cons_zero]
  have HB3 := Lib.hid (nextB (b := w2.drew) HB2.out.drew (Nat.le_refl _) hw3)
  have HK3 := Lib.hid (Row.below (w := w2.drew) HK2.out hw3 HK2.out.lt)
  have HN3 := Lib.hid (Row.below (w := w2.drew) HN2.out hw3 HN2.out.lt)
  clear hw3
  by_cases htT : t = T
  · rw [show decide (t = T) = true from decide_eq_true htT]
    have HtT := Lib.hid htT
    clear htT
    go_wp2_with (first
      | (refine wpList_loadRow (n := 32) (cs := key.map bv) rfl 24 _ rfl rfl HK3.out Try.underlying24 rfl (by kernel_rfl) Hkl.out ?_)
      | (refine wpList_loadRow (n := 12) (cs := nonce.map bv) rfl 25 _ rfl rfl HN3.out Try.underlying25 rfl (by kernel_rfl) Hnl.out ?_)
      | fail)
    refine (Xor_ok key nonce c (.slice (some ⟨kb, off, none⟩) m c1) 1#32 Hk.out Hn.out w3 ((Hc.out.below HB3.out).more HB3.out.size) (by have := Hcl.out; omega) (by have := Hcl.out; unfold Cha.long; show ¬ _ < _; simp; omega)).mono ?_
    rw [HX.out]
    rintro e w4 ⟨v4, rfl, ho4, hb4⟩
    have Ho4 := Lib.hid ho4
    have Hb4 := Lib.hid hb4
    clear ho4 hb4
    go_wp2
    go_ret2
    try rw [if_pos HtT.out]
    exact ⟨⟨_, rfl, Ho4.out.less HB3.out.size⟩, nextB HB3.out (Nat.le_refl _) Hb4.out⟩
  · rw [show decide (t = T) = false from decide_eq_false htT]
    have HtT := Lib.hid htT
    clear htT
    go_wp2
    go_ret2
    try rw [if_neg HtT.out]
    exact ⟨rfl, HB3.out⟩
end Aead
end Go.Proofs.Ytpllbnioncjhaaa
