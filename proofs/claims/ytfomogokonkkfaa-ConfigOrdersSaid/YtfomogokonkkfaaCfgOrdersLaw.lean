/- Peers are ordered by their IDs, in whatever order they were added; masks are the first bits: 'drawbridgelaw08.ConfigOrders', for every argument. -/
import Derived.Test.YtfomogokonkkfaaCfgOrdPure
import Derived.Test.YtfomogokonkkfaaCfgU16
import Derived.Test.YtfomogokonkkfaaCfgSame
import Derived.Test.YtfomogokonkkfaaCfgLives
import Derived.Test.YtfomogokonkkfaaLaw
namespace Go.Proofs.Ytfomogokonkkfaa.cfgOrders
open Go.ChangeShapes Go.WideShapes Go.ChangeAt Go.RowKit Go.Maps
open Cfg
theorem own : ownKnob Try.checked.prog.godebug = none := by kernel_rfl
theorem laid : laidOutB Try.checked.prog = true := by kernel_rfl
def opLit (p : Nat) : Value := .agg #[.int .i64 1, .int .u64 0, .int .i64 (1 + (p : Int)), .int .u8 ((p : Int) % 256), .int .u8 0, .int .u8 0, .int .u8 0, .int .u8 0, .int .u8 0, .int .u8 0, .int .u8 0, .int .u8 0, .int .u8 0, .int .u8 0, .int .u8 0, .int .u8 0, .int .u8 0, .int .u8 0, .int .u8 0, .int .u8 0, .int .u8 0, .int .u8 0, .int .u8 0, .int .u8 0, .int .u8 0, .int .u8 0, .int .u8 0, .int .u8 0, .int .u8 0, .int .u8 0, .int .u8 0, .int .u8 0, .int .u8 0, .int .u8 0, .int .u8 0, .int .u32 0, .int .i64 0]
theorem opLit_is (p : Nat) : opLit p = (opOf p).val := by
  have h : ((p : Int) % 256) = ((UInt8.ofNat p).toNat : Int) := by
    rw [UInt8.toNat_ofNat']
    omega
  unfold opLit
  rw [h]
  rfl
theorem calls_arg {f : FuncId} {a x y : Value} {w : World} {Q : Ending → World → Prop} (h : x = y) (hc : Calls Try.prog f #[a, y] w Q) : Calls Try.prog f #[a, x] w Q := h ▸ hc
theorem take_one {l : List Nat} {i p : Nat} (h : l[i]? = some p) : tabOf (l.take (i + 1)) = setL (tabOf (l.take i)) ⟨(opOf p).id, (opOf p).ky, false⟩ := by
  rw [List.take_add_one, h]
  exact tabOf_snoc _ _
set_option maxRecDepth 100000 in
set_option maxHeartbeats 8000000 in
theorem walk {w : World} {v : Value} {l : List Nat} (h : UTab w w.heap.size v l) (hp : ∀ p ∈ l, p < 65536) (a b : Int) : Calls Try.prog 8 #[v, .int .i64 a, .int .i64 b] w fun e w' => e = .returned (.bool true) ∧ Below w.heap.size w w' := by
  obtain ⟨A, c, rfl⟩ := h.shape
  have HT := Lib.hid h
  have HPl := Lib.hid hp
  clear h hp
  by_cases hl : 40 < l.length
  · have hl' : (40 : Int) < (l.length : Int) := by omega
    go_enter Try.func8, Try.ntmps8
    go_wp2_with (first
      | (go_at_call 11; refine (lives_any _).mono ?_; rintro e w1 ⟨rfl, hb⟩; have HB1 := Lib.hid hb; clear hb)
      | fail)
    go_ret
    exact ⟨rfl, HB1.out⟩
  have hl' : ¬ (40 : Int) < (l.length : Int) := by omega
  have HN := Lib.hid (show l.length ≤ 40 by omega)
  have hmk : ∀ W : World, (Instr.makeMap 65 none).run Try.prog W = .ok (.map (some W.heap.size)) (W.alloc (.map #[] 0)) := fun W => rfl
  clear hl
  go_enter Try.func8, Try.ntmps8
  go_wp2_with (first
    | (go_at_call 11; refine (lives_any _).mono ?_; rintro e w1 ⟨rfl, hb⟩; have HB1 := Lib.hid hb; clear hb)
    | fail)
  obtain ⟨W1, hW1⟩ : ∃ W1, ((w1.alloc (.cells #[.slice none 0 0, .slice none 0 0] 25)).alloc (.cells #[.slice none 0 0, .slice none 0 0] 25)).alloc (.map #[] 0) = W1 := ⟨_, rfl⟩
  have hr7 : Row W1 w1.heap.size [.slice none 0 0, .slice none 0 0] 25 := hW1 ▸ ((Row.new rfl rfl : Row (w1.alloc (.cells #[.slice none 0 0, .slice none 0 0] 25)) w1.heap.size [.slice none 0 0, .slice none 0 0] 25).alloc _).alloc _
  have hr8 : Row W1 (w1.heap.size + 1) [.slice none 0 0, .slice none 0 0] 25 := hW1 ▸ (Row.new (by simp) rfl : Row ((w1.alloc (.cells #[.slice none 0 0, .slice none 0 0] 25)).alloc (.cells #[.slice none 0 0, .slice none 0 0] 25)) (w1.heap.size + 1) [.slice none 0 0, .slice none 0 0] 25).alloc _
  have hm : UM W1 (w1.heap.size + 1 + 1) 0 (.map []) := by
    have := World.ownsMap_made (H := Unit) ((w1.alloc (.cells #[.slice none 0 0, .slice none 0 0] 25)).alloc (.cells #[.slice none 0 0, .slice none 0 0] 25)) Try.prog 66 (plainElem Try.prog 4)
    rw [hW1] at this
    simpa using this
  have hb1 : Below w.heap.size w W1 := by rw [← hW1]; exact ((HB1.out.alloc HB1.out.size _).alloc (by have := HB1.out.size; simp; omega) _).alloc (by have := HB1.out.size; simp; omega) _
  have hsz : W1.heap.size = w1.heap.size + 1 + 1 + 1 := by rw [← hW1]; simp
  obtain ⟨g7, hg7⟩ : ∃ g, w1.heap.size = g := ⟨_, rfl⟩
  have hwg : w.heap.size ≤ g7 := by have := HB1.out.size; omega
  rw [hg7] at hr7 hr8 hm hsz
  have HR7 := Lib.hid hr7
  have HR8 := Lib.hid hr8
  have HM := Lib.hid hm
  have HBb := Lib.hid hb1
  have Hsz := Lib.hid hsz
  have Hwg := Lib.hid hwg
  rw [hW1, hg7]
  clear hW1 hr7 hr8 hm hb1 hsz hg7 hwg HB1 hmk
  go_loopw [10, 11] (fun ov iv wr => ∃ (i : Nat) (os : List Nat) (D : Cfg.MD), i ≤ l.length ∧ iv = .int .i64 (i : Int) ∧ OwnU wr (g7 + 1 + 1 + 1) ov os ∧ UM wr (g7 + 1 + 1) i D ∧ Hid ((∀ x, Cfg.In D x ↔ x ∈ os) ∧ os.Nodup ∧ (∀ x ∈ os, x < 65536) ∧ os.length ≤ i) ∧ Below (g7 + 1 + 1) W1 wr) (fun _ iv _ => l.length - (intOf iv).toNat)
  case atStart => exact ⟨0, [], _, Nat.zero_le _, rfl, ownU_nil _ _, HM.out, Lib.hid ⟨fun x => ⟨fun h => absurd h (in_empty x), fun h => by simp at h⟩, List.nodup_nil, fun x h => by simp at h, Nat.le_refl _⟩, Below.refl _ _⟩
  case round =>
    obtain ⟨i, os, D, hi, rfl, ho, hm, I, hb⟩ := hrel
    have HO := Lib.hid ho
    have HM1 := Lib.hid hm
    have HB := Lib.hid hb
    obtain ⟨A2, c2, rfl⟩ := ho.tab.shape
    have hi2 : (i : Int) ≤ 40 := by have := HN.out; omega
    have HBw := Lib.hid (show Below w.heap.size w wr from HBb.out.trans (hb.mono (by have := Hwg.out; omega)))
    clear ho hm hb
    by_cases hlt : i < l.length
    · have hlt' : (i : Int) < (l.length : Int) := by omega
      obtain ⟨p, hp⟩ : ∃ p, l[i]? = some p := ⟨_, List.getElem?_eq_getElem hlt⟩
      have hp16 := HPl.out p (List.mem_of_getElem? hp)
      have HP := Lib.hid hp
      have HP16 := Lib.hid hp16
      obtain ⟨b0, off, rfl, hb0, _⟩ := HT.out.at hp
      have FC := Lib.hid (fun w' (h : Below w.heap.size w w') => by
        obtain ⟨b', off', e, _, hc⟩ := (UTab.at (w := w') (B := w.heap.size) (Tab.below HT.out h) HP.out)
        cases e
        exact hc)
      have hc0 := FC.out wr HBw.out
      obtain ⟨th, hth, hlook⟩ := ulook HM1.out hp16
      clear hp hp16 hb0
      cases th with
      | true =>
        go_wp2
        go_roundw
        case rel => exact ⟨i + 1, os, D, by omega, by simp, HO.out, HM1.out.mono (by omega), Lib.hid ⟨I.out.1, I.out.2.1, I.out.2.2.1, by have := I.out.2.2.2; omega⟩, HB.out⟩
        case measure => simp [intOf]; omega
      | false =>
        obtain ⟨W2, hst, hm2, hg2⟩ := ustore HM1.out HP16.out (by have := HN.out; unfold maxLen; omega)
        have HM2 := Lib.hid hm2
        have HO2 := Lib.hid (HO.out.kept hg2 (by omega))
        have HB2 := Lib.hid (HB.out.trans (grown_below hg2 (Nat.le_refl _) (by have := HB.out.size; have := Hsz.out; omega)))
        have HBw2 := Lib.hid (show Below w.heap.size w W2 from HBb.out.trans (HB2.out.mono (by have := Hwg.out; omega)))
        have hc2 := FC.out W2 HBw2.out
        have hd2 := FC.out (W2.alloc (.cells #[.int .u16 (p : Int)] 66)) (HBw2.out.alloc HBw2.out.size _)
        have HO3 := Lib.hid (show OwnU (W2.alloc (.cells #[.int .u16 (p : Int)] 66)) (g7 + 1 + 1 + 1) (.slice A2 os.length c2) os from owns_below HO2.out ((Below.refl _ W2).alloc (Nat.le_refl _) _))
        have HY := Lib.hid (show UTab (W2.alloc (.cells #[.int .u16 (p : Int)] 66)) (W2.alloc (.cells #[.int .u16 (p : Int)] 66)).heap.size (.slice (some ⟨W2.heap.size, 0, none⟩) 1 1) [p] from ⟨_, 1, rfl, Nat.le_refl _, rfl, fun _ => ⟨W2.heap.size, 0, rfl, by simp, fun j x hx => by rw [Nat.zero_add]; exact (Row.new rfl rfl : Row (W2.alloc (.cells #[.int .u16 (p : Int)] 66)) W2.heap.size [.int .u16 (p : Int)] 66).cell hx⟩⟩)
        have Hlen := Lib.hid (show os.length + [p].length ≤ 1000000 by have := I.out.2.2.2; simp; omega)
        have Hbase := Lib.hid (show g7 + 1 + 1 + 1 ≤ (W2.alloc (.cells #[.int .u16 (p : Int)] 66)).heap.size by have := HB2.out.size; have := Hsz.out; simp; omega)
        have HB3 := Lib.hid (HB2.out.alloc (by have := HB2.out.size; have := Hsz.out; omega) (.cells #[.int .u16 (p : Int)] 66))
        have HM3 := Lib.hid (UM.below (W' := W2.alloc (.cells #[.int .u16 (p : Int)] 66)) (B := W2.heap.size) HM2.out ((Below.refl _ W2).alloc (Nat.le_refl _) _) (by have := HB2.out.size; have := Hsz.out; omega))
        clear hm2 hg2
        go_wp2_with (first
          | (show wpList _ _ _ (⟨some 49, _, _, _, _, _⟩ :: _) _ _
             refine wp_appU (W2.alloc (.cells #[.int .u16 (p : Int)] 66)) (base := g7 + 1 + 1 + 1) (l := os) (m := [p]) rfl (.tmp 43) (.tmp 48) rfl rfl HO3.out rfl HY.out Hlen.out Hbase.out ?_
             intro v3 w3 h1 h2
             have HO4 := Lib.hid h1
             have HB4 := Lib.hid h2
             clear h1 h2)
          | fail)
        go_roundw
        case rel =>
          refine ⟨i + 1, os ++ [p], _, by omega, by simp, HO4.out, UM.below HM3.out HB4.out (by omega), Lib.hid ⟨fun x => ?_, ?_, fun x hx => ?_, ?_⟩, HB3.out.trans (HB4.out.mono (by omega))⟩
          · rw [in_put HM1.out HP16.out, I.out.1 x]
            simp only [List.mem_append, List.mem_cons, List.not_mem_nil, or_false]
            exact Or.comm
          · rw [List.nodup_append]
            refine ⟨I.out.2.1, by simp, fun x hx y hy e => ?_⟩
            simp only [List.mem_cons, List.not_mem_nil, or_false] at hy
            subst hy e
            have := hth.1 ((I.out.1 x).2 hx)
            cases this
          · rcases List.mem_append.1 hx with hx | hx
            · exact I.out.2.2.1 x hx
            · simp only [List.mem_cons, List.not_mem_nil, or_false] at hx
              subst hx
              exact HP16.out
          · have := I.out.2.2.2
            simp
            omega
        case measure => simp [intOf]; omega
    · have hlt' : ¬ (i : Int) < (l.length : Int) := by omega
      have HIs := Lib.hid I.out.2
      have Hos := Lib.hid (show os.length ≤ 40 by have := I.out.2.2.2; have := HN.out; omega)
      have HR7b := Lib.hid (HR7.out.below HB.out (by omega))
      have HR8b := Lib.hid (HR8.out.below HB.out (by omega))
      have HBw5 := HBw
      have HB5 := HB
      have HO5 := HO
      clear I HM1 HM HBb HB HBw HO
      go_wp2_with fail
      go_loopw [12] (fun iv wr => ∃ (i : Nat) (v1 v2 u1 u2 : Value), i ≤ os.length ∧ iv = .int .i64 (i : Int) ∧ Row wr g7 [v1, v2] 25 ∧ Row wr (g7 + 1) [u1, u2] 25 ∧ CNew wr (g7 + 1 + 1) v1 v2 ⟨tabOf (os.take i), []⟩ ∧ CNew wr (g7 + 1 + 1) u1 u2 ⟨tabOf (os.reverse.take i), []⟩ ∧ OwnU wr (g7 + 1 + 1) (.slice A2 os.length c2) os ∧ Below w.heap.size w wr ∧ g7 + 1 + 1 ≤ wr.heap.size) (fun iv _ => os.length - (intOf iv).toNat)
      case atStart => exact ⟨0, .slice none 0 0, .slice none 0 0, .slice none 0 0, .slice none 0 0, Nat.zero_le _, rfl, HR7b.out, HR8b.out, ⟨ownM_nil _ _, ownR_nil _ _⟩, ⟨ownM_nil _ _, ownR_nil _ _⟩, own_less HO5.out (by omega), HBw5.out, by have := HB5.out.size; have := Hsz.out; omega⟩
      case round =>
        obtain ⟨i, v1, v2, u1, u2, hi, rfl, hr7, hr8, hc, hd, ho, hb, hgs⟩ := hrel
        have HR7 := Lib.hid hr7
        have HR8 := Lib.hid hr8
        have HC := Lib.hid hc
        have HD := Lib.hid hd
        have HO := Lib.hid ho
        have HB := Lib.hid hb
        have Hgs := Lib.hid hgs
        clear hr7 hr8 hc hd ho hb hgs HR7b HR8b HB5 HBw5 HO5
        have hos := Hos.out
        have hi2 : (i : Int) ≤ 40 := by omega
        have hoi : (os.length : Int) ≤ 40 := by omega
        by_cases hlt : i < os.length
        · have hlt' : (i : Int) < (os.length : Int) := by omega
          obtain ⟨j, hj⟩ : ∃ j, os.length = i + 1 + j := ⟨os.length - (i + 1), by omega⟩
          have hj1 : (os.length : Int) - 1 - (i : Int) = (j : Int) := by omega
          have hj2 : (j : Int) < (os.length : Int) := by omega
          have hj3 : (j : Int) ≤ 40 := by omega
          have hj4 : IntKind.i64.wrap (j : Int) = (j : Int) := IntWalk.i64_in _ (by omega)
          have hj5 : IntKind.i64.wrap ((os.length : Int) - 1) = (os.length : Int) - 1 := IntWalk.i64_in _ (by omega)
          have hj6 : 0 ≤ (j : Int) := by omega
          obtain ⟨p, hp⟩ : ∃ p, os[i]? = some p := ⟨_, List.getElem?_eq_getElem hlt⟩
          obtain ⟨q, hq⟩ : ∃ q, os[j]? = some q := ⟨_, List.getElem?_eq_getElem (by omega)⟩
          obtain ⟨b1, off1, rfl, _, cp⟩ := UTab.at HO.out.tab hp
          obtain ⟨b2, off2, e2, _, cq⟩ := UTab.at HO.out.tab hq
          cases e2
          have Hp := Lib.hid hp
          have Hq := Lib.hid hq
          have Hj := Lib.hid hj
          have Hp16 := Lib.hid (HIs.out.2.1 p (List.mem_of_getElem? hp))
          have Hq16 := Lib.hid (HIs.out.2.1 q (List.mem_of_getElem? hq))
          have hp5 : (p : Int) ≤ 65535 := by have := Hp16.out; omega
          have hq5 : (q : Int) ≤ 65535 := by have := Hq16.out; omega
          have hp6 : 0 ≤ (p : Int) := by omega
          have hq6 : 0 ≤ (q : Int) := by omega
          have d0 := HR7.out.cell (i := 0) rfl
          have d1 := HR7.out.cell (i := 1) rfl
          clear hp hq hj hos
          go_wp2_with fail
          go_quiet (fail)
          obtain ⟨W2, hW2⟩ : ∃ W2, wr.drewN nq = W2 := ⟨_, rfl⟩
          have hbd : Below wr.heap.size wr W2 := hW2 ▸ ⟨rfl, rfl, rfl, Nat.le_refl _, fun _ _ => rfl⟩
          rw [hW2]
          replace HR7 := Lib.hid (HR7.out.below hbd HR7.out.lt)
          replace HR8 := Lib.hid (HR8.out.below hbd HR8.out.lt)
          replace HC := Lib.hid (HC.out.below hbd)
          replace HD := Lib.hid (HD.out.below hbd)
          replace HO := Lib.hid (owns_below HO.out hbd)
          replace HB := Lib.hid (nextB HB.out (Nat.le_refl _) hbd)
          replace Hgs := Lib.hid (Nat.le_trans Hgs.out hbd.size)
          clear hW2 hbd cp cq hj1 hj4 hj5 d0 d1
          have d0 := HR7.out.cell (i := 0) rfl
          have d1 := HR7.out.cell (i := 1) rfl
          go_wp2_with fail
          refine calls_arg (opLit_is p) ?_
          have ht40 : (tabOf (os.take i)).length ≤ 40 := by have h0 := tabOf_le (os.take i); rw [List.length_take] at h0; have := Hos.out; omega
          have hr40 : (tabOf (os.reverse.take i)).length ≤ 40 := by have h0 := tabOf_le (os.reverse.take i); rw [List.length_take, List.length_reverse] at h0; have := Hos.out; omega
          refine (DoPeer (B := W2.heap.size) HC.out.at (tabOf_val _ (by have := Hos.out; rw [List.length_take]; omega) fun x hx => HIs.out.2.1 x (List.mem_of_mem_take hx)) (keyOf1_len p) rfl (opOf_ok p Hp16.out) (Or.inr (by show (tabOf (os.take i)).length ≠ 64; omega)) (Nat.le_refl _)).mono ?_
          have Hr40 := Lib.hid hr40
          clear ht40 hr40
          rintro e W3 ⟨x1, x2, rfl, hn, hb3⟩
          rw [← take_one Hp.out] at hn
          obtain ⟨T1, hT1⟩ : ∃ T1, tabOf (os.take (i + 1)) = T1 := ⟨_, rfl⟩
          rw [hT1] at hn
          have HT1 := Lib.hid hT1
          clear hT1
          obtain ⟨A3, n3, A4, n4, rfl, rfl⟩ := hn.at.shape
          have HX := Lib.hid hn
          have HR7c := Lib.hid (HR7.out.below hb3 HR7.out.lt)
          have HR8c := Lib.hid (HR8.out.below hb3 HR8.out.lt)
          have HD3 := Lib.hid (HD.out.below hb3)
          have HO3 := Lib.hid (owns_below HO.out hb3)
          have HB3 := Lib.hid (nextB HB.out (Nat.le_refl _) hb3)
          have Hgs3 := Lib.hid (Nat.le_trans Hgs.out hb3.size)
          have e0 : ∀ o, (W3.alloc o).cell? ⟨g7 + 1, 0, none⟩ = some u1 := fun o => (HR8c.out.alloc o).cell rfl
          have e1 : ∀ o, (W3.alloc o).cell? ⟨g7 + 1, 1, none⟩ = some u2 := fun o => (HR8c.out.alloc o).cell rfl
          clear hn hb3 d0 d1
          go_wp2_with fail
          refine calls_arg (opLit_is q) ?_
          obtain ⟨W4, hW4⟩ : ∃ W4, W3.alloc (.cells #[.slice A3 T1.length n3, .slice A4 0 n4] 25) = W4 := ⟨_, rfl⟩
          rw [hW4]
          have hb4 : Below W3.heap.size W3 W4 := hW4 ▸ (Below.refl _ W3).alloc (Nat.le_refl _) _
          have hx4 : Row W4 W3.heap.size [.slice A3 T1.length n3, .slice A4 0 n4] 25 := hW4 ▸ Row.new rfl rfl
          have HX4 := Lib.hid hx4
          have HD4 := Lib.hid (HD3.out.below hb4)
          have HXn := Lib.hid (HX.out.below hb4)
          have HR7d := Lib.hid (HR7c.out.below hb4 HR7c.out.lt)
          have HR8d := Lib.hid (HR8c.out.below hb4 HR8c.out.lt)
          have HO4 := Lib.hid (owns_below HO3.out hb4)
          have HB4 := Lib.hid (nextB HB3.out (Nat.le_refl _) hb4)
          have Hgs4 := Lib.hid (Nat.le_trans Hgs3.out hb4.size)
          have hqr : os.reverse[i]? = some q := by
            rw [List.getElem?_reverse (by have := Hj.out; omega), show os.length - 1 - i = j by have := Hj.out; omega]
            exact Hq.out
          refine (DoPeer (B := W4.heap.size) HD4.out.at (tabOf_val _ (by have := Hos.out; rw [List.length_take, List.length_reverse]; omega) fun x hx => HIs.out.2.1 x (List.mem_reverse.1 (List.mem_of_mem_take hx))) (keyOf1_len q) rfl (opOf_ok q Hq16.out) (Or.inr (by have := Hr40.out; show (tabOf (os.reverse.take i)).length ≠ 64; omega)) (Nat.le_refl _)).mono ?_
          rintro e W5 ⟨y1, y2, rfl, hn, hb5⟩
          rw [← take_one hqr] at hn
          obtain ⟨T2, hT2⟩ : ∃ T2, tabOf (os.reverse.take (i + 1)) = T2 := ⟨_, rfl⟩
          rw [hT2] at hn
          have HT2 := Lib.hid hT2
          clear hT2 hqr
          obtain ⟨A5, n5, A6, n6, rfl, rfl⟩ := hn.at.shape
          have HY := Lib.hid hn
          have HX5 := Lib.hid (HX4.out.below hb5 HX4.out.lt)
          have HXm := Lib.hid (HXn.out.below hb5)
          have HR7e := Lib.hid (HR7d.out.below hb5 HR7d.out.lt)
          have HR8e := Lib.hid (HR8d.out.below hb5 HR8d.out.lt)
          have HO5 := Lib.hid (owns_below HO4.out hb5)
          have HB5 := Lib.hid (nextB HB4.out (Nat.le_refl _) hb5)
          have Hgs5 := Lib.hid (Nat.le_trans Hgs4.out hb5.size)
          have Hg34 := Lib.hid (show g7 + 1 + 1 ≤ W2.heap.size ∧ g7 + 1 + 1 ≤ W4.heap.size from ⟨Hgs.out, Hgs4.out⟩)
          clear hn hb5 e0 e1 hW4 hb4 hx4
          go_wp2_with fail
          obtain ⟨W6, hW6⟩ : ∃ W6, W5.alloc (.cells #[.slice A5 T2.length n5, .slice A6 0 n6] 25) = W6 := ⟨_, rfl⟩
          rw [hW6]
          have hb6 : Below W5.heap.size W5 W6 := hW6 ▸ (Below.refl _ W5).alloc (Nat.le_refl _) _
          have hy6 : Row W6 W5.heap.size [.slice A5 T2.length n5, .slice A6 0 n6] 25 := hW6 ▸ Row.new rfl rfl
          have hx6 := HX5.out.below hb6 HX5.out.lt
          have q0 := hx6.cell (i := 0) rfl
          have q1 := hx6.cell (i := 1) rfl
          have q2 := hy6.cell (i := 0) rfl
          have q3 := hy6.cell (i := 1) rfl
          have HR7f := Lib.hid (HR7e.out.below hb6 HR7e.out.lt)
          have HR8f := Lib.hid (HR8e.out.below hb6 HR8e.out.lt)
          have HF1 := Lib.hid ((HXm.out.below hb6).less (base' := g7 + 1 + 1) Hg34.out.1)
          have HF2 := Lib.hid ((HY.out.below hb6).less (base' := g7 + 1 + 1) Hg34.out.2)
          have HO6 := Lib.hid (owns_below HO5.out hb6)
          have HB6 := Lib.hid (nextB HB5.out (Nat.le_refl _) hb6)
          have Hgs6 := Lib.hid (Nat.le_trans Hgs5.out hb6.size)
          clear hW6 hb6 hy6 hx6
          have k0 := HR7f.out.cell (i := 0) rfl
          have k1 := HR7f.out.cell (i := 1) rfl
          have k2 := HR8f.out.cell (i := 0) rfl
          have k3 := HR8f.out.cell (i := 1) rfl
          have f0 := frozen_row HR7f.out 0
          have f1 := frozen_row HR7f.out 1
          have f2 := frozen_row HR8f.out 0
          have f3 := frozen_row HR8f.out 1
          have ne1 : W5.heap.size ≠ g7 := by have := Hgs5.out; omega
          have ne2 : g7 ≠ W5.heap.size := by have := Hgs5.out; omega
          have ne3 : W3.heap.size ≠ g7 := by have := Hgs3.out; omega
          have ne4 : g7 ≠ W3.heap.size := by have := Hgs3.out; omega
          go_region
          obtain ⟨WF, hWF⟩ : ∃ WF, ((((W6.setCell ⟨g7, 0, none⟩ (.slice A3 T1.length n3)).setCell ⟨g7, 1, none⟩ (.slice A4 0 n4)).setCell ⟨g7 + 1, 0, none⟩ (.slice A5 T2.length n5)).setCell ⟨g7 + 1, 1, none⟩ (.slice A6 0 n6)) = WF := ⟨_, rfl⟩
          have KR7 := Lib.hid (show Row WF g7 [.slice A3 T1.length n3, .slice A4 0 n4] 25 from hWF ▸ (((HR7f.out.set 0 _).set 1 _).other _ _ (by show g7 ≠ g7 + 1; omega)).other _ _ (by show g7 ≠ g7 + 1; omega))
          have KR8 := Lib.hid (show Row WF (g7 + 1) [.slice A5 T2.length n5, .slice A6 0 n6] 25 from hWF ▸ (((HR8f.out.other _ _ (by show g7 + 1 ≠ g7; omega)).other _ _ (by show g7 + 1 ≠ g7; omega)).set 0 _).set 1 _)
          have KF1 := Lib.hid (show CNew WF (g7 + 1 + 1) (.slice A3 T1.length n3) (.slice A4 0 n4) ⟨T1, []⟩ from hWF ▸ (((HF1.out.setCell _ (by show g7 < g7 + 1 + 1; omega) _).setCell _ (by show g7 < g7 + 1 + 1; omega) _).setCell _ (by show g7 + 1 < g7 + 1 + 1; omega) _).setCell _ (by show g7 + 1 < g7 + 1 + 1; omega) _)
          have KF2 := Lib.hid (show CNew WF (g7 + 1 + 1) (.slice A5 T2.length n5) (.slice A6 0 n6) ⟨T2, []⟩ from hWF ▸ (((HF2.out.setCell _ (by show g7 < g7 + 1 + 1; omega) _).setCell _ (by show g7 < g7 + 1 + 1; omega) _).setCell _ (by show g7 + 1 < g7 + 1 + 1; omega) _).setCell _ (by show g7 + 1 < g7 + 1 + 1; omega) _)
          have KO := Lib.hid (show OwnU WF (g7 + 1 + 1) (.slice (some ⟨b1, off1, none⟩) os.length c2) os from hWF ▸ owns_setCell (owns_setCell (owns_setCell (owns_setCell HO6.out _ (by show g7 < g7 + 1 + 1; omega) _) _ (by show g7 < g7 + 1 + 1; omega) _) _ (by show g7 + 1 < g7 + 1 + 1; omega) _) _ (by show g7 + 1 < g7 + 1 + 1; omega) _)
          have KB := Lib.hid (show Below w.heap.size w WF from hWF ▸ (((HB6.out.setCell (p := ⟨g7, 0, none⟩) Hwg.out _).setCell (p := ⟨g7, 1, none⟩) Hwg.out _).setCell (p := ⟨g7 + 1, 0, none⟩) (Nat.le_succ_of_le Hwg.out) _).setCell (p := ⟨g7 + 1, 1, none⟩) (Nat.le_succ_of_le Hwg.out) _)
          have Kgs := Lib.hid (show g7 + 1 + 1 ≤ WF.heap.size by rw [← hWF]; simpa using Hgs6.out)
          rw [hWF]
          clear hWF k0 k1 k2 k3 f0 f1 f2 f3 ne1 ne2 ne3 ne4 q0 q1 q2 q3
          go_wp2
          go_roundw
          case rel =>
            refine ⟨i + 1, _, _, _, _, hlt, by simp, KR7.out.drewN 1, KR8.out.drewN 1, ?_, ?_, KO.out, KB.out.drew, Kgs.out⟩
            · rw [HT1.out]; exact KF1.out.below ⟨rfl, rfl, rfl, Nat.le_refl _, fun _ _ => rfl⟩
            · rw [HT2.out]; exact KF2.out.below ⟨rfl, rfl, rfl, Nat.le_refl _, fun _ _ => rfl⟩
          case measure => simp [intOf]; omega
        · have hlt' : ¬ (i : Int) < (os.length : Int) := by omega
          have hi3 : i = os.length := by omega
          subst hi3
          have hT : tabOf (os.reverse.take os.length) = tabOf os := by rw [← List.length_reverse, List.take_length, ← tabOf_rev]
          have hlen := tabOf_len os HIs.out.1
          have hc := HC.out
          have hd := HD.out
          rw [hT] at hd
          rw [List.take_length] at hc
          clear hT HC HD
          obtain ⟨T, hT⟩ : ∃ T, tabOf os = T := ⟨_, rfl⟩
          rw [hT] at hc hd hlen
          clear hT
          obtain ⟨A3, n3, A4, n4, rfl, rfl⟩ := hc.at.shape
          obtain ⟨A5, n5, A6, n6, rfl, rfl⟩ := hd.at.shape
          have HC := Lib.hid hc.at
          have HD := Lib.hid hd.at
          have HLen := Lib.hid hlen
          have d0 := HR7.out.cell (i := 0) rfl
          have d1 := HR7.out.cell (i := 1) rfl
          have d2 := HR8.out.cell (i := 0) rfl
          have d3 := HR8.out.cell (i := 1) rfl
          have HT40 := Lib.hid (show T.length ≤ 1000 by omega)
          clear hos hc hd hlen
          go_wp2_with fail
          clear d0 d1 d2 d3
          refine (Same_any (B := wr.heap.size) HC.out HD.out HT40.out (Nat.zero_le _) HT40.out (Nat.zero_le _) (Nat.le_refl _)).mono ?_
          rintro e W2 ⟨rfl, hb2⟩
          rw [show (decide (T = T) && decide (([] : List Rt) = [])) = true by simp]
          have HB2 := Lib.hid (nextB HB.out (Nat.le_refl _) hb2)
          have d0 := (HR7.out.below hb2 HR7.out.lt).cell (i := 0) rfl
          have hlen := HLen.out
          have hlen2 : (T.length : Int) = (os.length : Int) := by omega
          clear hb2 HR7 HR8 HC HD HO HB
          rcases Int.lt_trichotomy a b with hab | hab | hab
          · have c1 : ¬ b < a := by omega
            have c2 : a ≤ b := by omega
            have c3 : ¬ b ≤ a := by omega
            obtain ⟨⟨m1, m2⟩, m3, m4⟩ := masks_le c2
            go_wp2_with fail
            refine (Mask_any _ _).mono ?_
            rintro e w' ⟨rfl, rfl⟩
            go_wp2_with fail
            refine (Mask_any _ _).mono ?_
            rintro e w' ⟨rfl, rfl⟩
            go_wp2_with fail
            refine (Mask_any _ _).mono ?_
            rintro e w' ⟨rfl, rfl⟩
            go_wp2_with fail
            refine (Mask_any _ _).mono ?_
            rintro e w' ⟨rfl, rfl⟩
            go_wp2_with fail
            refine (Mask_any _ _).mono ?_
            rintro e w' ⟨rfl, rfl⟩
            go_wp2_with fail
            refine (Mask_any _ _).mono ?_
            rintro e w' ⟨rfl, rfl⟩
            go_wp2
            go_ret
            exact ⟨rfl, HB2.out⟩
          · subst hab
            obtain ⟨⟨m1, m2⟩, m3, m4⟩ := masks_le (Int.le_refl a)
            go_wp2_with fail
            refine (Mask_any _ _).mono ?_
            rintro e w' ⟨rfl, rfl⟩
            go_wp2_with fail
            refine (Mask_any _ _).mono ?_
            rintro e w' ⟨rfl, rfl⟩
            go_wp2_with fail
            refine (Mask_any _ _).mono ?_
            rintro e w' ⟨rfl, rfl⟩
            go_wp2_with fail
            refine (Mask_any _ _).mono ?_
            rintro e w' ⟨rfl, rfl⟩
            go_wp2_with fail
            refine (Mask_any _ _).mono ?_
            rintro e w' ⟨rfl, rfl⟩
            go_wp2_with fail
            refine (Mask_any _ _).mono ?_
            rintro e w' ⟨rfl, rfl⟩
            go_wp2
            go_ret
            exact ⟨rfl, HB2.out⟩
          · have c1 : ¬ a < b := by omega
            have c2 : b ≤ a := by omega
            have c3 : ¬ a ≤ b := by omega
            obtain ⟨⟨m1, m2⟩, m3, m4⟩ := masks_le c2
            go_wp2_with fail
            refine (Mask_any _ _).mono ?_
            rintro e w' ⟨rfl, rfl⟩
            go_wp2_with fail
            refine (Mask_any _ _).mono ?_
            rintro e w' ⟨rfl, rfl⟩
            go_wp2_with fail
            refine (Mask_any _ _).mono ?_
            rintro e w' ⟨rfl, rfl⟩
            go_wp2_with fail
            refine (Mask_any _ _).mono ?_
            rintro e w' ⟨rfl, rfl⟩
            go_wp2_with fail
            refine (Mask_any _ _).mono ?_
            rintro e w' ⟨rfl, rfl⟩
            go_wp2_with fail
            refine (Mask_any _ _).mono ?_
            rintro e w' ⟨rfl, rfl⟩
            go_wp2
            go_ret
            exact ⟨rfl, HB2.out⟩

set_option maxRecDepth 100000 in
theorem lift (os : Os) (started : os.Started) (H : Type) (enc : TypeId × Value → H) :
    ReturnsInHanded {} Try.checked os 8 .any (Rows.configOrdersSpec.pre6 enc Try.prog Try.f8 Rows.configOrdersRow.domain false) (Rows.configOrdersSpec.post enc Try.prog Try.f8 false true false false) := by
  refine Law.lifted (C := Try.checked) 4 own started (by kernel_rfl) Try.func8 laid (by kernel_rfl) rfl Try.underlying4 rfl
    (fun ds hd => by
      have hd' : ds.length = 3 := hd
      match ds, hd' with
      | [d0, d1, d2], _ => rfl)
    (ChangeSpec.witness6 (enc := enc) (C := Try.checked) false ⟨#[], #[.slice none 0 0, .int .i64 0, .int .i64 0], []⟩ 8 (by kernel_rfl) (by kernel_rfl) (by kernel_rfl) (by kernel_rfl)) ?_
  intro W args ds ps hst
  have hA : DataW.TrodAll enc Try.prog W 0 (fun _ => true) true Try.f8.params.toList args.toList ds ps := hst.trod
  have hok := hst.okw
  have hlt := hst.lt
  rw [Try.params8] at hA hok
  obtain ⟨v0, v1, v2, d0, d1, d2, p0, p1, p2, rfl, rfl, rfl, h0, h1, h2⟩ := trodAll_three hA
  obtain ⟨_, hv0⟩ := hok 0 64 v0 rfl rfl
  obtain ⟨_, hv1⟩ := hok 1 3 v1 rfl rfl
  obtain ⟨_, hv2⟩ := hok 2 3 v2 rfl rfl
  obtain ⟨l, hU, _, hp⟩ := u16s_trod Try.underlying64 hv0 h0 (fun x hx => hlt x (by simp [hx]))
  obtain ⟨a, rfl, _, _⟩ := Law.int_at Try.underlying3 hv1 h1
  obtain ⟨b, rfl, _, _⟩ := Law.int_at Try.underlying3 hv2 h2
  exact walk hU hp a b

theorem over : Rows.configOrdersRow.holds Try.pinned (OpenSpec.ofChange Rows.configOrdersSpec) :=
  OpenClaim.holds_of_wide 8 Try.f8 rfl rfl rfl rfl rfl rfl rfl ⟨rfl, rfl, rfl, rfl, rfl⟩ rfl rfl rfl rfl rfl (by kernel_rfl) Try.func8 (by kernel_rfl)
    (of_decide_eq_true (by kernel_rfl)) (by unfold Func.isWrapper; first | (rw [if_pos (by decide +kernel)]; kernel_rfl) | (rw [if_neg (by decide +kernel)]; exact ⟨rfl, rfl⟩))
    (fun os started H enc _ => lift os started H enc)
theorem proved : Rows.ConfigOrdersSaid := over
#print axioms proved
end Go.Proofs.Ytfomogokonkkfaa.cfgOrders
