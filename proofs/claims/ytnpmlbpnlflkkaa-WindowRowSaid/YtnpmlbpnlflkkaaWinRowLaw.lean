/- Numbers that are allowed are accepted, in whatever order, as long as they are not 64 below the greatest: 'drawbridgelaw07.WindowRow'. -/
import Derived.Test.YtnpmlbpnlflkkaaWinRowKit
import Derived.Test.YtnpmlbpnlflkkaaWinLives
import Derived.Test.YtnpmlbpnlflkkaaWinArgs
import Derived.Test.YtnpmlbpnlflkkaaKitBase
import Derived.Test.YtnpmlbpnlflkkaaTail
import Derived.Deep.QuietTactic
import Derived.BigQuiet
import Derived.RegionTactic
import Derived.ChangeAlike
namespace Go.Proofs.Ytnpmlbpnlflkkaa.windowRow
open Go.ChangeShapes Go.WideShapes Go.ChangeAt Go.RowKit Win

theorem info_u64 : ∃ i, Try.prog.info? 24 = some i ∧ i.zero = some (.int .u64 0) ∧ i.size = 1 ∧ i.bytes = 8 :=
  ⟨_, rfl, by kernel_rfl, by kernel_rfl, by kernel_rfl⟩
theorem Row.kept' {w w' : World} {k : Nat} {cs : List Value} {t : TypeId} {r : Option Nat} (h : Row w k cs t) (hg : w.grownBy w' r) (hne : some k ≠ r) : Row w' k cs t := by
  unfold Row
  rw [hg.block k h.lt hne]
  exact h
theorem row_app {w w3 : World} {G n : Nat} {e t : TypeId} {v : Value} {xs cs : List Value} (ho : w.ownsRow (G + 1) e 1 v n xs) (hg : w.grownBy w3 v.ownBlock) (hr : Row w G cs t) : Row w3 G cs t :=
  Row.kept' hr hg (fun h => by have := (ho.lt _ h.symm).1; omega)
theorem below_app {w0 w w3 : World} {G n : Nat} {e : TypeId} {v : Value} {xs : List Value} (ho : w.ownsRow (G + 1) e 1 v n xs) (hb : Below w0.heap.size w0 w) (hG : w0.heap.size ≤ G) (hg : w.grownBy w3 v.ownBlock) : Below w0.heap.size w0 w3 :=
  hb.grown hg hb.size (fun j hj => by have := (ho.lt _ hj).1; omega)
/-- append of one number onto a row of the call's own. -/
theorem wpList_app_one (w : World) {ops : Array Oper} {rest : List Oper} {o : Oper} {a : Act} {Q : Exit → Act → World → Prop} (hgd : o.guard = none) (s x : Operand)
    (ho : o.op = .call { callee := .builtin .append, args := #[s, x], argTypes := #[49, 49] }) {base g n : Nat} {v : Value} {xs : List Value} {y : Int} (hs : a.eval s = v) (hown : w.ownsRow base 24 1 v n xs)
    (hx : a.eval x = .slice (some ⟨g, 0, none⟩) 1 1) (hy : Row w g [.int .u64 y] 24) (hlen : n ≤ 1000000) (hbase : base ≤ w.heap.size)
    (h : ∀ v' w', w'.ownsRow base 24 1 v' (n + 1) (xs ++ [.int .u64 y]) → w.grownBy w' v.ownBlock → wpList Try.prog ops Q rest (a.put o.dst v') w') : wpList Try.prog ops Q (o :: rest) a w := by
  obtain ⟨i0, hi, hz0, hz1, hz2⟩ := info_u64
  refine wpList_append_own_at w hgd s x 49 ho base 24 i0 (.int .u64 0) 1 8 Try.underlying49 hi hz0 hz1 hz2 rfl (by decide) v n xs hs hown ⟨g, 0, none⟩ 1 1 [.int .u64 y] hx rfl ?_ (fun u hu => by simp at hu; subst hu; rfl) (by unfold maxLen; omega) (by omega) hbase (fun v' w' h1 h2 _ _ => h v' w' h1 h2)
  intro j u hj
  match j, hj with
  | 0, hj => simp at hj; subst hj; exact hy.cell rfl
  | j + 1, hj => simp at hj
theorem grownBy_setRow (W : World) (g : Nat) (cs : Array Value) : W.grownBy (W.setRow g cs) (some g) :=
  ⟨rfl, rfl, rfl, by simp [World.setRow], fun k _ hk => by
    refine setRow_other W g k cs (fun e => hk (by rw [e]))⟩

set_option maxRecDepth 4000 in
set_option maxHeartbeats 40000000 in
theorem walk (fr : Nat) (many : Int) (A : Option Addr) (c N : Nat) (z : Nat → Int) (w : World) (hz : Zs w w.heap.size (.slice A N c) N z)
    (hfr : fr < 2 ^ 64) (hm : -9223372036854775808 ≤ many ∧ many ≤ 9223372036854775807) (hzz : ∀ i, i < N → -9223372036854775808 ≤ z i ∧ z i ≤ 9223372036854775807) :
    Calls Try.prog 6 #[.int .u64 (fr : Int), .int .i64 many, .slice A N c] w fun e w' => e = .returned (.bool true) ∧ Below w.heap.size w w' := by
  have HZ := Lib.hid hz
  have HZZ := Lib.hid hzz
  have HM := Lib.hid hm
  obtain ⟨n, hn, hn2⟩ : ∃ n : Nat, pick many 200 = (n : Int) ∧ n < 200 := ⟨(pick many 200).toNat, by have := pick_in many 200 (by omega); omega, by have := pick_in many 200 (by omega); omega⟩
  obtain ⟨F, hF⟩ : ∃ F, fr % 1125899906842624 = F := ⟨_, rfl⟩
  have hF2 : F < 1125899906842624 := by rw [← hF]; exact Nat.mod_lt _ (by omega)
  have hF3 : (fr : Int) % 1125899906842624 = (F : Int) := by rw [← hF]; omega
  obtain ⟨f, hf⟩ : ∃ f, 1 + F = f := ⟨_, rfl⟩
  obtain ⟨L, hL⟩ : ∃ L, F + n + 2 = L := ⟨_, rfl⟩
  obtain ⟨q, hq⟩ : ∃ q, F + n = q := ⟨_, rfl⟩
  have e1 : IntKind.u64.wrap (1 + (F : Int)) = (f : Int) := by rw [wrap_in _ (by omega) (by omega)]; omega
  have e2 : IntKind.u64.wrap (n : Int) = (n : Int) := wrap_in _ (by omega) (by omega)
  have e3 : IntKind.u64.wrap ((F : Int) + (n : Int)) = (q : Int) := by rw [wrap_in _ (by omega) (by omega)]; omega
  have e4 : IntKind.u64.wrap ((q : Int) + 2) = (L : Int) := by rw [wrap_in _ (by omega) (by omega)]; omega
  have HOK0 := Lib.hid (show Ok f F 0 f from ⟨by omega, by omega, by omega, by omega, by omega, Nat.pow_pos (by omega), by omega⟩)
  have HF0 := Lib.hid (show Fits f F 0 f from ⟨by omega, by omega, by omega, by omega⟩)
  have HOK1 := Lib.hid (show Ok f F 0 L from ⟨by omega, by omega, by omega, by omega, by omega, Nat.pow_pos (by omega), by omega⟩)
  have HF1 := Lib.hid (show Fits f F 0 L from ⟨by omega, by omega, by omega, by omega⟩)
  have HAL := Lib.hid (fun W : World => Allow_ok f F 0 f L W HF0.out HOK0.out (by omega) (by omega))
  have Hf := Lib.hid hf
  have HL := Lib.hid hL
  have HF2 := Lib.hid hF2
  clear hz hzz hm hF hfr hf hL hq
  go_enter Try.func6, Try.ntmps6
  go_wp2_with fail
  refine (lives_any _).mono ?_
  rintro e w1 ⟨rfl, hb1⟩
  have HB1 := Lib.hid hb1
  have hs1 : w.heap.size ≤ w1.heap.size := hb1.size
  clear hb1
  go_wp2_with fail
  refine (Pick_any many 200 _ HM.out (by omega)).mono ?_
  rw [hn]
  rintro e w' ⟨rfl, rfl⟩
  go_wp2_with fail
  refine (HAL.out _).mono ?_
  rintro e w5 ⟨rfl, hb⟩
  obtain ⟨G, hG⟩ : ∃ G, w1.heap.size = G := ⟨_, rfl⟩
  rw [hG]
  have hwG : w.heap.size ≤ G := by omega
  have HB5 := Lib.hid (nextB (HB1.out.alloc hs1 _) (Nat.le_refl _) hb)
  have R5 := Lib.hid (show Row w5 G (wl f F 0 f) 35 by rw [← hG]; exact (Row.new rfl rfl).below hb (by simp))
  clear hb
  go_wp2_with (first
    | (show wpList _ _ _ (⟨none, .store 35 _ _, _, _, _, _⟩ :: _) _ _; (
       refine wpList_storeRow (n := 4) rfl 35 _ _ rfl rfl rfl (cs := wl f F 0 L) (old := wl f F 0 f) R5.out (by kernel_rfl) rfl rfl (wl_one _ _ _ _) ?_
       obtain ⟨V2, hV2⟩ : ∃ V2, World.setRow w5 G (wl f F 0 L).toArray = V2 := ⟨_, rfl⟩
       refine wpList_world hV2 ?_
       have R2 := Lib.hid (show Row V2 G (wl f F 0 L) 35 by rw [← hV2]; exact R5.out.setRow _)
       have HB2 := Lib.hid (show Below w.heap.size w V2 by rw [← hV2]; exact below_setRow HB5.out hwG _)
       clear hV2))
    | fail)
  go_loopw [10, 11] (fun ov iv wr => ∃ i : Nat, i ≤ n ∧ iv = .int .i64 (i : Int) ∧ wr.ownsRow (G + 1) 24 1 ov i ((List.range i).map fun j => .int .u64 ((f + j : Nat) : Int)) ∧ Row wr G (wl f F 0 L) 35 ∧ Below w.heap.size w wr) (fun _ iv _ => n - (intOf iv).toNat)
  case atStart => exact ⟨0, by omega, rfl, World.ownsRow_nil _ _ _ _, R2.out, HB2.out⟩
  case round =>
    obtain ⟨i, hi, rfl, ho, hr, hbr⟩ := hrel
    have HO := Lib.hid ho
    have HR := Lib.hid hr
    have HB := Lib.hid hbr
    have hrs : w.heap.size ≤ wr.heap.size := hbr.size
    have hlr : G < wr.heap.size := hr.lt
    clear ho hr hbr
    by_cases hin : i < n
    · have hin' : (i : Int) < (n : Int) := by omega
      obtain ⟨x, hx⟩ : ∃ x, f + i = x := ⟨_, rfl⟩
      have g1 : IntKind.u64.wrap (i : Int) = (i : Int) := wrap_in _ (by omega) (by omega)
      have g2 : IntKind.u64.wrap ((f : Int) + (i : Int)) = (x : Int) := by have := Hf.out; have := HF2.out; rw [wrap_in _ (by omega) (by omega)]; omega
      have HX := Lib.hid hx
      have Hin := Lib.hid hin
      have HOa := Lib.hid (World.ownsRow.alloc HO.out (.cells #[.int .u64 (x : Int)] 24))
      have HRa := Lib.hid (show Row (wr.alloc (.cells #[.int .u64 (x : Int)] 24)) wr.heap.size [.int .u64 (x : Int)] 24 from Row.new rfl rfl)
      have HRG := Lib.hid (HR.out.alloc (.cells #[.int .u64 (x : Int)] 24))
      have HBG := Lib.hid (HB.out.alloc hrs (.cells #[.int .u64 (x : Int)] 24))
      have Hi := Lib.hid (show i ≤ 1000000 by omega)
      have Hb := Lib.hid (show G + 1 ≤ (wr.alloc (.cells #[.int .u64 (x : Int)] 24)).heap.size by simp; omega)
      clear hx hin
      go_wp2_with (first
        | (show wpList _ _ _ (⟨some 54, _, _, _, _, _⟩ :: _) _ _; go_loud (
           refine wpList_app_one _ rfl _ _ rfl rfl HOa.out rfl HRa.out Hi.out Hb.out ?_
           intro v' w3 hown' hgrow
           have HO3 := Lib.hid hown'
           have HR3 := Lib.hid (row_app HOa.out hgrow HRG.out)
           have HB3 := Lib.hid (below_app HOa.out HBG.out hwG hgrow)
           clear hown' hgrow))
        | fail)
      go_roundw
      case rel =>
        refine ⟨i + 1, Hin.out, by go_num, ?_, HR3.out, HB3.out⟩
        rw [List.range_succ, List.map_append, List.map_cons, List.map_nil, HX.out]
        exact HO3.out
      case measure => have := Hin.out; simp [intOf]; omega
    · have hin' : ¬ (i : Int) < (n : Int) := by omega
      have hin2 : n = i := by omega
      subst hin2
      by_cases hn0 : n = 0
      · have Hn0 := Lib.hid hn0
        have HB0 := HB
        clear hn0
        go_wp2
        go_loopw [12, 13] (fun iv _ wr => ∃ (i : Nat), i ≤ n ∧ iv = .int .i64 (i : Int) ∧ Below w.heap.size w wr) (fun iv _ _ => n - (intOf iv).toNat)
        case atStart => exact ⟨0, by omega, rfl, HB0.out⟩
        case round =>
          obtain ⟨i, hi, rfl, hbr⟩ := hrel
          have HB1' := Lib.hid hbr
          have hin' : ¬ (i : Int) < (n : Int) := by have := Hn0.out; omega
          clear hbr
          go_wp2
          go_loopw [14, 15, 16, 17] (fun iv _ _ _ wr => ∃ (i : Nat), i ≤ n ∧ iv = .int .i64 (i : Int) ∧ Below w.heap.size w wr) (fun iv _ _ _ _ => n - (intOf iv).toNat)
          case atStart => exact ⟨0, by omega, rfl, HB1'.out⟩
          case round =>
            obtain ⟨i, hi, rfl, hbr⟩ := hrel
            have HB2' := Lib.hid hbr
            have hin' : ¬ (i : Int) < (n : Int) := by have := Hn0.out; omega
            clear hbr
            go_wp2
            go_ret
            exact ⟨rfl, HB2'.out⟩
      obtain ⟨g, cap, cs0, hov, hGg, hrow, hnums⟩ := own_row HO.out (by omega)
      subst hov
      have hN0 := Lib.hid (show Nums cs0 (fun j => f + j) n from fun j hj => hnums j _ (by rw [List.getElem?_map, List.getElem?_range hj]; rfl))
      have hG0 := Lib.hid (show Win.Good (fun j => f + j) n F from ⟨fun j hj => by have := Hf.out; show F < f + j ∧ f + j ≤ F + n; omega, fun a b _ _ h => by have h : f + a = f + b := h; omega⟩)
      have HRW := Lib.hid hrow
      have hgG : G ≠ g := by omega
      have hwg : w.heap.size ≤ g := by omega
      have Hn0 := Lib.hid hn0
      clear hnums hrow hn0
      go_wp2
      go_loopw [12, 13] (fun iv _ wr => ∃ (i : Nat) (o : Nat → Nat) (cs : List Value), i ≤ n ∧ iv = .int .i64 (i : Int) ∧ Win.Good o n F ∧ Nums cs o n ∧ Row wr g cs 24 ∧ Row wr G (wl f F 0 L) 35 ∧ Below w.heap.size w wr) (fun iv _ _ => n - (intOf iv).toNat)
      case atStart => exact ⟨0, _, _, by omega, rfl, hG0.out, hN0.out, HRW.out, HR.out, HB.out⟩
      case round =>
        skip
        obtain ⟨i, o, cs, hi, rfl, hgo, hnu, hrw, hrg, hbr⟩ := hrel
        have HGO := Lib.hid hgo
        have HNU := Lib.hid hnu
        have HRW' := Lib.hid hrw
        have HRG := Lib.hid hrg
        have HBR := Lib.hid hbr
        have hrs' : w.heap.size ≤ wr.heap.size := hbr.size
        clear hgo hnu hrw hrg hbr
        by_cases hin : i < n ∧ i < N
        · obtain ⟨hi1, hi2⟩ := hin
          have hin' : (i : Int) < (n : Int) := by omega
          have hin3 : (i : Int) < (N : Int) := by omega
          obtain ⟨b, off, rfl, hcell⟩ : ∃ b off, A = some ⟨b, off, none⟩ ∧ ∀ W, Below w.heap.size w W → W.cell? ⟨b, off + i, none⟩ = some (.int .i64 (z i)) := by
            obtain ⟨A', c', e', hcs⟩ := HZ.out
            simp only [Value.slice.injEq] at e'
            obtain ⟨rfl, _, rfl⟩ := e'
            obtain ⟨b, off, rfl, hlt, hcs⟩ := hcs (by omega)
            exact ⟨b, off, rfl, fun W hW => (hW.cell (p := ⟨b, _, none⟩) hlt).trans (hcs i hi2)⟩
          have Hx := Lib.hid (HZZ.out i hi2)
          obtain ⟨x, hx⟩ : ∃ x, z i = x := ⟨_, rfl⟩
          rw [hx] at hcell Hx
          have c0 := hcell wr HBR.out
          clear hcell hx
          obtain ⟨p, hp, hp30⟩ : ∃ p : Nat, pick x 30 = (p : Int) ∧ p < 30 := ⟨(pick x 30).toNat, by have := pick_in x 30 (by omega); omega, by have := pick_in x 30 (by omega); omega⟩
          obtain ⟨m, hm⟩ : ∃ m : Nat, n - 1 = m := ⟨_, rfl⟩
          obtain ⟨r, hr⟩ : ∃ r : Nat, i + p = r := ⟨_, rfl⟩
          have hm1 : (n : Int) - 1 = (m : Int) := by omega
          have hr1 : (i : Int) + (p : Int) = (r : Int) := by omega
          have hr2 : (r : Int) ≤ 1000 := by omega
          go_wp2_with fail
          refine (Pick_any x 30 _ Hx.out (by omega)).mono ?_
          rw [hp]
          rintro e w' ⟨rfl, rfl⟩
          by_cases hmr : m ≤ r
          · have h1 : (m : Int) ≤ (r : Int) := by omega
            have h2 : min (m : Int) (r : Int) = (m : Int) := by omega
            have h3 : ¬ (r : Int) < (m : Int) := by omega
            have HK := Lib.hid (show m < n by omega)
            have hk4 : (m : Int) < (n : Int) := by omega
            clear hmr hm hr
            have o1 : wr.cell? ⟨g, i, none⟩ = some (.int .u64 (o i : Int)) := (show Row wr g cs 24 from HRW'.out).cell (HNU.out i (by omega))
            have o2 : wr.cell? ⟨g, m, none⟩ = some (.int .u64 (o m : Int)) := (show Row wr g cs 24 from HRW'.out).cell (HNU.out m HK.out)
            have o3 : wr.frozen? ⟨g, i, none⟩ = false := frozen_row (show Row wr g cs 24 from HRW'.out) i
            have o4 : wr.frozen? ⟨g, m, none⟩ = false := frozen_row (show Row wr g cs 24 from HRW'.out) m
            obtain ⟨y0, hy0⟩ : ∃ y, (o i : Int) = y := ⟨_, rfl⟩
            obtain ⟨y1, hy1⟩ : ∃ y, (o m : Int) = y := ⟨_, rfl⟩
            have HS1 := Lib.hid (show Row (wr.setCell ⟨g, i, none⟩ (.int .u64 y1)) g (cs.set i (.int .u64 y1)) 24 from Row.set (w := wr) HRW'.out i _)
            have HS2 := Lib.hid (show Row ((wr.setCell ⟨g, i, none⟩ (.int .u64 y1)).setCell ⟨g, m, none⟩ (.int .u64 y0)) g ((cs.set i (.int .u64 y1)).set m (.int .u64 y0)) 24 from HS1.out.set m _)
            have HSW := Lib.hid (show Nums ((cs.set i (.int .u64 y1)).set m (.int .u64 y0)) (Win.swap o i m) n by rw [← hy0, ← hy1]; exact HNU.out.swap (by omega) HK.out)
            have HGS := Lib.hid (HGO.out.swap (show i < n by omega) HK.out)
            have HRG2 := Lib.hid (show Row ((wr.setCell ⟨g, i, none⟩ (.int .u64 y1)).setCell ⟨g, m, none⟩ (.int .u64 y0)) G (wl f F 0 L) 35 from (Row.other (w := wr) HRG.out _ _ hgG).other _ _ hgG)
            have HB2' := Lib.hid (show Below w.heap.size w ((wr.setCell ⟨g, i, none⟩ (.int .u64 y1)).setCell ⟨g, m, none⟩ (.int .u64 y0)) from (HBR.out.setCell hwg _).setCell hwg _)
            have o5 : (wr.setCell ⟨g, i, none⟩ (.int .u64 y1)).frozen? ⟨g, m, none⟩ = false := frozen_row HS1.out m
            rw [hy0] at o1
            rw [hy1] at o2
            have o6 : ∃ y2, (wr.setCell ⟨g, i, none⟩ (.int .u64 y1)).cell? ⟨g, m, none⟩ = some y2 := by
              have hl : m < cs.length := (List.getElem?_eq_some_iff.1 (HNU.out m HK.out)).1
              exact ⟨_, HS1.out.cell (i := m) (List.getElem?_eq_getElem (by rw [List.length_set]; exact hl))⟩
            obtain ⟨y2, o6⟩ := o6
            clear hy0 hy1
            go_wp2_with fail
            go_region
            go_wp2
            go_roundw
            case rel =>
              exact ⟨i + 1, _, _, by omega, by go_num, HGS.out, HSW.out, HS2.out.drewN 1, HRG2.out.drewN 1, HB2'.out.drew⟩
            case measure => simp [intOf]; omega
          · have h1 : ¬ (m : Int) ≤ (r : Int) := by omega
            have h2 : min (m : Int) (r : Int) = (r : Int) := by omega
            have h3 : (r : Int) < (m : Int) := by omega
            have HK := Lib.hid (show r < n by omega)
            have hk4 : (r : Int) < (n : Int) := by omega
            clear hmr hm hr
            have o1 : wr.cell? ⟨g, i, none⟩ = some (.int .u64 (o i : Int)) := (show Row wr g cs 24 from HRW'.out).cell (HNU.out i (by omega))
            have o2 : wr.cell? ⟨g, r, none⟩ = some (.int .u64 (o r : Int)) := (show Row wr g cs 24 from HRW'.out).cell (HNU.out r HK.out)
            have o3 : wr.frozen? ⟨g, i, none⟩ = false := frozen_row (show Row wr g cs 24 from HRW'.out) i
            have o4 : wr.frozen? ⟨g, r, none⟩ = false := frozen_row (show Row wr g cs 24 from HRW'.out) r
            obtain ⟨y0, hy0⟩ : ∃ y, (o i : Int) = y := ⟨_, rfl⟩
            obtain ⟨y1, hy1⟩ : ∃ y, (o r : Int) = y := ⟨_, rfl⟩
            have HS1 := Lib.hid (show Row (wr.setCell ⟨g, i, none⟩ (.int .u64 y1)) g (cs.set i (.int .u64 y1)) 24 from Row.set (w := wr) HRW'.out i _)
            have HS2 := Lib.hid (show Row ((wr.setCell ⟨g, i, none⟩ (.int .u64 y1)).setCell ⟨g, r, none⟩ (.int .u64 y0)) g ((cs.set i (.int .u64 y1)).set r (.int .u64 y0)) 24 from HS1.out.set r _)
            have HSW := Lib.hid (show Nums ((cs.set i (.int .u64 y1)).set r (.int .u64 y0)) (Win.swap o i r) n by rw [← hy0, ← hy1]; exact HNU.out.swap (by omega) HK.out)
            have HGS := Lib.hid (HGO.out.swap (show i < n by omega) HK.out)
            have HRG2 := Lib.hid (show Row ((wr.setCell ⟨g, i, none⟩ (.int .u64 y1)).setCell ⟨g, r, none⟩ (.int .u64 y0)) G (wl f F 0 L) 35 from (Row.other (w := wr) HRG.out _ _ hgG).other _ _ hgG)
            have HB2' := Lib.hid (show Below w.heap.size w ((wr.setCell ⟨g, i, none⟩ (.int .u64 y1)).setCell ⟨g, r, none⟩ (.int .u64 y0)) from (HBR.out.setCell hwg _).setCell hwg _)
            have o5 : (wr.setCell ⟨g, i, none⟩ (.int .u64 y1)).frozen? ⟨g, r, none⟩ = false := frozen_row HS1.out r
            rw [hy0] at o1
            rw [hy1] at o2
            have o6 : ∃ y2, (wr.setCell ⟨g, i, none⟩ (.int .u64 y1)).cell? ⟨g, r, none⟩ = some y2 := by
              have hl : r < cs.length := (List.getElem?_eq_some_iff.1 (HNU.out r HK.out)).1
              exact ⟨_, HS1.out.cell (i := r) (List.getElem?_eq_getElem (by rw [List.length_set]; exact hl))⟩
            obtain ⟨y2, o6⟩ := o6
            clear hy0 hy1
            go_wp2_with fail
            go_region
            go_wp2
            go_roundw
            case rel =>
              exact ⟨i + 1, _, _, by omega, by go_num, HGS.out, HSW.out, HS2.out.drewN 1, HRG2.out.drewN 1, HB2'.out.drew⟩
            case measure => simp [intOf]; omega
        · by_cases hi1 : i < n
          · have hin' : (i : Int) < (n : Int) := by omega
            have hin3 : ¬ (i : Int) < (N : Int) := by omega
            clear hin hi1
            go_wp2
            go_loopw [14, 15, 16, 17] (fun iv _ _ _ wr => ∃ (i t s : Nat), i ≤ n ∧ iv = .int .i64 (i : Int) ∧ Fits f t s L ∧ Ok f t s L ∧ Came t s o i ∧ Row wr g cs 24 ∧ Row wr G (wl f t s L) 35 ∧ Below w.heap.size w wr) (fun iv _ _ _ _ => n - (intOf iv).toNat)
            case atStart => exact ⟨0, F, 0, by omega, rfl, HF1.out, HOK1.out, fun x hx => by simp [Win.seen] at hx, HRW'.out, HRG.out, HBR.out⟩
            case round =>
              obtain ⟨i, t, s, hi, rfl, hF, hK, hC, hrw, hrg, hbr⟩ := hrel
              have HFt := Lib.hid hF
              have HKt := Lib.hid hK
              have HCt := Lib.hid hC
              have HRW3 := Lib.hid hrw
              have HRG3 := Lib.hid hrg
              have HBR3 := Lib.hid hbr
              have hrs3 : w.heap.size ≤ wr.heap.size := hbr.size
              clear hF hK hC hrw hrg hbr
              by_cases hin : i < n
              · have hin' : (i : Int) < (n : Int) := by omega
                have hfirst := ref_first HKt.out HF2.out hn2 (by have := Hf.out; omega) (by have := HL.out; omega) HGO.out hin HCt.out
                have hlo := HGO.out.lo i hin
                obtain ⟨x, hx⟩ : ∃ x, o i = x := ⟨_, rfl⟩
                have HCX := Lib.hid (show ∀ W : World, Row W g cs 24 → W.cell? ⟨g, i, none⟩ = some (.int .u64 (x : Int)) from fun W h => by rw [← hx]; exact h.cell (HNU.out i hin))
                have cx := HCX.out wr HRW3.out
                obtain ⟨q0, q1, q2, q3⟩ := quad HRG3.out
                have hcm := fun h => HCt.out.take (i := i) HFt.out (show ref f t s L (o i) = 0 from h)
                rw [hx] at hfirst hlo hcm
                have hx64 : x < 2 ^ 64 := by have := HF2.out; omega
                clear hx
                rcases hfirst with h0 | ⟨h8, hle, h64⟩
                · have HCT := Lib.hid (hcm h0)
                  have HTK := Lib.hid (fun W : World => Take_ok f t s L x W HFt.out hx64 h0)
                  have HFT := Lib.hid (fits_take HFt.out hx64 h0)
                  have HOT := Lib.hid (ok_take HFt.out h0)
                  have HT2 := Lib.hid (fun W : World => Take_no f (takeT t x) (takeS t s x) L x 7 W HFT.out (ref_again HFt.out h0) (by omega))
                  have HSN : Hid (∀ W : World, Calls Try.prog 25 #[wv f (takeT t x) (takeS t s x) L, .int .u64 (x : Int)] W fun e w' => e = .returned (.bool true) ∧ Below W.heap.size W w') := fun W => by
                    refine (Seen_any f (takeT t x) (takeS t s x) L x W HFT.out.2.1 HFT.out.2.2.1).mono ?_
                    rintro e w' ⟨rfl, rfl⟩
                    rw [seen_self HFt.out h0]
                    exact ⟨rfl, (Below.refl _ _).alloc (Nat.le_refl _) _⟩
                  obtain ⟨T, hT⟩ : ∃ T, takeT t x = T := ⟨_, rfl⟩
                  obtain ⟨S, hS⟩ : ∃ S, takeS t s x = S := ⟨_, rfl⟩
                  rw [hT, hS] at HCT HTK HFT HOT HT2 HSN
                  clear hT hS h0 hcm hlo hx64
                  go_wp2_with fail
                  refine Tail.marksF Win.mixed 10 8 105 Grew [By.is (wv f t s L),
                    By.is (.slice (some ⟨g, 0, none⟩) n cap),
                    By.is (.int .i64 (i : Int)),
                    By.is (.pointer (some ⟨g, i, none⟩)),
                    By.is (.int .u64 (x : Int)),
                    By.is (.tuple #[wv f T S L, .int .i64 0]),
                    By.is (.tuple #[wv f T S L, .int .i64 0]),
                    By.is (wv f T S L),
                    By.is (.int .i64 0),
                    rowS wr.heap.size [.int .u64 0, .int .u64 0, .int .u64 0, .int .u64 0] 35]
                    (Ev.masks _ []) (Nat.zero_lt_succ _) rfl (by kernel_rfl) (by kernel_rfl) rfl Grew.refl Grew.trans ⟨?_, ?_, ?_, ?_, ?_, ?_, ?_, ?_, ?_, ?_, trivial⟩ [_, _, _] (by rfl) ?_ ?_
                  · intro a w ht hs hg -- 98
                    have h8 := By.same_get hs 8 (by decide) (by kernel_rfl)
                    refine By.yes rfl ?_
                    clear hs hg
                    refine wp_loadRow 35 _ rfl h8 (Row.below (w := wr.drew) HRG3.out ht HRG3.out.lt) Try.underlying35 rfl (by kernel_rfl) rfl ?_
                    exact ⟨_, rfl, Grew.refl _, rfl⟩
                  · intro a w ht hs hg -- 99
                    have h10 := By.same_get hs 10 (by decide) (by kernel_rfl)
                    refine By.yes rfl ?_
                    clear hs hg
                    go_simp
                    exact ⟨_, rfl, Grew.refl _, rfl⟩
                  · intro a w ht hs hg -- 100
                    have h14 := By.same_get hs 14 (by decide) (by kernel_rfl)
                    refine By.yes rfl ?_
                    clear hs hg
                    go_simp
                    exact ⟨_, rfl, Grew.refl _, rfl⟩
                  · intro a w ht hs hg -- 101
                    have h99 : a.tmps.getD 99 undef = _ := By.given_get hg 1 rfl rfl (by kernel_rfl)
                    have h100 : a.tmps.getD 100 undef = _ := By.given_get hg 2 rfl rfl (by kernel_rfl)
                    refine By.yes rfl ?_
                    clear hs hg
                    go_simp
                    exact ⟨_, rfl, Grew.refl _, rfl⟩
                  · intro a w ht hs hg -- 102
                    have h101 : a.tmps.getD 101 undef = _ := By.given_get hg 3 rfl rfl (by kernel_rfl)
                    refine By.yes rfl ?_
                    clear hs hg
                    have hc := HCX.out w (Row.below (w := wr.drew) HRW3.out ht HRW3.out.lt)
                    go_simp
                    exact ⟨_, rfl, Grew.refl _, rfl⟩
                  · intro a w ht hs hg -- 103
                    have h98 : a.tmps.getD 98 undef = _ := By.given_get hg 0 rfl rfl (by kernel_rfl)
                    have h102 : a.tmps.getD 102 undef = _ := By.given_get hg 4 rfl rfl (by kernel_rfl)
                    refine By.yes rfl ?_
                    clear hs hg
                    go_simp
                    refine (HTK.out _).mono ?_
                    rintro r w' ⟨rfl, hb⟩
                    exact ⟨_, rfl, hb, rfl⟩
                  · intro a w ht hs hg -- 97
                    have h103 : a.tmps.getD 103 undef = _ := By.given_get hg 5 rfl rfl (by kernel_rfl)
                    refine By.yes rfl ?_
                    clear hs hg
                    go_simp
                    exact ⟨_, rfl, Grew.refl _, rfl⟩
                  · intro a w ht hs hg -- 104
                    have h97 : a.tmps.getD 97 undef = _ := By.given_get hg 6 rfl rfl (by kernel_rfl)
                    refine By.yes rfl ?_
                    clear hs hg
                    go_simp
                    exact ⟨_, rfl, Grew.refl _, rfl⟩
                  · intro a w ht hs hg -- 105
                    have h97 : a.tmps.getD 97 undef = _ := By.given_get hg 6 rfl rfl (by kernel_rfl)
                    refine By.yes rfl ?_
                    clear hs hg
                    go_simp
                    exact ⟨_, rfl, Grew.refl _, rfl⟩
                  · intro a w ht hs hg -- 16
                    refine By.yes rfl ?_
                    clear hs hg
                    have hsz := Below.size ht
                    go_simp
                    exact ⟨_, rfl, (Below.refl _ w).alloc (Nat.le_refl _) _, w.heap.size, rfl, hsz, Row.new rfl rfl⟩
                  · refine By.ends_is (By.ends_is (By.ends_is (By.ends_is (By.ends_is (By.ends_is (By.ends_is (By.ends_is (By.ends_is (By.ends_any fun v16 => (By.ends_nil fun w8 hw8 => ?_))))))))))
                    simp only [Act.put, List.setIfInBounds_toArray, List.set_cons_succ, List.set_cons_zero]
                    simp only [List.drop_succ_cons, List.drop_zero]
                    obtain ⟨hgr, q', rfl, hBq, hq⟩ := hw8
                    have HG8 := Lib.hid (Row.below (w := wr.drew) HRG3.out hgr HRG3.out.lt)
                    have HW8 := Lib.hid (Row.below (w := wr.drew) HRW3.out hgr HRW3.out.lt)
                    have HB8 := Lib.hid (nextB HBR3.out (Nat.le_refl _) (show Below wr.heap.size wr w8 from ⟨hgr.os, hgr.tape, hgr.output, hgr.size, hgr.block⟩))
                    have hGq : G ≠ q' := by have := HRG3.out.lt; omega
                    have hgq : g ≠ q' := by have := HRW3.out.lt; omega
                    have hwq : w.heap.size ≤ q' := by omega
                    have Hq := Lib.hid hq
                    clear hq hgr q0 q1 q2 q3 cx
                    go_wp2_with (first
                      | (show wpList _ _ _ (⟨none, .store 35 (.tmp 16) _, _, _, _, _⟩ :: _) _ _
                         refine wpList_storeRow (n := 4) rfl 35 _ _ rfl rfl rfl (cs := wl f T S L) (old := wl 0 0 0 0) Hq.out (by kernel_rfl) rfl rfl (wl_one _ _ _ _) ?_
                         obtain ⟨V, hV⟩ : ∃ V, w8.setRow q' (wl f T S L).toArray = V := ⟨_, rfl⟩
                         refine wpList_world hV ?_
                         have RGV := Lib.hid (show Row V G (wl f t s L) 35 by rw [← hV]; exact HG8.out.setOther _ _ hGq)
                         have RWV := Lib.hid (show Row V g cs 24 by rw [← hV]; exact HW8.out.setOther _ _ hgq)
                         have RQV := Lib.hid (show Row V q' (wl f T S L) 35 by rw [← hV]; exact Hq.out.setRow _)
                         have HBV := Lib.hid (show Below w.heap.size w V by rw [← hV]; exact below_setRow HB8.out hwq _)
                         obtain ⟨y0, y1, y2, y3⟩ := quad RQV.out
                         have cx2 := HCX.out V RWV.out
                         clear hV)
                      | (show wpList _ _ _ (⟨none, .store 35 (.tmp 8) _, _, _, _, _⟩ :: _) _ _
                         refine wpList_storeRow (n := 4) rfl 35 _ _ rfl rfl rfl (cs := wl f T S L) (old := wl f t s L) RGV.out (by kernel_rfl) rfl rfl (wl_one _ _ _ _) ?_
                         obtain ⟨V2, hV2⟩ : ∃ V2, V.setRow G (wl f T S L).toArray = V2 := ⟨_, rfl⟩
                         refine wpList_world hV2 ?_
                         have RG2 := Lib.hid (show Row V2 G (wl f T S L) 35 by rw [← hV2]; exact RGV.out.setRow _)
                         have RW2 := Lib.hid (show Row V2 g cs 24 by rw [← hV2]; exact RWV.out.setOther _ _ hgG.symm)
                         have HB2 := Lib.hid (show Below w.heap.size w V2 by rw [← hV2]; exact below_setRow HBV.out hwG _)
                         clear hV2 y0 y1 y2 y3 cx2)
                      | fail)
                    refine By.marks Win.mixed Grew [By.is (wv f T S L),
                      By.is (.slice (some ⟨g, 0, none⟩) n cap),
                      By.is (.int .i64 (i : Int)),
                      By.is (.pointer (some ⟨g, i, none⟩)),
                      By.is (.int .u64 (x : Int)),
                      By.is (.tuple #[wv 0 0 0 0, .int .i64 7]),
                      By.is (.tuple #[wv 0 0 0 0, .int .i64 7]),
                      By.is (wv 0 0 0 0),
                      By.is (.int .i64 7),
                      By.is (.int .i64 7)]
                      (Ev.masks _ []) (by kernel_rfl) rfl Grew.refl Grew.trans ⟨?_, ?_, ?_, ?_, ?_, ?_, ?_, ?_, ?_, ?_, trivial⟩ ?_
                    · intro a w ht hs hg -- 125
                      have h8 := By.same_get hs 8 (by decide) (by kernel_rfl)
                      refine By.yes rfl ?_
                      clear hs hg
                      refine wp_loadRow 35 _ rfl h8 (Row.below (w := V2.drew) RG2.out ht RG2.out.lt) Try.underlying35 rfl (by kernel_rfl) rfl ?_
                      exact ⟨_, rfl, Grew.refl _, rfl⟩
                    · intro a w ht hs hg -- 126
                      have h10 := By.same_get hs 10 (by decide) (by kernel_rfl)
                      refine By.yes rfl ?_
                      clear hs hg
                      go_simp
                      exact ⟨_, rfl, Grew.refl _, rfl⟩
                    · intro a w ht hs hg -- 127
                      have h14 := By.same_get hs 14 (by decide) (by kernel_rfl)
                      refine By.yes rfl ?_
                      clear hs hg
                      go_simp
                      exact ⟨_, rfl, Grew.refl _, rfl⟩
                    · intro a w ht hs hg -- 128
                      have h126 : a.tmps.getD 126 undef = _ := By.given_get hg 1 rfl rfl (by kernel_rfl)
                      have h127 : a.tmps.getD 127 undef = _ := By.given_get hg 2 rfl rfl (by kernel_rfl)
                      refine By.yes rfl ?_
                      clear hs hg
                      go_simp
                      exact ⟨_, rfl, Grew.refl _, rfl⟩
                    · intro a w ht hs hg -- 129
                      have h128 : a.tmps.getD 128 undef = _ := By.given_get hg 3 rfl rfl (by kernel_rfl)
                      refine By.yes rfl ?_
                      clear hs hg
                      have hc := HCX.out w (Row.below (w := V2.drew) RW2.out ht RW2.out.lt)
                      go_simp
                      exact ⟨_, rfl, Grew.refl _, rfl⟩
                    · intro a w ht hs hg -- 130
                      have h125 : a.tmps.getD 125 undef = _ := By.given_get hg 0 rfl rfl (by kernel_rfl)
                      have h129 : a.tmps.getD 129 undef = _ := By.given_get hg 4 rfl rfl (by kernel_rfl)
                      refine By.yes rfl ?_
                      clear hs hg
                      go_simp
                      refine (HT2.out _).mono ?_
                      rintro r w' ⟨rfl, hb⟩
                      exact ⟨_, rfl, hb, rfl⟩
                    · intro a w ht hs hg -- 124
                      have h130 : a.tmps.getD 130 undef = _ := By.given_get hg 5 rfl rfl (by kernel_rfl)
                      refine By.yes rfl ?_
                      clear hs hg
                      go_simp
                      exact ⟨_, rfl, Grew.refl _, rfl⟩
                    · intro a w ht hs hg -- 131
                      have h124 : a.tmps.getD 124 undef = _ := By.given_get hg 6 rfl rfl (by kernel_rfl)
                      refine By.yes rfl ?_
                      clear hs hg
                      go_simp
                      exact ⟨_, rfl, Grew.refl _, rfl⟩
                    · intro a w ht hs hg -- 132
                      have h124 : a.tmps.getD 124 undef = _ := By.given_get hg 6 rfl rfl (by kernel_rfl)
                      refine By.yes rfl ?_
                      clear hs hg
                      go_simp
                      exact ⟨_, rfl, Grew.refl _, rfl⟩
                    · intro a w ht hs hg -- 17
                      have h132 : a.tmps.getD 132 undef = _ := By.given_get hg 8 rfl rfl (by kernel_rfl)
                      refine By.yes rfl ?_
                      clear hs hg
                      go_simp
                      exact ⟨_, rfl, Grew.refl _, rfl⟩
                    refine By.ends_is (By.ends_is (By.ends_is (By.ends_is (By.ends_is (By.ends_is (By.ends_is (By.ends_is (By.ends_is (By.ends_is (By.ends_nil fun w9 hw9 => ?_))))))))))
                    simp only [Act.put, List.setIfInBounds_toArray, List.set_cons_succ, List.set_cons_zero]
                    have RG9 := Lib.hid (Row.below (w := V2.drew) RG2.out hw9 RG2.out.lt)
                    have RW9 := Lib.hid (Row.below (w := V2.drew) RW2.out hw9 RW2.out.lt)
                    have HB9 := Lib.hid (nextB HB2.out (Nat.le_refl _) (show Below V2.heap.size V2 w9 from ⟨hw9.os, hw9.tape, hw9.output, hw9.size, hw9.block⟩))
                    clear hw9
                    go_wp2_with fail
                    refine By.marks Win.mixed Grew [By.is (.int .i64 7),
                      By.is (.bool false),
                      By.is (.bool false),
                      By.is (wv f T S L),
                      By.is (.slice (some ⟨g, 0, none⟩) n cap),
                      By.is (.int .i64 (i : Int)),
                      By.is (.pointer (some ⟨g, i, none⟩)),
                      By.is (.int .u64 (x : Int)),
                      By.is (.bool true),
                      By.is (.bool false),
                      By.is (.bool false)]
                      (Ev.masks _ []) (by kernel_rfl) rfl Grew.refl Grew.trans ⟨?_, ?_, ?_, ?_, ?_, ?_, ?_, ?_, ?_, ?_, ?_, trivial⟩ ?_
                    · intro a w ht hs hg -- 133
                      have h17 := By.same_get hs 17 (by decide) (by kernel_rfl)
                      refine By.yes rfl ?_
                      clear hs hg
                      go_simp
                      exact ⟨_, rfl, Grew.refl _, rfl⟩
                    · intro a w ht hs hg -- 134
                      have h133 : a.tmps.getD 133 undef = _ := By.given_get hg 0 rfl rfl (by kernel_rfl)
                      refine By.yes rfl ?_
                      clear hs hg
                      go_simp
                      exact ⟨_, rfl, Grew.refl _, congrArg Value.bool (by simp)⟩
                    · intro a w ht hs hg -- 135
                      have h134 : a.tmps.getD 134 undef = _ := By.given_get hg 1 rfl rfl (by kernel_rfl)
                      refine By.yes rfl ?_
                      clear hs hg
                      go_simp
                      exact ⟨_, rfl, Grew.refl _, rfl⟩
                    · intro a w ht hs hg -- 136
                      have h8 := By.same_get hs 8 (by decide) (by kernel_rfl)
                      have hg135 := By.given_get hg 2 rfl rfl (by kernel_rfl)
                      refine By.yes (By.want_yes rfl rfl hg135) ?_
                      clear hg135
                      clear hs hg
                      refine wp_loadRow 35 _ rfl h8 (Row.below (w := w9.drew) RG9.out ht RG9.out.lt) Try.underlying35 rfl (by kernel_rfl) rfl ?_
                      exact ⟨_, rfl, Grew.refl _, rfl⟩
                    · intro a w ht hs hg -- 137
                      have h10 := By.same_get hs 10 (by decide) (by kernel_rfl)
                      have hg135 := By.given_get hg 2 rfl rfl (by kernel_rfl)
                      refine By.yes (By.want_yes rfl rfl hg135) ?_
                      clear hg135
                      clear hs hg
                      go_simp
                      exact ⟨_, rfl, Grew.refl _, rfl⟩
                    · intro a w ht hs hg -- 138
                      have h14 := By.same_get hs 14 (by decide) (by kernel_rfl)
                      have hg135 := By.given_get hg 2 rfl rfl (by kernel_rfl)
                      refine By.yes (By.want_yes rfl rfl hg135) ?_
                      clear hg135
                      clear hs hg
                      go_simp
                      exact ⟨_, rfl, Grew.refl _, rfl⟩
                    · intro a w ht hs hg -- 139
                      have h137 : a.tmps.getD 137 undef = _ := By.given_get hg 4 rfl rfl (by kernel_rfl)
                      have h138 : a.tmps.getD 138 undef = _ := By.given_get hg 5 rfl rfl (by kernel_rfl)
                      have hg135 := By.given_get hg 2 rfl rfl (by kernel_rfl)
                      refine By.yes (By.want_yes rfl rfl hg135) ?_
                      clear hg135
                      clear hs hg
                      go_simp
                      exact ⟨_, rfl, Grew.refl _, rfl⟩
                    · intro a w ht hs hg -- 140
                      have h139 : a.tmps.getD 139 undef = _ := By.given_get hg 6 rfl rfl (by kernel_rfl)
                      have hg135 := By.given_get hg 2 rfl rfl (by kernel_rfl)
                      refine By.yes (By.want_yes rfl rfl hg135) ?_
                      clear hg135
                      clear hs hg
                      have hc := HCX.out w (Row.below (w := w9.drew) RW9.out ht RW9.out.lt)
                      go_simp
                      exact ⟨_, rfl, Grew.refl _, rfl⟩
                    · intro a w ht hs hg -- 141
                      have h136 : a.tmps.getD 136 undef = _ := By.given_get hg 3 rfl rfl (by kernel_rfl)
                      have h140 : a.tmps.getD 140 undef = _ := By.given_get hg 7 rfl rfl (by kernel_rfl)
                      have hg135 := By.given_get hg 2 rfl rfl (by kernel_rfl)
                      refine By.yes (By.want_yes rfl rfl hg135) ?_
                      clear hg135
                      clear hs hg
                      go_simp
                      refine (HSN.out _).mono ?_
                      rintro r w' ⟨rfl, hb⟩
                      exact ⟨_, rfl, hb, rfl⟩
                    · intro a w ht hs hg -- 142
                      have h141 : a.tmps.getD 141 undef = _ := By.given_get hg 8 rfl rfl (by kernel_rfl)
                      have hg135 := By.given_get hg 2 rfl rfl (by kernel_rfl)
                      refine By.yes (By.want_yes rfl rfl hg135) ?_
                      clear hg135
                      clear hs hg
                      go_simp
                      exact ⟨_, rfl, Grew.refl _, congrArg Value.bool (by simp)⟩
                    · intro a w ht hs hg -- 143
                      have h135 : a.tmps.getD 135 undef = _ := By.given_get hg 2 rfl rfl (by kernel_rfl)
                      have h142 : a.tmps.getD 142 undef = _ := By.given_get hg 9 rfl rfl (by kernel_rfl)
                      refine By.yes rfl ?_
                      clear hs hg
                      go_simp
                      exact ⟨_, rfl, Grew.refl _, rfl⟩
                    refine By.ends_is (By.ends_is (By.ends_is (By.ends_is (By.ends_is (By.ends_is (By.ends_is (By.ends_is (By.ends_is (By.ends_is (By.ends_is (By.ends_nil fun w10 hw10 => ?_)))))))))))
                    simp only [Act.put, List.setIfInBounds_toArray, List.set_cons_succ, List.set_cons_zero]
                    have RG10 := Lib.hid (Row.below (w := w9.drew) RG9.out hw10 RG9.out.lt)
                    have RW10 := Lib.hid (Row.below (w := w9.drew) RW9.out hw10 RW9.out.lt)
                    have HB10 := Lib.hid (nextB HB9.out (Nat.le_refl _) (show Below w9.heap.size w9 w10 from ⟨hw10.os, hw10.tape, hw10.output, hw10.size, hw10.block⟩))
                    clear hw10
                    go_wp2
                    go_roundw
                    case rel =>
                      exact ⟨i + 1, T, S, by omega, by go_num, HFT.out, HOT.out, HCT.out, RW10.out, RG10.out, HB10.out⟩
                    case measure => simp [intOf]; omega
                  · refine By.ends_is (By.ends_is (By.ends_is (By.ends_is (By.ends_is (By.ends_is (By.ends_is (By.ends_is (By.ends_is (By.ends_any fun v16 => (By.ends_nil fun w8 hw8 => ?_))))))))))
                    simp only [Act.put, List.setIfInBounds_toArray, List.set_cons_succ, List.set_cons_zero]
                    obtain ⟨hgr, q', rfl, hBq, hq⟩ := hw8
                    have HG8 := Lib.hid (Row.below (w := wr.drew) HRG3.out hgr HRG3.out.lt)
                    have HW8 := Lib.hid (Row.below (w := wr.drew) HRW3.out hgr HRW3.out.lt)
                    have HB8 := Lib.hid (nextB HBR3.out (Nat.le_refl _) (show Below wr.heap.size wr w8 from ⟨hgr.os, hgr.tape, hgr.output, hgr.size, hgr.block⟩))
                    have hGq : G ≠ q' := by have := HRG3.out.lt; omega
                    have hgq : g ≠ q' := by have := HRW3.out.lt; omega
                    have hwq : w.heap.size ≤ q' := by omega
                    have Hq := Lib.hid hq
                    clear hq hgr q0 q1 q2 q3 cx
                    go_wp2_with (first
                      | (show wpList _ _ _ (⟨none, .store 35 (.tmp 16) _, _, _, _, _⟩ :: _) _ _
                         refine wpList_storeRow (n := 4) rfl 35 _ _ rfl rfl rfl (cs := wl f T S L) (old := wl 0 0 0 0) Hq.out (by kernel_rfl) rfl rfl (wl_one _ _ _ _) ?_
                         obtain ⟨V, hV⟩ : ∃ V, w8.setRow q' (wl f T S L).toArray = V := ⟨_, rfl⟩
                         refine wpList_world hV ?_
                         have RGV := Lib.hid (show Row V G (wl f t s L) 35 by rw [← hV]; exact HG8.out.setOther _ _ hGq)
                         have RWV := Lib.hid (show Row V g cs 24 by rw [← hV]; exact HW8.out.setOther _ _ hgq)
                         have RQV := Lib.hid (show Row V q' (wl f T S L) 35 by rw [← hV]; exact Hq.out.setRow _)
                         have HBV := Lib.hid (show Below w.heap.size w V by rw [← hV]; exact below_setRow HB8.out hwq _)
                         obtain ⟨y0, y1, y2, y3⟩ := quad RQV.out
                         have cx2 := HCX.out V RWV.out
                         clear hV)
                      | (show wpList _ _ _ (⟨none, .store 35 (.tmp 8) _, _, _, _, _⟩ :: _) _ _
                         refine wpList_storeRow (n := 4) rfl 35 _ _ rfl rfl rfl (cs := wl f T S L) (old := wl f t s L) RGV.out (by kernel_rfl) rfl rfl (wl_one _ _ _ _) ?_
                         obtain ⟨V2, hV2⟩ : ∃ V2, V.setRow G (wl f T S L).toArray = V2 := ⟨_, rfl⟩
                         refine wpList_world hV2 ?_
                         have RG2 := Lib.hid (show Row V2 G (wl f T S L) 35 by rw [← hV2]; exact RGV.out.setRow _)
                         have RW2 := Lib.hid (show Row V2 g cs 24 by rw [← hV2]; exact RWV.out.setOther _ _ hgG.symm)
                         have HB2 := Lib.hid (show Below w.heap.size w V2 by rw [← hV2]; exact below_setRow HBV.out hwG _)
                         clear hV2 y0 y1 y2 y3 cx2)
                      | fail)
                    refine By.marks Win.mixed Grew [By.is (wv f T S L),
                      By.is (.slice (some ⟨g, 0, none⟩) n cap),
                      By.is (.int .i64 (i : Int)),
                      By.is (.pointer (some ⟨g, i, none⟩)),
                      By.is (.int .u64 (x : Int)),
                      By.is (.tuple #[wv 0 0 0 0, .int .i64 7]),
                      By.is (.tuple #[wv 0 0 0 0, .int .i64 7]),
                      By.is (wv 0 0 0 0),
                      By.is (.int .i64 7),
                      By.is (.int .i64 7)]
                      (Ev.masks _ []) (by kernel_rfl) rfl Grew.refl Grew.trans ⟨?_, ?_, ?_, ?_, ?_, ?_, ?_, ?_, ?_, ?_, trivial⟩ ?_
                    · intro a w ht hs hg -- 125
                      have h8 := By.same_get hs 8 (by decide) (by kernel_rfl)
                      refine By.yes rfl ?_
                      clear hs hg
                      refine wp_loadRow 35 _ rfl h8 (Row.below (w := V2.drew) RG2.out ht RG2.out.lt) Try.underlying35 rfl (by kernel_rfl) rfl ?_
                      exact ⟨_, rfl, Grew.refl _, rfl⟩
                    · intro a w ht hs hg -- 126
                      have h10 := By.same_get hs 10 (by decide) (by kernel_rfl)
                      refine By.yes rfl ?_
                      clear hs hg
                      go_simp
                      exact ⟨_, rfl, Grew.refl _, rfl⟩
                    · intro a w ht hs hg -- 127
                      have h14 := By.same_get hs 14 (by decide) (by kernel_rfl)
                      refine By.yes rfl ?_
                      clear hs hg
                      go_simp
                      exact ⟨_, rfl, Grew.refl _, rfl⟩
                    · intro a w ht hs hg -- 128
                      have h126 : a.tmps.getD 126 undef = _ := By.given_get hg 1 rfl rfl (by kernel_rfl)
                      have h127 : a.tmps.getD 127 undef = _ := By.given_get hg 2 rfl rfl (by kernel_rfl)
                      refine By.yes rfl ?_
                      clear hs hg
                      go_simp
                      exact ⟨_, rfl, Grew.refl _, rfl⟩
                    · intro a w ht hs hg -- 129
                      have h128 : a.tmps.getD 128 undef = _ := By.given_get hg 3 rfl rfl (by kernel_rfl)
                      refine By.yes rfl ?_
                      clear hs hg
                      have hc := HCX.out w (Row.below (w := V2.drew) RW2.out ht RW2.out.lt)
                      go_simp
                      exact ⟨_, rfl, Grew.refl _, rfl⟩
                    · intro a w ht hs hg -- 130
                      have h125 : a.tmps.getD 125 undef = _ := By.given_get hg 0 rfl rfl (by kernel_rfl)
                      have h129 : a.tmps.getD 129 undef = _ := By.given_get hg 4 rfl rfl (by kernel_rfl)
                      refine By.yes rfl ?_
                      clear hs hg
                      go_simp
                      refine (HT2.out _).mono ?_
                      rintro r w' ⟨rfl, hb⟩
                      exact ⟨_, rfl, hb, rfl⟩
                    · intro a w ht hs hg -- 124
                      have h130 : a.tmps.getD 130 undef = _ := By.given_get hg 5 rfl rfl (by kernel_rfl)
                      refine By.yes rfl ?_
                      clear hs hg
                      go_simp
                      exact ⟨_, rfl, Grew.refl _, rfl⟩
                    · intro a w ht hs hg -- 131
                      have h124 : a.tmps.getD 124 undef = _ := By.given_get hg 6 rfl rfl (by kernel_rfl)
                      refine By.yes rfl ?_
                      clear hs hg
                      go_simp
                      exact ⟨_, rfl, Grew.refl _, rfl⟩
                    · intro a w ht hs hg -- 132
                      have h124 : a.tmps.getD 124 undef = _ := By.given_get hg 6 rfl rfl (by kernel_rfl)
                      refine By.yes rfl ?_
                      clear hs hg
                      go_simp
                      exact ⟨_, rfl, Grew.refl _, rfl⟩
                    · intro a w ht hs hg -- 17
                      have h132 : a.tmps.getD 132 undef = _ := By.given_get hg 8 rfl rfl (by kernel_rfl)
                      refine By.yes rfl ?_
                      clear hs hg
                      go_simp
                      exact ⟨_, rfl, Grew.refl _, rfl⟩
                    refine By.ends_is (By.ends_is (By.ends_is (By.ends_is (By.ends_is (By.ends_is (By.ends_is (By.ends_is (By.ends_is (By.ends_is (By.ends_nil fun w9 hw9 => ?_))))))))))
                    simp only [Act.put, List.setIfInBounds_toArray, List.set_cons_succ, List.set_cons_zero]
                    have RG9 := Lib.hid (Row.below (w := V2.drew) RG2.out hw9 RG2.out.lt)
                    have RW9 := Lib.hid (Row.below (w := V2.drew) RW2.out hw9 RW2.out.lt)
                    have HB9 := Lib.hid (nextB HB2.out (Nat.le_refl _) (show Below V2.heap.size V2 w9 from ⟨hw9.os, hw9.tape, hw9.output, hw9.size, hw9.block⟩))
                    clear hw9
                    go_wp2_with fail
                    refine By.marks Win.mixed Grew [By.is (.int .i64 7),
                      By.is (.bool false),
                      By.is (.bool false),
                      By.is (wv f T S L),
                      By.is (.slice (some ⟨g, 0, none⟩) n cap),
                      By.is (.int .i64 (i : Int)),
                      By.is (.pointer (some ⟨g, i, none⟩)),
                      By.is (.int .u64 (x : Int)),
                      By.is (.bool true),
                      By.is (.bool false),
                      By.is (.bool false)]
                      (Ev.masks _ []) (by kernel_rfl) rfl Grew.refl Grew.trans ⟨?_, ?_, ?_, ?_, ?_, ?_, ?_, ?_, ?_, ?_, ?_, trivial⟩ ?_
                    · intro a w ht hs hg -- 133
                      have h17 := By.same_get hs 17 (by decide) (by kernel_rfl)
                      refine By.yes rfl ?_
                      clear hs hg
                      go_simp
                      exact ⟨_, rfl, Grew.refl _, rfl⟩
                    · intro a w ht hs hg -- 134
                      have h133 : a.tmps.getD 133 undef = _ := By.given_get hg 0 rfl rfl (by kernel_rfl)
                      refine By.yes rfl ?_
                      clear hs hg
                      go_simp
                      exact ⟨_, rfl, Grew.refl _, congrArg Value.bool (by simp)⟩
                    · intro a w ht hs hg -- 135
                      have h134 : a.tmps.getD 134 undef = _ := By.given_get hg 1 rfl rfl (by kernel_rfl)
                      refine By.yes rfl ?_
                      clear hs hg
                      go_simp
                      exact ⟨_, rfl, Grew.refl _, rfl⟩
                    · intro a w ht hs hg -- 136
                      have h8 := By.same_get hs 8 (by decide) (by kernel_rfl)
                      have hg135 := By.given_get hg 2 rfl rfl (by kernel_rfl)
                      refine By.yes (By.want_yes rfl rfl hg135) ?_
                      clear hg135
                      clear hs hg
                      refine wp_loadRow 35 _ rfl h8 (Row.below (w := w9.drew) RG9.out ht RG9.out.lt) Try.underlying35 rfl (by kernel_rfl) rfl ?_
                      exact ⟨_, rfl, Grew.refl _, rfl⟩
                    · intro a w ht hs hg -- 137
                      have h10 := By.same_get hs 10 (by decide) (by kernel_rfl)
                      have hg135 := By.given_get hg 2 rfl rfl (by kernel_rfl)
                      refine By.yes (By.want_yes rfl rfl hg135) ?_
                      clear hg135
                      clear hs hg
                      go_simp
                      exact ⟨_, rfl, Grew.refl _, rfl⟩
                    · intro a w ht hs hg -- 138
                      have h14 := By.same_get hs 14 (by decide) (by kernel_rfl)
                      have hg135 := By.given_get hg 2 rfl rfl (by kernel_rfl)
                      refine By.yes (By.want_yes rfl rfl hg135) ?_
                      clear hg135
                      clear hs hg
                      go_simp
                      exact ⟨_, rfl, Grew.refl _, rfl⟩
                    · intro a w ht hs hg -- 139
                      have h137 : a.tmps.getD 137 undef = _ := By.given_get hg 4 rfl rfl (by kernel_rfl)
                      have h138 : a.tmps.getD 138 undef = _ := By.given_get hg 5 rfl rfl (by kernel_rfl)
                      have hg135 := By.given_get hg 2 rfl rfl (by kernel_rfl)
                      refine By.yes (By.want_yes rfl rfl hg135) ?_
                      clear hg135
                      clear hs hg
                      go_simp
                      exact ⟨_, rfl, Grew.refl _, rfl⟩
                    · intro a w ht hs hg -- 140
                      have h139 : a.tmps.getD 139 undef = _ := By.given_get hg 6 rfl rfl (by kernel_rfl)
                      have hg135 := By.given_get hg 2 rfl rfl (by kernel_rfl)
                      refine By.yes (By.want_yes rfl rfl hg135) ?_
                      clear hg135
                      clear hs hg
                      have hc := HCX.out w (Row.below (w := w9.drew) RW9.out ht RW9.out.lt)
                      go_simp
                      exact ⟨_, rfl, Grew.refl _, rfl⟩
                    · intro a w ht hs hg -- 141
                      have h136 : a.tmps.getD 136 undef = _ := By.given_get hg 3 rfl rfl (by kernel_rfl)
                      have h140 : a.tmps.getD 140 undef = _ := By.given_get hg 7 rfl rfl (by kernel_rfl)
                      have hg135 := By.given_get hg 2 rfl rfl (by kernel_rfl)
                      refine By.yes (By.want_yes rfl rfl hg135) ?_
                      clear hg135
                      clear hs hg
                      go_simp
                      refine (HSN.out _).mono ?_
                      rintro r w' ⟨rfl, hb⟩
                      exact ⟨_, rfl, hb, rfl⟩
                    · intro a w ht hs hg -- 142
                      have h141 : a.tmps.getD 141 undef = _ := By.given_get hg 8 rfl rfl (by kernel_rfl)
                      have hg135 := By.given_get hg 2 rfl rfl (by kernel_rfl)
                      refine By.yes (By.want_yes rfl rfl hg135) ?_
                      clear hg135
                      clear hs hg
                      go_simp
                      exact ⟨_, rfl, Grew.refl _, congrArg Value.bool (by simp)⟩
                    · intro a w ht hs hg -- 143
                      have h135 : a.tmps.getD 135 undef = _ := By.given_get hg 2 rfl rfl (by kernel_rfl)
                      have h142 : a.tmps.getD 142 undef = _ := By.given_get hg 9 rfl rfl (by kernel_rfl)
                      refine By.yes rfl ?_
                      clear hs hg
                      go_simp
                      exact ⟨_, rfl, Grew.refl _, rfl⟩
                    refine By.ends_is (By.ends_is (By.ends_is (By.ends_is (By.ends_is (By.ends_is (By.ends_is (By.ends_is (By.ends_is (By.ends_is (By.ends_is (By.ends_nil fun w10 hw10 => ?_)))))))))))
                    simp only [Act.put, List.setIfInBounds_toArray, List.set_cons_succ, List.set_cons_zero]
                    have RG10 := Lib.hid (Row.below (w := w9.drew) RG9.out hw10 RG9.out.lt)
                    have RW10 := Lib.hid (Row.below (w := w9.drew) RW9.out hw10 RW9.out.lt)
                    have HB10 := Lib.hid (nextB HB9.out (Nat.le_refl _) (show Below w9.heap.size w9 w10 from ⟨hw10.os, hw10.tape, hw10.output, hw10.size, hw10.block⟩))
                    clear hw10
                    go_wp2
                    go_roundw
                    case rel =>
                      exact ⟨i + 1, T, S, by omega, by go_num, HFT.out, HOT.out, HCT.out, RW10.out, RG10.out, HB10.out⟩
                    case measure => simp [intOf]; omega
                · have HTK := Lib.hid (fun W : World => Take_no f t s L x 8 W HFt.out h8 (by omega))
                  have g1 : ¬ (t : Int) < (x : Int) := by omega
                  have g2 : decide (t < x) = false := by rw [decide_eq_false_iff_not]; omega
                  obtain ⟨d, hd⟩ : ∃ d : Int, ((t - x : Nat) : Int) = d := ⟨_, rfl⟩
                  have g3 : IntKind.u64.wrap ((t : Int) - (x : Int)) = d := by have := HFt.out.2.1; rw [wrap_in _ (by omega) (by omega)]; omega
                  have g4 : ¬ d < 64 := by omega
                  clear hcm hlo hx64 h8 hle h64 hd
                  go_wp2_with fail
                  refine Tail.marksF Win.mixed 10 8 105 Grew [By.is (wv f t s L),
                    By.is (.slice (some ⟨g, 0, none⟩) n cap),
                    By.is (.int .i64 (i : Int)),
                    By.is (.pointer (some ⟨g, i, none⟩)),
                    By.is (.int .u64 (x : Int)),
                    By.is (.tuple #[wv 0 0 0 0, .int .i64 8]),
                    By.is (.tuple #[wv 0 0 0 0, .int .i64 8]),
                    By.is (wv 0 0 0 0),
                    By.is (.int .i64 8),
                    rowS wr.heap.size [.int .u64 0, .int .u64 0, .int .u64 0, .int .u64 0] 35]
                    (Ev.masks _ []) (Nat.zero_lt_succ _) rfl (by kernel_rfl) (by kernel_rfl) rfl Grew.refl Grew.trans ⟨?_, ?_, ?_, ?_, ?_, ?_, ?_, ?_, ?_, ?_, trivial⟩ [_, _, _] (by rfl) ?_ ?_
                  · intro a w ht hs hg -- 98
                    have h8 := By.same_get hs 8 (by decide) (by kernel_rfl)
                    refine By.yes rfl ?_
                    clear hs hg
                    refine wp_loadRow 35 _ rfl h8 (Row.below (w := wr.drew) HRG3.out ht HRG3.out.lt) Try.underlying35 rfl (by kernel_rfl) rfl ?_
                    exact ⟨_, rfl, Grew.refl _, rfl⟩
                  · intro a w ht hs hg -- 99
                    have h10 := By.same_get hs 10 (by decide) (by kernel_rfl)
                    refine By.yes rfl ?_
                    clear hs hg
                    go_simp
                    exact ⟨_, rfl, Grew.refl _, rfl⟩
                  · intro a w ht hs hg -- 100
                    have h14 := By.same_get hs 14 (by decide) (by kernel_rfl)
                    refine By.yes rfl ?_
                    clear hs hg
                    go_simp
                    exact ⟨_, rfl, Grew.refl _, rfl⟩
                  · intro a w ht hs hg -- 101
                    have h99 : a.tmps.getD 99 undef = _ := By.given_get hg 1 rfl rfl (by kernel_rfl)
                    have h100 : a.tmps.getD 100 undef = _ := By.given_get hg 2 rfl rfl (by kernel_rfl)
                    refine By.yes rfl ?_
                    clear hs hg
                    go_simp
                    exact ⟨_, rfl, Grew.refl _, rfl⟩
                  · intro a w ht hs hg -- 102
                    have h101 : a.tmps.getD 101 undef = _ := By.given_get hg 3 rfl rfl (by kernel_rfl)
                    refine By.yes rfl ?_
                    clear hs hg
                    have hc := HCX.out w (Row.below (w := wr.drew) HRW3.out ht HRW3.out.lt)
                    go_simp
                    exact ⟨_, rfl, Grew.refl _, rfl⟩
                  · intro a w ht hs hg -- 103
                    have h98 : a.tmps.getD 98 undef = _ := By.given_get hg 0 rfl rfl (by kernel_rfl)
                    have h102 : a.tmps.getD 102 undef = _ := By.given_get hg 4 rfl rfl (by kernel_rfl)
                    refine By.yes rfl ?_
                    clear hs hg
                    go_simp
                    refine (HTK.out _).mono ?_
                    rintro r w' ⟨rfl, hb⟩
                    exact ⟨_, rfl, hb, rfl⟩
                  · intro a w ht hs hg -- 97
                    have h103 : a.tmps.getD 103 undef = _ := By.given_get hg 5 rfl rfl (by kernel_rfl)
                    refine By.yes rfl ?_
                    clear hs hg
                    go_simp
                    exact ⟨_, rfl, Grew.refl _, rfl⟩
                  · intro a w ht hs hg -- 104
                    have h97 : a.tmps.getD 97 undef = _ := By.given_get hg 6 rfl rfl (by kernel_rfl)
                    refine By.yes rfl ?_
                    clear hs hg
                    go_simp
                    exact ⟨_, rfl, Grew.refl _, rfl⟩
                  · intro a w ht hs hg -- 105
                    have h97 : a.tmps.getD 97 undef = _ := By.given_get hg 6 rfl rfl (by kernel_rfl)
                    refine By.yes rfl ?_
                    clear hs hg
                    go_simp
                    exact ⟨_, rfl, Grew.refl _, rfl⟩
                  · intro a w ht hs hg -- 16
                    refine By.yes rfl ?_
                    clear hs hg
                    have hsz := Below.size ht
                    go_simp
                    exact ⟨_, rfl, (Below.refl _ w).alloc (Nat.le_refl _) _, w.heap.size, rfl, hsz, Row.new rfl rfl⟩
                  · refine By.ends_is (By.ends_is (By.ends_is (By.ends_is (By.ends_is (By.ends_is (By.ends_is (By.ends_is (By.ends_is (By.ends_any fun v16 => (By.ends_nil fun w8 hw8 => ?_))))))))))
                    simp only [Act.put, List.setIfInBounds_toArray, List.set_cons_succ, List.set_cons_zero]
                    simp only [List.drop_succ_cons, List.drop_zero]
                    obtain ⟨hgr, q', rfl, hBq, hq⟩ := hw8
                    have HG8 := Lib.hid (Row.below (w := wr.drew) HRG3.out hgr HRG3.out.lt)
                    have HW8 := Lib.hid (Row.below (w := wr.drew) HRW3.out hgr HRW3.out.lt)
                    have HB8 := Lib.hid (nextB HBR3.out (Nat.le_refl _) (show Below wr.heap.size wr w8 from ⟨hgr.os, hgr.tape, hgr.output, hgr.size, hgr.block⟩))
                    have hGq : G ≠ q' := by have := HRG3.out.lt; omega
                    have hgq : g ≠ q' := by have := HRW3.out.lt; omega
                    have hwq : w.heap.size ≤ q' := by omega
                    have Hq := Lib.hid hq
                    clear hq hgr q0 q1 q2 q3 cx
                    go_wp2_with (first
                      | (show wpList _ _ _ (⟨none, .store 35 (.tmp 16) _, _, _, _, _⟩ :: _) _ _
                         refine wpList_storeRow (n := 4) rfl 35 _ _ rfl rfl rfl (cs := wl 0 0 0 0) (old := wl 0 0 0 0) Hq.out (by kernel_rfl) rfl rfl (wl_one _ _ _ _) ?_
                         obtain ⟨V, hV⟩ : ∃ V, w8.setRow q' (wl 0 0 0 0).toArray = V := ⟨_, rfl⟩
                         refine wpList_world hV ?_
                         have RGV := Lib.hid (show Row V G (wl f t s L) 35 by rw [← hV]; exact HG8.out.setOther _ _ hGq)
                         have RWV := Lib.hid (show Row V g cs 24 by rw [← hV]; exact HW8.out.setOther _ _ hgq)
                         have RQV := Lib.hid (show Row V q' (wl 0 0 0 0) 35 by rw [← hV]; exact Hq.out.setRow _)
                         have HBV := Lib.hid (show Below w.heap.size w V by rw [← hV]; exact below_setRow HB8.out hwq _)
                         obtain ⟨y0, y1, y2, y3⟩ := quad RQV.out
                         have cx2 := HCX.out V RWV.out
                         clear hV)
                      | fail)
                    go_roundw
                    case rel =>
                      exact ⟨i + 1, t, s, by omega, by go_num, HFt.out, HKt.out, HCt.out.more, RWV.out, RGV.out, HBV.out⟩
                    case measure => simp [intOf]; omega
                  · refine By.ends_is (By.ends_is (By.ends_is (By.ends_is (By.ends_is (By.ends_is (By.ends_is (By.ends_is (By.ends_is (By.ends_any fun v16 => (By.ends_nil fun w8 hw8 => ?_))))))))))
                    simp only [Act.put, List.setIfInBounds_toArray, List.set_cons_succ, List.set_cons_zero]
                    obtain ⟨hgr, q', rfl, hBq, hq⟩ := hw8
                    have HG8 := Lib.hid (Row.below (w := wr.drew) HRG3.out hgr HRG3.out.lt)
                    have HW8 := Lib.hid (Row.below (w := wr.drew) HRW3.out hgr HRW3.out.lt)
                    have HB8 := Lib.hid (nextB HBR3.out (Nat.le_refl _) (show Below wr.heap.size wr w8 from ⟨hgr.os, hgr.tape, hgr.output, hgr.size, hgr.block⟩))
                    have hGq : G ≠ q' := by have := HRG3.out.lt; omega
                    have hgq : g ≠ q' := by have := HRW3.out.lt; omega
                    have hwq : w.heap.size ≤ q' := by omega
                    have Hq := Lib.hid hq
                    clear hq hgr q0 q1 q2 q3 cx
                    go_wp2_with (first
                      | (show wpList _ _ _ (⟨none, .store 35 (.tmp 16) _, _, _, _, _⟩ :: _) _ _
                         refine wpList_storeRow (n := 4) rfl 35 _ _ rfl rfl rfl (cs := wl 0 0 0 0) (old := wl 0 0 0 0) Hq.out (by kernel_rfl) rfl rfl (wl_one _ _ _ _) ?_
                         obtain ⟨V, hV⟩ : ∃ V, w8.setRow q' (wl 0 0 0 0).toArray = V := ⟨_, rfl⟩
                         refine wpList_world hV ?_
                         have RGV := Lib.hid (show Row V G (wl f t s L) 35 by rw [← hV]; exact HG8.out.setOther _ _ hGq)
                         have RWV := Lib.hid (show Row V g cs 24 by rw [← hV]; exact HW8.out.setOther _ _ hgq)
                         have RQV := Lib.hid (show Row V q' (wl 0 0 0 0) 35 by rw [← hV]; exact Hq.out.setRow _)
                         have HBV := Lib.hid (show Below w.heap.size w V by rw [← hV]; exact below_setRow HB8.out hwq _)
                         obtain ⟨y0, y1, y2, y3⟩ := quad RQV.out
                         have cx2 := HCX.out V RWV.out
                         clear hV)
                      | fail)
                    go_roundw
                    case rel =>
                      exact ⟨i + 1, t, s, by omega, by go_num, HFt.out, HKt.out, HCt.out.more, RWV.out, RGV.out, HBV.out⟩
                    case measure => simp [intOf]; omega
              · have hin' : ¬ (i : Int) < (n : Int) := by omega
                go_wp2
                go_ret
                exact ⟨rfl, HBR3.out⟩
          · have hin' : ¬ (i : Int) < (n : Int) := by omega
            clear hin hi1
            go_wp2
            go_loopw [14, 15, 16, 17] (fun iv _ _ _ wr => ∃ (i t s : Nat), i ≤ n ∧ iv = .int .i64 (i : Int) ∧ Fits f t s L ∧ Ok f t s L ∧ Came t s o i ∧ Row wr g cs 24 ∧ Row wr G (wl f t s L) 35 ∧ Below w.heap.size w wr) (fun iv _ _ _ _ => n - (intOf iv).toNat)
            case atStart => exact ⟨0, F, 0, by omega, rfl, HF1.out, HOK1.out, fun x hx => by simp [Win.seen] at hx, HRW'.out, HRG.out, HBR.out⟩
            case round =>
              obtain ⟨i, t, s, hi, rfl, hF, hK, hC, hrw, hrg, hbr⟩ := hrel
              have HFt := Lib.hid hF
              have HKt := Lib.hid hK
              have HCt := Lib.hid hC
              have HRW3 := Lib.hid hrw
              have HRG3 := Lib.hid hrg
              have HBR3 := Lib.hid hbr
              have hrs3 : w.heap.size ≤ wr.heap.size := hbr.size
              clear hF hK hC hrw hrg hbr
              by_cases hin : i < n
              · have hin' : (i : Int) < (n : Int) := by omega
                have hfirst := ref_first HKt.out HF2.out hn2 (by have := Hf.out; omega) (by have := HL.out; omega) HGO.out hin HCt.out
                have hlo := HGO.out.lo i hin
                obtain ⟨x, hx⟩ : ∃ x, o i = x := ⟨_, rfl⟩
                have HCX := Lib.hid (show ∀ W : World, Row W g cs 24 → W.cell? ⟨g, i, none⟩ = some (.int .u64 (x : Int)) from fun W h => by rw [← hx]; exact h.cell (HNU.out i hin))
                have cx := HCX.out wr HRW3.out
                obtain ⟨q0, q1, q2, q3⟩ := quad HRG3.out
                have hcm := fun h => HCt.out.take (i := i) HFt.out (show ref f t s L (o i) = 0 from h)
                rw [hx] at hfirst hlo hcm
                have hx64 : x < 2 ^ 64 := by have := HF2.out; omega
                clear hx
                rcases hfirst with h0 | ⟨h8, hle, h64⟩
                · have HCT := Lib.hid (hcm h0)
                  have HTK := Lib.hid (fun W : World => Take_ok f t s L x W HFt.out hx64 h0)
                  have HFT := Lib.hid (fits_take HFt.out hx64 h0)
                  have HOT := Lib.hid (ok_take HFt.out h0)
                  have HT2 := Lib.hid (fun W : World => Take_no f (takeT t x) (takeS t s x) L x 7 W HFT.out (ref_again HFt.out h0) (by omega))
                  have HSN : Hid (∀ W : World, Calls Try.prog 25 #[wv f (takeT t x) (takeS t s x) L, .int .u64 (x : Int)] W fun e w' => e = .returned (.bool true) ∧ Below W.heap.size W w') := fun W => by
                    refine (Seen_any f (takeT t x) (takeS t s x) L x W HFT.out.2.1 HFT.out.2.2.1).mono ?_
                    rintro e w' ⟨rfl, rfl⟩
                    rw [seen_self HFt.out h0]
                    exact ⟨rfl, (Below.refl _ _).alloc (Nat.le_refl _) _⟩
                  obtain ⟨T, hT⟩ : ∃ T, takeT t x = T := ⟨_, rfl⟩
                  obtain ⟨S, hS⟩ : ∃ S, takeS t s x = S := ⟨_, rfl⟩
                  rw [hT, hS] at HCT HTK HFT HOT HT2 HSN
                  clear hT hS h0 hcm hlo hx64
                  go_wp2_with fail
                  refine Tail.marksF Win.mixed 10 8 105 Grew [By.is (wv f t s L),
                    By.is (.slice (some ⟨g, 0, none⟩) n cap),
                    By.is (.int .i64 (i : Int)),
                    By.is (.pointer (some ⟨g, i, none⟩)),
                    By.is (.int .u64 (x : Int)),
                    By.is (.tuple #[wv f T S L, .int .i64 0]),
                    By.is (.tuple #[wv f T S L, .int .i64 0]),
                    By.is (wv f T S L),
                    By.is (.int .i64 0),
                    rowS wr.heap.size [.int .u64 0, .int .u64 0, .int .u64 0, .int .u64 0] 35]
                    (Ev.masks _ []) (Nat.zero_lt_succ _) rfl (by kernel_rfl) (by kernel_rfl) rfl Grew.refl Grew.trans ⟨?_, ?_, ?_, ?_, ?_, ?_, ?_, ?_, ?_, ?_, trivial⟩ [_, _, _] (by rfl) ?_ ?_
                  · intro a w ht hs hg -- 98
                    have h8 := By.same_get hs 8 (by decide) (by kernel_rfl)
                    refine By.yes rfl ?_
                    clear hs hg
                    refine wp_loadRow 35 _ rfl h8 (Row.below (w := wr.drew) HRG3.out ht HRG3.out.lt) Try.underlying35 rfl (by kernel_rfl) rfl ?_
                    exact ⟨_, rfl, Grew.refl _, rfl⟩
                  · intro a w ht hs hg -- 99
                    have h10 := By.same_get hs 10 (by decide) (by kernel_rfl)
                    refine By.yes rfl ?_
                    clear hs hg
                    go_simp
                    exact ⟨_, rfl, Grew.refl _, rfl⟩
                  · intro a w ht hs hg -- 100
                    have h14 := By.same_get hs 14 (by decide) (by kernel_rfl)
                    refine By.yes rfl ?_
                    clear hs hg
                    go_simp
                    exact ⟨_, rfl, Grew.refl _, rfl⟩
                  · intro a w ht hs hg -- 101
                    have h99 : a.tmps.getD 99 undef = _ := By.given_get hg 1 rfl rfl (by kernel_rfl)
                    have h100 : a.tmps.getD 100 undef = _ := By.given_get hg 2 rfl rfl (by kernel_rfl)
                    refine By.yes rfl ?_
                    clear hs hg
                    go_simp
                    exact ⟨_, rfl, Grew.refl _, rfl⟩
                  · intro a w ht hs hg -- 102
                    have h101 : a.tmps.getD 101 undef = _ := By.given_get hg 3 rfl rfl (by kernel_rfl)
                    refine By.yes rfl ?_
                    clear hs hg
                    have hc := HCX.out w (Row.below (w := wr.drew) HRW3.out ht HRW3.out.lt)
                    go_simp
                    exact ⟨_, rfl, Grew.refl _, rfl⟩
                  · intro a w ht hs hg -- 103
                    have h98 : a.tmps.getD 98 undef = _ := By.given_get hg 0 rfl rfl (by kernel_rfl)
                    have h102 : a.tmps.getD 102 undef = _ := By.given_get hg 4 rfl rfl (by kernel_rfl)
                    refine By.yes rfl ?_
                    clear hs hg
                    go_simp
                    refine (HTK.out _).mono ?_
                    rintro r w' ⟨rfl, hb⟩
                    exact ⟨_, rfl, hb, rfl⟩
                  · intro a w ht hs hg -- 97
                    have h103 : a.tmps.getD 103 undef = _ := By.given_get hg 5 rfl rfl (by kernel_rfl)
                    refine By.yes rfl ?_
                    clear hs hg
                    go_simp
                    exact ⟨_, rfl, Grew.refl _, rfl⟩
                  · intro a w ht hs hg -- 104
                    have h97 : a.tmps.getD 97 undef = _ := By.given_get hg 6 rfl rfl (by kernel_rfl)
                    refine By.yes rfl ?_
                    clear hs hg
                    go_simp
                    exact ⟨_, rfl, Grew.refl _, rfl⟩
                  · intro a w ht hs hg -- 105
                    have h97 : a.tmps.getD 97 undef = _ := By.given_get hg 6 rfl rfl (by kernel_rfl)
                    refine By.yes rfl ?_
                    clear hs hg
                    go_simp
                    exact ⟨_, rfl, Grew.refl _, rfl⟩
                  · intro a w ht hs hg -- 16
                    refine By.yes rfl ?_
                    clear hs hg
                    have hsz := Below.size ht
                    go_simp
                    exact ⟨_, rfl, (Below.refl _ w).alloc (Nat.le_refl _) _, w.heap.size, rfl, hsz, Row.new rfl rfl⟩
                  · refine By.ends_is (By.ends_is (By.ends_is (By.ends_is (By.ends_is (By.ends_is (By.ends_is (By.ends_is (By.ends_is (By.ends_any fun v16 => (By.ends_nil fun w8 hw8 => ?_))))))))))
                    simp only [Act.put, List.setIfInBounds_toArray, List.set_cons_succ, List.set_cons_zero]
                    simp only [List.drop_succ_cons, List.drop_zero]
                    obtain ⟨hgr, q', rfl, hBq, hq⟩ := hw8
                    have HG8 := Lib.hid (Row.below (w := wr.drew) HRG3.out hgr HRG3.out.lt)
                    have HW8 := Lib.hid (Row.below (w := wr.drew) HRW3.out hgr HRW3.out.lt)
                    have HB8 := Lib.hid (nextB HBR3.out (Nat.le_refl _) (show Below wr.heap.size wr w8 from ⟨hgr.os, hgr.tape, hgr.output, hgr.size, hgr.block⟩))
                    have hGq : G ≠ q' := by have := HRG3.out.lt; omega
                    have hgq : g ≠ q' := by have := HRW3.out.lt; omega
                    have hwq : w.heap.size ≤ q' := by omega
                    have Hq := Lib.hid hq
                    clear hq hgr q0 q1 q2 q3 cx
                    go_wp2_with (first
                      | (show wpList _ _ _ (⟨none, .store 35 (.tmp 16) _, _, _, _, _⟩ :: _) _ _
                         refine wpList_storeRow (n := 4) rfl 35 _ _ rfl rfl rfl (cs := wl f T S L) (old := wl 0 0 0 0) Hq.out (by kernel_rfl) rfl rfl (wl_one _ _ _ _) ?_
                         obtain ⟨V, hV⟩ : ∃ V, w8.setRow q' (wl f T S L).toArray = V := ⟨_, rfl⟩
                         refine wpList_world hV ?_
                         have RGV := Lib.hid (show Row V G (wl f t s L) 35 by rw [← hV]; exact HG8.out.setOther _ _ hGq)
                         have RWV := Lib.hid (show Row V g cs 24 by rw [← hV]; exact HW8.out.setOther _ _ hgq)
                         have RQV := Lib.hid (show Row V q' (wl f T S L) 35 by rw [← hV]; exact Hq.out.setRow _)
                         have HBV := Lib.hid (show Below w.heap.size w V by rw [← hV]; exact below_setRow HB8.out hwq _)
                         obtain ⟨y0, y1, y2, y3⟩ := quad RQV.out
                         have cx2 := HCX.out V RWV.out
                         clear hV)
                      | (show wpList _ _ _ (⟨none, .store 35 (.tmp 8) _, _, _, _, _⟩ :: _) _ _
                         refine wpList_storeRow (n := 4) rfl 35 _ _ rfl rfl rfl (cs := wl f T S L) (old := wl f t s L) RGV.out (by kernel_rfl) rfl rfl (wl_one _ _ _ _) ?_
                         obtain ⟨V2, hV2⟩ : ∃ V2, V.setRow G (wl f T S L).toArray = V2 := ⟨_, rfl⟩
                         refine wpList_world hV2 ?_
                         have RG2 := Lib.hid (show Row V2 G (wl f T S L) 35 by rw [← hV2]; exact RGV.out.setRow _)
                         have RW2 := Lib.hid (show Row V2 g cs 24 by rw [← hV2]; exact RWV.out.setOther _ _ hgG.symm)
                         have HB2 := Lib.hid (show Below w.heap.size w V2 by rw [← hV2]; exact below_setRow HBV.out hwG _)
                         clear hV2 y0 y1 y2 y3 cx2)
                      | fail)
                    refine By.marks Win.mixed Grew [By.is (wv f T S L),
                      By.is (.slice (some ⟨g, 0, none⟩) n cap),
                      By.is (.int .i64 (i : Int)),
                      By.is (.pointer (some ⟨g, i, none⟩)),
                      By.is (.int .u64 (x : Int)),
                      By.is (.tuple #[wv 0 0 0 0, .int .i64 7]),
                      By.is (.tuple #[wv 0 0 0 0, .int .i64 7]),
                      By.is (wv 0 0 0 0),
                      By.is (.int .i64 7),
                      By.is (.int .i64 7)]
                      (Ev.masks _ []) (by kernel_rfl) rfl Grew.refl Grew.trans ⟨?_, ?_, ?_, ?_, ?_, ?_, ?_, ?_, ?_, ?_, trivial⟩ ?_
                    · intro a w ht hs hg -- 125
                      have h8 := By.same_get hs 8 (by decide) (by kernel_rfl)
                      refine By.yes rfl ?_
                      clear hs hg
                      refine wp_loadRow 35 _ rfl h8 (Row.below (w := V2.drew) RG2.out ht RG2.out.lt) Try.underlying35 rfl (by kernel_rfl) rfl ?_
                      exact ⟨_, rfl, Grew.refl _, rfl⟩
                    · intro a w ht hs hg -- 126
                      have h10 := By.same_get hs 10 (by decide) (by kernel_rfl)
                      refine By.yes rfl ?_
                      clear hs hg
                      go_simp
                      exact ⟨_, rfl, Grew.refl _, rfl⟩
                    · intro a w ht hs hg -- 127
                      have h14 := By.same_get hs 14 (by decide) (by kernel_rfl)
                      refine By.yes rfl ?_
                      clear hs hg
                      go_simp
                      exact ⟨_, rfl, Grew.refl _, rfl⟩
                    · intro a w ht hs hg -- 128
                      have h126 : a.tmps.getD 126 undef = _ := By.given_get hg 1 rfl rfl (by kernel_rfl)
                      have h127 : a.tmps.getD 127 undef = _ := By.given_get hg 2 rfl rfl (by kernel_rfl)
                      refine By.yes rfl ?_
                      clear hs hg
                      go_simp
                      exact ⟨_, rfl, Grew.refl _, rfl⟩
                    · intro a w ht hs hg -- 129
                      have h128 : a.tmps.getD 128 undef = _ := By.given_get hg 3 rfl rfl (by kernel_rfl)
                      refine By.yes rfl ?_
                      clear hs hg
                      have hc := HCX.out w (Row.below (w := V2.drew) RW2.out ht RW2.out.lt)
                      go_simp
                      exact ⟨_, rfl, Grew.refl _, rfl⟩
                    · intro a w ht hs hg -- 130
                      have h125 : a.tmps.getD 125 undef = _ := By.given_get hg 0 rfl rfl (by kernel_rfl)
                      have h129 : a.tmps.getD 129 undef = _ := By.given_get hg 4 rfl rfl (by kernel_rfl)
                      refine By.yes rfl ?_
                      clear hs hg
                      go_simp
                      refine (HT2.out _).mono ?_
                      rintro r w' ⟨rfl, hb⟩
                      exact ⟨_, rfl, hb, rfl⟩
                    · intro a w ht hs hg -- 124
                      have h130 : a.tmps.getD 130 undef = _ := By.given_get hg 5 rfl rfl (by kernel_rfl)
                      refine By.yes rfl ?_
                      clear hs hg
                      go_simp
                      exact ⟨_, rfl, Grew.refl _, rfl⟩
                    · intro a w ht hs hg -- 131
                      have h124 : a.tmps.getD 124 undef = _ := By.given_get hg 6 rfl rfl (by kernel_rfl)
                      refine By.yes rfl ?_
                      clear hs hg
                      go_simp
                      exact ⟨_, rfl, Grew.refl _, rfl⟩
                    · intro a w ht hs hg -- 132
                      have h124 : a.tmps.getD 124 undef = _ := By.given_get hg 6 rfl rfl (by kernel_rfl)
                      refine By.yes rfl ?_
                      clear hs hg
                      go_simp
                      exact ⟨_, rfl, Grew.refl _, rfl⟩
                    · intro a w ht hs hg -- 17
                      have h132 : a.tmps.getD 132 undef = _ := By.given_get hg 8 rfl rfl (by kernel_rfl)
                      refine By.yes rfl ?_
                      clear hs hg
                      go_simp
                      exact ⟨_, rfl, Grew.refl _, rfl⟩
                    refine By.ends_is (By.ends_is (By.ends_is (By.ends_is (By.ends_is (By.ends_is (By.ends_is (By.ends_is (By.ends_is (By.ends_is (By.ends_nil fun w9 hw9 => ?_))))))))))
                    simp only [Act.put, List.setIfInBounds_toArray, List.set_cons_succ, List.set_cons_zero]
                    have RG9 := Lib.hid (Row.below (w := V2.drew) RG2.out hw9 RG2.out.lt)
                    have RW9 := Lib.hid (Row.below (w := V2.drew) RW2.out hw9 RW2.out.lt)
                    have HB9 := Lib.hid (nextB HB2.out (Nat.le_refl _) (show Below V2.heap.size V2 w9 from ⟨hw9.os, hw9.tape, hw9.output, hw9.size, hw9.block⟩))
                    clear hw9
                    go_wp2_with fail
                    refine By.marks Win.mixed Grew [By.is (.int .i64 7),
                      By.is (.bool false),
                      By.is (.bool false),
                      By.is (wv f T S L),
                      By.is (.slice (some ⟨g, 0, none⟩) n cap),
                      By.is (.int .i64 (i : Int)),
                      By.is (.pointer (some ⟨g, i, none⟩)),
                      By.is (.int .u64 (x : Int)),
                      By.is (.bool true),
                      By.is (.bool false),
                      By.is (.bool false)]
                      (Ev.masks _ []) (by kernel_rfl) rfl Grew.refl Grew.trans ⟨?_, ?_, ?_, ?_, ?_, ?_, ?_, ?_, ?_, ?_, ?_, trivial⟩ ?_
                    · intro a w ht hs hg -- 133
                      have h17 := By.same_get hs 17 (by decide) (by kernel_rfl)
                      refine By.yes rfl ?_
                      clear hs hg
                      go_simp
                      exact ⟨_, rfl, Grew.refl _, rfl⟩
                    · intro a w ht hs hg -- 134
                      have h133 : a.tmps.getD 133 undef = _ := By.given_get hg 0 rfl rfl (by kernel_rfl)
                      refine By.yes rfl ?_
                      clear hs hg
                      go_simp
                      exact ⟨_, rfl, Grew.refl _, congrArg Value.bool (by simp)⟩
                    · intro a w ht hs hg -- 135
                      have h134 : a.tmps.getD 134 undef = _ := By.given_get hg 1 rfl rfl (by kernel_rfl)
                      refine By.yes rfl ?_
                      clear hs hg
                      go_simp
                      exact ⟨_, rfl, Grew.refl _, rfl⟩
                    · intro a w ht hs hg -- 136
                      have h8 := By.same_get hs 8 (by decide) (by kernel_rfl)
                      have hg135 := By.given_get hg 2 rfl rfl (by kernel_rfl)
                      refine By.yes (By.want_yes rfl rfl hg135) ?_
                      clear hg135
                      clear hs hg
                      refine wp_loadRow 35 _ rfl h8 (Row.below (w := w9.drew) RG9.out ht RG9.out.lt) Try.underlying35 rfl (by kernel_rfl) rfl ?_
                      exact ⟨_, rfl, Grew.refl _, rfl⟩
                    · intro a w ht hs hg -- 137
                      have h10 := By.same_get hs 10 (by decide) (by kernel_rfl)
                      have hg135 := By.given_get hg 2 rfl rfl (by kernel_rfl)
                      refine By.yes (By.want_yes rfl rfl hg135) ?_
                      clear hg135
                      clear hs hg
                      go_simp
                      exact ⟨_, rfl, Grew.refl _, rfl⟩
                    · intro a w ht hs hg -- 138
                      have h14 := By.same_get hs 14 (by decide) (by kernel_rfl)
                      have hg135 := By.given_get hg 2 rfl rfl (by kernel_rfl)
                      refine By.yes (By.want_yes rfl rfl hg135) ?_
                      clear hg135
                      clear hs hg
                      go_simp
                      exact ⟨_, rfl, Grew.refl _, rfl⟩
                    · intro a w ht hs hg -- 139
                      have h137 : a.tmps.getD 137 undef = _ := By.given_get hg 4 rfl rfl (by kernel_rfl)
                      have h138 : a.tmps.getD 138 undef = _ := By.given_get hg 5 rfl rfl (by kernel_rfl)
                      have hg135 := By.given_get hg 2 rfl rfl (by kernel_rfl)
                      refine By.yes (By.want_yes rfl rfl hg135) ?_
                      clear hg135
                      clear hs hg
                      go_simp
                      exact ⟨_, rfl, Grew.refl _, rfl⟩
                    · intro a w ht hs hg -- 140
                      have h139 : a.tmps.getD 139 undef = _ := By.given_get hg 6 rfl rfl (by kernel_rfl)
                      have hg135 := By.given_get hg 2 rfl rfl (by kernel_rfl)
                      refine By.yes (By.want_yes rfl rfl hg135) ?_
                      clear hg135
                      clear hs hg
                      have hc := HCX.out w (Row.below (w := w9.drew) RW9.out ht RW9.out.lt)
                      go_simp
                      exact ⟨_, rfl, Grew.refl _, rfl⟩
                    · intro a w ht hs hg -- 141
                      have h136 : a.tmps.getD 136 undef = _ := By.given_get hg 3 rfl rfl (by kernel_rfl)
                      have h140 : a.tmps.getD 140 undef = _ := By.given_get hg 7 rfl rfl (by kernel_rfl)
                      have hg135 := By.given_get hg 2 rfl rfl (by kernel_rfl)
                      refine By.yes (By.want_yes rfl rfl hg135) ?_
                      clear hg135
                      clear hs hg
                      go_simp
                      refine (HSN.out _).mono ?_
                      rintro r w' ⟨rfl, hb⟩
                      exact ⟨_, rfl, hb, rfl⟩
                    · intro a w ht hs hg -- 142
                      have h141 : a.tmps.getD 141 undef = _ := By.given_get hg 8 rfl rfl (by kernel_rfl)
                      have hg135 := By.given_get hg 2 rfl rfl (by kernel_rfl)
                      refine By.yes (By.want_yes rfl rfl hg135) ?_
                      clear hg135
                      clear hs hg
                      go_simp
                      exact ⟨_, rfl, Grew.refl _, congrArg Value.bool (by simp)⟩
                    · intro a w ht hs hg -- 143
                      have h135 : a.tmps.getD 135 undef = _ := By.given_get hg 2 rfl rfl (by kernel_rfl)
                      have h142 : a.tmps.getD 142 undef = _ := By.given_get hg 9 rfl rfl (by kernel_rfl)
                      refine By.yes rfl ?_
                      clear hs hg
                      go_simp
                      exact ⟨_, rfl, Grew.refl _, rfl⟩
                    refine By.ends_is (By.ends_is (By.ends_is (By.ends_is (By.ends_is (By.ends_is (By.ends_is (By.ends_is (By.ends_is (By.ends_is (By.ends_is (By.ends_nil fun w10 hw10 => ?_)))))))))))
                    simp only [Act.put, List.setIfInBounds_toArray, List.set_cons_succ, List.set_cons_zero]
                    have RG10 := Lib.hid (Row.below (w := w9.drew) RG9.out hw10 RG9.out.lt)
                    have RW10 := Lib.hid (Row.below (w := w9.drew) RW9.out hw10 RW9.out.lt)
                    have HB10 := Lib.hid (nextB HB9.out (Nat.le_refl _) (show Below w9.heap.size w9 w10 from ⟨hw10.os, hw10.tape, hw10.output, hw10.size, hw10.block⟩))
                    clear hw10
                    go_wp2
                    go_roundw
                    case rel =>
                      exact ⟨i + 1, T, S, by omega, by go_num, HFT.out, HOT.out, HCT.out, RW10.out, RG10.out, HB10.out⟩
                    case measure => simp [intOf]; omega
                  · refine By.ends_is (By.ends_is (By.ends_is (By.ends_is (By.ends_is (By.ends_is (By.ends_is (By.ends_is (By.ends_is (By.ends_any fun v16 => (By.ends_nil fun w8 hw8 => ?_))))))))))
                    simp only [Act.put, List.setIfInBounds_toArray, List.set_cons_succ, List.set_cons_zero]
                    obtain ⟨hgr, q', rfl, hBq, hq⟩ := hw8
                    have HG8 := Lib.hid (Row.below (w := wr.drew) HRG3.out hgr HRG3.out.lt)
                    have HW8 := Lib.hid (Row.below (w := wr.drew) HRW3.out hgr HRW3.out.lt)
                    have HB8 := Lib.hid (nextB HBR3.out (Nat.le_refl _) (show Below wr.heap.size wr w8 from ⟨hgr.os, hgr.tape, hgr.output, hgr.size, hgr.block⟩))
                    have hGq : G ≠ q' := by have := HRG3.out.lt; omega
                    have hgq : g ≠ q' := by have := HRW3.out.lt; omega
                    have hwq : w.heap.size ≤ q' := by omega
                    have Hq := Lib.hid hq
                    clear hq hgr q0 q1 q2 q3 cx
                    go_wp2_with (first
                      | (show wpList _ _ _ (⟨none, .store 35 (.tmp 16) _, _, _, _, _⟩ :: _) _ _
                         refine wpList_storeRow (n := 4) rfl 35 _ _ rfl rfl rfl (cs := wl f T S L) (old := wl 0 0 0 0) Hq.out (by kernel_rfl) rfl rfl (wl_one _ _ _ _) ?_
                         obtain ⟨V, hV⟩ : ∃ V, w8.setRow q' (wl f T S L).toArray = V := ⟨_, rfl⟩
                         refine wpList_world hV ?_
                         have RGV := Lib.hid (show Row V G (wl f t s L) 35 by rw [← hV]; exact HG8.out.setOther _ _ hGq)
                         have RWV := Lib.hid (show Row V g cs 24 by rw [← hV]; exact HW8.out.setOther _ _ hgq)
                         have RQV := Lib.hid (show Row V q' (wl f T S L) 35 by rw [← hV]; exact Hq.out.setRow _)
                         have HBV := Lib.hid (show Below w.heap.size w V by rw [← hV]; exact below_setRow HB8.out hwq _)
                         obtain ⟨y0, y1, y2, y3⟩ := quad RQV.out
                         have cx2 := HCX.out V RWV.out
                         clear hV)
                      | (show wpList _ _ _ (⟨none, .store 35 (.tmp 8) _, _, _, _, _⟩ :: _) _ _
                         refine wpList_storeRow (n := 4) rfl 35 _ _ rfl rfl rfl (cs := wl f T S L) (old := wl f t s L) RGV.out (by kernel_rfl) rfl rfl (wl_one _ _ _ _) ?_
                         obtain ⟨V2, hV2⟩ : ∃ V2, V.setRow G (wl f T S L).toArray = V2 := ⟨_, rfl⟩
                         refine wpList_world hV2 ?_
                         have RG2 := Lib.hid (show Row V2 G (wl f T S L) 35 by rw [← hV2]; exact RGV.out.setRow _)
                         have RW2 := Lib.hid (show Row V2 g cs 24 by rw [← hV2]; exact RWV.out.setOther _ _ hgG.symm)
                         have HB2 := Lib.hid (show Below w.heap.size w V2 by rw [← hV2]; exact below_setRow HBV.out hwG _)
                         clear hV2 y0 y1 y2 y3 cx2)
                      | fail)
                    refine By.marks Win.mixed Grew [By.is (wv f T S L),
                      By.is (.slice (some ⟨g, 0, none⟩) n cap),
                      By.is (.int .i64 (i : Int)),
                      By.is (.pointer (some ⟨g, i, none⟩)),
                      By.is (.int .u64 (x : Int)),
                      By.is (.tuple #[wv 0 0 0 0, .int .i64 7]),
                      By.is (.tuple #[wv 0 0 0 0, .int .i64 7]),
                      By.is (wv 0 0 0 0),
                      By.is (.int .i64 7),
                      By.is (.int .i64 7)]
                      (Ev.masks _ []) (by kernel_rfl) rfl Grew.refl Grew.trans ⟨?_, ?_, ?_, ?_, ?_, ?_, ?_, ?_, ?_, ?_, trivial⟩ ?_
                    · intro a w ht hs hg -- 125
                      have h8 := By.same_get hs 8 (by decide) (by kernel_rfl)
                      refine By.yes rfl ?_
                      clear hs hg
                      refine wp_loadRow 35 _ rfl h8 (Row.below (w := V2.drew) RG2.out ht RG2.out.lt) Try.underlying35 rfl (by kernel_rfl) rfl ?_
                      exact ⟨_, rfl, Grew.refl _, rfl⟩
                    · intro a w ht hs hg -- 126
                      have h10 := By.same_get hs 10 (by decide) (by kernel_rfl)
                      refine By.yes rfl ?_
                      clear hs hg
                      go_simp
                      exact ⟨_, rfl, Grew.refl _, rfl⟩
                    · intro a w ht hs hg -- 127
                      have h14 := By.same_get hs 14 (by decide) (by kernel_rfl)
                      refine By.yes rfl ?_
                      clear hs hg
                      go_simp
                      exact ⟨_, rfl, Grew.refl _, rfl⟩
                    · intro a w ht hs hg -- 128
                      have h126 : a.tmps.getD 126 undef = _ := By.given_get hg 1 rfl rfl (by kernel_rfl)
                      have h127 : a.tmps.getD 127 undef = _ := By.given_get hg 2 rfl rfl (by kernel_rfl)
                      refine By.yes rfl ?_
                      clear hs hg
                      go_simp
                      exact ⟨_, rfl, Grew.refl _, rfl⟩
                    · intro a w ht hs hg -- 129
                      have h128 : a.tmps.getD 128 undef = _ := By.given_get hg 3 rfl rfl (by kernel_rfl)
                      refine By.yes rfl ?_
                      clear hs hg
                      have hc := HCX.out w (Row.below (w := V2.drew) RW2.out ht RW2.out.lt)
                      go_simp
                      exact ⟨_, rfl, Grew.refl _, rfl⟩
                    · intro a w ht hs hg -- 130
                      have h125 : a.tmps.getD 125 undef = _ := By.given_get hg 0 rfl rfl (by kernel_rfl)
                      have h129 : a.tmps.getD 129 undef = _ := By.given_get hg 4 rfl rfl (by kernel_rfl)
                      refine By.yes rfl ?_
                      clear hs hg
                      go_simp
                      refine (HT2.out _).mono ?_
                      rintro r w' ⟨rfl, hb⟩
                      exact ⟨_, rfl, hb, rfl⟩
                    · intro a w ht hs hg -- 124
                      have h130 : a.tmps.getD 130 undef = _ := By.given_get hg 5 rfl rfl (by kernel_rfl)
                      refine By.yes rfl ?_
                      clear hs hg
                      go_simp
                      exact ⟨_, rfl, Grew.refl _, rfl⟩
                    · intro a w ht hs hg -- 131
                      have h124 : a.tmps.getD 124 undef = _ := By.given_get hg 6 rfl rfl (by kernel_rfl)
                      refine By.yes rfl ?_
                      clear hs hg
                      go_simp
                      exact ⟨_, rfl, Grew.refl _, rfl⟩
                    · intro a w ht hs hg -- 132
                      have h124 : a.tmps.getD 124 undef = _ := By.given_get hg 6 rfl rfl (by kernel_rfl)
                      refine By.yes rfl ?_
                      clear hs hg
                      go_simp
                      exact ⟨_, rfl, Grew.refl _, rfl⟩
                    · intro a w ht hs hg -- 17
                      have h132 : a.tmps.getD 132 undef = _ := By.given_get hg 8 rfl rfl (by kernel_rfl)
                      refine By.yes rfl ?_
                      clear hs hg
                      go_simp
                      exact ⟨_, rfl, Grew.refl _, rfl⟩
                    refine By.ends_is (By.ends_is (By.ends_is (By.ends_is (By.ends_is (By.ends_is (By.ends_is (By.ends_is (By.ends_is (By.ends_is (By.ends_nil fun w9 hw9 => ?_))))))))))
                    simp only [Act.put, List.setIfInBounds_toArray, List.set_cons_succ, List.set_cons_zero]
                    have RG9 := Lib.hid (Row.below (w := V2.drew) RG2.out hw9 RG2.out.lt)
                    have RW9 := Lib.hid (Row.below (w := V2.drew) RW2.out hw9 RW2.out.lt)
                    have HB9 := Lib.hid (nextB HB2.out (Nat.le_refl _) (show Below V2.heap.size V2 w9 from ⟨hw9.os, hw9.tape, hw9.output, hw9.size, hw9.block⟩))
                    clear hw9
                    go_wp2_with fail
                    refine By.marks Win.mixed Grew [By.is (.int .i64 7),
                      By.is (.bool false),
                      By.is (.bool false),
                      By.is (wv f T S L),
                      By.is (.slice (some ⟨g, 0, none⟩) n cap),
                      By.is (.int .i64 (i : Int)),
                      By.is (.pointer (some ⟨g, i, none⟩)),
                      By.is (.int .u64 (x : Int)),
                      By.is (.bool true),
                      By.is (.bool false),
                      By.is (.bool false)]
                      (Ev.masks _ []) (by kernel_rfl) rfl Grew.refl Grew.trans ⟨?_, ?_, ?_, ?_, ?_, ?_, ?_, ?_, ?_, ?_, ?_, trivial⟩ ?_
                    · intro a w ht hs hg -- 133
                      have h17 := By.same_get hs 17 (by decide) (by kernel_rfl)
                      refine By.yes rfl ?_
                      clear hs hg
                      go_simp
                      exact ⟨_, rfl, Grew.refl _, rfl⟩
                    · intro a w ht hs hg -- 134
                      have h133 : a.tmps.getD 133 undef = _ := By.given_get hg 0 rfl rfl (by kernel_rfl)
                      refine By.yes rfl ?_
                      clear hs hg
                      go_simp
                      exact ⟨_, rfl, Grew.refl _, congrArg Value.bool (by simp)⟩
                    · intro a w ht hs hg -- 135
                      have h134 : a.tmps.getD 134 undef = _ := By.given_get hg 1 rfl rfl (by kernel_rfl)
                      refine By.yes rfl ?_
                      clear hs hg
                      go_simp
                      exact ⟨_, rfl, Grew.refl _, rfl⟩
                    · intro a w ht hs hg -- 136
                      have h8 := By.same_get hs 8 (by decide) (by kernel_rfl)
                      have hg135 := By.given_get hg 2 rfl rfl (by kernel_rfl)
                      refine By.yes (By.want_yes rfl rfl hg135) ?_
                      clear hg135
                      clear hs hg
                      refine wp_loadRow 35 _ rfl h8 (Row.below (w := w9.drew) RG9.out ht RG9.out.lt) Try.underlying35 rfl (by kernel_rfl) rfl ?_
                      exact ⟨_, rfl, Grew.refl _, rfl⟩
                    · intro a w ht hs hg -- 137
                      have h10 := By.same_get hs 10 (by decide) (by kernel_rfl)
                      have hg135 := By.given_get hg 2 rfl rfl (by kernel_rfl)
                      refine By.yes (By.want_yes rfl rfl hg135) ?_
                      clear hg135
                      clear hs hg
                      go_simp
                      exact ⟨_, rfl, Grew.refl _, rfl⟩
                    · intro a w ht hs hg -- 138
                      have h14 := By.same_get hs 14 (by decide) (by kernel_rfl)
                      have hg135 := By.given_get hg 2 rfl rfl (by kernel_rfl)
                      refine By.yes (By.want_yes rfl rfl hg135) ?_
                      clear hg135
                      clear hs hg
                      go_simp
                      exact ⟨_, rfl, Grew.refl _, rfl⟩
                    · intro a w ht hs hg -- 139
                      have h137 : a.tmps.getD 137 undef = _ := By.given_get hg 4 rfl rfl (by kernel_rfl)
                      have h138 : a.tmps.getD 138 undef = _ := By.given_get hg 5 rfl rfl (by kernel_rfl)
                      have hg135 := By.given_get hg 2 rfl rfl (by kernel_rfl)
                      refine By.yes (By.want_yes rfl rfl hg135) ?_
                      clear hg135
                      clear hs hg
                      go_simp
                      exact ⟨_, rfl, Grew.refl _, rfl⟩
                    · intro a w ht hs hg -- 140
                      have h139 : a.tmps.getD 139 undef = _ := By.given_get hg 6 rfl rfl (by kernel_rfl)
                      have hg135 := By.given_get hg 2 rfl rfl (by kernel_rfl)
                      refine By.yes (By.want_yes rfl rfl hg135) ?_
                      clear hg135
                      clear hs hg
                      have hc := HCX.out w (Row.below (w := w9.drew) RW9.out ht RW9.out.lt)
                      go_simp
                      exact ⟨_, rfl, Grew.refl _, rfl⟩
                    · intro a w ht hs hg -- 141
                      have h136 : a.tmps.getD 136 undef = _ := By.given_get hg 3 rfl rfl (by kernel_rfl)
                      have h140 : a.tmps.getD 140 undef = _ := By.given_get hg 7 rfl rfl (by kernel_rfl)
                      have hg135 := By.given_get hg 2 rfl rfl (by kernel_rfl)
                      refine By.yes (By.want_yes rfl rfl hg135) ?_
                      clear hg135
                      clear hs hg
                      go_simp
                      refine (HSN.out _).mono ?_
                      rintro r w' ⟨rfl, hb⟩
                      exact ⟨_, rfl, hb, rfl⟩
                    · intro a w ht hs hg -- 142
                      have h141 : a.tmps.getD 141 undef = _ := By.given_get hg 8 rfl rfl (by kernel_rfl)
                      have hg135 := By.given_get hg 2 rfl rfl (by kernel_rfl)
                      refine By.yes (By.want_yes rfl rfl hg135) ?_
                      clear hg135
                      clear hs hg
                      go_simp
                      exact ⟨_, rfl, Grew.refl _, congrArg Value.bool (by simp)⟩
                    · intro a w ht hs hg -- 143
                      have h135 : a.tmps.getD 135 undef = _ := By.given_get hg 2 rfl rfl (by kernel_rfl)
                      have h142 : a.tmps.getD 142 undef = _ := By.given_get hg 9 rfl rfl (by kernel_rfl)
                      refine By.yes rfl ?_
                      clear hs hg
                      go_simp
                      exact ⟨_, rfl, Grew.refl _, rfl⟩
                    refine By.ends_is (By.ends_is (By.ends_is (By.ends_is (By.ends_is (By.ends_is (By.ends_is (By.ends_is (By.ends_is (By.ends_is (By.ends_is (By.ends_nil fun w10 hw10 => ?_)))))))))))
                    simp only [Act.put, List.setIfInBounds_toArray, List.set_cons_succ, List.set_cons_zero]
                    have RG10 := Lib.hid (Row.below (w := w9.drew) RG9.out hw10 RG9.out.lt)
                    have RW10 := Lib.hid (Row.below (w := w9.drew) RW9.out hw10 RW9.out.lt)
                    have HB10 := Lib.hid (nextB HB9.out (Nat.le_refl _) (show Below w9.heap.size w9 w10 from ⟨hw10.os, hw10.tape, hw10.output, hw10.size, hw10.block⟩))
                    clear hw10
                    go_wp2
                    go_roundw
                    case rel =>
                      exact ⟨i + 1, T, S, by omega, by go_num, HFT.out, HOT.out, HCT.out, RW10.out, RG10.out, HB10.out⟩
                    case measure => simp [intOf]; omega
                · have HTK := Lib.hid (fun W : World => Take_no f t s L x 8 W HFt.out h8 (by omega))
                  have g1 : ¬ (t : Int) < (x : Int) := by omega
                  have g2 : decide (t < x) = false := by rw [decide_eq_false_iff_not]; omega
                  obtain ⟨d, hd⟩ : ∃ d : Int, ((t - x : Nat) : Int) = d := ⟨_, rfl⟩
                  have g3 : IntKind.u64.wrap ((t : Int) - (x : Int)) = d := by have := HFt.out.2.1; rw [wrap_in _ (by omega) (by omega)]; omega
                  have g4 : ¬ d < 64 := by omega
                  clear hcm hlo hx64 h8 hle h64 hd
                  go_wp2_with fail
                  refine Tail.marksF Win.mixed 10 8 105 Grew [By.is (wv f t s L),
                    By.is (.slice (some ⟨g, 0, none⟩) n cap),
                    By.is (.int .i64 (i : Int)),
                    By.is (.pointer (some ⟨g, i, none⟩)),
                    By.is (.int .u64 (x : Int)),
                    By.is (.tuple #[wv 0 0 0 0, .int .i64 8]),
                    By.is (.tuple #[wv 0 0 0 0, .int .i64 8]),
                    By.is (wv 0 0 0 0),
                    By.is (.int .i64 8),
                    rowS wr.heap.size [.int .u64 0, .int .u64 0, .int .u64 0, .int .u64 0] 35]
                    (Ev.masks _ []) (Nat.zero_lt_succ _) rfl (by kernel_rfl) (by kernel_rfl) rfl Grew.refl Grew.trans ⟨?_, ?_, ?_, ?_, ?_, ?_, ?_, ?_, ?_, ?_, trivial⟩ [_, _, _] (by rfl) ?_ ?_
                  · intro a w ht hs hg -- 98
                    have h8 := By.same_get hs 8 (by decide) (by kernel_rfl)
                    refine By.yes rfl ?_
                    clear hs hg
                    refine wp_loadRow 35 _ rfl h8 (Row.below (w := wr.drew) HRG3.out ht HRG3.out.lt) Try.underlying35 rfl (by kernel_rfl) rfl ?_
                    exact ⟨_, rfl, Grew.refl _, rfl⟩
                  · intro a w ht hs hg -- 99
                    have h10 := By.same_get hs 10 (by decide) (by kernel_rfl)
                    refine By.yes rfl ?_
                    clear hs hg
                    go_simp
                    exact ⟨_, rfl, Grew.refl _, rfl⟩
                  · intro a w ht hs hg -- 100
                    have h14 := By.same_get hs 14 (by decide) (by kernel_rfl)
                    refine By.yes rfl ?_
                    clear hs hg
                    go_simp
                    exact ⟨_, rfl, Grew.refl _, rfl⟩
                  · intro a w ht hs hg -- 101
                    have h99 : a.tmps.getD 99 undef = _ := By.given_get hg 1 rfl rfl (by kernel_rfl)
                    have h100 : a.tmps.getD 100 undef = _ := By.given_get hg 2 rfl rfl (by kernel_rfl)
                    refine By.yes rfl ?_
                    clear hs hg
                    go_simp
                    exact ⟨_, rfl, Grew.refl _, rfl⟩
                  · intro a w ht hs hg -- 102
                    have h101 : a.tmps.getD 101 undef = _ := By.given_get hg 3 rfl rfl (by kernel_rfl)
                    refine By.yes rfl ?_
                    clear hs hg
                    have hc := HCX.out w (Row.below (w := wr.drew) HRW3.out ht HRW3.out.lt)
                    go_simp
                    exact ⟨_, rfl, Grew.refl _, rfl⟩
                  · intro a w ht hs hg -- 103
                    have h98 : a.tmps.getD 98 undef = _ := By.given_get hg 0 rfl rfl (by kernel_rfl)
                    have h102 : a.tmps.getD 102 undef = _ := By.given_get hg 4 rfl rfl (by kernel_rfl)
                    refine By.yes rfl ?_
                    clear hs hg
                    go_simp
                    refine (HTK.out _).mono ?_
                    rintro r w' ⟨rfl, hb⟩
                    exact ⟨_, rfl, hb, rfl⟩
                  · intro a w ht hs hg -- 97
                    have h103 : a.tmps.getD 103 undef = _ := By.given_get hg 5 rfl rfl (by kernel_rfl)
                    refine By.yes rfl ?_
                    clear hs hg
                    go_simp
                    exact ⟨_, rfl, Grew.refl _, rfl⟩
                  · intro a w ht hs hg -- 104
                    have h97 : a.tmps.getD 97 undef = _ := By.given_get hg 6 rfl rfl (by kernel_rfl)
                    refine By.yes rfl ?_
                    clear hs hg
                    go_simp
                    exact ⟨_, rfl, Grew.refl _, rfl⟩
                  · intro a w ht hs hg -- 105
                    have h97 : a.tmps.getD 97 undef = _ := By.given_get hg 6 rfl rfl (by kernel_rfl)
                    refine By.yes rfl ?_
                    clear hs hg
                    go_simp
                    exact ⟨_, rfl, Grew.refl _, rfl⟩
                  · intro a w ht hs hg -- 16
                    refine By.yes rfl ?_
                    clear hs hg
                    have hsz := Below.size ht
                    go_simp
                    exact ⟨_, rfl, (Below.refl _ w).alloc (Nat.le_refl _) _, w.heap.size, rfl, hsz, Row.new rfl rfl⟩
                  · refine By.ends_is (By.ends_is (By.ends_is (By.ends_is (By.ends_is (By.ends_is (By.ends_is (By.ends_is (By.ends_is (By.ends_any fun v16 => (By.ends_nil fun w8 hw8 => ?_))))))))))
                    simp only [Act.put, List.setIfInBounds_toArray, List.set_cons_succ, List.set_cons_zero]
                    simp only [List.drop_succ_cons, List.drop_zero]
                    obtain ⟨hgr, q', rfl, hBq, hq⟩ := hw8
                    have HG8 := Lib.hid (Row.below (w := wr.drew) HRG3.out hgr HRG3.out.lt)
                    have HW8 := Lib.hid (Row.below (w := wr.drew) HRW3.out hgr HRW3.out.lt)
                    have HB8 := Lib.hid (nextB HBR3.out (Nat.le_refl _) (show Below wr.heap.size wr w8 from ⟨hgr.os, hgr.tape, hgr.output, hgr.size, hgr.block⟩))
                    have hGq : G ≠ q' := by have := HRG3.out.lt; omega
                    have hgq : g ≠ q' := by have := HRW3.out.lt; omega
                    have hwq : w.heap.size ≤ q' := by omega
                    have Hq := Lib.hid hq
                    clear hq hgr q0 q1 q2 q3 cx
                    go_wp2_with (first
                      | (show wpList _ _ _ (⟨none, .store 35 (.tmp 16) _, _, _, _, _⟩ :: _) _ _
                         refine wpList_storeRow (n := 4) rfl 35 _ _ rfl rfl rfl (cs := wl 0 0 0 0) (old := wl 0 0 0 0) Hq.out (by kernel_rfl) rfl rfl (wl_one _ _ _ _) ?_
                         obtain ⟨V, hV⟩ : ∃ V, w8.setRow q' (wl 0 0 0 0).toArray = V := ⟨_, rfl⟩
                         refine wpList_world hV ?_
                         have RGV := Lib.hid (show Row V G (wl f t s L) 35 by rw [← hV]; exact HG8.out.setOther _ _ hGq)
                         have RWV := Lib.hid (show Row V g cs 24 by rw [← hV]; exact HW8.out.setOther _ _ hgq)
                         have RQV := Lib.hid (show Row V q' (wl 0 0 0 0) 35 by rw [← hV]; exact Hq.out.setRow _)
                         have HBV := Lib.hid (show Below w.heap.size w V by rw [← hV]; exact below_setRow HB8.out hwq _)
                         obtain ⟨y0, y1, y2, y3⟩ := quad RQV.out
                         have cx2 := HCX.out V RWV.out
                         clear hV)
                      | fail)
                    go_roundw
                    case rel =>
                      exact ⟨i + 1, t, s, by omega, by go_num, HFt.out, HKt.out, HCt.out.more, RWV.out, RGV.out, HBV.out⟩
                    case measure => simp [intOf]; omega
                  · refine By.ends_is (By.ends_is (By.ends_is (By.ends_is (By.ends_is (By.ends_is (By.ends_is (By.ends_is (By.ends_is (By.ends_any fun v16 => (By.ends_nil fun w8 hw8 => ?_))))))))))
                    simp only [Act.put, List.setIfInBounds_toArray, List.set_cons_succ, List.set_cons_zero]
                    obtain ⟨hgr, q', rfl, hBq, hq⟩ := hw8
                    have HG8 := Lib.hid (Row.below (w := wr.drew) HRG3.out hgr HRG3.out.lt)
                    have HW8 := Lib.hid (Row.below (w := wr.drew) HRW3.out hgr HRW3.out.lt)
                    have HB8 := Lib.hid (nextB HBR3.out (Nat.le_refl _) (show Below wr.heap.size wr w8 from ⟨hgr.os, hgr.tape, hgr.output, hgr.size, hgr.block⟩))
                    have hGq : G ≠ q' := by have := HRG3.out.lt; omega
                    have hgq : g ≠ q' := by have := HRW3.out.lt; omega
                    have hwq : w.heap.size ≤ q' := by omega
                    have Hq := Lib.hid hq
                    clear hq hgr q0 q1 q2 q3 cx
                    go_wp2_with (first
                      | (show wpList _ _ _ (⟨none, .store 35 (.tmp 16) _, _, _, _, _⟩ :: _) _ _
                         refine wpList_storeRow (n := 4) rfl 35 _ _ rfl rfl rfl (cs := wl 0 0 0 0) (old := wl 0 0 0 0) Hq.out (by kernel_rfl) rfl rfl (wl_one _ _ _ _) ?_
                         obtain ⟨V, hV⟩ : ∃ V, w8.setRow q' (wl 0 0 0 0).toArray = V := ⟨_, rfl⟩
                         refine wpList_world hV ?_
                         have RGV := Lib.hid (show Row V G (wl f t s L) 35 by rw [← hV]; exact HG8.out.setOther _ _ hGq)
                         have RWV := Lib.hid (show Row V g cs 24 by rw [← hV]; exact HW8.out.setOther _ _ hgq)
                         have RQV := Lib.hid (show Row V q' (wl 0 0 0 0) 35 by rw [← hV]; exact Hq.out.setRow _)
                         have HBV := Lib.hid (show Below w.heap.size w V by rw [← hV]; exact below_setRow HB8.out hwq _)
                         obtain ⟨y0, y1, y2, y3⟩ := quad RQV.out
                         have cx2 := HCX.out V RWV.out
                         clear hV)
                      | fail)
                    go_roundw
                    case rel =>
                      exact ⟨i + 1, t, s, by omega, by go_num, HFt.out, HKt.out, HCt.out.more, RWV.out, RGV.out, HBV.out⟩
                    case measure => simp [intOf]; omega
              · have hin' : ¬ (i : Int) < (n : Int) := by omega
                go_wp2
                go_ret
                exact ⟨rfl, HBR3.out⟩

set_option maxRecDepth 100000 in
theorem lift (os : Os) (started : os.Started) (H : Type) (enc : TypeId × Value → H) :
    ReturnsInHanded {} Try.checked os 6 .any (Rows.windowRowSpec.pre6 enc Try.prog Try.f6 Rows.windowRowRow.domain false) (Rows.windowRowSpec.post enc Try.prog Try.f6 false true false false) := by
  refine Law.lifted (C := Try.checked) 4 own started (by kernel_rfl) Try.func6 laid (by kernel_rfl) rfl Try.underlying4 rfl
    (fun ds hd => by
      have hd' : ds.length = 3 := hd
      match ds, hd' with
      | [d0, d1, d2], _ => rfl)
    (ChangeSpec.witness6 (enc := enc) (C := Try.checked) false ⟨#[], #[.int .u64 0, .int .i64 0, .slice none 0 0], []⟩ 8 (by kernel_rfl) (by kernel_rfl) (by kernel_rfl) (by kernel_rfl)) ?_
  intro W args ds ps hst
  have hA : DataW.TrodAll enc Try.prog W 0 (fun _ => true) true Try.f6.params.toList args.toList ds ps := hst.trod
  have hok := hst.okw
  have hlt := hst.lt
  rw [Try.params6] at hA hok
  obtain ⟨v0, v1, v2, d0, d1, d2, p0, p1, p2, rfl, rfl, rfl, h0, h1, h2⟩ := trodAll_three hA
  obtain ⟨_, hv0⟩ := hok 0 24 v0 rfl rfl
  obtain ⟨_, hv1⟩ := hok 1 3 v1 rfl rfl
  obtain ⟨_, hv2⟩ := hok 2 48 v2 rfl rfl
  obtain ⟨fr, rfl, f0', f1'⟩ := Law.int_at Try.underlying24 hv0 h0
  obtain ⟨many, rfl, m0, m1⟩ := Law.int_at Try.underlying3 hv1 h1
  obtain ⟨N, z, hz, hN, hzz⟩ := ints_trod Try.underlying48 hv2 h2 (fun x hx => hlt x (by simp [hx]))
  have f0 : (0 : Int) ≤ fr := f0'
  have f1 : fr ≤ 18446744073709551615 := f1'
  have m0' : -9223372036854775808 ≤ many := m0
  have m1' : many ≤ 9223372036854775807 := m1
  obtain ⟨fr, rfl⟩ := Int.eq_ofNat_of_zero_le f0
  have hz0 := hz
  obtain ⟨A, c, rfl, _⟩ := hz0
  exact walk fr many A c N z W hz (by omega) ⟨m0', m1'⟩ hzz

theorem over : Rows.windowRowRow.holds Try.pinned (OpenSpec.ofChange Rows.windowRowSpec) :=
  OpenClaim.holds_of_wide 6 Try.f6 rfl rfl rfl rfl rfl rfl rfl ⟨rfl, rfl, rfl, rfl, rfl⟩ rfl rfl rfl rfl rfl (by kernel_rfl) Try.func6 (by kernel_rfl)
    (of_decide_eq_true (by kernel_rfl)) (by unfold Func.isWrapper; first | (rw [if_pos (by decide +kernel)]; kernel_rfl) | (rw [if_neg (by decide +kernel)]; exact ⟨rfl, rfl⟩))
    (fun os started H enc _ => lift os started H enc)
theorem proved : Rows.WindowRowSaid := over
#print axioms proved
end Go.Proofs.Ytnpmlbpnlflkkaa.windowRow

