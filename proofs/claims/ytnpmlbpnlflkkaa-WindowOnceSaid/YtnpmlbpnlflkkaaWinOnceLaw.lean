/- Whatever is taken, allowed and recovered, no number is accepted twice, and none that was not allowed: 'drawbridgelaw07.WindowOnce'. -/
import Derived.Test.YtnpmlbpnlflkkaaWinMap
import Derived.Test.YtnpmlbpnlflkkaaWinLives
import Derived.Test.YtnpmlbpnlflkkaaWinArgs
import Derived.Test.YtnpmlbpnlflkkaaKitBase
import Derived.Test.YtnpmlbpnlflkkaaTail
import Derived.Deep.QuietTactic
import Derived.BigQuiet
import Derived.RegionTactic
import Derived.ChangeAlike
namespace Go.Proofs.Ytnpmlbpnlflkkaa.windowOnce
open Go.ChangeShapes Go.WideShapes Go.ChangeAt Go.RowKit Win

theorem ok_more {f t s l y : Nat} (h : Ok f t s l) (h1 : y ≤ 1152921504606846977) (h2 : l < y) : Ok f t s y := by
  obtain ⟨a, b, c, d, e, g⟩ := h
  exact ⟨a, by omega, h1, d, by omega, g⟩
theorem Row.kept' {w w' : World} {g k : Nat} {cs : List Value} {t : TypeId} (h : Row w k cs t) (hg : w.grownBy w' (some g)) (hne : k ≠ g) : Row w' k cs t := by
  unfold Row
  rw [hg.block k h.lt (by simpa using hne)]
  exact h
theorem World.grownBy_setRow (W : World) (g : Nat) (cs : Array Value) : W.grownBy (W.setRow g cs) (some g) :=
  ⟨rfl, rfl, rfl, by simp [World.setRow], fun k _ hk => by
    refine setRow_other W g k cs (fun e => hk (by rw [e]))⟩
set_option maxRecDepth 8000 in
theorem long (A : Option Addr) (c N : Nat) (w : World) (h : 100 < N) : Calls Try.prog 5 #[.slice A N c] w fun e w' => e = .returned (.bool true) ∧ Below w.heap.size w w' := by
  have h' : (100 : Int) < (N : Int) := by omega
  go_enter Try.func5, Try.ntmps5
  go_wp2_with fail
  refine (lives_any _).mono ?_
  rintro e w1 ⟨rfl, hb1⟩
  go_wp2
  go_ret
  exact ⟨rfl, hb1⟩

set_option maxRecDepth 4000 in
set_option maxHeartbeats 40000000 in
theorem walk (A : Option Addr) (c N : Nat) (g : Nat → Nat → Int) (w : World) (hr : RecsK w w.heap.size (.slice A N c) [.i64, .u64] 2 N g) (hN : N ≤ 100)
    (hg : ∀ i, i < N → (-9223372036854775808 ≤ g i 0 ∧ g i 0 ≤ 9223372036854775807) ∧ 0 ≤ g i 1 ∧ g i 1 < 18446744073709551616) :
    Calls Try.prog 5 #[.slice A N c] w fun e w' => e = .returned (.bool true) ∧ Below w.heap.size w w' := by
  have h' : ¬ (100 : Int) < (N : Int) := by omega
  have HR := Lib.hid hr
  have HGG := Lib.hid hg
  have hmm := @run_makeMap Try.prog
  clear hr hg
  go_enter Try.func5, Try.ntmps5
  go_wp2_with fail
  refine (lives_any _).mono ?_
  rintro e w1 ⟨rfl, hb1⟩
  have HB1 := Lib.hid hb1
  have hs1 : w.heap.size ≤ w1.heap.size := hb1.size
  clear hb1
  go_wp2_with fail
  refine (Win.New_any _).mono ?_
  rintro e w' ⟨rfl, rfl⟩
  go_wp2
  obtain ⟨G, hG⟩ : ∃ G, w1.heap.size + 1 = G := ⟨_, rfl⟩
  obtain ⟨M, hM⟩ : ∃ M, w1.heap.size + 1 + 1 = M := ⟨_, rfl⟩
  have hwG : w.heap.size ≤ G := by omega
  have hwM : w.heap.size ≤ M := by omega
  have hGM : G ≠ M := by omega
  have hMG : M ≠ G := by omega
  rw [hM, hG]
  go_loopw [5, 6, 7, 8, 9, 10, 11, 12, 13] (fun iv _ _ _ _ _ _ _ _ wr => ∃ i f t s l D, i ≤ N ∧ iv = .int .i64 ((i : Nat) : Int) ∧ Fits f t s l ∧ Ok f t s l ∧ Inv D f t s l ∧ Row wr G (wl f t s l) 35 ∧ Own' wr M i D ∧ Below w.heap.size w wr) (fun iv _ _ _ _ _ _ _ _ _ => N - (intOf iv).toNat)
  case atStart =>
    refine ⟨0, 1, 0, 0, 1, .map [], by omega, rfl, ⟨by omega, by omega, by omega, by omega⟩, ⟨by omega, by omega, by omega, by omega, by omega, by omega, by omega⟩, ⟨fun x _ h => absurd h (in_empty x), fun x _ _ h => by simp [Win.seen] at h⟩, ?_, ?_, ?_⟩
    · exact (Row.new (by simp [← hG]) rfl).alloc _
    · exact (show ∀ W : World, W.heap.size = M → Own' (W.alloc (.map #[] 0)) M 0 (.map []) from fun W h => h ▸ World.ownsMap_made W _ _ _) _ (by simp; omega)
    · exact ((HB1.out.alloc hs1 _).alloc (by simp <;> omega) _).alloc (by simp <;> omega) _
  case round =>
    obtain ⟨i, f, t, s, l, D, hi, rfl, hF, hok, hinv, hr, hm, hbr⟩ := hrel
    obtain ⟨q0, q1, q2, q3⟩ := quad hr
    have HBR := Lib.hid hbr
    have hrs : w.heap.size ≤ wr.heap.size := hbr.size
    have hlr : G < wr.heap.size := hr.lt
    have hlm : M < wr.heap.size := hm.lt
    have HRr := Lib.hid hr
    have HMr := Lib.hid hm
    have HO := Lib.hid hok
    have HF := Lib.hid hF
    have HI := Lib.hid hinv
    clear hr hbr hm hok hF hinv
    by_cases hin : i < N
    · have hin' : (i : Int) < (N : Int) := by omega
      obtain ⟨b, off, rfl, hcell⟩ : ∃ b off, A = some ⟨b, off, none⟩ ∧ ∀ W, Below w.heap.size w W → W.cell? ⟨b, off + i * 2, none⟩ = some (.int .i64 (g i 0)) ∧ W.cell? ⟨b, off + i * 2 + 1, none⟩ = some (.int .u64 (g i 1)) := by
        obtain ⟨A', c', e', _, hcs⟩ := HR.out
        simp only [Value.slice.injEq] at e'
        obtain ⟨rfl, _, rfl⟩ := e'
        obtain ⟨b, off, rfl, hlt, hcs⟩ := hcs (by omega)
        exact ⟨b, off, rfl, fun W hW => ⟨(hW.cell (p := ⟨b, _, none⟩) hlt).trans (hcs i hin 0 (by omega)), (hW.cell (p := ⟨b, _, none⟩) hlt).trans (hcs i hin 1 (by omega))⟩⟩
      obtain ⟨hg0, hg1, hg2⟩ := HGG.out i hin
      obtain ⟨y, hy⟩ := Int.eq_ofNat_of_zero_le hg1
      obtain ⟨x, hx⟩ : ∃ x, g i 0 = x := ⟨_, rfl⟩
      rw [hx, hy] at hcell
      rw [hx] at hg0
      rw [hy] at hg2
      have Hc := Lib.hid hcell
      have Hx := Lib.hid hg0
      have hy2 : y < 18446744073709551616 := by omega
      clear hcell hg0 hg1 hg2 hx hy
      obtain ⟨p, hp, hp7⟩ : ∃ p : Nat, pick x 7 = (p : Int) ∧ p < 7 := ⟨(pick x 7).toNat, by have := pick_in x 7 (by omega); omega, by have := pick_in x 7 (by omega); omega⟩
      have c0 := (Hc.out wr HBR.out).1
      have c1 := (Hc.out wr HBR.out).2
      by_cases hp4 : p = 4
      · as_aux_lemma =>
          have e4 : ((p : Int) == 4) = true := by rw [hp4]; rfl
          clear hp4
          go_wp2_with fail
          refine (Pick_any x 7 _ Hx.out (by omega)).mono ?_
          rw [hp]
          rintro e w' ⟨rfl, rfl⟩
          by_cases hal : al f t s l y = 0
          · obtain ⟨_, hk1, hlk⟩ := al_ok hal
            have HAL := Lib.hid (fun W : World => Allow_ok f t s l y W HF.out HO.out hk1 hlk)
            have a1 : decide (l < y) = true := by rw [decide_eq_true_eq]; exact hlk
            have a2 : (l : Int) < (y : Int) := by omega
            have a3 : (y : Int) ≤ 1152921504606846977 := by omega
            have HOy := Lib.hid (ok_more HO.out hk1 hlk)
            have HFy := Lib.hid (show Fits f t s y from ⟨HF.out.1, HF.out.2.1, HF.out.2.2.1, by omega⟩)
            clear hal hk1 hlk
            go_wp2_with fail
            refine (HAL.out _).mono ?_
            rintro e w5 ⟨rfl, hb⟩
            have HB5 := Lib.hid (nextB HBR.out (Nat.le_refl _) hb)
            have R5 := Lib.hid (HRr.out.below hb HRr.out.lt)
            have HM5 := Lib.hid (show Own' w5 M i D from HMr.out.kept (row := none) ⟨hb.os, hb.tape, hb.output, hb.size, fun k hk _ => hb.block k hk⟩ (by simp))
            have hs5 : w.heap.size ≤ w5.heap.size := HB5.out.size
            have hG5 : G < w5.heap.size := R5.out.lt
            have hM5 : M < w5.heap.size := HM5.out.lt
            obtain ⟨p0, p1, p2, p3⟩ := quadA R5.out
            clear hb q0 q1 q2 q3 c0 c1
            go_wp2_with (first
              | (show wpList _ _ _ (⟨none, .store 35 _ _, _, _, _, _⟩ :: _) _ _; (
               refine wpList_storeRow (n := 4) rfl 35 _ _ rfl rfl rfl (cs := wl f t s y) (old := wl f t s l) (R5.out.alloc _) (by kernel_rfl) rfl rfl (wl_one _ _ _ _) ?_
               obtain ⟨V2, hV2⟩ : ∃ V2, World.setRow (w5.alloc (.cells #[.int .u64 (f : Int), .int .u64 (t : Int), .int .u64 (s : Int), .int .u64 (y : Int)] 35)) G (wl f t s y).toArray = V2 := ⟨_, rfl⟩
               refine wpList_world hV2 ?_
               have R2 := Lib.hid (show Row V2 G (wl f t s y) 35 by rw [← hV2]; exact Row.setRow (R5.out.alloc _) _)
               have HB2 := Lib.hid (show Below w.heap.size w V2 by rw [← hV2]; exact below_setRow (HB5.out.alloc hs5 _) hwG _)
               have HM2 := Lib.hid (show Own' V2 M i D by rw [← hV2]; exact (HM5.out.alloc _).kept (World.grownBy_setRow _ _ _) (by simp; omega))
               obtain ⟨y0, y1, y2, y3⟩ := quad R2.out
               clear hV2))
              | fail)
            refine (Check_ok _ _ _ _ _ (HFy.out).2.2.1 (HOy.out)).mono ?_
            rintro e w' ⟨rfl, rfl⟩
            go_wp2
            go_roundw
            case rel =>
              exact ⟨i + 1, _, _, _, _, D, by omega, by go_num, HFy.out, HOy.out, HI.out.more y, R2.out.alloc _, ((HM2.out).alloc _).mono (by omega), HB2.out.alloc HB2.out.size _⟩
            case measure => simp [intOf]; omega
          · have HAL := Lib.hid (fun W : World => Allow_any f t s l y W HF.out)
            obtain ⟨r, hr⟩ : ∃ r, al f t s l y = r := ⟨_, rfl⟩
            have hw : ¬ (l < y ∧ y ≤ 1152921504606846977) := by
              rintro ⟨h1, h2⟩
              refine hal ?_
              unfold al
              rw [if_neg (by simpa using HO.out), if_neg (by omega), if_neg (by omega)]
            rw [hr] at HAL hal
            have r1 : ((r : Int) == 0) = false := by rw [beq_eq_false_iff_ne]; omega
            obtain ⟨a0, b0⟩ : ∃ a0, aw f t s l y 0 = a0 := ⟨_, rfl⟩
            obtain ⟨a1, b1⟩ : ∃ a0, aw f t s l y 1 = a0 := ⟨_, rfl⟩
            obtain ⟨a2, b2⟩ : ∃ a0, aw f t s l y 2 = a0 := ⟨_, rfl⟩
            obtain ⟨a3, b3⟩ : ∃ a0, aw f t s l y 3 = a0 := ⟨_, rfl⟩
            rw [b0, b1, b2, b3] at HAL
            clear hal hr b0 b1 b2 b3
            by_cases hlk : l < y
            · have g1 : decide (l < y) = true := by rw [decide_eq_true_eq]; exact hlk
              have g2 : (l : Int) < (y : Int) := by omega
              have g3 : ¬ (y : Int) ≤ 1152921504606846977 := by omega
              clear hw hlk
              go_wp2_with fail
              refine (HAL.out _).mono ?_
              rintro e w5 ⟨rfl, hb⟩
              have HB5 := Lib.hid (nextB HBR.out (Nat.le_refl _) hb)
              have R5 := Lib.hid (HRr.out.below hb HRr.out.lt)
              have HM5 := Lib.hid (show Own' w5 M i D from HMr.out.kept (row := none) ⟨hb.os, hb.tape, hb.output, hb.size, fun k hk _ => hb.block k hk⟩ (by simp))
              have hs5 : w.heap.size ≤ w5.heap.size := HB5.out.size
              have hG5 : G < w5.heap.size := R5.out.lt
              have hM5 : M < w5.heap.size := HM5.out.lt
              obtain ⟨p0, p1, p2, p3⟩ := quadA R5.out
              clear hb q0 q1 q2 q3 c0 c1
              go_wp2_with fail
              refine (Check_ok _ _ _ _ _ (HF.out).2.2.1 (HO.out)).mono ?_
              rintro e w' ⟨rfl, rfl⟩
              go_wp2
              go_roundw
              case rel =>
                exact ⟨i + 1, _, _, _, _, D, by omega, by go_num, HF.out, HO.out, HI.out, (R5.out.alloc _).alloc _, ((HM5.out.alloc _).alloc _).mono (by omega), (HB5.out.alloc hs5 _).alloc (HB5.out.alloc hs5 _).size _⟩
              case measure => simp [intOf]; omega
            · have g1 : decide (l < y) = false := by rw [decide_eq_false_iff_not]; exact hlk
              have g2 : ¬ (l : Int) < (y : Int) := by omega
              clear hw hlk
              go_wp2_with fail
              refine (HAL.out _).mono ?_
              rintro e w5 ⟨rfl, hb⟩
              have HB5 := Lib.hid (nextB HBR.out (Nat.le_refl _) hb)
              have R5 := Lib.hid (HRr.out.below hb HRr.out.lt)
              have HM5 := Lib.hid (show Own' w5 M i D from HMr.out.kept (row := none) ⟨hb.os, hb.tape, hb.output, hb.size, fun k hk _ => hb.block k hk⟩ (by simp))
              have hs5 : w.heap.size ≤ w5.heap.size := HB5.out.size
              have hG5 : G < w5.heap.size := R5.out.lt
              have hM5 : M < w5.heap.size := HM5.out.lt
              obtain ⟨p0, p1, p2, p3⟩ := quadA R5.out
              clear hb q0 q1 q2 q3 c0 c1
              go_wp2_with fail
              refine (Check_ok _ _ _ _ _ (HF.out).2.2.1 (HO.out)).mono ?_
              rintro e w' ⟨rfl, rfl⟩
              go_wp2
              go_roundw
              case rel =>
                exact ⟨i + 1, _, _, _, _, D, by omega, by go_num, HF.out, HO.out, HI.out, (R5.out.alloc _).alloc _, ((HM5.out.alloc _).alloc _).mono (by omega), (HB5.out.alloc hs5 _).alloc (HB5.out.alloc hs5 _).size _⟩
              case measure => simp [intOf]; omega
      by_cases hp5 : p = 5
      · as_aux_lemma =>
          have e4 : ((p : Int) == 4) = false := by rw [beq_eq_false_iff_ne]; omega
          have e5 : ((p : Int) == 5) = true := by rw [hp5]; rfl
          have e6 : ((p : Int) == 6) = false := by rw [beq_eq_false_iff_ne]; omega
          clear hp4 hp5
          go_wp2_with fail
          refine (Pick_any x 7 _ Hx.out (by omega)).mono ?_
          rw [hp]
          rintro e w' ⟨rfl, rfl⟩
          go_wp2_with fail
          refine (Pick_any x 7 _ Hx.out (by omega)).mono ?_
          rw [hp]
          rintro e w' ⟨rfl, rfl⟩
          obtain ⟨m, hm⟩ : ∃ m, l - 1 = m := ⟨_, rfl⟩
          have HRC := Lib.hid (fun W : World => Recover_ok f t s l W HF.out HO.out)
          have HOm := Lib.hid (show Ok l m 0 l by rw [← hm]; exact ok_recover HO.out)
          have HFm := Lib.hid (show Fits l m 0 l from ⟨HF.out.2.2.2, by have := HF.out.2.2.2; omega, by omega, HF.out.2.2.2⟩)
          have HIm := Lib.hid (show Inv D l m 0 l by rw [← hm]; exact HI.out.recover HO.out)
          rw [hm] at HRC
          clear hm
          have n1 : ((l : Int) != (l : Int)) = false := by simp
          go_wp2_with fail
          refine (HRC.out _).mono ?_
          rintro e w5 ⟨rfl, hb⟩
          have HB5 := Lib.hid (nextB HBR.out (Nat.le_refl _) hb)
          have R5 := Lib.hid (HRr.out.below hb HRr.out.lt)
          have HM5 := Lib.hid (show Own' w5 M i D from HMr.out.kept (row := none) ⟨hb.os, hb.tape, hb.output, hb.size, fun k hk _ => hb.block k hk⟩ (by simp))
          have hs5 : w.heap.size ≤ w5.heap.size := HB5.out.size
          have hG5 : G < w5.heap.size := R5.out.lt
          have hM5 : M < w5.heap.size := HM5.out.lt
          obtain ⟨p0, p1, p2, p3⟩ := quadA R5.out
          clear hb q0 q1 q2 q3 c0 c1
          go_wp2_with (first
            | (show wpList _ _ _ (⟨none, .store 35 _ _, _, _, _, _⟩ :: _) _ _; (
               refine wpList_storeRow (n := 4) rfl 35 _ _ rfl rfl rfl (cs := wl l m 0 l) (old := wl f t s l) (R5.out.alloc _) (by kernel_rfl) rfl rfl (wl_one _ _ _ _) ?_
               obtain ⟨V2, hV2⟩ : ∃ V2, World.setRow (w5.alloc (.cells #[.int .u64 (l : Int), .int .u64 (m : Int), .int .u64 0, .int .u64 (l : Int)] 35)) G (wl l m 0 l).toArray = V2 := ⟨_, rfl⟩
               refine wpList_world hV2 ?_
               have R2 := Lib.hid (show Row V2 G (wl l m 0 l) 35 by rw [← hV2]; exact Row.setRow (R5.out.alloc _) _)
               have HB2 := Lib.hid (show Below w.heap.size w V2 by rw [← hV2]; exact below_setRow (HB5.out.alloc hs5 _) hwG _)
               have HM2 := Lib.hid (show Own' V2 M i D by rw [← hV2]; exact (HM5.out.alloc _).kept (World.grownBy_setRow _ _ _) (by simp; omega))
               obtain ⟨y0, y1, y2, y3⟩ := quad R2.out
               clear hV2))
            | fail)
          refine (Check_ok _ _ _ _ _ (HFm.out).2.2.1 (HOm.out)).mono ?_
          rintro e w' ⟨rfl, rfl⟩
          go_wp2
          go_roundw
          case rel =>
            exact ⟨i + 1, _, _, _, _, D, by omega, by go_num, HFm.out, HOm.out, HIm.out, R2.out.alloc _, ((HM2.out).alloc _).mono (by omega), HB2.out.alloc HB2.out.size _⟩
          case measure => simp [intOf]; omega
      by_cases hp6 : p = 6
      · as_aux_lemma =>
          have e4 : ((p : Int) == 4) = false := by rw [beq_eq_false_iff_ne]; omega
          have e5 : ((p : Int) == 5) = false := by rw [beq_eq_false_iff_ne]; omega
          have e6 : ((p : Int) == 6) = true := by rw [hp6]; rfl
          clear hp4 hp5 hp6
          go_wp2_with fail
          refine (Pick_any x 7 _ Hx.out (by omega)).mono ?_
          rw [hp]
          rintro e w' ⟨rfl, rfl⟩
          go_wp2_with fail
          refine (Pick_any x 7 _ Hx.out (by omega)).mono ?_
          rw [hp]
          rintro e w' ⟨rfl, rfl⟩
          go_wp2_with (first
            | (refine wpList_storeRow (n := 4) rfl 35 _ _ rfl rfl rfl (cs := wl 1 0 0 l) (old := wl f t s l) HRr.out (by kernel_rfl) rfl rfl (wl_one _ _ _ _) ?_
               obtain ⟨V1, hV1⟩ : ∃ V1, wr.setRow G (wl 1 0 0 l).toArray = V1 := ⟨_, rfl⟩
               refine wpList_world hV1 ?_
               have R1 := Lib.hid (show Row V1 G (wl 1 0 0 l) 35 by rw [← hV1]; exact HRr.out.setRow _)
               have HB1' := Lib.hid (show Below w.heap.size w V1 by rw [← hV1]; exact below_setRow HBR.out hwG _)
               have HM1 := Lib.hid (show Own' V1 M i D by rw [← hV1]; exact HMr.out.kept (World.grownBy_setRow _ _ _) (by simp; omega))
               obtain ⟨z0, z1, z2, z3⟩ := quad R1.out
               clear hV1)
            | fail)
          obtain ⟨m, hm⟩ : ∃ m, l - 1 = m := ⟨_, rfl⟩
          have HRC := Lib.hid (fun W : World => Recover_ok 1 0 0 l W ⟨by omega, by omega, by omega, HF.out.2.2.2⟩ (ok_crash HO.out))
          have HOm := Lib.hid (show Ok l m 0 l by rw [← hm]; exact ok_recover HO.out)
          have HFm := Lib.hid (show Fits l m 0 l from ⟨HF.out.2.2.2, by have := HF.out.2.2.2; omega, by omega, HF.out.2.2.2⟩)
          have HIm := Lib.hid (show Inv D l m 0 l by rw [← hm]; exact HI.out.recover HO.out)
          rw [hm] at HRC
          clear hm
          have n1 : ((l : Int) != (l : Int)) = false := by simp
          refine (HRC.out _).mono ?_
          rintro e w5 ⟨rfl, hb⟩
          have HB5 := Lib.hid (nextB HB1'.out (Nat.le_refl _) hb)
          have R5 := Lib.hid (R1.out.below hb R1.out.lt)
          have HM5 := Lib.hid (show Own' w5 M i D from HM1.out.kept (row := none) ⟨hb.os, hb.tape, hb.output, hb.size, fun k hk _ => hb.block k hk⟩ (by simp))
          have hs5 : w.heap.size ≤ w5.heap.size := HB5.out.size
          have hG5 : G < w5.heap.size := R5.out.lt
          have hM5 : M < w5.heap.size := HM5.out.lt
          obtain ⟨p0, p1, p2, p3⟩ := quadA R5.out
          clear hb q0 q1 q2 q3 c0 c1 z0 z1 z2 z3
          go_wp2_with (first
            | (show wpList _ _ _ (⟨none, .store 35 _ _, _, _, _, _⟩ :: _) _ _; (
               refine wpList_storeRow (n := 4) rfl 35 _ _ rfl rfl rfl (cs := wl l m 0 l) (old := wl 1 0 0 l) (R5.out.alloc _) (by kernel_rfl) rfl rfl (wl_one _ _ _ _) ?_
               obtain ⟨V2, hV2⟩ : ∃ V2, World.setRow (w5.alloc (.cells #[.int .u64 (l : Int), .int .u64 (m : Int), .int .u64 0, .int .u64 (l : Int)] 35)) G (wl l m 0 l).toArray = V2 := ⟨_, rfl⟩
               refine wpList_world hV2 ?_
               have R2 := Lib.hid (show Row V2 G (wl l m 0 l) 35 by rw [← hV2]; exact Row.setRow (R5.out.alloc _) _)
               have HB2 := Lib.hid (show Below w.heap.size w V2 by rw [← hV2]; exact below_setRow (HB5.out.alloc hs5 _) hwG _)
               have HM2 := Lib.hid (show Own' V2 M i D by rw [← hV2]; exact (HM5.out.alloc _).kept (World.grownBy_setRow _ _ _) (by simp; omega))
               obtain ⟨y0, y1, y2, y3⟩ := quad R2.out
               clear hV2))
            | fail)
          refine (Check_ok _ _ _ _ _ (HFm.out).2.2.1 (HOm.out)).mono ?_
          rintro e w' ⟨rfl, rfl⟩
          go_wp2
          go_roundw
          case rel =>
            exact ⟨i + 1, _, _, _, _, D, by omega, by go_num, HFm.out, HOm.out, HIm.out, R2.out.alloc _, ((HM2.out).alloc _).mono (by omega), HB2.out.alloc HB2.out.size _⟩
          case measure => simp [intOf]; omega
      have e4 : ((p : Int) == 4) = false := by rw [beq_eq_false_iff_ne]; omega
      have e5 : ((p : Int) == 5) = false := by rw [beq_eq_false_iff_ne]; omega
      have e6 : ((p : Int) == 6) = false := by rw [beq_eq_false_iff_ne]; omega
      clear hp4 hp5 hp6
      obtain ⟨cm, hcm, hlook⟩ := Win.look HMr.out (x := y) (by omega)
      have HL := Lib.hid hlook
      have HCM := Lib.hid hcm
      clear hlook hcm
      by_cases hre : ref f t s l y = 0
      · as_aux_lemma =>
          have HTK := Lib.hid (fun W : World => Take_ok f t s l y W HF.out (by omega) hre)
          have HOT := Lib.hid (ok_take HF.out hre)
          have HFT := Lib.hid (fits_take HF.out (show y < 2 ^ 64 by omega) hre)
          have HIT := Lib.hid (HI.out.take HMr.out HF.out (show y < 2 ^ 64 by omega) hre)
          have hcf : cm = false := by
            rcases hq : cm with _ | _
            · rfl
            · exact absurd (HCM.out.2 hq) (HI.out.new (by omega) hre)
          obtain ⟨_, _, _, k1, _, _, k2⟩ := ref_ok hre
          have g1 : ¬ (l : Int) ≤ (y : Int) := by omega
          have g2 : decide (l ≤ y) = false := by rw [decide_eq_false_iff_not]; omega
          have g3 : ¬ (y : Int) < (f : Int) := by omega
          have g4 : decide (y < f) = false := by rw [decide_eq_false_iff_not]; omega
          obtain ⟨T, hT⟩ : ∃ T, takeT t y = T := ⟨_, rfl⟩
          obtain ⟨S, hS⟩ : ∃ S, takeS t s y = S := ⟨_, rfl⟩
          rw [hT, hS] at HTK HOT HFT HIT
          subst hcf
          clear hT hS hre k1 k2
          go_wp2_with fail
          refine (Pick_any x 7 _ Hx.out (by omega)).mono ?_
          rw [hp]
          rintro e w' ⟨rfl, rfl⟩
          go_wp2_with fail
          refine (HTK.out _).mono ?_
          rintro e w5 ⟨rfl, hb⟩
          have HB5 := Lib.hid (nextB HBR.out (Nat.le_refl _) hb)
          have R5 := Lib.hid (HRr.out.below hb HRr.out.lt)
          have HM5 := Lib.hid (show Own' w5 M i D from HMr.out.kept (row := none) ⟨hb.os, hb.tape, hb.output, hb.size, fun k hk _ => hb.block k hk⟩ (by simp))
          have hs5 : w.heap.size ≤ w5.heap.size := HB5.out.size
          have hG5 : G < w5.heap.size := R5.out.lt
          have hM5 : M < w5.heap.size := HM5.out.lt
          obtain ⟨p0, p1, p2, p3⟩ := quadA R5.out
          clear hb q0 q1 q2 q3 c0 c1
          have hlk : ∀ o, (Instr.lookup 43 (.map (some M)) (.int .u64 (y : Int)) false).run Try.prog (w5.alloc o) = .ok (.bool false) (w5.alloc o) := fun o => HL.out _ i (HM5.out.alloc o)
          go_wp2_with fail
          obtain ⟨V, hV⟩ : ∃ V, w5.alloc (.cells #[.int .u64 (f : Int), .int .u64 (T : Int), .int .u64 (S : Int), .int .u64 (l : Int)] 35) = V := ⟨_, rfl⟩
          rw [hV]
          have RV := Lib.hid (show Row V G (wl f t s l) 35 by rw [← hV]; exact R5.out.alloc _)
          have RX := Lib.hid (show Row V w5.heap.size (wl f T S l) 35 by rw [← hV]; exact Row.new rfl rfl)
          have HBV := Lib.hid (show Below w.heap.size w V by rw [← hV]; exact HB5.out.alloc hs5 _)
          have HMV := Lib.hid (show Own' V M i D by rw [← hV]; exact HM5.out.alloc _)
          clear hV p0 p1 p2 p3 hlk
          obtain ⟨V', hup, hown, hgrow⟩ := Win.store (show Own' V.drew M i D from HMV.out) (x := y) (by omega) (by unfold maxLen; omega)
          have RV' := Lib.hid (show Row V' G (wl f t s l) 35 from Row.kept' (w := V.drew) RV.out hgrow hGM)
          have RX' := Lib.hid (show Row V' w5.heap.size (wl f T S l) 35 from Row.kept' (w := V.drew) RX.out hgrow (by have := RX.out.lt; omega))
          have HB' := Lib.hid (show Below w.heap.size w V' from HBV.out.drew.grown hgrow HBV.out.size (fun k hk => by injection hk with hk; omega))
          have HM' := Lib.hid hown
          obtain ⟨z0, z1, z2, z3⟩ := quad (show Row V.drew w5.heap.size (wl f T S l) 35 from RX.out)
          obtain ⟨z4, z5, z6, z7⟩ := quad RX'.out
          obtain ⟨z8, z9, z10, z11⟩ := quad RV'.out
          have z12 := frozen_row RV'.out 0
          have z13 := frozen_row RV'.out 1
          have z14 := frozen_row RV'.out 2
          have z15 := frozen_row RV'.out 3
          clear hgrow hown
          go_region
          obtain ⟨V2, hV2⟩ : ∃ V2, (((V'.setCell ⟨G, 0, none⟩ (.int .u64 (f : Int))).setCell ⟨G, 1, none⟩ (.int .u64 (T : Int))).setCell ⟨G, 2, none⟩ (.int .u64 (S : Int))).setCell ⟨G, 3, none⟩ (.int .u64 (l : Int)) = V2 := ⟨_, rfl⟩
          rw [hV2]
          have R2 := Lib.hid (show Row V2 G (wl f T S l) 35 by rw [← hV2]; exact (((RV'.out.set 0 _).set 1 _).set 2 _).set 3 _)
          have HB2 := Lib.hid (show Below w.heap.size w V2 by rw [← hV2]; exact (((HB'.out.setCell hwG _).setCell hwG _).setCell hwG _).setCell hwG _)
          have HM2 := Lib.hid (show Own' V2 M (i + 1) (D.put (.int .u64 (y : Int)) (.lit (.bool true))) by rw [← hV2]; exact (((HM'.out.setCell hMG _).setCell hMG _).setCell hMG _).setCell hMG _)
          obtain ⟨y0, y1, y2, y3⟩ := quad R2.out
          clear hV2 z0 z1 z2 z3 z4 z5 z6 z7 z8 z9 z10 z11 z12 z13 z14 z15 hup
          go_wp2_with fail
          refine (Check_ok _ _ _ _ _ (HFT.out).2.2.1 (HOT.out)).mono ?_
          rintro e w' ⟨rfl, rfl⟩
          go_wp2
          go_roundw
          case rel =>
            exact ⟨i + 1, _, _, _, _, (D.put (.int .u64 (y : Int)) (.lit (.bool true))), by omega, by go_num, HFT.out, HOT.out, HIT.out, R2.out.alloc _, ((HM2.out).alloc _).mono (by omega), HB2.out.alloc HB2.out.size _⟩
          case measure => simp [intOf]; omega
      · obtain ⟨r, hr⟩ : ∃ r, ref f t s l y = r := ⟨_, rfl⟩
        have HWHY := Lib.hid (ref_why HO.out hre)
        have HTK := Lib.hid (fun W : World => Take_any f t s l y W HF.out (by omega))
        rw [hr] at HTK hre
        have r1 : ((r : Int) == 0) = false := by rw [beq_eq_false_iff_ne]; omega
        obtain ⟨a0, b0⟩ : ∃ a0, tk f t s l y 0 = a0 := ⟨_, rfl⟩
        obtain ⟨a1, b1⟩ : ∃ a0, tk f t s l y 1 = a0 := ⟨_, rfl⟩
        obtain ⟨a2, b2⟩ : ∃ a0, tk f t s l y 2 = a0 := ⟨_, rfl⟩
        obtain ⟨a3, b3⟩ : ∃ a0, tk f t s l y 3 = a0 := ⟨_, rfl⟩
        rw [b0, b1, b2, b3] at HTK
        clear hr hre b0 b1 b2 b3
        by_cases hc : y < 1
        · obtain rfl : y = 0 := by omega
          replace HTK : Hid (∀ W : World, Calls Try.prog 19 #[wv f t s l, .int .u64 0] W fun e w' => e = .returned (.tuple #[wv a0 a1 a2 a3, .int .i64 (r : Int)]) ∧ Below W.heap.size W w') := HTK
          replace c1 : wr.cell? ⟨b, off + i * 2 + 1, none⟩ = some (.int .u64 0) := c1
          clear hc HWHY hy2
          cases cm
          · as_aux_lemma =>
              go_wp2_with fail
              refine (Pick_any x 7 _ Hx.out (by omega)).mono ?_
              rw [hp]
              rintro e w' ⟨rfl, rfl⟩
              go_wp2_with fail
              refine (HTK.out _).mono ?_
              rintro e w5 ⟨rfl, hb⟩
              have HB5 := Lib.hid (nextB HBR.out (Nat.le_refl _) hb)
              have R5 := Lib.hid (HRr.out.below hb HRr.out.lt)
              have HM5 := Lib.hid (show Own' w5 M i D from HMr.out.kept (row := none) ⟨hb.os, hb.tape, hb.output, hb.size, fun k hk _ => hb.block k hk⟩ (by simp))
              have hs5 : w.heap.size ≤ w5.heap.size := HB5.out.size
              have hG5 : G < w5.heap.size := R5.out.lt
              have hM5 : M < w5.heap.size := HM5.out.lt
              obtain ⟨p0, p1, p2, p3⟩ := quadA R5.out
              clear hb q0 q1 q2 q3 c0 c1
              have hlk : ∀ o, (Instr.lookup 43 (.map (some M)) (.int .u64 0) false).run Try.prog (w5.alloc o) = .ok (.bool false) (w5.alloc o) := fun o => HL.out _ i (HM5.out.alloc o)
              go_wp2_with fail
              refine (Check_ok _ _ _ _ _ (HF.out).2.2.1 (HO.out)).mono ?_
              rintro e w' ⟨rfl, rfl⟩
              go_wp2
              go_roundw
              case rel =>
                exact ⟨i + 1, _, _, _, _, D, by omega, by go_num, HF.out, HO.out, HI.out, (R5.out.alloc _).alloc _, ((HM5.out.alloc _).alloc _).mono (by omega), (HB5.out.alloc hs5 _).alloc (HB5.out.alloc hs5 _).size _⟩
              case measure => simp [intOf]; omega
          · as_aux_lemma =>
              go_wp2_with fail
              refine (Pick_any x 7 _ Hx.out (by omega)).mono ?_
              rw [hp]
              rintro e w' ⟨rfl, rfl⟩
              go_wp2_with fail
              refine (HTK.out _).mono ?_
              rintro e w5 ⟨rfl, hb⟩
              have HB5 := Lib.hid (nextB HBR.out (Nat.le_refl _) hb)
              have R5 := Lib.hid (HRr.out.below hb HRr.out.lt)
              have HM5 := Lib.hid (show Own' w5 M i D from HMr.out.kept (row := none) ⟨hb.os, hb.tape, hb.output, hb.size, fun k hk _ => hb.block k hk⟩ (by simp))
              have hs5 : w.heap.size ≤ w5.heap.size := HB5.out.size
              have hG5 : G < w5.heap.size := R5.out.lt
              have hM5 : M < w5.heap.size := HM5.out.lt
              obtain ⟨p0, p1, p2, p3⟩ := quadA R5.out
              clear hb q0 q1 q2 q3 c0 c1
              have hlk : ∀ o, (Instr.lookup 43 (.map (some M)) (.int .u64 0) false).run Try.prog (w5.alloc o) = .ok (.bool true) (w5.alloc o) := fun o => HL.out _ i (HM5.out.alloc o)
              go_wp2_with fail
              refine (Check_ok _ _ _ _ _ (HF.out).2.2.1 (HO.out)).mono ?_
              rintro e w' ⟨rfl, rfl⟩
              go_wp2
              go_roundw
              case rel =>
                exact ⟨i + 1, _, _, _, _, D, by omega, by go_num, HF.out, HO.out, HI.out, (R5.out.alloc _).alloc _, ((HM5.out.alloc _).alloc _).mono (by omega), (HB5.out.alloc hs5 _).alloc (HB5.out.alloc hs5 _).size _⟩
              case measure => simp [intOf]; omega
        have z1 : ¬ (y : Int) < 1 := by omega
        have z2 : ¬ y = 0 := by omega
        replace HWHY := HWHY.out.resolve_left hc
        clear hc
        by_cases hc : 1152921504606846976 < y
        · have z3 : (1152921504606846976 : Int) < (y : Int) := by omega
          clear hc HWHY
          cases cm
          · as_aux_lemma =>
              go_wp2_with fail
              refine (Pick_any x 7 _ Hx.out (by omega)).mono ?_
              rw [hp]
              rintro e w' ⟨rfl, rfl⟩
              go_wp2_with fail
              refine (HTK.out _).mono ?_
              rintro e w5 ⟨rfl, hb⟩
              have HB5 := Lib.hid (nextB HBR.out (Nat.le_refl _) hb)
              have R5 := Lib.hid (HRr.out.below hb HRr.out.lt)
              have HM5 := Lib.hid (show Own' w5 M i D from HMr.out.kept (row := none) ⟨hb.os, hb.tape, hb.output, hb.size, fun k hk _ => hb.block k hk⟩ (by simp))
              have hs5 : w.heap.size ≤ w5.heap.size := HB5.out.size
              have hG5 : G < w5.heap.size := R5.out.lt
              have hM5 : M < w5.heap.size := HM5.out.lt
              obtain ⟨p0, p1, p2, p3⟩ := quadA R5.out
              clear hb q0 q1 q2 q3 c0 c1
              have hlk : ∀ o, (Instr.lookup 43 (.map (some M)) (.int .u64 (y : Int)) false).run Try.prog (w5.alloc o) = .ok (.bool false) (w5.alloc o) := fun o => HL.out _ i (HM5.out.alloc o)
              go_wp2_with fail
              refine (Check_ok _ _ _ _ _ (HF.out).2.2.1 (HO.out)).mono ?_
              rintro e w' ⟨rfl, rfl⟩
              go_wp2
              go_roundw
              case rel =>
                exact ⟨i + 1, _, _, _, _, D, by omega, by go_num, HF.out, HO.out, HI.out, (R5.out.alloc _).alloc _, ((HM5.out.alloc _).alloc _).mono (by omega), (HB5.out.alloc hs5 _).alloc (HB5.out.alloc hs5 _).size _⟩
              case measure => simp [intOf]; omega
          · as_aux_lemma =>
              go_wp2_with fail
              refine (Pick_any x 7 _ Hx.out (by omega)).mono ?_
              rw [hp]
              rintro e w' ⟨rfl, rfl⟩
              go_wp2_with fail
              refine (HTK.out _).mono ?_
              rintro e w5 ⟨rfl, hb⟩
              have HB5 := Lib.hid (nextB HBR.out (Nat.le_refl _) hb)
              have R5 := Lib.hid (HRr.out.below hb HRr.out.lt)
              have HM5 := Lib.hid (show Own' w5 M i D from HMr.out.kept (row := none) ⟨hb.os, hb.tape, hb.output, hb.size, fun k hk _ => hb.block k hk⟩ (by simp))
              have hs5 : w.heap.size ≤ w5.heap.size := HB5.out.size
              have hG5 : G < w5.heap.size := R5.out.lt
              have hM5 : M < w5.heap.size := HM5.out.lt
              obtain ⟨p0, p1, p2, p3⟩ := quadA R5.out
              clear hb q0 q1 q2 q3 c0 c1
              have hlk : ∀ o, (Instr.lookup 43 (.map (some M)) (.int .u64 (y : Int)) false).run Try.prog (w5.alloc o) = .ok (.bool true) (w5.alloc o) := fun o => HL.out _ i (HM5.out.alloc o)
              go_wp2_with fail
              refine (Check_ok _ _ _ _ _ (HF.out).2.2.1 (HO.out)).mono ?_
              rintro e w' ⟨rfl, rfl⟩
              go_wp2
              go_roundw
              case rel =>
                exact ⟨i + 1, _, _, _, _, D, by omega, by go_num, HF.out, HO.out, HI.out, (R5.out.alloc _).alloc _, ((HM5.out.alloc _).alloc _).mono (by omega), (HB5.out.alloc hs5 _).alloc (HB5.out.alloc hs5 _).size _⟩
              case measure => simp [intOf]; omega
        have z3 : ¬ (1152921504606846976 : Int) < (y : Int) := by omega
        replace HWHY := HWHY.resolve_left hc
        clear hc
        by_cases hc : y < f
        · have z41 : (y : Int) < (f : Int) := by omega
          have z42 : decide (y < f) = true := by rw [decide_eq_true_eq]; omega
          clear hc HWHY
          cases cm
          · as_aux_lemma =>
              go_wp2_with fail
              refine (Pick_any x 7 _ Hx.out (by omega)).mono ?_
              rw [hp]
              rintro e w' ⟨rfl, rfl⟩
              go_wp2_with fail
              refine (HTK.out _).mono ?_
              rintro e w5 ⟨rfl, hb⟩
              have HB5 := Lib.hid (nextB HBR.out (Nat.le_refl _) hb)
              have R5 := Lib.hid (HRr.out.below hb HRr.out.lt)
              have HM5 := Lib.hid (show Own' w5 M i D from HMr.out.kept (row := none) ⟨hb.os, hb.tape, hb.output, hb.size, fun k hk _ => hb.block k hk⟩ (by simp))
              have hs5 : w.heap.size ≤ w5.heap.size := HB5.out.size
              have hG5 : G < w5.heap.size := R5.out.lt
              have hM5 : M < w5.heap.size := HM5.out.lt
              obtain ⟨p0, p1, p2, p3⟩ := quadA R5.out
              clear hb q0 q1 q2 q3 c0 c1
              have hlk : ∀ o, (Instr.lookup 43 (.map (some M)) (.int .u64 (y : Int)) false).run Try.prog (w5.alloc o) = .ok (.bool false) (w5.alloc o) := fun o => HL.out _ i (HM5.out.alloc o)
              go_wp2_with fail
              refine (Check_ok _ _ _ _ _ (HF.out).2.2.1 (HO.out)).mono ?_
              rintro e w' ⟨rfl, rfl⟩
              go_wp2
              go_roundw
              case rel =>
                exact ⟨i + 1, _, _, _, _, D, by omega, by go_num, HF.out, HO.out, HI.out, (R5.out.alloc _).alloc _, ((HM5.out.alloc _).alloc _).mono (by omega), (HB5.out.alloc hs5 _).alloc (HB5.out.alloc hs5 _).size _⟩
              case measure => simp [intOf]; omega
          · as_aux_lemma =>
              go_wp2_with fail
              refine (Pick_any x 7 _ Hx.out (by omega)).mono ?_
              rw [hp]
              rintro e w' ⟨rfl, rfl⟩
              go_wp2_with fail
              refine (HTK.out _).mono ?_
              rintro e w5 ⟨rfl, hb⟩
              have HB5 := Lib.hid (nextB HBR.out (Nat.le_refl _) hb)
              have R5 := Lib.hid (HRr.out.below hb HRr.out.lt)
              have HM5 := Lib.hid (show Own' w5 M i D from HMr.out.kept (row := none) ⟨hb.os, hb.tape, hb.output, hb.size, fun k hk _ => hb.block k hk⟩ (by simp))
              have hs5 : w.heap.size ≤ w5.heap.size := HB5.out.size
              have hG5 : G < w5.heap.size := R5.out.lt
              have hM5 : M < w5.heap.size := HM5.out.lt
              obtain ⟨p0, p1, p2, p3⟩ := quadA R5.out
              clear hb q0 q1 q2 q3 c0 c1
              have hlk : ∀ o, (Instr.lookup 43 (.map (some M)) (.int .u64 (y : Int)) false).run Try.prog (w5.alloc o) = .ok (.bool true) (w5.alloc o) := fun o => HL.out _ i (HM5.out.alloc o)
              go_wp2_with fail
              refine (Check_ok _ _ _ _ _ (HF.out).2.2.1 (HO.out)).mono ?_
              rintro e w' ⟨rfl, rfl⟩
              go_wp2
              go_roundw
              case rel =>
                exact ⟨i + 1, _, _, _, _, D, by omega, by go_num, HF.out, HO.out, HI.out, (R5.out.alloc _).alloc _, ((HM5.out.alloc _).alloc _).mono (by omega), (HB5.out.alloc hs5 _).alloc (HB5.out.alloc hs5 _).size _⟩
              case measure => simp [intOf]; omega
        have z41 : ¬ (y : Int) < (f : Int) := by omega
        have z42 : decide (y < f) = false := by rw [decide_eq_false_iff_not]; omega
        replace HWHY := HWHY.resolve_left hc
        clear hc
        by_cases hc : y ≤ t ∧ 64 ≤ t - y
        · have z51 : (y : Int) ≤ (t : Int) := by omega
          have z52 : decide (y ≤ t) = true := by rw [decide_eq_true_eq]; omega
          have z6 : IntKind.u64.wrap ((t : Int) - (y : Int)) = ((t - y : Nat) : Int) := by have := HF.out.2.1; rw [wrap_in _ (by omega) (by omega)]; omega
          obtain ⟨zz, hzz⟩ : ∃ zz : Int, ((t - y : Nat) : Int) = zz := ⟨_, rfl⟩
          have z7 : (64 : Int) ≤ zz := by omega
          rw [hzz] at z6
          clear hzz
          clear hc HWHY
          cases cm
          · as_aux_lemma =>
              go_wp2_with fail
              refine (Pick_any x 7 _ Hx.out (by omega)).mono ?_
              rw [hp]
              rintro e w' ⟨rfl, rfl⟩
              go_wp2_with fail
              refine (HTK.out _).mono ?_
              rintro e w5 ⟨rfl, hb⟩
              have HB5 := Lib.hid (nextB HBR.out (Nat.le_refl _) hb)
              have R5 := Lib.hid (HRr.out.below hb HRr.out.lt)
              have HM5 := Lib.hid (show Own' w5 M i D from HMr.out.kept (row := none) ⟨hb.os, hb.tape, hb.output, hb.size, fun k hk _ => hb.block k hk⟩ (by simp))
              have hs5 : w.heap.size ≤ w5.heap.size := HB5.out.size
              have hG5 : G < w5.heap.size := R5.out.lt
              have hM5 : M < w5.heap.size := HM5.out.lt
              obtain ⟨p0, p1, p2, p3⟩ := quadA R5.out
              clear hb q0 q1 q2 q3 c0 c1
              have hlk : ∀ o, (Instr.lookup 43 (.map (some M)) (.int .u64 (y : Int)) false).run Try.prog (w5.alloc o) = .ok (.bool false) (w5.alloc o) := fun o => HL.out _ i (HM5.out.alloc o)
              go_wp2_with fail
              refine (Check_ok _ _ _ _ _ (HF.out).2.2.1 (HO.out)).mono ?_
              rintro e w' ⟨rfl, rfl⟩
              go_wp2
              go_roundw
              case rel =>
                exact ⟨i + 1, _, _, _, _, D, by omega, by go_num, HF.out, HO.out, HI.out, (R5.out.alloc _).alloc _, ((HM5.out.alloc _).alloc _).mono (by omega), (HB5.out.alloc hs5 _).alloc (HB5.out.alloc hs5 _).size _⟩
              case measure => simp [intOf]; omega
          · as_aux_lemma =>
              go_wp2_with fail
              refine (Pick_any x 7 _ Hx.out (by omega)).mono ?_
              rw [hp]
              rintro e w' ⟨rfl, rfl⟩
              go_wp2_with fail
              refine (HTK.out _).mono ?_
              rintro e w5 ⟨rfl, hb⟩
              have HB5 := Lib.hid (nextB HBR.out (Nat.le_refl _) hb)
              have R5 := Lib.hid (HRr.out.below hb HRr.out.lt)
              have HM5 := Lib.hid (show Own' w5 M i D from HMr.out.kept (row := none) ⟨hb.os, hb.tape, hb.output, hb.size, fun k hk _ => hb.block k hk⟩ (by simp))
              have hs5 : w.heap.size ≤ w5.heap.size := HB5.out.size
              have hG5 : G < w5.heap.size := R5.out.lt
              have hM5 : M < w5.heap.size := HM5.out.lt
              obtain ⟨p0, p1, p2, p3⟩ := quadA R5.out
              clear hb q0 q1 q2 q3 c0 c1
              have hlk : ∀ o, (Instr.lookup 43 (.map (some M)) (.int .u64 (y : Int)) false).run Try.prog (w5.alloc o) = .ok (.bool true) (w5.alloc o) := fun o => HL.out _ i (HM5.out.alloc o)
              go_wp2_with fail
              refine (Check_ok _ _ _ _ _ (HF.out).2.2.1 (HO.out)).mono ?_
              rintro e w' ⟨rfl, rfl⟩
              go_wp2
              go_roundw
              case rel =>
                exact ⟨i + 1, _, _, _, _, D, by omega, by go_num, HF.out, HO.out, HI.out, (R5.out.alloc _).alloc _, ((HM5.out.alloc _).alloc _).mono (by omega), (HB5.out.alloc hs5 _).alloc (HB5.out.alloc hs5 _).size _⟩
              case measure => simp [intOf]; omega
        have HWHY := Lib.hid (HWHY.resolve_left hc)
        have hcm : cm = true ∨ (cm = false ∧ l ≤ y) := by
          rcases HWHY.out with ⟨h1, h2⟩ | h
          · exact .inl (HCM.out.1 (HI.out.b y (by omega) h1 h2))
          · cases cm
            · exact .inr ⟨rfl, h⟩
            · exact .inl rfl
        clear HWHY
        by_cases hyt : y ≤ t
        · have z51 : (y : Int) ≤ (t : Int) := by omega
          have z52 : decide (y ≤ t) = true := by rw [decide_eq_true_eq]; omega
          have z6 : IntKind.u64.wrap ((t : Int) - (y : Int)) = ((t - y : Nat) : Int) := by have := HF.out.2.1; rw [wrap_in _ (by omega) (by omega)]; omega
          obtain ⟨zz, hzz⟩ : ∃ zz : Int, ((t - y : Nat) : Int) = zz := ⟨_, rfl⟩
          have z7 : ¬ (64 : Int) ≤ zz := by omega
          rw [hzz] at z6
          clear hzz hc hyt
          rcases hcm with rfl | ⟨rfl, hly⟩
          · as_aux_lemma =>
              go_wp2_with fail
              refine (Pick_any x 7 _ Hx.out (by omega)).mono ?_
              rw [hp]
              rintro e w' ⟨rfl, rfl⟩
              go_wp2_with fail
              refine (HTK.out _).mono ?_
              rintro e w5 ⟨rfl, hb⟩
              have HB5 := Lib.hid (nextB HBR.out (Nat.le_refl _) hb)
              have R5 := Lib.hid (HRr.out.below hb HRr.out.lt)
              have HM5 := Lib.hid (show Own' w5 M i D from HMr.out.kept (row := none) ⟨hb.os, hb.tape, hb.output, hb.size, fun k hk _ => hb.block k hk⟩ (by simp))
              have hs5 : w.heap.size ≤ w5.heap.size := HB5.out.size
              have hG5 : G < w5.heap.size := R5.out.lt
              have hM5 : M < w5.heap.size := HM5.out.lt
              obtain ⟨p0, p1, p2, p3⟩ := quadA R5.out
              clear hb q0 q1 q2 q3 c0 c1
              have hlk : ∀ o, (Instr.lookup 43 (.map (some M)) (.int .u64 (y : Int)) false).run Try.prog (w5.alloc o) = .ok (.bool true) (w5.alloc o) := fun o => HL.out _ i (HM5.out.alloc o)
              go_wp2_with fail
              refine (Check_ok _ _ _ _ _ (HF.out).2.2.1 (HO.out)).mono ?_
              rintro e w' ⟨rfl, rfl⟩
              go_wp2
              go_roundw
              case rel =>
                exact ⟨i + 1, _, _, _, _, D, by omega, by go_num, HF.out, HO.out, HI.out, (R5.out.alloc _).alloc _, ((HM5.out.alloc _).alloc _).mono (by omega), (HB5.out.alloc hs5 _).alloc (HB5.out.alloc hs5 _).size _⟩
              case measure => simp [intOf]; omega
          · have z8 : (l : Int) ≤ (y : Int) := by omega
            have z9 : ¬ (y : Int) < (l : Int) := by omega
            have z10 : decide (y < l) = false := by rw [decide_eq_false_iff_not]; omega
            clear hly
            as_aux_lemma =>
              go_wp2_with fail
              refine (Pick_any x 7 _ Hx.out (by omega)).mono ?_
              rw [hp]
              rintro e w' ⟨rfl, rfl⟩
              go_wp2_with fail
              refine (HTK.out _).mono ?_
              rintro e w5 ⟨rfl, hb⟩
              have HB5 := Lib.hid (nextB HBR.out (Nat.le_refl _) hb)
              have R5 := Lib.hid (HRr.out.below hb HRr.out.lt)
              have HM5 := Lib.hid (show Own' w5 M i D from HMr.out.kept (row := none) ⟨hb.os, hb.tape, hb.output, hb.size, fun k hk _ => hb.block k hk⟩ (by simp))
              have hs5 : w.heap.size ≤ w5.heap.size := HB5.out.size
              have hG5 : G < w5.heap.size := R5.out.lt
              have hM5 : M < w5.heap.size := HM5.out.lt
              obtain ⟨p0, p1, p2, p3⟩ := quadA R5.out
              clear hb q0 q1 q2 q3 c0 c1
              have hlk : ∀ o, (Instr.lookup 43 (.map (some M)) (.int .u64 (y : Int)) false).run Try.prog (w5.alloc o) = .ok (.bool false) (w5.alloc o) := fun o => HL.out _ i (HM5.out.alloc o)
              go_wp2_with fail
              refine (Check_ok _ _ _ _ _ (HF.out).2.2.1 (HO.out)).mono ?_
              rintro e w' ⟨rfl, rfl⟩
              go_wp2
              go_roundw
              case rel =>
                exact ⟨i + 1, _, _, _, _, D, by omega, by go_num, HF.out, HO.out, HI.out, (R5.out.alloc _).alloc _, ((HM5.out.alloc _).alloc _).mono (by omega), (HB5.out.alloc hs5 _).alloc (HB5.out.alloc hs5 _).size _⟩
              case measure => simp [intOf]; omega
        · have z51 : ¬ (y : Int) ≤ (t : Int) := by omega
          have z52 : decide (y ≤ t) = false := by rw [decide_eq_false_iff_not]; omega
          clear hc hyt
          rcases hcm with rfl | ⟨rfl, hly⟩
          · as_aux_lemma =>
              go_wp2_with fail
              refine (Pick_any x 7 _ Hx.out (by omega)).mono ?_
              rw [hp]
              rintro e w' ⟨rfl, rfl⟩
              go_wp2_with fail
              refine (HTK.out _).mono ?_
              rintro e w5 ⟨rfl, hb⟩
              have HB5 := Lib.hid (nextB HBR.out (Nat.le_refl _) hb)
              have R5 := Lib.hid (HRr.out.below hb HRr.out.lt)
              have HM5 := Lib.hid (show Own' w5 M i D from HMr.out.kept (row := none) ⟨hb.os, hb.tape, hb.output, hb.size, fun k hk _ => hb.block k hk⟩ (by simp))
              have hs5 : w.heap.size ≤ w5.heap.size := HB5.out.size
              have hG5 : G < w5.heap.size := R5.out.lt
              have hM5 : M < w5.heap.size := HM5.out.lt
              obtain ⟨p0, p1, p2, p3⟩ := quadA R5.out
              clear hb q0 q1 q2 q3 c0 c1
              have hlk : ∀ o, (Instr.lookup 43 (.map (some M)) (.int .u64 (y : Int)) false).run Try.prog (w5.alloc o) = .ok (.bool true) (w5.alloc o) := fun o => HL.out _ i (HM5.out.alloc o)
              go_wp2_with fail
              refine (Check_ok _ _ _ _ _ (HF.out).2.2.1 (HO.out)).mono ?_
              rintro e w' ⟨rfl, rfl⟩
              go_wp2
              go_roundw
              case rel =>
                exact ⟨i + 1, _, _, _, _, D, by omega, by go_num, HF.out, HO.out, HI.out, (R5.out.alloc _).alloc _, ((HM5.out.alloc _).alloc _).mono (by omega), (HB5.out.alloc hs5 _).alloc (HB5.out.alloc hs5 _).size _⟩
              case measure => simp [intOf]; omega
          · have z8 : (l : Int) ≤ (y : Int) := by omega
            have z9 : ¬ (y : Int) < (l : Int) := by omega
            have z10 : decide (y < l) = false := by rw [decide_eq_false_iff_not]; omega
            clear hly
            as_aux_lemma =>
              go_wp2_with fail
              refine (Pick_any x 7 _ Hx.out (by omega)).mono ?_
              rw [hp]
              rintro e w' ⟨rfl, rfl⟩
              go_wp2_with fail
              refine (HTK.out _).mono ?_
              rintro e w5 ⟨rfl, hb⟩
              have HB5 := Lib.hid (nextB HBR.out (Nat.le_refl _) hb)
              have R5 := Lib.hid (HRr.out.below hb HRr.out.lt)
              have HM5 := Lib.hid (show Own' w5 M i D from HMr.out.kept (row := none) ⟨hb.os, hb.tape, hb.output, hb.size, fun k hk _ => hb.block k hk⟩ (by simp))
              have hs5 : w.heap.size ≤ w5.heap.size := HB5.out.size
              have hG5 : G < w5.heap.size := R5.out.lt
              have hM5 : M < w5.heap.size := HM5.out.lt
              obtain ⟨p0, p1, p2, p3⟩ := quadA R5.out
              clear hb q0 q1 q2 q3 c0 c1
              have hlk : ∀ o, (Instr.lookup 43 (.map (some M)) (.int .u64 (y : Int)) false).run Try.prog (w5.alloc o) = .ok (.bool false) (w5.alloc o) := fun o => HL.out _ i (HM5.out.alloc o)
              go_wp2_with fail
              refine (Check_ok _ _ _ _ _ (HF.out).2.2.1 (HO.out)).mono ?_
              rintro e w' ⟨rfl, rfl⟩
              go_wp2
              go_roundw
              case rel =>
                exact ⟨i + 1, _, _, _, _, D, by omega, by go_num, HF.out, HO.out, HI.out, (R5.out.alloc _).alloc _, ((HM5.out.alloc _).alloc _).mono (by omega), (HB5.out.alloc hs5 _).alloc (HB5.out.alloc hs5 _).size _⟩
              case measure => simp [intOf]; omega
    · have hin' : ¬ (i : Int) < (N : Int) := by omega
      go_wp2
      go_ret
      exact ⟨rfl, HBR.out⟩

set_option maxRecDepth 100000 in
theorem lift (os : Os) (started : os.Started) (H : Type) (enc : TypeId × Value → H) :
    ReturnsInHanded {} Try.checked os 5 .any (Rows.windowOnceSpec.pre6 enc Try.prog Try.f5 Rows.windowOnceRow.domain false) (Rows.windowOnceSpec.post enc Try.prog Try.f5 false true false false) := by
  refine Law.lifted (C := Try.checked) 4 own started (by kernel_rfl) Try.func5 laid (by kernel_rfl) rfl Try.underlying4 rfl
    (fun ds hd => by
      have hd' : ds.length = 1 := hd
      match ds, hd' with
      | [d0], _ => rfl)
    (ChangeSpec.witness6 (enc := enc) (C := Try.checked) false ⟨#[], #[.slice none 0 0], []⟩ 8 (by kernel_rfl) (by kernel_rfl) (by kernel_rfl) (by kernel_rfl)) ?_
  intro W args ds ps hst
  have hA : DataW.TrodAll enc Try.prog W 0 (fun _ => true) true Try.f5.params.toList args.toList ds ps := hst.trod
  have hok := hst.okw
  have hlt := hst.lt
  rw [Try.params5] at hA hok
  obtain ⟨v0, d0, rfl, rfl, h0⟩ := trodAll_one hA
  obtain ⟨_, hv0⟩ := hok 0 42 v0 rfl rfl
  obtain ⟨N, f, hr, _, hf⟩ := recsK_trod Try.underlying42 Try.underlying45 (by decide) (by kernel_rfl) (by kernel_rfl) [.i64, .u64] (fun j f hj => by
    match j, hj with
    | 0, hj => simp at hj; subst hj; exact Try.underlying3
    | 1, hj => simp at hj; subst hj; exact Try.underlying24
    | j + 2, hj => simp at hj) hv0 h0 hlt
  have hr0 := hr
  obtain ⟨A, c, rfl, _, _⟩ := hr0
  by_cases hN : N ≤ 100
  · refine walk A c N f W hr hN fun i hi => ?_
    have h1 := hf i hi 0 (by decide)
    have h2 := hf i hi 1 (by decide)
    have h1' : -9223372036854775808 ≤ f i 0 ∧ f i 0 ≤ 9223372036854775807 := h1
    have h2' : 0 ≤ f i 1 ∧ f i 1 ≤ 18446744073709551615 := h2
    exact ⟨h1', h2'.1, by omega⟩
  · exact long A c N W (by omega)

theorem over : Rows.windowOnceRow.holds Try.pinned (OpenSpec.ofChange Rows.windowOnceSpec) :=
  OpenClaim.holds_of_wide 5 Try.f5 rfl rfl rfl rfl rfl rfl rfl ⟨rfl, rfl, rfl, rfl, rfl⟩ rfl rfl rfl rfl rfl (by kernel_rfl) Try.func5 (by kernel_rfl)
    (of_decide_eq_true (by kernel_rfl)) (by unfold Func.isWrapper; first | (rw [if_pos (by decide +kernel)]; kernel_rfl) | (rw [if_neg (by decide +kernel)]; exact ⟨rfl, rfl⟩))
    (fun os started H enc _ => lift os started H enc)
theorem proved : Rows.WindowOnceSaid := over
#print axioms proved
end Go.Proofs.Ytnpmlbpnlflkkaa.windowOnce

