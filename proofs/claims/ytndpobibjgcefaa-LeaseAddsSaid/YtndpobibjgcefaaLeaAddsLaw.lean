/- Leasing some, then some more, is leasing both at once: 'drawbridgelaw06.LeaseAdds'. -/
import Derived.Test.YtndpobibjgcefaaLeaCalls
import Derived.Test.YtndpobibjgcefaaLeaLives
import Derived.Test.YtndpobibjgcefaaKitBase
import Derived.Test.YtndpobibjgcefaaCells
namespace Go.Proofs.Ytndpobibjgcefaa.leaseAdds
open Go.ChangeShapes Go.WideShapes Go.ChangeAt Go.RowKit Lea

abbrev cl (n l : Nat) : List Value := [.int .u64 (n : Int), .int .u64 (l : Int)]
theorem cells0 {W : World} {g : Nat} {n l : Nat} (h : Row W g (cl n l) 24) : W.cell? ⟨g, 0, none⟩ = some (.int .u64 (n : Int)) := h.cell rfl
theorem cells1 {W : World} {g : Nat} {n l : Nat} (h : Row W g (cl n l) 24) : W.cell? ⟨g, 1, none⟩ = some (.int .u64 (l : Int)) := h.cell rfl

set_option maxHeartbeats 2000000 in
theorem walkA (n l a b : Nat) (k : Int) (w : World) (hn : n < 2 ^ 64) (hl : l < 2 ^ 64) (hk : -9223372036854775808 ≤ k ∧ k ≤ 9223372036854775807) (h : ¬ Ok n l) :
    Calls Try.prog 7 #[cv n l, .int .u64 (a : Int), .int .u64 (b : Int), .int .i64 k] w fun e w' => e = .returned (.bool true) ∧ Below w.heap.size w w' := by
  have Hk := Lib.hid hk
  clear hk
  obtain ⟨A, hA, hA2, hA3⟩ : ∃ A : Nat, (1 : Int) + (a : Int) % 576460752303423488 = (A : Int) ∧ 0 < A ∧ A ≤ 576460752303423488 := ⟨1 + a % 576460752303423488, by omega, by omega, by omega⟩
  obtain ⟨B, hB, hB2, hB3⟩ : ∃ B : Nat, (1 : Int) + (b : Int) % 576460752303423488 = (B : Int) ∧ 0 < B ∧ B ≤ 576460752303423488 := ⟨1 + b % 576460752303423488, by omega, by omega, by omega⟩
  obtain ⟨S, hS, hS2⟩ : ∃ S : Nat, (A : Int) + (B : Int) = (S : Int) ∧ S = A + B := ⟨A + B, by omega, rfl⟩
  have hSw : IntKind.u64.wrap (S : Int) = (S : Int) := wrap_in _ (by omega) (by omega)
  have HA := Lib.hid hA2
  have HS := Lib.hid (show 0 < S by omega)
  have HS2 := Lib.hid hS2
  have HL := Lib.hid hl
  clear hA2 hA3 hB2 hB3 hS2 hn hl
  have H := Lib.hid h
  clear h
  obtain ⟨m, hm, hm2⟩ : ∃ m : Nat, pick k 200 = (m : Int) ∧ m < 200 := ⟨(pick k 200).toNat, by have := pick_in k 200 (by omega); omega, by have := pick_in k 200 (by omega); omega⟩
  go_enter Try.func7, Try.ntmps7
  go_wp2_with fail
  refine (lives_any _).mono ?_
  rintro e w1 ⟨rfl, hb1⟩
  have r1 : Row w1 w.heap.size (cl n l) 24 := (Row.new (w := w) rfl rfl).below hb1 (by simp)
  have HB1 := Lib.hid (nextB ((Below.refl w.heap.size w).alloc (Nat.le_refl _) (.cells (cl n l).toArray 24)) (Nat.le_refl _) hb1)
  have R4_w1 := Lib.hid r1
  have hlt1 : w.heap.size < w1.heap.size := r1.lt
  clear r1 hb1
  have q40_w1 := cells0 R4_w1.out
  have p40_w1 : ∀ o, (w1.alloc o).cell? ⟨w.heap.size, 0, none⟩ = _ := fun o => cells0 (R4_w1.out.alloc o)
  have q41_w1 := cells1 R4_w1.out
  have p41_w1 : ∀ o, (w1.alloc o).cell? ⟨w.heap.size, 1, none⟩ = _ := fun o => cells1 (R4_w1.out.alloc o)
  go_wp2_with fail
  refine (Pick_any k 200 _ Hk.out (by omega)).mono ?_
  rw [hm]
  rintro e w' ⟨rfl, rfl⟩
  go_wp2_with fail
  refine (Lease_no n l _ _ HL.out H.out).mono ?_
  rintro e w2 ⟨rfl, hb2⟩
  have R4_w2 := Lib.hid (R4_w1.out.below hb2 hlt1)
  have HB2 := Lib.hid (nextB HB1.out (Nat.le_refl _) hb2)
  have hlt2 : w.heap.size < w2.heap.size := R4_w2.out.lt
  clear hb2 q40_w1 q41_w1 p40_w1 p41_w1
  have q40_w2 := cells0 R4_w2.out
  have p40_w2 : ∀ o, (w2.alloc o).cell? ⟨w.heap.size, 0, none⟩ = _ := fun o => cells0 (R4_w2.out.alloc o)
  have q41_w2 := cells1 R4_w2.out
  have p41_w2 : ∀ o, (w2.alloc o).cell? ⟨w.heap.size, 1, none⟩ = _ := fun o => cells1 (R4_w2.out.alloc o)
  go_wp2_with fail
  refine (Lease_no n l _ _ HL.out H.out).mono ?_
  rintro e w3 ⟨rfl, hb3⟩
  have R4_w3 := Lib.hid ((R4_w2.out.alloc _).below hb3 (by simp <;> omega))
  have HB3 := Lib.hid (nextB (HB2.out.alloc (Nat.le_of_lt hlt2) _) (by simp <;> omega) hb3)
  have hlt3 : w.heap.size < w3.heap.size := R4_w3.out.lt
  clear hb3 q40_w2 q41_w2 p40_w2 p41_w2
  have q40_w3 := cells0 R4_w3.out
  have p40_w3 : ∀ o, (w3.alloc o).cell? ⟨w.heap.size, 0, none⟩ = _ := fun o => cells0 (R4_w3.out.alloc o)
  have q41_w3 := cells1 R4_w3.out
  have p41_w3 : ∀ o, (w3.alloc o).cell? ⟨w.heap.size, 1, none⟩ = _ := fun o => cells1 (R4_w3.out.alloc o)
  go_wp2_with fail
  refine (Check_no n l _ HL.out H.out).mono ?_
  rintro e w' ⟨rfl, rfl⟩
  go_wp2_with fail
  refine (Lea.New_any _).mono ?_
  rintro e w' ⟨rfl, rfl⟩
  obtain ⟨V, hV⟩ : ∃ V, co (w3.alloc (.cells #[.int .u64 0, .int .u64 0] 24)) n l = V := ⟨_, rfl⟩
  rw [hV]
  have HBV := Lib.hid (show Below w.heap.size w V by rw [← hV]; exact Below.alloc (Below.alloc HB3.out (Nat.le_of_lt hlt3) _) (by simp <;> omega) _)
  have hVs : w.heap.size ≤ V.heap.size := HBV.out.size
  clear hV
  by_cases hm0 : m = 0
  · subst hm0
    go_wp2
    go_loopw [16] (fun iv wr => ∃ i : Nat, i ≤ 0 ∧ iv = .int .i64 ((i + 1 : Nat) : Int) ∧ Row wr (V.heap.size + 1) (cl (i + 1) 0) 24 ∧ Below w.heap.size w wr) (fun iv _ => 1 - (intOf iv).toNat)
    case atStart =>
      exact ⟨0, by omega, rfl, Row.new (by simp) rfl, ((HBV.out.alloc hVs _).alloc (by simp <;> omega) _)⟩
    case round =>
      obtain ⟨i, hi, rfl, hr, hbr⟩ := hrel
      obtain rfl : i = 0 := by omega
      have q0 := cells0 hr
      have q1 := cells1 hr
      have HR := Lib.hid hbr
      have hrs : w.heap.size ≤ wr.heap.size := hbr.size
      have Hr := Lib.hid hr
      clear hr hbr
      go_wp2_with fail
      refine (Take_none 1 0 _ (by unfold Ok; omega) rfl).mono ?_
      rintro e w9 ⟨rfl, hb9⟩
      have HB9 := Lib.hid (nextB HR.out (Nat.le_refl _) hb9)
      clear hb9 q0 q1
      go_wp2
      go_ret
      exact ⟨rfl, HB9.out⟩
  · have hm0' : (0 : Int) < (m : Int) := by omega
    have HM := Lib.hid (show 0 < m by omega)
    go_wp2_with fail
    refine (Lease_ok 1 0 m _ (by unfold Ok; omega) HM.out (by omega)).mono ?_
    rw [show 0 + min m (1152921504606846976 - 0) = m by omega]
    rintro e w4 ⟨rfl, hb4⟩
    have r4 : Row w4 (V.heap.size + 1) (cl 1 0) 24 := Row.below (w := (co V 1 0).alloc (.cells #[.int .u64 1, .int .u64 0] 24)) (Row.new (by simp) rfl) hb4 (by simp)
    have HB4 := Lib.hid (nextB (B := w.heap.size) (a := w) ((HBV.out.alloc hVs (.cells #[.int .u64 1, .int .u64 0] 24)).alloc (by simp <;> omega) (.cells #[.int .u64 1, .int .u64 0] 24)) (Nat.le_refl _) hb4)
    have q0 := cells0 r4
    have q1 := cells1 r4
    have f0 := frozen_row r4 0
    have f1 := frozen_row r4 1
    have R4 := Lib.hid r4
    clear hb4 r4
    go_wp2
    go_loopw [16, 17, 18, 19] (fun iv _ _ _ wr => ∃ j : Nat, 1 ≤ j ∧ j ≤ m + 1 ∧ iv = .int .i64 (j : Int) ∧ Row wr (V.heap.size + 1) (cl j m) 24 ∧ Below w.heap.size w wr) (fun iv _ _ _ _ => m + 1 - (intOf iv).toNat)
    case atStart =>
      exact ⟨1, by omega, by omega, rfl, (R4.out.set 0 _).set 1 _, (HB4.out.setCell (by simp <;> omega) _).setCell (by simp <;> omega) _⟩
    case round =>
      obtain ⟨j, hj1, hj2, rfl, hr, hbr⟩ := hrel
      have q0 := cells0 hr
      have q1 := cells1 hr
      have HR := Lib.hid hbr
      have hrs : w.heap.size ≤ wr.heap.size := hbr.size
      have hlr : V.heap.size + 1 < wr.heap.size := hr.lt
      have Hr := Lib.hid hr
      clear hr hbr
      by_cases hjm : j = m + 1
      · have hjm' : ¬ (j : Int) ≤ (m : Int) := by omega
        have Hjm := Lib.hid hjm
        have Hok := Lib.hid (show Ok j m by unfold Ok; omega)
        clear hj1 hj2 hjm
        go_wp2_with fail
        refine (Take_none j m _ Hok.out Hjm.out).mono ?_
        rintro e w9 ⟨rfl, hb9⟩
        have HB9 := Lib.hid (nextB HR.out (Nat.le_refl _) hb9)
        clear hb9 q0 q1
        go_wp2
        go_ret
        exact ⟨rfl, HB9.out⟩
      · have hjm' : (j : Int) ≤ (m : Int) := by omega
        have Hok := Lib.hid (show Ok j m by unfold Ok; omega)
        have Hok1 := Lib.hid (show Ok (j + 1) m by unfold Ok; omega)
        have Hle := Lib.hid (show j ≤ m by omega)
        have Hj1 := Lib.hid hj1
        have hcv : IntKind.u64.wrap (j : Int) = (j : Int) := wrap_in _ (by omega) (by omega)
        have hcv2 : IntKind.u64.wrap ((m : Int) - (j : Int)) = ((m + 1 - (j + 1) : Nat) : Int) := by rw [wrap_in _ (by omega) (by omega)]; omega
        have hsb : IntKind.i64.wrap ((m : Int) - (j : Int)) = (m : Int) - (j : Int) := IntWalk.i64_in _ (by omega)
        have hne : ((j : Int) != (j : Int)) = false := by simp
        have hne2 : (((m + 1 - (j + 1) : Nat) : Int) != ((m + 1 - (j + 1) : Nat) : Int)) = false := by simp
        clear hj1 hj2 hjm
        go_wp2_with fail
        refine (Take_ok j m _ Hok.out Hle.out).mono ?_
        rintro e w5 ⟨rfl, hb5⟩
        have HB5 := Lib.hid (nextB HR.out (Nat.le_refl _) hb5)
        have Hr5 := Lib.hid (Hr.out.below hb5 hlr)
        have hl5 : V.heap.size + 1 < w5.heap.size := Hr5.out.lt
        clear hb5 q0 q1
        go_wp2_with fail
        refine (Left_ok (j + 1) m _ Hok1.out).mono ?_
        rintro e w' ⟨rfl, rfl⟩
        have g0 : ∀ o o1 o2, (((w5.alloc o).alloc o1).alloc o2).cell? ⟨V.heap.size + 1, 0, none⟩ = _ := fun o o1 o2 => cells0 (((Hr5.out.alloc o).alloc o1).alloc o2)
        have g1 : ∀ o o1 o2, (((w5.alloc o).alloc o1).alloc o2).cell? ⟨V.heap.size + 1, 1, none⟩ = _ := fun o o1 o2 => cells1 (((Hr5.out.alloc o).alloc o1).alloc o2)
        have f2 : ∀ o o1 o2, (((w5.alloc o).alloc o1).alloc o2).frozen? ⟨V.heap.size + 1, 0, none⟩ = false := fun o o1 o2 => frozen_row (((Hr5.out.alloc o).alloc o1).alloc o2) 0
        have f3 : ∀ o o1 o2, (((w5.alloc o).alloc o1).alloc o2).frozen? ⟨V.heap.size + 1, 1, none⟩ = false := fun o o1 o2 => frozen_row (((Hr5.out.alloc o).alloc o1).alloc o2) 1
        go_wp2
        go_roundw
        case rel =>
          refine ⟨j + 1, by omega, by have := Hle.out; omega, by go_num, ?_, ?_⟩
          · exact ((((Hr5.out.alloc _).alloc _).alloc _).set 0 _).set 1 _
          · have hw5 : w.heap.size ≤ w5.heap.size := HB5.out.size
            exact ((((HB5.out.alloc hw5 _).alloc (by simp <;> omega) _).alloc (by simp <;> omega) _).setCell (by simp <;> omega) _).setCell (by simp <;> omega) _
        case measure => simp [intOf]; have := Hle.out; omega

set_option maxHeartbeats 2000000 in
theorem walkB (n l a b : Nat) (k : Int) (w : World) (hn : n < 2 ^ 64) (hl : l < 2 ^ 64) (hk : -9223372036854775808 ≤ k ∧ k ≤ 9223372036854775807) (h : Ok n l) (hlm : l = 1152921504606846976) :
    Calls Try.prog 7 #[cv n l, .int .u64 (a : Int), .int .u64 (b : Int), .int .i64 k] w fun e w' => e = .returned (.bool true) ∧ Below w.heap.size w w' := by
  have Hk := Lib.hid hk
  clear hk
  obtain ⟨A, hA, hA2, hA3⟩ : ∃ A : Nat, (1 : Int) + (a : Int) % 576460752303423488 = (A : Int) ∧ 0 < A ∧ A ≤ 576460752303423488 := ⟨1 + a % 576460752303423488, by omega, by omega, by omega⟩
  obtain ⟨B, hB, hB2, hB3⟩ : ∃ B : Nat, (1 : Int) + (b : Int) % 576460752303423488 = (B : Int) ∧ 0 < B ∧ B ≤ 576460752303423488 := ⟨1 + b % 576460752303423488, by omega, by omega, by omega⟩
  obtain ⟨S, hS, hS2⟩ : ∃ S : Nat, (A : Int) + (B : Int) = (S : Int) ∧ S = A + B := ⟨A + B, by omega, rfl⟩
  have hSw : IntKind.u64.wrap (S : Int) = (S : Int) := wrap_in _ (by omega) (by omega)
  have HA := Lib.hid hA2
  have HS := Lib.hid (show 0 < S by omega)
  have HS2 := Lib.hid hS2
  have HL := Lib.hid hl
  have HLM := Lib.hid hlm
  have hlm2 : ((l : Int) != 1152921504606846976) = false := by subst hlm; rfl
  clear hlm
  clear hA2 hA3 hB2 hB3 hS2 hn hl
  have H := Lib.hid h
  clear h
  obtain ⟨m, hm, hm2⟩ : ∃ m : Nat, pick k 200 = (m : Int) ∧ m < 200 := ⟨(pick k 200).toNat, by have := pick_in k 200 (by omega); omega, by have := pick_in k 200 (by omega); omega⟩
  go_enter Try.func7, Try.ntmps7
  go_wp2_with fail
  refine (lives_any _).mono ?_
  rintro e w1 ⟨rfl, hb1⟩
  have r1 : Row w1 w.heap.size (cl n l) 24 := (Row.new (w := w) rfl rfl).below hb1 (by simp)
  have HB1 := Lib.hid (nextB ((Below.refl w.heap.size w).alloc (Nat.le_refl _) (.cells (cl n l).toArray 24)) (Nat.le_refl _) hb1)
  have R4_w1 := Lib.hid r1
  have hlt1 : w.heap.size < w1.heap.size := r1.lt
  clear r1 hb1
  have q40_w1 := cells0 R4_w1.out
  have p40_w1 : ∀ o, (w1.alloc o).cell? ⟨w.heap.size, 0, none⟩ = _ := fun o => cells0 (R4_w1.out.alloc o)
  have q41_w1 := cells1 R4_w1.out
  have p41_w1 : ∀ o, (w1.alloc o).cell? ⟨w.heap.size, 1, none⟩ = _ := fun o => cells1 (R4_w1.out.alloc o)
  go_wp2_with fail
  refine (Pick_any k 200 _ Hk.out (by omega)).mono ?_
  rw [hm]
  rintro e w' ⟨rfl, rfl⟩
  go_wp2_with fail
  refine (Lease_full n l A _ H.out HLM.out HA.out).mono ?_
  rintro e w2 ⟨rfl, hb2⟩
  have R4_w2 := Lib.hid (R4_w1.out.below hb2 hlt1)
  have HB2 := Lib.hid (nextB HB1.out (Nat.le_refl _) hb2)
  have hlt2 : w.heap.size < w2.heap.size := R4_w2.out.lt
  clear hb2 q40_w1 q41_w1 p40_w1 p41_w1
  have q40_w2 := cells0 R4_w2.out
  have p40_w2 : ∀ o, (w2.alloc o).cell? ⟨w.heap.size, 0, none⟩ = _ := fun o => cells0 (R4_w2.out.alloc o)
  have q41_w2 := cells1 R4_w2.out
  have p41_w2 : ∀ o, (w2.alloc o).cell? ⟨w.heap.size, 1, none⟩ = _ := fun o => cells1 (R4_w2.out.alloc o)
  go_wp2_with fail
  refine (Lease_full n l S _ H.out HLM.out HS.out).mono ?_
  rintro e w3 ⟨rfl, hb3⟩
  have R4_w3 := Lib.hid ((R4_w2.out.alloc _).below hb3 (by simp <;> omega))
  have HB3 := Lib.hid (nextB (HB2.out.alloc (Nat.le_of_lt hlt2) _) (by simp <;> omega) hb3)
  have hlt3 : w.heap.size < w3.heap.size := R4_w3.out.lt
  clear hb3 q40_w2 q41_w2 p40_w2 p41_w2
  have q40_w3 := cells0 R4_w3.out
  have p40_w3 : ∀ o, (w3.alloc o).cell? ⟨w.heap.size, 0, none⟩ = _ := fun o => cells0 (R4_w3.out.alloc o)
  have q41_w3 := cells1 R4_w3.out
  have p41_w3 : ∀ o, (w3.alloc o).cell? ⟨w.heap.size, 1, none⟩ = _ := fun o => cells1 (R4_w3.out.alloc o)
  go_wp2_with fail
  refine (Check_ok n l _ H.out).mono ?_
  rintro e w' ⟨rfl, rfl⟩
  have s41 : ∀ o o1, ((w3.alloc o).alloc o1).cell? ⟨w.heap.size, 1, none⟩ = _ := fun o o1 => cells1 ((R4_w3.out.alloc o).alloc o1)
  go_wp2_with fail
  refine (Lea.New_any _).mono ?_
  rintro e w' ⟨rfl, rfl⟩
  obtain ⟨V, hV⟩ : ∃ V, co (w3.alloc (.cells #[.int .u64 0, .int .u64 0] 24)) n l = V := ⟨_, rfl⟩
  rw [hV]
  have HBV := Lib.hid (show Below w.heap.size w V by rw [← hV]; exact Below.alloc (Below.alloc HB3.out (Nat.le_of_lt hlt3) _) (by simp <;> omega) _)
  have hVs : w.heap.size ≤ V.heap.size := HBV.out.size
  clear hV
  by_cases hm0 : m = 0
  · subst hm0
    go_wp2
    go_loopw [16] (fun iv wr => ∃ i : Nat, i ≤ 0 ∧ iv = .int .i64 ((i + 1 : Nat) : Int) ∧ Row wr (V.heap.size + 1) (cl (i + 1) 0) 24 ∧ Below w.heap.size w wr) (fun iv _ => 1 - (intOf iv).toNat)
    case atStart =>
      exact ⟨0, by omega, rfl, Row.new (by simp) rfl, ((HBV.out.alloc hVs _).alloc (by simp <;> omega) _)⟩
    case round =>
      obtain ⟨i, hi, rfl, hr, hbr⟩ := hrel
      obtain rfl : i = 0 := by omega
      have q0 := cells0 hr
      have q1 := cells1 hr
      have HR := Lib.hid hbr
      have hrs : w.heap.size ≤ wr.heap.size := hbr.size
      have Hr := Lib.hid hr
      clear hr hbr
      go_wp2_with fail
      refine (Take_none 1 0 _ (by unfold Ok; omega) rfl).mono ?_
      rintro e w9 ⟨rfl, hb9⟩
      have HB9 := Lib.hid (nextB HR.out (Nat.le_refl _) hb9)
      clear hb9 q0 q1
      go_wp2
      go_ret
      exact ⟨rfl, HB9.out⟩
  · have hm0' : (0 : Int) < (m : Int) := by omega
    have HM := Lib.hid (show 0 < m by omega)
    go_wp2_with fail
    refine (Lease_ok 1 0 m _ (by unfold Ok; omega) HM.out (by omega)).mono ?_
    rw [show 0 + min m (1152921504606846976 - 0) = m by omega]
    rintro e w4 ⟨rfl, hb4⟩
    have r4 : Row w4 (V.heap.size + 1) (cl 1 0) 24 := Row.below (w := (co V 1 0).alloc (.cells #[.int .u64 1, .int .u64 0] 24)) (Row.new (by simp) rfl) hb4 (by simp)
    have HB4 := Lib.hid (nextB (B := w.heap.size) (a := w) ((HBV.out.alloc hVs (.cells #[.int .u64 1, .int .u64 0] 24)).alloc (by simp <;> omega) (.cells #[.int .u64 1, .int .u64 0] 24)) (Nat.le_refl _) hb4)
    have q0 := cells0 r4
    have q1 := cells1 r4
    have f0 := frozen_row r4 0
    have f1 := frozen_row r4 1
    have R4 := Lib.hid r4
    clear hb4 r4
    go_wp2
    go_loopw [16, 17, 18, 19] (fun iv _ _ _ wr => ∃ j : Nat, 1 ≤ j ∧ j ≤ m + 1 ∧ iv = .int .i64 (j : Int) ∧ Row wr (V.heap.size + 1) (cl j m) 24 ∧ Below w.heap.size w wr) (fun iv _ _ _ _ => m + 1 - (intOf iv).toNat)
    case atStart =>
      exact ⟨1, by omega, by omega, rfl, (R4.out.set 0 _).set 1 _, (HB4.out.setCell (by simp <;> omega) _).setCell (by simp <;> omega) _⟩
    case round =>
      obtain ⟨j, hj1, hj2, rfl, hr, hbr⟩ := hrel
      have q0 := cells0 hr
      have q1 := cells1 hr
      have HR := Lib.hid hbr
      have hrs : w.heap.size ≤ wr.heap.size := hbr.size
      have hlr : V.heap.size + 1 < wr.heap.size := hr.lt
      have Hr := Lib.hid hr
      clear hr hbr
      by_cases hjm : j = m + 1
      · have hjm' : ¬ (j : Int) ≤ (m : Int) := by omega
        have Hjm := Lib.hid hjm
        have Hok := Lib.hid (show Ok j m by unfold Ok; omega)
        clear hj1 hj2 hjm
        go_wp2_with fail
        refine (Take_none j m _ Hok.out Hjm.out).mono ?_
        rintro e w9 ⟨rfl, hb9⟩
        have HB9 := Lib.hid (nextB HR.out (Nat.le_refl _) hb9)
        clear hb9 q0 q1
        go_wp2
        go_ret
        exact ⟨rfl, HB9.out⟩
      · have hjm' : (j : Int) ≤ (m : Int) := by omega
        have Hok := Lib.hid (show Ok j m by unfold Ok; omega)
        have Hok1 := Lib.hid (show Ok (j + 1) m by unfold Ok; omega)
        have Hle := Lib.hid (show j ≤ m by omega)
        have Hj1 := Lib.hid hj1
        have hcv : IntKind.u64.wrap (j : Int) = (j : Int) := wrap_in _ (by omega) (by omega)
        have hcv2 : IntKind.u64.wrap ((m : Int) - (j : Int)) = ((m + 1 - (j + 1) : Nat) : Int) := by rw [wrap_in _ (by omega) (by omega)]; omega
        have hsb : IntKind.i64.wrap ((m : Int) - (j : Int)) = (m : Int) - (j : Int) := IntWalk.i64_in _ (by omega)
        have hne : ((j : Int) != (j : Int)) = false := by simp
        have hne2 : (((m + 1 - (j + 1) : Nat) : Int) != ((m + 1 - (j + 1) : Nat) : Int)) = false := by simp
        clear hj1 hj2 hjm
        go_wp2_with fail
        refine (Take_ok j m _ Hok.out Hle.out).mono ?_
        rintro e w5 ⟨rfl, hb5⟩
        have HB5 := Lib.hid (nextB HR.out (Nat.le_refl _) hb5)
        have Hr5 := Lib.hid (Hr.out.below hb5 hlr)
        have hl5 : V.heap.size + 1 < w5.heap.size := Hr5.out.lt
        clear hb5 q0 q1
        go_wp2_with fail
        refine (Left_ok (j + 1) m _ Hok1.out).mono ?_
        rintro e w' ⟨rfl, rfl⟩
        have g0 : ∀ o o1 o2, (((w5.alloc o).alloc o1).alloc o2).cell? ⟨V.heap.size + 1, 0, none⟩ = _ := fun o o1 o2 => cells0 (((Hr5.out.alloc o).alloc o1).alloc o2)
        have g1 : ∀ o o1 o2, (((w5.alloc o).alloc o1).alloc o2).cell? ⟨V.heap.size + 1, 1, none⟩ = _ := fun o o1 o2 => cells1 (((Hr5.out.alloc o).alloc o1).alloc o2)
        have f2 : ∀ o o1 o2, (((w5.alloc o).alloc o1).alloc o2).frozen? ⟨V.heap.size + 1, 0, none⟩ = false := fun o o1 o2 => frozen_row (((Hr5.out.alloc o).alloc o1).alloc o2) 0
        have f3 : ∀ o o1 o2, (((w5.alloc o).alloc o1).alloc o2).frozen? ⟨V.heap.size + 1, 1, none⟩ = false := fun o o1 o2 => frozen_row (((Hr5.out.alloc o).alloc o1).alloc o2) 1
        go_wp2
        go_roundw
        case rel =>
          refine ⟨j + 1, by omega, by have := Hle.out; omega, by go_num, ?_, ?_⟩
          · exact ((((Hr5.out.alloc _).alloc _).alloc _).set 0 _).set 1 _
          · have hw5 : w.heap.size ≤ w5.heap.size := HB5.out.size
            exact ((((HB5.out.alloc hw5 _).alloc (by simp <;> omega) _).alloc (by simp <;> omega) _).setCell (by simp <;> omega) _).setCell (by simp <;> omega) _
        case measure => simp [intOf]; have := Hle.out; omega

set_option maxHeartbeats 2000000 in
theorem walkC (n l a b : Nat) (k : Int) (w : World) (hn : n < 2 ^ 64) (hl : l < 2 ^ 64) (hk : -9223372036854775808 ≤ k ∧ k ≤ 9223372036854775807) (h : Ok n l) (hlm : l < 1152921504606846976) (hx : l + a % 576460752303423488 + 1 < 1152921504606846976) :
    Calls Try.prog 7 #[cv n l, .int .u64 (a : Int), .int .u64 (b : Int), .int .i64 k] w fun e w' => e = .returned (.bool true) ∧ Below w.heap.size w w' := by
  have Hk := Lib.hid hk
  clear hk
  obtain ⟨A, hA, hA2, hA3⟩ : ∃ A : Nat, (1 : Int) + (a : Int) % 576460752303423488 = (A : Int) ∧ 0 < A ∧ A ≤ 576460752303423488 := ⟨1 + a % 576460752303423488, by omega, by omega, by omega⟩
  obtain ⟨B, hB, hB2, hB3⟩ : ∃ B : Nat, (1 : Int) + (b : Int) % 576460752303423488 = (B : Int) ∧ 0 < B ∧ B ≤ 576460752303423488 := ⟨1 + b % 576460752303423488, by omega, by omega, by omega⟩
  obtain ⟨S, hS, hS2⟩ : ∃ S : Nat, (A : Int) + (B : Int) = (S : Int) ∧ S = A + B := ⟨A + B, by omega, rfl⟩
  have hSw : IntKind.u64.wrap (S : Int) = (S : Int) := wrap_in _ (by omega) (by omega)
  have HA := Lib.hid hA2
  have HS := Lib.hid (show 0 < S by omega)
  have HS2 := Lib.hid hS2
  have HL := Lib.hid hl
  obtain ⟨X, hX⟩ : ∃ X, l + min A (1152921504606846976 - l) = X := ⟨_, rfl⟩
  obtain ⟨Z, hZ⟩ : ∃ Z, l + min S (1152921504606846976 - l) = Z := ⟨_, rfl⟩
  have HX := Lib.hid hX
  have HZ := Lib.hid hZ
  have HLM := Lib.hid hlm
  have HOX := Lib.hid (show Ok n X by unfold Ok at *; omega)
  have HB0 := Lib.hid hB2
  have HXM := Lib.hid (show X < 1152921504606846976 by omega)
  have HXZ := Lib.hid (show X + min B (1152921504606846976 - X) = Z by omega)
  clear hX hZ hlm hx
  clear hA2 hA3 hB2 hB3 hS2 hn hl
  have H := Lib.hid h
  clear h
  obtain ⟨m, hm, hm2⟩ : ∃ m : Nat, pick k 200 = (m : Int) ∧ m < 200 := ⟨(pick k 200).toNat, by have := pick_in k 200 (by omega); omega, by have := pick_in k 200 (by omega); omega⟩
  go_enter Try.func7, Try.ntmps7
  go_wp2_with fail
  refine (lives_any _).mono ?_
  rintro e w1 ⟨rfl, hb1⟩
  have r1 : Row w1 w.heap.size (cl n l) 24 := (Row.new (w := w) rfl rfl).below hb1 (by simp)
  have HB1 := Lib.hid (nextB ((Below.refl w.heap.size w).alloc (Nat.le_refl _) (.cells (cl n l).toArray 24)) (Nat.le_refl _) hb1)
  have R4_w1 := Lib.hid r1
  have hlt1 : w.heap.size < w1.heap.size := r1.lt
  clear r1 hb1
  have q40_w1 := cells0 R4_w1.out
  have p40_w1 : ∀ o, (w1.alloc o).cell? ⟨w.heap.size, 0, none⟩ = _ := fun o => cells0 (R4_w1.out.alloc o)
  have q41_w1 := cells1 R4_w1.out
  have p41_w1 : ∀ o, (w1.alloc o).cell? ⟨w.heap.size, 1, none⟩ = _ := fun o => cells1 (R4_w1.out.alloc o)
  go_wp2_with fail
  refine (Pick_any k 200 _ Hk.out (by omega)).mono ?_
  rw [hm]
  rintro e w' ⟨rfl, rfl⟩
  go_wp2_with fail
  refine (Lease_ok n l A _ H.out HA.out HLM.out).mono ?_
  rw [HX.out]
  rintro e w2 ⟨rfl, hb2⟩
  have R4_w2 := Lib.hid (R4_w1.out.below hb2 hlt1)
  have HB2 := Lib.hid (nextB HB1.out (Nat.le_refl _) hb2)
  have hlt2 : w.heap.size < w2.heap.size := R4_w2.out.lt
  clear hb2 q40_w1 q41_w1 p40_w1 p41_w1
  have q40_w2 := cells0 R4_w2.out
  have p40_w2 : ∀ o, (w2.alloc o).cell? ⟨w.heap.size, 0, none⟩ = _ := fun o => cells0 (R4_w2.out.alloc o)
  have q41_w2 := cells1 R4_w2.out
  have p41_w2 : ∀ o, (w2.alloc o).cell? ⟨w.heap.size, 1, none⟩ = _ := fun o => cells1 (R4_w2.out.alloc o)
  have R9_w2 := Lib.hid (show Row (w2.alloc (.cells (cl n X).toArray 24)) w2.heap.size (cl n X) 24 from Row.new rfl rfl)
  go_wp2_with fail
  refine (Lease_ok n l S _ H.out HS.out HLM.out).mono ?_
  rw [HZ.out]
  rintro e w3 ⟨rfl, hb3⟩
  have R4_w3 := Lib.hid ((R4_w2.out.alloc _).below hb3 (by simp <;> omega))
  have R9_w3 := Lib.hid (R9_w2.out.below hb3 (by simp <;> omega))
  have HB3 := Lib.hid (nextB (HB2.out.alloc (Nat.le_of_lt hlt2) _) (Nat.le_refl _) hb3)
  have hlt3 : w.heap.size < w3.heap.size := R4_w3.out.lt
  have hlt39 : w2.heap.size < w3.heap.size := R9_w3.out.lt
  clear hb3 q40_w2 q41_w2 p40_w2 p41_w2
  have q90_w3 := cells0 R9_w3.out
  have p90_w3 : ∀ o, (w3.alloc o).cell? ⟨w2.heap.size, 0, none⟩ = _ := fun o => cells0 (R9_w3.out.alloc o)
  have q91_w3 := cells1 R9_w3.out
  have p91_w3 : ∀ o, (w3.alloc o).cell? ⟨w2.heap.size, 1, none⟩ = _ := fun o => cells1 (R9_w3.out.alloc o)
  have R11_w3 := Lib.hid (show Row (w3.alloc (.cells (cl n Z).toArray 24)) w3.heap.size (cl n Z) 24 from Row.new rfl rfl)
  go_wp2_with fail
  refine (Lease_ok n X B _ HOX.out HB0.out HXM.out).mono ?_
  rw [HXZ.out]
  rintro e w4 ⟨rfl, hb4⟩
  have R9_w4 := Lib.hid ((R9_w3.out.alloc _).below hb4 (by simp <;> omega))
  have R11_w4 := Lib.hid (R11_w3.out.below hb4 (by simp <;> omega))
  have HB4 := Lib.hid (nextB (HB3.out.alloc (Nat.le_of_lt hlt3) _) (Nat.le_refl _) hb4)
  have hlt4 : w.heap.size < w4.heap.size := by have := HB3.out.size; have := hb4.size; simp at this; omega
  clear hb4 q90_w3 q91_w3 p90_w3 p91_w3
  have q90_w4 := cells0 R9_w4.out
  have p90_w4 : ∀ o, (w4.alloc o).cell? ⟨w2.heap.size, 0, none⟩ = _ := fun o => cells0 (R9_w4.out.alloc o)
  have q91_w4 := cells1 R9_w4.out
  have p91_w4 : ∀ o, (w4.alloc o).cell? ⟨w2.heap.size, 1, none⟩ = _ := fun o => cells1 (R9_w4.out.alloc o)
  have q110_w4 := cells0 R11_w4.out
  have p110_w4 : ∀ o, (w4.alloc o).cell? ⟨w3.heap.size, 0, none⟩ = _ := fun o => cells0 (R11_w4.out.alloc o)
  have q111_w4 := cells1 R11_w4.out
  have p111_w4 : ∀ o, (w4.alloc o).cell? ⟨w3.heap.size, 1, none⟩ = _ := fun o => cells1 (R11_w4.out.alloc o)

  go_wp2_with fail
  refine (Lea.New_any _).mono ?_
  rintro e w' ⟨rfl, rfl⟩
  obtain ⟨V, hV⟩ : ∃ V, w4.alloc (.cells #[.int .u64 (n : Int), .int .u64 (Z : Int)] 24) = V := ⟨_, rfl⟩
  rw [hV]
  have HBV := Lib.hid (show Below w.heap.size w V by rw [← hV]; exact Below.alloc HB4.out (Nat.le_of_lt hlt4) _)
  have hVs : w.heap.size ≤ V.heap.size := HBV.out.size
  clear hV
  by_cases hm0 : m = 0
  · subst hm0
    go_wp2
    go_loopw [16] (fun iv wr => ∃ i : Nat, i ≤ 0 ∧ iv = .int .i64 ((i + 1 : Nat) : Int) ∧ Row wr (V.heap.size + 1) (cl (i + 1) 0) 24 ∧ Below w.heap.size w wr) (fun iv _ => 1 - (intOf iv).toNat)
    case atStart =>
      exact ⟨0, by omega, rfl, Row.new (by simp) rfl, ((HBV.out.alloc hVs _).alloc (by simp <;> omega) _)⟩
    case round =>
      obtain ⟨i, hi, rfl, hr, hbr⟩ := hrel
      obtain rfl : i = 0 := by omega
      have q0 := cells0 hr
      have q1 := cells1 hr
      have HR := Lib.hid hbr
      have hrs : w.heap.size ≤ wr.heap.size := hbr.size
      have Hr := Lib.hid hr
      clear hr hbr
      go_wp2_with fail
      refine (Take_none 1 0 _ (by unfold Ok; omega) rfl).mono ?_
      rintro e w9 ⟨rfl, hb9⟩
      have HB9 := Lib.hid (nextB HR.out (Nat.le_refl _) hb9)
      clear hb9 q0 q1
      go_wp2
      go_ret
      exact ⟨rfl, HB9.out⟩
  · have hm0' : (0 : Int) < (m : Int) := by omega
    have HM := Lib.hid (show 0 < m by omega)
    go_wp2_with fail
    refine (Lease_ok 1 0 m _ (by unfold Ok; omega) HM.out (by omega)).mono ?_
    rw [show 0 + min m (1152921504606846976 - 0) = m by omega]
    rintro e w4 ⟨rfl, hb4⟩
    have r4 : Row w4 (V.heap.size + 1) (cl 1 0) 24 := Row.below (w := (co V 1 0).alloc (.cells #[.int .u64 1, .int .u64 0] 24)) (Row.new (by simp) rfl) hb4 (by simp)
    have HB4 := Lib.hid (nextB (B := w.heap.size) (a := w) ((HBV.out.alloc hVs (.cells #[.int .u64 1, .int .u64 0] 24)).alloc (by simp <;> omega) (.cells #[.int .u64 1, .int .u64 0] 24)) (Nat.le_refl _) hb4)
    have q0 := cells0 r4
    have q1 := cells1 r4
    have f0 := frozen_row r4 0
    have f1 := frozen_row r4 1
    have R4 := Lib.hid r4
    clear hb4 r4
    go_wp2
    go_loopw [16, 17, 18, 19] (fun iv _ _ _ wr => ∃ j : Nat, 1 ≤ j ∧ j ≤ m + 1 ∧ iv = .int .i64 (j : Int) ∧ Row wr (V.heap.size + 1) (cl j m) 24 ∧ Below w.heap.size w wr) (fun iv _ _ _ _ => m + 1 - (intOf iv).toNat)
    case atStart =>
      exact ⟨1, by omega, by omega, rfl, (R4.out.set 0 _).set 1 _, (HB4.out.setCell (by simp <;> omega) _).setCell (by simp <;> omega) _⟩
    case round =>
      obtain ⟨j, hj1, hj2, rfl, hr, hbr⟩ := hrel
      have q0 := cells0 hr
      have q1 := cells1 hr
      have HR := Lib.hid hbr
      have hrs : w.heap.size ≤ wr.heap.size := hbr.size
      have hlr : V.heap.size + 1 < wr.heap.size := hr.lt
      have Hr := Lib.hid hr
      clear hr hbr
      by_cases hjm : j = m + 1
      · have hjm' : ¬ (j : Int) ≤ (m : Int) := by omega
        have Hjm := Lib.hid hjm
        have Hok := Lib.hid (show Ok j m by unfold Ok; omega)
        clear hj1 hj2 hjm
        go_wp2_with fail
        refine (Take_none j m _ Hok.out Hjm.out).mono ?_
        rintro e w9 ⟨rfl, hb9⟩
        have HB9 := Lib.hid (nextB HR.out (Nat.le_refl _) hb9)
        clear hb9 q0 q1
        go_wp2
        go_ret
        exact ⟨rfl, HB9.out⟩
      · have hjm' : (j : Int) ≤ (m : Int) := by omega
        have Hok := Lib.hid (show Ok j m by unfold Ok; omega)
        have Hok1 := Lib.hid (show Ok (j + 1) m by unfold Ok; omega)
        have Hle := Lib.hid (show j ≤ m by omega)
        have Hj1 := Lib.hid hj1
        have hcv : IntKind.u64.wrap (j : Int) = (j : Int) := wrap_in _ (by omega) (by omega)
        have hcv2 : IntKind.u64.wrap ((m : Int) - (j : Int)) = ((m + 1 - (j + 1) : Nat) : Int) := by rw [wrap_in _ (by omega) (by omega)]; omega
        have hsb : IntKind.i64.wrap ((m : Int) - (j : Int)) = (m : Int) - (j : Int) := IntWalk.i64_in _ (by omega)
        have hne : ((j : Int) != (j : Int)) = false := by simp
        have hne2 : (((m + 1 - (j + 1) : Nat) : Int) != ((m + 1 - (j + 1) : Nat) : Int)) = false := by simp
        clear hj1 hj2 hjm
        go_wp2_with fail
        refine (Take_ok j m _ Hok.out Hle.out).mono ?_
        rintro e w5 ⟨rfl, hb5⟩
        have HB5 := Lib.hid (nextB HR.out (Nat.le_refl _) hb5)
        have Hr5 := Lib.hid (Hr.out.below hb5 hlr)
        have hl5 : V.heap.size + 1 < w5.heap.size := Hr5.out.lt
        clear hb5 q0 q1
        go_wp2_with fail
        refine (Left_ok (j + 1) m _ Hok1.out).mono ?_
        rintro e w' ⟨rfl, rfl⟩
        have g0 : ∀ o o1 o2, (((w5.alloc o).alloc o1).alloc o2).cell? ⟨V.heap.size + 1, 0, none⟩ = _ := fun o o1 o2 => cells0 (((Hr5.out.alloc o).alloc o1).alloc o2)
        have g1 : ∀ o o1 o2, (((w5.alloc o).alloc o1).alloc o2).cell? ⟨V.heap.size + 1, 1, none⟩ = _ := fun o o1 o2 => cells1 (((Hr5.out.alloc o).alloc o1).alloc o2)
        have f2 : ∀ o o1 o2, (((w5.alloc o).alloc o1).alloc o2).frozen? ⟨V.heap.size + 1, 0, none⟩ = false := fun o o1 o2 => frozen_row (((Hr5.out.alloc o).alloc o1).alloc o2) 0
        have f3 : ∀ o o1 o2, (((w5.alloc o).alloc o1).alloc o2).frozen? ⟨V.heap.size + 1, 1, none⟩ = false := fun o o1 o2 => frozen_row (((Hr5.out.alloc o).alloc o1).alloc o2) 1
        go_wp2
        go_roundw
        case rel =>
          refine ⟨j + 1, by omega, by have := Hle.out; omega, by go_num, ?_, ?_⟩
          · exact ((((Hr5.out.alloc _).alloc _).alloc _).set 0 _).set 1 _
          · have hw5 : w.heap.size ≤ w5.heap.size := HB5.out.size
            exact ((((HB5.out.alloc hw5 _).alloc (by simp <;> omega) _).alloc (by simp <;> omega) _).setCell (by simp <;> omega) _).setCell (by simp <;> omega) _
        case measure => simp [intOf]; have := Hle.out; omega

set_option maxHeartbeats 2000000 in
theorem walkD (n l a b : Nat) (k : Int) (w : World) (hn : n < 2 ^ 64) (hl : l < 2 ^ 64) (hk : -9223372036854775808 ≤ k ∧ k ≤ 9223372036854775807) (h : Ok n l) (hlm : l < 1152921504606846976) (hx : ¬ l + a % 576460752303423488 + 1 < 1152921504606846976) :
    Calls Try.prog 7 #[cv n l, .int .u64 (a : Int), .int .u64 (b : Int), .int .i64 k] w fun e w' => e = .returned (.bool true) ∧ Below w.heap.size w w' := by
  have Hk := Lib.hid hk
  clear hk
  obtain ⟨A, hA, hA2, hA3⟩ : ∃ A : Nat, (1 : Int) + (a : Int) % 576460752303423488 = (A : Int) ∧ 0 < A ∧ A ≤ 576460752303423488 := ⟨1 + a % 576460752303423488, by omega, by omega, by omega⟩
  obtain ⟨B, hB, hB2, hB3⟩ : ∃ B : Nat, (1 : Int) + (b : Int) % 576460752303423488 = (B : Int) ∧ 0 < B ∧ B ≤ 576460752303423488 := ⟨1 + b % 576460752303423488, by omega, by omega, by omega⟩
  obtain ⟨S, hS, hS2⟩ : ∃ S : Nat, (A : Int) + (B : Int) = (S : Int) ∧ S = A + B := ⟨A + B, by omega, rfl⟩
  have hSw : IntKind.u64.wrap (S : Int) = (S : Int) := wrap_in _ (by omega) (by omega)
  have HA := Lib.hid hA2
  have HS := Lib.hid (show 0 < S by omega)
  have HS2 := Lib.hid hS2
  have HL := Lib.hid hl
  obtain ⟨X, hX⟩ : ∃ X, l + min A (1152921504606846976 - l) = X := ⟨_, rfl⟩
  obtain ⟨Z, hZ⟩ : ∃ Z, l + min S (1152921504606846976 - l) = Z := ⟨_, rfl⟩
  have HX := Lib.hid hX
  have HZ := Lib.hid hZ
  have HLM := Lib.hid hlm
  have HOX := Lib.hid (show Ok n X by unfold Ok at *; omega)
  have HB0 := Lib.hid hB2
  have HXM := Lib.hid (show X = 1152921504606846976 by omega)
  obtain rfl : X = Z := by omega
  clear hX hZ hlm hx
  clear hA2 hA3 hB2 hB3 hS2 hn hl
  have H := Lib.hid h
  clear h
  obtain ⟨m, hm, hm2⟩ : ∃ m : Nat, pick k 200 = (m : Int) ∧ m < 200 := ⟨(pick k 200).toNat, by have := pick_in k 200 (by omega); omega, by have := pick_in k 200 (by omega); omega⟩
  go_enter Try.func7, Try.ntmps7
  go_wp2_with fail
  refine (lives_any _).mono ?_
  rintro e w1 ⟨rfl, hb1⟩
  have r1 : Row w1 w.heap.size (cl n l) 24 := (Row.new (w := w) rfl rfl).below hb1 (by simp)
  have HB1 := Lib.hid (nextB ((Below.refl w.heap.size w).alloc (Nat.le_refl _) (.cells (cl n l).toArray 24)) (Nat.le_refl _) hb1)
  have R4_w1 := Lib.hid r1
  have hlt1 : w.heap.size < w1.heap.size := r1.lt
  clear r1 hb1
  have q40_w1 := cells0 R4_w1.out
  have p40_w1 : ∀ o, (w1.alloc o).cell? ⟨w.heap.size, 0, none⟩ = _ := fun o => cells0 (R4_w1.out.alloc o)
  have q41_w1 := cells1 R4_w1.out
  have p41_w1 : ∀ o, (w1.alloc o).cell? ⟨w.heap.size, 1, none⟩ = _ := fun o => cells1 (R4_w1.out.alloc o)
  go_wp2_with fail
  refine (Pick_any k 200 _ Hk.out (by omega)).mono ?_
  rw [hm]
  rintro e w' ⟨rfl, rfl⟩
  go_wp2_with fail
  refine (Lease_ok n l A _ H.out HA.out HLM.out).mono ?_
  rw [HX.out]
  rintro e w2 ⟨rfl, hb2⟩
  have R4_w2 := Lib.hid (R4_w1.out.below hb2 hlt1)
  have HB2 := Lib.hid (nextB HB1.out (Nat.le_refl _) hb2)
  have hlt2 : w.heap.size < w2.heap.size := R4_w2.out.lt
  clear hb2 q40_w1 q41_w1 p40_w1 p41_w1
  have q40_w2 := cells0 R4_w2.out
  have p40_w2 : ∀ o, (w2.alloc o).cell? ⟨w.heap.size, 0, none⟩ = _ := fun o => cells0 (R4_w2.out.alloc o)
  have q41_w2 := cells1 R4_w2.out
  have p41_w2 : ∀ o, (w2.alloc o).cell? ⟨w.heap.size, 1, none⟩ = _ := fun o => cells1 (R4_w2.out.alloc o)
  have R9_w2 := Lib.hid (show Row (w2.alloc (.cells (cl n X).toArray 24)) w2.heap.size (cl n X) 24 from Row.new rfl rfl)
  go_wp2_with fail
  refine (Lease_ok n l S _ H.out HS.out HLM.out).mono ?_
  rw [HZ.out]
  rintro e w3 ⟨rfl, hb3⟩
  have R4_w3 := Lib.hid ((R4_w2.out.alloc _).below hb3 (by simp <;> omega))
  have R9_w3 := Lib.hid (R9_w2.out.below hb3 (by simp <;> omega))
  have HB3 := Lib.hid (nextB (HB2.out.alloc (Nat.le_of_lt hlt2) _) (Nat.le_refl _) hb3)
  have hlt3 : w.heap.size < w3.heap.size := R4_w3.out.lt
  have hlt39 : w2.heap.size < w3.heap.size := R9_w3.out.lt
  clear hb3 q40_w2 q41_w2 p40_w2 p41_w2
  have q90_w3 := cells0 R9_w3.out
  have p90_w3 : ∀ o, (w3.alloc o).cell? ⟨w2.heap.size, 0, none⟩ = _ := fun o => cells0 (R9_w3.out.alloc o)
  have q91_w3 := cells1 R9_w3.out
  have p91_w3 : ∀ o, (w3.alloc o).cell? ⟨w2.heap.size, 1, none⟩ = _ := fun o => cells1 (R9_w3.out.alloc o)
  have R11_w3 := Lib.hid (show Row (w3.alloc (.cells (cl n X).toArray 24)) w3.heap.size (cl n X) 24 from Row.new rfl rfl)
  go_wp2_with fail
  refine (Lease_full n X B _ HOX.out HXM.out HB0.out).mono ?_
  rintro e w4 ⟨rfl, hb4⟩
  have R9_w4 := Lib.hid ((R9_w3.out.alloc _).below hb4 (by simp <;> omega))
  have R11_w4 := Lib.hid (R11_w3.out.below hb4 (by simp <;> omega))
  have HB4 := Lib.hid (nextB (HB3.out.alloc (Nat.le_of_lt hlt3) _) (Nat.le_refl _) hb4)
  have hlt4 : w.heap.size < w4.heap.size := by have := HB3.out.size; have := hb4.size; simp at this; omega
  clear hb4 q90_w3 q91_w3 p90_w3 p91_w3
  have q90_w4 := cells0 R9_w4.out
  have p90_w4 : ∀ o, (w4.alloc o).cell? ⟨w2.heap.size, 0, none⟩ = _ := fun o => cells0 (R9_w4.out.alloc o)
  have q91_w4 := cells1 R9_w4.out
  have p91_w4 : ∀ o, (w4.alloc o).cell? ⟨w2.heap.size, 1, none⟩ = _ := fun o => cells1 (R9_w4.out.alloc o)
  have q110_w4 := cells0 R11_w4.out
  have p110_w4 : ∀ o, (w4.alloc o).cell? ⟨w3.heap.size, 0, none⟩ = _ := fun o => cells0 (R11_w4.out.alloc o)
  have q111_w4 := cells1 R11_w4.out
  have p111_w4 : ∀ o, (w4.alloc o).cell? ⟨w3.heap.size, 1, none⟩ = _ := fun o => cells1 (R11_w4.out.alloc o)

  go_wp2_with fail
  refine (Lea.New_any _).mono ?_
  rintro e w' ⟨rfl, rfl⟩
  obtain ⟨V, hV⟩ : ∃ V, w4.alloc (.cells #[.int .u64 0, .int .u64 0] 24) = V := ⟨_, rfl⟩
  rw [hV]
  have HBV := Lib.hid (show Below w.heap.size w V by rw [← hV]; exact Below.alloc HB4.out (Nat.le_of_lt hlt4) _)
  have hVs : w.heap.size ≤ V.heap.size := HBV.out.size
  clear hV
  by_cases hm0 : m = 0
  · subst hm0
    go_wp2
    go_loopw [16] (fun iv wr => ∃ i : Nat, i ≤ 0 ∧ iv = .int .i64 ((i + 1 : Nat) : Int) ∧ Row wr (V.heap.size + 1) (cl (i + 1) 0) 24 ∧ Below w.heap.size w wr) (fun iv _ => 1 - (intOf iv).toNat)
    case atStart =>
      exact ⟨0, by omega, rfl, Row.new (by simp) rfl, ((HBV.out.alloc hVs _).alloc (by simp <;> omega) _)⟩
    case round =>
      obtain ⟨i, hi, rfl, hr, hbr⟩ := hrel
      obtain rfl : i = 0 := by omega
      have q0 := cells0 hr
      have q1 := cells1 hr
      have HR := Lib.hid hbr
      have hrs : w.heap.size ≤ wr.heap.size := hbr.size
      have Hr := Lib.hid hr
      clear hr hbr
      go_wp2_with fail
      refine (Take_none 1 0 _ (by unfold Ok; omega) rfl).mono ?_
      rintro e w9 ⟨rfl, hb9⟩
      have HB9 := Lib.hid (nextB HR.out (Nat.le_refl _) hb9)
      clear hb9 q0 q1
      go_wp2
      go_ret
      exact ⟨rfl, HB9.out⟩
  · have hm0' : (0 : Int) < (m : Int) := by omega
    have HM := Lib.hid (show 0 < m by omega)
    go_wp2_with fail
    refine (Lease_ok 1 0 m _ (by unfold Ok; omega) HM.out (by omega)).mono ?_
    rw [show 0 + min m (1152921504606846976 - 0) = m by omega]
    rintro e w4 ⟨rfl, hb4⟩
    have r4 : Row w4 (V.heap.size + 1) (cl 1 0) 24 := Row.below (w := (co V 1 0).alloc (.cells #[.int .u64 1, .int .u64 0] 24)) (Row.new (by simp) rfl) hb4 (by simp)
    have HB4 := Lib.hid (nextB (B := w.heap.size) (a := w) ((HBV.out.alloc hVs (.cells #[.int .u64 1, .int .u64 0] 24)).alloc (by simp <;> omega) (.cells #[.int .u64 1, .int .u64 0] 24)) (Nat.le_refl _) hb4)
    have q0 := cells0 r4
    have q1 := cells1 r4
    have f0 := frozen_row r4 0
    have f1 := frozen_row r4 1
    have R4 := Lib.hid r4
    clear hb4 r4
    go_wp2
    go_loopw [16, 17, 18, 19] (fun iv _ _ _ wr => ∃ j : Nat, 1 ≤ j ∧ j ≤ m + 1 ∧ iv = .int .i64 (j : Int) ∧ Row wr (V.heap.size + 1) (cl j m) 24 ∧ Below w.heap.size w wr) (fun iv _ _ _ _ => m + 1 - (intOf iv).toNat)
    case atStart =>
      exact ⟨1, by omega, by omega, rfl, (R4.out.set 0 _).set 1 _, (HB4.out.setCell (by simp <;> omega) _).setCell (by simp <;> omega) _⟩
    case round =>
      obtain ⟨j, hj1, hj2, rfl, hr, hbr⟩ := hrel
      have q0 := cells0 hr
      have q1 := cells1 hr
      have HR := Lib.hid hbr
      have hrs : w.heap.size ≤ wr.heap.size := hbr.size
      have hlr : V.heap.size + 1 < wr.heap.size := hr.lt
      have Hr := Lib.hid hr
      clear hr hbr
      by_cases hjm : j = m + 1
      · have hjm' : ¬ (j : Int) ≤ (m : Int) := by omega
        have Hjm := Lib.hid hjm
        have Hok := Lib.hid (show Ok j m by unfold Ok; omega)
        clear hj1 hj2 hjm
        go_wp2_with fail
        refine (Take_none j m _ Hok.out Hjm.out).mono ?_
        rintro e w9 ⟨rfl, hb9⟩
        have HB9 := Lib.hid (nextB HR.out (Nat.le_refl _) hb9)
        clear hb9 q0 q1
        go_wp2
        go_ret
        exact ⟨rfl, HB9.out⟩
      · have hjm' : (j : Int) ≤ (m : Int) := by omega
        have Hok := Lib.hid (show Ok j m by unfold Ok; omega)
        have Hok1 := Lib.hid (show Ok (j + 1) m by unfold Ok; omega)
        have Hle := Lib.hid (show j ≤ m by omega)
        have Hj1 := Lib.hid hj1
        have hcv : IntKind.u64.wrap (j : Int) = (j : Int) := wrap_in _ (by omega) (by omega)
        have hcv2 : IntKind.u64.wrap ((m : Int) - (j : Int)) = ((m + 1 - (j + 1) : Nat) : Int) := by rw [wrap_in _ (by omega) (by omega)]; omega
        have hsb : IntKind.i64.wrap ((m : Int) - (j : Int)) = (m : Int) - (j : Int) := IntWalk.i64_in _ (by omega)
        have hne : ((j : Int) != (j : Int)) = false := by simp
        have hne2 : (((m + 1 - (j + 1) : Nat) : Int) != ((m + 1 - (j + 1) : Nat) : Int)) = false := by simp
        clear hj1 hj2 hjm
        go_wp2_with fail
        refine (Take_ok j m _ Hok.out Hle.out).mono ?_
        rintro e w5 ⟨rfl, hb5⟩
        have HB5 := Lib.hid (nextB HR.out (Nat.le_refl _) hb5)
        have Hr5 := Lib.hid (Hr.out.below hb5 hlr)
        have hl5 : V.heap.size + 1 < w5.heap.size := Hr5.out.lt
        clear hb5 q0 q1
        go_wp2_with fail
        refine (Left_ok (j + 1) m _ Hok1.out).mono ?_
        rintro e w' ⟨rfl, rfl⟩
        have g0 : ∀ o o1 o2, (((w5.alloc o).alloc o1).alloc o2).cell? ⟨V.heap.size + 1, 0, none⟩ = _ := fun o o1 o2 => cells0 (((Hr5.out.alloc o).alloc o1).alloc o2)
        have g1 : ∀ o o1 o2, (((w5.alloc o).alloc o1).alloc o2).cell? ⟨V.heap.size + 1, 1, none⟩ = _ := fun o o1 o2 => cells1 (((Hr5.out.alloc o).alloc o1).alloc o2)
        have f2 : ∀ o o1 o2, (((w5.alloc o).alloc o1).alloc o2).frozen? ⟨V.heap.size + 1, 0, none⟩ = false := fun o o1 o2 => frozen_row (((Hr5.out.alloc o).alloc o1).alloc o2) 0
        have f3 : ∀ o o1 o2, (((w5.alloc o).alloc o1).alloc o2).frozen? ⟨V.heap.size + 1, 1, none⟩ = false := fun o o1 o2 => frozen_row (((Hr5.out.alloc o).alloc o1).alloc o2) 1
        go_wp2
        go_roundw
        case rel =>
          refine ⟨j + 1, by omega, by have := Hle.out; omega, by go_num, ?_, ?_⟩
          · exact ((((Hr5.out.alloc _).alloc _).alloc _).set 0 _).set 1 _
          · have hw5 : w.heap.size ≤ w5.heap.size := HB5.out.size
            exact ((((HB5.out.alloc hw5 _).alloc (by simp <;> omega) _).alloc (by simp <;> omega) _).setCell (by simp <;> omega) _).setCell (by simp <;> omega) _
        case measure => simp [intOf]; have := Hle.out; omega

set_option maxRecDepth 100000 in
theorem lift (os : Os) (started : os.Started) (H : Type) (enc : TypeId × Value → H) :
    ReturnsInHanded {} Try.checked os 7 .any (Rows.leaseAddsSpec.pre6 enc Try.prog Try.f7 Rows.leaseAddsRow.domain false) (Rows.leaseAddsSpec.post enc Try.prog Try.f7 false true false false) := by
  refine Law.lifted (C := Try.checked) 4 own started (by kernel_rfl) Try.func7 laid (by kernel_rfl) rfl Try.underlying4 rfl
    (fun ds hd => by
      have hd' : ds.length = 4 := hd
      match ds, hd' with
      | [d0, d1, d2, d3], _ => rfl)
    (ChangeSpec.witness6 (enc := enc) (C := Try.checked) false ⟨#[], #[.agg #[.int .u64 0, .int .u64 0], .int .u64 0, .int .u64 0, .int .i64 0], []⟩ 8 (by kernel_rfl) (by kernel_rfl) (by kernel_rfl) (by kernel_rfl)) ?_
  intro W args ds ps hst
  have hA : DataW.TrodAll enc Try.prog W 0 (fun _ => true) true Try.f7.params.toList args.toList ds ps := hst.trod
  have hok := hst.okw
  have hlt := hst.lt
  rw [Try.params7] at hA hok
  obtain ⟨v0, v1, v2, v3, d0, d1, d2, d3, p0, p1, p2, p3, rfl, rfl, rfl, h0, h1, h2, h3⟩ := trodAll_four hA
  obtain ⟨_, hv0⟩ := hok 0 24 v0 rfl rfl
  obtain ⟨_, hv1⟩ := hok 1 22 v1 rfl rfl
  obtain ⟨_, hv2⟩ := hok 2 22 v2 rfl rfl
  obtain ⟨_, hv3⟩ := hok 3 3 v3 rfl rfl
  obtain ⟨n, l, rfl, hn, hl⟩ := pair64_at Try.underlying24 (by kernel_rfl) (by kernel_rfl) Try.underlying22 hv0
  obtain ⟨a, rfl, a0, a1⟩ := Law.int_at Try.underlying22 hv1 h1
  obtain ⟨b, rfl, b0, b1⟩ := Law.int_at Try.underlying22 hv2 h2
  obtain ⟨k, rfl, k0, k1⟩ := Law.int_at Try.underlying3 hv3 h3
  have a0' : (0 : Int) ≤ a := a0
  have b0' : (0 : Int) ≤ b := b0
  obtain ⟨a, rfl⟩ := Int.eq_ofNat_of_zero_le a0'
  obtain ⟨b, rfl⟩ := Int.eq_ofNat_of_zero_le b0'
  by_cases h : Ok n l
  · by_cases hlm : l = 1152921504606846976
    · exact walkB n l a b k W hn hl ⟨k0, k1⟩ h hlm
    · have hlm' : l < 1152921504606846976 := by unfold Ok at h; omega
      by_cases hx : l + a % 576460752303423488 + 1 < 1152921504606846976
      · exact walkC n l a b k W hn hl ⟨k0, k1⟩ h hlm' hx
      · exact walkD n l a b k W hn hl ⟨k0, k1⟩ h hlm' hx
  · exact walkA n l a b k W hn hl ⟨k0, k1⟩ h

theorem over : Rows.leaseAddsRow.holds Try.pinned (OpenSpec.ofChange Rows.leaseAddsSpec) :=
  OpenClaim.holds_of_wide 7 Try.f7 rfl rfl rfl rfl rfl rfl rfl ⟨rfl, rfl, rfl, rfl, rfl⟩ rfl rfl rfl rfl rfl (by kernel_rfl) Try.func7 (by kernel_rfl)
    (of_decide_eq_true (by kernel_rfl)) (by unfold Func.isWrapper; first | (rw [if_pos (by decide +kernel)]; kernel_rfl) | (rw [if_neg (by decide +kernel)]; exact ⟨rfl, rfl⟩))
    (fun os started H enc _ => lift os started H enc)
theorem proved : Rows.LeaseAddsSaid := over
#print axioms proved
end Go.Proofs.Ytndpobibjgcefaa.leaseAdds

