/- Two numbers that are accepted in either order lead to the same window: 'drawbridgelaw07.WindowCommutes'. -/
import Derived.Test.YtnpmlbpnlflkkaaWinAny
import Derived.Test.YtnpmlbpnlflkkaaWinLives
import Derived.Test.YtnpmlbpnlflkkaaWinArgs
import Derived.Test.YtnpmlbpnlflkkaaBy
import Derived.Deep.QuietTactic
import Derived.BigQuiet
namespace Go.Proofs.Ytnpmlbpnlflkkaa.windowCommutes
open Go.ChangeShapes Go.WideShapes Go.ChangeAt Go.RowKit Win


set_option maxRecDepth 8000 in
set_option maxHeartbeats 4000000 in
theorem walk3no (f t s l n m k a0 a1 a2 a3 b0 b1 b2 b3 c0 c1 c2 c3 d0 d1 d2 d3 x0 x1 x2 x3 e1 e2 e3 e4 r : Nat) (w : World)
    (HT1 : Hid (∀ W : World, Calls Try.prog 19 #[wv f t s l, .int .u64 (n : Int)] W fun e w' => e = .returned (.tuple #[wv a0 a1 a2 a3, .int .i64 (e1 : Int)]) ∧ Below W.heap.size W w'))
    (HT2 : Hid (∀ W : World, Calls Try.prog 19 #[wv a0 a1 a2 a3, .int .u64 (m : Int)] W fun e w' => e = .returned (.tuple #[wv b0 b1 b2 b3, .int .i64 (e2 : Int)]) ∧ Below W.heap.size W w'))
    (HT3 : Hid (∀ W : World, Calls Try.prog 19 #[wv f t s l, .int .u64 (m : Int)] W fun e w' => e = .returned (.tuple #[wv c0 c1 c2 c3, .int .i64 (e3 : Int)]) ∧ Below W.heap.size W w'))
    (HT4 : Hid (∀ W : World, Calls Try.prog 19 #[wv c0 c1 c2 c3, .int .u64 (n : Int)] W fun e w' => e = .returned (.tuple #[wv d0 d1 d2 d3, .int .i64 (e4 : Int)]) ∧ Below W.heap.size W w'))
    (HA : Hid (∀ W : World, Calls Try.prog 17 #[wv f t s l, .int .u64 (k : Int)] W fun e w' => e = .returned (.tuple #[wv x0 x1 x2 x3, .int .i64 (r : Int)]) ∧ Below W.heap.size W w'))
    (h1 : ((e1 : Int) == 0) = true) (h2 : ((e2 : Int) == 0) = true) (h3 : ((e3 : Int) == 0) = false)
    (hr : ((r : Int) != 0) = true)

     :
    Calls Try.prog 8 #[wv f t s l, .int .u64 (n : Int), .int .u64 (m : Int), .int .u64 (k : Int)] w fun e w' => e = .returned (.bool true) ∧ Below w.heap.size w w' := by
  go_enter Try.func8, Try.ntmps8
  go_wp2_with fail
  refine (lives_any _).mono ?_
  rintro r' w1 ⟨rfl, hb⟩
  have HV1 := Lib.hid (show Below w.heap.size w w1 from nextB ((Below.refl w.heap.size w).alloc (Nat.le_refl _) _) (Nat.le_refl _) hb)
  have R0V1 := Lib.hid (show Row w1 w.heap.size (wl f t s l) 35 from (Row.new rfl rfl).below hb (by simp))
  obtain ⟨p0, p1, p2, p3⟩ := quad R0V1.out
  clear hb
  go_wp2_with fail
  clear p0 p1 p2 p3
  refine (HT1.out _).mono ?_
  rintro r w2 ⟨rfl, hb⟩
  have HB2 := Lib.hid (nextB HV1.out (Nat.le_refl _) hb)
  have hs2 : w.heap.size ≤ w2.heap.size := HB2.out.size
  have R0_2 := Lib.hid (R0V1.out.below hb R0V1.out.lt)
  clear hb
  go_wp2_with fail
  obtain ⟨V2, hV⟩ : ∃ V, w2.alloc (.cells #[.int .u64 (a0 : Int), .int .u64 (a1 : Int), .int .u64 (a2 : Int), .int .u64 (a3 : Int)] 35) = V := ⟨_, rfl⟩
  rw [hV]
  have HV2 := Lib.hid (show Below w.heap.size w V2 by rw [← hV]; exact HB2.out.alloc hs2 _)
  have R0V2 := Lib.hid (show Row V2 w.heap.size (wl f t s l) 35 by rw [← hV]; exact R0_2.out.alloc _)
  have RAV2 := Lib.hid (show Row V2 w2.heap.size (wl a0 a1 a2 a3) 35 by rw [← hV]; exact Row.new rfl rfl)
  clear hV
  refine (HT2.out _).mono ?_
  rintro r w3 ⟨rfl, hb⟩
  have HB3 := Lib.hid (nextB HV2.out (Nat.le_refl _) hb)
  have hs3 : w.heap.size ≤ w3.heap.size := HB3.out.size
  have R0_3 := Lib.hid (R0V2.out.below hb R0V2.out.lt)
  have RA_3 := Lib.hid (RAV2.out.below hb RAV2.out.lt)
  clear hb
  obtain ⟨pR00, pR01, pR02, pR03⟩ := quadA R0_3.out
  go_wp2_with fail
  obtain ⟨V3, hV⟩ : ∃ V, w3.alloc (.cells #[.int .u64 (b0 : Int), .int .u64 (b1 : Int), .int .u64 (b2 : Int), .int .u64 (b3 : Int)] 35) = V := ⟨_, rfl⟩
  rw [hV]
  have HV3 := Lib.hid (show Below w.heap.size w V3 by rw [← hV]; exact HB3.out.alloc hs3 _)
  have R0V3 := Lib.hid (show Row V3 w.heap.size (wl f t s l) 35 by rw [← hV]; exact R0_3.out.alloc _)
  have RAV3 := Lib.hid (show Row V3 w2.heap.size (wl a0 a1 a2 a3) 35 by rw [← hV]; exact RA_3.out.alloc _)
  have RBV3 := Lib.hid (show Row V3 w3.heap.size (wl b0 b1 b2 b3) 35 by rw [← hV]; exact Row.new rfl rfl)
  clear hV pR00 pR01 pR02 pR03
  refine (HT3.out _).mono ?_
  rintro r w4 ⟨rfl, hb⟩
  have HB4 := Lib.hid (nextB HV3.out (Nat.le_refl _) hb)
  have hs4 : w.heap.size ≤ w4.heap.size := HB4.out.size
  have R0_4 := Lib.hid (R0V3.out.below hb R0V3.out.lt)
  have RA_4 := Lib.hid (RAV3.out.below hb RAV3.out.lt)
  have RB_4 := Lib.hid (RBV3.out.below hb RBV3.out.lt)
  clear hb
  go_wp2_with fail
  obtain ⟨V4, hV⟩ : ∃ V, w4.alloc (.cells #[.int .u64 (c0 : Int), .int .u64 (c1 : Int), .int .u64 (c2 : Int), .int .u64 (c3 : Int)] 35) = V := ⟨_, rfl⟩
  rw [hV]
  have HV4 := Lib.hid (show Below w.heap.size w V4 by rw [← hV]; exact HB4.out.alloc hs4 _)
  have R0V4 := Lib.hid (show Row V4 w.heap.size (wl f t s l) 35 by rw [← hV]; exact R0_4.out.alloc _)
  have RAV4 := Lib.hid (show Row V4 w2.heap.size (wl a0 a1 a2 a3) 35 by rw [← hV]; exact RA_4.out.alloc _)
  have RBV4 := Lib.hid (show Row V4 w3.heap.size (wl b0 b1 b2 b3) 35 by rw [← hV]; exact RB_4.out.alloc _)
  have RCV4 := Lib.hid (show Row V4 w4.heap.size (wl c0 c1 c2 c3) 35 by rw [← hV]; exact Row.new rfl rfl)
  clear hV
  refine (HT4.out _).mono ?_
  rintro r w5 ⟨rfl, hb⟩
  have HB5 := Lib.hid (nextB HV4.out (Nat.le_refl _) hb)
  have hs5 : w.heap.size ≤ w5.heap.size := HB5.out.size
  have R0_5 := Lib.hid (R0V4.out.below hb R0V4.out.lt)
  have RA_5 := Lib.hid (RAV4.out.below hb RAV4.out.lt)
  have RB_5 := Lib.hid (RBV4.out.below hb RBV4.out.lt)
  clear hb
  obtain ⟨pR00, pR01, pR02, pR03⟩ := quadA R0_5.out
  obtain ⟨pRB0, pRB1, pRB2, pRB3⟩ := quadA RB_5.out
  go_wp2_with fail
  obtain ⟨V5, hV⟩ : ∃ V, w5.alloc (.cells #[.int .u64 (d0 : Int), .int .u64 (d1 : Int), .int .u64 (d2 : Int), .int .u64 (d3 : Int)] 35) = V := ⟨_, rfl⟩
  rw [hV]
  have HV5 := Lib.hid (show Below w.heap.size w V5 by rw [← hV]; exact HB5.out.alloc hs5 _)
  have R0V5 := Lib.hid (show Row V5 w.heap.size (wl f t s l) 35 by rw [← hV]; exact R0_5.out.alloc _)
  have RAV5 := Lib.hid (show Row V5 w2.heap.size (wl a0 a1 a2 a3) 35 by rw [← hV]; exact RA_5.out.alloc _)
  have RBV5 := Lib.hid (show Row V5 w3.heap.size (wl b0 b1 b2 b3) 35 by rw [← hV]; exact RB_5.out.alloc _)
  have RDV5 := Lib.hid (show Row V5 w5.heap.size (wl d0 d1 d2 d3) 35 by rw [← hV]; exact Row.new rfl rfl)
  clear hV pR00 pR01 pR02 pR03 pRB0 pRB1 pRB2 pRB3
  refine (HA.out _).mono ?_
  rintro r' w6 ⟨rfl, hb⟩
  have HB6 := Lib.hid (nextB HV5.out (Nat.le_refl _) hb)
  have hs6 : w.heap.size ≤ w6.heap.size := HB6.out.size
  clear hb
  go_wp2
  go_ret
  exact ⟨rfl, HB6.out.alloc hs6 _⟩

set_option maxRecDepth 8000 in
set_option maxHeartbeats 4000000 in
theorem walk3okg (f t s l n m k a0 a1 a2 a3 b0 b1 b2 b3 c0 c1 c2 c3 d0 d1 d2 d3 e1 e2 e3 e4 r e5 y0 y1 y2 y3 : Nat) (sn : Bool) (w : World)
    (HT1 : Hid (∀ W : World, Calls Try.prog 19 #[wv f t s l, .int .u64 (n : Int)] W fun e w' => e = .returned (.tuple #[wv a0 a1 a2 a3, .int .i64 (e1 : Int)]) ∧ Below W.heap.size W w'))
    (HT2 : Hid (∀ W : World, Calls Try.prog 19 #[wv a0 a1 a2 a3, .int .u64 (m : Int)] W fun e w' => e = .returned (.tuple #[wv b0 b1 b2 b3, .int .i64 (e2 : Int)]) ∧ Below W.heap.size W w'))
    (HT3 : Hid (∀ W : World, Calls Try.prog 19 #[wv f t s l, .int .u64 (m : Int)] W fun e w' => e = .returned (.tuple #[wv c0 c1 c2 c3, .int .i64 (e3 : Int)]) ∧ Below W.heap.size W w'))
    (HT4 : Hid (∀ W : World, Calls Try.prog 19 #[wv c0 c1 c2 c3, .int .u64 (n : Int)] W fun e w' => e = .returned (.tuple #[wv d0 d1 d2 d3, .int .i64 (e4 : Int)]) ∧ Below W.heap.size W w'))
    (HA : Hid (∀ W : World, Calls Try.prog 17 #[wv f t s l, .int .u64 (k : Int)] W fun e w' => e = .returned (.tuple #[wv f t s k, .int .i64 (r : Int)]) ∧ Below W.heap.size W w'))
    (HT5 : Hid (∀ W : World, Calls Try.prog 19 #[wv f t s k, .int .u64 (n : Int)] W fun e w' => e = .returned (.tuple #[wv y0 y1 y2 y3, .int .i64 (e5 : Int)]) ∧ Below W.heap.size W w'))
    (HS1 : Hid (∀ W : World, Calls Try.prog 25 #[wv f t s k, .int .u64 (m : Int)] W fun e w' => e = .returned (.bool sn) ∧ Below W.heap.size W w'))
    (HS0 : Hid (∀ W : World, Calls Try.prog 25 #[wv f t s l, .int .u64 (m : Int)] W fun e w' => e = .returned (.bool sn) ∧ Below W.heap.size W w'))
    (HJ : Hid (n < l → e5 = e1)) 
    (h1 : ((e1 : Int) == 0) = true) (h2 : ((e2 : Int) == 0) = true) (h3 : ((e3 : Int) == 0) = false)
    (hr : ((r : Int) != 0) = false)
    (hn : decide (l ≤ n) = true)
     :
    Calls Try.prog 8 #[wv f t s l, .int .u64 (n : Int), .int .u64 (m : Int), .int .u64 (k : Int)] w fun e w' => e = .returned (.bool true) ∧ Below w.heap.size w w' := by
  go_enter Try.func8, Try.ntmps8
  go_wp2_with fail
  refine (lives_any _).mono ?_
  rintro r' w1 ⟨rfl, hb⟩
  have HV1 := Lib.hid (show Below w.heap.size w w1 from nextB ((Below.refl w.heap.size w).alloc (Nat.le_refl _) _) (Nat.le_refl _) hb)
  have R0V1 := Lib.hid (show Row w1 w.heap.size (wl f t s l) 35 from (Row.new rfl rfl).below hb (by simp))
  obtain ⟨p0, p1, p2, p3⟩ := quad R0V1.out
  clear hb
  go_wp2_with fail
  clear p0 p1 p2 p3
  refine (HT1.out _).mono ?_
  rintro r w2 ⟨rfl, hb⟩
  have HB2 := Lib.hid (nextB HV1.out (Nat.le_refl _) hb)
  have hs2 : w.heap.size ≤ w2.heap.size := HB2.out.size
  have R0_2 := Lib.hid (R0V1.out.below hb R0V1.out.lt)
  clear hb
  go_wp2_with fail
  obtain ⟨V2, hV⟩ : ∃ V, w2.alloc (.cells #[.int .u64 (a0 : Int), .int .u64 (a1 : Int), .int .u64 (a2 : Int), .int .u64 (a3 : Int)] 35) = V := ⟨_, rfl⟩
  rw [hV]
  have HV2 := Lib.hid (show Below w.heap.size w V2 by rw [← hV]; exact HB2.out.alloc hs2 _)
  have R0V2 := Lib.hid (show Row V2 w.heap.size (wl f t s l) 35 by rw [← hV]; exact R0_2.out.alloc _)
  have RAV2 := Lib.hid (show Row V2 w2.heap.size (wl a0 a1 a2 a3) 35 by rw [← hV]; exact Row.new rfl rfl)
  clear hV
  refine (HT2.out _).mono ?_
  rintro r w3 ⟨rfl, hb⟩
  have HB3 := Lib.hid (nextB HV2.out (Nat.le_refl _) hb)
  have hs3 : w.heap.size ≤ w3.heap.size := HB3.out.size
  have R0_3 := Lib.hid (R0V2.out.below hb R0V2.out.lt)
  have RA_3 := Lib.hid (RAV2.out.below hb RAV2.out.lt)
  clear hb
  obtain ⟨pR00, pR01, pR02, pR03⟩ := quadA R0_3.out
  go_wp2_with fail
  obtain ⟨V3, hV⟩ : ∃ V, w3.alloc (.cells #[.int .u64 (b0 : Int), .int .u64 (b1 : Int), .int .u64 (b2 : Int), .int .u64 (b3 : Int)] 35) = V := ⟨_, rfl⟩
  rw [hV]
  have HV3 := Lib.hid (show Below w.heap.size w V3 by rw [← hV]; exact HB3.out.alloc hs3 _)
  have R0V3 := Lib.hid (show Row V3 w.heap.size (wl f t s l) 35 by rw [← hV]; exact R0_3.out.alloc _)
  have RAV3 := Lib.hid (show Row V3 w2.heap.size (wl a0 a1 a2 a3) 35 by rw [← hV]; exact RA_3.out.alloc _)
  have RBV3 := Lib.hid (show Row V3 w3.heap.size (wl b0 b1 b2 b3) 35 by rw [← hV]; exact Row.new rfl rfl)
  clear hV pR00 pR01 pR02 pR03
  refine (HT3.out _).mono ?_
  rintro r w4 ⟨rfl, hb⟩
  have HB4 := Lib.hid (nextB HV3.out (Nat.le_refl _) hb)
  have hs4 : w.heap.size ≤ w4.heap.size := HB4.out.size
  have R0_4 := Lib.hid (R0V3.out.below hb R0V3.out.lt)
  have RA_4 := Lib.hid (RAV3.out.below hb RAV3.out.lt)
  have RB_4 := Lib.hid (RBV3.out.below hb RBV3.out.lt)
  clear hb
  go_wp2_with fail
  obtain ⟨V4, hV⟩ : ∃ V, w4.alloc (.cells #[.int .u64 (c0 : Int), .int .u64 (c1 : Int), .int .u64 (c2 : Int), .int .u64 (c3 : Int)] 35) = V := ⟨_, rfl⟩
  rw [hV]
  have HV4 := Lib.hid (show Below w.heap.size w V4 by rw [← hV]; exact HB4.out.alloc hs4 _)
  have R0V4 := Lib.hid (show Row V4 w.heap.size (wl f t s l) 35 by rw [← hV]; exact R0_4.out.alloc _)
  have RAV4 := Lib.hid (show Row V4 w2.heap.size (wl a0 a1 a2 a3) 35 by rw [← hV]; exact RA_4.out.alloc _)
  have RBV4 := Lib.hid (show Row V4 w3.heap.size (wl b0 b1 b2 b3) 35 by rw [← hV]; exact RB_4.out.alloc _)
  have RCV4 := Lib.hid (show Row V4 w4.heap.size (wl c0 c1 c2 c3) 35 by rw [← hV]; exact Row.new rfl rfl)
  clear hV
  refine (HT4.out _).mono ?_
  rintro r w5 ⟨rfl, hb⟩
  have HB5 := Lib.hid (nextB HV4.out (Nat.le_refl _) hb)
  have hs5 : w.heap.size ≤ w5.heap.size := HB5.out.size
  have R0_5 := Lib.hid (R0V4.out.below hb R0V4.out.lt)
  have RA_5 := Lib.hid (RAV4.out.below hb RAV4.out.lt)
  have RB_5 := Lib.hid (RBV4.out.below hb RBV4.out.lt)
  clear hb
  obtain ⟨pR00, pR01, pR02, pR03⟩ := quadA R0_5.out
  obtain ⟨pRB0, pRB1, pRB2, pRB3⟩ := quadA RB_5.out
  go_wp2_with fail
  obtain ⟨V5, hV⟩ : ∃ V, w5.alloc (.cells #[.int .u64 (d0 : Int), .int .u64 (d1 : Int), .int .u64 (d2 : Int), .int .u64 (d3 : Int)] 35) = V := ⟨_, rfl⟩
  rw [hV]
  have HV5 := Lib.hid (show Below w.heap.size w V5 by rw [← hV]; exact HB5.out.alloc hs5 _)
  have R0V5 := Lib.hid (show Row V5 w.heap.size (wl f t s l) 35 by rw [← hV]; exact R0_5.out.alloc _)
  have RAV5 := Lib.hid (show Row V5 w2.heap.size (wl a0 a1 a2 a3) 35 by rw [← hV]; exact RA_5.out.alloc _)
  have RBV5 := Lib.hid (show Row V5 w3.heap.size (wl b0 b1 b2 b3) 35 by rw [← hV]; exact RB_5.out.alloc _)
  have RDV5 := Lib.hid (show Row V5 w5.heap.size (wl d0 d1 d2 d3) 35 by rw [← hV]; exact Row.new rfl rfl)
  clear hV pR00 pR01 pR02 pR03 pRB0 pRB1 pRB2 pRB3
  refine (HA.out _).mono ?_
  rintro r w6 ⟨rfl, hb⟩
  have HB6 := Lib.hid (nextB HV5.out (Nat.le_refl _) hb)
  have hs6 : w.heap.size ≤ w6.heap.size := HB6.out.size
  have R0_6 := Lib.hid (R0V5.out.below hb R0V5.out.lt)
  have RA_6 := Lib.hid (RAV5.out.below hb RAV5.out.lt)
  clear hb
  go_wp2_with fail
  obtain ⟨V6, hV⟩ : ∃ V, w6.alloc (.cells #[.int .u64 (f : Int), .int .u64 (t : Int), .int .u64 (s : Int), .int .u64 (k : Int)] 35) = V := ⟨_, rfl⟩
  rw [hV]
  have HV6 := Lib.hid (show Below w.heap.size w V6 by rw [← hV]; exact HB6.out.alloc hs6 _)
  have R0V6 := Lib.hid (show Row V6 w.heap.size (wl f t s l) 35 by rw [← hV]; exact R0_6.out.alloc _)
  have RAV6 := Lib.hid (show Row V6 w2.heap.size (wl a0 a1 a2 a3) 35 by rw [← hV]; exact RA_6.out.alloc _)
  have RXV6 := Lib.hid (show Row V6 w6.heap.size (wl f t s k) 35 by rw [← hV]; exact Row.new rfl rfl)
  clear hV
  refine (HT5.out _).mono ?_
  rintro r w7 ⟨rfl, hb⟩
  have HB7 := Lib.hid (nextB HV6.out (Nat.le_refl _) hb)
  have hs7 : w.heap.size ≤ w7.heap.size := HB7.out.size
  have R0_7 := Lib.hid (R0V6.out.below hb R0V6.out.lt)
  have RA_7 := Lib.hid (RAV6.out.below hb RAV6.out.lt)
  have RX_7 := Lib.hid (RXV6.out.below hb RXV6.out.lt)
  clear hb
  go_wp2_with fail
  obtain ⟨V7, hV⟩ : ∃ V, w7.alloc (.cells #[.int .u64 (y0 : Int), .int .u64 (y1 : Int), .int .u64 (y2 : Int), .int .u64 (y3 : Int)] 35) = V := ⟨_, rfl⟩
  rw [hV]
  have HV7 := Lib.hid (show Below w.heap.size w V7 by rw [← hV]; exact HB7.out.alloc hs7 _)
  have R0V7 := Lib.hid (show Row V7 w.heap.size (wl f t s l) 35 by rw [← hV]; exact R0_7.out.alloc _)
  have RAV7 := Lib.hid (show Row V7 w2.heap.size (wl a0 a1 a2 a3) 35 by rw [← hV]; exact RA_7.out.alloc _)
  have RXV7 := Lib.hid (show Row V7 w6.heap.size (wl f t s k) 35 by rw [← hV]; exact RX_7.out.alloc _)
  have RYV7 := Lib.hid (show Row V7 w7.heap.size (wl y0 y1 y2 y3) 35 by rw [← hV]; exact Row.new rfl rfl)
  clear hV
  refine By.marks Win.mixed Grew [By.is (.pointer (some ⟨w6.heap.size, 3, none⟩)),
    By.is (.int .u64 (k : Int)),
    By.is (.int .u64 (k : Int)),
    By.is (.bool false),
    By.is (.bool false),
    By.is (.pointer (some ⟨w6.heap.size, 0, none⟩)),
    By.is (.int .u64 (f : Int)),
    By.is (.pointer (some ⟨w.heap.size, 0, none⟩)),
    By.is (.int .u64 (f : Int)),
    By.is (.bool false),
    By.is (.bool false),
    By.is (.bool false),
    By.is (.pointer (some ⟨w6.heap.size, 1, none⟩)),
    By.is (.int .u64 (t : Int)),
    By.is (.pointer (some ⟨w.heap.size, 1, none⟩)),
    By.is (.int .u64 (t : Int)),
    By.is (.bool false),
    By.is (.bool false),
    By.is (.bool false),
    By.is (.pointer (some ⟨w6.heap.size, 2, none⟩)),
    By.is (.int .u64 (s : Int)),
    By.is (.pointer (some ⟨w.heap.size, 2, none⟩)),
    By.is (.int .u64 (s : Int)),
    By.is (.bool false),
    By.is (.bool false),
    By.is (.bool false),
    By.is (wv f t s k),
    By.is (.int .u64 (m : Int)),
    By.is (.bool sn),
    By.is (wv f t s l),
    By.is (.int .u64 (m : Int)),
    By.is (.bool sn),
    By.is (.bool false),
    By.is (.bool false),
    By.is (.bool false),
    By.is (.int .u64 (n : Int)),
    By.is (.pointer (some ⟨w.heap.size, 3, none⟩)),
    By.is (.int .u64 (l : Int)),
    By.is (.bool (decide (n < l))),
    By.is (.bool (decide (n < l))),
    By.when (n < l) (By.is (.int .i64 (e5 : Int))),
    By.when (n < l) (By.is (.int .i64 (e1 : Int))),
    By.when (n < l) (By.is (.bool false)),
    By.is (.bool false),
    By.is (.bool false)]
    (Ev.masks _ []) (by kernel_rfl) rfl Grew.refl Grew.trans ⟨?_, ?_, ?_, ?_, ?_, ?_, ?_, ?_, ?_, ?_, ?_, ?_, ?_, ?_, ?_, ?_, ?_, ?_, ?_, ?_, ?_, ?_, ?_, ?_, ?_, ?_, ?_, ?_, ?_, ?_, ?_, ?_, ?_, ?_, ?_, ?_, ?_, ?_, ?_, ?_, ?_, ?_, ?_, ?_, ?_, trivial⟩ ?_
  · intro a w ht hs hg -- 85
    have h17 := By.same_get hs 17 (by decide) (by kernel_rfl)
    refine By.yes rfl ?_
    clear hs hg
    go_simp
    exact ⟨_, rfl, Grew.refl _, rfl⟩
  · intro a w ht hs hg -- 86
    have h85 : a.tmps.getD 85 undef = _ := By.given_get hg 0 rfl rfl (by kernel_rfl)
    refine By.yes rfl ?_
    clear hs hg
    have hc := (Row.below (w := V7.drew) RXV7.out ht RXV7.out.lt).cell (i := 3) rfl
    go_simp
    exact ⟨_, rfl, Grew.refl _, rfl⟩
  · intro a w ht hs hg -- 87
    have h3 := By.same_get hs 3 (by decide) (by kernel_rfl)
    refine By.yes rfl ?_
    clear hs hg
    go_simp
    exact ⟨_, rfl, Grew.refl _, rfl⟩
  · intro a w ht hs hg -- 88
    have h86 : a.tmps.getD 86 undef = _ := By.given_get hg 1 rfl rfl (by kernel_rfl)
    have h87 : a.tmps.getD 87 undef = _ := By.given_get hg 2 rfl rfl (by kernel_rfl)
    refine By.yes rfl ?_
    clear hs hg
    go_simp
    exact ⟨_, rfl, Grew.refl _, congrArg Value.bool (by simp)⟩
  · intro a w ht hs hg -- 89
    have h88 : a.tmps.getD 88 undef = _ := By.given_get hg 3 rfl rfl (by kernel_rfl)
    refine By.yes rfl ?_
    clear hs hg
    go_simp
    exact ⟨_, rfl, Grew.refl _, rfl⟩
  · intro a w ht hs hg -- 90
    have h17 := By.same_get hs 17 (by decide) (by kernel_rfl)
    have hg89 := By.given_get hg 4 rfl rfl (by kernel_rfl)
    refine By.yes (By.want_yes rfl rfl hg89) ?_
    clear hg89
    clear hs hg
    go_simp
    exact ⟨_, rfl, Grew.refl _, rfl⟩
  · intro a w ht hs hg -- 91
    have h90 : a.tmps.getD 90 undef = _ := By.given_get hg 5 rfl rfl (by kernel_rfl)
    have hg89 := By.given_get hg 4 rfl rfl (by kernel_rfl)
    refine By.yes (By.want_yes rfl rfl hg89) ?_
    clear hg89
    clear hs hg
    have hc := (Row.below (w := V7.drew) RXV7.out ht RXV7.out.lt).cell (i := 0) rfl
    go_simp
    exact ⟨_, rfl, Grew.refl _, rfl⟩
  · intro a w ht hs hg -- 92
    have h4 := By.same_get hs 4 (by decide) (by kernel_rfl)
    have hg89 := By.given_get hg 4 rfl rfl (by kernel_rfl)
    refine By.yes (By.want_yes rfl rfl hg89) ?_
    clear hg89
    clear hs hg
    go_simp
    exact ⟨_, rfl, Grew.refl _, rfl⟩
  · intro a w ht hs hg -- 93
    have h92 : a.tmps.getD 92 undef = _ := By.given_get hg 7 rfl rfl (by kernel_rfl)
    have hg89 := By.given_get hg 4 rfl rfl (by kernel_rfl)
    refine By.yes (By.want_yes rfl rfl hg89) ?_
    clear hg89
    clear hs hg
    have hc := (Row.below (w := V7.drew) R0V7.out ht R0V7.out.lt).cell (i := 0) rfl
    go_simp
    exact ⟨_, rfl, Grew.refl _, rfl⟩
  · intro a w ht hs hg -- 94
    have h91 : a.tmps.getD 91 undef = _ := By.given_get hg 6 rfl rfl (by kernel_rfl)
    have h93 : a.tmps.getD 93 undef = _ := By.given_get hg 8 rfl rfl (by kernel_rfl)
    have hg89 := By.given_get hg 4 rfl rfl (by kernel_rfl)
    refine By.yes (By.want_yes rfl rfl hg89) ?_
    clear hg89
    clear hs hg
    go_simp
    exact ⟨_, rfl, Grew.refl _, congrArg Value.bool (by simp)⟩
  · intro a w ht hs hg -- 95
    have h89 : a.tmps.getD 89 undef = _ := By.given_get hg 4 rfl rfl (by kernel_rfl)
    have h94 : a.tmps.getD 94 undef = _ := By.given_get hg 9 rfl rfl (by kernel_rfl)
    refine By.yes rfl ?_
    clear hs hg
    go_simp
    exact ⟨_, rfl, Grew.refl _, rfl⟩
  · intro a w ht hs hg -- 96
    have h95 : a.tmps.getD 95 undef = _ := By.given_get hg 10 rfl rfl (by kernel_rfl)
    refine By.yes rfl ?_
    clear hs hg
    go_simp
    exact ⟨_, rfl, Grew.refl _, rfl⟩
  · intro a w ht hs hg -- 97
    have h17 := By.same_get hs 17 (by decide) (by kernel_rfl)
    have hg96 := By.given_get hg 11 rfl rfl (by kernel_rfl)
    refine By.yes (By.want_yes rfl rfl hg96) ?_
    clear hg96
    clear hs hg
    go_simp
    exact ⟨_, rfl, Grew.refl _, rfl⟩
  · intro a w ht hs hg -- 98
    have h97 : a.tmps.getD 97 undef = _ := By.given_get hg 12 rfl rfl (by kernel_rfl)
    have hg96 := By.given_get hg 11 rfl rfl (by kernel_rfl)
    refine By.yes (By.want_yes rfl rfl hg96) ?_
    clear hg96
    clear hs hg
    have hc := (Row.below (w := V7.drew) RXV7.out ht RXV7.out.lt).cell (i := 1) rfl
    go_simp
    exact ⟨_, rfl, Grew.refl _, rfl⟩
  · intro a w ht hs hg -- 99
    have h4 := By.same_get hs 4 (by decide) (by kernel_rfl)
    have hg96 := By.given_get hg 11 rfl rfl (by kernel_rfl)
    refine By.yes (By.want_yes rfl rfl hg96) ?_
    clear hg96
    clear hs hg
    go_simp
    exact ⟨_, rfl, Grew.refl _, rfl⟩
  · intro a w ht hs hg -- 100
    have h99 : a.tmps.getD 99 undef = _ := By.given_get hg 14 rfl rfl (by kernel_rfl)
    have hg96 := By.given_get hg 11 rfl rfl (by kernel_rfl)
    refine By.yes (By.want_yes rfl rfl hg96) ?_
    clear hg96
    clear hs hg
    have hc := (Row.below (w := V7.drew) R0V7.out ht R0V7.out.lt).cell (i := 1) rfl
    go_simp
    exact ⟨_, rfl, Grew.refl _, rfl⟩
  · intro a w ht hs hg -- 101
    have h98 : a.tmps.getD 98 undef = _ := By.given_get hg 13 rfl rfl (by kernel_rfl)
    have h100 : a.tmps.getD 100 undef = _ := By.given_get hg 15 rfl rfl (by kernel_rfl)
    have hg96 := By.given_get hg 11 rfl rfl (by kernel_rfl)
    refine By.yes (By.want_yes rfl rfl hg96) ?_
    clear hg96
    clear hs hg
    go_simp
    exact ⟨_, rfl, Grew.refl _, congrArg Value.bool (by simp)⟩
  · intro a w ht hs hg -- 102
    have h96 : a.tmps.getD 96 undef = _ := By.given_get hg 11 rfl rfl (by kernel_rfl)
    have h101 : a.tmps.getD 101 undef = _ := By.given_get hg 16 rfl rfl (by kernel_rfl)
    refine By.yes rfl ?_
    clear hs hg
    go_simp
    exact ⟨_, rfl, Grew.refl _, rfl⟩
  · intro a w ht hs hg -- 103
    have h102 : a.tmps.getD 102 undef = _ := By.given_get hg 17 rfl rfl (by kernel_rfl)
    refine By.yes rfl ?_
    clear hs hg
    go_simp
    exact ⟨_, rfl, Grew.refl _, rfl⟩
  · intro a w ht hs hg -- 104
    have h17 := By.same_get hs 17 (by decide) (by kernel_rfl)
    have hg103 := By.given_get hg 18 rfl rfl (by kernel_rfl)
    refine By.yes (By.want_yes rfl rfl hg103) ?_
    clear hg103
    clear hs hg
    go_simp
    exact ⟨_, rfl, Grew.refl _, rfl⟩
  · intro a w ht hs hg -- 105
    have h104 : a.tmps.getD 104 undef = _ := By.given_get hg 19 rfl rfl (by kernel_rfl)
    have hg103 := By.given_get hg 18 rfl rfl (by kernel_rfl)
    refine By.yes (By.want_yes rfl rfl hg103) ?_
    clear hg103
    clear hs hg
    have hc := (Row.below (w := V7.drew) RXV7.out ht RXV7.out.lt).cell (i := 2) rfl
    go_simp
    exact ⟨_, rfl, Grew.refl _, rfl⟩
  · intro a w ht hs hg -- 106
    have h4 := By.same_get hs 4 (by decide) (by kernel_rfl)
    have hg103 := By.given_get hg 18 rfl rfl (by kernel_rfl)
    refine By.yes (By.want_yes rfl rfl hg103) ?_
    clear hg103
    clear hs hg
    go_simp
    exact ⟨_, rfl, Grew.refl _, rfl⟩
  · intro a w ht hs hg -- 107
    have h106 : a.tmps.getD 106 undef = _ := By.given_get hg 21 rfl rfl (by kernel_rfl)
    have hg103 := By.given_get hg 18 rfl rfl (by kernel_rfl)
    refine By.yes (By.want_yes rfl rfl hg103) ?_
    clear hg103
    clear hs hg
    have hc := (Row.below (w := V7.drew) R0V7.out ht R0V7.out.lt).cell (i := 2) rfl
    go_simp
    exact ⟨_, rfl, Grew.refl _, rfl⟩
  · intro a w ht hs hg -- 108
    have h105 : a.tmps.getD 105 undef = _ := By.given_get hg 20 rfl rfl (by kernel_rfl)
    have h107 : a.tmps.getD 107 undef = _ := By.given_get hg 22 rfl rfl (by kernel_rfl)
    have hg103 := By.given_get hg 18 rfl rfl (by kernel_rfl)
    refine By.yes (By.want_yes rfl rfl hg103) ?_
    clear hg103
    clear hs hg
    go_simp
    exact ⟨_, rfl, Grew.refl _, congrArg Value.bool (by simp)⟩
  · intro a w ht hs hg -- 109
    have h103 : a.tmps.getD 103 undef = _ := By.given_get hg 18 rfl rfl (by kernel_rfl)
    have h108 : a.tmps.getD 108 undef = _ := By.given_get hg 23 rfl rfl (by kernel_rfl)
    refine By.yes rfl ?_
    clear hs hg
    go_simp
    exact ⟨_, rfl, Grew.refl _, rfl⟩
  · intro a w ht hs hg -- 110
    have h109 : a.tmps.getD 109 undef = _ := By.given_get hg 24 rfl rfl (by kernel_rfl)
    refine By.yes rfl ?_
    clear hs hg
    go_simp
    exact ⟨_, rfl, Grew.refl _, rfl⟩
  · intro a w ht hs hg -- 111
    have h17 := By.same_get hs 17 (by decide) (by kernel_rfl)
    have hg110 := By.given_get hg 25 rfl rfl (by kernel_rfl)
    refine By.yes (By.want_yes rfl rfl hg110) ?_
    clear hg110
    clear hs hg
    refine wp_loadRow 35 _ rfl h17 (Row.below (w := V7.drew) RXV7.out ht RXV7.out.lt) Try.underlying35 rfl (by kernel_rfl) rfl ?_
    exact ⟨_, rfl, Grew.refl _, rfl⟩
  · intro a w ht hs hg -- 112
    have h2 := By.same_get hs 2 (by decide) (by kernel_rfl)
    have hg110 := By.given_get hg 25 rfl rfl (by kernel_rfl)
    refine By.yes (By.want_yes rfl rfl hg110) ?_
    clear hg110
    clear hs hg
    go_simp
    exact ⟨_, rfl, Grew.refl _, rfl⟩
  · intro a w ht hs hg -- 113
    have h111 : a.tmps.getD 111 undef = _ := By.given_get hg 26 rfl rfl (by kernel_rfl)
    have h112 : a.tmps.getD 112 undef = _ := By.given_get hg 27 rfl rfl (by kernel_rfl)
    have hg110 := By.given_get hg 25 rfl rfl (by kernel_rfl)
    refine By.yes (By.want_yes rfl rfl hg110) ?_
    clear hg110
    clear hs hg
    go_simp
    refine (HS1.out _).mono ?_
    rintro r w' ⟨rfl, hb⟩
    exact ⟨_, rfl, hb, rfl⟩
  · intro a w ht hs hg -- 114
    have h4 := By.same_get hs 4 (by decide) (by kernel_rfl)
    have hg110 := By.given_get hg 25 rfl rfl (by kernel_rfl)
    refine By.yes (By.want_yes rfl rfl hg110) ?_
    clear hg110
    clear hs hg
    refine wp_loadRow 35 _ rfl h4 (Row.below (w := V7.drew) R0V7.out ht R0V7.out.lt) Try.underlying35 rfl (by kernel_rfl) rfl ?_
    exact ⟨_, rfl, Grew.refl _, rfl⟩
  · intro a w ht hs hg -- 115
    have h2 := By.same_get hs 2 (by decide) (by kernel_rfl)
    have hg110 := By.given_get hg 25 rfl rfl (by kernel_rfl)
    refine By.yes (By.want_yes rfl rfl hg110) ?_
    clear hg110
    clear hs hg
    go_simp
    exact ⟨_, rfl, Grew.refl _, rfl⟩
  · intro a w ht hs hg -- 116
    have h114 : a.tmps.getD 114 undef = _ := By.given_get hg 29 rfl rfl (by kernel_rfl)
    have h115 : a.tmps.getD 115 undef = _ := By.given_get hg 30 rfl rfl (by kernel_rfl)
    have hg110 := By.given_get hg 25 rfl rfl (by kernel_rfl)
    refine By.yes (By.want_yes rfl rfl hg110) ?_
    clear hg110
    clear hs hg
    go_simp
    refine (HS0.out _).mono ?_
    rintro r w' ⟨rfl, hb⟩
    exact ⟨_, rfl, hb, rfl⟩
  · intro a w ht hs hg -- 117
    have h113 : a.tmps.getD 113 undef = _ := By.given_get hg 28 rfl rfl (by kernel_rfl)
    have h116 : a.tmps.getD 116 undef = _ := By.given_get hg 31 rfl rfl (by kernel_rfl)
    have hg110 := By.given_get hg 25 rfl rfl (by kernel_rfl)
    refine By.yes (By.want_yes rfl rfl hg110) ?_
    clear hg110
    clear hs hg
    go_simp
    exact ⟨_, rfl, Grew.refl _, congrArg Value.bool (by simp)⟩
  · intro a w ht hs hg -- 118
    have h110 : a.tmps.getD 110 undef = _ := By.given_get hg 25 rfl rfl (by kernel_rfl)
    have h117 : a.tmps.getD 117 undef = _ := By.given_get hg 32 rfl rfl (by kernel_rfl)
    refine By.yes rfl ?_
    clear hs hg
    go_simp
    exact ⟨_, rfl, Grew.refl _, rfl⟩
  · intro a w ht hs hg -- 119
    have h118 : a.tmps.getD 118 undef = _ := By.given_get hg 33 rfl rfl (by kernel_rfl)
    refine By.yes rfl ?_
    clear hs hg
    go_simp
    exact ⟨_, rfl, Grew.refl _, rfl⟩
  · intro a w ht hs hg -- 120
    have h1 := By.same_get hs 1 (by decide) (by kernel_rfl)
    have hg119 := By.given_get hg 34 rfl rfl (by kernel_rfl)
    refine By.yes (By.want_yes rfl rfl hg119) ?_
    clear hg119
    clear hs hg
    go_simp
    exact ⟨_, rfl, Grew.refl _, rfl⟩
  · intro a w ht hs hg -- 121
    have h4 := By.same_get hs 4 (by decide) (by kernel_rfl)
    have hg119 := By.given_get hg 34 rfl rfl (by kernel_rfl)
    refine By.yes (By.want_yes rfl rfl hg119) ?_
    clear hg119
    clear hs hg
    go_simp
    exact ⟨_, rfl, Grew.refl _, rfl⟩
  · intro a w ht hs hg -- 122
    have h121 : a.tmps.getD 121 undef = _ := By.given_get hg 36 rfl rfl (by kernel_rfl)
    have hg119 := By.given_get hg 34 rfl rfl (by kernel_rfl)
    refine By.yes (By.want_yes rfl rfl hg119) ?_
    clear hg119
    clear hs hg
    have hc := (Row.below (w := V7.drew) R0V7.out ht R0V7.out.lt).cell (i := 3) rfl
    go_simp
    exact ⟨_, rfl, Grew.refl _, rfl⟩
  · intro a w ht hs hg -- 123
    have h120 : a.tmps.getD 120 undef = _ := By.given_get hg 35 rfl rfl (by kernel_rfl)
    have h122 : a.tmps.getD 122 undef = _ := By.given_get hg 37 rfl rfl (by kernel_rfl)
    have hg119 := By.given_get hg 34 rfl rfl (by kernel_rfl)
    refine By.yes (By.want_yes rfl rfl hg119) ?_
    clear hg119
    clear hs hg
    go_simp
    exact ⟨_, rfl, Grew.refl _, congrArg Value.bool (by first | rfl | (rw [Bool.eq_iff_iff]; simp; done) | (rw [Bool.eq_iff_iff]; simp; omega))⟩
  · intro a w ht hs hg -- 124
    have h123 : a.tmps.getD 123 undef = _ := By.given_get hg 38 rfl rfl (by kernel_rfl)
    have hg119 := By.given_get hg 34 rfl rfl (by kernel_rfl)
    refine By.yes (By.want_yes rfl rfl hg119) ?_
    clear hg119
    clear hs hg
    go_simp
    exact ⟨_, rfl, Grew.refl _, rfl⟩
  · intro a w ht hs hg -- 125
    have h20 := By.same_get hs 20 (by decide) (by kernel_rfl)
    have hg124 := By.given_get hg 39 rfl rfl (by kernel_rfl)
    refine By.guarded (c := n < l) ((By.want_dec rfl rfl hg124).trans (by simp)) fun hc => ?_
    clear hg124
    clear hs hg
    go_simp
    exact ⟨_, rfl, Grew.refl _, rfl⟩
  · intro a w ht hs hg -- 126
    have h10 := By.same_get hs 10 (by decide) (by kernel_rfl)
    have hg124 := By.given_get hg 39 rfl rfl (by kernel_rfl)
    refine By.guarded (c := n < l) ((By.want_dec rfl rfl hg124).trans (by simp)) fun hc => ?_
    clear hg124
    clear hs hg
    go_simp
    exact ⟨_, rfl, Grew.refl _, rfl⟩
  · intro a w ht hs hg -- 127
    have hg124 := By.given_get hg 39 rfl rfl (by kernel_rfl)
    refine By.guarded (c := n < l) ((By.want_dec rfl rfl hg124).trans (by simp)) fun hc => ?_
    clear hg124
    have h125 : a.tmps.getD 125 undef = _ := By.when_get hc (By.given_get hg 40 rfl rfl (by kernel_rfl))
    have h126 : a.tmps.getD 126 undef = _ := By.when_get hc (By.given_get hg 41 rfl rfl (by kernel_rfl))
    clear hs hg
    have hj := HJ.out hc
    go_simp
    exact ⟨_, rfl, Grew.refl _, congrArg Value.bool (by simp [hj])⟩
  · intro a w ht hs hg -- 128
    have h124 : a.tmps.getD 124 undef = _ := By.given_get hg 39 rfl rfl (by kernel_rfl)
    have hg119 := By.given_get hg 34 rfl rfl (by kernel_rfl)
    refine By.yes (By.want_yes rfl rfl hg119) ?_
    clear hg119
    have h127 := By.given_get hg 42 rfl rfl (by kernel_rfl)
    clear hs hg
    by_cases hc : n < l
    · have h127' := By.when_get hc h127
      have h127 : a.tmps.getD 127 undef = _ := h127'
      clear h127'
      go_simp
      exact ⟨_, rfl, Grew.refl _, congrArg Value.bool (by simp [hc])⟩
    · clear h127
      go_simp
      exact ⟨_, rfl, Grew.refl _, congrArg Value.bool (by simp [hc])⟩
  · intro a w ht hs hg -- 129
    have h119 : a.tmps.getD 119 undef = _ := By.given_get hg 34 rfl rfl (by kernel_rfl)
    have h128 : a.tmps.getD 128 undef = _ := By.given_get hg 43 rfl rfl (by kernel_rfl)
    refine By.yes rfl ?_
    clear hs hg
    go_simp
    exact ⟨_, rfl, Grew.refl _, rfl⟩
  refine By.ends_is (By.ends_is (By.ends_is (By.ends_is (By.ends_is (By.ends_is (By.ends_is (By.ends_is (By.ends_is (By.ends_is (By.ends_is (By.ends_is (By.ends_is (By.ends_is (By.ends_is (By.ends_is (By.ends_is (By.ends_is (By.ends_is (By.ends_is (By.ends_is (By.ends_is (By.ends_is (By.ends_is (By.ends_is (By.ends_is (By.ends_is (By.ends_is (By.ends_is (By.ends_is (By.ends_is (By.ends_is (By.ends_is (By.ends_is (By.ends_is (By.ends_is (By.ends_is (By.ends_is (By.ends_is (By.ends_is (By.ends_skip fun v125 => (By.ends_skip fun v126 => (By.ends_skip fun v127 => (By.ends_is (By.ends_is (By.ends_nil fun w8 hw8 => ?_)))))))))))))))))))))))))))))))))))))))))))))
  simp only [Act.put, List.setIfInBounds_toArray, List.set_cons_succ, List.set_cons_zero]
  have HB8 := Lib.hid (nextB HV7.out (Nat.le_refl _) (show Below V7.heap.size V7 w8 from ⟨hw8.os, hw8.tape, hw8.output, hw8.size, hw8.block⟩))
  have R08 := Lib.hid (Row.below (w := V7.drew) R0V7.out hw8 R0V7.out.lt)
  have RA8 := Lib.hid (Row.below (w := V7.drew) RAV7.out hw8 RAV7.out.lt)
  have RY8 := Lib.hid (Row.below (w := V7.drew) RYV7.out hw8 RYV7.out.lt)
  clear hw8
  obtain ⟨o0, o1, o2, o3⟩ := quad R08.out
  obtain ⟨o4, o5, o6, o7⟩ := quad RY8.out
  have o8 := frozen_row RY8.out 3
  have n1 : w.heap.size ≠ w7.heap.size := Nat.ne_of_lt R0_7.out.lt
  have n2 : w2.heap.size ≠ w7.heap.size := Nat.ne_of_lt RA_7.out.lt
  have RYs := Lib.hid (show Row (w8.setCell ⟨w7.heap.size, 3, none⟩ (.int .u64 (l : Int))) w7.heap.size (wl y0 y1 y2 l) 35 from RY8.out.set 3 _)
  have R0s := Lib.hid (show Row (w8.setCell ⟨w7.heap.size, 3, none⟩ (.int .u64 (l : Int))) w.heap.size (wl f t s l) 35 from R08.out.other _ _ n1)
  have RAs := Lib.hid (show Row (w8.setCell ⟨w7.heap.size, 3, none⟩ (.int .u64 (l : Int))) w2.heap.size (wl a0 a1 a2 a3) 35 from RA8.out.other _ _ n2)
  obtain ⟨g0, g1, g2, g3⟩ := quad RYs.out
  obtain ⟨g4, g5, g6, g7⟩ := quad R0s.out
  obtain ⟨g8, g9, g10, g11⟩ := quad RAs.out
  have HBs := Lib.hid (show Below w.heap.size w (w8.setCell ⟨w7.heap.size, 3, none⟩ (.int .u64 (l : Int))) from HB8.out.setCell (by simp; omega) _)
  go_wp2
  go_ret
  exact ⟨rfl, HBs.out⟩

set_option maxRecDepth 8000 in
set_option maxHeartbeats 4000000 in
theorem walk3okj (f t s l n m k a0 a1 a2 a3 b0 b1 b2 b3 c0 c1 c2 c3 d0 d1 d2 d3 e1 e2 e3 e4 r e5 y0 y1 y2 y3 : Nat) (sn : Bool) (w : World)
    (HT1 : Hid (∀ W : World, Calls Try.prog 19 #[wv f t s l, .int .u64 (n : Int)] W fun e w' => e = .returned (.tuple #[wv a0 a1 a2 a3, .int .i64 (e1 : Int)]) ∧ Below W.heap.size W w'))
    (HT2 : Hid (∀ W : World, Calls Try.prog 19 #[wv a0 a1 a2 a3, .int .u64 (m : Int)] W fun e w' => e = .returned (.tuple #[wv b0 b1 b2 b3, .int .i64 (e2 : Int)]) ∧ Below W.heap.size W w'))
    (HT3 : Hid (∀ W : World, Calls Try.prog 19 #[wv f t s l, .int .u64 (m : Int)] W fun e w' => e = .returned (.tuple #[wv c0 c1 c2 c3, .int .i64 (e3 : Int)]) ∧ Below W.heap.size W w'))
    (HT4 : Hid (∀ W : World, Calls Try.prog 19 #[wv c0 c1 c2 c3, .int .u64 (n : Int)] W fun e w' => e = .returned (.tuple #[wv d0 d1 d2 d3, .int .i64 (e4 : Int)]) ∧ Below W.heap.size W w'))
    (HA : Hid (∀ W : World, Calls Try.prog 17 #[wv f t s l, .int .u64 (k : Int)] W fun e w' => e = .returned (.tuple #[wv f t s k, .int .i64 (r : Int)]) ∧ Below W.heap.size W w'))
    (HT5 : Hid (∀ W : World, Calls Try.prog 19 #[wv f t s k, .int .u64 (n : Int)] W fun e w' => e = .returned (.tuple #[wv y0 y1 y2 y3, .int .i64 (e5 : Int)]) ∧ Below W.heap.size W w'))
    (HS1 : Hid (∀ W : World, Calls Try.prog 25 #[wv f t s k, .int .u64 (m : Int)] W fun e w' => e = .returned (.bool sn) ∧ Below W.heap.size W w'))
    (HS0 : Hid (∀ W : World, Calls Try.prog 25 #[wv f t s l, .int .u64 (m : Int)] W fun e w' => e = .returned (.bool sn) ∧ Below W.heap.size W w'))
    (HJ : Hid (n < l → e5 = e1)) 
    (h1 : ((e1 : Int) == 0) = true) (h2 : ((e2 : Int) == 0) = true) (h3 : ((e3 : Int) == 0) = false)
    (hr : ((r : Int) != 0) = false)
    (hn : decide (l ≤ n) = false) (hj : ((e5 : Int) != 0) = true)
     :
    Calls Try.prog 8 #[wv f t s l, .int .u64 (n : Int), .int .u64 (m : Int), .int .u64 (k : Int)] w fun e w' => e = .returned (.bool true) ∧ Below w.heap.size w w' := by
  go_enter Try.func8, Try.ntmps8
  go_wp2_with fail
  refine (lives_any _).mono ?_
  rintro r' w1 ⟨rfl, hb⟩
  have HV1 := Lib.hid (show Below w.heap.size w w1 from nextB ((Below.refl w.heap.size w).alloc (Nat.le_refl _) _) (Nat.le_refl _) hb)
  have R0V1 := Lib.hid (show Row w1 w.heap.size (wl f t s l) 35 from (Row.new rfl rfl).below hb (by simp))
  obtain ⟨p0, p1, p2, p3⟩ := quad R0V1.out
  clear hb
  go_wp2_with fail
  clear p0 p1 p2 p3
  refine (HT1.out _).mono ?_
  rintro r w2 ⟨rfl, hb⟩
  have HB2 := Lib.hid (nextB HV1.out (Nat.le_refl _) hb)
  have hs2 : w.heap.size ≤ w2.heap.size := HB2.out.size
  have R0_2 := Lib.hid (R0V1.out.below hb R0V1.out.lt)
  clear hb
  go_wp2_with fail
  obtain ⟨V2, hV⟩ : ∃ V, w2.alloc (.cells #[.int .u64 (a0 : Int), .int .u64 (a1 : Int), .int .u64 (a2 : Int), .int .u64 (a3 : Int)] 35) = V := ⟨_, rfl⟩
  rw [hV]
  have HV2 := Lib.hid (show Below w.heap.size w V2 by rw [← hV]; exact HB2.out.alloc hs2 _)
  have R0V2 := Lib.hid (show Row V2 w.heap.size (wl f t s l) 35 by rw [← hV]; exact R0_2.out.alloc _)
  have RAV2 := Lib.hid (show Row V2 w2.heap.size (wl a0 a1 a2 a3) 35 by rw [← hV]; exact Row.new rfl rfl)
  clear hV
  refine (HT2.out _).mono ?_
  rintro r w3 ⟨rfl, hb⟩
  have HB3 := Lib.hid (nextB HV2.out (Nat.le_refl _) hb)
  have hs3 : w.heap.size ≤ w3.heap.size := HB3.out.size
  have R0_3 := Lib.hid (R0V2.out.below hb R0V2.out.lt)
  have RA_3 := Lib.hid (RAV2.out.below hb RAV2.out.lt)
  clear hb
  obtain ⟨pR00, pR01, pR02, pR03⟩ := quadA R0_3.out
  go_wp2_with fail
  obtain ⟨V3, hV⟩ : ∃ V, w3.alloc (.cells #[.int .u64 (b0 : Int), .int .u64 (b1 : Int), .int .u64 (b2 : Int), .int .u64 (b3 : Int)] 35) = V := ⟨_, rfl⟩
  rw [hV]
  have HV3 := Lib.hid (show Below w.heap.size w V3 by rw [← hV]; exact HB3.out.alloc hs3 _)
  have R0V3 := Lib.hid (show Row V3 w.heap.size (wl f t s l) 35 by rw [← hV]; exact R0_3.out.alloc _)
  have RAV3 := Lib.hid (show Row V3 w2.heap.size (wl a0 a1 a2 a3) 35 by rw [← hV]; exact RA_3.out.alloc _)
  have RBV3 := Lib.hid (show Row V3 w3.heap.size (wl b0 b1 b2 b3) 35 by rw [← hV]; exact Row.new rfl rfl)
  clear hV pR00 pR01 pR02 pR03
  refine (HT3.out _).mono ?_
  rintro r w4 ⟨rfl, hb⟩
  have HB4 := Lib.hid (nextB HV3.out (Nat.le_refl _) hb)
  have hs4 : w.heap.size ≤ w4.heap.size := HB4.out.size
  have R0_4 := Lib.hid (R0V3.out.below hb R0V3.out.lt)
  have RA_4 := Lib.hid (RAV3.out.below hb RAV3.out.lt)
  have RB_4 := Lib.hid (RBV3.out.below hb RBV3.out.lt)
  clear hb
  go_wp2_with fail
  obtain ⟨V4, hV⟩ : ∃ V, w4.alloc (.cells #[.int .u64 (c0 : Int), .int .u64 (c1 : Int), .int .u64 (c2 : Int), .int .u64 (c3 : Int)] 35) = V := ⟨_, rfl⟩
  rw [hV]
  have HV4 := Lib.hid (show Below w.heap.size w V4 by rw [← hV]; exact HB4.out.alloc hs4 _)
  have R0V4 := Lib.hid (show Row V4 w.heap.size (wl f t s l) 35 by rw [← hV]; exact R0_4.out.alloc _)
  have RAV4 := Lib.hid (show Row V4 w2.heap.size (wl a0 a1 a2 a3) 35 by rw [← hV]; exact RA_4.out.alloc _)
  have RBV4 := Lib.hid (show Row V4 w3.heap.size (wl b0 b1 b2 b3) 35 by rw [← hV]; exact RB_4.out.alloc _)
  have RCV4 := Lib.hid (show Row V4 w4.heap.size (wl c0 c1 c2 c3) 35 by rw [← hV]; exact Row.new rfl rfl)
  clear hV
  refine (HT4.out _).mono ?_
  rintro r w5 ⟨rfl, hb⟩
  have HB5 := Lib.hid (nextB HV4.out (Nat.le_refl _) hb)
  have hs5 : w.heap.size ≤ w5.heap.size := HB5.out.size
  have R0_5 := Lib.hid (R0V4.out.below hb R0V4.out.lt)
  have RA_5 := Lib.hid (RAV4.out.below hb RAV4.out.lt)
  have RB_5 := Lib.hid (RBV4.out.below hb RBV4.out.lt)
  clear hb
  obtain ⟨pR00, pR01, pR02, pR03⟩ := quadA R0_5.out
  obtain ⟨pRB0, pRB1, pRB2, pRB3⟩ := quadA RB_5.out
  go_wp2_with fail
  obtain ⟨V5, hV⟩ : ∃ V, w5.alloc (.cells #[.int .u64 (d0 : Int), .int .u64 (d1 : Int), .int .u64 (d2 : Int), .int .u64 (d3 : Int)] 35) = V := ⟨_, rfl⟩
  rw [hV]
  have HV5 := Lib.hid (show Below w.heap.size w V5 by rw [← hV]; exact HB5.out.alloc hs5 _)
  have R0V5 := Lib.hid (show Row V5 w.heap.size (wl f t s l) 35 by rw [← hV]; exact R0_5.out.alloc _)
  have RAV5 := Lib.hid (show Row V5 w2.heap.size (wl a0 a1 a2 a3) 35 by rw [← hV]; exact RA_5.out.alloc _)
  have RBV5 := Lib.hid (show Row V5 w3.heap.size (wl b0 b1 b2 b3) 35 by rw [← hV]; exact RB_5.out.alloc _)
  have RDV5 := Lib.hid (show Row V5 w5.heap.size (wl d0 d1 d2 d3) 35 by rw [← hV]; exact Row.new rfl rfl)
  clear hV pR00 pR01 pR02 pR03 pRB0 pRB1 pRB2 pRB3
  refine (HA.out _).mono ?_
  rintro r w6 ⟨rfl, hb⟩
  have HB6 := Lib.hid (nextB HV5.out (Nat.le_refl _) hb)
  have hs6 : w.heap.size ≤ w6.heap.size := HB6.out.size
  have R0_6 := Lib.hid (R0V5.out.below hb R0V5.out.lt)
  have RA_6 := Lib.hid (RAV5.out.below hb RAV5.out.lt)
  clear hb
  go_wp2_with fail
  obtain ⟨V6, hV⟩ : ∃ V, w6.alloc (.cells #[.int .u64 (f : Int), .int .u64 (t : Int), .int .u64 (s : Int), .int .u64 (k : Int)] 35) = V := ⟨_, rfl⟩
  rw [hV]
  have HV6 := Lib.hid (show Below w.heap.size w V6 by rw [← hV]; exact HB6.out.alloc hs6 _)
  have R0V6 := Lib.hid (show Row V6 w.heap.size (wl f t s l) 35 by rw [← hV]; exact R0_6.out.alloc _)
  have RAV6 := Lib.hid (show Row V6 w2.heap.size (wl a0 a1 a2 a3) 35 by rw [← hV]; exact RA_6.out.alloc _)
  have RXV6 := Lib.hid (show Row V6 w6.heap.size (wl f t s k) 35 by rw [← hV]; exact Row.new rfl rfl)
  clear hV
  refine (HT5.out _).mono ?_
  rintro r w7 ⟨rfl, hb⟩
  have HB7 := Lib.hid (nextB HV6.out (Nat.le_refl _) hb)
  have hs7 : w.heap.size ≤ w7.heap.size := HB7.out.size
  have R0_7 := Lib.hid (R0V6.out.below hb R0V6.out.lt)
  have RA_7 := Lib.hid (RAV6.out.below hb RAV6.out.lt)
  have RX_7 := Lib.hid (RXV6.out.below hb RXV6.out.lt)
  clear hb
  go_wp2_with fail
  obtain ⟨V7, hV⟩ : ∃ V, w7.alloc (.cells #[.int .u64 (y0 : Int), .int .u64 (y1 : Int), .int .u64 (y2 : Int), .int .u64 (y3 : Int)] 35) = V := ⟨_, rfl⟩
  rw [hV]
  have HV7 := Lib.hid (show Below w.heap.size w V7 by rw [← hV]; exact HB7.out.alloc hs7 _)
  have R0V7 := Lib.hid (show Row V7 w.heap.size (wl f t s l) 35 by rw [← hV]; exact R0_7.out.alloc _)
  have RAV7 := Lib.hid (show Row V7 w2.heap.size (wl a0 a1 a2 a3) 35 by rw [← hV]; exact RA_7.out.alloc _)
  have RXV7 := Lib.hid (show Row V7 w6.heap.size (wl f t s k) 35 by rw [← hV]; exact RX_7.out.alloc _)
  have RYV7 := Lib.hid (show Row V7 w7.heap.size (wl y0 y1 y2 y3) 35 by rw [← hV]; exact Row.new rfl rfl)
  clear hV
  refine By.marks Win.mixed Grew [By.is (.pointer (some ⟨w6.heap.size, 3, none⟩)),
    By.is (.int .u64 (k : Int)),
    By.is (.int .u64 (k : Int)),
    By.is (.bool false),
    By.is (.bool false),
    By.is (.pointer (some ⟨w6.heap.size, 0, none⟩)),
    By.is (.int .u64 (f : Int)),
    By.is (.pointer (some ⟨w.heap.size, 0, none⟩)),
    By.is (.int .u64 (f : Int)),
    By.is (.bool false),
    By.is (.bool false),
    By.is (.bool false),
    By.is (.pointer (some ⟨w6.heap.size, 1, none⟩)),
    By.is (.int .u64 (t : Int)),
    By.is (.pointer (some ⟨w.heap.size, 1, none⟩)),
    By.is (.int .u64 (t : Int)),
    By.is (.bool false),
    By.is (.bool false),
    By.is (.bool false),
    By.is (.pointer (some ⟨w6.heap.size, 2, none⟩)),
    By.is (.int .u64 (s : Int)),
    By.is (.pointer (some ⟨w.heap.size, 2, none⟩)),
    By.is (.int .u64 (s : Int)),
    By.is (.bool false),
    By.is (.bool false),
    By.is (.bool false),
    By.is (wv f t s k),
    By.is (.int .u64 (m : Int)),
    By.is (.bool sn),
    By.is (wv f t s l),
    By.is (.int .u64 (m : Int)),
    By.is (.bool sn),
    By.is (.bool false),
    By.is (.bool false),
    By.is (.bool false),
    By.is (.int .u64 (n : Int)),
    By.is (.pointer (some ⟨w.heap.size, 3, none⟩)),
    By.is (.int .u64 (l : Int)),
    By.is (.bool (decide (n < l))),
    By.is (.bool (decide (n < l))),
    By.when (n < l) (By.is (.int .i64 (e5 : Int))),
    By.when (n < l) (By.is (.int .i64 (e1 : Int))),
    By.when (n < l) (By.is (.bool false)),
    By.is (.bool false),
    By.is (.bool false)]
    (Ev.masks _ []) (by kernel_rfl) rfl Grew.refl Grew.trans ⟨?_, ?_, ?_, ?_, ?_, ?_, ?_, ?_, ?_, ?_, ?_, ?_, ?_, ?_, ?_, ?_, ?_, ?_, ?_, ?_, ?_, ?_, ?_, ?_, ?_, ?_, ?_, ?_, ?_, ?_, ?_, ?_, ?_, ?_, ?_, ?_, ?_, ?_, ?_, ?_, ?_, ?_, ?_, ?_, ?_, trivial⟩ ?_
  · intro a w ht hs hg -- 85
    have h17 := By.same_get hs 17 (by decide) (by kernel_rfl)
    refine By.yes rfl ?_
    clear hs hg
    go_simp
    exact ⟨_, rfl, Grew.refl _, rfl⟩
  · intro a w ht hs hg -- 86
    have h85 : a.tmps.getD 85 undef = _ := By.given_get hg 0 rfl rfl (by kernel_rfl)
    refine By.yes rfl ?_
    clear hs hg
    have hc := (Row.below (w := V7.drew) RXV7.out ht RXV7.out.lt).cell (i := 3) rfl
    go_simp
    exact ⟨_, rfl, Grew.refl _, rfl⟩
  · intro a w ht hs hg -- 87
    have h3 := By.same_get hs 3 (by decide) (by kernel_rfl)
    refine By.yes rfl ?_
    clear hs hg
    go_simp
    exact ⟨_, rfl, Grew.refl _, rfl⟩
  · intro a w ht hs hg -- 88
    have h86 : a.tmps.getD 86 undef = _ := By.given_get hg 1 rfl rfl (by kernel_rfl)
    have h87 : a.tmps.getD 87 undef = _ := By.given_get hg 2 rfl rfl (by kernel_rfl)
    refine By.yes rfl ?_
    clear hs hg
    go_simp
    exact ⟨_, rfl, Grew.refl _, congrArg Value.bool (by simp)⟩
  · intro a w ht hs hg -- 89
    have h88 : a.tmps.getD 88 undef = _ := By.given_get hg 3 rfl rfl (by kernel_rfl)
    refine By.yes rfl ?_
    clear hs hg
    go_simp
    exact ⟨_, rfl, Grew.refl _, rfl⟩
  · intro a w ht hs hg -- 90
    have h17 := By.same_get hs 17 (by decide) (by kernel_rfl)
    have hg89 := By.given_get hg 4 rfl rfl (by kernel_rfl)
    refine By.yes (By.want_yes rfl rfl hg89) ?_
    clear hg89
    clear hs hg
    go_simp
    exact ⟨_, rfl, Grew.refl _, rfl⟩
  · intro a w ht hs hg -- 91
    have h90 : a.tmps.getD 90 undef = _ := By.given_get hg 5 rfl rfl (by kernel_rfl)
    have hg89 := By.given_get hg 4 rfl rfl (by kernel_rfl)
    refine By.yes (By.want_yes rfl rfl hg89) ?_
    clear hg89
    clear hs hg
    have hc := (Row.below (w := V7.drew) RXV7.out ht RXV7.out.lt).cell (i := 0) rfl
    go_simp
    exact ⟨_, rfl, Grew.refl _, rfl⟩
  · intro a w ht hs hg -- 92
    have h4 := By.same_get hs 4 (by decide) (by kernel_rfl)
    have hg89 := By.given_get hg 4 rfl rfl (by kernel_rfl)
    refine By.yes (By.want_yes rfl rfl hg89) ?_
    clear hg89
    clear hs hg
    go_simp
    exact ⟨_, rfl, Grew.refl _, rfl⟩
  · intro a w ht hs hg -- 93
    have h92 : a.tmps.getD 92 undef = _ := By.given_get hg 7 rfl rfl (by kernel_rfl)
    have hg89 := By.given_get hg 4 rfl rfl (by kernel_rfl)
    refine By.yes (By.want_yes rfl rfl hg89) ?_
    clear hg89
    clear hs hg
    have hc := (Row.below (w := V7.drew) R0V7.out ht R0V7.out.lt).cell (i := 0) rfl
    go_simp
    exact ⟨_, rfl, Grew.refl _, rfl⟩
  · intro a w ht hs hg -- 94
    have h91 : a.tmps.getD 91 undef = _ := By.given_get hg 6 rfl rfl (by kernel_rfl)
    have h93 : a.tmps.getD 93 undef = _ := By.given_get hg 8 rfl rfl (by kernel_rfl)
    have hg89 := By.given_get hg 4 rfl rfl (by kernel_rfl)
    refine By.yes (By.want_yes rfl rfl hg89) ?_
    clear hg89
    clear hs hg
    go_simp
    exact ⟨_, rfl, Grew.refl _, congrArg Value.bool (by simp)⟩
  · intro a w ht hs hg -- 95
    have h89 : a.tmps.getD 89 undef = _ := By.given_get hg 4 rfl rfl (by kernel_rfl)
    have h94 : a.tmps.getD 94 undef = _ := By.given_get hg 9 rfl rfl (by kernel_rfl)
    refine By.yes rfl ?_
    clear hs hg
    go_simp
    exact ⟨_, rfl, Grew.refl _, rfl⟩
  · intro a w ht hs hg -- 96
    have h95 : a.tmps.getD 95 undef = _ := By.given_get hg 10 rfl rfl (by kernel_rfl)
    refine By.yes rfl ?_
    clear hs hg
    go_simp
    exact ⟨_, rfl, Grew.refl _, rfl⟩
  · intro a w ht hs hg -- 97
    have h17 := By.same_get hs 17 (by decide) (by kernel_rfl)
    have hg96 := By.given_get hg 11 rfl rfl (by kernel_rfl)
    refine By.yes (By.want_yes rfl rfl hg96) ?_
    clear hg96
    clear hs hg
    go_simp
    exact ⟨_, rfl, Grew.refl _, rfl⟩
  · intro a w ht hs hg -- 98
    have h97 : a.tmps.getD 97 undef = _ := By.given_get hg 12 rfl rfl (by kernel_rfl)
    have hg96 := By.given_get hg 11 rfl rfl (by kernel_rfl)
    refine By.yes (By.want_yes rfl rfl hg96) ?_
    clear hg96
    clear hs hg
    have hc := (Row.below (w := V7.drew) RXV7.out ht RXV7.out.lt).cell (i := 1) rfl
    go_simp
    exact ⟨_, rfl, Grew.refl _, rfl⟩
  · intro a w ht hs hg -- 99
    have h4 := By.same_get hs 4 (by decide) (by kernel_rfl)
    have hg96 := By.given_get hg 11 rfl rfl (by kernel_rfl)
    refine By.yes (By.want_yes rfl rfl hg96) ?_
    clear hg96
    clear hs hg
    go_simp
    exact ⟨_, rfl, Grew.refl _, rfl⟩
  · intro a w ht hs hg -- 100
    have h99 : a.tmps.getD 99 undef = _ := By.given_get hg 14 rfl rfl (by kernel_rfl)
    have hg96 := By.given_get hg 11 rfl rfl (by kernel_rfl)
    refine By.yes (By.want_yes rfl rfl hg96) ?_
    clear hg96
    clear hs hg
    have hc := (Row.below (w := V7.drew) R0V7.out ht R0V7.out.lt).cell (i := 1) rfl
    go_simp
    exact ⟨_, rfl, Grew.refl _, rfl⟩
  · intro a w ht hs hg -- 101
    have h98 : a.tmps.getD 98 undef = _ := By.given_get hg 13 rfl rfl (by kernel_rfl)
    have h100 : a.tmps.getD 100 undef = _ := By.given_get hg 15 rfl rfl (by kernel_rfl)
    have hg96 := By.given_get hg 11 rfl rfl (by kernel_rfl)
    refine By.yes (By.want_yes rfl rfl hg96) ?_
    clear hg96
    clear hs hg
    go_simp
    exact ⟨_, rfl, Grew.refl _, congrArg Value.bool (by simp)⟩
  · intro a w ht hs hg -- 102
    have h96 : a.tmps.getD 96 undef = _ := By.given_get hg 11 rfl rfl (by kernel_rfl)
    have h101 : a.tmps.getD 101 undef = _ := By.given_get hg 16 rfl rfl (by kernel_rfl)
    refine By.yes rfl ?_
    clear hs hg
    go_simp
    exact ⟨_, rfl, Grew.refl _, rfl⟩
  · intro a w ht hs hg -- 103
    have h102 : a.tmps.getD 102 undef = _ := By.given_get hg 17 rfl rfl (by kernel_rfl)
    refine By.yes rfl ?_
    clear hs hg
    go_simp
    exact ⟨_, rfl, Grew.refl _, rfl⟩
  · intro a w ht hs hg -- 104
    have h17 := By.same_get hs 17 (by decide) (by kernel_rfl)
    have hg103 := By.given_get hg 18 rfl rfl (by kernel_rfl)
    refine By.yes (By.want_yes rfl rfl hg103) ?_
    clear hg103
    clear hs hg
    go_simp
    exact ⟨_, rfl, Grew.refl _, rfl⟩
  · intro a w ht hs hg -- 105
    have h104 : a.tmps.getD 104 undef = _ := By.given_get hg 19 rfl rfl (by kernel_rfl)
    have hg103 := By.given_get hg 18 rfl rfl (by kernel_rfl)
    refine By.yes (By.want_yes rfl rfl hg103) ?_
    clear hg103
    clear hs hg
    have hc := (Row.below (w := V7.drew) RXV7.out ht RXV7.out.lt).cell (i := 2) rfl
    go_simp
    exact ⟨_, rfl, Grew.refl _, rfl⟩
  · intro a w ht hs hg -- 106
    have h4 := By.same_get hs 4 (by decide) (by kernel_rfl)
    have hg103 := By.given_get hg 18 rfl rfl (by kernel_rfl)
    refine By.yes (By.want_yes rfl rfl hg103) ?_
    clear hg103
    clear hs hg
    go_simp
    exact ⟨_, rfl, Grew.refl _, rfl⟩
  · intro a w ht hs hg -- 107
    have h106 : a.tmps.getD 106 undef = _ := By.given_get hg 21 rfl rfl (by kernel_rfl)
    have hg103 := By.given_get hg 18 rfl rfl (by kernel_rfl)
    refine By.yes (By.want_yes rfl rfl hg103) ?_
    clear hg103
    clear hs hg
    have hc := (Row.below (w := V7.drew) R0V7.out ht R0V7.out.lt).cell (i := 2) rfl
    go_simp
    exact ⟨_, rfl, Grew.refl _, rfl⟩
  · intro a w ht hs hg -- 108
    have h105 : a.tmps.getD 105 undef = _ := By.given_get hg 20 rfl rfl (by kernel_rfl)
    have h107 : a.tmps.getD 107 undef = _ := By.given_get hg 22 rfl rfl (by kernel_rfl)
    have hg103 := By.given_get hg 18 rfl rfl (by kernel_rfl)
    refine By.yes (By.want_yes rfl rfl hg103) ?_
    clear hg103
    clear hs hg
    go_simp
    exact ⟨_, rfl, Grew.refl _, congrArg Value.bool (by simp)⟩
  · intro a w ht hs hg -- 109
    have h103 : a.tmps.getD 103 undef = _ := By.given_get hg 18 rfl rfl (by kernel_rfl)
    have h108 : a.tmps.getD 108 undef = _ := By.given_get hg 23 rfl rfl (by kernel_rfl)
    refine By.yes rfl ?_
    clear hs hg
    go_simp
    exact ⟨_, rfl, Grew.refl _, rfl⟩
  · intro a w ht hs hg -- 110
    have h109 : a.tmps.getD 109 undef = _ := By.given_get hg 24 rfl rfl (by kernel_rfl)
    refine By.yes rfl ?_
    clear hs hg
    go_simp
    exact ⟨_, rfl, Grew.refl _, rfl⟩
  · intro a w ht hs hg -- 111
    have h17 := By.same_get hs 17 (by decide) (by kernel_rfl)
    have hg110 := By.given_get hg 25 rfl rfl (by kernel_rfl)
    refine By.yes (By.want_yes rfl rfl hg110) ?_
    clear hg110
    clear hs hg
    refine wp_loadRow 35 _ rfl h17 (Row.below (w := V7.drew) RXV7.out ht RXV7.out.lt) Try.underlying35 rfl (by kernel_rfl) rfl ?_
    exact ⟨_, rfl, Grew.refl _, rfl⟩
  · intro a w ht hs hg -- 112
    have h2 := By.same_get hs 2 (by decide) (by kernel_rfl)
    have hg110 := By.given_get hg 25 rfl rfl (by kernel_rfl)
    refine By.yes (By.want_yes rfl rfl hg110) ?_
    clear hg110
    clear hs hg
    go_simp
    exact ⟨_, rfl, Grew.refl _, rfl⟩
  · intro a w ht hs hg -- 113
    have h111 : a.tmps.getD 111 undef = _ := By.given_get hg 26 rfl rfl (by kernel_rfl)
    have h112 : a.tmps.getD 112 undef = _ := By.given_get hg 27 rfl rfl (by kernel_rfl)
    have hg110 := By.given_get hg 25 rfl rfl (by kernel_rfl)
    refine By.yes (By.want_yes rfl rfl hg110) ?_
    clear hg110
    clear hs hg
    go_simp
    refine (HS1.out _).mono ?_
    rintro r w' ⟨rfl, hb⟩
    exact ⟨_, rfl, hb, rfl⟩
  · intro a w ht hs hg -- 114
    have h4 := By.same_get hs 4 (by decide) (by kernel_rfl)
    have hg110 := By.given_get hg 25 rfl rfl (by kernel_rfl)
    refine By.yes (By.want_yes rfl rfl hg110) ?_
    clear hg110
    clear hs hg
    refine wp_loadRow 35 _ rfl h4 (Row.below (w := V7.drew) R0V7.out ht R0V7.out.lt) Try.underlying35 rfl (by kernel_rfl) rfl ?_
    exact ⟨_, rfl, Grew.refl _, rfl⟩
  · intro a w ht hs hg -- 115
    have h2 := By.same_get hs 2 (by decide) (by kernel_rfl)
    have hg110 := By.given_get hg 25 rfl rfl (by kernel_rfl)
    refine By.yes (By.want_yes rfl rfl hg110) ?_
    clear hg110
    clear hs hg
    go_simp
    exact ⟨_, rfl, Grew.refl _, rfl⟩
  · intro a w ht hs hg -- 116
    have h114 : a.tmps.getD 114 undef = _ := By.given_get hg 29 rfl rfl (by kernel_rfl)
    have h115 : a.tmps.getD 115 undef = _ := By.given_get hg 30 rfl rfl (by kernel_rfl)
    have hg110 := By.given_get hg 25 rfl rfl (by kernel_rfl)
    refine By.yes (By.want_yes rfl rfl hg110) ?_
    clear hg110
    clear hs hg
    go_simp
    refine (HS0.out _).mono ?_
    rintro r w' ⟨rfl, hb⟩
    exact ⟨_, rfl, hb, rfl⟩
  · intro a w ht hs hg -- 117
    have h113 : a.tmps.getD 113 undef = _ := By.given_get hg 28 rfl rfl (by kernel_rfl)
    have h116 : a.tmps.getD 116 undef = _ := By.given_get hg 31 rfl rfl (by kernel_rfl)
    have hg110 := By.given_get hg 25 rfl rfl (by kernel_rfl)
    refine By.yes (By.want_yes rfl rfl hg110) ?_
    clear hg110
    clear hs hg
    go_simp
    exact ⟨_, rfl, Grew.refl _, congrArg Value.bool (by simp)⟩
  · intro a w ht hs hg -- 118
    have h110 : a.tmps.getD 110 undef = _ := By.given_get hg 25 rfl rfl (by kernel_rfl)
    have h117 : a.tmps.getD 117 undef = _ := By.given_get hg 32 rfl rfl (by kernel_rfl)
    refine By.yes rfl ?_
    clear hs hg
    go_simp
    exact ⟨_, rfl, Grew.refl _, rfl⟩
  · intro a w ht hs hg -- 119
    have h118 : a.tmps.getD 118 undef = _ := By.given_get hg 33 rfl rfl (by kernel_rfl)
    refine By.yes rfl ?_
    clear hs hg
    go_simp
    exact ⟨_, rfl, Grew.refl _, rfl⟩
  · intro a w ht hs hg -- 120
    have h1 := By.same_get hs 1 (by decide) (by kernel_rfl)
    have hg119 := By.given_get hg 34 rfl rfl (by kernel_rfl)
    refine By.yes (By.want_yes rfl rfl hg119) ?_
    clear hg119
    clear hs hg
    go_simp
    exact ⟨_, rfl, Grew.refl _, rfl⟩
  · intro a w ht hs hg -- 121
    have h4 := By.same_get hs 4 (by decide) (by kernel_rfl)
    have hg119 := By.given_get hg 34 rfl rfl (by kernel_rfl)
    refine By.yes (By.want_yes rfl rfl hg119) ?_
    clear hg119
    clear hs hg
    go_simp
    exact ⟨_, rfl, Grew.refl _, rfl⟩
  · intro a w ht hs hg -- 122
    have h121 : a.tmps.getD 121 undef = _ := By.given_get hg 36 rfl rfl (by kernel_rfl)
    have hg119 := By.given_get hg 34 rfl rfl (by kernel_rfl)
    refine By.yes (By.want_yes rfl rfl hg119) ?_
    clear hg119
    clear hs hg
    have hc := (Row.below (w := V7.drew) R0V7.out ht R0V7.out.lt).cell (i := 3) rfl
    go_simp
    exact ⟨_, rfl, Grew.refl _, rfl⟩
  · intro a w ht hs hg -- 123
    have h120 : a.tmps.getD 120 undef = _ := By.given_get hg 35 rfl rfl (by kernel_rfl)
    have h122 : a.tmps.getD 122 undef = _ := By.given_get hg 37 rfl rfl (by kernel_rfl)
    have hg119 := By.given_get hg 34 rfl rfl (by kernel_rfl)
    refine By.yes (By.want_yes rfl rfl hg119) ?_
    clear hg119
    clear hs hg
    go_simp
    exact ⟨_, rfl, Grew.refl _, congrArg Value.bool (by first | rfl | (rw [Bool.eq_iff_iff]; simp; done) | (rw [Bool.eq_iff_iff]; simp; omega))⟩
  · intro a w ht hs hg -- 124
    have h123 : a.tmps.getD 123 undef = _ := By.given_get hg 38 rfl rfl (by kernel_rfl)
    have hg119 := By.given_get hg 34 rfl rfl (by kernel_rfl)
    refine By.yes (By.want_yes rfl rfl hg119) ?_
    clear hg119
    clear hs hg
    go_simp
    exact ⟨_, rfl, Grew.refl _, rfl⟩
  · intro a w ht hs hg -- 125
    have h20 := By.same_get hs 20 (by decide) (by kernel_rfl)
    have hg124 := By.given_get hg 39 rfl rfl (by kernel_rfl)
    refine By.guarded (c := n < l) ((By.want_dec rfl rfl hg124).trans (by simp)) fun hc => ?_
    clear hg124
    clear hs hg
    go_simp
    exact ⟨_, rfl, Grew.refl _, rfl⟩
  · intro a w ht hs hg -- 126
    have h10 := By.same_get hs 10 (by decide) (by kernel_rfl)
    have hg124 := By.given_get hg 39 rfl rfl (by kernel_rfl)
    refine By.guarded (c := n < l) ((By.want_dec rfl rfl hg124).trans (by simp)) fun hc => ?_
    clear hg124
    clear hs hg
    go_simp
    exact ⟨_, rfl, Grew.refl _, rfl⟩
  · intro a w ht hs hg -- 127
    have hg124 := By.given_get hg 39 rfl rfl (by kernel_rfl)
    refine By.guarded (c := n < l) ((By.want_dec rfl rfl hg124).trans (by simp)) fun hc => ?_
    clear hg124
    have h125 : a.tmps.getD 125 undef = _ := By.when_get hc (By.given_get hg 40 rfl rfl (by kernel_rfl))
    have h126 : a.tmps.getD 126 undef = _ := By.when_get hc (By.given_get hg 41 rfl rfl (by kernel_rfl))
    clear hs hg
    have hj := HJ.out hc
    go_simp
    exact ⟨_, rfl, Grew.refl _, congrArg Value.bool (by simp [hj])⟩
  · intro a w ht hs hg -- 128
    have h124 : a.tmps.getD 124 undef = _ := By.given_get hg 39 rfl rfl (by kernel_rfl)
    have hg119 := By.given_get hg 34 rfl rfl (by kernel_rfl)
    refine By.yes (By.want_yes rfl rfl hg119) ?_
    clear hg119
    have h127 := By.given_get hg 42 rfl rfl (by kernel_rfl)
    clear hs hg
    by_cases hc : n < l
    · have h127' := By.when_get hc h127
      have h127 : a.tmps.getD 127 undef = _ := h127'
      clear h127'
      go_simp
      exact ⟨_, rfl, Grew.refl _, congrArg Value.bool (by simp [hc])⟩
    · clear h127
      go_simp
      exact ⟨_, rfl, Grew.refl _, congrArg Value.bool (by simp [hc])⟩
  · intro a w ht hs hg -- 129
    have h119 : a.tmps.getD 119 undef = _ := By.given_get hg 34 rfl rfl (by kernel_rfl)
    have h128 : a.tmps.getD 128 undef = _ := By.given_get hg 43 rfl rfl (by kernel_rfl)
    refine By.yes rfl ?_
    clear hs hg
    go_simp
    exact ⟨_, rfl, Grew.refl _, rfl⟩
  refine By.ends_is (By.ends_is (By.ends_is (By.ends_is (By.ends_is (By.ends_is (By.ends_is (By.ends_is (By.ends_is (By.ends_is (By.ends_is (By.ends_is (By.ends_is (By.ends_is (By.ends_is (By.ends_is (By.ends_is (By.ends_is (By.ends_is (By.ends_is (By.ends_is (By.ends_is (By.ends_is (By.ends_is (By.ends_is (By.ends_is (By.ends_is (By.ends_is (By.ends_is (By.ends_is (By.ends_is (By.ends_is (By.ends_is (By.ends_is (By.ends_is (By.ends_is (By.ends_is (By.ends_is (By.ends_is (By.ends_is (By.ends_skip fun v125 => (By.ends_skip fun v126 => (By.ends_skip fun v127 => (By.ends_is (By.ends_is (By.ends_nil fun w8 hw8 => ?_)))))))))))))))))))))))))))))))))))))))))))))
  simp only [Act.put, List.setIfInBounds_toArray, List.set_cons_succ, List.set_cons_zero]
  have HB8 := Lib.hid (nextB HV7.out (Nat.le_refl _) (show Below V7.heap.size V7 w8 from ⟨hw8.os, hw8.tape, hw8.output, hw8.size, hw8.block⟩))
  have R08 := Lib.hid (Row.below (w := V7.drew) R0V7.out hw8 R0V7.out.lt)
  have RA8 := Lib.hid (Row.below (w := V7.drew) RAV7.out hw8 RAV7.out.lt)
  have RY8 := Lib.hid (Row.below (w := V7.drew) RYV7.out hw8 RYV7.out.lt)
  clear hw8
  obtain ⟨o0, o1, o2, o3⟩ := quad R08.out
  obtain ⟨o4, o5, o6, o7⟩ := quad RY8.out
  have o8 := frozen_row RY8.out 3
  have n1 : w.heap.size ≠ w7.heap.size := Nat.ne_of_lt R0_7.out.lt
  have n2 : w2.heap.size ≠ w7.heap.size := Nat.ne_of_lt RA_7.out.lt
  have RYs := Lib.hid (show Row (w8.setCell ⟨w7.heap.size, 3, none⟩ (.int .u64 (l : Int))) w7.heap.size (wl y0 y1 y2 l) 35 from RY8.out.set 3 _)
  have R0s := Lib.hid (show Row (w8.setCell ⟨w7.heap.size, 3, none⟩ (.int .u64 (l : Int))) w.heap.size (wl f t s l) 35 from R08.out.other _ _ n1)
  have RAs := Lib.hid (show Row (w8.setCell ⟨w7.heap.size, 3, none⟩ (.int .u64 (l : Int))) w2.heap.size (wl a0 a1 a2 a3) 35 from RA8.out.other _ _ n2)
  obtain ⟨g0, g1, g2, g3⟩ := quad RYs.out
  obtain ⟨g4, g5, g6, g7⟩ := quad R0s.out
  obtain ⟨g8, g9, g10, g11⟩ := quad RAs.out
  have HBs := Lib.hid (show Below w.heap.size w (w8.setCell ⟨w7.heap.size, 3, none⟩ (.int .u64 (l : Int))) from HB8.out.setCell (by simp; omega) _)
  go_wp2
  go_ret
  exact ⟨rfl, HBs.out⟩

set_option maxRecDepth 8000 in
set_option maxHeartbeats 4000000 in
theorem walk3oky (f t s l n m k a0 a1 a2 a3 b0 b1 b2 b3 c0 c1 c2 c3 d0 d1 d2 d3 e1 e2 e3 e4 r e5 y3 : Nat) (sn : Bool) (w : World)
    (HT1 : Hid (∀ W : World, Calls Try.prog 19 #[wv f t s l, .int .u64 (n : Int)] W fun e w' => e = .returned (.tuple #[wv a0 a1 a2 a3, .int .i64 (e1 : Int)]) ∧ Below W.heap.size W w'))
    (HT2 : Hid (∀ W : World, Calls Try.prog 19 #[wv a0 a1 a2 a3, .int .u64 (m : Int)] W fun e w' => e = .returned (.tuple #[wv b0 b1 b2 b3, .int .i64 (e2 : Int)]) ∧ Below W.heap.size W w'))
    (HT3 : Hid (∀ W : World, Calls Try.prog 19 #[wv f t s l, .int .u64 (m : Int)] W fun e w' => e = .returned (.tuple #[wv c0 c1 c2 c3, .int .i64 (e3 : Int)]) ∧ Below W.heap.size W w'))
    (HT4 : Hid (∀ W : World, Calls Try.prog 19 #[wv c0 c1 c2 c3, .int .u64 (n : Int)] W fun e w' => e = .returned (.tuple #[wv d0 d1 d2 d3, .int .i64 (e4 : Int)]) ∧ Below W.heap.size W w'))
    (HA : Hid (∀ W : World, Calls Try.prog 17 #[wv f t s l, .int .u64 (k : Int)] W fun e w' => e = .returned (.tuple #[wv f t s k, .int .i64 (r : Int)]) ∧ Below W.heap.size W w'))
    (HT5 : Hid (∀ W : World, Calls Try.prog 19 #[wv f t s k, .int .u64 (n : Int)] W fun e w' => e = .returned (.tuple #[wv a0 a1 a2 y3, .int .i64 (e5 : Int)]) ∧ Below W.heap.size W w'))
    (HS1 : Hid (∀ W : World, Calls Try.prog 25 #[wv f t s k, .int .u64 (m : Int)] W fun e w' => e = .returned (.bool sn) ∧ Below W.heap.size W w'))
    (HS0 : Hid (∀ W : World, Calls Try.prog 25 #[wv f t s l, .int .u64 (m : Int)] W fun e w' => e = .returned (.bool sn) ∧ Below W.heap.size W w'))
    (HJ : Hid (n < l → e5 = e1)) (HR : Hid ((∀ W : World, (eqGuard .eql 35 (.tmp 142) (.tmp 143) (wv a0 a1 a2 l) (wv a0 a1 a2 a3)).run Try.prog W = .ok () W) ∧ (∀ W : World, (binOp .eql 35 (wv a0 a1 a2 l) (wv a0 a1 a2 a3)).run Try.prog W = .ok (.bool true) W)))
    (h1 : ((e1 : Int) == 0) = true) (h2 : ((e2 : Int) == 0) = true) (h3 : ((e3 : Int) == 0) = false)
    (hr : ((r : Int) != 0) = false)
    (hn : decide (l ≤ n) = false) (hj : ((e5 : Int) != 0) = false)
     :
    Calls Try.prog 8 #[wv f t s l, .int .u64 (n : Int), .int .u64 (m : Int), .int .u64 (k : Int)] w fun e w' => e = .returned (.bool true) ∧ Below w.heap.size w w' := by
  go_enter Try.func8, Try.ntmps8
  go_wp2_with fail
  refine (lives_any _).mono ?_
  rintro r' w1 ⟨rfl, hb⟩
  have HV1 := Lib.hid (show Below w.heap.size w w1 from nextB ((Below.refl w.heap.size w).alloc (Nat.le_refl _) _) (Nat.le_refl _) hb)
  have R0V1 := Lib.hid (show Row w1 w.heap.size (wl f t s l) 35 from (Row.new rfl rfl).below hb (by simp))
  obtain ⟨p0, p1, p2, p3⟩ := quad R0V1.out
  clear hb
  go_wp2_with fail
  clear p0 p1 p2 p3
  refine (HT1.out _).mono ?_
  rintro r w2 ⟨rfl, hb⟩
  have HB2 := Lib.hid (nextB HV1.out (Nat.le_refl _) hb)
  have hs2 : w.heap.size ≤ w2.heap.size := HB2.out.size
  have R0_2 := Lib.hid (R0V1.out.below hb R0V1.out.lt)
  clear hb
  go_wp2_with fail
  obtain ⟨V2, hV⟩ : ∃ V, w2.alloc (.cells #[.int .u64 (a0 : Int), .int .u64 (a1 : Int), .int .u64 (a2 : Int), .int .u64 (a3 : Int)] 35) = V := ⟨_, rfl⟩
  rw [hV]
  have HV2 := Lib.hid (show Below w.heap.size w V2 by rw [← hV]; exact HB2.out.alloc hs2 _)
  have R0V2 := Lib.hid (show Row V2 w.heap.size (wl f t s l) 35 by rw [← hV]; exact R0_2.out.alloc _)
  have RAV2 := Lib.hid (show Row V2 w2.heap.size (wl a0 a1 a2 a3) 35 by rw [← hV]; exact Row.new rfl rfl)
  clear hV
  refine (HT2.out _).mono ?_
  rintro r w3 ⟨rfl, hb⟩
  have HB3 := Lib.hid (nextB HV2.out (Nat.le_refl _) hb)
  have hs3 : w.heap.size ≤ w3.heap.size := HB3.out.size
  have R0_3 := Lib.hid (R0V2.out.below hb R0V2.out.lt)
  have RA_3 := Lib.hid (RAV2.out.below hb RAV2.out.lt)
  clear hb
  obtain ⟨pR00, pR01, pR02, pR03⟩ := quadA R0_3.out
  go_wp2_with fail
  obtain ⟨V3, hV⟩ : ∃ V, w3.alloc (.cells #[.int .u64 (b0 : Int), .int .u64 (b1 : Int), .int .u64 (b2 : Int), .int .u64 (b3 : Int)] 35) = V := ⟨_, rfl⟩
  rw [hV]
  have HV3 := Lib.hid (show Below w.heap.size w V3 by rw [← hV]; exact HB3.out.alloc hs3 _)
  have R0V3 := Lib.hid (show Row V3 w.heap.size (wl f t s l) 35 by rw [← hV]; exact R0_3.out.alloc _)
  have RAV3 := Lib.hid (show Row V3 w2.heap.size (wl a0 a1 a2 a3) 35 by rw [← hV]; exact RA_3.out.alloc _)
  have RBV3 := Lib.hid (show Row V3 w3.heap.size (wl b0 b1 b2 b3) 35 by rw [← hV]; exact Row.new rfl rfl)
  clear hV pR00 pR01 pR02 pR03
  refine (HT3.out _).mono ?_
  rintro r w4 ⟨rfl, hb⟩
  have HB4 := Lib.hid (nextB HV3.out (Nat.le_refl _) hb)
  have hs4 : w.heap.size ≤ w4.heap.size := HB4.out.size
  have R0_4 := Lib.hid (R0V3.out.below hb R0V3.out.lt)
  have RA_4 := Lib.hid (RAV3.out.below hb RAV3.out.lt)
  have RB_4 := Lib.hid (RBV3.out.below hb RBV3.out.lt)
  clear hb
  go_wp2_with fail
  obtain ⟨V4, hV⟩ : ∃ V, w4.alloc (.cells #[.int .u64 (c0 : Int), .int .u64 (c1 : Int), .int .u64 (c2 : Int), .int .u64 (c3 : Int)] 35) = V := ⟨_, rfl⟩
  rw [hV]
  have HV4 := Lib.hid (show Below w.heap.size w V4 by rw [← hV]; exact HB4.out.alloc hs4 _)
  have R0V4 := Lib.hid (show Row V4 w.heap.size (wl f t s l) 35 by rw [← hV]; exact R0_4.out.alloc _)
  have RAV4 := Lib.hid (show Row V4 w2.heap.size (wl a0 a1 a2 a3) 35 by rw [← hV]; exact RA_4.out.alloc _)
  have RBV4 := Lib.hid (show Row V4 w3.heap.size (wl b0 b1 b2 b3) 35 by rw [← hV]; exact RB_4.out.alloc _)
  have RCV4 := Lib.hid (show Row V4 w4.heap.size (wl c0 c1 c2 c3) 35 by rw [← hV]; exact Row.new rfl rfl)
  clear hV
  refine (HT4.out _).mono ?_
  rintro r w5 ⟨rfl, hb⟩
  have HB5 := Lib.hid (nextB HV4.out (Nat.le_refl _) hb)
  have hs5 : w.heap.size ≤ w5.heap.size := HB5.out.size
  have R0_5 := Lib.hid (R0V4.out.below hb R0V4.out.lt)
  have RA_5 := Lib.hid (RAV4.out.below hb RAV4.out.lt)
  have RB_5 := Lib.hid (RBV4.out.below hb RBV4.out.lt)
  clear hb
  obtain ⟨pR00, pR01, pR02, pR03⟩ := quadA R0_5.out
  obtain ⟨pRB0, pRB1, pRB2, pRB3⟩ := quadA RB_5.out
  go_wp2_with fail
  obtain ⟨V5, hV⟩ : ∃ V, w5.alloc (.cells #[.int .u64 (d0 : Int), .int .u64 (d1 : Int), .int .u64 (d2 : Int), .int .u64 (d3 : Int)] 35) = V := ⟨_, rfl⟩
  rw [hV]
  have HV5 := Lib.hid (show Below w.heap.size w V5 by rw [← hV]; exact HB5.out.alloc hs5 _)
  have R0V5 := Lib.hid (show Row V5 w.heap.size (wl f t s l) 35 by rw [← hV]; exact R0_5.out.alloc _)
  have RAV5 := Lib.hid (show Row V5 w2.heap.size (wl a0 a1 a2 a3) 35 by rw [← hV]; exact RA_5.out.alloc _)
  have RBV5 := Lib.hid (show Row V5 w3.heap.size (wl b0 b1 b2 b3) 35 by rw [← hV]; exact RB_5.out.alloc _)
  have RDV5 := Lib.hid (show Row V5 w5.heap.size (wl d0 d1 d2 d3) 35 by rw [← hV]; exact Row.new rfl rfl)
  clear hV pR00 pR01 pR02 pR03 pRB0 pRB1 pRB2 pRB3
  refine (HA.out _).mono ?_
  rintro r w6 ⟨rfl, hb⟩
  have HB6 := Lib.hid (nextB HV5.out (Nat.le_refl _) hb)
  have hs6 : w.heap.size ≤ w6.heap.size := HB6.out.size
  have R0_6 := Lib.hid (R0V5.out.below hb R0V5.out.lt)
  have RA_6 := Lib.hid (RAV5.out.below hb RAV5.out.lt)
  clear hb
  go_wp2_with fail
  obtain ⟨V6, hV⟩ : ∃ V, w6.alloc (.cells #[.int .u64 (f : Int), .int .u64 (t : Int), .int .u64 (s : Int), .int .u64 (k : Int)] 35) = V := ⟨_, rfl⟩
  rw [hV]
  have HV6 := Lib.hid (show Below w.heap.size w V6 by rw [← hV]; exact HB6.out.alloc hs6 _)
  have R0V6 := Lib.hid (show Row V6 w.heap.size (wl f t s l) 35 by rw [← hV]; exact R0_6.out.alloc _)
  have RAV6 := Lib.hid (show Row V6 w2.heap.size (wl a0 a1 a2 a3) 35 by rw [← hV]; exact RA_6.out.alloc _)
  have RXV6 := Lib.hid (show Row V6 w6.heap.size (wl f t s k) 35 by rw [← hV]; exact Row.new rfl rfl)
  clear hV
  refine (HT5.out _).mono ?_
  rintro r w7 ⟨rfl, hb⟩
  have HB7 := Lib.hid (nextB HV6.out (Nat.le_refl _) hb)
  have hs7 : w.heap.size ≤ w7.heap.size := HB7.out.size
  have R0_7 := Lib.hid (R0V6.out.below hb R0V6.out.lt)
  have RA_7 := Lib.hid (RAV6.out.below hb RAV6.out.lt)
  have RX_7 := Lib.hid (RXV6.out.below hb RXV6.out.lt)
  clear hb
  go_wp2_with fail
  obtain ⟨V7, hV⟩ : ∃ V, w7.alloc (.cells #[.int .u64 (a0 : Int), .int .u64 (a1 : Int), .int .u64 (a2 : Int), .int .u64 (y3 : Int)] 35) = V := ⟨_, rfl⟩
  rw [hV]
  have HV7 := Lib.hid (show Below w.heap.size w V7 by rw [← hV]; exact HB7.out.alloc hs7 _)
  have R0V7 := Lib.hid (show Row V7 w.heap.size (wl f t s l) 35 by rw [← hV]; exact R0_7.out.alloc _)
  have RAV7 := Lib.hid (show Row V7 w2.heap.size (wl a0 a1 a2 a3) 35 by rw [← hV]; exact RA_7.out.alloc _)
  have RXV7 := Lib.hid (show Row V7 w6.heap.size (wl f t s k) 35 by rw [← hV]; exact RX_7.out.alloc _)
  have RYV7 := Lib.hid (show Row V7 w7.heap.size (wl a0 a1 a2 y3) 35 by rw [← hV]; exact Row.new rfl rfl)
  clear hV
  refine By.marks Win.mixed Grew [By.is (.pointer (some ⟨w6.heap.size, 3, none⟩)),
    By.is (.int .u64 (k : Int)),
    By.is (.int .u64 (k : Int)),
    By.is (.bool false),
    By.is (.bool false),
    By.is (.pointer (some ⟨w6.heap.size, 0, none⟩)),
    By.is (.int .u64 (f : Int)),
    By.is (.pointer (some ⟨w.heap.size, 0, none⟩)),
    By.is (.int .u64 (f : Int)),
    By.is (.bool false),
    By.is (.bool false),
    By.is (.bool false),
    By.is (.pointer (some ⟨w6.heap.size, 1, none⟩)),
    By.is (.int .u64 (t : Int)),
    By.is (.pointer (some ⟨w.heap.size, 1, none⟩)),
    By.is (.int .u64 (t : Int)),
    By.is (.bool false),
    By.is (.bool false),
    By.is (.bool false),
    By.is (.pointer (some ⟨w6.heap.size, 2, none⟩)),
    By.is (.int .u64 (s : Int)),
    By.is (.pointer (some ⟨w.heap.size, 2, none⟩)),
    By.is (.int .u64 (s : Int)),
    By.is (.bool false),
    By.is (.bool false),
    By.is (.bool false),
    By.is (wv f t s k),
    By.is (.int .u64 (m : Int)),
    By.is (.bool sn),
    By.is (wv f t s l),
    By.is (.int .u64 (m : Int)),
    By.is (.bool sn),
    By.is (.bool false),
    By.is (.bool false),
    By.is (.bool false),
    By.is (.int .u64 (n : Int)),
    By.is (.pointer (some ⟨w.heap.size, 3, none⟩)),
    By.is (.int .u64 (l : Int)),
    By.is (.bool (decide (n < l))),
    By.is (.bool (decide (n < l))),
    By.when (n < l) (By.is (.int .i64 (e5 : Int))),
    By.when (n < l) (By.is (.int .i64 (e1 : Int))),
    By.when (n < l) (By.is (.bool false)),
    By.is (.bool false),
    By.is (.bool false)]
    (Ev.masks _ []) (by kernel_rfl) rfl Grew.refl Grew.trans ⟨?_, ?_, ?_, ?_, ?_, ?_, ?_, ?_, ?_, ?_, ?_, ?_, ?_, ?_, ?_, ?_, ?_, ?_, ?_, ?_, ?_, ?_, ?_, ?_, ?_, ?_, ?_, ?_, ?_, ?_, ?_, ?_, ?_, ?_, ?_, ?_, ?_, ?_, ?_, ?_, ?_, ?_, ?_, ?_, ?_, trivial⟩ ?_
  · intro a w ht hs hg -- 85
    have h17 := By.same_get hs 17 (by decide) (by kernel_rfl)
    refine By.yes rfl ?_
    clear hs hg
    go_simp
    exact ⟨_, rfl, Grew.refl _, rfl⟩
  · intro a w ht hs hg -- 86
    have h85 : a.tmps.getD 85 undef = _ := By.given_get hg 0 rfl rfl (by kernel_rfl)
    refine By.yes rfl ?_
    clear hs hg
    have hc := (Row.below (w := V7.drew) RXV7.out ht RXV7.out.lt).cell (i := 3) rfl
    go_simp
    exact ⟨_, rfl, Grew.refl _, rfl⟩
  · intro a w ht hs hg -- 87
    have h3 := By.same_get hs 3 (by decide) (by kernel_rfl)
    refine By.yes rfl ?_
    clear hs hg
    go_simp
    exact ⟨_, rfl, Grew.refl _, rfl⟩
  · intro a w ht hs hg -- 88
    have h86 : a.tmps.getD 86 undef = _ := By.given_get hg 1 rfl rfl (by kernel_rfl)
    have h87 : a.tmps.getD 87 undef = _ := By.given_get hg 2 rfl rfl (by kernel_rfl)
    refine By.yes rfl ?_
    clear hs hg
    go_simp
    exact ⟨_, rfl, Grew.refl _, congrArg Value.bool (by simp)⟩
  · intro a w ht hs hg -- 89
    have h88 : a.tmps.getD 88 undef = _ := By.given_get hg 3 rfl rfl (by kernel_rfl)
    refine By.yes rfl ?_
    clear hs hg
    go_simp
    exact ⟨_, rfl, Grew.refl _, rfl⟩
  · intro a w ht hs hg -- 90
    have h17 := By.same_get hs 17 (by decide) (by kernel_rfl)
    have hg89 := By.given_get hg 4 rfl rfl (by kernel_rfl)
    refine By.yes (By.want_yes rfl rfl hg89) ?_
    clear hg89
    clear hs hg
    go_simp
    exact ⟨_, rfl, Grew.refl _, rfl⟩
  · intro a w ht hs hg -- 91
    have h90 : a.tmps.getD 90 undef = _ := By.given_get hg 5 rfl rfl (by kernel_rfl)
    have hg89 := By.given_get hg 4 rfl rfl (by kernel_rfl)
    refine By.yes (By.want_yes rfl rfl hg89) ?_
    clear hg89
    clear hs hg
    have hc := (Row.below (w := V7.drew) RXV7.out ht RXV7.out.lt).cell (i := 0) rfl
    go_simp
    exact ⟨_, rfl, Grew.refl _, rfl⟩
  · intro a w ht hs hg -- 92
    have h4 := By.same_get hs 4 (by decide) (by kernel_rfl)
    have hg89 := By.given_get hg 4 rfl rfl (by kernel_rfl)
    refine By.yes (By.want_yes rfl rfl hg89) ?_
    clear hg89
    clear hs hg
    go_simp
    exact ⟨_, rfl, Grew.refl _, rfl⟩
  · intro a w ht hs hg -- 93
    have h92 : a.tmps.getD 92 undef = _ := By.given_get hg 7 rfl rfl (by kernel_rfl)
    have hg89 := By.given_get hg 4 rfl rfl (by kernel_rfl)
    refine By.yes (By.want_yes rfl rfl hg89) ?_
    clear hg89
    clear hs hg
    have hc := (Row.below (w := V7.drew) R0V7.out ht R0V7.out.lt).cell (i := 0) rfl
    go_simp
    exact ⟨_, rfl, Grew.refl _, rfl⟩
  · intro a w ht hs hg -- 94
    have h91 : a.tmps.getD 91 undef = _ := By.given_get hg 6 rfl rfl (by kernel_rfl)
    have h93 : a.tmps.getD 93 undef = _ := By.given_get hg 8 rfl rfl (by kernel_rfl)
    have hg89 := By.given_get hg 4 rfl rfl (by kernel_rfl)
    refine By.yes (By.want_yes rfl rfl hg89) ?_
    clear hg89
    clear hs hg
    go_simp
    exact ⟨_, rfl, Grew.refl _, congrArg Value.bool (by simp)⟩
  · intro a w ht hs hg -- 95
    have h89 : a.tmps.getD 89 undef = _ := By.given_get hg 4 rfl rfl (by kernel_rfl)
    have h94 : a.tmps.getD 94 undef = _ := By.given_get hg 9 rfl rfl (by kernel_rfl)
    refine By.yes rfl ?_
    clear hs hg
    go_simp
    exact ⟨_, rfl, Grew.refl _, rfl⟩
  · intro a w ht hs hg -- 96
    have h95 : a.tmps.getD 95 undef = _ := By.given_get hg 10 rfl rfl (by kernel_rfl)
    refine By.yes rfl ?_
    clear hs hg
    go_simp
    exact ⟨_, rfl, Grew.refl _, rfl⟩
  · intro a w ht hs hg -- 97
    have h17 := By.same_get hs 17 (by decide) (by kernel_rfl)
    have hg96 := By.given_get hg 11 rfl rfl (by kernel_rfl)
    refine By.yes (By.want_yes rfl rfl hg96) ?_
    clear hg96
    clear hs hg
    go_simp
    exact ⟨_, rfl, Grew.refl _, rfl⟩
  · intro a w ht hs hg -- 98
    have h97 : a.tmps.getD 97 undef = _ := By.given_get hg 12 rfl rfl (by kernel_rfl)
    have hg96 := By.given_get hg 11 rfl rfl (by kernel_rfl)
    refine By.yes (By.want_yes rfl rfl hg96) ?_
    clear hg96
    clear hs hg
    have hc := (Row.below (w := V7.drew) RXV7.out ht RXV7.out.lt).cell (i := 1) rfl
    go_simp
    exact ⟨_, rfl, Grew.refl _, rfl⟩
  · intro a w ht hs hg -- 99
    have h4 := By.same_get hs 4 (by decide) (by kernel_rfl)
    have hg96 := By.given_get hg 11 rfl rfl (by kernel_rfl)
    refine By.yes (By.want_yes rfl rfl hg96) ?_
    clear hg96
    clear hs hg
    go_simp
    exact ⟨_, rfl, Grew.refl _, rfl⟩
  · intro a w ht hs hg -- 100
    have h99 : a.tmps.getD 99 undef = _ := By.given_get hg 14 rfl rfl (by kernel_rfl)
    have hg96 := By.given_get hg 11 rfl rfl (by kernel_rfl)
    refine By.yes (By.want_yes rfl rfl hg96) ?_
    clear hg96
    clear hs hg
    have hc := (Row.below (w := V7.drew) R0V7.out ht R0V7.out.lt).cell (i := 1) rfl
    go_simp
    exact ⟨_, rfl, Grew.refl _, rfl⟩
  · intro a w ht hs hg -- 101
    have h98 : a.tmps.getD 98 undef = _ := By.given_get hg 13 rfl rfl (by kernel_rfl)
    have h100 : a.tmps.getD 100 undef = _ := By.given_get hg 15 rfl rfl (by kernel_rfl)
    have hg96 := By.given_get hg 11 rfl rfl (by kernel_rfl)
    refine By.yes (By.want_yes rfl rfl hg96) ?_
    clear hg96
    clear hs hg
    go_simp
    exact ⟨_, rfl, Grew.refl _, congrArg Value.bool (by simp)⟩
  · intro a w ht hs hg -- 102
    have h96 : a.tmps.getD 96 undef = _ := By.given_get hg 11 rfl rfl (by kernel_rfl)
    have h101 : a.tmps.getD 101 undef = _ := By.given_get hg 16 rfl rfl (by kernel_rfl)
    refine By.yes rfl ?_
    clear hs hg
    go_simp
    exact ⟨_, rfl, Grew.refl _, rfl⟩
  · intro a w ht hs hg -- 103
    have h102 : a.tmps.getD 102 undef = _ := By.given_get hg 17 rfl rfl (by kernel_rfl)
    refine By.yes rfl ?_
    clear hs hg
    go_simp
    exact ⟨_, rfl, Grew.refl _, rfl⟩
  · intro a w ht hs hg -- 104
    have h17 := By.same_get hs 17 (by decide) (by kernel_rfl)
    have hg103 := By.given_get hg 18 rfl rfl (by kernel_rfl)
    refine By.yes (By.want_yes rfl rfl hg103) ?_
    clear hg103
    clear hs hg
    go_simp
    exact ⟨_, rfl, Grew.refl _, rfl⟩
  · intro a w ht hs hg -- 105
    have h104 : a.tmps.getD 104 undef = _ := By.given_get hg 19 rfl rfl (by kernel_rfl)
    have hg103 := By.given_get hg 18 rfl rfl (by kernel_rfl)
    refine By.yes (By.want_yes rfl rfl hg103) ?_
    clear hg103
    clear hs hg
    have hc := (Row.below (w := V7.drew) RXV7.out ht RXV7.out.lt).cell (i := 2) rfl
    go_simp
    exact ⟨_, rfl, Grew.refl _, rfl⟩
  · intro a w ht hs hg -- 106
    have h4 := By.same_get hs 4 (by decide) (by kernel_rfl)
    have hg103 := By.given_get hg 18 rfl rfl (by kernel_rfl)
    refine By.yes (By.want_yes rfl rfl hg103) ?_
    clear hg103
    clear hs hg
    go_simp
    exact ⟨_, rfl, Grew.refl _, rfl⟩
  · intro a w ht hs hg -- 107
    have h106 : a.tmps.getD 106 undef = _ := By.given_get hg 21 rfl rfl (by kernel_rfl)
    have hg103 := By.given_get hg 18 rfl rfl (by kernel_rfl)
    refine By.yes (By.want_yes rfl rfl hg103) ?_
    clear hg103
    clear hs hg
    have hc := (Row.below (w := V7.drew) R0V7.out ht R0V7.out.lt).cell (i := 2) rfl
    go_simp
    exact ⟨_, rfl, Grew.refl _, rfl⟩
  · intro a w ht hs hg -- 108
    have h105 : a.tmps.getD 105 undef = _ := By.given_get hg 20 rfl rfl (by kernel_rfl)
    have h107 : a.tmps.getD 107 undef = _ := By.given_get hg 22 rfl rfl (by kernel_rfl)
    have hg103 := By.given_get hg 18 rfl rfl (by kernel_rfl)
    refine By.yes (By.want_yes rfl rfl hg103) ?_
    clear hg103
    clear hs hg
    go_simp
    exact ⟨_, rfl, Grew.refl _, congrArg Value.bool (by simp)⟩
  · intro a w ht hs hg -- 109
    have h103 : a.tmps.getD 103 undef = _ := By.given_get hg 18 rfl rfl (by kernel_rfl)
    have h108 : a.tmps.getD 108 undef = _ := By.given_get hg 23 rfl rfl (by kernel_rfl)
    refine By.yes rfl ?_
    clear hs hg
    go_simp
    exact ⟨_, rfl, Grew.refl _, rfl⟩
  · intro a w ht hs hg -- 110
    have h109 : a.tmps.getD 109 undef = _ := By.given_get hg 24 rfl rfl (by kernel_rfl)
    refine By.yes rfl ?_
    clear hs hg
    go_simp
    exact ⟨_, rfl, Grew.refl _, rfl⟩
  · intro a w ht hs hg -- 111
    have h17 := By.same_get hs 17 (by decide) (by kernel_rfl)
    have hg110 := By.given_get hg 25 rfl rfl (by kernel_rfl)
    refine By.yes (By.want_yes rfl rfl hg110) ?_
    clear hg110
    clear hs hg
    refine wp_loadRow 35 _ rfl h17 (Row.below (w := V7.drew) RXV7.out ht RXV7.out.lt) Try.underlying35 rfl (by kernel_rfl) rfl ?_
    exact ⟨_, rfl, Grew.refl _, rfl⟩
  · intro a w ht hs hg -- 112
    have h2 := By.same_get hs 2 (by decide) (by kernel_rfl)
    have hg110 := By.given_get hg 25 rfl rfl (by kernel_rfl)
    refine By.yes (By.want_yes rfl rfl hg110) ?_
    clear hg110
    clear hs hg
    go_simp
    exact ⟨_, rfl, Grew.refl _, rfl⟩
  · intro a w ht hs hg -- 113
    have h111 : a.tmps.getD 111 undef = _ := By.given_get hg 26 rfl rfl (by kernel_rfl)
    have h112 : a.tmps.getD 112 undef = _ := By.given_get hg 27 rfl rfl (by kernel_rfl)
    have hg110 := By.given_get hg 25 rfl rfl (by kernel_rfl)
    refine By.yes (By.want_yes rfl rfl hg110) ?_
    clear hg110
    clear hs hg
    go_simp
    refine (HS1.out _).mono ?_
    rintro r w' ⟨rfl, hb⟩
    exact ⟨_, rfl, hb, rfl⟩
  · intro a w ht hs hg -- 114
    have h4 := By.same_get hs 4 (by decide) (by kernel_rfl)
    have hg110 := By.given_get hg 25 rfl rfl (by kernel_rfl)
    refine By.yes (By.want_yes rfl rfl hg110) ?_
    clear hg110
    clear hs hg
    refine wp_loadRow 35 _ rfl h4 (Row.below (w := V7.drew) R0V7.out ht R0V7.out.lt) Try.underlying35 rfl (by kernel_rfl) rfl ?_
    exact ⟨_, rfl, Grew.refl _, rfl⟩
  · intro a w ht hs hg -- 115
    have h2 := By.same_get hs 2 (by decide) (by kernel_rfl)
    have hg110 := By.given_get hg 25 rfl rfl (by kernel_rfl)
    refine By.yes (By.want_yes rfl rfl hg110) ?_
    clear hg110
    clear hs hg
    go_simp
    exact ⟨_, rfl, Grew.refl _, rfl⟩
  · intro a w ht hs hg -- 116
    have h114 : a.tmps.getD 114 undef = _ := By.given_get hg 29 rfl rfl (by kernel_rfl)
    have h115 : a.tmps.getD 115 undef = _ := By.given_get hg 30 rfl rfl (by kernel_rfl)
    have hg110 := By.given_get hg 25 rfl rfl (by kernel_rfl)
    refine By.yes (By.want_yes rfl rfl hg110) ?_
    clear hg110
    clear hs hg
    go_simp
    refine (HS0.out _).mono ?_
    rintro r w' ⟨rfl, hb⟩
    exact ⟨_, rfl, hb, rfl⟩
  · intro a w ht hs hg -- 117
    have h113 : a.tmps.getD 113 undef = _ := By.given_get hg 28 rfl rfl (by kernel_rfl)
    have h116 : a.tmps.getD 116 undef = _ := By.given_get hg 31 rfl rfl (by kernel_rfl)
    have hg110 := By.given_get hg 25 rfl rfl (by kernel_rfl)
    refine By.yes (By.want_yes rfl rfl hg110) ?_
    clear hg110
    clear hs hg
    go_simp
    exact ⟨_, rfl, Grew.refl _, congrArg Value.bool (by simp)⟩
  · intro a w ht hs hg -- 118
    have h110 : a.tmps.getD 110 undef = _ := By.given_get hg 25 rfl rfl (by kernel_rfl)
    have h117 : a.tmps.getD 117 undef = _ := By.given_get hg 32 rfl rfl (by kernel_rfl)
    refine By.yes rfl ?_
    clear hs hg
    go_simp
    exact ⟨_, rfl, Grew.refl _, rfl⟩
  · intro a w ht hs hg -- 119
    have h118 : a.tmps.getD 118 undef = _ := By.given_get hg 33 rfl rfl (by kernel_rfl)
    refine By.yes rfl ?_
    clear hs hg
    go_simp
    exact ⟨_, rfl, Grew.refl _, rfl⟩
  · intro a w ht hs hg -- 120
    have h1 := By.same_get hs 1 (by decide) (by kernel_rfl)
    have hg119 := By.given_get hg 34 rfl rfl (by kernel_rfl)
    refine By.yes (By.want_yes rfl rfl hg119) ?_
    clear hg119
    clear hs hg
    go_simp
    exact ⟨_, rfl, Grew.refl _, rfl⟩
  · intro a w ht hs hg -- 121
    have h4 := By.same_get hs 4 (by decide) (by kernel_rfl)
    have hg119 := By.given_get hg 34 rfl rfl (by kernel_rfl)
    refine By.yes (By.want_yes rfl rfl hg119) ?_
    clear hg119
    clear hs hg
    go_simp
    exact ⟨_, rfl, Grew.refl _, rfl⟩
  · intro a w ht hs hg -- 122
    have h121 : a.tmps.getD 121 undef = _ := By.given_get hg 36 rfl rfl (by kernel_rfl)
    have hg119 := By.given_get hg 34 rfl rfl (by kernel_rfl)
    refine By.yes (By.want_yes rfl rfl hg119) ?_
    clear hg119
    clear hs hg
    have hc := (Row.below (w := V7.drew) R0V7.out ht R0V7.out.lt).cell (i := 3) rfl
    go_simp
    exact ⟨_, rfl, Grew.refl _, rfl⟩
  · intro a w ht hs hg -- 123
    have h120 : a.tmps.getD 120 undef = _ := By.given_get hg 35 rfl rfl (by kernel_rfl)
    have h122 : a.tmps.getD 122 undef = _ := By.given_get hg 37 rfl rfl (by kernel_rfl)
    have hg119 := By.given_get hg 34 rfl rfl (by kernel_rfl)
    refine By.yes (By.want_yes rfl rfl hg119) ?_
    clear hg119
    clear hs hg
    go_simp
    exact ⟨_, rfl, Grew.refl _, congrArg Value.bool (by first | rfl | (rw [Bool.eq_iff_iff]; simp; done) | (rw [Bool.eq_iff_iff]; simp; omega))⟩
  · intro a w ht hs hg -- 124
    have h123 : a.tmps.getD 123 undef = _ := By.given_get hg 38 rfl rfl (by kernel_rfl)
    have hg119 := By.given_get hg 34 rfl rfl (by kernel_rfl)
    refine By.yes (By.want_yes rfl rfl hg119) ?_
    clear hg119
    clear hs hg
    go_simp
    exact ⟨_, rfl, Grew.refl _, rfl⟩
  · intro a w ht hs hg -- 125
    have h20 := By.same_get hs 20 (by decide) (by kernel_rfl)
    have hg124 := By.given_get hg 39 rfl rfl (by kernel_rfl)
    refine By.guarded (c := n < l) ((By.want_dec rfl rfl hg124).trans (by simp)) fun hc => ?_
    clear hg124
    clear hs hg
    go_simp
    exact ⟨_, rfl, Grew.refl _, rfl⟩
  · intro a w ht hs hg -- 126
    have h10 := By.same_get hs 10 (by decide) (by kernel_rfl)
    have hg124 := By.given_get hg 39 rfl rfl (by kernel_rfl)
    refine By.guarded (c := n < l) ((By.want_dec rfl rfl hg124).trans (by simp)) fun hc => ?_
    clear hg124
    clear hs hg
    go_simp
    exact ⟨_, rfl, Grew.refl _, rfl⟩
  · intro a w ht hs hg -- 127
    have hg124 := By.given_get hg 39 rfl rfl (by kernel_rfl)
    refine By.guarded (c := n < l) ((By.want_dec rfl rfl hg124).trans (by simp)) fun hc => ?_
    clear hg124
    have h125 : a.tmps.getD 125 undef = _ := By.when_get hc (By.given_get hg 40 rfl rfl (by kernel_rfl))
    have h126 : a.tmps.getD 126 undef = _ := By.when_get hc (By.given_get hg 41 rfl rfl (by kernel_rfl))
    clear hs hg
    have hj := HJ.out hc
    go_simp
    exact ⟨_, rfl, Grew.refl _, congrArg Value.bool (by simp [hj])⟩
  · intro a w ht hs hg -- 128
    have h124 : a.tmps.getD 124 undef = _ := By.given_get hg 39 rfl rfl (by kernel_rfl)
    have hg119 := By.given_get hg 34 rfl rfl (by kernel_rfl)
    refine By.yes (By.want_yes rfl rfl hg119) ?_
    clear hg119
    have h127 := By.given_get hg 42 rfl rfl (by kernel_rfl)
    clear hs hg
    by_cases hc : n < l
    · have h127' := By.when_get hc h127
      have h127 : a.tmps.getD 127 undef = _ := h127'
      clear h127'
      go_simp
      exact ⟨_, rfl, Grew.refl _, congrArg Value.bool (by simp [hc])⟩
    · clear h127
      go_simp
      exact ⟨_, rfl, Grew.refl _, congrArg Value.bool (by simp [hc])⟩
  · intro a w ht hs hg -- 129
    have h119 : a.tmps.getD 119 undef = _ := By.given_get hg 34 rfl rfl (by kernel_rfl)
    have h128 : a.tmps.getD 128 undef = _ := By.given_get hg 43 rfl rfl (by kernel_rfl)
    refine By.yes rfl ?_
    clear hs hg
    go_simp
    exact ⟨_, rfl, Grew.refl _, rfl⟩
  refine By.ends_is (By.ends_is (By.ends_is (By.ends_is (By.ends_is (By.ends_is (By.ends_is (By.ends_is (By.ends_is (By.ends_is (By.ends_is (By.ends_is (By.ends_is (By.ends_is (By.ends_is (By.ends_is (By.ends_is (By.ends_is (By.ends_is (By.ends_is (By.ends_is (By.ends_is (By.ends_is (By.ends_is (By.ends_is (By.ends_is (By.ends_is (By.ends_is (By.ends_is (By.ends_is (By.ends_is (By.ends_is (By.ends_is (By.ends_is (By.ends_is (By.ends_is (By.ends_is (By.ends_is (By.ends_is (By.ends_is (By.ends_skip fun v125 => (By.ends_skip fun v126 => (By.ends_skip fun v127 => (By.ends_is (By.ends_is (By.ends_nil fun w8 hw8 => ?_)))))))))))))))))))))))))))))))))))))))))))))
  simp only [Act.put, List.setIfInBounds_toArray, List.set_cons_succ, List.set_cons_zero]
  have HB8 := Lib.hid (nextB HV7.out (Nat.le_refl _) (show Below V7.heap.size V7 w8 from ⟨hw8.os, hw8.tape, hw8.output, hw8.size, hw8.block⟩))
  have R08 := Lib.hid (Row.below (w := V7.drew) R0V7.out hw8 R0V7.out.lt)
  have RA8 := Lib.hid (Row.below (w := V7.drew) RAV7.out hw8 RAV7.out.lt)
  have RY8 := Lib.hid (Row.below (w := V7.drew) RYV7.out hw8 RYV7.out.lt)
  clear hw8
  obtain ⟨o0, o1, o2, o3⟩ := quad R08.out
  obtain ⟨o4, o5, o6, o7⟩ := quad RY8.out
  have o8 := frozen_row RY8.out 3
  have n1 : w.heap.size ≠ w7.heap.size := Nat.ne_of_lt R0_7.out.lt
  have n2 : w2.heap.size ≠ w7.heap.size := Nat.ne_of_lt RA_7.out.lt
  have RYs := Lib.hid (show Row (w8.setCell ⟨w7.heap.size, 3, none⟩ (.int .u64 (l : Int))) w7.heap.size (wl a0 a1 a2 l) 35 from RY8.out.set 3 _)
  have R0s := Lib.hid (show Row (w8.setCell ⟨w7.heap.size, 3, none⟩ (.int .u64 (l : Int))) w.heap.size (wl f t s l) 35 from R08.out.other _ _ n1)
  have RAs := Lib.hid (show Row (w8.setCell ⟨w7.heap.size, 3, none⟩ (.int .u64 (l : Int))) w2.heap.size (wl a0 a1 a2 a3) 35 from RA8.out.other _ _ n2)
  obtain ⟨g0, g1, g2, g3⟩ := quad RYs.out
  obtain ⟨g4, g5, g6, g7⟩ := quad R0s.out
  obtain ⟨g8, g9, g10, g11⟩ := quad RAs.out
  have HBs := Lib.hid (show Below w.heap.size w (w8.setCell ⟨w7.heap.size, 3, none⟩ (.int .u64 (l : Int))) from HB8.out.setCell (by simp; omega) _)
  obtain ⟨eg2, en2⟩ := HR.out
  go_wp2
  go_ret
  exact ⟨rfl, HBs.out⟩

set_option maxRecDepth 8000 in
set_option maxHeartbeats 4000000 in
theorem walk4no (f t s l n m k a0 a1 a2 a3 b0 b1 b2 b3 c0 c1 c2 c3 d0 d1 d2 d3 x0 x1 x2 x3 e1 e2 e3 e4 r : Nat) (w : World)
    (HT1 : Hid (∀ W : World, Calls Try.prog 19 #[wv f t s l, .int .u64 (n : Int)] W fun e w' => e = .returned (.tuple #[wv a0 a1 a2 a3, .int .i64 (e1 : Int)]) ∧ Below W.heap.size W w'))
    (HT2 : Hid (∀ W : World, Calls Try.prog 19 #[wv a0 a1 a2 a3, .int .u64 (m : Int)] W fun e w' => e = .returned (.tuple #[wv b0 b1 b2 b3, .int .i64 (e2 : Int)]) ∧ Below W.heap.size W w'))
    (HT3 : Hid (∀ W : World, Calls Try.prog 19 #[wv f t s l, .int .u64 (m : Int)] W fun e w' => e = .returned (.tuple #[wv c0 c1 c2 c3, .int .i64 (e3 : Int)]) ∧ Below W.heap.size W w'))
    (HT4 : Hid (∀ W : World, Calls Try.prog 19 #[wv c0 c1 c2 c3, .int .u64 (n : Int)] W fun e w' => e = .returned (.tuple #[wv d0 d1 d2 d3, .int .i64 (e4 : Int)]) ∧ Below W.heap.size W w'))
    (HA : Hid (∀ W : World, Calls Try.prog 17 #[wv f t s l, .int .u64 (k : Int)] W fun e w' => e = .returned (.tuple #[wv x0 x1 x2 x3, .int .i64 (r : Int)]) ∧ Below W.heap.size W w'))
    (h1 : ((e1 : Int) == 0) = true) (h2 : ((e2 : Int) == 0) = true) (h3 : ((e3 : Int) == 0) = true) (h4 : ((e4 : Int) == 0) = false)
    (hr : ((r : Int) != 0) = true)

     :
    Calls Try.prog 8 #[wv f t s l, .int .u64 (n : Int), .int .u64 (m : Int), .int .u64 (k : Int)] w fun e w' => e = .returned (.bool true) ∧ Below w.heap.size w w' := by
  go_enter Try.func8, Try.ntmps8
  go_wp2_with fail
  refine (lives_any _).mono ?_
  rintro r' w1 ⟨rfl, hb⟩
  have HV1 := Lib.hid (show Below w.heap.size w w1 from nextB ((Below.refl w.heap.size w).alloc (Nat.le_refl _) _) (Nat.le_refl _) hb)
  have R0V1 := Lib.hid (show Row w1 w.heap.size (wl f t s l) 35 from (Row.new rfl rfl).below hb (by simp))
  obtain ⟨p0, p1, p2, p3⟩ := quad R0V1.out
  clear hb
  go_wp2_with fail
  clear p0 p1 p2 p3
  refine (HT1.out _).mono ?_
  rintro r w2 ⟨rfl, hb⟩
  have HB2 := Lib.hid (nextB HV1.out (Nat.le_refl _) hb)
  have hs2 : w.heap.size ≤ w2.heap.size := HB2.out.size
  have R0_2 := Lib.hid (R0V1.out.below hb R0V1.out.lt)
  clear hb
  go_wp2_with fail
  obtain ⟨V2, hV⟩ : ∃ V, w2.alloc (.cells #[.int .u64 (a0 : Int), .int .u64 (a1 : Int), .int .u64 (a2 : Int), .int .u64 (a3 : Int)] 35) = V := ⟨_, rfl⟩
  rw [hV]
  have HV2 := Lib.hid (show Below w.heap.size w V2 by rw [← hV]; exact HB2.out.alloc hs2 _)
  have R0V2 := Lib.hid (show Row V2 w.heap.size (wl f t s l) 35 by rw [← hV]; exact R0_2.out.alloc _)
  have RAV2 := Lib.hid (show Row V2 w2.heap.size (wl a0 a1 a2 a3) 35 by rw [← hV]; exact Row.new rfl rfl)
  clear hV
  refine (HT2.out _).mono ?_
  rintro r w3 ⟨rfl, hb⟩
  have HB3 := Lib.hid (nextB HV2.out (Nat.le_refl _) hb)
  have hs3 : w.heap.size ≤ w3.heap.size := HB3.out.size
  have R0_3 := Lib.hid (R0V2.out.below hb R0V2.out.lt)
  have RA_3 := Lib.hid (RAV2.out.below hb RAV2.out.lt)
  clear hb
  obtain ⟨pR00, pR01, pR02, pR03⟩ := quadA R0_3.out
  go_wp2_with fail
  obtain ⟨V3, hV⟩ : ∃ V, w3.alloc (.cells #[.int .u64 (b0 : Int), .int .u64 (b1 : Int), .int .u64 (b2 : Int), .int .u64 (b3 : Int)] 35) = V := ⟨_, rfl⟩
  rw [hV]
  have HV3 := Lib.hid (show Below w.heap.size w V3 by rw [← hV]; exact HB3.out.alloc hs3 _)
  have R0V3 := Lib.hid (show Row V3 w.heap.size (wl f t s l) 35 by rw [← hV]; exact R0_3.out.alloc _)
  have RAV3 := Lib.hid (show Row V3 w2.heap.size (wl a0 a1 a2 a3) 35 by rw [← hV]; exact RA_3.out.alloc _)
  have RBV3 := Lib.hid (show Row V3 w3.heap.size (wl b0 b1 b2 b3) 35 by rw [← hV]; exact Row.new rfl rfl)
  clear hV pR00 pR01 pR02 pR03
  refine (HT3.out _).mono ?_
  rintro r w4 ⟨rfl, hb⟩
  have HB4 := Lib.hid (nextB HV3.out (Nat.le_refl _) hb)
  have hs4 : w.heap.size ≤ w4.heap.size := HB4.out.size
  have R0_4 := Lib.hid (R0V3.out.below hb R0V3.out.lt)
  have RA_4 := Lib.hid (RAV3.out.below hb RAV3.out.lt)
  have RB_4 := Lib.hid (RBV3.out.below hb RBV3.out.lt)
  clear hb
  go_wp2_with fail
  obtain ⟨V4, hV⟩ : ∃ V, w4.alloc (.cells #[.int .u64 (c0 : Int), .int .u64 (c1 : Int), .int .u64 (c2 : Int), .int .u64 (c3 : Int)] 35) = V := ⟨_, rfl⟩
  rw [hV]
  have HV4 := Lib.hid (show Below w.heap.size w V4 by rw [← hV]; exact HB4.out.alloc hs4 _)
  have R0V4 := Lib.hid (show Row V4 w.heap.size (wl f t s l) 35 by rw [← hV]; exact R0_4.out.alloc _)
  have RAV4 := Lib.hid (show Row V4 w2.heap.size (wl a0 a1 a2 a3) 35 by rw [← hV]; exact RA_4.out.alloc _)
  have RBV4 := Lib.hid (show Row V4 w3.heap.size (wl b0 b1 b2 b3) 35 by rw [← hV]; exact RB_4.out.alloc _)
  have RCV4 := Lib.hid (show Row V4 w4.heap.size (wl c0 c1 c2 c3) 35 by rw [← hV]; exact Row.new rfl rfl)
  clear hV
  refine (HT4.out _).mono ?_
  rintro r w5 ⟨rfl, hb⟩
  have HB5 := Lib.hid (nextB HV4.out (Nat.le_refl _) hb)
  have hs5 : w.heap.size ≤ w5.heap.size := HB5.out.size
  have R0_5 := Lib.hid (R0V4.out.below hb R0V4.out.lt)
  have RA_5 := Lib.hid (RAV4.out.below hb RAV4.out.lt)
  have RB_5 := Lib.hid (RBV4.out.below hb RBV4.out.lt)
  clear hb
  obtain ⟨pR00, pR01, pR02, pR03⟩ := quadA R0_5.out
  obtain ⟨pRB0, pRB1, pRB2, pRB3⟩ := quadA RB_5.out
  go_wp2_with fail
  obtain ⟨V5, hV⟩ : ∃ V, w5.alloc (.cells #[.int .u64 (d0 : Int), .int .u64 (d1 : Int), .int .u64 (d2 : Int), .int .u64 (d3 : Int)] 35) = V := ⟨_, rfl⟩
  rw [hV]
  have HV5 := Lib.hid (show Below w.heap.size w V5 by rw [← hV]; exact HB5.out.alloc hs5 _)
  have R0V5 := Lib.hid (show Row V5 w.heap.size (wl f t s l) 35 by rw [← hV]; exact R0_5.out.alloc _)
  have RAV5 := Lib.hid (show Row V5 w2.heap.size (wl a0 a1 a2 a3) 35 by rw [← hV]; exact RA_5.out.alloc _)
  have RBV5 := Lib.hid (show Row V5 w3.heap.size (wl b0 b1 b2 b3) 35 by rw [← hV]; exact RB_5.out.alloc _)
  have RDV5 := Lib.hid (show Row V5 w5.heap.size (wl d0 d1 d2 d3) 35 by rw [← hV]; exact Row.new rfl rfl)
  clear hV pR00 pR01 pR02 pR03 pRB0 pRB1 pRB2 pRB3
  refine (HA.out _).mono ?_
  rintro r' w6 ⟨rfl, hb⟩
  have HB6 := Lib.hid (nextB HV5.out (Nat.le_refl _) hb)
  have hs6 : w.heap.size ≤ w6.heap.size := HB6.out.size
  clear hb
  go_wp2
  go_ret
  exact ⟨rfl, HB6.out.alloc hs6 _⟩

set_option maxRecDepth 8000 in
set_option maxHeartbeats 4000000 in
theorem walk4okg (f t s l n m k a0 a1 a2 a3 b0 b1 b2 b3 c0 c1 c2 c3 d0 d1 d2 d3 e1 e2 e3 e4 r e5 y0 y1 y2 y3 : Nat) (sn : Bool) (w : World)
    (HT1 : Hid (∀ W : World, Calls Try.prog 19 #[wv f t s l, .int .u64 (n : Int)] W fun e w' => e = .returned (.tuple #[wv a0 a1 a2 a3, .int .i64 (e1 : Int)]) ∧ Below W.heap.size W w'))
    (HT2 : Hid (∀ W : World, Calls Try.prog 19 #[wv a0 a1 a2 a3, .int .u64 (m : Int)] W fun e w' => e = .returned (.tuple #[wv b0 b1 b2 b3, .int .i64 (e2 : Int)]) ∧ Below W.heap.size W w'))
    (HT3 : Hid (∀ W : World, Calls Try.prog 19 #[wv f t s l, .int .u64 (m : Int)] W fun e w' => e = .returned (.tuple #[wv c0 c1 c2 c3, .int .i64 (e3 : Int)]) ∧ Below W.heap.size W w'))
    (HT4 : Hid (∀ W : World, Calls Try.prog 19 #[wv c0 c1 c2 c3, .int .u64 (n : Int)] W fun e w' => e = .returned (.tuple #[wv d0 d1 d2 d3, .int .i64 (e4 : Int)]) ∧ Below W.heap.size W w'))
    (HA : Hid (∀ W : World, Calls Try.prog 17 #[wv f t s l, .int .u64 (k : Int)] W fun e w' => e = .returned (.tuple #[wv f t s k, .int .i64 (r : Int)]) ∧ Below W.heap.size W w'))
    (HT5 : Hid (∀ W : World, Calls Try.prog 19 #[wv f t s k, .int .u64 (n : Int)] W fun e w' => e = .returned (.tuple #[wv y0 y1 y2 y3, .int .i64 (e5 : Int)]) ∧ Below W.heap.size W w'))
    (HS1 : Hid (∀ W : World, Calls Try.prog 25 #[wv f t s k, .int .u64 (m : Int)] W fun e w' => e = .returned (.bool sn) ∧ Below W.heap.size W w'))
    (HS0 : Hid (∀ W : World, Calls Try.prog 25 #[wv f t s l, .int .u64 (m : Int)] W fun e w' => e = .returned (.bool sn) ∧ Below W.heap.size W w'))
    (HJ : Hid (n < l → e5 = e1)) 
    (h1 : ((e1 : Int) == 0) = true) (h2 : ((e2 : Int) == 0) = true) (h3 : ((e3 : Int) == 0) = true) (h4 : ((e4 : Int) == 0) = false)
    (hr : ((r : Int) != 0) = false)
    (hn : decide (l ≤ n) = true)
     :
    Calls Try.prog 8 #[wv f t s l, .int .u64 (n : Int), .int .u64 (m : Int), .int .u64 (k : Int)] w fun e w' => e = .returned (.bool true) ∧ Below w.heap.size w w' := by
  go_enter Try.func8, Try.ntmps8
  go_wp2_with fail
  refine (lives_any _).mono ?_
  rintro r' w1 ⟨rfl, hb⟩
  have HV1 := Lib.hid (show Below w.heap.size w w1 from nextB ((Below.refl w.heap.size w).alloc (Nat.le_refl _) _) (Nat.le_refl _) hb)
  have R0V1 := Lib.hid (show Row w1 w.heap.size (wl f t s l) 35 from (Row.new rfl rfl).below hb (by simp))
  obtain ⟨p0, p1, p2, p3⟩ := quad R0V1.out
  clear hb
  go_wp2_with fail
  clear p0 p1 p2 p3
  refine (HT1.out _).mono ?_
  rintro r w2 ⟨rfl, hb⟩
  have HB2 := Lib.hid (nextB HV1.out (Nat.le_refl _) hb)
  have hs2 : w.heap.size ≤ w2.heap.size := HB2.out.size
  have R0_2 := Lib.hid (R0V1.out.below hb R0V1.out.lt)
  clear hb
  go_wp2_with fail
  obtain ⟨V2, hV⟩ : ∃ V, w2.alloc (.cells #[.int .u64 (a0 : Int), .int .u64 (a1 : Int), .int .u64 (a2 : Int), .int .u64 (a3 : Int)] 35) = V := ⟨_, rfl⟩
  rw [hV]
  have HV2 := Lib.hid (show Below w.heap.size w V2 by rw [← hV]; exact HB2.out.alloc hs2 _)
  have R0V2 := Lib.hid (show Row V2 w.heap.size (wl f t s l) 35 by rw [← hV]; exact R0_2.out.alloc _)
  have RAV2 := Lib.hid (show Row V2 w2.heap.size (wl a0 a1 a2 a3) 35 by rw [← hV]; exact Row.new rfl rfl)
  clear hV
  refine (HT2.out _).mono ?_
  rintro r w3 ⟨rfl, hb⟩
  have HB3 := Lib.hid (nextB HV2.out (Nat.le_refl _) hb)
  have hs3 : w.heap.size ≤ w3.heap.size := HB3.out.size
  have R0_3 := Lib.hid (R0V2.out.below hb R0V2.out.lt)
  have RA_3 := Lib.hid (RAV2.out.below hb RAV2.out.lt)
  clear hb
  obtain ⟨pR00, pR01, pR02, pR03⟩ := quadA R0_3.out
  go_wp2_with fail
  obtain ⟨V3, hV⟩ : ∃ V, w3.alloc (.cells #[.int .u64 (b0 : Int), .int .u64 (b1 : Int), .int .u64 (b2 : Int), .int .u64 (b3 : Int)] 35) = V := ⟨_, rfl⟩
  rw [hV]
  have HV3 := Lib.hid (show Below w.heap.size w V3 by rw [← hV]; exact HB3.out.alloc hs3 _)
  have R0V3 := Lib.hid (show Row V3 w.heap.size (wl f t s l) 35 by rw [← hV]; exact R0_3.out.alloc _)
  have RAV3 := Lib.hid (show Row V3 w2.heap.size (wl a0 a1 a2 a3) 35 by rw [← hV]; exact RA_3.out.alloc _)
  have RBV3 := Lib.hid (show Row V3 w3.heap.size (wl b0 b1 b2 b3) 35 by rw [← hV]; exact Row.new rfl rfl)
  clear hV pR00 pR01 pR02 pR03
  refine (HT3.out _).mono ?_
  rintro r w4 ⟨rfl, hb⟩
  have HB4 := Lib.hid (nextB HV3.out (Nat.le_refl _) hb)
  have hs4 : w.heap.size ≤ w4.heap.size := HB4.out.size
  have R0_4 := Lib.hid (R0V3.out.below hb R0V3.out.lt)
  have RA_4 := Lib.hid (RAV3.out.below hb RAV3.out.lt)
  have RB_4 := Lib.hid (RBV3.out.below hb RBV3.out.lt)
  clear hb
  go_wp2_with fail
  obtain ⟨V4, hV⟩ : ∃ V, w4.alloc (.cells #[.int .u64 (c0 : Int), .int .u64 (c1 : Int), .int .u64 (c2 : Int), .int .u64 (c3 : Int)] 35) = V := ⟨_, rfl⟩
  rw [hV]
  have HV4 := Lib.hid (show Below w.heap.size w V4 by rw [← hV]; exact HB4.out.alloc hs4 _)
  have R0V4 := Lib.hid (show Row V4 w.heap.size (wl f t s l) 35 by rw [← hV]; exact R0_4.out.alloc _)
  have RAV4 := Lib.hid (show Row V4 w2.heap.size (wl a0 a1 a2 a3) 35 by rw [← hV]; exact RA_4.out.alloc _)
  have RBV4 := Lib.hid (show Row V4 w3.heap.size (wl b0 b1 b2 b3) 35 by rw [← hV]; exact RB_4.out.alloc _)
  have RCV4 := Lib.hid (show Row V4 w4.heap.size (wl c0 c1 c2 c3) 35 by rw [← hV]; exact Row.new rfl rfl)
  clear hV
  refine (HT4.out _).mono ?_
  rintro r w5 ⟨rfl, hb⟩
  have HB5 := Lib.hid (nextB HV4.out (Nat.le_refl _) hb)
  have hs5 : w.heap.size ≤ w5.heap.size := HB5.out.size
  have R0_5 := Lib.hid (R0V4.out.below hb R0V4.out.lt)
  have RA_5 := Lib.hid (RAV4.out.below hb RAV4.out.lt)
  have RB_5 := Lib.hid (RBV4.out.below hb RBV4.out.lt)
  clear hb
  obtain ⟨pR00, pR01, pR02, pR03⟩ := quadA R0_5.out
  obtain ⟨pRB0, pRB1, pRB2, pRB3⟩ := quadA RB_5.out
  go_wp2_with fail
  obtain ⟨V5, hV⟩ : ∃ V, w5.alloc (.cells #[.int .u64 (d0 : Int), .int .u64 (d1 : Int), .int .u64 (d2 : Int), .int .u64 (d3 : Int)] 35) = V := ⟨_, rfl⟩
  rw [hV]
  have HV5 := Lib.hid (show Below w.heap.size w V5 by rw [← hV]; exact HB5.out.alloc hs5 _)
  have R0V5 := Lib.hid (show Row V5 w.heap.size (wl f t s l) 35 by rw [← hV]; exact R0_5.out.alloc _)
  have RAV5 := Lib.hid (show Row V5 w2.heap.size (wl a0 a1 a2 a3) 35 by rw [← hV]; exact RA_5.out.alloc _)
  have RBV5 := Lib.hid (show Row V5 w3.heap.size (wl b0 b1 b2 b3) 35 by rw [← hV]; exact RB_5.out.alloc _)
  have RDV5 := Lib.hid (show Row V5 w5.heap.size (wl d0 d1 d2 d3) 35 by rw [← hV]; exact Row.new rfl rfl)
  clear hV pR00 pR01 pR02 pR03 pRB0 pRB1 pRB2 pRB3
  refine (HA.out _).mono ?_
  rintro r w6 ⟨rfl, hb⟩
  have HB6 := Lib.hid (nextB HV5.out (Nat.le_refl _) hb)
  have hs6 : w.heap.size ≤ w6.heap.size := HB6.out.size
  have R0_6 := Lib.hid (R0V5.out.below hb R0V5.out.lt)
  have RA_6 := Lib.hid (RAV5.out.below hb RAV5.out.lt)
  clear hb
  go_wp2_with fail
  obtain ⟨V6, hV⟩ : ∃ V, w6.alloc (.cells #[.int .u64 (f : Int), .int .u64 (t : Int), .int .u64 (s : Int), .int .u64 (k : Int)] 35) = V := ⟨_, rfl⟩
  rw [hV]
  have HV6 := Lib.hid (show Below w.heap.size w V6 by rw [← hV]; exact HB6.out.alloc hs6 _)
  have R0V6 := Lib.hid (show Row V6 w.heap.size (wl f t s l) 35 by rw [← hV]; exact R0_6.out.alloc _)
  have RAV6 := Lib.hid (show Row V6 w2.heap.size (wl a0 a1 a2 a3) 35 by rw [← hV]; exact RA_6.out.alloc _)
  have RXV6 := Lib.hid (show Row V6 w6.heap.size (wl f t s k) 35 by rw [← hV]; exact Row.new rfl rfl)
  clear hV
  refine (HT5.out _).mono ?_
  rintro r w7 ⟨rfl, hb⟩
  have HB7 := Lib.hid (nextB HV6.out (Nat.le_refl _) hb)
  have hs7 : w.heap.size ≤ w7.heap.size := HB7.out.size
  have R0_7 := Lib.hid (R0V6.out.below hb R0V6.out.lt)
  have RA_7 := Lib.hid (RAV6.out.below hb RAV6.out.lt)
  have RX_7 := Lib.hid (RXV6.out.below hb RXV6.out.lt)
  clear hb
  go_wp2_with fail
  obtain ⟨V7, hV⟩ : ∃ V, w7.alloc (.cells #[.int .u64 (y0 : Int), .int .u64 (y1 : Int), .int .u64 (y2 : Int), .int .u64 (y3 : Int)] 35) = V := ⟨_, rfl⟩
  rw [hV]
  have HV7 := Lib.hid (show Below w.heap.size w V7 by rw [← hV]; exact HB7.out.alloc hs7 _)
  have R0V7 := Lib.hid (show Row V7 w.heap.size (wl f t s l) 35 by rw [← hV]; exact R0_7.out.alloc _)
  have RAV7 := Lib.hid (show Row V7 w2.heap.size (wl a0 a1 a2 a3) 35 by rw [← hV]; exact RA_7.out.alloc _)
  have RXV7 := Lib.hid (show Row V7 w6.heap.size (wl f t s k) 35 by rw [← hV]; exact RX_7.out.alloc _)
  have RYV7 := Lib.hid (show Row V7 w7.heap.size (wl y0 y1 y2 y3) 35 by rw [← hV]; exact Row.new rfl rfl)
  clear hV
  refine By.marks Win.mixed Grew [By.is (.pointer (some ⟨w6.heap.size, 3, none⟩)),
    By.is (.int .u64 (k : Int)),
    By.is (.int .u64 (k : Int)),
    By.is (.bool false),
    By.is (.bool false),
    By.is (.pointer (some ⟨w6.heap.size, 0, none⟩)),
    By.is (.int .u64 (f : Int)),
    By.is (.pointer (some ⟨w.heap.size, 0, none⟩)),
    By.is (.int .u64 (f : Int)),
    By.is (.bool false),
    By.is (.bool false),
    By.is (.bool false),
    By.is (.pointer (some ⟨w6.heap.size, 1, none⟩)),
    By.is (.int .u64 (t : Int)),
    By.is (.pointer (some ⟨w.heap.size, 1, none⟩)),
    By.is (.int .u64 (t : Int)),
    By.is (.bool false),
    By.is (.bool false),
    By.is (.bool false),
    By.is (.pointer (some ⟨w6.heap.size, 2, none⟩)),
    By.is (.int .u64 (s : Int)),
    By.is (.pointer (some ⟨w.heap.size, 2, none⟩)),
    By.is (.int .u64 (s : Int)),
    By.is (.bool false),
    By.is (.bool false),
    By.is (.bool false),
    By.is (wv f t s k),
    By.is (.int .u64 (m : Int)),
    By.is (.bool sn),
    By.is (wv f t s l),
    By.is (.int .u64 (m : Int)),
    By.is (.bool sn),
    By.is (.bool false),
    By.is (.bool false),
    By.is (.bool false),
    By.is (.int .u64 (n : Int)),
    By.is (.pointer (some ⟨w.heap.size, 3, none⟩)),
    By.is (.int .u64 (l : Int)),
    By.is (.bool (decide (n < l))),
    By.is (.bool (decide (n < l))),
    By.when (n < l) (By.is (.int .i64 (e5 : Int))),
    By.when (n < l) (By.is (.int .i64 (e1 : Int))),
    By.when (n < l) (By.is (.bool false)),
    By.is (.bool false),
    By.is (.bool false)]
    (Ev.masks _ []) (by kernel_rfl) rfl Grew.refl Grew.trans ⟨?_, ?_, ?_, ?_, ?_, ?_, ?_, ?_, ?_, ?_, ?_, ?_, ?_, ?_, ?_, ?_, ?_, ?_, ?_, ?_, ?_, ?_, ?_, ?_, ?_, ?_, ?_, ?_, ?_, ?_, ?_, ?_, ?_, ?_, ?_, ?_, ?_, ?_, ?_, ?_, ?_, ?_, ?_, ?_, ?_, trivial⟩ ?_
  · intro a w ht hs hg -- 85
    have h17 := By.same_get hs 17 (by decide) (by kernel_rfl)
    refine By.yes rfl ?_
    clear hs hg
    go_simp
    exact ⟨_, rfl, Grew.refl _, rfl⟩
  · intro a w ht hs hg -- 86
    have h85 : a.tmps.getD 85 undef = _ := By.given_get hg 0 rfl rfl (by kernel_rfl)
    refine By.yes rfl ?_
    clear hs hg
    have hc := (Row.below (w := V7.drew) RXV7.out ht RXV7.out.lt).cell (i := 3) rfl
    go_simp
    exact ⟨_, rfl, Grew.refl _, rfl⟩
  · intro a w ht hs hg -- 87
    have h3 := By.same_get hs 3 (by decide) (by kernel_rfl)
    refine By.yes rfl ?_
    clear hs hg
    go_simp
    exact ⟨_, rfl, Grew.refl _, rfl⟩
  · intro a w ht hs hg -- 88
    have h86 : a.tmps.getD 86 undef = _ := By.given_get hg 1 rfl rfl (by kernel_rfl)
    have h87 : a.tmps.getD 87 undef = _ := By.given_get hg 2 rfl rfl (by kernel_rfl)
    refine By.yes rfl ?_
    clear hs hg
    go_simp
    exact ⟨_, rfl, Grew.refl _, congrArg Value.bool (by simp)⟩
  · intro a w ht hs hg -- 89
    have h88 : a.tmps.getD 88 undef = _ := By.given_get hg 3 rfl rfl (by kernel_rfl)
    refine By.yes rfl ?_
    clear hs hg
    go_simp
    exact ⟨_, rfl, Grew.refl _, rfl⟩
  · intro a w ht hs hg -- 90
    have h17 := By.same_get hs 17 (by decide) (by kernel_rfl)
    have hg89 := By.given_get hg 4 rfl rfl (by kernel_rfl)
    refine By.yes (By.want_yes rfl rfl hg89) ?_
    clear hg89
    clear hs hg
    go_simp
    exact ⟨_, rfl, Grew.refl _, rfl⟩
  · intro a w ht hs hg -- 91
    have h90 : a.tmps.getD 90 undef = _ := By.given_get hg 5 rfl rfl (by kernel_rfl)
    have hg89 := By.given_get hg 4 rfl rfl (by kernel_rfl)
    refine By.yes (By.want_yes rfl rfl hg89) ?_
    clear hg89
    clear hs hg
    have hc := (Row.below (w := V7.drew) RXV7.out ht RXV7.out.lt).cell (i := 0) rfl
    go_simp
    exact ⟨_, rfl, Grew.refl _, rfl⟩
  · intro a w ht hs hg -- 92
    have h4 := By.same_get hs 4 (by decide) (by kernel_rfl)
    have hg89 := By.given_get hg 4 rfl rfl (by kernel_rfl)
    refine By.yes (By.want_yes rfl rfl hg89) ?_
    clear hg89
    clear hs hg
    go_simp
    exact ⟨_, rfl, Grew.refl _, rfl⟩
  · intro a w ht hs hg -- 93
    have h92 : a.tmps.getD 92 undef = _ := By.given_get hg 7 rfl rfl (by kernel_rfl)
    have hg89 := By.given_get hg 4 rfl rfl (by kernel_rfl)
    refine By.yes (By.want_yes rfl rfl hg89) ?_
    clear hg89
    clear hs hg
    have hc := (Row.below (w := V7.drew) R0V7.out ht R0V7.out.lt).cell (i := 0) rfl
    go_simp
    exact ⟨_, rfl, Grew.refl _, rfl⟩
  · intro a w ht hs hg -- 94
    have h91 : a.tmps.getD 91 undef = _ := By.given_get hg 6 rfl rfl (by kernel_rfl)
    have h93 : a.tmps.getD 93 undef = _ := By.given_get hg 8 rfl rfl (by kernel_rfl)
    have hg89 := By.given_get hg 4 rfl rfl (by kernel_rfl)
    refine By.yes (By.want_yes rfl rfl hg89) ?_
    clear hg89
    clear hs hg
    go_simp
    exact ⟨_, rfl, Grew.refl _, congrArg Value.bool (by simp)⟩
  · intro a w ht hs hg -- 95
    have h89 : a.tmps.getD 89 undef = _ := By.given_get hg 4 rfl rfl (by kernel_rfl)
    have h94 : a.tmps.getD 94 undef = _ := By.given_get hg 9 rfl rfl (by kernel_rfl)
    refine By.yes rfl ?_
    clear hs hg
    go_simp
    exact ⟨_, rfl, Grew.refl _, rfl⟩
  · intro a w ht hs hg -- 96
    have h95 : a.tmps.getD 95 undef = _ := By.given_get hg 10 rfl rfl (by kernel_rfl)
    refine By.yes rfl ?_
    clear hs hg
    go_simp
    exact ⟨_, rfl, Grew.refl _, rfl⟩
  · intro a w ht hs hg -- 97
    have h17 := By.same_get hs 17 (by decide) (by kernel_rfl)
    have hg96 := By.given_get hg 11 rfl rfl (by kernel_rfl)
    refine By.yes (By.want_yes rfl rfl hg96) ?_
    clear hg96
    clear hs hg
    go_simp
    exact ⟨_, rfl, Grew.refl _, rfl⟩
  · intro a w ht hs hg -- 98
    have h97 : a.tmps.getD 97 undef = _ := By.given_get hg 12 rfl rfl (by kernel_rfl)
    have hg96 := By.given_get hg 11 rfl rfl (by kernel_rfl)
    refine By.yes (By.want_yes rfl rfl hg96) ?_
    clear hg96
    clear hs hg
    have hc := (Row.below (w := V7.drew) RXV7.out ht RXV7.out.lt).cell (i := 1) rfl
    go_simp
    exact ⟨_, rfl, Grew.refl _, rfl⟩
  · intro a w ht hs hg -- 99
    have h4 := By.same_get hs 4 (by decide) (by kernel_rfl)
    have hg96 := By.given_get hg 11 rfl rfl (by kernel_rfl)
    refine By.yes (By.want_yes rfl rfl hg96) ?_
    clear hg96
    clear hs hg
    go_simp
    exact ⟨_, rfl, Grew.refl _, rfl⟩
  · intro a w ht hs hg -- 100
    have h99 : a.tmps.getD 99 undef = _ := By.given_get hg 14 rfl rfl (by kernel_rfl)
    have hg96 := By.given_get hg 11 rfl rfl (by kernel_rfl)
    refine By.yes (By.want_yes rfl rfl hg96) ?_
    clear hg96
    clear hs hg
    have hc := (Row.below (w := V7.drew) R0V7.out ht R0V7.out.lt).cell (i := 1) rfl
    go_simp
    exact ⟨_, rfl, Grew.refl _, rfl⟩
  · intro a w ht hs hg -- 101
    have h98 : a.tmps.getD 98 undef = _ := By.given_get hg 13 rfl rfl (by kernel_rfl)
    have h100 : a.tmps.getD 100 undef = _ := By.given_get hg 15 rfl rfl (by kernel_rfl)
    have hg96 := By.given_get hg 11 rfl rfl (by kernel_rfl)
    refine By.yes (By.want_yes rfl rfl hg96) ?_
    clear hg96
    clear hs hg
    go_simp
    exact ⟨_, rfl, Grew.refl _, congrArg Value.bool (by simp)⟩
  · intro a w ht hs hg -- 102
    have h96 : a.tmps.getD 96 undef = _ := By.given_get hg 11 rfl rfl (by kernel_rfl)
    have h101 : a.tmps.getD 101 undef = _ := By.given_get hg 16 rfl rfl (by kernel_rfl)
    refine By.yes rfl ?_
    clear hs hg
    go_simp
    exact ⟨_, rfl, Grew.refl _, rfl⟩
  · intro a w ht hs hg -- 103
    have h102 : a.tmps.getD 102 undef = _ := By.given_get hg 17 rfl rfl (by kernel_rfl)
    refine By.yes rfl ?_
    clear hs hg
    go_simp
    exact ⟨_, rfl, Grew.refl _, rfl⟩
  · intro a w ht hs hg -- 104
    have h17 := By.same_get hs 17 (by decide) (by kernel_rfl)
    have hg103 := By.given_get hg 18 rfl rfl (by kernel_rfl)
    refine By.yes (By.want_yes rfl rfl hg103) ?_
    clear hg103
    clear hs hg
    go_simp
    exact ⟨_, rfl, Grew.refl _, rfl⟩
  · intro a w ht hs hg -- 105
    have h104 : a.tmps.getD 104 undef = _ := By.given_get hg 19 rfl rfl (by kernel_rfl)
    have hg103 := By.given_get hg 18 rfl rfl (by kernel_rfl)
    refine By.yes (By.want_yes rfl rfl hg103) ?_
    clear hg103
    clear hs hg
    have hc := (Row.below (w := V7.drew) RXV7.out ht RXV7.out.lt).cell (i := 2) rfl
    go_simp
    exact ⟨_, rfl, Grew.refl _, rfl⟩
  · intro a w ht hs hg -- 106
    have h4 := By.same_get hs 4 (by decide) (by kernel_rfl)
    have hg103 := By.given_get hg 18 rfl rfl (by kernel_rfl)
    refine By.yes (By.want_yes rfl rfl hg103) ?_
    clear hg103
    clear hs hg
    go_simp
    exact ⟨_, rfl, Grew.refl _, rfl⟩
  · intro a w ht hs hg -- 107
    have h106 : a.tmps.getD 106 undef = _ := By.given_get hg 21 rfl rfl (by kernel_rfl)
    have hg103 := By.given_get hg 18 rfl rfl (by kernel_rfl)
    refine By.yes (By.want_yes rfl rfl hg103) ?_
    clear hg103
    clear hs hg
    have hc := (Row.below (w := V7.drew) R0V7.out ht R0V7.out.lt).cell (i := 2) rfl
    go_simp
    exact ⟨_, rfl, Grew.refl _, rfl⟩
  · intro a w ht hs hg -- 108
    have h105 : a.tmps.getD 105 undef = _ := By.given_get hg 20 rfl rfl (by kernel_rfl)
    have h107 : a.tmps.getD 107 undef = _ := By.given_get hg 22 rfl rfl (by kernel_rfl)
    have hg103 := By.given_get hg 18 rfl rfl (by kernel_rfl)
    refine By.yes (By.want_yes rfl rfl hg103) ?_
    clear hg103
    clear hs hg
    go_simp
    exact ⟨_, rfl, Grew.refl _, congrArg Value.bool (by simp)⟩
  · intro a w ht hs hg -- 109
    have h103 : a.tmps.getD 103 undef = _ := By.given_get hg 18 rfl rfl (by kernel_rfl)
    have h108 : a.tmps.getD 108 undef = _ := By.given_get hg 23 rfl rfl (by kernel_rfl)
    refine By.yes rfl ?_
    clear hs hg
    go_simp
    exact ⟨_, rfl, Grew.refl _, rfl⟩
  · intro a w ht hs hg -- 110
    have h109 : a.tmps.getD 109 undef = _ := By.given_get hg 24 rfl rfl (by kernel_rfl)
    refine By.yes rfl ?_
    clear hs hg
    go_simp
    exact ⟨_, rfl, Grew.refl _, rfl⟩
  · intro a w ht hs hg -- 111
    have h17 := By.same_get hs 17 (by decide) (by kernel_rfl)
    have hg110 := By.given_get hg 25 rfl rfl (by kernel_rfl)
    refine By.yes (By.want_yes rfl rfl hg110) ?_
    clear hg110
    clear hs hg
    refine wp_loadRow 35 _ rfl h17 (Row.below (w := V7.drew) RXV7.out ht RXV7.out.lt) Try.underlying35 rfl (by kernel_rfl) rfl ?_
    exact ⟨_, rfl, Grew.refl _, rfl⟩
  · intro a w ht hs hg -- 112
    have h2 := By.same_get hs 2 (by decide) (by kernel_rfl)
    have hg110 := By.given_get hg 25 rfl rfl (by kernel_rfl)
    refine By.yes (By.want_yes rfl rfl hg110) ?_
    clear hg110
    clear hs hg
    go_simp
    exact ⟨_, rfl, Grew.refl _, rfl⟩
  · intro a w ht hs hg -- 113
    have h111 : a.tmps.getD 111 undef = _ := By.given_get hg 26 rfl rfl (by kernel_rfl)
    have h112 : a.tmps.getD 112 undef = _ := By.given_get hg 27 rfl rfl (by kernel_rfl)
    have hg110 := By.given_get hg 25 rfl rfl (by kernel_rfl)
    refine By.yes (By.want_yes rfl rfl hg110) ?_
    clear hg110
    clear hs hg
    go_simp
    refine (HS1.out _).mono ?_
    rintro r w' ⟨rfl, hb⟩
    exact ⟨_, rfl, hb, rfl⟩
  · intro a w ht hs hg -- 114
    have h4 := By.same_get hs 4 (by decide) (by kernel_rfl)
    have hg110 := By.given_get hg 25 rfl rfl (by kernel_rfl)
    refine By.yes (By.want_yes rfl rfl hg110) ?_
    clear hg110
    clear hs hg
    refine wp_loadRow 35 _ rfl h4 (Row.below (w := V7.drew) R0V7.out ht R0V7.out.lt) Try.underlying35 rfl (by kernel_rfl) rfl ?_
    exact ⟨_, rfl, Grew.refl _, rfl⟩
  · intro a w ht hs hg -- 115
    have h2 := By.same_get hs 2 (by decide) (by kernel_rfl)
    have hg110 := By.given_get hg 25 rfl rfl (by kernel_rfl)
    refine By.yes (By.want_yes rfl rfl hg110) ?_
    clear hg110
    clear hs hg
    go_simp
    exact ⟨_, rfl, Grew.refl _, rfl⟩
  · intro a w ht hs hg -- 116
    have h114 : a.tmps.getD 114 undef = _ := By.given_get hg 29 rfl rfl (by kernel_rfl)
    have h115 : a.tmps.getD 115 undef = _ := By.given_get hg 30 rfl rfl (by kernel_rfl)
    have hg110 := By.given_get hg 25 rfl rfl (by kernel_rfl)
    refine By.yes (By.want_yes rfl rfl hg110) ?_
    clear hg110
    clear hs hg
    go_simp
    refine (HS0.out _).mono ?_
    rintro r w' ⟨rfl, hb⟩
    exact ⟨_, rfl, hb, rfl⟩
  · intro a w ht hs hg -- 117
    have h113 : a.tmps.getD 113 undef = _ := By.given_get hg 28 rfl rfl (by kernel_rfl)
    have h116 : a.tmps.getD 116 undef = _ := By.given_get hg 31 rfl rfl (by kernel_rfl)
    have hg110 := By.given_get hg 25 rfl rfl (by kernel_rfl)
    refine By.yes (By.want_yes rfl rfl hg110) ?_
    clear hg110
    clear hs hg
    go_simp
    exact ⟨_, rfl, Grew.refl _, congrArg Value.bool (by simp)⟩
  · intro a w ht hs hg -- 118
    have h110 : a.tmps.getD 110 undef = _ := By.given_get hg 25 rfl rfl (by kernel_rfl)
    have h117 : a.tmps.getD 117 undef = _ := By.given_get hg 32 rfl rfl (by kernel_rfl)
    refine By.yes rfl ?_
    clear hs hg
    go_simp
    exact ⟨_, rfl, Grew.refl _, rfl⟩
  · intro a w ht hs hg -- 119
    have h118 : a.tmps.getD 118 undef = _ := By.given_get hg 33 rfl rfl (by kernel_rfl)
    refine By.yes rfl ?_
    clear hs hg
    go_simp
    exact ⟨_, rfl, Grew.refl _, rfl⟩
  · intro a w ht hs hg -- 120
    have h1 := By.same_get hs 1 (by decide) (by kernel_rfl)
    have hg119 := By.given_get hg 34 rfl rfl (by kernel_rfl)
    refine By.yes (By.want_yes rfl rfl hg119) ?_
    clear hg119
    clear hs hg
    go_simp
    exact ⟨_, rfl, Grew.refl _, rfl⟩
  · intro a w ht hs hg -- 121
    have h4 := By.same_get hs 4 (by decide) (by kernel_rfl)
    have hg119 := By.given_get hg 34 rfl rfl (by kernel_rfl)
    refine By.yes (By.want_yes rfl rfl hg119) ?_
    clear hg119
    clear hs hg
    go_simp
    exact ⟨_, rfl, Grew.refl _, rfl⟩
  · intro a w ht hs hg -- 122
    have h121 : a.tmps.getD 121 undef = _ := By.given_get hg 36 rfl rfl (by kernel_rfl)
    have hg119 := By.given_get hg 34 rfl rfl (by kernel_rfl)
    refine By.yes (By.want_yes rfl rfl hg119) ?_
    clear hg119
    clear hs hg
    have hc := (Row.below (w := V7.drew) R0V7.out ht R0V7.out.lt).cell (i := 3) rfl
    go_simp
    exact ⟨_, rfl, Grew.refl _, rfl⟩
  · intro a w ht hs hg -- 123
    have h120 : a.tmps.getD 120 undef = _ := By.given_get hg 35 rfl rfl (by kernel_rfl)
    have h122 : a.tmps.getD 122 undef = _ := By.given_get hg 37 rfl rfl (by kernel_rfl)
    have hg119 := By.given_get hg 34 rfl rfl (by kernel_rfl)
    refine By.yes (By.want_yes rfl rfl hg119) ?_
    clear hg119
    clear hs hg
    go_simp
    exact ⟨_, rfl, Grew.refl _, congrArg Value.bool (by first | rfl | (rw [Bool.eq_iff_iff]; simp; done) | (rw [Bool.eq_iff_iff]; simp; omega))⟩
  · intro a w ht hs hg -- 124
    have h123 : a.tmps.getD 123 undef = _ := By.given_get hg 38 rfl rfl (by kernel_rfl)
    have hg119 := By.given_get hg 34 rfl rfl (by kernel_rfl)
    refine By.yes (By.want_yes rfl rfl hg119) ?_
    clear hg119
    clear hs hg
    go_simp
    exact ⟨_, rfl, Grew.refl _, rfl⟩
  · intro a w ht hs hg -- 125
    have h20 := By.same_get hs 20 (by decide) (by kernel_rfl)
    have hg124 := By.given_get hg 39 rfl rfl (by kernel_rfl)
    refine By.guarded (c := n < l) ((By.want_dec rfl rfl hg124).trans (by simp)) fun hc => ?_
    clear hg124
    clear hs hg
    go_simp
    exact ⟨_, rfl, Grew.refl _, rfl⟩
  · intro a w ht hs hg -- 126
    have h10 := By.same_get hs 10 (by decide) (by kernel_rfl)
    have hg124 := By.given_get hg 39 rfl rfl (by kernel_rfl)
    refine By.guarded (c := n < l) ((By.want_dec rfl rfl hg124).trans (by simp)) fun hc => ?_
    clear hg124
    clear hs hg
    go_simp
    exact ⟨_, rfl, Grew.refl _, rfl⟩
  · intro a w ht hs hg -- 127
    have hg124 := By.given_get hg 39 rfl rfl (by kernel_rfl)
    refine By.guarded (c := n < l) ((By.want_dec rfl rfl hg124).trans (by simp)) fun hc => ?_
    clear hg124
    have h125 : a.tmps.getD 125 undef = _ := By.when_get hc (By.given_get hg 40 rfl rfl (by kernel_rfl))
    have h126 : a.tmps.getD 126 undef = _ := By.when_get hc (By.given_get hg 41 rfl rfl (by kernel_rfl))
    clear hs hg
    have hj := HJ.out hc
    go_simp
    exact ⟨_, rfl, Grew.refl _, congrArg Value.bool (by simp [hj])⟩
  · intro a w ht hs hg -- 128
    have h124 : a.tmps.getD 124 undef = _ := By.given_get hg 39 rfl rfl (by kernel_rfl)
    have hg119 := By.given_get hg 34 rfl rfl (by kernel_rfl)
    refine By.yes (By.want_yes rfl rfl hg119) ?_
    clear hg119
    have h127 := By.given_get hg 42 rfl rfl (by kernel_rfl)
    clear hs hg
    by_cases hc : n < l
    · have h127' := By.when_get hc h127
      have h127 : a.tmps.getD 127 undef = _ := h127'
      clear h127'
      go_simp
      exact ⟨_, rfl, Grew.refl _, congrArg Value.bool (by simp [hc])⟩
    · clear h127
      go_simp
      exact ⟨_, rfl, Grew.refl _, congrArg Value.bool (by simp [hc])⟩
  · intro a w ht hs hg -- 129
    have h119 : a.tmps.getD 119 undef = _ := By.given_get hg 34 rfl rfl (by kernel_rfl)
    have h128 : a.tmps.getD 128 undef = _ := By.given_get hg 43 rfl rfl (by kernel_rfl)
    refine By.yes rfl ?_
    clear hs hg
    go_simp
    exact ⟨_, rfl, Grew.refl _, rfl⟩
  refine By.ends_is (By.ends_is (By.ends_is (By.ends_is (By.ends_is (By.ends_is (By.ends_is (By.ends_is (By.ends_is (By.ends_is (By.ends_is (By.ends_is (By.ends_is (By.ends_is (By.ends_is (By.ends_is (By.ends_is (By.ends_is (By.ends_is (By.ends_is (By.ends_is (By.ends_is (By.ends_is (By.ends_is (By.ends_is (By.ends_is (By.ends_is (By.ends_is (By.ends_is (By.ends_is (By.ends_is (By.ends_is (By.ends_is (By.ends_is (By.ends_is (By.ends_is (By.ends_is (By.ends_is (By.ends_is (By.ends_is (By.ends_skip fun v125 => (By.ends_skip fun v126 => (By.ends_skip fun v127 => (By.ends_is (By.ends_is (By.ends_nil fun w8 hw8 => ?_)))))))))))))))))))))))))))))))))))))))))))))
  simp only [Act.put, List.setIfInBounds_toArray, List.set_cons_succ, List.set_cons_zero]
  have HB8 := Lib.hid (nextB HV7.out (Nat.le_refl _) (show Below V7.heap.size V7 w8 from ⟨hw8.os, hw8.tape, hw8.output, hw8.size, hw8.block⟩))
  have R08 := Lib.hid (Row.below (w := V7.drew) R0V7.out hw8 R0V7.out.lt)
  have RA8 := Lib.hid (Row.below (w := V7.drew) RAV7.out hw8 RAV7.out.lt)
  have RY8 := Lib.hid (Row.below (w := V7.drew) RYV7.out hw8 RYV7.out.lt)
  clear hw8
  obtain ⟨o0, o1, o2, o3⟩ := quad R08.out
  obtain ⟨o4, o5, o6, o7⟩ := quad RY8.out
  have o8 := frozen_row RY8.out 3
  have n1 : w.heap.size ≠ w7.heap.size := Nat.ne_of_lt R0_7.out.lt
  have n2 : w2.heap.size ≠ w7.heap.size := Nat.ne_of_lt RA_7.out.lt
  have RYs := Lib.hid (show Row (w8.setCell ⟨w7.heap.size, 3, none⟩ (.int .u64 (l : Int))) w7.heap.size (wl y0 y1 y2 l) 35 from RY8.out.set 3 _)
  have R0s := Lib.hid (show Row (w8.setCell ⟨w7.heap.size, 3, none⟩ (.int .u64 (l : Int))) w.heap.size (wl f t s l) 35 from R08.out.other _ _ n1)
  have RAs := Lib.hid (show Row (w8.setCell ⟨w7.heap.size, 3, none⟩ (.int .u64 (l : Int))) w2.heap.size (wl a0 a1 a2 a3) 35 from RA8.out.other _ _ n2)
  obtain ⟨g0, g1, g2, g3⟩ := quad RYs.out
  obtain ⟨g4, g5, g6, g7⟩ := quad R0s.out
  obtain ⟨g8, g9, g10, g11⟩ := quad RAs.out
  have HBs := Lib.hid (show Below w.heap.size w (w8.setCell ⟨w7.heap.size, 3, none⟩ (.int .u64 (l : Int))) from HB8.out.setCell (by simp; omega) _)
  go_wp2
  go_ret
  exact ⟨rfl, HBs.out⟩

set_option maxRecDepth 8000 in
set_option maxHeartbeats 4000000 in
theorem walk4okj (f t s l n m k a0 a1 a2 a3 b0 b1 b2 b3 c0 c1 c2 c3 d0 d1 d2 d3 e1 e2 e3 e4 r e5 y0 y1 y2 y3 : Nat) (sn : Bool) (w : World)
    (HT1 : Hid (∀ W : World, Calls Try.prog 19 #[wv f t s l, .int .u64 (n : Int)] W fun e w' => e = .returned (.tuple #[wv a0 a1 a2 a3, .int .i64 (e1 : Int)]) ∧ Below W.heap.size W w'))
    (HT2 : Hid (∀ W : World, Calls Try.prog 19 #[wv a0 a1 a2 a3, .int .u64 (m : Int)] W fun e w' => e = .returned (.tuple #[wv b0 b1 b2 b3, .int .i64 (e2 : Int)]) ∧ Below W.heap.size W w'))
    (HT3 : Hid (∀ W : World, Calls Try.prog 19 #[wv f t s l, .int .u64 (m : Int)] W fun e w' => e = .returned (.tuple #[wv c0 c1 c2 c3, .int .i64 (e3 : Int)]) ∧ Below W.heap.size W w'))
    (HT4 : Hid (∀ W : World, Calls Try.prog 19 #[wv c0 c1 c2 c3, .int .u64 (n : Int)] W fun e w' => e = .returned (.tuple #[wv d0 d1 d2 d3, .int .i64 (e4 : Int)]) ∧ Below W.heap.size W w'))
    (HA : Hid (∀ W : World, Calls Try.prog 17 #[wv f t s l, .int .u64 (k : Int)] W fun e w' => e = .returned (.tuple #[wv f t s k, .int .i64 (r : Int)]) ∧ Below W.heap.size W w'))
    (HT5 : Hid (∀ W : World, Calls Try.prog 19 #[wv f t s k, .int .u64 (n : Int)] W fun e w' => e = .returned (.tuple #[wv y0 y1 y2 y3, .int .i64 (e5 : Int)]) ∧ Below W.heap.size W w'))
    (HS1 : Hid (∀ W : World, Calls Try.prog 25 #[wv f t s k, .int .u64 (m : Int)] W fun e w' => e = .returned (.bool sn) ∧ Below W.heap.size W w'))
    (HS0 : Hid (∀ W : World, Calls Try.prog 25 #[wv f t s l, .int .u64 (m : Int)] W fun e w' => e = .returned (.bool sn) ∧ Below W.heap.size W w'))
    (HJ : Hid (n < l → e5 = e1)) 
    (h1 : ((e1 : Int) == 0) = true) (h2 : ((e2 : Int) == 0) = true) (h3 : ((e3 : Int) == 0) = true) (h4 : ((e4 : Int) == 0) = false)
    (hr : ((r : Int) != 0) = false)
    (hn : decide (l ≤ n) = false) (hj : ((e5 : Int) != 0) = true)
     :
    Calls Try.prog 8 #[wv f t s l, .int .u64 (n : Int), .int .u64 (m : Int), .int .u64 (k : Int)] w fun e w' => e = .returned (.bool true) ∧ Below w.heap.size w w' := by
  go_enter Try.func8, Try.ntmps8
  go_wp2_with fail
  refine (lives_any _).mono ?_
  rintro r' w1 ⟨rfl, hb⟩
  have HV1 := Lib.hid (show Below w.heap.size w w1 from nextB ((Below.refl w.heap.size w).alloc (Nat.le_refl _) _) (Nat.le_refl _) hb)
  have R0V1 := Lib.hid (show Row w1 w.heap.size (wl f t s l) 35 from (Row.new rfl rfl).below hb (by simp))
  obtain ⟨p0, p1, p2, p3⟩ := quad R0V1.out
  clear hb
  go_wp2_with fail
  clear p0 p1 p2 p3
  refine (HT1.out _).mono ?_
  rintro r w2 ⟨rfl, hb⟩
  have HB2 := Lib.hid (nextB HV1.out (Nat.le_refl _) hb)
  have hs2 : w.heap.size ≤ w2.heap.size := HB2.out.size
  have R0_2 := Lib.hid (R0V1.out.below hb R0V1.out.lt)
  clear hb
  go_wp2_with fail
  obtain ⟨V2, hV⟩ : ∃ V, w2.alloc (.cells #[.int .u64 (a0 : Int), .int .u64 (a1 : Int), .int .u64 (a2 : Int), .int .u64 (a3 : Int)] 35) = V := ⟨_, rfl⟩
  rw [hV]
  have HV2 := Lib.hid (show Below w.heap.size w V2 by rw [← hV]; exact HB2.out.alloc hs2 _)
  have R0V2 := Lib.hid (show Row V2 w.heap.size (wl f t s l) 35 by rw [← hV]; exact R0_2.out.alloc _)
  have RAV2 := Lib.hid (show Row V2 w2.heap.size (wl a0 a1 a2 a3) 35 by rw [← hV]; exact Row.new rfl rfl)
  clear hV
  refine (HT2.out _).mono ?_
  rintro r w3 ⟨rfl, hb⟩
  have HB3 := Lib.hid (nextB HV2.out (Nat.le_refl _) hb)
  have hs3 : w.heap.size ≤ w3.heap.size := HB3.out.size
  have R0_3 := Lib.hid (R0V2.out.below hb R0V2.out.lt)
  have RA_3 := Lib.hid (RAV2.out.below hb RAV2.out.lt)
  clear hb
  obtain ⟨pR00, pR01, pR02, pR03⟩ := quadA R0_3.out
  go_wp2_with fail
  obtain ⟨V3, hV⟩ : ∃ V, w3.alloc (.cells #[.int .u64 (b0 : Int), .int .u64 (b1 : Int), .int .u64 (b2 : Int), .int .u64 (b3 : Int)] 35) = V := ⟨_, rfl⟩
  rw [hV]
  have HV3 := Lib.hid (show Below w.heap.size w V3 by rw [← hV]; exact HB3.out.alloc hs3 _)
  have R0V3 := Lib.hid (show Row V3 w.heap.size (wl f t s l) 35 by rw [← hV]; exact R0_3.out.alloc _)
  have RAV3 := Lib.hid (show Row V3 w2.heap.size (wl a0 a1 a2 a3) 35 by rw [← hV]; exact RA_3.out.alloc _)
  have RBV3 := Lib.hid (show Row V3 w3.heap.size (wl b0 b1 b2 b3) 35 by rw [← hV]; exact Row.new rfl rfl)
  clear hV pR00 pR01 pR02 pR03
  refine (HT3.out _).mono ?_
  rintro r w4 ⟨rfl, hb⟩
  have HB4 := Lib.hid (nextB HV3.out (Nat.le_refl _) hb)
  have hs4 : w.heap.size ≤ w4.heap.size := HB4.out.size
  have R0_4 := Lib.hid (R0V3.out.below hb R0V3.out.lt)
  have RA_4 := Lib.hid (RAV3.out.below hb RAV3.out.lt)
  have RB_4 := Lib.hid (RBV3.out.below hb RBV3.out.lt)
  clear hb
  go_wp2_with fail
  obtain ⟨V4, hV⟩ : ∃ V, w4.alloc (.cells #[.int .u64 (c0 : Int), .int .u64 (c1 : Int), .int .u64 (c2 : Int), .int .u64 (c3 : Int)] 35) = V := ⟨_, rfl⟩
  rw [hV]
  have HV4 := Lib.hid (show Below w.heap.size w V4 by rw [← hV]; exact HB4.out.alloc hs4 _)
  have R0V4 := Lib.hid (show Row V4 w.heap.size (wl f t s l) 35 by rw [← hV]; exact R0_4.out.alloc _)
  have RAV4 := Lib.hid (show Row V4 w2.heap.size (wl a0 a1 a2 a3) 35 by rw [← hV]; exact RA_4.out.alloc _)
  have RBV4 := Lib.hid (show Row V4 w3.heap.size (wl b0 b1 b2 b3) 35 by rw [← hV]; exact RB_4.out.alloc _)
  have RCV4 := Lib.hid (show Row V4 w4.heap.size (wl c0 c1 c2 c3) 35 by rw [← hV]; exact Row.new rfl rfl)
  clear hV
  refine (HT4.out _).mono ?_
  rintro r w5 ⟨rfl, hb⟩
  have HB5 := Lib.hid (nextB HV4.out (Nat.le_refl _) hb)
  have hs5 : w.heap.size ≤ w5.heap.size := HB5.out.size
  have R0_5 := Lib.hid (R0V4.out.below hb R0V4.out.lt)
  have RA_5 := Lib.hid (RAV4.out.below hb RAV4.out.lt)
  have RB_5 := Lib.hid (RBV4.out.below hb RBV4.out.lt)
  clear hb
  obtain ⟨pR00, pR01, pR02, pR03⟩ := quadA R0_5.out
  obtain ⟨pRB0, pRB1, pRB2, pRB3⟩ := quadA RB_5.out
  go_wp2_with fail
  obtain ⟨V5, hV⟩ : ∃ V, w5.alloc (.cells #[.int .u64 (d0 : Int), .int .u64 (d1 : Int), .int .u64 (d2 : Int), .int .u64 (d3 : Int)] 35) = V := ⟨_, rfl⟩
  rw [hV]
  have HV5 := Lib.hid (show Below w.heap.size w V5 by rw [← hV]; exact HB5.out.alloc hs5 _)
  have R0V5 := Lib.hid (show Row V5 w.heap.size (wl f t s l) 35 by rw [← hV]; exact R0_5.out.alloc _)
  have RAV5 := Lib.hid (show Row V5 w2.heap.size (wl a0 a1 a2 a3) 35 by rw [← hV]; exact RA_5.out.alloc _)
  have RBV5 := Lib.hid (show Row V5 w3.heap.size (wl b0 b1 b2 b3) 35 by rw [← hV]; exact RB_5.out.alloc _)
  have RDV5 := Lib.hid (show Row V5 w5.heap.size (wl d0 d1 d2 d3) 35 by rw [← hV]; exact Row.new rfl rfl)
  clear hV pR00 pR01 pR02 pR03 pRB0 pRB1 pRB2 pRB3
  refine (HA.out _).mono ?_
  rintro r w6 ⟨rfl, hb⟩
  have HB6 := Lib.hid (nextB HV5.out (Nat.le_refl _) hb)
  have hs6 : w.heap.size ≤ w6.heap.size := HB6.out.size
  have R0_6 := Lib.hid (R0V5.out.below hb R0V5.out.lt)
  have RA_6 := Lib.hid (RAV5.out.below hb RAV5.out.lt)
  clear hb
  go_wp2_with fail
  obtain ⟨V6, hV⟩ : ∃ V, w6.alloc (.cells #[.int .u64 (f : Int), .int .u64 (t : Int), .int .u64 (s : Int), .int .u64 (k : Int)] 35) = V := ⟨_, rfl⟩
  rw [hV]
  have HV6 := Lib.hid (show Below w.heap.size w V6 by rw [← hV]; exact HB6.out.alloc hs6 _)
  have R0V6 := Lib.hid (show Row V6 w.heap.size (wl f t s l) 35 by rw [← hV]; exact R0_6.out.alloc _)
  have RAV6 := Lib.hid (show Row V6 w2.heap.size (wl a0 a1 a2 a3) 35 by rw [← hV]; exact RA_6.out.alloc _)
  have RXV6 := Lib.hid (show Row V6 w6.heap.size (wl f t s k) 35 by rw [← hV]; exact Row.new rfl rfl)
  clear hV
  refine (HT5.out _).mono ?_
  rintro r w7 ⟨rfl, hb⟩
  have HB7 := Lib.hid (nextB HV6.out (Nat.le_refl _) hb)
  have hs7 : w.heap.size ≤ w7.heap.size := HB7.out.size
  have R0_7 := Lib.hid (R0V6.out.below hb R0V6.out.lt)
  have RA_7 := Lib.hid (RAV6.out.below hb RAV6.out.lt)
  have RX_7 := Lib.hid (RXV6.out.below hb RXV6.out.lt)
  clear hb
  go_wp2_with fail
  obtain ⟨V7, hV⟩ : ∃ V, w7.alloc (.cells #[.int .u64 (y0 : Int), .int .u64 (y1 : Int), .int .u64 (y2 : Int), .int .u64 (y3 : Int)] 35) = V := ⟨_, rfl⟩
  rw [hV]
  have HV7 := Lib.hid (show Below w.heap.size w V7 by rw [← hV]; exact HB7.out.alloc hs7 _)
  have R0V7 := Lib.hid (show Row V7 w.heap.size (wl f t s l) 35 by rw [← hV]; exact R0_7.out.alloc _)
  have RAV7 := Lib.hid (show Row V7 w2.heap.size (wl a0 a1 a2 a3) 35 by rw [← hV]; exact RA_7.out.alloc _)
  have RXV7 := Lib.hid (show Row V7 w6.heap.size (wl f t s k) 35 by rw [← hV]; exact RX_7.out.alloc _)
  have RYV7 := Lib.hid (show Row V7 w7.heap.size (wl y0 y1 y2 y3) 35 by rw [← hV]; exact Row.new rfl rfl)
  clear hV
  refine By.marks Win.mixed Grew [By.is (.pointer (some ⟨w6.heap.size, 3, none⟩)),
    By.is (.int .u64 (k : Int)),
    By.is (.int .u64 (k : Int)),
    By.is (.bool false),
    By.is (.bool false),
    By.is (.pointer (some ⟨w6.heap.size, 0, none⟩)),
    By.is (.int .u64 (f : Int)),
    By.is (.pointer (some ⟨w.heap.size, 0, none⟩)),
    By.is (.int .u64 (f : Int)),
    By.is (.bool false),
    By.is (.bool false),
    By.is (.bool false),
    By.is (.pointer (some ⟨w6.heap.size, 1, none⟩)),
    By.is (.int .u64 (t : Int)),
    By.is (.pointer (some ⟨w.heap.size, 1, none⟩)),
    By.is (.int .u64 (t : Int)),
    By.is (.bool false),
    By.is (.bool false),
    By.is (.bool false),
    By.is (.pointer (some ⟨w6.heap.size, 2, none⟩)),
    By.is (.int .u64 (s : Int)),
    By.is (.pointer (some ⟨w.heap.size, 2, none⟩)),
    By.is (.int .u64 (s : Int)),
    By.is (.bool false),
    By.is (.bool false),
    By.is (.bool false),
    By.is (wv f t s k),
    By.is (.int .u64 (m : Int)),
    By.is (.bool sn),
    By.is (wv f t s l),
    By.is (.int .u64 (m : Int)),
    By.is (.bool sn),
    By.is (.bool false),
    By.is (.bool false),
    By.is (.bool false),
    By.is (.int .u64 (n : Int)),
    By.is (.pointer (some ⟨w.heap.size, 3, none⟩)),
    By.is (.int .u64 (l : Int)),
    By.is (.bool (decide (n < l))),
    By.is (.bool (decide (n < l))),
    By.when (n < l) (By.is (.int .i64 (e5 : Int))),
    By.when (n < l) (By.is (.int .i64 (e1 : Int))),
    By.when (n < l) (By.is (.bool false)),
    By.is (.bool false),
    By.is (.bool false)]
    (Ev.masks _ []) (by kernel_rfl) rfl Grew.refl Grew.trans ⟨?_, ?_, ?_, ?_, ?_, ?_, ?_, ?_, ?_, ?_, ?_, ?_, ?_, ?_, ?_, ?_, ?_, ?_, ?_, ?_, ?_, ?_, ?_, ?_, ?_, ?_, ?_, ?_, ?_, ?_, ?_, ?_, ?_, ?_, ?_, ?_, ?_, ?_, ?_, ?_, ?_, ?_, ?_, ?_, ?_, trivial⟩ ?_
  · intro a w ht hs hg -- 85
    have h17 := By.same_get hs 17 (by decide) (by kernel_rfl)
    refine By.yes rfl ?_
    clear hs hg
    go_simp
    exact ⟨_, rfl, Grew.refl _, rfl⟩
  · intro a w ht hs hg -- 86
    have h85 : a.tmps.getD 85 undef = _ := By.given_get hg 0 rfl rfl (by kernel_rfl)
    refine By.yes rfl ?_
    clear hs hg
    have hc := (Row.below (w := V7.drew) RXV7.out ht RXV7.out.lt).cell (i := 3) rfl
    go_simp
    exact ⟨_, rfl, Grew.refl _, rfl⟩
  · intro a w ht hs hg -- 87
    have h3 := By.same_get hs 3 (by decide) (by kernel_rfl)
    refine By.yes rfl ?_
    clear hs hg
    go_simp
    exact ⟨_, rfl, Grew.refl _, rfl⟩
  · intro a w ht hs hg -- 88
    have h86 : a.tmps.getD 86 undef = _ := By.given_get hg 1 rfl rfl (by kernel_rfl)
    have h87 : a.tmps.getD 87 undef = _ := By.given_get hg 2 rfl rfl (by kernel_rfl)
    refine By.yes rfl ?_
    clear hs hg
    go_simp
    exact ⟨_, rfl, Grew.refl _, congrArg Value.bool (by simp)⟩
  · intro a w ht hs hg -- 89
    have h88 : a.tmps.getD 88 undef = _ := By.given_get hg 3 rfl rfl (by kernel_rfl)
    refine By.yes rfl ?_
    clear hs hg
    go_simp
    exact ⟨_, rfl, Grew.refl _, rfl⟩
  · intro a w ht hs hg -- 90
    have h17 := By.same_get hs 17 (by decide) (by kernel_rfl)
    have hg89 := By.given_get hg 4 rfl rfl (by kernel_rfl)
    refine By.yes (By.want_yes rfl rfl hg89) ?_
    clear hg89
    clear hs hg
    go_simp
    exact ⟨_, rfl, Grew.refl _, rfl⟩
  · intro a w ht hs hg -- 91
    have h90 : a.tmps.getD 90 undef = _ := By.given_get hg 5 rfl rfl (by kernel_rfl)
    have hg89 := By.given_get hg 4 rfl rfl (by kernel_rfl)
    refine By.yes (By.want_yes rfl rfl hg89) ?_
    clear hg89
    clear hs hg
    have hc := (Row.below (w := V7.drew) RXV7.out ht RXV7.out.lt).cell (i := 0) rfl
    go_simp
    exact ⟨_, rfl, Grew.refl _, rfl⟩
  · intro a w ht hs hg -- 92
    have h4 := By.same_get hs 4 (by decide) (by kernel_rfl)
    have hg89 := By.given_get hg 4 rfl rfl (by kernel_rfl)
    refine By.yes (By.want_yes rfl rfl hg89) ?_
    clear hg89
    clear hs hg
    go_simp
    exact ⟨_, rfl, Grew.refl _, rfl⟩
  · intro a w ht hs hg -- 93
    have h92 : a.tmps.getD 92 undef = _ := By.given_get hg 7 rfl rfl (by kernel_rfl)
    have hg89 := By.given_get hg 4 rfl rfl (by kernel_rfl)
    refine By.yes (By.want_yes rfl rfl hg89) ?_
    clear hg89
    clear hs hg
    have hc := (Row.below (w := V7.drew) R0V7.out ht R0V7.out.lt).cell (i := 0) rfl
    go_simp
    exact ⟨_, rfl, Grew.refl _, rfl⟩
  · intro a w ht hs hg -- 94
    have h91 : a.tmps.getD 91 undef = _ := By.given_get hg 6 rfl rfl (by kernel_rfl)
    have h93 : a.tmps.getD 93 undef = _ := By.given_get hg 8 rfl rfl (by kernel_rfl)
    have hg89 := By.given_get hg 4 rfl rfl (by kernel_rfl)
    refine By.yes (By.want_yes rfl rfl hg89) ?_
    clear hg89
    clear hs hg
    go_simp
    exact ⟨_, rfl, Grew.refl _, congrArg Value.bool (by simp)⟩
  · intro a w ht hs hg -- 95
    have h89 : a.tmps.getD 89 undef = _ := By.given_get hg 4 rfl rfl (by kernel_rfl)
    have h94 : a.tmps.getD 94 undef = _ := By.given_get hg 9 rfl rfl (by kernel_rfl)
    refine By.yes rfl ?_
    clear hs hg
    go_simp
    exact ⟨_, rfl, Grew.refl _, rfl⟩
  · intro a w ht hs hg -- 96
    have h95 : a.tmps.getD 95 undef = _ := By.given_get hg 10 rfl rfl (by kernel_rfl)
    refine By.yes rfl ?_
    clear hs hg
    go_simp
    exact ⟨_, rfl, Grew.refl _, rfl⟩
  · intro a w ht hs hg -- 97
    have h17 := By.same_get hs 17 (by decide) (by kernel_rfl)
    have hg96 := By.given_get hg 11 rfl rfl (by kernel_rfl)
    refine By.yes (By.want_yes rfl rfl hg96) ?_
    clear hg96
    clear hs hg
    go_simp
    exact ⟨_, rfl, Grew.refl _, rfl⟩
  · intro a w ht hs hg -- 98
    have h97 : a.tmps.getD 97 undef = _ := By.given_get hg 12 rfl rfl (by kernel_rfl)
    have hg96 := By.given_get hg 11 rfl rfl (by kernel_rfl)
    refine By.yes (By.want_yes rfl rfl hg96) ?_
    clear hg96
    clear hs hg
    have hc := (Row.below (w := V7.drew) RXV7.out ht RXV7.out.lt).cell (i := 1) rfl
    go_simp
    exact ⟨_, rfl, Grew.refl _, rfl⟩
  · intro a w ht hs hg -- 99
    have h4 := By.same_get hs 4 (by decide) (by kernel_rfl)
    have hg96 := By.given_get hg 11 rfl rfl (by kernel_rfl)
    refine By.yes (By.want_yes rfl rfl hg96) ?_
    clear hg96
    clear hs hg
    go_simp
    exact ⟨_, rfl, Grew.refl _, rfl⟩
  · intro a w ht hs hg -- 100
    have h99 : a.tmps.getD 99 undef = _ := By.given_get hg 14 rfl rfl (by kernel_rfl)
    have hg96 := By.given_get hg 11 rfl rfl (by kernel_rfl)
    refine By.yes (By.want_yes rfl rfl hg96) ?_
    clear hg96
    clear hs hg
    have hc := (Row.below (w := V7.drew) R0V7.out ht R0V7.out.lt).cell (i := 1) rfl
    go_simp
    exact ⟨_, rfl, Grew.refl _, rfl⟩
  · intro a w ht hs hg -- 101
    have h98 : a.tmps.getD 98 undef = _ := By.given_get hg 13 rfl rfl (by kernel_rfl)
    have h100 : a.tmps.getD 100 undef = _ := By.given_get hg 15 rfl rfl (by kernel_rfl)
    have hg96 := By.given_get hg 11 rfl rfl (by kernel_rfl)
    refine By.yes (By.want_yes rfl rfl hg96) ?_
    clear hg96
    clear hs hg
    go_simp
    exact ⟨_, rfl, Grew.refl _, congrArg Value.bool (by simp)⟩
  · intro a w ht hs hg -- 102
    have h96 : a.tmps.getD 96 undef = _ := By.given_get hg 11 rfl rfl (by kernel_rfl)
    have h101 : a.tmps.getD 101 undef = _ := By.given_get hg 16 rfl rfl (by kernel_rfl)
    refine By.yes rfl ?_
    clear hs hg
    go_simp
    exact ⟨_, rfl, Grew.refl _, rfl⟩
  · intro a w ht hs hg -- 103
    have h102 : a.tmps.getD 102 undef = _ := By.given_get hg 17 rfl rfl (by kernel_rfl)
    refine By.yes rfl ?_
    clear hs hg
    go_simp
    exact ⟨_, rfl, Grew.refl _, rfl⟩
  · intro a w ht hs hg -- 104
    have h17 := By.same_get hs 17 (by decide) (by kernel_rfl)
    have hg103 := By.given_get hg 18 rfl rfl (by kernel_rfl)
    refine By.yes (By.want_yes rfl rfl hg103) ?_
    clear hg103
    clear hs hg
    go_simp
    exact ⟨_, rfl, Grew.refl _, rfl⟩
  · intro a w ht hs hg -- 105
    have h104 : a.tmps.getD 104 undef = _ := By.given_get hg 19 rfl rfl (by kernel_rfl)
    have hg103 := By.given_get hg 18 rfl rfl (by kernel_rfl)
    refine By.yes (By.want_yes rfl rfl hg103) ?_
    clear hg103
    clear hs hg
    have hc := (Row.below (w := V7.drew) RXV7.out ht RXV7.out.lt).cell (i := 2) rfl
    go_simp
    exact ⟨_, rfl, Grew.refl _, rfl⟩
  · intro a w ht hs hg -- 106
    have h4 := By.same_get hs 4 (by decide) (by kernel_rfl)
    have hg103 := By.given_get hg 18 rfl rfl (by kernel_rfl)
    refine By.yes (By.want_yes rfl rfl hg103) ?_
    clear hg103
    clear hs hg
    go_simp
    exact ⟨_, rfl, Grew.refl _, rfl⟩
  · intro a w ht hs hg -- 107
    have h106 : a.tmps.getD 106 undef = _ := By.given_get hg 21 rfl rfl (by kernel_rfl)
    have hg103 := By.given_get hg 18 rfl rfl (by kernel_rfl)
    refine By.yes (By.want_yes rfl rfl hg103) ?_
    clear hg103
    clear hs hg
    have hc := (Row.below (w := V7.drew) R0V7.out ht R0V7.out.lt).cell (i := 2) rfl
    go_simp
    exact ⟨_, rfl, Grew.refl _, rfl⟩
  · intro a w ht hs hg -- 108
    have h105 : a.tmps.getD 105 undef = _ := By.given_get hg 20 rfl rfl (by kernel_rfl)
    have h107 : a.tmps.getD 107 undef = _ := By.given_get hg 22 rfl rfl (by kernel_rfl)
    have hg103 := By.given_get hg 18 rfl rfl (by kernel_rfl)
    refine By.yes (By.want_yes rfl rfl hg103) ?_
    clear hg103
    clear hs hg
    go_simp
    exact ⟨_, rfl, Grew.refl _, congrArg Value.bool (by simp)⟩
  · intro a w ht hs hg -- 109
    have h103 : a.tmps.getD 103 undef = _ := By.given_get hg 18 rfl rfl (by kernel_rfl)
    have h108 : a.tmps.getD 108 undef = _ := By.given_get hg 23 rfl rfl (by kernel_rfl)
    refine By.yes rfl ?_
    clear hs hg
    go_simp
    exact ⟨_, rfl, Grew.refl _, rfl⟩
  · intro a w ht hs hg -- 110
    have h109 : a.tmps.getD 109 undef = _ := By.given_get hg 24 rfl rfl (by kernel_rfl)
    refine By.yes rfl ?_
    clear hs hg
    go_simp
    exact ⟨_, rfl, Grew.refl _, rfl⟩
  · intro a w ht hs hg -- 111
    have h17 := By.same_get hs 17 (by decide) (by kernel_rfl)
    have hg110 := By.given_get hg 25 rfl rfl (by kernel_rfl)
    refine By.yes (By.want_yes rfl rfl hg110) ?_
    clear hg110
    clear hs hg
    refine wp_loadRow 35 _ rfl h17 (Row.below (w := V7.drew) RXV7.out ht RXV7.out.lt) Try.underlying35 rfl (by kernel_rfl) rfl ?_
    exact ⟨_, rfl, Grew.refl _, rfl⟩
  · intro a w ht hs hg -- 112
    have h2 := By.same_get hs 2 (by decide) (by kernel_rfl)
    have hg110 := By.given_get hg 25 rfl rfl (by kernel_rfl)
    refine By.yes (By.want_yes rfl rfl hg110) ?_
    clear hg110
    clear hs hg
    go_simp
    exact ⟨_, rfl, Grew.refl _, rfl⟩
  · intro a w ht hs hg -- 113
    have h111 : a.tmps.getD 111 undef = _ := By.given_get hg 26 rfl rfl (by kernel_rfl)
    have h112 : a.tmps.getD 112 undef = _ := By.given_get hg 27 rfl rfl (by kernel_rfl)
    have hg110 := By.given_get hg 25 rfl rfl (by kernel_rfl)
    refine By.yes (By.want_yes rfl rfl hg110) ?_
    clear hg110
    clear hs hg
    go_simp
    refine (HS1.out _).mono ?_
    rintro r w' ⟨rfl, hb⟩
    exact ⟨_, rfl, hb, rfl⟩
  · intro a w ht hs hg -- 114
    have h4 := By.same_get hs 4 (by decide) (by kernel_rfl)
    have hg110 := By.given_get hg 25 rfl rfl (by kernel_rfl)
    refine By.yes (By.want_yes rfl rfl hg110) ?_
    clear hg110
    clear hs hg
    refine wp_loadRow 35 _ rfl h4 (Row.below (w := V7.drew) R0V7.out ht R0V7.out.lt) Try.underlying35 rfl (by kernel_rfl) rfl ?_
    exact ⟨_, rfl, Grew.refl _, rfl⟩
  · intro a w ht hs hg -- 115
    have h2 := By.same_get hs 2 (by decide) (by kernel_rfl)
    have hg110 := By.given_get hg 25 rfl rfl (by kernel_rfl)
    refine By.yes (By.want_yes rfl rfl hg110) ?_
    clear hg110
    clear hs hg
    go_simp
    exact ⟨_, rfl, Grew.refl _, rfl⟩
  · intro a w ht hs hg -- 116
    have h114 : a.tmps.getD 114 undef = _ := By.given_get hg 29 rfl rfl (by kernel_rfl)
    have h115 : a.tmps.getD 115 undef = _ := By.given_get hg 30 rfl rfl (by kernel_rfl)
    have hg110 := By.given_get hg 25 rfl rfl (by kernel_rfl)
    refine By.yes (By.want_yes rfl rfl hg110) ?_
    clear hg110
    clear hs hg
    go_simp
    refine (HS0.out _).mono ?_
    rintro r w' ⟨rfl, hb⟩
    exact ⟨_, rfl, hb, rfl⟩
  · intro a w ht hs hg -- 117
    have h113 : a.tmps.getD 113 undef = _ := By.given_get hg 28 rfl rfl (by kernel_rfl)
    have h116 : a.tmps.getD 116 undef = _ := By.given_get hg 31 rfl rfl (by kernel_rfl)
    have hg110 := By.given_get hg 25 rfl rfl (by kernel_rfl)
    refine By.yes (By.want_yes rfl rfl hg110) ?_
    clear hg110
    clear hs hg
    go_simp
    exact ⟨_, rfl, Grew.refl _, congrArg Value.bool (by simp)⟩
  · intro a w ht hs hg -- 118
    have h110 : a.tmps.getD 110 undef = _ := By.given_get hg 25 rfl rfl (by kernel_rfl)
    have h117 : a.tmps.getD 117 undef = _ := By.given_get hg 32 rfl rfl (by kernel_rfl)
    refine By.yes rfl ?_
    clear hs hg
    go_simp
    exact ⟨_, rfl, Grew.refl _, rfl⟩
  · intro a w ht hs hg -- 119
    have h118 : a.tmps.getD 118 undef = _ := By.given_get hg 33 rfl rfl (by kernel_rfl)
    refine By.yes rfl ?_
    clear hs hg
    go_simp
    exact ⟨_, rfl, Grew.refl _, rfl⟩
  · intro a w ht hs hg -- 120
    have h1 := By.same_get hs 1 (by decide) (by kernel_rfl)
    have hg119 := By.given_get hg 34 rfl rfl (by kernel_rfl)
    refine By.yes (By.want_yes rfl rfl hg119) ?_
    clear hg119
    clear hs hg
    go_simp
    exact ⟨_, rfl, Grew.refl _, rfl⟩
  · intro a w ht hs hg -- 121
    have h4 := By.same_get hs 4 (by decide) (by kernel_rfl)
    have hg119 := By.given_get hg 34 rfl rfl (by kernel_rfl)
    refine By.yes (By.want_yes rfl rfl hg119) ?_
    clear hg119
    clear hs hg
    go_simp
    exact ⟨_, rfl, Grew.refl _, rfl⟩
  · intro a w ht hs hg -- 122
    have h121 : a.tmps.getD 121 undef = _ := By.given_get hg 36 rfl rfl (by kernel_rfl)
    have hg119 := By.given_get hg 34 rfl rfl (by kernel_rfl)
    refine By.yes (By.want_yes rfl rfl hg119) ?_
    clear hg119
    clear hs hg
    have hc := (Row.below (w := V7.drew) R0V7.out ht R0V7.out.lt).cell (i := 3) rfl
    go_simp
    exact ⟨_, rfl, Grew.refl _, rfl⟩
  · intro a w ht hs hg -- 123
    have h120 : a.tmps.getD 120 undef = _ := By.given_get hg 35 rfl rfl (by kernel_rfl)
    have h122 : a.tmps.getD 122 undef = _ := By.given_get hg 37 rfl rfl (by kernel_rfl)
    have hg119 := By.given_get hg 34 rfl rfl (by kernel_rfl)
    refine By.yes (By.want_yes rfl rfl hg119) ?_
    clear hg119
    clear hs hg
    go_simp
    exact ⟨_, rfl, Grew.refl _, congrArg Value.bool (by first | rfl | (rw [Bool.eq_iff_iff]; simp; done) | (rw [Bool.eq_iff_iff]; simp; omega))⟩
  · intro a w ht hs hg -- 124
    have h123 : a.tmps.getD 123 undef = _ := By.given_get hg 38 rfl rfl (by kernel_rfl)
    have hg119 := By.given_get hg 34 rfl rfl (by kernel_rfl)
    refine By.yes (By.want_yes rfl rfl hg119) ?_
    clear hg119
    clear hs hg
    go_simp
    exact ⟨_, rfl, Grew.refl _, rfl⟩
  · intro a w ht hs hg -- 125
    have h20 := By.same_get hs 20 (by decide) (by kernel_rfl)
    have hg124 := By.given_get hg 39 rfl rfl (by kernel_rfl)
    refine By.guarded (c := n < l) ((By.want_dec rfl rfl hg124).trans (by simp)) fun hc => ?_
    clear hg124
    clear hs hg
    go_simp
    exact ⟨_, rfl, Grew.refl _, rfl⟩
  · intro a w ht hs hg -- 126
    have h10 := By.same_get hs 10 (by decide) (by kernel_rfl)
    have hg124 := By.given_get hg 39 rfl rfl (by kernel_rfl)
    refine By.guarded (c := n < l) ((By.want_dec rfl rfl hg124).trans (by simp)) fun hc => ?_
    clear hg124
    clear hs hg
    go_simp
    exact ⟨_, rfl, Grew.refl _, rfl⟩
  · intro a w ht hs hg -- 127
    have hg124 := By.given_get hg 39 rfl rfl (by kernel_rfl)
    refine By.guarded (c := n < l) ((By.want_dec rfl rfl hg124).trans (by simp)) fun hc => ?_
    clear hg124
    have h125 : a.tmps.getD 125 undef = _ := By.when_get hc (By.given_get hg 40 rfl rfl (by kernel_rfl))
    have h126 : a.tmps.getD 126 undef = _ := By.when_get hc (By.given_get hg 41 rfl rfl (by kernel_rfl))
    clear hs hg
    have hj := HJ.out hc
    go_simp
    exact ⟨_, rfl, Grew.refl _, congrArg Value.bool (by simp [hj])⟩
  · intro a w ht hs hg -- 128
    have h124 : a.tmps.getD 124 undef = _ := By.given_get hg 39 rfl rfl (by kernel_rfl)
    have hg119 := By.given_get hg 34 rfl rfl (by kernel_rfl)
    refine By.yes (By.want_yes rfl rfl hg119) ?_
    clear hg119
    have h127 := By.given_get hg 42 rfl rfl (by kernel_rfl)
    clear hs hg
    by_cases hc : n < l
    · have h127' := By.when_get hc h127
      have h127 : a.tmps.getD 127 undef = _ := h127'
      clear h127'
      go_simp
      exact ⟨_, rfl, Grew.refl _, congrArg Value.bool (by simp [hc])⟩
    · clear h127
      go_simp
      exact ⟨_, rfl, Grew.refl _, congrArg Value.bool (by simp [hc])⟩
  · intro a w ht hs hg -- 129
    have h119 : a.tmps.getD 119 undef = _ := By.given_get hg 34 rfl rfl (by kernel_rfl)
    have h128 : a.tmps.getD 128 undef = _ := By.given_get hg 43 rfl rfl (by kernel_rfl)
    refine By.yes rfl ?_
    clear hs hg
    go_simp
    exact ⟨_, rfl, Grew.refl _, rfl⟩
  refine By.ends_is (By.ends_is (By.ends_is (By.ends_is (By.ends_is (By.ends_is (By.ends_is (By.ends_is (By.ends_is (By.ends_is (By.ends_is (By.ends_is (By.ends_is (By.ends_is (By.ends_is (By.ends_is (By.ends_is (By.ends_is (By.ends_is (By.ends_is (By.ends_is (By.ends_is (By.ends_is (By.ends_is (By.ends_is (By.ends_is (By.ends_is (By.ends_is (By.ends_is (By.ends_is (By.ends_is (By.ends_is (By.ends_is (By.ends_is (By.ends_is (By.ends_is (By.ends_is (By.ends_is (By.ends_is (By.ends_is (By.ends_skip fun v125 => (By.ends_skip fun v126 => (By.ends_skip fun v127 => (By.ends_is (By.ends_is (By.ends_nil fun w8 hw8 => ?_)))))))))))))))))))))))))))))))))))))))))))))
  simp only [Act.put, List.setIfInBounds_toArray, List.set_cons_succ, List.set_cons_zero]
  have HB8 := Lib.hid (nextB HV7.out (Nat.le_refl _) (show Below V7.heap.size V7 w8 from ⟨hw8.os, hw8.tape, hw8.output, hw8.size, hw8.block⟩))
  have R08 := Lib.hid (Row.below (w := V7.drew) R0V7.out hw8 R0V7.out.lt)
  have RA8 := Lib.hid (Row.below (w := V7.drew) RAV7.out hw8 RAV7.out.lt)
  have RY8 := Lib.hid (Row.below (w := V7.drew) RYV7.out hw8 RYV7.out.lt)
  clear hw8
  obtain ⟨o0, o1, o2, o3⟩ := quad R08.out
  obtain ⟨o4, o5, o6, o7⟩ := quad RY8.out
  have o8 := frozen_row RY8.out 3
  have n1 : w.heap.size ≠ w7.heap.size := Nat.ne_of_lt R0_7.out.lt
  have n2 : w2.heap.size ≠ w7.heap.size := Nat.ne_of_lt RA_7.out.lt
  have RYs := Lib.hid (show Row (w8.setCell ⟨w7.heap.size, 3, none⟩ (.int .u64 (l : Int))) w7.heap.size (wl y0 y1 y2 l) 35 from RY8.out.set 3 _)
  have R0s := Lib.hid (show Row (w8.setCell ⟨w7.heap.size, 3, none⟩ (.int .u64 (l : Int))) w.heap.size (wl f t s l) 35 from R08.out.other _ _ n1)
  have RAs := Lib.hid (show Row (w8.setCell ⟨w7.heap.size, 3, none⟩ (.int .u64 (l : Int))) w2.heap.size (wl a0 a1 a2 a3) 35 from RA8.out.other _ _ n2)
  obtain ⟨g0, g1, g2, g3⟩ := quad RYs.out
  obtain ⟨g4, g5, g6, g7⟩ := quad R0s.out
  obtain ⟨g8, g9, g10, g11⟩ := quad RAs.out
  have HBs := Lib.hid (show Below w.heap.size w (w8.setCell ⟨w7.heap.size, 3, none⟩ (.int .u64 (l : Int))) from HB8.out.setCell (by simp; omega) _)
  go_wp2
  go_ret
  exact ⟨rfl, HBs.out⟩
end Go.Proofs.Ytnpmlbpnlflkkaa.windowCommutes
