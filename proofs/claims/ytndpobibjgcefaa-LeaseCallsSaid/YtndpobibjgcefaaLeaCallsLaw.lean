/- Counters are checked, taken, leased, encoded and read as the document says: 'drawbridgelaw06.LeaseCalls'. -/
import Derived.Test.YtndpobibjgcefaaLeaRef2
import Derived.Test.YtndpobibjgcefaaKit
import Derived.Test.YtndpobibjgcefaaCells
import Derived.Test.YtndpobibjgcefaaEqArr
import Derived.Test.YtndpobibjgcefaaBs
namespace Go.Proofs.Ytndpobibjgcefaa.leaseCalls
open Go.ChangeShapes Go.WideShapes Go.ChangeAt Go.RowKit Lea

theorem eq12 (x y : List UInt8) (hx : x.length = 12) (hy : y.length = 12) (w : World) : (Op.equal 34 (arr8 x) (arr8 y)).run Try.prog w = .ok (decide (x = y)) w :=
  run_eql_arr8 (P := Try.prog) Try.underlying34 Try.underlying5 (by kernel_rfl) x y hx hy w
theorem cl_one (n l : Nat) : ∀ v ∈ cl n l, v.oneCell' = true := by
  intro v hv
  simp only [cl, List.mem_cons, List.not_mem_nil, or_false] at hv
  rcases hv with rfl | rfl <;> rfl
theorem Left_all (n l : Nat) (hl : l < 2 ^ 64) (w : World) : Calls Try.prog 12 #[cv n l] w fun e w' => e = .returned (.int .u64 (lf n l : Nat)) ∧ Below w.heap.size w w' := by
  unfold lf
  by_cases h : Ok n l
  · rw [if_pos h]; exact (Left_ok n l w h).mono fun e w' ⟨h1, h2⟩ => ⟨h1, by rw [h2]; exact ((Below.refl _ w).alloc (Nat.le_refl _) _).alloc (by simp) _⟩
  · rw [if_neg h]; exact (Left_no n l w hl h).mono fun e w' ⟨h1, h2⟩ => ⟨h1, by rw [h2]; exact ((Below.refl _ w).alloc (Nat.le_refl _) _).alloc (by simp) _⟩
theorem RLeft_all (n l : Nat) (hl : l < 2 ^ 64) (w : World) : Calls Try.prog 28 #[cv n l] w fun e w' => e = .returned (.int .u64 (lf n l : Nat)) ∧ Below w.heap.size w w' := by
  unfold lf
  by_cases h : Ok n l
  · rw [if_pos h]; exact RLeft_ok n l w h
  · rw [if_neg h]; exact RLeft_no n l w hl h
theorem own_setRow {w : World} {base k : Nat} {v : Value} {l : List UInt8} {cs : Array Value} (h : Own w base v l) (hk : k < base) : Own (w.setRow k cs) base v l := by
  refine ⟨h.1, ?_⟩
  rcases h.2 with h | ⟨g, cap, cur, e, hge, hgg, k1, k2, k3, k4⟩
  · exact .inl h
  · exact .inr ⟨g, cap, cur, e, hge, (setRow_other w k g cs (by omega)).trans hgg, k1, k2, k3, k4⟩
def byt (n l : Nat) : List UInt8 := if Ok n l then Oct.enc n ++ Oct.enc l else []
theorem Bytes_all (n l : Nat) (hl : l < 2 ^ 64) (w : World) : Calls Try.prog 17 #[cv n l] w fun e w' => ∃ A c, e = .returned (.tuple #[.slice A (byt n l).length c, .int .i64 (ck n l : Nat)]) ∧ Own w' w.heap.size (.slice A (byt n l).length c) (byt n l) ∧ Below w.heap.size w w' := by
  unfold byt ck
  by_cases h : Ok n l
  · simp only [if_pos h]
    refine (Bytes_ok n l w h).mono ?_
    rintro e w' ⟨v, rfl, ho, hb⟩
    obtain ⟨A, c, rfl⟩ := ho.shape
    exact ⟨A, c, rfl, ho, hb⟩
  · simp only [if_neg h]
    refine (Bytes_no n l w hl h).mono ?_
    rintro e w' ⟨rfl, hb⟩
    exact ⟨none, 0, rfl, Own.nil _ _, hb⟩
theorem RBytes_all (n l : Nat) (hl : l < 2 ^ 64) (w : World) : Calls Try.prog 18 #[cv n l] w fun e w' => ∃ A c, e = .returned (.tuple #[.slice A (byt n l).length c, .int .i64 (ck n l : Nat)]) ∧ Own w' w.heap.size (.slice A (byt n l).length c) (byt n l) ∧ Below w.heap.size w w' := by
  unfold byt ck
  by_cases h : Ok n l
  · simp only [if_pos h]
    refine (RBytes_ok n l w h).mono ?_
    rintro e w' ⟨v, rfl, ho, hb⟩
    obtain ⟨A, c, rfl⟩ := ho.shape
    exact ⟨A, c, rfl, ho, hb⟩
  · simp only [if_neg h]
    refine (RBytes_no n l w hl h).mono ?_
    rintro e w' ⟨rfl, hb⟩
    exact ⟨none, 0, rfl, Own.nil _ _, hb⟩

set_option maxRecDepth 8000 in
theorem long (cvv nv : Value) (by_ e : Int) (A : Option Addr) (c N : Nat) (l : List UInt8) (hl : nv = arr8 l) (cn cm : Nat) (hc : cvv = cv cn cm) (w : World) (h : 100 < N) : Calls Try.prog 4 #[cvv, .int .u64 by_, .int .u32 e, nv, .slice A N c] w fun r w' => r = .returned (.bool true) ∧ Below w.heap.size w w' := by
  have h' : (100 : Int) < (N : Int) := by omega
  subst hl
  subst hc
  unfold arr8
  go_enter Try.func4, Try.ntmps4
  go_wp2_with fail
  refine (lives_any _).mono ?_
  rintro r w1 ⟨rfl, hb1⟩
  have HB1 := Lib.hid (nextB (((Below.refl w.heap.size w).alloc (Nat.le_refl _) _).alloc (by simp <;> omega) _) (Nat.le_refl _) hb1)
  clear hb1
  go_wp2
  go_ret
  exact ⟨rfl, HB1.out⟩

set_option maxRecDepth 8000 in
set_option maxHeartbeats 40000000 in
theorem walk (n l by_ e : Nat) (x12 : List UInt8) (hx12 : x12.length = 12) (A : Option Addr) (c : Nat) (b : List UInt8) (w : World) (hb : Bs w w.heap.size (.slice A b.length c) b) (hb1 : b.length ≤ 100) (hl : l < 2 ^ 64) :
    Calls Try.prog 4 #[cv n l, .int .u64 (by_ : Int), .int .u32 (e : Int), arr8 x12, .slice A b.length c] w fun r w' => r = .returned (.bool true) ∧ Below w.heap.size w w' := by
  have h' : ¬ (100 : Int) < (b.length : Int) := by omega
  have HL := Lib.hid hx12
  have HLm := Lib.hid (show (x12.map bv).length = 12 by rw [List.length_map]; exact hx12)
  have HBb := Lib.hid hb
  have HBl := Lib.hid (show b.length ≤ 35184372088832 by omega)
  have HBl2 := Lib.hid (show b.length ≤ 140737488355327 by omega)
  have hTk := fun W => Take_all n l hl W
  have hRTk := fun W => RTake_all n l hl W
  have hLs := fun W => Lease_all n l by_ hl W
  have hRLs := fun W => RLease_all n l by_ hl W
  have hRc := fun W => Recover_all n l hl W
  have hRRc := fun W => RRecover_all n l hl W
  have hBy := fun W => Bytes_all n l hl W
  have hRBy := fun W => RBytes_all n l hl W
  have hCk := fun W => Check_all n l hl W
  have hRCk := fun W => RCheck_all n l hl W
  have hLf := fun W => Left_all n l hl W
  have hRLf := fun W => RLeft_all n l hl W
  obtain ⟨ta, t1, t2, te, htk⟩ : ∃ p q r s, tk n l = (p, q, r, s) := ⟨_, _, _, _, rfl⟩
  obtain ⟨s1, s2, se, hls⟩ : ∃ p q r, ls n l by_ = (p, q, r) := ⟨_, _, _, rfl⟩
  obtain ⟨r1, r2, re, hrc⟩ : ∃ p q r, rc n l = (p, q, r) := ⟨_, _, _, rfl⟩
  obtain ⟨d1, d2, de, hrd⟩ : ∃ p q r, rdC b = (p, q, r) := ⟨_, _, _, rfl⟩
  obtain ⟨BY, hBY⟩ : ∃ x, byt n l = x := ⟨_, rfl⟩
  obtain ⟨CK, hCK⟩ : ∃ x, ck n l = x := ⟨_, rfl⟩
  obtain ⟨LF, hLF⟩ : ∃ x, lf n l = x := ⟨_, rfl⟩
  obtain ⟨SP, hSP⟩ : ∃ x, Oct.be (x12.take 4) = x := ⟨_, rfl⟩
  obtain ⟨SQ, hSQ⟩ : ∃ x, Oct.be (x12.drop 4) = x := ⟨_, rfl⟩
  simp only [htk] at hTk hRTk
  simp only [hls] at hLs hRLs
  simp only [hrc] at hRc hRRc
  simp only [hBY, hCK] at hBy hRBy hCk hRCk
  simp only [hLF] at hLf hRLf
  have HTk := Lib.hid hTk
  have HRTk := Lib.hid hRTk
  have HLs := Lib.hid hLs
  have HRLs := Lib.hid hRLs
  have HRc := Lib.hid hRc
  have HRRc := Lib.hid hRRc
  have HBy := Lib.hid hBy
  have HRBy := Lib.hid hRBy
  have HCk := Lib.hid hCk
  have HRCk := Lib.hid hRCk
  have HLf := Lib.hid hLf
  have HRLf := Lib.hid hRLf
  have HRd := Lib.hid hrd
  have HSP := Lib.hid hSP
  have HSQ := Lib.hid hSQ
  clear hTk hRTk hLs hRLs hRc hRRc hBy hRBy hCk hRCk hLf hRLf htk hls hrc hrd hBY hCK hLF hSP hSQ hx12 hb hb1 hl
  unfold arr8
  go_enter Try.func4, Try.ntmps4
  go_wp2_with fail
  refine (lives_any _).mono ?_
  rintro r w1 ⟨rfl, hb1⟩
  have HB1 := Lib.hid (nextB (((Below.refl w.heap.size w).alloc (Nat.le_refl _) _).alloc (by simp <;> omega) _) (Nat.le_refl _) hb1)
  have HC1 := Lib.hid (show Row w1 w.heap.size (cl n l) 24 from ((Row.new rfl rfl).alloc _).below hb1 (by simp <;> omega))
  have HN1 := Lib.hid (show Row w1 (w.heap.size + 1) (x12.map bv) 34 from (Row.new (by simp) rfl).below hb1 (by simp <;> omega))
  have hw1 : w.heap.size + 1 < w1.heap.size := HN1.out.lt
  clear hb1
  have qc0_1 := cells0 HC1.out
  have qc1_1 := cells1 HC1.out
  go_wp2_with fail
  refine (HTk.out _).mono ?_
  rintro r w2 ⟨rfl, hb2⟩
  have HB2 := Lib.hid (nextB HB1.out (Nat.le_refl _) hb2)
  have HC2 := Lib.hid (HC1.out.below hb2 HC1.out.lt)
  have HN2 := Lib.hid (HN1.out.below hb2 HN1.out.lt)
  have hw2 : w.heap.size + 1 < w2.heap.size := HN2.out.lt
  have qc0_2 := cells0 HC2.out
  have pc0_2 : ∀ o, (w2.alloc o).cell? ⟨w.heap.size, 0, none⟩ = _ := fun o => cells0 (HC2.out.alloc o)
  have qc1_2 := cells1 HC2.out
  have pc1_2 : ∀ o, (w2.alloc o).cell? ⟨w.heap.size, 1, none⟩ = _ := fun o => cells1 (HC2.out.alloc o)
  clear hb2 qc0_1 qc1_1
  go_wp2_with fail
  refine (HRTk.out _).mono ?_
  rintro r w3 ⟨rfl, hb3⟩
  have HB3 := Lib.hid (nextB (HB2.out.alloc (by omega) _) (Nat.le_refl _) hb3)
  have HC3 := Lib.hid ((HC2.out.alloc _).below hb3 (by simp <;> omega))
  have HN3 := Lib.hid ((HN2.out.alloc _).below hb3 (by simp <;> omega))
  have HA3 := Lib.hid (show Row w3 w2.heap.size (cl t1 t2) 24 from (Row.new (cs := cl t1 t2) (w := w2) rfl rfl).below hb3 (by simp <;> omega))
  have hw3 : w.heap.size + 1 < w3.heap.size := HN3.out.lt
  have hlA3 : w2.heap.size < w3.heap.size := HA3.out.lt
  have qc0_3 := cells0 HC3.out
  have pc0_3 : ∀ o, (w3.alloc o).cell? ⟨w.heap.size, 0, none⟩ = _ := fun o => cells0 (HC3.out.alloc o)
  have qc1_3 := cells1 HC3.out
  have pc1_3 : ∀ o, (w3.alloc o).cell? ⟨w.heap.size, 1, none⟩ = _ := fun o => cells1 (HC3.out.alloc o)
  clear hb3 qc0_2 qc1_2 pc0_2 pc1_2
  go_wp2_with fail
  refine (HLs.out _).mono ?_
  rintro r w4 ⟨rfl, hb4⟩
  have HB4 := Lib.hid (nextB (HB3.out.alloc (by omega) _) (Nat.le_refl _) hb4)
  have HC4 := Lib.hid ((HC3.out.alloc _).below hb4 (by simp <;> omega))
  have HN4 := Lib.hid ((HN3.out.alloc _).below hb4 (by simp <;> omega))
  have HA4 := Lib.hid ((HA3.out.alloc _).below hb4 (by simp <;> omega))
  have HD4 := Lib.hid (show Row w4 w3.heap.size (cl t1 t2) 24 from (Row.new (cs := cl t1 t2) (w := w3) rfl rfl).below hb4 (by simp <;> omega))
  have hw4 : w.heap.size + 1 < w4.heap.size := HN4.out.lt
  have hlA4 : w2.heap.size < w4.heap.size := HA4.out.lt
  have hlD4 : w3.heap.size < w4.heap.size := HD4.out.lt
  have qc0_4 := cells0 HC4.out
  have pc0_4 : ∀ o, (w4.alloc o).cell? ⟨w.heap.size, 0, none⟩ = _ := fun o => cells0 (HC4.out.alloc o)
  have qc1_4 := cells1 HC4.out
  have pc1_4 : ∀ o, (w4.alloc o).cell? ⟨w.heap.size, 1, none⟩ = _ := fun o => cells1 (HC4.out.alloc o)
  clear hb4 qc0_3 qc1_3 pc0_3 pc1_3
  go_wp2_with fail
  refine (HRLs.out _).mono ?_
  rintro r w5 ⟨rfl, hb5⟩
  have HB5 := Lib.hid (nextB (HB4.out.alloc (by omega) _) (Nat.le_refl _) hb5)
  have HC5 := Lib.hid ((HC4.out.alloc _).below hb5 (by simp <;> omega))
  have HN5 := Lib.hid ((HN4.out.alloc _).below hb5 (by simp <;> omega))
  have HA5 := Lib.hid ((HA4.out.alloc _).below hb5 (by simp <;> omega))
  have HD5 := Lib.hid ((HD4.out.alloc _).below hb5 (by simp <;> omega))
  have HE5 := Lib.hid (show Row w5 w4.heap.size (cl s1 s2) 24 from (Row.new (cs := cl s1 s2) (w := w4) rfl rfl).below hb5 (by simp <;> omega))
  have hw5 : w.heap.size + 1 < w5.heap.size := HN5.out.lt
  have hlA5 : w2.heap.size < w5.heap.size := HA5.out.lt
  have hlD5 : w3.heap.size < w5.heap.size := HD5.out.lt
  have hlE5 : w4.heap.size < w5.heap.size := HE5.out.lt
  have qc0_5 := cells0 HC5.out
  have pc0_5 : ∀ o, (w5.alloc o).cell? ⟨w.heap.size, 0, none⟩ = _ := fun o => cells0 (HC5.out.alloc o)
  have qc1_5 := cells1 HC5.out
  have pc1_5 : ∀ o, (w5.alloc o).cell? ⟨w.heap.size, 1, none⟩ = _ := fun o => cells1 (HC5.out.alloc o)
  clear hb5 qc0_4 qc1_4 pc0_4 pc1_4
  go_wp2_with fail
  refine (HRc.out _).mono ?_
  rintro r w6 ⟨rfl, hb6⟩
  have HB6 := Lib.hid (nextB (HB5.out.alloc (by omega) _) (Nat.le_refl _) hb6)
  have HC6 := Lib.hid ((HC5.out.alloc _).below hb6 (by simp <;> omega))
  have HN6 := Lib.hid ((HN5.out.alloc _).below hb6 (by simp <;> omega))
  have HA6 := Lib.hid ((HA5.out.alloc _).below hb6 (by simp <;> omega))
  have HD6 := Lib.hid ((HD5.out.alloc _).below hb6 (by simp <;> omega))
  have HE6 := Lib.hid ((HE5.out.alloc _).below hb6 (by simp <;> omega))
  have HF6 := Lib.hid (show Row w6 w5.heap.size (cl s1 s2) 24 from (Row.new (cs := cl s1 s2) (w := w5) rfl rfl).below hb6 (by simp <;> omega))
  have hw6 : w.heap.size + 1 < w6.heap.size := HN6.out.lt
  have hlA6 : w2.heap.size < w6.heap.size := HA6.out.lt
  have hlD6 : w3.heap.size < w6.heap.size := HD6.out.lt
  have hlE6 : w4.heap.size < w6.heap.size := HE6.out.lt
  have hlF6 : w5.heap.size < w6.heap.size := HF6.out.lt
  have qc0_6 := cells0 HC6.out
  have pc0_6 : ∀ o, (w6.alloc o).cell? ⟨w.heap.size, 0, none⟩ = _ := fun o => cells0 (HC6.out.alloc o)
  have qc1_6 := cells1 HC6.out
  have pc1_6 : ∀ o, (w6.alloc o).cell? ⟨w.heap.size, 1, none⟩ = _ := fun o => cells1 (HC6.out.alloc o)
  clear hb6 qc0_5 qc1_5 pc0_5 pc1_5
  go_wp2_with fail
  refine (HRRc.out _).mono ?_
  rintro r w7 ⟨rfl, hb7⟩
  have HB7 := Lib.hid (nextB (HB6.out.alloc (by omega) _) (Nat.le_refl _) hb7)
  have HC7 := Lib.hid ((HC6.out.alloc _).below hb7 (by simp <;> omega))
  have HN7 := Lib.hid ((HN6.out.alloc _).below hb7 (by simp <;> omega))
  have HA7 := Lib.hid ((HA6.out.alloc _).below hb7 (by simp <;> omega))
  have HD7 := Lib.hid ((HD6.out.alloc _).below hb7 (by simp <;> omega))
  have HE7 := Lib.hid ((HE6.out.alloc _).below hb7 (by simp <;> omega))
  have HF7 := Lib.hid ((HF6.out.alloc _).below hb7 (by simp <;> omega))
  have HI7 := Lib.hid (show Row w7 w6.heap.size (cl r1 r2) 24 from (Row.new (cs := cl r1 r2) (w := w6) rfl rfl).below hb7 (by simp <;> omega))
  have hw7 : w.heap.size + 1 < w7.heap.size := HN7.out.lt
  have hlA7 : w2.heap.size < w7.heap.size := HA7.out.lt
  have hlD7 : w3.heap.size < w7.heap.size := HD7.out.lt
  have hlE7 : w4.heap.size < w7.heap.size := HE7.out.lt
  have hlF7 : w5.heap.size < w7.heap.size := HF7.out.lt
  have hlI7 : w6.heap.size < w7.heap.size := HI7.out.lt
  have qc0_7 := cells0 HC7.out
  have pc0_7 : ∀ o, (w7.alloc o).cell? ⟨w.heap.size, 0, none⟩ = _ := fun o => cells0 (HC7.out.alloc o)
  have qc1_7 := cells1 HC7.out
  have pc1_7 : ∀ o, (w7.alloc o).cell? ⟨w.heap.size, 1, none⟩ = _ := fun o => cells1 (HC7.out.alloc o)
  clear hb7 qc0_6 qc1_6 pc0_6 pc1_6
  have pA0 : ∀ o, (w7.alloc o).cell? ⟨w2.heap.size, 0, none⟩ = _ := fun o => cells0 (HA7.out.alloc o)
  have pA1 : ∀ o, (w7.alloc o).cell? ⟨w2.heap.size, 1, none⟩ = _ := fun o => cells1 (HA7.out.alloc o)
  have pD0 : ∀ o, (w7.alloc o).cell? ⟨w3.heap.size, 0, none⟩ = _ := fun o => cells0 (HD7.out.alloc o)
  have pD1 : ∀ o, (w7.alloc o).cell? ⟨w3.heap.size, 1, none⟩ = _ := fun o => cells1 (HD7.out.alloc o)
  have pE0 : ∀ o, (w7.alloc o).cell? ⟨w4.heap.size, 0, none⟩ = _ := fun o => cells0 (HE7.out.alloc o)
  have pE1 : ∀ o, (w7.alloc o).cell? ⟨w4.heap.size, 1, none⟩ = _ := fun o => cells1 (HE7.out.alloc o)
  have pF0 : ∀ o, (w7.alloc o).cell? ⟨w5.heap.size, 0, none⟩ = _ := fun o => cells0 (HF7.out.alloc o)
  have pF1 : ∀ o, (w7.alloc o).cell? ⟨w5.heap.size, 1, none⟩ = _ := fun o => cells1 (HF7.out.alloc o)
  have pI0 : ∀ o, (w7.alloc o).cell? ⟨w6.heap.size, 0, none⟩ = _ := fun o => cells0 (HI7.out.alloc o)
  have pI1 : ∀ o, (w7.alloc o).cell? ⟨w6.heap.size, 1, none⟩ = _ := fun o => cells1 (HI7.out.alloc o)
  go_wp2_with fail
  refine (HBy.out _).mono ?_
  rintro r w8 ⟨Au, cu, rfl, hu, hb8⟩
  have HB8 := Lib.hid (nextB (HB7.out.alloc (by omega) _) (Nat.le_refl _) hb8)
  have HC8 := Lib.hid ((HC7.out.alloc _).below hb8 (by simp <;> omega))
  have HN8 := Lib.hid ((HN7.out.alloc _).below hb8 (by simp <;> omega))
  have HE8 := Lib.hid ((HE7.out.alloc _).below hb8 (by simp <;> omega))
  have HF8 := Lib.hid ((HF7.out.alloc _).below hb8 (by simp <;> omega))
  have HU8 := Lib.hid (show Own w8 w7.heap.size _ BY from hu.less (by simp))
  have hs8 := hb8.size
  have qc0_8 := cells0 HC8.out
  have qc1_8 := cells1 HC8.out
  clear hb8 hu pA0 pA1 pD0 pD1 pE0 pE1 pF0 pF1 pI0 pI1 qc0_7 qc1_7 pc0_7 pc1_7
  have h78 : w7.heap.size ≤ w8.heap.size := by simp at hs8; omega
  clear hs8
  go_wp2_with fail
  refine (HRBy.out _).mono ?_
  rintro r w9 ⟨Av, cw, rfl, hv, hb9⟩
  have HB9 := Lib.hid (nextB HB8.out (Nat.le_refl _) hb9)
  have HC9 := Lib.hid (HC8.out.below hb9 HC8.out.lt)
  have HN9 := Lib.hid (HN8.out.below hb9 HN8.out.lt)
  have HE9 := Lib.hid (HE8.out.below hb9 HE8.out.lt)
  have HF9 := Lib.hid (HF8.out.below hb9 HF8.out.lt)
  have HU9 := Lib.hid (HU8.out.below hb9 (Nat.le_refl _))
  have HV9 := Lib.hid (show Own w9 w7.heap.size _ BY from hv.less h78)
  clear hb9 hv qc0_8 qc1_8
  go_wp2_with fail
  refine (Own_any _ b _ ((HBb.out.below HB9.out).more HB9.out.size) HBl2.out).mono ?_
  rintro r w10 ⟨vo, rfl, ho, hb10⟩
  have HB10 := Lib.hid (nextB HB9.out (Nat.le_refl _) hb10)
  have HC10 := Lib.hid (HC9.out.below hb10 HC9.out.lt)
  have HN10 := Lib.hid (HN9.out.below hb10 HN9.out.lt)
  have HE10 := Lib.hid (HE9.out.below hb10 HE9.out.lt)
  have HF10 := Lib.hid (HF9.out.below hb10 HF9.out.lt)
  have HU10 := Lib.hid (HU9.out.below hb10 (Nat.le_refl _))
  have HV10 := Lib.hid (HV9.out.below hb10 (Nat.le_refl _))
  have HO10 := Lib.hid ho
  clear hb10 ho
  go_wp2_with fail
  refine (Read_any _ b _ HO10.out.bs HBl.out).mono ?_
  rw [HRd.out]
  rintro r w11 ⟨rfl, hb11⟩
  have HB11 := Lib.hid (nextB HB10.out (Nat.le_refl _) hb11)
  have HC11 := Lib.hid (HC10.out.below hb11 HC10.out.lt)
  have HN11 := Lib.hid (HN10.out.below hb11 HN10.out.lt)
  have HE11 := Lib.hid (HE10.out.below hb11 HE10.out.lt)
  have HF11 := Lib.hid (HF10.out.below hb11 HF10.out.lt)
  have HU11 := Lib.hid (HU10.out.below hb11 (Nat.le_refl _))
  have HV11 := Lib.hid (HV10.out.below hb11 (Nat.le_refl _))
  have hE4 : w.heap.size ≤ w4.heap.size := by omega
  have hE5 : w.heap.size ≤ w5.heap.size := by omega
  have hEF : w5.heap.size ≠ w4.heap.size := by omega
  have hEC : w.heap.size ≠ w4.heap.size := by omega
  have hEN : w.heap.size + 1 ≠ w4.heap.size := by omega
  have hFC : w.heap.size ≠ w5.heap.size := by omega
  have hFN : w.heap.size + 1 ≠ w5.heap.size := by omega
  clear hb11
  go_wp2_with (first
    | (refine wpList_storeRow (n := 2) rfl 24 _ _ rfl rfl rfl (cs := cl d1 d2) (old := cl s1 s2) HE11.out (by kernel_rfl) rfl rfl (cl_one _ _) ?_
       obtain ⟨V, hV⟩ : ∃ V, w11.setRow w4.heap.size (cl d1 d2).toArray = V := ⟨_, rfl⟩
       refine wpList_world hV ?_
       have HCV := Lib.hid (show Row V w.heap.size (cl n l) 24 by rw [← hV]; exact HC11.out.setOther _ _ hEC)
       have HNV := Lib.hid (show Row V (w.heap.size + 1) (x12.map bv) 34 by rw [← hV]; exact HN11.out.setOther _ _ hEN)
       have HFV := Lib.hid (show Row V w5.heap.size (cl s1 s2) 24 by rw [← hV]; exact HF11.out.setOther _ _ hEF)
       have HEV := Lib.hid (show Row V w4.heap.size (cl d1 d2) 24 by rw [← hV]; exact HE11.out.setRow _)
       have hbV : Below w4.heap.size w11 V := by rw [← hV]; exact below_setRow (Below.refl _ _) (Nat.le_refl _) _
       have HBV := Lib.hid (show Below w.heap.size w V by rw [← hV]; exact below_setRow HB11.out hE4 _)
       have HUV := Lib.hid (show Own V w7.heap.size _ BY by rw [← hV]; exact own_setRow HU11.out hlE7)
       have HVV := Lib.hid (show Own V w7.heap.size _ BY by rw [← hV]; exact own_setRow HV11.out hlE7)
       clear hV hbV)
    | fail)
  refine (RRead_any _ b _ ((HBb.out.below HBV.out).more HBV.out.size) HBl.out).mono ?_
  rw [HRd.out]
  rintro r w12 ⟨rfl, hb12⟩
  have HB12 := Lib.hid (nextB HBV.out (Nat.le_refl _) hb12)
  have HC12 := Lib.hid (HCV.out.below hb12 HCV.out.lt)
  have HN12 := Lib.hid (HNV.out.below hb12 HNV.out.lt)
  have HE12 := Lib.hid (HEV.out.below hb12 HEV.out.lt)
  have HF12 := Lib.hid (HFV.out.below hb12 HFV.out.lt)
  have HU12 := Lib.hid (HUV.out.below hb12 (Nat.le_refl _))
  have HV12 := Lib.hid (HVV.out.below hb12 (Nat.le_refl _))
  clear hb12
  go_wp2_with (first
    | (show wpList _ _ _ (⟨none, Op.store 24 _ _, _, _, _, _⟩ :: _) _ _
       refine wpList_storeRow (n := 2) rfl 24 _ _ rfl rfl rfl (cs := cl d1 d2) (old := cl s1 s2) HF12.out (by kernel_rfl) rfl rfl (cl_one _ _) ?_
       obtain ⟨Y, hY⟩ : ∃ Y, w12.setRow w5.heap.size (cl d1 d2).toArray = Y := ⟨_, rfl⟩
       refine wpList_world hY ?_
       have HCY := Lib.hid (show Row Y w.heap.size (cl n l) 24 by rw [← hY]; exact HC12.out.setOther _ _ hFC)
       have HNY := Lib.hid (show Row Y (w.heap.size + 1) (x12.map bv) 34 by rw [← hY]; exact HN12.out.setOther _ _ hFN)
       have HEY := Lib.hid (show Row Y w4.heap.size (cl d1 d2) 24 by rw [← hY]; exact HE12.out.setOther _ _ (Ne.symm hEF))
       have HFY := Lib.hid (show Row Y w5.heap.size (cl d1 d2) 24 by rw [← hY]; exact HF12.out.setRow _)
       have HBY2 := Lib.hid (show Below w.heap.size w Y by rw [← hY]; exact below_setRow HB12.out hE5 _)
       have HUY := Lib.hid (show Own Y w7.heap.size _ BY by rw [← hY]; exact own_setRow HU12.out hlF7)
       have HVY := Lib.hid (show Own Y w7.heap.size _ BY by rw [← hY]; exact own_setRow HV12.out hlF7)
       clear hY)
    | (show wpList _ _ _ (⟨some 127, _, _, _, _, _⟩ :: _) _ _; refine wpList_loadRow rfl 34 _ rfl rfl HNY.out Try.underlying34 rfl (by kernel_rfl) HLm.out ?_))
  refine (Split_any x12 HL.out _).mono ?_
  rw [HSP.out, HSQ.out]
  rintro r w13 ⟨rfl, hb13⟩
  have HB13 := Lib.hid (nextB HBY2.out (Nat.le_refl _) hb13)
  have HC13 := Lib.hid (HCY.out.below hb13 HCY.out.lt)
  have HN13 := Lib.hid (HNY.out.below hb13 HNY.out.lt)
  have HE13 := Lib.hid (HEY.out.below hb13 HEY.out.lt)
  have HF13 := Lib.hid (HFY.out.below hb13 HFY.out.lt)
  have HU13 := Lib.hid (HUY.out.below hb13 (Nat.le_refl _))
  have HV13 := Lib.hid (HVY.out.below hb13 (Nat.le_refl _))
  clear hb13
  go_wp2_with (refine wpList_loadRow rfl 34 _ rfl rfl HN13.out Try.underlying34 rfl (by kernel_rfl) HLm.out ?_)
  refine (RSplit_any x12 HL.out _).mono ?_
  rw [HSP.out, HSQ.out]
  rintro r Z ⟨rfl, hbz⟩
  have HBZ := Lib.hid (nextB HB13.out (Nat.le_refl _) hbz)
  have HCZ := Lib.hid (HC13.out.below hbz HC13.out.lt)
  have HEZ := Lib.hid (HE13.out.below hbz HE13.out.lt)
  have HFZ := Lib.hid (HF13.out.below hbz HF13.out.lt)
  have HUZ := Lib.hid (HU13.out.below hbz (Nat.le_refl _)).bs
  have HVZ := Lib.hid (HV13.out.below hbz (Nat.le_refl _)).bs
  clear hbz
  go_wp2_with fail
  refine By.marks Lea.mixed Grew [By.is (.slice Au BY.length cu),
    By.is (strOf BY),
    By.is (.slice Av BY.length cw),
    By.is (strOf BY),
    By.is (.bool true),
    By.is (.bool true),
    By.is (.int .i64 (CK : Int)),
    By.is (.int .i64 (CK : Int)),
    By.is (.bool true),
    By.is (.bool true),
    By.is (.bool true),
    By.is (cv d1 d2),
    By.is (cv d1 d2),
    By.is (.bool true),
    By.is (.bool true),
    By.is (.bool true),
    By.is (.int .i64 (de : Int)),
    By.is (.int .i64 (de : Int)),
    By.is (.bool true),
    By.is (.bool true),
    By.is (.bool true),
    By.is (.int .u32 (SP : Int)),
    By.is (.int .u32 (SP : Int)),
    By.is (.bool true),
    By.is (.bool true),
    By.is (.bool true),
    By.is (.int .u64 (SQ : Int)),
    By.is (.int .u64 (SQ : Int)),
    By.is (.bool true),
    By.is (.bool true),
    By.is (.bool true),
    By.is (.int .u32 (e : Int)),
    By.is (.int .u64 (by_ : Int)),
    By.is (arr8 (nonce e by_)),
    By.is (.int .u32 (e : Int)),
    By.is (.int .u64 (by_ : Int)),
    By.is (arr8 (nonce e by_)),
    By.is (.bool true),
    By.is (.bool true),
    By.is (.bool true),
    By.is (cv n l),
    By.is (.int .i64 (CK : Int)),
    By.is (cv n l),
    By.is (.int .i64 (CK : Int)),
    By.is (.bool true),
    By.is (.bool true),
    By.is (.bool true),
    By.is (cv n l),
    By.is (.int .u64 (LF : Int)),
    By.is (cv n l),
    By.is (.int .u64 (LF : Int)),
    By.is (.bool true),
    By.is (.bool true),
    By.is (.bool true)]
    (Ev.masks _ []) (by kernel_rfl) rfl Grew.refl Grew.trans ⟨?_, ?_, ?_, ?_, ?_, ?_, ?_, ?_, ?_, ?_, ?_, ?_, ?_, ?_, ?_, ?_, ?_, ?_, ?_, ?_, ?_, ?_, ?_, ?_, ?_, ?_, ?_, ?_, ?_, ?_, ?_, ?_, ?_, ?_, ?_, ?_, ?_, ?_, ?_, ?_, ?_, ?_, ?_, ?_, ?_, ?_, ?_, ?_, ?_, ?_, ?_, ?_, ?_, ?_, trivial⟩ ?_
  · intro a w ht hs hg -- 136
    have h25 := By.same_get hs 25 (by decide) (by kernel_rfl)
    refine By.yes rfl ?_
    clear hs hg
    go_simp
    exact ⟨_, rfl, Grew.refl _, rfl⟩
  · intro a w ht hs hg -- 137
    have h136 : a.tmps.getD 136 undef = _ := By.given_get hg 0 rfl rfl (by kernel_rfl)
    refine By.yes rfl ?_
    clear hs hg
    have hr := run_str w (Bs.below (w := Z.drew) HUZ.out ht)
    go_simp
    exact ⟨_, rfl, Grew.refl _, rfl⟩
  · intro a w ht hs hg -- 138
    have h27 := By.same_get hs 27 (by decide) (by kernel_rfl)
    refine By.yes rfl ?_
    clear hs hg
    go_simp
    exact ⟨_, rfl, Grew.refl _, rfl⟩
  · intro a w ht hs hg -- 139
    have h138 : a.tmps.getD 138 undef = _ := By.given_get hg 2 rfl rfl (by kernel_rfl)
    refine By.yes rfl ?_
    clear hs hg
    have hr := run_str w (Bs.below (w := Z.drew) HVZ.out ht)
    go_simp
    exact ⟨_, rfl, Grew.refl _, rfl⟩
  · intro a w ht hs hg -- 140
    have h137 : a.tmps.getD 137 undef = _ := By.given_get hg 1 rfl rfl (by kernel_rfl)
    have h139 : a.tmps.getD 139 undef = _ := By.given_get hg 3 rfl rfl (by kernel_rfl)
    refine By.yes rfl ?_
    clear hs hg
    unfold strOf at h137 h139
    go_simp
    exact ⟨_, rfl, Grew.refl _, congrArg Value.bool (by simp)⟩
  · intro a w ht hs hg -- 141
    have h140 : a.tmps.getD 140 undef = _ := By.given_get hg 4 rfl rfl (by kernel_rfl)
    refine By.yes rfl ?_
    clear hs hg
    go_simp
    exact ⟨_, rfl, Grew.refl _, rfl⟩
  · intro a w ht hs hg -- 142
    have h26 := By.same_get hs 26 (by decide) (by kernel_rfl)
    have hg141 := By.given_get hg 5 rfl rfl (by kernel_rfl)
    refine By.yes (By.want_yes rfl rfl hg141) ?_
    clear hg141
    clear hs hg
    go_simp
    exact ⟨_, rfl, Grew.refl _, rfl⟩
  · intro a w ht hs hg -- 143
    have h28 := By.same_get hs 28 (by decide) (by kernel_rfl)
    have hg141 := By.given_get hg 5 rfl rfl (by kernel_rfl)
    refine By.yes (By.want_yes rfl rfl hg141) ?_
    clear hg141
    clear hs hg
    go_simp
    exact ⟨_, rfl, Grew.refl _, rfl⟩
  · intro a w ht hs hg -- 144
    have h142 : a.tmps.getD 142 undef = _ := By.given_get hg 6 rfl rfl (by kernel_rfl)
    have h143 : a.tmps.getD 143 undef = _ := By.given_get hg 7 rfl rfl (by kernel_rfl)
    have hg141 := By.given_get hg 5 rfl rfl (by kernel_rfl)
    refine By.yes (By.want_yes rfl rfl hg141) ?_
    clear hg141
    clear hs hg
    go_simp
    exact ⟨_, rfl, Grew.refl _, congrArg Value.bool (by simp)⟩
  · intro a w ht hs hg -- 145
    have h141 : a.tmps.getD 141 undef = _ := By.given_get hg 5 rfl rfl (by kernel_rfl)
    have h144 : a.tmps.getD 144 undef = _ := By.given_get hg 8 rfl rfl (by kernel_rfl)
    refine By.yes rfl ?_
    clear hs hg
    go_simp
    exact ⟨_, rfl, Grew.refl _, rfl⟩
  · intro a w ht hs hg -- 146
    have h145 : a.tmps.getD 145 undef = _ := By.given_get hg 9 rfl rfl (by kernel_rfl)
    refine By.yes rfl ?_
    clear hs hg
    go_simp
    exact ⟨_, rfl, Grew.refl _, rfl⟩
  · intro a w ht hs hg -- 147
    have h17 := By.same_get hs 17 (by decide) (by kernel_rfl)
    have hg146 := By.given_get hg 10 rfl rfl (by kernel_rfl)
    refine By.yes (By.want_yes rfl rfl hg146) ?_
    clear hg146
    clear hs hg
    refine wp_loadRow 24 _ rfl h17 (Row.below (w := Z.drew) HEZ.out ht HEZ.out.lt) Try.underlying24 rfl (by kernel_rfl) rfl ?_
    exact ⟨_, rfl, Grew.refl _, rfl⟩
  · intro a w ht hs hg -- 148
    have h19 := By.same_get hs 19 (by decide) (by kernel_rfl)
    have hg146 := By.given_get hg 10 rfl rfl (by kernel_rfl)
    refine By.yes (By.want_yes rfl rfl hg146) ?_
    clear hg146
    clear hs hg
    refine wp_loadRow 24 _ rfl h19 (Row.below (w := Z.drew) HFZ.out ht HFZ.out.lt) Try.underlying24 rfl (by kernel_rfl) rfl ?_
    exact ⟨_, rfl, Grew.refl _, rfl⟩
  · intro a w ht hs hg -- 149
    have h147 : a.tmps.getD 147 undef = _ := By.given_get hg 11 rfl rfl (by kernel_rfl)
    have h148 : a.tmps.getD 148 undef = _ := By.given_get hg 12 rfl rfl (by kernel_rfl)
    have hg146 := By.given_get hg 10 rfl rfl (by kernel_rfl)
    refine By.yes (By.want_yes rfl rfl hg146) ?_
    clear hg146
    clear hs hg
    go_simp
    exact ⟨_, rfl, Grew.refl _, congrArg Value.bool (by simp)⟩
  · intro a w ht hs hg -- 150
    have h146 : a.tmps.getD 146 undef = _ := By.given_get hg 10 rfl rfl (by kernel_rfl)
    have h149 : a.tmps.getD 149 undef = _ := By.given_get hg 13 rfl rfl (by kernel_rfl)
    refine By.yes rfl ?_
    clear hs hg
    go_simp
    exact ⟨_, rfl, Grew.refl _, rfl⟩
  · intro a w ht hs hg -- 151
    have h150 : a.tmps.getD 150 undef = _ := By.given_get hg 14 rfl rfl (by kernel_rfl)
    refine By.yes rfl ?_
    clear hs hg
    go_simp
    exact ⟨_, rfl, Grew.refl _, rfl⟩
  · intro a w ht hs hg -- 152
    have h18 := By.same_get hs 18 (by decide) (by kernel_rfl)
    have hg151 := By.given_get hg 15 rfl rfl (by kernel_rfl)
    refine By.yes (By.want_yes rfl rfl hg151) ?_
    clear hg151
    clear hs hg
    go_simp
    exact ⟨_, rfl, Grew.refl _, rfl⟩
  · intro a w ht hs hg -- 153
    have h20 := By.same_get hs 20 (by decide) (by kernel_rfl)
    have hg151 := By.given_get hg 15 rfl rfl (by kernel_rfl)
    refine By.yes (By.want_yes rfl rfl hg151) ?_
    clear hg151
    clear hs hg
    go_simp
    exact ⟨_, rfl, Grew.refl _, rfl⟩
  · intro a w ht hs hg -- 154
    have h152 : a.tmps.getD 152 undef = _ := By.given_get hg 16 rfl rfl (by kernel_rfl)
    have h153 : a.tmps.getD 153 undef = _ := By.given_get hg 17 rfl rfl (by kernel_rfl)
    have hg151 := By.given_get hg 15 rfl rfl (by kernel_rfl)
    refine By.yes (By.want_yes rfl rfl hg151) ?_
    clear hg151
    clear hs hg
    go_simp
    exact ⟨_, rfl, Grew.refl _, congrArg Value.bool (by simp)⟩
  · intro a w ht hs hg -- 155
    have h151 : a.tmps.getD 151 undef = _ := By.given_get hg 15 rfl rfl (by kernel_rfl)
    have h154 : a.tmps.getD 154 undef = _ := By.given_get hg 18 rfl rfl (by kernel_rfl)
    refine By.yes rfl ?_
    clear hs hg
    go_simp
    exact ⟨_, rfl, Grew.refl _, rfl⟩
  · intro a w ht hs hg -- 156
    have h155 : a.tmps.getD 155 undef = _ := By.given_get hg 19 rfl rfl (by kernel_rfl)
    refine By.yes rfl ?_
    clear hs hg
    go_simp
    exact ⟨_, rfl, Grew.refl _, rfl⟩
  · intro a w ht hs hg -- 157
    have h29 := By.same_get hs 29 (by decide) (by kernel_rfl)
    have hg156 := By.given_get hg 20 rfl rfl (by kernel_rfl)
    refine By.yes (By.want_yes rfl rfl hg156) ?_
    clear hg156
    clear hs hg
    go_simp
    exact ⟨_, rfl, Grew.refl _, rfl⟩
  · intro a w ht hs hg -- 158
    have h31 := By.same_get hs 31 (by decide) (by kernel_rfl)
    have hg156 := By.given_get hg 20 rfl rfl (by kernel_rfl)
    refine By.yes (By.want_yes rfl rfl hg156) ?_
    clear hg156
    clear hs hg
    go_simp
    exact ⟨_, rfl, Grew.refl _, rfl⟩
  · intro a w ht hs hg -- 159
    have h157 : a.tmps.getD 157 undef = _ := By.given_get hg 21 rfl rfl (by kernel_rfl)
    have h158 : a.tmps.getD 158 undef = _ := By.given_get hg 22 rfl rfl (by kernel_rfl)
    have hg156 := By.given_get hg 20 rfl rfl (by kernel_rfl)
    refine By.yes (By.want_yes rfl rfl hg156) ?_
    clear hg156
    clear hs hg
    go_simp
    exact ⟨_, rfl, Grew.refl _, congrArg Value.bool (by simp)⟩
  · intro a w ht hs hg -- 160
    have h156 : a.tmps.getD 156 undef = _ := By.given_get hg 20 rfl rfl (by kernel_rfl)
    have h159 : a.tmps.getD 159 undef = _ := By.given_get hg 23 rfl rfl (by kernel_rfl)
    refine By.yes rfl ?_
    clear hs hg
    go_simp
    exact ⟨_, rfl, Grew.refl _, rfl⟩
  · intro a w ht hs hg -- 161
    have h160 : a.tmps.getD 160 undef = _ := By.given_get hg 24 rfl rfl (by kernel_rfl)
    refine By.yes rfl ?_
    clear hs hg
    go_simp
    exact ⟨_, rfl, Grew.refl _, rfl⟩
  · intro a w ht hs hg -- 162
    have h30 := By.same_get hs 30 (by decide) (by kernel_rfl)
    have hg161 := By.given_get hg 25 rfl rfl (by kernel_rfl)
    refine By.yes (By.want_yes rfl rfl hg161) ?_
    clear hg161
    clear hs hg
    go_simp
    exact ⟨_, rfl, Grew.refl _, rfl⟩
  · intro a w ht hs hg -- 163
    have h32 := By.same_get hs 32 (by decide) (by kernel_rfl)
    have hg161 := By.given_get hg 25 rfl rfl (by kernel_rfl)
    refine By.yes (By.want_yes rfl rfl hg161) ?_
    clear hg161
    clear hs hg
    go_simp
    exact ⟨_, rfl, Grew.refl _, rfl⟩
  · intro a w ht hs hg -- 164
    have h162 : a.tmps.getD 162 undef = _ := By.given_get hg 26 rfl rfl (by kernel_rfl)
    have h163 : a.tmps.getD 163 undef = _ := By.given_get hg 27 rfl rfl (by kernel_rfl)
    have hg161 := By.given_get hg 25 rfl rfl (by kernel_rfl)
    refine By.yes (By.want_yes rfl rfl hg161) ?_
    clear hg161
    clear hs hg
    go_simp
    exact ⟨_, rfl, Grew.refl _, congrArg Value.bool (by simp)⟩
  · intro a w ht hs hg -- 165
    have h161 : a.tmps.getD 161 undef = _ := By.given_get hg 25 rfl rfl (by kernel_rfl)
    have h164 : a.tmps.getD 164 undef = _ := By.given_get hg 28 rfl rfl (by kernel_rfl)
    refine By.yes rfl ?_
    clear hs hg
    go_simp
    exact ⟨_, rfl, Grew.refl _, rfl⟩
  · intro a w ht hs hg -- 166
    have h165 : a.tmps.getD 165 undef = _ := By.given_get hg 29 rfl rfl (by kernel_rfl)
    refine By.yes rfl ?_
    clear hs hg
    go_simp
    exact ⟨_, rfl, Grew.refl _, rfl⟩
  · intro a w ht hs hg -- 167
    have h2 := By.same_get hs 2 (by decide) (by kernel_rfl)
    have hg166 := By.given_get hg 30 rfl rfl (by kernel_rfl)
    refine By.yes (By.want_yes rfl rfl hg166) ?_
    clear hg166
    clear hs hg
    go_simp
    exact ⟨_, rfl, Grew.refl _, rfl⟩
  · intro a w ht hs hg -- 168
    have h1 := By.same_get hs 1 (by decide) (by kernel_rfl)
    have hg166 := By.given_get hg 30 rfl rfl (by kernel_rfl)
    refine By.yes (By.want_yes rfl rfl hg166) ?_
    clear hg166
    clear hs hg
    go_simp
    exact ⟨_, rfl, Grew.refl _, rfl⟩
  · intro a w ht hs hg -- 169
    have h167 : a.tmps.getD 167 undef = _ := By.given_get hg 31 rfl rfl (by kernel_rfl)
    have h168 : a.tmps.getD 168 undef = _ := By.given_get hg 32 rfl rfl (by kernel_rfl)
    have hg166 := By.given_get hg 30 rfl rfl (by kernel_rfl)
    refine By.yes (By.want_yes rfl rfl hg166) ?_
    clear hg166
    clear hs hg
    go_simp
    refine (Nonce_any e by_ w).mono ?_
    rintro r w' ⟨rfl, hb⟩
    exact ⟨_, rfl, hb, rfl⟩
  · intro a w ht hs hg -- 170
    have h2 := By.same_get hs 2 (by decide) (by kernel_rfl)
    have hg166 := By.given_get hg 30 rfl rfl (by kernel_rfl)
    refine By.yes (By.want_yes rfl rfl hg166) ?_
    clear hg166
    clear hs hg
    go_simp
    exact ⟨_, rfl, Grew.refl _, rfl⟩
  · intro a w ht hs hg -- 171
    have h1 := By.same_get hs 1 (by decide) (by kernel_rfl)
    have hg166 := By.given_get hg 30 rfl rfl (by kernel_rfl)
    refine By.yes (By.want_yes rfl rfl hg166) ?_
    clear hg166
    clear hs hg
    go_simp
    exact ⟨_, rfl, Grew.refl _, rfl⟩
  · intro a w ht hs hg -- 172
    have h170 : a.tmps.getD 170 undef = _ := By.given_get hg 34 rfl rfl (by kernel_rfl)
    have h171 : a.tmps.getD 171 undef = _ := By.given_get hg 35 rfl rfl (by kernel_rfl)
    have hg166 := By.given_get hg 30 rfl rfl (by kernel_rfl)
    refine By.yes (By.want_yes rfl rfl hg166) ?_
    clear hg166
    clear hs hg
    go_simp
    refine (RNonce_any e by_ w).mono ?_
    rintro r w' ⟨rfl, hb⟩
    exact ⟨_, rfl, hb, rfl⟩
  · intro a w ht hs hg -- 173
    have h169 : a.tmps.getD 169 undef = _ := By.given_get hg 33 rfl rfl (by kernel_rfl)
    have h172 : a.tmps.getD 172 undef = _ := By.given_get hg 36 rfl rfl (by kernel_rfl)
    have hg166 := By.given_get hg 30 rfl rfl (by kernel_rfl)
    refine By.yes (By.want_yes rfl rfl hg166) ?_
    clear hg166
    clear hs hg
    refine wp_eqArr _ _ rfl (by kernel_rfl) h169 h172 (eq12 _ _ (nonce_length e by_) (nonce_length e by_) w) ?_
    exact ⟨_, rfl, Grew.refl _, congrArg Value.bool (by simp)⟩
  · intro a w ht hs hg -- 174
    have h166 : a.tmps.getD 166 undef = _ := By.given_get hg 30 rfl rfl (by kernel_rfl)
    have h173 : a.tmps.getD 173 undef = _ := By.given_get hg 37 rfl rfl (by kernel_rfl)
    refine By.yes rfl ?_
    clear hs hg
    go_simp
    exact ⟨_, rfl, Grew.refl _, rfl⟩
  · intro a w ht hs hg -- 175
    have h174 : a.tmps.getD 174 undef = _ := By.given_get hg 38 rfl rfl (by kernel_rfl)
    refine By.yes rfl ?_
    clear hs hg
    go_simp
    exact ⟨_, rfl, Grew.refl _, rfl⟩
  · intro a w ht hs hg -- 176
    have h5 := By.same_get hs 5 (by decide) (by kernel_rfl)
    have hg175 := By.given_get hg 39 rfl rfl (by kernel_rfl)
    refine By.yes (By.want_yes rfl rfl hg175) ?_
    clear hg175
    clear hs hg
    refine wp_loadRow 24 _ rfl h5 (Row.below (w := Z.drew) HCZ.out ht HCZ.out.lt) Try.underlying24 rfl (by kernel_rfl) rfl ?_
    exact ⟨_, rfl, Grew.refl _, rfl⟩
  · intro a w ht hs hg -- 177
    have h176 : a.tmps.getD 176 undef = _ := By.given_get hg 40 rfl rfl (by kernel_rfl)
    have hg175 := By.given_get hg 39 rfl rfl (by kernel_rfl)
    refine By.yes (By.want_yes rfl rfl hg175) ?_
    clear hg175
    clear hs hg
    go_simp
    refine (HCk.out w).mono ?_
    rintro r w' ⟨rfl, hb⟩
    exact ⟨_, rfl, hb, rfl⟩
  · intro a w ht hs hg -- 178
    have h5 := By.same_get hs 5 (by decide) (by kernel_rfl)
    have hg175 := By.given_get hg 39 rfl rfl (by kernel_rfl)
    refine By.yes (By.want_yes rfl rfl hg175) ?_
    clear hg175
    clear hs hg
    refine wp_loadRow 24 _ rfl h5 (Row.below (w := Z.drew) HCZ.out ht HCZ.out.lt) Try.underlying24 rfl (by kernel_rfl) rfl ?_
    exact ⟨_, rfl, Grew.refl _, rfl⟩
  · intro a w ht hs hg -- 179
    have h178 : a.tmps.getD 178 undef = _ := By.given_get hg 42 rfl rfl (by kernel_rfl)
    have hg175 := By.given_get hg 39 rfl rfl (by kernel_rfl)
    refine By.yes (By.want_yes rfl rfl hg175) ?_
    clear hg175
    clear hs hg
    go_simp
    refine (HRCk.out w).mono ?_
    rintro r w' ⟨rfl, hb⟩
    exact ⟨_, rfl, hb, rfl⟩
  · intro a w ht hs hg -- 180
    have h177 : a.tmps.getD 177 undef = _ := By.given_get hg 41 rfl rfl (by kernel_rfl)
    have h179 : a.tmps.getD 179 undef = _ := By.given_get hg 43 rfl rfl (by kernel_rfl)
    have hg175 := By.given_get hg 39 rfl rfl (by kernel_rfl)
    refine By.yes (By.want_yes rfl rfl hg175) ?_
    clear hg175
    clear hs hg
    go_simp
    exact ⟨_, rfl, Grew.refl _, congrArg Value.bool (by simp)⟩
  · intro a w ht hs hg -- 181
    have h175 : a.tmps.getD 175 undef = _ := By.given_get hg 39 rfl rfl (by kernel_rfl)
    have h180 : a.tmps.getD 180 undef = _ := By.given_get hg 44 rfl rfl (by kernel_rfl)
    refine By.yes rfl ?_
    clear hs hg
    go_simp
    exact ⟨_, rfl, Grew.refl _, rfl⟩
  · intro a w ht hs hg -- 182
    have h181 : a.tmps.getD 181 undef = _ := By.given_get hg 45 rfl rfl (by kernel_rfl)
    refine By.yes rfl ?_
    clear hs hg
    go_simp
    exact ⟨_, rfl, Grew.refl _, rfl⟩
  · intro a w ht hs hg -- 183
    have h5 := By.same_get hs 5 (by decide) (by kernel_rfl)
    have hg182 := By.given_get hg 46 rfl rfl (by kernel_rfl)
    refine By.yes (By.want_yes rfl rfl hg182) ?_
    clear hg182
    clear hs hg
    refine wp_loadRow 24 _ rfl h5 (Row.below (w := Z.drew) HCZ.out ht HCZ.out.lt) Try.underlying24 rfl (by kernel_rfl) rfl ?_
    exact ⟨_, rfl, Grew.refl _, rfl⟩
  · intro a w ht hs hg -- 184
    have h183 : a.tmps.getD 183 undef = _ := By.given_get hg 47 rfl rfl (by kernel_rfl)
    have hg182 := By.given_get hg 46 rfl rfl (by kernel_rfl)
    refine By.yes (By.want_yes rfl rfl hg182) ?_
    clear hg182
    clear hs hg
    go_simp
    refine (HLf.out w).mono ?_
    rintro r w' ⟨rfl, hb⟩
    exact ⟨_, rfl, hb, rfl⟩
  · intro a w ht hs hg -- 185
    have h5 := By.same_get hs 5 (by decide) (by kernel_rfl)
    have hg182 := By.given_get hg 46 rfl rfl (by kernel_rfl)
    refine By.yes (By.want_yes rfl rfl hg182) ?_
    clear hg182
    clear hs hg
    refine wp_loadRow 24 _ rfl h5 (Row.below (w := Z.drew) HCZ.out ht HCZ.out.lt) Try.underlying24 rfl (by kernel_rfl) rfl ?_
    exact ⟨_, rfl, Grew.refl _, rfl⟩
  · intro a w ht hs hg -- 186
    have h185 : a.tmps.getD 185 undef = _ := By.given_get hg 49 rfl rfl (by kernel_rfl)
    have hg182 := By.given_get hg 46 rfl rfl (by kernel_rfl)
    refine By.yes (By.want_yes rfl rfl hg182) ?_
    clear hg182
    clear hs hg
    go_simp
    refine (HRLf.out w).mono ?_
    rintro r w' ⟨rfl, hb⟩
    exact ⟨_, rfl, hb, rfl⟩
  · intro a w ht hs hg -- 187
    have h184 : a.tmps.getD 184 undef = _ := By.given_get hg 48 rfl rfl (by kernel_rfl)
    have h186 : a.tmps.getD 186 undef = _ := By.given_get hg 50 rfl rfl (by kernel_rfl)
    have hg182 := By.given_get hg 46 rfl rfl (by kernel_rfl)
    refine By.yes (By.want_yes rfl rfl hg182) ?_
    clear hg182
    clear hs hg
    go_simp
    exact ⟨_, rfl, Grew.refl _, congrArg Value.bool (by simp)⟩
  · intro a w ht hs hg -- 188
    have h182 : a.tmps.getD 182 undef = _ := By.given_get hg 46 rfl rfl (by kernel_rfl)
    have h187 : a.tmps.getD 187 undef = _ := By.given_get hg 51 rfl rfl (by kernel_rfl)
    refine By.yes rfl ?_
    clear hs hg
    go_simp
    exact ⟨_, rfl, Grew.refl _, rfl⟩
  · intro a w ht hs hg -- 10
    have h188 : a.tmps.getD 188 undef = _ := By.given_get hg 52 rfl rfl (by kernel_rfl)
    refine By.yes rfl ?_
    clear hs hg
    go_simp
    exact ⟨_, rfl, Grew.refl _, rfl⟩
  refine By.ends_is (By.ends_is (By.ends_is (By.ends_is (By.ends_is (By.ends_is (By.ends_is (By.ends_is (By.ends_is (By.ends_is (By.ends_is (By.ends_is (By.ends_is (By.ends_is (By.ends_is (By.ends_is (By.ends_is (By.ends_is (By.ends_is (By.ends_is (By.ends_is (By.ends_is (By.ends_is (By.ends_is (By.ends_is (By.ends_is (By.ends_is (By.ends_is (By.ends_is (By.ends_is (By.ends_is (By.ends_is (By.ends_is (By.ends_is (By.ends_is (By.ends_is (By.ends_is (By.ends_is (By.ends_is (By.ends_is (By.ends_is (By.ends_is (By.ends_is (By.ends_is (By.ends_is (By.ends_is (By.ends_is (By.ends_is (By.ends_is (By.ends_is (By.ends_is (By.ends_is (By.ends_is (By.ends_is (By.ends_nil fun w9 hw9 => ?_))))))))))))))))))))))))))))))))))))))))))))))))))))))
  simp only [Act.put, List.setIfInBounds_toArray, List.set_cons_succ, List.set_cons_zero]
  have HBW := Lib.hid (nextB HBZ.out (Nat.le_refl _) (show Below Z.heap.size Z w9 from ⟨hw9.os, hw9.tape, hw9.output, hw9.size, hw9.block⟩))
  clear hw9
  go_wp2
  go_ret
  exact ⟨rfl, HBW.out⟩

set_option maxRecDepth 100000 in
theorem lift (os : Os) (started : os.Started) (H : Type) (enc : TypeId × Value → H) :
    ReturnsInHanded {} Try.checked os 4 .any (Rows.leaseCallsSpec.pre6 enc Try.prog Try.f4 Rows.leaseCallsRow.domain false) (Rows.leaseCallsSpec.post enc Try.prog Try.f4 false true false false) := by
  refine Law.lifted (C := Try.checked) 4 own started (by kernel_rfl) Try.func4 laid (by kernel_rfl) rfl Try.underlying4 rfl
    (fun ds hd => by
      have hd' : ds.length = 5 := hd
      match ds, hd' with
      | [d0, d1, d2, d3, d4], _ => rfl)
    (ChangeSpec.witness6 (enc := enc) (C := Try.checked) false ⟨#[], #[.agg #[.int .u64 0, .int .u64 0], .int .u64 0, .int .u32 0, .agg #[.int .u8 0, .int .u8 0, .int .u8 0, .int .u8 0, .int .u8 0, .int .u8 0, .int .u8 0, .int .u8 0, .int .u8 0, .int .u8 0, .int .u8 0, .int .u8 0], .slice none 0 0], []⟩ 8 (by kernel_rfl) (by kernel_rfl) (by kernel_rfl) (by kernel_rfl)) ?_
  intro W args ds ps hst
  have hA : DataW.TrodAll enc Try.prog W 0 (fun _ => true) true Try.f4.params.toList args.toList ds ps := hst.trod
  have hok := hst.okw
  have hlt := hst.lt
  rw [Try.params4] at hA hok
  obtain ⟨v0, r0, d0, e0, p0, q0, hargs, rfl, rfl, h0, hA⟩ := trodAll_cons hA
  obtain ⟨v1, r1, d1, e1, p1, q1, rfl, rfl, rfl, h1, hA⟩ := trodAll_cons hA
  obtain ⟨v2, r2, d2, e2, p2, q2, rfl, rfl, rfl, h2, hA⟩ := trodAll_cons hA
  obtain ⟨v3, r3, d3, e3, p3, q3, rfl, rfl, rfl, h3, hA⟩ := trodAll_cons hA
  obtain ⟨v4, r4, d4, e4, p4, q4, rfl, rfl, rfl, h4, hA⟩ := trodAll_cons hA
  obtain ⟨rfl, rfl, rfl⟩ := trodAll_nil hA
  obtain rfl : args = #[v0, v1, v2, v3, v4] := by cases args; simp_all
  obtain ⟨_, hv0⟩ := hok 0 24 v0 rfl rfl
  obtain ⟨_, hv1⟩ := hok 1 22 v1 rfl rfl
  obtain ⟨_, hv2⟩ := hok 2 33 v2 rfl rfl
  obtain ⟨_, hv3⟩ := hok 3 34 v3 rfl rfl
  obtain ⟨_, hv4⟩ := hok 4 35 v4 rfl rfl
  obtain ⟨n, l, rfl, hn, hl⟩ := pair64_at Try.underlying24 (by kernel_rfl) (by kernel_rfl) Try.underlying22 hv0
  obtain ⟨y, rfl, y0', y1'⟩ := Law.int_at Try.underlying22 hv1 h1
  obtain ⟨e, rfl, e0', e1'⟩ := Law.int_at Try.underlying33 hv2 h2
  obtain ⟨x12, rfl, hx⟩ := arr8_at (P := Try.prog) Try.underlying34 (by kernel_rfl) (by kernel_rfl) Try.underlying5 hv3
  obtain ⟨b, hb, _⟩ := Law.bytes_at Try.underlying35 hv4 h4 (fun x hx => hlt x (by simp [hx]))
  have y0 : (0 : Int) ≤ y := y0'
  have e0 : (0 : Int) ≤ e := e0'
  obtain ⟨y, rfl⟩ := Int.eq_ofNat_of_zero_le y0
  obtain ⟨e, rfl⟩ := Int.eq_ofNat_of_zero_le e0
  have hb0 := hb
  obtain ⟨A, c, rfl, _, _⟩ := hb0
  by_cases h100 : b.length ≤ 100
  · exact walk n l y e x12 hx A c b W hb h100 hl
  · exact long _ _ y e A c b.length x12 rfl n l rfl W (by omega)

theorem over : Rows.leaseCallsRow.holds Try.pinned (OpenSpec.ofChange Rows.leaseCallsSpec) :=
  OpenClaim.holds_of_wide 4 Try.f4 rfl rfl rfl rfl rfl rfl rfl ⟨rfl, rfl, rfl, rfl, rfl⟩ rfl rfl rfl rfl rfl (by kernel_rfl) Try.func4 (by kernel_rfl)
    (of_decide_eq_true (by kernel_rfl)) (by unfold Func.isWrapper; first | (rw [if_pos (by decide +kernel)]; kernel_rfl) | (rw [if_neg (by decide +kernel)]; exact ⟨rfl, rfl⟩))
    (fun os started H enc _ => lift os started H enc)
theorem proved : Rows.LeaseCallsSaid := over
#print axioms proved
end Go.Proofs.Ytndpobibjgcefaa.leaseCalls

