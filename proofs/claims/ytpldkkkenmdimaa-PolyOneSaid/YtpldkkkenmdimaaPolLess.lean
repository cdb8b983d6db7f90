/- A number of sixteen bytes less another one. -/
import Derived.Test.YtpldkkkenmdimaaPolMath
import Derived.Test.YtpldkkkenmdimaaChaStream
import Derived.Test.YtpldkkkenmdimaaChaState
namespace Go.Proofs.Ytpldkkkenmdimaa
open Go.RowKit
namespace Pol
def bor (a b : List UInt8) : Nat → Nat
  | 0 => 0
  | i + 1 => if (a.getD i 0).toNat < (b.getD i 0).toNat + bor a b i then 1 else 0
theorem bor_le (a b : List UInt8) : ∀ i, bor a b i ≤ 1
  | 0 => by simp [bor]
  | i + 1 => by
    simp only [bor]
    split <;> omega
def digit (a b : List UInt8) (i : Nat) : UInt8 := UInt8.ofNat ((a.getD i 0).toNat + 256 - (b.getD i 0).toNat - bor a b i)
def digits (a b : List UInt8) (n : Nat) : List UInt8 := (List.range n).map (digit a b)
theorem digits_length (a b : List UInt8) (n : Nat) : (digits a b n).length = n := by simp [digits]
theorem digits_succ (a b : List UInt8) (n : Nat) : digits a b (n + 1) = digits a b n ++ [digit a b n] := by simp [digits, List.range_succ]
theorem take_getD {a : List UInt8} {n : Nat} (h : n < a.length) : a.take (n + 1) = a.take n ++ [a.getD n 0] := by
  rw [List.take_succ_eq_append_getElem h, List.getD_eq_getElem?_getD, List.getElem?_eq_getElem h]
  rfl
theorem le_snoc (l : List UInt8) (u : UInt8) : Poly.le (l ++ [u]) = Poly.le l + 256 ^ l.length * u.toNat := by
  rw [Poly.le_append]
  simp [Poly.le]
theorem digits_sum {a b : List UInt8} {N : Nat} (ha : a.length = N) (hb : b.length = N) : ∀ n, n ≤ N → Poly.le (digits a b n) + Poly.le (b.take n) = Poly.le (a.take n) + bor a b n * 256 ^ n
  | 0, _ => by simp [digits, Poly.le, bor]
  | n + 1, h => by
    have ih := digits_sum ha hb n (by omega)
    rw [digits_succ, take_getD (by omega), take_getD (by omega), le_snoc, le_snoc, le_snoc, digits_length, List.length_take, List.length_take, Nat.min_eq_left (by omega), Nat.min_eq_left (by omega)]
    have hx := (a.getD n 0).toNat_lt
    have hy := (b.getD n 0).toNat_lt
    have hbn := bor_le a b n
    have hd : (digit a b n).toNat + (b.getD n 0).toNat + bor a b n = (a.getD n 0).toNat + bor a b (n + 1) * 256 := by
      unfold digit
      rw [UInt8.toNat_ofNat']
      simp only [bor]
      split <;> omega
    have h2 : 256 ^ n * ((digit a b n).toNat + (b.getD n 0).toNat + bor a b n) = 256 ^ n * ((a.getD n 0).toNat + bor a b (n + 1) * 256) := by rw [hd]
    rw [Nat.mul_add, Nat.mul_add, Nat.mul_add] at h2
    rw [Nat.pow_succ, show bor a b (n + 1) * (256 ^ n * 256) = 256 ^ n * (bor a b (n + 1) * 256) by rw [Nat.mul_left_comm, Nat.mul_comm (bor a b (n + 1))]]
    rw [Nat.mul_comm (bor a b n)] at ih
    omega
theorem digits_less {a b : List UInt8} (ha : a.length = 16) (hb : b.length = 16) : digits a b 16 = lessB a b := by
  have h := digits_sum ha hb 16 (Nat.le_refl _)
  rw [List.take_of_length_le (by omega), List.take_of_length_le (by omega), e256] at h
  have h1 := le_lt16 ha
  have h2 := le_lt16 hb
  have h3 := le_lt16 (digits_length a b 16)
  rw [← Poly.bytes16_le (digits a b 16) (digits_length a b 16)]
  unfold lessB
  apply Poly.bytes16_inj
  have h4 := bor_le a b 16
  generalize Poly.le (digits a b 16) = x at *
  generalize Poly.le a = y at *
  generalize Poly.le b = z at *
  rcases (by omega : bor a b 16 = 0 ∨ bor a b 16 = 1) with e | e <;> rw [e] at h <;> omega
theorem digit_is (a b : List UInt8) (i : Nat) : (((a.getD i 0).toNat : Int) - ((b.getD i 0).toNat : Int) - (bor a b i : Int)) % 256 = ((digit a b i).toNat : Int) := by
  have hx := (a.getD i 0).toNat_lt
  have hy := (b.getD i 0).toNat_lt
  have hbn := bor_le a b i
  unfold digit
  rw [UInt8.toNat_ofNat']
  generalize (a.getD i 0).toNat = x at *
  generalize (b.getD i 0).toNat = y at *
  omega
theorem getD_cells (l : List UInt8) (k : Nat) (h : k < l.length) : (l.map bv)[k]? = some (.int .u8 ((l.getD k 0).toNat : Int)) := by
  rw [List.getElem?_map, List.getElem?_eq_getElem h, List.getD_eq_getElem?_getD, List.getElem?_eq_getElem h]
  rfl
theorem bor_yes {a b : List UInt8} {i : Nat} (h : (a.getD i 0).toNat < (b.getD i 0).toNat + bor a b i) : bor a b (i + 1) = 1 := by
  simp only [bor]
  rw [if_pos h]
theorem bor_no {a b : List UInt8} {i : Nat} (h : ¬ (a.getD i 0).toNat < (b.getD i 0).toNat + bor a b i) : bor a b (i + 1) = 0 := by
  simp only [bor]
  rw [if_neg h]
theorem digits_at (a b : List UInt8) {i n : Nat} (h : i < n) : (digits a b n)[i]? = some (digit a b i) := by
  unfold digits
  rw [List.getElem?_map, List.getElem?_range h]
  rfl
set_option maxRecDepth 100000 in
set_option maxHeartbeats 1000000 in
theorem Less_any (a b : List UInt8) (ha : a.length = 16) (hb : b.length = 16) (w : World) : Calls Try.prog 22 #[arr8 a, arr8 b] w fun e w' => e = .returned (arr8 (lessB a b)) ∧ Below w.heap.size w w' := by
  have Ha := Lib.hid ha
  have Hb := Lib.hid hb
  have Hal := Lib.hid (show (a.map bv).length = 16 by rw [List.length_map]; exact ha)
  clear ha hb
  unfold arr8
  go_enter Try.func22, Try.ntmps22
  go_wp2
  go_loopw [6, 7] (fun cv iv wr => ∃ i : Nat, i ≤ 16 ∧ cv = .int .i64 (bor a b i : Int) ∧ iv = .int .i64 (i : Int) ∧ Row wr w.heap.size (a.map bv) 35 ∧ Row wr (w.heap.size + 1) (b.map bv) 35 ∧ Row wr (w.heap.size + 1 + 1) ((List.replicate 16 (0 : UInt8)).map bv) 35 ∧
    Row wr (w.heap.size + 1 + 1 + 1) ((Cha.fillN (digits a b 16) i).map bv) 35 ∧ Below w.heap.size w wr) (fun _ iv _ => 16 - (intOf iv).toNat)
  case atStart =>
    refine ⟨0, by omega, rfl, rfl, (((Row.new rfl rfl).alloc _).alloc _).alloc _, ((Row.new (by simp) rfl).alloc _).alloc _, (Row.new (by simp) rfl).alloc _, ?_, (((Below.refl _ w).alloc (Nat.le_refl _) _).alloc (by simp) _).alloc (by simp; omega) _ |>.alloc (by simp; omega) _⟩
    rw [Cha.fillN_zero, digits_length]
    exact Row.new (by simp) rfl
  case round =>
    obtain ⟨i, hi, rfl, rfl, hr2, hr3, hr4, hr5, hbel⟩ := hrel
    have Hr2 := Lib.hid hr2
    have Hr3 := Lib.hid hr3
    have Hr4 := Lib.hid hr4
    have Hr5 := Lib.hid hr5
    have Hbel := Lib.hid hbel
    clear hr2 hr3 hr4 hr5 hbel
    by_cases h16 : i < 16
    · have h16' : (i : Int) < 16 := by omega
      have hc2 := Hr2.out.cell (getD_cells a i (by rw [Ha.out]; exact h16))
      have hc3 := Hr3.out.cell (getD_cells b i (by rw [Hb.out]; exact h16))
      have Hset := Lib.hid (show Row (wr.setCell ⟨w.heap.size + 1 + 1 + 1, i, none⟩ (.int .u8 ((digit a b i).toNat : Int))) (w.heap.size + 1 + 1 + 1) ((Cha.fillN (digits a b 16) (i + 1)).map bv) 35 by
        have h := Hr5.out.set i (bv (digit a b i))
        rw [← List.map_set, Cha.fillN_set _ _ _ (digits_at a b h16)] at h
        exact h)
      have Hcell := Lib.hid (show ∃ v, wr.cell? ⟨w.heap.size + 1 + 1 + 1, i, none⟩ = some v from ⟨_, Hr5.out.cell (getD_cell _ i (by rw [Cha.fillN_length, digits_length]; exact h16))⟩)
      have Hfr := Lib.hid (frozen_row Hr5.out i)
      have hdig := digit_is a b i
      have Hby := Lib.hid (@bor_yes a b i)
      have Hbn := Lib.hid (@bor_no a b i)
      have hx := (a.getD i 0).toNat_lt
      have hy := (b.getD i 0).toNat_lt
      have hk := bor_le a b i
      generalize (a.getD i 0).toNat = x at *
      generalize (b.getD i 0).toNat = y at *
      obtain ⟨k, hkk⟩ : ∃ k, bor a b i = k := ⟨_, rfl⟩
      rw [hkk] at hdig hk Hby Hbn ⊢
      have hx' : (x : Int) < 256 := by omega
      have hy' : (y : Int) < 256 := by omega
      have hk' : (k : Int) ≤ 1 := by omega
      clear hx hy hk hkk
      have Hdig := Lib.hid hdig
      clear hdig
      go_wp2_with fail
      go_quiet (fail)
      rename_i nq
      have Hbel := Lib.hid (below_drewN Hbel.out nq)
      have Hr2 := Lib.hid (Hr2.out.drewN nq)
      have Hr3 := Lib.hid (Hr3.out.drewN nq)
      have Hr4 := Lib.hid (Hr4.out.drewN nq)
      have Hset := Lib.hid (show Row ((wr.drewN nq).setCell ⟨w.heap.size + 1 + 1 + 1, i, none⟩ (.int .u8 ((digit a b i).toNat : Int))) (w.heap.size + 1 + 1 + 1) ((Cha.fillN (digits a b 16) (i + 1)).map bv) 35 from Hset.out)
      obtain ⟨v0, hcell⟩ := Hcell.out
      have hcell : (wr.drewN nq).cell? ⟨w.heap.size + 1 + 1 + 1, i, none⟩ = some v0 := hcell
      have hfr : (wr.drewN nq).frozen? ⟨w.heap.size + 1 + 1 + 1, i, none⟩ = false := Hfr.out
      clear hc2 hc3
      by_cases hneg : x < y + k
      · have hneg' : (x : Int) - (y : Int) - (k : Int) < 0 := by omega
        go_wp2
        rw [Hdig.out]
        go_roundw
        case rel => exact ⟨i + 1, h16, by rw [Hby.out hneg]; rfl, by simp, Hr2.out.other _ _ (by dsimp only; omega), Hr3.out.other _ _ (by dsimp only; omega), Hr4.out.other _ _ (by dsimp only; omega), Hset.out, Hbel.out.setCell (by dsimp only; omega) _⟩
        case measure => simp [intOf]; omega
      · have hneg' : ¬ (x : Int) - (y : Int) - (k : Int) < 0 := by omega
        have hd2 : (x : Int) - (y : Int) - (k : Int) = ((digit a b i).toNat : Int) := by have := Hdig.out; omega
        have Hd2 := Lib.hid hd2
        clear hd2
        go_wp2
        rw [Hd2.out]
        go_roundw
        case rel => exact ⟨i + 1, h16, by rw [Hbn.out hneg]; rfl, by simp, Hr2.out.other _ _ (by dsimp only; omega), Hr3.out.other _ _ (by dsimp only; omega), Hr4.out.other _ _ (by dsimp only; omega), Hset.out, Hbel.out.setCell (by dsimp only; omega) _⟩
        case measure => simp [intOf]; omega
    · have h16' : ¬ (i : Int) < 16 := by omega
      have : i = 16 := by omega
      subst this
      rw [Cha.fillN_all _ _ (by rw [digits_length]; exact Nat.le_refl _), digits_less Ha.out Hb.out] at Hr5
      have hll : ((lessB a b).map bv).length = 16 := by rw [List.length_map, lessB_length]
      have Hll := Lib.hid hll
      clear hll
      go_wp2_with (first
        | (refine wpList_loadRow (n := 16) (cs := (lessB a b).map bv) rfl 35 _ rfl rfl Hr5.out Try.underlying35 rfl (by kernel_rfl) Hll.out ?_)
        | (refine wpList_storeRow (n := 16) rfl 35 _ _ rfl rfl rfl (cs := (lessB a b).map bv) (old := (List.replicate 16 (0 : UInt8)).map bv) Hr4.out (by kernel_rfl) Hll.out (by simp) (bytes1 _) ?_)
        | fail)
      refine bodyPost_ret (results_row rfl _ rfl (Hr4.out.setRow _) Try.underlying35 rfl (by kernel_rfl) (n := 16) Hll.out) rfl ?_
      exact ⟨rfl, below_setRow Hbel.out (by omega) _⟩
end Pol
end Go.Proofs.Ytpldkkkenmdimaa
