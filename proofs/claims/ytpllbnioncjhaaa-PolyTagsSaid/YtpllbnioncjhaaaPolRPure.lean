/- The reference's tag in numbers: its blocks one by one, its clamped r. -/
import Derived.Test.YtpllbnioncjhaaaPolMath
import Derived.Test.YtpllbnioncjhaaaPolRReduce
namespace Go.Proofs.Ytpllbnioncjhaaa.PRef
open Go.RowKit
/-- A block's number: its bytes and a 1 behind them. -/
def blk (l : List UInt8) (i : Nat) : Nat := Poly.le ((l.drop i).take 16) + 256 ^ ((l.drop i).take 16).length
/-- The sum after m blocks. -/
def tv (r : Nat) (l : List UInt8) : Nat → Nat
  | 0 => 0
  | m + 1 => (tv r l m + blk l (16 * m)) * r % 1361129467683753853853498429727072845819
theorem tv_lt (r : Nat) (l : List UInt8) : ∀ m, tv r l m < 1361129467683753853853498429727072845819
  | 0 => Nat.zero_lt_succ _
  | m + 1 => Nat.mod_lt _ (by decide)
theorem blk_full {l : List UInt8} {m : Nat} (h : 16 * m + 16 ≤ l.length) : blk l (16 * m) = Pol.blockAt l m := by
  unfold blk Pol.blockAt
  rw [show ((l.drop (16 * m)).take 16).length = 16 by rw [List.length_take, List.length_drop]; omega]
theorem tv_full (r : Nat) (l : List UInt8) : ∀ m, 16 * m ≤ l.length → tv r l m = Pol.hashN r l m
  | 0, _ => rfl
  | m + 1, h => by
    simp only [tv, Pol.hashN]
    rw [tv_full r l m (by omega), blk_full (by omega)]
    rfl
theorem tv_is (r : Poly.L) (l : List UInt8) : tv (Poly.val r) l ((l.length + 15) / 16) = Pol.hashL r l := by
  by_cases h : l.length % 16 = 0
  · rw [Pol.hash_full r h, show (l.length + 15) / 16 = l.length / 16 by omega]
    exact tv_full _ _ _ (by omega)
  · rw [show (l.length + 15) / 16 = l.length / 16 + 1 by omega]
    unfold Pol.hashL Pol.finL
    rw [if_pos (by omega), Poly.next_mod]
    simp only [tv]
    rw [tv_full _ _ _ (by omega), show blk l (16 * (l.length / 16)) = Poly.le (l.drop (16 * (l.length / 16))) + 256 ^ (l.length % 16) by
      unfold blk
      rw [List.take_of_length_le (by rw [List.length_drop]; omega), List.length_drop, show l.length - 16 * (l.length / 16) = l.length % 16 by omega]]
    unfold Pol.sumL
    show _ % Poly.P = _
    rw [Nat.mul_mod, Nat.add_mod, ← Pol.sumN_mod r l]
    conv => rhs; rw [Nat.mul_mod, Nat.add_mod]
    rw [Nat.mod_mod]
set_option maxRecDepth 100000 in
theorem RClamp_ev : ∀ key : List Int, key.length = 32 → Ev.ans Try.prog 1000 16 #[.agg (key.map PolyI.u8).toArray] [] = some (.agg ((PolyI.rclamp key).map PolyI.u8).toArray)
  | [_, _, _, _, _, _, _, _, _, _, _, _, _, _, _, _, _, _, _, _, _, _, _, _, _, _, _, _, _, _, _, _], _ => by kernel_rfl
theorem r15_all : ∀ n : Nat, n < 256 → PolyI.rclamp.r15 (n : Int) = (((UInt8.ofNat n) &&& 15).toNat : Int) := by decide +kernel
theorem r252_all : ∀ n : Nat, n < 256 → PolyI.rclamp.r252 (n : Int) = (((UInt8.ofNat n) &&& 252).toNat : Int) := by decide +kernel
theorem r15_is (a : UInt8) : PolyI.rclamp.r15 (a.toNat : Int) = ((a &&& 15).toNat : Int) := by
  have h := r15_all a.toNat a.toNat_lt
  rwa [UInt8.ofNat_toNat] at h
theorem r252_is (a : UInt8) : PolyI.rclamp.r252 (a.toNat : Int) = ((a &&& 252).toNat : Int) := by
  have h := r252_all a.toNat a.toNat_lt
  rwa [UInt8.ofNat_toNat] at h
theorem rclamp_is : ∀ key : List UInt8, key.length = 32 → PolyI.rclamp (PolyI.nums key) = PolyI.nums (Pol.clampB key)
  | [_, _, _, _, _, _, _, _, _, _, _, _, _, _, _, _, _, _, _, _, _, _, _, _, _, _, _, _, _, _, _, _], _ => by
    simp only [PolyI.nums, List.map_cons, List.map_nil, PolyI.rclamp, Pol.clampB, r15_is, r252_is]
theorem RClamp_any {key : List UInt8} (h : key.length = 32) (w : World) : Calls Try.prog 16 #[arr8 key] w fun e w1 => e = .returned (arr8 (Pol.clampB key)) ∧ Below w.heap.size w w1 := by
  have hev := RClamp_ev (PolyI.nums key) (by simp [PolyI.nums, h])
  rw [show (PolyI.nums key).map PolyI.u8 = key.map bv from Pol.cells_nums key, rclamp_is key h, show (PolyI.nums (Pol.clampB key)).map PolyI.u8 = (Pol.clampB key).map bv from Pol.cells_nums _] at hev
  exact Ev.calls_ans (l := []) Pol.mixed (by decide) (by simp) (by simp) (Pol.flat_args (Pol.one_flat key)) hev (Pol.flat2_bv _)
theorem tag_is {key : List UInt8} (h : key.length = 32) (l : List UInt8) : Poly.bytes16 (tv (Poly.le (Pol.clampB key)) l ((l.length + 15) / 16) + Poly.le (key.drop 16)) = Pol.tagK key l := by
  rw [Pol.tagK_is h, ← tv_is]
  unfold Pol.rOf
  rw [Poly.limbs_val]
/-- The low sixteen digits, byte by byte. -/
def outB (n : List Nat) (i : Nat) : List UInt8 := (List.range 16).map fun j => if j < i then UInt8.ofNat (n.getD j 0) else 0
theorem outB_zero (n : List Nat) : outB n 0 = List.replicate 16 0 := by
  unfold outB
  simp
  rfl
theorem outB_length (n : List Nat) (i : Nat) : (outB n i).length = 16 := by simp [outB]
theorem outB_set (n : List Nat) (i x : Nat) (hi : i < 16) (hx : n[i]? = some x) : (outB n i).set i (UInt8.ofNat x) = outB n (i + 1) := by
  apply List.ext_getElem?
  intro j
  rw [List.getElem?_set]
  unfold outB
  simp only [List.length_map, List.length_range, List.getElem?_map]
  by_cases hj : i = j
  · subst hj
    rw [if_pos rfl, if_pos hi, List.getElem?_range hi]
    simp [List.getD_eq_getElem?_getD, hx]
  · rw [if_neg hj]
    by_cases hj2 : j < 16
    · rw [List.getElem?_range hj2]
      simp only [Option.map_some]
      congr 1
      by_cases h3 : j < i
      · rw [if_pos h3, if_pos (by omega)]
      · rw [if_neg h3, if_neg (by omega)]
    · rw [List.getElem?_eq_none (by simp; omega)]
      simp
theorem val_digit : ∀ (n : List Nat) (j : Nat), (∀ x ∈ n, x < 256) → val n / 256 ^ j % 256 = n.getD j 0
  | [], j, _ => by simp [val]
  | x :: n, 0, h => by
    have := h x (by simp)
    simp only [val, Nat.pow_zero, Nat.div_one, List.getD_cons_zero]
    omega
  | x :: n, j + 1, h => by
    have hx := h x (by simp)
    rw [List.getD_cons_succ, ← val_digit n j (fun y hy => h y (by simp [hy])), Nat.pow_succ, Nat.mul_comm, ← Nat.div_div_eq_div_mul]
    simp only [val]
    congr 2
    omega
theorem out_all {n : List Nat} {i : Nat} (h : ∀ x ∈ n, x < 256) (hi : i = 16 ∨ n.length ≤ i) : outB n i = Poly.bytes16 (val n) := by
  unfold outB Poly.bytes16
  apply List.map_congr_left
  intro j hj
  have hj16 : j < 16 := List.mem_range.1 hj
  have h1 : UInt8.ofNat (val n / 256 ^ j) = UInt8.ofNat (n.getD j 0) := by
    rw [← val_digit n j h]
    apply UInt8.toNat_inj.1
    simp
  rw [h1]
  by_cases hji : j < i
  · rw [if_pos hji]
  · rw [if_neg hji]
    have : n.getD j 0 = 0 := by
      rw [List.getD_eq_getElem?_getD, List.getElem?_eq_none (by omega)]
      rfl
    rw [this]
    rfl
end Go.Proofs.Ytpllbnioncjhaaa.PRef
