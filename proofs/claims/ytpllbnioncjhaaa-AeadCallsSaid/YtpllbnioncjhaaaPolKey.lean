/- A mac of any key: New, Clamp and Tag. -/
import Derived.Test.YtpllbnioncjhaaaPolNew
import Derived.Test.YtpllbnioncjhaaaPolWrite
import Derived.Test.YtpllbnioncjhaaaEqArr
namespace Go.Proofs.Ytpllbnioncjhaaa
open Go.RowKit
namespace Pol
open Poly (L)
def finL (r : L) (l : List UInt8) : L := if 0 < l.length % 16 then Poly.next (sumL r l) r (Poly.le (l.drop (16 * (l.length / 16))) + 256 ^ (l.length % 16)) else sumL r l
def tagL (r s : L) (l : List UInt8) : List UInt8 := Poly.bytes16 (Poly.val (Poly.red (finL r l)) + Poly.val s)
theorem MTag_any {w : World} {g : Nat} {r s : L} {l : List UInt8} (hr : Poly.Fit r) (hs : Poly.Fit s) (h : MacAt w g r s l) (hsz : l.length < 4611686018427387904) :
    Calls Try.prog 34 #[.pointer (some ⟨g, 0, none⟩)] w fun e w1 => e = .returned (arr8 (tagL r s l)) ∧ Below w.heap.size w w1 := by
  obtain ⟨rest, h1, h2, h3⟩ := h
  by_cases h0 : l.length % 16 = 0
  · have := MTag_zero h1 (sumN_loose hr l _) hr hs hsz h3 h0
    have e : fin r (sumN r l (l.length / 16)) rest l.length = finL r l := by unfold fin finL sumL; rw [if_neg (by omega), if_neg (by omega)]
    rw [e] at this
    exact this
  · have := MTag_some h1 (sumN_loose hr l _) hr hs hsz h3 (by omega)
    have e : fin r (sumN r l (l.length / 16)) rest l.length = finL r l := by unfold fin finL sumL; rw [if_pos (by omega), if_pos (by omega), h2]
    rw [e] at this
    exact this
theorem Rest.of_bs {w w1 : World} {g : Nat} {v : Value} {b : List UInt8} (h : Bs w w.heap.size v b) (hb : Below w.heap.size w w1) (hg : w.heap.size ≤ g) : Rest w1 g v b := by
  obtain ⟨A, c, rfl, hc, hcs⟩ := h
  refine ⟨A, c, rfl, hc, fun hne => ?_⟩
  obtain ⟨k, off, rfl, hk, hcell⟩ := hcs hne
  exact ⟨k, off, rfl, by omega, by have := hb.size; omega, fun i u hu => (hb.cell (p := ⟨k, off + i, none⟩) hk).trans (hcell i u hu)⟩
set_option maxRecDepth 100000
theorem keep_below {w w1 : World} {K : Nat → Prop} {lo : Nat} (h : Ev.Keep ⟨w, K⟩ w1) (hK : ∀ k, K k → lo ≤ k) (hlo : lo ≤ w.heap.size) : Below lo w w1 :=
  ⟨h.os, h.tape, h.output, h.size, fun k hk => h.block k fun e => by
    rcases e with e | e
    · have e' : w.heap.size ≤ k := e
      omega
    · have := hK k e
      omega⟩
theorem cell_freeze (w : World) (p q : Addr) (n : Nat) : (w.freeze p n).cell? q = w.cell? q := by
  unfold World.freeze
  split
  · rfl
  · unfold World.cell?
    by_cases hb : p.block = q.block
    · simp only [Array.getElem?_modify, if_pos hb]
      cases w.heap[q.block]? with
      | none => rfl
      | some o => cases o <;> rfl
    · simp only [Array.getElem?_modify, if_neg hb]
theorem below_frozen {B : Nat} {w w1 : World} (h : Below B w w1) {p : Addr} (hp : B ≤ p.block) (n : Nat) : Below B w (w1.freeze p n) := by
  refine h.trans ?_
  unfold World.freeze
  split
  · exact Below.refl _ _
  · refine ⟨rfl, rfl, rfl, by simp, fun k hk => ?_⟩
    simp only [Array.getElem?_modify]
    rw [if_neg (by omega)]
end Pol
end Go.Proofs.Ytpllbnioncjhaaa
namespace Go.Proofs.Ytpllbnioncjhaaa
open Go.RowKit
namespace Pol
open Poly (L)
set_option maxRecDepth 100000
def clampB : List UInt8 → List UInt8
  | k0 :: k1 :: k2 :: k3 :: k4 :: k5 :: k6 :: k7 :: k8 :: k9 :: k10 :: k11 :: k12 :: k13 :: k14 :: k15 :: _ => [k0, k1, k2, k3 &&& 15, k4 &&& 252, k5, k6, k7 &&& 15, k8 &&& 252, k9, k10, k11 &&& 15, k12 &&& 252, k13, k14, k15 &&& 15]
  | _ => []
theorem oand_is (a b : UInt8) : oand .u8 (a.toNat : Int) (b.toNat : Int) = ((a &&& b).toNat : Int) := by
  show IntKind.u8.wrap ((BitVec.ofInt 8 (a.toNat : Int) &&& BitVec.ofInt 8 (b.toNat : Int)).toNat : Int) = _
  simp only [BitVec.ofInt_natCast, BitVec.toNat_and, BitVec.toNat_ofNat]
  rw [Nat.mod_eq_of_lt a.toNat_lt, Nat.mod_eq_of_lt b.toNat_lt, UInt8.toNat_and]
  exact wrap_u8 _ (Nat.lt_of_le_of_lt Nat.and_le_left a.toNat_lt)
theorem c15_is (a : UInt8) : PolyI.c15 (a.toNat : Int) = ((a &&& 15).toNat : Int) := oand_is a 15
theorem c252_is (a : UInt8) : PolyI.c252 (a.toNat : Int) = ((a &&& 252).toNat : Int) := oand_is a 252
theorem clamp_is : ∀ key : List UInt8, key.length = 32 → PolyI.clamp (PolyI.nums key) = PolyI.nums (clampB key)
  | [_, _, _, _, _, _, _, _, _, _, _, _, _, _, _, _, _, _, _, _, _, _, _, _, _, _, _, _, _, _, _, _], _ => by
    simp only [PolyI.nums, List.map_cons, List.map_nil, PolyI.clamp, clampB, c15_is, c252_is]
theorem clampB_length : ∀ key : List UInt8, key.length = 32 → (clampB key).length = 16
  | [_, _, _, _, _, _, _, _, _, _, _, _, _, _, _, _, _, _, _, _, _, _, _, _, _, _, _, _, _, _, _, _], _ => rfl
def rOf (key : List UInt8) : L := Poly.limbs (Poly.le (clampB key))
def sOf (key : List UInt8) : L := Poly.limbs (Poly.le (key.drop 16))
theorem e256 : (256 : Nat) ^ 16 = 340282366920938463463374607431768211456 := by decide
theorem rOf_fit {key : List UInt8} (h : key.length = 32) : Poly.Fit (rOf key) := Poly.limbs_fit (by
  have := Poly.le_lt (clampB key)
  rw [clampB_length key h, e256] at this
  omega)
theorem sOf_fit {key : List UInt8} (h : key.length = 32) : Poly.Fit (sOf key) := Poly.limbs_fit (by
  have := Poly.le_lt (key.drop 16)
  rw [List.length_drop, h, e256] at this
  omega)
theorem number0 (l : List UInt8) (h : l.length ≤ 16) : PolyI.number (PolyI.nums l) ((0 : Nat) : Int) = PolyI.ofL (Poly.limbs (Poly.le l)) := by
  rw [PolyI.number_is l 0 (by decide) h, Nat.zero_mul, Nat.add_zero]
theorem newCells_is {key : List UInt8} (h : key.length = 32) : PolyI.newCells (PolyI.nums key) = macCells (rOf key) (sOf key) zeroL (List.replicate 16 0) 0 := by
  unfold PolyI.newCells
  rw [clamp_is key h, show (PolyI.nums key).drop 16 = PolyI.nums (key.drop 16) from List.map_drop.symm, number0 _ (by rw [clampB_length key h]; decide), number0 _ (by rw [List.length_drop]; omega)]
  rfl
theorem flat_bv (l : List UInt8) : Ev.flat (arr8 l) = true := by
  simp only [arr8, Ev.flat, List.all_map, List.all_eq_true]
  intro u _
  rfl
theorem one_flat (l : List UInt8) : [arr8 l].all Ev.flat = true := by rw [List.all_cons, flat_bv]; rfl
theorem mac_flat (r s S : L) (rest : List UInt8) (n : Nat) : (macCells r s S rest n).all Ev.flat = true := by
  have h : (rest.map bv).all Ev.flat = true := by
    rw [List.all_map, List.all_eq_true]
    intro u _
    rfl
  simp only [macCells, List.all_cons, List.all_append, h]
  rfl
theorem flat2_bv (l : List UInt8) : Ev.flat2 (arr8 l) = true := flat_bv l
theorem New_any {key : List UInt8} (h : key.length = 32) (w : World) : Calls Try.prog 32 #[arr8 key] w fun e w1 => ∃ g, e = .returned (.pointer (some ⟨g, 0, none⟩)) ∧ w.heap.size ≤ g ∧ Row w1 g (macCells (rOf key) (sOf key) zeroL (List.replicate 16 0) 0) 73 ∧ Below w.heap.size w w1 := by
  have hev := PolyI.New_ev (PolyI.nums key) (by simp [PolyI.nums, h])
  rw [show (PolyI.nums key).map PolyI.u8 = key.map bv from cells_nums key, newCells_is h] at hev
  exact Ev.calls_blk (l := []) mixed (by decide) (by simp) (by simp) (flat_args (one_flat key)) hev rfl (mac_flat _ _ _ _ _)
theorem Clamp_any {key : List UInt8} (h : key.length = 32) (w : World) : Calls Try.prog 15 #[arr8 key] w fun e w1 => e = .returned (arr8 (clampB key)) ∧ Below w.heap.size w w1 := by
  have hev := PolyI.Clamp_ev (PolyI.nums key) (by simp [PolyI.nums, h])
  rw [show (PolyI.nums key).map PolyI.u8 = key.map bv from cells_nums key, clamp_is key h, show (PolyI.nums (clampB key)).map PolyI.u8 = (clampB key).map bv from cells_nums _] at hev
  exact Ev.calls_ans (l := []) mixed (by decide) (by simp) (by simp) (flat_args (one_flat key)) hev (flat2_bv _)
/-- The tag of these bytes. -/
def tagK (key l : List UInt8) : List UInt8 := tagL (rOf key) (sOf key) l
theorem tagK_length (key l : List UInt8) : (tagK key l).length = 16 := by simp [tagK, tagL, Poly.bytes16_length]
end Pol
end Go.Proofs.Ytpllbnioncjhaaa
