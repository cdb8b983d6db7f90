/- Sealing: Seal. -/
import Derived.Test.YtpllbnioncjhaaaAeadCalls
namespace Go.Proofs.Ytpllbnioncjhaaa
open Go.RowKit
namespace Aead
open Pol (own mixed laid)
theorem bs_row {w : World} {k n : Nat} {t : TypeId} {l : List UInt8} (hl : (l.map bv).length = n) (h : Row w k (l.map bv) t) : Bs w w.heap.size (.slice (some ⟨k, 0, none⟩) n n) l := by
  rw [List.length_map] at hl
  exact hl ▸ Row.bs h h.lt
set_option maxRecDepth 100000 in
set_option maxHeartbeats 1000000 in
theorem Seal_long (key nonce : List UInt8) (A1 A2 : Option Addr) (n1 n2 c1 c2 : Nat) (h : 65536 < n1 ∨ 65536 < n2) (w : World) :
    Calls Try.prog 19 #[arr8 key, arr8 nonce, .slice A1 n1 c1, .slice A2 n2 c2] w fun e w' => e = .returned (.tuple #[.slice none 0 0, .int .i64 3]) ∧ Below w.heap.size w w' := by
  unfold arr8
  by_cases h1 : 65536 < n1
  · have h1' : (65536 : Int) < (n1 : Int) := by omega
    go_enter Try.func19, Try.ntmps19
    go_wp2
    go_ret2
    exact ⟨rfl, ((Below.refl _ w).alloc (Nat.le_refl _) _).alloc (by simp) _⟩
  · have h1' : ¬ (65536 : Int) < (n1 : Int) := by omega
    have h2' : (65536 : Int) < (n2 : Int) := by omega
    go_enter Try.func19, Try.ntmps19
    go_wp2
    go_ret2
    exact ⟨rfl, ((Below.refl _ w).alloc (Nat.le_refl _) _).alloc (by simp) _⟩
set_option maxRecDepth 100000 in
set_option maxHeartbeats 1000000 in
theorem Seal_ok (key nonce plain along : List UInt8) (v1 v2 : Value) (hk : key.length = 32) (hn : nonce.length = 12) (w : World) (hp : Bs w w.heap.size v1 plain) (ha : Bs w w.heap.size v2 along) (hpl : plain.length ≤ 65536) (hal : along.length ≤ 65536) :
    Calls Try.prog 19 #[arr8 key, arr8 nonce, v1, v2] w fun e w' => ∃ v, e = .returned (.tuple #[v, .int .i64 0]) ∧ Own w' w.heap.size v (sealed key nonce plain along) ∧ Below w.heap.size w w' := by
  obtain ⟨A1, c1, rfl, hc1, hcs1⟩ := id hp
  obtain ⟨A2, c2, rfl, hc2, hcs2⟩ := id ha
  have Hk := Lib.hid hk
  have Hn := Lib.hid hn
  have Hkl := Lib.hid (show (key.map bv).length = 32 by rw [List.length_map]; exact hk)
  have Hnl := Lib.hid (show (nonce.map bv).length = 12 by rw [List.length_map]; exact hn)
  have Hp := Lib.hid hp
  have Ha := Lib.hid ha
  have Hpl := Lib.hid hpl
  have Hal := Lib.hid hal
  have h1' : ¬ (65536 : Int) < (plain.length : Int) := by omega
  have h2' : ¬ (65536 : Int) < (along.length : Int) := by omega
  obtain ⟨C, hC⟩ : ∃ C, Cha.xor key 1#32 nonce plain = C := ⟨_, rfl⟩
  obtain ⟨T, hT⟩ : ∃ T, tag key nonce C along = T := ⟨_, rfl⟩
  have HC := Lib.hid hC
  have HT := Lib.hid hT
  have HCl := Lib.hid (show C.length = plain.length by rw [← hC]; exact Cha.xor_length _ _ _ _)
  have HTl := Lib.hid (show (T.map bv).length = 16 by rw [List.length_map, ← hT]; exact tag_length _ _ _ _)
  have hS : sealed key nonce plain along = C ++ T := by unfold sealed; rw [hC, hT]
  rw [hS]
  clear hk hn hp ha hcs1 hcs2 hpl hal hC hT hS
  unfold arr8
  go_enter Try.func19, Try.ntmps19
  go_wp2_with (first
    | (refine wpList_loadRow (n := 32) (cs := key.map bv) rfl 24 _ rfl rfl ((Row.new rfl rfl).alloc _) Try.underlying24 rfl (by kernel_rfl) Hkl.out ?_)
    | (refine wpList_loadRow (n := 12) (cs := nonce.map bv) rfl 25 _ rfl rfl (Row.new (by simp) rfl) Try.underlying25 rfl (by kernel_rfl) Hnl.out ?_)
    | fail)
  obtain ⟨W, hW⟩ : ∃ W, (w.alloc (.cells (key.map bv).toArray 24)).alloc (.cells (nonce.map bv).toArray 25) = W := ⟨_, rfl⟩
  have hWb : Below w.heap.size w W := hW ▸ ((Below.refl _ w).alloc (Nat.le_refl _) _).alloc (by simp) _
  have hWs : W.heap.size = w.heap.size + 2 := by rw [← hW]; simp
  have hWk : Row W w.heap.size (key.map bv) 24 := hW ▸ (Row.new rfl rfl).alloc _
  have hWn : Row W (w.heap.size + 1) (nonce.map bv) 25 := hW ▸ Row.new (by simp) rfl
  show Calls _ _ _ ((w.alloc (.cells (key.map bv).toArray 24)).alloc (.cells (nonce.map bv).toArray 25)) _
  rw [hW]
  clear hW
  refine (Xor_ok key nonce plain (.slice A1 plain.length c1) 1#32 Hk.out Hn.out W ((Hp.out.below hWb).more hWb.size) (by have := Hpl.out; omega) (by have := Hpl.out; unfold Cha.long; show ¬ _ < _; simp; omega)).mono ?_
  rw [HC.out]
  rintro e w1 ⟨v1, rfl, ho1, hb1⟩
  have Ho1 := Lib.hid (ho1.less hWb.size)
  have HK1 := Lib.hid (hWk.below hb1 (by omega))
  have HN1 := Lib.hid (hWn.below hb1 (by omega))
  have Hb1 := Lib.hid (nextB hWb (Nat.le_refl _) hb1)
  have Hs1 := Lib.hid (show w.heap.size + 2 ≤ w1.heap.size by have := hb1.size; omega)
  clear hWb hWs hWk hWn hb1 ho1
  go_wp2_with (first
    | (refine wpList_loadRow (n := 32) (cs := key.map bv) rfl 24 _ rfl rfl HK1.out Try.underlying24 rfl (by kernel_rfl) Hkl.out ?_)
    | (refine wpList_loadRow (n := 12) (cs := nonce.map bv) rfl 25 _ rfl rfl HN1.out Try.underlying25 rfl (by kernel_rfl) Hnl.out ?_)
    | fail)
  refine (ATag_any key nonce C along v1 (.slice A2 along.length c2) Hk.out Hn.out w1 Ho1.out.bs ((Ha.out.below Hb1.out).more Hb1.out.size) (by have := HCl.out; have := Hpl.out; omega) (by have := Hal.out; omega)).mono ?_
  rw [HT.out]
  rintro e w2 ⟨rfl, hb2⟩
  have Ho2 := Lib.hid (Ho1.out.below hb2 (Nat.le_refl _))
  have Hb2 := Lib.hid (nextB Hb1.out (Nat.le_refl _) hb2)
  have Hs2 := Lib.hid (Nat.le_trans Hs1.out hb2.size)
  clear hb2
  unfold arr8
  go_wp2_with (first
    | (refine wpList_storeRow (n := 16) rfl 35 _ _ rfl rfl rfl (cs := T.map bv) (old := (List.replicate 16 (0 : UInt8)).map bv) (g := w2.heap.size) (Row.new rfl rfl) (by kernel_rfl) HTl.out (by simp) (bytes_one _) ?_
       obtain ⟨w3, hw3⟩ : ∃ w3, (w2.alloc (.cells ((List.replicate 16 (0 : UInt8)).map bv).toArray 35)).setRow w2.heap.size (T.map bv).toArray = w3 := ⟨_, rfl⟩
       have HR3 := Lib.hid (show Row w3 w2.heap.size (T.map bv) 35 from hw3 ▸ (Row.new (cs := (List.replicate 16 (0 : UInt8)).map bv) rfl rfl).setRow _)
       have hb23 : Below w2.heap.size w2 w3 := hw3 ▸ below_setRow ((Below.refl _ w2).alloc (Nat.le_refl _) _) (Nat.le_refl _) _
       have Hb23 := Lib.hid hb23
       refine wpList_world hw3 ?_
       clear hw3 hb23)
    | (at_builtin; refine wpList_app_bytes _ rfl _ _ rfl rfl (Ho2.out.below Hb23.out (Nat.le_refl _)) rfl (bs_row HTl.out HR3.out) (by have := HTl.out; have := HCl.out; have := Hpl.out; rw [List.length_map] at *; omega) (Nat.le_trans Hb2.out.size Hb23.out.size) ?_; intro v4 w4 ho4 hg4 _)
    | fail)
  go_ret2
  refine ⟨_, rfl, ho4, ?_⟩
  have hb3 := nextB Hb2.out (Nat.le_refl _) Hb23.out
  exact hb3.grown hg4 hb3.size (fun k hk => ((Ho2.out.below Hb23.out (Nat.le_refl _)).block_ge hk).1)
end Aead
end Go.Proofs.Ytpllbnioncjhaaa
