/- Texts that the proofs share: OctMake, OctBlock. -/
import Derived.Test.YtedmogacklbcmaaGreatDoorS00
import Derived.Test.YtedmogacklbcmaaGreatDoorS18
import Derived.Outline
import Derived.Lib.Hide
import Derived.Test.YtedmogacklbcmaaGreatDoorShelf
namespace Go.Proofs.YtedmogacklbcmaaGreatDoor
open Go.RowKit
set_option maxHeartbeats 400000 in
theorem withRoom_any (b : Value) (l : List UInt8) (r : Int) (w : World) (hb : Bs w w.heap.size b l) (h0 : 0 ≤ r) (hr : r ≤ 70368744177664) (hl : l.length ≤ 35184372088832) :
 Calls Tryz.prog 116 #[b, .int .i64 r] w fun e w' => ∃ v, e = .returned v ∧ Own w' w.heap.size v l ∧ Below w.heap.size w w' := by
 obtain ⟨A, c, rfl, hc, hcs⟩ := hb
 obtain ⟨i, hi, hz, hs, hby⟩ := info_u8
 obtain ⟨n, rfl⟩ := Int.eq_ofNat_of_zero_le h0
 have hbs : Bs w w.heap.size (.slice A l.length c) l := ⟨A, c, rfl, hc, hcs⟩
 have Hbs := Lib.hid hbs
 clear hcs hbs
 go_enter Tryz.func116, Tryz.ntmps116
 go_wp2_with (first
  | (at_make; refine wpList_make_own _ rfl _ _ 38 rfl w.heap.size 5 i (.int .u8 0) 1 Tryz.underlying38 hi hz hs _ _ _ (l.length + n) rfl rfl (by simp) (by rw [hby]; omega) (by unfold maxLen; omega) (Nat.le_refl _) ?_; intro w1 hown1 hg1)
  | (at_builtin; refine wpList_app_bytes _ rfl _ _ rfl rfl (l := []) hown1 rfl (Hbs.out.grown hg1 (Nat.le_refl _) (by simp)) (by simp; omega) hg1.size ?_; intro v2 w2 hown2 hg2 hblk2))
 go_ret
 exact ⟨v2, rfl, by simpa using hown2, ((Below.refl _ _).grown hg1 (Nat.le_refl _) (by simp)).grown hg2 hg1.size (fun k hk => by have hk' : some w.heap.size = some k := hk; injection hk' with hk'; omega)⟩
theorem Bs.one (w : World) (V : Value) (u : UInt8) (hV : V = bv u) : Bs (w.alloc (.cells #[V] 5)) (w.heap.size + 1) (.slice (some ⟨w.heap.size, 0, none⟩) 1 1) [u] :=
 ⟨_, 1, rfl, by simp, fun _ => ⟨w.heap.size, 0, rfl, by omega, fun i x hx => by
  cases i with
  | zero => simp at hx; subst hx; rw [World.cell?_alloc_at _ _ _ _ rfl, hV]; rfl
  | succ i => simp at hx⟩⟩
theorem byte_shift (x j : Nat) (hx : x < 2 ^ 64) (hj : j ≤ 7) : Value.int .u8 (IntKind.u8.wrap ((x : Int) / 2 ^ (8 * j))) = bv (UInt8.ofNat (x / 256 ^ j % 256)) := by
 have h1 : ((x : Int) / 2 ^ (8 * j)) = ((x / 256 ^ j : Nat) : Int) := by
  rw [show (256 : Nat) ^ j = 2 ^ (8 * j) by rw [Nat.pow_mul]]
  simp
 rw [h1, IntKind.wrap_u8']
 unfold bv
 simp [UInt8.toNat_ofNat']
set_option maxHeartbeats 400000 in
theorem appendNumber_any (b : Value) (l : List UInt8) (x : Nat) (base : Nat) (w : World) (hb : Own w base b l) (hx : x < 2 ^ 64) (hl : l.length ≤ 105553116266496) (hbase : base ≤ w.heap.size) :
 Calls Tryz.prog 115 #[b, .int .u64 x] w fun e w' => ∃ v, e = .returned v ∧ Own w' base v (l ++ Oct.enc x) ∧ Below base w w' := by
 obtain ⟨hn8, hxn, _⟩ := Oct.nsize_spec x hx
 have hbl : Lib.bitLen x ≤ 64 := Lib.bitLen_le x 64 (by omega) hx
 have hns : Oct.nsize x = (Lib.bitLen x + 7) / 8 := rfl
 have hsz : ((Lib.bitLen x : Int) + 7) / 8 = (Oct.nsize x : Int) := by rw [hns]; omega
 have HV : Hid (Value.int .u8 (((Lib.bitLen x : Int) + 7) / 8) = bv (UInt8.ofNat (Oct.nsize x))) := by
  unfold Hid bv
  rw [hsz, UInt8.toNat_ofNat', Nat.mod_eq_of_lt (by omega)]
 have Hsz := Lib.hid hsz
 clear hns hsz
 have Hb := Lib.hid hb
 clear hb
 go_enter Tryz.func115, Tryz.ntmps115
 go_wp2_with (first
  | (go_at_call 123; refine (Tryz.bits_Len64 (x : Int) _ (by omega) (by omega)).mono ?_; rintro e w' ⟨rfl, rfl⟩)
  | (at_builtin; refine wpList_app_bytes _ rfl _ _ rfl rfl (Hb.out.alloc _) rfl (Bs.one _ _ _ HV.out) (by simp; omega) (by simp; omega) ?_; intro v1 w1 hown1 hg1 hblk1))
 have hb1 : Below base w' w1 := ((Below.refl base w').alloc hbase _).grown hg1 (by simp; omega) (fun k hk => (Hb.out.block_ge hk).1)
 clear hg1 hblk1
 have Hown1 := Lib.hid hown1
 clear hown1
 go_loopw [0, 6] (fun v i wr => ∃ j : Nat, j ≤ Oct.nsize x ∧ i = .int .i64 ((j : Int) - 1) ∧ Own wr base v (l ++ [UInt8.ofNat (Oct.nsize x)] ++ Oct.bytesBE (Oct.nsize x - j) (x / 256 ^ j)) ∧ Below base w' wr ∧ base ≤ wr.heap.size) (fun _ i _ => (intOf i + 1).toNat)
 case atStart =>
  refine ⟨Oct.nsize x, Nat.le_refl _, by rw [Hsz.out], ?_, hb1, Nat.le_trans hbase hb1.size⟩
  rw [Nat.sub_self]
  simpa [Oct.bytesBE] using Hown1.out
 case round =>
  obtain ⟨j, hj, hi, hown, hbel, hbs⟩ := hrel
  have Hown := Lib.hid hown
  clear hown
  cases j with
  | zero =>
    have hi' : u6 = .int .i64 (-1) := hi
    subst hi'
    go_wp2
    go_ret
    have := Hown.out
    rw [Nat.sub_zero, Nat.pow_zero, Nat.div_one] at this
    exact ⟨_, rfl, by simpa [Oct.enc] using this, hbel⟩
  | succ j =>
    have hi' : u6 = .int .i64 (j : Int) := by rw [hi]; congr 1; omega
    clear hi
    subst hi'
    have h1 : (j : Int) ≤ 7 := by omega
    go_wp2_with (at_builtin; refine wpList_app_bytes _ rfl _ _ rfl rfl (Hown.out.alloc _) rfl (Bs.one _ _ _ (byte_shift x j hx (by omega))) (by simp [Oct.bytesBE_length]; omega) (by simp; omega) ?_; intro v2 w2 hown2 hg2 hblk2)
    go_roundw
    case rel =>
     have hb2 : Below base w' w2 := (hbel.alloc hbs _).grown hg2 (by simp; omega) (fun k hk => (Hown.out.block_ge hk).1)
     refine ⟨j, by omega, rfl, ?_, hb2, Nat.le_trans hbase hb2.size⟩
     have e : Oct.bytesBE (Oct.nsize x - j) (x / 256 ^ j) = Oct.bytesBE (Oct.nsize x - (j + 1)) (x / 256 ^ (j + 1)) ++ [UInt8.ofNat (x / 256 ^ j % 256)] := by
      rw [show Oct.nsize x - j = (Oct.nsize x - (j + 1)) + 1 by omega, Oct.bytesBE, Nat.div_div_eq_div_mul, ← Nat.pow_succ]
     rw [e, ← List.append_assoc]
     exact hown2
    case measure => simp [intOf]
set_option maxHeartbeats 400000 in
theorem Number_any (b : Value) (l : List UInt8) (x : Nat) (w : World) (hb : Bs w w.heap.size b l) (hx : x < 2 ^ 64) (hl : l.length ≤ 35184372088832) :
 Calls Tryz.prog 108 #[b, .int .u64 x] w fun e w' => ∃ v, e = .returned v ∧ Own w' w.heap.size v (l ++ Oct.enc x) ∧ Below w.heap.size w w' := by
 have Hb := Lib.hid hb
 clear hb
 go_enter Tryz.func108, Tryz.ntmps108
 go_wp2_with (first
  | (go_at_call 116; refine (withRoom_any _ l _ _ Hb.out (by omega) (by omega) hl).mono ?_; rintro e w1 ⟨v1, rfl, hown1, hb1⟩)
  | (go_at_call 115; refine (appendNumber_any _ l x w.heap.size _ hown1 hx (by omega) hb1.size).mono ?_; rintro e w2 ⟨v2, rfl, hown2, hb2⟩))
 go_ret
 exact ⟨v2, rfl, hown2, hb1.trans hb2⟩
end Go.Proofs.YtedmogacklbcmaaGreatDoor
namespace Go.Proofs.YtedmogacklbcmaaGreatDoor
open Go.RowKit
set_option maxHeartbeats 400000 in
theorem Block_ok (b : Value) (p : Value) (l m : List UInt8) (w : World) (hb : Bs w w.heap.size b l) (hp : Bs w w.heap.size p m) (hm : m.length ≤ 1048576) (hl : l.length ≤ 35184372088832) : Calls Tryz.prog 109 #[b, p] w fun e w' =>
 ∃ v, e = .returned (.tuple #[v, .int .i64 0]) ∧ Own w' w.heap.size v (l ++ Oct.enc m.length ++ m) ∧ Below w.heap.size w w' := by
 have Hp := Lib.hid hp
 obtain ⟨A, c, rfl, hc, hcs⟩ := hp
 clear hcs
 have hm' : ¬ (1048576 : Int) < (m.length : Int) := by omega
 have Hb := Lib.hid hb
 clear hb
 go_enter Tryz.func109, Tryz.ntmps109
 go_wp2_with (first
  | (go_at_call 116; refine (withRoom_any _ l _ _ Hb.out (by omega) (by omega) hl).mono ?_; rintro e w1 ⟨v1, rfl, hown1, hb1⟩)
  | (go_at_call 115; refine (appendNumber_any _ l m.length w.heap.size _ hown1 (by omega) (by omega) hb1.size).mono ?_; rintro e w2 ⟨v2, rfl, hown2, hb2⟩)
  | (at_builtin; refine wpList_app_bytes _ rfl _ _ rfl rfl hown2 rfl (Hp.out.below (hb1.trans hb2)) (by rw [List.length_append, Oct.enc_length]; have := (Oct.nsize_spec m.length (by omega)).1; omega) (hb1.trans hb2).size ?_; intro v3 w3 hown3 hg3 hblk3))
 go_ret2
 exact ⟨v3, rfl, hown3, (hb1.trans hb2).grown hg3 (hb1.trans hb2).size (fun k hk => (hown2.block_ge hk).1)⟩
end Go.Proofs.YtedmogacklbcmaaGreatDoor
