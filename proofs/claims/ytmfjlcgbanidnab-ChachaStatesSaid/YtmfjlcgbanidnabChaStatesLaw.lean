/- Each byte of key, counter and nonce is in a word of its own position: 'drawbridgelaw02.ChachaStates', for every argument. -/
import Derived.Test.YtmfjlcgbanidnabChaState
import Derived.Test.YtmfjlcgbanidnabChaBlock
import Derived.Test.YtmfjlcgbanidnabChaStream
import Derived.Test.YtmfjlcgbanidnabChaPlace
import Derived.Test.YtmfjlcgbanidnabChaLives
namespace Go.Proofs.Ytmfjlcgbanidnab.chachaStates
open Go.ChangeShapes Go.WideShapes Go.ChangeAt Go.RowKit
open Cha (own mixed laid)

theorem shl_wrap (u : UInt8) (q : Nat) : IntKind.u32.wrap (IntKind.u32.wrap (u.toNat : Int) * 2 ^ min (IntKind.u64.wrap (IntKind.i64.wrap (8 * (q : Int).tmod 4))).toNat 32) = ((wb u <<< (8 * (q % 4))).toNat : Int) := by
  have hu := u.toNat_lt
  have h1 : (q : Int).tmod 4 = ((q % 4 : Nat) : Int) := by rw [Int.tmod_eq_emod_of_nonneg (by omega)]; omega
  have hr : q % 4 < 4 := by omega
  generalize q % 4 = r at *
  rw [h1, IntWalk.i64_in _ (by omega)]
  have h2 : IntKind.u64.wrap (8 * (r : Int)) = 8 * (r : Int) := by
    obtain rfl | rfl | rfl | rfl : r = 0 ∨ r = 1 ∨ r = 2 ∨ r = 3 := by omega
    all_goals rfl
  rw [h2, wrap_u32_lt _ (by omega), show (8 * (r : Int)).toNat = 8 * r by omega, Nat.min_eq_left (by omega), BitVec.toNat_shiftLeft, Nat.shiftLeft_eq]
  have h3 : (wb u).toNat = u.toNat := by unfold wb; rw [BitVec.toNat_ofNat]; omega
  rw [h3]
  obtain rfl | rfl | rfl | rfl : r = 0 ∨ r = 1 ∨ r = 2 ∨ r = 3 := by omega
  all_goals
    simp only [IntKind.wrap, IntKind.bits, IntKind.signed]
    simp
  all_goals omega

set_option maxRecDepth 8000 in
set_option maxHeartbeats 2000000 in
theorem walk (key nonce : List UInt8) (c : BitVec 32) (n : Int) (u : UInt8) (hk : key.length = 32) (hn : nonce.length = 12) (hr : -9223372036854775808 ≤ n ∧ n ≤ 9223372036854775807) (w : World) :
    Calls Try.prog 4 #[arr8 key, wv c, arr8 nonce, .int .i64 n, .int .u8 (u.toNat : Int)] w fun e w' => e = .returned (.bool true) ∧ Below w.heap.size w w' := by
  have Hkl := Lib.hid (show (key.map bv).length = 32 by simpa using hk)
  have Hnl := Lib.hid (show (nonce.map bv).length = 12 by simpa using hn)
  have Hk := Lib.hid hk
  have Hn := Lib.hid hn
  have Hr := Lib.hid hr
  clear hk hn hr
  unfold arr8
  go_enter Try.func4, Try.ntmps4
  have hb1 : Below w.heap.size w ((w.alloc (.cells (key.map bv).toArray 22)).alloc (.cells (nonce.map bv).toArray 24)) := ((Below.refl _ w).alloc (Nat.le_refl _) _).alloc (by simp) _
  have hk1 : Row ((w.alloc (.cells (key.map bv).toArray 22)).alloc (.cells (nonce.map bv).toArray 24)) w.heap.size (key.map bv) 22 := (Row.new rfl rfl).alloc _
  have hn1 : Row ((w.alloc (.cells (key.map bv).toArray 22)).alloc (.cells (nonce.map bv).toArray 24)) (w.heap.size + 1) (nonce.map bv) 24 := Row.new (by simp) rfl
  have hsz : ((w.alloc (.cells (key.map bv).toArray 22)).alloc (.cells (nonce.map bv).toArray 24)).heap.size = w.heap.size + 2 := by simp
  have Hb1 := Lib.hid hb1
  have Hk1 := Lib.hid hk1
  have Hn1 := Lib.hid hn1
  have Hsz := Lib.hid hsz
  clear hb1 hk1 hn1 hsz
  go_wp2_with fail
  refine (Cha.lives_any _).mono ?_
  rintro e w2 ⟨rfl, hb2⟩
  have hb02 := nextB Hb1.out (Nat.le_refl _) hb2
  have Hk2 := Lib.hid (Hk1.out.below hb2 (by rw [Hsz.out]; omega))
  have Hn2 := Lib.hid (Hn1.out.below hb2 (by rw [Hsz.out]; omega))
  have hsz2 : w.heap.size + 2 ≤ w2.heap.size := by have := hb2.size; rw [Hsz.out] at this; exact this
  clear hb2 Hb1 Hk1 Hn1 Hsz
  go_wp2_with fail
  refine (Pick_any n 32 w2 Hr.out (by omega)).mono ?_
  rintro e w' ⟨rfl, rfl⟩
  obtain ⟨k, hm, hk3⟩ : ∃ k : Nat, pick n 32 = (k : Int) ∧ k < 32 := by
    have := pick_in n 32 (by omega)
    exact ⟨(pick n 32).toNat, by omega, by omega⟩
  rw [hm]
  clear hm
  go_wp2_with (first
    | (refine wpList_loadRow rfl 22 _ rfl rfl Hk2.out Try.underlying22 rfl (by kernel_rfl) Hkl.out ?_)
    | (refine wpList_loadRow rfl 24 _ rfl rfl Hn2.out Try.underlying24 rfl (by kernel_rfl) Hnl.out ?_)
    | fail)
  refine (State_any key nonce c Hk.out Hn.out w2).mono ?_
  rintro e w3 ⟨rfl, hb3⟩
  have hb03 := nextB hb02 (Nat.le_refl _) hb3
  have Hk3 := Lib.hid (Hk2.out.below hb3 (by omega))
  have Hn3 := Lib.hid (Hn2.out.below hb3 (by omega))
  have hs3 : w.heap.size + 2 ≤ w3.heap.size := by have := hb3.size; omega
  clear hb3 hb02 Hk2 Hn2
  obtain ⟨sa, hsa⟩ : ∃ s, Cha.state key c nonce = s := ⟨_, rfl⟩
  have hla : sa.length = 16 := by rw [← hsa]; exact Cha.state_length _ _ _
  rw [hsa]
  have Hsa := Lib.hid hsa
  have Hla := Lib.hid hla
  have Hma := Lib.hid (show (sa.map wv).length = 16 by rw [List.length_map]; exact hla)
  clear hsa hla
  unfold arr32
  have hk0 : (0 : Int) ≤ (k : Int) := by omega
  have hk32 : (k : Int) < 32 := by omega
  go_wp2_with (first
    | (refine wpList_storeRow rfl 35 _ _ rfl rfl rfl (cs := sa.map wv) (old := (List.replicate 16 0#32).map wv) (Row.new rfl rfl) (by kernel_rfl) Hma.out (by simp) (words_one sa) ?_
       generalize hW4 : World.setRow _ _ _ = W4
       have ha4 : Row W4 w3.heap.size (sa.map wv) 35 := by rw [← hW4]; exact (Row.new (cs := (List.replicate 16 0#32).map wv) rfl rfl).setRow (sa.map wv)
       have hk4 : Row W4 w.heap.size (key.map bv) 22 := by rw [← hW4]; exact (Hk3.out.alloc _).setOther _ _ (by omega)
       have hn4 : Row W4 (w.heap.size + 1) (nonce.map bv) 24 := by rw [← hW4]; exact (Hn3.out.alloc _).setOther _ _ (by omega)
       have hb04 : Below w.heap.size w W4 := by rw [← hW4]; exact below_setRow (hb03.alloc (by omega) _) (by omega) _
       have hs4 : W4.heap.size = w3.heap.size + 1 := by rw [← hW4]; simp
       have hcell := hk4.cell (getD_cell key k (by rw [Hk.out]; omega))
       have hfr := frozen_row hk4 k
       obtain ⟨y, hy⟩ : ∃ y, key.getD k 0 = y := ⟨_, rfl⟩
       have hv : Value.int .u8 (bits .xor .u8 (y.toNat : Int) (u.toNat : Int)) = bv (y ^^^ u) := congrArg (Value.int .u8) (w8_xor y u)
       have hset := hk4.set k (Value.int .u8 (bits .xor .u8 (y.toNat : Int) (u.toNat : Int)))
       have hset2 := hset.same (cs' := (Cha.poke key k u).map bv) (by rw [hv, ← List.map_set, Cha.poke, hy])
       have Hset := Lib.hid hset2
       have Ha4 := Lib.hid (ha4.other ⟨w.heap.size, k, none⟩ (Value.int .u8 (bits .xor .u8 (y.toNat : Int) (u.toNat : Int))) (by dsimp only; omega))
       have Hn4 := Lib.hid (hn4.other ⟨w.heap.size, k, none⟩ (Value.int .u8 (bits .xor .u8 (y.toNat : Int) (u.toNat : Int))) (by dsimp only; omega))
       have Hb4 := Lib.hid (hb04.setCell (p := ⟨w.heap.size, k, none⟩) (Nat.le_refl _) (Value.int .u8 (bits .xor .u8 (y.toNat : Int) (u.toNat : Int))))
       have Hpl := Lib.hid (show (Cha.poke key k u).length = 32 by rw [Cha.poke_length, Hk.out])
       have Hpm := Lib.hid (show ((Cha.poke key k u).map bv).length = 32 by rw [List.length_map, Cha.poke_length, Hk.out])
       rw [hy] at hcell
       unfold bv at hcell
       clear hW4 ha4 hk4 hn4 hy hv hset hset2 hb04 hb03)
    | (refine wpList_loadRow rfl 22 _ rfl rfl Hset.out Try.underlying22 rfl (by kernel_rfl) Hpm.out ?_)
    | (refine wpList_loadRow rfl 24 _ rfl rfl Hn4.out Try.underlying24 rfl (by kernel_rfl) Hnl.out ?_)
    | fail)
  refine (State_any (Cha.poke key k u) nonce c Hpl.out Hn.out _).mono ?_
  rintro e w5 ⟨rfl, hb5⟩
  have hb05 := nextB Hb4.out (Nat.le_refl _) hb5
  have hsz5 : w3.heap.size + 1 ≤ w5.heap.size := by have := hb5.size; simp at this; omega
  have Hk5 := Lib.hid (Hset.out.below hb5 (by simp; omega))
  have Hn5 := Lib.hid (Hn4.out.below hb5 (by simp; omega))
  have Ha5 := Lib.hid (Ha4.out.below hb5 (by simp; omega))
  clear hb5 Hset Hn4 Ha4 hcell hfr Hb4 hs4
  obtain ⟨sb, hsb⟩ : ∃ s, Cha.state (Cha.poke key k u) c nonce = s := ⟨_, rfl⟩
  have hlb : sb.length = 16 := by rw [← hsb]; exact Cha.state_length _ _ _
  rw [hsb]
  have Hsb := Lib.hid hsb
  have Hlb := Lib.hid hlb
  have Hmb := Lib.hid (show (sb.map wv).length = 16 by rw [List.length_map]; exact hlb)
  clear hsb hlb
  unfold arr32
  go_wp2_with (first
    | (refine wpList_storeRow rfl 35 _ _ rfl rfl rfl (cs := sb.map wv) (old := (List.replicate 16 0#32).map wv) (Row.new rfl rfl) (by kernel_rfl) Hmb.out (by simp) (words_one sb) ?_
       generalize hW6 : World.setRow _ _ _ = W6
       have hb6 : Row W6 w5.heap.size (sb.map wv) 35 := by rw [← hW6]; exact (Row.new (cs := (List.replicate 16 0#32).map wv) rfl rfl).setRow (sb.map wv)
       have ha6 : Row W6 w3.heap.size (sa.map wv) 35 := by rw [← hW6]; exact (Ha5.out.alloc _).setOther _ _ (by omega)
       have hk6 : Row W6 w.heap.size ((Cha.poke key k u).map bv) 22 := by rw [← hW6]; exact (Hk5.out.alloc _).setOther _ _ (by omega)
       have hn6 : Row W6 (w.heap.size + 1) (nonce.map bv) 24 := by rw [← hW6]; exact (Hn5.out.alloc _).setOther _ _ (by omega)
       have hb06 : Below w.heap.size w W6 := by rw [← hW6]; exact below_setRow (hb05.alloc (by omega) _) (by omega) _
       have hs6 : W6.heap.size = w5.heap.size + 1 := by rw [← hW6]; simp
       have Hb6 := Lib.hid hb6
       have Ha6 := Lib.hid ha6
       have Hk6 := Lib.hid hk6
       have Hn6 := Lib.hid hn6
       clear hW6 hb6 ha6 hk6 hn6 hb05 Hk5 Hn5 Ha5)
    | fail)
  obtain ⟨ga, hga⟩ : ∃ g, w3.heap.size = g := ⟨_, rfl⟩
  obtain ⟨gb, hgb⟩ : ∃ g, w5.heap.size = g := ⟨_, rfl⟩
  rw [hga] at hsz5 hs3 Ha6 ⊢
  rw [hgb] at hsz5 hs6 Hb6 ⊢
  clear hga hgb
  have hdk : ∀ i, i < 16 → Cha.at_ sa i ^^^ Cha.at_ sb i = if i = 4 + k / 4 then wb u <<< (8 * (k % 4)) else 0#32 := fun i hi => by rw [← Hsa.out, ← Hsb.out]; exact Cha.diff_key key nonce c k u Hk.out hk3 i hi
  have Hdk := Lib.hid hdk
  clear hdk
  go_loopw [14] (fun iv wr => ∃ i : Nat, i ≤ 16 ∧ iv = .int .i64 (i : Int) ∧ Row wr gb (sb.map wv) 35 ∧ Row wr ga (sa.map wv) 35 ∧ Row wr w.heap.size ((Cha.poke key k u).map bv) 22 ∧ Row wr (w.heap.size + 1) (nonce.map bv) 24 ∧ gb < wr.heap.size ∧ Below w.heap.size w wr) (fun iv _ => 16 - (intOf iv).toNat)
  case atStart => exact ⟨0, by omega, rfl, Hb6.out, Ha6.out, Hk6.out, Hn6.out, by omega, hb06⟩
  case round =>
    obtain ⟨i, hi, rfl, hrb, hra, hrk, hrn, hlt, hbel⟩ := hrel
    have Hrb := Lib.hid hrb
    have Hra := Lib.hid hra
    have Hrk := Lib.hid hrk
    have Hrn := Lib.hid hrn
    clear hrb hra hrk hrn
    by_cases h16 : i < 16
    · have h16' : (i : Int) < 16 := by omega
      have hca := Hra.out.cell (getD_word sa i (by rw [Hla.out]; omega))
      have hcb := Hrb.out.cell (getD_word sb i (by rw [Hlb.out]; omega))
      by_cases hik : i = 4 + k / 4
      · have hd : ((i : Int) == 4 + (k : Int) / 4) = true := by rw [beq_iff_eq]; omega
        have Hik := Lib.hid hik
        clear hik
        obtain hm4 | hm4 | hm4 | hm4 : k % 4 = 0 ∨ k % 4 = 1 ∨ k % 4 = 2 ∨ k % 4 = 3 := by omega
        · have hmi : (k : Int) % 4 = 0 := by omega
          have hx : bits .xor .u32 ((Cha.at_ sa i).toNat : Int) ((Cha.at_ sb i).toNat : Int) = (u.toNat : Int) % 4294967296 := by
            rw [w_xor, Hdk.out i h16, if_pos Hik.out, hm4, w_wb]
            simp
          go_wp2
          go_quiet (fail)
          go_wp2
          go_roundw
          case rel => exact ⟨i + 1, h16, by simp, Hrb.out.drewN _, Hra.out.drewN _, Hrk.out.drewN _, Hrn.out.drewN _, hlt, below_drewN hbel _⟩
          case measure => simp [intOf]; omega
        · have hmi : (k : Int) % 4 = 1 := by omega
          have hx : bits .xor .u32 ((Cha.at_ sa i).toNat : Int) ((Cha.at_ sb i).toNat : Int) = (u.toNat : Int) % 4294967296 * 256 % 4294967296 := by
            rw [w_xor, Hdk.out i h16, if_pos Hik.out, hm4, w_wb, w_shl8]
          go_wp2
          go_quiet (fail)
          go_wp2
          go_roundw
          case rel => exact ⟨i + 1, h16, by simp, Hrb.out.drewN _, Hra.out.drewN _, Hrk.out.drewN _, Hrn.out.drewN _, hlt, below_drewN hbel _⟩
          case measure => simp [intOf]; omega
        · have hmi : (k : Int) % 4 = 2 := by omega
          have hx : bits .xor .u32 ((Cha.at_ sa i).toNat : Int) ((Cha.at_ sb i).toNat : Int) = (u.toNat : Int) % 4294967296 * 65536 % 4294967296 := by
            rw [w_xor, Hdk.out i h16, if_pos Hik.out, hm4, w_wb, w_shl16]
          go_wp2
          go_quiet (fail)
          go_wp2
          go_roundw
          case rel => exact ⟨i + 1, h16, by simp, Hrb.out.drewN _, Hra.out.drewN _, Hrk.out.drewN _, Hrn.out.drewN _, hlt, below_drewN hbel _⟩
          case measure => simp [intOf]; omega
        · have hmi : (k : Int) % 4 = 3 := by omega
          have hx : bits .xor .u32 ((Cha.at_ sa i).toNat : Int) ((Cha.at_ sb i).toNat : Int) = (u.toNat : Int) % 4294967296 * 16777216 % 4294967296 := by
            rw [w_xor, Hdk.out i h16, if_pos Hik.out, hm4, w_wb, w_shl24]
          go_wp2
          go_quiet (fail)
          go_wp2
          go_roundw
          case rel => exact ⟨i + 1, h16, by simp, Hrb.out.drewN _, Hra.out.drewN _, Hrk.out.drewN _, Hrn.out.drewN _, hlt, below_drewN hbel _⟩
          case measure => simp [intOf]; omega
      · have hd : ((i : Int) == 4 + (k : Int) / 4) = false := by rw [beq_eq_false_iff_ne]; omega
        have hx : bits .xor .u32 ((Cha.at_ sa i).toNat : Int) ((Cha.at_ sb i).toNat : Int) = 0 := by
          rw [w_xor, Hdk.out i h16, if_neg hik]
          rfl
        go_wp2
        go_quiet (fail)
        go_wp2
        go_roundw
        case rel => exact ⟨i + 1, h16, by simp, Hrb.out.drewN _, Hra.out.drewN _, Hrk.out.drewN _, Hrn.out.drewN _, hlt, below_drewN hbel _⟩
        case measure => simp [intOf]; omega
    · have h16' : ¬ (i : Int) < 16 := by omega
      have : i = 16 := by omega
      subst this
      go_wp2_with fail
      refine (Pick_any n 12 _ Hr.out (by omega)).mono ?_
      rintro e w' ⟨rfl, rfl⟩
      obtain ⟨q, hm, hq3⟩ : ∃ q : Nat, pick n 12 = (q : Int) ∧ q < 12 := by
        have := pick_in n 12 (by omega)
        exact ⟨(pick n 12).toNat, by omega, by omega⟩
      rw [hm]
      clear hm
      have hq0 : (0 : Int) ≤ (q : Int) := by omega
      have hq12 : (q : Int) < 12 := by omega
      obtain ⟨z, hz⟩ : ∃ z, nonce.getD q 0 = z := ⟨_, rfl⟩
      have hcell := Hrn.out.cell (getD_cell nonce q (by rw [Hn.out]; omega))
      have hfr := frozen_row Hrn.out q
      have hv : Value.int .u8 (bits .xor .u8 (z.toNat : Int) (u.toNat : Int)) = bv (z ^^^ u) := congrArg (Value.int .u8) (w8_xor z u)
      have Hset := Lib.hid ((Hrn.out.set q (Value.int .u8 (bits .xor .u8 (z.toNat : Int) (u.toNat : Int)))).same (cs' := (Cha.poke nonce q u).map bv) (by rw [hv, ← List.map_set, Cha.poke, hz]))
      have Ha7 := Lib.hid (Hra.out.other ⟨w.heap.size + 1, q, none⟩ (Value.int .u8 (bits .xor .u8 (z.toNat : Int) (u.toNat : Int))) (by dsimp only; omega))
      have Hb7 := Lib.hid (Hrb.out.other ⟨w.heap.size + 1, q, none⟩ (Value.int .u8 (bits .xor .u8 (z.toNat : Int) (u.toNat : Int))) (by dsimp only; omega))
      have Hk7 := Lib.hid (Hrk.out.other ⟨w.heap.size + 1, q, none⟩ (Value.int .u8 (bits .xor .u8 (z.toNat : Int) (u.toNat : Int))) (by dsimp only; omega))
      have Hbel := Lib.hid (hbel.setCell (p := ⟨w.heap.size + 1, q, none⟩) (by dsimp only; omega) (Value.int .u8 (bits .xor .u8 (z.toNat : Int) (u.toNat : Int))))
      have Hqm := Lib.hid (show ((Cha.poke nonce q u).map bv).length = 12 by rw [List.length_map, Cha.poke_length, Hn.out])
      rw [hz] at hcell
      unfold bv at hcell
      clear hv
      go_wp2_with (first
        | (refine wpList_loadRow rfl 22 _ rfl rfl Hk7.out Try.underlying22 rfl (by kernel_rfl) Hpm.out ?_)
        | (refine wpList_loadRow rfl 24 _ rfl rfl Hset.out Try.underlying24 rfl (by kernel_rfl) Hqm.out ?_)
        | fail)
      refine (State_any (Cha.poke key k u) (Cha.poke nonce q u) c Hpl.out (by rw [Cha.poke_length]; exact Hn.out) _).mono ?_
      rintro e w8 ⟨rfl, hb8⟩
      have hb08 := nextB Hbel.out (Nat.le_refl _) hb8
      have Ha8 := Lib.hid (Ha7.out.below hb8 (by simp; omega))
      have Hb8 := Lib.hid (Hb7.out.below hb8 (by simp; omega))
      have hs8 : gb < w8.heap.size := by have := hb8.size; simp at this; omega
      clear hb8 Ha7 Hb7 Hk7 Hset Hbel
      obtain ⟨sc, hsc⟩ : ∃ s, Cha.state (Cha.poke key k u) c (Cha.poke nonce q u) = s := ⟨_, rfl⟩
      have hlc : sc.length = 16 := by rw [← hsc]; exact Cha.state_length _ _ _
      rw [hsc]
      have hdn : Cha.at_ sc (13 + q / 4) ^^^ Cha.at_ sb (13 + q / 4) = wb u <<< (8 * (q % 4)) := by rw [← hsc, ← Hsb.out]; exact Cha.diff_nonce _ nonce c q u Hn.out hq3
      obtain ⟨e0, e1, e2, e3, e12⟩ := Cha.state_head key nonce c
      rw [Hsa.out] at e0 e1 e2 e3 e12
      have Hlc := Lib.hid hlc
      have Hmc := Lib.hid (show (sc.map wv).length = 16 by rw [List.length_map]; exact hlc)
      have Hdn := Lib.hid hdn
      clear hsc hlc hdn
      unfold arr32
      go_wp2_with (first
        | (refine wpList_storeRow rfl 35 _ _ rfl rfl rfl (cs := sc.map wv) (old := (List.replicate 16 0#32).map wv) (Row.new rfl rfl) (by kernel_rfl) Hmc.out (by simp) (words_one sc) ?_
           generalize hW9 : World.setRow _ _ _ = W9
           have hc9 : Row W9 w8.heap.size (sc.map wv) 35 := by rw [← hW9]; exact (Row.new (cs := (List.replicate 16 0#32).map wv) rfl rfl).setRow (sc.map wv)
           have ha9 : Row W9 ga (sa.map wv) 35 := by rw [← hW9]; exact (Ha8.out.alloc _).setOther _ _ (by omega)
           have hb9 : Row W9 gb (sb.map wv) 35 := by rw [← hW9]; exact (Hb8.out.alloc _).setOther _ _ (by omega)
           have hb09 : Below w.heap.size w W9 := by rw [← hW9]; exact below_setRow (hb08.alloc (by omega) _) (by omega) _
           clear hW9)
        | fail)
      have c12 := ha9.cell (getD_word sa 12 (by rw [Hla.out]; omega))
      have c0 := ha9.cell (getD_word sa 0 (by rw [Hla.out]; omega))
      have c1 := ha9.cell (getD_word sa 1 (by rw [Hla.out]; omega))
      have c2 := ha9.cell (getD_word sa 2 (by rw [Hla.out]; omega))
      have c3 := ha9.cell (getD_word sa 3 (by rw [Hla.out]; omega))
      have cc := hc9.cell (getD_word sc (13 + q / 4) (by rw [Hlc.out]; omega))
      have cb := hb9.cell (getD_word sb (13 + q / 4) (by rw [Hlb.out]; omega))
      rw [e12] at c12
      rw [e0] at c0
      rw [e1] at c1
      rw [e2] at c2
      rw [e3] at c3
      clear ha9 hb9 hc9 e0 e1 e2 e3 e12
      obtain ⟨j, hj⟩ : ∃ j, 13 + q / 4 = j := ⟨_, rfl⟩
      have hjI : 13 + (q : Int) / 4 = (j : Int) := by omega
      have hj16 : (j : Int) < 16 := by omega
      rw [hj] at cc cb Hdn
      clear hj
      have hw1 : IntKind.i64.wrap ((q : Int) / 4) = (q : Int) / 4 := IntWalk.i64_in _ (by omega)
      have hw2 : IntKind.i64.wrap (j : Int) = (j : Int) := IntWalk.i64_in _ (by omega)
      obtain ⟨X, hX⟩ : ∃ X : Int, X = ((wb u <<< (8 * (q % 4))).toNat : Int) := ⟨_, rfl⟩
      have hx : bits .xor .u32 ((Cha.at_ sc j).toNat : Int) ((Cha.at_ sb j).toNat : Int) = X := by rw [w_xor, Hdn.out, hX]
      have Hs := Lib.hid ((shl_wrap u q).trans hX.symm)
      clear hX
      go_quiet (fail)
      go_wp2
      go_ret
      refine ⟨?_, below_drewN hb09 _⟩
      show Ending.returned (Value.bool (X == _)) = _
      rw [Hs.out]
      simp

theorem trodAll_five {H : Type} {enc : TypeId × Value → H} {P : Program} {w : World} {base : Nat} {spare : Nat → Bool} {held : Bool} {t0 t1 t2 t3 t4 : TypeId} {args : Array Value} {ds : List (DataW H)} {ps : List MemPlace} (h : DataW.TrodAll enc P w base spare held [t0, t1, t2, t3, t4] args.toList ds ps) :
    ∃ v0 v1 v2 v3 v4 d0 d1 d2 d3 d4 p3 p4, args = #[v0, v1, v2, v3, v4] ∧ ds = [d0, d1, d2, d3, d4] ∧ DataW.Trod enc P w base spare held t3 v3 d3 p3 ∧ DataW.Trod enc P w base spare held t4 v4 d4 p4 := by
  obtain ⟨v0, vs, d0, ds', p, q, hargs, rfl, rfl, hd, hrest⟩ := trodAll_cons h
  obtain ⟨v1, vs1, d1, ds1, p1, q1, rfl, rfl, rfl, hd1, hrest1⟩ := trodAll_cons hrest
  obtain ⟨v2, vs2, d2, ds2, p2, q2, rfl, rfl, rfl, hd2, hrest2⟩ := trodAll_cons hrest1
  obtain ⟨v3, vs3, d3, ds3, p3, q3, rfl, rfl, rfl, hd3, hrest3⟩ := trodAll_cons hrest2
  obtain ⟨v4, vs4, d4, ds4, p4, q4, rfl, rfl, rfl, hd4, hrest4⟩ := trodAll_cons hrest3
  obtain ⟨rfl, rfl, rfl⟩ := trodAll_nil hrest4
  exact ⟨v0, v1, v2, v3, v4, d0, d1, d2, d3, d4, p3, p4, by cases args; simp_all, rfl, hd3, hd4⟩

set_option maxRecDepth 100000 in
theorem lift (os : Os) (started : os.Started) (H : Type) (enc : TypeId × Value → H) :
    ReturnsInHanded {} Try.checked os 4 .any (Rows.chachaStatesSpec.pre6 enc Try.prog Try.f4 Rows.chachaStatesRow.domain false) (Rows.chachaStatesSpec.post enc Try.prog Try.f4 false true false false) := by
  refine Law.lifted (C := Try.checked) 4 own started (by kernel_rfl) Try.func4 laid (by kernel_rfl) rfl Try.underlying4 rfl
    (fun ds hd => by
      have hd' : ds.length = 5 := hd
      match ds, hd' with
      | [d0, d1, d2, d3, d4], _ => rfl)
    (ChangeSpec.witness6 (enc := enc) (C := Try.checked) false ⟨#[], #[arr8 (List.replicate 32 0), .int .u32 0, arr8 (List.replicate 12 0), .int .i64 0, .int .u8 0], []⟩ 8 (by kernel_rfl) (by kernel_rfl) (by kernel_rfl) (by kernel_rfl)) ?_
  intro W args ds ps hst
  have hA : DataW.TrodAll enc Try.prog W 0 (fun _ => true) true Try.f4.params.toList args.toList ds ps := hst.trod
  have hok := hst.okw
  have hlt := hst.lt
  rw [Try.params4] at hA hok
  obtain ⟨v0, v1, v2, v3, v4, d0, d1, d2, d3, d4, p3, p4, rfl, rfl, h3, h4⟩ := trodAll_five hA
  obtain ⟨_, hv0⟩ := hok 0 22 v0 rfl rfl
  obtain ⟨_, hv1⟩ := hok 1 23 v1 rfl rfl
  obtain ⟨_, hv2⟩ := hok 2 24 v2 rfl rfl
  obtain ⟨_, hv3⟩ := hok 3 3 v3 rfl rfl
  obtain ⟨_, hv4⟩ := hok 4 5 v4 rfl rfl
  obtain ⟨key, rfl, hkl⟩ := arr8_at Try.underlying22 (by kernel_rfl) (by kernel_rfl) Try.underlying5 hv0
  obtain ⟨c, rfl⟩ := word_at Try.underlying23 hv1
  obtain ⟨nonce, rfl, hnl⟩ := arr8_at Try.underlying24 (by kernel_rfl) (by kernel_rfl) Try.underlying5 hv2
  obtain ⟨n, rfl, hn1, hn2⟩ := Law.int_at Try.underlying3 hv3 h3
  obtain ⟨z, rfl, hz1, hz2⟩ := Law.int_at Try.underlying5 hv4 h4
  have hz1' : 0 ≤ z := hz1
  have hz2' : z ≤ 255 := hz2
  have hz : z = ((UInt8.ofNat z.toNat).toNat : Int) := by
    rw [UInt8.toNat_ofNat']
    omega
  rw [hz]
  exact walk key nonce c n (UInt8.ofNat z.toNat) hkl hnl ⟨hn1, hn2⟩ W

theorem over : Rows.chachaStatesRow.holds Try.pinned (OpenSpec.ofChange Rows.chachaStatesSpec) :=
  OpenClaim.holds_of_wide 4 Try.f4 rfl rfl rfl rfl rfl rfl rfl ⟨rfl, rfl, rfl, rfl, rfl⟩ rfl rfl rfl rfl rfl (by kernel_rfl) Try.func4 (by kernel_rfl)
    (of_decide_eq_true (by kernel_rfl)) (by unfold Func.isWrapper; first | (rw [if_pos (by decide +kernel)]; kernel_rfl) | (rw [if_neg (by decide +kernel)]; exact ⟨rfl, rfl⟩))
    (fun os started H enc _ => lift os started H enc)
theorem proved : Rows.ChachaStatesSaid := over
#print axioms proved
end Go.Proofs.Ytmfjlcgbanidnab.chachaStates
