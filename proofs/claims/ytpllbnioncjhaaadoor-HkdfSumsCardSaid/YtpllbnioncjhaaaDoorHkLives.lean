/- The chapter's examples: 'lives', in every world with the table. -/
import Derived.Test.YtpllbnioncjhaaaDoorHkMac
namespace Go.Proofs.YtpllbnioncjhaaaDoor
open Go.RowKit
namespace Hk
theorem cell_freeze (w : World) (p q : Addr) (n : Nat) : (w.freeze p n).cell? q = w.cell? q := by
  unfold World.freeze
  split
  · rfl
  · unfold World.cell?
    by_cases hb : p.block = q.block
    · simp only [Array.getElem?_modify, if_pos hb]
      cases w.heap[q.block]? with
      | none => rfl
      | some o => cases o <;> rfl
    · simp only [Array.getElem?_modify, if_neg hb]
theorem below_frozen {B : Nat} {w w1 : World} (h : Below B w w1) {p : Addr} (hp : B ≤ p.block) (n : Nat) : Below B w (w1.freeze p n) := by
  refine h.trans ?_
  unfold World.freeze
  split
  · exact Below.refl _ _
  · refine ⟨rfl, rfl, rfl, by simp, fun k hk => ?_⟩
    simp only [Array.getElem?_modify]
    rw [if_neg (by omega)]
theorem size_freeze (w : World) (p : Addr) (n : Nat) : (w.freeze p n).heap.size = w.heap.size := by
  unfold World.freeze
  split <;> simp
/-- '[]byte("..")' of a constant. -/
theorem conv_lit (w : World) (l : List UInt8) (n : Nat) (hn : l.length = n) (h0 : 0 < n) : ∃ m, (convert 22 22 (.slice (some ⟨w.heap.size, 0, none⟩) n n)).run Tryd.prog (w.alloc (.cells (l.map bv).toArray 5)) =
    .ok (.slice (some ⟨w.heap.size, 0, none⟩) n n) ((w.alloc (.cells (l.map bv).toArray 5)).freeze ⟨w.heap.size, m, none⟩ 1) := by
  obtain ⟨e, m, hs, _⟩ := World.shape?_of_cell? (Row.cell (w := w.alloc (.cells (l.map bv).toArray 5)) (g := w.heap.size) (i := 0) (Row.new rfl rfl) (getD_cell l 0 (by omega)))
  refine ⟨m, ?_⟩
  simp [convert, run_underlying Tryd.underlying22, run_underlying Tryd.underlying5, Ev.mark_run hs]
theorem bs_lit (w : World) (l : List UInt8) (n m : Nat) (hn : l.length = n) : Bs ((w.alloc (.cells (l.map bv).toArray 5)).freeze ⟨w.heap.size, m, none⟩ 1) (w.heap.size + 1) (.slice (some ⟨w.heap.size, 0, none⟩) n n) l := by
  subst hn
  exact ⟨_, _, rfl, Nat.le_refl _, fun _ => ⟨w.heap.size, 0, rfl, by omega, fun i u hu => by
    rw [cell_freeze]
    exact Row.cell (Row.new rfl rfl) (by rw [Nat.zero_add, List.getElem?_map, hu]; rfl)⟩⟩
theorem rep_set (i : Nat) (h : i < 20) : (List.replicate i (0x0b : UInt8) ++ List.replicate (20 - i) (0 : UInt8)).set i (0x0b : UInt8) = List.replicate (i + 1) (0x0b : UInt8) ++ List.replicate (20 - (i + 1)) (0 : UInt8) := by
  rw [List.set_append_right _ _ (by simp), List.length_replicate, Nat.sub_self, show 20 - i = (20 - (i + 1)) + 1 by omega, List.replicate_succ, List.set_cons_zero, List.replicate_succ', List.append_assoc]
  rfl
def abc : List UInt8 := [97, 98, 99]
def hi : List UInt8 := [72, 105, 32, 84, 104, 101, 114, 101]
theorem abc_sum : (Sha.sum abc).take 8 = [0xba, 0x78, 0x16, 0xbf, 0x8f, 0x01, 0xcf, 0xea] := by decide +kernel
theorem hi_mac : (Sha.mac (List.replicate 20 0x0b) hi).take 8 = [0xb0, 0x34, 0x4c, 0x61, 0xd8, 0xdb, 0x38, 0x53] := by decide +kernel
end Hk
set_option maxRecDepth 8000 in
set_option maxHeartbeats 1000000 in
theorem lives_any (w : World) (ht : Tab w) : Calls Tryd.prog 9 #[] w fun e w' => e = .returned (.bool true) ∧ Below w.heap.size w w' := by
  have Ht := Lib.hid ht
  clear ht
  obtain ⟨m1, hconv⟩ := Hk.conv_lit w Hk.abc 3 rfl (by omega)
  have hconv' : (convert 22 22 (.slice (some ⟨w.heap.size, 0, none⟩) 3 3)).run Tryd.prog (w.alloc (.cells #[.int .u8 97, .int .u8 98, .int .u8 99] 5)) = .ok (.slice (some ⟨w.heap.size, 0, none⟩) 3 3) ((w.alloc (.cells #[.int .u8 97, .int .u8 98, .int .u8 99] 5)).freeze ⟨w.heap.size, m1, none⟩ 1) := hconv
  clear hconv
  obtain ⟨W1, hW1⟩ : ∃ W1, (w.alloc (.cells #[.int .u8 97, .int .u8 98, .int .u8 99] 5)).freeze ⟨w.heap.size, m1, none⟩ 1 = W1 := ⟨_, rfl⟩
  have hb1 : Below w.heap.size w W1 := hW1 ▸ Hk.below_frozen ((Below.refl _ w).alloc (Nat.le_refl _) _) (Nat.le_refl _) 1
  have hs1 : W1.heap.size = w.heap.size + 1 := by rw [← hW1, Hk.size_freeze]; simp
  have hbs1 : Bs W1 W1.heap.size (.slice (some ⟨w.heap.size, 0, none⟩) 3 3) Hk.abc := by
    rw [hs1, ← hW1]
    exact Hk.bs_lit w Hk.abc 3 m1 rfl
  have hss1 := bss_new (n := 1) (ls := [Hk.abc]) (vs := [.slice (some ⟨w.heap.size, 0, none⟩) 3 3]) (w := W1) rfl rfl (.one hbs1)
  have htab1 : Tab (W1.alloc (.cells #[.slice (some ⟨w.heap.size, 0, none⟩) 3 3] 22)) := (Ht.out.below hb1 Ht.out.1).below ((Below.refl W1.heap.size W1).alloc (Nat.le_refl _) _) (by omega)
  have hsum1 := Sum_any _ [Hk.abc] _ htab1 hss1 (by decide) (by intro l hl; simp at hl; subst hl; decide) (by decide)
  obtain ⟨S1, hS1⟩ : ∃ S1, Sha.sum Hk.abc = S1 := ⟨_, rfl⟩
  have hS1l : S1.length = 32 := by rw [← hS1]; exact Sha.sum_length _
  have hS18 : S1.take 8 = [0xba, 0x78, 0x16, 0xbf, 0x8f, 0x01, 0xcf, 0xea] := by rw [← hS1]; exact Hk.abc_sum
  have HS18 := Lib.hid hS18
  rw [show [Hk.abc].flatten = Hk.abc by simp, hS1] at hsum1
  rw [hW1] at hconv'
  have HB1 := Lib.hid hb1
  have Hsum1 := Lib.hid hsum1
  have HS1m := Lib.hid (show (S1.map bv).length = 32 by rw [List.length_map]; exact hS1l)
  have HS1l := Lib.hid hS1l
  have hb1' : Below w.heap.size w (W1.alloc (.cells #[.slice (some ⟨w.heap.size, 0, none⟩) 3 3] 22)) := hb1.alloc hb1.size _
  have HB1' := Lib.hid hb1'
  clear hb1 hs1 hbs1 hss1 htab1 hsum1 hS1 hS1l hS18 hW1 hb1'
  go_enter Tryd.func9, Tryd.ntmps9
  go_wp2_with fail
  refine Hsum1.out.mono ?_
  rintro e w2 ⟨rfl, hb2⟩
  have HB2 := Lib.hid (nextB HB1'.out (Nat.le_refl _) hb2)
  clear hb2
  unfold arr8
  go_wp2_with (first
    | (show wpList _ _ _ (⟨none, Op.store 23 _ _, _, _, _, _⟩ :: _) _ _; refine wpList_storeRow (g := w2.heap.size) rfl 23 _ _ rfl rfl rfl (cs := S1.map bv) (old := (List.replicate 32 (0 : UInt8)).map bv) (Row.new rfl rfl) (by kernel_rfl) HS1m.out (by simp) (bytes_one S1) ?_
       have hr1 : Row ((w2.alloc (.cells ((List.replicate 32 (0 : UInt8)).map bv).toArray 23)).setRow w2.heap.size (S1.map bv).toArray) w2.heap.size (S1.map bv) 23 := (Row.new (cs := (List.replicate 32 (0 : UInt8)).map bv) rfl rfl).setRow (S1.map bv)
       have hb3 : Below w.heap.size w ((w2.alloc (.cells ((List.replicate 32 (0 : UInt8)).map bv).toArray 23)).setRow w2.heap.size (S1.map bv).toArray) := below_setRow (HB2.out.alloc HB2.out.size _) HB2.out.size _
       obtain ⟨V3, hV3⟩ : ∃ V3, (w2.alloc (.cells ((List.replicate 32 (0 : UInt8)).map bv).toArray 23)).setRow w2.heap.size (S1.map bv).toArray = V3 := ⟨_, rfl⟩
       refine wpList_in hV3 ?_
       rw [hV3] at hr1 hb3
       have Hlt1 := Lib.hid hr1.lt
       have Hr1 := Lib.hid hr1
       have HB3 := Lib.hid hb3
       clear hr1 hb3 hV3)
    | (at_make; refine wpList_make_bytes _ rfl _ _ rfl 20 rfl rfl (by omega) ?_; intro w4 hrow4 hg4
       have hb34 : Below V3.heap.size V3 w4 := (Below.refl V3.heap.size V3).grown hg4 (Nat.le_refl _) (fun k hk => by cases hk)
       have HB4 := Lib.hid (nextB HB3.out (Nat.le_refl _) hb34)
       have Hr1 := Lib.hid (Hr1.out.below hb34 Hr1.out.lt)
       have Hr4 := Lib.hid hrow4
       clear hrow4 hg4 hb34)
    | fail)
  go_loopw [3] (fun iv wr => ∃ i : Nat, i ≤ 20 ∧ iv = .int .i64 (i : Int) ∧ Row wr V3.heap.size ((List.replicate i (0x0b : UInt8) ++ List.replicate (20 - i) 0).map bv) 5 ∧ Row wr w2.heap.size (S1.map bv) 23 ∧ Below w.heap.size w wr) (fun iv _ => 20 - (intOf iv).toNat)
  case atStart => exact ⟨0, by omega, rfl, Hr4.out, Hr1.out, HB4.out⟩
  case round =>
    obtain ⟨i, hi, rfl, hr4, hr1, hb⟩ := hrel
    have Hr4 := Lib.hid hr4
    have Hr1 := Lib.hid hr1
    have Hb := Lib.hid hb
    clear hr4 hr1 hb
    have hlt3 := Hlt1.out
    have h2w := HB2.out.size
    by_cases h20 : i < 20
    · have h20' : (i : Int) < 20 := by omega
      have hcell := Hr4.out.cell (getD_cell _ i (by simp; omega))
      have hfr := frozen_row Hr4.out i
      have hset := Hr4.out.set i (bv 0x0b)
      rw [← List.map_set, Hk.rep_set i h20] at hset
      have Hset := Lib.hid hset
      clear hset
      go_wp2
      go_roundw
      case rel => exact ⟨i + 1, h20, by simp, Hset.out, Hr1.out.other _ _ (by dsimp only; omega), Hb.out.setCell (by dsimp only; omega) _⟩
      case measure => simp [intOf]; omega
    · have h20' : ¬ (i : Int) < 20 := by omega
      have : i = 20 := by omega
      subst this
      have hkey : Bs wr wr.heap.size (.slice (some ⟨V3.heap.size, 0, none⟩) 20 20) (List.replicate 20 0x0b) := by
        have h1 := Hr4.out.bs (B := wr.heap.size) Hr4.out.lt
        simpa using h1
      have Hkey := Lib.hid hkey
      clear hkey
      obtain ⟨m5, hconv5⟩ := Hk.conv_lit wr Hk.hi 8 rfl (by omega)
      have hconv5' : (convert 22 22 (.slice (some ⟨wr.heap.size, 0, none⟩) 8 8)).run Tryd.prog (wr.alloc (.cells #[.int .u8 72, .int .u8 105, .int .u8 32, .int .u8 84, .int .u8 104, .int .u8 101, .int .u8 114, .int .u8 101] 5)) = .ok (.slice (some ⟨wr.heap.size, 0, none⟩) 8 8) ((wr.alloc (.cells #[.int .u8 72, .int .u8 105, .int .u8 32, .int .u8 84, .int .u8 104, .int .u8 101, .int .u8 114, .int .u8 101] 5)).freeze ⟨wr.heap.size, m5, none⟩ 1) := hconv5
      clear hconv5
      obtain ⟨W5, hW5⟩ : ∃ W5, (wr.alloc (.cells #[.int .u8 72, .int .u8 105, .int .u8 32, .int .u8 84, .int .u8 104, .int .u8 101, .int .u8 114, .int .u8 101] 5)).freeze ⟨wr.heap.size, m5, none⟩ 1 = W5 := ⟨_, rfl⟩
      have hbr5 : Below wr.heap.size wr W5 := hW5 ▸ Hk.below_frozen ((Below.refl _ wr).alloc (Nat.le_refl _) _) (Nat.le_refl _) 1
      have hs5 : W5.heap.size = wr.heap.size + 1 := by rw [← hW5, Hk.size_freeze]; simp
      have hbs5 : Bs W5 W5.heap.size (.slice (some ⟨wr.heap.size, 0, none⟩) 8 8) Hk.hi := by
        rw [hs5, ← hW5]
        exact Hk.bs_lit wr Hk.hi 8 m5 rfl
      have hss5 := bss_new (n := 1) (ls := [Hk.hi]) (vs := [.slice (some ⟨wr.heap.size, 0, none⟩) 8 8]) (w := W5) rfl rfl (.one hbs5)
      have hb5 := nextB Hb.out (Nat.le_refl _) hbr5
      have htab5 : Tab (W5.alloc (.cells #[.slice (some ⟨wr.heap.size, 0, none⟩) 8 8] 22)) := (Ht.out.below hb5 Ht.out.1).below ((Below.refl W5.heap.size W5).alloc (Nat.le_refl _) _) (by omega)
      have hk5 := ((Hkey.out.below hbr5).alloc hbr5.size (.cells #[.slice (some ⟨wr.heap.size, 0, none⟩) 8 8] 22)).more (B' := (W5.alloc (.cells #[.slice (some ⟨wr.heap.size, 0, none⟩) 8 8] 22)).heap.size) (by simp; omega)
      have hmac5 := Mac_any _ _ (List.replicate 20 0x0b) [Hk.hi] _ htab5 hk5 (by simp) hss5 (by decide) (by intro l hl; simp at hl; subst hl; decide) (by decide)
      obtain ⟨S5, hS5⟩ : ∃ S5, Sha.mac (List.replicate 20 0x0b) Hk.hi = S5 := ⟨_, rfl⟩
      have hS5l : S5.length = 32 := by rw [← hS5]; exact Sha.sum_length _
      have hS58 : S5.take 8 = [0xb0, 0x34, 0x4c, 0x61, 0xd8, 0xdb, 0x38, 0x53] := by rw [← hS5]; exact Hk.hi_mac
      have HS58 := Lib.hid hS58
      rw [show [Hk.hi].flatten = Hk.hi by simp, hS5] at hmac5
      rw [hW5] at hconv5'
      have Hmac5 := Lib.hid hmac5
      have HS5m := Lib.hid (show (S5.map bv).length = 32 by rw [List.length_map]; exact hS5l)
      have HS5l := Lib.hid hS5l
      have HB5' := Lib.hid (hb5.alloc hb5.size (.cells #[.slice (some ⟨wr.heap.size, 0, none⟩) 8 8] 22))
      have Hr15 := Lib.hid ((Hr1.out.below hbr5 Hr1.out.lt).alloc (.cells #[.slice (some ⟨wr.heap.size, 0, none⟩) 8 8] 22))
      clear hbr5 hs5 hbs5 hss5 hb5 htab5 hk5 hmac5 hS5 hS5l hS58 hW5 hlt3 h2w
      go_wp2_with fail
      refine Hmac5.out.mono ?_
      rintro e w6 ⟨rfl, hb6⟩
      have HB6 := Lib.hid (nextB HB5'.out (Nat.le_refl _) hb6)
      have Hr6 := Lib.hid (Hr15.out.below hb6 Hr15.out.lt)
      clear hb6
      unfold arr8
      go_wp2_with (first
        | (show wpList _ _ _ (⟨none, Op.store 23 _ _, _, _, _, _⟩ :: _) _ _; refine wpList_storeRow (g := w6.heap.size) rfl 23 _ _ rfl rfl rfl (cs := S5.map bv) (old := (List.replicate 32 (0 : UInt8)).map bv) (Row.new rfl rfl) (by kernel_rfl) HS5m.out (by simp) (bytes_one S5) ?_
           have hr5 : Row ((w6.alloc (.cells ((List.replicate 32 (0 : UInt8)).map bv).toArray 23)).setRow w6.heap.size (S5.map bv).toArray) w6.heap.size (S5.map bv) 23 := (Row.new (cs := (List.replicate 32 (0 : UInt8)).map bv) rfl rfl).setRow (S5.map bv)
           have hb7 : Below w6.heap.size w6 ((w6.alloc (.cells ((List.replicate 32 (0 : UInt8)).map bv).toArray 23)).setRow w6.heap.size (S5.map bv).toArray) := below_setRow ((Below.refl _ w6).alloc (Nat.le_refl _) _) (Nat.le_refl _) _
           obtain ⟨V7, hV7⟩ : ∃ V7, (w6.alloc (.cells ((List.replicate 32 (0 : UInt8)).map bv).toArray 23)).setRow w6.heap.size (S5.map bv).toArray = V7 := ⟨_, rfl⟩
           refine wpList_in hV7 ?_
           rw [hV7] at hr5 hb7
           have hstr5 := run_str V7 ((hr5.bs (B := V7.heap.size) hr5.lt).take rfl (k := 8) (by rw [HS5l.out]; omega))
           have hr17 := Hr6.out.below hb7 Hr6.out.lt
           have hstr1 := run_str V7 ((hr17.bs (B := V7.heap.size) hr17.lt).take rfl (k := 8) (by rw [HS1l.out]; omega))
           rw [HS58.out, HS5l.out] at hstr5
           rw [HS18.out, HS1l.out] at hstr1
           unfold strOf at hstr1 hstr5
           have HB7 := Lib.hid (nextB HB6.out (Nat.le_refl _) hb7)
           clear hr5 hb7 hV7 hr17)
        | fail)
      go_ret
      exact ⟨rfl, HB7.out⟩
end Go.Proofs.YtpllbnioncjhaaaDoor
