/- The checksum, as the program and the reference work it out: eight steps for each byte. -/
import Derived.Test.YtmfjlcgbanidnaaW32
import Derived.Test.YtmfjlcgbanidnaaArgs
namespace Go.Proofs.Ytmfjlcgbanidnaa
open Go.RowKit

namespace Crc
def step (x : BitVec 32) : BitVec 32 := if x.toNat % 2 = 1 then (x >>> 1) ^^^ 0xedb88320#32 else x >>> 1
def steps : Nat → BitVec 32 → BitVec 32
  | 0, x => x
  | n + 1, x => step (steps n x)
def byte (s : BitVec 32) (u : UInt8) : BitVec 32 := steps 8 (s ^^^ wb u)
def bytes (s : BitVec 32) (l : List UInt8) : BitVec 32 := l.foldl byte s
def all (s : BitVec 32) (ls : List (List UInt8)) : BitVec 32 := ls.foldl bytes s
/-- What 'Sum' answers. -/
def sum (ls : List (List UInt8)) : BitVec 32 := 0xffffffff#32 ^^^ all 0xffffffff#32 ls
theorem foldl_take_succ {α β : Type} (f : β → α → β) (s : β) (l : List α) (i : Nat) (h : i < l.length) : (l.take (i + 1)).foldl f s = f ((l.take i).foldl f s) l[i] := by
  rw [List.take_succ_eq_append_getElem h, List.foldl_append]
  rfl
end Crc

theorem and_one (y : BitVec 32) : bits .and .u32 (y.toNat : Int) 1 = (y.toNat : Int) % 2 := by
  rw [show (1 : Int) = ((1#32).toNat : Int) from rfl, w_and, BitVec.toNat_and, show (1#32).toNat = 1 from rfl, Nat.and_one_is_mod]
  omega

set_option maxHeartbeats 400000 in
theorem steps_any (x : BitVec 32) (w : World) : Calls Try.prog 49 #[wv x] w fun e w' => e = .returned (wv (Crc.steps 8 x)) ∧ w = w' := by
  go_enter Try.func49, Try.ntmps49
  go_wp2
  go_loopw [0, 4] (fun v iv wr => ∃ i : Nat, i ≤ 8 ∧ v = wv (Crc.steps i x) ∧ iv = .int .i64 (i : Int) ∧ wr = w) (fun _ iv _ => 8 - (intOf iv).toNat)
  case atStart => exact ⟨0, by omega, rfl, rfl, rfl⟩
  case round =>
    obtain ⟨i, hi, rfl, rfl, rfl⟩ := hrel
    have hst : Crc.steps (i + 1) x = Crc.step (Crc.steps i x) := rfl
    have Hst := Lib.hid hst
    clear hst
    obtain ⟨y, hy⟩ : ∃ y, Crc.steps i x = y := ⟨_, rfl⟩
    rw [hy] at Hst ⊢
    have Hy := Lib.hid hy
    clear hy
    by_cases h8 : i < 8
    · have h8' : (i : Int) < 8 := by omega
      by_cases ho : y.toNat % 2 = 1
      · have hd : (bits .and .u32 (y.toNat : Int) 1 == 1) = true := by rw [and_one, beq_iff_eq]; omega
        go_wp2
        go_roundw
        case rel =>
          refine ⟨i + 1, h8, ?_, by simp, trivial⟩
          rw [Hst.out, Crc.step, if_pos ho, w_shr1]
          exact congrArg (Value.int .u32) (w_xor (y >>> 1) 0xedb88320#32)
        case measure => simp [intOf]; omega
      · have hd : (bits .and .u32 (y.toNat : Int) 1 == 1) = false := by rw [and_one, beq_eq_false_iff_ne]; omega
        go_wp2
        go_roundw
        case rel =>
          refine ⟨i + 1, h8, ?_, by simp, trivial⟩
          rw [Hst.out, Crc.step, if_neg ho, w_shr1]
        case measure => simp [intOf]; omega
    · have h8' : ¬ (i : Int) < 8 := by omega
      have : i = 8 := by omega
      subst this
      go_wp2
      go_ret
      exact ⟨by rw [Hy.out]; rfl, rfl⟩

set_option maxHeartbeats 1000000 in
theorem Sum_any (v : Value) (ls : List (List UInt8)) (w : World) {B : Nat} (hb : Bss w B v ls) (hn : ls.length ≤ 1000000) (hm : ∀ l ∈ ls, l.length ≤ 1000000000) :
    Calls Try.prog 24 #[v] w fun e w' => e = .returned (wv (Crc.sum ls)) ∧ w = w' := by
  have Hm := Lib.hid hm
  clear hm
  obtain ⟨A, c, rfl, hc, hcs⟩ := hb
  have Hcs := Lib.hid hcs
  clear hcs
  go_enter Try.func24, Try.ntmps24
  go_wp2
  go_loopw [3, 10] (fun v iv wr => ∃ i : Nat, i ≤ ls.length ∧ v = wv (Crc.all 0xffffffff#32 (ls.take i)) ∧ iv = .int .i64 (i : Int) ∧ w = wr) (fun _ iv _ => ls.length - (intOf iv).toNat)
  case atStart => exact ⟨0, Nat.zero_le _, rfl, rfl, rfl⟩
  case round =>
    obtain ⟨i, hi, rfl, rfl, rfl⟩ := hrel
    by_cases h1 : i < ls.length
    · have h1' : (i : Int) < (ls.length : Int) := by omega
      obtain ⟨b, off, rfl, hlt, hcell⟩ := Hcs.out (by intro h; subst h; simp at h1)
      obtain ⟨u, hu, hbs⟩ := hcell i _ (List.getElem?_eq_getElem h1)
      obtain ⟨A2, c2, rfl, hc2, hcs2⟩ := hbs
      have Hcs2 := Lib.hid hcs2
      have hml := Hm.out _ (List.getElem_mem h1)
      have hst := Crc.foldl_take_succ Crc.bytes 0xffffffff#32 ls i h1
      have Hst := Lib.hid hst
      clear hcell hcs2 hst
      obtain ⟨s0, hs0⟩ : ∃ s, Crc.all 0xffffffff#32 (ls.take i) = s := ⟨_, rfl⟩
      have hs1 : Crc.all 0xffffffff#32 (ls.take (i + 1)) = Crc.bytes s0 ls[i] := by rw [← hs0]; exact Hst.out
      have Hs1 := Lib.hid hs1
      rw [hs0]
      clear hs0 hs1 Hst
      obtain ⟨l, hl⟩ : ∃ l, ls[i] = l := ⟨_, rfl⟩
      rw [hl] at Hs1 hml hu Hcs2 hc2
      clear hl
      go_wp2
      go_loopw [3, 16] (fun v iv wr => ∃ k : Nat, k ≤ l.length ∧ v = wv (Crc.bytes s0 (l.take k)) ∧ iv = .int .i64 (k : Int) ∧ w = wr) (fun _ iv _ => l.length - (intOf iv).toNat)
      case atStart => exact ⟨0, Nat.zero_le _, rfl, rfl, rfl⟩
      case round =>
        obtain ⟨k, hk, rfl, rfl, rfl⟩ := hrel
        by_cases h2 : k < l.length
        · have h2' : (k : Int) < (l.length : Int) := by omega
          obtain ⟨b2, off2, rfl, hlt2, hcell2⟩ := Hcs2.out (by intro h; subst h; simp at h2)
          have hu2 := hcell2 k _ (List.getElem?_eq_getElem h2)
          have Hst := Lib.hid (Crc.foldl_take_succ Crc.byte s0 l k h2)
          clear hcell2
          obtain ⟨s2, hs2⟩ : ∃ s, Crc.bytes s0 (l.take k) = s := ⟨_, rfl⟩
          have hs3 : Crc.bytes s0 (l.take (k + 1)) = Crc.byte s2 l[k] := by rw [← hs2]; exact Hst.out
          have Hs3 := Lib.hid hs3
          rw [hs2]
          clear hs2 hs3 Hst
          obtain ⟨c, hcc⟩ : ∃ c, l[k] = c := ⟨_, rfl⟩
          rw [hcc] at Hs3 hu2
          clear hcc
          unfold bv at hu2
          have hx : bits .xor .u32 (s2.toNat : Int) ((c.toNat : Int) % 4294967296) = ((s2 ^^^ wb c).toNat : Int) := by rw [w_wb, w_xor]
          have Hx := Lib.hid hx
          clear hx
          go_wp2_with fail
          rw [Hx.out]
          refine (steps_any _ _).mono ?_
          rintro e w' ⟨rfl, rfl⟩
          go_wp2
          go_roundw
          case rel => exact ⟨k + 1, h2, by rw [Hs3.out]; rfl, by simp, trivial⟩
          case measure => simp [intOf]; omega
        · have h2' : ¬ (k : Int) < (l.length : Int) := by omega
          have : k = l.length := by omega
          subst this
          rw [List.take_length]
          go_wp2
          go_roundw
          case rel => exact ⟨i + 1, h1, by rw [Hs1.out], by simp, trivial⟩
          case measure => simp [intOf]; omega
    · have h1' : ¬ (i : Int) < (ls.length : Int) := by omega
      have : i = ls.length := by omega
      subst this
      rw [List.take_length]
      go_wp2
      go_ret
      exact ⟨congrArg (fun z => Ending.returned (Value.int .u32 z)) (w_xor 0xffffffff#32 (Crc.all 0xffffffff#32 ls)), rfl⟩

set_option maxHeartbeats 2000000 in
theorem RSum_any (v : Value) (ls : List (List UInt8)) (w : World) {B : Nat} (hb : Bss w B v ls) (hn : ls.length ≤ 1000000) (hm : ∀ l ∈ ls, l.length ≤ 1000000000) :
    Calls Try.prog 25 #[v] w fun e w' => e = .returned (wv (Crc.sum ls)) ∧ w = w' := by
  have Hm := Lib.hid hm
  clear hm
  obtain ⟨A, c, rfl, hc, hcs⟩ := hb
  have Hcs := Lib.hid hcs
  clear hcs
  go_enter Try.func25, Try.ntmps25
  go_wp2
  go_loopw [3, 4] (fun v iv wr => ∃ i : Nat, i ≤ ls.length ∧ v = wv (Crc.all 0xffffffff#32 (ls.take i)) ∧ iv = .int .i64 (i : Int) ∧ w = wr) (fun _ iv _ => ls.length - (intOf iv).toNat)
  case atStart => exact ⟨0, Nat.zero_le _, rfl, rfl, rfl⟩
  case round =>
    obtain ⟨i, hi, rfl, rfl, rfl⟩ := hrel
    by_cases h1 : i < ls.length
    · have h1' : (i : Int) < (ls.length : Int) := by omega
      obtain ⟨b, off, rfl, hlt, hcell⟩ := Hcs.out (by intro h; subst h; simp at h1)
      obtain ⟨u, hu, hbs⟩ := hcell i _ (List.getElem?_eq_getElem h1)
      obtain ⟨A2, c2, rfl, hc2, hcs2⟩ := hbs
      have Hcs2 := Lib.hid hcs2
      have hml := Hm.out _ (List.getElem_mem h1)
      have hst := Crc.foldl_take_succ Crc.bytes 0xffffffff#32 ls i h1
      have Hst := Lib.hid hst
      clear hcell hcs2 hst
      obtain ⟨s0, hs0⟩ : ∃ s, Crc.all 0xffffffff#32 (ls.take i) = s := ⟨_, rfl⟩
      have hs1 : Crc.all 0xffffffff#32 (ls.take (i + 1)) = Crc.bytes s0 ls[i] := by rw [← hs0]; exact Hst.out
      have Hs1 := Lib.hid hs1
      rw [hs0]
      clear hs0 hs1 Hst
      obtain ⟨l, hl⟩ : ∃ l, ls[i] = l := ⟨_, rfl⟩
      rw [hl] at Hs1 hml hu Hcs2 hc2
      clear hl
      go_wp2
      go_loopw [3, 5] (fun v iv wr => ∃ k : Nat, k ≤ l.length ∧ v = wv (Crc.bytes s0 (l.take k)) ∧ iv = .int .i64 (k : Int) ∧ w = wr) (fun _ iv _ => l.length - (intOf iv).toNat)
      case atStart => exact ⟨0, Nat.zero_le _, rfl, rfl, rfl⟩
      case round =>
        obtain ⟨k, hk, rfl, rfl, rfl⟩ := hrel
        by_cases h2 : k < l.length
        · have h2' : (k : Int) < (l.length : Int) := by omega
          obtain ⟨b2, off2, rfl, hlt2, hcell2⟩ := Hcs2.out (by intro h; subst h; simp at h2)
          have hu2 := hcell2 k _ (List.getElem?_eq_getElem h2)
          have Hst := Lib.hid (Crc.foldl_take_succ Crc.byte s0 l k h2)
          clear hcell2
          obtain ⟨s2, hs2⟩ : ∃ s, Crc.bytes s0 (l.take k) = s := ⟨_, rfl⟩
          have hs3 : Crc.bytes s0 (l.take (k + 1)) = Crc.byte s2 l[k] := by rw [← hs2]; exact Hst.out
          have Hs3 := Lib.hid hs3
          rw [hs2]
          clear hs2 hs3 Hst
          obtain ⟨c, hcc⟩ : ∃ c, l[k] = c := ⟨_, rfl⟩
          rw [hcc] at Hs3 hu2
          clear hcc
          unfold bv at hu2
          have hx : bits .xor .u32 (s2.toNat : Int) ((c.toNat : Int) % 4294967296) = ((s2 ^^^ wb c).toNat : Int) := by rw [w_wb, w_xor]
          have Hx := Lib.hid hx
          clear hx
          go_wp2
          rw [Hx.out]
          go_loopw [3, 6] (fun v iv wr => ∃ n : Nat, n ≤ 8 ∧ v = wv (Crc.steps n (s2 ^^^ wb c)) ∧ iv = .int .i64 (n : Int) ∧ w = wr) (fun _ iv _ => 8 - (intOf iv).toNat)
          case atStart => exact ⟨0, Nat.zero_le _, rfl, rfl, rfl⟩
          case round =>
            obtain ⟨n, hn8, rfl, rfl, rfl⟩ := hrel
            have Hst := Lib.hid (show Crc.steps (n + 1) (s2 ^^^ wb c) = Crc.step (Crc.steps n (s2 ^^^ wb c)) from rfl)
            obtain ⟨y, hy⟩ : ∃ y, Crc.steps n (s2 ^^^ wb c) = y := ⟨_, rfl⟩
            rw [hy] at Hst ⊢
            have Hy := Lib.hid hy
            clear hy
            by_cases h8 : n < 8
            · have h8' : (n : Int) < 8 := by omega
              by_cases ho : y.toNat % 2 = 1
              · have hd : ((y.toNat : Int) % 2 == 1) = true := by rw [beq_iff_eq]; omega
                go_wp2
                go_roundw
                case rel =>
                  refine ⟨n + 1, h8, ?_, by simp, trivial⟩
                  rw [Hst.out, Crc.step, if_pos ho, w_shr1]
                  exact congrArg (Value.int .u32) (w_xor (y >>> 1) 0xedb88320#32)
                case measure => simp [intOf]; omega
              · have hd : ((y.toNat : Int) % 2 == 1) = false := by rw [beq_eq_false_iff_ne]; omega
                go_wp2
                go_roundw
                case rel =>
                  refine ⟨n + 1, h8, ?_, by simp, trivial⟩
                  rw [Hst.out, Crc.step, if_neg ho, w_shr1]
                case measure => simp [intOf]; omega
            · have h8' : ¬ (n : Int) < 8 := by omega
              have : n = 8 := by omega
              subst this
              go_wp2
              go_roundw
              case rel => exact ⟨k + 1, h2, by rw [Hs3.out]; exact congrArg wv Hy.out.symm, by simp, trivial⟩
              case measure => simp [intOf]; omega
        · have h2' : ¬ (k : Int) < (l.length : Int) := by omega
          have : k = l.length := by omega
          subst this
          rw [List.take_length]
          go_wp2
          go_roundw
          case rel => exact ⟨i + 1, h1, by rw [Hs1.out], by simp, trivial⟩
          case measure => simp [intOf]; omega
    · have h1' : ¬ (i : Int) < (ls.length : Int) := by omega
      have : i = ls.length := by omega
      subst this
      rw [List.take_length]
      go_wp2
      go_ret
      exact ⟨congrArg (fun z => Ending.returned (Value.int .u32 z)) (w_xor 0xffffffff#32 (Crc.all 0xffffffff#32 ls)), rfl⟩
end Go.Proofs.Ytmfjlcgbanidnaa
