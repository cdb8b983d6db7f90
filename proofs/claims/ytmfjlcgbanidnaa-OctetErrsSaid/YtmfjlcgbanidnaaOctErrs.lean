/- The first error of a reader stays: 'drawbridgelaw01.OctetErrs', for every argument. -/
import Derived.Test.YtmfjlcgbanidnaaOctRest
import Derived.Test.YtmfjlcgbanidnaaKit
import Derived.Test.YtmfjlcgbanidnaaArgs
import Derived.Test.YtmfjlcgbanidnaaLaw
import Derived.Test.YtmfjlcgbanidnaaOctLives
namespace Go.Proofs.Ytmfjlcgbanidnaa.octetErrs
open Go.ChangeShapes Go.WideShapes Go.ChangeAt Go.RowKit

theorem dec_err (l : List UInt8) (h : (Oct.dec l).2.2 ≠ 0) : (Oct.dec l).1 = 0 := by
  cases l with
  | nil => rfl
  | cons u t =>
    simp only [Oct.dec] at h ⊢
    split
    · rfl
    · split
      · rfl
      · split
        · rfl
        · rename_i h1 h2 h3
          rw [if_neg h1, if_neg h2, if_neg h3] at h
          exact absurd rfl h

/-- What a reading says: value (as a list's length or a number), place, error. -/
structure Step (a e v a' e' : Nat) : Prop where
  up : a ≤ a'
  stay : e ≠ 0 → v = 0 ∧ a' = a ∧ e' = e
  bad : e' ≠ 0 → v = 0

theorem step_number (l : List UInt8) (a e : Nat) : Step a e (rdNumber l a e).1 (rdNumber l a e).2.1 (rdNumber l a e).2.2 := by
  unfold rdNumber
  split
  · exact ⟨Nat.le_refl _, fun _ => ⟨rfl, rfl, rfl⟩, fun _ => rfl⟩
  · rename_i h
    exact ⟨Nat.le_add_right _ _, fun h' => absurd h' h, fun h' => dec_err _ h'⟩
theorem step_upto (l : List UInt8) (a e m : Nat) : Step a e (rdUpto l a e m).1 (rdUpto l a e m).2.1 (rdUpto l a e m).2.2 := by
  have h := step_number l a e
  unfold rdUpto
  split
  · rename_i hm
    refine ⟨h.up, fun he => ?_, fun _ => rfl⟩
    have := (h.stay he).1
    omega
  · exact h
theorem step_fixed (l : List UInt8) (a e : Nat) (n : Int) : Step a e (rdFixed l a e n).1.length (rdFixed l a e n).2.1 (rdFixed l a e n).2.2 := by
  unfold rdFixed
  split
  · exact ⟨Nat.le_refl _, fun _ => ⟨rfl, rfl, rfl⟩, fun _ => rfl⟩
  · rename_i h
    split
    · exact ⟨Nat.le_refl _, fun h' => absurd (.inl h') h, fun _ => rfl⟩
    · exact ⟨Nat.le_add_right _ _, fun h' => absurd (.inl h') h, fun h' => absurd rfl h'⟩
theorem step_block (l : List UInt8) (a e : Nat) : Step a e (rdBlock l a e).1.length (rdBlock l a e).2.1 (rdBlock l a e).2.2 := by
  have h1 := step_upto l a e 1048576
  have h2 := step_fixed l (rdUpto l a e 1048576).2.1 (rdUpto l a e 1048576).2.2 (rdUpto l a e 1048576).1
  unfold rdBlock
  refine ⟨Nat.le_trans h1.up h2.up, fun he => ?_, h2.bad⟩
  obtain ⟨_, k2, k3⟩ := h1.stay he
  obtain ⟨q1, q2, q3⟩ := h2.stay (by rw [k3]; exact he)
  exact ⟨q1, q2.trans k2, q3.trans k3⟩

theorem step_end (l : List UInt8) (a e : Nat) : Step a e 0 a (rdEnd l a e) := by
  refine ⟨Nat.le_refl _, fun he => ⟨rfl, rfl, ?_⟩, fun _ => rfl⟩
  unfold rdEnd
  rw [if_neg (fun h => he h.1)]

set_option maxRecDepth 4000 in
set_option maxHeartbeats 4000000 in
theorem walk (A : Option Addr) (c : Nat) (l : List UInt8) (v1 : Value) (n : Nat) (f : Nat → Nat → Int) (w : World) (hb : Bs w w.heap.size (.slice A l.length c) l) (h : l.length ≤ 3000) (hr : Recs w w.heap.size v1 2 n f) (hn : n ≤ 50)
    (hf : ∀ i, i < n → ∀ j, j < 2 → -9223372036854775808 ≤ f i j ∧ f i j ≤ 9223372036854775807) :
    Calls Try.prog 9 #[.slice A l.length c, v1] w fun e w' => e = .returned (.bool true) ∧ Below w.heap.size w w' := by
  have h' : ¬ (3000 : Int) < (l.length : Int) := by omega
  have Hb := Lib.hid hb
  have Hr := Lib.hid hr
  have Hf := Lib.hid hf
  obtain ⟨A1, c1, rfl, hc1, _⟩ := hr
  have hn' : ¬ (50 : Int) < (n : Int) := by omega
  clear hb hf
  go_enter Try.func9, Try.ntmps9
  go_wp2_with (go_at_call 16; refine (lives_any _).mono ?_; rintro e w1 ⟨rfl, hb1⟩)
  have Hb1 := Lib.hid (Hb.out.below hb1)
  go_wp2_with fail
  refine (Own_any _ l _ (Hb1.out.more hb1.size) (by omega)).mono ?_
  rintro e w2 ⟨v2, rfl, hown2, hb2⟩
  have hb02 := nextB hb1 (Nat.le_refl _) hb2
  go_wp2_with fail
  refine (New_any _ l _ hown2.bs (by omega)).mono ?_
  rintro e w3 ⟨g, rfl, hg, hl, hrd, hb3⟩
  have hb03 := nextB hb02 (Nat.le_refl _) hb3
  have hgw : w.heap.size ≤ g := Nat.le_trans hb02.size hg
  have Hrd := Lib.hid hrd
  clear hb1 hb2 hb02 hb3 hown2 hrd Hb1
  go_wp2
  go_loopw [6] (fun iv wr => ∃ i a e : Nat, i ≤ n ∧ iv = .int .i64 (i : Int) ∧ Rd wr w2.heap.size g l a e ∧ Below w.heap.size w wr) (fun iv _ => n - (intOf iv).toNat)
  case atStart => exact ⟨0, 0, 0, Nat.zero_le _, rfl, Hrd.out, hb03⟩
  case round =>
    obtain ⟨i, a, e, hi, hiv, hrd, hbel⟩ := hrel
    subst hiv
    have Hrd2 := Lib.hid hrd
    clear hrd
    by_cases hin : i < n
    · have hin' : (i : Int) < (n : Int) := by omega
      obtain ⟨b, off, rfl, hcell⟩ : ∃ b off, A1 = some ⟨b, off, none⟩ ∧ ∀ W, Below w.heap.size w W → ∀ i, i < n → W.cell? ⟨b, off + i * 2, none⟩ = some (.int .i64 (f i 0)) ∧ W.cell? ⟨b, off + i * 2 + 1, none⟩ = some (.int .i64 (f i 1)) := by
        obtain ⟨A', c', e', _, hcs⟩ := Hr.out
        simp only [Value.slice.injEq] at e'
        obtain ⟨rfl, _, rfl⟩ := e'
        obtain ⟨b, off, rfl, hlt, hcs⟩ := hcs (by omega)
        exact ⟨b, off, rfl, fun W hW i hi => ⟨(hW.cell (p := ⟨b, _, none⟩) hlt).trans (hcs i hi 0 (by omega)), (hW.cell (p := ⟨b, _, none⟩) hlt).trans (hcs i hi 1 (by omega))⟩⟩
      have Hcell := Lib.hid hcell
      clear hcell
      have hf0 := Hf.out i hin 0 (by omega)
      have hf1 := Hf.out i hin 1 (by omega)
      go_wp2_with fail
      refine (Err_any Hrd2.out).mono ?_
      rintro e5 w5 ⟨rfl, rfl⟩
      go_wp2_with fail
      refine (Left_keep Hrd2.out).mono ?_
      rintro e5 w5 ⟨rfl, hr5, hg5⟩
      have hbel5 := hbel.grown (hg5 none) hbel.size (by simp)
      obtain ⟨k0, k1⟩ := Hcell.out w5 hbel5 i hin
      have Hr5 := Lib.hid hr5
      clear hr5 hg5
      go_wp2_with fail
      refine (Pick_any _ _ _ hf0 (by omega)).mono ?_
      rintro e6 w6 ⟨rfl, rfl⟩
      obtain ⟨hp0, hp5⟩ := pick_in (f i 0) 5 (by omega)
      rcases (by omega : pick (f i 0) 5 = 0 ∨ pick (f i 0) 5 = 1 ∨ pick (f i 0) 5 = 2 ∨ pick (f i 0) 5 = 3 ∨ pick (f i 0) 5 = 4) with hp | hp | hp | hp | hp
      · rw [hp]
        have Hp := Lib.hid hp
        clear hp hp0 hp5
        go_wp2_with fail
        have hstep := step_number l a e
        refine (RNumber_any Hr5.out).mono ?_
        generalize (rdNumber l a e).1 = v at *
        generalize (rdNumber l a e).2.1 = a' at *
        generalize (rdNumber l a e).2.2 = e' at *
        rintro e7 w7 ⟨rfl, hr7, hg7⟩
        have hbel7 := hbel5.grown hg7 hbel5.size (fun k hk => by injection hk with hk; omega)
        obtain ⟨q0, q1⟩ := Hcell.out w7 hbel7 i hin
        have Hr7 := Lib.hid hr7
        clear hr7 hg7 k0 k1
        have hup := hstep.up
        have hgt : ¬ ((l.length - a : Nat) : Int) < ((l.length - a' : Nat) : Int) := by omega
        by_cases he : e = 0
        · subst he
          by_cases he' : e' = 0
          · subst he'
            go_wp2_with (first
            | (go_at_call 29; refine (Left_any (by exact Hr7.out)).mono ?_; rintro e8 w8 ⟨rfl, n8, rfl⟩)
            | (go_at_call 19; refine (Err_any (by exact Hr7.out)).mono ?_; rintro e8 w8 ⟨rfl, rfl⟩)
            | (go_at_call 32; refine (Pick_any _ _ _ hf0 (by omega)).mono ?_; rintro e8 w8 ⟨rfl, rfl⟩; rw [Hp.out]))
            go_roundw
            case rel => exact ⟨i + 1, _, _, by omega, by simp, Hr7.out, ⟨hbel7.os, hbel7.tape, hbel7.output, hbel7.size, hbel7.block⟩⟩
            case measure =>
              simp [intOf]
              omega
          · have hv := hstep.bad he'
            have he2 : ((e' : Int) == 0) = false := by simpa using he'
            have he3 : ((e' : Int) != 0) = true := by simpa using he'
            subst hv
            go_wp2_with (first
            | (go_at_call 29; refine (Left_any (by exact Hr7.out)).mono ?_; rintro e8 w8 ⟨rfl, n8, rfl⟩)
            | (go_at_call 19; refine (Err_any (by exact Hr7.out)).mono ?_; rintro e8 w8 ⟨rfl, rfl⟩)
            | (go_at_call 32; refine (Pick_any _ _ _ hf0 (by omega)).mono ?_; rintro e8 w8 ⟨rfl, rfl⟩; rw [Hp.out]))
            go_roundw
            case rel => exact ⟨i + 1, _, _, by omega, by simp, Hr7.out, ⟨hbel7.os, hbel7.tape, hbel7.output, hbel7.size, hbel7.block⟩⟩
            case measure =>
              simp [intOf]
              omega
        · obtain ⟨hv, ha, hee⟩ := hstep.stay he
          subst ha
          subst hee
          have he2 : ((e' : Int) == 0) = false := by simpa using he
          have he3 : ((e' : Int) != 0) = true := by simpa using he
          subst hv
          go_wp2_with (first
            | (go_at_call 29; refine (Left_any (by exact Hr7.out)).mono ?_; rintro e8 w8 ⟨rfl, n8, rfl⟩)
            | (go_at_call 19; refine (Err_any (by exact Hr7.out)).mono ?_; rintro e8 w8 ⟨rfl, rfl⟩)
            | (go_at_call 32; refine (Pick_any _ _ _ hf0 (by omega)).mono ?_; rintro e8 w8 ⟨rfl, rfl⟩; rw [Hp.out]))
          go_roundw
          case rel => exact ⟨i + 1, _, _, by omega, by simp, Hr7.out, ⟨hbel7.os, hbel7.tape, hbel7.output, hbel7.size, hbel7.block⟩⟩
          case measure =>
            simp [intOf]
            omega
      · rw [hp]
        have Hp := Lib.hid hp
        clear hp hp0 hp5
        obtain ⟨m, hm⟩ : ∃ m : Nat, IntKind.u64.wrap (f i 1) = (m : Int) := ⟨_, (Int.toNat_of_nonneg (by unfold IntKind.wrap; simp [IntKind.bits, IntKind.signed]; omega)).symm⟩
        go_wp2_with fail
        have hstep := step_upto l a e m
        refine (Upto_any m Hr5.out).mono ?_
        generalize (rdUpto l a e m).1 = v at *
        generalize (rdUpto l a e m).2.1 = a' at *
        generalize (rdUpto l a e m).2.2 = e' at *
        rintro e7 w7 ⟨rfl, hr7, hg7⟩
        have hbel7 := hbel5.grown hg7 hbel5.size (fun k hk => by injection hk with hk; omega)
        obtain ⟨q0, q1⟩ := Hcell.out w7 hbel7 i hin
        have Hr7 := Lib.hid hr7
        clear hr7 hg7 k0 k1
        have hup := hstep.up
        have hgt : ¬ ((l.length - a : Nat) : Int) < ((l.length - a' : Nat) : Int) := by omega
        by_cases he : e = 0
        · subst he
          by_cases he' : e' = 0
          · subst he'
            go_wp2_with (first
            | (go_at_call 29; refine (Left_any (by exact Hr7.out)).mono ?_; rintro e8 w8 ⟨rfl, n8, rfl⟩)
            | (go_at_call 19; refine (Err_any (by exact Hr7.out)).mono ?_; rintro e8 w8 ⟨rfl, rfl⟩)
            | (go_at_call 32; refine (Pick_any _ _ _ hf0 (by omega)).mono ?_; rintro e8 w8 ⟨rfl, rfl⟩; rw [Hp.out]))
            go_roundw
            case rel => exact ⟨i + 1, _, _, by omega, by simp, Hr7.out, ⟨hbel7.os, hbel7.tape, hbel7.output, hbel7.size, hbel7.block⟩⟩
            case measure =>
              simp [intOf]
              omega
          · have hv := hstep.bad he'
            have he2 : ((e' : Int) == 0) = false := by simpa using he'
            have he3 : ((e' : Int) != 0) = true := by simpa using he'
            subst hv
            go_wp2_with (first
            | (go_at_call 29; refine (Left_any (by exact Hr7.out)).mono ?_; rintro e8 w8 ⟨rfl, n8, rfl⟩)
            | (go_at_call 19; refine (Err_any (by exact Hr7.out)).mono ?_; rintro e8 w8 ⟨rfl, rfl⟩)
            | (go_at_call 32; refine (Pick_any _ _ _ hf0 (by omega)).mono ?_; rintro e8 w8 ⟨rfl, rfl⟩; rw [Hp.out]))
            go_roundw
            case rel => exact ⟨i + 1, _, _, by omega, by simp, Hr7.out, ⟨hbel7.os, hbel7.tape, hbel7.output, hbel7.size, hbel7.block⟩⟩
            case measure =>
              simp [intOf]
              omega
        · obtain ⟨hv, ha, hee⟩ := hstep.stay he
          subst ha
          subst hee
          have he2 : ((e' : Int) == 0) = false := by simpa using he
          have he3 : ((e' : Int) != 0) = true := by simpa using he
          subst hv
          go_wp2_with (first
            | (go_at_call 29; refine (Left_any (by exact Hr7.out)).mono ?_; rintro e8 w8 ⟨rfl, n8, rfl⟩)
            | (go_at_call 19; refine (Err_any (by exact Hr7.out)).mono ?_; rintro e8 w8 ⟨rfl, rfl⟩)
            | (go_at_call 32; refine (Pick_any _ _ _ hf0 (by omega)).mono ?_; rintro e8 w8 ⟨rfl, rfl⟩; rw [Hp.out]))
          go_roundw
          case rel => exact ⟨i + 1, _, _, by omega, by simp, Hr7.out, ⟨hbel7.os, hbel7.tape, hbel7.output, hbel7.size, hbel7.block⟩⟩
          case measure =>
            simp [intOf]
            omega
      · rw [hp]
        have Hp := Lib.hid hp
        clear hp hp0 hp5
        go_wp2_with fail
        have hstep := step_block l a e
        refine (RBlock_any Hr5.out).mono ?_
        generalize (rdBlock l a e).1 = L at *
        generalize (rdBlock l a e).2.1 = a' at *
        generalize (rdBlock l a e).2.2 = e' at *
        rintro e7 w7 ⟨vs, rfl, hown7, hr7, hg7⟩
        obtain ⟨A7, c7, rfl⟩ := hown7.shape
        clear hown7
        generalize L.length = v at *
        have hbel7 := hbel5.grown hg7 hbel5.size (fun k hk => by injection hk with hk; omega)
        obtain ⟨q0, q1⟩ := Hcell.out w7 hbel7 i hin
        have Hr7 := Lib.hid hr7
        clear hr7 hg7 k0 k1
        have hup := hstep.up
        have hgt : ¬ ((l.length - a : Nat) : Int) < ((l.length - a' : Nat) : Int) := by omega
        by_cases he : e = 0
        · subst he
          by_cases he' : e' = 0
          · subst he'
            go_wp2_with (first
            | (go_at_call 29; refine (Left_any (by exact Hr7.out)).mono ?_; rintro e8 w8 ⟨rfl, n8, rfl⟩)
            | (go_at_call 19; refine (Err_any (by exact Hr7.out)).mono ?_; rintro e8 w8 ⟨rfl, rfl⟩)
            | (go_at_call 32; refine (Pick_any _ _ _ hf0 (by omega)).mono ?_; rintro e8 w8 ⟨rfl, rfl⟩; rw [Hp.out]))
            go_roundw
            case rel => exact ⟨i + 1, _, _, by omega, by simp, Hr7.out, ⟨hbel7.os, hbel7.tape, hbel7.output, hbel7.size, hbel7.block⟩⟩
            case measure =>
              simp [intOf]
              omega
          · have hv := hstep.bad he'
            have he2 : ((e' : Int) == 0) = false := by simpa using he'
            have he3 : ((e' : Int) != 0) = true := by simpa using he'
            subst hv
            go_wp2_with (first
            | (go_at_call 29; refine (Left_any (by exact Hr7.out)).mono ?_; rintro e8 w8 ⟨rfl, n8, rfl⟩)
            | (go_at_call 19; refine (Err_any (by exact Hr7.out)).mono ?_; rintro e8 w8 ⟨rfl, rfl⟩)
            | (go_at_call 32; refine (Pick_any _ _ _ hf0 (by omega)).mono ?_; rintro e8 w8 ⟨rfl, rfl⟩; rw [Hp.out]))
            go_roundw
            case rel => exact ⟨i + 1, _, _, by omega, by simp, Hr7.out, ⟨hbel7.os, hbel7.tape, hbel7.output, hbel7.size, hbel7.block⟩⟩
            case measure =>
              simp [intOf]
              omega
        · obtain ⟨hv, ha, hee⟩ := hstep.stay he
          subst ha
          subst hee
          have he2 : ((e' : Int) == 0) = false := by simpa using he
          have he3 : ((e' : Int) != 0) = true := by simpa using he
          subst hv
          go_wp2_with (first
            | (go_at_call 29; refine (Left_any (by exact Hr7.out)).mono ?_; rintro e8 w8 ⟨rfl, n8, rfl⟩)
            | (go_at_call 19; refine (Err_any (by exact Hr7.out)).mono ?_; rintro e8 w8 ⟨rfl, rfl⟩)
            | (go_at_call 32; refine (Pick_any _ _ _ hf0 (by omega)).mono ?_; rintro e8 w8 ⟨rfl, rfl⟩; rw [Hp.out]))
          go_roundw
          case rel => exact ⟨i + 1, _, _, by omega, by simp, Hr7.out, ⟨hbel7.os, hbel7.tape, hbel7.output, hbel7.size, hbel7.block⟩⟩
          case measure =>
            simp [intOf]
            omega
      · rw [hp]
        have Hp := Lib.hid hp
        clear hp hp0 hp5
        go_wp2_with fail
        have hstep := step_fixed l a e (f i 1)
        refine (Fixed_any (f i 1) Hr5.out).mono ?_
        generalize (rdFixed l a e (f i 1)).1 = L at *
        generalize (rdFixed l a e (f i 1)).2.1 = a' at *
        generalize (rdFixed l a e (f i 1)).2.2 = e' at *
        rintro e7 w7 ⟨vs, rfl, hown7, hr7, hg7⟩
        obtain ⟨A7, c7, rfl⟩ := hown7.shape
        clear hown7
        generalize L.length = v at *
        have hbel7 := hbel5.grown hg7 hbel5.size (fun k hk => by injection hk with hk; omega)
        obtain ⟨q0, q1⟩ := Hcell.out w7 hbel7 i hin
        have Hr7 := Lib.hid hr7
        clear hr7 hg7 k0 k1
        have hup := hstep.up
        have hgt : ¬ ((l.length - a : Nat) : Int) < ((l.length - a' : Nat) : Int) := by omega
        by_cases he : e = 0
        · subst he
          by_cases he' : e' = 0
          · subst he'
            go_wp2_with (first
            | (go_at_call 29; refine (Left_any (by exact Hr7.out)).mono ?_; rintro e8 w8 ⟨rfl, n8, rfl⟩)
            | (go_at_call 19; refine (Err_any (by exact Hr7.out)).mono ?_; rintro e8 w8 ⟨rfl, rfl⟩)
            | (go_at_call 32; refine (Pick_any _ _ _ hf0 (by omega)).mono ?_; rintro e8 w8 ⟨rfl, rfl⟩; rw [Hp.out]))
            go_roundw
            case rel => exact ⟨i + 1, _, _, by omega, by simp, Hr7.out, ⟨hbel7.os, hbel7.tape, hbel7.output, hbel7.size, hbel7.block⟩⟩
            case measure =>
              simp [intOf]
              omega
          · have hv := hstep.bad he'
            have he2 : ((e' : Int) == 0) = false := by simpa using he'
            have he3 : ((e' : Int) != 0) = true := by simpa using he'
            subst hv
            go_wp2_with (first
            | (go_at_call 29; refine (Left_any (by exact Hr7.out)).mono ?_; rintro e8 w8 ⟨rfl, n8, rfl⟩)
            | (go_at_call 19; refine (Err_any (by exact Hr7.out)).mono ?_; rintro e8 w8 ⟨rfl, rfl⟩)
            | (go_at_call 32; refine (Pick_any _ _ _ hf0 (by omega)).mono ?_; rintro e8 w8 ⟨rfl, rfl⟩; rw [Hp.out]))
            go_roundw
            case rel => exact ⟨i + 1, _, _, by omega, by simp, Hr7.out, ⟨hbel7.os, hbel7.tape, hbel7.output, hbel7.size, hbel7.block⟩⟩
            case measure =>
              simp [intOf]
              omega
        · obtain ⟨hv, ha, hee⟩ := hstep.stay he
          subst ha
          subst hee
          have he2 : ((e' : Int) == 0) = false := by simpa using he
          have he3 : ((e' : Int) != 0) = true := by simpa using he
          subst hv
          go_wp2_with (first
            | (go_at_call 29; refine (Left_any (by exact Hr7.out)).mono ?_; rintro e8 w8 ⟨rfl, n8, rfl⟩)
            | (go_at_call 19; refine (Err_any (by exact Hr7.out)).mono ?_; rintro e8 w8 ⟨rfl, rfl⟩)
            | (go_at_call 32; refine (Pick_any _ _ _ hf0 (by omega)).mono ?_; rintro e8 w8 ⟨rfl, rfl⟩; rw [Hp.out]))
          go_roundw
          case rel => exact ⟨i + 1, _, _, by omega, by simp, Hr7.out, ⟨hbel7.os, hbel7.tape, hbel7.output, hbel7.size, hbel7.block⟩⟩
          case measure =>
            simp [intOf]
            omega
      · rw [hp]
        have Hp := Lib.hid hp
        clear hp hp0 hp5
        go_wp2_with fail
        refine (End_any Hr5.out).mono ?_
        rintro e7 w7 ⟨rfl, hr7, hg7⟩
        obtain ⟨a', hr7, hstep⟩ : ∃ a', Rd w7 w2.heap.size g l a' (rdEnd l a e) ∧ Step a e 0 a' (rdEnd l a e) := ⟨a, hr7, step_end l a e⟩
        generalize rdEnd l a e = e' at *
        have hbel7 := hbel5.grown hg7 hbel5.size (fun k hk => by injection hk with hk; omega)
        obtain ⟨q0, q1⟩ := Hcell.out w7 hbel7 i hin
        have Hr7 := Lib.hid hr7
        clear hr7 hg7 k0 k1
        have hup := hstep.up
        have hgt : ¬ ((l.length - a : Nat) : Int) < ((l.length - a' : Nat) : Int) := by omega
        by_cases he : e = 0
        · subst he
          by_cases he' : e' = 0
          · subst he'
            go_wp2_with (first
            | (go_at_call 29; refine (Left_any (by exact Hr7.out)).mono ?_; rintro e8 w8 ⟨rfl, n8, rfl⟩)
            | (go_at_call 19; refine (Err_any (by exact Hr7.out)).mono ?_; rintro e8 w8 ⟨rfl, rfl⟩)
            | (go_at_call 32; refine (Pick_any _ _ _ hf0 (by omega)).mono ?_; rintro e8 w8 ⟨rfl, rfl⟩; rw [Hp.out]))
            go_roundw
            case rel => exact ⟨i + 1, _, _, by omega, by simp, Hr7.out, ⟨hbel7.os, hbel7.tape, hbel7.output, hbel7.size, hbel7.block⟩⟩
            case measure =>
              simp [intOf]
              omega
          · have hv := hstep.bad he'
            have he2 : ((e' : Int) == 0) = false := by simpa using he'
            have he3 : ((e' : Int) != 0) = true := by simpa using he'
            clear hv
            go_wp2_with (first
            | (go_at_call 29; refine (Left_any (by exact Hr7.out)).mono ?_; rintro e8 w8 ⟨rfl, n8, rfl⟩)
            | (go_at_call 19; refine (Err_any (by exact Hr7.out)).mono ?_; rintro e8 w8 ⟨rfl, rfl⟩)
            | (go_at_call 32; refine (Pick_any _ _ _ hf0 (by omega)).mono ?_; rintro e8 w8 ⟨rfl, rfl⟩; rw [Hp.out]))
            go_roundw
            case rel => exact ⟨i + 1, _, _, by omega, by simp, Hr7.out, ⟨hbel7.os, hbel7.tape, hbel7.output, hbel7.size, hbel7.block⟩⟩
            case measure =>
              simp [intOf]
              omega
        · obtain ⟨hv, ha, hee⟩ := hstep.stay he
          subst ha
          subst hee
          have he2 : ((e' : Int) == 0) = false := by simpa using he
          have he3 : ((e' : Int) != 0) = true := by simpa using he
          clear hv
          go_wp2_with (first
            | (go_at_call 29; refine (Left_any (by exact Hr7.out)).mono ?_; rintro e8 w8 ⟨rfl, n8, rfl⟩)
            | (go_at_call 19; refine (Err_any (by exact Hr7.out)).mono ?_; rintro e8 w8 ⟨rfl, rfl⟩)
            | (go_at_call 32; refine (Pick_any _ _ _ hf0 (by omega)).mono ?_; rintro e8 w8 ⟨rfl, rfl⟩; rw [Hp.out]))
          go_roundw
          case rel => exact ⟨i + 1, _, _, by omega, by simp, Hr7.out, ⟨hbel7.os, hbel7.tape, hbel7.output, hbel7.size, hbel7.block⟩⟩
          case measure =>
            simp [intOf]
            omega
    · have hin' : ¬ (i : Int) < (n : Int) := by omega
      go_wp2_with fail
      refine (Left_keep Hrd2.out).mono ?_
      rintro e w5 ⟨rfl, hr5, hg5⟩
      have hge : (0 : Int) ≤ ((l.length - a : Nat) : Int) := by omega
      go_wp2
      go_ret
      exact ⟨rfl, hbel.grown (hg5 none) hbel.size (by simp)⟩

theorem long (A : Option Addr) (c : Nat) (l : List UInt8) (v1 : Value) (w : World) (h : 3000 < l.length) : Calls Try.prog 9 #[.slice A l.length c, v1] w fun e w' => e = .returned (.bool true) ∧ Below w.heap.size w w' := by
  have h' : (3000 : Int) < (l.length : Int) := by omega
  go_enter Try.func9, Try.ntmps9
  go_wp2_with (go_at_call 16; refine (lives_any _).mono ?_; rintro e w1 ⟨rfl, hb1⟩)
  go_ret
  exact ⟨rfl, hb1⟩
theorem many (A : Option Addr) (c : Nat) (l : List UInt8) (A1 : Option Addr) (n c1 : Nat) (w : World) (h : l.length ≤ 3000) (hn : 50 < n) : Calls Try.prog 9 #[.slice A l.length c, .slice A1 n c1] w fun e w' => e = .returned (.bool true) ∧ Below w.heap.size w w' := by
  have h' : ¬ (3000 : Int) < (l.length : Int) := by omega
  have hn' : (50 : Int) < (n : Int) := by omega
  go_enter Try.func9, Try.ntmps9
  go_wp2_with (go_at_call 16; refine (lives_any _).mono ?_; rintro e w1 ⟨rfl, hb1⟩)
  go_ret
  exact ⟨rfl, hb1⟩

set_option maxRecDepth 100000 in
theorem lift (os : Os) (started : os.Started) (H : Type) (enc : TypeId × Value → H) :
    ReturnsInHanded {} Try.checked os 9 .any (Rows.octetErrsSpec.pre6 enc Try.prog Try.f9 Rows.octetErrsRow.domain false) (Rows.octetErrsSpec.post enc Try.prog Try.f9 false true false false) := by
  refine Law.lifted (C := Try.checked) 4 own started (by kernel_rfl) Try.func9 laid (by kernel_rfl) rfl Try.underlying4 rfl
    (fun ds hd => by
      have hd' : ds.length = 2 := hd
      match ds, hd' with
      | [d0, d1], _ => rfl)
    (ChangeSpec.witness6 (enc := enc) (C := Try.checked) false ⟨#[], #[.slice none 0 0, .slice none 0 0], []⟩ 8 (by kernel_rfl) (by kernel_rfl) (by kernel_rfl) (by kernel_rfl)) ?_
  intro W args ds ps hst
  have hA : DataW.TrodAll enc Try.prog W 0 (fun _ => true) true Try.f9.params.toList args.toList ds ps := hst.trod
  have hok := hst.okw
  have hlt := hst.lt
  rw [Try.params9] at hA hok
  obtain ⟨v0, v1, d0, d1, p0, p1, rfl, rfl, rfl, h0, h1⟩ := trodAll_two hA
  obtain ⟨_, hv0⟩ := hok 0 24 v0 rfl rfl
  obtain ⟨_, hv1⟩ := hok 1 50 v1 rfl rfl
  obtain ⟨l, hb, _⟩ := Law.bytes_at Try.underlying24 hv0 h0 (fun x hx => hlt x (List.mem_append_left _ hx))
  obtain ⟨n, f, hr, _, hf⟩ := recs_trod Try.underlying50 Try.underlying52 (by decide) (by kernel_rfl) (by kernel_rfl) (fun j fd hj => by
    rcases j with _ | _ | j
    · simp at hj
      subst hj
      exact Try.underlying3
    · simp at hj
      subst hj
      exact Try.underlying3
    · simp at hj) hv1 h1 (fun x hx => hlt x (List.mem_append_right _ hx))
  obtain ⟨A, c, rfl, _⟩ := id hb
  rcases Nat.lt_or_ge 3000 l.length with hl | hl
  · exact long A c l v1 W hl
  · rcases Nat.lt_or_ge 50 n with hn | hn
    · obtain ⟨A1, c1, rfl, _⟩ := id hr
      exact many A c l A1 n c1 W hl hn
    · exact walk A c l v1 n f W hb hl hr hn hf

theorem over : Rows.octetErrsRow.holds Try.pinned (OpenSpec.ofChange Rows.octetErrsSpec) :=
  OpenClaim.holds_of_wide 9 Try.f9 rfl rfl rfl rfl rfl rfl rfl ⟨rfl, rfl, rfl, rfl, rfl⟩ rfl rfl rfl rfl rfl (by kernel_rfl) Try.func9 (by kernel_rfl)
    (of_decide_eq_true (by kernel_rfl)) (by unfold Func.isWrapper; first | (rw [if_pos (by decide +kernel)]; kernel_rfl) | (rw [if_neg (by decide +kernel)]; exact ⟨rfl, rfl⟩))
    (fun os started H enc _ => lift os started H enc)
theorem proved : Rows.OctetErrsSaid := over
#print axioms proved
end Go.Proofs.Ytmfjlcgbanidnaa.octetErrs
