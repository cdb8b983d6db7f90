/- Files are independent of each other: 'drawbridgelaw12.DiskApart', for every argument. -/
import Derived.Test.YtgmmjnedgaeefaaDskApart
import Derived.Test.YtgmmjnedgaeefaaDskLives
import Derived.Test.YtgmmjnedgaeefaaDskTexts
import Derived.Test.YtgmmjnedgaeefaaLawSized
namespace Go.Proofs.Ytgmmjnedgaeefaa.diskApart
open Go.ChangeShapes Go.WideShapes Go.ChangeAt Go.RowKit
open Dsk
theorem own : ownKnob Try.checked.prog.godebug = none := by kernel_rfl
theorem laid : laidOutB Try.checked.prog = true := by kernel_rfl
theorem New_ex (room : Int) (h0 : 0 ≤ room) (h1 : room ≤ 16777216) (w : World) : Calls Try.prog 8 #[.int .i64 room] w fun e w' => ∃ p L, e = .returned (.tuple #[pv p, .int .i64 0]) ∧ At w' w.heap.size L p ⟨[], room, false, -1⟩ ∧ Below w.heap.size w w' :=
  (New_ok room h0 h1 w).mono fun _ _ ⟨h2, h3, h4⟩ => ⟨_, _, h2, h3, h4⟩
theorem key_len {w : World} {B : Nat} {L : Lab} {p : Nat} {d : Dk} (h : At w B L p d) : ∀ s ∈ keys d.files, s.length ≤ maxLen := by
  intro s hs
  obtain ⟨_, _, m, D, _, _, hf⟩ := h
  have h1 := (hf.perm.mem_iff (a := s)).1 hs
  obtain ⟨es, hD, hk⟩ := hf.map.keysOf
  subst hD
  obtain ⟨p, hp, hps⟩ := List.mem_map.1 h1
  obtain ⟨v, hv⟩ := hk p hp
  obtain ⟨x, _, hx, hxl⟩ := Maps.keyOf_str Try.underlying9 hv
  rw [hx] at hps
  have : x = s := hps
  subst this
  exact hxl
/-- What Read answers. -/
def rdB : Option Fil → List UInt8 | none => [] | some F => F.all
def rdE : Option Fil → Int | none => 6 | some _ => 0
theorem Read_at {w : World} {B : Nat} {L : Lab} {p : Nat} {d : Dk} (h : At w B L p d) (s : Name) (hs : s.length ≤ maxLen) (ht : total d.files ≤ 100000000) : Calls Try.prog 12 #[pv p, sv s] w fun e w' =>
    ∃ A c, e = .returned (.tuple #[.slice A (rdB (Dsk.look d.files s)).length c, .int .i64 (rdE (Dsk.look d.files s))]) ∧ Bs w' w'.heap.size (.slice A (rdB (Dsk.look d.files s)).length c) (rdB (Dsk.look d.files s)) ∧ Below w.heap.size w w' := by
  cases hl : Dsk.look d.files s with
  | none =>
    refine (Read_no h s hs hl).mono ?_
    rintro e w' ⟨h1, h2⟩
    subst h2
    exact ⟨none, 0, h1, Bs.nil _ _ _ _, Below.refl _ _⟩
  | some F =>
    refine (Read_ok h s hs ht hl).mono ?_
    rintro e w' ⟨v, h1, h2, h3⟩
    obtain ⟨A, c, rfl, _, _⟩ := id h2
    exact ⟨A, c, h1, h2, h3⟩
/-- What holds of a disk at every round. -/
structure Good (d : Dk) (i s : Nat) : Prop where
  calm : Unfused d
  sum : d.left + (total d.files : Int) = 65536
  left : (65536 : Int) - s ≤ d.left
  num : d.files.length ≤ i
theorem Good.fits {d : Dk} {i s : Nat} (h : Good d i s) (hi : i ≤ 1000000) (hs : s ≤ 3000) : Fits d :=
  ⟨by have := h.sum; have := h.left; omega, by have := h.num; omega, by rw [h.calm.1]; decide, by have := h.sum; have := h.left; omega⟩
theorem Good.next {d : Dk} {l : List Ac} {i : Nat} {a : Ac} (h : Good d i (sumW l i)) (hn : (keys d.files).Nodup) (ha : l[i]? = some a) (hw : sumW l (i + 1) ≤ 3000) (k : Int) :
    Good (opD k d a) (i + 1) (sumW l (i + 1)) ∧ (okName a.name = true → (a.b.length : Int) ≤ d.left) := by
  have e : sumW l (i + 1) = sumW l i + wt a := by rw [sumW, ha]
  have h1 := opD_sum k d a hn
  have h2 := opD_left h.calm k a
  have h3 := opD_len k d a
  have h4 := h.sum
  have h5 := h.left
  have h6 := h.num
  have hwt : wt a ≤ 3000 := by omega
  refine ⟨⟨h.calm.op k a, by omega, ?_, by omega⟩, fun hok => ?_⟩
  · cases hok : okName a.name with
    | false => rw [hok] at h2; simp at h2; omega
    | true =>
      have := wt_b hwt hok
      rw [hok] at h2
      simp only [if_true] at h2
      omega
  · have := wt_b hwt hok
    omega
theorem Good.more {d : Dk} {l : List Ac} {i : Nat} (h : Good d i (sumW l i)) : Good d (i + 1) (sumW l (i + 1)) :=
  ⟨h.calm, h.sum, by have := sumW_mono l i (i + 1) (by omega); have := h.left; omega, by have := h.num; omega⟩
set_option maxRecDepth 100000 in
set_option maxHeartbeats 8000000 in
theorem walk {w : World} {v : Value} {l : List Ac} {nm : Name} (h : Acs w w.heap.size v l) (hl : l.length ≤ maxLen) (hnm : nm.length ≤ maxLen) (hal : ∀ a ∈ l, a.name.length ≤ maxLen ∧ a.b.length ≤ 140737488355327) :
    Calls Try.prog 7 #[v, sv nm] w fun e w' => e = .returned (.bool true) ∧ Below w.heap.size w w' := by
  obtain ⟨A, c, rfl, hc, _⟩ := id h
  have Hac := Lib.hid h
  have Hl := Lib.hid hl
  have Hnm := Lib.hid hnm
  have Hal := Lib.hid hal
  have TK := Lib.hid True.intro
  clear h hl hal hnm
  by_cases hs : smallB l = true ∧ ¬ 3000 < nm.length
  · obtain ⟨hs, hnl⟩ := hs
    have hnl' : ¬ 3000 < (nm.length : Int) := by omega
    unfold sv
    go_enter Try.func7, Try.ntmps7
    go_wp2_with (first
      | (go_at_call 13; refine (lives_any _).mono ?_; rintro e w1 ⟨rfl, hb⟩; have HB1 := Lib.hid hb; clear hb)
      | (go_at_call 8; have tk := TK; clear tk TK; refine (New_ex 65536 (by decide) (by decide) _).mono ?_; rintro e w2 ⟨p, L, rfl, hat, hb⟩; have HB2 := Lib.hid (nextB HB1.out (Nat.le_refl _) hb); have HA2 := Lib.hid hat; clear hat hb; unfold pv)
      | (go_at_call 8; have tk := HA2; clear tk; refine (New_ex 65536 (by decide) (by decide) _).mono ?_; rintro e w3 ⟨q, M, rfl, hat, hb⟩; have HB3 := Lib.hid (nextB HB2.out (Nat.le_refl _) hb); have HA3 := Lib.hid (HA2.out.new hb); have HO3 := Lib.hid hat
         have HD3 : Hid (Dis L M) := fun b hLb => by
           have h1 := (HA2.out.lab b hLb).2
           cases hM : M b with
           | none => rfl
           | some x => have := (hat.lab b (by rw [hM]; simp)).1; omega
         clear hat hb HA2; unfold pv)
      | (go_at_call 18; refine (small_any ((Hac.out.below HB3.out).more HB3.out.size) Hl.out).mono ?_; rintro e w4 ⟨rfl, hb⟩; have HB4 := Lib.hid (nextB HB3.out (Nat.le_refl _) hb); have HA4 := Lib.hid (HA3.out.new hb); have HO4 := Lib.hid (HO3.out.new hb); clear hb)
      | fail)
    obtain ⟨B1, hB1⟩ : ∃ B1, w1.heap.size = B1 := ⟨_, rfl⟩
    obtain ⟨B2, hB2⟩ : ∃ B2, w2.heap.size = B2 := ⟨_, rfl⟩
    have HA4' := Lib.hid (show At w4 B1 L p ⟨[], 65536, false, -1⟩ from hB1 ▸ HA4.out)
    have HO4' := Lib.hid (show At w4 B2 M q ⟨[], 65536, false, -1⟩ from hB2 ▸ HO4.out)
    have HwB : Hid (w.heap.size ≤ B1 ∧ w.heap.size ≤ B2) := by
      have h1 : w.heap.size ≤ B1 ∧ w.heap.size ≤ B2 := by rw [← hB1, ← hB2]; exact ⟨HB1.out.size, HB2.out.size⟩
      exact h1
    have hl100 : l.length ≤ 100 ∧ sumW l l.length ≤ 3000 := by
      have h1 := hs
      simp only [smallB, Bool.and_eq_true, decide_eq_true_eq] at h1
      have h2 := h1.2
      rw [Nat.min_eq_left (by omega)] at h2
      exact ⟨h1.1, h2⟩
    have Hl3 := Lib.hid hl100.2
    replace hl100 := hl100.1
    clear HB2 HB3 HA3 HO3 HA4 HO4 HB1 hB1 hB2
    go_loopw [9] (fun iv wr => ∃ (i : Nat) (Li Mi : Lab) (d o : Dk), i ≤ l.length ∧ iv = .int .i64 (i : Int) ∧ At wr B1 Li p d ∧ At wr B2 Mi q o ∧ Dis Li Mi ∧ Good d i (sumW l i) ∧ Good o i (sumW l i) ∧ Dsk.look d.files nm = Dsk.look o.files nm ∧ Below w.heap.size w wr) (fun iv _ => l.length - (intOf iv).toNat)
    case atStart => exact ⟨0, L, M, _, _, Nat.zero_le _, rfl, HA4'.out, HO4'.out, HD3.out, ⟨⟨rfl, rfl⟩, rfl, by simp [sumW], by simp⟩, ⟨⟨rfl, rfl⟩, rfl, by simp [sumW], by simp⟩, rfl, HB4.out⟩
    case round =>
      obtain ⟨i, Li, Mi, d, o, hi, rfl, hatd, hato, hdis, hgd, hgo, hsame, hb⟩ := hrel
      have HA := Lib.hid hatd
      have HO := Lib.hid hato
      have HD := Lib.hid hdis
      have HB := Lib.hid hb
      have Gd := Lib.hid hgd
      have Go := Lib.hid hgo
      have HSm := Lib.hid hsame
      clear hatd hato hb hdis hgd hgo hsame HA4' HO4' HB4 HD3
      by_cases h1 : i < l.length
      · have h1' : (i : Int) < (l.length : Int) := by omega
        obtain ⟨A0, c0, e0, _, hcell⟩ := Hac.out
        simp only [Value.slice.injEq, true_and] at e0
        obtain ⟨rfl, rfl⟩ := e0
        obtain ⟨b, off, rfl, hlt, hcell⟩ := hcell (by intro e; subst e; simp at h1)
        obtain ⟨a, ha⟩ : ∃ a, l[i]? = some a := ⟨_, List.getElem?_eq_getElem h1⟩
        obtain ⟨cs, hac, hat⟩ := hcell i a ha
        have ham : a ∈ l := List.mem_of_getElem? ha
        have hw1 : sumW l (i + 1) ≤ 3000 := Nat.le_trans (sumW_mono l (i + 1) l.length h1) Hl3.out
        have hw0 : sumW l i ≤ 3000 := Nat.le_trans (sumW_mono l i (i + 1) (by omega)) hw1
        have HAcw := Lib.hid (show ∀ wx, Below w.heap.size w wx → AcAt wx w.heap.size cs a from fun wx hb => hac.below hb)
        obtain ⟨vb, vp, rfl, hvb, hvp, hk1, hk2⟩ := hac
        obtain ⟨A1, c1, rfl, _, _⟩ := hvb
        obtain ⟨A2, c2, rfl, _, _⟩ := hvp
        have Hat := Lib.hid (show ∀ wx, Below w.heap.size w wx → wx.cell? ⟨b, off + i * 5, none⟩ = some (.int .i64 a.kind) ∧ wx.cell? ⟨b, off + i * 5 + 1, none⟩ = some (.string ⟨a.name.toArray⟩) ∧ wx.cell? ⟨b, off + i * 5 + 2, none⟩ = some (.slice A1 a.b.length c1) ∧ wx.cell? ⟨b, off + i * 5 + 3, none⟩ = some (.int .i64 a.n) ∧ wx.cell? ⟨b, off + i * 5 + 4, none⟩ = some (.slice A2 a.parts.length c2) from fun wx hbx => by
          have e0 := (hbx.cell (p := ⟨b, off + (i * 5 + 0), none⟩) hlt).trans (hat 0 (by decide))
          have e1 := (hbx.cell (p := ⟨b, off + (i * 5 + 1), none⟩) hlt).trans (hat 1 (by decide))
          have e2 := (hbx.cell (p := ⟨b, off + (i * 5 + 2), none⟩) hlt).trans (hat 2 (by decide))
          have e3 := (hbx.cell (p := ⟨b, off + (i * 5 + 3), none⟩) hlt).trans (hat 3 (by decide))
          have e4 := (hbx.cell (p := ⟨b, off + (i * 5 + 4), none⟩) hlt).trans (hat 4 (by decide))
          simp only [List.getElem?_cons_succ, List.getElem?_cons_zero, ← Nat.add_assoc, Nat.add_zero] at e0 e1 e2 e3 e4
          exact ⟨e0, e1, e2, e3, e4⟩)
        obtain ⟨e0, e1, e2, e3, e4⟩ := Hat.out wr HB.out
        have HPk2 := Lib.hid (pick_in a.kind 7 (by decide))
        obtain ⟨k, hk⟩ : ∃ k, pick a.kind 7 = k := ⟨_, rfl⟩
        have HP2 := Lib.hid (fun W => Pick_any a.kind 7 W hk1 ⟨by decide, by decide⟩)
        rw [hk] at HP2 HPk2
        have Hk := Lib.hid hk
        obtain ⟨g1, g2⟩ := Gd.out.next HA.out.nodup ha hw1 k
        obtain ⟨g3, g4⟩ := Go.out.next HO.out.nodup ha hw1 k
        have Gd1 := Lib.hid g1
        have Go1 := Lib.hid g3
        have hE1 := opE_calm Gd.out.calm k a g2
        have hE2 := opE_calm Go.out.calm k a g4
        have hF1 := look_opD Gd.out.calm k a g2 nm
        have hF2 := look_opD Go.out.calm k a g4 nm
        have HC1 := Lib.hid (fun h3 => Call_at HA.out (Gd.out.fits (by omega) hw0) ((HAcw.out wr HB.out).more HwB.out.1) h3 (Hal.out a ham).1 (Hal.out a ham).2)
        rw [hk] at HC1
        have HC2 := Lib.hid (fun (wx : World) (hx : At wx B2 Mi q o) (hb : Below w.heap.size w wx) h3 => Call_at hx (Go.out.fits (by omega) hw0) ((HAcw.out wx hb).more HwB.out.2) h3 (Hal.out a ham).1 (Hal.out a ham).2)
        clear g1 g2 g3 g4 hk hat hcell ha ham hw0 HP2
        have HP2 := Lib.hid (fun W => Pick_any a.kind 7 W hk1 ⟨by decide, by decide⟩)
        rw [Hk.out] at HP2
        clear hk1 hk2
        by_cases h3 : k ≤ 3
        · have h3' : ¬ 3 < k := by omega
          replace HC1 := Lib.hid (HC1.out h3)
          have HC2' := Lib.hid (fun wx hx hb => HC2.out wx hx hb (by rw [Hk.out]; exact h3))
          rw [Hk.out] at HC2'
          clear HC2
          by_cases hnm : a.name = nm
          · subst hnm
            obtain ⟨oe, hoe⟩ : ∃ oe, opE k d a = oe := ⟨_, rfl⟩
            have hoe2 : opE k o a = oe := by rw [← hoe, hE1, hE2, HSm.out]
            have HFF : Hid (Dsk.look (opD k d a).files a.name = Dsk.look (opD k o a).files a.name) := by
              have h8 : Dsk.look (opD k d a).files a.name = Dsk.look (opD k o a).files a.name := by rw [hF1, hF2, HSm.out]
              exact h8
            rw [hoe] at HC1
            rw [hoe2] at HC2'
            clear hE1 hE2 hF1 hF2 hoe hoe2
            go_wp2_with (first
              | (go_at_call 23; refine (HP2.out _).mono ?_; rintro e w' ⟨rfl, rfl⟩)
              | (go_at_call 19; refine HC1.out.mono ?_; rintro e w5 ⟨rfl, L5, hat5, hst5⟩
                 have HA5 := Lib.hid hat5
                 obtain ⟨ho5, hd5⟩ := HO.out.apart hst5 HD.out
                 have HO5 := Lib.hid ho5
                 have HD5 := Lib.hid hd5
                 have HB5 := Lib.hid (HB.out.trans ((hst5.below HA.out).mono HwB.out.1))
                 obtain ⟨e0', e1', e2', e3', e4'⟩ := Hat.out w5 HB5.out
                 clear hat5 hst5 ho5 hd5 HC1 e0 e1 e2 e3 e4)
              | (go_at_call 19; refine (HC2'.out _ HO5.out HB5.out).mono ?_; rintro e w6 ⟨rfl, M6, hat6, hst6⟩
                 have HO6 := Lib.hid hat6
                 obtain ⟨ha6, hd6⟩ := HA5.out.apart hst6 HD5.out.symm
                 have HA6 := Lib.hid ha6
                 have HD6 := Lib.hid hd6.symm
                 have HB6 := Lib.hid (HB5.out.trans ((hst6.below HO5.out).mono HwB.out.2))
                 clear hat6 hst6 ha6 hd6 HO5 HD5 HA5)
              | fail)
            go_roundw
            case rel => exact ⟨i + 1, L5, M6, opD k d a, opD k o a, h1, by go_num, HA6.out, HO6.out, HD6.out, Gd1.out, Go1.out, HFF.out, HB6.out⟩
            case measure => simp [intOf]; omega
          · have hq1 : (a.name == nm) = false := beq_eq_false_iff_ne.2 hnm
            have HFF : Hid (Dsk.look (opD k d a).files nm = Dsk.look o.files nm) := by
              have h8 : Dsk.look (opD k d a).files nm = Dsk.look o.files nm := by rw [hF1, if_neg (fun e => hnm e.2.symm), HSm.out]
              exact h8
            clear hE1 hE2 hF1 hF2 hnm
            go_wp2_with (first
              | (go_at_call 23; refine (HP2.out _).mono ?_; rintro e w' ⟨rfl, rfl⟩)
              | (go_at_call 19; refine HC1.out.mono ?_; rintro e w5 ⟨rfl, L5, hat5, hst5⟩
                 have HA5 := Lib.hid hat5
                 obtain ⟨ho5, hd5⟩ := HO.out.apart hst5 HD.out
                 have HO5 := Lib.hid ho5
                 have HD5 := Lib.hid hd5
                 have HB5 := Lib.hid (HB.out.trans ((hst5.below HA.out).mono HwB.out.1))
                 obtain ⟨e0', e1', e2', e3', e4'⟩ := Hat.out w5 HB5.out
                 clear hat5 hst5 ho5 hd5 HC1 e0 e1 e2 e3 e4)
              | fail)
            go_roundw
            case rel => exact ⟨i + 1, L5, Mi, opD k d a, o, h1, by go_num, HA5.out, HO5.out, HD5.out, Gd1.out, Go.out.more, HFF.out, HB5.out⟩
            case measure => simp [intOf]; omega
        · have h3' : 3 < k := by omega
          clear hE1 hE2 hF1 hF2
          go_wp2_with (first
            | (go_at_call 23; refine (HP2.out _).mono ?_; rintro e w' ⟨rfl, rfl⟩)
            | fail)
          go_roundw
          case rel => exact ⟨i + 1, Li, Mi, d, o, h1, by go_num, HA.out, HO.out, HD.out, Gd.out.more, Go.out.more, HSm.out, HB.out⟩
          case measure => simp [intOf]; omega
      · have h1' : ¬ (i : Int) < (l.length : Int) := by omega
        have hil : i = l.length := by omega
        subst hil
        have htd : total d.files ≤ 100000000 := by have := Gd.out.sum; have := Gd.out.left; have := Hl3.out; omega
        have hto : total o.files ≤ 100000000 := by have := Go.out.sum; have := Go.out.left; have := Hl3.out; omega
        obtain ⟨F, hF⟩ : ∃ F, Dsk.look d.files nm = F := ⟨_, rfl⟩
        have hFo : Dsk.look o.files nm = F := by rw [← HSm.out, hF]
        have HR1 := Lib.hid (Read_at HA.out nm Hnm.out htd)
        rw [hF] at HR1
        have HR2 := Lib.hid (fun (wx : World) (hx : At wx B2 Mi q o) => Read_at hx nm Hnm.out hto)
        rw [hFo] at HR2
        have HR3 := Lib.hid (fun (wx : World) (Lx : Lab) (hx : At wx B1 Lx p (crashD d [])) => Read_at hx nm Hnm.out (Nat.le_trans (crash_total HA.out.nodup) htd))
        rw [look_crash HA.out.nodup, hF] at HR3
        have HR4 := Lib.hid (fun (wx : World) (Lx : Lab) (hx : At wx B2 Lx q (crashD o [])) => Read_at hx nm Hnm.out (Nat.le_trans (crash_total HO.out.nodup) hto))
        rw [look_crash HO.out.nodup, hFo] at HR4
        have HK1 := Lib.hid (fun (wx : World) (hx : At wx B1 Li p d) => Crash_at hx htd (by have := Gd.out.num; omega) (by have := Gd.out.sum; have := Gd.out.left; have := Hl3.out; omega) (key_len HA.out) (.slice none 0 0) [] (isF_nil _ _ _ _))
        have HK2 := Lib.hid (fun (wx : World) (hx : At wx B2 Mi q o) => Crash_at hx hto (by have := Go.out.num; omega) (by have := Go.out.sum; have := Go.out.left; have := Hl3.out; omega) (key_len HO.out) (.slice none 0 0) [] (isF_nil _ _ _ _))
        obtain ⟨xb, hxb⟩ : ∃ xb, rdB F = xb := ⟨_, rfl⟩
        obtain ⟨xe, hxe⟩ : ∃ xe, rdE F = xe := ⟨_, rfl⟩
        obtain ⟨yb, hyb⟩ : ∃ yb, rdB (F.bind crashO) = yb := ⟨_, rfl⟩
        obtain ⟨ye, hye⟩ : ∃ ye, rdE (F.bind crashO) = ye := ⟨_, rfl⟩
        rw [hxb, hxe] at HR1 HR2
        rw [hyb, hye] at HR3 HR4
        clear hF hFo hxb hxe hyb hye htd hto
        go_wp2_with (first
          | (go_at_call 12; refine HR1.out.mono ?_; rintro e w5 ⟨A5, c5, rfl, hbs5, hb5⟩
             have HA5 := Lib.hid (HA.out.new hb5)
             have HO5 := Lib.hid (HO.out.new hb5)
             have HB5 := Lib.hid (nextB HB.out (Nat.le_refl _) hb5)
             have HS5 := Lib.hid hbs5
             clear hbs5 hb5 HR1 HA HO HB)
          | (go_at_call 12; refine (HR2.out _ HO5.out).mono ?_; rintro e w6 ⟨A6, c6, rfl, hbs6, hb6⟩
             have hs5 : (convert 27 9 (.slice A5 xb.length c5)).run Try.prog w6 = .ok (.string { data := xb.toArray }) w6 := run_str w6 (HS5.out.below hb6)
             have hs6 : (convert 27 9 (.slice A6 xb.length c6)).run Try.prog w6 = .ok (.string { data := xb.toArray }) w6 := run_str w6 hbs6
             have HA6 := Lib.hid (HA5.out.new hb6)
             have HO6 := Lib.hid (HO5.out.new hb6)
             have HB6 := Lib.hid (nextB HB5.out (Nat.le_refl _) hb6)
             clear hbs6 hb6 HR2 HA5 HO5 HB5 HS5)
          | (go_at_call 11; refine (HK1.out _ HA6.out).mono ?_; rintro e w7 ⟨rfl, L7, hat7, hst7⟩
             have HA7 := Lib.hid hat7
             obtain ⟨ho7, hd7⟩ := HO6.out.apart hst7 HD.out
             have HO7 := Lib.hid ho7
             have HD7 := Lib.hid hd7
             have HB7 := Lib.hid (HB6.out.trans ((hst7.below HA6.out).mono HwB.out.1))
             clear hat7 hst7 ho7 hd7 HK1 HA6 HO6 HD HB6 hs5 hs6)
          | (go_at_call 11; refine (HK2.out _ HO7.out).mono ?_; rintro e w8 ⟨rfl, M8, hat8, hst8⟩
             have HO8 := Lib.hid hat8
             obtain ⟨ha8, hd8⟩ := HA7.out.apart hst8 HD7.out.symm
             have HA8 := Lib.hid ha8
             have HB8 := Lib.hid (HB7.out.trans ((hst8.below HO7.out).mono HwB.out.2))
             clear hat8 hst8 ha8 hd8 HK2 HA7 HO7 HD7 HB7)
          | (go_at_call 12; refine (HR3.out _ _ HA8.out).mono ?_; rintro e w9 ⟨A9, c9, rfl, hbs9, hb9⟩
             have HO9 := Lib.hid (HO8.out.new hb9)
             have HB9 := Lib.hid (nextB HB8.out (Nat.le_refl _) hb9)
             have HS9 := Lib.hid hbs9
             clear hbs9 hb9 HR3 HA8 HO8 HB8)
          | (go_at_call 12; refine (HR4.out _ _ HO9.out).mono ?_; rintro e wa ⟨Aa, ca, rfl, hbsa, hba⟩
             have hs9 : (convert 27 9 (.slice A9 yb.length c9)).run Try.prog wa = .ok (.string { data := yb.toArray }) wa := run_str wa (HS9.out.below hba)
             have hsa : (convert 27 9 (.slice Aa yb.length ca)).run Try.prog wa = .ok (.string { data := yb.toArray }) wa := run_str wa hbsa
             have HBa := Lib.hid (nextB HB9.out (Nat.le_refl _) hba)
             clear hbsa hba HR4 HO9 HB9 HS9)
          | fail)
        go_ret
        exact ⟨rfl, HBa.out⟩
  · by_cases hs1 : smallB l = true
    · have hnl : 3000 < (nm.length : Int) := by
        have : 3000 < nm.length := by
          rcases Nat.lt_or_ge 3000 nm.length with h | h
          · exact h
          · exact absurd ⟨hs1, by omega⟩ hs
        omega
      clear hs
      unfold sv
      go_enter Try.func7, Try.ntmps7
      go_wp2_with (first
        | (go_at_call 13; refine (lives_any _).mono ?_; rintro e w1 ⟨rfl, hb⟩; have HB1 := Lib.hid hb; clear hb)
        | (go_at_call 8; have tk := TK; clear tk TK; refine (New_ex 65536 (by decide) (by decide) _).mono ?_; rintro e w2 ⟨p, L, rfl, _, hb⟩; have HB2 := Lib.hid (nextB HB1.out (Nat.le_refl _) hb); have TK2 := Lib.hid True.intro; clear hb; unfold pv)
        | (go_at_call 8; have tk := TK2; clear tk TK2; refine (New_ex 65536 (by decide) (by decide) _).mono ?_; rintro e w3 ⟨q, M, rfl, _, hb⟩; have HB3 := Lib.hid (nextB HB2.out (Nat.le_refl _) hb); clear hb; unfold pv)
        | (go_at_call 18; refine (small_any ((Hac.out.below HB3.out).more HB3.out.size) Hl.out).mono ?_; rintro e w4 ⟨rfl, hb⟩; have HB4 := Lib.hid (nextB HB3.out (Nat.le_refl _) hb); clear hb)
        | fail)
      go_ret
      exact ⟨rfl, HB4.out⟩
    · have hs2 : smallB l = false := by simpa using hs1
      clear hs hs1
      unfold sv
      go_enter Try.func7, Try.ntmps7
      go_wp2_with (first
        | (go_at_call 13; refine (lives_any _).mono ?_; rintro e w1 ⟨rfl, hb⟩; have HB1 := Lib.hid hb; clear hb)
        | (go_at_call 8; have tk := TK; clear tk TK; refine (New_ex 65536 (by decide) (by decide) _).mono ?_; rintro e w2 ⟨p, L, rfl, _, hb⟩; have HB2 := Lib.hid (nextB HB1.out (Nat.le_refl _) hb); have TK2 := Lib.hid True.intro; clear hb; unfold pv)
        | (go_at_call 8; have tk := TK2; clear tk TK2; refine (New_ex 65536 (by decide) (by decide) _).mono ?_; rintro e w3 ⟨q, M, rfl, _, hb⟩; have HB3 := Lib.hid (nextB HB2.out (Nat.le_refl _) hb); clear hb; unfold pv)
        | (go_at_call 18; refine (small_any ((Hac.out.below HB3.out).more HB3.out.size) Hl.out).mono ?_; rintro e w4 ⟨rfl, hb⟩; have HB4 := Lib.hid (nextB HB3.out (Nat.le_refl _) hb); clear hb)
        | fail)
      go_ret
      exact ⟨rfl, HB4.out⟩
set_option maxRecDepth 100000 in
theorem lift (os : Os) (started : os.Started) (H : Type) (enc : TypeId × Value → H) :
    ReturnsInHanded {} Try.checked os 7 .any (Rows.diskApartSpec.pre6 enc Try.prog Try.f7 Rows.diskApartRow.domain false) (Rows.diskApartSpec.post enc Try.prog Try.f7 false true false false) := by
  refine Law.liftedS (C := Try.checked) 4 own started (by kernel_rfl) Try.func7 laid (by kernel_rfl) rfl Try.underlying4 rfl
    (fun ds hd => by
      have hd' : ds.length = 2 := hd
      match ds, hd' with
      | [d0, d1], _ => rfl)
    (ChangeSpec.witness6 (enc := enc) (C := Try.checked) false ⟨#[], #[.slice none 0 0, .string ⟨#[]⟩], []⟩ 8 (by kernel_rfl) (by kernel_rfl) (by kernel_rfl) (by kernel_rfl)) ?_
  intro W args ds ps hst hsz
  have hA : DataW.TrodAll enc Try.prog W 0 (fun _ => true) true Try.f7.params.toList args.toList ds ps := hst.trod
  have hok := hst.okw
  have hlt := hst.lt
  rw [Try.params7] at hA hok
  obtain ⟨v0, v1, d0, d1, p0, p1, rfl, rfl, rfl, h0, h1⟩ := trodAll_two hA
  obtain ⟨_, hv0⟩ := hok 0 41 v0 rfl rfl
  obtain ⟨_, hv1⟩ := hok 1 9 v1 rfl rfl
  obtain ⟨l, hAc, hll, hn, hR⟩ := acts_trod hv0 h0 (fun x hx => hlt x (List.mem_append_left _ hx))
  obtain ⟨s, rfl, _, _, hsl⟩ := Go.ChangeMaps.open_string Try.underlying9 hv1 h1
  have hb := hR reachBytes (hsz 0 41 d0 (by rw [Try.params7]; rfl) rfl)
  unfold reachBytes at hb
  exact walk (nm := s.data.toList) hAc hll (by simpa using hsl) fun a ha => ⟨hn a ha, by have := (hb a ha).1; omega⟩

theorem over : Rows.diskApartRow.holds Try.pinned (OpenSpec.ofChange Rows.diskApartSpec) :=
  OpenClaim.holds_of_wide 7 Try.f7 rfl rfl rfl rfl rfl rfl rfl ⟨rfl, rfl, rfl, rfl, rfl⟩ rfl rfl rfl rfl rfl (by kernel_rfl) Try.func7 (by kernel_rfl)
    (of_decide_eq_true (by kernel_rfl)) (by unfold Func.isWrapper; first | (rw [if_pos (by decide +kernel)]; kernel_rfl) | (rw [if_neg (by decide +kernel)]; exact ⟨rfl, rfl⟩))
    (fun os started H enc _ => lift os started H enc)
theorem proved : Rows.DiskApartSaid := over
#print axioms proved
end Go.Proofs.Ytgmmjnedgaeefaa.diskApart
