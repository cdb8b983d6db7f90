/- What is written is read back: 'drawbridgelaw01.OctetBack', for every argument. -/
import Derived.Test.YtmfjlcgbanidnaaOctSeq
import Derived.Test.YtmfjlcgbanidnaaKitLists
import Derived.Test.YtmfjlcgbanidnaaLaw
import Derived.Test.YtmfjlcgbanidnaaOctLives
import Derived.Test.YtmfjlcgbanidnaaByJ
import Derived.Test.YtmfjlcgbanidnaaBs
namespace Go.Proofs.Ytmfjlcgbanidnaa.octetBack
open Go.ChangeShapes Go.WideShapes Go.ChangeAt Go.RowKit

def numAt (xs : List Nat) (i : Nat) : List UInt8 := match xs[i]? with | some x => Oct.enc x | none => []
def blkAt (ps : List (List UInt8)) (i : Nat) : List UInt8 := match ps[i]? with | some p => Oct.enc p.length ++ p | none => []
/-- What the first i rounds write. -/
def cat (xs : List Nat) (ps : List (List UInt8)) : Nat → List UInt8
  | 0 => []
  | i + 1 => cat xs ps i ++ numAt xs i ++ blkAt ps i

theorem numAt_len (xs : List Nat) (i : Nat) (h : ∀ x ∈ xs, x < 2 ^ 64) : (numAt xs i).length ≤ 9 := by
  unfold numAt
  cases hx : xs[i]? with
  | none => simp
  | some x =>
    have := (Oct.nsize_spec x (h x (List.mem_of_getElem? hx))).1
    simp only [Oct.enc_length]; omega
theorem blkAt_len (ps : List (List UInt8)) (i : Nat) (h : ∀ p ∈ ps, p.length ≤ 3000) : (blkAt ps i).length ≤ 3009 := by
  unfold blkAt
  cases hx : ps[i]? with
  | none => simp
  | some p =>
    have h1 := h p (List.mem_of_getElem? hx)
    have := (Oct.nsize_spec p.length (by omega)).1
    simp only [List.length_append, Oct.enc_length]; omega
theorem cat_len (xs : List Nat) (ps : List (List UInt8)) (hx : ∀ x ∈ xs, x < 2 ^ 64) (hp : ∀ p ∈ ps, p.length ≤ 3000) : ∀ i, (cat xs ps i).length ≤ i * 3018
  | 0 => by simp [cat]
  | i + 1 => by
    have h1 := cat_len xs ps hx hp i
    have h2 := numAt_len xs i hx
    have h3 := blkAt_len ps i hp
    simp only [cat, List.length_append]
    omega

/-- Only the reader g may turn, and what D says of it stays said. -/
def TJ (g : Nat) (D : World → Prop) (x y : World) : Prop := x.grownBy y (some g) ∧ (D x → D y)
theorem TJ.refl {g : Nat} {D : World → Prop} (x : World) : TJ g D x x := ⟨⟨rfl, rfl, rfl, Nat.le_refl _, fun _ _ _ => rfl⟩, id⟩
theorem TJ.trans {g : Nat} {D : World → Prop} (x y z : World) (h : TJ g D x y) (k : TJ g D y z) : TJ g D x z :=
  ⟨⟨k.1.os.trans h.1.os, k.1.tape.trans h.1.tape, k.1.output.trans h.1.output, Nat.le_trans h.1.size k.1.size, fun i hi hne => (k.1.block i (Nat.lt_of_lt_of_le hi h.1.size) hne).trans (h.1.block i hi hne)⟩, fun q => k.2 (h.2 q)⟩
theorem TJ.of_grew {g : Nat} {D : World → Prop} (hD : ∀ x y, Grew x y → D x → D y) (x y : World) (h : Grew x y) : TJ g D x y := ⟨only_of_below h _, hD x y h⟩
theorem TJ.cell {g : Nat} {D : World → Prop} {x y : World} (h : TJ g D x y) {b o : Nat} (hb : b < x.heap.size) (hne : b ≠ g) : y.cell? ⟨b, o, none⟩ = x.cell? ⟨b, o, none⟩ :=
  World.cell?_of_block (a := ⟨b, o, none⟩) (h.1.block b hb (fun q => hne (by injection q)))
/-- A number that the reader gave; bytes that it gave. -/
def numJ (g x : Nat) (D : World → Prop) : By.Mark (TJ g D) := ⟨fun v w => v = .int .u64 (x : Int) ∧ D w, fun _ _ _ h k => ⟨h.1, k.2 h.2⟩⟩
def blkJ (g : Nat) (p : List UInt8) (D : World → Prop) : By.Mark (TJ g D) := ⟨fun v w => (∃ lo, g < lo ∧ Own w lo v p) ∧ D w, fun v _ _ h k => by
  obtain ⟨⟨lo, h1, h2⟩, h3⟩ := h
  refine ⟨⟨lo, h1, h2.kept k.1 ?_⟩, k.2 h3⟩
  cases hv : v.ownBlock with
  | none => exact .inl rfl
  | some q => exact .inr (fun e => by injection e with e; have := (h2.block_ge hv).1; omega)⟩
theorem cat_pre (xs : List Nat) (ps : List (List UInt8)) (i j : Nat) (h : i ≤ j) : ∃ r, cat xs ps j = cat xs ps i ++ r := by
  induction j with
  | zero => exact ⟨[], by simp [show i = 0 by omega]⟩
  | succ j ih =>
    by_cases hi : i = j + 1
    · exact ⟨[], by rw [hi, List.append_nil]⟩
    · obtain ⟨r, hr⟩ := ih (by omega)
      exact ⟨r ++ numAt xs j ++ blkAt ps j, by rw [cat, hr]; simp only [List.append_assoc]⟩

/-- A new reader. -/
def rdM (B : Nat) (l : List UInt8) : By.Mark Grew := ⟨fun v w => ∃ lo g, v = .pointer (some ⟨g, 0, none⟩) ∧ B ≤ lo ∧ lo ≤ g ∧ Rd w lo g l 0 0, fun _ _ _ h k => by
  obtain ⟨lo, g, h1, h2, h3, h4⟩ := h
  exact ⟨lo, g, h1, h2, h3, h4.below k (by obtain ⟨_, _, _, _, _, _, _, _, _, _, _, _, hlt⟩ := h4.cells; exact hlt)⟩⟩
/-- Readers of different lengths are different. -/
theorem Rd.differ {w : World} {lo lo2 g : Nat} {l l2 : List UInt8} {a e a2 e2 : Nat} (h : Rd w lo g l a e) (h2 : Rd w lo2 g l2 a2 e2) (hl : l.length ≠ l2.length) : False := by
  obtain ⟨A, c, _, h1, _⟩ := h.cells
  obtain ⟨A2, c2, _, h3, _⟩ := h2.cells
  rw [h1] at h3
  simp only [Option.some.injEq, Value.slice.injEq] at h3
  exact hl h3.2.1
/-- What turns one reader leaves another alone. -/
theorem Rd.other {w w' : World} {lo lo2 g k : Nat} {l l2 : List UInt8} {a e a2 e2 : Nat} (h : Rd w lo g l a e) (h2 : Rd w lo2 k l2 a2 e2) (hg : w.grownBy w' (some k)) (hne : g ≠ k) : Rd w' lo g l a e := by
  obtain ⟨v, h1, hbs, h3⟩ := h
  have hlt : g < w.heap.size := (Array.getElem?_eq_some_iff.1 h1).1
  refine ⟨v, by rw [hg.block g hlt (fun q => hne (by injection q))]; exact h1, ?_, h3⟩
  obtain ⟨A, c, rfl, hc, hcs⟩ := hbs
  refine ⟨A, c, rfl, hc, fun hn => ?_⟩
  obtain ⟨b, off, rfl, hb, hcell⟩ := hcs hn
  refine ⟨b, off, rfl, hb, fun i u hu => ?_⟩
  have hc1 := hcell i u hu
  have hbk : b ≠ k := by
    rintro rfl
    obtain ⟨v2, q1, _⟩ := h2
    simp only [World.cell?, q1] at hc1
    have hs := (Array.getElem?_eq_some_iff.1 hc1).1
    have hsz : off + i < 4 := by simpa using hs
    unfold bv at hc1
    obtain h4 | h4 | h4 | h4 : off + i = 0 ∨ off + i = 1 ∨ off + i = 2 ∨ off + i = 3 := by omega
    all_goals
      rw [h4] at hc1
      simp at hc1
    rename_i hbs2
    obtain ⟨_, _, q5, _⟩ := ‹_ ∧ _›.1
    rw [q5] at hc1
    cases hc1
  exact (World.cell?_of_block (a := ⟨b, off + i, none⟩) (hg.block b (by omega) (fun q => hbk (by injection q)))).trans hc1

set_option maxRecDepth 4000 in
set_option maxHeartbeats 2000000 in
theorem walk (v0 v1 : Value) (xs : List Nat) (ps : List (List UInt8)) (w : World) (hx : Ws w w.heap.size v0 xs) (hp : Bss w w.heap.size v1 ps) (hx64 : ∀ x ∈ xs, x < 2 ^ 64) (hxn : xs.length ≤ 50) (hpn : ps.length ≤ 50) (hpl : ∀ p ∈ ps, p.length ≤ 3000) :
    Calls Try.prog 6 #[v0, v1] w fun e w' => e = .returned (.bool true) ∧ Below w.heap.size w w' := by
  have Hx := Lib.hid hx
  have Hp := Lib.hid hp
  have H64 := Lib.hid hx64
  have Hpl := Lib.hid hpl
  obtain ⟨A0, c0, rfl, hc0, _⟩ := hx
  obtain ⟨A1, c1, rfl, hc1, _⟩ := hp
  clear hx64 hpl
  have hxn' : ¬ (50 : Int) < (xs.length : Int) := by omega
  have hl : light ps 50 3000 = true := decide_eq_true ⟨hpn, Hpl.out⟩
  go_enter Try.func6, Try.ntmps6
  go_wp2_with (go_at_call 16; refine (lives_any _).mono ?_; rintro e w1 ⟨rfl, hb1⟩)
  have Hp1 := Lib.hid (Hp.out.below hb1)
  go_wp2_with fail
  refine (LightLists_any _ ps 50 3000 _ Hp1.out (by omega) (by omega)).mono ?_
  rw [hl]
  rintro e w2 ⟨rfl, rfl⟩
  clear Hp1 hl
  go_wp2
  go_loopw [5, 6] (fun v iv wr => ∃ i : Nat, i ≤ 50 ∧ iv = .int .i64 (i : Int) ∧ Own wr w.heap.size v (cat xs ps i) ∧ Below w.heap.size w wr) (fun _ iv _ => 50 - (intOf iv).toNat)
  case atStart => exact ⟨0, Nat.zero_le _, rfl, Own.nil _ _, hb1⟩
  case round =>
    obtain ⟨i, hi, hiv, hown, hbel⟩ := hrel
    subst hiv
    have Hown := Lib.hid hown
    clear hown
    by_cases hin : i < 50
    · have hin' : (i : Int) < 50 := by omega
      have hlen := cat_len xs ps H64.out Hpl.out i
      by_cases h1 : i < xs.length
      · have h1' : (i : Int) < (xs.length : Int) := by omega
        obtain ⟨x, hxi⟩ : ∃ x, xs[i]? = some x := ⟨_, List.getElem?_eq_getElem h1⟩
        have hx64 := H64.out x (List.mem_of_getElem? hxi)
        obtain ⟨b0, off0, q0, k0⟩ : ∃ b off, A0 = some ⟨b, off, none⟩ ∧ wr.cell? ⟨b, off + i, none⟩ = some (.int .u64 (x : Int)) := by
          obtain ⟨A', c', e', _, hcs⟩ := Hx.out.below hbel
          simp only [Value.slice.injEq] at e'
          obtain ⟨rfl, _, rfl⟩ := e'
          obtain ⟨b, off, e1, _, hcs⟩ := hcs (by intro h; subst h; simp at h1)
          exact ⟨b, off, e1, hcs i x hxi⟩
        subst q0
        have hnum : numAt xs i = Oct.enc x := by simp only [numAt, hxi]
        have Hnum := Lib.hid hnum
        clear hnum hxi
        go_wp2_with fail
        refine (Number_any _ (cat xs ps i) x _ Hown.out.bs hx64 (by omega)).mono ?_
        rintro e3 w3 ⟨v3, rfl, hown3, hb3⟩
        have hbel3 := nextB hbel (Nat.le_refl _) hb3
        have hown3' : Own w3 w.heap.size v3 (cat xs ps i ++ numAt xs i) := by rw [Hnum.out]; exact hown3.less hbel.size
        have Hown3 := Lib.hid hown3'
        clear hown3 hown3' hb3 k0
        have hlen2 : (cat xs ps i ++ numAt xs i).length ≤ 200000 := by rw [List.length_append]; have := numAt_len xs i H64.out; omega
        by_cases h2 : i < ps.length
        · have h2' : (i : Int) < (ps.length : Int) := by omega
          obtain ⟨p, hpi⟩ : ∃ p, ps[i]? = some p := ⟨_, List.getElem?_eq_getElem h2⟩
          have hpm := Hpl.out p (List.mem_of_getElem? hpi)
          obtain ⟨b1, off1, q1, hlt1, hcell1⟩ : ∃ b off, A1 = some ⟨b, off, none⟩ ∧ b < w.heap.size ∧ ∃ u, w3.cell? ⟨b, off + i, none⟩ = some u ∧ Bs w3 w.heap.size u p := by
            obtain ⟨A', c', e', _, hcs⟩ := Hp.out.below hbel3
            simp only [Value.slice.injEq] at e'
            obtain ⟨rfl, _, rfl⟩ := e'
            obtain ⟨b, off, e1, hlt, hcs⟩ := hcs (by intro h; subst h; simp at h2)
            exact ⟨b, off, e1, hlt, hcs i p hpi⟩
          subst q1
          obtain ⟨u, hu, hbs⟩ := hcell1
          have Hbs := Lib.hid hbs
          clear hbs
          have hch : cat xs ps (i + 1) = cat xs ps i ++ numAt xs i ++ Oct.enc p.length ++ p := by simp only [cat, blkAt, hpi, List.append_assoc]
          have Hch := Lib.hid hch
          clear hch hpi
          go_wp2_with fail
          refine (Own_any u p _ (Hbs.out.more hbel3.size) (by omega)).mono ?_
          rintro e4 w4 ⟨v4, rfl, hown4, hb4⟩
          have Hown4 := Lib.hid hown4
          have Hownb := Lib.hid (Hown3.out.below hb4 (Nat.le_refl _))
          have hbel4 := nextB hbel3 (Nat.le_refl _) hb4
          clear hown4
          go_wp2_with fail
          refine (Block_ok _ v4 (cat xs ps i ++ numAt xs i) p _ Hownb.out.bs Hown4.out.bs (by omega) (by omega)).mono ?_
          rintro e5 w5 ⟨v5, rfl, hown5, hb5⟩
          have hbel5 := nextB hbel4 (Nat.le_refl _) hb5
          have Hown5 := Lib.hid hown5
          clear hown5 hb4 hb5
          go_wp2
          go_roundw
          case rel => exact ⟨i + 1, by omega, by simp, by rw [Hch.out]; exact Hown5.out.less hbel4.size, hbel5⟩
          case measure =>
            simp [intOf]
            omega
        · have h2' : ¬ (i : Int) < (ps.length : Int) := by omega
          have hpi : ps[i]? = none := List.getElem?_eq_none (by omega)
          have hch : cat xs ps (i + 1) = cat xs ps i ++ numAt xs i := by simp only [cat, blkAt, hpi, List.append_nil]
          have Hch := Lib.hid hch
          clear hch hpi
          go_wp2
          go_roundw
          case rel => exact ⟨i + 1, by omega, by simp, by rw [Hch.out]; exact Hown3.out, hbel3⟩
          case measure =>
            simp [intOf]
            omega
      · have h1' : ¬ (i : Int) < (xs.length : Int) := by omega
        have hnum : numAt xs i = [] := by simp only [numAt, List.getElem?_eq_none (show xs.length ≤ i by omega)]
        have hown3' : Own wr w.heap.size u5 (cat xs ps i ++ numAt xs i) := by rw [hnum, List.append_nil]; exact Hown.out
        have Hown3 := Lib.hid hown3'
        clear hown3' hnum
        have hlen2 : (cat xs ps i ++ numAt xs i).length ≤ 200000 := by rw [List.length_append]; have := numAt_len xs i H64.out; omega
        by_cases h2 : i < ps.length
        · have h2' : (i : Int) < (ps.length : Int) := by omega
          obtain ⟨p, hpi⟩ : ∃ p, ps[i]? = some p := ⟨_, List.getElem?_eq_getElem h2⟩
          have hpm := Hpl.out p (List.mem_of_getElem? hpi)
          obtain ⟨b1, off1, q1, hlt1, hcell1⟩ : ∃ b off, A1 = some ⟨b, off, none⟩ ∧ b < w.heap.size ∧ ∃ u, wr.cell? ⟨b, off + i, none⟩ = some u ∧ Bs wr w.heap.size u p := by
            obtain ⟨A', c', e', _, hcs⟩ := Hp.out.below hbel
            simp only [Value.slice.injEq] at e'
            obtain ⟨rfl, _, rfl⟩ := e'
            obtain ⟨b, off, e1, hlt, hcs⟩ := hcs (by intro h; subst h; simp at h2)
            exact ⟨b, off, e1, hlt, hcs i p hpi⟩
          subst q1
          obtain ⟨u, hu, hbs⟩ := hcell1
          have Hbs := Lib.hid hbs
          clear hbs
          have hch : cat xs ps (i + 1) = cat xs ps i ++ numAt xs i ++ Oct.enc p.length ++ p := by simp only [cat, blkAt, hpi, List.append_assoc]
          have Hch := Lib.hid hch
          clear hch hpi
          go_wp2_with fail
          refine (Own_any u p _ (Hbs.out.more hbel.size) (by omega)).mono ?_
          rintro e4 w4 ⟨v4, rfl, hown4, hb4⟩
          have Hown4 := Lib.hid hown4
          have Hownb := Lib.hid (Hown3.out.below hb4 (Nat.le_refl _))
          have hbel4 := nextB hbel (Nat.le_refl _) hb4
          clear hown4
          go_wp2_with fail
          refine (Block_ok _ v4 (cat xs ps i ++ numAt xs i) p _ Hownb.out.bs Hown4.out.bs (by omega) (by omega)).mono ?_
          rintro e5 w5 ⟨v5, rfl, hown5, hb5⟩
          have hbel5 := nextB hbel4 (Nat.le_refl _) hb5
          have Hown5 := Lib.hid hown5
          clear hown5 hb4 hb5
          go_wp2
          go_roundw
          case rel => exact ⟨i + 1, by omega, by simp, by rw [Hch.out]; exact Hown5.out.less hbel4.size, hbel5⟩
          case measure =>
            simp [intOf]
            omega
        · have h2' : ¬ (i : Int) < (ps.length : Int) := by omega
          have hpi : ps[i]? = none := List.getElem?_eq_none (by omega)
          have hch : cat xs ps (i + 1) = cat xs ps i ++ numAt xs i := by simp only [cat, blkAt, hpi, List.append_nil]
          have Hch := Lib.hid hch
          clear hch hpi
          go_wp2
          go_roundw
          case rel => exact ⟨i + 1, by omega, by simp, by rw [Hch.out]; exact Hown3.out, hbel⟩
          case measure =>
            simp [intOf]
            omega
    · have hi50 : i = 50 := by omega
      subst hi50
      rw [show ((50 : Nat) : Int) = 50 from rfl]
      obtain ⟨A5, c5, h5⟩ := Hown.out.shape
      subst h5
      have hlen := cat_len xs ps H64.out Hpl.out 50
      obtain ⟨L, hL⟩ : ∃ L, L = cat xs ps 50 := ⟨_, rfl⟩
      rw [← hL] at Hown hlen
      rw [← hL]
      have HL := Lib.hid hL
      clear hL
      have hcap : L.length ≤ c5 := by
        obtain ⟨_, _, q, k, _⟩ := Hown.out.bs
        simp only [Value.slice.injEq] at q
        omega
      obtain ⟨m, hm⟩ : ∃ m : Nat, m = L.length - 1 := ⟨_, rfl⟩
      have hsub : IntKind.i64.wrap ((L.length : Int) - 1) = (L.length : Int) - 1 := IntWalk.i64_in _ (by omega)
      have hmax : max 0 ((L.length : Int) - 1) = (m : Int) := by omega
      have HmL := Lib.hid (show m ≤ L.length by omega)
      have Hlen := Lib.hid hlen
      have Hm := Lib.hid hm
      clear hm
      have hb0 : (0 : Int) ≤ (m : Int) := by omega
      have hb1' : (m : Int) ≤ (c5 : Int) := by omega
      -- the readers
      have hB : ∀ W, Grew wr.drew W → Bs W W.heap.size (.slice A5 L.length c5) L := fun W hW => (Own.below (w := wr.drew) Hown.out.drew hW (Nat.le_refl _)).bs
      have HB := Lib.hid hB
      clear hB
      obtain ⟨B0, hB0⟩ : ∃ B0, w.heap.size = B0 := ⟨_, rfl⟩
      have hB0le : B0 ≤ wr.heap.size := by rw [← hB0]; exact hbel.size
      have HB0 := Lib.hid hB0
      clear hB0
      go_wp2_with fail
      refine By.marks mixed Grew [By.is (.slice A5 L.length c5),
        rdM B0 L,
        By.is (.slice A5 L.length c5),
        By.is (.slice A5 L.length c5),
        By.is (.int .i64 (L.length : Int)),
        By.is (.int .i64 ((L.length : Int) - 1)),
        By.is (.int .i64 (m : Int)),
        By.is (.slice A5 m c5),
        rdM B0 (L.take m),
        rdM B0 L,
        rdM B0 (L.take m)]
        (Ev.masks _ []) (by kernel_rfl) rfl Grew.refl Grew.trans ⟨?_, ?_, ?_, ?_, ?_, ?_, ?_, ?_, ?_, ?_, ?_, trivial⟩ ?_
      · intro a w ht hs hg -- 48
        have h5 := By.same_get hs 5 (by decide) (by kernel_rfl)
        refine By.yes rfl ?_
        clear hs hg
        go_simp
        exact ⟨_, rfl, Grew.refl _, rfl⟩
      · intro a w ht hs hg -- 49
        have h48 : a.tmps.getD 48 undef = _ := By.given_get hg 0 rfl rfl (by kernel_rfl)
        refine By.yes rfl ?_
        clear hs hg
        have Hx := Lib.hid (HB.out w ht)
        go_simp
        refine (New_any _ L w Hx.out (by have := Hlen.out; omega)).mono ?_
        rintro e w' ⟨g, rfl, hg, hl, hr, hb⟩
        exact ⟨_, rfl, hb, ⟨_, g, rfl, Nat.le_trans hB0le ht.size, hg, hr⟩⟩
      · intro a w ht hs hg -- 50
        have h5 := By.same_get hs 5 (by decide) (by kernel_rfl)
        refine By.yes rfl ?_
        clear hs hg
        go_simp
        exact ⟨_, rfl, Grew.refl _, rfl⟩
      · intro a w ht hs hg -- 51
        have h5 := By.same_get hs 5 (by decide) (by kernel_rfl)
        refine By.yes rfl ?_
        clear hs hg
        go_simp
        exact ⟨_, rfl, Grew.refl _, rfl⟩
      · intro a w ht hs hg -- 52
        have h51 : a.tmps.getD 51 undef = _ := By.given_get hg 3 rfl rfl (by kernel_rfl)
        refine By.yes rfl ?_
        clear hs hg
        go_simp
        exact ⟨_, rfl, Grew.refl _, rfl⟩
      · intro a w ht hs hg -- 53
        have h52 : a.tmps.getD 52 undef = _ := By.given_get hg 4 rfl rfl (by kernel_rfl)
        refine By.yes rfl ?_
        clear hs hg
        go_simp
        exact ⟨_, rfl, Grew.refl _, rfl⟩
      · intro a w ht hs hg -- 54
        have h53 : a.tmps.getD 53 undef = _ := By.given_get hg 5 rfl rfl (by kernel_rfl)
        refine By.yes rfl ?_
        clear hs hg
        go_simp
        exact ⟨_, rfl, Grew.refl _, rfl⟩
      · intro a w ht hs hg -- 55
        have h50 : a.tmps.getD 50 undef = _ := By.given_get hg 2 rfl rfl (by kernel_rfl)
        have h54 : a.tmps.getD 54 undef = _ := By.given_get hg 6 rfl rfl (by kernel_rfl)
        refine By.yes rfl ?_
        clear hs hg
        go_simp
        exact ⟨_, rfl, Grew.refl _, rfl⟩
      · intro a w ht hs hg -- 56
        have h55 : a.tmps.getD 55 undef = _ := By.given_get hg 7 rfl rfl (by kernel_rfl)
        refine By.yes rfl ?_
        clear hs hg
        have Hx := Lib.hid ((HB.out w ht).take rfl HmL.out)
        go_simp
        refine (New_any _ (L.take m) w Hx.out (by have := Hlen.out; rw [List.length_take]; omega)).mono ?_
        rintro e w' ⟨g, rfl, hg, hl, hr, hb⟩
        exact ⟨_, rfl, hb, ⟨_, g, rfl, Nat.le_trans hB0le ht.size, hg, hr⟩⟩
      · intro a w ht hs hg -- 7
        have h49 := By.given_get hg 1 rfl rfl (by kernel_rfl)
        refine By.yes rfl ?_
        obtain ⟨v49, hv49⟩ : ∃ v, a.tmps.getD 49 undef = v := ⟨_, rfl⟩
        replace h49 := (congrArg (fun v => (rdM B0 L).on v w) hv49).mp h49
        clear hs hg
        obtain ⟨lo, g, rfl, h1, h2, h3⟩ := h49
        have Hx := Lib.hid h3
        clear h3
        go_simp
        exact ⟨_, rfl, Grew.refl _, ⟨lo, g, rfl, h1, h2, Hx.out⟩⟩
      · intro a w ht hs hg -- 8
        have h56 := By.given_get hg 8 rfl rfl (by kernel_rfl)
        refine By.yes rfl ?_
        obtain ⟨v56, hv56⟩ : ∃ v, a.tmps.getD 56 undef = v := ⟨_, rfl⟩
        replace h56 := (congrArg (fun v => (rdM B0 (L.take m)).on v w) hv56).mp h56
        clear hs hg
        obtain ⟨lo, g, rfl, h1, h2, h3⟩ := h56
        have Hx := Lib.hid h3
        clear h3
        go_simp
        exact ⟨_, rfl, Grew.refl _, ⟨lo, g, rfl, h1, h2, Hx.out⟩⟩
      refine By.ends_is (By.ends_skip fun v49 => (By.ends_is (By.ends_is (By.ends_is (By.ends_is (By.ends_is (By.ends_is (By.ends_skip fun v56 => (By.ends_any fun v7 => (By.ends_any fun v8 => (By.ends_nil fun w6 hw6 => ?_)))))))))))
      simp only [Act.put, List.setIfInBounds_toArray, List.set_cons_succ, List.set_cons_zero]
      obtain ⟨⟨hg6, ⟨lo1, g1, rfl, hlo1, hg1, hr1⟩⟩, ⟨lo2, g2, rfl, hlo2, hg2, hr2⟩⟩ := hw6
      have hb06 : Below w.heap.size w w6 := hbel.drew.trans (Below.mono hg6 hbel.size)
      have hne : L ≠ [] → g1 ≠ g2 := by
        intro hL he
        subst he
        exact Rd.differ hr1 hr2 (by have := Hm.out; have h0 : 0 < L.length := Nat.pos_of_ne_zero (fun h => hL (List.eq_nil_of_length_eq_zero h)); rw [List.length_take]; omega)
      have Hne := Lib.hid hne
      have Hr1 := Lib.hid hr1
      have Hr2 := Lib.hid hr2
      clear hne hr1 hr2 hg6 HB
      go_wp2
      go_loopw [9] (fun iv wq => ∃ i : Nat, i ≤ 50 ∧ iv = .int .i64 (i : Int) ∧ Rd wq lo1 g1 L (cat xs ps i).length 0 ∧ (L ≠ [] → ∃ a e, Rd wq lo2 g2 (L.take m) a e ∧ OctSeq.Short m (cat xs ps i) a e) ∧ Below w.heap.size w wq) (fun iv _ => 50 - (intOf iv).toNat)
      case atStart => exact ⟨0, by omega, rfl, Hr1.out, fun _ => ⟨0, 0, Hr2.out, .inr ⟨rfl, rfl, Nat.zero_le _⟩⟩, hb06⟩
      case round =>
        obtain ⟨i, hi, rfl, hr1, hr2, hbel⟩ := hrel
        have Hr1 := Lib.hid hr1
        have Hr2 := Lib.hid hr2
        clear hr1 hr2
        by_cases hin : i < 50
        · have hin' : (i : Int) < 50 := by omega
          obtain ⟨rest, hrest⟩ := cat_pre xs ps (i + 1) 50 (by omega)
          obtain ⟨pre, hpre⟩ : ∃ pre, cat xs ps i = pre := ⟨_, rfl⟩
          rw [hpre] at Hr1 Hr2
          by_cases h1 : i < xs.length
          · skip
            have h1' : (i : Int) < (xs.length : Int) := by omega
            obtain ⟨x, hxi⟩ : ∃ x, xs[i]? = some x := ⟨_, List.getElem?_eq_getElem h1⟩
            have hx64 := H64.out x (List.mem_of_getElem? hxi)
            obtain ⟨b0, off0, q0, hlt0, k0⟩ : ∃ b off, A0 = some ⟨b, off, none⟩ ∧ b < w.heap.size ∧ ∀ W, Below w.heap.size w W → W.cell? ⟨b, off + i, none⟩ = some (.int .u64 (x : Int)) := by
              obtain ⟨A', c', e', _, hcs⟩ := Hx.out
              simp only [Value.slice.injEq] at e'
              obtain ⟨rfl, _, rfl⟩ := e'
              obtain ⟨b, off, e1, hlt, hcs⟩ := hcs (by intro h; subst h; simp at h1)
              exact ⟨b, off, e1, hlt, fun W hW => (hW.cell (p := ⟨b, off + i, none⟩) hlt).trans (hcs i x hxi)⟩
            subst q0
            have K0 := Lib.hid k0
            have hnumA : numAt xs i = Oct.enc x := by simp only [numAt, hxi]
            have hsplit : L = pre ++ Oct.enc x ++ (blkAt ps i ++ rest) := by rw [HL.out, hrest, cat, hnumA, hpre]; simp only [List.append_assoc]
            have hLne : L ≠ [] := by rw [hsplit]; simp [Oct.enc]
            have HnumA := Lib.hid hnumA
            obtain ⟨aa, ee, hr2, hsh⟩ := Hr2.out hLne
            obtain ⟨v', a', e', hn1, hn2, _, _⟩ := OctSeq.number_short pre (blkAt ps i ++ rest) x m aa ee hx64 hsh
            rw [← hsplit] at hn1
            have hnb : rdNumber L pre.length 0 = (x, (pre ++ Oct.enc x).length, 0) := by rw [hsplit]; exact OctSeq.number_at pre _ x hx64
            have Hnb := Lib.hid hnb
            have Hn1 := Lib.hid hn1
            have Hhr2 := Lib.hid hr2
            have Hn2 := Lib.hid hn2
            have HLne := Lib.hid hLne
            clear k0 hnumA hsplit hnb hn1 hr2 hsh hxi hn2 hLne
            go_wp2_with fail
            refine (RNumber_any Hhr2.out).mono ?_
            rw [Hn1.out]
            rintro e3 w3 ⟨rfl, hr2, hgr3⟩
            have Hr1 := Lib.hid (Rd.other Hr1.out Hhr2.out hgr3 (Hne.out HLne.out))
            have hbel3 := hbel.grown hgr3 hbel.size (fun k hk => by injection hk with hk; have := HB0.out; omega)
            have Hr2a := Lib.hid hr2
            clear hr2 hgr3
            have hlt1 : g1 < w3.heap.size := by obtain ⟨_, _, _, _, _, _, _, _, _, _, _, _, hlt⟩ := Hr1.out.cells; exact hlt
            have HRJ := Lib.hid (show ∀ W, Grew w3.drew W → Rd W lo1 g1 L pre.length 0 from fun W hW => Rd.below (w := w3.drew) Hr1.out hW hlt1)
            obtain ⟨DD, hDD⟩ : ∃ D : World → Prop, D = fun w => Rd w lo1 g1 L (pre ++ Oct.enc x).length 0 := ⟨_, rfl⟩
            have HDs := Lib.hid (show ∀ x y, Grew x y → DD x → DD y from fun x y h k => by
              rw [hDD] at k ⊢
              exact Rd.below k h (by obtain ⟨_, _, _, _, _, _, _, _, _, _, _, _, hlt⟩ := k.cells; exact hlt))
            have HD1 := Lib.hid (show ∀ W, Rd W lo1 g1 L (pre ++ Oct.enc x).length 0 → DD W from fun W h => by rw [hDD]; exact h)
            have HD2 := Lib.hid (show ∀ W, DD W → Rd W lo1 g1 L (pre ++ Oct.enc x).length 0 from fun W h => by rw [hDD] at h; exact h)
            clear hDD
            have HXJ := Lib.hid (show ∀ W, TJ g1 DD w3.drew W → W.cell? ⟨b0, off0 + i, none⟩ = some (.int .u64 (x : Int)) from fun W hW => (hW.cell (b := b0) (o := off0 + i) (Nat.lt_of_lt_of_le hlt0 hbel3.size) (by have := HB0.out; omega)).trans (K0.out w3 hbel3))
            go_wp2_with fail
            refine ByJ.marks mixed Grew (TJ g1 DD) 1 (TJ.of_grew HDs.out) Grew.refl Grew.trans [By.is (.pointer (some ⟨g1, 0, none⟩)),
              numJ g1 x DD,
              By.is (.slice (some ⟨b0, off0, none⟩) xs.length c0),
              By.is (.int .i64 (i : Int)),
              By.is (.pointer (some ⟨b0, off0 + i, none⟩)),
              By.is (.int .u64 (x : Int)),
              By.is (.bool false)]
              (Ev.masks _ []) (by kernel_rfl) rfl TJ.refl TJ.trans ⟨?_, ?_, ?_, ?_, ?_, ?_, ?_, trivial⟩ ?_
            · intro a w ht hs hg -- 67
              have h7 := By.same_get hs 7 (by decide) (by kernel_rfl)
              refine By.yes rfl ?_
              clear hs hg
              go_simp
              exact ⟨_, rfl, Grew.refl _, rfl⟩
            · intro a w ht hs hg -- 68
              have h67 : a.tmps.getD 67 undef = _ := By.given_get hg 0 rfl rfl (by kernel_rfl)
              refine By.yes rfl ?_
              clear hs hg
              have ht' : Grew w3.drew w := ht
              have Hq := Lib.hid (HRJ.out w ht')
              clear ht
              go_simp
              refine (RNumber_any Hq.out).mono ?_
              rw [Hnb.out]
              rintro e w' ⟨rfl, hr, hg⟩
              exact ⟨_, rfl, (⟨hg, fun _ => HD1.out w' hr⟩ : TJ g1 DD w w'), rfl, HD1.out w' hr⟩
            · intro a w ht hs hg -- 69
              have h0 := By.same_get hs 0 (by decide) (by kernel_rfl)
              refine By.yes rfl ?_
              clear hs hg
              go_simp
              exact ⟨_, rfl, Grew.refl _, rfl⟩
            · intro a w ht hs hg -- 70
              have h9 := By.same_get hs 9 (by decide) (by kernel_rfl)
              refine By.yes rfl ?_
              clear hs hg
              go_simp
              exact ⟨_, rfl, Grew.refl _, rfl⟩
            · intro a w ht hs hg -- 71
              have h69 : a.tmps.getD 69 undef = _ := By.given_get hg 2 rfl rfl (by kernel_rfl)
              have h70 : a.tmps.getD 70 undef = _ := By.given_get hg 3 rfl rfl (by kernel_rfl)
              refine By.yes rfl ?_
              clear hs hg
              go_simp
              exact ⟨_, rfl, Grew.refl _, rfl⟩
            · intro a w ht hs hg -- 72
              have h71 : a.tmps.getD 71 undef = _ := By.given_get hg 4 rfl rfl (by kernel_rfl)
              refine By.yes rfl ?_
              clear hs hg
              have ht' : TJ g1 DD w3.drew w := ht
              have hcu := HXJ.out w ht'
              go_simp
              exact ⟨_, rfl, Grew.refl _, rfl⟩
            · intro a w ht hs hg -- 73
              have h68 := By.given_get hg 1 rfl rfl (by kernel_rfl)
              have h72 : a.tmps.getD 72 undef = _ := By.given_get hg 5 rfl rfl (by kernel_rfl)
              refine By.yes rfl ?_
              obtain ⟨v68, hv68⟩ : ∃ v, a.tmps.getD 68 undef = v := ⟨_, rfl⟩
              replace h68 := (congrArg (fun v => (numJ g1 x DD).on v w) hv68).mp h68
              clear hs hg
              obtain ⟨rfl, h68⟩ := h68
              clear h68
              go_simp
              exact ⟨_, rfl, Grew.refl _, congrArg Value.bool (by simp)⟩
            refine By.ends_is (By.ends_any fun v68 => (By.ends_is (By.ends_is (By.ends_is (By.ends_is (By.ends_is (By.ends_nil fun w4 hw4 => ?_)))))))
            simp only [Act.put, List.setIfInBounds_toArray, List.set_cons_succ, List.set_cons_zero]
            obtain ⟨⟨hT4, hw68⟩, hD4⟩ : (TJ g1 DD w3.drew w4 ∧ v68 = .int .u64 (x : Int)) ∧ DD w4 := ⟨⟨hw4.1, hw4.2.1⟩, hw4.2.2⟩
            subst hw68
            have Hr1n := Lib.hid (HD2.out w4 hD4)
            have Hr2n := Lib.hid (show Rd w4 lo2 g2 (L.take m) a' e' from Rd.other (w := w3.drew) Hr2a.out (show Rd w3.drew lo1 g1 L pre.length 0 from Hr1.out) hT4.1 (fun h => Hne.out HLne.out h.symm))
            have hbel4 : Below w.heap.size w w4 := Below.grown (w := w3.drew) hbel3.drew hT4.1 (by show w.heap.size ≤ w3.heap.size; exact hbel3.size) (fun k hk => by injection hk with hk; have := HB0.out; omega)
            obtain ⟨qq, hqq⟩ : ∃ q, pre ++ Oct.enc x = q := ⟨_, rfl⟩
            rw [hqq] at Hr1n Hn2
            have Hq := Lib.hid (show pre ++ numAt xs i = qq by rw [HnumA.out, hqq])
            have Hr2m := Lib.hid (show L ≠ [] → ∃ a e, Rd w4 lo2 g2 (L.take m) a e ∧ OctSeq.Short m qq a e from fun _ => ⟨_, _, Hr2n.out, Hn2.out⟩)
            clear hT4 hD4 HRJ HDs HD1 HD2 HXJ Hr1 Hr2 Hr2a Hr2n Hn2 Hhr2 hqq hbel hbel3
            by_cases h2 : i < ps.length
            · have h2' : (i : Int) < (ps.length : Int) := by omega
              obtain ⟨p, hpi⟩ : ∃ p, ps[i]? = some p := ⟨_, List.getElem?_eq_getElem h2⟩
              have hpm := Hpl.out p (List.mem_of_getElem? hpi)
              obtain ⟨b1, off1, q1, hltb, u, hu, hbs⟩ : ∃ b off, A1 = some ⟨b, off, none⟩ ∧ b < w.heap.size ∧ ∃ u, (∀ W, Below w.heap.size w W → W.cell? ⟨b, off + i, none⟩ = some u) ∧ Bs w w.heap.size u p := by
                obtain ⟨A', c', e', _, hcs⟩ := Hp.out
                simp only [Value.slice.injEq] at e'
                obtain ⟨rfl, _, rfl⟩ := e'
                obtain ⟨b, off, e1, hlt, hcs⟩ := hcs (by intro h; subst h; simp at h2)
                obtain ⟨u, hu, hbs⟩ := hcs i p hpi
                exact ⟨b, off, e1, hlt, u, fun W hW => (hW.cell (p := ⟨b, off + i, none⟩) hlt).trans hu, hbs⟩
              subst q1
              have KU := Lib.hid hu
              have KB := Lib.hid hbs
              have hblkA : blkAt ps i = Oct.enc p.length ++ p := by simp only [blkAt, hpi]
              have hsplit : L = qq ++ Oct.enc p.length ++ p ++ rest := by rw [HL.out, hrest, cat, hblkA, hpre, Hq.out]; simp only [List.append_assoc]
              have hLne : L ≠ [] := by rw [hsplit]; simp [Oct.enc]
              have HblkA := Lib.hid hblkA
              have HLne := Lib.hid hLne
              obtain ⟨aa, ee, hr2, hsh⟩ := Hr2m.out hLne
              have hbsh := OctSeq.block_short qq p rest m aa ee (by omega) hsh
              rw [← hsplit] at hbsh
              have hrb : rdBlock L qq.length 0 = (p, (qq ++ Oct.enc p.length ++ p).length, 0) := by rw [hsplit]; exact OctSeq.block_at qq p rest (by omega)
              have Hrb := Lib.hid hrb
              have Hbsh := Lib.hid hbsh
              have Hhr2 := Lib.hid hr2
              clear hu hbs hblkA hsplit hrb hr2 hsh hbsh hpi hLne
              go_wp2_with fail
              refine (RBlock_any Hhr2.out).mono ?_
              rintro e5 w5 ⟨v5, rfl, _, hr2, hgr5⟩
              have Hr1 := Lib.hid (Rd.other Hr1n.out Hhr2.out hgr5 (Hne.out HLne.out))
              have hbel5 := hbel4.grown hgr5 hbel4.size (fun k hk => by injection hk with hk; have := HB0.out; omega)
              have Hr2a := Lib.hid hr2
              clear hr2 hgr5
              have hlt1 : g1 < w5.heap.size := by obtain ⟨_, _, _, _, _, _, _, _, _, _, _, _, hlt⟩ := Hr1.out.cells; exact hlt
              have HRJ := Lib.hid (show ∀ W, Grew w5.drew W → Rd W lo1 g1 L qq.length 0 from fun W hW => Rd.below (w := w5.drew) Hr1.out hW hlt1)
              obtain ⟨DD, hDD⟩ : ∃ D : World → Prop, D = fun w => Rd w lo1 g1 L (qq ++ Oct.enc p.length ++ p).length 0 := ⟨_, rfl⟩
              have HDs := Lib.hid (show ∀ x y, Grew x y → DD x → DD y from fun x y h k => by
                rw [hDD] at k ⊢
                exact Rd.below k h (by obtain ⟨_, _, _, _, _, _, _, _, _, _, _, _, hlt⟩ := k.cells; exact hlt))
              have HD1 := Lib.hid (show ∀ W, Rd W lo1 g1 L (qq ++ Oct.enc p.length ++ p).length 0 → DD W from fun W h => by rw [hDD]; exact h)
              have HD2 := Lib.hid (show ∀ W, DD W → Rd W lo1 g1 L (qq ++ Oct.enc p.length ++ p).length 0 from fun W h => by rw [hDD] at h; exact h)
              clear hDD
              have HUJ := Lib.hid (show ∀ W, TJ g1 DD w5.drew W → W.cell? ⟨b1, off1 + i, none⟩ = some u from fun W hW => (hW.cell (b := b1) (o := off1 + i) (Nat.lt_of_lt_of_le hltb hbel5.size) (by have := HB0.out; omega)).trans (KU.out w5 hbel5))
              have HPJ := Lib.hid (show ∀ W, TJ g1 DD w5.drew W → Bs W w.heap.size u p from fun W hW => Bs.grown (w := w5.drew) (KB.out.below hbel5).drew hW.1 hbel5.size (fun k hk => by injection hk with hk; have := HB0.out; omega))
              go_wp2_with fail
              refine ByJ.marks mixed Grew (TJ g1 DD) 1 (TJ.of_grew HDs.out) Grew.refl Grew.trans [By.is (.pointer (some ⟨g1, 0, none⟩)),
                blkJ g1 p DD,
                By.is (strOf p),
                By.is (.slice (some ⟨b1, off1, none⟩) ps.length c1),
                By.is (.int .i64 (i : Int)),
                By.is (.pointer (some ⟨b1, off1 + i, none⟩)),
                By.is u,
                By.is (strOf p),
                By.is (.bool false)]
                (Ev.masks _ []) (by kernel_rfl) rfl TJ.refl TJ.trans ⟨?_, ?_, ?_, ?_, ?_, ?_, ?_, ?_, ?_, trivial⟩ ?_
              · intro a w ht hs hg -- 80
                have h7 := By.same_get hs 7 (by decide) (by kernel_rfl)
                refine By.yes rfl ?_
                clear hs hg
                go_simp
                exact ⟨_, rfl, Grew.refl _, rfl⟩
              · intro a w ht hs hg -- 81
                have h80 : a.tmps.getD 80 undef = _ := By.given_get hg 0 rfl rfl (by kernel_rfl)
                refine By.yes rfl ?_
                clear hs hg
                have ht' : Grew w5.drew w := ht
                have Hx' := Lib.hid (HRJ.out w ht')
                have hsz : g1 < w.heap.size := by obtain ⟨_, _, _, _, _, _, _, _, _, _, _, _, hlt⟩ := Hx'.out.cells; exact hlt
                clear ht
                go_simp
                refine (RBlock_any Hx'.out).mono ?_
                rw [Hrb.out]
                rintro e w' ⟨v, rfl, ho, hr, hg⟩
                exact ⟨_, rfl, (⟨hg, fun _ => HD1.out w' hr⟩ : TJ g1 DD w w'), ⟨_, hsz, ho⟩, HD1.out w' hr⟩
              · intro a w ht hs hg -- 82
                have h81 := By.given_get hg 1 rfl rfl (by kernel_rfl)
                refine By.yes rfl ?_
                obtain ⟨v81, hv81⟩ : ∃ v, a.tmps.getD 81 undef = v := ⟨_, rfl⟩
                replace h81 := (congrArg (fun v => (blkJ g1 p DD).on v w) hv81).mp h81
                clear hs hg
                obtain ⟨⟨lo, _, ho⟩, _⟩ := h81
                have hr := run_str w ho.bs
                clear ho
                go_simp
                exact ⟨_, rfl, Grew.refl _, rfl⟩
              · intro a w ht hs hg -- 83
                have h1 := By.same_get hs 1 (by decide) (by kernel_rfl)
                refine By.yes rfl ?_
                clear hs hg
                go_simp
                exact ⟨_, rfl, Grew.refl _, rfl⟩
              · intro a w ht hs hg -- 84
                have h9 := By.same_get hs 9 (by decide) (by kernel_rfl)
                refine By.yes rfl ?_
                clear hs hg
                go_simp
                exact ⟨_, rfl, Grew.refl _, rfl⟩
              · intro a w ht hs hg -- 85
                have h83 : a.tmps.getD 83 undef = _ := By.given_get hg 3 rfl rfl (by kernel_rfl)
                have h84 : a.tmps.getD 84 undef = _ := By.given_get hg 4 rfl rfl (by kernel_rfl)
                refine By.yes rfl ?_
                clear hs hg
                go_simp
                exact ⟨_, rfl, Grew.refl _, rfl⟩
              · intro a w ht hs hg -- 86
                have h85 : a.tmps.getD 85 undef = _ := By.given_get hg 5 rfl rfl (by kernel_rfl)
                refine By.yes rfl ?_
                clear hs hg
                have ht' : TJ g1 DD w5.drew w := ht
                have hcu := HUJ.out w ht'
                go_simp
                exact ⟨_, rfl, Grew.refl _, rfl⟩
              · intro a w ht hs hg -- 87
                have h86 : a.tmps.getD 86 undef = _ := By.given_get hg 6 rfl rfl (by kernel_rfl)
                refine By.yes rfl ?_
                clear hs hg
                have ht' : TJ g1 DD w5.drew w := ht
                have hr := run_str w (HPJ.out w ht')
                go_simp
                exact ⟨_, rfl, Grew.refl _, rfl⟩
              · intro a w ht hs hg -- 88
                have h82 : a.tmps.getD 82 undef = _ := By.given_get hg 2 rfl rfl (by kernel_rfl)
                have h87 : a.tmps.getD 87 undef = _ := By.given_get hg 7 rfl rfl (by kernel_rfl)
                refine By.yes rfl ?_
                clear hs hg
                go_simp
                exact ⟨_, rfl, Grew.refl _, congrArg Value.bool (by simp)⟩
              refine By.ends_is (By.ends_any fun v81 => (By.ends_is (By.ends_is (By.ends_is (By.ends_is (By.ends_is (By.ends_is (By.ends_is (By.ends_nil fun w7 hw7 => ?_)))))))))
              simp only [Act.put, List.setIfInBounds_toArray, List.set_cons_succ, List.set_cons_zero]
              have hT7 : TJ g1 DD w5.drew w7 := hw7.1
              have hD7 : DD w7 := hw7.2.2
              have Hr1z := Lib.hid (HD2.out w7 hD7)
              have Hr2z := Lib.hid (Rd.other (w := w5.drew) Hr2a.out (show Rd w5.drew lo1 g1 L qq.length 0 from Hr1.out) hT7.1 (fun h => Hne.out HLne.out h.symm))
              have hbel7 : Below w.heap.size w w7 := Below.grown (w := w5.drew) hbel5.drew hT7.1 (by show w.heap.size ≤ w5.heap.size; exact hbel5.size) (fun k hk => by injection hk with hk; have := HB0.out; omega)
              have Hc := Lib.hid (show cat xs ps (i + 1) = qq ++ Oct.enc p.length ++ p by rw [cat, HblkA.out, hpre, Hq.out]; simp only [List.append_assoc])
              clear hT7 hD7 hw7 HRJ HDs HD1 HD2 HUJ HPJ
              go_wp2
              go_roundw
              case rel => first | exact ⟨i + 1, by omega, by simp, by rw [Hc.out]; exact Hr1z.out, fun _ => ⟨_, _, Hr2z.out, by rw [Hc.out]; exact Hbsh.out⟩, hbel7⟩ | exact ⟨i + 1, by omega, by simp, by rw [Hc.out]; exact Hr1z.out, fun _ => ⟨_, _, Hr2z.out, by rw [Hc.out]; exact Hbsh.out⟩⟩
              case measure => simp [intOf]; omega
            · have h2' : ¬ (i : Int) < (ps.length : Int) := by omega
              have Hc := Lib.hid (show cat xs ps (i + 1) = qq by rw [cat, hpre, Hq.out]; simp only [blkAt, List.getElem?_eq_none (show ps.length ≤ i by omega), List.append_nil])
              go_wp2
              go_roundw
              case rel => first | exact ⟨i + 1, by omega, by simp, by rw [Hc.out]; exact Hr1n.out, fun h => by rw [Hc.out]; exact Hr2m.out h, hbel4⟩ | exact ⟨i + 1, by omega, by simp, by rw [Hc.out]; exact Hr1n.out, fun h => by rw [Hc.out]; exact Hr2m.out h⟩
              case measure => simp [intOf]; omega
          · have h1' : ¬ (i : Int) < (xs.length : Int) := by omega
            have hnum0 : numAt xs i = [] := by simp only [numAt, List.getElem?_eq_none (show xs.length ≤ i by omega)]
            obtain ⟨qq, hqq⟩ : ∃ q, pre = q := ⟨_, rfl⟩
            have Hq := Lib.hid (show pre ++ numAt xs i = qq by rw [hnum0, List.append_nil, hqq])
            rw [hqq] at Hr1 Hr2
            have Hr1n := Hr1
            have Hr2m := Hr2
            clear hqq hnum0
            by_cases h2 : i < ps.length
            · have h2' : (i : Int) < (ps.length : Int) := by omega
              obtain ⟨p, hpi⟩ : ∃ p, ps[i]? = some p := ⟨_, List.getElem?_eq_getElem h2⟩
              have hpm := Hpl.out p (List.mem_of_getElem? hpi)
              obtain ⟨b1, off1, q1, hltb, u, hu, hbs⟩ : ∃ b off, A1 = some ⟨b, off, none⟩ ∧ b < w.heap.size ∧ ∃ u, (∀ W, Below w.heap.size w W → W.cell? ⟨b, off + i, none⟩ = some u) ∧ Bs w w.heap.size u p := by
                obtain ⟨A', c', e', _, hcs⟩ := Hp.out
                simp only [Value.slice.injEq] at e'
                obtain ⟨rfl, _, rfl⟩ := e'
                obtain ⟨b, off, e1, hlt, hcs⟩ := hcs (by intro h; subst h; simp at h2)
                obtain ⟨u, hu, hbs⟩ := hcs i p hpi
                exact ⟨b, off, e1, hlt, u, fun W hW => (hW.cell (p := ⟨b, off + i, none⟩) hlt).trans hu, hbs⟩
              subst q1
              have KU := Lib.hid hu
              have KB := Lib.hid hbs
              have hblkA : blkAt ps i = Oct.enc p.length ++ p := by simp only [blkAt, hpi]
              have hsplit : L = qq ++ Oct.enc p.length ++ p ++ rest := by rw [HL.out, hrest, cat, hblkA, hpre, Hq.out]; simp only [List.append_assoc]
              have hLne : L ≠ [] := by rw [hsplit]; simp [Oct.enc]
              have HblkA := Lib.hid hblkA
              have HLne := Lib.hid hLne
              obtain ⟨aa, ee, hr2, hsh⟩ := Hr2m.out hLne
              have hbsh := OctSeq.block_short qq p rest m aa ee (by omega) hsh
              rw [← hsplit] at hbsh
              have hrb : rdBlock L qq.length 0 = (p, (qq ++ Oct.enc p.length ++ p).length, 0) := by rw [hsplit]; exact OctSeq.block_at qq p rest (by omega)
              have Hrb := Lib.hid hrb
              have Hbsh := Lib.hid hbsh
              have Hhr2 := Lib.hid hr2
              clear hu hbs hblkA hsplit hrb hr2 hsh hbsh hpi hLne
              go_wp2_with fail
              refine (RBlock_any Hhr2.out).mono ?_
              rintro e5 w5 ⟨v5, rfl, _, hr2, hgr5⟩
              have Hr1 := Lib.hid (Rd.other Hr1n.out Hhr2.out hgr5 (Hne.out HLne.out))
              have hbel5 := hbel.grown hgr5 hbel.size (fun k hk => by injection hk with hk; have := HB0.out; omega)
              have Hr2a := Lib.hid hr2
              clear hr2 hgr5
              have hlt1 : g1 < w5.heap.size := by obtain ⟨_, _, _, _, _, _, _, _, _, _, _, _, hlt⟩ := Hr1.out.cells; exact hlt
              have HRJ := Lib.hid (show ∀ W, Grew w5.drew W → Rd W lo1 g1 L qq.length 0 from fun W hW => Rd.below (w := w5.drew) Hr1.out hW hlt1)
              obtain ⟨DD, hDD⟩ : ∃ D : World → Prop, D = fun w => Rd w lo1 g1 L (qq ++ Oct.enc p.length ++ p).length 0 := ⟨_, rfl⟩
              have HDs := Lib.hid (show ∀ x y, Grew x y → DD x → DD y from fun x y h k => by
                rw [hDD] at k ⊢
                exact Rd.below k h (by obtain ⟨_, _, _, _, _, _, _, _, _, _, _, _, hlt⟩ := k.cells; exact hlt))
              have HD1 := Lib.hid (show ∀ W, Rd W lo1 g1 L (qq ++ Oct.enc p.length ++ p).length 0 → DD W from fun W h => by rw [hDD]; exact h)
              have HD2 := Lib.hid (show ∀ W, DD W → Rd W lo1 g1 L (qq ++ Oct.enc p.length ++ p).length 0 from fun W h => by rw [hDD] at h; exact h)
              clear hDD
              have HUJ := Lib.hid (show ∀ W, TJ g1 DD w5.drew W → W.cell? ⟨b1, off1 + i, none⟩ = some u from fun W hW => (hW.cell (b := b1) (o := off1 + i) (Nat.lt_of_lt_of_le hltb hbel5.size) (by have := HB0.out; omega)).trans (KU.out w5 hbel5))
              have HPJ := Lib.hid (show ∀ W, TJ g1 DD w5.drew W → Bs W w.heap.size u p from fun W hW => Bs.grown (w := w5.drew) (KB.out.below hbel5).drew hW.1 hbel5.size (fun k hk => by injection hk with hk; have := HB0.out; omega))
              go_wp2_with fail
              refine ByJ.marks mixed Grew (TJ g1 DD) 1 (TJ.of_grew HDs.out) Grew.refl Grew.trans [By.is (.pointer (some ⟨g1, 0, none⟩)),
                blkJ g1 p DD,
                By.is (strOf p),
                By.is (.slice (some ⟨b1, off1, none⟩) ps.length c1),
                By.is (.int .i64 (i : Int)),
                By.is (.pointer (some ⟨b1, off1 + i, none⟩)),
                By.is u,
                By.is (strOf p),
                By.is (.bool false)]
                (Ev.masks _ []) (by kernel_rfl) rfl TJ.refl TJ.trans ⟨?_, ?_, ?_, ?_, ?_, ?_, ?_, ?_, ?_, trivial⟩ ?_
              · intro a w ht hs hg -- 80
                have h7 := By.same_get hs 7 (by decide) (by kernel_rfl)
                refine By.yes rfl ?_
                clear hs hg
                go_simp
                exact ⟨_, rfl, Grew.refl _, rfl⟩
              · intro a w ht hs hg -- 81
                have h80 : a.tmps.getD 80 undef = _ := By.given_get hg 0 rfl rfl (by kernel_rfl)
                refine By.yes rfl ?_
                clear hs hg
                have ht' : Grew w5.drew w := ht
                have Hx' := Lib.hid (HRJ.out w ht')
                have hsz : g1 < w.heap.size := by obtain ⟨_, _, _, _, _, _, _, _, _, _, _, _, hlt⟩ := Hx'.out.cells; exact hlt
                clear ht
                go_simp
                refine (RBlock_any Hx'.out).mono ?_
                rw [Hrb.out]
                rintro e w' ⟨v, rfl, ho, hr, hg⟩
                exact ⟨_, rfl, (⟨hg, fun _ => HD1.out w' hr⟩ : TJ g1 DD w w'), ⟨_, hsz, ho⟩, HD1.out w' hr⟩
              · intro a w ht hs hg -- 82
                have h81 := By.given_get hg 1 rfl rfl (by kernel_rfl)
                refine By.yes rfl ?_
                obtain ⟨v81, hv81⟩ : ∃ v, a.tmps.getD 81 undef = v := ⟨_, rfl⟩
                replace h81 := (congrArg (fun v => (blkJ g1 p DD).on v w) hv81).mp h81
                clear hs hg
                obtain ⟨⟨lo, _, ho⟩, _⟩ := h81
                have hr := run_str w ho.bs
                clear ho
                go_simp
                exact ⟨_, rfl, Grew.refl _, rfl⟩
              · intro a w ht hs hg -- 83
                have h1 := By.same_get hs 1 (by decide) (by kernel_rfl)
                refine By.yes rfl ?_
                clear hs hg
                go_simp
                exact ⟨_, rfl, Grew.refl _, rfl⟩
              · intro a w ht hs hg -- 84
                have h9 := By.same_get hs 9 (by decide) (by kernel_rfl)
                refine By.yes rfl ?_
                clear hs hg
                go_simp
                exact ⟨_, rfl, Grew.refl _, rfl⟩
              · intro a w ht hs hg -- 85
                have h83 : a.tmps.getD 83 undef = _ := By.given_get hg 3 rfl rfl (by kernel_rfl)
                have h84 : a.tmps.getD 84 undef = _ := By.given_get hg 4 rfl rfl (by kernel_rfl)
                refine By.yes rfl ?_
                clear hs hg
                go_simp
                exact ⟨_, rfl, Grew.refl _, rfl⟩
              · intro a w ht hs hg -- 86
                have h85 : a.tmps.getD 85 undef = _ := By.given_get hg 5 rfl rfl (by kernel_rfl)
                refine By.yes rfl ?_
                clear hs hg
                have ht' : TJ g1 DD w5.drew w := ht
                have hcu := HUJ.out w ht'
                go_simp
                exact ⟨_, rfl, Grew.refl _, rfl⟩
              · intro a w ht hs hg -- 87
                have h86 : a.tmps.getD 86 undef = _ := By.given_get hg 6 rfl rfl (by kernel_rfl)
                refine By.yes rfl ?_
                clear hs hg
                have ht' : TJ g1 DD w5.drew w := ht
                have hr := run_str w (HPJ.out w ht')
                go_simp
                exact ⟨_, rfl, Grew.refl _, rfl⟩
              · intro a w ht hs hg -- 88
                have h82 : a.tmps.getD 82 undef = _ := By.given_get hg 2 rfl rfl (by kernel_rfl)
                have h87 : a.tmps.getD 87 undef = _ := By.given_get hg 7 rfl rfl (by kernel_rfl)
                refine By.yes rfl ?_
                clear hs hg
                go_simp
                exact ⟨_, rfl, Grew.refl _, congrArg Value.bool (by simp)⟩
              refine By.ends_is (By.ends_any fun v81 => (By.ends_is (By.ends_is (By.ends_is (By.ends_is (By.ends_is (By.ends_is (By.ends_is (By.ends_nil fun w7 hw7 => ?_)))))))))
              simp only [Act.put, List.setIfInBounds_toArray, List.set_cons_succ, List.set_cons_zero]
              have hT7 : TJ g1 DD w5.drew w7 := hw7.1
              have hD7 : DD w7 := hw7.2.2
              have Hr1z := Lib.hid (HD2.out w7 hD7)
              have Hr2z := Lib.hid (Rd.other (w := w5.drew) Hr2a.out (show Rd w5.drew lo1 g1 L qq.length 0 from Hr1.out) hT7.1 (fun h => Hne.out HLne.out h.symm))
              have hbel7 : Below w.heap.size w w7 := Below.grown (w := w5.drew) hbel5.drew hT7.1 (by show w.heap.size ≤ w5.heap.size; exact hbel5.size) (fun k hk => by injection hk with hk; have := HB0.out; omega)
              have Hc := Lib.hid (show cat xs ps (i + 1) = qq ++ Oct.enc p.length ++ p by rw [cat, HblkA.out, hpre, Hq.out]; simp only [List.append_assoc])
              clear hT7 hD7 hw7 HRJ HDs HD1 HD2 HUJ HPJ
              go_wp2
              go_roundw
              case rel => first | exact ⟨i + 1, by omega, by simp, by rw [Hc.out]; exact Hr1z.out, fun _ => ⟨_, _, Hr2z.out, by rw [Hc.out]; exact Hbsh.out⟩, hbel7⟩ | exact ⟨i + 1, by omega, by simp, by rw [Hc.out]; exact Hr1z.out, fun _ => ⟨_, _, Hr2z.out, by rw [Hc.out]; exact Hbsh.out⟩⟩
              case measure => simp [intOf]; omega
            · have h2' : ¬ (i : Int) < (ps.length : Int) := by omega
              have Hc := Lib.hid (show cat xs ps (i + 1) = qq by rw [cat, hpre, Hq.out]; simp only [blkAt, List.getElem?_eq_none (show ps.length ≤ i by omega), List.append_nil])
              go_wp2
              go_roundw
              case rel => first | exact ⟨i + 1, by omega, by simp, by rw [Hc.out]; exact Hr1n.out, fun h => by rw [Hc.out]; exact Hr2m.out h, hbel⟩ | exact ⟨i + 1, by omega, by simp, by rw [Hc.out]; exact Hr1n.out, fun h => by rw [Hc.out]; exact Hr2m.out h⟩
              case measure => simp [intOf]; omega
        · have hin' : ¬ (i : Int) < 50 := by omega
          have : i = 50 := by omega
          subst this
          rw [← HL.out] at Hr1 Hr2
          have hend : rdEnd L L.length 0 = 0 := by unfold rdEnd; rw [if_neg (by omega)]
          have Hend := Lib.hid hend
          clear hend
          go_wp2_with fail
          refine (End_any Hr1.out).mono ?_
          rw [Hend.out]
          rintro e8 w8 ⟨rfl, hr1, hg8⟩
          have hbel8 := hbel.grown hg8 hbel.size (fun k hk => by injection hk with hk; have := HB0.out; omega)
          clear hr1
          by_cases hL0 : L = []
          · have hlen0 : ((L.length : Int) == 0) = true := by rw [hL0]; rfl
            go_wp2
            go_ret
            exact ⟨rfl, hbel8⟩
          · have hlen0 : ((L.length : Int) == 0) = false := by
              rw [beq_eq_false_iff_ne]
              intro h
              exact hL0 (List.eq_nil_of_length_eq_zero (by omega))
            obtain ⟨aa, ee, hr2, hsh⟩ := Hr2.out hL0
            have hml : m < L.length := by
              have := Hm.out
              have h0 : L.length ≠ 0 := fun h => hL0 (List.eq_nil_of_length_eq_zero h)
              omega
            have hee := OctSeq.short_end hsh hml
            subst hee
            have Hr28 := Lib.hid (Rd.other hr2 Hr1.out hg8 (fun h => Hne.out hL0 h.symm))
            clear hr2 hsh hg8
            go_wp2_with fail
            refine (Err_any Hr28.out).mono ?_
            rintro e9 w9 ⟨rfl, rfl⟩
            go_wp2
            go_ret
            exact ⟨rfl, hbel8⟩

theorem long (v0 v1 : Value) (xs : List Nat) (ps : List (List UInt8)) (w : World) (hx : Ws w w.heap.size v0 xs) (hp : Bss w w.heap.size v1 ps) (h : ¬ (xs.length ≤ 50 ∧ ps.length ≤ 50 ∧ ∀ p ∈ ps, p.length ≤ 3000)) :
    Calls Try.prog 6 #[v0, v1] w fun e w' => e = .returned (.bool true) ∧ Below w.heap.size w w' := by
  have Hp := Lib.hid hp
  obtain ⟨A0, c0, rfl, hc0, _⟩ := hx
  obtain ⟨A1, c1, rfl, hc1, _⟩ := hp
  by_cases h1 : 50 < xs.length
  · have h1' : (50 : Int) < (xs.length : Int) := by omega
    clear h
    go_enter Try.func6, Try.ntmps6
    go_wp2_with (go_at_call 16; refine (lives_any _).mono ?_; rintro e w1 ⟨rfl, hb1⟩)
    go_ret
    exact ⟨rfl, hb1⟩
  · have h1' : ¬ (50 : Int) < (xs.length : Int) := by omega
    have hl : light ps 50 3000 = false := decide_eq_false (fun q => h ⟨by omega, q.1, q.2⟩)
    clear h
    go_enter Try.func6, Try.ntmps6
    go_wp2_with (go_at_call 16; refine (lives_any _).mono ?_; rintro e w1 ⟨rfl, hb1⟩)
    have Hp1 := Lib.hid (Hp.out.below hb1)
    go_wp2_with fail
    refine (LightLists_any _ ps 50 3000 _ Hp1.out (by omega) (by omega)).mono ?_
    rw [hl]
    rintro e w2 ⟨rfl, rfl⟩
    go_wp2
    go_ret
    exact ⟨rfl, hb1⟩

set_option maxRecDepth 100000 in
theorem lift (os : Os) (started : os.Started) (H : Type) (enc : TypeId × Value → H) :
    ReturnsInHanded {} Try.checked os 6 .any (Rows.octetBackSpec.pre6 enc Try.prog Try.f6 Rows.octetBackRow.domain false) (Rows.octetBackSpec.post enc Try.prog Try.f6 false true false false) := by
  refine Law.lifted (C := Try.checked) 4 own started (by kernel_rfl) Try.func6 laid (by kernel_rfl) rfl Try.underlying4 rfl
    (fun ds hd => by
      have hd' : ds.length = 2 := hd
      match ds, hd' with
      | [d0, d1], _ => rfl)
    (ChangeSpec.witness6 (enc := enc) (C := Try.checked) false ⟨#[], #[.slice none 0 0, .slice none 0 0], []⟩ 8 (by kernel_rfl) (by kernel_rfl) (by kernel_rfl) (by kernel_rfl)) ?_
  intro W args ds ps hst
  have hA : DataW.TrodAll enc Try.prog W 0 (fun _ => true) true Try.f6.params.toList args.toList ds ps := hst.trod
  have hok := hst.okw
  have hlt := hst.lt
  rw [Try.params6] at hA hok
  obtain ⟨v0, v1, d0, d1, p0, p1, rfl, rfl, rfl, h0, h1⟩ := trodAll_two hA
  obtain ⟨_, hv0⟩ := hok 0 42 v0 rfl rfl
  obtain ⟨_, hv1⟩ := hok 1 43 v1 rfl rfl
  obtain ⟨xs, hx, _, hx64⟩ := words_trod Try.underlying42 Try.underlying27 (by kernel_rfl) hv0 h0 (fun x hx => hlt x (by simp [hx]))
  obtain ⟨qs, hp, _⟩ := lists_trod Try.underlying43 hv1 h1 (fun x hx => hlt x (by simp [hx]))
  by_cases h : xs.length ≤ 50 ∧ qs.length ≤ 50 ∧ ∀ p ∈ qs, p.length ≤ 3000
  · exact walk v0 v1 xs qs W hx hp hx64 h.1 h.2.1 h.2.2
  · exact long v0 v1 xs qs W hx hp h

theorem over : Rows.octetBackRow.holds Try.pinned (OpenSpec.ofChange Rows.octetBackSpec) :=
  OpenClaim.holds_of_wide 6 Try.f6 rfl rfl rfl rfl rfl rfl rfl ⟨rfl, rfl, rfl, rfl, rfl⟩ rfl rfl rfl rfl rfl (by kernel_rfl) Try.func6 (by kernel_rfl)
    (of_decide_eq_true (by kernel_rfl)) (by unfold Func.isWrapper; first | (rw [if_pos (by decide +kernel)]; kernel_rfl) | (rw [if_neg (by decide +kernel)]; exact ⟨rfl, rfl⟩))
    (fun os started H enc _ => lift os started H enc)
theorem proved : Rows.OctetBackSaid := over
#print axioms proved
end Go.Proofs.Ytmfjlcgbanidnaa.octetBack
