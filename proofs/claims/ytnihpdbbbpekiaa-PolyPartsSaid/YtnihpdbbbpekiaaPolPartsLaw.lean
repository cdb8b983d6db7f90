/- A mac of any pieces is the tag of all; Tag changes nothing: 'drawbridgelaw03.PolyParts', for every argument. -/
import Derived.Test.YtnihpdbbbpekiaaPolKey
import Derived.Test.YtnihpdbbbpekiaaEqKit
import Derived.Test.YtnihpdbbbpekiaaKitLists
import Derived.Test.YtnihpdbbbpekiaaLaw
namespace Go.Proofs.Ytnihpdbbbpekiaa.polyParts
open Go.ChangeShapes Go.WideShapes Go.ChangeAt Go.RowKit
open Pol (own mixed laid MacAt rOf sOf tagK)
theorem mac_below {w w1 : World} {B g : Nat} {r s : Poly.L} {l : List UInt8} (h : MacAt w g r s l) (hb : Below B w w1) (hg : g < B) : MacAt w1 g r s l := by
  obtain ⟨rest, h1, h2, h3⟩ := h
  exact ⟨rest, h1, h2, h3.below hb hg⟩
theorem mac_lt {w : World} {g : Nat} {r s : Poly.L} {l : List UInt8} (h : MacAt w g r s l) : g < w.heap.size := by
  obtain ⟨rest, h1, h2, h3⟩ := h
  exact h3.lt
theorem rest_own {w : World} {base g : Nat} {v : Value} {l : List UInt8} (h : Own w base v l) (hg : g < base) : Pol.Rest w g v l := by
  have hb := h.bs
  obtain ⟨A, c, rfl, hc, hcs⟩ := hb
  refine ⟨A, c, rfl, hc, fun hne => ?_⟩
  obtain ⟨k, off, rfl, hk, hcell⟩ := hcs hne
  have hge := (h.block_ge (g := k) rfl).1
  exact ⟨k, off, rfl, by omega, hk, hcell⟩
theorem keep_own {w w1 : World} {base g : Nat} {v : Value} {l : List UInt8} (h : Own w base v l) (hk : Ev.Keep ⟨w, fun k => k = g⟩ w1) (hg : g < base) : Own w1 base v l := by
  refine ⟨h.1, ?_⟩
  rcases h.2 with h2 | ⟨b, cap, cur, h3, h4, h5, h6⟩
  · exact .inl h2
  · refine .inr ⟨b, cap, cur, h3, h4, ?_, h6⟩
    rw [← h5]
    exact hk.block b (by
      have hlt : b < w.heap.size := (Array.getElem?_eq_some_iff.1 h5).1
      rintro (e | e)
      · have e' : w.heap.size ≤ b := e
        omega
      · have e' : b = g := e
        omega)
theorem flat_len {ls : List (List UInt8)} (h : ∀ l ∈ ls, l.length ≤ 400) : ∀ i, (ls.take i).flatten.length ≤ 400 * i := by
  induction ls with
  | nil => intro i; simp
  | cons x r ih =>
    intro i
    cases i with
    | zero => simp
    | succ i =>
      have h1 := h x (by simp)
      have h2 := ih (fun l hl => h l (by simp [hl])) i
      simp only [List.take_succ_cons, List.flatten_cons, List.length_append]
      omega
theorem flat_step {ls : List (List UInt8)} {i : Nat} (h : i < ls.length) : (ls.take (i + 1)).flatten = (ls.take i).flatten ++ ls[i] := by
  rw [List.take_succ_eq_append_getElem h, List.flatten_append]
  simp
set_option maxRecDepth 100000 in
set_option maxHeartbeats 2000000 in
theorem walk (key : List UInt8) (ls : List (List UInt8)) (v : Value) (hk : key.length = 32) (w : World) (hb : Bss w w.heap.size v ls) :
    Calls Try.prog 6 #[arr8 key, v] w fun e w' => e = .returned (.bool true) ∧ Below w.heap.size w w' := by
  have Hb := Lib.hid hb
  have Hk := Lib.hid hk
  have Hkl := Lib.hid (show (key.map bv).length = 32 by rw [List.length_map]; exact hk)
  obtain ⟨A, c, rfl, hc, hcs⟩ := hb
  have Hcs := Lib.hid hcs
  clear hcs hk
  unfold arr8
  go_enter Try.func6, Try.ntmps6
  go_wp2_with fail
  have hB0 : Below w.heap.size w (w.alloc (.cells (key.map bv).toArray 24)) := (Below.refl _ w).alloc (Nat.le_refl _) _
  have hR0 : Row (w.alloc (.cells (key.map bv).toArray 24)) w.heap.size (key.map bv) 24 := Row.new rfl rfl
  obtain ⟨W, hW⟩ : ∃ W, w.alloc (.cells (key.map bv).toArray 24) = W := ⟨_, rfl⟩
  show Calls _ _ _ (w.alloc (.cells (key.map bv).toArray 24)) _
  rw [hW] at hB0 hR0 ⊢
  clear hW
  have HB0 := Lib.hid hB0
  have HR0 := Lib.hid hR0
  clear hB0 hR0
  refine (Pol.lives_any _).mono ?_
  rintro e w1 ⟨rfl, hb1⟩
  have HB1 := Lib.hid (nextB HB0.out (Nat.le_refl _) hb1)
  have HR1 := Lib.hid (HR0.out.below hb1 HR0.out.lt)
  clear hb1
  go_wp2_with fail
  refine (LightLists_any _ ls 30 400 w1 (Hb.out.below HB1.out) (by decide) (by decide)).mono ?_
  rintro e w' ⟨rfl, rfl⟩
  by_cases hl : ls.length ≤ 30 ∧ ∀ l ∈ ls, l.length ≤ 400
  · rw [show light ls 30 400 = true from decide_eq_true hl]
    have Hl := Lib.hid hl
    clear hl
    go_wp2_with (first
      | (refine wpList_loadRow (n := 32) (cs := key.map bv) rfl 24 _ rfl rfl HR1.out Try.underlying24 rfl (by kernel_rfl) Hkl.out ?_)
      | fail)
    refine (Pol.New_any Hk.out w1).mono ?_
    rintro e w2 ⟨g, rfl, hg, hrow, hb2⟩
    have HB2 := Lib.hid (nextB HB1.out (Nat.le_refl _) hb2)
    have HR2 := Lib.hid (HR1.out.below hb2 HR1.out.lt)
    have HM2 := Lib.hid (MacAt.new hrow)
    have Hg := Lib.hid (show w.heap.size ≤ g from Nat.le_trans HB1.out.size hg)
    have Hg2 := Lib.hid (show g < w2.heap.size from hrow.lt)
    have Hgk := Lib.hid (show w.heap.size < g from Nat.lt_of_lt_of_le HR1.out.lt hg)
    clear hg hrow hb2
    go_wp2_with fail
    go_loopw [6, 7] (fun av iv wr => ∃ i : Nat, i ≤ ls.length ∧ iv = .int .i64 (i : Int) ∧ Own wr w2.heap.size av (ls.take i).flatten ∧ MacAt wr g (rOf key) (sOf key) (ls.take i).flatten ∧ Row wr w.heap.size (key.map bv) 24 ∧ Below w.heap.size w wr ∧ w2.heap.size ≤ wr.heap.size) (fun _ iv _ => ls.length - (intOf iv).toNat)
    case atStart => exact ⟨0, Nat.zero_le _, rfl, Own.nil _ _, HM2.out, HR2.out, HB2.out, Nat.le_refl _⟩
    case round =>
      obtain ⟨i, hi, rfl, hown, hmac, hrow, hbel, hsz⟩ := hrel
      have Hown := Lib.hid hown
      have Hmac := Lib.hid hmac
      have Hrow := Lib.hid hrow
      have Hbel := Lib.hid hbel
      have Hsz := Lib.hid hsz
      clear hown hmac hrow hbel hsz
      by_cases h1 : i < ls.length
      · have h1' : (i : Int) < (ls.length : Int) := by omega
        obtain ⟨b, off, rfl, hlt, hcell⟩ := Hcs.out (by intro h; subst h; simp at h1)
        obtain ⟨u, hu, hbs⟩ := hcell i _ (List.getElem?_eq_getElem h1)
        have Hu := Lib.hid hu
        have Hbs := Lib.hid hbs
        have Hlt := Lib.hid hlt
        clear hcell hu hbs hlt
        have hlen : (ls[i]).length ≤ 400 := Hl.out.2 _ (List.getElem_mem h1)
        have hflat : (ls.take i).flatten.length ≤ 400 * 30 := Nat.le_trans (flat_len Hl.out.2 i) (Nat.mul_le_mul_left _ (by have := Hl.out.1; omega))
        have Hlen := Lib.hid hlen
        have Hflat := Lib.hid hflat
        clear hlen hflat
        have hcw := (Hbel.out.cell (p := ⟨b, off + i, none⟩) Hlt.out).trans Hu.out
        go_wp2_with fail
        clear hcw
        refine (Own_any u _ wr ((Hbs.out.below Hbel.out).more Hbel.out.size) (by have := Hlen.out; omega)).mono ?_
        rintro e w3 ⟨v3, rfl, ho3, hb3⟩
        have HM3 := Lib.hid (mac_below Hmac.out hb3 (mac_lt Hmac.out))
        have HA3 := Lib.hid (Hown.out.below hb3 (Nat.le_refl _))
        have HR3 := Lib.hid (Hrow.out.below hb3 Hrow.out.lt)
        have HB3 := Lib.hid (nextB Hbel.out (Nat.le_refl _) hb3)
        have Hrest := Lib.hid (rest_own ho3 (mac_lt Hmac.out))
        have Hs3 := Lib.hid (Nat.le_trans Hsz.out hb3.size)
        clear ho3 hb3
        go_wp2_with fail
        refine (Pol.Write_any (Pol.rOf_fit Hk.out) HM3.out Hrest.out (by have := Hlen.out; have := Hflat.out; omega)).mono ?_
        rintro e w4 ⟨rfl, hm4, hk4⟩
        obtain ⟨L, hL⟩ : ∃ L, (ls.take i).flatten ++ ls[i] = L := ⟨_, rfl⟩
        have HL := Lib.hid hL
        have HL5 := Lib.hid (show L.length ≤ 13000 by rw [← hL, List.length_append]; have := Hlen.out; have := Hflat.out; omega)
        rw [hL] at hm4
        have HM4 := Lib.hid hm4
        have HA4 := Lib.hid (keep_own HA3.out hk4 Hg2.out)
        have HR4 := Lib.hid (show Row w4 w.heap.size (key.map bv) 24 from (hk4.block w.heap.size (by
          have h2 := Hgk.out
          have h3 := HR3.out.lt
          rintro (e | e)
          · have e' : w3.heap.size ≤ w.heap.size := e
            omega
          · have e' : w.heap.size = g := e
            omega)).trans HR3.out)
        have HB4 := Lib.hid (HB3.out.trans (Pol.keep_below hk4 (lo := w.heap.size) (by rintro k rfl; exact Hg.out) HB3.out.size))
        have Hs4 := Lib.hid (Nat.le_trans Hs3.out hk4.size)
        clear hL hm4 hk4
        have hcw := (HB4.out.cell (p := ⟨b, off + i, none⟩) Hlt.out).trans Hu.out
        go_wp2_with (first
          | (at_builtin; refine wpList_app_bytes _ rfl _ _ rfl rfl HA4.out rfl (Hbs.out.below HB4.out) (by have := Hlen.out; have := Hflat.out; omega) Hs4.out ?_; intro v5 w5 ho5 hg5 _)
          | fail)
        have hb5 : Below w2.heap.size w4 w5 := (Below.refl _ w4).grown hg5 Hs4.out (fun k hk => (HA4.out.block_ge hk).1)
        rw [HL.out] at ho5
        obtain ⟨A5, c5, rfl⟩ := ho5.shape
        have HO5 := Lib.hid ho5
        have HM5 := Lib.hid (mac_below HM4.out hb5 Hg2.out)
        have HR5 := Lib.hid (HR4.out.below hb5 (Nat.lt_trans Hgk.out Hg2.out))
        have HB5 := Lib.hid (HB4.out.trans (hb5.mono (Nat.le_of_lt (Nat.lt_trans Hgk.out Hg2.out))))
        have HG5 := Lib.hid (mac_lt HM5.out)
        have Hs5 := Lib.hid (Nat.le_trans Hs4.out hb5.size)
        have hi31 : (i : Int) < 31 := by have := Hl.out.1; omega
        clear hcw ho5 hg5 hb5
        refine By.marks mixed Grew [By.is (.pointer (some ⟨g, 0, none⟩)),
          By.is (arr8 (tagK key L)),
          By.is (arr8 key),
          By.is (.slice A5 L.length c5),
          ownM 0 L,
          By.is (arr8 (tagK key L)),
          By.is (.bool false),
          By.is (.bool false),
          By.is (.pointer (some ⟨g, 0, none⟩)),
          By.is (arr8 (tagK key L)),
          By.is (.pointer (some ⟨g, 0, none⟩)),
          By.is (arr8 (tagK key L)),
          By.is (.bool false),
          By.is (.bool false),
          By.is (.bool false),
          By.is (.pointer (some ⟨g, 0, none⟩)),
          By.is (.int .i64 (L.length : Int)),
          By.is (.slice A5 L.length c5),
          By.is (.int .i64 (L.length : Int)),
          By.is (.bool false),
          By.is (.bool false)]
          (Ev.masks _ []) (by kernel_rfl) rfl Grew.refl Grew.trans ⟨?_, ?_, ?_, ?_, ?_, ?_, ?_, ?_, ?_, ?_, ?_, ?_, ?_, ?_, ?_, ?_, ?_, ?_, ?_, ?_, ?_, trivial⟩ ?_
        · intro a w ht hs hg -- 35
          have h5 := By.same_get hs 5 (by decide) (by kernel_rfl)
          refine By.yes rfl ?_
          clear hs hg
          go_simp
          exact ⟨_, rfl, Grew.refl _, rfl⟩
        · intro a w ht hs hg -- 36
          have h35 : a.tmps.getD 35 undef = _ := By.given_get hg 0 rfl rfl (by kernel_rfl)
          refine By.yes rfl ?_
          clear hs hg
          go_simp
          refine (Pol.MTag_any (Pol.rOf_fit Hk.out) (Pol.sOf_fit Hk.out) (mac_below (w := w5.drew) HM5.out ht HG5.out) (by have := HL5.out; omega)).mono ?_
          rintro e w' ⟨rfl, hb⟩
          exact ⟨_, rfl, hb, rfl⟩
        · intro a w ht hs hg -- 37
          have h2 := By.same_get hs 2 (by decide) (by kernel_rfl)
          refine By.yes rfl ?_
          clear hs hg
          refine wp_loadRow 24 _ rfl h2 (Row.below (w := w5.drew) HR5.out ht HR5.out.lt) Try.underlying24 rfl (by kernel_rfl) Hkl.out ?_
          exact ⟨_, rfl, Grew.refl _, rfl⟩
        · intro a w ht hs hg -- 38
          have h6 := By.same_get hs 6 (by decide) (by kernel_rfl)
          refine By.yes rfl ?_
          clear hs hg
          go_simp
          exact ⟨_, rfl, Grew.refl _, rfl⟩
        · intro a w ht hs hg -- 39
          have h38 : a.tmps.getD 38 undef = _ := By.given_get hg 3 rfl rfl (by kernel_rfl)
          refine By.yes rfl ?_
          clear hs hg
          have hx := (Bs.below (w := w5.drew) HO5.out.bs ht).more ht.size
          go_simp
          refine (Own_any _ L w hx (by have := HL5.out; omega)).mono ?_
          rintro e w' ⟨v, rfl, ho, hb⟩
          exact ⟨_, rfl, hb, ho.less (Nat.zero_le _)⟩
        · intro a w ht hs hg -- 40
          have h37 : a.tmps.getD 37 undef = _ := By.given_get hg 2 rfl rfl (by kernel_rfl)
          have h39 := By.given_get hg 4 rfl rfl (by kernel_rfl)
          refine By.yes rfl ?_
          obtain ⟨v39, hv39⟩ : ∃ v, a.tmps.getD 39 undef = v := ⟨_, rfl⟩
          replace h39 := (congrArg (fun v => ((ownM 0 L)).on v w) hv39).mp h39
          clear hs hg
          have Ho := Lib.hid (Own.bs h39)
          clear h39
          go_simp
          refine (Pol.TagF_any Hk.out Ho.out (by have := HL5.out; omega)).mono ?_
          rintro e w' ⟨rfl, hb⟩
          exact ⟨_, rfl, hb, rfl⟩
        · intro a w ht hs hg -- 41
          have h36 : a.tmps.getD 36 undef = _ := By.given_get hg 1 rfl rfl (by kernel_rfl)
          have h40 : a.tmps.getD 40 undef = _ := By.given_get hg 5 rfl rfl (by kernel_rfl)
          refine By.yes rfl ?_
          clear hs hg
          refine wp_neqArr _ _ rfl (by kernel_rfl) h36 h40 (eq16 (tagK key L) (tagK key L) (Pol.tagK_length _ _) (Pol.tagK_length _ _) w) ?_
          exact ⟨_, rfl, Grew.refl _, congrArg Value.bool (by simp)⟩
        · intro a w ht hs hg -- 42
          have h41 : a.tmps.getD 41 undef = _ := By.given_get hg 6 rfl rfl (by kernel_rfl)
          refine By.yes rfl ?_
          clear hs hg
          go_simp
          exact ⟨_, rfl, Grew.refl _, rfl⟩
        · intro a w ht hs hg -- 43
          have h5 := By.same_get hs 5 (by decide) (by kernel_rfl)
          have hg42 := By.given_get hg 7 rfl rfl (by kernel_rfl)
          refine By.yes (By.want_yes rfl rfl hg42) ?_
          clear hg42
          clear hs hg
          go_simp
          exact ⟨_, rfl, Grew.refl _, rfl⟩
        · intro a w ht hs hg -- 44
          have h43 : a.tmps.getD 43 undef = _ := By.given_get hg 8 rfl rfl (by kernel_rfl)
          have hg42 := By.given_get hg 7 rfl rfl (by kernel_rfl)
          refine By.yes (By.want_yes rfl rfl hg42) ?_
          clear hg42
          clear hs hg
          go_simp
          refine (Pol.MTag_any (Pol.rOf_fit Hk.out) (Pol.sOf_fit Hk.out) (mac_below (w := w5.drew) HM5.out ht HG5.out) (by have := HL5.out; omega)).mono ?_
          rintro e w' ⟨rfl, hb⟩
          exact ⟨_, rfl, hb, rfl⟩
        · intro a w ht hs hg -- 45
          have h5 := By.same_get hs 5 (by decide) (by kernel_rfl)
          have hg42 := By.given_get hg 7 rfl rfl (by kernel_rfl)
          refine By.yes (By.want_yes rfl rfl hg42) ?_
          clear hg42
          clear hs hg
          go_simp
          exact ⟨_, rfl, Grew.refl _, rfl⟩
        · intro a w ht hs hg -- 46
          have h45 : a.tmps.getD 45 undef = _ := By.given_get hg 10 rfl rfl (by kernel_rfl)
          have hg42 := By.given_get hg 7 rfl rfl (by kernel_rfl)
          refine By.yes (By.want_yes rfl rfl hg42) ?_
          clear hg42
          clear hs hg
          go_simp
          refine (Pol.MTag_any (Pol.rOf_fit Hk.out) (Pol.sOf_fit Hk.out) (mac_below (w := w5.drew) HM5.out ht HG5.out) (by have := HL5.out; omega)).mono ?_
          rintro e w' ⟨rfl, hb⟩
          exact ⟨_, rfl, hb, rfl⟩
        · intro a w ht hs hg -- 47
          have h44 : a.tmps.getD 44 undef = _ := By.given_get hg 9 rfl rfl (by kernel_rfl)
          have h46 : a.tmps.getD 46 undef = _ := By.given_get hg 11 rfl rfl (by kernel_rfl)
          have hg42 := By.given_get hg 7 rfl rfl (by kernel_rfl)
          refine By.yes (By.want_yes rfl rfl hg42) ?_
          clear hg42
          clear hs hg
          refine wp_neqArr _ _ rfl (by kernel_rfl) h44 h46 (eq16 (tagK key L) (tagK key L) (Pol.tagK_length _ _) (Pol.tagK_length _ _) w) ?_
          exact ⟨_, rfl, Grew.refl _, congrArg Value.bool (by simp)⟩
        · intro a w ht hs hg -- 48
          have h42 : a.tmps.getD 42 undef = _ := By.given_get hg 7 rfl rfl (by kernel_rfl)
          have h47 : a.tmps.getD 47 undef = _ := By.given_get hg 12 rfl rfl (by kernel_rfl)
          refine By.yes rfl ?_
          clear hs hg
          go_simp
          exact ⟨_, rfl, Grew.refl _, rfl⟩
        · intro a w ht hs hg -- 49
          have h48 : a.tmps.getD 48 undef = _ := By.given_get hg 13 rfl rfl (by kernel_rfl)
          refine By.yes rfl ?_
          clear hs hg
          go_simp
          exact ⟨_, rfl, Grew.refl _, rfl⟩
        · intro a w ht hs hg -- 50
          have h5 := By.same_get hs 5 (by decide) (by kernel_rfl)
          have hg49 := By.given_get hg 14 rfl rfl (by kernel_rfl)
          refine By.yes (By.want_yes rfl rfl hg49) ?_
          clear hg49
          clear hs hg
          go_simp
          exact ⟨_, rfl, Grew.refl _, rfl⟩
        · intro a w ht hs hg -- 51
          have h50 : a.tmps.getD 50 undef = _ := By.given_get hg 15 rfl rfl (by kernel_rfl)
          have hg49 := By.given_get hg 14 rfl rfl (by kernel_rfl)
          refine By.yes (By.want_yes rfl rfl hg49) ?_
          clear hg49
          clear hs hg
          obtain ⟨rr, hr1, _, hr3⟩ := mac_below (w := w5.drew) HM5.out ht HG5.out
          have Hr3 := Lib.hid hr3
          have Hr1 := Lib.hid hr1
          clear hr3 hr1
          go_simp
          refine (Pol.Size_any Hr1.out Hr3.out).mono ?_
          rintro e w' ⟨rfl, rfl⟩
          exact ⟨_, rfl, Grew.refl _, rfl⟩
        · intro a w ht hs hg -- 52
          have h6 := By.same_get hs 6 (by decide) (by kernel_rfl)
          have hg49 := By.given_get hg 14 rfl rfl (by kernel_rfl)
          refine By.yes (By.want_yes rfl rfl hg49) ?_
          clear hg49
          clear hs hg
          go_simp
          exact ⟨_, rfl, Grew.refl _, rfl⟩
        · intro a w ht hs hg -- 53
          have h52 : a.tmps.getD 52 undef = _ := By.given_get hg 17 rfl rfl (by kernel_rfl)
          have hg49 := By.given_get hg 14 rfl rfl (by kernel_rfl)
          refine By.yes (By.want_yes rfl rfl hg49) ?_
          clear hg49
          clear hs hg
          go_simp
          exact ⟨_, rfl, Grew.refl _, rfl⟩
        · intro a w ht hs hg -- 54
          have h51 : a.tmps.getD 51 undef = _ := By.given_get hg 16 rfl rfl (by kernel_rfl)
          have h53 : a.tmps.getD 53 undef = _ := By.given_get hg 18 rfl rfl (by kernel_rfl)
          have hg49 := By.given_get hg 14 rfl rfl (by kernel_rfl)
          refine By.yes (By.want_yes rfl rfl hg49) ?_
          clear hg49
          clear hs hg
          go_simp
          exact ⟨_, rfl, Grew.refl _, congrArg Value.bool (by simp)⟩
        · intro a w ht hs hg -- 55
          have h49 : a.tmps.getD 49 undef = _ := By.given_get hg 14 rfl rfl (by kernel_rfl)
          have h54 : a.tmps.getD 54 undef = _ := By.given_get hg 19 rfl rfl (by kernel_rfl)
          refine By.yes rfl ?_
          clear hs hg
          go_simp
          exact ⟨_, rfl, Grew.refl _, rfl⟩
        refine By.ends_is (By.ends_is (By.ends_is (By.ends_is (By.ends_skip fun v39 => (By.ends_is (By.ends_is (By.ends_is (By.ends_is (By.ends_is (By.ends_is (By.ends_is (By.ends_is (By.ends_is (By.ends_is (By.ends_is (By.ends_is (By.ends_is (By.ends_is (By.ends_is (By.ends_is (By.ends_nil fun w6 hw6 => ?_)))))))))))))))))))))
        simp only [Act.put, List.setIfInBounds_toArray, List.set_cons_succ, List.set_cons_zero]
        go_wp2
        go_roundw
        case rel =>
          refine ⟨i + 1, h1, by simp, ?_, ?_, Row.below (w := w5.drew) HR5.out hw6 HR5.out.lt, nextB (b := w5.drew) HB5.out.drew (Nat.le_refl _) hw6, Nat.le_trans Hs5.out hw6.size⟩
          · rw [flat_step h1, HL.out]
            exact Own.below (w := w5.drew) HO5.out hw6 (Nat.le_refl _)
          · rw [flat_step h1, HL.out]
            exact mac_below (w := w5.drew) HM5.out hw6 HG5.out
        case measure =>
          simp [intOf]
          omega
      · have h1' : ¬ (i : Int) < (ls.length : Int) := by omega
        obtain ⟨L, hL⟩ : ∃ L, (ls.take i).flatten = L := ⟨_, rfl⟩
        have HL5 := Lib.hid (show L.length ≤ 13000 by
          rw [← hL]
          exact Nat.le_trans (flat_len Hl.out.2 i) (Nat.le_trans (Nat.mul_le_mul_left _ (by have := Hl.out.1; omega : i ≤ 30)) (by decide)))
        rw [hL] at Hown Hmac
        obtain ⟨A5, c5, rfl⟩ := Hown.out.shape
        have HO5 := Hown
        have HM5 := Hmac
        have HR5 := Hrow
        have HG5 := Lib.hid (mac_lt Hmac.out)
        clear hL
        go_wp2_with fail
        refine By.marks mixed Grew [By.is (.pointer (some ⟨g, 0, none⟩)),
          By.is (arr8 (tagK key L)),
          By.is (arr8 key),
          By.is (.slice A5 L.length c5),
          By.is (arr8 (tagK key L)),
          By.is (.bool true),
          By.is (.bool true)]
          (Ev.masks _ []) (by kernel_rfl) rfl Grew.refl Grew.trans ⟨?_, ?_, ?_, ?_, ?_, ?_, ?_, trivial⟩ ?_
        · intro a w ht hs hg -- 56
          have h5 := By.same_get hs 5 (by decide) (by kernel_rfl)
          refine By.yes rfl ?_
          clear hs hg
          go_simp
          exact ⟨_, rfl, Grew.refl _, rfl⟩
        · intro a w ht hs hg -- 57
          have h56 : a.tmps.getD 56 undef = _ := By.given_get hg 0 rfl rfl (by kernel_rfl)
          refine By.yes rfl ?_
          clear hs hg
          go_simp
          refine (Pol.MTag_any (Pol.rOf_fit Hk.out) (Pol.sOf_fit Hk.out) (mac_below (w := wr.drew) HM5.out ht HG5.out) (by have := HL5.out; omega)).mono ?_
          rintro e w' ⟨rfl, hb⟩
          exact ⟨_, rfl, hb, rfl⟩
        · intro a w ht hs hg -- 58
          have h2 := By.same_get hs 2 (by decide) (by kernel_rfl)
          refine By.yes rfl ?_
          clear hs hg
          refine wp_loadRow 24 _ rfl h2 (Row.below (w := wr.drew) HR5.out ht HR5.out.lt) Try.underlying24 rfl (by kernel_rfl) Hkl.out ?_
          exact ⟨_, rfl, Grew.refl _, rfl⟩
        · intro a w ht hs hg -- 59
          have h6 := By.same_get hs 6 (by decide) (by kernel_rfl)
          refine By.yes rfl ?_
          clear hs hg
          go_simp
          exact ⟨_, rfl, Grew.refl _, rfl⟩
        · intro a w ht hs hg -- 60
          have h58 : a.tmps.getD 58 undef = _ := By.given_get hg 2 rfl rfl (by kernel_rfl)
          have h59 : a.tmps.getD 59 undef = _ := By.given_get hg 3 rfl rfl (by kernel_rfl)
          refine By.yes rfl ?_
          clear hs hg
          have Hx := Lib.hid ((Bs.below (w := wr.drew) HO5.out.bs ht).more ht.size)
          go_simp
          refine (Pol.TagF_any Hk.out Hx.out (by have := HL5.out; omega)).mono ?_
          rintro e w' ⟨rfl, hb⟩
          exact ⟨_, rfl, hb, rfl⟩
        · intro a w ht hs hg -- 61
          have h57 : a.tmps.getD 57 undef = _ := By.given_get hg 1 rfl rfl (by kernel_rfl)
          have h60 : a.tmps.getD 60 undef = _ := By.given_get hg 4 rfl rfl (by kernel_rfl)
          refine By.yes rfl ?_
          clear hs hg
          refine wp_eqArr _ _ rfl (by kernel_rfl) h57 h60 (eq16 (tagK key L) (tagK key L) (Pol.tagK_length _ _) (Pol.tagK_length _ _) w) ?_
          exact ⟨_, rfl, Grew.refl _, congrArg Value.bool (by simp)⟩
        · intro a w ht hs hg -- 4
          have h61 : a.tmps.getD 61 undef = _ := By.given_get hg 5 rfl rfl (by kernel_rfl)
          refine By.yes rfl ?_
          clear hs hg
          go_simp
          exact ⟨_, rfl, Grew.refl _, rfl⟩
        refine By.ends_is (By.ends_is (By.ends_is (By.ends_is (By.ends_is (By.ends_is (By.ends_is (By.ends_nil fun w6 hw6 => ?_)))))))
        simp only [Act.put, List.setIfInBounds_toArray, List.set_cons_succ, List.set_cons_zero]
        go_wp2
        go_ret
        exact ⟨rfl, nextB (b := wr.drew) Hbel.out.drew (Nat.le_refl _) hw6⟩
  · rw [show light ls 30 400 = false from decide_eq_false hl]
    clear hl
    go_wp2
    go_ret
    exact ⟨rfl, HB1.out⟩

set_option maxRecDepth 100000 in
theorem lift (os : Os) (started : os.Started) (H : Type) (enc : TypeId × Value → H) :
    ReturnsInHanded {} Try.checked os 6 .any (Rows.polyPartsSpec.pre6 enc Try.prog Try.f6 Rows.polyPartsRow.domain false) (Rows.polyPartsSpec.post enc Try.prog Try.f6 false true false false) := by
  refine Law.lifted (C := Try.checked) 4 own started (by kernel_rfl) Try.func6 laid (by kernel_rfl) rfl Try.underlying4 rfl
    (fun ds hd => by
      have hd' : ds.length = 2 := hd
      match ds, hd' with
      | [d0, d1], _ => rfl)
    (ChangeSpec.witness6 (enc := enc) (C := Try.checked) false ⟨#[], #[.agg (Array.replicate 32 (.int .u8 0)), .slice none 0 0], []⟩ 8 (by kernel_rfl) (by kernel_rfl) (by kernel_rfl) (by kernel_rfl)) ?_
  intro W args ds ps hst
  have hA : DataW.TrodAll enc Try.prog W 0 (fun _ => true) true Try.f6.params.toList args.toList ds ps := hst.trod
  have hok := hst.okw
  have hlt := hst.lt
  rw [Try.params6] at hA hok
  obtain ⟨v0, v1, d0, d1, p0, p1, rfl, rfl, rfl, h0, h1⟩ := trodAll_two hA
  obtain ⟨_, hv0⟩ := hok 0 24 v0 rfl rfl
  obtain ⟨_, hv1⟩ := hok 1 48 v1 rfl rfl
  obtain ⟨key, rfl, hkl⟩ := arr8_at Try.underlying24 (by kernel_rfl) (by kernel_rfl) Try.underlying5 hv0
  obtain ⟨ls, hb, hl⟩ := lists_trod Try.underlying48 hv1 h1 (fun x hx => hlt x (by simp [hx]))
  exact walk key ls v1 hkl W hb

theorem over : Rows.polyPartsRow.holds Try.pinned (OpenSpec.ofChange Rows.polyPartsSpec) :=
  OpenClaim.holds_of_wide 6 Try.f6 rfl rfl rfl rfl rfl rfl rfl ⟨rfl, rfl, rfl, rfl, rfl⟩ rfl rfl rfl rfl rfl (by kernel_rfl) Try.func6 (by kernel_rfl)
    (of_decide_eq_true (by kernel_rfl)) (by unfold Func.isWrapper; first | (rw [if_pos (by decide +kernel)]; kernel_rfl) | (rw [if_neg (by decide +kernel)]; exact ⟨rfl, rfl⟩))
    (fun os started H enc _ => lift os started H enc)
theorem proved : Rows.PolyPartsSaid := over
#print axioms proved
end Go.Proofs.Ytnihpdbbbpekiaa.polyParts
