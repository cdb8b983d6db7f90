/- What is appended is what the document says: 'drawbridgelaw01.OctetPuts', for every argument. -/
import Derived.Test.YtmfjlcgbanidnaaOctSum
import Derived.Test.YtmfjlcgbanidnaaOctRef
import Derived.Test.YtmfjlcgbanidnaaOctRest
import Derived.Test.YtmfjlcgbanidnaaKit
import Derived.Test.YtmfjlcgbanidnaaOctLives
import Derived.Test.YtmfjlcgbanidnaaOctPlace
import Derived.Test.YtmfjlcgbanidnaaArr
import Derived.Test.YtmfjlcgbanidnaaRow
import Derived.Great.BuildSlice
import Derived.Test.YtmfjlcgbanidnaaLaw
import Derived.Test.YtmfjlcgbanidnaaBy
namespace Go.Proofs.Ytmfjlcgbanidnaa.octetPuts
open Go.ChangeShapes Go.WideShapes Go.ChangeAt Go.RowKit

def ownP (lo : Nat) (l L m : List UInt8) (hm : m = l ∨ m = L) : By.Mark (Ref.TP lo l L) := ⟨fun v w => lo ≤ w.heap.size ∧ Own w lo v m, fun _ _ _ h k => ⟨Nat.le_trans h.1 k.size, Ref.own_tp k h.2 hm⟩⟩
def rowP (lo : Nat) (l L : List UInt8) (V1 V2 : Value) : By.Mark (Ref.TP lo l L) := ⟨fun v w => ∃ b, v = .slice (some ⟨b, 0, none⟩) 2 2 ∧ w.heap[b]? = some (.cells #[V1, V2] 24 (0, 0)), fun _ _ _ h k => by
  obtain ⟨b, h1, h2⟩ := h
  refine ⟨b, h1, ?_⟩
  rcases k.block b (Array.getElem?_eq_some_iff.1 h2).1 with h3 | ⟨_, cx, cy, h3, _⟩
  · exact h3.trans h2
  · rw [h2] at h3
    injection h3 with h3
    injection h3 with _ h3
    exact absurd h3 (by decide)⟩
theorem row_bss {w : World} {v V1 V2 : Value} {l m : List UInt8} (h : ∃ b, v = .slice (some ⟨b, 0, none⟩) 2 2 ∧ w.heap[b]? = some (.cells #[V1, V2] 24 (0, 0))) (h1 : Bs w w.heap.size V1 l) (h2 : Bs w w.heap.size V2 m) : Bss w w.heap.size v [l, m] := by
  obtain ⟨b, rfl, hb⟩ := h
  refine ⟨_, _, rfl, Nat.le_refl _, fun _ => ⟨b, 0, rfl, (Array.getElem?_eq_some_iff.1 hb).1, fun i l' hi => ?_⟩⟩
  match i with
  | 0 => simp at hi; subst hi; exact ⟨V1, by simp [World.cell?, hb], h1⟩
  | 1 => simp at hi; subst hi; exact ⟨V2, by simp [World.cell?, hb], h2⟩
  | i + 2 => simp at hi
theorem info_bs : ∃ i, Try.prog.info? 24 = some i ∧ i.zero = some (.slice none 0 0) ∧ i.size = 1 := ⟨_, rfl, by kernel_rfl, by kernel_rfl⟩
theorem wp_bss2x {o : Oper} {a : Act} {w : World} {K : Act → World → Prop} {Q : Exit → Act → World → Prop} {A A2 : Option Addr} {n n2 c c2 : Nat} {v v2 : Value} (x : Operand) {y : Operand} (ho : o.op = .buildSlice 43 2 #[(0, x), (1, y)]) (hx : a.eval x = v) (hv : v = .slice A n c) (hy : a.eval y = v2) (hv2 : v2 = .slice A2 n2 c2)
    (h : K (a.put o.dst (.slice (some ⟨w.heap.size, 0, none⟩) 2 2)) (w.alloc (.cells #[v, v2] 24))) : o.wp Try.prog a w K Q := by
  obtain ⟨i, hi, hz, hs⟩ := info_bs
  refine wp_buildSlice 43 24 2 #[(0, x), (1, y)] ho #[v, v2] i _ Try.underlying43 hi hz (by rw [hs]; decide) (by rw [hs]; decide) ?_ ?_
  · rw [hs, show Array.range (2 * 1) = #[0, 1] from by kernel_rfl]
    subst hv
    subst hv2
    simp [Instr.fill, hx, hy, Value.cells]
  · exact h
theorem short (l m : List UInt8) (A A2 : Option Addr) (cap cap2 : Nat) (x : Nat) (w : World) (h : 3000 < l.length ∨ 3000 < m.length) :
    Calls Try.prog 4 #[.slice A l.length cap, .int .u64 (x : Int), .slice A2 m.length cap2] w fun e w' => e = .returned (.bool true) ∧ Below w.heap.size w w' := by
  by_cases h1 : 3000 < l.length
  · have h1' : (3000 : Int) < (l.length : Int) := by omega
    clear h
    go_enter Try.func4, Try.ntmps4
    go_wp2_with fail
    refine (lives_any _).mono ?_
    rintro e w1 ⟨rfl, hb1⟩
    go_wp2
    go_ret
    exact ⟨rfl, hb1⟩
  · have h1' : ¬ (3000 : Int) < (l.length : Int) := by omega
    have h2' : (3000 : Int) < (m.length : Int) := by omega
    clear h
    go_enter Try.func4, Try.ntmps4
    go_wp2_with fail
    refine (lives_any _).mono ?_
    rintro e w1 ⟨rfl, hb1⟩
    go_wp2
    go_ret
    exact ⟨rfl, hb1⟩

set_option maxRecDepth 8000 in
set_option maxHeartbeats 4000000 in
theorem walk (l m : List UInt8) (A A2 : Option Addr) (cap cap2 : Nat) (x : Nat) (w : World) (hb : Bs w w.heap.size (.slice A l.length cap) l) (hp : Bs w w.heap.size (.slice A2 m.length cap2) m) (h1 : l.length ≤ 3000) (h2 : m.length ≤ 3000) (hx : x < 2 ^ 64) :
    Calls Try.prog 4 #[.slice A l.length cap, .int .u64 (x : Int), .slice A2 m.length cap2] w fun e w' => e = .returned (.bool true) ∧ Below w.heap.size w w' := by
  have h1' : ¬ (3000 : Int) < (l.length : Int) := by omega
  have h2' : ¬ (3000 : Int) < (m.length : Int) := by omega
  have Hb := Lib.hid hb
  have Hp := Lib.hid hp
  have Hx := Lib.hid hx
  clear hb hp hx
  go_enter Try.func4, Try.ntmps4
  go_wp2_with fail
  refine (lives_any _).mono ?_
  rintro e w1 ⟨rfl, hb1⟩
  go_wp2_with fail
  refine (Own_any _ l w1 ((Hb.out.below hb1).more hb1.size) (by omega)).mono ?_
  rintro e w2 ⟨v2, rfl, ho2, hb2⟩
  have hb02 := nextB hb1 (Nat.le_refl _) hb2
  have Ho2 := Lib.hid ho2.bs
  clear ho2 hb2 hb1
  go_wp2_with fail
  refine (Own_any _ m w2 ((Hp.out.below hb02).more hb02.size) (by omega)).mono ?_
  rintro e w3 ⟨v3, rfl, ho3, hb3⟩
  have hb03 := nextB hb02 (Nat.le_refl _) hb3
  have Ho2' := Lib.hid ((Ho2.out.below hb3).more hb3.size)
  have Ho3 := Lib.hid ho3.bs
  clear ho3 hb3 hb02 Ho2
  go_wp2_with fail
  refine (Block_ok _ _ l m w3 Ho2'.out Ho3.out (by omega) (by omega)).mono ?_
  rintro e w4 ⟨v4, rfl, ho4, hb4⟩
  have hb04 := nextB hb03 (Nat.le_refl _) hb4
  have Ho4 := Lib.hid ho4.bs
  clear ho4 hb4 hb03 Ho2' Ho3
  go_wp2_with fail
  refine (Own_any _ l w4 ((Hb.out.below hb04).more hb04.size) (by omega)).mono ?_
  rintro e w5 ⟨v5, rfl, ho5, hb5⟩
  have hb05 := nextB hb04 (Nat.le_refl _) hb5
  have Ho4' := Lib.hid (Ho4.out.below hb5)
  have hs45 : w4.heap.size ≤ w5.heap.size := hb5.size
  have Ho5 := Lib.hid ho5
  clear ho5 hb5 Ho4
  go_wp2_with fail
  refine (Ref.Block_ok _ _ l m w4.heap.size w5 Ho5.out ((Hp.out.below hb05).more hb04.size) (by omega) (by omega) hs45).mono ?_
  rintro e w6 ⟨v6, rfl, ho6, hb6⟩
  have hb06 := hb05.trans (hb6.mono hb04.size)
  have Ho4'' := Lib.hid ((Ho4'.out.below hb6).more (Nat.le_trans hs45 hb6.size))
  have Ho6 := Lib.hid ho6.bs
  clear ho6 hb6 Ho4' Ho5 hb04 hb05 hs45
  go_wp2_with fail
  obtain ⟨lo, hlo⟩ : ∃ lo, w6.heap.size = lo := ⟨_, rfl⟩
  obtain ⟨LX, hLX⟩ : ∃ L, l ++ Oct.enc x = L := ⟨_, rfl⟩
  obtain ⟨U, hU⟩ : ∃ U, l ++ Oct.enc m.length ++ m = U := ⟨_, rfl⟩
  rw [hU, hlo] at Ho6
  rw [hU] at Ho4''
  have HLX := Lib.hid hLX
  have hbt : ∀ W, Ref.TP lo l LX w6.drew W → Below lo w6.drew W := fun W h => Ref.TP.below h (Nat.le_of_eq hlo.symm)
  have hle : w.heap.size ≤ lo := by rw [← hlo]; exact hb06.size
  have HL := Lib.hid (show ∀ W, Ref.TP lo l LX w6.drew W → lo ≤ W.heap.size from fun W h => by rw [← hlo]; exact h.size)
  have HB := Lib.hid (show ∀ W, Ref.TP lo l LX w6.drew W → Bs W W.heap.size (.slice A l.length cap) l from fun W h => ((Hb.out.below (hb06.drew.trans ((hbt W h).mono hle))).more (Nat.le_trans hle (HL.out W h))))
  have HP := Lib.hid (show ∀ W, Ref.TP lo l LX w6.drew W → Bs W W.heap.size (.slice A2 m.length cap2) m from fun W h => ((Hp.out.below (hb06.drew.trans ((hbt W h).mono hle))).more (Nat.le_trans hle (HL.out W h))))
  have H4 := Lib.hid (show ∀ W, Ref.TP lo l LX w6.drew W → Bs W lo v4 U from fun W h => ((Ho4''.out.more (by have := hlo; omega)).drew.below (hbt W h)))
  have H6 := Lib.hid (show ∀ W, Ref.TP lo l LX w6.drew W → Bs W lo v6 U from fun W h => (Ho6.out.drew.below (hbt W h)))
  clear hbt hLX hU
  -- the region that draws
  refine By.marks mixed (Ref.TP lo l LX) [By.is (.slice A l.length cap),
    (ownP lo l LX l (.inl rfl)),
    By.is (.int .u64 (x : Int)),
    (ownP lo l LX LX (.inr rfl)),
    By.is (strOf LX),
    By.is (.slice A l.length cap),
    (ownP lo l LX l (.inl rfl)),
    By.is (.int .u64 (x : Int)),
    (ownP lo l LX LX (.inr rfl)),
    By.is (strOf LX),
    By.is (.bool true),
    By.is (.bool true),
    By.is v4,
    By.is (strOf U),
    By.is v6,
    By.is (strOf U),
    By.is (.bool true),
    By.is (.bool true),
    By.is (.bool true),
    By.is (.int .i64 0),
    By.is (.int .i64 0),
    By.is (.bool true),
    By.is (.bool true),
    By.is (.bool true),
    By.is (.slice A l.length cap),
    By.is (.slice A2 m.length cap2),
    (rowP lo l LX (.slice A l.length cap) (.slice A2 m.length cap2)),
    By.is (wv (Crc.sum [l, m])),
    By.is (.slice A l.length cap),
    By.is (.slice A2 m.length cap2),
    (rowP lo l LX (.slice A l.length cap) (.slice A2 m.length cap2)),
    By.is (wv (Crc.sum [l, m])),
    By.is (.bool true),
    By.is (.bool true),
    By.is (.bool true)]
    (Ev.masks _ []) (by kernel_rfl) rfl Ref.TP.refl Ref.TP.trans ⟨?_, ?_, ?_, ?_, ?_, ?_, ?_, ?_, ?_, ?_, ?_, ?_, ?_, ?_, ?_, ?_, ?_, ?_, ?_, ?_, ?_, ?_, ?_, ?_, ?_, ?_, ?_, ?_, ?_, ?_, ?_, ?_, ?_, ?_, ?_, trivial⟩ ?_
  · intro a w ht hs hg -- 36
    have h0 := By.same_get hs 0 (by decide) (by kernel_rfl)
    refine By.yes rfl ?_
    clear hs hg
    go_simp
    exact ⟨_, rfl, Ref.TP.refl _, rfl⟩
  · intro a w ht hs hg -- 37
    have h36 : a.tmps.getD 36 undef = _ := By.given_get hg 0 rfl rfl (by kernel_rfl)
    refine By.yes rfl ?_
    clear hs hg
    have Hx := Lib.hid (HB.out w ht)
    have Hlo := Lib.hid (HL.out w ht)
    go_simp
    refine (Own_any _ l w Hx.out (by omega)).mono ?_
    rintro e w' ⟨v, rfl, ho, hb⟩
    exact ⟨_, rfl, Ref.TP.of_grew _ _ hb, Nat.le_trans Hlo.out hb.size, ho.less Hlo.out⟩
  · intro a w ht hs hg -- 38
    have h1 := By.same_get hs 1 (by decide) (by kernel_rfl)
    refine By.yes rfl ?_
    clear hs hg
    go_simp
    exact ⟨_, rfl, Ref.TP.refl _, rfl⟩
  · intro a w ht hs hg -- 39
    have h37 := By.given_get hg 1 rfl rfl (by kernel_rfl)
    have h38 : a.tmps.getD 38 undef = _ := By.given_get hg 2 rfl rfl (by kernel_rfl)
    refine By.yes rfl ?_
    obtain ⟨v37, hv37⟩ : ∃ v, a.tmps.getD 37 undef = v := ⟨_, rfl⟩
    replace h37 := (congrArg (fun v => ((ownP lo l LX l (.inl rfl))).on v w) hv37).mp h37
    clear hs hg
    obtain ⟨hlo, ho⟩ := h37
    have Hlo := Lib.hid hlo
    have Ho := Lib.hid ho.bs
    clear ho hlo
    go_simp
    refine (Number_any _ l x w Ho.out Hx.out (by omega)).mono ?_
    rintro e w' ⟨v, rfl, ho, hb⟩
    exact ⟨_, rfl, Ref.TP.of_grew _ _ hb, Nat.le_trans Hlo.out hb.size, by rw [← HLX.out]; exact ho.less Hlo.out⟩
  · intro a w ht hs hg -- 40
    have h39 := By.given_get hg 3 rfl rfl (by kernel_rfl)
    refine By.yes rfl ?_
    obtain ⟨v39, hv39⟩ : ∃ v, a.tmps.getD 39 undef = v := ⟨_, rfl⟩
    replace h39 := (congrArg (fun v => ((ownP lo l LX LX (.inr rfl))).on v w) hv39).mp h39
    clear hs hg
    obtain ⟨_, ho⟩ := h39
    have hr := run_str w ho.bs
    clear ho
    go_simp
    exact ⟨_, rfl, Ref.TP.refl _, rfl⟩
  · intro a w ht hs hg -- 41
    have h0 := By.same_get hs 0 (by decide) (by kernel_rfl)
    refine By.yes rfl ?_
    clear hs hg
    go_simp
    exact ⟨_, rfl, Ref.TP.refl _, rfl⟩
  · intro a w ht hs hg -- 42
    have h41 : a.tmps.getD 41 undef = _ := By.given_get hg 5 rfl rfl (by kernel_rfl)
    refine By.yes rfl ?_
    clear hs hg
    have Hx := Lib.hid (HB.out w ht)
    have Hlo := Lib.hid (HL.out w ht)
    go_simp
    refine (Own_any _ l w Hx.out (by omega)).mono ?_
    rintro e w' ⟨v, rfl, ho, hb⟩
    exact ⟨_, rfl, Ref.TP.of_grew _ _ hb, Nat.le_trans Hlo.out hb.size, ho.less Hlo.out⟩
  · intro a w ht hs hg -- 43
    have h1 := By.same_get hs 1 (by decide) (by kernel_rfl)
    refine By.yes rfl ?_
    clear hs hg
    go_simp
    exact ⟨_, rfl, Ref.TP.refl _, rfl⟩
  · intro a w ht hs hg -- 44
    have h42 := By.given_get hg 6 rfl rfl (by kernel_rfl)
    have h43 : a.tmps.getD 43 undef = _ := By.given_get hg 7 rfl rfl (by kernel_rfl)
    refine By.yes rfl ?_
    obtain ⟨v42, hv42⟩ : ∃ v, a.tmps.getD 42 undef = v := ⟨_, rfl⟩
    replace h42 := (congrArg (fun v => ((ownP lo l LX l (.inl rfl))).on v w) hv42).mp h42
    clear hs hg
    obtain ⟨hlo, ho⟩ := h42
    have Hlo := Lib.hid hlo
    have Ho := Lib.hid ho
    clear ho hlo
    go_simp
    refine (Ref.Number_row _ l x lo w Ho.out Hx.out (by omega) Hlo.out).mono ?_
    rintro e w' ⟨v, rfl, ho, hb, htp⟩
    exact ⟨_, rfl, by rw [← HLX.out]; exact htp, Nat.le_trans Hlo.out hb.size, by rw [← HLX.out]; exact ho⟩
  · intro a w ht hs hg -- 45
    have h44 := By.given_get hg 8 rfl rfl (by kernel_rfl)
    refine By.yes rfl ?_
    obtain ⟨v44, hv44⟩ : ∃ v, a.tmps.getD 44 undef = v := ⟨_, rfl⟩
    replace h44 := (congrArg (fun v => ((ownP lo l LX LX (.inr rfl))).on v w) hv44).mp h44
    clear hs hg
    obtain ⟨_, ho⟩ := h44
    have hr := run_str w ho.bs
    clear ho
    go_simp
    exact ⟨_, rfl, Ref.TP.refl _, rfl⟩
  · intro a w ht hs hg -- 46
    have h40 : a.tmps.getD 40 undef = _ := By.given_get hg 4 rfl rfl (by kernel_rfl)
    have h45 : a.tmps.getD 45 undef = _ := By.given_get hg 9 rfl rfl (by kernel_rfl)
    refine By.yes rfl ?_
    clear hs hg
    go_simp
    exact ⟨_, rfl, Ref.TP.refl _, congrArg Value.bool (by simp)⟩
  · intro a w ht hs hg -- 47
    have h46 : a.tmps.getD 46 undef = _ := By.given_get hg 10 rfl rfl (by kernel_rfl)
    refine By.yes rfl ?_
    clear hs hg
    go_simp
    exact ⟨_, rfl, Ref.TP.refl _, rfl⟩
  · intro a w ht hs hg -- 48
    have h7 := By.same_get hs 7 (by decide) (by kernel_rfl)
    have hg47 := By.given_get hg 11 rfl rfl (by kernel_rfl)
    refine By.yes (By.want_yes rfl rfl hg47) ?_
    clear hg47
    clear hs hg
    go_simp
    exact ⟨_, rfl, Ref.TP.refl _, rfl⟩
  · intro a w ht hs hg -- 49
    have h48 : a.tmps.getD 48 undef = _ := By.given_get hg 12 rfl rfl (by kernel_rfl)
    have hg47 := By.given_get hg 11 rfl rfl (by kernel_rfl)
    refine By.yes (By.want_yes rfl rfl hg47) ?_
    clear hg47
    clear hs hg
    have hr := run_str w (H4.out w ht)
    go_simp
    exact ⟨_, rfl, Ref.TP.refl _, rfl⟩
  · intro a w ht hs hg -- 50
    have h9 := By.same_get hs 9 (by decide) (by kernel_rfl)
    have hg47 := By.given_get hg 11 rfl rfl (by kernel_rfl)
    refine By.yes (By.want_yes rfl rfl hg47) ?_
    clear hg47
    clear hs hg
    go_simp
    exact ⟨_, rfl, Ref.TP.refl _, rfl⟩
  · intro a w ht hs hg -- 51
    have h50 : a.tmps.getD 50 undef = _ := By.given_get hg 14 rfl rfl (by kernel_rfl)
    have hg47 := By.given_get hg 11 rfl rfl (by kernel_rfl)
    refine By.yes (By.want_yes rfl rfl hg47) ?_
    clear hg47
    clear hs hg
    have hr := run_str w (H6.out w ht)
    go_simp
    exact ⟨_, rfl, Ref.TP.refl _, rfl⟩
  · intro a w ht hs hg -- 52
    have h49 : a.tmps.getD 49 undef = _ := By.given_get hg 13 rfl rfl (by kernel_rfl)
    have h51 : a.tmps.getD 51 undef = _ := By.given_get hg 15 rfl rfl (by kernel_rfl)
    have hg47 := By.given_get hg 11 rfl rfl (by kernel_rfl)
    refine By.yes (By.want_yes rfl rfl hg47) ?_
    clear hg47
    clear hs hg
    go_simp
    exact ⟨_, rfl, Ref.TP.refl _, congrArg Value.bool (by simp)⟩
  · intro a w ht hs hg -- 53
    have h47 : a.tmps.getD 47 undef = _ := By.given_get hg 11 rfl rfl (by kernel_rfl)
    have h52 : a.tmps.getD 52 undef = _ := By.given_get hg 16 rfl rfl (by kernel_rfl)
    refine By.yes rfl ?_
    clear hs hg
    go_simp
    exact ⟨_, rfl, Ref.TP.refl _, rfl⟩
  · intro a w ht hs hg -- 54
    have h53 : a.tmps.getD 53 undef = _ := By.given_get hg 17 rfl rfl (by kernel_rfl)
    refine By.yes rfl ?_
    clear hs hg
    go_simp
    exact ⟨_, rfl, Ref.TP.refl _, rfl⟩
  · intro a w ht hs hg -- 55
    have h8 := By.same_get hs 8 (by decide) (by kernel_rfl)
    have hg54 := By.given_get hg 18 rfl rfl (by kernel_rfl)
    refine By.yes (By.want_yes rfl rfl hg54) ?_
    clear hg54
    clear hs hg
    go_simp
    exact ⟨_, rfl, Ref.TP.refl _, rfl⟩
  · intro a w ht hs hg -- 56
    have h10 := By.same_get hs 10 (by decide) (by kernel_rfl)
    have hg54 := By.given_get hg 18 rfl rfl (by kernel_rfl)
    refine By.yes (By.want_yes rfl rfl hg54) ?_
    clear hg54
    clear hs hg
    go_simp
    exact ⟨_, rfl, Ref.TP.refl _, rfl⟩
  · intro a w ht hs hg -- 57
    have h55 : a.tmps.getD 55 undef = _ := By.given_get hg 19 rfl rfl (by kernel_rfl)
    have h56 : a.tmps.getD 56 undef = _ := By.given_get hg 20 rfl rfl (by kernel_rfl)
    have hg54 := By.given_get hg 18 rfl rfl (by kernel_rfl)
    refine By.yes (By.want_yes rfl rfl hg54) ?_
    clear hg54
    clear hs hg
    go_simp
    exact ⟨_, rfl, Ref.TP.refl _, congrArg Value.bool (by simp)⟩
  · intro a w ht hs hg -- 58
    have h54 : a.tmps.getD 54 undef = _ := By.given_get hg 18 rfl rfl (by kernel_rfl)
    have h57 : a.tmps.getD 57 undef = _ := By.given_get hg 21 rfl rfl (by kernel_rfl)
    refine By.yes rfl ?_
    clear hs hg
    go_simp
    exact ⟨_, rfl, Ref.TP.refl _, rfl⟩
  · intro a w ht hs hg -- 59
    have h58 : a.tmps.getD 58 undef = _ := By.given_get hg 22 rfl rfl (by kernel_rfl)
    refine By.yes rfl ?_
    clear hs hg
    go_simp
    exact ⟨_, rfl, Ref.TP.refl _, rfl⟩
  · intro a w ht hs hg -- 60
    have h0 := By.same_get hs 0 (by decide) (by kernel_rfl)
    have hg59 := By.given_get hg 23 rfl rfl (by kernel_rfl)
    refine By.yes (By.want_yes rfl rfl hg59) ?_
    clear hg59
    clear hs hg
    go_simp
    exact ⟨_, rfl, Ref.TP.refl _, rfl⟩
  · intro a w ht hs hg -- 61
    have h2 := By.same_get hs 2 (by decide) (by kernel_rfl)
    have hg59 := By.given_get hg 23 rfl rfl (by kernel_rfl)
    refine By.yes (By.want_yes rfl rfl hg59) ?_
    clear hg59
    clear hs hg
    go_simp
    exact ⟨_, rfl, Ref.TP.refl _, rfl⟩
  · intro a w ht hs hg -- 62
    have h60 : a.tmps.getD 60 undef = _ := By.given_get hg 24 rfl rfl (by kernel_rfl)
    have h61 : a.tmps.getD 61 undef = _ := By.given_get hg 25 rfl rfl (by kernel_rfl)
    have hg59 := By.given_get hg 23 rfl rfl (by kernel_rfl)
    refine By.yes (By.want_yes rfl rfl hg59) ?_
    clear hg59
    clear hs hg
    refine wp_bss2x _ rfl h60 rfl h61 rfl ?_
    exact ⟨_, rfl, Ref.TP.of_grew _ _ ((Below.refl _ w).alloc (Nat.le_refl _) _), _, rfl, heap_alloc_new w _⟩
  · intro a w ht hs hg -- 63
    have h62 := By.given_get hg 26 rfl rfl (by kernel_rfl)
    have hg59 := By.given_get hg 23 rfl rfl (by kernel_rfl)
    refine By.yes (By.want_yes rfl rfl hg59) ?_
    clear hg59
    obtain ⟨v62, hv62⟩ : ∃ v, a.tmps.getD 62 undef = v := ⟨_, rfl⟩
    replace h62 := (congrArg (fun v => ((rowP lo l LX (.slice A l.length cap) (.slice A2 m.length cap2))).on v w) hv62).mp h62
    clear hs hg
    have Hx := Lib.hid (row_bss h62 (HB.out w ht) (HP.out w ht))
    clear h62
    go_simp
    refine (Sum_any _ _ _ Hx.out (by simp) (by intro x hx; simp at hx; rcases hx with rfl | rfl <;> omega)).mono ?_
    rintro e w' ⟨rfl, rfl⟩
    exact ⟨_, rfl, Ref.TP.refl _, rfl⟩
  · intro a w ht hs hg -- 64
    have h0 := By.same_get hs 0 (by decide) (by kernel_rfl)
    have hg59 := By.given_get hg 23 rfl rfl (by kernel_rfl)
    refine By.yes (By.want_yes rfl rfl hg59) ?_
    clear hg59
    clear hs hg
    go_simp
    exact ⟨_, rfl, Ref.TP.refl _, rfl⟩
  · intro a w ht hs hg -- 65
    have h2 := By.same_get hs 2 (by decide) (by kernel_rfl)
    have hg59 := By.given_get hg 23 rfl rfl (by kernel_rfl)
    refine By.yes (By.want_yes rfl rfl hg59) ?_
    clear hg59
    clear hs hg
    go_simp
    exact ⟨_, rfl, Ref.TP.refl _, rfl⟩
  · intro a w ht hs hg -- 66
    have h64 : a.tmps.getD 64 undef = _ := By.given_get hg 28 rfl rfl (by kernel_rfl)
    have h65 : a.tmps.getD 65 undef = _ := By.given_get hg 29 rfl rfl (by kernel_rfl)
    have hg59 := By.given_get hg 23 rfl rfl (by kernel_rfl)
    refine By.yes (By.want_yes rfl rfl hg59) ?_
    clear hg59
    clear hs hg
    refine wp_bss2x _ rfl h64 rfl h65 rfl ?_
    exact ⟨_, rfl, Ref.TP.of_grew _ _ ((Below.refl _ w).alloc (Nat.le_refl _) _), _, rfl, heap_alloc_new w _⟩
  · intro a w ht hs hg -- 67
    have h66 := By.given_get hg 30 rfl rfl (by kernel_rfl)
    have hg59 := By.given_get hg 23 rfl rfl (by kernel_rfl)
    refine By.yes (By.want_yes rfl rfl hg59) ?_
    clear hg59
    obtain ⟨v66, hv66⟩ : ∃ v, a.tmps.getD 66 undef = v := ⟨_, rfl⟩
    replace h66 := (congrArg (fun v => ((rowP lo l LX (.slice A l.length cap) (.slice A2 m.length cap2))).on v w) hv66).mp h66
    clear hs hg
    have Hx := Lib.hid (row_bss h66 (HB.out w ht) (HP.out w ht))
    clear h66
    go_simp
    refine (RSum_any _ _ _ Hx.out (by simp) (by intro x hx; simp at hx; rcases hx with rfl | rfl <;> omega)).mono ?_
    rintro e w' ⟨rfl, rfl⟩
    exact ⟨_, rfl, Ref.TP.refl _, rfl⟩
  · intro a w ht hs hg -- 68
    have h63 : a.tmps.getD 63 undef = _ := By.given_get hg 27 rfl rfl (by kernel_rfl)
    have h67 : a.tmps.getD 67 undef = _ := By.given_get hg 31 rfl rfl (by kernel_rfl)
    have hg59 := By.given_get hg 23 rfl rfl (by kernel_rfl)
    refine By.yes (By.want_yes rfl rfl hg59) ?_
    clear hg59
    clear hs hg
    go_simp
    exact ⟨_, rfl, Ref.TP.refl _, congrArg Value.bool (by simp)⟩
  · intro a w ht hs hg -- 69
    have h59 : a.tmps.getD 59 undef = _ := By.given_get hg 23 rfl rfl (by kernel_rfl)
    have h68 : a.tmps.getD 68 undef = _ := By.given_get hg 32 rfl rfl (by kernel_rfl)
    refine By.yes rfl ?_
    clear hs hg
    go_simp
    exact ⟨_, rfl, Ref.TP.refl _, rfl⟩
  · intro a w ht hs hg -- 6
    have h69 : a.tmps.getD 69 undef = _ := By.given_get hg 33 rfl rfl (by kernel_rfl)
    refine By.yes rfl ?_
    clear hs hg
    go_simp
    exact ⟨_, rfl, Ref.TP.refl _, rfl⟩
  refine By.ends_is (By.ends_skip fun v37 => (By.ends_is (By.ends_skip fun v39 => (By.ends_is (By.ends_is (By.ends_skip fun v42 => (By.ends_is (By.ends_skip fun v44 => (By.ends_is (By.ends_is (By.ends_is (By.ends_is (By.ends_is (By.ends_is (By.ends_is (By.ends_is (By.ends_is (By.ends_is (By.ends_is (By.ends_is (By.ends_is (By.ends_is (By.ends_is (By.ends_is (By.ends_is (By.ends_skip fun v62 => (By.ends_is (By.ends_is (By.ends_is (By.ends_skip fun v66 => (By.ends_is (By.ends_is (By.ends_is (By.ends_is (By.ends_nil fun w7 hw7 => ?_)))))))))))))))))))))))))))))))))))
  simp only [Act.put, List.setIfInBounds_toArray, List.set_cons_succ, List.set_cons_zero]

  have hb07 : Below w.heap.size w w7 := hb06.drew.trans ((Ref.TP.below hw7 (Nat.le_of_eq hlo.symm)).mono (by rw [← hlo]; exact hb06.size))
  go_wp2
  go_ret
  exact ⟨rfl, hb07⟩

set_option maxRecDepth 100000 in
theorem lift (os : Os) (started : os.Started) (H : Type) (enc : TypeId × Value → H) :
    ReturnsInHanded {} Try.checked os 4 .any (Rows.octetPutsSpec.pre6 enc Try.prog Try.f4 Rows.octetPutsRow.domain false) (Rows.octetPutsSpec.post enc Try.prog Try.f4 false true false false) := by
  refine Law.lifted (C := Try.checked) 4 own started (by kernel_rfl) Try.func4 laid (by kernel_rfl) rfl Try.underlying4 rfl
    (fun ds hd => by
      have hd' : ds.length = 3 := hd
      match ds, hd' with
      | [d0, d1, d2], _ => rfl)
    (ChangeSpec.witness6 (enc := enc) (C := Try.checked) false ⟨#[], #[.slice none 0 0, .int .u64 0, .slice none 0 0], []⟩ 8 (by kernel_rfl) (by kernel_rfl) (by kernel_rfl) (by kernel_rfl)) ?_
  intro W args ds ps hst
  have hA : DataW.TrodAll enc Try.prog W 0 (fun _ => true) true Try.f4.params.toList args.toList ds ps := hst.trod
  have hok := hst.okw
  have hlt := hst.lt
  rw [Try.params4] at hA hok
  obtain ⟨v0, v1, v2, d0, d1, d2, p0, p1, p2, rfl, rfl, rfl, h0, h1, h2⟩ := trodAll_three hA
  obtain ⟨_, hv0⟩ := hok 0 24 v0 rfl rfl
  obtain ⟨_, hv1⟩ := hok 1 27 v1 rfl rfl
  obtain ⟨_, hv2⟩ := hok 2 24 v2 rfl rfl
  obtain ⟨l, hb, hl⟩ := Law.bytes_at Try.underlying24 hv0 h0 (fun x hx => hlt x (by simp [hx]))
  obtain ⟨y, rfl, hy1, hy2⟩ := Law.int_at Try.underlying27 hv1 h1
  have hy3 : (0 : Int) ≤ y := hy1
  have hy4 : y ≤ (18446744073709551615 : Int) := hy2
  obtain ⟨m, hp, hm⟩ := Law.bytes_at Try.underlying24 hv2 h2 (fun x hx => hlt x (by simp [hx]))
  obtain ⟨A, cap, rfl, _⟩ := id hb
  obtain ⟨A2, cap2, rfl, _⟩ := id hp
  obtain ⟨x, rfl⟩ : ∃ x : Nat, y = (x : Int) := ⟨y.toNat, by omega⟩
  by_cases hs : 3000 < l.length ∨ 3000 < m.length
  · exact short l m A A2 cap cap2 x W hs
  · exact walk l m A A2 cap cap2 x W hb hp (by omega) (by omega) (by omega)

theorem over : Rows.octetPutsRow.holds Try.pinned (OpenSpec.ofChange Rows.octetPutsSpec) :=
  OpenClaim.holds_of_wide 4 Try.f4 rfl rfl rfl rfl rfl rfl rfl ⟨rfl, rfl, rfl, rfl, rfl⟩ rfl rfl rfl rfl rfl (by kernel_rfl) Try.func4 (by kernel_rfl)
    (of_decide_eq_true (by kernel_rfl)) (by unfold Func.isWrapper; first | (rw [if_pos (by decide +kernel)]; kernel_rfl) | (rw [if_neg (by decide +kernel)]; exact ⟨rfl, rfl⟩))
    (fun os started H enc _ => lift os started H enc)
theorem proved : Rows.OctetPutsSaid := over
#print axioms proved
end Go.Proofs.Ytmfjlcgbanidnaa.octetPuts
