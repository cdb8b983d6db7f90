/- Sums, HMACs and keys are what the document says: 'drawbridgelaw05.HkdfSums'. -/
import Derived.Test.YtpllbnioncjhaaaDoorHkLives
import Derived.Test.YtpllbnioncjhaaaDoorHkKey
import Derived.Test.YtpllbnioncjhaaaDoorHkKeysPure
import Derived.Test.YtpllbnioncjhaaaDoorHkRRest
import Derived.Test.YtpllbnioncjhaaaDoorTail
import Derived.Test.YtpllbnioncjhaaaDoorEqArr
import Derived.Test.YtpllbnioncjhaaaDoorKit
import Derived.Test.YtpllbnioncjhaaaDoorBs
import Derived.Test.YtpllbnioncjhaaaDoorHkLaw
namespace Go.Proofs.YtpllbnioncjhaaaDoor.hkdfSums
open Go.ChangeShapes Go.WideShapes Go.ChangeAt Go.RowKit
theorem eq32 (x y : List UInt8) (hx : x.length = 32) (hy : y.length = 32) (w : World) : (Op.equal 23 (arr8 x) (arr8 y)).run Tryd.prog w = .ok (decide (x = y)) w :=
  run_eql_arr8 (P := Tryd.prog) Tryd.underlying23 Tryd.underlying5 (by kernel_rfl) x y hx hy w
theorem eqg32 (x : List UInt8) (u v : Operand) (w : World) : (eqGuard .eql 23 u v (arr8 x) (arr8 x)).run Tryd.prog w = .ok () w := by
  have hg : Tryd.prog.eqGuardType Tryd.prog.depth 23 = false := by kernel_rfl
  unfold arr8
  simp [eqGuard, Sem.run_bind, hg]
theorem eqv32 (x : List UInt8) (hx : x.length = 32) (w : World) : (binOp .eql 23 (arr8 x) (arr8 x)).run Tryd.prog w = .ok (.bool true) w := by
  have h := eq32 x x hx hx w
  unfold arr8 at h ⊢
  simp [binOp, Sem.run_bind, h]
theorem strg (x : List UInt8) (u v : Operand) (w : World) : (eqGuard .eql 9 u v (strOf x) (strOf x)).run Tryd.prog w = .ok () w := by
  unfold strOf
  simp [eqGuard]
theorem strv (x : List UInt8) (w : World) : (binOp .eql 9 (strOf x) (strOf x)).run Tryd.prog w = .ok (.bool true) w := by
  unfold strOf binOp Op.stringOp
  simp [Sem.run_pure]
/-- Bytes and an error. -/
def resB (l : List UInt8) (g : Int) : By.Mark Grew := ⟨fun v w => ∃ x, v = .tuple #[x, .int .i64 g] ∧ Bs w w.heap.size x l, fun _ _ _ ⟨x, h1, h2⟩ k => ⟨x, h1, (h2.below k).more k.size⟩⟩
/-- Two lists in a row. -/
theorem two {w : World} {u v : Value} {x y : List UInt8} (hx : Bs w w.heap.size u x) (hy : Bs w w.heap.size v y) : Bss (w.alloc (.cells #[u, v] 22)) (w.alloc (.cells #[u, v] 22)).heap.size (.slice (some ⟨w.heap.size, 0, none⟩) 2 2) [x, y] :=
  bss_new (n := 2) (ls := [x, y]) (vs := [u, v]) (w := w) rfl rfl (Reads.append (.one hx) (.one hy))
theorem two_below (w : World) (u v : Value) : Below w.heap.size w (w.alloc (.cells #[u, v] 22)) := (Below.refl w.heap.size w).alloc (Nat.le_refl _) _
theorem SumTwo (u v : Value) (x y : List UInt8) (w : World) (ht : Tab w) (hx : Bs w w.heap.size u x) (hy : Bs w w.heap.size v y) (hl : x.length ≤ 400 ∧ y.length ≤ 400) :
    Calls Tryd.prog 13 #[.slice (some ⟨w.heap.size, 0, none⟩) 2 2] (w.alloc (.cells #[u, v] 22)) fun e w' => e = .returned (arr8 (Sha.sum (x ++ y))) ∧ Below w.heap.size w w' := by
  refine (Sum_any _ [x, y] _ (ht.below (two_below w u v) ht.1) (two hx hy) (by simp) (by intro l h; simp at h; rcases h with rfl | rfl <;> omega) (by simp; omega)).mono ?_
  rintro e w' ⟨rfl, hb⟩
  exact ⟨by simp, nextB (two_below w u v) (Nat.le_refl _) hb⟩
theorem RSumTwo (u v : Value) (x y : List UInt8) (w : World) (ht : Tab w) (hx : Bs w w.heap.size u x) (hy : Bs w w.heap.size v y) (hl : x.length ≤ 400 ∧ y.length ≤ 400) :
    Calls Tryd.prog 14 #[.slice (some ⟨w.heap.size, 0, none⟩) 2 2] (w.alloc (.cells #[u, v] 22)) fun e w' => e = .returned (arr8 (Sha.sum (x ++ y))) ∧ Below w.heap.size w w' := by
  refine (RSum_any _ [x, y] _ (ht.below (two_below w u v) ht.1) (two hx hy) (by simp) (by simp; omega)).mono ?_
  rintro e w' ⟨rfl, hb⟩
  exact ⟨by simp, nextB (two_below w u v) (Nat.le_refl _) hb⟩
theorem MacTwo (k u v : Value) (key x y : List UInt8) (w : World) (ht : Tab w) (hk : Bs w w.heap.size k key) (hx : Bs w w.heap.size u x) (hy : Bs w w.heap.size v y) (hkl : key.length ≤ 400) (hl : x.length ≤ 400 ∧ y.length ≤ 400) :
    Calls Tryd.prog 15 #[k, .slice (some ⟨w.heap.size, 0, none⟩) 2 2] (w.alloc (.cells #[u, v] 22)) fun e w' => e = .returned (arr8 (Sha.mac key (x ++ y))) ∧ Below w.heap.size w w' := by
  refine (Mac_any _ _ key [x, y] _ (ht.below (two_below w u v) ht.1) ((hk.below (two_below w u v)).more (two_below w u v).size) (by omega) (two hx hy) (by simp) (by intro l h; simp at h; rcases h with rfl | rfl <;> omega) (by simp; omega)).mono ?_
  rintro e w' ⟨rfl, hb⟩
  exact ⟨by simp, nextB (two_below w u v) (Nat.le_refl _) hb⟩
theorem RMacTwo (k u v : Value) (key x y : List UInt8) (w : World) (ht : Tab w) (hk : Bs w w.heap.size k key) (hx : Bs w w.heap.size u x) (hy : Bs w w.heap.size v y) (hkl : key.length ≤ 400) (hl : x.length ≤ 400 ∧ y.length ≤ 400) :
    Calls Tryd.prog 16 #[k, .slice (some ⟨w.heap.size, 0, none⟩) 2 2] (w.alloc (.cells #[u, v] 22)) fun e w' => e = .returned (arr8 (Sha.mac key (x ++ y))) ∧ Below w.heap.size w w' := by
  refine (RMac_any _ _ key [x, y] _ (ht.below (two_below w u v) ht.1) ((hk.below (two_below w u v)).more (two_below w u v).size) (by omega) (two hx hy) (by simp) (by simp; omega)).mono ?_
  rintro e w' ⟨rfl, hb⟩
  exact ⟨by simp, nextB (two_below w u v) (Nat.le_refl _) hb⟩
set_option maxRecDepth 100000 in
set_option maxHeartbeats 4000000 in
theorem longA (k : List UInt8) (A1 A2 A3 : Option Addr) (n1 n2 n3 c1 c2 c3 : Nat) (z : Int) (h1 : (400 : Int) < (n1 : Int)) (w : World) (ht : Tab w) :
    Calls Tryd.prog 3 #[.slice A1 n1 c1, .slice A2 n2 c2, .slice A3 n3 c3, arr8 k, .int .i64 z] w fun r w' => r = .returned (.bool true) ∧ Below w.heap.size w w' := by
  have HT := Lib.hid ht
  clear ht
  unfold arr8
  go_enter Tryd.func3, Tryd.ntmps3
  have hb0 := (Below.refl w.heap.size w).alloc (Nat.le_refl _) (.cells (k.map bv).toArray 23)
  go_wp2_with fail
  refine (lives_any _ (HT.out.below hb0 HT.out.1)).mono ?_
  rintro r w1 ⟨rfl, hb1⟩
  have HB1 := Lib.hid (nextB hb0 (Nat.le_refl _) hb1)
  have HR1 := Lib.hid (show Row w1 w.heap.size (k.map bv) 23 from (Row.new rfl rfl).below hb1 (by simp))
  clear hb0 hb1
  go_wp2_with fail
  go_ret
  exact ⟨rfl, HB1.out⟩
set_option maxRecDepth 100000 in
set_option maxHeartbeats 4000000 in
theorem longB (k : List UInt8) (A1 A2 A3 : Option Addr) (n1 n2 n3 c1 c2 c3 : Nat) (z : Int) (h1 : ¬ (400 : Int) < (n1 : Int)) (h2 : (400 : Int) < (n2 : Int)) (w : World) (ht : Tab w) :
    Calls Tryd.prog 3 #[.slice A1 n1 c1, .slice A2 n2 c2, .slice A3 n3 c3, arr8 k, .int .i64 z] w fun r w' => r = .returned (.bool true) ∧ Below w.heap.size w w' := by
  have HT := Lib.hid ht
  clear ht
  unfold arr8
  go_enter Tryd.func3, Tryd.ntmps3
  have hb0 := (Below.refl w.heap.size w).alloc (Nat.le_refl _) (.cells (k.map bv).toArray 23)
  go_wp2_with fail
  refine (lives_any _ (HT.out.below hb0 HT.out.1)).mono ?_
  rintro r w1 ⟨rfl, hb1⟩
  have HB1 := Lib.hid (nextB hb0 (Nat.le_refl _) hb1)
  have HR1 := Lib.hid (show Row w1 w.heap.size (k.map bv) 23 from (Row.new rfl rfl).below hb1 (by simp))
  clear hb0 hb1
  go_wp2_with fail
  go_ret
  exact ⟨rfl, HB1.out⟩
set_option maxRecDepth 100000 in
set_option maxHeartbeats 4000000 in
theorem longC (k : List UInt8) (A1 A2 A3 : Option Addr) (n1 n2 n3 c1 c2 c3 : Nat) (z : Int) (h1 : ¬ (400 : Int) < (n1 : Int)) (h2 : ¬ (400 : Int) < (n2 : Int)) (h3 : (400 : Int) < (n3 : Int)) (w : World) (ht : Tab w) :
    Calls Tryd.prog 3 #[.slice A1 n1 c1, .slice A2 n2 c2, .slice A3 n3 c3, arr8 k, .int .i64 z] w fun r w' => r = .returned (.bool true) ∧ Below w.heap.size w w' := by
  have HT := Lib.hid ht
  clear ht
  unfold arr8
  go_enter Tryd.func3, Tryd.ntmps3
  have hb0 := (Below.refl w.heap.size w).alloc (Nat.le_refl _) (.cells (k.map bv).toArray 23)
  go_wp2_with fail
  refine (lives_any _ (HT.out.below hb0 HT.out.1)).mono ?_
  rintro r w1 ⟨rfl, hb1⟩
  have HB1 := Lib.hid (nextB hb0 (Nat.le_refl _) hb1)
  have HR1 := Lib.hid (show Row w1 w.heap.size (k.map bv) 23 from (Row.new rfl rfl).below hb1 (by simp))
  clear hb0 hb1
  go_wp2_with fail
  go_ret
  exact ⟨rfl, HB1.out⟩
set_option maxRecDepth 100000 in
set_option maxHeartbeats 4000000 in
theorem longD (k : List UInt8) (A1 A2 A3 : Option Addr) (n1 n2 n3 c1 c2 c3 : Nat) (z : Int) (h1 : ¬ (400 : Int) < (n1 : Int)) (h2 : ¬ (400 : Int) < (n2 : Int)) (h3 : ¬ (400 : Int) < (n3 : Int)) (h4 : (400 : Int) < z) (h5 : z ≤ 8160) (w : World) (ht : Tab w) :
    Calls Tryd.prog 3 #[.slice A1 n1 c1, .slice A2 n2 c2, .slice A3 n3 c3, arr8 k, .int .i64 z] w fun r w' => r = .returned (.bool true) ∧ Below w.heap.size w w' := by
  have HT := Lib.hid ht
  clear ht
  unfold arr8
  go_enter Tryd.func3, Tryd.ntmps3
  have hb0 := (Below.refl w.heap.size w).alloc (Nat.le_refl _) (.cells (k.map bv).toArray 23)
  go_wp2_with fail
  refine (lives_any _ (HT.out.below hb0 HT.out.1)).mono ?_
  rintro r w1 ⟨rfl, hb1⟩
  have HB1 := Lib.hid (nextB hb0 (Nat.le_refl _) hb1)
  have HR1 := Lib.hid (show Row w1 w.heap.size (k.map bv) 23 from (Row.new rfl rfl).below hb1 (by simp))
  clear hb0 hb1
  go_wp2_with fail
  go_ret
  exact ⟨rfl, HB1.out⟩
set_option maxRecDepth 100000 in
set_option maxHeartbeats 16000000 in
theorem mainA (la lb key k X : List UInt8) (er : Int) (A1 A2 A3 : Option Addr) (c1 c2 c3 : Nat) (z : Int) (hz : ¬ (400 : Int) < z) (hal : la.length ≤ 400) (hbl : lb.length ≤ 400) (hkl : key.length ≤ 400) (h32 : k.length = 32) (w : World) (ht : Tab w)
    (ha : Bs w w.heap.size (.slice A1 la.length c1) la) (hb : Bs w w.heap.size (.slice A2 lb.length c2) lb) (hk : Bs w w.heap.size (.slice A3 key.length c3) key)
    (hE : ∀ (W : World) (u : Value), Tab W → Bs W W.heap.size u la → Calls Tryd.prog 10 #[arr8 k, u, .int .i64 z] W fun e w' => ∃ r, e = .returned (.tuple #[r, .int .i64 er]) ∧ Bs w' w'.heap.size r X ∧ Below W.heap.size W w') (hRE : ∀ (W : World) (u : Value), Tab W → Bs W W.heap.size u la → Calls Tryd.prog 12 #[arr8 k, u, .int .i64 z] W fun e w' => ∃ r, e = .returned (.tuple #[r, .int .i64 er]) ∧ Bs w' w'.heap.size r X ∧ Below W.heap.size W w') :
    Calls Tryd.prog 3 #[.slice A1 la.length c1, .slice A2 lb.length c2, .slice A3 key.length c3, arr8 k, .int .i64 z] w fun r w' => r = .returned (.bool true) ∧ Below w.heap.size w w' := by
  have HT := Lib.hid ht
  have Ha := Lib.hid ha
  have Hb := Lib.hid hb
  have Hkey := Lib.hid hk
  have HE := Lib.hid hE
  have HRE := Lib.hid hRE
  have Hal := Lib.hid hal
  have Hbl := Lib.hid hbl
  have Hkl := Lib.hid hkl
  have H32m := Lib.hid (show (k.map bv).length = 32 by rw [List.length_map]; exact h32)
  have h1 : ¬ (400 : Int) < (la.length : Int) := by omega
  have h2 : ¬ (400 : Int) < (lb.length : Int) := by omega
  have h3 : ¬ (400 : Int) < (key.length : Int) := by omega
  clear ht ha hb hk hE hRE hal hbl hkl h32
  unfold arr8
  go_enter Tryd.func3, Tryd.ntmps3
  have hb0 := (Below.refl w.heap.size w).alloc (Nat.le_refl _) (.cells (k.map bv).toArray 23)
  go_wp2_with fail
  refine (lives_any _ (HT.out.below hb0 HT.out.1)).mono ?_
  rintro r w1 ⟨rfl, hb1⟩
  have HB1 := Lib.hid (nextB hb0 (Nat.le_refl _) hb1)
  have HR1 := Lib.hid (show Row w1 w.heap.size (k.map bv) 23 from (Row.new rfl rfl).below hb1 (by simp))
  clear hb0 hb1
  go_wp2_with fail
  have HA1 := Lib.hid ((Ha.out.below HB1.out).more HB1.out.size)
  have HT1 := Lib.hid (HT.out.below HB1.out HT.out.1)
  refine By.marks Pol.mixed Grew [By.is (arr8 k),
    By.is (.slice A1 la.length c1),
    (bsM la),
    By.is (.int .i64 z),
    (resB X er),
    (resB X er),
    (bsM X),
    By.is (.int .i64 er),
    (bsM X),
    By.is (.int .i64 er)]
    (Ev.masks _ []) (by kernel_rfl) rfl Grew.refl Grew.trans ⟨?_, ?_, ?_, ?_, ?_, ?_, ?_, ?_, ?_, ?_, trivial⟩ ?_
  · intro a w ht hs hg -- 39
    have h8 := By.same_get hs 8 (by decide) (by kernel_rfl)
    refine By.yes rfl ?_
    clear hs hg
    refine wp_loadRow 23 _ rfl h8 (Row.below (w := w1.drew) HR1.out ht HR1.out.lt) Tryd.underlying23 rfl (by kernel_rfl) H32m.out ?_
    exact ⟨_, rfl, Grew.refl _, rfl⟩
  · intro a w ht hs hg -- 40
    have h0 := By.same_get hs 0 (by decide) (by kernel_rfl)
    refine By.yes rfl ?_
    clear hs hg
    go_simp
    exact ⟨_, rfl, Grew.refl _, rfl⟩
  · intro a w ht hs hg -- 41
    have h40 : a.tmps.getD 40 undef = _ := By.given_get hg 1 rfl rfl (by kernel_rfl)
    refine By.yes rfl ?_
    clear hs hg
    have hx := Lib.hid ((Bs.below (w := w1.drew) HA1.out ht).more ht.size)
    go_simp
    refine (Own_any _ la w hx.out (by have := Hal.out; omega)).mono ?_
    rintro e w' ⟨v, rfl, ho, hb⟩
    exact ⟨_, rfl, hb, ho.bs⟩
  · intro a w ht hs hg -- 42
    have h4 := By.same_get hs 4 (by decide) (by kernel_rfl)
    refine By.yes rfl ?_
    clear hs hg
    go_simp
    exact ⟨_, rfl, Grew.refl _, rfl⟩
  · intro a w ht hs hg -- 43
    have h39 : a.tmps.getD 39 undef = _ := By.given_get hg 0 rfl rfl (by kernel_rfl)
    have h41 := By.given_get hg 2 rfl rfl (by kernel_rfl)
    have h42 : a.tmps.getD 42 undef = _ := By.given_get hg 3 rfl rfl (by kernel_rfl)
    refine By.yes rfl ?_
    obtain ⟨v41, hv41⟩ : ∃ v, a.tmps.getD 41 undef = v := ⟨_, rfl⟩
    replace h41 := (congrArg (fun v => ((bsM la)).on v w) hv41).mp h41
    clear hs hg
    have Ho := Lib.hid (show Bs w w.heap.size v41 la from h41)
    have htab := Lib.hid (HT1.out.below (show Below w1.heap.size w1 w from ⟨ht.os, ht.tape, ht.output, ht.size, ht.block⟩) HT1.out.1)
    clear h41 ht
    go_simp
    refine (HE.out w _ htab.out Ho.out).mono ?_
    rintro e w' ⟨r, rfl, ho, hb⟩
    exact ⟨_, rfl, hb, r, rfl, ho⟩
  · intro a w ht hs hg -- 38
    have h43 := By.given_get hg 4 rfl rfl (by kernel_rfl)
    refine By.yes rfl ?_
    obtain ⟨v43, hv43⟩ : ∃ v, a.tmps.getD 43 undef = v := ⟨_, rfl⟩
    replace h43 := (congrArg (fun v => ((resB X er)).on v w) hv43).mp h43
    clear hs hg
    go_simp
    exact ⟨_, rfl, Grew.refl _, h43⟩
  · intro a w ht hs hg -- 44
    have h38 := By.given_get hg 5 rfl rfl (by kernel_rfl)
    refine By.yes rfl ?_
    obtain ⟨v38, hv38⟩ : ∃ v, a.tmps.getD 38 undef = v := ⟨_, rfl⟩
    replace h38 := (congrArg (fun v => ((resB X er)).on v w) hv38).mp h38
    clear hs hg
    obtain ⟨x, rfl, hx⟩ := h38
    have Hx := Lib.hid hx
    clear hx
    go_simp
    exact ⟨_, rfl, Grew.refl _, Hx.out⟩
  · intro a w ht hs hg -- 45
    have h38 := By.given_get hg 5 rfl rfl (by kernel_rfl)
    refine By.yes rfl ?_
    obtain ⟨v38, hv38⟩ : ∃ v, a.tmps.getD 38 undef = v := ⟨_, rfl⟩
    replace h38 := (congrArg (fun v => ((resB X er)).on v w) hv38).mp h38
    clear hs hg
    obtain ⟨x, rfl, hx⟩ := h38
    clear hx
    go_simp
    exact ⟨_, rfl, Grew.refl _, rfl⟩
  · intro a w ht hs hg -- 11
    have h44 := By.given_get hg 6 rfl rfl (by kernel_rfl)
    refine By.yes rfl ?_
    obtain ⟨v44, hv44⟩ : ∃ v, a.tmps.getD 44 undef = v := ⟨_, rfl⟩
    replace h44 := (congrArg (fun v => ((bsM X)).on v w) hv44).mp h44
    clear hs hg
    have Hx := Lib.hid h44
    clear h44
    go_simp
    exact ⟨_, rfl, Grew.refl _, Hx.out⟩
  · intro a w ht hs hg -- 12
    have h45 : a.tmps.getD 45 undef = _ := By.given_get hg 7 rfl rfl (by kernel_rfl)
    refine By.yes rfl ?_
    clear hs hg
    go_simp
    exact ⟨_, rfl, Grew.refl _, rfl⟩
  refine By.ends_is (By.ends_is (By.ends_skip fun v41 => (By.ends_is (By.ends_skip fun v43 => (By.ends_skip fun v38 => (By.ends_skip fun v44 => (By.ends_is (By.ends_any fun v11 => (By.ends_is (By.ends_nil fun wq hq => ?_))))))))))
  simp only [Act.put, List.setIfInBounds_toArray, List.set_cons_succ, List.set_cons_zero]
  obtain ⟨hq, hv11⟩ := hq
  have HX2 := Lib.hid (show Bs wq wq.heap.size v11 X from hv11)
  have HBq := Lib.hid (show Below w.heap.size w wq from nextB HB1.out (Nat.le_refl _) ⟨hq.os, hq.tape, hq.output, hq.size, hq.block⟩)
  have HRq := Lib.hid (Row.below (w := w1.drew) HR1.out hq HR1.out.lt)
  clear hv11 hq
  have HTq := Lib.hid (HT.out.below HBq.out HT.out.1)
  have HAq := Lib.hid ((Ha.out.below HBq.out).more HBq.out.size)
  have HCq := Lib.hid ((Hb.out.below HBq.out).more HBq.out.size)
  have HKq := Lib.hid ((Hkey.out.below HBq.out).more HBq.out.size)
  go_wp2_with (first
    | (refine wpList_loadRow (n := 32) (cs := k.map bv) rfl 23 (.tmp 8) rfl rfl HRq.out Tryd.underlying23 rfl (by kernel_rfl) H32m.out ?_)
    | fail)
  refine (HRE.out wq _ HTq.out HAq.out).mono ?_
  rintro e w3 ⟨v13, rfl, h13, hb3⟩
  have HB3 := Lib.hid (nextB HBq.out (Nat.le_refl _) hb3)
  have HV3 := Lib.hid h13
  have HU3 := Lib.hid ((HX2.out.below hb3).more hb3.size)
  clear h13 hb3
  have HT3 := Lib.hid (HT.out.below HB3.out HT.out.1)
  have HA3 := Lib.hid ((Ha.out.below HB3.out).more HB3.out.size)
  have HC3 := Lib.hid ((Hb.out.below HB3.out).more HB3.out.size)
  have HK3 := Lib.hid ((Hkey.out.below HB3.out).more HB3.out.size)
  obtain ⟨S, hS⟩ : ∃ S, Sha.sum (la ++ lb) = S := ⟨_, rfl⟩
  obtain ⟨M, hM⟩ : ∃ M, Sha.mac key (la ++ lb) = M := ⟨_, rfl⟩
  obtain ⟨E, hE⟩ : ∃ E, Sha.mac key la = E := ⟨_, rfl⟩
  obtain ⟨O, hO⟩ : ∃ O, Hk.outL E lb 32 = O := ⟨_, rfl⟩
  have hOl : O.length = 32 := by rw [← hO, ← Hk.outN_end E lb 32 1 (by omega) (by omega)]; exact Hk.outN_length _ _ _ _
  have heS := eqv32 S (by rw [← hS]; exact Sha.sum_length _)
  have heM := eqv32 M (by rw [← hM]; exact Sha.sum_length _)
  have heE := eqv32 E (by rw [← hE]; exact Sha.sum_length _)
  have heO := eqv32 O hOl
  have hsg := strg X
  have hsv := strv X
  have hgS := eqg32 S
  have hgM := eqg32 M
  have hgE := eqg32 E
  have hgO := eqg32 O
  have HS := Lib.hid hS
  have HM := Lib.hid hM
  have HEe := Lib.hid hE
  have HO := Lib.hid hO
  have HL2 := Lib.hid (show la.length ≤ 400 ∧ lb.length ≤ 400 from ⟨Hal.out, Hbl.out⟩)
  clear hS hM hE hO hOl
  go_wp2_with fail
  refine (SumTwo _ _ la lb w3 HT3.out HA3.out HC3.out HL2.out).mono ?_
  rw [HS.out]
  rintro e w4 ⟨rfl, hb4⟩
  have HB4 := Lib.hid (nextB HB3.out (Nat.le_refl _) hb4)
  have HV4 := Lib.hid ((HV3.out.below hb4).more hb4.size)
  have HU4 := Lib.hid ((HU3.out.below hb4).more hb4.size)
  clear hb4
  have HT4 := Lib.hid (HT.out.below HB4.out HT.out.1)
  have HA4 := Lib.hid ((Ha.out.below HB4.out).more HB4.out.size)
  have HC4 := Lib.hid ((Hb.out.below HB4.out).more HB4.out.size)
  have HK4 := Lib.hid ((Hkey.out.below HB4.out).more HB4.out.size)
  go_wp2_with fail
  refine (RSumTwo _ _ la lb w4 HT4.out HA4.out HC4.out HL2.out).mono ?_
  rw [HS.out]
  rintro e w5 ⟨rfl, hb5⟩
  have HB5 := Lib.hid (nextB HB4.out (Nat.le_refl _) hb5)
  have HV5 := Lib.hid ((HV4.out.below hb5).more hb5.size)
  have HU5 := Lib.hid ((HU4.out.below hb5).more hb5.size)
  clear hb5
  have HT5 := Lib.hid (HT.out.below HB5.out HT.out.1)
  have HA5 := Lib.hid ((Ha.out.below HB5.out).more HB5.out.size)
  have HC5 := Lib.hid ((Hb.out.below HB5.out).more HB5.out.size)
  have HK5 := Lib.hid ((Hkey.out.below HB5.out).more HB5.out.size)
  go_wp2_with fail
  refine (Own_any _ key w5 HK5.out (by have := Hkl.out; omega)).mono ?_
  rintro e w6 ⟨vo, rfl, ho, hb6⟩
  have HOw := Lib.hid ho.bs
  have HB6 := Lib.hid (nextB HB5.out (Nat.le_refl _) hb6)
  have HV6 := Lib.hid ((HV5.out.below hb6).more hb6.size)
  have HU6 := Lib.hid ((HU5.out.below hb6).more hb6.size)
  clear hb6 ho
  have HT6 := Lib.hid (HT.out.below HB6.out HT.out.1)
  have HA6 := Lib.hid ((Ha.out.below HB6.out).more HB6.out.size)
  have HC6 := Lib.hid ((Hb.out.below HB6.out).more HB6.out.size)
  have HK6 := Lib.hid ((Hkey.out.below HB6.out).more HB6.out.size)
  go_wp2_with fail
  refine (MacTwo _ _ _ key la lb w6 HT6.out HOw.out HA6.out HC6.out Hkl.out HL2.out).mono ?_
  rw [HM.out]
  rintro e w7 ⟨rfl, hb7⟩
  have HB7 := Lib.hid (nextB HB6.out (Nat.le_refl _) hb7)
  have HV7 := Lib.hid ((HV6.out.below hb7).more hb7.size)
  have HU7 := Lib.hid ((HU6.out.below hb7).more hb7.size)
  clear hb7
  have HT7 := Lib.hid (HT.out.below HB7.out HT.out.1)
  have HA7 := Lib.hid ((Ha.out.below HB7.out).more HB7.out.size)
  have HC7 := Lib.hid ((Hb.out.below HB7.out).more HB7.out.size)
  have HK7 := Lib.hid ((Hkey.out.below HB7.out).more HB7.out.size)
  go_wp2_with fail
  refine (RMacTwo _ _ _ key la lb w7 HT7.out HK7.out HA7.out HC7.out Hkl.out HL2.out).mono ?_
  rw [HM.out]
  rintro e w8 ⟨rfl, hb8⟩
  have HB8 := Lib.hid (nextB HB7.out (Nat.le_refl _) hb8)
  have HV8 := Lib.hid ((HV7.out.below hb8).more hb8.size)
  have HU8 := Lib.hid ((HU7.out.below hb8).more hb8.size)
  clear hb8
  have HT8 := Lib.hid (HT.out.below HB8.out HT.out.1)
  have HA8 := Lib.hid ((Ha.out.below HB8.out).more HB8.out.size)
  have HC8 := Lib.hid ((Hb.out.below HB8.out).more HB8.out.size)
  have HK8 := Lib.hid ((Hkey.out.below HB8.out).more HB8.out.size)
  go_wp2_with fail
  refine (Extract_any _ _ key la w8 HT8.out HK8.out (by have := Hkl.out; omega) HA8.out (by have := Hal.out; omega)).mono ?_
  rw [HEe.out]
  rintro e w9 ⟨rfl, hb9⟩
  have HB9 := Lib.hid (nextB HB8.out (Nat.le_refl _) hb9)
  have HV9 := Lib.hid ((HV8.out.below hb9).more hb9.size)
  have HU9 := Lib.hid ((HU8.out.below hb9).more hb9.size)
  clear hb9
  have HT9 := Lib.hid (HT.out.below HB9.out HT.out.1)
  have HA9 := Lib.hid ((Ha.out.below HB9.out).more HB9.out.size)
  have HC9 := Lib.hid ((Hb.out.below HB9.out).more HB9.out.size)
  have HK9 := Lib.hid ((Hkey.out.below HB9.out).more HB9.out.size)
  go_wp2_with fail
  refine (RExtract_any _ _ key la w9 HT9.out HK9.out (by have := Hkl.out; omega) HA9.out (by have := Hal.out; omega)).mono ?_
  rw [HEe.out]
  rintro e w10 ⟨rfl, hb10⟩
  have HB10 := Lib.hid (nextB HB9.out (Nat.le_refl _) hb10)
  have HV10 := Lib.hid ((HV9.out.below hb10).more hb10.size)
  have HU10 := Lib.hid ((HU9.out.below hb10).more hb10.size)
  clear hb10
  have HT10 := Lib.hid (HT.out.below HB10.out HT.out.1)
  have HA10 := Lib.hid ((Ha.out.below HB10.out).more HB10.out.size)
  have HC10 := Lib.hid ((Hb.out.below HB10.out).more HB10.out.size)
  have HK10 := Lib.hid ((Hkey.out.below HB10.out).more HB10.out.size)
  have hr1 := run_str w10 HU10.out
  have hr2 := run_str w10 HV10.out
  go_wp2_with fail
  refine (Key_any _ _ _ key la lb w10 HT10.out HK10.out (by have := Hkl.out; omega) HA10.out (by have := Hal.out; omega) HC10.out (by have := Hbl.out; omega)).mono ?_
  rw [HEe.out, HO.out]
  rintro e w11 ⟨rfl, hb11⟩
  have HB11 := Lib.hid (nextB HB10.out (Nat.le_refl _) hb11)
  have HV11 := Lib.hid ((HV10.out.below hb11).more hb11.size)
  have HU11 := Lib.hid ((HU10.out.below hb11).more hb11.size)
  clear hb11
  have HT11 := Lib.hid (HT.out.below HB11.out HT.out.1)
  have HA11 := Lib.hid ((Ha.out.below HB11.out).more HB11.out.size)
  have HC11 := Lib.hid ((Hb.out.below HB11.out).more HB11.out.size)
  have HK11 := Lib.hid ((Hkey.out.below HB11.out).more HB11.out.size)
  go_wp2_with fail
  refine (RKey_any _ _ _ key la lb w11 HT11.out HK11.out (by have := Hkl.out; omega) HA11.out (by have := Hal.out; omega) HC11.out (by have := Hbl.out; omega)).mono ?_
  rw [HEe.out, HO.out]
  rintro e w12 ⟨rfl, hb12⟩
  have HB12 := Lib.hid (nextB HB11.out (Nat.le_refl _) hb12)
  have HV12 := Lib.hid ((HV11.out.below hb12).more hb12.size)
  have HU12 := Lib.hid ((HU11.out.below hb12).more hb12.size)
  clear hb12
  have HT12 := Lib.hid (HT.out.below HB12.out HT.out.1)
  have HA12 := Lib.hid ((Ha.out.below HB12.out).more HB12.out.size)
  have HC12 := Lib.hid ((Hb.out.below HB12.out).more HB12.out.size)
  have HK12 := Lib.hid ((Hkey.out.below HB12.out).more HB12.out.size)
  go_wp2
  go_ret
  exact ⟨rfl, HB12.out⟩
set_option maxRecDepth 100000 in
set_option maxHeartbeats 16000000 in
theorem mainB (la lb key k X : List UInt8) (er : Int) (A1 A2 A3 : Option Addr) (c1 c2 c3 : Nat) (z : Int) (hz : (400 : Int) < z) (hz2 : ¬ z ≤ 8160) (hal : la.length ≤ 400) (hbl : lb.length ≤ 400) (hkl : key.length ≤ 400) (h32 : k.length = 32) (w : World) (ht : Tab w)
    (ha : Bs w w.heap.size (.slice A1 la.length c1) la) (hb : Bs w w.heap.size (.slice A2 lb.length c2) lb) (hk : Bs w w.heap.size (.slice A3 key.length c3) key)
    (hE : ∀ (W : World) (u : Value), Tab W → Bs W W.heap.size u la → Calls Tryd.prog 10 #[arr8 k, u, .int .i64 z] W fun e w' => ∃ r, e = .returned (.tuple #[r, .int .i64 er]) ∧ Bs w' w'.heap.size r X ∧ Below W.heap.size W w') (hRE : ∀ (W : World) (u : Value), Tab W → Bs W W.heap.size u la → Calls Tryd.prog 12 #[arr8 k, u, .int .i64 z] W fun e w' => ∃ r, e = .returned (.tuple #[r, .int .i64 er]) ∧ Bs w' w'.heap.size r X ∧ Below W.heap.size W w') :
    Calls Tryd.prog 3 #[.slice A1 la.length c1, .slice A2 lb.length c2, .slice A3 key.length c3, arr8 k, .int .i64 z] w fun r w' => r = .returned (.bool true) ∧ Below w.heap.size w w' := by
  have HT := Lib.hid ht
  have Ha := Lib.hid ha
  have Hb := Lib.hid hb
  have Hkey := Lib.hid hk
  have HE := Lib.hid hE
  have HRE := Lib.hid hRE
  have Hal := Lib.hid hal
  have Hbl := Lib.hid hbl
  have Hkl := Lib.hid hkl
  have H32m := Lib.hid (show (k.map bv).length = 32 by rw [List.length_map]; exact h32)
  have h1 : ¬ (400 : Int) < (la.length : Int) := by omega
  have h2 : ¬ (400 : Int) < (lb.length : Int) := by omega
  have h3 : ¬ (400 : Int) < (key.length : Int) := by omega
  clear ht ha hb hk hE hRE hal hbl hkl h32
  unfold arr8
  go_enter Tryd.func3, Tryd.ntmps3
  have hb0 := (Below.refl w.heap.size w).alloc (Nat.le_refl _) (.cells (k.map bv).toArray 23)
  go_wp2_with fail
  refine (lives_any _ (HT.out.below hb0 HT.out.1)).mono ?_
  rintro r w1 ⟨rfl, hb1⟩
  have HB1 := Lib.hid (nextB hb0 (Nat.le_refl _) hb1)
  have HR1 := Lib.hid (show Row w1 w.heap.size (k.map bv) 23 from (Row.new rfl rfl).below hb1 (by simp))
  clear hb0 hb1
  go_wp2_with fail
  have HA1 := Lib.hid ((Ha.out.below HB1.out).more HB1.out.size)
  have HT1 := Lib.hid (HT.out.below HB1.out HT.out.1)
  refine By.marks Pol.mixed Grew [By.is (arr8 k),
    By.is (.slice A1 la.length c1),
    (bsM la),
    By.is (.int .i64 z),
    (resB X er),
    (resB X er),
    (bsM X),
    By.is (.int .i64 er),
    (bsM X),
    By.is (.int .i64 er)]
    (Ev.masks _ []) (by kernel_rfl) rfl Grew.refl Grew.trans ⟨?_, ?_, ?_, ?_, ?_, ?_, ?_, ?_, ?_, ?_, trivial⟩ ?_
  · intro a w ht hs hg -- 39
    have h8 := By.same_get hs 8 (by decide) (by kernel_rfl)
    refine By.yes rfl ?_
    clear hs hg
    refine wp_loadRow 23 _ rfl h8 (Row.below (w := w1.drew) HR1.out ht HR1.out.lt) Tryd.underlying23 rfl (by kernel_rfl) H32m.out ?_
    exact ⟨_, rfl, Grew.refl _, rfl⟩
  · intro a w ht hs hg -- 40
    have h0 := By.same_get hs 0 (by decide) (by kernel_rfl)
    refine By.yes rfl ?_
    clear hs hg
    go_simp
    exact ⟨_, rfl, Grew.refl _, rfl⟩
  · intro a w ht hs hg -- 41
    have h40 : a.tmps.getD 40 undef = _ := By.given_get hg 1 rfl rfl (by kernel_rfl)
    refine By.yes rfl ?_
    clear hs hg
    have hx := Lib.hid ((Bs.below (w := w1.drew) HA1.out ht).more ht.size)
    go_simp
    refine (Own_any _ la w hx.out (by have := Hal.out; omega)).mono ?_
    rintro e w' ⟨v, rfl, ho, hb⟩
    exact ⟨_, rfl, hb, ho.bs⟩
  · intro a w ht hs hg -- 42
    have h4 := By.same_get hs 4 (by decide) (by kernel_rfl)
    refine By.yes rfl ?_
    clear hs hg
    go_simp
    exact ⟨_, rfl, Grew.refl _, rfl⟩
  · intro a w ht hs hg -- 43
    have h39 : a.tmps.getD 39 undef = _ := By.given_get hg 0 rfl rfl (by kernel_rfl)
    have h41 := By.given_get hg 2 rfl rfl (by kernel_rfl)
    have h42 : a.tmps.getD 42 undef = _ := By.given_get hg 3 rfl rfl (by kernel_rfl)
    refine By.yes rfl ?_
    obtain ⟨v41, hv41⟩ : ∃ v, a.tmps.getD 41 undef = v := ⟨_, rfl⟩
    replace h41 := (congrArg (fun v => ((bsM la)).on v w) hv41).mp h41
    clear hs hg
    have Ho := Lib.hid (show Bs w w.heap.size v41 la from h41)
    have htab := Lib.hid (HT1.out.below (show Below w1.heap.size w1 w from ⟨ht.os, ht.tape, ht.output, ht.size, ht.block⟩) HT1.out.1)
    clear h41 ht
    go_simp
    refine (HE.out w _ htab.out Ho.out).mono ?_
    rintro e w' ⟨r, rfl, ho, hb⟩
    exact ⟨_, rfl, hb, r, rfl, ho⟩
  · intro a w ht hs hg -- 38
    have h43 := By.given_get hg 4 rfl rfl (by kernel_rfl)
    refine By.yes rfl ?_
    obtain ⟨v43, hv43⟩ : ∃ v, a.tmps.getD 43 undef = v := ⟨_, rfl⟩
    replace h43 := (congrArg (fun v => ((resB X er)).on v w) hv43).mp h43
    clear hs hg
    go_simp
    exact ⟨_, rfl, Grew.refl _, h43⟩
  · intro a w ht hs hg -- 44
    have h38 := By.given_get hg 5 rfl rfl (by kernel_rfl)
    refine By.yes rfl ?_
    obtain ⟨v38, hv38⟩ : ∃ v, a.tmps.getD 38 undef = v := ⟨_, rfl⟩
    replace h38 := (congrArg (fun v => ((resB X er)).on v w) hv38).mp h38
    clear hs hg
    obtain ⟨x, rfl, hx⟩ := h38
    have Hx := Lib.hid hx
    clear hx
    go_simp
    exact ⟨_, rfl, Grew.refl _, Hx.out⟩
  · intro a w ht hs hg -- 45
    have h38 := By.given_get hg 5 rfl rfl (by kernel_rfl)
    refine By.yes rfl ?_
    obtain ⟨v38, hv38⟩ : ∃ v, a.tmps.getD 38 undef = v := ⟨_, rfl⟩
    replace h38 := (congrArg (fun v => ((resB X er)).on v w) hv38).mp h38
    clear hs hg
    obtain ⟨x, rfl, hx⟩ := h38
    clear hx
    go_simp
    exact ⟨_, rfl, Grew.refl _, rfl⟩
  · intro a w ht hs hg -- 11
    have h44 := By.given_get hg 6 rfl rfl (by kernel_rfl)
    refine By.yes rfl ?_
    obtain ⟨v44, hv44⟩ : ∃ v, a.tmps.getD 44 undef = v := ⟨_, rfl⟩
    replace h44 := (congrArg (fun v => ((bsM X)).on v w) hv44).mp h44
    clear hs hg
    have Hx := Lib.hid h44
    clear h44
    go_simp
    exact ⟨_, rfl, Grew.refl _, Hx.out⟩
  · intro a w ht hs hg -- 12
    have h45 : a.tmps.getD 45 undef = _ := By.given_get hg 7 rfl rfl (by kernel_rfl)
    refine By.yes rfl ?_
    clear hs hg
    go_simp
    exact ⟨_, rfl, Grew.refl _, rfl⟩
  refine By.ends_is (By.ends_is (By.ends_skip fun v41 => (By.ends_is (By.ends_skip fun v43 => (By.ends_skip fun v38 => (By.ends_skip fun v44 => (By.ends_is (By.ends_any fun v11 => (By.ends_is (By.ends_nil fun wq hq => ?_))))))))))
  simp only [Act.put, List.setIfInBounds_toArray, List.set_cons_succ, List.set_cons_zero]
  obtain ⟨hq, hv11⟩ := hq
  have HX2 := Lib.hid (show Bs wq wq.heap.size v11 X from hv11)
  have HBq := Lib.hid (show Below w.heap.size w wq from nextB HB1.out (Nat.le_refl _) ⟨hq.os, hq.tape, hq.output, hq.size, hq.block⟩)
  have HRq := Lib.hid (Row.below (w := w1.drew) HR1.out hq HR1.out.lt)
  clear hv11 hq
  have HTq := Lib.hid (HT.out.below HBq.out HT.out.1)
  have HAq := Lib.hid ((Ha.out.below HBq.out).more HBq.out.size)
  have HCq := Lib.hid ((Hb.out.below HBq.out).more HBq.out.size)
  have HKq := Lib.hid ((Hkey.out.below HBq.out).more HBq.out.size)
  go_wp2_with (first
    | (refine wpList_loadRow (n := 32) (cs := k.map bv) rfl 23 (.tmp 8) rfl rfl HRq.out Tryd.underlying23 rfl (by kernel_rfl) H32m.out ?_)
    | fail)
  refine (HRE.out wq _ HTq.out HAq.out).mono ?_
  rintro e w3 ⟨v13, rfl, h13, hb3⟩
  have HB3 := Lib.hid (nextB HBq.out (Nat.le_refl _) hb3)
  have HV3 := Lib.hid h13
  have HU3 := Lib.hid ((HX2.out.below hb3).more hb3.size)
  clear h13 hb3
  have HT3 := Lib.hid (HT.out.below HB3.out HT.out.1)
  have HA3 := Lib.hid ((Ha.out.below HB3.out).more HB3.out.size)
  have HC3 := Lib.hid ((Hb.out.below HB3.out).more HB3.out.size)
  have HK3 := Lib.hid ((Hkey.out.below HB3.out).more HB3.out.size)
  obtain ⟨S, hS⟩ : ∃ S, Sha.sum (la ++ lb) = S := ⟨_, rfl⟩
  obtain ⟨M, hM⟩ : ∃ M, Sha.mac key (la ++ lb) = M := ⟨_, rfl⟩
  obtain ⟨E, hE⟩ : ∃ E, Sha.mac key la = E := ⟨_, rfl⟩
  obtain ⟨O, hO⟩ : ∃ O, Hk.outL E lb 32 = O := ⟨_, rfl⟩
  have hOl : O.length = 32 := by rw [← hO, ← Hk.outN_end E lb 32 1 (by omega) (by omega)]; exact Hk.outN_length _ _ _ _
  have heS := eqv32 S (by rw [← hS]; exact Sha.sum_length _)
  have heM := eqv32 M (by rw [← hM]; exact Sha.sum_length _)
  have heE := eqv32 E (by rw [← hE]; exact Sha.sum_length _)
  have heO := eqv32 O hOl
  have hsg := strg X
  have hsv := strv X
  have hgS := eqg32 S
  have hgM := eqg32 M
  have hgE := eqg32 E
  have hgO := eqg32 O
  have HS := Lib.hid hS
  have HM := Lib.hid hM
  have HEe := Lib.hid hE
  have HO := Lib.hid hO
  have HL2 := Lib.hid (show la.length ≤ 400 ∧ lb.length ≤ 400 from ⟨Hal.out, Hbl.out⟩)
  clear hS hM hE hO hOl
  go_wp2_with fail
  refine (SumTwo _ _ la lb w3 HT3.out HA3.out HC3.out HL2.out).mono ?_
  rw [HS.out]
  rintro e w4 ⟨rfl, hb4⟩
  have HB4 := Lib.hid (nextB HB3.out (Nat.le_refl _) hb4)
  have HV4 := Lib.hid ((HV3.out.below hb4).more hb4.size)
  have HU4 := Lib.hid ((HU3.out.below hb4).more hb4.size)
  clear hb4
  have HT4 := Lib.hid (HT.out.below HB4.out HT.out.1)
  have HA4 := Lib.hid ((Ha.out.below HB4.out).more HB4.out.size)
  have HC4 := Lib.hid ((Hb.out.below HB4.out).more HB4.out.size)
  have HK4 := Lib.hid ((Hkey.out.below HB4.out).more HB4.out.size)
  go_wp2_with fail
  refine (RSumTwo _ _ la lb w4 HT4.out HA4.out HC4.out HL2.out).mono ?_
  rw [HS.out]
  rintro e w5 ⟨rfl, hb5⟩
  have HB5 := Lib.hid (nextB HB4.out (Nat.le_refl _) hb5)
  have HV5 := Lib.hid ((HV4.out.below hb5).more hb5.size)
  have HU5 := Lib.hid ((HU4.out.below hb5).more hb5.size)
  clear hb5
  have HT5 := Lib.hid (HT.out.below HB5.out HT.out.1)
  have HA5 := Lib.hid ((Ha.out.below HB5.out).more HB5.out.size)
  have HC5 := Lib.hid ((Hb.out.below HB5.out).more HB5.out.size)
  have HK5 := Lib.hid ((Hkey.out.below HB5.out).more HB5.out.size)
  go_wp2_with fail
  refine (Own_any _ key w5 HK5.out (by have := Hkl.out; omega)).mono ?_
  rintro e w6 ⟨vo, rfl, ho, hb6⟩
  have HOw := Lib.hid ho.bs
  have HB6 := Lib.hid (nextB HB5.out (Nat.le_refl _) hb6)
  have HV6 := Lib.hid ((HV5.out.below hb6).more hb6.size)
  have HU6 := Lib.hid ((HU5.out.below hb6).more hb6.size)
  clear hb6 ho
  have HT6 := Lib.hid (HT.out.below HB6.out HT.out.1)
  have HA6 := Lib.hid ((Ha.out.below HB6.out).more HB6.out.size)
  have HC6 := Lib.hid ((Hb.out.below HB6.out).more HB6.out.size)
  have HK6 := Lib.hid ((Hkey.out.below HB6.out).more HB6.out.size)
  go_wp2_with fail
  refine (MacTwo _ _ _ key la lb w6 HT6.out HOw.out HA6.out HC6.out Hkl.out HL2.out).mono ?_
  rw [HM.out]
  rintro e w7 ⟨rfl, hb7⟩
  have HB7 := Lib.hid (nextB HB6.out (Nat.le_refl _) hb7)
  have HV7 := Lib.hid ((HV6.out.below hb7).more hb7.size)
  have HU7 := Lib.hid ((HU6.out.below hb7).more hb7.size)
  clear hb7
  have HT7 := Lib.hid (HT.out.below HB7.out HT.out.1)
  have HA7 := Lib.hid ((Ha.out.below HB7.out).more HB7.out.size)
  have HC7 := Lib.hid ((Hb.out.below HB7.out).more HB7.out.size)
  have HK7 := Lib.hid ((Hkey.out.below HB7.out).more HB7.out.size)
  go_wp2_with fail
  refine (RMacTwo _ _ _ key la lb w7 HT7.out HK7.out HA7.out HC7.out Hkl.out HL2.out).mono ?_
  rw [HM.out]
  rintro e w8 ⟨rfl, hb8⟩
  have HB8 := Lib.hid (nextB HB7.out (Nat.le_refl _) hb8)
  have HV8 := Lib.hid ((HV7.out.below hb8).more hb8.size)
  have HU8 := Lib.hid ((HU7.out.below hb8).more hb8.size)
  clear hb8
  have HT8 := Lib.hid (HT.out.below HB8.out HT.out.1)
  have HA8 := Lib.hid ((Ha.out.below HB8.out).more HB8.out.size)
  have HC8 := Lib.hid ((Hb.out.below HB8.out).more HB8.out.size)
  have HK8 := Lib.hid ((Hkey.out.below HB8.out).more HB8.out.size)
  go_wp2_with fail
  refine (Extract_any _ _ key la w8 HT8.out HK8.out (by have := Hkl.out; omega) HA8.out (by have := Hal.out; omega)).mono ?_
  rw [HEe.out]
  rintro e w9 ⟨rfl, hb9⟩
  have HB9 := Lib.hid (nextB HB8.out (Nat.le_refl _) hb9)
  have HV9 := Lib.hid ((HV8.out.below hb9).more hb9.size)
  have HU9 := Lib.hid ((HU8.out.below hb9).more hb9.size)
  clear hb9
  have HT9 := Lib.hid (HT.out.below HB9.out HT.out.1)
  have HA9 := Lib.hid ((Ha.out.below HB9.out).more HB9.out.size)
  have HC9 := Lib.hid ((Hb.out.below HB9.out).more HB9.out.size)
  have HK9 := Lib.hid ((Hkey.out.below HB9.out).more HB9.out.size)
  go_wp2_with fail
  refine (RExtract_any _ _ key la w9 HT9.out HK9.out (by have := Hkl.out; omega) HA9.out (by have := Hal.out; omega)).mono ?_
  rw [HEe.out]
  rintro e w10 ⟨rfl, hb10⟩
  have HB10 := Lib.hid (nextB HB9.out (Nat.le_refl _) hb10)
  have HV10 := Lib.hid ((HV9.out.below hb10).more hb10.size)
  have HU10 := Lib.hid ((HU9.out.below hb10).more hb10.size)
  clear hb10
  have HT10 := Lib.hid (HT.out.below HB10.out HT.out.1)
  have HA10 := Lib.hid ((Ha.out.below HB10.out).more HB10.out.size)
  have HC10 := Lib.hid ((Hb.out.below HB10.out).more HB10.out.size)
  have HK10 := Lib.hid ((Hkey.out.below HB10.out).more HB10.out.size)
  have hr1 := run_str w10 HU10.out
  have hr2 := run_str w10 HV10.out
  go_wp2_with fail
  refine (Key_any _ _ _ key la lb w10 HT10.out HK10.out (by have := Hkl.out; omega) HA10.out (by have := Hal.out; omega) HC10.out (by have := Hbl.out; omega)).mono ?_
  rw [HEe.out, HO.out]
  rintro e w11 ⟨rfl, hb11⟩
  have HB11 := Lib.hid (nextB HB10.out (Nat.le_refl _) hb11)
  have HV11 := Lib.hid ((HV10.out.below hb11).more hb11.size)
  have HU11 := Lib.hid ((HU10.out.below hb11).more hb11.size)
  clear hb11
  have HT11 := Lib.hid (HT.out.below HB11.out HT.out.1)
  have HA11 := Lib.hid ((Ha.out.below HB11.out).more HB11.out.size)
  have HC11 := Lib.hid ((Hb.out.below HB11.out).more HB11.out.size)
  have HK11 := Lib.hid ((Hkey.out.below HB11.out).more HB11.out.size)
  go_wp2_with fail
  refine (RKey_any _ _ _ key la lb w11 HT11.out HK11.out (by have := Hkl.out; omega) HA11.out (by have := Hal.out; omega) HC11.out (by have := Hbl.out; omega)).mono ?_
  rw [HEe.out, HO.out]
  rintro e w12 ⟨rfl, hb12⟩
  have HB12 := Lib.hid (nextB HB11.out (Nat.le_refl _) hb12)
  have HV12 := Lib.hid ((HV11.out.below hb12).more hb12.size)
  have HU12 := Lib.hid ((HU11.out.below hb12).more hb12.size)
  clear hb12
  have HT12 := Lib.hid (HT.out.below HB12.out HT.out.1)
  have HA12 := Lib.hid ((Ha.out.below HB12.out).more HB12.out.size)
  have HC12 := Lib.hid ((Hb.out.below HB12.out).more HB12.out.size)
  have HK12 := Lib.hid ((Hkey.out.below HB12.out).more HB12.out.size)
  go_wp2
  go_ret
  exact ⟨rfl, HB12.out⟩

set_option maxRecDepth 100000 in
theorem lift (os : Os) (started : os.Started) (H : Type) (enc : TypeId × Value → H) :
    ReturnsInHanded {} Tryd.checked os 3 .any (fun w args => (Rows.hkdfSumsSpec.pre enc Tryd.prog Tryd.f3 Rows.hkdfSumsRow.domain false w args ∧ laidMetH Tryd.prog Hk.laidL w) ∧ sizedMet enc Tryd.prog Tryd.f3 (OpenSpec.ofChange Rows.hkdfSumsSpec) false w args) (Rows.hkdfSumsSpec.post enc Tryd.prog Tryd.f3 false true false false) := by
  refine Hk.lifted 4 Pol.own started (by kernel_rfl) Tryd.func3 Pol.laid (by kernel_rfl) rfl Tryd.underlying4 rfl
    (fun ds hd => by
      have hd' : ds.length = 5 := hd
      match ds, hd' with
      | [d0, d1, d2, d3, d4], _ => rfl)
    (ChangeSpec.witness_at (enc := enc) (C := Tryd.checked) (os := os) (X := fun w _ => laidMetH Tryd.prog Hk.laidL w) false (Hk.laidWorld os) #[.slice none 0 0, .slice none 0 0, .slice none 0 0, .agg #[.int .u8 0, .int .u8 0, .int .u8 0, .int .u8 0, .int .u8 0, .int .u8 0, .int .u8 0, .int .u8 0, .int .u8 0, .int .u8 0, .int .u8 0, .int .u8 0, .int .u8 0, .int .u8 0, .int .u8 0, .int .u8 0, .int .u8 0, .int .u8 0, .int .u8 0, .int .u8 0, .int .u8 0, .int .u8 0, .int .u8 0, .int .u8 0, .int .u8 0, .int .u8 0, .int .u8 0, .int .u8 0, .int .u8 0, .int .u8 0, .int .u8 0, .int .u8 0], .int .i64 0] 8 rfl (by kernel_rfl) (by kernel_rfl) (by kernel_rfl) (by kernel_rfl) (by kernel_rfl) (Hk.laid_metH os _)) ?_
  intro W args ds ps hst htab
  have hA : DataW.TrodAll enc Tryd.prog W 0 (fun _ => true) true Tryd.f3.params.toList args.toList ds ps := hst.trod
  have hok := hst.okw
  have hlt := hst.lt
  rw [Tryd.params3] at hA hok
  obtain ⟨v0, r0, d0, e0, p0, q0, hargs, rfl, rfl, h0, hA⟩ := trodAll_cons hA
  obtain ⟨v1, r1, d1, e1, p1, q1, rfl, rfl, rfl, h1, hA⟩ := trodAll_cons hA
  obtain ⟨v2, r2, d2, e2, p2, q2, rfl, rfl, rfl, h2, hA⟩ := trodAll_cons hA
  obtain ⟨v3, r3, d3, e3, p3, q3, rfl, rfl, rfl, h3, hA⟩ := trodAll_cons hA
  obtain ⟨v4, r4, d4, e4, p4, q4, rfl, rfl, rfl, h4, hA⟩ := trodAll_cons hA
  obtain ⟨rfl, rfl, rfl⟩ := trodAll_nil hA
  obtain rfl : args = #[v0, v1, v2, v3, v4] := by cases args; simp_all
  obtain ⟨_, hv0⟩ := hok 0 22 v0 rfl rfl
  obtain ⟨_, hv1⟩ := hok 1 22 v1 rfl rfl
  obtain ⟨_, hv2⟩ := hok 2 22 v2 rfl rfl
  obtain ⟨_, hv3⟩ := hok 3 23 v3 rfl rfl
  obtain ⟨_, hv4⟩ := hok 4 3 v4 rfl rfl
  obtain ⟨la, ha, _⟩ := Law.bytes_at Tryd.underlying22 hv0 h0 (fun x hx => hlt x (by simp [hx]))
  obtain ⟨lb, hb, _⟩ := Law.bytes_at Tryd.underlying22 hv1 h1 (fun x hx => hlt x (by simp [hx]))
  obtain ⟨key, hk, _⟩ := Law.bytes_at Tryd.underlying22 hv2 h2 (fun x hx => hlt x (by simp [hx]))
  obtain ⟨k, rfl, h32⟩ := arr8_at (P := Tryd.prog) Tryd.underlying23 (by kernel_rfl) (by kernel_rfl) Tryd.underlying5 hv3
  obtain ⟨z, rfl, hz1, hz2⟩ := Law.int_at Tryd.underlying3 hv4 h4
  obtain ⟨A1, c1, rfl, _, _⟩ := id ha
  obtain ⟨A2, c2, rfl, _, _⟩ := id hb
  obtain ⟨A3, c3, rfl, _, _⟩ := id hk
  by_cases g1 : (400 : Int) < (la.length : Int)
  · exact longA k A1 A2 A3 _ _ _ c1 c2 c3 z g1 W htab
  by_cases g2 : (400 : Int) < (lb.length : Int)
  · exact longB k A1 A2 A3 _ _ _ c1 c2 c3 z g1 g2 W htab
  by_cases g3 : (400 : Int) < (key.length : Int)
  · exact longC k A1 A2 A3 _ _ _ c1 c2 c3 z g1 g2 g3 W htab
  by_cases g4 : (400 : Int) < z
  · by_cases g5 : z ≤ 8160
    · exact longD k A1 A2 A3 _ _ _ c1 c2 c3 z g1 g2 g3 g4 g5 W htab
    · refine mainB la lb key k [] 3 A1 A2 A3 c1 c2 c3 z g4 g5 (by omega) (by omega) (by omega) h32 W htab ha hb hk (fun V u _ hu => ?_) (fun V u _ hu => ?_)
      · obtain ⟨A, c, rfl, _, _⟩ := hu
        exact (Expand_long k A _ c z (by omega) V).mono fun e w' ⟨h1, h2⟩ => ⟨_, h1, Bs.nil _ _ _ _, h2⟩
      · obtain ⟨A, c, rfl, _, _⟩ := hu
        exact (RExpand_long k A _ c z (by omega) V).mono fun e w' ⟨h1, h2⟩ => ⟨_, h1, Bs.nil _ _ _ _, h2⟩
  · obtain ⟨n, hn, hn2⟩ : ∃ n : Nat, ((z ≤ 0 ∧ n = 0) ∨ z = (n : Int)) ∧ n ≤ 8160 := ⟨z.toNat, by omega, by omega⟩
    refine mainA la lb key k (Hk.outL k la n) 0 A1 A2 A3 c1 c2 c3 z g4 (by omega) (by omega) (by omega) h32 W htab ha hb hk (fun V u ht hu => ?_) (fun V u ht hu => ?_)
    · refine (Expand_ok u k la z n hn hn2 h32 V ht hu (by omega)).mono ?_
      rintro e w' ⟨g, rfl, _, hr, hb⟩
      have hl : (Hk.outL k la n).length = n := by unfold Hk.outL; rw [List.length_take, Hk.catN_length]; omega
      have h := hr.bs (B := w'.heap.size) hr.lt
      rw [hl] at h
      exact ⟨_, rfl, h, hb⟩
    · exact RExpand_ok u k la z n hn hn2 h32 V ht hu (by omega)

theorem over : Rows.hkdfSumsRow.holds Tryd.pinned (OpenSpec.ofChange Rows.hkdfSumsSpec) :=
  OpenClaim.holds_of_wide 3 Tryd.f3 rfl rfl rfl rfl rfl rfl rfl ⟨rfl, rfl, rfl, rfl, rfl⟩ rfl rfl rfl rfl rfl (by kernel_rfl) Tryd.func3 (by kernel_rfl)
    (of_decide_eq_true (by kernel_rfl)) (by unfold Func.isWrapper; first | (rw [if_pos (by decide +kernel)]; kernel_rfl) | (rw [if_neg (by decide +kernel)]; exact ⟨rfl, rfl⟩))
    (fun os started H enc _ => lift os started H enc)
theorem proved : Rows.HkdfSumsCardSaid :=
  Claim7.holds_tied_plain_at .later [] [.data] true Rows.hkdfSumsCard.stood.harness false over (fun _ h => by cases h) (by kernel_rfl) (fun _ h => by cases h) hkdfSums_row_tie rfl ⟨rfl, rfl⟩ (by kernel_rfl) rfl
    (fun f fn hf hfn => by
      obtain rfl : f = 3 := (Option.some.inj ((show Tryd.prog.funcNamed Rows.hkdfSumsRow.func = some 3 by kernel_rfl).symm.trans hf)).symm
      obtain rfl : fn = Tryd.f3 := (Option.some.inj (Tryd.func3.symm.trans hfn)).symm
      refine ⟨by kernel_rfl, fun j t ht => ?_⟩
      have hall : (Tryd.f3.params.toList.all fun t => Tryd.prog.wantsStandIn t == false) = true := by kernel_rfl
      have h := List.all_eq_true.1 hall t (Array.mem_toList_iff.2 (Array.mem_of_getElem? ht))
      exact eq_of_beq h)
    (by kernel_rfl)
#print axioms proved
end Go.Proofs.YtpllbnioncjhaaaDoor.hkdfSums

