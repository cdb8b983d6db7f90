/- The reference's Tag, for any key and at most 650 bytes. -/
import Derived.Test.YtpllbnioncjhaaaPolMath
import Derived.Test.YtpllbnioncjhaaaPolRReduce
namespace Go.Proofs.Ytpllbnioncjhaaa.PRef
open Go.RowKit
/-- A block's number: its bytes and a 1 behind them. -/
def blk (l : List UInt8) (i : Nat) : Nat := Poly.le ((l.drop i).take 16) + 256 ^ ((l.drop i).take 16).length
/-- The sum after m blocks. -/
def tv (r : Nat) (l : List UInt8) : Nat → Nat
  | 0 => 0
  | m + 1 => (tv r l m + blk l (16 * m)) * r % 1361129467683753853853498429727072845819
theorem tv_lt (r : Nat) (l : List UInt8) : ∀ m, tv r l m < 1361129467683753853853498429727072845819
  | 0 => Nat.zero_lt_succ _
  | m + 1 => Nat.mod_lt _ (by decide)
theorem blk_full {l : List UInt8} {m : Nat} (h : 16 * m + 16 ≤ l.length) : blk l (16 * m) = Pol.blockAt l m := by
  unfold blk Pol.blockAt
  rw [show ((l.drop (16 * m)).take 16).length = 16 by rw [List.length_take, List.length_drop]; omega]
theorem tv_full (r : Nat) (l : List UInt8) : ∀ m, 16 * m ≤ l.length → tv r l m = Pol.hashN r l m
  | 0, _ => rfl
  | m + 1, h => by
    simp only [tv, Pol.hashN]
    rw [tv_full r l m (by omega), blk_full (by omega)]
    rfl
theorem tv_is (r : Poly.L) (l : List UInt8) : tv (Poly.val r) l ((l.length + 15) / 16) = Pol.hashL r l := by
  by_cases h : l.length % 16 = 0
  · rw [Pol.hash_full r h, show (l.length + 15) / 16 = l.length / 16 by omega]
    exact tv_full _ _ _ (by omega)
  · rw [show (l.length + 15) / 16 = l.length / 16 + 1 by omega]
    unfold Pol.hashL Pol.finL
    rw [if_pos (by omega), Poly.next_mod]
    simp only [tv]
    rw [tv_full _ _ _ (by omega), show blk l (16 * (l.length / 16)) = Poly.le (l.drop (16 * (l.length / 16))) + 256 ^ (l.length % 16) by
      unfold blk
      rw [List.take_of_length_le (by rw [List.length_drop]; omega), List.length_drop, show l.length - 16 * (l.length / 16) = l.length % 16 by omega]]
    unfold Pol.sumL
    show _ % Poly.P = _
    rw [Nat.mul_mod, Nat.add_mod, ← Pol.sumN_mod r l]
    conv => rhs; rw [Nat.mul_mod, Nat.add_mod]
    rw [Nat.mod_mod]
set_option maxRecDepth 100000 in
theorem RClamp_ev : ∀ key : List Int, key.length = 32 → Ev.ans Try.prog 1000 16 #[.agg (key.map PolyI.u8).toArray] [] = some (.agg ((PolyI.rclamp key).map PolyI.u8).toArray)
  | [_, _, _, _, _, _, _, _, _, _, _, _, _, _, _, _, _, _, _, _, _, _, _, _, _, _, _, _, _, _, _, _], _ => by kernel_rfl
theorem r15_all : ∀ n : Nat, n < 256 → PolyI.rclamp.r15 (n : Int) = (((UInt8.ofNat n) &&& 15).toNat : Int) := by decide +kernel
theorem r252_all : ∀ n : Nat, n < 256 → PolyI.rclamp.r252 (n : Int) = (((UInt8.ofNat n) &&& 252).toNat : Int) := by decide +kernel
theorem r15_is (a : UInt8) : PolyI.rclamp.r15 (a.toNat : Int) = ((a &&& 15).toNat : Int) := by
  have h := r15_all a.toNat a.toNat_lt
  rwa [UInt8.ofNat_toNat] at h
theorem r252_is (a : UInt8) : PolyI.rclamp.r252 (a.toNat : Int) = ((a &&& 252).toNat : Int) := by
  have h := r252_all a.toNat a.toNat_lt
  rwa [UInt8.ofNat_toNat] at h
theorem rclamp_is : ∀ key : List UInt8, key.length = 32 → PolyI.rclamp (PolyI.nums key) = PolyI.nums (Pol.clampB key)
  | [_, _, _, _, _, _, _, _, _, _, _, _, _, _, _, _, _, _, _, _, _, _, _, _, _, _, _, _, _, _, _, _], _ => by
    simp only [PolyI.nums, List.map_cons, List.map_nil, PolyI.rclamp, Pol.clampB, r15_is, r252_is]
theorem RClamp_any {key : List UInt8} (h : key.length = 32) (w : World) : Calls Try.prog 16 #[arr8 key] w fun e w1 => e = .returned (arr8 (Pol.clampB key)) ∧ Below w.heap.size w w1 := by
  have hev := RClamp_ev (PolyI.nums key) (by simp [PolyI.nums, h])
  rw [show (PolyI.nums key).map PolyI.u8 = key.map bv from Pol.cells_nums key, rclamp_is key h, show (PolyI.nums (Pol.clampB key)).map PolyI.u8 = (Pol.clampB key).map bv from Pol.cells_nums _] at hev
  exact Ev.calls_ans (l := []) Pol.mixed (by decide) (by simp) (by simp) (Pol.flat_args (Pol.one_flat key)) hev (Pol.flat2_bv _)
theorem tag_is {key : List UInt8} (h : key.length = 32) (l : List UInt8) : Poly.bytes16 (tv (Poly.le (Pol.clampB key)) l ((l.length + 15) / 16) + Poly.le (key.drop 16)) = Pol.tagK key l := by
  rw [Pol.tagK_is h, ← tv_is]
  unfold Pol.rOf
  rw [Poly.limbs_val]
/-- The low sixteen digits, byte by byte. -/
def outB (n : List Nat) (i : Nat) : List UInt8 := (List.range 16).map fun j => if j < i then UInt8.ofNat (n.getD j 0) else 0
theorem outB_zero (n : List Nat) : outB n 0 = List.replicate 16 0 := by
  unfold outB
  simp
  rfl
theorem outB_length (n : List Nat) (i : Nat) : (outB n i).length = 16 := by simp [outB]
theorem outB_set (n : List Nat) (i x : Nat) (hi : i < 16) (hx : n[i]? = some x) : (outB n i).set i (UInt8.ofNat x) = outB n (i + 1) := by
  apply List.ext_getElem?
  intro j
  rw [List.getElem?_set]
  unfold outB
  simp only [List.length_map, List.length_range, List.getElem?_map]
  by_cases hj : i = j
  · subst hj
    rw [if_pos rfl, if_pos hi, List.getElem?_range hi]
    simp [List.getD_eq_getElem?_getD, hx]
  · rw [if_neg hj]
    by_cases hj2 : j < 16
    · rw [List.getElem?_range hj2]
      simp only [Option.map_some]
      congr 1
      by_cases h3 : j < i
      · rw [if_pos h3, if_pos (by omega)]
      · rw [if_neg h3, if_neg (by omega)]
    · rw [List.getElem?_eq_none (by simp; omega)]
      simp
theorem val_digit : ∀ (n : List Nat) (j : Nat), (∀ x ∈ n, x < 256) → val n / 256 ^ j % 256 = n.getD j 0
  | [], j, _ => by simp [val]
  | x :: n, 0, h => by
    have := h x (by simp)
    simp only [val, Nat.pow_zero, Nat.div_one, List.getD_cons_zero]
    omega
  | x :: n, j + 1, h => by
    have hx := h x (by simp)
    rw [List.getD_cons_succ, ← val_digit n j (fun y hy => h y (by simp [hy])), Nat.pow_succ, Nat.mul_comm, ← Nat.div_div_eq_div_mul]
    simp only [val]
    congr 2
    omega
theorem out_all {n : List Nat} {i : Nat} (h : ∀ x ∈ n, x < 256) (hi : i = 16 ∨ n.length ≤ i) : outB n i = Poly.bytes16 (val n) := by
  unfold outB Poly.bytes16
  apply List.map_congr_left
  intro j hj
  have hj16 : j < 16 := List.mem_range.1 hj
  have h1 : UInt8.ofNat (val n / 256 ^ j) = UInt8.ofNat (n.getD j 0) := by
    rw [← val_digit n j h]
    apply UInt8.toNat_inj.1
    simp
  rw [h1]
  by_cases hji : j < i
  · rw [if_pos hji]
  · rw [if_neg hji]
    have : n.getD j 0 = 0 := by
      rw [List.getD_eq_getElem?_getD, List.getElem?_eq_none (by omega)]
      rfl
    rw [this]
    rfl
end Go.Proofs.Ytpllbnioncjhaaa.PRef
namespace Go.Proofs.Ytpllbnioncjhaaa.PRef
open Go.ChangeShapes Go.WideShapes Go.ChangeAt Go.RowKit
theorem val_block (l : List UInt8) (i : Nat) : val (nums ((l.drop i).take 16) ++ [1]) = blk l i := by
  rw [val_snoc, val_nums, Nat.mul_one]
  unfold nums blk
  rw [List.length_map]
theorem nums_lt (l : List UInt8) : ∀ x ∈ nums l, x < 256 := by
  intro x hx
  obtain ⟨u, _, rfl⟩ := List.mem_map.1 hx
  exact u.toNat_lt
theorem nums_one_lt (l : List UInt8) : ∀ x ∈ nums l ++ [1], x < 256 := by
  intro x hx
  rcases List.mem_append.1 hx with h | h
  · exact nums_lt l x h
  · simp at h
    omega
theorem nums_length (l : List UInt8) : (nums l).length = l.length := List.length_map ..
theorem bs_sub {w : World} {B b off n cc : Nat} {l : List UInt8} (h : ∀ (i : Nat) (u : UInt8), l[i]? = some u → w.cell? ⟨b, off + i, none⟩ = some (bv u)) (hb : b < B) {j : Nat} (hn : ((l.drop j).take 16).length = n) (hc : n ≤ cc) :
    Bs w B (.slice (some ⟨b, off + j, none⟩) n cc) ((l.drop j).take 16) := by
  refine ⟨_, cc, by rw [hn], by omega, fun _ => ⟨b, off + j, rfl, hb, fun i u hu => ?_⟩⟩
  rw [Nat.add_assoc]
  refine h _ _ ?_
  rw [List.getElem?_take] at hu
  split at hu
  · rwa [List.getElem?_drop] at hu
  · cases hu
/-- Numbers of which this is known. -/
def numM (P : List Nat → Prop) : By.Mark Grew := ⟨fun v w => ∃ l, P l ∧ Is w w.heap.size v l, fun _ _ _ ⟨l, h1, h2⟩ k => ⟨l, h1, (h2.below k).more k.size⟩⟩
theorem mixed : Try.prog.follows .mixedOrders = true := by kernel_rfl
set_option maxRecDepth 100000 in
set_option maxHeartbeats 2000000 in
theorem RTag_walk (key R : List UInt8) (hk : key.length = 32) (hR : R.length = 16) (hc : ∀ W : World, Calls Try.prog 16 #[arr8 key] W fun e w' => e = .returned (arr8 R) ∧ Below W.heap.size W w') (w : World) {v : Value} {l : List UInt8} (hb : Bs w w.heap.size v l) (hl : l.length ≤ 650) :
    Calls Try.prog 14 #[arr8 key, v] w fun e w' => e = .returned (arr8 (Poly.bytes16 (tv (Poly.le R) l ((l.length + 15) / 16) + Poly.le (key.drop 16)))) ∧ Below w.heap.size w w' := by
  obtain ⟨A, c, rfl, hlc, hcs⟩ := id hb
  have HB0 := Lib.hid hb
  have Hl := Lib.hid hl
  have HC := Lib.hid hc
  have Hk0 := Lib.hid hk
  have HR0 := Lib.hid hR
  have Hkl := Lib.hid (show (key.map bv).length = 32 by rw [List.length_map]; exact hk)
  have HRl := Lib.hid (show (R.map bv).length = 16 by rw [List.length_map]; exact hR)
  clear hb hl hc hcs hk hR
  unfold arr8
  go_enter Try.func14, Try.ntmps14
  go_wp2_with (first
    | (refine wpList_loadRow (n := 32) (cs := key.map bv) rfl 24 (.tmp 2) rfl rfl (g := w.heap.size) (t := 24) ((Row.new rfl rfl).alloc _) Try.underlying24 rfl (by kernel_rfl) Hkl.out ?_
       obtain ⟨w1, hw1⟩ : ∃ w1, (w.alloc (.cells (key.map bv).toArray 24)).alloc (.cells ((List.replicate 16 (0 : UInt8)).map bv).toArray 35) = w1 := ⟨_, rfl⟩
       have HK1 := Lib.hid (show Row w1 w.heap.size (key.map bv) 24 from hw1 ▸ (Row.new rfl rfl).alloc _)
       have HB1 := Lib.hid (show Below w.heap.size w w1 from hw1 ▸ ((Below.refl _ w).alloc (Nat.le_refl _) _).alloc (by simp) _)
       have HO1 := Lib.hid (show Row w1 (w.heap.size + 1) ((List.replicate 16 (0 : UInt8)).map bv) 35 from hw1 ▸ Row.new (by simp) rfl)
       refine wpList_world hw1 ?_
       clear hw1)
    | fail)
  refine (HC.out w1).mono ?_
  rintro e w2 ⟨rfl, hb2⟩
  have HB2 := Lib.hid (nextB HB1.out (Nat.le_refl _) hb2)
  have HK2 := Lib.hid (HK1.out.below hb2 HK1.out.lt)
  have HO2 := Lib.hid (HO1.out.below hb2 HO1.out.lt)
  clear hb2
  unfold arr8
  go_wp2_with (first
    | (try simp only [Act.put, List.setIfInBounds_toArray, List.set_cons_succ, List.set_cons_zero]
       refine wpList_storeRow (n := 16) rfl 35 (.tmp 5) (.tmp 12) rfl rfl rfl (cs := R.map bv) (old := (List.replicate 16 (0 : UInt8)).map bv) (g := w2.heap.size) (t := 35) ?_ (by kernel_rfl) HRl.out (by simp) (Pol.bytes1 _) ?_
       · exact Row.new rfl rfl
       obtain ⟨w3, hw3⟩ : ∃ w3, (w2.alloc (.cells ((List.replicate 16 (0 : UInt8)).map bv).toArray 35)).setRow w2.heap.size (R.map bv).toArray = w3 := ⟨_, rfl⟩
       have HR3 := Lib.hid (show Row w3 w2.heap.size (R.map bv) 35 from hw3 ▸ (Row.new (cs := (List.replicate 16 (0 : UInt8)).map bv) rfl rfl).setRow _)
       have hb23 : Below w2.heap.size w2 w3 := hw3 ▸ below_setRow ((Below.refl _ w2).alloc (Nat.le_refl _) _) (Nat.le_refl _) _
       have HB3 := Lib.hid (nextB HB2.out (Nat.le_refl _) hb23)
       have HK3 := Lib.hid (HK2.out.below hb23 HK2.out.lt)
       have HO3 := Lib.hid (HO2.out.below hb23 HO2.out.lt)
       refine wpList_world hw3 ?_
       clear hw3 hb23)
    | fail)
  obtain ⟨gR, hgR⟩ : ∃ g, w2.heap.size = g := ⟨_, rfl⟩
  rw [hgR] at HR3 ⊢
  clear hgR
  go_loopw [6, 7] (fun vn vi wr => ∃ (m j : Nat) (n : List Nat), j = 16 * m ∧ vi = .int .i64 (j : Int) ∧ m ≤ (l.length + 15) / 16 ∧ Is wr wr.heap.size vn n ∧ (∀ x ∈ n, x < 256) ∧ n.length ≤ 20 + 19 * m ∧ val n = tv (Poly.le R) l m ∧ Row wr gR (R.map bv) 35 ∧ Row wr w.heap.size (key.map bv) 24 ∧ Row wr (w.heap.size + 1) ((List.replicate 16 (0 : UInt8)).map bv) 35 ∧ Below w.heap.size w wr) (fun _ vi _ => l.length + 20 - (intOf vi).toNat)
  case atStart => exact ⟨0, 0, [], rfl, rfl, Nat.zero_le _, Is.nil _ _ _ _, by simp, by simp, rfl, HR3.out, HK3.out, HO3.out, HB3.out⟩
  case round =>
    obtain ⟨m, j, n, hj, rfl, hm, hn, hx, hlen, hv, hr, hk, ho, hb⟩ := hrel
    obtain ⟨An, cn, rfl⟩ := hn.shape
    have Hj := Lib.hid hj
    have Hm := Lib.hid hm
    have HN := Lib.hid hn
    have HX := Lib.hid hx
    have Hlen := Lib.hid hlen
    have Hv := Lib.hid hv
    have HR := Lib.hid hr
    have HK := Lib.hid hk
    have HO := Lib.hid ho
    have HB := Lib.hid hb
    have hjb : (j : Int) ≤ 670 := by have := Hl.out; omega
    clear hj hm hn hx hlen hv hr hk hb ho
    by_cases h1 : j < l.length
    · have h1' : (j : Int) < (l.length : Int) := by omega
      obtain ⟨A2, c2, hA, hlc2, hcs⟩ := HB0.out
      simp only [Value.slice.injEq] at hA
      obtain ⟨rfl, _, rfl⟩ := hA
      obtain ⟨b, off, rfl, hlt, hcell⟩ := hcs (by rintro rfl; simp at h1)
      have Hcs := Lib.hid (show ∀ (i : Nat) (u : UInt8), l[i]? = some u → wr.cell? ⟨b, off + i, none⟩ = some (bv u) from fun i u hu => (HB.out.cell (p := ⟨b, off + i, none⟩) hlt).trans (hcell i u hu))
      have Hlt := Lib.hid (Nat.lt_of_lt_of_le hlt HB.out.size)
      have Hlc := Lib.hid hlc2
      obtain ⟨k, hk⟩ : ∃ k, ((l.drop j).take 16).length = k := ⟨_, rfl⟩
      have hkl := hk
      rw [List.length_take, List.length_drop] at hkl
      have hk16 : k ≤ 16 := by omega
      have Hk := Lib.hid hk
      have Hkl2 := Lib.hid hkl
      clear hcs hcell hlt hk hkl
      by_cases h16 : ¬ l.length ≤ j + 16
      · have h16' : ¬ (l.length : Int) ≤ (j : Int) + 16 := by omega
        have hbs := bs_sub (cc := c - j) Hcs.out Hlt.out Hk.out (by have := Hkl2.out; have := Hlc.out; omega)
        have Hbs := Lib.hid (show Bs wr wr.heap.size (.slice (some ⟨b, off + j, none⟩) 16 (c - j)) ((l.drop j).take 16) by
          obtain rfl : k = 16 := by have := Hkl2.out; omega
          exact hbs)
        clear hbs
        go_wp2_with fail
        refine (numbers_any wr Hbs.out (Nat.le_refl _) (by rw [Hk.out]; omega)).mono ?_
        rintro e w4 ⟨v4, rfl, ho4, hb4⟩
        obtain ⟨A4, c4, rfl⟩ := ho4.is.shape
        have HO4 := Lib.hid ho4
        have Hb4 := Lib.hid hb4
        clear ho4 hb4
        go_wp2_with (first
          | (at_builtin
             refine wpList_app_int _ rfl _ _ rfl rfl HO4.out rfl rfl rfl (y := 1) rfl (by rw [nums_length, Hk.out]; omega) Hb4.out.size ?_
             intro v5 w5 ho5 _ hb5 _
             refine stop ?_)
          | fail)
        unfold Stop
        have hb5' : Below wr.heap.size wr w5 := Hb4.out.trans hb5
        obtain ⟨q, hq⟩ : ∃ q, nums ((l.drop j).take 16) ++ [1] = q := ⟨_, rfl⟩
        rw [hq] at ho5
        have Hq1 := Lib.hid (show val q = blk l j by rw [← hq]; exact val_block l j)
        have Hq2 := Lib.hid (show ∀ x ∈ q, x < 256 by rw [← hq]; exact nums_one_lt _)
        have Hq3 := Lib.hid (show q.length ≤ 17 by rw [← hq, List.length_append, nums_length, Hk.out, List.length_singleton]; omega)
        obtain ⟨A5, c5, rfl⟩ := ho5.is.shape
        have HI5 := Lib.hid ho5.is
        have HB5 := Lib.hid (nextB HB.out (Nat.le_refl _) hb5')
        have HN5 := Lib.hid ((HN.out.below hb5').more hb5'.size)
        have HR5 := Lib.hid (HR.out.below hb5' HR.out.lt)
        have HK5 := Lib.hid (HK.out.below hb5' HK.out.lt)
        have HOo5 := Lib.hid (HO.out.below hb5' HO.out.lt)
        have HRb5 := Lib.hid (show Bs w5 w5.heap.size (.slice (some ⟨gR, 0, none⟩) 16 16) R from by
          have h := HR5.out.bs HR5.out.lt
          rwa [HR0.out] at h)
        clear ho5 hb5 hb5' hq
        go_wp2_with fail
        refine By.marks mixed Grew [By.is (.slice An n.length cn),
          By.is (.slice A5 q.length c5),
          numM (fun z => val z = val n + blk l j ∧ (∀ x ∈ z, x < 256) ∧ z.length ≤ max n.length 17 + 2),
          By.is (.slice (some ⟨gR, 0, none⟩) 16 16),
          numM (fun z => z = nums R),
          numM (fun z => val z = (val n + blk l j) * Poly.le R ∧ (∀ x ∈ z, x < 256) ∧ z.length ≤ max n.length 17 + 2 + 16 + 1),
          numM (fun z => val z = (val n + blk l j) * Poly.le R % 1361129467683753853853498429727072845819 ∧ (∀ x ∈ z, x < 256) ∧ z.length ≤ 20 + 19 * (m + 1)),
          numM (fun z => val z = (val n + blk l j) * Poly.le R % 1361129467683753853853498429727072845819 ∧ (∀ x ∈ z, x < 256) ∧ z.length ≤ 20 + 19 * (m + 1))]
          (Ev.masks _ []) (by kernel_rfl) rfl Grew.refl Grew.trans ⟨?_, ?_, ?_, ?_, ?_, ?_, ?_, ?_, trivial⟩ ?_
        · intro a w ht hs hg -- 30
          have h6 := By.same_get hs 6 (by decide) (by kernel_rfl)
          refine By.yes rfl ?_
          clear hs hg
          go_simp
          exact ⟨_, rfl, Grew.refl _, rfl⟩
        · intro a w ht hs hg -- 31
          have h8 := By.same_get hs 8 (by decide) (by kernel_rfl)
          refine By.yes rfl ?_
          clear hs hg
          go_simp
          exact ⟨_, rfl, Grew.refl _, rfl⟩
        · intro a w ht hs hg -- 32
          have h30 : a.tmps.getD 30 undef = _ := By.given_get hg 0 rfl rfl (by kernel_rfl)
          have h31 : a.tmps.getD 31 undef = _ := By.given_get hg 1 rfl rfl (by kernel_rfl)
          refine By.yes rfl ?_
          clear hs hg
          have hn := Lib.hid ((Is.below (w := w5.drew) HN5.out ht).more ht.size)
          have hi := Lib.hid ((Is.below (w := w5.drew) HI5.out ht).more ht.size)
          go_simp
          refine (add_any w hn.out hi.out (Nat.le_refl _) (by have := Hlen.out; have := Hm.out; have := Hl.out; omega) (by have := Hq3.out; omega) (fun x hx => by have := HX.out x hx; omega) (fun x hx => by have := Hq2.out x hx; omega)).mono ?_
          rintro e w' ⟨v', rfl, l', ho, hv', hx', hl', hb'⟩
          exact ⟨_, rfl, hb', l', ⟨by rw [hv', Hq1.out], hx', sum_len hl' (val_lt HX.out) (val_lt Hq2.out) (by omega) (by have := Hq3.out; omega)⟩, ho.is⟩
        · intro a w ht hs hg -- 33
          have h5 := By.same_get hs 5 (by decide) (by kernel_rfl)
          refine By.yes rfl ?_
          clear hs hg
          go_simp
          exact ⟨_, rfl, Grew.refl _, rfl⟩
        · intro a w ht hs hg -- 34
          have h33 : a.tmps.getD 33 undef = _ := By.given_get hg 3 rfl rfl (by kernel_rfl)
          refine By.yes rfl ?_
          clear hs hg
          have hr := Lib.hid ((Bs.below (w := w5.drew) HRb5.out ht).more ht.size)
          go_simp
          refine (numbers_any w hr.out (Nat.le_refl _) (by rw [HR0.out]; decide)).mono ?_
          rintro e w' ⟨v', rfl, ho, hb'⟩
          exact ⟨_, rfl, hb', _, rfl, ho.is⟩
        · intro a w ht hs hg -- 35
          have h32 := By.given_get hg 2 rfl rfl (by kernel_rfl)
          have h34 := By.given_get hg 4 rfl rfl (by kernel_rfl)
          refine By.yes rfl ?_
          obtain ⟨v32, hv32⟩ : ∃ v, a.tmps.getD 32 undef = v := ⟨_, rfl⟩
          replace h32 := (congrArg (fun v => ((numM (fun z => val z = val n + blk l j ∧ (∀ x ∈ z, x < 256) ∧ z.length ≤ max n.length 17 + 2))).on v w) hv32).mp h32
          obtain ⟨v34, hv34⟩ : ∃ v, a.tmps.getD 34 undef = v := ⟨_, rfl⟩
          replace h34 := (congrArg (fun v => ((numM (fun z => z = nums R))).on v w) hv34).mp h34
          clear hs hg
          obtain ⟨z, ⟨hz1, hz2, hz3⟩, hz⟩ := h32
          obtain ⟨_, rfl, hy⟩ := h34
          have Hz := Lib.hid hz
          have Hz1 := Lib.hid hz1
          have Hz2 := Lib.hid hz2
          have Hz3 := Lib.hid hz3
          have Hy := Lib.hid hy
          clear hz1 hz2 hz3 hz hy
          go_simp
          refine (times_any w Hz.out Hy.out (Nat.le_refl _) (by have := Hz3.out; have := Hlen.out; have := Hm.out; have := Hl.out; omega) (by rw [nums_length, HR0.out]; decide) Hz2.out (nums_lt R)).mono ?_
          rintro e w' ⟨v', rfl, l', ho, hv', hx', hl', hb'⟩
          have hlen' := mul_len hl' (val_lt Hz2.out) (val_lt (nums_lt R))
          rw [nums_length, HR0.out] at hlen'
          exact ⟨_, rfl, hb', l', ⟨by rw [hv', Hz1.out, val_nums], hx', by have := Hz3.out; omega⟩, ho.is⟩
        · intro a w ht hs hg -- 36
          have h35 := By.given_get hg 5 rfl rfl (by kernel_rfl)
          refine By.yes rfl ?_
          obtain ⟨v35, hv35⟩ : ∃ v, a.tmps.getD 35 undef = v := ⟨_, rfl⟩
          replace h35 := (congrArg (fun v => ((numM (fun z => val z = (val n + blk l j) * Poly.le R ∧ (∀ x ∈ z, x < 256) ∧ z.length ≤ max n.length 17 + 2 + 16 + 1))).on v w) hv35).mp h35
          clear hs hg
          obtain ⟨z, ⟨hz1, hz2, hz3⟩, hz⟩ := h35
          have Hz := Lib.hid hz
          have Hz1 := Lib.hid hz1
          have Hz2 := Lib.hid hz2
          have Hz3 := Lib.hid hz3
          clear hz1 hz2 hz3 hz
          go_simp
          refine (reduce_any w Hz.out (Nat.le_refl _) (by have := Hz3.out; have := Hlen.out; have := Hm.out; have := Hl.out; omega) Hz2.out).mono ?_
          rintro e w' ⟨v', rfl, l', ho, hv', hx', hl', hb'⟩
          exact ⟨_, rfl, hb', l', ⟨by rw [hv', Hz1.out], hx', by have := Hz3.out; have := Hlen.out; omega⟩, ho⟩
        · intro a w ht hs hg -- 6
          have h36 := By.given_get hg 6 rfl rfl (by kernel_rfl)
          refine By.yes rfl ?_
          obtain ⟨v36, hv36⟩ : ∃ v, a.tmps.getD 36 undef = v := ⟨_, rfl⟩
          replace h36 := (congrArg (fun v => ((numM (fun z => val z = (val n + blk l j) * Poly.le R % 1361129467683753853853498429727072845819 ∧ (∀ x ∈ z, x < 256) ∧ z.length ≤ 20 + 19 * (m + 1)))).on v w) hv36).mp h36
          clear hs hg
          have Hz := Lib.hid h36
          clear h36
          go_simp
          exact ⟨_, rfl, Grew.refl _, Hz.out⟩
        refine By.ends_is (By.ends_is (By.ends_skip fun v32 => (By.ends_is (By.ends_skip fun v34 => (By.ends_skip fun v35 => (By.ends_skip fun v36 => (By.ends_any fun v6 => (By.ends_nil fun wz hz => ?_))))))))
        simp only [Act.put, List.setIfInBounds_toArray, List.set_cons_succ, List.set_cons_zero]
        go_wp2
        go_roundw
        case rel =>
          obtain ⟨hz1, z, ⟨hz2, hz3, hz4⟩, hz5⟩ := hz
          have hbz := hz1
          exact ⟨m + 1, j + 16, z, by have := Hj.out; omega, by go_num, by have := Hj.out; omega, hz5, hz3, hz4, by rw [hz2, Hv.out, Hj.out]; rfl, HR5.out.below (w := w5.drew) hbz HR5.out.lt, HK5.out.below (w := w5.drew) hbz HK5.out.lt, HOo5.out.below (w := w5.drew) hbz HOo5.out.lt, nextB (b := w5.drew) HB5.out.drew (Nat.le_refl _) hbz⟩
        case measure => simp [intOf]; omega
      · have h16' : (l.length : Int) ≤ (j : Int) + 16 := by omega
        have hbs := bs_sub (cc := c - j) Hcs.out Hlt.out Hk.out (by have := Hkl2.out; have := Hlc.out; omega)
        have Hbs := Lib.hid (show Bs wr wr.heap.size (.slice (some ⟨b, off + j, none⟩) (l.length - j) (c - j)) ((l.drop j).take 16) by
          rw [show l.length - j = k by have := Hkl2.out; omega]
          exact hbs)
        clear hbs
        go_wp2_with fail
        refine (numbers_any wr Hbs.out (Nat.le_refl _) (by rw [Hk.out]; omega)).mono ?_
        rintro e w4 ⟨v4, rfl, ho4, hb4⟩
        obtain ⟨A4, c4, rfl⟩ := ho4.is.shape
        have HO4 := Lib.hid ho4
        have Hb4 := Lib.hid hb4
        clear ho4 hb4
        go_wp2_with (first
          | (at_builtin
             refine wpList_app_int _ rfl _ _ rfl rfl HO4.out rfl rfl rfl (y := 1) rfl (by rw [nums_length, Hk.out]; omega) Hb4.out.size ?_
             intro v5 w5 ho5 _ hb5 _
             refine stop ?_)
          | fail)
        unfold Stop
        have hb5' : Below wr.heap.size wr w5 := Hb4.out.trans hb5
        obtain ⟨q, hq⟩ : ∃ q, nums ((l.drop j).take 16) ++ [1] = q := ⟨_, rfl⟩
        rw [hq] at ho5
        have Hq1 := Lib.hid (show val q = blk l j by rw [← hq]; exact val_block l j)
        have Hq2 := Lib.hid (show ∀ x ∈ q, x < 256 by rw [← hq]; exact nums_one_lt _)
        have Hq3 := Lib.hid (show q.length ≤ 17 by rw [← hq, List.length_append, nums_length, Hk.out, List.length_singleton]; omega)
        obtain ⟨A5, c5, rfl⟩ := ho5.is.shape
        have HI5 := Lib.hid ho5.is
        have HB5 := Lib.hid (nextB HB.out (Nat.le_refl _) hb5')
        have HN5 := Lib.hid ((HN.out.below hb5').more hb5'.size)
        have HR5 := Lib.hid (HR.out.below hb5' HR.out.lt)
        have HK5 := Lib.hid (HK.out.below hb5' HK.out.lt)
        have HOo5 := Lib.hid (HO.out.below hb5' HO.out.lt)
        have HRb5 := Lib.hid (show Bs w5 w5.heap.size (.slice (some ⟨gR, 0, none⟩) 16 16) R from by
          have h := HR5.out.bs HR5.out.lt
          rwa [HR0.out] at h)
        clear ho5 hb5 hb5' hq
        go_wp2_with fail
        refine By.marks mixed Grew [By.is (.slice An n.length cn),
          By.is (.slice A5 q.length c5),
          numM (fun z => val z = val n + blk l j ∧ (∀ x ∈ z, x < 256) ∧ z.length ≤ max n.length 17 + 2),
          By.is (.slice (some ⟨gR, 0, none⟩) 16 16),
          numM (fun z => z = nums R),
          numM (fun z => val z = (val n + blk l j) * Poly.le R ∧ (∀ x ∈ z, x < 256) ∧ z.length ≤ max n.length 17 + 2 + 16 + 1),
          numM (fun z => val z = (val n + blk l j) * Poly.le R % 1361129467683753853853498429727072845819 ∧ (∀ x ∈ z, x < 256) ∧ z.length ≤ 20 + 19 * (m + 1)),
          numM (fun z => val z = (val n + blk l j) * Poly.le R % 1361129467683753853853498429727072845819 ∧ (∀ x ∈ z, x < 256) ∧ z.length ≤ 20 + 19 * (m + 1))]
          (Ev.masks _ []) (by kernel_rfl) rfl Grew.refl Grew.trans ⟨?_, ?_, ?_, ?_, ?_, ?_, ?_, ?_, trivial⟩ ?_
        · intro a w ht hs hg -- 30
          have h6 := By.same_get hs 6 (by decide) (by kernel_rfl)
          refine By.yes rfl ?_
          clear hs hg
          go_simp
          exact ⟨_, rfl, Grew.refl _, rfl⟩
        · intro a w ht hs hg -- 31
          have h8 := By.same_get hs 8 (by decide) (by kernel_rfl)
          refine By.yes rfl ?_
          clear hs hg
          go_simp
          exact ⟨_, rfl, Grew.refl _, rfl⟩
        · intro a w ht hs hg -- 32
          have h30 : a.tmps.getD 30 undef = _ := By.given_get hg 0 rfl rfl (by kernel_rfl)
          have h31 : a.tmps.getD 31 undef = _ := By.given_get hg 1 rfl rfl (by kernel_rfl)
          refine By.yes rfl ?_
          clear hs hg
          have hn := Lib.hid ((Is.below (w := w5.drew) HN5.out ht).more ht.size)
          have hi := Lib.hid ((Is.below (w := w5.drew) HI5.out ht).more ht.size)
          go_simp
          refine (add_any w hn.out hi.out (Nat.le_refl _) (by have := Hlen.out; have := Hm.out; have := Hl.out; omega) (by have := Hq3.out; omega) (fun x hx => by have := HX.out x hx; omega) (fun x hx => by have := Hq2.out x hx; omega)).mono ?_
          rintro e w' ⟨v', rfl, l', ho, hv', hx', hl', hb'⟩
          exact ⟨_, rfl, hb', l', ⟨by rw [hv', Hq1.out], hx', sum_len hl' (val_lt HX.out) (val_lt Hq2.out) (by omega) (by have := Hq3.out; omega)⟩, ho.is⟩
        · intro a w ht hs hg -- 33
          have h5 := By.same_get hs 5 (by decide) (by kernel_rfl)
          refine By.yes rfl ?_
          clear hs hg
          go_simp
          exact ⟨_, rfl, Grew.refl _, rfl⟩
        · intro a w ht hs hg -- 34
          have h33 : a.tmps.getD 33 undef = _ := By.given_get hg 3 rfl rfl (by kernel_rfl)
          refine By.yes rfl ?_
          clear hs hg
          have hr := Lib.hid ((Bs.below (w := w5.drew) HRb5.out ht).more ht.size)
          go_simp
          refine (numbers_any w hr.out (Nat.le_refl _) (by rw [HR0.out]; decide)).mono ?_
          rintro e w' ⟨v', rfl, ho, hb'⟩
          exact ⟨_, rfl, hb', _, rfl, ho.is⟩
        · intro a w ht hs hg -- 35
          have h32 := By.given_get hg 2 rfl rfl (by kernel_rfl)
          have h34 := By.given_get hg 4 rfl rfl (by kernel_rfl)
          refine By.yes rfl ?_
          obtain ⟨v32, hv32⟩ : ∃ v, a.tmps.getD 32 undef = v := ⟨_, rfl⟩
          replace h32 := (congrArg (fun v => ((numM (fun z => val z = val n + blk l j ∧ (∀ x ∈ z, x < 256) ∧ z.length ≤ max n.length 17 + 2))).on v w) hv32).mp h32
          obtain ⟨v34, hv34⟩ : ∃ v, a.tmps.getD 34 undef = v := ⟨_, rfl⟩
          replace h34 := (congrArg (fun v => ((numM (fun z => z = nums R))).on v w) hv34).mp h34
          clear hs hg
          obtain ⟨z, ⟨hz1, hz2, hz3⟩, hz⟩ := h32
          obtain ⟨_, rfl, hy⟩ := h34
          have Hz := Lib.hid hz
          have Hz1 := Lib.hid hz1
          have Hz2 := Lib.hid hz2
          have Hz3 := Lib.hid hz3
          have Hy := Lib.hid hy
          clear hz1 hz2 hz3 hz hy
          go_simp
          refine (times_any w Hz.out Hy.out (Nat.le_refl _) (by have := Hz3.out; have := Hlen.out; have := Hm.out; have := Hl.out; omega) (by rw [nums_length, HR0.out]; decide) Hz2.out (nums_lt R)).mono ?_
          rintro e w' ⟨v', rfl, l', ho, hv', hx', hl', hb'⟩
          have hlen' := mul_len hl' (val_lt Hz2.out) (val_lt (nums_lt R))
          rw [nums_length, HR0.out] at hlen'
          exact ⟨_, rfl, hb', l', ⟨by rw [hv', Hz1.out, val_nums], hx', by have := Hz3.out; omega⟩, ho.is⟩
        · intro a w ht hs hg -- 36
          have h35 := By.given_get hg 5 rfl rfl (by kernel_rfl)
          refine By.yes rfl ?_
          obtain ⟨v35, hv35⟩ : ∃ v, a.tmps.getD 35 undef = v := ⟨_, rfl⟩
          replace h35 := (congrArg (fun v => ((numM (fun z => val z = (val n + blk l j) * Poly.le R ∧ (∀ x ∈ z, x < 256) ∧ z.length ≤ max n.length 17 + 2 + 16 + 1))).on v w) hv35).mp h35
          clear hs hg
          obtain ⟨z, ⟨hz1, hz2, hz3⟩, hz⟩ := h35
          have Hz := Lib.hid hz
          have Hz1 := Lib.hid hz1
          have Hz2 := Lib.hid hz2
          have Hz3 := Lib.hid hz3
          clear hz1 hz2 hz3 hz
          go_simp
          refine (reduce_any w Hz.out (Nat.le_refl _) (by have := Hz3.out; have := Hlen.out; have := Hm.out; have := Hl.out; omega) Hz2.out).mono ?_
          rintro e w' ⟨v', rfl, l', ho, hv', hx', hl', hb'⟩
          exact ⟨_, rfl, hb', l', ⟨by rw [hv', Hz1.out], hx', by have := Hz3.out; have := Hlen.out; omega⟩, ho⟩
        · intro a w ht hs hg -- 6
          have h36 := By.given_get hg 6 rfl rfl (by kernel_rfl)
          refine By.yes rfl ?_
          obtain ⟨v36, hv36⟩ : ∃ v, a.tmps.getD 36 undef = v := ⟨_, rfl⟩
          replace h36 := (congrArg (fun v => ((numM (fun z => val z = (val n + blk l j) * Poly.le R % 1361129467683753853853498429727072845819 ∧ (∀ x ∈ z, x < 256) ∧ z.length ≤ 20 + 19 * (m + 1)))).on v w) hv36).mp h36
          clear hs hg
          have Hz := Lib.hid h36
          clear h36
          go_simp
          exact ⟨_, rfl, Grew.refl _, Hz.out⟩
        refine By.ends_is (By.ends_is (By.ends_skip fun v32 => (By.ends_is (By.ends_skip fun v34 => (By.ends_skip fun v35 => (By.ends_skip fun v36 => (By.ends_any fun v6 => (By.ends_nil fun wz hz => ?_))))))))
        simp only [Act.put, List.setIfInBounds_toArray, List.set_cons_succ, List.set_cons_zero]
        go_wp2
        go_roundw
        case rel =>
          obtain ⟨hz1, z, ⟨hz2, hz3, hz4⟩, hz5⟩ := hz
          have hbz := hz1
          exact ⟨m + 1, j + 16, z, by have := Hj.out; omega, by go_num, by have := Hj.out; omega, hz5, hz3, hz4, by rw [hz2, Hv.out, Hj.out]; rfl, HR5.out.below (w := w5.drew) hbz HR5.out.lt, HK5.out.below (w := w5.drew) hbz HK5.out.lt, HOo5.out.below (w := w5.drew) hbz HOo5.out.lt, nextB (b := w5.drew) HB5.out.drew (Nat.le_refl _) hbz⟩
        case measure => simp [intOf]; omega
    · have h1' : ¬ (j : Int) < (l.length : Int) := by omega
      have Hm2 := Lib.hid (show m = (l.length + 15) / 16 by have := Hj.out; have := Hm.out; omega)
      have HKb := Lib.hid (show Bs wr wr.heap.size (.slice (some ⟨w.heap.size, 16, none⟩) 16 16) (key.drop 16) from
        ⟨_, 16, by rw [List.length_drop, Hk0.out], by rw [List.length_drop, Hk0.out]; decide, fun _ => ⟨_, 16, rfl, HK.out.lt, fun i u hu => HK.out.cell (by rw [List.getElem?_map, ← List.getElem?_drop, hu]; rfl)⟩⟩)
      go_wp2_with fail
      refine (numbers_any wr HKb.out (Nat.le_refl _) (by rw [List.length_drop, Hk0.out]; decide)).mono ?_
      rintro e w4 ⟨v4, rfl, ho4, hb4⟩
      obtain ⟨A4, c4, rfl⟩ := ho4.is.shape
      have HI4 := Lib.hid ho4.is
      have HN4 := Lib.hid ((HN.out.below hb4).more hb4.size)
      have HO4 := Lib.hid (HO.out.below hb4 HO.out.lt)
      have HB4 := Lib.hid (nextB HB.out (Nat.le_refl _) hb4)
      clear ho4 hb4
      go_wp2_with fail
      refine (add_any w4 HN4.out HI4.out (Nat.le_refl _) (by have := Hlen.out; have := Hm.out; have := Hl.out; omega) (by rw [nums_length, List.length_drop, Hk0.out]; decide) (fun x hx => by have := HX.out x hx; omega) (fun x hx => by have := nums_lt _ x hx; omega)).mono ?_
      rintro e w5 ⟨v5, rfl, z, ho5, hv5, hx5, _, hb5⟩
      obtain ⟨A5, c5, rfl⟩ := ho5.is.shape
      have Hz := Lib.hid (show val z = tv (Poly.le R) l ((l.length + 15) / 16) + Poly.le (key.drop 16) by rw [hv5, Hv.out, val_nums, Hm2.out])
      have HX5 := Lib.hid hx5
      have HI5 := Lib.hid ho5.is
      have HO5 := Lib.hid (HO4.out.below hb5 HO4.out.lt)
      have HB5 := Lib.hid (nextB HB4.out (Nat.le_refl _) hb5)
      clear ho5 hv5 hx5 hb5
      have hz0 := outB_zero z
      go_wp2_with fail
      go_loopw [10] (fun vi wq => ∃ i : Nat, vi = .int .i64 (i : Int) ∧ i ≤ 16 ∧ Row wq w5.heap.size ((outB z i).map bv) 35 ∧ Below w5.heap.size w5 wq) (fun vi _ => 16 - (intOf vi).toNat)
      case atStart => exact ⟨0, rfl, by omega, by rw [hz0]; exact Row.new rfl rfl, (Below.refl _ w5).alloc (Nat.le_refl _) _⟩
      case round =>
        obtain ⟨i, rfl, hi, hr, hbq⟩ := hrel
        have HRq := Lib.hid hr
        have HBq := Lib.hid hbq
        have hiz : (i : Int) ≤ 16 := by omega
        clear hr hbq hz0
        by_cases hc : i < 16 ∧ i < z.length
        · have hc1 : (i : Int) < 16 := by omega
          have hc2 : (i : Int) < (z.length : Int) := by omega
          obtain ⟨A6, c6, hA6, hcs6⟩ := HI5.out.below HBq.out
          simp only [Value.slice.injEq] at hA6
          obtain ⟨rfl, _, rfl⟩ := hA6
          obtain ⟨b6, off6, rfl, _, hcell6⟩ := hcs6 (by rintro rfl; simp at hc)
          obtain ⟨x, hx⟩ : ∃ x, z[i]? = some x := ⟨_, List.getElem?_eq_getElem hc.2⟩
          have hcx := hcell6 i x hx
          unfold nv at hcx
          have hx256 := HX5.out x (List.mem_of_getElem? hx)
          have hxi : (x : Int) < 256 := by omega
          have hxw : IntKind.u8.wrap (x : Int) = (x : Int) := wrap_u8 _ hx256
          have Hset := Lib.hid (outB_set z i x hc.1 hx)
          have Hbv := Lib.hid (show Value.int .u8 (x : Int) = bv (UInt8.ofNat x) by unfold bv; rw [UInt8.toNat_ofNat_of_lt' hx256])
          obtain ⟨y, hy⟩ : ∃ y, ((outB z i).map bv)[i]? = some y := ⟨_, List.getElem?_eq_getElem (by rw [List.length_map, outB_length]; exact hc.1)⟩
          have hco := HRq.out.cell hy
          have hfr := frozen_row HRq.out i
          clear hcs6 hcell6 hx hx256 hy hc
          go_wp2_with fail
          refine ⟨⟨i + 1, by go_num, by omega, ?_, HBq.out.setCell (by dsimp only; omega) _⟩, by simp [intOf]; omega⟩
          refine Row.same (HRq.out.set i _) ?_
          rw [Hbv.out, ← List.map_set, Hset.out]
        · have Hend := Lib.hid (show outB z i = Poly.bytes16 (tv (Poly.le R) l ((l.length + 15) / 16) + Poly.le (key.drop 16)) from by
            rw [← Hz.out]
            exact out_all HX5.out (by omega))
          have Hol := Lib.hid (show ((outB z i).map bv).length = 16 by rw [List.length_map, outB_length])
          have HOq := Lib.hid (HO5.out.below HBq.out HO5.out.lt)
          have HBz := Lib.hid (HB5.out.trans (HBq.out.mono HB5.out.size))
          by_cases hc1 : i < 16
          · have hc2 : (i : Int) < 16 := by omega
            have hc3 : ¬ (i : Int) < (z.length : Int) := by omega
            clear hc
            go_wp2_with (first
              | (refine wpList_loadRow (n := 16) (cs := (outB z i).map bv) rfl 35 (.tmp 9) rfl rfl (g := w5.heap.size) (t := 35) HRq.out Try.underlying35 rfl (by kernel_rfl) Hol.out ?_)
              | (try simp only [Act.put, List.setIfInBounds_toArray, List.set_cons_succ, List.set_cons_zero]
                 refine wpList_storeRow (n := 16) rfl 35 (.tmp 4) (.tmp 58) rfl rfl rfl (cs := (outB z i).map bv) (old := (List.replicate 16 (0 : UInt8)).map bv) (g := w.heap.size + 1) (t := 35) HOq.out (by kernel_rfl) Hol.out (by simp) (Pol.bytes1 _) ?_)
              | fail)
            refine bodyPost_ret (results_row rfl _ rfl (HOq.out.setRow _) Try.underlying35 rfl (by kernel_rfl) (n := 16) Hol.out) rfl ?_
            exact ⟨by rw [Hend.out], below_setRow HBz.out (Nat.le_succ _) _⟩
          · obtain rfl : i = 16 := by omega
            clear hc hc1 hiz
            go_wp2_with (first
              | (refine wpList_loadRow (n := 16) (cs := (outB z 16).map bv) rfl 35 (.tmp 9) rfl rfl (g := w5.heap.size) (t := 35) HRq.out Try.underlying35 rfl (by kernel_rfl) Hol.out ?_)
              | (try simp only [Act.put, List.setIfInBounds_toArray, List.set_cons_succ, List.set_cons_zero]
                 refine wpList_storeRow (n := 16) rfl 35 (.tmp 4) (.tmp 58) rfl rfl rfl (cs := (outB z 16).map bv) (old := (List.replicate 16 (0 : UInt8)).map bv) (g := w.heap.size + 1) (t := 35) HOq.out (by kernel_rfl) Hol.out (by simp) (Pol.bytes1 _) ?_)
              | fail)
            refine bodyPost_ret (results_row rfl _ rfl (HOq.out.setRow _) Try.underlying35 rfl (by kernel_rfl) (n := 16) Hol.out) rfl ?_
            exact ⟨by rw [Hend.out], below_setRow HBz.out (Nat.le_succ _) _⟩
theorem RTag_any {key : List UInt8} (hk : key.length = 32) (w : World) {v : Value} {l : List UInt8} (hb : Bs w w.heap.size v l) (hl : l.length ≤ 650) :
    Calls Try.prog 14 #[arr8 key, v] w fun e w' => e = .returned (arr8 (Pol.tagK key l)) ∧ Below w.heap.size w w' := by
  rw [← tag_is hk]
  exact RTag_walk key (Pol.clampB key) hk (Pol.clampB_length key hk) (RClamp_any hk) w hb hl
end Go.Proofs.Ytpllbnioncjhaaa.PRef
