/- It does not matter how bytes are split; a longer expansion begins with a shorter one: 'drawbridgelaw05.HkdfCuts'. -/
import Derived.Test.YtaamkgchophpeaaDoorHkLives
import Derived.Test.YtaamkgchophpeaaDoorHkKey
import Derived.Test.YtaamkgchophpeaaDoorHkKeysPure
import Derived.Test.YtaamkgchophpeaaDoorTail
import Derived.Test.YtaamkgchophpeaaDoorEqArr
import Derived.Test.YtaamkgchophpeaaDoorKitLists
import Derived.Test.YtaamkgchophpeaaDoorBs
import Derived.Test.YtaamkgchophpeaaDoorHkLaw
namespace Go.Proofs.YtaamkgchophpeaaDoor.hkdfCuts
open Go.ChangeShapes Go.WideShapes Go.ChangeAt Go.RowKit

theorem eq32 (x y : List UInt8) (hx : x.length = 32) (hy : y.length = 32) (w : World) : (Op.equal 26 (arr8 x) (arr8 y)).run Tryd.prog w = .ok (decide (x = y)) w :=
  run_eql_arr8 (P := Tryd.prog) Tryd.underlying26 Tryd.underlying5 (by kernel_rfl) x y hx hy w
theorem row_bsN {w : World} {g n : Nat} {l : List UInt8} {t : TypeId} (h : Row w g (l.map bv) t) (hl : l.length = n) : Bs w w.heap.size (.slice (some ⟨g, 0, none⟩) n n) l := by
  have h' := h.bs h.lt
  rwa [hl] at h'
theorem flat_le : ∀ (ls : List (List UInt8)) (k m : Nat), ls.length ≤ k → (∀ l ∈ ls, l.length ≤ m) → ls.flatten.length ≤ k * m
  | [], k, m, _, _ => by simp
  | l :: ls, k, m, hk, hm => by
    have h1 := flat_le ls (k - 1) m (by simp at hk; omega) (fun x hx => hm x (List.mem_cons_of_mem _ hx))
    have h2 := hm l (List.mem_cons_self ..)
    obtain ⟨j, rfl⟩ : ∃ j, k = j + 1 := ⟨k - 1, by simp at hk; omega⟩
    simp only [List.flatten_cons, List.length_append, Nat.add_sub_cancel, Nat.add_mul] at *
    omega

/-- Too many, or too long: nothing is asked. -/
theorem walkT (ls : List (List UInt8)) (key : List UInt8) (v : Value) (A : Option Addr) (c N : Nat) (k32 : List UInt8) (m n : Int) (w : World) (ht : Tab w) (hls : Bss w w.heap.size v ls) (h : light ls 20 400 = false ∨ 400 < N) :
    Calls Tryd.prog 5 #[v, .slice A N c, arr8 k32, .int .i64 m, .int .i64 n] w fun r w' => r = .returned (.bool true) ∧ Below w.heap.size w w' := by
  have HT := Lib.hid ht
  have HLs := Lib.hid hls
  clear ht hls
  by_cases hl : light ls 20 400 = false
  · have Hl := Lib.hid hl
    clear h hl
    unfold arr8
    go_enter Tryd.func5, Tryd.ntmps5
    have hb0 := (Below.refl w.heap.size w).alloc (Nat.le_refl _) (.cells (k32.map bv).toArray 26)
    go_wp2_with fail
    refine (lives_any _ (HT.out.below hb0 HT.out.1)).mono ?_
    rintro r w1 ⟨rfl, hb1⟩
    have HB := Lib.hid (nextB hb0 (Nat.le_refl _) hb1)
    clear hb0 hb1
    go_wp2_with fail
    refine (LightLists_any _ ls 20 400 _ (HLs.out.below HB.out) (by omega) (by omega)).mono ?_
    rw [Hl.out]
    rintro r w2 ⟨rfl, rfl⟩
    go_wp2
    go_ret
    exact ⟨rfl, HB.out⟩
  · have Hl := Lib.hid (show light ls 20 400 = true by simpa using hl)
    have h4 : (400 : Int) < (N : Int) := by have := h.resolve_left hl; omega
    clear h hl
    unfold arr8
    go_enter Tryd.func5, Tryd.ntmps5
    have hb0 := (Below.refl w.heap.size w).alloc (Nat.le_refl _) (.cells (k32.map bv).toArray 26)
    go_wp2_with fail
    refine (lives_any _ (HT.out.below hb0 HT.out.1)).mono ?_
    rintro r w1 ⟨rfl, hb1⟩
    have HB := Lib.hid (nextB hb0 (Nat.le_refl _) hb1)
    clear hb0 hb1
    go_wp2_with fail
    refine (LightLists_any _ ls 20 400 _ (HLs.out.below HB.out) (by omega) (by omega)).mono ?_
    rw [Hl.out]
    rintro r w2 ⟨rfl, rfl⟩
    go_wp2
    go_ret
    exact ⟨rfl, HB.out⟩

set_option maxRecDepth 8000 in
set_option maxHeartbeats 16000000 in
theorem walkM (ls : List (List UInt8)) (key k32 : List UInt8) (A0 A : Option Addr) (c0 c : Nat) (m n : Int) (w : World) (ht : Tab w) (hls : Bss w w.heap.size (.slice A0 ls.length c0) ls) (hk : Bs w w.heap.size (.slice A key.length c) key) (hlt : light ls 20 400 = true) (hkl : key.length ≤ 400) (h32 : k32.length = 32)
    (hm : -9223372036854775808 ≤ m ∧ m ≤ 9223372036854775807) (hn : -9223372036854775808 ≤ n ∧ n ≤ 9223372036854775807) :
    Calls Tryd.prog 5 #[.slice A0 ls.length c0, .slice A key.length c, arr8 k32, .int .i64 m, .int .i64 n] w fun r w' => r = .returned (.bool true) ∧ Below w.heap.size w w' := by
  have HT := Lib.hid ht
  have HLs := Lib.hid hls
  have HK := Lib.hid hk
  have HKl := Lib.hid hkl
  have HLt := Lib.hid hlt
  have HM := Lib.hid hm
  have HN := Lib.hid hn
  have H32 := Lib.hid h32
  have H32m := Lib.hid (show (k32.map bv).length = 32 by rw [List.length_map]; exact h32)
  have h4 : ¬ (400 : Int) < (key.length : Int) := by omega
  have hlt2 : ls.length ≤ 20 ∧ ∀ l ∈ ls, l.length ≤ 400 := by simpa [light] using hlt
  have HLe := Lib.hid hlt2
  obtain ⟨mm, hmm, hmm2⟩ : ∃ k : Nat, pick m 400 = (k : Int) ∧ k < 400 := ⟨(pick m 400).toNat, by have := pick_in m 400 (by omega); omega, by have := pick_in m 400 (by omega); omega⟩
  obtain ⟨nn, hnn, hnn2⟩ : ∃ k : Nat, pick n 400 = (k : Int) ∧ k < 400 := ⟨(pick n 400).toNat, by have := pick_in n 400 (by omega); omega, by have := pick_in n 400 (by omega); omega⟩
  obtain ⟨tt, htt⟩ : ∃ k : Nat, mm + nn = k := ⟨_, rfl⟩
  have htt2 : (mm : Int) + (nn : Int) = (tt : Int) := by omega
  have Hmm := Lib.hid hmm
  have Hnn := Lib.hid hnn
  have Htl := Lib.hid (show tt ≤ 800 by omega)
  have Hml := Lib.hid (show mm ≤ tt by omega)
  clear ht hls hk hkl hlt hm hn h32 hlt2 hmm hnn htt
  unfold arr8
  go_enter Tryd.func5, Tryd.ntmps5
  have hb0 := (Below.refl w.heap.size w).alloc (Nat.le_refl _) (.cells (k32.map bv).toArray 26)
  go_wp2_with fail
  refine (lives_any _ (HT.out.below hb0 HT.out.1)).mono ?_
  rintro r w1 ⟨rfl, hb1⟩
  have HB1 := Lib.hid (nextB hb0 (Nat.le_refl _) hb1)
  have HR1 := Lib.hid (show Row w1 w.heap.size (k32.map bv) 26 from (Row.new rfl rfl).below hb1 (by simp))
  have hw1 : w.heap.size < w1.heap.size := HR1.out.lt
  clear hb0 hb1
  go_wp2_with fail
  refine (LightLists_any _ ls 20 400 _ (HLs.out.below HB1.out) (by omega) (by omega)).mono ?_
  rw [HLt.out]
  rintro r w2 ⟨rfl, rfl⟩
  go_wp2
  go_loopw [11, 12] (fun va vi wr => ∃ i : Nat, i ≤ ls.length ∧ vi = .int .i64 (i : Int) ∧ Own wr w1.heap.size va (ls.take i).flatten ∧ Below w1.heap.size w1 wr) (fun _ vi _ => ls.length - (intOf vi).toNat)
  case atStart => exact ⟨0, by omega, rfl, Own.nil _ _, Below.refl _ _⟩
  case round =>
    obtain ⟨i, hi, rfl, hown, hbr⟩ := hrel
    have HBr := Lib.hid hbr
    have HOw := Lib.hid hown
    have hs1 : w1.heap.size ≤ wr.heap.size := hbr.size
    clear hbr hown
    by_cases hil : i < ls.length
    · have hil' : (i : Int) < (ls.length : Int) := by omega
      have hi20 : (i : Int) ≤ 20 := by have := HLe.out.1; omega
      have HBw := Lib.hid (HB1.out.trans (HBr.out.mono (Nat.le_of_lt hw1)))
      obtain ⟨b, off, rfl, u, hcell, hu⟩ : ∃ b off, A0 = some ⟨b, off, none⟩ ∧ ∃ u, wr.cell? ⟨b, off + i, none⟩ = some u ∧ Bs wr wr.heap.size u ls[i] := by
        obtain ⟨A', c', e', _, hcs⟩ := HLs.out.below HBw.out
        simp only [Value.slice.injEq] at e'
        obtain ⟨rfl, _, rfl⟩ := e'
        obtain ⟨b, off, rfl, _, hcs⟩ := hcs (by intro h; rw [h] at hil; simp at hil)
        obtain ⟨u, h1, h2⟩ := hcs i ls[i] (List.getElem?_eq_getElem hil)
        exact ⟨b, off, rfl, u, h1, h2.more HBw.out.size⟩
      have Hu := Lib.hid hu
      have Hil := Lib.hid hil
      have He := Lib.hid (show (ls.take (i + 1)).flatten = (ls.take i).flatten ++ ls[i] by
        rw [List.take_add_one, List.getElem?_eq_getElem hil, List.flatten_append, show (some ls[i]).toList.flatten = ls[i] by simp only [Option.toList_some, List.flatten_cons, List.flatten_nil, List.append_nil]])
      have Hln := Lib.hid (show (ls.take i).flatten.length + (ls[i]).length ≤ 140737488355327 by
        have h1 := flat_le (ls.take i) 20 400 (by rw [List.length_take]; have := HLe.out.1; omega) (fun l hl => HLe.out.2 l (List.mem_of_mem_take hl))
        have h2 := HLe.out.2 ls[i] (List.getElem_mem hil)
        omega)
      clear hu
      obtain ⟨Au, nu, cu, rfl⟩ : ∃ Au nu cu, u = .slice Au nu cu := by
        obtain ⟨a1, a2, a3, _⟩ := Hu.out
        exact ⟨_, _, _, a3⟩
      go_wp2_with (at_builtin; refine wpList_app_bytes _ rfl _ _ rfl rfl HOw.out rfl Hu.out Hln.out hs1 ?_; intro v9 w9 ho9 hg9 hb9)
      have hbz : Below w1.heap.size wr w9 := (Below.refl w1.heap.size wr).grown hg9 hs1 (fun j hj => (HOw.out.block_ge hj).1)
      have HBz := Lib.hid (HBr.out.trans hbz)
      have HO9 := Lib.hid ho9
      clear ho9 hg9 hb9 hbz
      go_wp2
      go_roundw
      case rel =>
        exact ⟨i + 1, by have := Hil.out; omega, by go_num, by rw [He.out]; exact HO9.out, HBz.out⟩
      case measure => simp [intOf]; have := Hil.out; omega
    · have hil' : ¬ (i : Int) < (ls.length : Int) := by omega
      obtain ⟨F, hF⟩ : ∃ F, ls.flatten = F := ⟨_, rfl⟩
      have HFl := Lib.hid (show F.length ≤ 8000 by rw [← hF]; have := flat_le ls 20 400 HLe.out.1 HLe.out.2; omega)
      have HF := Lib.hid hF
      have HOF := Lib.hid (show Own wr w1.heap.size u11 F by have h := HOw.out; rwa [List.take_of_length_le (by omega), hF] at h)
      have HBw := Lib.hid (HB1.out.trans (HBr.out.mono (Nat.le_of_lt hw1)))
      have HRr := Lib.hid (HR1.out.below HBr.out hw1)
      clear hF hi hil HOw
      obtain ⟨Aa, ca, rfl⟩ := HOF.out.shape
      go_wp2_with fail
      refine (Pick_any m 400 _ HM.out (by omega)).mono ?_
      rw [Hmm.out]
      rintro r w3 ⟨rfl, rfl⟩
      go_wp2_with fail
      refine (Pick_any n 400 _ HN.out (by omega)).mono ?_
      rw [Hnn.out]
      rintro r w3 ⟨rfl, rfl⟩
      have hKr := (HK.out.below HBw.out).more HBw.out.size
      have HTr := Lib.hid (HT.out.below HBw.out HT.out.1)
      have HKr := Lib.hid hKr
      clear hKr
      go_wp2_with (refine wpList_loadRow rfl 26 _ rfl rfl HRr.out Tryd.underlying26 rfl (by kernel_rfl) H32m.out ?_)
      refine (Expand_ok _ k32 key (mm : Int) mm (.inr rfl) (by omega) H32.out wr HTr.out HKr.out (by have := HKl.out; omega)).mono ?_
      obtain ⟨X, hX⟩ : ∃ X, Hk.outL k32 key mm = X := ⟨_, rfl⟩
      have HX := Lib.hid hX
      rw [hX]
      rintro r w4 ⟨g13, rfl, hg13, hr13, hb4⟩
      have HB4 := Lib.hid (nextB HBw.out (Nat.le_refl _) hb4)
      have HR4 := Lib.hid (HRr.out.below hb4 HRr.out.lt)
      have HX4 := Lib.hid hr13
      have HOF4 := Lib.hid (HOF.out.below hb4 (Nat.le_refl _))
      have HK4 := Lib.hid ((HKr.out.below hb4).more hb4.size)
      have HT4 := Lib.hid (HTr.out.below hb4 HTr.out.1)
      clear hb4 hr13 hX
      go_wp2_with (refine wpList_loadRow rfl 26 _ rfl rfl HR4.out Tryd.underlying26 rfl (by kernel_rfl) H32m.out ?_)
      refine (Expand_ok _ k32 key (tt : Int) tt (.inr rfl) (by have := Htl.out; omega) H32.out w4 HT4.out HK4.out (by have := HKl.out; omega)).mono ?_
      obtain ⟨Y, hY⟩ : ∃ Y, Hk.outL k32 key tt = Y := ⟨_, rfl⟩
      have HY := Lib.hid hY
      rw [hY]
      rintro r w5 ⟨g15, rfl, hg15, hr15, hb5⟩
      have HB5 := Lib.hid (nextB HB4.out (Nat.le_refl _) hb5)
      have HX5 := Lib.hid (HX4.out.below hb5 HX4.out.lt)
      have HY5 := Lib.hid hr15
      have HOF5 := Lib.hid (HOF4.out.below hb5 (Nat.le_refl _))
      have HK5 := Lib.hid ((HK4.out.below hb5).more hb5.size)
      have HT5 := Lib.hid (HT4.out.below hb5 HT4.out.1)
      clear hb5 hr15 hY
      go_wp2_with fail
      refine (Extract_any _ _ key F w5 HT5.out HK5.out (by have := HKl.out; omega) HOF5.out.bs (by have := HFl.out; omega)).mono ?_
      obtain ⟨E, hE⟩ : ∃ E, Sha.mac key F = E := ⟨_, rfl⟩
      have HE := Lib.hid hE
      have HEl := Lib.hid (show E.length = 32 by rw [← hE]; exact Sha.sum_length _)
      rw [hE]
      rintro r w6 ⟨rfl, hb6⟩
      have HB6 := Lib.hid (nextB HB5.out (Nat.le_refl _) hb6)
      have HX6 := Lib.hid (HX5.out.below hb6 HX5.out.lt)
      have HY6 := Lib.hid (HY5.out.below hb6 HY5.out.lt)
      have HOF6 := Lib.hid (HOF5.out.below hb6 (Nat.le_refl _))
      have HK6 := Lib.hid ((HK5.out.below hb6).more hb6.size)
      have HT6 := Lib.hid (HT5.out.below hb6 HT5.out.1)
      clear hb6 hE
      go_wp2_with fail
      refine (Expand_ok _ E key (32 : Int) 32 (.inr rfl) (by omega) HEl.out w6 HT6.out HK6.out (by have := HKl.out; omega)).mono ?_
      obtain ⟨Z, hZ⟩ : ∃ Z, Hk.outL E key 32 = Z := ⟨_, rfl⟩
      have HZ := Lib.hid hZ
      have HZl := Lib.hid (show Z.length = 32 by rw [← hZ, Hk.outL_32]; exact Hk.tN_length E key 0)
      have HZm := Lib.hid (show (Z.map bv).length = 32 by rw [List.length_map]; exact HZl.out)
      rw [hZ]
      rintro r w7 ⟨g17, rfl, hg17, hr17, hb7⟩
      have HB7 := Lib.hid (nextB HB6.out (Nat.le_refl _) hb7)
      have HX7 := Lib.hid (HX6.out.below hb7 HX6.out.lt)
      have HY7 := Lib.hid (HY6.out.below hb7 HY6.out.lt)
      have HZ7 := Lib.hid hr17
      have HOF7 := Lib.hid (HOF6.out.below hb7 (Nat.le_refl _))
      have HK7 := Lib.hid ((HK6.out.below hb7).more hb7.size)
      have HT7 := Lib.hid (HT6.out.below hb7 HT6.out.1)
      clear hb7 hr17 hZ
      go_wp2_with fail
      refine (Key_any _ _ _ key F key w7 HT7.out HK7.out (by have := HKl.out; omega) HOF7.out.bs (by have := HFl.out; omega) HK7.out (by have := HKl.out; omega)).mono ?_
      rw [HE.out, HZ.out]
      rintro r w8 ⟨rfl, hb8⟩
      have HB8 := Lib.hid (nextB HB7.out (Nat.le_refl _) hb8)
      have HX8 := Lib.hid (HX7.out.below hb8 HX7.out.lt)
      have HY8 := Lib.hid (HY7.out.below hb8 HY7.out.lt)
      have HZ8 := Lib.hid (HZ7.out.below hb8 HZ7.out.lt)
      have HOF8 := Lib.hid (HOF7.out.below hb8 (Nat.le_refl _))
      clear hb8
      unfold arr8
      go_wp2_with (first
        | (show wpList _ _ _ (⟨none, Op.store 26 _ _, _, _, _, _⟩ :: _) _ _; refine wpList_storeRow (g := w8.heap.size) rfl 26 _ _ rfl rfl rfl (cs := Z.map bv) (old := (List.replicate 32 (0 : UInt8)).map bv) (Row.new rfl rfl) (by kernel_rfl) HZm.out (by simp) (bytes_one Z) ?_
           obtain ⟨V, hV⟩ : ∃ V, (w8.alloc (.cells ((List.replicate 32 (0 : UInt8)).map bv).toArray 26)).setRow w8.heap.size (Z.map bv).toArray = V := ⟨_, rfl⟩
           refine wpList_in hV ?_
           have hbV : Below w8.heap.size w8 V := by rw [← hV]; exact below_setRow ((Below.refl w8.heap.size w8).alloc (Nat.le_refl _) _) (Nat.le_refl _) _
           have HWV := Lib.hid (row_bsN (show Row V w8.heap.size (Z.map bv) 26 by rw [← hV]; exact (Row.new (cs := (List.replicate 32 (0 : UInt8)).map bv) rfl rfl).setRow (Z.map bv)) HZl.out)
           have HBV := Lib.hid (nextB HB8.out (Nat.le_refl _) hbV)
           have HXV := Lib.hid (HX8.out.below hbV HX8.out.lt)
           have HYV := Lib.hid (HY8.out.below hbV HY8.out.lt)
           have HZV := Lib.hid (HZ8.out.below hbV HZ8.out.lt)
           have HFV := Lib.hid (HOF8.out.below hbV (Nat.le_refl _)).bs
           have HKV := Lib.hid ((HK.out.below HBV.out).more HBV.out.size)
           have HTV := Lib.hid (HT.out.below HBV.out HT.out.1)
           have HLV := Lib.hid ((HLs.out.below HBV.out).more' HBV.out.size)
           clear hV hbV)
        | fail)
      try simp only [Act.put]
      have htm : (mm : Int) ≤ (tt : Int) := by have := Hml.out; omega
      obtain ⟨S, hS⟩ : ∃ S, Sha.sum F = S := ⟨_, rfl⟩
      have HS := Lib.hid hS
      have HSl := Lib.hid (show S.length = 32 by rw [← hS]; exact Sha.sum_length _)
      obtain ⟨M, hM⟩ : ∃ M, Sha.mac key F = M := ⟨_, rfl⟩
      have HMa := Lib.hid hM
      have HMal := Lib.hid (show M.length = 32 by rw [← hM]; exact Sha.sum_length _)
      have HXl := Lib.hid (show X.length = mm by rw [← HX.out]; unfold Hk.outL; rw [List.length_take, Hk.catN_length]; omega)
      have HYl := Lib.hid (show Y.length = tt by rw [← HY.out]; unfold Hk.outL; rw [List.length_take, Hk.catN_length]; omega)
      have HXC := Lib.hid (row_bsN HXV.out HXl.out)
      have HZC := Lib.hid (row_bsN HZV.out HZl.out)
      have HYC := Lib.hid (show Bs V V.heap.size (.slice (some ⟨g15, 0, none⟩) mm tt) X by
        have h := row_bsN HYV.out HYl.out
        have h2 := h.take HYl.out.symm (k := mm) (by rw [HYl.out]; exact Hml.out)
        rwa [← HY.out, Hk.outL_take k32 key mm tt Hml.out, HX.out] at h2)
      clear hS hM
      refine By.marks Pol.mixed Grew [By.is (.slice A0 ls.length c0),
        By.is (arr8 S),
        By.is (.slice Aa F.length ca),
        rdL [F] 1,
        By.is (arr8 S),
        By.is (.bool true),
        By.is (.bool true),
        By.is (.slice A key.length c),
        By.is (.slice A0 ls.length c0),
        By.is (arr8 M),
        By.is (.slice A key.length c),
        By.is (.slice Aa F.length ca),
        rdL [F] 1,
        By.is (arr8 M),
        By.is (.bool true),
        By.is (.bool true),
        By.is (.bool true),
        By.is (.int .i64 0),
        By.is (.bool true),
        By.is (.bool true),
        By.is (.bool true),
        By.is (.int .i64 0),
        By.is (.bool true),
        By.is (.bool true),
        By.is (.bool true),
        By.is (.slice (some ⟨g13, 0, none⟩) mm mm),
        By.is (.int .i64 (mm : Int)),
        By.is (.int .i64 (mm : Int)),
        By.is (.bool true),
        By.is (.bool true),
        By.is (.bool true),
        By.is (.slice (some ⟨g15, 0, none⟩) tt tt),
        By.is (.int .i64 (tt : Int)),
        By.is (.int .i64 (tt : Int)),
        By.is (.bool true),
        By.is (.bool true),
        By.is (.bool true),
        By.is (.slice (some ⟨g15, 0, none⟩) tt tt),
        By.is (.int .i64 (mm : Int)),
        By.is (.slice (some ⟨g15, 0, none⟩) mm tt),
        By.is (strOf X),
        By.is (.slice (some ⟨g13, 0, none⟩) mm mm),
        By.is (strOf X),
        By.is (.bool true),
        By.is (.bool true),
        By.is (.bool true),
        By.is (.int .i64 0),
        By.is (.bool true),
        By.is (.bool true),
        By.is (.bool true),
        By.is (.slice (some ⟨g17, 0, none⟩) 32 32),
        By.is (strOf Z),
        By.is (.slice (some ⟨w8.heap.size, 0, none⟩) 32 32),
        By.is (strOf Z),
        By.is (.bool true),
        By.is (.bool true),
        By.is (.bool true)]
        (Ev.masks _ []) (by kernel_rfl) rfl Grew.refl Grew.trans ⟨?_, ?_, ?_, ?_, ?_, ?_, ?_, ?_, ?_, ?_, ?_, ?_, ?_, ?_, ?_, ?_, ?_, ?_, ?_, ?_, ?_, ?_, ?_, ?_, ?_, ?_, ?_, ?_, ?_, ?_, ?_, ?_, ?_, ?_, ?_, ?_, ?_, ?_, ?_, ?_, ?_, ?_, ?_, ?_, ?_, ?_, ?_, ?_, ?_, ?_, ?_, ?_, ?_, ?_, ?_, ?_, ?_, trivial⟩ ?_
      · intro a w ht hs hg -- 74
        have h0 := By.same_get hs 0 (by decide) (by kernel_rfl)
        refine By.yes rfl ?_
        clear hs hg
        go_simp
        exact ⟨_, rfl, Grew.refl _, rfl⟩
      · intro a w ht hs hg -- 75
        have h74 : a.tmps.getD 74 undef = _ := By.given_get hg 0 rfl rfl (by kernel_rfl)
        refine By.yes rfl ?_
        clear hs hg
        have htab := Lib.hid (HTV.out.below (show Below V.heap.size V w from ⟨ht.os, ht.tape, ht.output, ht.size, ht.block⟩) HTV.out.1)
        have hlw := Lib.hid ((HLV.out.below (show Below V.heap.size V w from ⟨ht.os, ht.tape, ht.output, ht.size, ht.block⟩)).more' ht.size)
        clear ht
        go_simp
        refine (Sum_any _ ls w htab.out hlw.out (by have := HLe.out.1; omega) (by intro l hl; have := HLe.out.2 l hl; omega) (by rw [HF.out]; have := HFl.out; omega)).mono ?_
        rintro r w8 ⟨rfl, hb8⟩
        exact ⟨_, rfl, hb8, congrArg arr8 (by rw [HF.out]; exact HS.out)⟩
      · intro a w ht hs hg -- 76
        have h11 := By.same_get hs 11 (by decide) (by kernel_rfl)
        refine By.yes rfl ?_
        clear hs hg
        go_simp
        exact ⟨_, rfl, Grew.refl _, rfl⟩
      · intro a w ht hs hg -- 77
        have h76 : a.tmps.getD 76 undef = _ := By.given_get hg 2 rfl rfl (by kernel_rfl)
        refine By.yes rfl ?_
        clear hs hg
        have hf' := Lib.hid (grew_bs HFV.out ht)
        clear ht
        rw [Array.getD_eq_getD_getElem?] at h76
        go_simp
        exact ⟨_, rfl, (Below.refl _ w).alloc (Nat.le_refl _) _, w.heap.size, rfl, bss_new (n := 1) (ls := [F]) (vs := [.slice Aa F.length ca]) (w := w) rfl rfl (.one hf'.out)⟩
      · intro a w ht hs hg -- 78
        have h77 := By.given_get hg 3 rfl rfl (by kernel_rfl)
        refine By.yes rfl ?_
        obtain ⟨v77, hv77⟩ : ∃ v, a.tmps.getD 77 undef = v := ⟨_, rfl⟩
        replace h77 := (congrArg (fun v => ((rdL [F] 1)).on v w) hv77).mp h77
        clear hs hg
        obtain ⟨g8, rfl, hs8⟩ := h77
        have Hs8 := Lib.hid hs8
        have htab := Lib.hid (HTV.out.below (show Below V.heap.size V w from ⟨ht.os, ht.tape, ht.output, ht.size, ht.block⟩) HTV.out.1)
        clear hs8 ht
        go_simp
        refine (Sum_any _ [F] w htab.out Hs8.out (by simp) (by intro l hl; simp at hl; subst hl; have := HFl.out; omega) (by simp; have := HFl.out; omega)).mono ?_
        rintro r w8 ⟨rfl, hb8⟩
        exact ⟨_, rfl, hb8, congrArg arr8 (by rw [show [F].flatten = F by simp]; exact HS.out)⟩
      · intro a w ht hs hg -- 79
        have h75 : a.tmps.getD 75 undef = _ := By.given_get hg 1 rfl rfl (by kernel_rfl)
        have h78 : a.tmps.getD 78 undef = _ := By.given_get hg 4 rfl rfl (by kernel_rfl)
        refine By.yes rfl ?_
        clear hs hg
        refine wp_eqArr _ _ rfl (by kernel_rfl) h75 h78 (eq32 S S HSl.out HSl.out w) ?_
        exact ⟨_, rfl, Grew.refl _, congrArg Value.bool (by simp)⟩
      · intro a w ht hs hg -- 80
        have h79 : a.tmps.getD 79 undef = _ := By.given_get hg 5 rfl rfl (by kernel_rfl)
        refine By.yes rfl ?_
        clear hs hg
        go_simp
        exact ⟨_, rfl, Grew.refl _, rfl⟩
      · intro a w ht hs hg -- 81
        have h1 := By.same_get hs 1 (by decide) (by kernel_rfl)
        have hg80 := By.given_get hg 6 rfl rfl (by kernel_rfl)
        refine By.yes (By.want_yes rfl rfl hg80) ?_
        clear hg80
        clear hs hg
        go_simp
        exact ⟨_, rfl, Grew.refl _, rfl⟩
      · intro a w ht hs hg -- 82
        have h0 := By.same_get hs 0 (by decide) (by kernel_rfl)
        have hg80 := By.given_get hg 6 rfl rfl (by kernel_rfl)
        refine By.yes (By.want_yes rfl rfl hg80) ?_
        clear hg80
        clear hs hg
        go_simp
        exact ⟨_, rfl, Grew.refl _, rfl⟩
      · intro a w ht hs hg -- 83
        have h81 : a.tmps.getD 81 undef = _ := By.given_get hg 7 rfl rfl (by kernel_rfl)
        have h82 : a.tmps.getD 82 undef = _ := By.given_get hg 8 rfl rfl (by kernel_rfl)
        have hg80 := By.given_get hg 6 rfl rfl (by kernel_rfl)
        refine By.yes (By.want_yes rfl rfl hg80) ?_
        clear hg80
        clear hs hg
        have htab := Lib.hid (HTV.out.below (show Below V.heap.size V w from ⟨ht.os, ht.tape, ht.output, ht.size, ht.block⟩) HTV.out.1)
        have hlw := Lib.hid ((HLV.out.below (show Below V.heap.size V w from ⟨ht.os, ht.tape, ht.output, ht.size, ht.block⟩)).more' ht.size)
        have hkw := Lib.hid (grew_bs HKV.out ht)
        clear ht
        go_simp
        refine (Mac_any _ _ key ls w htab.out hkw.out (by have := HKl.out; omega) hlw.out (by have := HLe.out.1; omega) (by intro l hl; have := HLe.out.2 l hl; omega) (by rw [HF.out]; have := HFl.out; omega)).mono ?_
        rintro r w8 ⟨rfl, hb8⟩
        exact ⟨_, rfl, hb8, congrArg arr8 (by rw [HF.out]; exact HMa.out)⟩
      · intro a w ht hs hg -- 84
        have h1 := By.same_get hs 1 (by decide) (by kernel_rfl)
        have hg80 := By.given_get hg 6 rfl rfl (by kernel_rfl)
        refine By.yes (By.want_yes rfl rfl hg80) ?_
        clear hg80
        clear hs hg
        go_simp
        exact ⟨_, rfl, Grew.refl _, rfl⟩
      · intro a w ht hs hg -- 85
        have h11 := By.same_get hs 11 (by decide) (by kernel_rfl)
        have hg80 := By.given_get hg 6 rfl rfl (by kernel_rfl)
        refine By.yes (By.want_yes rfl rfl hg80) ?_
        clear hg80
        clear hs hg
        go_simp
        exact ⟨_, rfl, Grew.refl _, rfl⟩
      · intro a w ht hs hg -- 86
        have h85 : a.tmps.getD 85 undef = _ := By.given_get hg 11 rfl rfl (by kernel_rfl)
        have hg80 := By.given_get hg 6 rfl rfl (by kernel_rfl)
        refine By.yes (By.want_yes rfl rfl hg80) ?_
        clear hg80
        clear hs hg
        have hf' := Lib.hid (grew_bs HFV.out ht)
        clear ht
        rw [Array.getD_eq_getD_getElem?] at h85
        go_simp
        exact ⟨_, rfl, (Below.refl _ w).alloc (Nat.le_refl _) _, w.heap.size, rfl, bss_new (n := 1) (ls := [F]) (vs := [.slice Aa F.length ca]) (w := w) rfl rfl (.one hf'.out)⟩
      · intro a w ht hs hg -- 87
        have h84 : a.tmps.getD 84 undef = _ := By.given_get hg 10 rfl rfl (by kernel_rfl)
        have h86 := By.given_get hg 12 rfl rfl (by kernel_rfl)
        have hg80 := By.given_get hg 6 rfl rfl (by kernel_rfl)
        refine By.yes (By.want_yes rfl rfl hg80) ?_
        clear hg80
        obtain ⟨v86, hv86⟩ : ∃ v, a.tmps.getD 86 undef = v := ⟨_, rfl⟩
        replace h86 := (congrArg (fun v => ((rdL [F] 1)).on v w) hv86).mp h86
        clear hs hg
        obtain ⟨g8, rfl, hs8⟩ := h86
        have Hs8 := Lib.hid hs8
        have htab := Lib.hid (HTV.out.below (show Below V.heap.size V w from ⟨ht.os, ht.tape, ht.output, ht.size, ht.block⟩) HTV.out.1)
        have hkw := Lib.hid (grew_bs HKV.out ht)
        clear hs8 ht
        go_simp
        refine (Mac_any _ _ key [F] w htab.out hkw.out (by have := HKl.out; omega) Hs8.out (by simp) (by intro l hl; simp at hl; subst hl; have := HFl.out; omega) (by simp; have := HFl.out; omega)).mono ?_
        rintro r w8 ⟨rfl, hb8⟩
        exact ⟨_, rfl, hb8, congrArg arr8 (by rw [show [F].flatten = F by simp]; exact HMa.out)⟩
      · intro a w ht hs hg -- 88
        have h83 : a.tmps.getD 83 undef = _ := By.given_get hg 9 rfl rfl (by kernel_rfl)
        have h87 : a.tmps.getD 87 undef = _ := By.given_get hg 13 rfl rfl (by kernel_rfl)
        have hg80 := By.given_get hg 6 rfl rfl (by kernel_rfl)
        refine By.yes (By.want_yes rfl rfl hg80) ?_
        clear hg80
        clear hs hg
        refine wp_eqArr _ _ rfl (by kernel_rfl) h83 h87 (eq32 M M HMal.out HMal.out w) ?_
        exact ⟨_, rfl, Grew.refl _, congrArg Value.bool (by simp)⟩
      · intro a w ht hs hg -- 89
        have h80 : a.tmps.getD 80 undef = _ := By.given_get hg 6 rfl rfl (by kernel_rfl)
        have h88 : a.tmps.getD 88 undef = _ := By.given_get hg 14 rfl rfl (by kernel_rfl)
        refine By.yes rfl ?_
        clear hs hg
        go_simp
        exact ⟨_, rfl, Grew.refl _, rfl⟩
      · intro a w ht hs hg -- 90
        have h89 : a.tmps.getD 89 undef = _ := By.given_get hg 15 rfl rfl (by kernel_rfl)
        refine By.yes rfl ?_
        clear hs hg
        go_simp
        exact ⟨_, rfl, Grew.refl _, rfl⟩
      · intro a w ht hs hg -- 91
        have h14 := By.same_get hs 14 (by decide) (by kernel_rfl)
        have hg90 := By.given_get hg 16 rfl rfl (by kernel_rfl)
        refine By.yes (By.want_yes rfl rfl hg90) ?_
        clear hg90
        clear hs hg
        go_simp
        exact ⟨_, rfl, Grew.refl _, rfl⟩
      · intro a w ht hs hg -- 92
        have h91 : a.tmps.getD 91 undef = _ := By.given_get hg 17 rfl rfl (by kernel_rfl)
        have hg90 := By.given_get hg 16 rfl rfl (by kernel_rfl)
        refine By.yes (By.want_yes rfl rfl hg90) ?_
        clear hg90
        clear hs hg
        go_simp
        exact ⟨_, rfl, Grew.refl _, rfl⟩
      · intro a w ht hs hg -- 93
        have h90 : a.tmps.getD 90 undef = _ := By.given_get hg 16 rfl rfl (by kernel_rfl)
        have h92 : a.tmps.getD 92 undef = _ := By.given_get hg 18 rfl rfl (by kernel_rfl)
        refine By.yes rfl ?_
        clear hs hg
        go_simp
        exact ⟨_, rfl, Grew.refl _, rfl⟩
      · intro a w ht hs hg -- 94
        have h93 : a.tmps.getD 93 undef = _ := By.given_get hg 19 rfl rfl (by kernel_rfl)
        refine By.yes rfl ?_
        clear hs hg
        go_simp
        exact ⟨_, rfl, Grew.refl _, rfl⟩
      · intro a w ht hs hg -- 95
        have h16 := By.same_get hs 16 (by decide) (by kernel_rfl)
        have hg94 := By.given_get hg 20 rfl rfl (by kernel_rfl)
        refine By.yes (By.want_yes rfl rfl hg94) ?_
        clear hg94
        clear hs hg
        go_simp
        exact ⟨_, rfl, Grew.refl _, rfl⟩
      · intro a w ht hs hg -- 96
        have h95 : a.tmps.getD 95 undef = _ := By.given_get hg 21 rfl rfl (by kernel_rfl)
        have hg94 := By.given_get hg 20 rfl rfl (by kernel_rfl)
        refine By.yes (By.want_yes rfl rfl hg94) ?_
        clear hg94
        clear hs hg
        go_simp
        exact ⟨_, rfl, Grew.refl _, rfl⟩
      · intro a w ht hs hg -- 97
        have h94 : a.tmps.getD 94 undef = _ := By.given_get hg 20 rfl rfl (by kernel_rfl)
        have h96 : a.tmps.getD 96 undef = _ := By.given_get hg 22 rfl rfl (by kernel_rfl)
        refine By.yes rfl ?_
        clear hs hg
        go_simp
        exact ⟨_, rfl, Grew.refl _, rfl⟩
      · intro a w ht hs hg -- 98
        have h97 : a.tmps.getD 97 undef = _ := By.given_get hg 23 rfl rfl (by kernel_rfl)
        refine By.yes rfl ?_
        clear hs hg
        go_simp
        exact ⟨_, rfl, Grew.refl _, rfl⟩
      · intro a w ht hs hg -- 99
        have h13 := By.same_get hs 13 (by decide) (by kernel_rfl)
        have hg98 := By.given_get hg 24 rfl rfl (by kernel_rfl)
        refine By.yes (By.want_yes rfl rfl hg98) ?_
        clear hg98
        clear hs hg
        go_simp
        exact ⟨_, rfl, Grew.refl _, rfl⟩
      · intro a w ht hs hg -- 100
        have h99 : a.tmps.getD 99 undef = _ := By.given_get hg 25 rfl rfl (by kernel_rfl)
        have hg98 := By.given_get hg 24 rfl rfl (by kernel_rfl)
        refine By.yes (By.want_yes rfl rfl hg98) ?_
        clear hg98
        clear hs hg
        go_simp
        exact ⟨_, rfl, Grew.refl _, rfl⟩
      · intro a w ht hs hg -- 101
        have h3 := By.same_get hs 3 (by decide) (by kernel_rfl)
        have hg98 := By.given_get hg 24 rfl rfl (by kernel_rfl)
        refine By.yes (By.want_yes rfl rfl hg98) ?_
        clear hg98
        clear hs hg
        go_simp
        exact ⟨_, rfl, Grew.refl _, rfl⟩
      · intro a w ht hs hg -- 102
        have h100 : a.tmps.getD 100 undef = _ := By.given_get hg 26 rfl rfl (by kernel_rfl)
        have h101 : a.tmps.getD 101 undef = _ := By.given_get hg 27 rfl rfl (by kernel_rfl)
        have hg98 := By.given_get hg 24 rfl rfl (by kernel_rfl)
        refine By.yes (By.want_yes rfl rfl hg98) ?_
        clear hg98
        clear hs hg
        go_simp
        exact ⟨_, rfl, Grew.refl _, congrArg Value.bool (by simp)⟩
      · intro a w ht hs hg -- 103
        have h98 : a.tmps.getD 98 undef = _ := By.given_get hg 24 rfl rfl (by kernel_rfl)
        have h102 : a.tmps.getD 102 undef = _ := By.given_get hg 28 rfl rfl (by kernel_rfl)
        refine By.yes rfl ?_
        clear hs hg
        go_simp
        exact ⟨_, rfl, Grew.refl _, rfl⟩
      · intro a w ht hs hg -- 104
        have h103 : a.tmps.getD 103 undef = _ := By.given_get hg 29 rfl rfl (by kernel_rfl)
        refine By.yes rfl ?_
        clear hs hg
        go_simp
        exact ⟨_, rfl, Grew.refl _, rfl⟩
      · intro a w ht hs hg -- 105
        have h15 := By.same_get hs 15 (by decide) (by kernel_rfl)
        have hg104 := By.given_get hg 30 rfl rfl (by kernel_rfl)
        refine By.yes (By.want_yes rfl rfl hg104) ?_
        clear hg104
        clear hs hg
        go_simp
        exact ⟨_, rfl, Grew.refl _, rfl⟩
      · intro a w ht hs hg -- 106
        have h105 : a.tmps.getD 105 undef = _ := By.given_get hg 31 rfl rfl (by kernel_rfl)
        have hg104 := By.given_get hg 30 rfl rfl (by kernel_rfl)
        refine By.yes (By.want_yes rfl rfl hg104) ?_
        clear hg104
        clear hs hg
        go_simp
        exact ⟨_, rfl, Grew.refl _, rfl⟩
      · intro a w ht hs hg -- 107
        have h4 := By.same_get hs 4 (by decide) (by kernel_rfl)
        have hg104 := By.given_get hg 30 rfl rfl (by kernel_rfl)
        refine By.yes (By.want_yes rfl rfl hg104) ?_
        clear hg104
        clear hs hg
        go_simp
        exact ⟨_, rfl, Grew.refl _, rfl⟩
      · intro a w ht hs hg -- 108
        have h106 : a.tmps.getD 106 undef = _ := By.given_get hg 32 rfl rfl (by kernel_rfl)
        have h107 : a.tmps.getD 107 undef = _ := By.given_get hg 33 rfl rfl (by kernel_rfl)
        have hg104 := By.given_get hg 30 rfl rfl (by kernel_rfl)
        refine By.yes (By.want_yes rfl rfl hg104) ?_
        clear hg104
        clear hs hg
        go_simp
        exact ⟨_, rfl, Grew.refl _, congrArg Value.bool (by simp)⟩
      · intro a w ht hs hg -- 109
        have h104 : a.tmps.getD 104 undef = _ := By.given_get hg 30 rfl rfl (by kernel_rfl)
        have h108 : a.tmps.getD 108 undef = _ := By.given_get hg 34 rfl rfl (by kernel_rfl)
        refine By.yes rfl ?_
        clear hs hg
        go_simp
        exact ⟨_, rfl, Grew.refl _, rfl⟩
      · intro a w ht hs hg -- 110
        have h109 : a.tmps.getD 109 undef = _ := By.given_get hg 35 rfl rfl (by kernel_rfl)
        refine By.yes rfl ?_
        clear hs hg
        go_simp
        exact ⟨_, rfl, Grew.refl _, rfl⟩
      · intro a w ht hs hg -- 111
        have h15 := By.same_get hs 15 (by decide) (by kernel_rfl)
        have hg110 := By.given_get hg 36 rfl rfl (by kernel_rfl)
        refine By.yes (By.want_yes rfl rfl hg110) ?_
        clear hg110
        clear hs hg
        go_simp
        exact ⟨_, rfl, Grew.refl _, rfl⟩
      · intro a w ht hs hg -- 112
        have h3 := By.same_get hs 3 (by decide) (by kernel_rfl)
        have hg110 := By.given_get hg 36 rfl rfl (by kernel_rfl)
        refine By.yes (By.want_yes rfl rfl hg110) ?_
        clear hg110
        clear hs hg
        go_simp
        exact ⟨_, rfl, Grew.refl _, rfl⟩
      · intro a w ht hs hg -- 113
        have h111 : a.tmps.getD 111 undef = _ := By.given_get hg 37 rfl rfl (by kernel_rfl)
        have h112 : a.tmps.getD 112 undef = _ := By.given_get hg 38 rfl rfl (by kernel_rfl)
        have hg110 := By.given_get hg 36 rfl rfl (by kernel_rfl)
        refine By.yes (By.want_yes rfl rfl hg110) ?_
        clear hg110
        clear hs hg
        go_simp
        exact ⟨_, rfl, Grew.refl _, rfl⟩
      · intro a w ht hs hg -- 114
        have h113 : a.tmps.getD 113 undef = _ := By.given_get hg 39 rfl rfl (by kernel_rfl)
        have hg110 := By.given_get hg 36 rfl rfl (by kernel_rfl)
        refine By.yes (By.want_yes rfl rfl hg110) ?_
        clear hg110
        clear hs hg
        have hr := run_str w (Bs.below (w := V.drew) HYC.out ht)
        go_simp
        exact ⟨_, rfl, Grew.refl _, rfl⟩
      · intro a w ht hs hg -- 115
        have h13 := By.same_get hs 13 (by decide) (by kernel_rfl)
        have hg110 := By.given_get hg 36 rfl rfl (by kernel_rfl)
        refine By.yes (By.want_yes rfl rfl hg110) ?_
        clear hg110
        clear hs hg
        go_simp
        exact ⟨_, rfl, Grew.refl _, rfl⟩
      · intro a w ht hs hg -- 116
        have h115 : a.tmps.getD 115 undef = _ := By.given_get hg 41 rfl rfl (by kernel_rfl)
        have hg110 := By.given_get hg 36 rfl rfl (by kernel_rfl)
        refine By.yes (By.want_yes rfl rfl hg110) ?_
        clear hg110
        clear hs hg
        have hr := run_str w (Bs.below (w := V.drew) HXC.out ht)
        go_simp
        exact ⟨_, rfl, Grew.refl _, rfl⟩
      · intro a w ht hs hg -- 117
        have h114 : a.tmps.getD 114 undef = _ := By.given_get hg 40 rfl rfl (by kernel_rfl)
        have h116 : a.tmps.getD 116 undef = _ := By.given_get hg 42 rfl rfl (by kernel_rfl)
        have hg110 := By.given_get hg 36 rfl rfl (by kernel_rfl)
        refine By.yes (By.want_yes rfl rfl hg110) ?_
        clear hg110
        clear hs hg
        unfold strOf at h114 h116
        go_simp
        exact ⟨_, rfl, Grew.refl _, congrArg Value.bool (by simp)⟩
      · intro a w ht hs hg -- 118
        have h110 : a.tmps.getD 110 undef = _ := By.given_get hg 36 rfl rfl (by kernel_rfl)
        have h117 : a.tmps.getD 117 undef = _ := By.given_get hg 43 rfl rfl (by kernel_rfl)
        refine By.yes rfl ?_
        clear hs hg
        go_simp
        exact ⟨_, rfl, Grew.refl _, rfl⟩
      · intro a w ht hs hg -- 119
        have h118 : a.tmps.getD 118 undef = _ := By.given_get hg 44 rfl rfl (by kernel_rfl)
        refine By.yes rfl ?_
        clear hs hg
        go_simp
        exact ⟨_, rfl, Grew.refl _, rfl⟩
      · intro a w ht hs hg -- 120
        have h18 := By.same_get hs 18 (by decide) (by kernel_rfl)
        have hg119 := By.given_get hg 45 rfl rfl (by kernel_rfl)
        refine By.yes (By.want_yes rfl rfl hg119) ?_
        clear hg119
        clear hs hg
        go_simp
        exact ⟨_, rfl, Grew.refl _, rfl⟩
      · intro a w ht hs hg -- 121
        have h120 : a.tmps.getD 120 undef = _ := By.given_get hg 46 rfl rfl (by kernel_rfl)
        have hg119 := By.given_get hg 45 rfl rfl (by kernel_rfl)
        refine By.yes (By.want_yes rfl rfl hg119) ?_
        clear hg119
        clear hs hg
        go_simp
        exact ⟨_, rfl, Grew.refl _, rfl⟩
      · intro a w ht hs hg -- 122
        have h119 : a.tmps.getD 119 undef = _ := By.given_get hg 45 rfl rfl (by kernel_rfl)
        have h121 : a.tmps.getD 121 undef = _ := By.given_get hg 47 rfl rfl (by kernel_rfl)
        refine By.yes rfl ?_
        clear hs hg
        go_simp
        exact ⟨_, rfl, Grew.refl _, rfl⟩
      · intro a w ht hs hg -- 123
        have h122 : a.tmps.getD 122 undef = _ := By.given_get hg 48 rfl rfl (by kernel_rfl)
        refine By.yes rfl ?_
        clear hs hg
        go_simp
        exact ⟨_, rfl, Grew.refl _, rfl⟩
      · intro a w ht hs hg -- 124
        have h17 := By.same_get hs 17 (by decide) (by kernel_rfl)
        have hg123 := By.given_get hg 49 rfl rfl (by kernel_rfl)
        refine By.yes (By.want_yes rfl rfl hg123) ?_
        clear hg123
        clear hs hg
        go_simp
        exact ⟨_, rfl, Grew.refl _, rfl⟩
      · intro a w ht hs hg -- 125
        have h124 : a.tmps.getD 124 undef = _ := By.given_get hg 50 rfl rfl (by kernel_rfl)
        have hg123 := By.given_get hg 49 rfl rfl (by kernel_rfl)
        refine By.yes (By.want_yes rfl rfl hg123) ?_
        clear hg123
        clear hs hg
        have hr := run_str w (Bs.below (w := V.drew) HZC.out ht)
        go_simp
        exact ⟨_, rfl, Grew.refl _, rfl⟩
      · intro a w ht hs hg -- 126
        have h19 := By.same_get hs 19 (by decide) (by kernel_rfl)
        have hg123 := By.given_get hg 49 rfl rfl (by kernel_rfl)
        refine By.yes (By.want_yes rfl rfl hg123) ?_
        clear hg123
        clear hs hg
        go_simp
        exact ⟨_, rfl, Grew.refl _, rfl⟩
      · intro a w ht hs hg -- 127
        have h126 : a.tmps.getD 126 undef = _ := By.given_get hg 52 rfl rfl (by kernel_rfl)
        have hg123 := By.given_get hg 49 rfl rfl (by kernel_rfl)
        refine By.yes (By.want_yes rfl rfl hg123) ?_
        clear hg123
        clear hs hg
        have hr := run_str w (Bs.below (w := V.drew) HWV.out ht)
        go_simp
        exact ⟨_, rfl, Grew.refl _, rfl⟩
      · intro a w ht hs hg -- 128
        have h125 : a.tmps.getD 125 undef = _ := By.given_get hg 51 rfl rfl (by kernel_rfl)
        have h127 : a.tmps.getD 127 undef = _ := By.given_get hg 53 rfl rfl (by kernel_rfl)
        have hg123 := By.given_get hg 49 rfl rfl (by kernel_rfl)
        refine By.yes (By.want_yes rfl rfl hg123) ?_
        clear hg123
        clear hs hg
        unfold strOf at h125 h127
        go_simp
        exact ⟨_, rfl, Grew.refl _, congrArg Value.bool (by simp)⟩
      · intro a w ht hs hg -- 129
        have h123 : a.tmps.getD 123 undef = _ := By.given_get hg 49 rfl rfl (by kernel_rfl)
        have h128 : a.tmps.getD 128 undef = _ := By.given_get hg 54 rfl rfl (by kernel_rfl)
        refine By.yes rfl ?_
        clear hs hg
        go_simp
        exact ⟨_, rfl, Grew.refl _, rfl⟩
      · intro a w ht hs hg -- 10
        have h129 : a.tmps.getD 129 undef = _ := By.given_get hg 55 rfl rfl (by kernel_rfl)
        refine By.yes rfl ?_
        clear hs hg
        go_simp
        exact ⟨_, rfl, Grew.refl _, rfl⟩
      refine By.ends_is (By.ends_is (By.ends_is (By.ends_skip fun v77 => (By.ends_is (By.ends_is (By.ends_is (By.ends_is (By.ends_is (By.ends_is (By.ends_is (By.ends_is (By.ends_skip fun v86 => (By.ends_is (By.ends_is (By.ends_is (By.ends_is (By.ends_is (By.ends_is (By.ends_is (By.ends_is (By.ends_is (By.ends_is (By.ends_is (By.ends_is (By.ends_is (By.ends_is (By.ends_is (By.ends_is (By.ends_is (By.ends_is (By.ends_is (By.ends_is (By.ends_is (By.ends_is (By.ends_is (By.ends_is (By.ends_is (By.ends_is (By.ends_is (By.ends_is (By.ends_is (By.ends_is (By.ends_is (By.ends_is (By.ends_is (By.ends_is (By.ends_is (By.ends_is (By.ends_is (By.ends_is (By.ends_is (By.ends_is (By.ends_is (By.ends_is (By.ends_is (By.ends_is (By.ends_nil fun w9 hw9 => ?_)))))))))))))))))))))))))))))))))))))))))))))))))))))))))
      simp only [Act.put, List.setIfInBounds_toArray, List.set_cons_succ, List.set_cons_zero]
      have HB9 := Lib.hid (nextB HBV.out (Nat.le_refl _) (show Below V.heap.size V w9 from ⟨hw9.os, hw9.tape, hw9.output, hw9.size, hw9.block⟩))
      clear hw9
      go_wp2
      go_ret
      exact ⟨rfl, HB9.out⟩

set_option maxRecDepth 100000 in
theorem lift (os : Os) (started : os.Started) (H : Type) (enc : TypeId × Value → H) :
    ReturnsInHanded {} Tryd.checked os 5 .any (fun w args => (Rows.hkdfCutsSpec.pre enc Tryd.prog Tryd.f5 Rows.hkdfCutsRow.domain false w args ∧ laidMetH Tryd.prog Hk.laidL w) ∧ sizedMet enc Tryd.prog Tryd.f5 (OpenSpec.ofChange Rows.hkdfCutsSpec) false w args) (Rows.hkdfCutsSpec.post enc Tryd.prog Tryd.f5 false true false false) := by
  refine Hk.lifted 4 Pol.own started (by kernel_rfl) Tryd.func5 Pol.laid (by kernel_rfl) rfl Tryd.underlying4 rfl
    (fun ds hd => by
      have hd' : ds.length = 5 := hd
      match ds, hd' with
      | [d0, d1, d2, d3, d4], _ => rfl)
    (ChangeSpec.witness_at (enc := enc) (C := Tryd.checked) (os := os) (X := fun w _ => laidMetH Tryd.prog Hk.laidL w) false (Hk.laidWorld os) #[.slice none 0 0, .slice none 0 0, .agg #[.int .u8 0, .int .u8 0, .int .u8 0, .int .u8 0, .int .u8 0, .int .u8 0, .int .u8 0, .int .u8 0, .int .u8 0, .int .u8 0, .int .u8 0, .int .u8 0, .int .u8 0, .int .u8 0, .int .u8 0, .int .u8 0, .int .u8 0, .int .u8 0, .int .u8 0, .int .u8 0, .int .u8 0, .int .u8 0, .int .u8 0, .int .u8 0, .int .u8 0, .int .u8 0, .int .u8 0, .int .u8 0, .int .u8 0, .int .u8 0, .int .u8 0, .int .u8 0], .int .i64 0, .int .i64 0] 8 rfl (by kernel_rfl) (by kernel_rfl) (by kernel_rfl) (by kernel_rfl) (by kernel_rfl) (Hk.laid_metH os _)) ?_
  intro W args ds ps hst htab
  have hA : DataW.TrodAll enc Tryd.prog W 0 (fun _ => true) true Tryd.f5.params.toList args.toList ds ps := hst.trod
  have hok := hst.okw
  have hlt := hst.lt
  rw [Tryd.params5] at hA hok
  obtain ⟨v0, r0, d0, e0, p0, q0, hargs, rfl, rfl, h0, hA⟩ := trodAll_cons hA
  obtain ⟨v1, r1, d1, e1, p1, q1, rfl, rfl, rfl, h1, hA⟩ := trodAll_cons hA
  obtain ⟨v2, r2, d2, e2, p2, q2, rfl, rfl, rfl, h2, hA⟩ := trodAll_cons hA
  obtain ⟨v3, r3, d3, e3, p3, q3, rfl, rfl, rfl, h3, hA⟩ := trodAll_cons hA
  obtain ⟨v4, r4, d4, e4, p4, q4, rfl, rfl, rfl, h4, hA⟩ := trodAll_cons hA
  obtain ⟨rfl, rfl, rfl⟩ := trodAll_nil hA
  obtain rfl : args = #[v0, v1, v2, v3, v4] := by cases args; simp_all
  obtain ⟨_, hv0⟩ := hok 0 35 v0 rfl rfl
  obtain ⟨_, hv1⟩ := hok 1 22 v1 rfl rfl
  obtain ⟨_, hv2⟩ := hok 2 26 v2 rfl rfl
  obtain ⟨_, hv3⟩ := hok 3 3 v3 rfl rfl
  obtain ⟨_, hv4⟩ := hok 4 3 v4 rfl rfl
  obtain ⟨ls, hls, _⟩ := lists_trod Tryd.underlying35 hv0 h0 (fun x hx => hlt x (by simp [hx]))
  obtain ⟨key, hk, _⟩ := Law.bytes_at Tryd.underlying22 hv1 h1 (fun x hx => hlt x (by simp [hx]))
  obtain ⟨k32, rfl, h32⟩ := arr8_at (P := Tryd.prog) Tryd.underlying26 (by kernel_rfl) (by kernel_rfl) Tryd.underlying5 hv2
  obtain ⟨m, rfl, hm1, hm2⟩ := Law.int_at Tryd.underlying3 hv3 h3
  obtain ⟨n, rfl, hn1, hn2⟩ := Law.int_at Tryd.underlying3 hv4 h4
  have hls0 := hls
  obtain ⟨A0, c0, rfl, _, _⟩ := hls0
  have hk0 := hk
  obtain ⟨A, c, rfl, _, _⟩ := hk0
  by_cases hl : light ls 20 400 = true
  · by_cases h4 : 400 < key.length
    · exact walkT ls key _ A c key.length k32 m n W htab hls (.inr h4)
    · exact walkM ls key k32 A0 A c0 c m n W htab hls hk hl (by omega) h32 ⟨hm1, hm2⟩ ⟨hn1, hn2⟩
  · exact walkT ls key _ A c key.length k32 m n W htab hls (.inl (by simpa using hl))

theorem over : Rows.hkdfCutsRow.holds Tryd.pinned (OpenSpec.ofChange Rows.hkdfCutsSpec) :=
  OpenClaim.holds_of_wide 5 Tryd.f5 rfl rfl rfl rfl rfl rfl rfl ⟨rfl, rfl, rfl, rfl, rfl⟩ rfl rfl rfl rfl rfl (by kernel_rfl) Tryd.func5 (by kernel_rfl)
    (of_decide_eq_true (by kernel_rfl)) (by unfold Func.isWrapper; first | (rw [if_pos (by decide +kernel)]; kernel_rfl) | (rw [if_neg (by decide +kernel)]; exact ⟨rfl, rfl⟩))
    (fun os started H enc _ => lift os started H enc)
theorem proved : Rows.HkdfCutsCardSaid :=
  Claim7.holds_tied_plain_at .later [] [.data] true Rows.hkdfCutsCard.stood.harness false over (fun _ h => by cases h) (by kernel_rfl) (fun _ h => by cases h) hkdfCuts_row_tie rfl ⟨rfl, rfl⟩ (by kernel_rfl) rfl
    (fun f fn hf hfn => by
      obtain rfl : f = 5 := (Option.some.inj ((show Tryd.prog.funcNamed Rows.hkdfCutsRow.func = some 5 by kernel_rfl).symm.trans hf)).symm
      obtain rfl : fn = Tryd.f5 := (Option.some.inj (Tryd.func5.symm.trans hfn)).symm
      refine ⟨by kernel_rfl, fun j t ht => ?_⟩
      have hall : (Tryd.f5.params.toList.all fun t => Tryd.prog.wantsStandIn t == false) = true := by kernel_rfl
      have h := List.all_eq_true.1 hall t (Array.mem_toList_iff.2 (Array.mem_of_getElem? ht))
      exact eq_of_beq h)
    (by kernel_rfl)
#print axioms proved
end Go.Proofs.YtaamkgchophpeaaDoor.hkdfCuts

