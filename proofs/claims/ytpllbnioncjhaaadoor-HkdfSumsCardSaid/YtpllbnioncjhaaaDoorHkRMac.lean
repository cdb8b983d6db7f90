/- The reference's Mac. -/
import Derived.Test.YtpllbnioncjhaaaDoorHkRSum
import Derived.Test.YtpllbnioncjhaaaDoorHkMac
import Derived.Laws.CopyOwn
import Derived.ArgAppend
import Derived.BigRegion
namespace Go.Proofs.YtpllbnioncjhaaaDoor
open Go.RowKit
theorem splice_key (l : List UInt8) (hl : l.length ≤ 64) : splice ((List.replicate 64 (0 : UInt8)).map bv) 0 (l.map bv) = (l ++ List.replicate (64 - l.length) (0 : UInt8)).map bv := by
  unfold splice
  rw [List.take_zero, List.nil_append, Nat.zero_add, List.length_map, ← List.map_drop, List.drop_replicate, List.map_append]
/-- 'copy' of at most 64 bytes into 64 zeros. -/
theorem wpList_copy_key {w : World} {ops : Array Oper} {rest : List Oper} {o : Oper} {a : Act} {Q : Exit → Act → World → Prop} (hgd : o.guard = none) (d s : Operand)
    (ho : o.op = .call { callee := .builtin .copy, args := #[d, s], argTypes := #[22, 22] }) {g B c2 : Nat} {y : Value} {l : List UInt8} {t : TypeId}
    (hd : a.eval d = .slice (some ⟨g, 0, none⟩) 64 c2) (hs : a.eval s = y) (hy : Bs w B y l) (hl : l.length ≤ 64) (hg : Row w g ((List.replicate 64 (0 : UInt8)).map bv) t)
    (h : ∀ w', Row w' g ((l ++ List.replicate (64 - l.length) (0 : UInt8)).map bv) t → Ev.Keep ⟨w, fun k => k = g⟩ w' → wpList Tryd.prog ops Q rest (a.put o.dst (goInt l.length)) w') : wpList Tryd.prog ops Q (o :: rest) a w := by
  obtain ⟨A, c, rfl, _, hcs⟩ := hy
  by_cases hne : l = []
  · subst hne
    refine wpList_copy_nothing hgd d s 22 22 ho 5 (by kernel_rfl) (by kernel_rfl) _ _ _ _ _ _ hd hs (by simp) (h w ?_ ⟨rfl, rfl, rfl, Nat.le_refl _, fun _ _ => rfl⟩)
    exact hg
  · obtain ⟨b, off, rfl, _, hcell⟩ := hcs hne
    refine wpList_copy_keep hgd d s 22 22 ho 5 (by kernel_rfl) (by kernel_rfl) hd hs hg (l.map bv) (by rw [List.length_map]; exact (Nat.min_eq_left hl).symm) ?_ (by rw [List.length_map]; simp; exact hl) (bytes_one _) ?_
    · intro j v hv
      rw [List.getElem?_map, Option.map_eq_some_iff] at hv
      obtain ⟨u, hu, rfl⟩ := hv
      rw [show (⟨b, off, none⟩ : Addr).add j = ⟨b, off + j, none⟩ by unfold Addr.add; split <;> simp_all]
      exact hcell j u hu
    · intro w' h1 h2
      rw [splice_key l hl] at h1
      rw [List.length_map]
      exact h w' h1 h2
theorem masked_at (K : List UInt8) (m : UInt8) (i : Nat) (x : UInt8) (h : (K ++ List.replicate (64 - K.length) (0 : UInt8))[i]? = some x) : (Sha.masked K m)[i]? = some (x ^^^ m) := by
  unfold Sha.masked
  rw [List.getElem?_map, h, UInt8.xor_comm]
  rfl
/-- append onto a slice that is full: what lies behind it is not touched. -/
theorem run_app_full (w : World) (ty : TypeId) {b off n B : Nat} {y : Value} {l m : List UInt8} (hl : l.length = n) (hx : ∀ (i : Nat) (u : UInt8), l[i]? = some u → w.cell? ⟨b, off + i, none⟩ = some (bv u)) (hb : b < w.heap.size) (hy : Bs w B y m) (hlen : l.length + m.length ≤ 1000000000) :
    ∃ v' w', (Builtin.append_ #[22, 22] ty #[.slice (some ⟨b, off, none⟩) n n, y]).run Tryd.prog w = .ok v' w' ∧ (∃ b' o' c', v' = .slice (some ⟨b', o', none⟩) (l ++ m).length c' ∧ (l ++ m).length ≤ c' ∧ b' < w'.heap.size ∧ ∀ (i : Nat) (u : UInt8), (l ++ m)[i]? = some u → w'.cell? ⟨b', o' + i, none⟩ = some (bv u)) ∧ Below w.heap.size w w' := by
  obtain ⟨i, hi, hz, hs, hbb⟩ := info_u8
  obtain ⟨A, c, rfl, hc, hcell⟩ := hy
  by_cases hm : m = []
  · subst hm
    refine ⟨_, w, ?_, ⟨b, off, n, by rw [List.append_nil, hl], by rw [List.append_nil, hl]; exact Nat.le_refl _, hb, by rw [List.append_nil]; exact hx⟩, Below.refl _ _⟩
    have hrun := Ev.run_append_fit (P := Tryd.prog) (ty := ty) (base := some ⟨b, off, none⟩) (m := n) (n := 0) (c := n) (x := .slice A 0 c) (w := w) (new := #[]) Tryd.underlying22 Tryd.underlying22 (.inr ⟨_, rfl⟩) hi rfl (by cases A <;> simp [Builtin.firstCells, loadCells, loadCellsFrom]) (by omega)
    rw [List.length_nil, hrun]
    simp [storeCells]
  · obtain ⟨b2, off2, rfl, _, h4⟩ := hcell hm
    have h0 : 0 < m.length := List.length_pos_iff.2 hm
    obtain ⟨v', w', hr, h1, h2⟩ := run_append_arg_grows (P := Tryd.prog) w 22 ty 5 i (.int .u8 0) 1 1 Tryd.underlying22 hi hz hs hbb rfl (by decide) ⟨b, off, none⟩ n n (l.map bv) (by simp [hl]) (fun j u hj => by
      rw [List.getElem?_map, Option.map_eq_some_iff] at hj
      obtain ⟨x, hx2, rfl⟩ := hj
      rw [show (⟨b, off, none⟩ : Addr).add j = ⟨b, off + j, none⟩ by unfold Addr.add; split <;> simp_all]
      exact hx j x hx2) ⟨b2, off2, none⟩ m.length c (m.map bv) (by simp) (fun j u hj => by
      rw [List.getElem?_map, Option.map_eq_some_iff] at hj
      obtain ⟨x, hx2, rfl⟩ := hj
      rw [show (⟨b2, off2, none⟩ : Addr).add j = ⟨b2, off2 + j, none⟩ by unfold Addr.add; split <;> simp_all]
      exact h4 j x hx2) (by omega) (by unfold maxLen; omega) (by omega)
    have hown : Own w' w.heap.size v' (l ++ m) := by
      unfold Own
      rw [List.length_append, hl, List.map_append]
      exact h1
    obtain ⟨A5, c5, e5, h5, h6⟩ := hown.bs
    obtain ⟨b', o', rfl, h7, h8⟩ := h6 (by intro h; exact hm (List.append_eq_nil_iff.1 h).2)
    exact ⟨v', w', hr, ⟨b', o', c5, e5, h5, h7, h8⟩, (Below.refl _ w).grown h2 (Nat.le_refl _) (fun k hk => by cases hk)⟩
theorem wp_app_full {o : Oper} {a : Act} {w : World} {K : Act → World → Prop} {Q : Exit → Act → World → Prop} (s x : Operand) (ho : o.op = .call { callee := .builtin .append, args := #[s, x], argTypes := #[22, 22] }) {b off n B : Nat} {y : Value} {l m : List UInt8}
    (hs : a.eval s = .slice (some ⟨b, off, none⟩) n n) (hl : l.length = n) (hcx : ∀ (i : Nat) (u : UInt8), l[i]? = some u → w.cell? ⟨b, off + i, none⟩ = some (bv u)) (hb : b < w.heap.size) (hx : a.eval x = y) (hy : Bs w B y m) (hlen : l.length + m.length ≤ 1000000000)
    (h : ∀ v' w', (∃ b' o' c', v' = .slice (some ⟨b', o', none⟩) (l ++ m).length c' ∧ (l ++ m).length ≤ c' ∧ b' < w'.heap.size ∧ ∀ (i : Nat) (u : UInt8), (l ++ m)[i]? = some u → w'.cell? ⟨b', o' + i, none⟩ = some (bv u)) → Below w.heap.size w w' → K (a.put o.dst v') w') : o.wp Tryd.prog a w K Q := by
  obtain ⟨v', w', hr, h2, h3⟩ := run_app_full w o.type hl hcx hb hy hlen
  unfold Oper.wp execOp
  simp only [ho, resolve, invoke, builtin, Sem.run_bind, Sem.run_pure, Result.andThen_ok, List.map_toArray, List.map_cons, List.map_nil, hs, hx, hr]
  exact h v' w' h2 h3
/-- Bytes somewhere, with an address. -/
def AtB (w : World) (v : Value) (l : List UInt8) : Prop := ∃ b' o' c', v = .slice (some ⟨b', o', none⟩) l.length c' ∧ l.length ≤ c' ∧ b' < w.heap.size ∧ ∀ (i : Nat) (u : UInt8), l[i]? = some u → w.cell? ⟨b', o' + i, none⟩ = some (bv u)
theorem AtB.below {w w' : World} {v : Value} {l : List UInt8} (h : AtB w v l) (hb : Below w.heap.size w w') : AtB w' v l := by
  obtain ⟨b, o, c, h1, h2, h3, h4⟩ := h
  exact ⟨b, o, c, h1, h2, Nat.lt_of_lt_of_le h3 hb.size, fun i u hu => (hb.cell (p := ⟨b, o + i, none⟩) h3).trans (h4 i u hu)⟩
theorem AtB.bs {w : World} {v : Value} {l : List UInt8} (h : AtB w v l) : Bs w w.heap.size v l := by
  obtain ⟨b, o, c, h1, h2, h3, h4⟩ := h
  exact ⟨_, c, h1, h2, fun _ => ⟨b, o, rfl, h3, h4⟩⟩
theorem AtB.cells {w : World} {b o n c : Nat} {l : List UInt8} (h : AtB w (.slice (some ⟨b, o, none⟩) n c) l) : ∀ (i : Nat) (u : UInt8), l[i]? = some u → w.cell? ⟨b, o + i, none⟩ = some (bv u) := by
  obtain ⟨b', o', c', h1, h2, h3, h4⟩ := h
  simp only [Value.slice.injEq, Option.some.injEq, Addr.mk.injEq] at h1
  obtain ⟨⟨rfl, rfl, _⟩, _, _⟩ := h1
  exact h4
theorem AtB.lt {w : World} {b o n c : Nat} {l : List UInt8} (h : AtB w (.slice (some ⟨b, o, none⟩) n c) l) : b < w.heap.size := by
  obtain ⟨b', o', c', h1, h2, h3, h4⟩ := h
  simp only [Value.slice.injEq, Option.some.injEq, Addr.mk.injEq] at h1
  obtain ⟨⟨rfl, rfl, _⟩, _, _⟩ := h1
  exact h3
def atM (l : List UInt8) : By.Mark Grew := ⟨fun v w => AtB w v l, fun _ _ _ h k => h.below k⟩
def bsM (l : List UInt8) : By.Mark Grew := ⟨fun v w => Bs w w.heap.size v l, fun _ _ _ h k => (h.below k).more k.size⟩
set_option maxRecDepth 100000 in
set_option maxHeartbeats 2000000 in
theorem RMac_any (v lv : Value) (key : List UInt8) (ls : List (List UInt8)) (w : World) (ht : Tab w) (hk : Bs w w.heap.size v key) (hkl : key.length ≤ 1000000) (hb : Bss w w.heap.size lv ls) (hn : ls.length ≤ 100) (hf : ls.flatten.length ≤ 1000000) :
    Calls Tryd.prog 16 #[v, lv] w fun e w' => e = .returned (arr8 (Sha.mac key ls.flatten)) ∧ Below w.heap.size w w' := by
  obtain ⟨A, c, rfl, _, _⟩ := id hk
  obtain ⟨Al, cl, rfl, hlc, hlcs⟩ := id hb
  have Ht := Lib.hid ht
  have Hk := Lib.hid hk
  have Hls := Lib.hid hb
  have Hlcs := Lib.hid hlcs
  have Hn := Lib.hid hn
  have Hf := Lib.hid hf
  have Hkl := Lib.hid hkl
  clear ht hb hn hf hlcs hlc hk hkl
  obtain ⟨gk, hgk⟩ : ∃ g, w.heap.size + 1 = g := ⟨_, rfl⟩
  obtain ⟨gi, hgi⟩ : ∃ g, gk + 1 = g := ⟨_, rfl⟩
  obtain ⟨go, hgo⟩ : ∃ g, gi + 1 = g := ⟨_, rfl⟩
  have Hgk := Lib.hid hgk
  have Hgi := Lib.hid hgi
  have Hgo := Lib.hid hgo
  obtain ⟨W0, hW0⟩ : ∃ W0, (((w.alloc (.cells ((List.replicate 32 (0 : UInt8)).map bv).toArray 23)).alloc (.cells ((List.replicate 64 (0 : UInt8)).map bv).toArray 65)).alloc (.cells ((List.replicate 64 (0 : UInt8)).map bv).toArray 65)).alloc (.cells ((List.replicate 64 (0 : UInt8)).map bv).toArray 65) = W0 := ⟨_, rfl⟩
  have HR0 := Lib.hid (show Row W0 w.heap.size ((List.replicate 32 (0 : UInt8)).map bv) 23 from hW0 ▸ (((Row.new rfl rfl).alloc _).alloc _).alloc _)
  have HK0 := Lib.hid (show Row W0 gk ((List.replicate 64 (0 : UInt8)).map bv) 65 from hW0 ▸ ((Row.new (by simp; omega) rfl).alloc _).alloc _)
  have HI0 := Lib.hid (show Row W0 gi ((List.replicate 64 (0 : UInt8)).map bv) 65 from hW0 ▸ (Row.new (by simp; omega) rfl).alloc _)
  have HO0 := Lib.hid (show Row W0 go ((List.replicate 64 (0 : UInt8)).map bv) 65 from hW0 ▸ Row.new (by simp; omega) rfl)
  have HB0 := Lib.hid (show Below w.heap.size w W0 from hW0 ▸ ((((Below.refl _ w).alloc (Nat.le_refl _) _).alloc (by simp) _).alloc (by simp; omega) _).alloc (by simp; omega) _)
  have HS0 := Lib.hid (show go + 1 = W0.heap.size by rw [← hW0]; simp; omega)
  by_cases h64 : 64 < key.length
  · have h64' : (64 : Int) < (key.length : Int) := by omega
    have Hsh := Lib.hid (show Sha.short key = Sha.sum key by rw [Sha.short, if_pos h64])
    go_enter Tryd.func16, Tryd.ntmps16
    go_wp2_with fail
    have hWa : ((((w.alloc (.cells ((List.replicate 32 (0 : UInt8)).map bv).toArray 23)).alloc (.cells ((List.replicate 64 (0 : UInt8)).map bv).toArray 65)).alloc (.cells ((List.replicate 64 (0 : UInt8)).map bv).toArray 65)).alloc (.cells ((List.replicate 64 (0 : UInt8)).map bv).toArray 65)).alloc (.cells #[.slice A key.length c] 22) = W0.alloc (.cells #[.slice A key.length c] 22) := by rw [hW0]
    refine calls_in hWa ?_
    clear hWa hgk hgi hgo hW0
    have HWA := Lib.hid (show Below W0.heap.size W0 (W0.alloc (.cells #[.slice A key.length c] 22)) from (Below.refl _ W0).alloc (Nat.le_refl _) _)
    have hss0 := bss_new (n := 1) (ls := [key]) (vs := [.slice A key.length c]) (w := W0) rfl rfl (.one ((Hk.out.below HB0.out).more HB0.out.size))
    have hTab0 := (Ht.out.below HB0.out Ht.out.1).below HWA.out (by have := HS0.out; have := Ht.out.1; have := HB0.out.size; omega)
    have hsum0 := RSum_any _ [key] (W0.alloc (.cells #[.slice A key.length c] 22)) hTab0 hss0 (by simp) (by have := Hkl.out; simp; omega)
    rw [← HS0.out] at hsum0
    refine (show Calls _ _ _ _ _ from hsum0).mono ?_
    rintro e w1 ⟨rfl, hb1⟩
    have hb01 := nextB HWA.out (Nat.le_refl _) hb1
    have Hb01 := Lib.hid (show Below (go + 1) W0 w1 from HS0.out ▸ hb01)
    clear hb1 hb01 hsum0 hss0 hTab0
    rw [show [key].flatten = key by simp]
    obtain ⟨K, hK⟩ : ∃ K, Sha.sum key = K := ⟨_, rfl⟩
    have hKl : K.length = 32 := by rw [← hK]; exact Sha.sum_length _
    rw [hK]
    have HKe := Lib.hid (show Sha.short key = K by rw [Hsh.out, hK])
    have HK32 := Lib.hid hKl
    have HKm := Lib.hid (show (K.map bv).length = 32 by rw [List.length_map]; exact hKl)
    have HKl := Lib.hid (show K.length ≤ 64 by omega)
    have HR1 := Lib.hid (HR0.out.below Hb01.out (by have := Hgk.out; have := Hgi.out; have := Hgo.out; omega))
    have HK1 := Lib.hid (HK0.out.below Hb01.out (by have := Hgi.out; have := Hgo.out; omega))
    have HI1 := Lib.hid (HI0.out.below Hb01.out (by have := Hgo.out; omega))
    have HO1 := Lib.hid (HO0.out.below Hb01.out (by omega))
    have HB1 := Lib.hid (HB0.out.trans (Hb01.out.mono (by have := Hgk.out; have := Hgi.out; have := Hgo.out; omega)))
    clear hK hKl h64 h64'
    unfold arr8
    go_wp2_with (first
      | (show wpList _ _ _ (⟨none, Op.store 23 _ _, _, _, _, _⟩ :: _) _ _; refine wpList_storeRow (g := w1.heap.size) rfl 23 _ _ rfl rfl rfl (cs := K.map bv) (old := (List.replicate 32 (0 : UInt8)).map bv) (Row.new rfl rfl) (by kernel_rfl) HKm.out (by simp) (bytes_one K) ?_)
      | fail)
    obtain ⟨V, hV⟩ : ∃ V, (w1.alloc (.cells ((List.replicate 32 (0 : UInt8)).map bv).toArray 23)).setRow w1.heap.size (K.map bv).toArray = V := ⟨_, rfl⟩
    have HBv := Lib.hid (show Below w1.heap.size w1 V from hV ▸ below_setRow ((Below.refl w1.heap.size w1).alloc (Nat.le_refl _) (.cells ((List.replicate 32 (0 : UInt8)).map bv).toArray 23)) (Nat.le_refl _) _)
    have hr8 : Row V w1.heap.size (K.map bv) 23 := hV ▸ (Row.new (cs := (List.replicate 32 (0 : UInt8)).map bv) rfl rfl).setRow (K.map bv)
    have hk8 : Bs V V.heap.size (.slice (some ⟨w1.heap.size, 0, none⟩) 32 32) K := by
      have h1 := hr8.bs (B := V.heap.size) hr8.lt
      rwa [HK32.out] at h1
    have Hk8 := Lib.hid hk8
    have HR2 := Lib.hid (HR1.out.below HBv.out HR1.out.lt)
    have HK2 := Lib.hid (HK1.out.below HBv.out HK1.out.lt)
    have HI2 := Lib.hid (HI1.out.below HBv.out HI1.out.lt)
    have HO2 := Lib.hid (HO1.out.below HBv.out HO1.out.lt)
    have HB2 := Lib.hid (nextB HB1.out (Nat.le_refl _) HBv.out)
    refine code_world hV ?_
    clear hV hr8 hk8
    obtain ⟨g8, hg8⟩ : ∃ g8, w1.heap.size = g8 := ⟨_, rfl⟩
    rw [hg8] at Hk8 ⊢
    clear hg8
    go_still_tail 2, Pol.mixed
    change wpList _ _ _ _ _ V.drew
    refine wpList_copy_key (w := V.drew) rfl (.tmp 19) (.tmp 20) rfl (g := gk) rfl rfl Hk8.out HKl.out HK2.out ?_
    intro W hcW hkW
    have HKr := Lib.hid hcW
    have HIr := Lib.hid (Row.keep (w := V.drew) HI2.out hkW (by have := Hgi.out; omega))
    have HOr := Lib.hid (Row.keep (w := V.drew) HO2.out hkW (by have := Hgi.out; have := Hgo.out; omega))
    have HRr := Lib.hid (Row.keep (w := V.drew) HR2.out hkW (by have := Hgk.out; omega))
    have HBr := Lib.hid (Below.keep (w := V.drew) HB2.out.drew hkW HB2.out.size (by have := Hgk.out; omega))
    have HSr := Lib.hid (show go < W.heap.size from HOr.out.lt)
    clear hcW hkW
    simp only [Act.put, List.setIfInBounds_toArray, List.set_cons_succ, List.set_cons_zero]
    obtain ⟨KZ, hKZ⟩ : ∃ KZ, K ++ List.replicate (64 - K.length) (0 : UInt8) = KZ := ⟨_, rfl⟩
    obtain ⟨M3, hM3⟩ : ∃ M3, Sha.masked K 0x36 = M3 := ⟨_, rfl⟩
    obtain ⟨M5, hM5⟩ : ∃ M5, Sha.masked K 0x5c = M5 := ⟨_, rfl⟩
    have hKZl : KZ.length = 64 := by rw [← hKZ]; have := HKl.out; simp; omega
    have hM3l : M3.length = 64 := hM3 ▸ Sha.masked_length _ _ HKl.out
    have hM5l : M5.length = 64 := hM5 ▸ Sha.masked_length _ _ HKl.out
    have HMa := Lib.hid (show ∀ (i : Nat) (x : UInt8), KZ[i]? = some x → M3[i]? = some (x ^^^ 0x36) ∧ M5[i]? = some (x ^^^ 0x5c) from fun i x h => hM3 ▸ hM5 ▸ ⟨masked_at K _ i x (hKZ ▸ h), masked_at K _ i x (hKZ ▸ h)⟩)
    have Hmac := Lib.hid (show Sha.mac key ls.flatten = Sha.sum [M5, Sha.sum (M3 ++ ls.flatten)].flatten by rw [Sha.mac, HKe.out, hM3, hM5]; simp)
    have HKZ := Lib.hid (show Row W gk (KZ.map bv) 65 from hKZ ▸ HKr.out)
    have HKZl := Lib.hid hKZl
    have HM3l := Lib.hid hM3l
    have HM5l := Lib.hid hM5l
    clear HKr hKZ hM3 hM5 hKZl hM3l hM5l
    go_wp2_with fail
    go_loopw [9] (fun iv wr => ∃ i : Nat, i ≤ 64 ∧ iv = .int .i64 (i : Int) ∧ Row wr w.heap.size ((List.replicate 32 (0 : UInt8)).map bv) 23 ∧ Row wr gk (KZ.map bv) 65 ∧ Row wr gi ((Sha.fillTo 64 M3 i).map bv) 65 ∧ Row wr go ((Sha.fillTo 64 M5 i).map bv) 65 ∧ Below w.heap.size w wr) (fun iv _ => 64 - (intOf iv).toNat)
    case atStart => exact ⟨0, by omega, rfl, HRr.out, HKZ.out, HIr.out, HOr.out, HBr.out⟩
    case round =>
      obtain ⟨i, hi, rfl, hr0, hrk, hri, hro, hb⟩ := hrel
      have Hr0 := Lib.hid hr0
      have Hrk := Lib.hid hrk
      have Hri := Lib.hid hri
      have Hro := Lib.hid hro
      have Hb := Lib.hid hb
      have Hgne := Lib.hid (show gi ≠ go ∧ gk ≠ gi ∧ gk ≠ go ∧ w.heap.size ≠ gi ∧ w.heap.size ≠ go ∧ w.heap.size ≤ gi ∧ w.heap.size ≤ go by have := Hgk.out; have := Hgi.out; have := Hgo.out; omega)
      clear hr0 hrk hri hro hb
      by_cases h1 : i < 64
      · have h1' : (i : Int) < 64 := by omega
        obtain ⟨x, hx⟩ : ∃ x, KZ[i]? = some x := ⟨_, List.getElem?_eq_getElem (by rw [HKZl.out]; exact h1)⟩
        have hck : wr.cell? ⟨gk, i, none⟩ = some (.int .u8 (x.toNat : Int)) := Hrk.out.cell (by rw [List.getElem?_map, hx]; rfl)
        obtain ⟨hm3, hm5⟩ := HMa.out i x hx
        obtain ⟨v0, hv0⟩ : ∃ v0, wr.cell? ⟨gi, i, none⟩ = some v0 := ⟨_, Hri.out.cell (getD_cell _ i (by rw [Sha.fillTo_length 64 M3 i HM3l.out (by omega)]; exact h1))⟩
        have hfr := frozen_row Hri.out i
        obtain ⟨c3, hc3⟩ : ∃ c, x ^^^ 0x36 = c := ⟨_, rfl⟩
        obtain ⟨c5, hc5⟩ : ∃ c, x ^^^ 0x5c = c := ⟨_, rfl⟩
        rw [hc3] at hm3
        rw [hc5] at hm5
        have hx3 : bits .xor .u8 (x.toNat : Int) 54 = (c3.toNat : Int) := hc3 ▸ w_xor8 x 0x36
        have hx5 : bits .xor .u8 (x.toNat : Int) 92 = (c5.toNat : Int) := hc5 ▸ w_xor8 x 0x5c
        clear hc3 hc5
        have hs3 : Row (wr.setCell ⟨gi, i, none⟩ (.int .u8 (c3.toNat : Int))) gi ((Sha.fillTo 64 M3 (i + 1)).map bv) 65 := by
          have := Hri.out.set i (bv c3)
          rw [← List.map_set, Sha.fillTo_set 64 M3 i _ HM3l.out h1 hm3] at this
          exact this
        have ho3 : Row (wr.setCell ⟨gi, i, none⟩ (.int .u8 (c3.toNat : Int))) go ((Sha.fillTo 64 M5 i).map bv) 65 := Hro.out.other _ _ (by have := Hgne.out; dsimp only; omega)
        obtain ⟨v1, hv1⟩ : ∃ v1, (wr.setCell ⟨gi, i, none⟩ (.int .u8 (c3.toNat : Int))).cell? ⟨go, i, none⟩ = some v1 := ⟨_, ho3.cell (getD_cell _ i (by rw [Sha.fillTo_length 64 M5 i HM5l.out (by omega)]; exact h1))⟩
        have hfr1 := frozen_row ho3 i
        have ho5 := ho3.set i (bv c5)
        rw [← List.map_set, Sha.fillTo_set 64 M5 i _ HM5l.out h1 hm5] at ho5
        have Hs3 := Lib.hid (show Row _ gi _ 65 from hs3.other ⟨go, i, none⟩ (.int .u8 (c5.toNat : Int)) (by have := Hgne.out; dsimp only; omega))
        have Hs5 := Lib.hid ho5
        clear hs3 ho3 ho5 hm3 hm5 hx
        go_wp2_with fail
        go_region
        go_wp2_with fail
        go_roundw
        case rel => exact ⟨i + 1, h1, by simp, (Hr0.out.other _ _ (by have := Hgne.out; dsimp only; omega)).other _ _ (by have := Hgne.out; dsimp only; omega), (Hrk.out.other _ _ (by have := Hgne.out; dsimp only; omega)).other _ _ (by have := Hgne.out; dsimp only; omega), Hs3.out, Hs5.out, Below.drew (((Hb.out.setCell (p := ⟨gi, i, none⟩) (show w.heap.size ≤ gi by have := Hgne.out; omega) (.int .u8 (c3.toNat : Int))).setCell (p := ⟨go, i, none⟩) (show w.heap.size ≤ go by have := Hgne.out; omega) (.int .u8 (c5.toNat : Int))))⟩
        case measure => simp [intOf]; omega
      · have h1' : ¬ (i : Int) < 64 := by omega
        obtain rfl : i = 64 := by omega
        have hri := Hri.out.same (cs' := M3.map bv) (by rw [Sha.fillTo_all 64 M3 HM3l.out])
        have hro := Hro.out.same (cs' := M5.map bv) (by rw [Sha.fillTo_all 64 M5 HM5l.out])
        have Hri := Lib.hid hri
        have Hro := Lib.hid hro
        clear hri hro
        obtain ⟨W2, rfl⟩ : ∃ W2, W2 = wr := ⟨_, rfl⟩
        have HA0 := Lib.hid (show AtB W2 (.slice (some ⟨gi, 0, none⟩) 64 64) M3 from ⟨gi, 0, 64, by rw [HM3l.out], by rw [HM3l.out]; omega, Hri.out.lt, fun j u hu => by rw [Nat.zero_add]; exact Hri.out.cell (by rw [List.getElem?_map, hu]; rfl)⟩)
        have HLen3 := HM3l.out
        go_wp2_with fail
        go_loopw [10, 11] (fun vb vi wq => ∃ i : Nat, i ≤ ls.length ∧ vi = .int .i64 (i : Int) ∧ AtB wq vb (M3 ++ (ls.take i).flatten) ∧ Below W2.heap.size W2 wq) (fun _ vi _ => ls.length - (intOf vi).toNat)
        case atStart => exact ⟨0, Nat.zero_le _, rfl, by rw [List.take_zero, List.flatten_nil, List.append_nil]; exact HA0.out, Below.refl _ _⟩
        case round =>
          obtain ⟨i, hi, rfl, hat, hb⟩ := hrel
          have Hi := Lib.hid hi
          have Hbq := Lib.hid hb
          have HWq := Lib.hid (nextB Hb.out (Nat.le_refl _) hb)
          have hib : (i : Int) ≤ 1000 := by have := Hn.out; omega
          clear hi hb
          by_cases h2 : i < ls.length
          · have h2' : (i : Int) < (ls.length : Int) := by omega
            obtain ⟨lb, lo, rfl, hlt, hcell⟩ := Hlcs.out (by rintro rfl; simp at h2)
            obtain ⟨x, hx⟩ : ∃ x, ls[i]? = some x := ⟨_, List.getElem?_eq_getElem h2⟩
            obtain ⟨u, hu, hbu⟩ := hcell i x hx
            have Hcu := Lib.hid ((HWq.out.cell (p := ⟨lb, lo + i, none⟩) hlt).trans hu)
            have Hu := Lib.hid ((hbu.below HWq.out).more HWq.out.size)
            have Hlb := Lib.hid (Nat.lt_of_lt_of_le hlt HWq.out.size)
            have Hx := Lib.hid (Sha.take_flat hx)
            have Hil := Lib.hid h2'
            obtain ⟨L, hL⟩ : ∃ L, M3 ++ (ls.take i).flatten = L := ⟨_, rfl⟩
            have HLx := Lib.hid (show L.length + x.length ≤ 1000000000 by
              have h2 := congrArg List.length (Sha.take_flat hx)
              have h3 : (ls.take (i + 1)).flatten.length ≤ ls.flatten.length := by
                conv => rhs; rw [← List.take_append_drop (i + 1) ls, List.flatten_append, List.length_append]
                omega
              rw [List.length_append] at h2
              have := Hf.out
              rw [← hL, List.length_append, HM3l.out]
              omega)
            have HLe := Lib.hid (show M3 ++ (ls.take (i + 1)).flatten = L ++ x by rw [Hx.out, ← List.append_assoc, hL])
            rw [hL] at hat
            have Hat0 := Lib.hid hat
            obtain ⟨bb, bo, bc, rfl, hbc, _, _⟩ := hat
            have Hat := Lib.hid Hat0.out
            have Hbc' := Lib.hid (show (L.length : Int) ≤ (bc : Int) by omega)
            clear hlt hcell hx hu hbu hL hbc Hat0
            go_wp2_with fail
            refine Tail.marksAt Pol.mixed 11 Grew [By.is (.slice (some ⟨bb, bo, none⟩) L.length bc),
              By.is (.slice (some ⟨bb, bo, none⟩) L.length bc),
              By.is (Value.int .i64 (L.length : Int)),
              By.is (.slice (some ⟨bb, bo, none⟩) L.length bc),
              By.is (Value.int .i64 (L.length : Int)),
              By.is (.slice (some ⟨bb, bo, none⟩) L.length L.length),
              By.is (.slice (some ⟨lb, lo, none⟩) ls.length cl),
              By.is (Value.int .i64 (i : Int)),
              By.is (.pointer (some ⟨lb, lo + i, none⟩)),
              By.is u,
              atM (L ++ x)]
              (Ev.masks _ []) (Nat.zero_lt_succ _) (by kernel_rfl) (by kernel_rfl) rfl Grew.refl Grew.trans ⟨?_, ?_, ?_, ?_, ?_, ?_, ?_, ?_, ?_, ?_, ?_, trivial⟩ ?_
            · intro a w ht hs hg -- 48
              have h10 := By.same_get hs 10 (by decide) (by kernel_rfl)
              refine By.yes rfl ?_
              clear hs hg
              go_simp
              exact ⟨_, rfl, Grew.refl _, rfl⟩
            · intro a w ht hs hg -- 49
              have h10 := By.same_get hs 10 (by decide) (by kernel_rfl)
              refine By.yes rfl ?_
              clear hs hg
              go_simp
              exact ⟨_, rfl, Grew.refl _, rfl⟩
            · intro a w ht hs hg -- 50
              have h49 : a.tmps.getD 49 undef = _ := By.given_get hg 1 rfl rfl (by kernel_rfl)
              refine By.yes rfl ?_
              clear hs hg
              go_simp
              exact ⟨_, rfl, Grew.refl _, rfl⟩
            · intro a w ht hs hg -- 51
              have h10 := By.same_get hs 10 (by decide) (by kernel_rfl)
              refine By.yes rfl ?_
              clear hs hg
              go_simp
              exact ⟨_, rfl, Grew.refl _, rfl⟩
            · intro a w ht hs hg -- 52
              have h51 : a.tmps.getD 51 undef = _ := By.given_get hg 3 rfl rfl (by kernel_rfl)
              refine By.yes rfl ?_
              clear hs hg
              go_simp
              exact ⟨_, rfl, Grew.refl _, rfl⟩
            · intro a w ht hs hg -- 53
              have h48 : a.tmps.getD 48 undef = _ := By.given_get hg 0 rfl rfl (by kernel_rfl)
              have h50 : a.tmps.getD 50 undef = _ := By.given_get hg 2 rfl rfl (by kernel_rfl)
              have h52 : a.tmps.getD 52 undef = _ := By.given_get hg 4 rfl rfl (by kernel_rfl)
              refine By.yes rfl ?_
              clear hs hg
              have hbc := Hbc'.out
              clear ht
              go_simp
              exact ⟨_, rfl, Grew.refl _, rfl⟩
            · intro a w ht hs hg -- 54
              have h1 := By.same_get hs 1 (by decide) (by kernel_rfl)
              refine By.yes rfl ?_
              clear hs hg
              go_simp
              exact ⟨_, rfl, Grew.refl _, rfl⟩
            · intro a w ht hs hg -- 55
              have h11 := By.same_get hs 11 (by decide) (by kernel_rfl)
              refine By.yes rfl ?_
              clear hs hg
              go_simp
              exact ⟨_, rfl, Grew.refl _, rfl⟩
            · intro a w ht hs hg -- 56
              have h54 : a.tmps.getD 54 undef = _ := By.given_get hg 6 rfl rfl (by kernel_rfl)
              have h55 : a.tmps.getD 55 undef = _ := By.given_get hg 7 rfl rfl (by kernel_rfl)
              refine By.yes rfl ?_
              clear hs hg
              have hil := Hil.out
              clear ht
              go_simp
              exact ⟨_, rfl, Grew.refl _, rfl⟩
            · intro a w ht hs hg -- 57
              have h56 : a.tmps.getD 56 undef = _ := By.given_get hg 8 rfl rfl (by kernel_rfl)
              refine By.yes rfl ?_
              clear hs hg
              have hcu := (show w.cell? ⟨lb, lo + i, none⟩ = some u from (Below.cell (w := wr.drew) (B := wr.heap.size) ⟨ht.os, ht.tape, ht.output, ht.size, ht.block⟩ (p := ⟨lb, lo + i, none⟩) Hlb.out).trans Hcu.out)
              clear ht
              go_simp
              exact ⟨_, rfl, Grew.refl _, rfl⟩
            · intro a w ht hs hg -- 58
              have h53 : a.tmps.getD 53 undef = _ := By.given_get hg 5 rfl rfl (by kernel_rfl)
              have h57 : a.tmps.getD 57 undef = _ := By.given_get hg 9 rfl rfl (by kernel_rfl)
              refine By.yes rfl ?_
              clear hs hg
              have HAt := Lib.hid (AtB.below (w := wr.drew) Hat.out ht)
              have HU := Lib.hid ((Bs.below (w := wr.drew) Hu.out ht).more ht.size)
              clear ht
              refine wp_app_full (.tmp 53) (.tmp 57) rfl h53 rfl (AtB.cells HAt.out) (AtB.lt HAt.out) h57 HU.out HLx.out ?_
              intro v' w' hv' hb'
              exact ⟨_, rfl, hb', hv'⟩
            refine By.ends_is (By.ends_is (By.ends_is (By.ends_is (By.ends_is (By.ends_is (By.ends_is (By.ends_is (By.ends_is (By.ends_is (By.ends_any fun v58 => (By.ends_nil fun w9 ⟨hw9, h58⟩ => ?_)))))))))))
            simp only [Act.put, List.setIfInBounds_toArray, List.set_cons_succ, List.set_cons_zero]
            simp only [List.drop_succ_cons, List.drop_zero]
            go_wp2_with fail
            go_roundw
            case rel => exact ⟨i + 1, h2, by go_num, by rw [HLe.out]; exact h58, Hbq.out.trans (Below.mono (show Below wr.heap.size wr w9 from ⟨hw9.os, hw9.tape, hw9.output, hw9.size, hw9.block⟩) Hbq.out.size)⟩
            case measure => simp [intOf]; omega
          · have h2' : ¬ (i : Int) < (ls.length : Int) := by omega
            obtain rfl : i = ls.length := by have := Hi.out; omega
            rw [List.take_length] at hat
            obtain ⟨L, hL⟩ : ∃ L, M3 ++ ls.flatten = L := ⟨_, rfl⟩
            have Hmac2 := Lib.hid (hL ▸ Hmac.out)
            have HLl := Lib.hid (show L.length ≤ 10000000 by rw [← hL, List.length_append, HM3l.out]; have := Hf.out; omega)
            rw [hL] at hat
            have Hat0 := Lib.hid hat
            obtain ⟨bb, bo, bc, rfl, hbc, _, _⟩ := hat
            have Hr0q := Lib.hid (Hr0.out.below Hbq.out Hr0.out.lt)
            have Hroq := Lib.hid (Hro.out.below Hbq.out Hro.out.lt)
            have hTq : Tab wr := Ht.out.below HWq.out Ht.out.1
            have hss := bss_new (n := 1) (ls := [L]) (vs := [.slice (some ⟨bb, bo, none⟩) L.length bc]) (w := wr) rfl rfl (.one Hat0.out.bs)
            have hBa := (Below.refl wr.heap.size wr).alloc (Nat.le_refl _) (.cells #[.slice (some ⟨bb, bo, none⟩) L.length bc] 22)
            have HSum := Lib.hid (RSum_any _ [L] _ (hTq.below hBa hTq.1) hss (by simp) (by have := HLl.out; simp; omega))
            have HBa := Lib.hid hBa
            clear hbc hL hTq hss hBa
            go_wp2_with fail
            refine HSum.out.mono ?_
            rintro e w3 ⟨rfl, hb3⟩
            rw [show [L].flatten = L by simp]
            have hb3' := nextB HBa.out (Nat.le_refl _) hb3
            obtain ⟨I, hI⟩ : ∃ I, Sha.sum L = I := ⟨_, rfl⟩
            have hIl : I.length = 32 := by rw [← hI]; exact Sha.sum_length _
            rw [hI]
            have HB3 := Lib.hid (nextB HWq.out (Nat.le_refl _) hb3')
            have HR3 := Lib.hid (Hr0q.out.below hb3' Hr0q.out.lt)
            have HRo3 := Lib.hid (Hroq.out.below hb3' Hroq.out.lt)
            have Hmac3 := Lib.hid (show Sha.mac key ls.flatten = Sha.sum [M5, I].flatten by rw [Hmac2.out, hI])
            have HIl := Lib.hid (show (I.map bv).length = 32 by rw [List.length_map]; exact hIl)
            have HIn := Lib.hid hIl
            clear hb3 hb3' hI hIl
            unfold arr8
            go_wp2_with (first
              | (show wpList _ _ _ (⟨none, Op.store 23 _ _, _, _, _, _⟩ :: _) _ _; refine wpList_storeRow (g := w3.heap.size) rfl 23 _ _ rfl rfl rfl (cs := I.map bv) (old := (List.replicate 32 (0 : UInt8)).map bv) (Row.new rfl rfl) (by kernel_rfl) HIl.out (by simp) (bytes_one I) ?_)
              | fail)
            have hr6 : Row ((w3.alloc (.cells ((List.replicate 32 (0 : UInt8)).map bv).toArray 23)).setRow w3.heap.size (I.map bv).toArray) w3.heap.size (I.map bv) 23 := (Row.new (cs := (List.replicate 32 (0 : UInt8)).map bv) rfl rfl).setRow (I.map bv)
            have hb36 : Below w3.heap.size w3 ((w3.alloc (.cells ((List.replicate 32 (0 : UInt8)).map bv).toArray 23)).setRow w3.heap.size (I.map bv).toArray) := below_setRow ((Below.refl w3.heap.size w3).alloc (Nat.le_refl _) _) (Nat.le_refl _) _
            obtain ⟨V, hV⟩ : ∃ V, (w3.alloc (.cells ((List.replicate 32 (0 : UInt8)).map bv).toArray 23)).setRow w3.heap.size (I.map bv).toArray = V := ⟨_, rfl⟩
            refine code_world hV ?_
            rw [hV] at hr6 hb36
            obtain ⟨g6, hg6⟩ : ∃ g6, w3.heap.size = g6 := ⟨_, rfl⟩
            rw [hg6] at hr6 ⊢
            have HR6 := Lib.hid hr6
            have HRV := Lib.hid (HR3.out.below hb36 HR3.out.lt)
            have HRoV := Lib.hid (HRo3.out.below hb36 HRo3.out.lt)
            have HBV := Lib.hid (nextB HB3.out (Nat.le_refl _) hb36)
            clear hr6 hb36 hV hg6
            have HTV := Lib.hid (Ht.out.below HBV.out Ht.out.1)
            have hI6 : ∀ w', Grew V.drew w' → Bs w' w'.heap.size (.slice (some ⟨g6, 0, none⟩) 32 32) I := by
              intro w' hw'
              have hr6 := Row.below (w := V.drew) HR6.out hw' HR6.out.lt
              have h1 := hr6.bs (B := w'.heap.size) hr6.lt
              rwa [HIn.out] at h1
            have HI6 := Lib.hid hI6
            have hI5 : ∀ w', Grew V.drew w' → Bs w' w'.heap.size (.slice (some ⟨go, 0, none⟩) 64 64) M5 := by
              intro w' hw'
              have hr6 := Row.below (w := V.drew) HRoV.out hw' HRoV.out.lt
              have h1 := hr6.bs (B := w'.heap.size) hr6.lt
              rwa [HM5l.out] at h1
            have HI5 := Lib.hid hI5
            have HF2 : Hid ([M5, I].flatten.length ≤ 100000000) := by
              show _ ≤ _
              simp only [List.flatten_cons, List.flatten_nil, List.append_nil, List.length_append]
              rw [HM5l.out, HIn.out]
              omega
            clear hI6 hI5
            obtain ⟨O, hO⟩ : ∃ O, Sha.sum [M5, I].flatten = O := ⟨_, rfl⟩
            have hOl : O.length = 32 := by rw [← hO]; exact Sha.sum_length _
            have HO := Lib.hid hO
            have Hmac4 := Lib.hid (Hmac3.out.trans hO)
            have HOm := Lib.hid (show (O.map bv).length = 32 by rw [List.length_map]; exact hOl)
            clear hO hOl
            refine Tail.marksAt Pol.mixed 4 Grew [By.is (.slice (some ⟨go, 0, none⟩) 64 64),
              By.is (.slice (some ⟨g6, 0, none⟩) 32 32),
              rdL [M5, I] 2,
              By.is (arr8 O)]
              (Ev.masks _ []) (Nat.zero_lt_succ _) (by kernel_rfl) (by kernel_rfl) rfl Grew.refl Grew.trans ⟨?_, ?_, ?_, ?_, trivial⟩ ?_
            · intro a w ht hs hg -- 62
              have h7 := By.same_get hs 7 (by decide) (by kernel_rfl)
              refine By.yes rfl ?_
              clear hs hg
              go_simp
              exact ⟨_, rfl, Grew.refl _, rfl⟩
            · intro a w ht hs hg -- 63
              have h12 := By.same_get hs 12 (by decide) (by kernel_rfl)
              refine By.yes rfl ?_
              clear hs hg
              go_simp
              exact ⟨_, rfl, Grew.refl _, rfl⟩
            · intro a w ht hs hg -- 64
              have h62 : a.tmps.getD 62 undef = _ := By.given_get hg 0 rfl rfl (by kernel_rfl)
              have h63 : a.tmps.getD 63 undef = _ := By.given_get hg 1 rfl rfl (by kernel_rfl)
              refine By.yes rfl ?_
              clear hs hg
              have hi5 := Lib.hid (HI5.out w ht)
              have hi6 := Lib.hid (HI6.out w ht)
              clear ht
              rw [Array.getD_eq_getD_getElem?] at h62 h63
              go_simp
              exact ⟨_, rfl, (Below.refl _ w).alloc (Nat.le_refl _) _, w.heap.size, rfl, bss_new (n := 2) (ls := [M5, I]) (vs := [.slice (some ⟨go, 0, none⟩) 64 64, .slice (some ⟨g6, 0, none⟩) 32 32]) (w := w) rfl rfl (Reads.append (.one hi5.out) (.one hi6.out))⟩
            · intro a w ht hs hg -- 65
              have h64 := By.given_get hg 2 rfl rfl (by kernel_rfl)
              refine By.yes rfl ?_
              obtain ⟨v64, hv64⟩ : ∃ v, a.tmps.getD 64 undef = v := ⟨_, rfl⟩
              replace h64 := (congrArg (fun v => (rdL [M5, I] 2).on v w) hv64).mp h64
              clear hs hg
              have htab := Lib.hid (HTV.out.below (show Below V.heap.size V w from ⟨ht.os, ht.tape, ht.output, ht.size, ht.block⟩) HTV.out.1)
              clear ht
              obtain ⟨g8, rfl, hs8⟩ := h64
              have Hs8 := Lib.hid hs8
              clear hs8
              go_simp
              refine (RSum_any _ [M5, I] w htab.out Hs8.out (by simp) HF2.out).mono ?_
              rintro e w8 ⟨rfl, hb8⟩
              exact ⟨_, rfl, hb8, congrArg arr8 HO.out⟩
            refine By.ends_is (By.ends_is (By.ends_skip fun v64 => (By.ends_is (By.ends_nil fun w9 hw9 => ?_))))
            simp only [Act.put, List.setIfInBounds_toArray, List.set_cons_succ, List.set_cons_zero]
            simp only [List.drop_succ_cons, List.drop_zero]
            have hr9 := Lib.hid (Row.below (w := V.drew) HRV.out hw9 HRV.out.lt)
            have HB9 := Lib.hid (nextB HBV.out (Nat.le_refl _) (show Below V.heap.size V w9 from ⟨hw9.os, hw9.tape, hw9.output, hw9.size, hw9.block⟩))
            clear hw9
            unfold arr8
            go_wp2_with (first
              | (show wpList _ _ _ (⟨none, Op.store 23 _ _, _, _, _, _⟩ :: _) _ _; refine wpList_storeRow (g := w.heap.size) rfl 23 _ _ rfl rfl rfl (cs := O.map bv) hr9.out (by kernel_rfl) HOm.out (by simp) (bytes_one O) ?_)
              | fail)
            refine bodyPost_ret (results_row rfl _ rfl (hr9.out.setRow (O.map bv)) Tryd.underlying23 rfl (by kernel_rfl) HOm.out) rfl ?_
            exact ⟨by rw [Hmac4.out]; rfl, below_setRow HB9.out (Nat.le_refl _) _⟩

  · have h64' : ¬ (64 : Int) < (key.length : Int) := by omega
    obtain ⟨K, hK⟩ : ∃ K, key = K := ⟨_, rfl⟩
    have HKe := Lib.hid (show Sha.short key = K by rw [Sha.short, if_neg h64, hK])
    have HKK := Lib.hid hK
    clear hK
    go_enter Tryd.func16, Tryd.ntmps16
    have HW0 := Lib.hid hW0
    have HKw := Lib.hid (show Bs ((((w.alloc (.cells ((List.replicate 32 (0 : UInt8)).map bv).toArray 23)).alloc (.cells ((List.replicate 64 (0 : UInt8)).map bv).toArray 65)).alloc (.cells ((List.replicate 64 (0 : UInt8)).map bv).toArray 65)).alloc (.cells ((List.replicate 64 (0 : UInt8)).map bv).toArray 65)) W0.heap.size (.slice A key.length c) key from hW0.symm ▸ ((Hk.out.below HB0.out).more HB0.out.size))
    have HKa := Lib.hid (show Row ((((w.alloc (.cells ((List.replicate 32 (0 : UInt8)).map bv).toArray 23)).alloc (.cells ((List.replicate 64 (0 : UInt8)).map bv).toArray 65)).alloc (.cells ((List.replicate 64 (0 : UInt8)).map bv).toArray 65)).alloc (.cells ((List.replicate 64 (0 : UInt8)).map bv).toArray 65)) gk ((List.replicate 64 (0 : UInt8)).map bv) 65 from hW0.symm ▸ HK0.out)
    clear hW0
    have HL64 := Lib.hid (show key.length ≤ 64 by omega)
    go_wp2_with (first
      | (refine wpList_copy_key rfl (.tmp 22) (.tmp 23) rfl (g := gk) rfl rfl HKw.out HL64.out HKa.out ?_
         intro W hcW hkW
         replace hkW : Ev.Keep ⟨W0, fun k => k = gk⟩ W := by rw [← HW0.out]; exact hkW
         refine stop ?_)
      | fail)
    unfold Stop
    clear hgk hgi hgo HW0 HKa HKw
    have HKr := Lib.hid (show Row W gk ((K ++ List.replicate (64 - K.length) (0 : UInt8)).map bv) 65 from HKK.out ▸ hcW)
    have HIr := Lib.hid (HI0.out.keep hkW (by have := Hgi.out; omega))
    have HOr := Lib.hid (HO0.out.keep hkW (by have := Hgi.out; have := Hgo.out; omega))
    have HRr := Lib.hid (HR0.out.keep hkW (by have := Hgk.out; omega))
    have HBr := Lib.hid (Below.keep HB0.out hkW HB0.out.size (by have := Hgk.out; omega))
    have HSr := Lib.hid (show go < W.heap.size from HOr.out.lt)
    have HKl := Lib.hid (show K.length ≤ 64 from HKK.out ▸ HL64.out)
    clear hcW hkW h64 h64'
    obtain ⟨KZ, hKZ⟩ : ∃ KZ, K ++ List.replicate (64 - K.length) (0 : UInt8) = KZ := ⟨_, rfl⟩
    obtain ⟨M3, hM3⟩ : ∃ M3, Sha.masked K 0x36 = M3 := ⟨_, rfl⟩
    obtain ⟨M5, hM5⟩ : ∃ M5, Sha.masked K 0x5c = M5 := ⟨_, rfl⟩
    have hKZl : KZ.length = 64 := by rw [← hKZ]; have := HKl.out; simp; omega
    have hM3l : M3.length = 64 := hM3 ▸ Sha.masked_length _ _ HKl.out
    have hM5l : M5.length = 64 := hM5 ▸ Sha.masked_length _ _ HKl.out
    have HMa := Lib.hid (show ∀ (i : Nat) (x : UInt8), KZ[i]? = some x → M3[i]? = some (x ^^^ 0x36) ∧ M5[i]? = some (x ^^^ 0x5c) from fun i x h => hM3 ▸ hM5 ▸ ⟨masked_at K _ i x (hKZ ▸ h), masked_at K _ i x (hKZ ▸ h)⟩)
    have Hmac := Lib.hid (show Sha.mac key ls.flatten = Sha.sum [M5, Sha.sum (M3 ++ ls.flatten)].flatten by rw [Sha.mac, HKe.out, hM3, hM5]; simp)
    have HKZ := Lib.hid (show Row W gk (KZ.map bv) 65 from hKZ ▸ HKr.out)
    have HKZl := Lib.hid hKZl
    have HM3l := Lib.hid hM3l
    have HM5l := Lib.hid hM5l
    clear HKr hKZ hM3 hM5 hKZl hM3l hM5l
    go_wp2_with fail
    go_loopw [9] (fun iv wr => ∃ i : Nat, i ≤ 64 ∧ iv = .int .i64 (i : Int) ∧ Row wr w.heap.size ((List.replicate 32 (0 : UInt8)).map bv) 23 ∧ Row wr gk (KZ.map bv) 65 ∧ Row wr gi ((Sha.fillTo 64 M3 i).map bv) 65 ∧ Row wr go ((Sha.fillTo 64 M5 i).map bv) 65 ∧ Below w.heap.size w wr) (fun iv _ => 64 - (intOf iv).toNat)
    case atStart => exact ⟨0, by omega, rfl, HRr.out, HKZ.out, HIr.out, HOr.out, HBr.out⟩
    case round =>
      obtain ⟨i, hi, rfl, hr0, hrk, hri, hro, hb⟩ := hrel
      have Hr0 := Lib.hid hr0
      have Hrk := Lib.hid hrk
      have Hri := Lib.hid hri
      have Hro := Lib.hid hro
      have Hb := Lib.hid hb
      have Hgne := Lib.hid (show gi ≠ go ∧ gk ≠ gi ∧ gk ≠ go ∧ w.heap.size ≠ gi ∧ w.heap.size ≠ go ∧ w.heap.size ≤ gi ∧ w.heap.size ≤ go by have := Hgk.out; have := Hgi.out; have := Hgo.out; omega)
      clear hr0 hrk hri hro hb
      by_cases h1 : i < 64
      · have h1' : (i : Int) < 64 := by omega
        obtain ⟨x, hx⟩ : ∃ x, KZ[i]? = some x := ⟨_, List.getElem?_eq_getElem (by rw [HKZl.out]; exact h1)⟩
        have hck : wr.cell? ⟨gk, i, none⟩ = some (.int .u8 (x.toNat : Int)) := Hrk.out.cell (by rw [List.getElem?_map, hx]; rfl)
        obtain ⟨hm3, hm5⟩ := HMa.out i x hx
        obtain ⟨v0, hv0⟩ : ∃ v0, wr.cell? ⟨gi, i, none⟩ = some v0 := ⟨_, Hri.out.cell (getD_cell _ i (by rw [Sha.fillTo_length 64 M3 i HM3l.out (by omega)]; exact h1))⟩
        have hfr := frozen_row Hri.out i
        obtain ⟨c3, hc3⟩ : ∃ c, x ^^^ 0x36 = c := ⟨_, rfl⟩
        obtain ⟨c5, hc5⟩ : ∃ c, x ^^^ 0x5c = c := ⟨_, rfl⟩
        rw [hc3] at hm3
        rw [hc5] at hm5
        have hx3 : bits .xor .u8 (x.toNat : Int) 54 = (c3.toNat : Int) := hc3 ▸ w_xor8 x 0x36
        have hx5 : bits .xor .u8 (x.toNat : Int) 92 = (c5.toNat : Int) := hc5 ▸ w_xor8 x 0x5c
        clear hc3 hc5
        have hs3 : Row (wr.setCell ⟨gi, i, none⟩ (.int .u8 (c3.toNat : Int))) gi ((Sha.fillTo 64 M3 (i + 1)).map bv) 65 := by
          have := Hri.out.set i (bv c3)
          rw [← List.map_set, Sha.fillTo_set 64 M3 i _ HM3l.out h1 hm3] at this
          exact this
        have ho3 : Row (wr.setCell ⟨gi, i, none⟩ (.int .u8 (c3.toNat : Int))) go ((Sha.fillTo 64 M5 i).map bv) 65 := Hro.out.other _ _ (by have := Hgne.out; dsimp only; omega)
        obtain ⟨v1, hv1⟩ : ∃ v1, (wr.setCell ⟨gi, i, none⟩ (.int .u8 (c3.toNat : Int))).cell? ⟨go, i, none⟩ = some v1 := ⟨_, ho3.cell (getD_cell _ i (by rw [Sha.fillTo_length 64 M5 i HM5l.out (by omega)]; exact h1))⟩
        have hfr1 := frozen_row ho3 i
        have ho5 := ho3.set i (bv c5)
        rw [← List.map_set, Sha.fillTo_set 64 M5 i _ HM5l.out h1 hm5] at ho5
        have Hs3 := Lib.hid (show Row _ gi _ 65 from hs3.other ⟨go, i, none⟩ (.int .u8 (c5.toNat : Int)) (by have := Hgne.out; dsimp only; omega))
        have Hs5 := Lib.hid ho5
        clear hs3 ho3 ho5 hm3 hm5 hx
        go_wp2_with fail
        go_region
        go_wp2_with fail
        go_roundw
        case rel => exact ⟨i + 1, h1, by simp, (Hr0.out.other _ _ (by have := Hgne.out; dsimp only; omega)).other _ _ (by have := Hgne.out; dsimp only; omega), (Hrk.out.other _ _ (by have := Hgne.out; dsimp only; omega)).other _ _ (by have := Hgne.out; dsimp only; omega), Hs3.out, Hs5.out, Below.drew (((Hb.out.setCell (p := ⟨gi, i, none⟩) (show w.heap.size ≤ gi by have := Hgne.out; omega) (.int .u8 (c3.toNat : Int))).setCell (p := ⟨go, i, none⟩) (show w.heap.size ≤ go by have := Hgne.out; omega) (.int .u8 (c5.toNat : Int))))⟩
        case measure => simp [intOf]; omega
      · have h1' : ¬ (i : Int) < 64 := by omega
        obtain rfl : i = 64 := by omega
        have hri := Hri.out.same (cs' := M3.map bv) (by rw [Sha.fillTo_all 64 M3 HM3l.out])
        have hro := Hro.out.same (cs' := M5.map bv) (by rw [Sha.fillTo_all 64 M5 HM5l.out])
        have Hri := Lib.hid hri
        have Hro := Lib.hid hro
        clear hri hro
        obtain ⟨W2, rfl⟩ : ∃ W2, W2 = wr := ⟨_, rfl⟩
        have HA0 := Lib.hid (show AtB W2 (.slice (some ⟨gi, 0, none⟩) 64 64) M3 from ⟨gi, 0, 64, by rw [HM3l.out], by rw [HM3l.out]; omega, Hri.out.lt, fun j u hu => by rw [Nat.zero_add]; exact Hri.out.cell (by rw [List.getElem?_map, hu]; rfl)⟩)
        have HLen3 := HM3l.out
        go_wp2_with fail
        go_loopw [10, 11] (fun vb vi wq => ∃ i : Nat, i ≤ ls.length ∧ vi = .int .i64 (i : Int) ∧ AtB wq vb (M3 ++ (ls.take i).flatten) ∧ Below W2.heap.size W2 wq) (fun _ vi _ => ls.length - (intOf vi).toNat)
        case atStart => exact ⟨0, Nat.zero_le _, rfl, by rw [List.take_zero, List.flatten_nil, List.append_nil]; exact HA0.out, Below.refl _ _⟩
        case round =>
          obtain ⟨i, hi, rfl, hat, hb⟩ := hrel
          have Hi := Lib.hid hi
          have Hbq := Lib.hid hb
          have HWq := Lib.hid (nextB Hb.out (Nat.le_refl _) hb)
          have hib : (i : Int) ≤ 1000 := by have := Hn.out; omega
          clear hi hb
          by_cases h2 : i < ls.length
          · have h2' : (i : Int) < (ls.length : Int) := by omega
            obtain ⟨lb, lo, rfl, hlt, hcell⟩ := Hlcs.out (by rintro rfl; simp at h2)
            obtain ⟨x, hx⟩ : ∃ x, ls[i]? = some x := ⟨_, List.getElem?_eq_getElem h2⟩
            obtain ⟨u, hu, hbu⟩ := hcell i x hx
            have Hcu := Lib.hid ((HWq.out.cell (p := ⟨lb, lo + i, none⟩) hlt).trans hu)
            have Hu := Lib.hid ((hbu.below HWq.out).more HWq.out.size)
            have Hlb := Lib.hid (Nat.lt_of_lt_of_le hlt HWq.out.size)
            have Hx := Lib.hid (Sha.take_flat hx)
            have Hil := Lib.hid h2'
            obtain ⟨L, hL⟩ : ∃ L, M3 ++ (ls.take i).flatten = L := ⟨_, rfl⟩
            have HLx := Lib.hid (show L.length + x.length ≤ 1000000000 by
              have h2 := congrArg List.length (Sha.take_flat hx)
              have h3 : (ls.take (i + 1)).flatten.length ≤ ls.flatten.length := by
                conv => rhs; rw [← List.take_append_drop (i + 1) ls, List.flatten_append, List.length_append]
                omega
              rw [List.length_append] at h2
              have := Hf.out
              rw [← hL, List.length_append, HM3l.out]
              omega)
            have HLe := Lib.hid (show M3 ++ (ls.take (i + 1)).flatten = L ++ x by rw [Hx.out, ← List.append_assoc, hL])
            rw [hL] at hat
            have Hat0 := Lib.hid hat
            obtain ⟨bb, bo, bc, rfl, hbc, _, _⟩ := hat
            have Hat := Lib.hid Hat0.out
            have Hbc' := Lib.hid (show (L.length : Int) ≤ (bc : Int) by omega)
            clear hlt hcell hx hu hbu hL hbc Hat0
            go_wp2_with fail
            refine Tail.marksAt Pol.mixed 11 Grew [By.is (.slice (some ⟨bb, bo, none⟩) L.length bc),
              By.is (.slice (some ⟨bb, bo, none⟩) L.length bc),
              By.is (Value.int .i64 (L.length : Int)),
              By.is (.slice (some ⟨bb, bo, none⟩) L.length bc),
              By.is (Value.int .i64 (L.length : Int)),
              By.is (.slice (some ⟨bb, bo, none⟩) L.length L.length),
              By.is (.slice (some ⟨lb, lo, none⟩) ls.length cl),
              By.is (Value.int .i64 (i : Int)),
              By.is (.pointer (some ⟨lb, lo + i, none⟩)),
              By.is u,
              atM (L ++ x)]
              (Ev.masks _ []) (Nat.zero_lt_succ _) (by kernel_rfl) (by kernel_rfl) rfl Grew.refl Grew.trans ⟨?_, ?_, ?_, ?_, ?_, ?_, ?_, ?_, ?_, ?_, ?_, trivial⟩ ?_
            · intro a w ht hs hg -- 48
              have h10 := By.same_get hs 10 (by decide) (by kernel_rfl)
              refine By.yes rfl ?_
              clear hs hg
              go_simp
              exact ⟨_, rfl, Grew.refl _, rfl⟩
            · intro a w ht hs hg -- 49
              have h10 := By.same_get hs 10 (by decide) (by kernel_rfl)
              refine By.yes rfl ?_
              clear hs hg
              go_simp
              exact ⟨_, rfl, Grew.refl _, rfl⟩
            · intro a w ht hs hg -- 50
              have h49 : a.tmps.getD 49 undef = _ := By.given_get hg 1 rfl rfl (by kernel_rfl)
              refine By.yes rfl ?_
              clear hs hg
              go_simp
              exact ⟨_, rfl, Grew.refl _, rfl⟩
            · intro a w ht hs hg -- 51
              have h10 := By.same_get hs 10 (by decide) (by kernel_rfl)
              refine By.yes rfl ?_
              clear hs hg
              go_simp
              exact ⟨_, rfl, Grew.refl _, rfl⟩
            · intro a w ht hs hg -- 52
              have h51 : a.tmps.getD 51 undef = _ := By.given_get hg 3 rfl rfl (by kernel_rfl)
              refine By.yes rfl ?_
              clear hs hg
              go_simp
              exact ⟨_, rfl, Grew.refl _, rfl⟩
            · intro a w ht hs hg -- 53
              have h48 : a.tmps.getD 48 undef = _ := By.given_get hg 0 rfl rfl (by kernel_rfl)
              have h50 : a.tmps.getD 50 undef = _ := By.given_get hg 2 rfl rfl (by kernel_rfl)
              have h52 : a.tmps.getD 52 undef = _ := By.given_get hg 4 rfl rfl (by kernel_rfl)
              refine By.yes rfl ?_
              clear hs hg
              have hbc := Hbc'.out
              clear ht
              go_simp
              exact ⟨_, rfl, Grew.refl _, rfl⟩
            · intro a w ht hs hg -- 54
              have h1 := By.same_get hs 1 (by decide) (by kernel_rfl)
              refine By.yes rfl ?_
              clear hs hg
              go_simp
              exact ⟨_, rfl, Grew.refl _, rfl⟩
            · intro a w ht hs hg -- 55
              have h11 := By.same_get hs 11 (by decide) (by kernel_rfl)
              refine By.yes rfl ?_
              clear hs hg
              go_simp
              exact ⟨_, rfl, Grew.refl _, rfl⟩
            · intro a w ht hs hg -- 56
              have h54 : a.tmps.getD 54 undef = _ := By.given_get hg 6 rfl rfl (by kernel_rfl)
              have h55 : a.tmps.getD 55 undef = _ := By.given_get hg 7 rfl rfl (by kernel_rfl)
              refine By.yes rfl ?_
              clear hs hg
              have hil := Hil.out
              clear ht
              go_simp
              exact ⟨_, rfl, Grew.refl _, rfl⟩
            · intro a w ht hs hg -- 57
              have h56 : a.tmps.getD 56 undef = _ := By.given_get hg 8 rfl rfl (by kernel_rfl)
              refine By.yes rfl ?_
              clear hs hg
              have hcu := (show w.cell? ⟨lb, lo + i, none⟩ = some u from (Below.cell (w := wr.drew) (B := wr.heap.size) ⟨ht.os, ht.tape, ht.output, ht.size, ht.block⟩ (p := ⟨lb, lo + i, none⟩) Hlb.out).trans Hcu.out)
              clear ht
              go_simp
              exact ⟨_, rfl, Grew.refl _, rfl⟩
            · intro a w ht hs hg -- 58
              have h53 : a.tmps.getD 53 undef = _ := By.given_get hg 5 rfl rfl (by kernel_rfl)
              have h57 : a.tmps.getD 57 undef = _ := By.given_get hg 9 rfl rfl (by kernel_rfl)
              refine By.yes rfl ?_
              clear hs hg
              have HAt := Lib.hid (AtB.below (w := wr.drew) Hat.out ht)
              have HU := Lib.hid ((Bs.below (w := wr.drew) Hu.out ht).more ht.size)
              clear ht
              refine wp_app_full (.tmp 53) (.tmp 57) rfl h53 rfl (AtB.cells HAt.out) (AtB.lt HAt.out) h57 HU.out HLx.out ?_
              intro v' w' hv' hb'
              exact ⟨_, rfl, hb', hv'⟩
            refine By.ends_is (By.ends_is (By.ends_is (By.ends_is (By.ends_is (By.ends_is (By.ends_is (By.ends_is (By.ends_is (By.ends_is (By.ends_any fun v58 => (By.ends_nil fun w9 ⟨hw9, h58⟩ => ?_)))))))))))
            simp only [Act.put, List.setIfInBounds_toArray, List.set_cons_succ, List.set_cons_zero]
            simp only [List.drop_succ_cons, List.drop_zero]
            go_wp2_with fail
            go_roundw
            case rel => exact ⟨i + 1, h2, by go_num, by rw [HLe.out]; exact h58, Hbq.out.trans (Below.mono (show Below wr.heap.size wr w9 from ⟨hw9.os, hw9.tape, hw9.output, hw9.size, hw9.block⟩) Hbq.out.size)⟩
            case measure => simp [intOf]; omega
          · have h2' : ¬ (i : Int) < (ls.length : Int) := by omega
            obtain rfl : i = ls.length := by have := Hi.out; omega
            rw [List.take_length] at hat
            obtain ⟨L, hL⟩ : ∃ L, M3 ++ ls.flatten = L := ⟨_, rfl⟩
            have Hmac2 := Lib.hid (hL ▸ Hmac.out)
            have HLl := Lib.hid (show L.length ≤ 10000000 by rw [← hL, List.length_append, HM3l.out]; have := Hf.out; omega)
            rw [hL] at hat
            have Hat0 := Lib.hid hat
            obtain ⟨bb, bo, bc, rfl, hbc, _, _⟩ := hat
            have Hr0q := Lib.hid (Hr0.out.below Hbq.out Hr0.out.lt)
            have Hroq := Lib.hid (Hro.out.below Hbq.out Hro.out.lt)
            have hTq : Tab wr := Ht.out.below HWq.out Ht.out.1
            have hss := bss_new (n := 1) (ls := [L]) (vs := [.slice (some ⟨bb, bo, none⟩) L.length bc]) (w := wr) rfl rfl (.one Hat0.out.bs)
            have hBa := (Below.refl wr.heap.size wr).alloc (Nat.le_refl _) (.cells #[.slice (some ⟨bb, bo, none⟩) L.length bc] 22)
            have HSum := Lib.hid (RSum_any _ [L] _ (hTq.below hBa hTq.1) hss (by simp) (by have := HLl.out; simp; omega))
            have HBa := Lib.hid hBa
            clear hbc hL hTq hss hBa
            go_wp2_with fail
            refine HSum.out.mono ?_
            rintro e w3 ⟨rfl, hb3⟩
            rw [show [L].flatten = L by simp]
            have hb3' := nextB HBa.out (Nat.le_refl _) hb3
            obtain ⟨I, hI⟩ : ∃ I, Sha.sum L = I := ⟨_, rfl⟩
            have hIl : I.length = 32 := by rw [← hI]; exact Sha.sum_length _
            rw [hI]
            have HB3 := Lib.hid (nextB HWq.out (Nat.le_refl _) hb3')
            have HR3 := Lib.hid (Hr0q.out.below hb3' Hr0q.out.lt)
            have HRo3 := Lib.hid (Hroq.out.below hb3' Hroq.out.lt)
            have Hmac3 := Lib.hid (show Sha.mac key ls.flatten = Sha.sum [M5, I].flatten by rw [Hmac2.out, hI])
            have HIl := Lib.hid (show (I.map bv).length = 32 by rw [List.length_map]; exact hIl)
            have HIn := Lib.hid hIl
            clear hb3 hb3' hI hIl
            unfold arr8
            go_wp2_with (first
              | (show wpList _ _ _ (⟨none, Op.store 23 _ _, _, _, _, _⟩ :: _) _ _; refine wpList_storeRow (g := w3.heap.size) rfl 23 _ _ rfl rfl rfl (cs := I.map bv) (old := (List.replicate 32 (0 : UInt8)).map bv) (Row.new rfl rfl) (by kernel_rfl) HIl.out (by simp) (bytes_one I) ?_)
              | fail)
            have hr6 : Row ((w3.alloc (.cells ((List.replicate 32 (0 : UInt8)).map bv).toArray 23)).setRow w3.heap.size (I.map bv).toArray) w3.heap.size (I.map bv) 23 := (Row.new (cs := (List.replicate 32 (0 : UInt8)).map bv) rfl rfl).setRow (I.map bv)
            have hb36 : Below w3.heap.size w3 ((w3.alloc (.cells ((List.replicate 32 (0 : UInt8)).map bv).toArray 23)).setRow w3.heap.size (I.map bv).toArray) := below_setRow ((Below.refl w3.heap.size w3).alloc (Nat.le_refl _) _) (Nat.le_refl _) _
            obtain ⟨V, hV⟩ : ∃ V, (w3.alloc (.cells ((List.replicate 32 (0 : UInt8)).map bv).toArray 23)).setRow w3.heap.size (I.map bv).toArray = V := ⟨_, rfl⟩
            refine code_world hV ?_
            rw [hV] at hr6 hb36
            obtain ⟨g6, hg6⟩ : ∃ g6, w3.heap.size = g6 := ⟨_, rfl⟩
            rw [hg6] at hr6 ⊢
            have HR6 := Lib.hid hr6
            have HRV := Lib.hid (HR3.out.below hb36 HR3.out.lt)
            have HRoV := Lib.hid (HRo3.out.below hb36 HRo3.out.lt)
            have HBV := Lib.hid (nextB HB3.out (Nat.le_refl _) hb36)
            clear hr6 hb36 hV hg6
            have HTV := Lib.hid (Ht.out.below HBV.out Ht.out.1)
            have hI6 : ∀ w', Grew V.drew w' → Bs w' w'.heap.size (.slice (some ⟨g6, 0, none⟩) 32 32) I := by
              intro w' hw'
              have hr6 := Row.below (w := V.drew) HR6.out hw' HR6.out.lt
              have h1 := hr6.bs (B := w'.heap.size) hr6.lt
              rwa [HIn.out] at h1
            have HI6 := Lib.hid hI6
            have hI5 : ∀ w', Grew V.drew w' → Bs w' w'.heap.size (.slice (some ⟨go, 0, none⟩) 64 64) M5 := by
              intro w' hw'
              have hr6 := Row.below (w := V.drew) HRoV.out hw' HRoV.out.lt
              have h1 := hr6.bs (B := w'.heap.size) hr6.lt
              rwa [HM5l.out] at h1
            have HI5 := Lib.hid hI5
            have HF2 : Hid ([M5, I].flatten.length ≤ 100000000) := by
              show _ ≤ _
              simp only [List.flatten_cons, List.flatten_nil, List.append_nil, List.length_append]
              rw [HM5l.out, HIn.out]
              omega
            clear hI6 hI5
            obtain ⟨O, hO⟩ : ∃ O, Sha.sum [M5, I].flatten = O := ⟨_, rfl⟩
            have hOl : O.length = 32 := by rw [← hO]; exact Sha.sum_length _
            have HO := Lib.hid hO
            have Hmac4 := Lib.hid (Hmac3.out.trans hO)
            have HOm := Lib.hid (show (O.map bv).length = 32 by rw [List.length_map]; exact hOl)
            clear hO hOl
            refine Tail.marksAt Pol.mixed 4 Grew [By.is (.slice (some ⟨go, 0, none⟩) 64 64),
              By.is (.slice (some ⟨g6, 0, none⟩) 32 32),
              rdL [M5, I] 2,
              By.is (arr8 O)]
              (Ev.masks _ []) (Nat.zero_lt_succ _) (by kernel_rfl) (by kernel_rfl) rfl Grew.refl Grew.trans ⟨?_, ?_, ?_, ?_, trivial⟩ ?_
            · intro a w ht hs hg -- 62
              have h7 := By.same_get hs 7 (by decide) (by kernel_rfl)
              refine By.yes rfl ?_
              clear hs hg
              go_simp
              exact ⟨_, rfl, Grew.refl _, rfl⟩
            · intro a w ht hs hg -- 63
              have h12 := By.same_get hs 12 (by decide) (by kernel_rfl)
              refine By.yes rfl ?_
              clear hs hg
              go_simp
              exact ⟨_, rfl, Grew.refl _, rfl⟩
            · intro a w ht hs hg -- 64
              have h62 : a.tmps.getD 62 undef = _ := By.given_get hg 0 rfl rfl (by kernel_rfl)
              have h63 : a.tmps.getD 63 undef = _ := By.given_get hg 1 rfl rfl (by kernel_rfl)
              refine By.yes rfl ?_
              clear hs hg
              have hi5 := Lib.hid (HI5.out w ht)
              have hi6 := Lib.hid (HI6.out w ht)
              clear ht
              rw [Array.getD_eq_getD_getElem?] at h62 h63
              go_simp
              exact ⟨_, rfl, (Below.refl _ w).alloc (Nat.le_refl _) _, w.heap.size, rfl, bss_new (n := 2) (ls := [M5, I]) (vs := [.slice (some ⟨go, 0, none⟩) 64 64, .slice (some ⟨g6, 0, none⟩) 32 32]) (w := w) rfl rfl (Reads.append (.one hi5.out) (.one hi6.out))⟩
            · intro a w ht hs hg -- 65
              have h64 := By.given_get hg 2 rfl rfl (by kernel_rfl)
              refine By.yes rfl ?_
              obtain ⟨v64, hv64⟩ : ∃ v, a.tmps.getD 64 undef = v := ⟨_, rfl⟩
              replace h64 := (congrArg (fun v => (rdL [M5, I] 2).on v w) hv64).mp h64
              clear hs hg
              have htab := Lib.hid (HTV.out.below (show Below V.heap.size V w from ⟨ht.os, ht.tape, ht.output, ht.size, ht.block⟩) HTV.out.1)
              clear ht
              obtain ⟨g8, rfl, hs8⟩ := h64
              have Hs8 := Lib.hid hs8
              clear hs8
              go_simp
              refine (RSum_any _ [M5, I] w htab.out Hs8.out (by simp) HF2.out).mono ?_
              rintro e w8 ⟨rfl, hb8⟩
              exact ⟨_, rfl, hb8, congrArg arr8 HO.out⟩
            refine By.ends_is (By.ends_is (By.ends_skip fun v64 => (By.ends_is (By.ends_nil fun w9 hw9 => ?_))))
            simp only [Act.put, List.setIfInBounds_toArray, List.set_cons_succ, List.set_cons_zero]
            simp only [List.drop_succ_cons, List.drop_zero]
            have hr9 := Lib.hid (Row.below (w := V.drew) HRV.out hw9 HRV.out.lt)
            have HB9 := Lib.hid (nextB HBV.out (Nat.le_refl _) (show Below V.heap.size V w9 from ⟨hw9.os, hw9.tape, hw9.output, hw9.size, hw9.block⟩))
            clear hw9
            unfold arr8
            go_wp2_with (first
              | (show wpList _ _ _ (⟨none, Op.store 23 _ _, _, _, _, _⟩ :: _) _ _; refine wpList_storeRow (g := w.heap.size) rfl 23 _ _ rfl rfl rfl (cs := O.map bv) hr9.out (by kernel_rfl) HOm.out (by simp) (bytes_one O) ?_)
              | fail)
            refine bodyPost_ret (results_row rfl _ rfl (hr9.out.setRow (O.map bv)) Tryd.underlying23 rfl (by kernel_rfl) HOm.out) rfl ?_
            exact ⟨by rw [Hmac4.out]; rfl, below_setRow HB9.out (Nat.le_refl _) _⟩

end Go.Proofs.YtpllbnioncjhaaaDoor

