/- With another s the tag differs by the difference: 'drawbridgelaw03.PolyAdds', for every argument. -/
import Derived.Test.YtnihpdbbbpekiaaPolAddPure
import Derived.Test.YtnihpdbbbpekiaaPolLess
import Derived.Test.YtnihpdbbbpekiaaEqKit
import Derived.Test.YtnihpdbbbpekiaaLaw
namespace Go.Proofs.Ytnihpdbbbpekiaa.polyAdds
open Go.ChangeShapes Go.WideShapes Go.ChangeAt Go.RowKit
open Pol (own mixed laid tagK clampB lessB)
theorem map_splice {α β : Type} (f : α → β) (l p : List α) (k : Nat) : (splice l k p).map f = splice (l.map f) k (p.map f) := by
  unfold splice
  simp
theorem splice_hi {key s : List UInt8} (h : key.length = 32) (hs : s.length = 16) : splice key 16 s = key.take 16 ++ s := by
  unfold splice
  rw [List.drop_of_length_le (by omega), List.append_nil]
theorem splice_lo {key z : List UInt8} (hz : z.length = 16) : splice key 0 z = z ++ key.drop 16 := by
  unfold splice
  rw [hz, List.take_zero, List.nil_append]
theorem splice_all {z p : List UInt8} (hz : z.length = 16) (hp : p.length = 16) : splice z 0 p = p := by
  rw [splice_lo hp, List.drop_of_length_le (by omega), List.append_nil]
theorem row_keep {w w1 : World} {g k : Nat} {t : TypeId} {cs : List Value} (h : Row w k cs t) (hk : Ev.Keep ⟨w, fun k => k = g⟩ w1) (hne : k ≠ g) : Row w1 k cs t := by
  have hlt := h.lt
  refine (hk.block k ?_).trans h
  rintro (e | e)
  · have e' : w.heap.size ≤ k := e
    omega
  · exact hne e
theorem row_bs_at {w : World} {k off n c : Nat} {t : TypeId} {l p : List UInt8} (h : Row w k (l.map bv) t) (hp : (l.drop off).take n = p) (hn : p.length = n) (hc : n ≤ c) : Bs w w.heap.size (.slice (some ⟨k, off, none⟩) n c) p := by
  refine ⟨_, c, by rw [hn], by omega, fun _ => ⟨k, off, rfl, h.lt, fun i u hu => h.cell ?_⟩⟩
  rw [← hp, List.getElem?_take] at hu
  split at hu
  · rw [List.getElem?_drop] at hu
    rw [List.getElem?_map, hu]
    rfl
  · cases hu
/-- 'copy' of sixteen bytes into an array. -/
theorem wpList_copy16 {w : World} {ops : Array Oper} {rest : List Oper} {o : Oper} {a : Act} {Q : Exit → Act → World → Prop} (hgd : o.guard = none) (d s : Operand)
    (ho : o.op = .call { callee := .builtin .copy, args := #[d, s], argTypes := #[39, 39] }) {g off c1 B : Nat} {y : Value} {l p : List UInt8} {t : TypeId}
    (hd : a.eval d = .slice (some ⟨g, off, none⟩) 16 c1) (hs : a.eval s = y) (hy : Bs w B y p) (hp : p.length = 16) (hg : Row w g (l.map bv) t) (hfit : off + 16 ≤ l.length)
    (h : ∀ w', Row w' g ((splice l off p).map bv) t → Ev.Keep ⟨w, fun k => k = g⟩ w' → wpList Try.prog ops Q rest (a.put o.dst (goInt 16)) w') : wpList Try.prog ops Q (o :: rest) a w := by
  obtain ⟨A, c2, rfl, _, hcs⟩ := hy
  obtain ⟨k, so, rfl, _, hcell⟩ := hcs (by intro e; subst e; simp at hp)
  rw [hp] at hs
  have hl : (p.map bv).length = 16 := by rw [List.length_map]; exact hp
  refine Pol.wpList_copy_keep hgd d s 39 39 ho 5 (by kernel_rfl) (by kernel_rfl) hd hs hg (p.map bv) (by rw [hl]; rfl) ?_ (by rw [hl, List.length_map]; exact hfit) (Pol.bytes1 p) ?_
  · intro j v hv
    rw [List.getElem?_map, Option.map_eq_some_iff] at hv
    obtain ⟨u, hu, rfl⟩ := hv
    have hadd : (⟨k, so, none⟩ : Addr).add j = ⟨k, so + j, none⟩ := by unfold Addr.add; split <;> simp_all
    rw [hadd]
    exact hcell j u hu
  · intro w' h1 h2
    rw [hl]
    exact h w' (by rw [map_splice]; exact h1) h2
theorem keep_b {lo : Nat} {w w1 w2 : World} {g : Nat} (h : Below lo w w1) (hk : Ev.Keep ⟨w1, fun k => k = g⟩ w2) (hg : lo ≤ g) (hlo : lo ≤ w1.heap.size) : Below lo w w2 :=
  h.trans (Pol.keep_below hk (lo := lo) (by rintro k rfl; exact hg) hlo)
set_option maxRecDepth 100000 in
set_option maxHeartbeats 1000000 in
theorem long (key s : List UInt8) (A1 : Option Addr) (n1 c1 : Nat) (h : 400 < n1) (w : World) :
    Calls Try.prog 7 #[arr8 key, arr8 s, .slice A1 n1 c1] w fun e w' => e = .returned (.bool true) ∧ Below w.heap.size w w' := by
  have h1' : (400 : Int) < (n1 : Int) := by omega
  unfold arr8
  go_enter Try.func7, Try.ntmps7
  go_wp2_with (go_at_call 24; refine (Pol.lives_any _).mono ?_; rintro e w1 ⟨rfl, hb1⟩; have HB1 := Lib.hid hb1; clear hb1)
  go_ret
  exact ⟨rfl, (((Below.refl _ w).alloc (Nat.le_refl _) _).alloc (by simp) _).trans (HB1.out.mono (by simp; omega))⟩
set_option maxRecDepth 100000 in
set_option maxHeartbeats 1000000 in
theorem walk (key s lb : List UInt8) (A1 : Option Addr) (n1 c1 : Nat) (hk : key.length = 32) (hs : s.length = 16) (w : World) (hn1 : lb.length = n1) (hb : Bs w w.heap.size (.slice A1 n1 c1) lb) (h1 : n1 ≤ 400) :
    Calls Try.prog 7 #[arr8 key, arr8 s, .slice A1 n1 c1] w fun e w' => e = .returned (.bool true) ∧ Below w.heap.size w w' := by
  have h1' : ¬ (400 : Int) < (n1 : Int) := by omega
  obtain ⟨old, hold⟩ : ∃ old, key.drop 16 = old := ⟨_, rfl⟩
  obtain ⟨oth, hoth⟩ : ∃ oth, key.take 16 ++ s = oth := ⟨_, rfl⟩
  obtain ⟨non, hnon⟩ : ∃ non, List.replicate 16 0 ++ key.drop 16 = non := ⟨_, rfl⟩
  obtain ⟨r, hr⟩ : ∃ r, clampB key = r := ⟨_, rfl⟩
  obtain ⟨cla, hcla⟩ : ∃ cla, r ++ key.drop 16 = cla := ⟨_, rfl⟩
  obtain ⟨tt, htt⟩ : ∃ tt, tagK key lb = tt := ⟨_, rfl⟩
  have hll : lb.length < 4611686018427387904 := by omega
  have hol : oth.length = 32 := by rw [← hoth, List.length_append, List.length_take, hs]; omega
  have hnl : non.length = 32 := by rw [← hnon, List.length_append, List.length_replicate, List.length_drop]; omega
  have hrl : r.length = 16 := by rw [← hr]; exact Pol.clampB_length key hk
  have hcl : cla.length = 32 := by rw [← hcla, List.length_append, hrl, List.length_drop]; omega
  have holdl : old.length = 16 := by rw [← hold, List.length_drop]; omega
  obtain ⟨to, hto⟩ : ∃ to, tagK oth lb = to := ⟨_, rfl⟩
  obtain ⟨dd, hdd⟩ : ∃ dd, lessB s old = dd := ⟨_, rfl⟩
  have HTk := Lib.hid (show ∀ (W : World) (v : Value), Bs W W.heap.size v lb → Calls Try.prog 25 #[arr8 key, v] W fun e w' => e = .returned (arr8 tt) ∧ Below W.heap.size W w' from fun W v hv => htt ▸ Pol.TagF_any (by assumption) hv hll)
  have HTo := Lib.hid (show ∀ (W : World) (v : Value), Bs W W.heap.size v lb → Calls Try.prog 25 #[arr8 oth, v] W fun e w' => e = .returned (arr8 to) ∧ Below W.heap.size W w' from fun W v hv => hto ▸ Pol.TagF_any (by assumption) hv hll)
  have HTn := Lib.hid (show ∀ (W : World) (v : Value), Bs W W.heap.size v lb → Calls Try.prog 25 #[arr8 non, v] W fun e w' => e = .returned (arr8 old) ∧ Below W.heap.size W w' from fun W v hv => by
    have h := Pol.TagF_any hnl hv hll
    have e : tagK non lb = old := by rw [← hnon, Pol.tag_none hk, hold]
    rw [e] at h
    exact h)
  have HTc := Lib.hid (show ∀ (W : World) (v : Value), Bs W W.heap.size v lb → Calls Try.prog 25 #[arr8 cla, v] W fun e w' => e = .returned (arr8 tt) ∧ Below W.heap.size W w' from fun W v hv => by
    have h := Pol.TagF_any hcl hv hll
    have e : tagK cla lb = tt := by rw [← hcla, ← hr, Pol.tag_clamped hk, htt]
    rw [e] at h
    exact h)
  have HCk := Lib.hid (show ∀ W : World, Calls Try.prog 30 #[arr8 key] W fun e w' => e = .returned (arr8 r) ∧ Below W.heap.size W w' from fun W => hr ▸ Pol.Clamp_any hk W)
  have HCc := Lib.hid (show ∀ W : World, Calls Try.prog 30 #[arr8 cla] W fun e w' => e = .returned (arr8 r) ∧ Below W.heap.size W w' from fun W => by
    have h := Pol.Clamp_any hcl W
    have e : clampB cla = r := by rw [← hcla, ← hr, Pol.clamp_twice key _ hk]
    rw [e] at h
    exact h)
  have htol : to.length = 16 := by rw [← hto]; exact Pol.tagK_length _ _
  have httl : tt.length = 16 := by rw [← htt]; exact Pol.tagK_length _ _
  have hddl : dd.length = 16 := by rw [← hdd]; exact Pol.lessB_length _ _
  have hd1 : lessB to tt = dd := by rw [← hto, ← htt, ← hoth, Pol.tag_other hk hs, hold, hdd]
  have HL1 := Lib.hid (show ∀ W : World, Calls Try.prog 34 #[arr8 to, arr8 tt] W fun e w' => e = .returned (arr8 dd) ∧ Below W.heap.size W w' from fun W => hd1 ▸ Pol.Less_any to tt htol httl W)
  have HL2 := Lib.hid (show ∀ W : World, Calls Try.prog 34 #[arr8 s, arr8 old] W fun e w' => e = .returned (arr8 dd) ∧ Below W.heap.size W w' from fun W => hdd ▸ Pol.Less_any s old hs holdl W)
  have Hkl := Lib.hid (show (key.map bv).length = 32 by rw [List.length_map]; exact hk)
  have Hsl := Lib.hid (show (s.map bv).length = 16 by rw [List.length_map]; exact hs)
  have Hol := Lib.hid (show (oth.map bv).length = 32 by rw [List.length_map]; exact hol)
  have Hnl := Lib.hid (show (non.map bv).length = 32 by rw [List.length_map]; exact hnl)
  have Hcl := Lib.hid (show (cla.map bv).length = 32 by rw [List.length_map]; exact hcl)
  have Hrl := Lib.hid (show (r.map bv).length = 16 by rw [List.length_map]; exact hrl)
  have Httl := Lib.hid (show (tt.map bv).length = 16 by rw [List.length_map]; exact httl)
  have Hdl := Lib.hid (show (old.map bv).length = 16 by rw [List.length_map]; exact holdl)
  have Hr16 := Lib.hid hrl
  have Htt16 := Lib.hid httl
  have Hdd16 := Lib.hid hddl
  have Hold16 := Lib.hid holdl
  have Hs16 := Lib.hid hs
  have Hk32 := Lib.hid hk
  have Hold := Lib.hid hold
  have Hoth := Lib.hid hoth
  have Hnon := Lib.hid hnon
  have Hcla := Lib.hid hcla
  have Hb := Lib.hid hb
  clear hb h1 hn1 hk hs hold hoth hnon hr hcla htt hll hol hnl hrl hcl holdl hto hdd htol httl hddl hd1
  unfold arr8
  go_enter Try.func7, Try.ntmps7
  go_wp2_with fail
  obtain ⟨W, hW⟩ : ∃ W, (w.alloc (.cells (key.map bv).toArray 24)).alloc (.cells (s.map bv).toArray 40) = W := ⟨_, rfl⟩
  have hWb : Below w.heap.size w W := hW ▸ ((Below.refl _ w).alloc (Nat.le_refl _) _).alloc (by simp) _
  have hWk : Row W w.heap.size (key.map bv) 24 := hW ▸ (Row.new rfl rfl).alloc _
  have hWn : Row W (w.heap.size + 1) (s.map bv) 40 := hW ▸ Row.new (by simp) rfl
  show Calls _ _ _ ((w.alloc (.cells (key.map bv).toArray 24)).alloc (.cells (s.map bv).toArray 40)) _
  rw [hW]
  clear hW
  refine (Pol.lives_any W).mono ?_
  rintro e w1 ⟨rfl, hb1⟩
  have HB1 := Lib.hid (nextB hWb (Nat.le_refl _) hb1)
  have HK1 := Lib.hid (hWk.below hb1 hWk.lt)
  have HS1 := Lib.hid (hWn.below hb1 hWn.lt)
  clear hWb hWk hWn hb1
  go_wp2_with fail
  obtain ⟨w2, hw2⟩ : ∃ w2, w1.alloc (.cells ((List.replicate 16 (0 : UInt8)).map bv).toArray 40) = w2 := ⟨_, rfl⟩
  have hO2 : Row w2 w1.heap.size ((List.replicate 16 (0 : UInt8)).map bv) 40 := hw2 ▸ Row.new rfl rfl
  have hb12 : Below w1.heap.size w1 w2 := hw2 ▸ (Below.refl _ w1).alloc (Nat.le_refl _) _
  have HB2 := Lib.hid (nextB HB1.out (Nat.le_refl _) hb12)
  have HK2 := Lib.hid (Row.below  HK1.out hb12 HK1.out.lt)
  have HS2 := Lib.hid (Row.below  HS1.out hb12 HS1.out.lt)
  show Code.wp _ _ _ _ (w1.alloc (.cells ((List.replicate 16 (0 : UInt8)).map bv).toArray 40))
  rw [hw2]
  obtain ⟨gO, hgO⟩ : ∃ g, w1.heap.size = g := ⟨_, rfl⟩
  rw [hgO] at hO2 ⊢
  have HO2 := Lib.hid hO2
  have HgO := Lib.hid (show w.heap.size + 1 < gO by rw [← hgO]; exact HS1.out.lt)
  clear hw2 hb12 hgO hO2
  refine Tail.marksAt mixed 2 Grew [By.is (.slice (some ⟨gO, 0, none⟩) 16 16),
    By.is (.slice (some ⟨w.heap.size, 16, none⟩) 16 16)]
    (Ev.masks _ []) (Nat.zero_lt_succ _) (by kernel_rfl) (by kernel_rfl) rfl Grew.refl Grew.trans ⟨?_, ?_, trivial⟩ ?_
  · intro a w ht hs hg -- 18
    have h7 := By.same_get hs 7 (by decide) (by kernel_rfl)
    refine By.yes rfl ?_
    clear hs hg
    go_simp
    exact ⟨_, rfl, Grew.refl _, rfl⟩
  · intro a w ht hs hg -- 19
    have h3 := By.same_get hs 3 (by decide) (by kernel_rfl)
    refine By.yes rfl ?_
    clear hs hg
    go_simp
    exact ⟨_, rfl, Grew.refl _, rfl⟩
  refine By.ends_is (By.ends_is (By.ends_nil fun wq hq => ?_))
  simp only [Act.put, List.setIfInBounds_toArray, List.set_cons_succ, List.set_cons_zero]
  simp only [List.drop_succ_cons, List.drop_zero]
  have Hord := HgO
  have hq : Below w2.heap.size w2.drew wq := hq
  have hbq : Below w.heap.size w wq := nextB (b := w2.drew) HB2.out.drew (Nat.le_refl _) hq
  have HKq := Lib.hid (Row.below (w := w2.drew) HK2.out hq HK2.out.lt)
  have HSq := Lib.hid (Row.below (w := w2.drew) HS2.out hq HS2.out.lt)
  have HOq := Lib.hid (Row.below (w := w2.drew) HO2.out hq HO2.out.lt)
  have Hbq := Lib.hid hbq
  clear hq hbq
  go_wp2_with (first
    | (refine wpList_copy16 rfl (.tmp 18) (.tmp 19) rfl rfl rfl (row_bs_at (l := key) (off := 16) (n := 16) (p := old) HKq.out (by rw [List.take_of_length_le (by rw [List.length_drop, Hk32.out]; exact Nat.le_refl _)]; exact Hold.out) Hold16.out (Nat.le_refl _)) Hold16.out (l := (List.replicate 16 (0 : UInt8))) HOq.out (by decide) ?_
       intro w3 hnew hkeep
       rw [splice_all (by decide) Hold16.out] at hnew
       have Hnew := Lib.hid hnew
       have Hkeep := Lib.hid hkeep
       clear hnew hkeep
       have HB3 := Lib.hid (keep_b Hbq.out Hkeep.out (by have := HgO.out; omega) Hbq.out.size)
       have HK3 := Lib.hid (row_keep HKq.out Hkeep.out (by have := Hord.out; omega))
       have HS3 := Lib.hid (row_keep HSq.out Hkeep.out (by have := Hord.out; omega))
       have HO3 := Hnew
       clear Hnew Hkeep Hbq HKq HSq HOq)
    | (refine wpList_loadRow (n := 32) (cs := key.map bv) rfl 24 _ rfl rfl HK3.out Try.underlying24 rfl (by kernel_rfl) Hkl.out ?_)
    | (try simp only [Act.put, List.setIfInBounds_toArray, List.set_cons_succ, List.set_cons_zero]
       refine wpList_storeRow (n := 32) rfl 24 (.tmp 8) (.tmp 21) rfl rfl rfl (cs := key.map bv) (old := (List.replicate 32 (0 : UInt8)).map bv) (g := w3.heap.size) (t := 24) ?_ (by kernel_rfl) Hkl.out (by simp) (Pol.bytes1 _) ?_
       · exact ((Row.new rfl rfl).alloc _).alloc _)
    | (try simp only [Act.put, List.setIfInBounds_toArray, List.set_cons_succ, List.set_cons_zero]
       refine wpList_storeRow (n := 32) rfl 24 (.tmp 9) (.tmp 22) rfl rfl rfl (cs := key.map bv) (old := (List.replicate 32 (0 : UInt8)).map bv) (g := w3.heap.size + 1) (t := 24) ?_ (by kernel_rfl) Hkl.out (by simp) (Pol.bytes1 _) ?_
       · exact Row.setOther ((Row.new (by simp) rfl).alloc _) _ _ (by omega))
    | (try simp only [Act.put, List.setIfInBounds_toArray, List.set_cons_succ, List.set_cons_zero]
       refine wpList_storeRow (n := 32) rfl 24 (.tmp 10) (.tmp 23) rfl rfl rfl (cs := key.map bv) (old := (List.replicate 32 (0 : UInt8)).map bv) (g := w3.heap.size + 1 + 1) (t := 24) ?_ (by kernel_rfl) Hkl.out (by simp) (Pol.bytes1 _) ?_
       · exact Row.setOther (Row.setOther (Row.new (by simp) rfl) _ _ (by omega)) _ _ (by omega)
       obtain ⟨w4, hw4⟩ : ∃ w4, (((((w3.alloc (.cells ((List.replicate 32 (0 : UInt8)).map bv).toArray 24)).alloc (.cells ((List.replicate 32 (0 : UInt8)).map bv).toArray 24)).alloc (.cells ((List.replicate 32 (0 : UInt8)).map bv).toArray 24)).setRow w3.heap.size (key.map bv).toArray).setRow (w3.heap.size + 1) (key.map bv).toArray).setRow (w3.heap.size + 1 + 1) (key.map bv).toArray = w4 := ⟨_, rfl⟩
       have HA4 := Lib.hid (show Row w4 w3.heap.size (key.map bv) 24 from hw4 ▸ (((((Row.new (cs := (List.replicate 32 (0 : UInt8)).map bv) rfl rfl).alloc _).alloc _).setRow _).setOther _ _ (by omega)).setOther _ _ (by omega))
       have HN4 := Lib.hid (show Row w4 (w3.heap.size + 1) (key.map bv) 24 from hw4 ▸ ((((Row.new (cs := (List.replicate 32 (0 : UInt8)).map bv) (by simp) rfl).alloc _).setOther _ _ (by omega)).setRow _).setOther _ _ (by omega))
       have HC4 := Lib.hid (show Row w4 (w3.heap.size + 1 + 1) (key.map bv) 24 from hw4 ▸ (((Row.new (cs := (List.replicate 32 (0 : UInt8)).map bv) (by simp) rfl).setOther _ _ (by omega)).setOther _ _ (by omega)).setRow _)
       have hb34 : Below w3.heap.size w3 w4 := hw4 ▸ below_setRow (below_setRow (below_setRow ((((Below.refl _ w3).alloc (Nat.le_refl _) _).alloc (by simp) _).alloc (by simp; omega) _) (Nat.le_refl _) _) (by omega) _) (by omega) _
       have Hb34 := Lib.hid hb34
       refine wpList_world hw4 ?_
       clear hw4 hb34)
    | fail)
  have hb34 := Hb34.out
  have HB4 := Lib.hid (nextB HB3.out (Nat.le_refl _) hb34)
  have HK4 := Lib.hid (Row.below  HK3.out hb34 HK3.out.lt)
  have HS4 := Lib.hid (Row.below  HS3.out hb34 HS3.out.lt)
  have HO4 := Lib.hid (Row.below  HO3.out hb34 HO3.out.lt)
  obtain ⟨gA, hgA⟩ : ∃ g, w3.heap.size = g := ⟨_, rfl⟩
  have HgA := Lib.hid (show gO < gA by rw [← hgA]; exact HO3.out.lt)
  rw [hgA] at HA4 HN4 HC4 ⊢
  clear hgA hb34
  have Hord := Lib.hid (And.intro HgO.out HgA.out)
  refine Tail.marksAt mixed 2 Grew [By.is (.slice (some ⟨gA, 16, none⟩) 16 16),
    By.is (.slice (some ⟨w.heap.size + 1, 0, none⟩) 16 16)]
    (Ev.masks _ []) (Nat.zero_lt_succ _) (by kernel_rfl) (by kernel_rfl) rfl Grew.refl Grew.trans ⟨?_, ?_, trivial⟩ ?_
  · intro a w ht hs hg -- 24
    have h8 := By.same_get hs 8 (by decide) (by kernel_rfl)
    refine By.yes rfl ?_
    clear hs hg
    go_simp
    exact ⟨_, rfl, Grew.refl _, rfl⟩
  · intro a w ht hs hg -- 25
    have h4 := By.same_get hs 4 (by decide) (by kernel_rfl)
    refine By.yes rfl ?_
    clear hs hg
    go_simp
    exact ⟨_, rfl, Grew.refl _, rfl⟩
  refine By.ends_is (By.ends_is (By.ends_nil fun wq hq => ?_))
  simp only [Act.put, List.setIfInBounds_toArray, List.set_cons_succ, List.set_cons_zero]
  simp only [List.drop_succ_cons, List.drop_zero]
  have hq : Below w4.heap.size w4.drew wq := hq
  have hbq : Below w.heap.size w wq := nextB (b := w4.drew) HB4.out.drew (Nat.le_refl _) hq
  have HKq := Lib.hid (Row.below (w := w4.drew) HK4.out hq HK4.out.lt)
  have HSq := Lib.hid (Row.below (w := w4.drew) HS4.out hq HS4.out.lt)
  have HOq := Lib.hid (Row.below (w := w4.drew) HO4.out hq HO4.out.lt)
  have HAq := Lib.hid (Row.below (w := w4.drew) HA4.out hq HA4.out.lt)
  have HNq := Lib.hid (Row.below (w := w4.drew) HN4.out hq HN4.out.lt)
  have HCq := Lib.hid (Row.below (w := w4.drew) HC4.out hq HC4.out.lt)
  have Hbq := Lib.hid hbq
  clear hq hbq
  go_wp2_with (first
    | (refine wpList_copy16 rfl (.tmp 24) (.tmp 25) rfl rfl rfl (row_bs_at (l := s) (off := 0) (n := 16) (p := s) HSq.out (by rw [List.drop_zero, List.take_of_length_le (Nat.le_of_eq Hs16.out)]) Hs16.out (Nat.le_refl _)) Hs16.out (l := key) HAq.out (by rw [Hk32.out]; decide) ?_
       intro w5 hnew hkeep
       rw [(splice_hi Hk32.out Hs16.out).trans Hoth.out] at hnew
       have Hnew := Lib.hid hnew
       have Hkeep := Lib.hid hkeep
       clear hnew hkeep
       have HB5 := Lib.hid (keep_b Hbq.out Hkeep.out (by have := Hord.out; omega) Hbq.out.size)
       have HK5 := Lib.hid (row_keep HKq.out Hkeep.out (by have := Hord.out; omega))
       have HS5 := Lib.hid (row_keep HSq.out Hkeep.out (by have := Hord.out; omega))
       have HO5 := Lib.hid (row_keep HOq.out Hkeep.out (by have := Hord.out; omega))
       have HA5 := Hnew
       have HN5 := Lib.hid (row_keep HNq.out Hkeep.out (by have := Hord.out; omega))
       have HC5 := Lib.hid (row_keep HCq.out Hkeep.out (by have := Hord.out; omega))
       clear Hnew Hkeep Hbq HKq HSq HOq HAq HNq HCq)
    | fail)
  refine Tail.marksAt mixed 2 Grew [By.is (.slice (some ⟨gA + 1, 0, none⟩) 16 32),
    (ownM 0 (List.replicate 16 (0 : UInt8)))]
    (Ev.masks _ []) (Nat.zero_lt_succ _) (by kernel_rfl) (by kernel_rfl) rfl Grew.refl Grew.trans ⟨?_, ?_, trivial⟩ ?_
  · intro a w ht hs hg -- 27
    have h9 := By.same_get hs 9 (by decide) (by kernel_rfl)
    refine By.yes rfl ?_
    clear hs hg
    go_simp
    exact ⟨_, rfl, Grew.refl _, rfl⟩
  · intro a w ht hs hg -- 28
    refine By.yes rfl ?_
    clear hs hg
    refine wp_make_bytes _ _ rfl 16 rfl rfl (by decide) ?_
    intro v w' ho hb
    exact ⟨_, rfl, hb, ho.less (Nat.zero_le _)⟩
  refine By.ends_is (By.ends_any fun v28 => (By.ends_nil fun wq hq => ?_))
  simp only [Act.put, List.setIfInBounds_toArray, List.set_cons_succ, List.set_cons_zero]
  simp only [List.drop_succ_cons, List.drop_zero]
  obtain ⟨hq, hz⟩ := hq
  have Hz := Lib.hid (show Own wq 0 v28 (List.replicate 16 (0 : UInt8)) from hz)
  clear hz
  have hq : Below w5.heap.size w5.drew wq := hq
  have hbq : Below w.heap.size w wq := nextB (b := w5.drew) HB5.out.drew (Nat.le_refl _) hq
  have HKq := Lib.hid (Row.below (w := w5.drew) HK5.out hq HK5.out.lt)
  have HSq := Lib.hid (Row.below (w := w5.drew) HS5.out hq HS5.out.lt)
  have HOq := Lib.hid (Row.below (w := w5.drew) HO5.out hq HO5.out.lt)
  have HAq := Lib.hid (Row.below (w := w5.drew) HA5.out hq HA5.out.lt)
  have HNq := Lib.hid (Row.below (w := w5.drew) HN5.out hq HN5.out.lt)
  have HCq := Lib.hid (Row.below (w := w5.drew) HC5.out hq HC5.out.lt)
  have Hbq := Lib.hid hbq
  clear hq hbq
  go_wp2_with (first
    | (refine wpList_copy16 rfl (.tmp 27) (.tmp 28) rfl rfl rfl (Hz.out.bs) (by decide) (l := key) HNq.out (by rw [Hk32.out]; decide) ?_
       intro w6 hnew hkeep
       rw [(splice_lo (by decide)).trans Hnon.out] at hnew
       have Hnew := Lib.hid hnew
       have Hkeep := Lib.hid hkeep
       clear hnew hkeep
       have HB6 := Lib.hid (keep_b Hbq.out Hkeep.out (by have := Hord.out; omega) Hbq.out.size)
       have HK6 := Lib.hid (row_keep HKq.out Hkeep.out (by have := Hord.out; omega))
       have HS6 := Lib.hid (row_keep HSq.out Hkeep.out (by have := Hord.out; omega))
       have HO6 := Lib.hid (row_keep HOq.out Hkeep.out (by have := Hord.out; omega))
       have HA6 := Lib.hid (row_keep HAq.out Hkeep.out (by have := Hord.out; omega))
       have HN6 := Hnew
       have HC6 := Lib.hid (row_keep HCq.out Hkeep.out (by have := Hord.out; omega))
       clear Hnew Hkeep Hbq HKq HSq HOq HAq HNq HCq)
    | (refine wpList_loadRow (n := 32) (cs := key.map bv) rfl 24 _ rfl rfl HK6.out Try.underlying24 rfl (by kernel_rfl) Hkl.out ?_)
    | fail)
  refine (HCk.out w6).mono ?_
  rintro e wc ⟨rfl, hbc⟩
  have Hbc := Lib.hid hbc
  clear hbc
  unfold arr8
  go_wp2_with (first
    | (refine wpList_storeRow (n := 16) rfl 40 _ _ rfl rfl rfl (cs := r.map bv) (old := (List.replicate 16 (0 : UInt8)).map bv) (g := wc.heap.size) (Row.new rfl rfl) (by kernel_rfl) Hrl.out (by simp) (Pol.bytes1 _) ?_
       obtain ⟨w7, hw⟩ : ∃ w', (wc.alloc (.cells ((List.replicate 16 (0 : UInt8)).map bv).toArray 40)).setRow wc.heap.size (r.map bv).toArray = w' := ⟨_, rfl⟩
       have HR7 := Lib.hid (show Row w7 wc.heap.size (r.map bv) 40 from hw ▸ (Row.new (cs := (List.replicate 16 (0 : UInt8)).map bv) rfl rfl).setRow _)
       have hbn : Below wc.heap.size wc w7 := hw ▸ below_setRow ((Below.refl _ wc).alloc (Nat.le_refl _) _) (Nat.le_refl _) _
       have Hbn := Lib.hid (nextB Hbc.out (Nat.le_refl _) hbn)
       refine wpList_world hw ?_
       clear hw hbn)
    | fail)
  have hbn := Hbn.out
  have HB7 := Lib.hid (nextB HB6.out (Nat.le_refl _) hbn)
  have HK7 := Lib.hid (Row.below  HK6.out hbn HK6.out.lt)
  have HS7 := Lib.hid (Row.below  HS6.out hbn HS6.out.lt)
  have HO7 := Lib.hid (Row.below  HO6.out hbn HO6.out.lt)
  have HA7 := Lib.hid (Row.below  HA6.out hbn HA6.out.lt)
  have HN7 := Lib.hid (Row.below  HN6.out hbn HN6.out.lt)
  have HC7 := Lib.hid (Row.below  HC6.out hbn HC6.out.lt)
  obtain ⟨gR, hgR⟩ : ∃ g, wc.heap.size = g := ⟨_, rfl⟩
  have Hlt := Lib.hid (show gA + 1 + 1 < gR by rw [← hgR]; exact Nat.lt_of_lt_of_le HC6.out.lt Hbc.out.size)
  rw [hgR] at HR7 ⊢
  clear hgR hbn Hbc Hbn
  have Hord := Lib.hid (And.intro Hord.out Hlt.out)
  refine Tail.marksAt mixed 2 Grew [By.is (.slice (some ⟨gA + 1 + 1, 0, none⟩) 16 32),
    By.is (.slice (some ⟨gR, 0, none⟩) 16 16)]
    (Ev.masks _ []) (Nat.zero_lt_succ _) (by kernel_rfl) (by kernel_rfl) rfl Grew.refl Grew.trans ⟨?_, ?_, trivial⟩ ?_
  · intro a w ht hs hg -- 32
    have h10 := By.same_get hs 10 (by decide) (by kernel_rfl)
    refine By.yes rfl ?_
    clear hs hg
    go_simp
    exact ⟨_, rfl, Grew.refl _, rfl⟩
  · intro a w ht hs hg -- 33
    have h11 := By.same_get hs 11 (by decide) (by kernel_rfl)
    refine By.yes rfl ?_
    clear hs hg
    go_simp
    exact ⟨_, rfl, Grew.refl _, rfl⟩
  refine By.ends_is (By.ends_is (By.ends_nil fun wq hq => ?_))
  simp only [Act.put, List.setIfInBounds_toArray, List.set_cons_succ, List.set_cons_zero]
  simp only [List.drop_succ_cons, List.drop_zero]
  have hq : Below w7.heap.size w7.drew wq := hq
  have hbq : Below w.heap.size w wq := nextB (b := w7.drew) HB7.out.drew (Nat.le_refl _) hq
  have HKq := Lib.hid (Row.below (w := w7.drew) HK7.out hq HK7.out.lt)
  have HSq := Lib.hid (Row.below (w := w7.drew) HS7.out hq HS7.out.lt)
  have HOq := Lib.hid (Row.below (w := w7.drew) HO7.out hq HO7.out.lt)
  have HAq := Lib.hid (Row.below (w := w7.drew) HA7.out hq HA7.out.lt)
  have HNq := Lib.hid (Row.below (w := w7.drew) HN7.out hq HN7.out.lt)
  have HCq := Lib.hid (Row.below (w := w7.drew) HC7.out hq HC7.out.lt)
  have HRq := Lib.hid (Row.below (w := w7.drew) HR7.out hq HR7.out.lt)
  have Hbq := Lib.hid hbq
  clear hq hbq
  go_wp2_with (first
    | (refine wpList_copy16 rfl (.tmp 32) (.tmp 33) rfl rfl rfl (row_bs_at (l := r) (off := 0) (n := 16) (p := r) HRq.out (by rw [List.drop_zero, List.take_of_length_le (Nat.le_of_eq Hr16.out)]) Hr16.out (Nat.le_refl _)) Hr16.out (l := key) HCq.out (by rw [Hk32.out]; decide) ?_
       intro w8 hnew hkeep
       rw [(splice_lo Hr16.out).trans Hcla.out] at hnew
       have Hnew := Lib.hid hnew
       have Hkeep := Lib.hid hkeep
       clear hnew hkeep
       have HB8 := Lib.hid (keep_b Hbq.out Hkeep.out (by have := Hord.out; omega) Hbq.out.size)
       have HK8 := Lib.hid (row_keep HKq.out Hkeep.out (by have := Hord.out; omega))
       have HS8 := Lib.hid (row_keep HSq.out Hkeep.out (by have := Hord.out; omega))
       have HO8 := Lib.hid (row_keep HOq.out Hkeep.out (by have := Hord.out; omega))
       have HA8 := Lib.hid (row_keep HAq.out Hkeep.out (by have := Hord.out; omega))
       have HN8 := Lib.hid (row_keep HNq.out Hkeep.out (by have := Hord.out; omega))
       have HC8 := Hnew
       have HR8 := Lib.hid (row_keep HRq.out Hkeep.out (by have := Hord.out; omega))
       clear Hnew Hkeep Hbq HKq HSq HOq HAq HNq HCq HRq)
    | (refine wpList_loadRow (n := 32) (cs := key.map bv) rfl 24 _ rfl rfl HK8.out Try.underlying24 rfl (by kernel_rfl) Hkl.out ?_)
    | fail)
  refine (HTk.out w8 (.slice A1 n1 c1) ((Hb.out.below HB8.out).more HB8.out.size)).mono ?_
  rintro e wc ⟨rfl, hbc⟩
  have Hbc := Lib.hid hbc
  clear hbc
  unfold arr8
  go_wp2_with (first
    | (refine wpList_storeRow (n := 16) rfl 40 _ _ rfl rfl rfl (cs := tt.map bv) (old := (List.replicate 16 (0 : UInt8)).map bv) (g := wc.heap.size) (Row.new rfl rfl) (by kernel_rfl) Httl.out (by simp) (Pol.bytes1 _) ?_
       obtain ⟨w9, hw⟩ : ∃ w', (wc.alloc (.cells ((List.replicate 16 (0 : UInt8)).map bv).toArray 40)).setRow wc.heap.size (tt.map bv).toArray = w' := ⟨_, rfl⟩
       have HT9 := Lib.hid (show Row w9 wc.heap.size (tt.map bv) 40 from hw ▸ (Row.new (cs := (List.replicate 16 (0 : UInt8)).map bv) rfl rfl).setRow _)
       have hbn : Below wc.heap.size wc w9 := hw ▸ below_setRow ((Below.refl _ wc).alloc (Nat.le_refl _) _) (Nat.le_refl _) _
       have Hbn := Lib.hid (nextB Hbc.out (Nat.le_refl _) hbn)
       refine wpList_world hw ?_
       clear hw hbn)
    | fail)
  have hbn := Hbn.out
  have HB9 := Lib.hid (nextB HB8.out (Nat.le_refl _) hbn)
  have HK9 := Lib.hid (Row.below  HK8.out hbn HK8.out.lt)
  have HS9 := Lib.hid (Row.below  HS8.out hbn HS8.out.lt)
  have HO9 := Lib.hid (Row.below  HO8.out hbn HO8.out.lt)
  have HA9 := Lib.hid (Row.below  HA8.out hbn HA8.out.lt)
  have HN9 := Lib.hid (Row.below  HN8.out hbn HN8.out.lt)
  have HC9 := Lib.hid (Row.below  HC8.out hbn HC8.out.lt)
  have HR9 := Lib.hid (Row.below  HR8.out hbn HR8.out.lt)
  obtain ⟨gT, hgT⟩ : ∃ g, wc.heap.size = g := ⟨_, rfl⟩
  have Hlt := Lib.hid (show gA + 1 + 1 < gT by rw [← hgT]; exact Nat.lt_of_lt_of_le HC8.out.lt Hbc.out.size)
  rw [hgT] at HT9 ⊢
  clear hgT hbn Hbc Hbn
  have HV9 := Lib.hid ((Hb.out.below HB9.out).more HB9.out.size)
  refine By.marks mixed Grew [By.is (arr8 oth),
    By.is (.slice A1 n1 c1),
    By.is (arr8 to),
    By.is (arr8 tt),
    By.is (arr8 dd),
    By.is (arr8 s),
    By.is (arr8 old),
    By.is (arr8 dd),
    By.is (.bool true),
    By.is (.bool true),
    By.is (arr8 non),
    By.is (.slice A1 n1 c1),
    By.is (arr8 old),
    By.is (arr8 old),
    By.is (.bool true),
    By.is (.bool true),
    By.is (.bool true),
    By.is (arr8 cla),
    By.is (.slice A1 n1 c1),
    By.is (arr8 tt),
    By.is (arr8 tt),
    By.is (.bool true),
    By.is (.bool true),
    By.is (.bool true),
    By.is (arr8 cla),
    By.is (arr8 r),
    By.is (arr8 r),
    By.is (.bool true),
    By.is (.bool true),
    By.is (.bool true)]
    (Ev.masks _ []) (by kernel_rfl) rfl Grew.refl Grew.trans ⟨?_, ?_, ?_, ?_, ?_, ?_, ?_, ?_, ?_, ?_, ?_, ?_, ?_, ?_, ?_, ?_, ?_, ?_, ?_, ?_, ?_, ?_, ?_, ?_, ?_, ?_, ?_, ?_, ?_, ?_, trivial⟩ ?_
  · intro a w ht hs hg -- 38
    have h8 := By.same_get hs 8 (by decide) (by kernel_rfl)
    refine By.yes rfl ?_
    clear hs hg
    refine wp_loadRow 24 _ rfl h8 (Row.below (w := w9.drew) HA9.out ht HA9.out.lt) Try.underlying24 rfl (by kernel_rfl) Hol.out ?_
    exact ⟨_, rfl, Grew.refl _, rfl⟩
  · intro a w ht hs hg -- 39
    have h2 := By.same_get hs 2 (by decide) (by kernel_rfl)
    refine By.yes rfl ?_
    clear hs hg
    go_simp
    exact ⟨_, rfl, Grew.refl _, rfl⟩
  · intro a w ht hs hg -- 40
    have h38 : a.tmps.getD 38 undef = _ := By.given_get hg 0 rfl rfl (by kernel_rfl)
    have h39 : a.tmps.getD 39 undef = _ := By.given_get hg 1 rfl rfl (by kernel_rfl)
    refine By.yes rfl ?_
    clear hs hg
    have hx := Lib.hid ((Bs.below (w := w9.drew) HV9.out ht).more ht.size)
    go_simp
    refine (HTo.out w _ hx.out).mono ?_
    rintro e w' ⟨rfl, hb⟩
    exact ⟨_, rfl, hb, rfl⟩
  · intro a w ht hs hg -- 41
    have h12 := By.same_get hs 12 (by decide) (by kernel_rfl)
    refine By.yes rfl ?_
    clear hs hg
    refine wp_loadRow 40 _ rfl h12 (Row.below (w := w9.drew) HT9.out ht HT9.out.lt) Try.underlying40 rfl (by kernel_rfl) Httl.out ?_
    exact ⟨_, rfl, Grew.refl _, rfl⟩
  · intro a w ht hs hg -- 42
    have h40 : a.tmps.getD 40 undef = _ := By.given_get hg 2 rfl rfl (by kernel_rfl)
    have h41 : a.tmps.getD 41 undef = _ := By.given_get hg 3 rfl rfl (by kernel_rfl)
    refine By.yes rfl ?_
    clear hs hg
    go_simp
    refine (HL1.out w).mono ?_
    rintro e w' ⟨rfl, hb⟩
    exact ⟨_, rfl, hb, rfl⟩
  · intro a w ht hs hg -- 43
    have h4 := By.same_get hs 4 (by decide) (by kernel_rfl)
    refine By.yes rfl ?_
    clear hs hg
    refine wp_loadRow 40 _ rfl h4 (Row.below (w := w9.drew) HS9.out ht HS9.out.lt) Try.underlying40 rfl (by kernel_rfl) Hsl.out ?_
    exact ⟨_, rfl, Grew.refl _, rfl⟩
  · intro a w ht hs hg -- 44
    have h7 := By.same_get hs 7 (by decide) (by kernel_rfl)
    refine By.yes rfl ?_
    clear hs hg
    refine wp_loadRow 40 _ rfl h7 (Row.below (w := w9.drew) HO9.out ht HO9.out.lt) Try.underlying40 rfl (by kernel_rfl) Hdl.out ?_
    exact ⟨_, rfl, Grew.refl _, rfl⟩
  · intro a w ht hs hg -- 45
    have h43 : a.tmps.getD 43 undef = _ := By.given_get hg 5 rfl rfl (by kernel_rfl)
    have h44 : a.tmps.getD 44 undef = _ := By.given_get hg 6 rfl rfl (by kernel_rfl)
    refine By.yes rfl ?_
    clear hs hg
    go_simp
    refine (HL2.out w).mono ?_
    rintro e w' ⟨rfl, hb⟩
    exact ⟨_, rfl, hb, rfl⟩
  · intro a w ht hs hg -- 46
    have h42 : a.tmps.getD 42 undef = _ := By.given_get hg 4 rfl rfl (by kernel_rfl)
    have h45 : a.tmps.getD 45 undef = _ := By.given_get hg 7 rfl rfl (by kernel_rfl)
    refine By.yes rfl ?_
    clear hs hg
    refine wp_eqArr _ _ rfl (by kernel_rfl) h42 h45 (eq16 dd dd Hdd16.out Hdd16.out w) ?_
    exact ⟨_, rfl, Grew.refl _, congrArg Value.bool (by simp)⟩
  · intro a w ht hs hg -- 47
    have h46 : a.tmps.getD 46 undef = _ := By.given_get hg 8 rfl rfl (by kernel_rfl)
    refine By.yes rfl ?_
    clear hs hg
    go_simp
    exact ⟨_, rfl, Grew.refl _, rfl⟩
  · intro a w ht hs hg -- 48
    have h9 := By.same_get hs 9 (by decide) (by kernel_rfl)
    have hg47 := By.given_get hg 9 rfl rfl (by kernel_rfl)
    refine By.yes (By.want_yes rfl rfl hg47) ?_
    clear hg47
    clear hs hg
    refine wp_loadRow 24 _ rfl h9 (Row.below (w := w9.drew) HN9.out ht HN9.out.lt) Try.underlying24 rfl (by kernel_rfl) Hnl.out ?_
    exact ⟨_, rfl, Grew.refl _, rfl⟩
  · intro a w ht hs hg -- 49
    have h2 := By.same_get hs 2 (by decide) (by kernel_rfl)
    have hg47 := By.given_get hg 9 rfl rfl (by kernel_rfl)
    refine By.yes (By.want_yes rfl rfl hg47) ?_
    clear hg47
    clear hs hg
    go_simp
    exact ⟨_, rfl, Grew.refl _, rfl⟩
  · intro a w ht hs hg -- 50
    have h48 : a.tmps.getD 48 undef = _ := By.given_get hg 10 rfl rfl (by kernel_rfl)
    have h49 : a.tmps.getD 49 undef = _ := By.given_get hg 11 rfl rfl (by kernel_rfl)
    have hg47 := By.given_get hg 9 rfl rfl (by kernel_rfl)
    refine By.yes (By.want_yes rfl rfl hg47) ?_
    clear hg47
    clear hs hg
    have hx := Lib.hid ((Bs.below (w := w9.drew) HV9.out ht).more ht.size)
    go_simp
    refine (HTn.out w _ hx.out).mono ?_
    rintro e w' ⟨rfl, hb⟩
    exact ⟨_, rfl, hb, rfl⟩
  · intro a w ht hs hg -- 51
    have h7 := By.same_get hs 7 (by decide) (by kernel_rfl)
    have hg47 := By.given_get hg 9 rfl rfl (by kernel_rfl)
    refine By.yes (By.want_yes rfl rfl hg47) ?_
    clear hg47
    clear hs hg
    refine wp_loadRow 40 _ rfl h7 (Row.below (w := w9.drew) HO9.out ht HO9.out.lt) Try.underlying40 rfl (by kernel_rfl) Hdl.out ?_
    exact ⟨_, rfl, Grew.refl _, rfl⟩
  · intro a w ht hs hg -- 52
    have h50 : a.tmps.getD 50 undef = _ := By.given_get hg 12 rfl rfl (by kernel_rfl)
    have h51 : a.tmps.getD 51 undef = _ := By.given_get hg 13 rfl rfl (by kernel_rfl)
    have hg47 := By.given_get hg 9 rfl rfl (by kernel_rfl)
    refine By.yes (By.want_yes rfl rfl hg47) ?_
    clear hg47
    clear hs hg
    refine wp_eqArr _ _ rfl (by kernel_rfl) h50 h51 (eq16 old old Hold16.out Hold16.out w) ?_
    exact ⟨_, rfl, Grew.refl _, congrArg Value.bool (by simp)⟩
  · intro a w ht hs hg -- 53
    have h47 : a.tmps.getD 47 undef = _ := By.given_get hg 9 rfl rfl (by kernel_rfl)
    have h52 : a.tmps.getD 52 undef = _ := By.given_get hg 14 rfl rfl (by kernel_rfl)
    refine By.yes rfl ?_
    clear hs hg
    go_simp
    exact ⟨_, rfl, Grew.refl _, rfl⟩
  · intro a w ht hs hg -- 54
    have h53 : a.tmps.getD 53 undef = _ := By.given_get hg 15 rfl rfl (by kernel_rfl)
    refine By.yes rfl ?_
    clear hs hg
    go_simp
    exact ⟨_, rfl, Grew.refl _, rfl⟩
  · intro a w ht hs hg -- 55
    have h10 := By.same_get hs 10 (by decide) (by kernel_rfl)
    have hg54 := By.given_get hg 16 rfl rfl (by kernel_rfl)
    refine By.yes (By.want_yes rfl rfl hg54) ?_
    clear hg54
    clear hs hg
    refine wp_loadRow 24 _ rfl h10 (Row.below (w := w9.drew) HC9.out ht HC9.out.lt) Try.underlying24 rfl (by kernel_rfl) Hcl.out ?_
    exact ⟨_, rfl, Grew.refl _, rfl⟩
  · intro a w ht hs hg -- 56
    have h2 := By.same_get hs 2 (by decide) (by kernel_rfl)
    have hg54 := By.given_get hg 16 rfl rfl (by kernel_rfl)
    refine By.yes (By.want_yes rfl rfl hg54) ?_
    clear hg54
    clear hs hg
    go_simp
    exact ⟨_, rfl, Grew.refl _, rfl⟩
  · intro a w ht hs hg -- 57
    have h55 : a.tmps.getD 55 undef = _ := By.given_get hg 17 rfl rfl (by kernel_rfl)
    have h56 : a.tmps.getD 56 undef = _ := By.given_get hg 18 rfl rfl (by kernel_rfl)
    have hg54 := By.given_get hg 16 rfl rfl (by kernel_rfl)
    refine By.yes (By.want_yes rfl rfl hg54) ?_
    clear hg54
    clear hs hg
    have hx := Lib.hid ((Bs.below (w := w9.drew) HV9.out ht).more ht.size)
    go_simp
    refine (HTc.out w _ hx.out).mono ?_
    rintro e w' ⟨rfl, hb⟩
    exact ⟨_, rfl, hb, rfl⟩
  · intro a w ht hs hg -- 58
    have h12 := By.same_get hs 12 (by decide) (by kernel_rfl)
    have hg54 := By.given_get hg 16 rfl rfl (by kernel_rfl)
    refine By.yes (By.want_yes rfl rfl hg54) ?_
    clear hg54
    clear hs hg
    refine wp_loadRow 40 _ rfl h12 (Row.below (w := w9.drew) HT9.out ht HT9.out.lt) Try.underlying40 rfl (by kernel_rfl) Httl.out ?_
    exact ⟨_, rfl, Grew.refl _, rfl⟩
  · intro a w ht hs hg -- 59
    have h57 : a.tmps.getD 57 undef = _ := By.given_get hg 19 rfl rfl (by kernel_rfl)
    have h58 : a.tmps.getD 58 undef = _ := By.given_get hg 20 rfl rfl (by kernel_rfl)
    have hg54 := By.given_get hg 16 rfl rfl (by kernel_rfl)
    refine By.yes (By.want_yes rfl rfl hg54) ?_
    clear hg54
    clear hs hg
    refine wp_eqArr _ _ rfl (by kernel_rfl) h57 h58 (eq16 tt tt Htt16.out Htt16.out w) ?_
    exact ⟨_, rfl, Grew.refl _, congrArg Value.bool (by simp)⟩
  · intro a w ht hs hg -- 60
    have h54 : a.tmps.getD 54 undef = _ := By.given_get hg 16 rfl rfl (by kernel_rfl)
    have h59 : a.tmps.getD 59 undef = _ := By.given_get hg 21 rfl rfl (by kernel_rfl)
    refine By.yes rfl ?_
    clear hs hg
    go_simp
    exact ⟨_, rfl, Grew.refl _, rfl⟩
  · intro a w ht hs hg -- 61
    have h60 : a.tmps.getD 60 undef = _ := By.given_get hg 22 rfl rfl (by kernel_rfl)
    refine By.yes rfl ?_
    clear hs hg
    go_simp
    exact ⟨_, rfl, Grew.refl _, rfl⟩
  · intro a w ht hs hg -- 62
    have h10 := By.same_get hs 10 (by decide) (by kernel_rfl)
    have hg61 := By.given_get hg 23 rfl rfl (by kernel_rfl)
    refine By.yes (By.want_yes rfl rfl hg61) ?_
    clear hg61
    clear hs hg
    refine wp_loadRow 24 _ rfl h10 (Row.below (w := w9.drew) HC9.out ht HC9.out.lt) Try.underlying24 rfl (by kernel_rfl) Hcl.out ?_
    exact ⟨_, rfl, Grew.refl _, rfl⟩
  · intro a w ht hs hg -- 63
    have h62 : a.tmps.getD 62 undef = _ := By.given_get hg 24 rfl rfl (by kernel_rfl)
    have hg61 := By.given_get hg 23 rfl rfl (by kernel_rfl)
    refine By.yes (By.want_yes rfl rfl hg61) ?_
    clear hg61
    clear hs hg
    go_simp
    refine (HCc.out w).mono ?_
    rintro e w' ⟨rfl, hb⟩
    exact ⟨_, rfl, hb, rfl⟩
  · intro a w ht hs hg -- 64
    have h11 := By.same_get hs 11 (by decide) (by kernel_rfl)
    have hg61 := By.given_get hg 23 rfl rfl (by kernel_rfl)
    refine By.yes (By.want_yes rfl rfl hg61) ?_
    clear hg61
    clear hs hg
    refine wp_loadRow 40 _ rfl h11 (Row.below (w := w9.drew) HR9.out ht HR9.out.lt) Try.underlying40 rfl (by kernel_rfl) Hrl.out ?_
    exact ⟨_, rfl, Grew.refl _, rfl⟩
  · intro a w ht hs hg -- 65
    have h63 : a.tmps.getD 63 undef = _ := By.given_get hg 25 rfl rfl (by kernel_rfl)
    have h64 : a.tmps.getD 64 undef = _ := By.given_get hg 26 rfl rfl (by kernel_rfl)
    have hg61 := By.given_get hg 23 rfl rfl (by kernel_rfl)
    refine By.yes (By.want_yes rfl rfl hg61) ?_
    clear hg61
    clear hs hg
    refine wp_eqArr _ _ rfl (by kernel_rfl) h63 h64 (eq16 r r Hr16.out Hr16.out w) ?_
    exact ⟨_, rfl, Grew.refl _, congrArg Value.bool (by simp)⟩
  · intro a w ht hs hg -- 66
    have h61 : a.tmps.getD 61 undef = _ := By.given_get hg 23 rfl rfl (by kernel_rfl)
    have h65 : a.tmps.getD 65 undef = _ := By.given_get hg 27 rfl rfl (by kernel_rfl)
    refine By.yes rfl ?_
    clear hs hg
    go_simp
    exact ⟨_, rfl, Grew.refl _, rfl⟩
  · intro a w ht hs hg -- 6
    have h66 : a.tmps.getD 66 undef = _ := By.given_get hg 28 rfl rfl (by kernel_rfl)
    refine By.yes rfl ?_
    clear hs hg
    go_simp
    exact ⟨_, rfl, Grew.refl _, rfl⟩
  refine By.ends_is (By.ends_is (By.ends_is (By.ends_is (By.ends_is (By.ends_is (By.ends_is (By.ends_is (By.ends_is (By.ends_is (By.ends_is (By.ends_is (By.ends_is (By.ends_is (By.ends_is (By.ends_is (By.ends_is (By.ends_is (By.ends_is (By.ends_is (By.ends_is (By.ends_is (By.ends_is (By.ends_is (By.ends_is (By.ends_is (By.ends_is (By.ends_is (By.ends_is (By.ends_is (By.ends_nil fun wz hz => ?_))))))))))))))))))))))))))))))
  simp only [Act.put, List.setIfInBounds_toArray, List.set_cons_succ, List.set_cons_zero]
  go_wp2
  go_ret
  exact ⟨rfl, nextB (b := w9.drew) HB9.out.drew (Nat.le_refl _) hz⟩

set_option maxRecDepth 100000 in
theorem lift (os : Os) (started : os.Started) (H : Type) (enc : TypeId × Value → H) :
    ReturnsInHanded {} Try.checked os 7 .any (Rows.polyAddsSpec.pre6 enc Try.prog Try.f7 Rows.polyAddsRow.domain false) (Rows.polyAddsSpec.post enc Try.prog Try.f7 false true false false) := by
  refine Law.lifted (C := Try.checked) 4 own started (by kernel_rfl) Try.func7 laid (by kernel_rfl) rfl Try.underlying4 rfl
    (fun ds hd => by
      have hd' : ds.length = 3 := hd
      match ds, hd' with
      | [d0, d1, d2], _ => rfl)
    (ChangeSpec.witness6 (enc := enc) (C := Try.checked) false ⟨#[], #[.agg (Array.replicate 32 (.int .u8 0)), .agg (Array.replicate 16 (.int .u8 0)), .slice none 0 0], []⟩ 8 (by kernel_rfl) (by kernel_rfl) (by kernel_rfl) (by kernel_rfl)) ?_
  intro W args ds ps hst
  have hA : DataW.TrodAll enc Try.prog W 0 (fun _ => true) true Try.f7.params.toList args.toList ds ps := hst.trod
  have hok := hst.okw
  have hlt := hst.lt
  rw [Try.params7] at hA hok
  obtain ⟨v0, v1, v2, d0, d1, d2, p0, p1, p2, rfl, rfl, rfl, h0, h1, h2⟩ := trodAll_three hA
  obtain ⟨_, hv0⟩ := hok 0 24 v0 rfl rfl
  obtain ⟨_, hv1⟩ := hok 1 40 v1 rfl rfl
  obtain ⟨_, hv2⟩ := hok 2 39 v2 rfl rfl
  obtain ⟨key, rfl, hkl⟩ := arr8_at Try.underlying24 (by kernel_rfl) (by kernel_rfl) Try.underlying5 hv0
  obtain ⟨s, rfl, hsl⟩ := arr8_at Try.underlying40 (by kernel_rfl) (by kernel_rfl) Try.underlying5 hv1
  obtain ⟨lb, hb, _⟩ := Law.bytes_at Try.underlying39 hv2 h2 (fun x hx => hlt x (by simp [hx]))
  obtain ⟨A1, c1, rfl, _⟩ := id hb
  rcases Nat.lt_or_ge 400 lb.length with h | h
  · exact long key s A1 _ c1 h W
  · exact walk key s lb A1 _ c1 hkl hsl W rfl hb h

theorem over : Rows.polyAddsRow.holds Try.pinned (OpenSpec.ofChange Rows.polyAddsSpec) :=
  OpenClaim.holds_of_wide 7 Try.f7 rfl rfl rfl rfl rfl rfl rfl ⟨rfl, rfl, rfl, rfl, rfl⟩ rfl rfl rfl rfl rfl (by kernel_rfl) Try.func7 (by kernel_rfl)
    (of_decide_eq_true (by kernel_rfl)) (by unfold Func.isWrapper; first | (rw [if_pos (by decide +kernel)]; kernel_rfl) | (rw [if_neg (by decide +kernel)]; exact ⟨rfl, rfl⟩))
    (fun os started H enc _ => lift os started H enc)
theorem proved : Rows.PolyAddsSaid := over
#print axioms proved
end Go.Proofs.Ytnihpdbbbpekiaa.polyAdds
