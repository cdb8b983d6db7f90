/- config: Member; drawbridgekit's LightConfig. -/
import Derived.Test.YtiogadhgbkpemaaCfgSetPeer
namespace Go.Proofs.Ytiogadhgbkpemaa.Cfg
open Go.RowKit
set_option maxRecDepth 100000 in
theorem m1_any (m : Mb) (hk : m.ky.length = 32) (id : Int) {w : World} {g : Nat} (hg : w.cell? ⟨g, 0, none⟩ = some (.int .i64 id)) : Calls Try.prog 130 #[m.val, .pointer (some ⟨g, 0, none⟩)] w fun e w' => e = .returned (.bool (m.id == id)) ∧ Below w.heap.size w w' := by
  obtain ⟨W1, hW1⟩ : ∃ W1, w.alloc (.cells m.cs.toArray 97) = W1 := ⟨_, rfl⟩
  have hr : Row W1 w.heap.size m.cs 97 := hW1 ▸ Row.new rfl rfl
  have hb : Below w.heap.size w W1 := hW1 ▸ (Below.refl _ w).alloc (Nat.le_refl _) _
  have c0 := hr.cell (i := 0) rfl
  have c1 := (hb.cell (p := ⟨g, 0, none⟩) (World.block_lt_of_cell? _ _ hg)).trans hg
  have HB := Lib.hid hb
  obtain ⟨z, hz⟩ : ∃ z, (m.id == id) = z := ⟨_, rfl⟩
  rw [hz]
  clear hr hb hg
  unfold Mb.val
  go_enter Try.func130, Try.ntmps130
  go_wp2_with fail
  go_ret
  exact ⟨rfl, HB.out⟩
/-- Where the first one with that ID is, or -1. -/
def fst1 (l : List Mb) (id : Int) : Int := match l.findIdx? (fun m => m.id == id) with
  | some i => (i : Int)
  | none => -1
theorem fst1_hit {l : List Mb} {id : Int} {i : Nat} {m : Mb} (hm : l[i]? = some m) (he : (m.id == id) = true) (hn : ∀ t x, t < i → l[t]? = some x → (x.id == id) = false) : fst1 l id = (i : Int) := by
  have : l.findIdx? (fun m => m.id == id) = some i := by
    rw [List.findIdx?_eq_some_iff_getElem]
    have hlt := (List.getElem?_eq_some_iff.1 hm).1
    refine ⟨hlt, ?_, fun j hj => ?_⟩
    · rw [List.getElem?_eq_getElem hlt] at hm; injection hm with hm; rw [hm]; exact he
    · have := hn j _ hj (List.getElem?_eq_getElem (by omega))
      simpa using this
  unfold fst1
  rw [this]
theorem fst1_none {l : List Mb} {id : Int} (hn : ∀ t x, t < l.length → l[t]? = some x → (x.id == id) = false) : fst1 l id = -1 := by
  have : l.findIdx? (fun m => m.id == id) = none := by
    rw [List.findIdx?_eq_none_iff]
    intro x hx
    obtain ⟨t, ht, e⟩ := List.getElem_of_mem hx
    exact hn t x ht (by rw [List.getElem?_eq_getElem ht, e])
  unfold fst1
  rw [this]
set_option maxRecDepth 100000 in
set_option maxHeartbeats 2000000 in
theorem IndexFunc1_any {w : World} {B : Nat} {v : Value} {l : List Mb} (ht : MTab w B v l) (hN : l.length ≤ 100000) (id : Int) (hB : B ≤ w.heap.size) {g : Nat} (hg : w.cell? ⟨g, 0, none⟩ = some (.int .i64 id)) :
    Calls Try.prog 129 #[v, .func (.func 130) #[] #[.pointer (some ⟨g, 0, none⟩)]] w fun e w' => e = .returned (.int .i64 (fst1 l id)) ∧ Below w.heap.size w w' := by
  obtain ⟨A1, n1, rfl, _⟩ := (ht.2).shape
  have HT := Lib.hid ht
  have HN := Lib.hid hN
  have HBw := Lib.hid hB
  have HG := Lib.hid hg
  obtain ⟨z, hz⟩ : ∃ z, fst1 l id = z := ⟨_, rfl⟩
  rw [hz]
  have Hz := Lib.hid hz
  clear ht hN hB hg hz
  go_enter Try.func129, Try.ntmps129
  go_wp2
  go_loopw [8] (fun iv wr => ∃ i : Nat, i ≤ l.length ∧ iv = .int .i64 (i : Int) ∧ Below w.heap.size w wr ∧ Hid (∀ t x, t < i → l[t]? = some x → (x.id == id) = false)) (fun iv _ => l.length - (intOf iv).toNat)
  case atStart => exact ⟨0, Nat.zero_le _, rfl, Below.refl _ _, Lib.hid fun t x ht => absurd ht (Nat.not_lt_zero _)⟩
  case round =>
    obtain ⟨i, hi, rfl, hb, I⟩ := hrel
    have HB := Lib.hid hb
    clear hb
    have hi2 : (i : Int) ≤ 100000 := by have := HN.out; omega
    by_cases hlt : i < l.length
    · have hlt' : (i : Int) < (l.length : Int) := by omega
      obtain ⟨m, hm⟩ : ∃ m, l[i]? = some m := ⟨_, List.getElem?_eq_getElem hlt⟩
      have HM := Lib.hid hm
      obtain ⟨b0, off, e, _, _, hl⟩ := (HT.out.below (HB.out.mono HBw.out)).at hm
      subst e
      have hld := Lib.hid hl
      have hk := HT.out.1 m (List.mem_of_getElem? hm)
      have HC := Lib.hid (m1_any m hk id (w := wr) (g := g) ((HB.out.cell (p := ⟨g, 0, none⟩) (World.block_lt_of_cell? _ _ HG.out)).trans HG.out))
      clear hm hl hk
      cases hq : (m.id == id) with
      | false =>
        rw [hq] at HC
        have HQ := Lib.hid hq
        clear hq
        go_wp2_with (first
          | (refine QB.wpList_ld 97 rfl rfl hld.out rfl ?_)
          | (go_at_call 130; refine HC.out.mono ?_; rintro e w' ⟨rfl, hb⟩; have HB2 := Lib.hid (nextB HB.out (Nat.le_refl _) hb); clear hb)
          | fail)
        go_roundw
        case rel =>
          refine ⟨i + 1, by omega, by simp, HB2.out, Lib.hid fun t x ht hx => ?_⟩
          rcases Nat.lt_or_ge t i with h | h
          · exact I.out t x h hx
          · obtain rfl : t = i := by omega
            rw [HM.out] at hx; injection hx with hx; subst hx; exact HQ.out
        case measure => simp [intOf]; omega
      | true =>
        rw [hq] at HC
        obtain rfl : z = (i : Int) := by rw [← Hz.out]; exact fst1_hit HM.out hq I.out
        clear hq
        go_wp2_with (first
          | (refine QB.wpList_ld 97 rfl rfl hld.out rfl ?_)
          | (go_at_call 130; refine HC.out.mono ?_; rintro e w' ⟨rfl, hb⟩; have HB2 := Lib.hid (nextB HB.out (Nat.le_refl _) hb); clear hb)
          | fail)
        go_ret
        exact ⟨rfl, HB2.out⟩
    · have hlt' : ¬ (i : Int) < (l.length : Int) := by omega
      obtain rfl : i = l.length := by omega
      obtain rfl : z = -1 := by rw [← Hz.out]; exact fst1_none I.out
      go_wp2
      go_ret
      exact ⟨rfl, HB.out⟩
/-- What Member answers. -/
def mem1 (l : List Mb) (id : Int) : Option Mb := l.find? (fun m => m.id == id)
def zmb : Mb := ⟨0, zkey, false⟩
theorem fst1_cases (l : List Mb) (id : Int) : (fst1 l id = -1 ∧ mem1 l id = none) ∨ ∃ (i : Nat) (m : Mb), fst1 l id = (i : Int) ∧ i < l.length ∧ l[i]? = some m ∧ mem1 l id = some m := by
  unfold fst1 mem1
  cases hq : l.findIdx? (fun m => m.id == id) with
  | none =>
    refine .inl ⟨rfl, ?_⟩
    rw [List.findIdx?_eq_none_iff] at hq
    rw [List.find?_eq_none]
    intro x hx
    simpa using hq x hx
  | some i =>
    rw [List.findIdx?_eq_some_iff_getElem] at hq
    obtain ⟨hlt, h1, h2⟩ := hq
    refine .inr ⟨i, l[i], rfl, hlt, List.getElem?_eq_getElem hlt, ?_⟩
    rw [List.find?_eq_some_iff_getElem]
    refine ⟨h1, i, hlt, rfl, fun j hj => ?_⟩
    have := h2 j hj
    simpa using this
set_option maxRecDepth 100000 in
theorem build_zmb (w : World) : (Instr.build 97 #[]).run Try.prog w = .ok (Mb.val zmb) w := by
  show _ = _
  kernel_rfl
set_option maxRecDepth 100000 in
set_option maxHeartbeats 400000 in
theorem Member_any {w : World} {B : Nat} {vp vr : Value} {l : List Mb} (ht : MTab w B vp l) (hN : l.length ≤ 100000) (h2 : vr.oneCell' = true) (id : Int) (hB : B ≤ w.heap.size) :
    Calls Try.prog 97 #[.agg #[vp, vr], .int .i64 id] w fun e w' => e = .returned (.tuple #[((mem1 l id).getD zmb).val, .bool (mem1 l id).isSome]) ∧ Below w.heap.size w w' := by
  obtain ⟨A1, n1, rfl, _⟩ := (ht.2).shape
  have hb0 : Below w.heap.size w ((w.alloc (.cells #[.slice A1 l.length n1, vr] 27)).alloc (.cells #[.int .i64 id] 3)) := ((Below.refl _ w).alloc (Nat.le_refl _) _).alloc (by simp) _
  have hr0 : Row ((w.alloc (.cells #[.slice A1 l.length n1, vr] 27)).alloc (.cells #[.int .i64 id] 3)) w.heap.size [.slice A1 l.length n1, vr] 27 := (Row.new rfl rfl : Row (w.alloc (.cells #[.slice A1 l.length n1, vr] 27)) w.heap.size [.slice A1 l.length n1, vr] 27).alloc _
  have hr1 : Row ((w.alloc (.cells #[.slice A1 l.length n1, vr] 27)).alloc (.cells #[.int .i64 id] 3)) (w.heap.size + 1) [.int .i64 id] 3 := Row.new (by simp) rfl
  have es : ((w.alloc (.cells #[.slice A1 l.length n1, vr] 27)).alloc (.cells #[.int .i64 id] 3)).heap.size = w.heap.size + 1 + 1 := by simp
  have HR0 := Lib.hid hr0
  have HR1 := Lib.hid hr1
  have HB0 := Lib.hid hb0
  have HT := Lib.hid ht
  have HBw := Lib.hid hB
  have HN := Lib.hid hN
  have HES := Lib.hid es
  have hc := fst1_cases l id
  obtain ⟨mm, hmm⟩ : ∃ mm, mem1 l id = mm := ⟨_, rfl⟩
  rw [hmm] at hc ⊢
  have Hc := Lib.hid hc
  obtain ⟨zc, hzc⟩ : ∃ zc, Mb.cs zmb = zc := ⟨_, rfl⟩
  have HZC := Lib.hid hzc
  have HZL := Lib.hid (show zc.length = 34 from by rw [← hzc]; exact Mb.len (by simp [zmb, zkey]))
  have HZ1 := Lib.hid (show ∀ v ∈ zc, v.oneCell' = true from by rw [← hzc]; exact zmb.one)
  have HZB := Lib.hid (fun W => show (Instr.build 97 #[]).run Try.prog W = .ok (.agg zc.toArray) W from by rw [← hzc]; exact build_zmb W)
  have HZV := Lib.hid (show zmb.val = .agg zc.toArray from by rw [← hzc]; rfl)
  clear hzc
  clear ht hN hB hb0 hr0 hr1 h2 es hc hmm
  go_enter Try.func97, Try.ntmps97
  go_wp2_with (first
    | (show wpList _ _ _ (⟨some 4, _, _, _, _, _⟩ :: _) _ _
       refine QB.wpList_alloc rfl 97 rfl zero_mb ?_
       intro W1 hr2 hb2
       have c0 := (HR0.out.below hb2 HR0.out.lt).cell (i := 0) rfl
       have HI := Lib.hid (IndexFunc1_any (w := W1) (B := B) (HT.out.below ((nextB HB0.out (Nat.le_refl _) hb2).mono HBw.out)) HN.out id (Nat.le_trans (Nat.le_trans HBw.out HB0.out.size) hb2.size) (g := w.heap.size + 1) ((HR1.out.below hb2 HR1.out.lt).cell rfl))
       have HB1 := Lib.hid (show Below w.heap.size w W1 from nextB HB0.out (Nat.le_refl _) hb2)
       have HR0' := Lib.hid (HR0.out.below hb2 HR0.out.lt)
       rw [HES.out] at hr2
       have hr3 : Row W1 (w.heap.size + 1 + 1) (Mb.cs zmb) 97 := hr2
       rw [HZC.out] at hr3
       have HR2 := Lib.hid hr3
       clear hr3
       rw [HES.out]
       clear hr2 hb2)
    | fail)
  refine HI.out.mono ?_
  rintro e W2 ⟨rfl, hb⟩
  have HB2 := Lib.hid (show Below w.heap.size w W2 from nextB HB1.out (Nat.le_refl _) hb)
  have KR0 := Lib.hid (HR0'.out.below hb HR0'.out.lt)
  have KR2 := Lib.hid (HR2.out.below hb HR2.out.lt)
  clear hb c0 HI HR0 HR1 HB0 HR0' HR2 HES
  have c0 := KR0.out.cell (i := 0) rfl
  rcases Hc.out with ⟨e1, e2⟩ | ⟨i, m, e1, hi, hm, e2⟩
  · rw [e1]
    subst e2
    clear e1 Hc c0
    go_wp2_with (first
      | (show wpList _ _ _ (⟨some 13, _, _, _, _, _⟩ :: _) _ _
         refine wpList_bp rfl 97 #[] rfl (ps := #[]) (by kernel_rfl) (HZB.out W2) ?_
         clear HZB
         refine wpList_storeRow rfl 97 (.tmp 4) (.tmp 13) rfl rfl (cs := zc) rfl KR2.out (by kernel_rfl) HZL.out HZL.out HZ1.out ?_
         refine QB.name fun W3 hW3 => ?_
         have LR2 := Lib.hid (show Row W3 (w.heap.size + 1 + 1) zc 97 from hW3 ▸ KR2.out.setRow _)
         have HB3 := Lib.hid (show Below w.heap.size w W3 from hW3 ▸ below_setRow HB2.out (by omega) _)
         clear hW3)
      | fail)
    refine bodyPost_ret (results_ct rfl rfl LR2.out Try.underlying97 rfl (by kernel_rfl) HZL.out) rfl ?_
    exact ⟨by rw [show ((none : Option Mb).getD zmb).val = zmb.val from rfl, HZV.out]; rfl, HB3.out⟩
  · rw [e1]
    subst e2
    have hi0 : 0 ≤ (i : Int) := by omega
    have hi1 : (i : Int) < (l.length : Int) := by omega
    have hi2 : ¬ (i : Int) < 0 := by omega
    have hk := Lib.hid (HT.out.1 m (List.mem_of_getElem? hm))
    obtain ⟨b0, off, e, _, _, hl⟩ := (HT.out.below (HB2.out.mono HBw.out)).at hm
    subst e
    have hld := Lib.hid hl
    clear e1 Hc hm hl hi
    go_wp2_with (first
      | (show wpList _ _ _ (⟨some 18, _, _, _, _, _⟩ :: _) _ _
         refine QB.wpList_ld 97 rfl rfl hld.out rfl ?_
         refine wpList_storeRow rfl 97 (.tmp 4) (.tmp 18) rfl rfl (cs := m.cs) rfl KR2.out (by kernel_rfl) (Mb.len hk.out) HZL.out m.one ?_
         refine QB.name fun W3 hW3 => ?_
         have LR2 := Lib.hid (show Row W3 (w.heap.size + 1 + 1) m.cs 97 from hW3 ▸ KR2.out.setRow _)
         have HB3 := Lib.hid (show Below w.heap.size w W3 from hW3 ▸ below_setRow HB2.out (by omega) _)
         clear hW3 hld)
      | fail)
    refine bodyPost_ret (results_ct rfl rfl LR2.out Try.underlying97 rfl (by kernel_rfl) (Mb.len hk.out)) rfl ?_
    exact ⟨rfl, HB3.out⟩
set_option maxRecDepth 100000 in
theorem Light_any (A1 A2 : Option Addr) (a n1 b n2 : Nat) (w : World) : Calls Try.prog 14 #[.agg #[.slice A1 a n1, .slice A2 b n2], .int .i64 40] w fun e w' => e = .returned (.bool (decide (a ≤ 40) && decide (b ≤ 40))) ∧ Below w.heap.size w w' := by
  have hb : Below w.heap.size w (w.alloc (.cells #[.slice A1 a n1, .slice A2 b n2] 27)) := (Below.refl _ w).alloc (Nat.le_refl _) _
  have hr : Row (w.alloc (.cells #[.slice A1 a n1, .slice A2 b n2] 27)) w.heap.size [.slice A1 a n1, .slice A2 b n2] 27 := Row.new rfl rfl
  have c0 := hr.cell (i := 0) rfl
  have c1 := hr.cell (i := 1) rfl
  have HB := Lib.hid hb
  clear hb hr
  by_cases ha : a ≤ 40
  · have ha' : (a : Int) ≤ 40 := by omega
    by_cases hb : b ≤ 40
    · have hb' : (b : Int) ≤ 40 := by omega
      rw [decide_eq_true ha, decide_eq_true hb]
      clear ha hb
      go_enter Try.func14, Try.ntmps14
      go_wp2
      go_ret
      exact ⟨rfl, HB.out⟩
    · have hb' : ¬ (b : Int) ≤ 40 := by omega
      rw [decide_eq_true ha, decide_eq_false hb]
      clear ha hb
      go_enter Try.func14, Try.ntmps14
      go_wp2
      go_ret
      exact ⟨rfl, HB.out⟩
  · have ha' : ¬ (a : Int) ≤ 40 := by omega
    rw [decide_eq_false ha]
    clear ha
    go_enter Try.func14, Try.ntmps14
    go_wp2
    go_ret
    exact ⟨rfl, HB.out⟩
end Go.Proofs.Ytiogadhgbkpemaa.Cfg
