/- config.ReadOp. -/
import Derived.Test.YtiogadhgbkpemaaCfgBytes
import Derived.Test.YtiogadhgbkpemaaRdLoop
import Derived.Test.YtiogadhgbkpemaaCfgSetPeer
namespace Go.Proofs.Ytiogadhgbkpemaa.Cfg
open Go.RowKit Num RdK
theorem bs_opkey {w : World} {g : Nat} {o : Opn} (h : Row w g o.cs 45) (hk : o.ky.length = 32) : Bs w w.heap.size (.slice (some ⟨g, 3, none⟩) 32 32) o.ky := by
  refine ⟨some ⟨g, 3, none⟩, 32, by rw [hk], by omega, fun _ => ⟨g, 3, rfl, h.lt, fun i u hu => h.cell ?_⟩⟩
  rw [Nat.add_comm 3 i]
  show (o.ky.map bv ++ [.int .u32 o.addr, .int .i64 o.bits])[i]? = _
  have := (List.getElem?_eq_some_iff.1 hu).1
  rw [List.getElem?_append_left (by rw [List.length_map]; exact this), List.getElem?_map, hu]
  rfl
set_option maxRecDepth 100000 in
theorem OpBytes_no {w : World} {o : Opn} (hk : o.ky.length = 32) (hV : okO o ≠ true) : Calls Try.prog 23 #[o.val] w fun e w' => e = .returned (.tuple #[.slice none 0 0, .int .i64 2]) ∧ Below w.heap.size w w' := by
  obtain ⟨W0, hW0⟩ : ∃ W0, w.alloc (.cells o.cs.toArray 45) = W0 := ⟨_, rfl⟩
  have hr0 : Row W0 w.heap.size o.cs 45 := hW0 ▸ Row.new rfl rfl
  have hb0 : Below w.heap.size w W0 := hW0 ▸ (Below.refl _ w).alloc (Nat.le_refl _) _
  have HC := Lib.hid (CheckOp_any o hk W0)
  have HB0 := Lib.hid hb0
  have HLD := Lib.hid (l_op hr0 hk)
  rw [show checkOpZ o = 2 from if_neg hV] at HC
  clear hV hb0 hr0
  unfold Opn.val at HC ⊢
  go_enter Try.func23, Try.ntmps23
  go_wp2_with (first | (refine QB.wpList_ld 45 rfl rfl HLD.out rfl ?_; clear HLD) | fail)
  clear hW0
  refine HC.out.mono ?_
  rintro e w1 ⟨rfl, hb1⟩
  have HB1 := Lib.hid (nextB HB0.out (Nat.le_refl _) hb1)
  clear hb1
  go_wp2
  go_ret2
  exact ⟨rfl, HB1.out⟩
set_option maxRecDepth 100000 in
set_option maxHeartbeats 2000000 in
theorem OpBytes_ok {w : World} {o : Opn} (hk : o.ky.length = 32) (hV : okO o = true) (ha : 0 ≤ o.addr ∧ o.addr ≤ 4294967295) (hr : 0 ≤ o.ref ∧ o.ref < 18446744073709551616) : Calls Try.prog 23 #[o.val] w fun e w' => ∃ v, e = .returned (.tuple #[v, .int .i64 0]) ∧ Own w' w.heap.size v o.enc ∧ Below w.heap.size w w' := by
  obtain ⟨W0, hW0⟩ : ∃ W0, w.alloc (.cells o.cs.toArray 45) = W0 := ⟨_, rfl⟩
  have hr0 : Row W0 w.heap.size o.cs 45 := hW0 ▸ Row.new rfl rfl
  have hb0 : Below w.heap.size w W0 := hW0 ▸ (Below.refl _ w).alloc (Nat.le_refl _) _
  have HC := Lib.hid (CheckOp_any o hk W0)
  have HB0 := Lib.hid hb0
  have HR0 := Lib.hid hr0
  have HLD := Lib.hid (l_op hr0 hk)
  rw [show checkOpZ o = 0 from if_pos hV] at HC
  obtain ⟨f1, f2, f3⟩ := okO_fit hV ha
  obtain ⟨kind, ref, id, ky, addr, bits⟩ := o
  simp only at f1 f2 f3 hk ha hr
  obtain ⟨k', rfl⟩ : ∃ n : Nat, kind = (n : Int) := ⟨kind.toNat, by omega⟩
  obtain ⟨r', rfl⟩ : ∃ n : Nat, ref = (n : Int) := ⟨ref.toNat, by omega⟩
  obtain ⟨i', rfl⟩ : ∃ n : Nat, id = (n : Int) := ⟨id.toNat, by omega⟩
  obtain ⟨a', rfl⟩ : ∃ n : Nat, addr = (n : Int) := ⟨addr.toNat, by omega⟩
  obtain ⟨b', rfl⟩ : ∃ n : Nat, bits = (n : Int) := ⟨bits.toNat, by omega⟩
  have HF := Lib.hid (show k' ≤ 5 ∧ r' < 18446744073709551616 ∧ i' ≤ 65536 ∧ a' ≤ 4294967295 ∧ b' ≤ 32 by omega)
  have HK := Lib.hid hk
  have hE : (⟨(k' : Int), (r' : Int), (i' : Int), ky, (a' : Int), (b' : Int)⟩ : Opn).enc = encs [k', r', i'] ++ ky ++ encs [a', b'] := by simp [Opn.enc, encs]
  have HE := Lib.hid hE
  have hwk := wrap_u64n k' (by have := HF.out; omega)
  have hwi := wrap_u64n i' (by have := HF.out; omega)
  have hwa := wrap_u64n a' (by have := HF.out; omega)
  have hwb := wrap_u64n b' (by have := HF.out; omega)
  clear hV hb0 hr0 f1 f2 f3 hk ha hr hE
  unfold Opn.val at HC HLD ⊢
  go_enter Try.func23, Try.ntmps23
  go_wp2_with (first | (refine QB.wpList_ld 45 rfl rfl HLD.out rfl ?_; clear HLD) | fail)
  clear hW0
  refine HC.out.mono ?_
  rintro e W1 ⟨rfl, hb1⟩
  have HB1 := Lib.hid (nextB HB0.out (Nat.le_refl _) hb1)
  have HR1 := Lib.hid (HR0.out.below hb1 HR0.out.lt)
  clear hb1 HC HR0 HB0
  have m0 := HR1.out.cell (i := 0) rfl
  have m1 := HR1.out.cell (i := 1) rfl
  have m2 := HR1.out.cell (i := 2) rfl
  go_wp2_with fail
  clear m0 m1 m2
  refine calls_name fun V hV => ?_
  obtain ⟨hn, hs⟩ := num_build (ns := [k', r', i']) (⟨Own.nil _ _, Below.refl _ _⟩ : BSt W1 W1 (.slice none 0 0) []) hV
  have HS := Lib.hid hs
  clear hV hs
  refine (appNums_any HS.out.own hn (by intro n hn; have := HF.out; simp only [List.mem_cons, List.not_mem_nil, or_false] at hn; omega) (by simp) HS.out.keep.size).mono ?_
  rintro e w2 ⟨v2, rfl, hg⟩
  have HS2 := Lib.hid (show BSt W1 w2 v2 (encs [k', r', i']) by have := HS.out.app hg; simpa using this)
  have HR2 := Lib.hid (HR1.out.below HS2.out.keep HR1.out.lt)
  have HL2 := Lib.hid (show (encs [k', r', i']).length ≤ 27 from encs_le (by intro n hn; have := HF.out; simp only [List.mem_cons, List.not_mem_nil, or_false] at hn; omega))
  clear hg hn
  go_wp2_with (at_builtin
               refine wpList_app_bytes _ rfl _ _ rfl rfl HS2.out.own rfl (bs_opkey HR2.out HK.out) (by have := HL2.out; have := HK.out; simp only at *; omega) HS2.out.keep.size ?_
               intro v5 w5 hown5 hg5 hblk5
               have HS5 := Lib.hid (HS2.out.put hown5 hg5)
               have HR5 := Lib.hid (HR1.out.below HS5.out.keep HR1.out.lt)
               clear hown5 hg5 hblk5
               have m35 := HR5.out.cell (i := 35) (Opn.at35 HK.out)
               have m36 := HR5.out.cell (i := 36) (Opn.at36 HK.out))
  clear m35 m36
  refine calls_name fun V hV => ?_
  obtain ⟨hn, hs⟩ := num_build (ns := [a', b']) HS5.out hV
  have HS6 := Lib.hid hs
  clear hV hs
  refine (appNums_any HS6.out.own hn (by intro n hn; have := HF.out; simp only [List.mem_cons, List.not_mem_nil, or_false] at hn; omega) (by have := HL2.out; have := HK.out; rw [List.length_append]; simp only [List.length_cons, List.length_nil] at *; omega) HS6.out.keep.size).mono ?_
  rintro e w7 ⟨v7, rfl, hg⟩
  have HS7 := Lib.hid (HS6.out.app hg)
  clear hg hn
  go_wp2
  go_ret2
  exact ⟨_, rfl, by rw [HE.out]; exact HS7.out.own.less HB1.out.size, nextB HB1.out (Nat.le_refl _) HS7.out.keep⟩
end Go.Proofs.Ytiogadhgbkpemaa.Cfg
namespace Go.Proofs.Ytiogadhgbkpemaa.Cfg
open Go.RowKit RdK CpA
set_option maxRecDepth 100000 in
theorem build_mbo (id : Int) (ky : List UInt8) (h : ky.length = 32) (of : Bool) (w : World) : (Instr.build 97 #[(0, .int .i64 id), (1, arr8 ky), (2, .bool of)]).run Try.prog w = .ok (Mb.val ⟨id, ky, of⟩) w := by
  match ky, h with
  | [k0, k1, k2, k3, k4, k5, k6, k7, k8, k9, k10, k11, k12, k13, k14, k15, k16, k17, k18, k19, k20, k21, k22, k23, k24, k25, k26, k27, k28, k29, k30, k31], _ =>
    show _ = _
    kernel_rfl
theorem build_rt (x y z : Int) (w : World) : (Instr.build 100 #[(0, .int .u32 x), (1, .int .i64 y), (2, .int .i64 z)]).run Try.prog w = .ok (Rt.val ⟨x, y, z⟩) w := by kernel_rfl
def stq (p q r t : Nat × Nat) (s : Nat) : Nat × Nat := [p, q, r].getD s t
theorem wrap_i64n (n : Nat) (h : n ≤ 4294967296) : IntKind.i64.wrap (n : Int) = (n : Int) := by simp [IntKind.wrap, IntKind.bits, IntKind.signed]; omega
theorem keep_drew {b : Ev.Base} {w : World} (h : Ev.Keep b w) : Ev.Keep b w.drew := ⟨h.os, h.tape, h.output, h.size, h.block⟩
theorem keep_id (w : World) (S : Nat → Prop) : Ev.Keep ⟨w, S⟩ w := ⟨rfl, rfl, rfl, Nat.le_refl _, fun _ _ => rfl⟩
theorem keep_both {S : Nat → Prop} {a b c : World} (h : Ev.Keep ⟨a, S⟩ b) (k : Ev.Keep ⟨b, S⟩ c) : Ev.Keep ⟨a, S⟩ c := by
  refine ⟨k.os.trans h.os, k.tape.trans h.tape, k.output.trans h.output, Nat.le_trans h.size k.size, fun i hi => ?_⟩
  have hlt : i < a.heap.size := Nat.lt_of_not_le fun h => hi (.inl h)
  have hs : a.heap.size ≤ b.heap.size := h.size
  rw [k.block i (by rintro (h1 | h1); exact absurd h1 (by show ¬ b.heap.size ≤ i; omega); exact hi (.inr h1))]
  exact h.block i hi
theorem below_of {S : Nat → Prop} {a b : World} {B : Nat} (h : Ev.Keep ⟨a, S⟩ b) (hB : B ≤ a.heap.size) (hS : ∀ i, i < B → ¬ S i) : Below B a b :=
  ⟨h.os, h.tape, h.output, h.size, fun i hi => h.block i (by rintro (h1 | h1); exact absurd h1 (by show ¬ a.heap.size ≤ i; omega); exact hS i hi h1)⟩
theorem row_of {S : Nat → Prop} {a b : World} {k : Nat} {cs : List Value} {t : TypeId} (h : Ev.Keep ⟨a, S⟩ b) (hr : Row a k cs t) (hS : ¬ S k) : Row b k cs t := by
  unfold Row
  rw [h.block k (by rintro (h1 | h1); exact absurd h1 (by have := hr.lt; show ¬ a.heap.size ≤ k; omega); exact hS h1)]
  exact hr
def Hole (g gc base : Nat) (i : Nat) : Prop := i = g ∨ i = gc ∨ base ≤ i
/-- What stands at a loop's head: the reader, the configuration's row, what was read. -/
structure LP (W : World) (lo g gc base : Nat) (b : List UInt8) (a1 e1 k : Nat) (w : World) : Prop where
  st : ∃ (l : List Mb) (a e : Nat) (vl : Value), rdList (rdMb b) k a1 e1 = (l, a, e) ∧ Rd w lo g b a e ∧ Row w gc [vl, .slice none 0 0] 27 ∧ OwnM w base vl l
  keep : Ev.Keep ⟨W, Hole g gc base⟩ w
structure LR (W : World) (lo g gc base : Nat) (b : List UInt8) (vp : Value) (ps : List Mb) (a1 e1 k : Nat) (w : World) : Prop where
  st : ∃ (l : List Rt) (a e : Nat) (vl : Value), rdList (rdRt b) k a1 e1 = (l, a, e) ∧ Rd w lo g b a e ∧ Row w gc [vp, vl] 27 ∧ OwnR w base vl l ∧ OwnM w base vp ps
  keep : Ev.Keep ⟨W, Hole g gc base⟩ w
theorem ownM_grown {w w' : World} {base : Nat} {v : Value} {l : List Mb} {row : Option Nat} (h : OwnM w base v l) (hg : w.grownBy w' row) (hr : ∀ i, row = some i → i < base) : OwnM w' base v l := ⟨h.1, RdL.owns_grown h.2 hg hr⟩
theorem ownR_grown {w w' : World} {base : Nat} {v : Value} {l : List Rt} {row : Option Nat} (h : OwnR w base v l) (hg : w.grownBy w' row) (hr : ∀ i, row = some i → i < base) : OwnR w' base v l := RdL.owns_grown h hg hr
theorem apart {w : World} {base : Nat} {vp vr : Value} {l : List Mb} {r : List Rt} (h : OwnM w base vp l) (k : OwnR w base vr r) {i : Nat} (hi : vp.ownBlock = some i) : vr.ownBlock ≠ some i := by
  intro hj
  rcases h.2.2 with ⟨rfl, _⟩ | ⟨g, cap, cur, rfl, _, hg, _⟩
  · cases hi
  · rcases k.2 with ⟨rfl, _⟩ | ⟨g', cap', cur', rfl, _, hg', _⟩
    · cases hj
    · have e1 : g = i := by injection hi
      have e2 : g' = i := by injection hj
      subst e1; subst e2
      rw [hg] at hg'
      injection hg' with e
      injection e with _ e _
      revert e
      decide
theorem ownM_app {w w' : World} {base : Nat} {vp vr : Value} {l : List Mb} {r : List Rt} (h : OwnM w base vp l) (k : OwnR w base vr r) (hg : w.grownBy w' vr.ownBlock) : OwnM w' base vp l := by
  refine ⟨h.1, World.ownsRow.kept h.2 hg ?_⟩
  cases hb : vp.ownBlock with
  | none => exact .inl rfl
  | some i => exact .inr fun e => apart h k hb e.symm
theorem one_gc {gc base : Nat} (h : gc < base) : ∀ i, some gc = some i → i < base := fun i e => by injection e with e; omega
theorem none_lt (base : Nat) : ∀ i, (none : Option Nat) = some i → i < base := fun _ e => by cases e
set_option maxRecDepth 100000 in
set_option maxHeartbeats 8000000 in
theorem Read_any (v : Value) (b : List UInt8) (w : World) (hb : Bs w w.heap.size v b) (hl : b.length ≤ 35184372088832) :
    Calls Try.prog 17 #[v] w fun e w' => (∀ c, rdCfg b = some c → ∃ v1 v2, e = .returned (.tuple #[.agg #[v1, v2], .int .i64 0]) ∧ CNew w' w.heap.size v1 v2 c) ∧ (rdCfg b = none → e = .returned (.tuple #[.agg #[.slice none 0 0, .slice none 0 0], .int .i64 4])) ∧ Below w.heap.size w w' := by
  have Hb := Lib.hid hb
  clear hb
  go_enter Try.func17, Try.ntmps17
  go_wp2_with fail
  refine calls_name fun V hV => ?_
  have hb0 : Below w.heap.size w V := hV ▸ (Below.refl _ w).alloc (Nat.le_refl _) _
  have hr0 : Row V w.heap.size [.slice none 0 0, .slice none 0 0] 27 := hV ▸ Row.new rfl rfl
  clear hV
  refine (Go.Proofs.Ytiogadhgbkpemaa.New_any _ b _ ((Hb.out.below hb0).more hb0.size) hl).mono ?_
  rintro e w1 ⟨g, rfl, hg1, hg2, hr1, hb1⟩
  have hB1 : Below w.heap.size w w1 := nextB hb0 (Nat.le_refl _) hb1
  have hR0 := hr0.below hb1 hr0.lt
  have hg0 : w.heap.size < g := Nat.lt_of_lt_of_le hr0.lt hg1
  have HB1 := Lib.hid hB1
  have HR0 := Lib.hid hR0
  have HR1 := Lib.hid hr1
  have HG := Lib.hid (And.intro hg0 hg2)
  clear hb0 hr0 hg1 hg2 hr1 hb1 hB1 hR0 hg0 Hb hl
  go_wp2_with fail
  refine calls_name fun W2 hW2 => ?_
  obtain ⟨gc, hgc⟩ : ∃ gc, w1.heap.size = gc := ⟨_, rfl⟩
  obtain ⟨lo, hlo⟩ : ∃ lo, V.heap.size = lo := ⟨_, rfl⟩
  have hb2 : Below w1.heap.size w1 W2 := hW2 ▸ (Below.refl _ w1).alloc (Nat.le_refl _) _
  have hrc : Row W2 gc [.slice none 0 0, .slice none 0 0] 27 := hW2 ▸ Row.new hgc rfl
  have hsz : W2.heap.size = gc + 1 := by rw [← hW2, ← hgc]; simp
  have hrd : Rd W2 lo g b 0 0 := hlo ▸ HR1.out.below hb2 HG.out.2
  have HB2 := Lib.hid (nextB HB1.out (Nat.le_refl _) hb2)
  have HR2 := Lib.hid (HR0.out.below hb2 HR0.out.lt)
  have HGC := Lib.hid (show w.heap.size < g ∧ g < gc by have := HG.out; omega)
  have HRC := Lib.hid hrc
  have HSZ := Lib.hid hsz
  have HRD := Lib.hid hrd
  rw [hgc]
  clear hW2 hgc hlo hb2 hrc hsz hrd HR0 HR1 HB1 HG
  obtain ⟨n, a1, e1, hn⟩ : ∃ x a e, rdUpto b 0 0 64 = (x, a, e) := ⟨_, _, _, rfl⟩
  have HN := Lib.hid hn
  have HN64 := Lib.hid (show n ≤ 64 by have := RdP.upto_le b 0 0 64; rwa [hn] at this)
  clear hn
  refine (Upto_any 64 HRD.out).mono ?_
  rw [HN.out]
  rintro e W3 ⟨rfl, hr3, hg3⟩
  have HL0 := Lib.hid (show LP W2 lo g gc (gc + 1) b a1 e1 0 W3 from ⟨⟨[], a1, e1, .slice none 0 0, rfl, hr3, row_grown HRC.out hg3 (by have := HGC.out; omega), ownM_nil _ _⟩, RdL.keep_row (keep_id W2 _) hg3 fun k e => by injection e with e; exact .inl e.symm⟩)
  clear hr3 hg3 HRD HRC
  go_wp2_with fail
  go_loopw [10] (fun iv wr => ∃ k : Nat, k ≤ n ∧ iv = .int .u64 (k : Int) ∧ Hid (LP W2 lo g gc (gc + 1) b a1 e1 k wr)) (fun iv _ => n - (intOf iv).toNat)
  case atStart => exact ⟨0, Nat.zero_le _, rfl, HL0⟩
  case round =>
    obtain ⟨k, hk, rfl, hL⟩ := hrel
    have hk2 : (k : Int) ≤ 64 := by have := HN64.out; omega
    by_cases hlt : k < n
    · have HLT := Lib.hid hlt
      obtain ⟨l, ax, ex, vl, hq, hrd, hrow, hown⟩ := hL.out.st
      have HKL := Lib.hid (show l.length = k by have := rdList_len (f := rdMb b) k a1 e1; rwa [hq] at this)
      obtain ⟨x, ax1, ex1, h1⟩ : ∃ x a e, rdUpto b ax ex 65536 = (x, a, e) := ⟨_, _, _, rfl⟩
      obtain ⟨ky, ax2, ex2, h2⟩ : ∃ x a e, rdFixed b ax1 ex1 32 = (x, a, e) := ⟨_, _, _, rfl⟩
      obtain ⟨o, ax3, ex3, h3⟩ : ∃ x a e, rdUpto b ax2 ex2 1 = (x, a, e) := ⟨_, _, _, rfl⟩
      have HX := Lib.hid (rdList_succ hq (rdMb_eq h1 h2 h3))
      have H1 := Lib.hid h1
      have H2 := Lib.hid h2
      have H3 := Lib.hid h3
      have HKY := Lib.hid (show (padTo 32 ky).length = 32 from padTo_length (by have := fixed_len32 b ax1 ex1; rwa [h2] at this))
      have hwx := wrap_i64n x (by have := RdP.upto_le b ax ex 65536; rw [h1] at this; omega)
      obtain ⟨ob, hob⟩ : ∃ ob, decide (o = 1) = ob := ⟨_, rfl⟩
      have hob2 : ((o : Int) == 1) = ob := by rw [← hob]; by_cases h : o = 1 <;> simp [h]; omega
      rw [hob] at HX
      obtain ⟨A, c0, hvl, hcl⟩ := hown.tab.2.shape
      have HHR := Lib.hid hrow
      have HHO := Lib.hid hown
      have HHD := Lib.hid hrd
      have HKeep := Lib.hid hL.out.keep
      have hgl := HGC.out
      have HVB := Lib.hid (show ∀ i, vl.ownBlock = some i → gc + 1 ≤ i from fun i e => (hown.2.lt i e).1)
      have HPo := Lib.hid (show ∀ (y y' : World), OwnM y (gc + 1) vl l → y.grownBy y' (some g) → OwnM y' (gc + 1) vl l from fun _ _ h hq => ownM_grown h hq (one_gc (by omega)))
      subst hvl
      clear hL hq h1 h2 h3 hob hrow hown hrd hcl
      go_wp2_with fail
      refine ByL.marks Cfg.mixed RdL.TT (RdL.FS gc (.slice A l.length c0)) (RdL.RS wr.drew lo g gc (gc + 1) b (stq (ax, ex) (ax1, ex1) (ax2, ex2) (ax3, ex3)) (fun v => [v, .slice none 0 0]) 27 (.slice A l.length c0) (fun y => OwnM y (gc + 1) (.slice A l.length c0) l) (fun y v => OwnM y (gc + 1) v (l ++ [⟨(x : Int), padTo 32 ky, ob⟩]))) 6 [
        ByL.is (.pointer (some ⟨gc, 0, none⟩)) none,
        ByL.is (.slice A l.length c0) none,
        ByL.is (.pointer (some ⟨g, 0, none⟩)) none,
        ByL.is (.int .u64 (x : Int)) (some 0),
        ByL.is (.int .i64 (x : Int)) none,
        ByL.is (.pointer (some ⟨g, 0, none⟩)) none,
        ByL.is (arr8 (padTo 32 ky)) (some 1),
        ByL.is (.pointer (some ⟨g, 0, none⟩)) none,
        ByL.is (.int .u64 (o : Int)) (some 2),
        ByL.is (.bool ob) none,
        ByL.is (Mb.val ⟨(x : Int), padTo 32 ky, ob⟩) none,
        RdL.rowM gc (.slice A l.length c0) (Mb.cs ⟨(x : Int), padTo 32 ky, ob⟩) 97,
        RdL.appM gc (.slice A l.length c0) (fun y v => OwnM y (gc + 1) v (l ++ [⟨(x : Int), padTo 32 ky, ob⟩])) (fun _ _ _ h hg => ownM_grown h hg (one_gc (Nat.lt_succ_self _))),
        ByL.is (.pointer (some ⟨gc, 0, none⟩)) none,
        ByL.isN (some 5)]
        (Ev.masks _ []) (by kernel_rfl) rfl (by kernel_rfl) (fun _ => trivial) (fun _ _ _ _ _ => trivial) (RdL.FS.refl gc (.slice A l.length c0)) ⟨fun _ => HHR.out, fun _ => HHO.out, HHD.out, (fun e => by cases e), keep_id _ _⟩ ⟨?_, ?_, ?_, ?_, ?_, ?_, ?_, ?_, ?_, ?_, ?_, ?_, ?_, ?_, ?_, trivial⟩ ?_
      · intro a w s ht hR hk1 hk2 hs hg -- fieldAddr
        have h5 := By.same_get hs 5 (by decide) (by kernel_rfl)
        refine ByL.yes rfl ?_
        clear hs hg hk1 hk2
        have HR := Lib.hid hR
        clear hR
        go_simp
        exact ⟨_, rfl, trivial, RdL.FS.refl _ _ _ _, HR.out, rfl⟩
      · intro a w s ht hR hk1 hk2 hs hg -- load
        have h12 : a.tmps.getD 12 undef = _ := ByN.given_get hg 0 rfl rfl (by kernel_rfl)
        refine ByL.yes rfl ?_
        have hc := (hR.row (by have := hk2 14 5 rfl (by kernel_rfl); omega)).cell (i := 0) rfl
        clear hs hg hk1 hk2
        have HR := Lib.hid hR
        clear hR
        go_simp
        exact ⟨_, rfl, trivial, RdL.FS.refl _ _ _ _, HR.out, rfl⟩
      · intro a w s ht hR hk1 hk2 hs hg -- move
        have h4 := By.same_get hs 4 (by decide) (by kernel_rfl)
        refine ByL.yes rfl ?_
        clear hs hg hk1 hk2
        have HR := Lib.hid hR
        clear hR
        go_simp
        exact ⟨_, rfl, trivial, RdL.FS.refl _ _ _ _, HR.out, rfl⟩
      · intro a w s ht hR hk1 hk2 hs hg -- Upto
        obtain rfl := hk1 0 rfl
        have h14 : a.tmps.getD 14 undef = _ := ByN.given_get hg 2 rfl rfl (by kernel_rfl)
        refine ByL.yes rfl ?_
        clear hs hg hk1 hk2
        have HR := Lib.hid hR
        clear hR
        go_simp
        refine (Upto_any 65536 (show Rd w lo g b ax ex from HR.out.rd)).mono ?_
        rw [H1.out]
        rintro e' w' ⟨rfl, hr, hgr⟩
        exact ⟨_, rfl, trivial, RdL.FS.early _ _ (by decide), HR.out.call (by decide) hgr hr (by omega) (fun hp hq => HPo.out _ _ hp hq), rfl⟩
      · intro a w s ht hR hk1 hk2 hs hg -- convert
        have h15 : a.tmps.getD 15 undef = _ := ByN.given_get hg 3 rfl rfl (by kernel_rfl)
        refine ByL.yes rfl ?_
        clear hs hg hk1 hk2
        have HR := Lib.hid hR
        clear hR
        go_simp
        exact ⟨_, rfl, trivial, RdL.FS.refl _ _ _ _, HR.out, rfl⟩
      · intro a w s ht hR hk1 hk2 hs hg -- move
        have h4 := By.same_get hs 4 (by decide) (by kernel_rfl)
        refine ByL.yes rfl ?_
        clear hs hg hk1 hk2
        have HR := Lib.hid hR
        clear hR
        go_simp
        exact ⟨_, rfl, trivial, RdL.FS.refl _ _ _ _, HR.out, rfl⟩
      · intro a w s ht hR hk1 hk2 hs hg -- key
        obtain rfl := hk1 1 rfl
        have h17 : a.tmps.getD 17 undef = _ := ByN.given_get hg 5 rfl rfl (by kernel_rfl)
        refine ByL.yes rfl ?_
        clear hs hg hk1 hk2
        have HR := Lib.hid hR
        clear hR
        go_simp
        refine (key_any (show Rd w lo g b ax1 ex1 from HR.out.rd)).mono ?_
        rw [H2.out]
        rintro e' w' ⟨rfl, hr, hgr⟩
        exact ⟨_, rfl, trivial, RdL.FS.early _ _ (by decide), HR.out.call (by decide) hgr hr (by omega) (fun hp hq => HPo.out _ _ hp hq), rfl⟩
      · intro a w s ht hR hk1 hk2 hs hg -- move
        have h4 := By.same_get hs 4 (by decide) (by kernel_rfl)
        refine ByL.yes rfl ?_
        clear hs hg hk1 hk2
        have HR := Lib.hid hR
        clear hR
        go_simp
        exact ⟨_, rfl, trivial, RdL.FS.refl _ _ _ _, HR.out, rfl⟩
      · intro a w s ht hR hk1 hk2 hs hg -- Upto
        obtain rfl := hk1 2 rfl
        have h19 : a.tmps.getD 19 undef = _ := ByN.given_get hg 7 rfl rfl (by kernel_rfl)
        refine ByL.yes rfl ?_
        clear hs hg hk1 hk2
        have HR := Lib.hid hR
        clear hR
        go_simp
        refine (Upto_any 1 (show Rd w lo g b ax2 ex2 from HR.out.rd)).mono ?_
        rw [H3.out]
        rintro e' w' ⟨rfl, hr, hgr⟩
        exact ⟨_, rfl, trivial, RdL.FS.early _ _ (by decide), HR.out.call (by decide) hgr hr (by omega) (fun hp hq => HPo.out _ _ hp hq), rfl⟩
      · intro a w s ht hR hk1 hk2 hs hg -- eql
        have h20 : a.tmps.getD 20 undef = _ := ByN.given_get hg 8 rfl rfl (by kernel_rfl)
        refine ByL.yes rfl ?_
        clear hs hg hk1 hk2
        have HR := Lib.hid hR
        clear hR
        go_simp
        exact ⟨_, rfl, trivial, RdL.FS.refl _ _ _ _, HR.out, rfl⟩
      · intro a w s ht hR hk1 hk2 hs hg -- build
        have h16 : a.tmps.getD 16 undef = _ := ByN.given_get hg 4 rfl rfl (by kernel_rfl)
        have h18 : a.tmps.getD 18 undef = _ := ByN.given_get hg 6 rfl rfl (by kernel_rfl)
        have h21 : a.tmps.getD 21 undef = _ := ByN.given_get hg 9 rfl rfl (by kernel_rfl)
        refine ByL.yes rfl ?_
        clear hs hg hk1 hk2
        refine RdL.op_bp 97 _ rfl (ps := #[(0, .int .i64 (x : Int)), (1, arr8 (padTo 32 ky)), (2, .bool ob)]) (Eq.trans (b := #[(0, a.tmps.getD 16 undef), (1, a.tmps.getD 18 undef), (2, a.tmps.getD 21 undef)]) (by kernel_rfl) (by rw [h16, h18, h21])) (build_mbo _ _ HKY.out _ w) ?_
        exact ⟨_, rfl, trivial, RdL.FS.refl _ _ _ _, hR, rfl⟩
      · intro a w s ht hR hk1 hk2 hs hg -- buildSlice
        obtain rfl := hk1 3 rfl
        have h22 : a.tmps.getD 22 undef = _ := ByN.given_get hg 10 rfl rfl (by kernel_rfl)
        refine ByL.yes rfl ?_
        clear hs hg hk1 hk2
        obtain ⟨i0, z0, hi, hz, hs, hby, hzs⟩ := info_mb
        refine RdL.op_bs 24 1 _ rfl (ps := #[(0, .agg (Mb.cs ⟨(x : Int), padTo 32 ky, ob⟩).toArray)]) (Eq.trans (b := #[(0, a.tmps.getD 22 undef)]) (by kernel_rfl) (by rw [h22]; rfl)) (run_bs_one Try.underlying24 hi hz hs hzs (by decide) (by decide) _ (Mb.len HKY.out) w) ?_
        have hbb : Below w.heap.size w (w.alloc (.cells (Mb.cs ⟨(x : Int), padTo 32 ky, ob⟩).toArray 97)) := (Below.refl _ w).alloc (Nat.le_refl _) _
        refine ⟨_, rfl, trivial, RdL.FS.early _ _ (by decide), hR.alloc hbb rfl fun hp hq => ownM_grown hp (only_of_below hq none) (none_lt _), ⟨_, rfl, Row.new rfl rfl, ?_, ?_⟩⟩
        · have := (hR.row (by decide)).lt; omega
        · intro e
          have := ((hR.old (by decide)).2.lt _ e).2
          omega
      · intro a w s ht hR hk1 hk2 hs hg -- append
        obtain rfl := hk1 4 rfl
        have h13 : a.tmps.getD 13 undef = _ := ByN.given_get hg 1 rfl rfl (by kernel_rfl)
        obtain ⟨gx, h23, hrx, _, _⟩ := ByN.given_get hg 11 rfl rfl (by kernel_rfl)
        have h23' : a.tmps.getD 23 undef = _ := h23
        refine ByL.yes rfl ?_
        clear hs hg hk1 hk2 h23
        obtain ⟨i0, z0, hi, hz, hs, hby, hzs⟩ := info_mb
        have hold := hR.old (by decide)
        obtain ⟨v', w', hrun, ho, hgr, hblk⟩ := RdL.run_app_tabG (P := Try.prog) w (ty := 24) Try.underlying24 hi hz hs hby hzs (by decide) hold.2 (MTab.one HKY.out hrx hrx.lt).2 (mcs_one _) (by have := HKL.out; have := HN64.out; simp only [List.length_cons, List.length_nil]; omega) (by decide) (by have := (hR.row (by decide)).lt; omega)
        refine RdL.op_app _ _ rfl rfl h13 h23' hrun ?_
        refine ⟨_, rfl, trivial, ⟨fun _ => hgr, fun e => by omega⟩, hR.app hgr (fun k e => HVB.out k e) rfl (by omega) (by omega), ?_⟩
        refine ⟨fun y hy => ?_, ?_⟩
        · rcases List.mem_append.1 hy with hy | hy
          · exact hold.1 y hy
          · rw [List.mem_singleton.1 hy]; exact HKY.out
        · show w'.ownsRow _ _ _ _ (l ++ [_]).length (mcs (l ++ [_]))
          rw [List.length_append, show mcs (l ++ [(⟨(x : Int), padTo 32 ky, ob⟩ : Mb)]) = mcs l ++ mcs [⟨(x : Int), padTo 32 ky, ob⟩] from List.flatMap_append]
          exact ho
      · intro a w s ht hR hk1 hk2 hs hg -- fieldAddr
        have h5 := By.same_get hs 5 (by decide) (by kernel_rfl)
        refine ByL.yes rfl ?_
        clear hs hg hk1 hk2
        have HR := Lib.hid hR
        clear hR
        go_simp
        exact ⟨_, rfl, trivial, RdL.FS.refl _ _ _ _, HR.out, rfl⟩
      · intro a w s ht hR hk1 hk2 hs hg -- store
        obtain rfl := hk1 5 rfl
        have h25 : a.tmps.getD 25 undef = _ := ByN.given_get hg 13 rfl rfl (by kernel_rfl)
        have hp : OwnM w (gc + 1) (a.tmps.getD 24 undef) _ := ByN.given_get hg 12 rfl rfl (by kernel_rfl)
        refine ByL.yes rfl ?_
        clear hs hg hk1 hk2
        obtain ⟨A5, c5, h24, _⟩ := hp.tab.2.shape
        rw [List.length_append, List.length_singleton] at h24
        rw [h24] at hp
        have HP := Lib.hid hp
        have HR := Lib.hid hR
        have hcell := (hR.row (by decide)).cell (i := 0) rfl
        have hfr := frozen_row (hR.row (by decide)) 0
        clear hp hR
        go_simp
        refine ⟨trivial, ⟨fun e => by omega, fun _ => only_put1 0 _⟩, HR.out.store (only_put1 0 _) ((HR.out.row (by decide)).set 0 _) (ownM_grown HP.out (only_put1 0 _) (one_gc (Nat.lt_succ_self _))) rfl (by omega), ⟨undef, trivial⟩⟩
      refine ByL.ends_is (ByL.ends_is (ByL.ends_is (ByL.ends_is (ByL.ends_is (ByL.ends_is (ByL.ends_is (ByL.ends_is (ByL.ends_is (ByL.ends_is (ByL.ends_is (ByL.ends_skip fun v23 => (ByL.ends_skip fun v24 => (ByL.ends_is (ByL.ends_skip fun v26 => ByL.ends_nil fun w4 hw4 => ?_))))))))))))))
      try simp only [Act.put, List.setIfInBounds_toArray, List.set_cons_succ, List.set_cons_zero]
      try simp only [List.drop_succ_cons, List.drop_zero]
      obtain ⟨_, hR6⟩ := hw4
      obtain ⟨v', hrow6, hown6⟩ := hR6.new rfl
      have HL' := Lib.hid (show LP W2 lo g gc (gc + 1) b a1 e1 (k + 1) w4 from ⟨⟨_, _, _, v', HX.out, hR6.rd, hrow6, hown6⟩, keep_both (keep_drew HKeep.out) hR6.keep⟩)
      clear hR6 hrow6 hown6 HHR HHO HHD HKeep hob2 hwx
      go_wp2_with fail
      go_roundw
      case rel => exact ⟨k + 1, by have := HLT.out; omega, by go_num, HL'⟩
      case measure => have := HLT.out; simp [intOf]; omega
    · have hq := hL.out.st
      rw [show k = n by omega] at hq
      obtain ⟨ps, a2, e2, vp, hps, hrd, hrow, hown⟩ := hq
      have HPS := Lib.hid hps
      have HKP := Lib.hid hL.out.keep
      have HRW := Lib.hid hrow
      have HOM := Lib.hid hown
      obtain ⟨AP, cp, hvp, hcp⟩ := hown.tab.2.shape
      subst hvp
      obtain ⟨m, a3, e3, hm⟩ : ∃ x a e, rdUpto b a2 e2 256 = (x, a, e) := ⟨_, _, _, rfl⟩
      have HM := Lib.hid hm
      have HM256 := Lib.hid (show m ≤ 256 by have := RdP.upto_le b a2 e2 256; rwa [hm] at this)
      have HRD := Lib.hid hrd
      have hgl := HGC.out
      clear hL hk2 hps hrow hown hm hrd
      go_wp2_with fail
      clear hlt hk
      refine (Upto_any 256 HRD.out).mono ?_
      rw [HM.out]
      rintro e W5 ⟨rfl, hr5, hg5⟩
      have HL0 := Lib.hid (show LR W2 lo g gc (gc + 1) b (.slice AP ps.length cp) ps a3 e3 0 W5 from ⟨⟨[], a3, e3, .slice none 0 0, rfl, hr5, row_grown HRW.out hg5 (by omega), ownR_nil _ _, ownM_grown HOM.out hg5 (one_gc (by omega))⟩, RdL.keep_row HKP.out hg5 fun k e => by injection e with e; exact .inl e.symm⟩)
      clear hr5 hg5 HRD HRW HOM HKP
      go_wp2_with fail
      go_loopw [29] (fun iv wr => ∃ k : Nat, k ≤ m ∧ iv = .int .u64 (k : Int) ∧ Hid (LR W2 lo g gc (gc + 1) b (.slice AP ps.length cp) ps a3 e3 k wr)) (fun iv _ => m - (intOf iv).toNat)
      case atStart => exact ⟨0, Nat.zero_le _, rfl, HL0⟩
      case round =>
        obtain ⟨k, hk, rfl, hL⟩ := hrel
        have hk2 : (k : Int) ≤ 256 := by have := HM256.out; omega
        by_cases hlt : k < m
        · have HLT := Lib.hid hlt
          obtain ⟨l, ax, ex, vl, hq, hrd, hrow, hown, hom⟩ := hL.out.st
          have HKL := Lib.hid (show l.length = k by have := rdList_len (f := rdRt b) k a3 e3; rwa [hq] at this)
          obtain ⟨x, ax1, ex1, h1⟩ : ∃ x a e, rdUpto b ax ex 4294967295 = (x, a, e) := ⟨_, _, _, rfl⟩
          obtain ⟨y, ax2, ex2, h2⟩ : ∃ x a e, rdUpto b ax1 ex1 32 = (x, a, e) := ⟨_, _, _, rfl⟩
          obtain ⟨z, ax3, ex3, h3⟩ : ∃ x a e, rdUpto b ax2 ex2 65536 = (x, a, e) := ⟨_, _, _, rfl⟩
          have HX := Lib.hid (rdList_succ hq (rdRt_eq h1 h2 h3))
          have H1 := Lib.hid h1
          have H2 := Lib.hid h2
          have H3 := Lib.hid h3
          have hwy := wrap_i64n y (by have := RdP.upto_le b ax1 ex1 32; rw [h2] at this; omega)
          have hwz := wrap_i64n z (by have := RdP.upto_le b ax2 ex2 65536; rw [h3] at this; omega)
          obtain ⟨A, c0, hvl, hcl⟩ := (Tab.of_own hown).shape
          have HHR := Lib.hid hrow
          have HHO := Lib.hid (And.intro hown hom)
          have HHD := Lib.hid hrd
          have HKeep := Lib.hid hL.out.keep
          have HVB := Lib.hid (show ∀ i, vl.ownBlock = some i → gc + 1 ≤ i from fun i e => (hown.lt i e).1)
          have HPo := Lib.hid (show ∀ (y y' : World), OwnR y (gc + 1) vl l ∧ OwnM y (gc + 1) (.slice AP ps.length cp) ps → y.grownBy y' (some g) → OwnR y' (gc + 1) vl l ∧ OwnM y' (gc + 1) (.slice AP ps.length cp) ps from fun _ _ h hq => ⟨ownR_grown h.1 hq (one_gc (by omega)), ownM_grown h.2 hq (one_gc (by omega))⟩)
          subst hvl
          clear hL hq h1 h2 h3 hrow hown hrd hcl hom
          go_wp2_with fail
          refine ByL.marks Cfg.mixed RdL.TT (RdL.FS gc (.slice A l.length c0)) (RdL.RS wr.drew lo g gc (gc + 1) b (stq (ax, ex) (ax1, ex1) (ax2, ex2) (ax3, ex3)) (fun v => [(.slice AP ps.length cp), v]) 27 (.slice A l.length c0) (fun Y => OwnR Y (gc + 1) (.slice A l.length c0) l ∧ OwnM Y (gc + 1) (.slice AP ps.length cp) ps) (fun Y v => OwnR Y (gc + 1) v (l ++ [⟨(x : Int), (y : Int), (z : Int)⟩]) ∧ OwnM Y (gc + 1) (.slice AP ps.length cp) ps)) 6 [
            ByL.is (.pointer (some ⟨gc, 1, none⟩)) none,
            ByL.is (.slice A l.length c0) none,
            ByL.is (.pointer (some ⟨g, 0, none⟩)) none,
            ByL.is (.int .u32 (x : Int)) (some 0),
            ByL.is (.pointer (some ⟨g, 0, none⟩)) none,
            ByL.is (.int .u64 (y : Int)) (some 1),
            ByL.is (.int .i64 (y : Int)) none,
            ByL.is (.pointer (some ⟨g, 0, none⟩)) none,
            ByL.is (.int .u64 (z : Int)) (some 2),
            ByL.is (.int .i64 (z : Int)) none,
            ByL.is (Rt.val ⟨(x : Int), (y : Int), (z : Int)⟩) none,
            RdL.rowM gc (.slice A l.length c0) (Rt.cs ⟨(x : Int), (y : Int), (z : Int)⟩) 100,
            RdL.appM gc (.slice A l.length c0) (fun Y v => OwnR Y (gc + 1) v (l ++ [⟨(x : Int), (y : Int), (z : Int)⟩]) ∧ OwnM Y (gc + 1) (.slice AP ps.length cp) ps) (fun _ _ _ h hg => ⟨ownR_grown h.1 hg (one_gc (Nat.lt_succ_self _)), ownM_grown h.2 hg (one_gc (Nat.lt_succ_self _))⟩),
            ByL.is (.pointer (some ⟨gc, 1, none⟩)) none,
            ByL.isN (some 5)]
            (Ev.masks _ []) (by kernel_rfl) rfl (by kernel_rfl) (fun _ => trivial) (fun _ _ _ _ _ => trivial) (RdL.FS.refl gc (.slice A l.length c0)) ⟨fun _ => HHR.out, fun _ => HHO.out, HHD.out, (fun e => by cases e), keep_id _ _⟩ ⟨?_, ?_, ?_, ?_, ?_, ?_, ?_, ?_, ?_, ?_, ?_, ?_, ?_, ?_, ?_, trivial⟩ ?_
          · intro a w s ht hR hk1 hk2 hs hg -- fieldAddr
            have h5 := By.same_get hs 5 (by decide) (by kernel_rfl)
            refine ByL.yes rfl ?_
            clear hs hg hk1 hk2
            have HR := Lib.hid hR
            clear hR
            go_simp
            exact ⟨_, rfl, trivial, RdL.FS.refl _ _ _ _, HR.out, rfl⟩
          · intro a w s ht hR hk1 hk2 hs hg -- load
            have h31 : a.tmps.getD 31 undef = _ := ByN.given_get hg 0 rfl rfl (by kernel_rfl)
            refine ByL.yes rfl ?_
            have hc := (hR.row (by have := hk2 14 5 rfl (by kernel_rfl); omega)).cell (i := 1) rfl
            clear hs hg hk1 hk2
            have HR := Lib.hid hR
            clear hR
            go_simp
            exact ⟨_, rfl, trivial, RdL.FS.refl _ _ _ _, HR.out, rfl⟩
          · intro a w s ht hR hk1 hk2 hs hg -- move
            have h4 := By.same_get hs 4 (by decide) (by kernel_rfl)
            refine ByL.yes rfl ?_
            clear hs hg hk1 hk2
            have HR := Lib.hid hR
            clear hR
            go_simp
            exact ⟨_, rfl, trivial, RdL.FS.refl _ _ _ _, HR.out, rfl⟩
          · intro a w s ht hR hk1 hk2 hs hg -- address
            obtain rfl := hk1 0 rfl
            have h33 : a.tmps.getD 33 undef = _ := ByN.given_get hg 2 rfl rfl (by kernel_rfl)
            refine ByL.yes rfl ?_
            clear hs hg hk1 hk2
            have HR := Lib.hid hR
            clear hR
            go_simp
            refine (address_any (show Rd w lo g b ax ex from HR.out.rd)).mono ?_
            rw [H1.out]
            rintro e' w' ⟨rfl, hr, hgr⟩
            exact ⟨_, rfl, trivial, RdL.FS.early _ _ (by decide), HR.out.call (by decide) hgr hr (by omega) (fun hp hq => HPo.out _ _ hp hq), rfl⟩
          · intro a w s ht hR hk1 hk2 hs hg -- move
            have h4 := By.same_get hs 4 (by decide) (by kernel_rfl)
            refine ByL.yes rfl ?_
            clear hs hg hk1 hk2
            have HR := Lib.hid hR
            clear hR
            go_simp
            exact ⟨_, rfl, trivial, RdL.FS.refl _ _ _ _, HR.out, rfl⟩
          · intro a w s ht hR hk1 hk2 hs hg -- Upto
            obtain rfl := hk1 1 rfl
            have h35 : a.tmps.getD 35 undef = _ := ByN.given_get hg 4 rfl rfl (by kernel_rfl)
            refine ByL.yes rfl ?_
            clear hs hg hk1 hk2
            have HR := Lib.hid hR
            clear hR
            go_simp
            refine (Upto_any 32 (show Rd w lo g b ax1 ex1 from HR.out.rd)).mono ?_
            rw [H2.out]
            rintro e' w' ⟨rfl, hr, hgr⟩
            exact ⟨_, rfl, trivial, RdL.FS.early _ _ (by decide), HR.out.call (by decide) hgr hr (by omega) (fun hp hq => HPo.out _ _ hp hq), rfl⟩
          · intro a w s ht hR hk1 hk2 hs hg -- convert
            have h36 : a.tmps.getD 36 undef = _ := ByN.given_get hg 5 rfl rfl (by kernel_rfl)
            refine ByL.yes rfl ?_
            clear hs hg hk1 hk2
            have HR := Lib.hid hR
            clear hR
            go_simp
            exact ⟨_, rfl, trivial, RdL.FS.refl _ _ _ _, HR.out, rfl⟩
          · intro a w s ht hR hk1 hk2 hs hg -- move
            have h4 := By.same_get hs 4 (by decide) (by kernel_rfl)
            refine ByL.yes rfl ?_
            clear hs hg hk1 hk2
            have HR := Lib.hid hR
            clear hR
            go_simp
            exact ⟨_, rfl, trivial, RdL.FS.refl _ _ _ _, HR.out, rfl⟩
          · intro a w s ht hR hk1 hk2 hs hg -- Upto
            obtain rfl := hk1 2 rfl
            have h38 : a.tmps.getD 38 undef = _ := ByN.given_get hg 7 rfl rfl (by kernel_rfl)
            refine ByL.yes rfl ?_
            clear hs hg hk1 hk2
            have HR := Lib.hid hR
            clear hR
            go_simp
            refine (Upto_any 65536 (show Rd w lo g b ax2 ex2 from HR.out.rd)).mono ?_
            rw [H3.out]
            rintro e' w' ⟨rfl, hr, hgr⟩
            exact ⟨_, rfl, trivial, RdL.FS.early _ _ (by decide), HR.out.call (by decide) hgr hr (by omega) (fun hp hq => HPo.out _ _ hp hq), rfl⟩
          · intro a w s ht hR hk1 hk2 hs hg -- convert
            have h39 : a.tmps.getD 39 undef = _ := ByN.given_get hg 8 rfl rfl (by kernel_rfl)
            refine ByL.yes rfl ?_
            clear hs hg hk1 hk2
            have HR := Lib.hid hR
            clear hR
            go_simp
            exact ⟨_, rfl, trivial, RdL.FS.refl _ _ _ _, HR.out, rfl⟩
          · intro a w s ht hR hk1 hk2 hs hg -- build
            have h34 : a.tmps.getD 34 undef = _ := ByN.given_get hg 3 rfl rfl (by kernel_rfl)
            have h37 : a.tmps.getD 37 undef = _ := ByN.given_get hg 6 rfl rfl (by kernel_rfl)
            have h40 : a.tmps.getD 40 undef = _ := ByN.given_get hg 9 rfl rfl (by kernel_rfl)
            refine ByL.yes rfl ?_
            clear hs hg hk1 hk2
            refine RdL.op_bp 100 _ rfl (ps := #[(0, .int .u32 (x : Int)), (1, .int .i64 (y : Int)), (2, .int .i64 (z : Int))]) (Eq.trans (b := #[(0, a.tmps.getD 34 undef), (1, a.tmps.getD 37 undef), (2, a.tmps.getD 40 undef)]) (by kernel_rfl) (by rw [h34, h37, h40])) (build_rt _ _ _ w) ?_
            exact ⟨_, rfl, trivial, RdL.FS.refl _ _ _ _, hR, rfl⟩
          · intro a w s ht hR hk1 hk2 hs hg -- buildSlice
            obtain rfl := hk1 3 rfl
            have h41 : a.tmps.getD 41 undef = _ := ByN.given_get hg 10 rfl rfl (by kernel_rfl)
            refine ByL.yes rfl ?_
            clear hs hg hk1 hk2
            obtain ⟨i0, z0, hi, hz, hs, hby, hzs⟩ := info_rt
            refine RdL.op_bs 25 1 _ rfl (ps := #[(0, .agg (Rt.cs ⟨(x : Int), (y : Int), (z : Int)⟩).toArray)]) (Eq.trans (b := #[(0, a.tmps.getD 41 undef)]) (by kernel_rfl) (by rw [h41]; rfl)) (run_bs_one Try.underlying25 hi hz hs hzs (by decide) (by decide) _ rfl w) ?_
            have hbb : Below w.heap.size w (w.alloc (.cells (Rt.cs ⟨(x : Int), (y : Int), (z : Int)⟩).toArray 100)) := (Below.refl _ w).alloc (Nat.le_refl _) _
            refine ⟨_, rfl, trivial, RdL.FS.early _ _ (by decide), hR.alloc hbb rfl fun hp hq => ⟨ownR_grown hp.1 (only_of_below hq none) (none_lt _), ownM_grown hp.2 (only_of_below hq none) (none_lt _)⟩, ⟨_, rfl, Row.new rfl rfl, ?_, ?_⟩⟩
            · have := (hR.row (by decide)).lt; omega
            · intro e
              have := ((hR.old (by decide)).1.lt _ e).2
              omega
          · intro a w s ht hR hk1 hk2 hs hg -- append
            obtain rfl := hk1 4 rfl
            have h32 : a.tmps.getD 32 undef = _ := ByN.given_get hg 1 rfl rfl (by kernel_rfl)
            obtain ⟨gx, h42, hrx, _, _⟩ := ByN.given_get hg 11 rfl rfl (by kernel_rfl)
            have h42' : a.tmps.getD 42 undef = _ := h42
            refine ByL.yes rfl ?_
            clear hs hg hk1 hk2 h42
            obtain ⟨i0, z0, hi, hz, hs, hby, hzs⟩ := info_rt
            have hold := hR.old (by decide)
            have htab : Tab 3 w w.heap.size (.slice (some ⟨gx, 0, none⟩) 1 1) 1 (rcs [⟨(x : Int), (y : Int), (z : Int)⟩]) := ⟨_, 1, rfl, Nat.le_refl _, by simp [rcs, Rt.cs], fun _ => ⟨gx, 0, rfl, hrx.lt, fun j x hx => by rw [Nat.zero_add]; exact hrx.cell (by simpa [rcs] using hx)⟩⟩
            obtain ⟨v', w', hrun, ho, hgr, hblk⟩ := RdL.run_app_tabG (P := Try.prog) w (ty := 25) Try.underlying25 hi hz hs hby hzs (by decide) hold.1 htab (rcs_one _) (by have := HKL.out; have := HM256.out; omega) (by decide) (by have := (hR.row (by decide)).lt; omega)
            refine RdL.op_app _ _ rfl rfl h32 h42' hrun ?_
            refine ⟨_, rfl, trivial, ⟨fun _ => hgr, fun e => by omega⟩, hR.app hgr (fun k e => HVB.out k e) rfl (by omega) (by omega), ?_, ownM_app hold.2 hold.1 hgr⟩
            show w'.ownsRow _ _ _ _ (l ++ [_]).length (rcs (l ++ [_]))
            rw [List.length_append, show rcs (l ++ [(⟨(x : Int), (y : Int), (z : Int)⟩ : Rt)]) = rcs l ++ rcs [⟨(x : Int), (y : Int), (z : Int)⟩] from List.flatMap_append]
            exact ho
          · intro a w s ht hR hk1 hk2 hs hg -- fieldAddr
            have h5 := By.same_get hs 5 (by decide) (by kernel_rfl)
            refine ByL.yes rfl ?_
            clear hs hg hk1 hk2
            have HR := Lib.hid hR
            clear hR
            go_simp
            exact ⟨_, rfl, trivial, RdL.FS.refl _ _ _ _, HR.out, rfl⟩
          · intro a w s ht hR hk1 hk2 hs hg -- store
            obtain rfl := hk1 5 rfl
            have h44 : a.tmps.getD 44 undef = _ := ByN.given_get hg 13 rfl rfl (by kernel_rfl)
            have hp : OwnR w (gc + 1) (a.tmps.getD 43 undef) _ ∧ OwnM w (gc + 1) (.slice AP ps.length cp) ps := ByN.given_get hg 12 rfl rfl (by kernel_rfl)
            refine ByL.yes rfl ?_
            clear hs hg hk1 hk2
            obtain ⟨A5, c5, h43, _⟩ := (Tab.of_own hp.1).shape
            rw [List.length_append, List.length_singleton] at h43
            rw [h43] at hp
            have HP := Lib.hid hp
            have HR := Lib.hid hR
            have hcell := (hR.row (by decide)).cell (i := 1) rfl
            have hfr := frozen_row (hR.row (by decide)) 1
            clear hp hR
            go_simp
            refine ⟨trivial, ⟨fun e => by omega, fun _ => only_put1 1 _⟩, HR.out.store (only_put1 1 _) ((HR.out.row (by decide)).set 1 _) ⟨ownR_grown HP.out.1 (only_put1 1 _) (one_gc (Nat.lt_succ_self _)), ownM_grown HP.out.2 (only_put1 1 _) (one_gc (Nat.lt_succ_self _))⟩ rfl (by omega), ⟨undef, trivial⟩⟩
          refine ByL.ends_is (ByL.ends_is (ByL.ends_is (ByL.ends_is (ByL.ends_is (ByL.ends_is (ByL.ends_is (ByL.ends_is (ByL.ends_is (ByL.ends_is (ByL.ends_is (ByL.ends_skip fun v23 => (ByL.ends_skip fun v24 => (ByL.ends_is (ByL.ends_skip fun v26 => ByL.ends_nil fun w4 hw4 => ?_))))))))))))))
          try simp only [Act.put, List.setIfInBounds_toArray, List.set_cons_succ, List.set_cons_zero]
          try simp only [List.drop_succ_cons, List.drop_zero]
          obtain ⟨_, hR6⟩ := hw4
          obtain ⟨v', hrow6, hown6⟩ := hR6.new rfl
          have HL' := Lib.hid (show LR W2 lo g gc (gc + 1) b (.slice AP ps.length cp) ps a3 e3 (k + 1) w4 from ⟨⟨_, _, _, v', HX.out, hR6.rd, hrow6, hown6.1, hown6.2⟩, keep_both (keep_drew HKeep.out) hR6.keep⟩)
          clear hR6 hrow6 hown6 HHR HHO HHD HKeep hwy hwz
          go_wp2_with fail
          go_roundw
          case rel => exact ⟨k + 1, by have := HLT.out; omega, by go_num, HL'⟩
          case measure => have := HLT.out; simp [intOf]; omega
        · have hq := hL.out.st
          rw [show k = m by omega] at hq
          obtain ⟨rs, a4, e4, vr, hrs, hrd, hrow, hown, hom⟩ := hq
          have HRS := Lib.hid hrs
          have HKP := Lib.hid hL.out.keep
          have HRD := Lib.hid hrd
          obtain ⟨AR, cr, hvr, hcr⟩ := (Tab.of_own hown).shape
          subst hvr
          have HRW := Lib.hid hrow
          have HCN := Lib.hid (show CNew wr (gc + 1) (.slice AP ps.length cp) (.slice AR rs.length cr) ⟨ps, rs⟩ from ⟨hom, hown⟩)
          clear hL hk2 hrs hrow hown hom hrd hcr hcp
          obtain ⟨E, hE⟩ : ∃ E, rdEnd b a4 e4 = E := ⟨_, rfl⟩
          have HE := Lib.hid hE
          go_wp2_with fail
          clear hlt hk
          refine (End_any HRD.out).mono ?_
          rw [hE]
          rintro e w6 ⟨rfl, _, hgr⟩
          have HRW6 := Lib.hid (row_grown HRW.out hgr (by omega))
          have HCN6 := Lib.hid (show CNew w6 (gc + 1) (.slice AP ps.length cp) (.slice AR rs.length cr) ⟨ps, rs⟩ from ⟨ownM_grown HCN.out.ps hgr (one_gc (by omega)), ownR_grown HCN.out.rs hgr (one_gc (by omega))⟩)
          have hk6 := RdL.keep_row HKP.out hgr fun k e => by injection e with e; exact .inl e.symm
          have HR6 := Lib.hid (row_of hk6 HR2.out (by unfold Hole; omega))
          have HB6 := Lib.hid (show Below w.heap.size w w6 from HB2.out.trans (below_of hk6 HB2.out.size (fun i hi => by unfold Hole; omega)))
          clear hgr hk6 HRW HCN HKP HRD HR2 HB2 hE
          have c0 := HRW6.out.cell (i := 0) rfl
          have c1 := HRW6.out.cell (i := 1) rfl
          by_cases hE0 : E = 0
          · have hE1 : ((E : Int) != 0) = false := by subst hE0; rfl
            have HE0 := Lib.hid hE0
            clear hE0
            have HCK := Lib.hid (Check_any HCN6.out.at (Nat.le_refl _))
            go_wp2_with fail
            refine HCK.out.mono ?_
            rintro e w7 ⟨rfl, hb7⟩
            have HB7 := Lib.hid (nextB HB6.out (Nat.le_refl _) hb7)
            have HR7 := Lib.hid (HR6.out.below hb7 HR6.out.lt)
            have HRW7 := Lib.hid (HRW6.out.below hb7 HRW6.out.lt)
            have HCN7 := Lib.hid (HCN6.out.below hb7)
            clear hb7 c0 c1 HCK
            have c0 := HRW7.out.cell (i := 0) rfl
            have c1 := HRW7.out.cell (i := 1) rfl
            by_cases hV : Val ⟨ps, rs⟩
            · have HC := Lib.hid (rdCfg_yes HN.out HPS.out HM.out HRS.out (HE.out.trans HE0.out) hV)
              rw [show checkZ ⟨ps, rs⟩ = 0 from if_pos hV]
              clear hV
              go_wp2_with (first
                | (refine wpList_storeRow (n := 2) rfl 27 _ _ rfl rfl rfl (cs := [.slice AP ps.length cp, .slice AR rs.length cr]) (old := [.slice none 0 0, .slice none 0 0]) HR7.out (by kernel_rfl) rfl rfl (by intro v hv; simp only [List.mem_cons, List.not_mem_nil, or_false] at hv; rcases hv with rfl | rfl <;> rfl) ?_
                   obtain ⟨V2, hV2⟩ : ∃ V2, World.setRow w7 w.heap.size [.slice AP ps.length cp, .slice AR rs.length cr].toArray = V2 := ⟨_, rfl⟩
                   refine wpList_world hV2 ?_
                   have R2 := Lib.hid (show Row V2 w.heap.size [.slice AP ps.length cp, .slice AR rs.length cr] 27 by rw [← hV2]; exact Row.setRow HR7.out _)
                   have HBV := Lib.hid (show Below w.heap.size w V2 by rw [← hV2]; exact below_setRow HB7.out (Nat.le_refl _) _)
                   have HCV := Lib.hid (show CNew V2 (gc + 1) (.slice AP ps.length cp) (.slice AR rs.length cr) ⟨ps, rs⟩ by rw [← hV2]; exact HCN7.out.setRow (by omega) _)
                   clear hV2)
                | fail)
              refine bodyPost_ret (results_ct (cs := [.slice AP ps.length cp, .slice AR rs.length cr]) rfl rfl R2.out Try.underlying27 rfl (by kernel_rfl) rfl) rfl ?_
              refine ⟨fun c hc => ?_, fun hc => ?_, HBV.out⟩
              · rw [HC.out] at hc
                injection hc with hc
                subst hc
                exact ⟨_, _, rfl, HCV.out.less (by omega)⟩
              · rw [HC.out] at hc; cases hc
            · have HC := Lib.hid (rdCfg_no HN.out HPS.out HM.out HRS.out fun h => hV h.2)
              rw [show checkZ ⟨ps, rs⟩ = 2 from if_neg hV]
              clear hV
              go_wp2_with (first
                | (refine wpList_storeRow (n := 2) rfl 27 _ _ rfl rfl rfl (cs := [.slice none 0 0, .slice none 0 0]) (old := [.slice none 0 0, .slice none 0 0]) HR7.out (by kernel_rfl) rfl rfl (by intro v hv; simp only [List.mem_cons, List.not_mem_nil, or_false] at hv; rcases hv with rfl | rfl <;> rfl) ?_
                   obtain ⟨V2, hV2⟩ : ∃ V2, World.setRow w7 w.heap.size [.slice none 0 0, .slice none 0 0].toArray = V2 := ⟨_, rfl⟩
                   refine wpList_world hV2 ?_
                   have R2 := Lib.hid (show Row V2 w.heap.size [.slice none 0 0, .slice none 0 0] 27 by rw [← hV2]; exact Row.setRow HR7.out _)
                   have HBV := Lib.hid (show Below w.heap.size w V2 by rw [← hV2]; exact below_setRow HB7.out (Nat.le_refl _) _)
                   clear hV2)
                | fail)
              refine bodyPost_ret (results_ct (cs := [.slice none 0 0, .slice none 0 0]) rfl rfl R2.out Try.underlying27 rfl (by kernel_rfl) rfl) rfl ?_
              exact ⟨fun c hc => (by rw [HC.out] at hc; cases hc), fun _ => rfl, HBV.out⟩
          · have hE1 : ((E : Int) != 0) = true := by rw [bne_iff_ne]; omega
            have HC := Lib.hid (rdCfg_no HN.out HPS.out HM.out HRS.out fun h => hE0 (HE.out.symm.trans h.1))
            clear hE0
            go_wp2_with (first
              | (refine wpList_storeRow (n := 2) rfl 27 _ _ rfl rfl rfl (cs := [.slice none 0 0, .slice none 0 0]) (old := [.slice none 0 0, .slice none 0 0]) HR6.out (by kernel_rfl) rfl rfl (by intro v hv; simp only [List.mem_cons, List.not_mem_nil, or_false] at hv; rcases hv with rfl | rfl <;> rfl) ?_
                 obtain ⟨V2, hV2⟩ : ∃ V2, World.setRow w6 w.heap.size [.slice none 0 0, .slice none 0 0].toArray = V2 := ⟨_, rfl⟩
                 refine wpList_world hV2 ?_
                 have R2 := Lib.hid (show Row V2 w.heap.size [.slice none 0 0, .slice none 0 0] 27 by rw [← hV2]; exact Row.setRow HR6.out _)
                 have HBV := Lib.hid (show Below w.heap.size w V2 by rw [← hV2]; exact below_setRow HB6.out (Nat.le_refl _) _)
                 clear hV2)
              | fail)
            refine bodyPost_ret (results_ct (cs := [.slice none 0 0, .slice none 0 0]) rfl rfl R2.out Try.underlying27 rfl (by kernel_rfl) rfl) rfl ?_
            exact ⟨fun c hc => (by rw [HC.out] at hc; cases hc), fun _ => rfl, HBV.out⟩
end Go.Proofs.Ytiogadhgbkpemaa.Cfg
namespace Go.Proofs.Ytiogadhgbkpemaa.Cfg
open Go.RowKit RdK CpA
set_option maxRecDepth 100000 in
theorem build_op (k r i : Int) (ky : List UInt8) (h : ky.length = 32) (a b : Int) (w : World) : (Instr.build 45 #[(0, .int .i64 k), (1, .int .u64 r), (2, .int .i64 i), (3, arr8 ky), (4, .int .u32 a), (5, .int .i64 b)]).run Try.prog w = .ok (Opn.val ⟨k, r, i, ky, a, b⟩) w := by
  match ky, h with
  | [k0, k1, k2, k3, k4, k5, k6, k7, k8, k9, k10, k11, k12, k13, k14, k15, k16, k17, k18, k19, k20, k21, k22, k23, k24, k25, k26, k27, k28, k29, k30, k31], _ =>
    show _ = _
    kernel_rfl
set_option maxRecDepth 100000 in
theorem build_op0 (w : World) : (Instr.build 45 #[]).run Try.prog w = .ok (zop 0 0).val w := by kernel_rfl
set_option maxRecDepth 100000 in
set_option maxHeartbeats 1500000 in
theorem ReadOp_any (v : Value) (b : List UInt8) (w : World) (hb : Bs w w.heap.size v b) (hl : b.length ≤ 35184372088832) :
    Calls Try.prog 25 #[v] w fun e w' => (∀ o, rdOpn b = some o → e = .returned (.tuple #[o.val, .int .i64 0])) ∧ (rdOpn b = none → e = .returned (.tuple #[(zop 0 0).val, .int .i64 4])) ∧ Below w.heap.size w w' := by
  have Hb := Lib.hid hb
  clear hb
  go_enter Try.func25, Try.ntmps25
  go_wp2_with (first
    | (refine QB.wpList_alloc rfl 45 rfl zero_op ?_; intro V hr0 hb0)
    | fail)
  have hr0' : Row V w.heap.size (zop 0 0).cs 45 := hr0
  refine (Go.Proofs.Ytiogadhgbkpemaa.New_any _ b _ ((Hb.out.below hb0).more hb0.size) hl).mono ?_
  rintro e w1 ⟨g, rfl, hg1, hg2, hr1, hb1⟩
  have hg0 : w.heap.size < g := Nat.lt_of_lt_of_le hr0'.lt hg1
  have HB1 := Lib.hid (nextB hb0 (Nat.le_refl _) hb1)
  have HR1 := Lib.hid (hr0'.below hb1 hr0'.lt)
  have HD1 := Lib.hid hr1
  have HG := Lib.hid (show w.heap.size < g from hg0)
  clear hr0 hr0' hb0 hg1 hg2 hr1 hb1 hg0 Hb hl
  obtain ⟨k, a1, e1, h⟩ : ∃ x a e, rdUpto b 0 0 5 = (x, a, e) := ⟨_, _, _, rfl⟩
  have H1 := Lib.hid h
  have hw1 := wrap_i64n k (by have := RdP.upto_le b 0 0 5; rw [h] at this; omega)
  clear h
  go_wp2_with fail
  refine (Upto_any 5 HD1.out).mono ?_
  rw [H1.out]
  rintro e w2 ⟨rfl, hr, hgr⟩
  have HD2 := Lib.hid hr
  have HB2 := Lib.hid (HB1.out.grown hgr HB1.out.size (fun q hq => by injection hq with hq; have := HG.out; omega))
  have HR2 := Lib.hid (row_grown HR1.out hgr (by have := HG.out; omega))
  clear hr hgr HD1 HB1 HR1
  obtain ⟨r, a2, e2, h⟩ : ∃ x a e, rdNumber b a1 e1 = (x, a, e) := ⟨_, _, _, rfl⟩
  have H2 := Lib.hid h
  clear h
  go_wp2_with fail
  refine (RNumber_any HD2.out).mono ?_
  rw [H2.out]
  rintro e w3 ⟨rfl, hr, hgr⟩
  have HD3 := Lib.hid hr
  have HB3 := Lib.hid (HB2.out.grown hgr HB2.out.size (fun q hq => by injection hq with hq; have := HG.out; omega))
  have HR3 := Lib.hid (row_grown HR2.out hgr (by have := HG.out; omega))
  clear hr hgr HD2 HB2 HR2
  obtain ⟨i, a3, e3, h⟩ : ∃ x a e, rdUpto b a2 e2 65536 = (x, a, e) := ⟨_, _, _, rfl⟩
  have H3 := Lib.hid h
  have hw3 := wrap_i64n i (by have := RdP.upto_le b a2 e2 65536; rw [h] at this; omega)
  clear h
  go_wp2_with fail
  refine (Upto_any 65536 HD3.out).mono ?_
  rw [H3.out]
  rintro e w4 ⟨rfl, hr, hgr⟩
  have HD4 := Lib.hid hr
  have HB4 := Lib.hid (HB3.out.grown hgr HB3.out.size (fun q hq => by injection hq with hq; have := HG.out; omega))
  have HR4 := Lib.hid (row_grown HR3.out hgr (by have := HG.out; omega))
  clear hr hgr HD3 HB3 HR3
  obtain ⟨ky, a4, e4, h⟩ : ∃ x a e, rdFixed b a3 e3 32 = (x, a, e) := ⟨_, _, _, rfl⟩
  have H4 := Lib.hid h
  have HKY := Lib.hid (show (padTo 32 ky).length = 32 from padTo_length (by have := fixed_len32 b a3 e3; rwa [h] at this))
  clear h
  go_wp2_with fail
  refine (key_any HD4.out).mono ?_
  rw [H4.out]
  rintro e w5 ⟨rfl, hr, hgr⟩
  have HD5 := Lib.hid hr
  have HB5 := Lib.hid (HB4.out.grown hgr HB4.out.size (fun q hq => by injection hq with hq; have := HG.out; omega))
  have HR5 := Lib.hid (row_grown HR4.out hgr (by have := HG.out; omega))
  clear hr hgr HD4 HB4 HR4
  obtain ⟨x, a5, e5, h⟩ : ∃ x a e, rdUpto b a4 e4 4294967295 = (x, a, e) := ⟨_, _, _, rfl⟩
  have H5 := Lib.hid h
  clear h
  go_wp2_with fail
  refine (address_any HD5.out).mono ?_
  rw [H5.out]
  rintro e w6 ⟨rfl, hr, hgr⟩
  have HD6 := Lib.hid hr
  have HB6 := Lib.hid (HB5.out.grown hgr HB5.out.size (fun q hq => by injection hq with hq; have := HG.out; omega))
  have HR6 := Lib.hid (row_grown HR5.out hgr (by have := HG.out; omega))
  clear hr hgr HD5 HB5 HR5
  obtain ⟨z, a6, e6, h⟩ : ∃ x a e, rdUpto b a5 e5 32 = (x, a, e) := ⟨_, _, _, rfl⟩
  have H6 := Lib.hid h
  have hw6 := wrap_i64n z (by have := RdP.upto_le b a5 e5 32; rw [h] at this; omega)
  clear h
  go_wp2_with fail
  refine (Upto_any 32 HD6.out).mono ?_
  rw [H6.out]
  rintro e w7 ⟨rfl, hr, hgr⟩
  have HD7 := Lib.hid hr
  have HB7 := Lib.hid (HB6.out.grown hgr HB6.out.size (fun q hq => by injection hq with hq; have := HG.out; omega))
  have HR7 := Lib.hid (row_grown HR6.out hgr (by have := HG.out; omega))
  clear hr hgr HD6 HB6 HR6
  obtain ⟨O, hO⟩ : ∃ O : Opn, O = ⟨(k : Int), (r : Int), (i : Int), padTo 32 ky, (x : Int), (z : Int)⟩ := ⟨_, rfl⟩
  have HBO := Lib.hid (show (Instr.build 45 #[(0, .int .i64 (k : Int)), (1, .int .u64 (r : Int)), (2, .int .i64 (i : Int)), (3, arr8 (padTo 32 ky)), (4, .int .u32 (x : Int)), (5, .int .i64 (z : Int))]).run Try.prog w7 = .ok O.val w7 by rw [hO]; exact build_op _ _ _ _ HKY.out _ _ _)
  have HOK := Lib.hid (show O.ky.length = 32 by rw [hO]; exact HKY.out)
  have HEQ := Lib.hid (rdOpn_eq H1.out H2.out H3.out H4.out H5.out H6.out)
  rw [← hO] at HEQ
  clear hO H1 H2 H3 H4 H5 H6
  go_wp2_with (first
    | (refine wpList_bp rfl 45 _ rfl (ps := #[(0, .int .i64 (k : Int)), (1, .int .u64 (r : Int)), (2, .int .i64 (i : Int)), (3, arr8 (padTo 32 ky)), (4, .int .u32 (x : Int)), (5, .int .i64 (z : Int))]) (by kernel_rfl) HBO.out ?_; clear HBO)
    | (refine QB.wpList_alloc rfl 45 rfl zero_op ?_; intro W8 hr8 hb8; have HR8 := Lib.hid (show Row W8 w7.heap.size (zop 0 0).cs 45 from hr8); have HB8 := Lib.hid hb8; clear hr8 hb8)
    | (refine wpList_storeRow rfl 45 _ _ rfl rfl (cs := O.cs) rfl HR8.out (by kernel_rfl) (Opn.len HOK.out) (Opn.len zkey_len) O.one ?_
       refine QB.name fun W9 hW => ?_
       have hbw : Below w7.heap.size w7 W9 := hW ▸ below_setRow HB8.out (Nat.le_refl _) _
       have HRO := Lib.hid (show Row W9 w7.heap.size O.cs 45 from hW ▸ HR8.out.setRow _)
       have HD9 := Lib.hid (HD7.out.below hbw (rd_lt HD7.out))
       have HB9 := Lib.hid (nextB HB7.out (Nat.le_refl _) hbw)
       have HR9 := Lib.hid (HR7.out.below hbw HR7.out.lt)
       have HGO := Lib.hid (show g < w7.heap.size from rd_lt HD7.out)
       clear hW hbw HR8 HB8)
    | fail)
  obtain ⟨E, hE⟩ : ∃ E, rdEnd b a6 e6 = E := ⟨_, rfl⟩
  refine (End_any HD9.out).mono ?_
  rw [hE] at HEQ ⊢
  rintro e w10 ⟨rfl, _, hgr⟩
  have HRO2 := Lib.hid (row_grown HRO.out hgr (by have := HGO.out; omega))
  have HB10 := Lib.hid (HB9.out.grown hgr HB9.out.size (fun q hq => by injection hq with hq; have := HG.out; omega))
  have HR10 := Lib.hid (row_grown HR9.out hgr (by have := HG.out; omega))
  clear hgr HRO HB9 HR9 HD9 HB7 HR7 HD7 hE
  have HLD := Lib.hid (l_op HRO2.out HOK.out)
  by_cases hE0 : E = 0
  · have hE1 : ((E : Int) != 0) = false := by subst hE0; rfl
    have HE0 := Lib.hid hE0
    clear hE0
    have HCK := Lib.hid (CheckOp_any O HOK.out w10)
    obtain ⟨ov, hov⟩ : ∃ ov, O.val = ov := ⟨_, rfl⟩
    rw [hov] at HCK HLD
    go_wp2_with (first | (refine QB.wpList_ld 45 rfl rfl HLD.out (by kernel_rfl) ?_; clear HLD) | fail)
    refine HCK.out.mono ?_
    rintro e w11 ⟨rfl, hb11⟩
    subst hov
    have HBL := Lib.hid (nextB HB10.out (Nat.le_refl _) hb11)
    have HRL := Lib.hid (HR10.out.below hb11 HR10.out.lt)
    have HLD := Lib.hid (l_op (HRO2.out.below hb11 HRO2.out.lt) HOK.out)
    clear hb11 HCK HR10 HB10
    by_cases hV : okO O = true
    · rw [show checkOpZ O = 0 from if_pos hV]
      rw [if_pos ⟨HE0.out, hV⟩] at HEQ
      clear hV
      go_wp2_with (first
      | (refine QB.wpList_ld 45 rfl rfl HLD.out rfl ?_; clear HLD)
      | (refine wpList_storeRow rfl 45 _ _ rfl rfl (cs := O.cs) rfl HRL.out (by kernel_rfl) (Opn.len HOK.out) (Opn.len zkey_len) (Opn.one _) ?_
         refine QB.name fun V2 hV2 => ?_
         have R2 := Lib.hid (show Row V2 w.heap.size O.cs 45 from hV2 ▸ Row.setRow HRL.out _)
         have HBV := Lib.hid (show Below w.heap.size w V2 from hV2 ▸ below_setRow HBL.out (Nat.le_refl _) _)
         clear hV2)
      | fail)
      refine bodyPost_ret (results_ct (cs := O.cs) rfl rfl R2.out Try.underlying45 rfl (by kernel_rfl) (Opn.len HOK.out)) rfl ?_
      refine ⟨fun o ho => ?_, fun ho => ?_, HBV.out⟩
      · have ho2 := Option.some.inj (HEQ.out.symm.trans ho)
        rw [← ho2]
        unfold Opn.val
        rfl
      · exact absurd (HEQ.out.symm.trans ho) (by simp)
    · rw [show checkOpZ O = 2 from if_neg hV]
      rw [if_neg (fun h => hV h.2)] at HEQ
      clear hV HLD
      have HB0 := Lib.hid (build_op0 w11)
      go_wp2_with (first
      | (refine wpList_bp rfl 45 _ rfl (ps := #[]) (by kernel_rfl) HB0.out ?_; clear HB0)
      | (refine wpList_storeRow rfl 45 _ _ rfl rfl (cs := (zop 0 0).cs) rfl HRL.out (by kernel_rfl) (Opn.len zkey_len) (Opn.len zkey_len) (Opn.one _) ?_
         refine QB.name fun V2 hV2 => ?_
         have R2 := Lib.hid (show Row V2 w.heap.size (zop 0 0).cs 45 from hV2 ▸ Row.setRow HRL.out _)
         have HBV := Lib.hid (show Below w.heap.size w V2 from hV2 ▸ below_setRow HBL.out (Nat.le_refl _) _)
         clear hV2)
      | fail)
      refine bodyPost_ret (results_ct (cs := (zop 0 0).cs) rfl rfl R2.out Try.underlying45 rfl (by kernel_rfl) (Opn.len zkey_len)) rfl ?_
      exact ⟨fun o ho => absurd (HEQ.out.symm.trans ho) (by simp), fun _ => (by unfold Opn.val; rfl), HBV.out⟩
  · have hE1 : ((E : Int) != 0) = true := by rw [bne_iff_ne]; omega
    have HBL := Lib.hid HB10.out
    have HRL := Lib.hid HR10.out
    rw [if_neg (fun h => hE0 h.1)] at HEQ
    clear hE0 HLD
    have HB0 := Lib.hid (build_op0 w10)
    go_wp2_with (first
      | (refine wpList_bp rfl 45 _ rfl (ps := #[]) (by kernel_rfl) HB0.out ?_; clear HB0)
      | (refine wpList_storeRow rfl 45 _ _ rfl rfl (cs := (zop 0 0).cs) rfl HRL.out (by kernel_rfl) (Opn.len zkey_len) (Opn.len zkey_len) (Opn.one _) ?_
         refine QB.name fun V2 hV2 => ?_
         have R2 := Lib.hid (show Row V2 w.heap.size (zop 0 0).cs 45 from hV2 ▸ Row.setRow HRL.out _)
         have HBV := Lib.hid (show Below w.heap.size w V2 from hV2 ▸ below_setRow HBL.out (Nat.le_refl _) _)
         clear hV2)
      | fail)
    refine bodyPost_ret (results_ct (cs := (zop 0 0).cs) rfl rfl R2.out Try.underlying45 rfl (by kernel_rfl) (Opn.len zkey_len)) rfl ?_
    exact ⟨fun o ho => absurd (HEQ.out.symm.trans ho) (by simp), fun _ => (by unfold Opn.val; rfl), HBV.out⟩
end Go.Proofs.Ytiogadhgbkpemaa.Cfg
