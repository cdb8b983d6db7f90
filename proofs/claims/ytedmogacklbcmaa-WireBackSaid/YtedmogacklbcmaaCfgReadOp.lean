/- config.ReadOp. -/
import Derived.Test.YtedmogacklbcmaaOctMake
import Derived.Test.YtedmogacklbcmaaRow
import Derived.Test.YtedmogacklbcmaaCfgEnc
import Derived.Test.YtedmogacklbcmaaRdLoop
import Derived.Test.YtedmogacklbcmaaStr
import Derived.Test.YtedmogacklbcmaaCfgSetPeer
namespace Go.Proofs.Ytedmogacklbcmaa.Num
open Go.RowKit
section
variable {w w' : World} {row row2 : Option Nat} {v : Value} {ns : List Nat}
/-- A slice that reads as these numbers, outside of a row. -/
def U64s (w : World) (row : Option Nat) (v : Value) (ns : List Nat) : Prop :=
  ∃ A c, v = .slice A ns.length c ∧ ns.length ≤ c ∧ (ns ≠ [] → ∃ b off, A = some ⟨b, off, none⟩ ∧ b < w.heap.size ∧ row ≠ some b ∧ ∀ (i n : Nat), ns[i]? = some n → w.cell? ⟨b, off + i, none⟩ = some (.int .u64 (n : Int)))
theorem U64s.grown (h : U64s w row v ns) (hg : w.grownBy w' row) : U64s w' row v ns := by
  obtain ⟨A, c, h1, h2, h3⟩ := h
  refine ⟨A, c, h1, h2, fun hne => ?_⟩
  obtain ⟨b, off, e, hlt, hr, hc⟩ := h3 hne
  exact ⟨b, off, e, Nat.lt_of_lt_of_le hlt hg.size, hr, fun i n hn => (World.cell?_of_block (a := ⟨b, off + i, none⟩) (hg.block b hlt (fun e => hr e.symm))).trans (hc i n hn)⟩
theorem U64s.turn (h : U64s w row v ns) (hr : row2 = row ∨ ∃ g, row2 = some g ∧ w.heap.size ≤ g) : U64s w row2 v ns := by
  obtain ⟨A, c, h1, h2, h3⟩ := h
  refine ⟨A, c, h1, h2, fun hne => ?_⟩
  obtain ⟨b, off, e, hlt, hrr, hc⟩ := h3 hne
  refine ⟨b, off, e, hlt, ?_, hc⟩
  rcases hr with rfl | ⟨g, rfl, hg⟩
  · exact hrr
  · intro e2
    injection e2 with e2
    omega
theorem U64s.shape (h : U64s w row v ns) : ∃ A c, v = .slice A ns.length c ∧ ns.length ≤ c := by
  obtain ⟨A, c, h1, h2, _⟩ := h
  exact ⟨A, c, h1, h2⟩
theorem U64s.at {A : Option Addr} {n c : Nat} (h : U64s w row (.slice A n c) ns) {i x : Nat} (hx : ns[i]? = some x) : ∃ b off, A = some ⟨b, off, none⟩ ∧ w.cell? ⟨b, off + i, none⟩ = some (.int .u64 (x : Int)) := by
  obtain ⟨A', c', e, _, h3⟩ := h
  simp only [Value.slice.injEq] at e
  obtain ⟨rfl, _, rfl⟩ := e
  obtain ⟨b, off, e, _, _, hc⟩ := h3 (by intro e; rw [e] at hx; simp at hx)
  exact ⟨b, off, e, hc i x hx⟩
end
def u64v (n : Nat) : Value := .int .u64 (n : Int)
/-- A new row of numbers. -/
theorem u64s_new {w : World} {g : Nat} {t : TypeId} {ns : List Nat} {row : Option Nat} (h : Row w g (ns.map u64v) t) (hr : row ≠ some g) : U64s w row (.slice (some ⟨g, 0, none⟩) ns.length ns.length) ns := by
  refine ⟨_, _, rfl, Nat.le_refl _, fun _ => ⟨g, 0, rfl, h.lt, hr, fun i n hn => h.cell ?_⟩⟩
  rw [Nat.zero_add, List.getElem?_map, hn]
  rfl
/-- The bytes of numbers. -/
def encs (ns : List Nat) : List UInt8 := ns.flatMap Oct.enc
theorem encs_take {ns : List Nat} {k n : Nat} (h : ns[k]? = some n) : encs (ns.take (k + 1)) = encs (ns.take k) ++ Oct.enc n := by
  unfold encs
  rw [List.take_add_one, h, List.flatMap_append]
  simp
theorem enc_le {n : Nat} (h : n < 2 ^ 64) : (Oct.enc n).length ≤ 9 := by
  rw [Oct.enc_length]
  have := (Oct.nsize_spec n h).1
  omega
theorem encs_le : ∀ {ns : List Nat}, (∀ n ∈ ns, n < 2 ^ 64) → (encs ns).length ≤ 9 * ns.length
  | [], _ => by simp [encs]
  | x :: r, h => by
    have h1 := encs_le (ns := r) fun n hn => h n (List.mem_cons_of_mem _ hn)
    have h2 := enc_le (h x List.mem_cons_self)
    show (Oct.enc x ++ encs r).length ≤ _
    rw [List.length_append, List.length_cons]
    omega
/-- A row of one's own that grew: in place, or somewhere new. -/
structure Grow (w w' : World) (v v' : Value) (base : Nat) (l : List UInt8) : Prop where
  own : Own w' base v' l
  keep : w.grownBy w' v.ownBlock
  blk : v'.ownBlock = v.ownBlock ∨ ∃ g, v'.ownBlock = some g ∧ w.heap.size ≤ g
theorem grown_trans {a b c : World} {row row' : Option Nat} (h : a.grownBy b row) (h2 : b.grownBy c row') (hr : row' = row ∨ ∃ g, row' = some g ∧ a.heap.size ≤ g) : a.grownBy c row := by
  refine ⟨h2.os.trans h.os, h2.tape.trans h.tape, h2.output.trans h.output, Nat.le_trans h.size h2.size, fun i hi hne => (h2.block i (Nat.lt_of_lt_of_le hi h.size) ?_).trans (h.block i hi hne)⟩
  rcases hr with rfl | ⟨g, rfl, hg⟩
  · exact hne
  · intro e
    injection e with e
    omega
theorem Grow.refl {w : World} {v : Value} {base : Nat} {l : List UInt8} (h : Own w base v l) : Grow w w v v base l := ⟨h, ⟨rfl, rfl, rfl, Nat.le_refl _, fun _ _ _ => rfl⟩, .inl rfl⟩
theorem Grow.trans {a b c : World} {v v' v'' : Value} {base : Nat} {l l' : List UInt8} (h : Grow a b v v' base l) (k : Grow b c v' v'' base l') : Grow a c v v'' base l' := by
  refine ⟨k.own, grown_trans h.keep k.keep h.blk, ?_⟩
  rcases k.blk with e | ⟨g, e, hg⟩
  · rw [e]; exact h.blk
  · exact .inr ⟨g, e, Nat.le_trans h.keep.size hg⟩
theorem only_below {a w : World} (h : Below a.heap.size a w) (row : Option Nat) : a.grownBy w row := ⟨h.os, h.tape, h.output, h.size, fun i hi _ => h.block i hi⟩
/-- Something new beside it. -/
theorem Grow.below {a b c : World} {v v' : Value} {base : Nat} {l : List UInt8} (h : Grow a b v v' base l) (k : Below b.heap.size b c) : Grow a c v v' base l :=
  ⟨h.own.below k (Nat.le_refl _), grown_trans h.keep (only_below k v.ownBlock) (.inl rfl), h.blk⟩
/-- Below the base nothing has turned. -/
theorem Grow.under {a b : World} {v v' : Value} {base B : Nat} {l l0 : List UInt8} (h : Grow a b v v' base l) (h0 : Own a base v l0) (hB : B ≤ base) (hBa : B ≤ a.heap.size) : Below B a b :=
  ⟨h.keep.os, h.keep.tape, h.keep.output, h.keep.size, fun i hi => h.keep.block i (by omega) fun e => by have := (h0.block_ge e.symm).1; omega⟩
end Go.Proofs.Ytedmogacklbcmaa.Num
namespace Go.Proofs.Ytedmogacklbcmaa.Cfg
open Go.RowKit Num
set_option maxRecDepth 100000 in
set_option maxHeartbeats 1000000 in
theorem appNums_any {w : World} {base : Nat} {vb vn : Value} {l : List UInt8} {ns : List Nat} (hb : Own w base vb l) (hn : U64s w vb.ownBlock vn ns) (hx : ∀ n ∈ ns, n < 2 ^ 64) (hl : l.length + 9 * ns.length ≤ 1000000000) (hbase : base ≤ w.heap.size) :
    Calls Try.prog 39 #[vb, vn] w fun e w' => ∃ v', e = .returned v' ∧ Grow w w' vb v' base (l ++ encs ns) := by
  obtain ⟨A, c, rfl, hc⟩ := hn.shape
  have Hn := Lib.hid hn
  have Hx := Lib.hid hx
  have Hg := Lib.hid (show Grow w w vb vb base (l ++ encs (ns.take 0)) by simpa [encs] using Grow.refl hb)
  clear hn hx hb
  go_enter Try.func39, Try.ntmps39
  go_wp2_with fail
  go_loopw [0, 9] (fun v i wr => ∃ k : Nat, k ≤ ns.length ∧ i = .int .i64 (k : Int) ∧ Hid (Grow w wr vb v base (l ++ encs (ns.take k)))) (fun _ i _ => ns.length - (intOf i).toNat)
  case atStart => exact ⟨0, Nat.zero_le _, rfl, Hg⟩
  case round =>
    obtain ⟨k, hk, rfl, hgr⟩ := hrel
    by_cases hlt : k < ns.length
    · obtain ⟨x, hxk⟩ : ∃ x, ns[k]? = some x := ⟨_, List.getElem?_eq_getElem hlt⟩
      obtain ⟨b, off, rfl, hcell⟩ := (Hn.out.grown hgr.out.keep).at hxk
      have Hxk := Lib.hid hxk
      have Hlt := Lib.hid (Hx.out x (List.mem_of_getElem? hxk))
      have Hlen := Lib.hid (show (encs (ns.take k)).length + (Oct.enc x).length ≤ 9 * ns.length by
        have h1 := encs_le (ns := ns.take (k + 1)) fun n hn => Hx.out n (List.mem_of_mem_take hn)
        rw [encs_take hxk, List.length_append, List.length_take] at h1
        have : 9 * min (k + 1) ns.length ≤ 9 * ns.length := Nat.mul_le_mul_left _ (Nat.min_le_right _ _)
        omega)
      clear hxk
      go_wp2_with fail
      refine (Number_any _ [] x _ (Bs.nil _ _ _ _) Hlt.out (by simp)).mono ?_
      rintro e w1 ⟨y, rfl, ho, hb1⟩
      have HG1 := Lib.hid (hgr.out.below hb1)
      have HY := Lib.hid (show Bs w1 w1.heap.size y (Oct.enc x) by simpa using ho.bs)
      clear ho hb1 hcell
      go_wp2_with (at_builtin; refine wpList_app_bytes _ rfl _ _ rfl rfl HG1.out.own rfl HY.out (by rw [List.length_append]; have := Hlen.out; omega) (Nat.le_trans hbase HG1.out.keep.size) ?_; intro v2 w2 hown2 hg2 hblk2)
      have HG2 := Lib.hid (HG1.out.trans (l' := l ++ encs (ns.take k) ++ Oct.enc x) ⟨hown2, hg2, hblk2.imp_right fun e => ⟨_, e, Nat.le_refl _⟩⟩)
      clear hown2 hg2 hblk2
      go_roundw
      case rel => exact ⟨k + 1, by omega, by go_num, Lib.hid (by rw [encs_take Hxk.out, ← List.append_assoc]; exact HG2.out)⟩
      case measure => simp [intOf]; omega
    · have hkl : k = ns.length := by omega
      have Hkl := Lib.hid hkl
      clear hkl
      go_wp2
      go_ret
      refine ⟨_, rfl, ?_⟩
      have := hgr.out
      rwa [Hkl.out, List.take_length] at this
end Go.Proofs.Ytedmogacklbcmaa.Cfg
namespace Go.Proofs.Ytedmogacklbcmaa.Cfg
open Go.RowKit CpA RdK
set_option maxRecDepth 100000 in
theorem number_bool (b : Bool) (w : World) : Calls Try.prog 40 #[.bool b] w fun e w' => e = .returned (.int .u64 (bnat b : Int)) ∧ w = w' := by
  cases b
  all_goals
    go_enter Try.func40, Try.ntmps40
    go_wp2
    go_ret
    exact ⟨rfl, rfl⟩
theorem address_any {w : World} {lo g : Nat} {l : List UInt8} {at_ err : Nat} (h : Rd w lo g l at_ err) : Calls Try.prog 46 #[.pointer (some ⟨g, 0, none⟩)] w fun e w' =>
    e = .returned (.int .u32 ((rdUpto l at_ err 4294967295).1 : Nat)) ∧ Rd w' lo g l (rdUpto l at_ err 4294967295).2.1 (rdUpto l at_ err 4294967295).2.2 ∧ w.grownBy w' (some g) := by
  obtain ⟨x, a1, e1, hrd⟩ : ∃ x a e, rdUpto l at_ err 4294967295 = (x, a, e) := ⟨_, _, _, rfl⟩
  have hx : x ≤ 4294967295 := by have := RdP.upto_le l at_ err 4294967295; rwa [hrd] at this
  have hf := Upto_any 4294967295 h
  rw [hrd] at hf ⊢
  have Hf := Lib.hid hf
  have hw := wrap_u32 x hx
  clear hf h hx hrd
  go_enter Try.func46, Try.ntmps46
  go_wp2_with fail
  refine Hf.out.mono ?_
  rintro e w1 ⟨rfl, hr, hg⟩
  have Hr := Lib.hid hr
  have Hg := Lib.hid hg
  clear hr hg
  go_wp2
  go_ret
  exact ⟨rfl, Hr.out, Hg.out⟩
theorem l_a32 {w : World} {g : Nat} {r : List UInt8} (h : Row w g (r.map bv) 27) (hk : r.length = 32) : (loadVar 27 ⟨g, 0, none⟩).run Try.prog w = .ok (arr8 r) w := by
  rw [Pol.run_loadVar_sub (off := 0) (n := 32) w h Try.underlying27 rfl (by kernel_rfl) (by rw [List.length_map]; omega), List.drop_zero, List.take_of_length_le (by rw [List.length_map]; omega)]
  rfl
set_option maxRecDepth 100000 in
set_option maxHeartbeats 1000000 in
theorem key_any {w : World} {lo g : Nat} {l : List UInt8} {at_ err : Nat} (h : Rd w lo g l at_ err) : Calls Try.prog 45 #[.pointer (some ⟨g, 0, none⟩)] w fun e w' =>
    e = .returned (arr8 (padTo 32 (rdFixed l at_ err 32).1)) ∧ Rd w' lo g l (rdFixed l at_ err 32).2.1 (rdFixed l at_ err 32).2.2 ∧ w.grownBy w' (some g) := by
  obtain ⟨V, hV⟩ : ∃ V, (w.alloc (.cells ((zn 32).map bv).toArray 27)).alloc (.cells ((zn 32).map bv).toArray 27) = V := ⟨_, rfl⟩
  have hB : Below w.heap.size w V := hV ▸ ((Below.refl _ w).alloc (Nat.le_refl _) _).alloc (by simp) _
  have HV := Lib.hid (Rd.below h hB (rd_lt h))
  have HG := Lib.hid (rd_lt h)
  have HB := Lib.hid hB
  have HA := Lib.hid (show Row V w.heap.size ((zn 32).map bv) 27 from hV ▸ (Row.new rfl rfl).alloc _)
  have HZ := Lib.hid (show Row V (w.heap.size + 1) ((zn 32).map bv) 27 from hV ▸ Row.new (by simp) rfl)
  have HS := Lib.hid (show V.heap.size = w.heap.size + 1 + 1 by rw [← hV]; simp)
  obtain ⟨L, a1, e1, hrd⟩ : ∃ x a e, rdFixed l at_ err 32 = (x, a, e) := ⟨_, _, _, rfl⟩
  have HL := Lib.hid (show L.length ≤ 32 by have := RdP.fixed_len l at_ err 32; rw [show ((32 : Nat) : Int) = 32 from rfl, hrd] at this; exact this)
  have hf := Fixed_any 32 (show Rd V.drew lo g l at_ err from HV.out)
  rw [hrd] at hf
  have Hf := Lib.hid hf
  clear hf
  rw [hrd]
  clear hB h hrd
  go_enter Try.func45, Try.ntmps45
  go_wp2_with fail
  refine code_world hV ?_
  clear hV
  go_region_law (first
    | (refine CpA.step_copy_arr 32 rfl (.tmp 4) (.tmp 6) rfl rfl rfl Ho.out.bs HL.out HZr.out ?_
       intro w2 hr2 hk2
       have HZ2 := Lib.hid hr2
       have HK2 := Lib.hid hk2
       clear hr2 hk2)
    | (go_simp
       refine Hf.out.mono ?_
       rintro e w1 ⟨v, rfl, ho, hr, hg⟩
       have Ho := Lib.hid ho
       have Hr := Lib.hid hr
       have Hg := Lib.hid hg
       have HZr := Lib.hid (row_grown (w := V.drew) HZ.out hg (by have := HG.out; omega))
       have HAr := Lib.hid (row_grown (w := V.drew) HA.out hg (by have := HG.out; omega))
       clear ho hr hg))
  have HR2 := Lib.hid (row_keep HAr.out HK2.out (by omega))
  have HLd := Lib.hid (l_a32 HZ2.out (padTo_length HL.out))
  have HOm := Lib.hid (show ((padTo 32 L).map bv).length = 32 by rw [List.length_map]; exact padTo_length HL.out)
  have h12 := keep_only HK2.out
  have h02 : w.grownBy w2 (some g) := only_new (only_trans (only_of_below HB.out (some g)) (only_trans (only_drew V (some g)) Hg.out)) h12 (by omega)
  have Hr2 := Lib.hid (Hr.out.grown h12 (fun k hk => by injection hk with hk; have := HG.out; exact .inl (by omega)))
  have H02 := Lib.hid h02
  clear h12 h02
  go_wp2_with (first
    | (refine QB.wpList_ld 27 rfl rfl HLd.out rfl ?_)
    | (show wpList _ _ _ (⟨none, Op.store 27 _ _, _, _, _, _⟩ :: _) _ _; refine wpList_storeRow (g := w.heap.size) rfl 27 _ _ rfl rfl rfl (cs := (padTo 32 L).map bv) HR2.out (by kernel_rfl) HOm.out (by simp [zn]) (one_bytes _) ?_)
    | fail)
  refine bodyPost_ret (results_row rfl _ rfl (HR2.out.setRow ((padTo 32 L).map bv)) Try.underlying27 rfl (by kernel_rfl) HOm.out) rfl ?_
  have hs := only_setRow (w := w2) (g := w.heap.size) ((padTo 32 L).map bv).toArray
  exact ⟨rfl, Hr2.out.grown hs (fun k hk => by injection hk with hk; have := HG.out; exact .inl (by omega)), only_new H02.out hs (Nat.le_refl _)⟩
end Go.Proofs.Ytedmogacklbcmaa.Cfg
namespace Go.Proofs.Ytedmogacklbcmaa.Cfg
open Go.RowKit Num RdK
/-- Bytes of one's own since W1. -/
structure BSt (W1 w : World) (v : Value) (l : List UInt8) : Prop where
  own : Own w W1.heap.size v l
  keep : Below W1.heap.size W1 w
theorem BSt.below {W1 w V : World} {v : Value} {l : List UInt8} (h : BSt W1 w v l) (k : Below w.heap.size w V) : BSt W1 V v l := ⟨h.own.below k (Nat.le_refl _), nextB h.keep (Nat.le_refl _) k⟩
theorem BSt.app {W1 w V : World} {v v' : Value} {l l' : List UInt8} (h : BSt W1 w v l) (k : Grow w V v v' W1.heap.size l') : BSt W1 V v' l' :=
  ⟨k.own, h.keep.trans (k.under h.own (Nat.le_refl _) h.keep.size)⟩
theorem BSt.put {W1 w V : World} {v v' : Value} {l l' : List UInt8} (h : BSt W1 w v l) (ho : Own V W1.heap.size v' l') (hg : w.grownBy V v.ownBlock) : BSt W1 V v' l' :=
  ⟨ho, h.keep.grown hg h.keep.size fun k hk => (h.own.block_ge hk).1⟩
theorem wrap_u64n (n : Nat) (h : n ≤ 4294967296) : IntKind.u64.wrap (n : Int) = (n : Int) := by simp [IntKind.wrap, IntKind.bits, IntKind.signed]; omega
theorem calls_name {P : Program} {f : FuncId} {args : Array Value} {w : World} {Q : Ending → World → Prop} (h : ∀ W, w = W → Calls P f args W Q) : Calls P f args w Q := h w rfl
/-- A new row of numbers beside it. -/
theorem num_build {W1 w V : World} {ns : List Nat} {t : TypeId} {v : Value} {l : List UInt8} (h : BSt W1 w v l) (hV : w.alloc (.cells (ns.map u64v).toArray t) = V) : U64s V v.ownBlock (.slice (some ⟨w.heap.size, 0, none⟩) ns.length ns.length) ns ∧ BSt W1 V v l := by
  have hb : Below w.heap.size w V := hV ▸ (Below.refl _ w).alloc (Nat.le_refl _) _
  refine ⟨u64s_new (t := t) (hV ▸ Row.new rfl rfl) fun e => ?_, h.below hb⟩
  have := (h.own.block_ge e).2
  omega
theorem grow_row {V w4 : World} {v v4 : Value} {base g : Nat} {l : List UInt8} {cs : List Value} {t : TypeId} (h : Grow V w4 v v4 base l) (hr : Row V g cs t) (hne : v.ownBlock ≠ some g) : Row w4 g cs t ∧ v4.ownBlock ≠ some g := by
  refine ⟨?_, ?_⟩
  · unfold Row
    rw [h.keep.block g hr.lt (fun e => hne e.symm)]
    exact hr
  · rcases h.blk with e | ⟨k, e, hk⟩
    · rw [e]; exact hne
    · rw [e]
      intro e2
      injection e2 with e2
      have := hr.lt
      omega
theorem BSt.away {W1 w : World} {v : Value} {l : List UInt8} (h : BSt W1 w v l) : v.ownBlock ≠ some w.heap.size := fun e => by have := (h.own.block_ge e).2; omega
theorem flat_le {α : Type} {f : α → List UInt8} {K : Nat} : ∀ {l : List α}, (∀ x ∈ l, (f x).length ≤ K) → (l.flatMap f).length ≤ K * l.length
  | [], _ => by simp
  | x :: r, h => by
    have h1 := flat_le (f := f) (l := r) fun y hy => h y (List.mem_cons_of_mem _ hy)
    have h2 := h x List.mem_cons_self
    rw [List.flatMap_cons, List.length_append, List.length_cons, Nat.mul_add]
    omega
theorem mb_len {m : Mb} (h : m.Fit) : m.enc.length ≤ 50 := by
  have hid := isIDB_in h.1
  have h1 := enc_le (n := m.id.toNat) (by omega)
  have h2 := enc_le (n := bnat m.off) (by cases m.off <;> decide)
  have h3 := h.2
  unfold Mb.enc
  rw [List.length_append, List.length_append]
  omega
theorem rt_len {m : Rt} (h : m.Fit) : m.enc.length ≤ 27 := by
  have hid := isIDB_in h.2.2
  have h1 := enc_le (n := m.addr.toNat) (by have := h.1; omega)
  have h2 := enc_le (n := m.bits.toNat) (by have := h.2.1; omega)
  have h3 := enc_le (n := m.peer.toNat) (by omega)
  unfold Rt.enc
  rw [List.length_append, List.length_append]
  omega
theorem mb33 {m : Mb} (h : m.ky.length = 32) : m.cs[33]? = some (.bool m.off) := by
  show (m.ky.map bv ++ [.bool m.off])[32]? = _
  rw [List.getElem?_append_right (by rw [List.length_map]; omega), List.length_map, h]
  rfl
theorem bs_key {w : World} {g : Nat} {m : Mb} (h : Row w g m.cs 95) (hk : m.ky.length = 32) : Bs w w.heap.size (.slice (some ⟨g, 1, none⟩) 32 32) m.ky := by
  refine ⟨some ⟨g, 1, none⟩, 32, by rw [hk], by omega, fun _ => ⟨g, 1, rfl, h.lt, fun i u hu => h.cell ?_⟩⟩
  rw [Nat.add_comm 1 i]
  show (m.ky.map bv ++ [.bool m.off])[i]? = _
  have := (List.getElem?_eq_some_iff.1 hu).1
  rw [List.getElem?_append_left (by rw [List.length_map]; exact this), List.getElem?_map, hu]
  rfl
theorem Bytes_no {w : World} {B : Nat} {vp vr : Value} {c : Cf} (h : CAt w B vp vr c) (hB : B ≤ w.heap.size) (hV : ¬ Val c) : Calls Try.prog 8 #[.agg #[vp, vr]] w fun e w' => e = .returned (.tuple #[.slice none 0 0, .int .i64 2]) ∧ Below w.heap.size w w' := by
  obtain ⟨A1, n1, A2, n2, rfl, rfl⟩ := h.shape
  obtain ⟨W0, hW0⟩ : ∃ W0, w.alloc (.cells #[.slice A1 c.ps.length n1, .slice A2 c.rs.length n2] 25) = W0 := ⟨_, rfl⟩
  have hr0 : Row W0 w.heap.size [.slice A1 c.ps.length n1, .slice A2 c.rs.length n2] 25 := hW0 ▸ Row.new rfl rfl
  have hb0 : Below w.heap.size w W0 := hW0 ▸ (Below.refl _ w).alloc (Nat.le_refl _) _
  have HC := Lib.hid (Check_any (h.below (hb0.mono hB)) (Nat.le_trans hB hb0.size))
  have HB0 := Lib.hid hb0
  rw [show checkZ c = 2 from if_neg hV] at HC
  have c0 := hr0.cell (i := 0) rfl
  have c1 := hr0.cell (i := 1) rfl
  clear h hV hb0 hr0
  go_enter Try.func8, Try.ntmps8
  go_wp2_with fail
  refine HC.out.mono ?_
  rintro e w1 ⟨rfl, hb1⟩
  have HB1 := Lib.hid (nextB HB0.out (Nat.le_refl _) hb1)
  clear c0 c1 hb1
  go_wp2
  go_ret2
  exact ⟨rfl, HB1.out⟩
def Halt (p : Prop) : Prop := p
set_option maxRecDepth 100000 in
set_option maxHeartbeats 4000000 in
theorem Bytes_ok {w : World} {B : Nat} {vp vr : Value} {c : Cf} (h : CAt w B vp vr c) (hB : B ≤ w.heap.size) (hV : Val c) (ha : ∀ r ∈ c.rs, 0 ≤ r.addr ∧ r.addr ≤ 4294967295) : Calls Try.prog 8 #[.agg #[vp, vr]] w fun e w' => ∃ v, e = .returned (.tuple #[v, .int .i64 0]) ∧ Own w' w.heap.size v (cenc c) ∧ Below w.heap.size w w' := by
  obtain ⟨A1, n1, A2, n2, rfl, rfl⟩ := h.shape
  obtain ⟨W0, hW0⟩ : ∃ W0, w.alloc (.cells #[.slice A1 c.ps.length n1, .slice A2 c.rs.length n2] 25) = W0 := ⟨_, rfl⟩
  have hr0 : Row W0 w.heap.size [.slice A1 c.ps.length n1, .slice A2 c.rs.length n2] 25 := hW0 ▸ Row.new rfl rfl
  have hb0 : Below w.heap.size w W0 := hW0 ▸ (Below.refl _ w).alloc (Nat.le_refl _) _
  have HC := Lib.hid (Check_any (h.below (hb0.mono hB)) (Nat.le_trans hB hb0.size))
  have HB0 := Lib.hid hb0
  have HR0 := Lib.hid hr0
  have HA := Lib.hid (h.below (hb0.mono hB))
  have HBw := Lib.hid (Nat.le_trans hB hb0.size)
  obtain ⟨f1, f2⟩ := hV.fits h.ps.1 ha
  have HF1 := Lib.hid f1
  have HF2 := Lib.hid f2
  have HN1 := Lib.hid hV.1
  have HN2 := Lib.hid hV.2.1
  rw [show checkZ c = 0 from if_pos hV] at HC
  have c0 := hr0.cell (i := 0) rfl
  have c1 := hr0.cell (i := 1) rfl
  clear h hV hb0 hr0 f1 f2 ha hB
  go_enter Try.func8, Try.ntmps8
  go_wp2_with fail
  clear hW0 c0 c1
  refine HC.out.mono ?_
  rintro e W1 ⟨rfl, hb1⟩
  have HB1 := Lib.hid (nextB HB0.out (Nat.le_refl _) hb1)
  have HA1 := Lib.hid ((HA.out.below (hb1.mono HBw.out)).more (Nat.le_trans HBw.out hb1.size))
  have HR1 := Lib.hid (HR0.out.below hb1 HR0.out.lt)
  have FP := Lib.hid (fun w' (h : Below W1.heap.size W1 w') => (h.cell (p := ⟨w.heap.size, 0, none⟩) HR1.out.lt).trans (HR1.out.cell (i := 0) rfl))
  have FR := Lib.hid (fun w' (h : Below W1.heap.size W1 w') => (h.cell (p := ⟨w.heap.size, 1, none⟩) HR1.out.lt).trans (HR1.out.cell (i := 1) rfl))
  clear hb1 HC HA HR0 HB0
  have hwn1 : IntKind.u64.wrap (c.ps.length : Int) = (c.ps.length : Int) := wrap_u64n _ (by have := HN1.out; omega)
  have hwn2 : IntKind.u64.wrap (c.rs.length : Int) = (c.rs.length : Int) := wrap_u64n _ (by have := HN2.out; omega)
  have c0 := FP.out W1 (Below.refl _ _)
  go_wp2_with fail
  clear c0
  refine calls_name fun V hV => ?_
  obtain ⟨hn, hs⟩ := num_build (ns := [c.ps.length]) (⟨Own.nil _ _, Below.refl _ _⟩ : BSt W1 W1 (.slice none 0 0) []) hV
  have HS := Lib.hid hs
  clear hV hs
  refine (appNums_any HS.out.own hn (by intro n hn; have := HN1.out; simp only [List.mem_cons, List.not_mem_nil, or_false] at hn; omega) (by simp) HS.out.keep.size).mono ?_
  rintro e w2 ⟨v2, rfl, hg⟩
  have HS2 := Lib.hid (show BSt W1 w2 v2 (Oct.enc c.ps.length) by have := HS.out.app hg; simpa [encs] using this)
  clear hg hn
  have c0 := FP.out w2 HS2.out.keep
  go_wp2_with fail
  clear c0
  go_loopw [5, 24] (fun v iv wr => ∃ i : Nat, i ≤ c.ps.length ∧ iv = .int .i64 (i : Int) ∧ Hid (BSt W1 wr v (Oct.enc c.ps.length ++ (c.ps.take i).flatMap Mb.enc))) (fun _ iv _ => c.ps.length - (intOf iv).toNat)
  case atStart => exact ⟨0, Nat.zero_le _, rfl, Lib.hid (by simpa using HS2.out)⟩
  case round =>
    obtain ⟨i, hi, rfl, hs⟩ := hrel
    have hi2 : (i : Int) ≤ 64 := by have := HN1.out; omega
    by_cases hlt : i < c.ps.length
    · obtain ⟨m, hm⟩ : ∃ m, c.ps[i]? = some m := ⟨_, List.getElem?_eq_getElem hlt⟩
      obtain ⟨hfi, hkm⟩ := HF1.out m (List.mem_of_getElem? hm)
      obtain ⟨b0, off, e0, _, _, hld⟩ := (HA1.out.ps.below hs.out.keep).at hm
      have HT := Lib.hid (show (c.ps.take (i + 1)).flatMap Mb.enc = (c.ps.take i).flatMap Mb.enc ++ m.enc by rw [List.take_add_one, hm, List.flatMap_append]; simp)
      have HM := Lib.hid (List.mem_of_getElem? hm)
      have HLD := Lib.hid hld
      have HK := Lib.hid hkm
      obtain ⟨id, ky, of⟩ := m
      have hid := isIDB_in hfi
      obtain ⟨idn, rfl⟩ : ∃ n : Nat, id = (n : Int) := ⟨id.toNat, by simp only at hid; omega⟩
      have HID := Lib.hid (show idn ≤ 65536 by simp only at hid; omega)
      have hwid := wrap_u64n idn (by have := HID.out; omega)
      subst e0
      clear hm hfi hkm hld hid
      have hlen : Hid ((Oct.enc c.ps.length ++ (c.ps.take i).flatMap Mb.enc).length ≤ 100000) := Lib.hid (by
        have h1 := flat_le (f := Mb.enc) (K := 50) (l := c.ps.take i) fun x hx => mb_len (HF1.out x (List.mem_of_mem_take hx))
        have h2 := enc_le (n := c.ps.length) (by have := HN1.out; omega)
        have h3 := HN1.out
        rw [List.length_take] at h1
        rw [List.length_append]
        omega)
      have hne := Lib.hid hs.out.away
      have HLT := Lib.hid hlt
      go_wp2_with (first
        | (refine QB.wpList_ld 95 rfl rfl HLD.out rfl ?_)
        | (refine QB.wpList_alloc rfl 95 rfl zero_mb ?_; intro W2 hr2 hb2; have HR2 := Lib.hid (show Row W2 wr.heap.size (Mb.cs ⟨0, zkey, false⟩) 95 from hr2); have HB2 := Lib.hid hb2; clear hr2 hb2)
        | (refine wpList_storeRow rfl 95 (.tmp 7) (.tmp 27) rfl rfl (cs := Mb.cs ⟨(idn : Int), ky, of⟩) rfl HR2.out (by kernel_rfl) (Mb.len HK.out) (Mb.len rfl) (Mb.one _) ?_
           refine QB.name fun W hW => ?_
           have HRW := Lib.hid (show Row W wr.heap.size (Mb.cs ⟨(idn : Int), ky, of⟩) 95 from hW ▸ HR2.out.setRow _)
           have HSW := Lib.hid (hs.out.below (show Below wr.heap.size wr W from hW ▸ below_setRow HB2.out (Nat.le_refl _) _))
           have m0 := HRW.out.cell (i := 0) rfl
           clear hW HR2 HB2 HLD)
        | fail)
      clear m0
      refine calls_name fun V hV => ?_
      obtain ⟨hn, hs3⟩ := num_build (ns := [idn]) HSW.out hV
      have HS3 := Lib.hid hs3
      have HRV := Lib.hid (show Row V wr.heap.size (Mb.cs ⟨(idn : Int), ky, of⟩) 95 from hV ▸ HRW.out.alloc _)
      clear hV hs3
      refine (appNums_any HS3.out.own hn (by intro n hn; have := HID.out; simp only [List.mem_cons, List.not_mem_nil, or_false] at hn; omega) (by have := hlen.out; simp only [List.length_cons, List.length_nil]; omega) HS3.out.keep.size).mono ?_
      rintro e w4 ⟨v4, rfl, hg⟩
      have HS4 := Lib.hid (HS3.out.app hg)
      obtain ⟨hr4, hne4⟩ := grow_row hg HRV.out hne.out
      have HR4 := Lib.hid hr4
      have HNE4 := Lib.hid hne4
      clear hg hn hr4 hne4
      go_wp2_with (at_builtin
                   refine wpList_app_bytes _ rfl _ _ rfl rfl HS4.out.own rfl (bs_key HR4.out HK.out) (by have := hlen.out; have := HK.out; have := encs_le (ns := [idn]) (by intro n hn; have := HID.out; simp only [List.mem_cons, List.not_mem_nil, or_false] at hn; omega); rw [List.length_append]; simp only [List.length_cons, List.length_nil] at this; simp only at *; omega) HS4.out.keep.size ?_
                   intro v5 w5 hown5 hg5 hblk5
                   have HG5 := Lib.hid (show Grow w4 w5 v4 v5 W1.heap.size _ from ⟨hown5, hg5, hblk5.imp_right fun e => ⟨_, e, Nat.le_refl _⟩⟩)
                   have HS5 := Lib.hid (HS4.out.app HG5.out)
                   have HR5 := Lib.hid (grow_row HG5.out HR4.out HNE4.out)
                   clear hown5 hg5 hblk5
                   have m33 := HR5.out.1.cell (i := 33) (mb33 HK.out))
      clear m33
      refine (number_bool of _).mono ?_
      rintro e w5' ⟨rfl, rfl⟩
      go_wp2_with fail
      refine calls_name fun V6 hV => ?_
      obtain ⟨hn, hs6⟩ := num_build (ns := [bnat of]) HS5.out hV
      have HS6 := Lib.hid hs6
      clear hV hs6
      refine (appNums_any HS6.out.own hn (by intro n hn; simp only [List.mem_cons, List.not_mem_nil, or_false] at hn; subst hn; cases of <;> decide) (by have := hlen.out; have := HK.out; have := encs_le (ns := [idn]) (by intro n hn; have := HID.out; simp only [List.mem_cons, List.not_mem_nil, or_false] at hn; omega); rw [List.length_append, List.length_append]; simp only [List.length_cons, List.length_nil] at *; omega) HS6.out.keep.size).mono ?_
      rintro e w7 ⟨v7, rfl, hg⟩
      have HS7 := Lib.hid (HS6.out.app hg)
      clear hg hn
      go_wp2_with fail
      go_roundw
      case rel =>
        refine ⟨i + 1, by have := HLT.out; omega, by go_num, Lib.hid ?_⟩
        rw [HT.out]
        have := HS7.out
        simpa [encs, Mb.enc] using this
      case measure => have := HLT.out; simp [intOf]; omega
    · have HS3 := Lib.hid (show BSt W1 wr u5 (Oct.enc c.ps.length ++ c.ps.flatMap Mb.enc) by
        have h := hs.out
        rwa [show i = c.ps.length by omega, List.take_length] at h)
      have hlen : Hid ((Oct.enc c.ps.length ++ c.ps.flatMap Mb.enc).length ≤ 100000) := Lib.hid (by
        have h1 := flat_le (f := Mb.enc) (K := 50) (l := c.ps) fun x hx => mb_len (HF1.out x hx)
        have h2 := enc_le (n := c.ps.length) (by have := HN1.out; omega)
        have h3 := HN1.out
        rw [List.length_append]
        omega)
      clear hs hi2
      have c1 := FR.out wr HS3.out.keep
      go_wp2_with fail
      clear c1
      refine calls_name fun V hV => ?_
      obtain ⟨hn, hs⟩ := num_build (ns := [c.rs.length]) HS3.out hV
      have HS := Lib.hid hs
      clear hV hs
      refine (appNums_any HS.out.own hn (by intro n hn; have := HN2.out; simp only [List.mem_cons, List.not_mem_nil, or_false] at hn; omega) (by have := hlen.out; simp only [List.length_cons, List.length_nil]; omega) HS.out.keep.size).mono ?_
      rintro e w4 ⟨v4, rfl, hg⟩
      have HS4 := Lib.hid (show BSt W1 w4 v4 (Oct.enc c.ps.length ++ c.ps.flatMap Mb.enc ++ Oct.enc c.rs.length) by have := HS.out.app hg; simpa [encs] using this)
      have hlen4 : Hid ((Oct.enc c.ps.length ++ c.ps.flatMap Mb.enc ++ Oct.enc c.rs.length).length ≤ 100009) := Lib.hid (by
        have h1 := hlen.out
        have h2 := enc_le (n := c.rs.length) (by have := HN2.out; omega)
        rw [List.length_append]
        omega)
      clear hg hn hlen
      have c1 := FR.out w4 HS4.out.keep
      go_wp2_with fail
      clear c1
      go_loopw [5, 55] (fun v jv wr => ∃ j : Nat, j ≤ c.rs.length ∧ jv = .int .i64 (j : Int) ∧ Hid (BSt W1 wr v (Oct.enc c.ps.length ++ c.ps.flatMap Mb.enc ++ Oct.enc c.rs.length ++ (c.rs.take j).flatMap Rt.enc))) (fun _ jv _ => c.rs.length - (intOf jv).toNat)
      case atStart => exact ⟨0, Nat.zero_le _, rfl, Lib.hid (by simpa using HS4.out)⟩
      case round =>
        obtain ⟨j, hj, rfl, hs⟩ := hrel
        have hj2 : (j : Int) ≤ 256 := by have := HN2.out; omega
        by_cases hjlt : j < c.rs.length
        · obtain ⟨m, hm⟩ : ∃ m, c.rs[j]? = some m := ⟨_, List.getElem?_eq_getElem hjlt⟩
          have hfi := HF2.out m (List.mem_of_getElem? hm)
          obtain ⟨b1, off, e0, _, _, hld⟩ := (HA1.out.rs.below hs.out.keep).at hm
          have HT := Lib.hid (show (c.rs.take (j + 1)).flatMap Rt.enc = (c.rs.take j).flatMap Rt.enc ++ m.enc by rw [List.take_add_one, hm, List.flatMap_append]; simp)
          have HLD := Lib.hid hld
          obtain ⟨x, y, z⟩ := m
          obtain ⟨⟨hx0, hx1⟩, ⟨hy0, hy1⟩, hz⟩ := hfi
          have hid := isIDB_in hz
          simp only at hx0 hx1 hy0 hy1 hid
          obtain ⟨xn, rfl⟩ : ∃ n : Nat, x = (n : Int) := ⟨x.toNat, by omega⟩
          obtain ⟨yn, rfl⟩ : ∃ n : Nat, y = (n : Int) := ⟨y.toNat, by omega⟩
          obtain ⟨zn', rfl⟩ : ∃ n : Nat, z = (n : Int) := ⟨z.toNat, by omega⟩
          have HB := Lib.hid (show xn ≤ 4294967295 ∧ yn ≤ 32 ∧ zn' ≤ 65536 by omega)
          have hwx := wrap_u64n xn (by have := HB.out; omega)
          have hwy := wrap_u64n yn (by have := HB.out; omega)
          have hwz := wrap_u64n zn' (by have := HB.out; omega)
          subst e0
          clear hm hld hid hx0 hx1 hy0 hy1 hz
          have hlen : Hid ((Oct.enc c.ps.length ++ c.ps.flatMap Mb.enc ++ Oct.enc c.rs.length ++ (c.rs.take j).flatMap Rt.enc).length ≤ 200000) := Lib.hid (by
            have h1 := flat_le (f := Rt.enc) (K := 27) (l := c.rs.take j) fun x hx => rt_len (HF2.out x (List.mem_of_mem_take hx))
            have h2 := hlen4.out
            have h3 := HN2.out
            rw [List.length_take] at h1
            rw [List.length_append]
            omega)
          have HLT := Lib.hid hjlt
          go_wp2_with (first
            | (refine QB.wpList_ld 98 rfl rfl HLD.out rfl ?_)
            | (refine QB.wpList_alloc rfl 98 rfl zero_rt ?_; intro W2 hr2 hb2; have HR2 := Lib.hid (show Row W2 wr.heap.size (Rt.cs ⟨0, 0, 0⟩) 98 from hr2); have HB2 := Lib.hid hb2; clear hr2 hb2)
            | (refine wpList_storeRow rfl 98 (.tmp 9) (.tmp 58) rfl rfl (cs := Rt.cs ⟨(xn : Int), (yn : Int), (zn' : Int)⟩) rfl HR2.out (by kernel_rfl) rfl rfl (Rt.one _) ?_
               refine QB.name fun W hW => ?_
               have hRW : Row W wr.heap.size (Rt.cs ⟨(xn : Int), (yn : Int), (zn' : Int)⟩) 98 := hW ▸ HR2.out.setRow _
               have HSW := Lib.hid (hs.out.below (show Below wr.heap.size wr W from hW ▸ below_setRow HB2.out (Nat.le_refl _) _))
               have m0 := hRW.cell (i := 0) rfl
               have m1 := hRW.cell (i := 1) rfl
               have m2 := hRW.cell (i := 2) rfl
               clear hW hRW HR2 HB2 HLD)
            | fail)
          clear m0 m1 m2
          refine calls_name fun V hV => ?_
          obtain ⟨hn, hs3⟩ := num_build (ns := [xn, yn, zn']) HSW.out hV
          have HS3 := Lib.hid hs3
          clear hV hs3
          refine (appNums_any HS3.out.own hn (by intro n hn; have := HB.out; simp only [List.mem_cons, List.not_mem_nil, or_false] at hn; omega) (by have := hlen.out; simp only [List.length_cons, List.length_nil]; omega) HS3.out.keep.size).mono ?_
          rintro e w4 ⟨v4, rfl, hg⟩
          have HS4 := Lib.hid (HS3.out.app hg)
          clear hg hn
          go_wp2_with fail
          go_roundw
          case rel =>
            refine ⟨j + 1, by have := HLT.out; omega, by go_num, Lib.hid ?_⟩
            rw [HT.out]
            have := HS4.out
            simpa [encs, Rt.enc] using this
          case measure => have := HLT.out; simp [intOf]; omega
        · have HS5 := Lib.hid (show BSt W1 wr u5 (cenc c) by
            have h := hs.out
            rw [show j = c.rs.length by omega, List.take_length] at h
            simpa [cenc] using h)
          clear hs hj2
          go_wp2
          go_ret2
          exact ⟨_, rfl, HS5.out.own.less HB1.out.size, nextB HB1.out (Nat.le_refl _) HS5.out.keep⟩
end Go.Proofs.Ytedmogacklbcmaa.Cfg
namespace Go.Proofs.Ytedmogacklbcmaa.Cfg
open Go.RowKit Num RdK
theorem bs_opkey {w : World} {g : Nat} {o : Opn} (h : Row w g o.cs 30) (hk : o.ky.length = 32) : Bs w w.heap.size (.slice (some ⟨g, 3, none⟩) 32 32) o.ky := by
  refine ⟨some ⟨g, 3, none⟩, 32, by rw [hk], by omega, fun _ => ⟨g, 3, rfl, h.lt, fun i u hu => h.cell ?_⟩⟩
  rw [Nat.add_comm 3 i]
  show (o.ky.map bv ++ [.int .u32 o.addr, .int .i64 o.bits])[i]? = _
  have := (List.getElem?_eq_some_iff.1 hu).1
  rw [List.getElem?_append_left (by rw [List.length_map]; exact this), List.getElem?_map, hu]
  rfl
set_option maxRecDepth 100000 in
theorem OpBytes_no {w : World} {o : Opn} (hk : o.ky.length = 32) (hV : okO o ≠ true) : Calls Try.prog 16 #[o.val] w fun e w' => e = .returned (.tuple #[.slice none 0 0, .int .i64 2]) ∧ Below w.heap.size w w' := by
  obtain ⟨W0, hW0⟩ : ∃ W0, w.alloc (.cells o.cs.toArray 30) = W0 := ⟨_, rfl⟩
  have hr0 : Row W0 w.heap.size o.cs 30 := hW0 ▸ Row.new rfl rfl
  have hb0 : Below w.heap.size w W0 := hW0 ▸ (Below.refl _ w).alloc (Nat.le_refl _) _
  have HC := Lib.hid (CheckOp_any o hk W0)
  have HB0 := Lib.hid hb0
  have HLD := Lib.hid (l_op hr0 hk)
  rw [show checkOpZ o = 2 from if_neg hV] at HC
  clear hV hb0 hr0
  unfold Opn.val at HC ⊢
  go_enter Try.func16, Try.ntmps16
  go_wp2_with (first | (refine QB.wpList_ld 30 rfl rfl HLD.out rfl ?_; clear HLD) | fail)
  clear hW0
  refine HC.out.mono ?_
  rintro e w1 ⟨rfl, hb1⟩
  have HB1 := Lib.hid (nextB HB0.out (Nat.le_refl _) hb1)
  clear hb1
  go_wp2
  go_ret2
  exact ⟨rfl, HB1.out⟩
set_option maxRecDepth 100000 in
set_option maxHeartbeats 2000000 in
theorem OpBytes_ok {w : World} {o : Opn} (hk : o.ky.length = 32) (hV : okO o = true) (ha : 0 ≤ o.addr ∧ o.addr ≤ 4294967295) (hr : 0 ≤ o.ref ∧ o.ref < 18446744073709551616) : Calls Try.prog 16 #[o.val] w fun e w' => ∃ v, e = .returned (.tuple #[v, .int .i64 0]) ∧ Own w' w.heap.size v o.enc ∧ Below w.heap.size w w' := by
  obtain ⟨W0, hW0⟩ : ∃ W0, w.alloc (.cells o.cs.toArray 30) = W0 := ⟨_, rfl⟩
  have hr0 : Row W0 w.heap.size o.cs 30 := hW0 ▸ Row.new rfl rfl
  have hb0 : Below w.heap.size w W0 := hW0 ▸ (Below.refl _ w).alloc (Nat.le_refl _) _
  have HC := Lib.hid (CheckOp_any o hk W0)
  have HB0 := Lib.hid hb0
  have HR0 := Lib.hid hr0
  have HLD := Lib.hid (l_op hr0 hk)
  rw [show checkOpZ o = 0 from if_pos hV] at HC
  obtain ⟨f1, f2, f3⟩ := okO_fit hV ha
  obtain ⟨kind, ref, id, ky, addr, bits⟩ := o
  simp only at f1 f2 f3 hk ha hr
  obtain ⟨k', rfl⟩ : ∃ n : Nat, kind = (n : Int) := ⟨kind.toNat, by omega⟩
  obtain ⟨r', rfl⟩ : ∃ n : Nat, ref = (n : Int) := ⟨ref.toNat, by omega⟩
  obtain ⟨i', rfl⟩ : ∃ n : Nat, id = (n : Int) := ⟨id.toNat, by omega⟩
  obtain ⟨a', rfl⟩ : ∃ n : Nat, addr = (n : Int) := ⟨addr.toNat, by omega⟩
  obtain ⟨b', rfl⟩ : ∃ n : Nat, bits = (n : Int) := ⟨bits.toNat, by omega⟩
  have HF := Lib.hid (show k' ≤ 5 ∧ r' < 18446744073709551616 ∧ i' ≤ 65536 ∧ a' ≤ 4294967295 ∧ b' ≤ 32 by omega)
  have HK := Lib.hid hk
  have hE : (⟨(k' : Int), (r' : Int), (i' : Int), ky, (a' : Int), (b' : Int)⟩ : Opn).enc = encs [k', r', i'] ++ ky ++ encs [a', b'] := by simp [Opn.enc, encs]
  have HE := Lib.hid hE
  have hwk := wrap_u64n k' (by have := HF.out; omega)
  have hwi := wrap_u64n i' (by have := HF.out; omega)
  have hwa := wrap_u64n a' (by have := HF.out; omega)
  have hwb := wrap_u64n b' (by have := HF.out; omega)
  clear hV hb0 hr0 f1 f2 f3 hk ha hr hE
  unfold Opn.val at HC HLD ⊢
  go_enter Try.func16, Try.ntmps16
  go_wp2_with (first | (refine QB.wpList_ld 30 rfl rfl HLD.out rfl ?_; clear HLD) | fail)
  clear hW0
  refine HC.out.mono ?_
  rintro e W1 ⟨rfl, hb1⟩
  have HB1 := Lib.hid (nextB HB0.out (Nat.le_refl _) hb1)
  have HR1 := Lib.hid (HR0.out.below hb1 HR0.out.lt)
  clear hb1 HC HR0 HB0
  have m0 := HR1.out.cell (i := 0) rfl
  have m1 := HR1.out.cell (i := 1) rfl
  have m2 := HR1.out.cell (i := 2) rfl
  go_wp2_with fail
  clear m0 m1 m2
  refine calls_name fun V hV => ?_
  obtain ⟨hn, hs⟩ := num_build (ns := [k', r', i']) (⟨Own.nil _ _, Below.refl _ _⟩ : BSt W1 W1 (.slice none 0 0) []) hV
  have HS := Lib.hid hs
  clear hV hs
  refine (appNums_any HS.out.own hn (by intro n hn; have := HF.out; simp only [List.mem_cons, List.not_mem_nil, or_false] at hn; omega) (by simp) HS.out.keep.size).mono ?_
  rintro e w2 ⟨v2, rfl, hg⟩
  have HS2 := Lib.hid (show BSt W1 w2 v2 (encs [k', r', i']) by have := HS.out.app hg; simpa using this)
  have HR2 := Lib.hid (HR1.out.below HS2.out.keep HR1.out.lt)
  have HL2 := Lib.hid (show (encs [k', r', i']).length ≤ 27 from encs_le (by intro n hn; have := HF.out; simp only [List.mem_cons, List.not_mem_nil, or_false] at hn; omega))
  clear hg hn
  go_wp2_with (at_builtin
               refine wpList_app_bytes _ rfl _ _ rfl rfl HS2.out.own rfl (bs_opkey HR2.out HK.out) (by have := HL2.out; have := HK.out; simp only at *; omega) HS2.out.keep.size ?_
               intro v5 w5 hown5 hg5 hblk5
               have HS5 := Lib.hid (HS2.out.put hown5 hg5)
               have HR5 := Lib.hid (HR1.out.below HS5.out.keep HR1.out.lt)
               clear hown5 hg5 hblk5
               have m35 := HR5.out.cell (i := 35) (Opn.at35 HK.out)
               have m36 := HR5.out.cell (i := 36) (Opn.at36 HK.out))
  clear m35 m36
  refine calls_name fun V hV => ?_
  obtain ⟨hn, hs⟩ := num_build (ns := [a', b']) HS5.out hV
  have HS6 := Lib.hid hs
  clear hV hs
  refine (appNums_any HS6.out.own hn (by intro n hn; have := HF.out; simp only [List.mem_cons, List.not_mem_nil, or_false] at hn; omega) (by have := HL2.out; have := HK.out; rw [List.length_append]; simp only [List.length_cons, List.length_nil] at *; omega) HS6.out.keep.size).mono ?_
  rintro e w7 ⟨v7, rfl, hg⟩
  have HS7 := Lib.hid (HS6.out.app hg)
  clear hg hn
  go_wp2
  go_ret2
  exact ⟨_, rfl, by rw [HE.out]; exact HS7.out.own.less HB1.out.size, nextB HB1.out (Nat.le_refl _) HS7.out.keep⟩
end Go.Proofs.Ytedmogacklbcmaa.Cfg
namespace Go.Proofs.Ytedmogacklbcmaa.Cfg
open Go.RowKit RdK CpA
set_option maxRecDepth 100000 in
theorem build_mbo (id : Int) (ky : List UInt8) (h : ky.length = 32) (of : Bool) (w : World) : (Instr.build 95 #[(0, .int .i64 id), (1, arr8 ky), (2, .bool of)]).run Try.prog w = .ok (Mb.val ⟨id, ky, of⟩) w := by
  match ky, h with
  | [k0, k1, k2, k3, k4, k5, k6, k7, k8, k9, k10, k11, k12, k13, k14, k15, k16, k17, k18, k19, k20, k21, k22, k23, k24, k25, k26, k27, k28, k29, k30, k31], _ =>
    show _ = _
    kernel_rfl
theorem build_rt (x y z : Int) (w : World) : (Instr.build 98 #[(0, .int .u32 x), (1, .int .i64 y), (2, .int .i64 z)]).run Try.prog w = .ok (Rt.val ⟨x, y, z⟩) w := by kernel_rfl
def stq (p q r t : Nat × Nat) (s : Nat) : Nat × Nat := [p, q, r].getD s t
theorem wrap_i64n (n : Nat) (h : n ≤ 4294967296) : IntKind.i64.wrap (n : Int) = (n : Int) := by simp [IntKind.wrap, IntKind.bits, IntKind.signed]; omega
theorem keep_drew {b : Ev.Base} {w : World} (h : Ev.Keep b w) : Ev.Keep b w.drew := ⟨h.os, h.tape, h.output, h.size, h.block⟩
theorem keep_id (w : World) (S : Nat → Prop) : Ev.Keep ⟨w, S⟩ w := ⟨rfl, rfl, rfl, Nat.le_refl _, fun _ _ => rfl⟩
theorem keep_both {S : Nat → Prop} {a b c : World} (h : Ev.Keep ⟨a, S⟩ b) (k : Ev.Keep ⟨b, S⟩ c) : Ev.Keep ⟨a, S⟩ c := by
  refine ⟨k.os.trans h.os, k.tape.trans h.tape, k.output.trans h.output, Nat.le_trans h.size k.size, fun i hi => ?_⟩
  have hlt : i < a.heap.size := Nat.lt_of_not_le fun h => hi (.inl h)
  have hs : a.heap.size ≤ b.heap.size := h.size
  rw [k.block i (by rintro (h1 | h1); exact absurd h1 (by show ¬ b.heap.size ≤ i; omega); exact hi (.inr h1))]
  exact h.block i hi
theorem below_of {S : Nat → Prop} {a b : World} {B : Nat} (h : Ev.Keep ⟨a, S⟩ b) (hB : B ≤ a.heap.size) (hS : ∀ i, i < B → ¬ S i) : Below B a b :=
  ⟨h.os, h.tape, h.output, h.size, fun i hi => h.block i (by rintro (h1 | h1); exact absurd h1 (by show ¬ a.heap.size ≤ i; omega); exact hS i hi h1)⟩
theorem row_of {S : Nat → Prop} {a b : World} {k : Nat} {cs : List Value} {t : TypeId} (h : Ev.Keep ⟨a, S⟩ b) (hr : Row a k cs t) (hS : ¬ S k) : Row b k cs t := by
  unfold Row
  rw [h.block k (by rintro (h1 | h1); exact absurd h1 (by have := hr.lt; show ¬ a.heap.size ≤ k; omega); exact hS h1)]
  exact hr
def Hole (g gc base : Nat) (i : Nat) : Prop := i = g ∨ i = gc ∨ base ≤ i
/-- What stands at a loop's head: the reader, the configuration's row, what was read. -/
structure LP (W : World) (lo g gc base : Nat) (b : List UInt8) (a1 e1 k : Nat) (w : World) : Prop where
  st : ∃ (l : List Mb) (a e : Nat) (vl : Value), rdList (rdMb b) k a1 e1 = (l, a, e) ∧ Rd w lo g b a e ∧ Row w gc [vl, .slice none 0 0] 25 ∧ OwnM w base vl l
  keep : Ev.Keep ⟨W, Hole g gc base⟩ w
structure LR (W : World) (lo g gc base : Nat) (b : List UInt8) (vp : Value) (ps : List Mb) (a1 e1 k : Nat) (w : World) : Prop where
  st : ∃ (l : List Rt) (a e : Nat) (vl : Value), rdList (rdRt b) k a1 e1 = (l, a, e) ∧ Rd w lo g b a e ∧ Row w gc [vp, vl] 25 ∧ OwnR w base vl l ∧ OwnM w base vp ps
  keep : Ev.Keep ⟨W, Hole g gc base⟩ w
theorem ownM_grown {w w' : World} {base : Nat} {v : Value} {l : List Mb} {row : Option Nat} (h : OwnM w base v l) (hg : w.grownBy w' row) (hr : ∀ i, row = some i → i < base) : OwnM w' base v l := ⟨h.1, RdL.owns_grown h.2 hg hr⟩
theorem ownR_grown {w w' : World} {base : Nat} {v : Value} {l : List Rt} {row : Option Nat} (h : OwnR w base v l) (hg : w.grownBy w' row) (hr : ∀ i, row = some i → i < base) : OwnR w' base v l := RdL.owns_grown h hg hr
theorem apart {w : World} {base : Nat} {vp vr : Value} {l : List Mb} {r : List Rt} (h : OwnM w base vp l) (k : OwnR w base vr r) {i : Nat} (hi : vp.ownBlock = some i) : vr.ownBlock ≠ some i := by
  intro hj
  rcases h.2.2 with ⟨rfl, _⟩ | ⟨g, cap, cur, rfl, _, hg, _⟩
  · cases hi
  · rcases k.2 with ⟨rfl, _⟩ | ⟨g', cap', cur', rfl, _, hg', _⟩
    · cases hj
    · have e1 : g = i := by injection hi
      have e2 : g' = i := by injection hj
      subst e1; subst e2
      rw [hg] at hg'
      injection hg' with e
      injection e with _ e _
      revert e
      decide
theorem ownM_app {w w' : World} {base : Nat} {vp vr : Value} {l : List Mb} {r : List Rt} (h : OwnM w base vp l) (k : OwnR w base vr r) (hg : w.grownBy w' vr.ownBlock) : OwnM w' base vp l := by
  refine ⟨h.1, World.ownsRow.kept h.2 hg ?_⟩
  cases hb : vp.ownBlock with
  | none => exact .inl rfl
  | some i => exact .inr fun e => apart h k hb e.symm
theorem one_gc {gc base : Nat} (h : gc < base) : ∀ i, some gc = some i → i < base := fun i e => by injection e with e; omega
theorem none_lt (base : Nat) : ∀ i, (none : Option Nat) = some i → i < base := fun _ e => by cases e
set_option maxRecDepth 100000 in
set_option maxHeartbeats 8000000 in
theorem Read_any (v : Value) (b : List UInt8) (w : World) (hb : Bs w w.heap.size v b) (hl : b.length ≤ 35184372088832) :
    Calls Try.prog 10 #[v] w fun e w' => (∀ c, rdCfg b = some c → ∃ v1 v2, e = .returned (.tuple #[.agg #[v1, v2], .int .i64 0]) ∧ CNew w' w.heap.size v1 v2 c) ∧ (rdCfg b = none → e = .returned (.tuple #[.agg #[.slice none 0 0, .slice none 0 0], .int .i64 4])) ∧ Below w.heap.size w w' := by
  have Hb := Lib.hid hb
  clear hb
  go_enter Try.func10, Try.ntmps10
  go_wp2_with fail
  refine calls_name fun V hV => ?_
  have hb0 : Below w.heap.size w V := hV ▸ (Below.refl _ w).alloc (Nat.le_refl _) _
  have hr0 : Row V w.heap.size [.slice none 0 0, .slice none 0 0] 25 := hV ▸ Row.new rfl rfl
  clear hV
  refine (Go.Proofs.Ytedmogacklbcmaa.New_any _ b _ ((Hb.out.below hb0).more hb0.size) hl).mono ?_
  rintro e w1 ⟨g, rfl, hg1, hg2, hr1, hb1⟩
  have hB1 : Below w.heap.size w w1 := nextB hb0 (Nat.le_refl _) hb1
  have hR0 := hr0.below hb1 hr0.lt
  have hg0 : w.heap.size < g := Nat.lt_of_lt_of_le hr0.lt hg1
  have HB1 := Lib.hid hB1
  have HR0 := Lib.hid hR0
  have HR1 := Lib.hid hr1
  have HG := Lib.hid (And.intro hg0 hg2)
  clear hb0 hr0 hg1 hg2 hr1 hb1 hB1 hR0 hg0 Hb hl
  go_wp2_with fail
  refine calls_name fun W2 hW2 => ?_
  obtain ⟨gc, hgc⟩ : ∃ gc, w1.heap.size = gc := ⟨_, rfl⟩
  obtain ⟨lo, hlo⟩ : ∃ lo, V.heap.size = lo := ⟨_, rfl⟩
  have hb2 : Below w1.heap.size w1 W2 := hW2 ▸ (Below.refl _ w1).alloc (Nat.le_refl _) _
  have hrc : Row W2 gc [.slice none 0 0, .slice none 0 0] 25 := hW2 ▸ Row.new hgc rfl
  have hsz : W2.heap.size = gc + 1 := by rw [← hW2, ← hgc]; simp
  have hrd : Rd W2 lo g b 0 0 := hlo ▸ HR1.out.below hb2 HG.out.2
  have HB2 := Lib.hid (nextB HB1.out (Nat.le_refl _) hb2)
  have HR2 := Lib.hid (HR0.out.below hb2 HR0.out.lt)
  have HGC := Lib.hid (show w.heap.size < g ∧ g < gc by have := HG.out; omega)
  have HRC := Lib.hid hrc
  have HSZ := Lib.hid hsz
  have HRD := Lib.hid hrd
  rw [hgc]
  clear hW2 hgc hlo hb2 hrc hsz hrd HR0 HR1 HB1 HG
  obtain ⟨n, a1, e1, hn⟩ : ∃ x a e, rdUpto b 0 0 64 = (x, a, e) := ⟨_, _, _, rfl⟩
  have HN := Lib.hid hn
  have HN64 := Lib.hid (show n ≤ 64 by have := RdP.upto_le b 0 0 64; rwa [hn] at this)
  clear hn
  refine (Upto_any 64 HRD.out).mono ?_
  rw [HN.out]
  rintro e W3 ⟨rfl, hr3, hg3⟩
  have HL0 := Lib.hid (show LP W2 lo g gc (gc + 1) b a1 e1 0 W3 from ⟨⟨[], a1, e1, .slice none 0 0, rfl, hr3, row_grown HRC.out hg3 (by have := HGC.out; omega), ownM_nil _ _⟩, RdL.keep_row (keep_id W2 _) hg3 fun k e => by injection e with e; exact .inl e.symm⟩)
  clear hr3 hg3 HRD HRC
  go_wp2_with fail
  go_loopw [10] (fun iv wr => ∃ k : Nat, k ≤ n ∧ iv = .int .u64 (k : Int) ∧ Hid (LP W2 lo g gc (gc + 1) b a1 e1 k wr)) (fun iv _ => n - (intOf iv).toNat)
  case atStart => exact ⟨0, Nat.zero_le _, rfl, HL0⟩
  case round =>
    obtain ⟨k, hk, rfl, hL⟩ := hrel
    have hk2 : (k : Int) ≤ 64 := by have := HN64.out; omega
    by_cases hlt : k < n
    · have HLT := Lib.hid hlt
      obtain ⟨l, ax, ex, vl, hq, hrd, hrow, hown⟩ := hL.out.st
      have HKL := Lib.hid (show l.length = k by have := rdList_len (f := rdMb b) k a1 e1; rwa [hq] at this)
      obtain ⟨x, ax1, ex1, h1⟩ : ∃ x a e, rdUpto b ax ex 65536 = (x, a, e) := ⟨_, _, _, rfl⟩
      obtain ⟨ky, ax2, ex2, h2⟩ : ∃ x a e, rdFixed b ax1 ex1 32 = (x, a, e) := ⟨_, _, _, rfl⟩
      obtain ⟨o, ax3, ex3, h3⟩ : ∃ x a e, rdUpto b ax2 ex2 1 = (x, a, e) := ⟨_, _, _, rfl⟩
      have HX := Lib.hid (rdList_succ hq (rdMb_eq h1 h2 h3))
      have H1 := Lib.hid h1
      have H2 := Lib.hid h2
      have H3 := Lib.hid h3
      have HKY := Lib.hid (show (padTo 32 ky).length = 32 from padTo_length (by have := fixed_len32 b ax1 ex1; rwa [h2] at this))
      have hwx := wrap_i64n x (by have := RdP.upto_le b ax ex 65536; rw [h1] at this; omega)
      obtain ⟨ob, hob⟩ : ∃ ob, decide (o = 1) = ob := ⟨_, rfl⟩
      have hob2 : ((o : Int) == 1) = ob := by rw [← hob]; by_cases h : o = 1 <;> simp [h]; omega
      rw [hob] at HX
      obtain ⟨A, c0, hvl, hcl⟩ := hown.tab.2.shape
      have HHR := Lib.hid hrow
      have HHO := Lib.hid hown
      have HHD := Lib.hid hrd
      have HKeep := Lib.hid hL.out.keep
      have hgl := HGC.out
      have HVB := Lib.hid (show ∀ i, vl.ownBlock = some i → gc + 1 ≤ i from fun i e => (hown.2.lt i e).1)
      have HPo := Lib.hid (show ∀ (y y' : World), OwnM y (gc + 1) vl l → y.grownBy y' (some g) → OwnM y' (gc + 1) vl l from fun _ _ h hq => ownM_grown h hq (one_gc (by omega)))
      subst hvl
      clear hL hq h1 h2 h3 hob hrow hown hrd hcl
      go_wp2_with fail
      refine ByL.marks Cfg.mixed RdL.TT (RdL.FS gc (.slice A l.length c0)) (RdL.RS wr.drew lo g gc (gc + 1) b (stq (ax, ex) (ax1, ex1) (ax2, ex2) (ax3, ex3)) (fun v => [v, .slice none 0 0]) 25 (.slice A l.length c0) (fun y => OwnM y (gc + 1) (.slice A l.length c0) l) (fun y v => OwnM y (gc + 1) v (l ++ [⟨(x : Int), padTo 32 ky, ob⟩]))) 6 [
        ByL.is (.pointer (some ⟨gc, 0, none⟩)) none,
        ByL.is (.slice A l.length c0) none,
        ByL.is (.pointer (some ⟨g, 0, none⟩)) none,
        ByL.is (.int .u64 (x : Int)) (some 0),
        ByL.is (.int .i64 (x : Int)) none,
        ByL.is (.pointer (some ⟨g, 0, none⟩)) none,
        ByL.is (arr8 (padTo 32 ky)) (some 1),
        ByL.is (.pointer (some ⟨g, 0, none⟩)) none,
        ByL.is (.int .u64 (o : Int)) (some 2),
        ByL.is (.bool ob) none,
        ByL.is (Mb.val ⟨(x : Int), padTo 32 ky, ob⟩) none,
        RdL.rowM gc (.slice A l.length c0) (Mb.cs ⟨(x : Int), padTo 32 ky, ob⟩) 95,
        RdL.appM gc (.slice A l.length c0) (fun y v => OwnM y (gc + 1) v (l ++ [⟨(x : Int), padTo 32 ky, ob⟩])) (fun _ _ _ h hg => ownM_grown h hg (one_gc (Nat.lt_succ_self _))),
        ByL.is (.pointer (some ⟨gc, 0, none⟩)) none,
        ByL.isN (some 5)]
        (Ev.masks _ []) (by kernel_rfl) rfl (by kernel_rfl) (fun _ => trivial) (fun _ _ _ _ _ => trivial) (RdL.FS.refl gc (.slice A l.length c0)) ⟨fun _ => HHR.out, fun _ => HHO.out, HHD.out, (fun e => by cases e), keep_id _ _⟩ ⟨?_, ?_, ?_, ?_, ?_, ?_, ?_, ?_, ?_, ?_, ?_, ?_, ?_, ?_, ?_, trivial⟩ ?_
      · intro a w s ht hR hk1 hk2 hs hg -- fieldAddr
        have h5 := By.same_get hs 5 (by decide) (by kernel_rfl)
        refine ByL.yes rfl ?_
        clear hs hg hk1 hk2
        have HR := Lib.hid hR
        clear hR
        go_simp
        exact ⟨_, rfl, trivial, RdL.FS.refl _ _ _ _, HR.out, rfl⟩
      · intro a w s ht hR hk1 hk2 hs hg -- load
        have h12 : a.tmps.getD 12 undef = _ := ByN.given_get hg 0 rfl rfl (by kernel_rfl)
        refine ByL.yes rfl ?_
        have hc := (hR.row (by have := hk2 14 5 rfl (by kernel_rfl); omega)).cell (i := 0) rfl
        clear hs hg hk1 hk2
        have HR := Lib.hid hR
        clear hR
        go_simp
        exact ⟨_, rfl, trivial, RdL.FS.refl _ _ _ _, HR.out, rfl⟩
      · intro a w s ht hR hk1 hk2 hs hg -- move
        have h4 := By.same_get hs 4 (by decide) (by kernel_rfl)
        refine ByL.yes rfl ?_
        clear hs hg hk1 hk2
        have HR := Lib.hid hR
        clear hR
        go_simp
        exact ⟨_, rfl, trivial, RdL.FS.refl _ _ _ _, HR.out, rfl⟩
      · intro a w s ht hR hk1 hk2 hs hg -- Upto
        obtain rfl := hk1 0 rfl
        have h14 : a.tmps.getD 14 undef = _ := ByN.given_get hg 2 rfl rfl (by kernel_rfl)
        refine ByL.yes rfl ?_
        clear hs hg hk1 hk2
        have HR := Lib.hid hR
        clear hR
        go_simp
        refine (Upto_any 65536 (show Rd w lo g b ax ex from HR.out.rd)).mono ?_
        rw [H1.out]
        rintro e' w' ⟨rfl, hr, hgr⟩
        exact ⟨_, rfl, trivial, RdL.FS.early _ _ (by decide), HR.out.call (by decide) hgr hr (by omega) (fun hp hq => HPo.out _ _ hp hq), rfl⟩
      · intro a w s ht hR hk1 hk2 hs hg -- convert
        have h15 : a.tmps.getD 15 undef = _ := ByN.given_get hg 3 rfl rfl (by kernel_rfl)
        refine ByL.yes rfl ?_
        clear hs hg hk1 hk2
        have HR := Lib.hid hR
        clear hR
        go_simp
        exact ⟨_, rfl, trivial, RdL.FS.refl _ _ _ _, HR.out, rfl⟩
      · intro a w s ht hR hk1 hk2 hs hg -- move
        have h4 := By.same_get hs 4 (by decide) (by kernel_rfl)
        refine ByL.yes rfl ?_
        clear hs hg hk1 hk2
        have HR := Lib.hid hR
        clear hR
        go_simp
        exact ⟨_, rfl, trivial, RdL.FS.refl _ _ _ _, HR.out, rfl⟩
      · intro a w s ht hR hk1 hk2 hs hg -- key
        obtain rfl := hk1 1 rfl
        have h17 : a.tmps.getD 17 undef = _ := ByN.given_get hg 5 rfl rfl (by kernel_rfl)
        refine ByL.yes rfl ?_
        clear hs hg hk1 hk2
        have HR := Lib.hid hR
        clear hR
        go_simp
        refine (key_any (show Rd w lo g b ax1 ex1 from HR.out.rd)).mono ?_
        rw [H2.out]
        rintro e' w' ⟨rfl, hr, hgr⟩
        exact ⟨_, rfl, trivial, RdL.FS.early _ _ (by decide), HR.out.call (by decide) hgr hr (by omega) (fun hp hq => HPo.out _ _ hp hq), rfl⟩
      · intro a w s ht hR hk1 hk2 hs hg -- move
        have h4 := By.same_get hs 4 (by decide) (by kernel_rfl)
        refine ByL.yes rfl ?_
        clear hs hg hk1 hk2
        have HR := Lib.hid hR
        clear hR
        go_simp
        exact ⟨_, rfl, trivial, RdL.FS.refl _ _ _ _, HR.out, rfl⟩
      · intro a w s ht hR hk1 hk2 hs hg -- Upto
        obtain rfl := hk1 2 rfl
        have h19 : a.tmps.getD 19 undef = _ := ByN.given_get hg 7 rfl rfl (by kernel_rfl)
        refine ByL.yes rfl ?_
        clear hs hg hk1 hk2
        have HR := Lib.hid hR
        clear hR
        go_simp
        refine (Upto_any 1 (show Rd w lo g b ax2 ex2 from HR.out.rd)).mono ?_
        rw [H3.out]
        rintro e' w' ⟨rfl, hr, hgr⟩
        exact ⟨_, rfl, trivial, RdL.FS.early _ _ (by decide), HR.out.call (by decide) hgr hr (by omega) (fun hp hq => HPo.out _ _ hp hq), rfl⟩
      · intro a w s ht hR hk1 hk2 hs hg -- eql
        have h20 : a.tmps.getD 20 undef = _ := ByN.given_get hg 8 rfl rfl (by kernel_rfl)
        refine ByL.yes rfl ?_
        clear hs hg hk1 hk2
        have HR := Lib.hid hR
        clear hR
        go_simp
        exact ⟨_, rfl, trivial, RdL.FS.refl _ _ _ _, HR.out, rfl⟩
      · intro a w s ht hR hk1 hk2 hs hg -- build
        have h16 : a.tmps.getD 16 undef = _ := ByN.given_get hg 4 rfl rfl (by kernel_rfl)
        have h18 : a.tmps.getD 18 undef = _ := ByN.given_get hg 6 rfl rfl (by kernel_rfl)
        have h21 : a.tmps.getD 21 undef = _ := ByN.given_get hg 9 rfl rfl (by kernel_rfl)
        refine ByL.yes rfl ?_
        clear hs hg hk1 hk2
        refine RdL.op_bp 95 _ rfl (ps := #[(0, .int .i64 (x : Int)), (1, arr8 (padTo 32 ky)), (2, .bool ob)]) (Eq.trans (b := #[(0, a.tmps.getD 16 undef), (1, a.tmps.getD 18 undef), (2, a.tmps.getD 21 undef)]) (by kernel_rfl) (by rw [h16, h18, h21])) (build_mbo _ _ HKY.out _ w) ?_
        exact ⟨_, rfl, trivial, RdL.FS.refl _ _ _ _, hR, rfl⟩
      · intro a w s ht hR hk1 hk2 hs hg -- buildSlice
        obtain rfl := hk1 3 rfl
        have h22 : a.tmps.getD 22 undef = _ := ByN.given_get hg 10 rfl rfl (by kernel_rfl)
        refine ByL.yes rfl ?_
        clear hs hg hk1 hk2
        obtain ⟨i0, z0, hi, hz, hs, hby, hzs⟩ := info_mb
        refine RdL.op_bs 22 1 _ rfl (ps := #[(0, .agg (Mb.cs ⟨(x : Int), padTo 32 ky, ob⟩).toArray)]) (Eq.trans (b := #[(0, a.tmps.getD 22 undef)]) (by kernel_rfl) (by rw [h22]; rfl)) (run_bs_one Try.underlying22 hi hz hs hzs (by decide) (by decide) _ (Mb.len HKY.out) w) ?_
        have hbb : Below w.heap.size w (w.alloc (.cells (Mb.cs ⟨(x : Int), padTo 32 ky, ob⟩).toArray 95)) := (Below.refl _ w).alloc (Nat.le_refl _) _
        refine ⟨_, rfl, trivial, RdL.FS.early _ _ (by decide), hR.alloc hbb rfl fun hp hq => ownM_grown hp (only_of_below hq none) (none_lt _), ⟨_, rfl, Row.new rfl rfl, ?_, ?_⟩⟩
        · have := (hR.row (by decide)).lt; omega
        · intro e
          have := ((hR.old (by decide)).2.lt _ e).2
          omega
      · intro a w s ht hR hk1 hk2 hs hg -- append
        obtain rfl := hk1 4 rfl
        have h13 : a.tmps.getD 13 undef = _ := ByN.given_get hg 1 rfl rfl (by kernel_rfl)
        obtain ⟨gx, h23, hrx, _, _⟩ := ByN.given_get hg 11 rfl rfl (by kernel_rfl)
        have h23' : a.tmps.getD 23 undef = _ := h23
        refine ByL.yes rfl ?_
        clear hs hg hk1 hk2 h23
        obtain ⟨i0, z0, hi, hz, hs, hby, hzs⟩ := info_mb
        have hold := hR.old (by decide)
        obtain ⟨v', w', hrun, ho, hgr, hblk⟩ := RdL.run_app_tabG (P := Try.prog) w (ty := 22) Try.underlying22 hi hz hs hby hzs (by decide) hold.2 (MTab.one HKY.out hrx hrx.lt).2 (mcs_one _) (by have := HKL.out; have := HN64.out; simp only [List.length_cons, List.length_nil]; omega) (by decide) (by have := (hR.row (by decide)).lt; omega)
        refine RdL.op_app _ _ rfl rfl h13 h23' hrun ?_
        refine ⟨_, rfl, trivial, ⟨fun _ => hgr, fun e => by omega⟩, hR.app hgr (fun k e => HVB.out k e) rfl (by omega) (by omega), ?_⟩
        refine ⟨fun y hy => ?_, ?_⟩
        · rcases List.mem_append.1 hy with hy | hy
          · exact hold.1 y hy
          · rw [List.mem_singleton.1 hy]; exact HKY.out
        · show w'.ownsRow _ _ _ _ (l ++ [_]).length (mcs (l ++ [_]))
          rw [List.length_append, show mcs (l ++ [(⟨(x : Int), padTo 32 ky, ob⟩ : Mb)]) = mcs l ++ mcs [⟨(x : Int), padTo 32 ky, ob⟩] from List.flatMap_append]
          exact ho
      · intro a w s ht hR hk1 hk2 hs hg -- fieldAddr
        have h5 := By.same_get hs 5 (by decide) (by kernel_rfl)
        refine ByL.yes rfl ?_
        clear hs hg hk1 hk2
        have HR := Lib.hid hR
        clear hR
        go_simp
        exact ⟨_, rfl, trivial, RdL.FS.refl _ _ _ _, HR.out, rfl⟩
      · intro a w s ht hR hk1 hk2 hs hg -- store
        obtain rfl := hk1 5 rfl
        have h25 : a.tmps.getD 25 undef = _ := ByN.given_get hg 13 rfl rfl (by kernel_rfl)
        have hp : OwnM w (gc + 1) (a.tmps.getD 24 undef) _ := ByN.given_get hg 12 rfl rfl (by kernel_rfl)
        refine ByL.yes rfl ?_
        clear hs hg hk1 hk2
        obtain ⟨A5, c5, h24, _⟩ := hp.tab.2.shape
        rw [List.length_append, List.length_singleton] at h24
        rw [h24] at hp
        have HP := Lib.hid hp
        have HR := Lib.hid hR
        have hcell := (hR.row (by decide)).cell (i := 0) rfl
        have hfr := frozen_row (hR.row (by decide)) 0
        clear hp hR
        go_simp
        refine ⟨trivial, ⟨fun e => by omega, fun _ => only_put1 0 _⟩, HR.out.store (only_put1 0 _) ((HR.out.row (by decide)).set 0 _) (ownM_grown HP.out (only_put1 0 _) (one_gc (Nat.lt_succ_self _))) rfl (by omega), ⟨undef, trivial⟩⟩
      refine ByL.ends_is (ByL.ends_is (ByL.ends_is (ByL.ends_is (ByL.ends_is (ByL.ends_is (ByL.ends_is (ByL.ends_is (ByL.ends_is (ByL.ends_is (ByL.ends_is (ByL.ends_skip fun v23 => (ByL.ends_skip fun v24 => (ByL.ends_is (ByL.ends_skip fun v26 => ByL.ends_nil fun w4 hw4 => ?_))))))))))))))
      try simp only [Act.put, List.setIfInBounds_toArray, List.set_cons_succ, List.set_cons_zero]
      try simp only [List.drop_succ_cons, List.drop_zero]
      obtain ⟨_, hR6⟩ := hw4
      obtain ⟨v', hrow6, hown6⟩ := hR6.new rfl
      have HL' := Lib.hid (show LP W2 lo g gc (gc + 1) b a1 e1 (k + 1) w4 from ⟨⟨_, _, _, v', HX.out, hR6.rd, hrow6, hown6⟩, keep_both (keep_drew HKeep.out) hR6.keep⟩)
      clear hR6 hrow6 hown6 HHR HHO HHD HKeep hob2 hwx
      go_wp2_with fail
      go_roundw
      case rel => exact ⟨k + 1, by have := HLT.out; omega, by go_num, HL'⟩
      case measure => have := HLT.out; simp [intOf]; omega
    · have hq := hL.out.st
      rw [show k = n by omega] at hq
      obtain ⟨ps, a2, e2, vp, hps, hrd, hrow, hown⟩ := hq
      have HPS := Lib.hid hps
      have HKP := Lib.hid hL.out.keep
      have HRW := Lib.hid hrow
      have HOM := Lib.hid hown
      obtain ⟨AP, cp, hvp, hcp⟩ := hown.tab.2.shape
      subst hvp
      obtain ⟨m, a3, e3, hm⟩ : ∃ x a e, rdUpto b a2 e2 256 = (x, a, e) := ⟨_, _, _, rfl⟩
      have HM := Lib.hid hm
      have HM256 := Lib.hid (show m ≤ 256 by have := RdP.upto_le b a2 e2 256; rwa [hm] at this)
      have HRD := Lib.hid hrd
      have hgl := HGC.out
      clear hL hk2 hps hrow hown hm hrd
      go_wp2_with fail
      clear hlt hk
      refine (Upto_any 256 HRD.out).mono ?_
      rw [HM.out]
      rintro e W5 ⟨rfl, hr5, hg5⟩
      have HL0 := Lib.hid (show LR W2 lo g gc (gc + 1) b (.slice AP ps.length cp) ps a3 e3 0 W5 from ⟨⟨[], a3, e3, .slice none 0 0, rfl, hr5, row_grown HRW.out hg5 (by omega), ownR_nil _ _, ownM_grown HOM.out hg5 (one_gc (by omega))⟩, RdL.keep_row HKP.out hg5 fun k e => by injection e with e; exact .inl e.symm⟩)
      clear hr5 hg5 HRD HRW HOM HKP
      go_wp2_with fail
      go_loopw [29] (fun iv wr => ∃ k : Nat, k ≤ m ∧ iv = .int .u64 (k : Int) ∧ Hid (LR W2 lo g gc (gc + 1) b (.slice AP ps.length cp) ps a3 e3 k wr)) (fun iv _ => m - (intOf iv).toNat)
      case atStart => exact ⟨0, Nat.zero_le _, rfl, HL0⟩
      case round =>
        obtain ⟨k, hk, rfl, hL⟩ := hrel
        have hk2 : (k : Int) ≤ 256 := by have := HM256.out; omega
        by_cases hlt : k < m
        · have HLT := Lib.hid hlt
          obtain ⟨l, ax, ex, vl, hq, hrd, hrow, hown, hom⟩ := hL.out.st
          have HKL := Lib.hid (show l.length = k by have := rdList_len (f := rdRt b) k a3 e3; rwa [hq] at this)
          obtain ⟨x, ax1, ex1, h1⟩ : ∃ x a e, rdUpto b ax ex 4294967295 = (x, a, e) := ⟨_, _, _, rfl⟩
          obtain ⟨y, ax2, ex2, h2⟩ : ∃ x a e, rdUpto b ax1 ex1 32 = (x, a, e) := ⟨_, _, _, rfl⟩
          obtain ⟨z, ax3, ex3, h3⟩ : ∃ x a e, rdUpto b ax2 ex2 65536 = (x, a, e) := ⟨_, _, _, rfl⟩
          have HX := Lib.hid (rdList_succ hq (rdRt_eq h1 h2 h3))
          have H1 := Lib.hid h1
          have H2 := Lib.hid h2
          have H3 := Lib.hid h3
          have hwy := wrap_i64n y (by have := RdP.upto_le b ax1 ex1 32; rw [h2] at this; omega)
          have hwz := wrap_i64n z (by have := RdP.upto_le b ax2 ex2 65536; rw [h3] at this; omega)
          obtain ⟨A, c0, hvl, hcl⟩ := (Tab.of_own hown).shape
          have HHR := Lib.hid hrow
          have HHO := Lib.hid (And.intro hown hom)
          have HHD := Lib.hid hrd
          have HKeep := Lib.hid hL.out.keep
          have HVB := Lib.hid (show ∀ i, vl.ownBlock = some i → gc + 1 ≤ i from fun i e => (hown.lt i e).1)
          have HPo := Lib.hid (show ∀ (y y' : World), OwnR y (gc + 1) vl l ∧ OwnM y (gc + 1) (.slice AP ps.length cp) ps → y.grownBy y' (some g) → OwnR y' (gc + 1) vl l ∧ OwnM y' (gc + 1) (.slice AP ps.length cp) ps from fun _ _ h hq => ⟨ownR_grown h.1 hq (one_gc (by omega)), ownM_grown h.2 hq (one_gc (by omega))⟩)
          subst hvl
          clear hL hq h1 h2 h3 hrow hown hrd hcl hom
          go_wp2_with fail
          refine ByL.marks Cfg.mixed RdL.TT (RdL.FS gc (.slice A l.length c0)) (RdL.RS wr.drew lo g gc (gc + 1) b (stq (ax, ex) (ax1, ex1) (ax2, ex2) (ax3, ex3)) (fun v => [(.slice AP ps.length cp), v]) 25 (.slice A l.length c0) (fun Y => OwnR Y (gc + 1) (.slice A l.length c0) l ∧ OwnM Y (gc + 1) (.slice AP ps.length cp) ps) (fun Y v => OwnR Y (gc + 1) v (l ++ [⟨(x : Int), (y : Int), (z : Int)⟩]) ∧ OwnM Y (gc + 1) (.slice AP ps.length cp) ps)) 6 [
            ByL.is (.pointer (some ⟨gc, 1, none⟩)) none,
            ByL.is (.slice A l.length c0) none,
            ByL.is (.pointer (some ⟨g, 0, none⟩)) none,
            ByL.is (.int .u32 (x : Int)) (some 0),
            ByL.is (.pointer (some ⟨g, 0, none⟩)) none,
            ByL.is (.int .u64 (y : Int)) (some 1),
            ByL.is (.int .i64 (y : Int)) none,
            ByL.is (.pointer (some ⟨g, 0, none⟩)) none,
            ByL.is (.int .u64 (z : Int)) (some 2),
            ByL.is (.int .i64 (z : Int)) none,
            ByL.is (Rt.val ⟨(x : Int), (y : Int), (z : Int)⟩) none,
            RdL.rowM gc (.slice A l.length c0) (Rt.cs ⟨(x : Int), (y : Int), (z : Int)⟩) 98,
            RdL.appM gc (.slice A l.length c0) (fun Y v => OwnR Y (gc + 1) v (l ++ [⟨(x : Int), (y : Int), (z : Int)⟩]) ∧ OwnM Y (gc + 1) (.slice AP ps.length cp) ps) (fun _ _ _ h hg => ⟨ownR_grown h.1 hg (one_gc (Nat.lt_succ_self _)), ownM_grown h.2 hg (one_gc (Nat.lt_succ_self _))⟩),
            ByL.is (.pointer (some ⟨gc, 1, none⟩)) none,
            ByL.isN (some 5)]
            (Ev.masks _ []) (by kernel_rfl) rfl (by kernel_rfl) (fun _ => trivial) (fun _ _ _ _ _ => trivial) (RdL.FS.refl gc (.slice A l.length c0)) ⟨fun _ => HHR.out, fun _ => HHO.out, HHD.out, (fun e => by cases e), keep_id _ _⟩ ⟨?_, ?_, ?_, ?_, ?_, ?_, ?_, ?_, ?_, ?_, ?_, ?_, ?_, ?_, ?_, trivial⟩ ?_
          · intro a w s ht hR hk1 hk2 hs hg -- fieldAddr
            have h5 := By.same_get hs 5 (by decide) (by kernel_rfl)
            refine ByL.yes rfl ?_
            clear hs hg hk1 hk2
            have HR := Lib.hid hR
            clear hR
            go_simp
            exact ⟨_, rfl, trivial, RdL.FS.refl _ _ _ _, HR.out, rfl⟩
          · intro a w s ht hR hk1 hk2 hs hg -- load
            have h31 : a.tmps.getD 31 undef = _ := ByN.given_get hg 0 rfl rfl (by kernel_rfl)
            refine ByL.yes rfl ?_
            have hc := (hR.row (by have := hk2 14 5 rfl (by kernel_rfl); omega)).cell (i := 1) rfl
            clear hs hg hk1 hk2
            have HR := Lib.hid hR
            clear hR
            go_simp
            exact ⟨_, rfl, trivial, RdL.FS.refl _ _ _ _, HR.out, rfl⟩
          · intro a w s ht hR hk1 hk2 hs hg -- move
            have h4 := By.same_get hs 4 (by decide) (by kernel_rfl)
            refine ByL.yes rfl ?_
            clear hs hg hk1 hk2
            have HR := Lib.hid hR
            clear hR
            go_simp
            exact ⟨_, rfl, trivial, RdL.FS.refl _ _ _ _, HR.out, rfl⟩
          · intro a w s ht hR hk1 hk2 hs hg -- address
            obtain rfl := hk1 0 rfl
            have h33 : a.tmps.getD 33 undef = _ := ByN.given_get hg 2 rfl rfl (by kernel_rfl)
            refine ByL.yes rfl ?_
            clear hs hg hk1 hk2
            have HR := Lib.hid hR
            clear hR
            go_simp
            refine (address_any (show Rd w lo g b ax ex from HR.out.rd)).mono ?_
            rw [H1.out]
            rintro e' w' ⟨rfl, hr, hgr⟩
            exact ⟨_, rfl, trivial, RdL.FS.early _ _ (by decide), HR.out.call (by decide) hgr hr (by omega) (fun hp hq => HPo.out _ _ hp hq), rfl⟩
          · intro a w s ht hR hk1 hk2 hs hg -- move
            have h4 := By.same_get hs 4 (by decide) (by kernel_rfl)
            refine ByL.yes rfl ?_
            clear hs hg hk1 hk2
            have HR := Lib.hid hR
            clear hR
            go_simp
            exact ⟨_, rfl, trivial, RdL.FS.refl _ _ _ _, HR.out, rfl⟩
          · intro a w s ht hR hk1 hk2 hs hg -- Upto
            obtain rfl := hk1 1 rfl
            have h35 : a.tmps.getD 35 undef = _ := ByN.given_get hg 4 rfl rfl (by kernel_rfl)
            refine ByL.yes rfl ?_
            clear hs hg hk1 hk2
            have HR := Lib.hid hR
            clear hR
            go_simp
            refine (Upto_any 32 (show Rd w lo g b ax1 ex1 from HR.out.rd)).mono ?_
            rw [H2.out]
            rintro e' w' ⟨rfl, hr, hgr⟩
            exact ⟨_, rfl, trivial, RdL.FS.early _ _ (by decide), HR.out.call (by decide) hgr hr (by omega) (fun hp hq => HPo.out _ _ hp hq), rfl⟩
          · intro a w s ht hR hk1 hk2 hs hg -- convert
            have h36 : a.tmps.getD 36 undef = _ := ByN.given_get hg 5 rfl rfl (by kernel_rfl)
            refine ByL.yes rfl ?_
            clear hs hg hk1 hk2
            have HR := Lib.hid hR
            clear hR
            go_simp
            exact ⟨_, rfl, trivial, RdL.FS.refl _ _ _ _, HR.out, rfl⟩
          · intro a w s ht hR hk1 hk2 hs hg -- move
            have h4 := By.same_get hs 4 (by decide) (by kernel_rfl)
            refine ByL.yes rfl ?_
            clear hs hg hk1 hk2
            have HR := Lib.hid hR
            clear hR
            go_simp
            exact ⟨_, rfl, trivial, RdL.FS.refl _ _ _ _, HR.out, rfl⟩
          · intro a w s ht hR hk1 hk2 hs hg -- Upto
            obtain rfl := hk1 2 rfl
            have h38 : a.tmps.getD 38 undef = _ := ByN.given_get hg 7 rfl rfl (by kernel_rfl)
            refine ByL.yes rfl ?_
            clear hs hg hk1 hk2
            have HR := Lib.hid hR
            clear hR
            go_simp
            refine (Upto_any 65536 (show Rd w lo g b ax2 ex2 from HR.out.rd)).mono ?_
            rw [H3.out]
            rintro e' w' ⟨rfl, hr, hgr⟩
            exact ⟨_, rfl, trivial, RdL.FS.early _ _ (by decide), HR.out.call (by decide) hgr hr (by omega) (fun hp hq => HPo.out _ _ hp hq), rfl⟩
          · intro a w s ht hR hk1 hk2 hs hg -- convert
            have h39 : a.tmps.getD 39 undef = _ := ByN.given_get hg 8 rfl rfl (by kernel_rfl)
            refine ByL.yes rfl ?_
            clear hs hg hk1 hk2
            have HR := Lib.hid hR
            clear hR
            go_simp
            exact ⟨_, rfl, trivial, RdL.FS.refl _ _ _ _, HR.out, rfl⟩
          · intro a w s ht hR hk1 hk2 hs hg -- build
            have h34 : a.tmps.getD 34 undef = _ := ByN.given_get hg 3 rfl rfl (by kernel_rfl)
            have h37 : a.tmps.getD 37 undef = _ := ByN.given_get hg 6 rfl rfl (by kernel_rfl)
            have h40 : a.tmps.getD 40 undef = _ := ByN.given_get hg 9 rfl rfl (by kernel_rfl)
            refine ByL.yes rfl ?_
            clear hs hg hk1 hk2
            refine RdL.op_bp 98 _ rfl (ps := #[(0, .int .u32 (x : Int)), (1, .int .i64 (y : Int)), (2, .int .i64 (z : Int))]) (Eq.trans (b := #[(0, a.tmps.getD 34 undef), (1, a.tmps.getD 37 undef), (2, a.tmps.getD 40 undef)]) (by kernel_rfl) (by rw [h34, h37, h40])) (build_rt _ _ _ w) ?_
            exact ⟨_, rfl, trivial, RdL.FS.refl _ _ _ _, hR, rfl⟩
          · intro a w s ht hR hk1 hk2 hs hg -- buildSlice
            obtain rfl := hk1 3 rfl
            have h41 : a.tmps.getD 41 undef = _ := ByN.given_get hg 10 rfl rfl (by kernel_rfl)
            refine ByL.yes rfl ?_
            clear hs hg hk1 hk2
            obtain ⟨i0, z0, hi, hz, hs, hby, hzs⟩ := info_rt
            refine RdL.op_bs 23 1 _ rfl (ps := #[(0, .agg (Rt.cs ⟨(x : Int), (y : Int), (z : Int)⟩).toArray)]) (Eq.trans (b := #[(0, a.tmps.getD 41 undef)]) (by kernel_rfl) (by rw [h41]; rfl)) (run_bs_one Try.underlying23 hi hz hs hzs (by decide) (by decide) _ rfl w) ?_
            have hbb : Below w.heap.size w (w.alloc (.cells (Rt.cs ⟨(x : Int), (y : Int), (z : Int)⟩).toArray 98)) := (Below.refl _ w).alloc (Nat.le_refl _) _
            refine ⟨_, rfl, trivial, RdL.FS.early _ _ (by decide), hR.alloc hbb rfl fun hp hq => ⟨ownR_grown hp.1 (only_of_below hq none) (none_lt _), ownM_grown hp.2 (only_of_below hq none) (none_lt _)⟩, ⟨_, rfl, Row.new rfl rfl, ?_, ?_⟩⟩
            · have := (hR.row (by decide)).lt; omega
            · intro e
              have := ((hR.old (by decide)).1.lt _ e).2
              omega
          · intro a w s ht hR hk1 hk2 hs hg -- append
            obtain rfl := hk1 4 rfl
            have h32 : a.tmps.getD 32 undef = _ := ByN.given_get hg 1 rfl rfl (by kernel_rfl)
            obtain ⟨gx, h42, hrx, _, _⟩ := ByN.given_get hg 11 rfl rfl (by kernel_rfl)
            have h42' : a.tmps.getD 42 undef = _ := h42
            refine ByL.yes rfl ?_
            clear hs hg hk1 hk2 h42
            obtain ⟨i0, z0, hi, hz, hs, hby, hzs⟩ := info_rt
            have hold := hR.old (by decide)
            have htab : Tab 3 w w.heap.size (.slice (some ⟨gx, 0, none⟩) 1 1) 1 (rcs [⟨(x : Int), (y : Int), (z : Int)⟩]) := ⟨_, 1, rfl, Nat.le_refl _, by simp [rcs, Rt.cs], fun _ => ⟨gx, 0, rfl, hrx.lt, fun j x hx => by rw [Nat.zero_add]; exact hrx.cell (by simpa [rcs] using hx)⟩⟩
            obtain ⟨v', w', hrun, ho, hgr, hblk⟩ := RdL.run_app_tabG (P := Try.prog) w (ty := 23) Try.underlying23 hi hz hs hby hzs (by decide) hold.1 htab (rcs_one _) (by have := HKL.out; have := HM256.out; omega) (by decide) (by have := (hR.row (by decide)).lt; omega)
            refine RdL.op_app _ _ rfl rfl h32 h42' hrun ?_
            refine ⟨_, rfl, trivial, ⟨fun _ => hgr, fun e => by omega⟩, hR.app hgr (fun k e => HVB.out k e) rfl (by omega) (by omega), ?_, ownM_app hold.2 hold.1 hgr⟩
            show w'.ownsRow _ _ _ _ (l ++ [_]).length (rcs (l ++ [_]))
            rw [List.length_append, show rcs (l ++ [(⟨(x : Int), (y : Int), (z : Int)⟩ : Rt)]) = rcs l ++ rcs [⟨(x : Int), (y : Int), (z : Int)⟩] from List.flatMap_append]
            exact ho
          · intro a w s ht hR hk1 hk2 hs hg -- fieldAddr
            have h5 := By.same_get hs 5 (by decide) (by kernel_rfl)
            refine ByL.yes rfl ?_
            clear hs hg hk1 hk2
            have HR := Lib.hid hR
            clear hR
            go_simp
            exact ⟨_, rfl, trivial, RdL.FS.refl _ _ _ _, HR.out, rfl⟩
          · intro a w s ht hR hk1 hk2 hs hg -- store
            obtain rfl := hk1 5 rfl
            have h44 : a.tmps.getD 44 undef = _ := ByN.given_get hg 13 rfl rfl (by kernel_rfl)
            have hp : OwnR w (gc + 1) (a.tmps.getD 43 undef) _ ∧ OwnM w (gc + 1) (.slice AP ps.length cp) ps := ByN.given_get hg 12 rfl rfl (by kernel_rfl)
            refine ByL.yes rfl ?_
            clear hs hg hk1 hk2
            obtain ⟨A5, c5, h43, _⟩ := (Tab.of_own hp.1).shape
            rw [List.length_append, List.length_singleton] at h43
            rw [h43] at hp
            have HP := Lib.hid hp
            have HR := Lib.hid hR
            have hcell := (hR.row (by decide)).cell (i := 1) rfl
            have hfr := frozen_row (hR.row (by decide)) 1
            clear hp hR
            go_simp
            refine ⟨trivial, ⟨fun e => by omega, fun _ => only_put1 1 _⟩, HR.out.store (only_put1 1 _) ((HR.out.row (by decide)).set 1 _) ⟨ownR_grown HP.out.1 (only_put1 1 _) (one_gc (Nat.lt_succ_self _)), ownM_grown HP.out.2 (only_put1 1 _) (one_gc (Nat.lt_succ_self _))⟩ rfl (by omega), ⟨undef, trivial⟩⟩
          refine ByL.ends_is (ByL.ends_is (ByL.ends_is (ByL.ends_is (ByL.ends_is (ByL.ends_is (ByL.ends_is (ByL.ends_is (ByL.ends_is (ByL.ends_is (ByL.ends_is (ByL.ends_skip fun v23 => (ByL.ends_skip fun v24 => (ByL.ends_is (ByL.ends_skip fun v26 => ByL.ends_nil fun w4 hw4 => ?_))))))))))))))
          try simp only [Act.put, List.setIfInBounds_toArray, List.set_cons_succ, List.set_cons_zero]
          try simp only [List.drop_succ_cons, List.drop_zero]
          obtain ⟨_, hR6⟩ := hw4
          obtain ⟨v', hrow6, hown6⟩ := hR6.new rfl
          have HL' := Lib.hid (show LR W2 lo g gc (gc + 1) b (.slice AP ps.length cp) ps a3 e3 (k + 1) w4 from ⟨⟨_, _, _, v', HX.out, hR6.rd, hrow6, hown6.1, hown6.2⟩, keep_both (keep_drew HKeep.out) hR6.keep⟩)
          clear hR6 hrow6 hown6 HHR HHO HHD HKeep hwy hwz
          go_wp2_with fail
          go_roundw
          case rel => exact ⟨k + 1, by have := HLT.out; omega, by go_num, HL'⟩
          case measure => have := HLT.out; simp [intOf]; omega
        · have hq := hL.out.st
          rw [show k = m by omega] at hq
          obtain ⟨rs, a4, e4, vr, hrs, hrd, hrow, hown, hom⟩ := hq
          have HRS := Lib.hid hrs
          have HKP := Lib.hid hL.out.keep
          have HRD := Lib.hid hrd
          obtain ⟨AR, cr, hvr, hcr⟩ := (Tab.of_own hown).shape
          subst hvr
          have HRW := Lib.hid hrow
          have HCN := Lib.hid (show CNew wr (gc + 1) (.slice AP ps.length cp) (.slice AR rs.length cr) ⟨ps, rs⟩ from ⟨hom, hown⟩)
          clear hL hk2 hrs hrow hown hom hrd hcr hcp
          obtain ⟨E, hE⟩ : ∃ E, rdEnd b a4 e4 = E := ⟨_, rfl⟩
          have HE := Lib.hid hE
          go_wp2_with fail
          clear hlt hk
          refine (End_any HRD.out).mono ?_
          rw [hE]
          rintro e w6 ⟨rfl, _, hgr⟩
          have HRW6 := Lib.hid (row_grown HRW.out hgr (by omega))
          have HCN6 := Lib.hid (show CNew w6 (gc + 1) (.slice AP ps.length cp) (.slice AR rs.length cr) ⟨ps, rs⟩ from ⟨ownM_grown HCN.out.ps hgr (one_gc (by omega)), ownR_grown HCN.out.rs hgr (one_gc (by omega))⟩)
          have hk6 := RdL.keep_row HKP.out hgr fun k e => by injection e with e; exact .inl e.symm
          have HR6 := Lib.hid (row_of hk6 HR2.out (by unfold Hole; omega))
          have HB6 := Lib.hid (show Below w.heap.size w w6 from HB2.out.trans (below_of hk6 HB2.out.size (fun i hi => by unfold Hole; omega)))
          clear hgr hk6 HRW HCN HKP HRD HR2 HB2 hE
          have c0 := HRW6.out.cell (i := 0) rfl
          have c1 := HRW6.out.cell (i := 1) rfl
          by_cases hE0 : E = 0
          · have hE1 : ((E : Int) != 0) = false := by subst hE0; rfl
            have HE0 := Lib.hid hE0
            clear hE0
            have HCK := Lib.hid (Check_any HCN6.out.at (Nat.le_refl _))
            go_wp2_with fail
            refine HCK.out.mono ?_
            rintro e w7 ⟨rfl, hb7⟩
            have HB7 := Lib.hid (nextB HB6.out (Nat.le_refl _) hb7)
            have HR7 := Lib.hid (HR6.out.below hb7 HR6.out.lt)
            have HRW7 := Lib.hid (HRW6.out.below hb7 HRW6.out.lt)
            have HCN7 := Lib.hid (HCN6.out.below hb7)
            clear hb7 c0 c1 HCK
            have c0 := HRW7.out.cell (i := 0) rfl
            have c1 := HRW7.out.cell (i := 1) rfl
            by_cases hV : Val ⟨ps, rs⟩
            · have HC := Lib.hid (rdCfg_yes HN.out HPS.out HM.out HRS.out (HE.out.trans HE0.out) hV)
              rw [show checkZ ⟨ps, rs⟩ = 0 from if_pos hV]
              clear hV
              go_wp2_with (first
                | (refine wpList_storeRow (n := 2) rfl 25 _ _ rfl rfl rfl (cs := [.slice AP ps.length cp, .slice AR rs.length cr]) (old := [.slice none 0 0, .slice none 0 0]) HR7.out (by kernel_rfl) rfl rfl (by intro v hv; simp only [List.mem_cons, List.not_mem_nil, or_false] at hv; rcases hv with rfl | rfl <;> rfl) ?_
                   obtain ⟨V2, hV2⟩ : ∃ V2, World.setRow w7 w.heap.size [.slice AP ps.length cp, .slice AR rs.length cr].toArray = V2 := ⟨_, rfl⟩
                   refine wpList_world hV2 ?_
                   have R2 := Lib.hid (show Row V2 w.heap.size [.slice AP ps.length cp, .slice AR rs.length cr] 25 by rw [← hV2]; exact Row.setRow HR7.out _)
                   have HBV := Lib.hid (show Below w.heap.size w V2 by rw [← hV2]; exact below_setRow HB7.out (Nat.le_refl _) _)
                   have HCV := Lib.hid (show CNew V2 (gc + 1) (.slice AP ps.length cp) (.slice AR rs.length cr) ⟨ps, rs⟩ by rw [← hV2]; exact HCN7.out.setRow (by omega) _)
                   clear hV2)
                | fail)
              refine bodyPost_ret (results_ct (cs := [.slice AP ps.length cp, .slice AR rs.length cr]) rfl rfl R2.out Try.underlying25 rfl (by kernel_rfl) rfl) rfl ?_
              refine ⟨fun c hc => ?_, fun hc => ?_, HBV.out⟩
              · rw [HC.out] at hc
                injection hc with hc
                subst hc
                exact ⟨_, _, rfl, HCV.out.less (by omega)⟩
              · rw [HC.out] at hc; cases hc
            · have HC := Lib.hid (rdCfg_no HN.out HPS.out HM.out HRS.out fun h => hV h.2)
              rw [show checkZ ⟨ps, rs⟩ = 2 from if_neg hV]
              clear hV
              go_wp2_with (first
                | (refine wpList_storeRow (n := 2) rfl 25 _ _ rfl rfl rfl (cs := [.slice none 0 0, .slice none 0 0]) (old := [.slice none 0 0, .slice none 0 0]) HR7.out (by kernel_rfl) rfl rfl (by intro v hv; simp only [List.mem_cons, List.not_mem_nil, or_false] at hv; rcases hv with rfl | rfl <;> rfl) ?_
                   obtain ⟨V2, hV2⟩ : ∃ V2, World.setRow w7 w.heap.size [.slice none 0 0, .slice none 0 0].toArray = V2 := ⟨_, rfl⟩
                   refine wpList_world hV2 ?_
                   have R2 := Lib.hid (show Row V2 w.heap.size [.slice none 0 0, .slice none 0 0] 25 by rw [← hV2]; exact Row.setRow HR7.out _)
                   have HBV := Lib.hid (show Below w.heap.size w V2 by rw [← hV2]; exact below_setRow HB7.out (Nat.le_refl _) _)
                   clear hV2)
                | fail)
              refine bodyPost_ret (results_ct (cs := [.slice none 0 0, .slice none 0 0]) rfl rfl R2.out Try.underlying25 rfl (by kernel_rfl) rfl) rfl ?_
              exact ⟨fun c hc => (by rw [HC.out] at hc; cases hc), fun _ => rfl, HBV.out⟩
          · have hE1 : ((E : Int) != 0) = true := by rw [bne_iff_ne]; omega
            have HC := Lib.hid (rdCfg_no HN.out HPS.out HM.out HRS.out fun h => hE0 (HE.out.symm.trans h.1))
            clear hE0
            go_wp2_with (first
              | (refine wpList_storeRow (n := 2) rfl 25 _ _ rfl rfl rfl (cs := [.slice none 0 0, .slice none 0 0]) (old := [.slice none 0 0, .slice none 0 0]) HR6.out (by kernel_rfl) rfl rfl (by intro v hv; simp only [List.mem_cons, List.not_mem_nil, or_false] at hv; rcases hv with rfl | rfl <;> rfl) ?_
                 obtain ⟨V2, hV2⟩ : ∃ V2, World.setRow w6 w.heap.size [.slice none 0 0, .slice none 0 0].toArray = V2 := ⟨_, rfl⟩
                 refine wpList_world hV2 ?_
                 have R2 := Lib.hid (show Row V2 w.heap.size [.slice none 0 0, .slice none 0 0] 25 by rw [← hV2]; exact Row.setRow HR6.out _)
                 have HBV := Lib.hid (show Below w.heap.size w V2 by rw [← hV2]; exact below_setRow HB6.out (Nat.le_refl _) _)
                 clear hV2)
              | fail)
            refine bodyPost_ret (results_ct (cs := [.slice none 0 0, .slice none 0 0]) rfl rfl R2.out Try.underlying25 rfl (by kernel_rfl) rfl) rfl ?_
            exact ⟨fun c hc => (by rw [HC.out] at hc; cases hc), fun _ => rfl, HBV.out⟩
end Go.Proofs.Ytedmogacklbcmaa.Cfg
namespace Go.Proofs.Ytedmogacklbcmaa.Cfg
open Go.RowKit RdK CpA
set_option maxRecDepth 100000 in
theorem build_op (k r i : Int) (ky : List UInt8) (h : ky.length = 32) (a b : Int) (w : World) : (Instr.build 30 #[(0, .int .i64 k), (1, .int .u64 r), (2, .int .i64 i), (3, arr8 ky), (4, .int .u32 a), (5, .int .i64 b)]).run Try.prog w = .ok (Opn.val ⟨k, r, i, ky, a, b⟩) w := by
  match ky, h with
  | [k0, k1, k2, k3, k4, k5, k6, k7, k8, k9, k10, k11, k12, k13, k14, k15, k16, k17, k18, k19, k20, k21, k22, k23, k24, k25, k26, k27, k28, k29, k30, k31], _ =>
    show _ = _
    kernel_rfl
set_option maxRecDepth 100000 in
theorem build_op0 (w : World) : (Instr.build 30 #[]).run Try.prog w = .ok (zop 0 0).val w := by kernel_rfl
set_option maxRecDepth 100000 in
set_option maxHeartbeats 1500000 in
theorem ReadOp_any (v : Value) (b : List UInt8) (w : World) (hb : Bs w w.heap.size v b) (hl : b.length ≤ 35184372088832) :
    Calls Try.prog 18 #[v] w fun e w' => (∀ o, rdOpn b = some o → e = .returned (.tuple #[o.val, .int .i64 0])) ∧ (rdOpn b = none → e = .returned (.tuple #[(zop 0 0).val, .int .i64 4])) ∧ Below w.heap.size w w' := by
  have Hb := Lib.hid hb
  clear hb
  go_enter Try.func18, Try.ntmps18
  go_wp2_with (first
    | (refine QB.wpList_alloc rfl 30 rfl zero_op ?_; intro V hr0 hb0)
    | fail)
  have hr0' : Row V w.heap.size (zop 0 0).cs 30 := hr0
  refine (Go.Proofs.Ytedmogacklbcmaa.New_any _ b _ ((Hb.out.below hb0).more hb0.size) hl).mono ?_
  rintro e w1 ⟨g, rfl, hg1, hg2, hr1, hb1⟩
  have hg0 : w.heap.size < g := Nat.lt_of_lt_of_le hr0'.lt hg1
  have HB1 := Lib.hid (nextB hb0 (Nat.le_refl _) hb1)
  have HR1 := Lib.hid (hr0'.below hb1 hr0'.lt)
  have HD1 := Lib.hid hr1
  have HG := Lib.hid (show w.heap.size < g from hg0)
  clear hr0 hr0' hb0 hg1 hg2 hr1 hb1 hg0 Hb hl
  obtain ⟨k, a1, e1, h⟩ : ∃ x a e, rdUpto b 0 0 5 = (x, a, e) := ⟨_, _, _, rfl⟩
  have H1 := Lib.hid h
  have hw1 := wrap_i64n k (by have := RdP.upto_le b 0 0 5; rw [h] at this; omega)
  clear h
  go_wp2_with fail
  refine (Upto_any 5 HD1.out).mono ?_
  rw [H1.out]
  rintro e w2 ⟨rfl, hr, hgr⟩
  have HD2 := Lib.hid hr
  have HB2 := Lib.hid (HB1.out.grown hgr HB1.out.size (fun q hq => by injection hq with hq; have := HG.out; omega))
  have HR2 := Lib.hid (row_grown HR1.out hgr (by have := HG.out; omega))
  clear hr hgr HD1 HB1 HR1
  obtain ⟨r, a2, e2, h⟩ : ∃ x a e, rdNumber b a1 e1 = (x, a, e) := ⟨_, _, _, rfl⟩
  have H2 := Lib.hid h
  clear h
  go_wp2_with fail
  refine (RNumber_any HD2.out).mono ?_
  rw [H2.out]
  rintro e w3 ⟨rfl, hr, hgr⟩
  have HD3 := Lib.hid hr
  have HB3 := Lib.hid (HB2.out.grown hgr HB2.out.size (fun q hq => by injection hq with hq; have := HG.out; omega))
  have HR3 := Lib.hid (row_grown HR2.out hgr (by have := HG.out; omega))
  clear hr hgr HD2 HB2 HR2
  obtain ⟨i, a3, e3, h⟩ : ∃ x a e, rdUpto b a2 e2 65536 = (x, a, e) := ⟨_, _, _, rfl⟩
  have H3 := Lib.hid h
  have hw3 := wrap_i64n i (by have := RdP.upto_le b a2 e2 65536; rw [h] at this; omega)
  clear h
  go_wp2_with fail
  refine (Upto_any 65536 HD3.out).mono ?_
  rw [H3.out]
  rintro e w4 ⟨rfl, hr, hgr⟩
  have HD4 := Lib.hid hr
  have HB4 := Lib.hid (HB3.out.grown hgr HB3.out.size (fun q hq => by injection hq with hq; have := HG.out; omega))
  have HR4 := Lib.hid (row_grown HR3.out hgr (by have := HG.out; omega))
  clear hr hgr HD3 HB3 HR3
  obtain ⟨ky, a4, e4, h⟩ : ∃ x a e, rdFixed b a3 e3 32 = (x, a, e) := ⟨_, _, _, rfl⟩
  have H4 := Lib.hid h
  have HKY := Lib.hid (show (padTo 32 ky).length = 32 from padTo_length (by have := fixed_len32 b a3 e3; rwa [h] at this))
  clear h
  go_wp2_with fail
  refine (key_any HD4.out).mono ?_
  rw [H4.out]
  rintro e w5 ⟨rfl, hr, hgr⟩
  have HD5 := Lib.hid hr
  have HB5 := Lib.hid (HB4.out.grown hgr HB4.out.size (fun q hq => by injection hq with hq; have := HG.out; omega))
  have HR5 := Lib.hid (row_grown HR4.out hgr (by have := HG.out; omega))
  clear hr hgr HD4 HB4 HR4
  obtain ⟨x, a5, e5, h⟩ : ∃ x a e, rdUpto b a4 e4 4294967295 = (x, a, e) := ⟨_, _, _, rfl⟩
  have H5 := Lib.hid h
  clear h
  go_wp2_with fail
  refine (address_any HD5.out).mono ?_
  rw [H5.out]
  rintro e w6 ⟨rfl, hr, hgr⟩
  have HD6 := Lib.hid hr
  have HB6 := Lib.hid (HB5.out.grown hgr HB5.out.size (fun q hq => by injection hq with hq; have := HG.out; omega))
  have HR6 := Lib.hid (row_grown HR5.out hgr (by have := HG.out; omega))
  clear hr hgr HD5 HB5 HR5
  obtain ⟨z, a6, e6, h⟩ : ∃ x a e, rdUpto b a5 e5 32 = (x, a, e) := ⟨_, _, _, rfl⟩
  have H6 := Lib.hid h
  have hw6 := wrap_i64n z (by have := RdP.upto_le b a5 e5 32; rw [h] at this; omega)
  clear h
  go_wp2_with fail
  refine (Upto_any 32 HD6.out).mono ?_
  rw [H6.out]
  rintro e w7 ⟨rfl, hr, hgr⟩
  have HD7 := Lib.hid hr
  have HB7 := Lib.hid (HB6.out.grown hgr HB6.out.size (fun q hq => by injection hq with hq; have := HG.out; omega))
  have HR7 := Lib.hid (row_grown HR6.out hgr (by have := HG.out; omega))
  clear hr hgr HD6 HB6 HR6
  obtain ⟨O, hO⟩ : ∃ O : Opn, O = ⟨(k : Int), (r : Int), (i : Int), padTo 32 ky, (x : Int), (z : Int)⟩ := ⟨_, rfl⟩
  have HBO := Lib.hid (show (Instr.build 30 #[(0, .int .i64 (k : Int)), (1, .int .u64 (r : Int)), (2, .int .i64 (i : Int)), (3, arr8 (padTo 32 ky)), (4, .int .u32 (x : Int)), (5, .int .i64 (z : Int))]).run Try.prog w7 = .ok O.val w7 by rw [hO]; exact build_op _ _ _ _ HKY.out _ _ _)
  have HOK := Lib.hid (show O.ky.length = 32 by rw [hO]; exact HKY.out)
  have HEQ := Lib.hid (rdOpn_eq H1.out H2.out H3.out H4.out H5.out H6.out)
  rw [← hO] at HEQ
  clear hO H1 H2 H3 H4 H5 H6
  go_wp2_with (first
    | (refine wpList_bp rfl 30 _ rfl (ps := #[(0, .int .i64 (k : Int)), (1, .int .u64 (r : Int)), (2, .int .i64 (i : Int)), (3, arr8 (padTo 32 ky)), (4, .int .u32 (x : Int)), (5, .int .i64 (z : Int))]) (by kernel_rfl) HBO.out ?_; clear HBO)
    | (refine QB.wpList_alloc rfl 30 rfl zero_op ?_; intro W8 hr8 hb8; have HR8 := Lib.hid (show Row W8 w7.heap.size (zop 0 0).cs 30 from hr8); have HB8 := Lib.hid hb8; clear hr8 hb8)
    | (refine wpList_storeRow rfl 30 _ _ rfl rfl (cs := O.cs) rfl HR8.out (by kernel_rfl) (Opn.len HOK.out) (Opn.len zkey_len) O.one ?_
       refine QB.name fun W9 hW => ?_
       have hbw : Below w7.heap.size w7 W9 := hW ▸ below_setRow HB8.out (Nat.le_refl _) _
       have HRO := Lib.hid (show Row W9 w7.heap.size O.cs 30 from hW ▸ HR8.out.setRow _)
       have HD9 := Lib.hid (HD7.out.below hbw (rd_lt HD7.out))
       have HB9 := Lib.hid (nextB HB7.out (Nat.le_refl _) hbw)
       have HR9 := Lib.hid (HR7.out.below hbw HR7.out.lt)
       have HGO := Lib.hid (show g < w7.heap.size from rd_lt HD7.out)
       clear hW hbw HR8 HB8)
    | fail)
  obtain ⟨E, hE⟩ : ∃ E, rdEnd b a6 e6 = E := ⟨_, rfl⟩
  refine (End_any HD9.out).mono ?_
  rw [hE] at HEQ ⊢
  rintro e w10 ⟨rfl, _, hgr⟩
  have HRO2 := Lib.hid (row_grown HRO.out hgr (by have := HGO.out; omega))
  have HB10 := Lib.hid (HB9.out.grown hgr HB9.out.size (fun q hq => by injection hq with hq; have := HG.out; omega))
  have HR10 := Lib.hid (row_grown HR9.out hgr (by have := HG.out; omega))
  clear hgr HRO HB9 HR9 HD9 HB7 HR7 HD7 hE
  have HLD := Lib.hid (l_op HRO2.out HOK.out)
  by_cases hE0 : E = 0
  · have hE1 : ((E : Int) != 0) = false := by subst hE0; rfl
    have HE0 := Lib.hid hE0
    clear hE0
    have HCK := Lib.hid (CheckOp_any O HOK.out w10)
    obtain ⟨ov, hov⟩ : ∃ ov, O.val = ov := ⟨_, rfl⟩
    rw [hov] at HCK HLD
    go_wp2_with (first | (refine QB.wpList_ld 30 rfl rfl HLD.out (by kernel_rfl) ?_; clear HLD) | fail)
    refine HCK.out.mono ?_
    rintro e w11 ⟨rfl, hb11⟩
    subst hov
    have HBL := Lib.hid (nextB HB10.out (Nat.le_refl _) hb11)
    have HRL := Lib.hid (HR10.out.below hb11 HR10.out.lt)
    have HLD := Lib.hid (l_op (HRO2.out.below hb11 HRO2.out.lt) HOK.out)
    clear hb11 HCK HR10 HB10
    by_cases hV : okO O = true
    · rw [show checkOpZ O = 0 from if_pos hV]
      rw [if_pos ⟨HE0.out, hV⟩] at HEQ
      clear hV
      go_wp2_with (first
      | (refine QB.wpList_ld 30 rfl rfl HLD.out rfl ?_; clear HLD)
      | (refine wpList_storeRow rfl 30 _ _ rfl rfl (cs := O.cs) rfl HRL.out (by kernel_rfl) (Opn.len HOK.out) (Opn.len zkey_len) (Opn.one _) ?_
         refine QB.name fun V2 hV2 => ?_
         have R2 := Lib.hid (show Row V2 w.heap.size O.cs 30 from hV2 ▸ Row.setRow HRL.out _)
         have HBV := Lib.hid (show Below w.heap.size w V2 from hV2 ▸ below_setRow HBL.out (Nat.le_refl _) _)
         clear hV2)
      | fail)
      refine bodyPost_ret (results_ct (cs := O.cs) rfl rfl R2.out Try.underlying30 rfl (by kernel_rfl) (Opn.len HOK.out)) rfl ?_
      refine ⟨fun o ho => ?_, fun ho => ?_, HBV.out⟩
      · have ho2 := Option.some.inj (HEQ.out.symm.trans ho)
        rw [← ho2]
        unfold Opn.val
        rfl
      · exact absurd (HEQ.out.symm.trans ho) (by simp)
    · rw [show checkOpZ O = 2 from if_neg hV]
      rw [if_neg (fun h => hV h.2)] at HEQ
      clear hV HLD
      have HB0 := Lib.hid (build_op0 w11)
      go_wp2_with (first
      | (refine wpList_bp rfl 30 _ rfl (ps := #[]) (by kernel_rfl) HB0.out ?_; clear HB0)
      | (refine wpList_storeRow rfl 30 _ _ rfl rfl (cs := (zop 0 0).cs) rfl HRL.out (by kernel_rfl) (Opn.len zkey_len) (Opn.len zkey_len) (Opn.one _) ?_
         refine QB.name fun V2 hV2 => ?_
         have R2 := Lib.hid (show Row V2 w.heap.size (zop 0 0).cs 30 from hV2 ▸ Row.setRow HRL.out _)
         have HBV := Lib.hid (show Below w.heap.size w V2 from hV2 ▸ below_setRow HBL.out (Nat.le_refl _) _)
         clear hV2)
      | fail)
      refine bodyPost_ret (results_ct (cs := (zop 0 0).cs) rfl rfl R2.out Try.underlying30 rfl (by kernel_rfl) (Opn.len zkey_len)) rfl ?_
      exact ⟨fun o ho => absurd (HEQ.out.symm.trans ho) (by simp), fun _ => (by unfold Opn.val; rfl), HBV.out⟩
  · have hE1 : ((E : Int) != 0) = true := by rw [bne_iff_ne]; omega
    have HBL := Lib.hid HB10.out
    have HRL := Lib.hid HR10.out
    rw [if_neg (fun h => hE0 h.1)] at HEQ
    clear hE0 HLD
    have HB0 := Lib.hid (build_op0 w10)
    go_wp2_with (first
      | (refine wpList_bp rfl 30 _ rfl (ps := #[]) (by kernel_rfl) HB0.out ?_; clear HB0)
      | (refine wpList_storeRow rfl 30 _ _ rfl rfl (cs := (zop 0 0).cs) rfl HRL.out (by kernel_rfl) (Opn.len zkey_len) (Opn.len zkey_len) (Opn.one _) ?_
         refine QB.name fun V2 hV2 => ?_
         have R2 := Lib.hid (show Row V2 w.heap.size (zop 0 0).cs 30 from hV2 ▸ Row.setRow HRL.out _)
         have HBV := Lib.hid (show Below w.heap.size w V2 from hV2 ▸ below_setRow HBL.out (Nat.le_refl _) _)
         clear hV2)
      | fail)
    refine bodyPost_ret (results_ct (cs := (zop 0 0).cs) rfl rfl R2.out Try.underlying30 rfl (by kernel_rfl) (Opn.len zkey_len)) rfl ?_
    exact ⟨fun o ho => absurd (HEQ.out.symm.trans ho) (by simp), fun _ => (by unfold Opn.val; rfl), HBV.out⟩
end Go.Proofs.Ytedmogacklbcmaa.Cfg
