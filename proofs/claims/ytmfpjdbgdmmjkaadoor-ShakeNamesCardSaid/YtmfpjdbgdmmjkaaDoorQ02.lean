/- Texts that the proofs share: HkCut, HkPad, Args, HkLists, HkPadded, HkSum, ByJ, HkRep, Tail, HkMac, ShkStr, EqArr, SubRow, PktBase, ShkKit. -/
import Derived.Test.YtmfpjdbgdmmjkaaDoorQ00
import Derived.Test.YtmfpjdbgdmmjkaaDoorQ01
import Derived.WalkMore
import Derived.Deep.Slices
import Derived.Deep.Fields
import Derived.ChangeSame
import Derived.Lib.MakeNoZero
import Derived.StillTail
import Derived.Lib.ConvBytes
import Derived.Laws.CopyOwn
import Derived.BigFrame
namespace Go.Proofs.YtmfpjdbgdmmjkaaDoor
open Go.RowKit

theorem results_row_tmp {P : Program} {fn : Func} {p q : Tmp} {ty : TypeId} (hr : fn.results = #[.cell p ty, .tmp q]) (tmps : Array Value) {w : World} {g : Nat} {t : TypeId} {cs : List Value} {d : TypeDesc}
    (hp : tmps.getD p undef = .pointer (some ⟨g, 0, none⟩)) (h1 : Row w g cs t) (hu : P.underlying ty = some d) (hd : (match d with | .struct _ | .array _ _ => true | _ => false) = true) {n : Nat} (hi : (P.info? ty).map (·.size) = some n) (hn : cs.length = n) :
    (results fn tmps).run P w = .ok (.tuple #[.agg cs.toArray, tmps.getD q undef]) w := by
  have hp' : tmps[p]?.getD undef = .pointer (some ⟨g, 0, none⟩) := by simpa using hp
  have r1 := run_loadVar_row (P := P) w g t ty cs.toArray (0, 0) d h1 hu hd (by rw [hi]; simp [hn])
  simp [results, hr, hp', asAddr, r1]
/-- A list of pieces in a row at block g, the bytes in blocks below. -/
def Pcs (w : World) (g : Nat) (v : Value) (ls : List (List UInt8)) : Prop :=
  ∃ off c cs, v = .slice (some ⟨g, off, none⟩) ls.length c ∧ ls.length ≤ c ∧ Row w g cs 23 ∧ off + ls.length ≤ cs.length ∧ ∀ (i : Nat) (l : List UInt8), ls[i]? = some l → ∃ u, cs[off + i]? = some u ∧ Bs w g u l
theorem Pcs.lt {w : World} {g : Nat} {v : Value} {ls : List (List UInt8)} (h : Pcs w g v ls) : g < w.heap.size := by
  obtain ⟨_, _, _, _, _, h, _⟩ := h
  exact h.lt
theorem Pcs.below {w w' : World} {g B : Nat} {v : Value} {ls : List (List UInt8)} (h : Pcs w g v ls) (hb : Below B w w') (hg : g < B) : Pcs w' g v ls := by
  obtain ⟨off, c, cs, h1, h2, h3, h4, h5⟩ := h
  refine ⟨off, c, cs, h1, h2, h3.below hb hg, h4, fun i l hl => ?_⟩
  obtain ⟨u, h6, h7⟩ := h5 i l hl
  exact ⟨u, h6, h7.below (hb.mono (by omega))⟩
namespace Sha
theorem feed_take {pre piece : List UInt8} {j : Nat} {c : UInt8} (hc : piece[j]? = some c) (B : List Wd) : feed B 0 (pre ++ piece.take (j + 1)) = put (feed B 0 (pre ++ piece.take j)) (pre.length + j) c := by
  have hj : j < piece.length := (List.getElem?_eq_some_iff.1 hc).1
  have e : piece.take (j + 1) = piece.take j ++ [c] := by rw [List.take_add_one, hc]; rfl
  have hl : (piece.take j).length = j := by rw [List.length_take]; omega
  rw [e, ← List.append_assoc, feed_append, List.length_append, hl, Nat.zero_add]
  rfl
theorem flat_at_piece {ls : List (List UInt8)} {i : Nat} {l : List UInt8} (h : ls[i]? = some l) : ls.flatten = (ls.take i).flatten ++ (l ++ (ls.drop (i + 1)).flatten) := by
  have hi : i < ls.length := (List.getElem?_eq_some_iff.1 h).1
  have e : ls.drop i = l :: ls.drop (i + 1) := by rw [List.drop_eq_getElem_cons hi]; congr 1; exact Option.some.inj ((List.getElem?_eq_getElem hi).symm.trans h)
  rw [← List.flatten_cons, ← e, ← List.flatten_append, List.take_append_drop]
theorem take_flat {ls : List (List UInt8)} {i : Nat} {l : List UInt8} (h : ls[i]? = some l) : (ls.take (i + 1)).flatten = (ls.take i).flatten ++ l := by
  rw [List.take_add_one, h]
  simp
theorem cut_end {ls : List (List UInt8)} {i : Nat} {piece pre : List UInt8} {n j N : Nat} (hpi : ls[i]? = some piece) (hpre : (ls.take i).flatten = pre) (hnl : pre.length = n) (hN : N = n + j) (h64 : N + 1 = 64) (hj : j < piece.length) :
    words ls.flatten = feed zeros16 0 (pre ++ piece.take (j + 1)) ∧ (piece.drop (j + 1) :: ls.drop (i + 1)).flatten = ls.flatten.drop 64 := by
  have e : ls.flatten = (pre ++ piece.take (j + 1)) ++ (piece.drop (j + 1) ++ (ls.drop (i + 1)).flatten) := by
    rw [flat_at_piece hpi, hpre]
    have := List.take_append_drop (j + 1) piece
    rw [List.append_assoc, ← List.append_assoc (piece.take (j + 1)), this]
  have hl : (pre ++ piece.take (j + 1)).length = 64 := by rw [List.length_append, List.length_take]; omega
  refine ⟨by rw [e, words_app _ _ hl], ?_⟩
  rw [e, List.flatten_cons, List.drop_append_of_le_length (l₁ := pre ++ piece.take (j + 1)) (by omega), List.drop_of_length_le (l := pre ++ piece.take (j + 1)) (by omega)]
  rfl
end Sha

theorem keep_bs {w W : World} {g : Nat} {u : Value} {l : List UInt8} (h : Bs w g u l) (hk : Ev.Keep ⟨w, fun k => k = g⟩ W) (hg : g < w.heap.size) : Bs W g u l :=
  h.keep fun b o hb => World.cell?_of_block (a := ⟨b, o, none⟩) (hk.block b (by
    rintro (e | e)
    · have e' : w.heap.size ≤ b := e; omega
    · have e' : b = g := e; omega))
theorem cut_pcs {w W : World} {g off c i j : Nat} {ls : List (List UInt8)} {cs : List Value} {piece : List UInt8} {u : Value} (hi : ls[i]? = some piece) (hc : ls.length ≤ c) (hcs : off + ls.length ≤ cs.length) (hg : g < w.heap.size)
    (hpc : ∀ (i : Nat) (l : List UInt8), ls[i]? = some l → ∃ u, cs[off + i]? = some u ∧ Bs w g u l) (hk : Ev.Keep ⟨w, fun k => k = g⟩ W) (hrow : Row W g (cs.set (off + i) u) 23) (hu : Bs w g u (piece.drop (j + 1))) :
    Pcs W g (.slice (some ⟨g, off + i, none⟩) (ls.length - i) (c - i)) (piece.drop (j + 1) :: ls.drop (i + 1)) := by
  have hil : i < ls.length := (List.getElem?_eq_some_iff.1 hi).1
  have hl : (piece.drop (j + 1) :: ls.drop (i + 1)).length = ls.length - i := by rw [List.length_cons, List.length_drop]; omega
  refine ⟨off + i, c - i, _, by rw [hl], by rw [hl]; omega, hrow, by rw [hl, List.length_set]; omega, fun q l hq => ?_⟩
  cases q with
  | zero =>
    rw [List.getElem?_cons_zero] at hq
    injection hq with hq
    subst hq
    refine ⟨u, ?_, keep_bs hu hk hg⟩
    rw [Nat.add_zero, List.getElem?_set]
    simp
    omega
  | succ q =>
    rw [List.getElem?_cons_succ, List.getElem?_drop] at hq
    obtain ⟨u', h1, h2⟩ := hpc _ l hq
    refine ⟨u', ?_, keep_bs h2 hk hg⟩
    rw [List.getElem?_set, if_neg (by omega), show off + i + (q + 1) = off + (i + 1 + q) by omega]
    exact h1
theorem cut_keep {w wr : World} {g gb : Nat} (hb : Below w.heap.size w wr) (hgb : w.heap.size = gb) (a b : Addr) (ha : a.block = gb) (hbg : b.block = g) (u v : Value) (cs : Array Value) :
    Ev.Keep ⟨w, fun k => k = g⟩ (((wr.setCell a u).setCell b v).setRow gb cs) := by
  refine ⟨hb.os, hb.tape, hb.output, ?_, fun k hk => ?_⟩
  · show w.heap.size ≤ _
    rw [size_setRow]
    simpa [World.setCell] using hb.size
  · have h1 : k < w.heap.size := Nat.lt_of_not_le fun e => hk (.inl e)
    have h2 : k ≠ g := fun e => hk (.inr e)
    rw [setRow_other _ _ _ _ (by omega), Below.heap_setCell _ _ _ _ (by omega), Below.heap_setCell _ _ _ _ (by omega)]
    exact hb.block k h1

set_option maxRecDepth 8000 in
set_option maxHeartbeats 1000000 in
theorem Cut_any (g : Nat) (v : Value) (ls : List (List UInt8)) (w : World) (hp : Pcs w g v ls) (hl : 64 ≤ ls.flatten.length) (hn : ls.length ≤ 1000000) (hm : ∀ l ∈ ls, l.length ≤ 1000000000) :
    Calls Tryd.prog 45 #[v] w fun e w' => ∃ v' ls', e = .returned (.tuple #[arr32 (Sha.words ls.flatten), v']) ∧ Pcs w' g v' ls' ∧ ls'.flatten = ls.flatten.drop 64 ∧ ls'.length ≤ ls.length ∧ (∀ l ∈ ls', l.length ≤ 1000000000) ∧ Ev.Keep ⟨w, fun k => k = g⟩ w' := by
  have Hl := Lib.hid hl
  have Hm := Lib.hid hm
  obtain ⟨off, c, cs, rfl, hc, hrow, hcs, hpc⟩ := hp
  have Hc := Lib.hid hc
  have Hrow := Lib.hid hrow
  have Hcs := Lib.hid hcs
  have Hpc := Lib.hid hpc
  clear hl hm hc hrow hcs hpc
  go_enter Tryd.func45, Tryd.ntmps45
  go_wp2_with fail
  obtain ⟨W, hW⟩ : ∃ W, w.alloc (.cells ((List.replicate 16 0#32).map wv).toArray 68) = W := ⟨_, rfl⟩
  have hr2 : Row W w.heap.size ((List.replicate 16 0#32).map wv) 68 := hW ▸ Row.new rfl rfl
  have hb : Below w.heap.size w W := hW ▸ (Below.refl _ w).alloc (Nat.le_refl _) _
  refine code_world hW ?_
  have Hr2 := Lib.hid hr2
  have Hb := Lib.hid hb
  clear hW hr2 hb
  obtain ⟨gb, hgb⟩ : ∃ gb, w.heap.size = gb := ⟨_, rfl⟩
  have Hgb := Lib.hid hgb
  rw [hgb] at Hr2
  rw [hgb]
  clear hgb
  go_wp2
  go_step3
  go_wp2
  go_step3
  go_wp2
  go_loopw [11, 4] (fun iv nv wr => ∃ i n : Nat, i ≤ ls.length ∧ iv = .int .i64 (i : Int) ∧ nv = .int .i64 (n : Int) ∧ n < 64 ∧ (ls.take i).flatten.length = n ∧ Row wr gb ((Sha.feed Sha.zeros16 0 (ls.take i).flatten).map wv) 68 ∧ Below w.heap.size w wr) (fun iv _ _ => ls.length - (intOf iv).toNat)
  case atStart => exact ⟨0, 0, by omega, rfl, rfl, by omega, rfl, Hr2.out, Hb.out⟩
  case round =>
    obtain ⟨i, n, hi, rfl, rfl, hn64, hnl, hr, hb⟩ := hrel
    have Hr := Lib.hid hr
    have Hb := Lib.hid hb
    have Hnl := Lib.hid hnl
    clear hr hb hnl
    by_cases h1 : i < ls.length
    · have h1' : (i : Int) < (ls.length : Int) := by omega
      obtain ⟨u, hu, hbs⟩ := Hpc.out i _ (List.getElem?_eq_getElem h1)
      obtain ⟨piece, hpiece⟩ : ∃ piece, ls[i] = piece := ⟨_, rfl⟩
      have hpi : ls[i]? = some piece := by rw [← hpiece]; exact List.getElem?_eq_getElem h1
      rw [hpiece] at hbs
      have hcell := (Hrow.out.below Hb.out Hrow.out.lt).cell hu
      have Hbs := Lib.hid hbs
      obtain ⟨A, c2, rfl, hc2, hcs2⟩ := hbs
      have Hpi := Lib.hid hpi
      have Hc2 := Lib.hid hc2
      have Hcs2 := Lib.hid hcs2
      have Hu := Lib.hid hu
      clear hpi hc2 hcs2 hu hpiece
      go_wp2_with fail
      obtain ⟨pre, hpre⟩ : ∃ pre, (ls.take i).flatten = pre := ⟨_, rfl⟩
      rw [hpre] at Hr Hnl
      have Hpre := Lib.hid hpre
      clear hpre hcell
      go_loopw [18, 4] (fun jv nv wr => ∃ j N : Nat, j ≤ piece.length ∧ jv = .int .i64 (j : Int) ∧ nv = .int .i64 (N : Int) ∧ N = n + j ∧ N < 64 ∧ Row wr gb ((Sha.feed Sha.zeros16 0 (pre ++ piece.take j)).map wv) 68 ∧ Below w.heap.size w wr) (fun jv _ _ => piece.length - (intOf jv).toNat)
      case atStart => exact ⟨0, n, by omega, rfl, rfl, rfl, hn64, by rw [List.take_zero, List.append_nil]; exact Hr.out, Hb.out⟩
      case round =>
        obtain ⟨j, N, hj, rfl, rfl, hN, hN64, hr, hb⟩ := hrel
        have Hr := Lib.hid hr
        have Hb := Lib.hid hb
        have HN := Lib.hid hN
        have Hfl := Lib.hid (show (Sha.feed Sha.zeros16 0 (pre ++ piece.take j)).length = 16 by rw [Sha.feed_length]; rfl)
        clear hr hb hN
        by_cases h2 : j < piece.length
        · have h2' : (j : Int) < (piece.length : Int) := by omega
          obtain ⟨c0, hc0⟩ : ∃ c0, piece[j]? = some c0 := ⟨_, List.getElem?_eq_getElem h2⟩
          obtain ⟨pb, po, rfl, hpb, hcell0⟩ := Hcs2.out (by intro h; subst h; simp at h2)
          have hg0 := Hrow.out.lt
          have hcell : wr.cell? ⟨pb, po + j, none⟩ = some (.int .u8 (c0.toNat : Int)) := (Hb.out.cell (p := ⟨pb, po + j, none⟩) (by show pb < w.heap.size; omega)).trans (hcell0 j c0 hc0)
          obtain ⟨k, hk⟩ : ∃ k, N / 4 = k := ⟨_, rfl⟩
          have hk16 : k < 16 := by omega
          have hq : (N : Int) / 4 = (k : Int) := by omega
          have hwc := Hr.out.cell (hgetD_word (Sha.feed Sha.zeros16 0 (pre ++ piece.take j)) k (by rw [Hfl.out]; exact hk16))
          have hfr := frozen_row Hr.out k
          have hmod : (c0.toNat : Int) % 4294967296 = (c0.toNat : Int) := by have := c0.toNat_lt; omega
          have hwrap : IntKind.u32.wrap (c0.toNat : Int) = (c0.toNat : Int) := wrap_u32_lt _ (by have := c0.toNat_lt; omega)
          have Hcell0 := Lib.hid hcell0
          have Hc0 := Lib.hid hc0
          have Hk := Lib.hid hk
          clear hcell0 hc0 hk
          have hsetn : Sha.put (Sha.feed Sha.zeros16 0 (pre ++ piece.take j)) N c0 = (Sha.feed Sha.zeros16 0 (pre ++ piece.take j)).set k (Sha.at_ (Sha.feed Sha.zeros16 0 (pre ++ piece.take j)) k <<< 8 ||| wb c0) := by rw [Sha.put, Hk.out]
          have hft : Sha.feed Sha.zeros16 0 (pre ++ piece.take (j + 1)) = (Sha.feed Sha.zeros16 0 (pre ++ piece.take j)).set k (Sha.at_ (Sha.feed Sha.zeros16 0 (pre ++ piece.take j)) k <<< 8 ||| wb c0) := by rw [Sha.feed_take Hc0.out, Hnl.out, ← HN.out, hsetn]
          have hset := Hr.out.set k (wv (Sha.at_ (Sha.feed Sha.zeros16 0 (pre ++ piece.take j)) k <<< 8 ||| wb c0))
          rw [← List.map_set, ← hft] at hset
          have Hset := Lib.hid hset
          have hbw := Hb.out.setCell (p := ⟨gb, k, none⟩) (Nat.le_of_eq Hgb.out) (wv (Sha.at_ (Sha.feed Sha.zeros16 0 (pre ++ piece.take j)) k <<< 8 ||| wb c0))
          have Hbw := Lib.hid hbw
          obtain ⟨X, hX⟩ : ∃ X, Sha.at_ (Sha.feed Sha.zeros16 0 (pre ++ piece.take j)) k = X := ⟨_, rfl⟩
          rw [hX] at hwc Hset Hbw
          have hor : bits .or .u32 ((X.toNat : Int) * 256 % 4294967296) (c0.toNat : Int) = ((X <<< 8 ||| wb c0).toNat : Int) := by rw [w_shl8, w_byte, w_or]
          have hw1 : IntKind.i64.wrap ((j : Int) + 1) = (j : Int) + 1 := IntWalk.i64_in _ (by have := Hm.out _ (List.mem_of_getElem? Hpi.out); omega)
          clear hsetn hft hset hbw hX
          by_cases h64 : N + 1 = 64
          · have h64' : (N : Int) + 1 = 64 := by omega
            have hgne : gb ≠ g := by have := Hgb.out; omega
            have hci : ¬ c = i := by have := Hc.out; omega
            have hic : i ≤ c := by have := Hc.out; omega
            have hcg : wr.cell? ⟨g, off + i, none⟩ = some (.slice (some ⟨pb, po, none⟩) piece.length c2) := (Hb.out.cell (p := ⟨g, off + i, none⟩) hg0).trans (Hrow.out.cell Hu.out)
            have hfg : wr.frozen? ⟨g, off + i, none⟩ = false := frozen_row (Hrow.out.below Hb.out hg0) (off + i)
            have hj1 : j + 1 ≤ piece.length := h2
            have hjc : j + 1 ≤ c2 := by have := Hc2.out; omega
            by_cases hcap : c2 = j + 1
            · have hlen : piece.length = j + 1 := by have := Hc2.out; omega
              obtain ⟨hwords, hflat⟩ := Sha.cut_end Hpi.out Hpre.out Hnl.out HN.out h64 h2
              obtain ⟨Bl, hBl⟩ : ∃ Bl, Sha.feed Sha.zeros16 0 (pre ++ piece.take (j + 1)) = Bl := ⟨_, rfl⟩
              rw [hBl] at Hset hwords
              have Hml := Lib.hid (show (Bl.map wv).length = 16 by rw [List.length_map, ← hBl, Sha.feed_length]; rfl)
              have Hwords := Lib.hid hwords
              have Hflat := Lib.hid hflat
              clear hBl hwords hflat
              go_wp2_with (first
                | (show wpList _ _ _ (⟨some 49, _, _, _, _, _⟩ :: _) _ _; refine wpList_loadRow (g := gb) rfl 68 (.tmp 2) rfl rfl (Hset.out.other ⟨g, off + i, none⟩ _ hgne) Tryd.underlying68 rfl (by kernel_rfl) Hml.out ?_)
                | (show wpList _ _ _ (⟨none, Op.store 68 _ _, _, _, _, _⟩ :: _) _ _; refine wpList_storeRow (g := gb) (cs := Bl.map wv) rfl 68 (.tmp 2) (.tmp 49) rfl rfl rfl (Hset.out.other ⟨g, off + i, none⟩ _ hgne) (by kernel_rfl) Hml.out Hml.out (hwords_one Bl) ?_)
                | fail)
              rw [Exit.noGoto_ret]
              have hcut := Hbs.out.cut (k := j + 1) hj1
              rw [if_pos hcap, show piece.length - (j + 1) = 0 by omega, show c2 - (j + 1) = 0 by omega] at hcut
              have hk9 := cut_keep Hb.out Hgb.out ⟨gb, k, none⟩ ⟨g, off + i, none⟩ rfl rfl (wv (X <<< 8 ||| wb c0)) (.slice (some ⟨pb, po, none⟩) 0 0) (Bl.map wv).toArray
              have hr9 := ((Hrow.out.below Hb.out hg0).other ⟨gb, k, none⟩ (wv (X <<< 8 ||| wb c0)) (Ne.symm hgne)).set (off + i) (.slice (some ⟨pb, po, none⟩) 0 0)
              refine bodyPost_ret (results_row_tmp rfl _ rfl ((Hset.out.other ⟨g, off + i, none⟩ _ hgne).setRow (Bl.map wv)) Tryd.underlying68 rfl (by kernel_rfl) Hml.out) rfl ?_
              refine ⟨_, piece.drop (j + 1) :: ls.drop (i + 1), by rw [Hwords.out]; rfl, cut_pcs Hpi.out Hc.out Hcs.out hg0 Hpc.out hk9 (hr9.setOther gb _ (Ne.symm hgne)) hcut, Hflat.out, by rw [List.length_cons, List.length_drop]; omega, ?_, hk9⟩
              intro l hl
              rcases List.mem_cons.1 hl with rfl | hl
              · rw [List.length_drop]
                have := Hm.out _ (List.mem_of_getElem? Hpi.out)
                omega
              · exact Hm.out l (List.mem_of_mem_drop hl)
            · obtain ⟨hwords, hflat⟩ := Sha.cut_end Hpi.out Hpre.out Hnl.out HN.out h64 h2
              obtain ⟨Bl, hBl⟩ : ∃ Bl, Sha.feed Sha.zeros16 0 (pre ++ piece.take (j + 1)) = Bl := ⟨_, rfl⟩
              rw [hBl] at Hset hwords
              have Hml := Lib.hid (show (Bl.map wv).length = 16 by rw [List.length_map, ← hBl, Sha.feed_length]; rfl)
              have Hwords := Lib.hid hwords
              have Hflat := Lib.hid hflat
              clear hBl hwords hflat
              go_wp2_with (first
                | (show wpList _ _ _ (⟨some 49, _, _, _, _, _⟩ :: _) _ _; refine wpList_loadRow (g := gb) rfl 68 (.tmp 2) rfl rfl (Hset.out.other ⟨g, off + i, none⟩ _ hgne) Tryd.underlying68 rfl (by kernel_rfl) Hml.out ?_)
                | (show wpList _ _ _ (⟨none, Op.store 68 _ _, _, _, _, _⟩ :: _) _ _; refine wpList_storeRow (g := gb) (cs := Bl.map wv) rfl 68 (.tmp 2) (.tmp 49) rfl rfl rfl (Hset.out.other ⟨g, off + i, none⟩ _ hgne) (by kernel_rfl) Hml.out Hml.out (hwords_one Bl) ?_)
                | fail)
              rw [Exit.noGoto_ret]
              have hcut := Hbs.out.cut (k := j + 1) hj1
              rw [if_neg hcap, Option.map_some, show (⟨pb, po, none⟩ : Addr).add (j + 1) = ⟨pb, po + (j + 1), none⟩ by unfold Addr.add; split <;> simp_all] at hcut
              have hk9 := cut_keep Hb.out Hgb.out ⟨gb, k, none⟩ ⟨g, off + i, none⟩ rfl rfl (wv (X <<< 8 ||| wb c0)) (.slice (some ⟨pb, po + (j + 1), none⟩) (piece.length - (j + 1)) (c2 - (j + 1))) (Bl.map wv).toArray
              have hr9 := ((Hrow.out.below Hb.out hg0).other ⟨gb, k, none⟩ (wv (X <<< 8 ||| wb c0)) (Ne.symm hgne)).set (off + i) (.slice (some ⟨pb, po + (j + 1), none⟩) (piece.length - (j + 1)) (c2 - (j + 1)))
              refine bodyPost_ret (results_row_tmp rfl _ rfl ((Hset.out.other ⟨g, off + i, none⟩ _ hgne).setRow (Bl.map wv)) Tryd.underlying68 rfl (by kernel_rfl) Hml.out) rfl ?_
              refine ⟨_, piece.drop (j + 1) :: ls.drop (i + 1), by rw [Hwords.out]; rfl, cut_pcs Hpi.out Hc.out Hcs.out hg0 Hpc.out hk9 (hr9.setOther gb _ (Ne.symm hgne)) hcut, Hflat.out, by rw [List.length_cons, List.length_drop]; omega, ?_, hk9⟩
              intro l hl
              rcases List.mem_cons.1 hl with rfl | hl
              · rw [List.length_drop]
                have := Hm.out _ (List.mem_of_getElem? Hpi.out)
                omega
              · exact Hm.out l (List.mem_of_mem_drop hl)
          · have h64' : ¬ (N : Int) + 1 = 64 := by omega
            go_wp2
            go_roundw
            case rel => exact ⟨j + 1, N + 1, h2, by simp, by simp, by have := HN.out; omega, by omega, Hset.out, Hbw.out⟩
            case measure => simp [intOf]; omega
        · have h2' : ¬ (j : Int) < (piece.length : Int) := by omega
          have : j = piece.length := by omega
          subst this
          go_wp2
          go_roundw
          case rel =>
            refine ⟨i + 1, N, by omega, by simp, rfl, hN64, ?_, ?_, Hb.out⟩
            · rw [Sha.take_flat Hpi.out, Hpre.out, List.length_append, Hnl.out, HN.out]
            · rw [Sha.take_flat Hpi.out, Hpre.out]
              have := Hr.out
              rw [List.take_length] at this
              exact this
          case measure => simp [intOf]; omega
    · exfalso
      have : i = ls.length := by omega
      subst this
      have := Hnl.out
      rw [List.take_length] at this
      have := Hl.out
      omega
end Go.Proofs.YtmfpjdbgdmmjkaaDoor
namespace Go.Proofs.YtmfpjdbgdmmjkaaDoor
open Go.RowKit
namespace Sha
def padRow (n : Nat) : Nat → List UInt8
  | 0 => 0x80 :: (List.replicate (zerosOf n) 0 ++ [0, 0, 0, 0, 0, 0, 0, 0])
  | i + 1 => (padRow n i).set (zerosOf n + 8 - i) (lenByte n i)
theorem padRow_length (n i : Nat) : (padRow n i).length = zerosOf n + 9 := by
  induction i with
  | zero => simp [padRow]
  | succ i ih => rw [padRow, List.length_set, ih]
theorem set_in (z k : Nat) (a x : UInt8) (t : List UInt8) : (a :: (List.replicate z 0 ++ t)).set (z + 1 + k) x = a :: (List.replicate z 0 ++ t.set k x) := by
  rw [show z + 1 + k = (z + k) + 1 by omega, List.set_cons_succ, List.set_append_right _ _ (by simp)]
  simp
theorem padRow_all (n : Nat) : padRow n 8 = pad n := by
  obtain ⟨z, hz⟩ : ∃ z, zerosOf n = z := ⟨_, rfl⟩
  simp only [padRow, pad, hz]
  rw [show z + 8 - 0 = z + 1 + 7 by omega, set_in, show z + 8 - 1 = z + 1 + 6 by omega, set_in, show z + 8 - 2 = z + 1 + 5 by omega, set_in, show z + 8 - 3 = z + 1 + 4 by omega, set_in,
    show z + 8 - 4 = z + 1 + 3 by omega, set_in, show z + 8 - 5 = z + 1 + 2 by omega, set_in, show z + 8 - 6 = z + 1 + 1 by omega, set_in, show z + 8 - 7 = z + 1 + 0 by omega, set_in]
  rfl
theorem lenByte_is (n i : Nat) : bv (lenByte n i) = .int .u8 ((n * 8 / 2 ^ (8 * i) % 256 : Nat) : Int) := by
  unfold bv lenByte
  rw [UInt8.toNat_ofNat']
  congr 2
  omega
end Sha

set_option maxRecDepth 8000 in
set_option maxHeartbeats 1000000 in
theorem Pad_any (n : Nat) (hn : n ≤ 1125899906842624) (w : World) : Calls Tryd.prog 73 #[.int .i64 (n : Int)] w fun e w' => e = .returned (.slice (some ⟨w.heap.size, 0, none⟩) (Sha.zerosOf n + 9) (Sha.zerosOf n + 9)) ∧ Row w' w.heap.size ((Sha.pad n).map bv) 5 ∧ Below w.heap.size w w' := by
  obtain ⟨z, hz⟩ : ∃ z, Sha.zerosOf n = z := ⟨_, rfl⟩
  have hz64 : z < 64 := by rw [← hz]; exact (Sha.zerosOf_is n).2
  have hzi : (119 - (n : Int) % 64) % 64 = (z : Int) := by rw [← hz, Sha.zerosOf]; omega
  have Hz := Lib.hid hz
  obtain ⟨L, hL⟩ : ∃ L, z + 9 = L := ⟨_, rfl⟩
  have hLi : 1 + (z : Int) + 8 = (L : Int) := by omega
  have HL := Lib.hid hL
  have hzero : (List.replicate L (0 : UInt8)).map bv = ((0 : UInt8) :: (List.replicate z 0 ++ [0, 0, 0, 0, 0, 0, 0, 0])).map bv := by
    rw [← hL, List.replicate_succ, show [(0 : UInt8), 0, 0, 0, 0, 0, 0, 0] = List.replicate 8 0 from rfl, List.replicate_append_replicate]
  have Hzero := Lib.hid hzero
  rw [hz]
  clear hz hL hzero
  go_enter Tryd.func73, Tryd.ntmps73
  go_wp2_with (first
    | (at_make; refine wpList_make_bytes _ rfl _ _ rfl L rfl rfl (by omega) ?_; intro w1 hrow1 hg1
       have hb1 := Lib.hid ((Below.refl w.heap.size w).grown hg1 (Nat.le_refl _) (fun k hk => by cases hk))
       have Hrow1 := Lib.hid (hrow1.same Hzero.out.symm)
       have hL0 : (0 : Int) < (L : Int) := by omega
       have hc0 : w1.cell? ⟨w.heap.size, 0, none⟩ = some (bv 0) := Hrow1.out.cell rfl
       have hf0 := frozen_row Hrow1.out 0
       clear hrow1 hg1)
    | fail)
  have hr2 : Row (w1.setCell ⟨w.heap.size, 0, none⟩ (.int .u8 128)) w.heap.size ((Sha.padRow n 0).map bv) 5 := by
    have := Hrow1.out.set 0 (.int .u8 128)
    rw [Sha.padRow, Hz.out]
    exact this
  have hb2 := hb1.out.setCell (p := ⟨w.heap.size, 0, none⟩) (Nat.le_refl _) (.int .u8 128)
  obtain ⟨V, hV⟩ : ∃ V, w1.setCell ⟨w.heap.size, 0, none⟩ (.int .u8 128) = V := ⟨_, rfl⟩
  rw [hV] at hr2 hb2
  refine code_world hV ?_
  have Hr2 := Lib.hid hr2
  have Hb2 := Lib.hid hb2
  clear hV hr2 hb2 hc0 hf0 hL0 hLi
  go_loopw [22] (fun iv wr => ∃ i : Nat, i ≤ 8 ∧ iv = .int .i64 (i : Int) ∧ Row wr w.heap.size ((Sha.padRow n i).map bv) 5 ∧ Below w.heap.size w wr) (fun iv _ => 8 - (intOf iv).toNat)
  case atStart => exact ⟨0, by omega, rfl, Hr2.out, Hb2.out⟩
  case round =>
    obtain ⟨i, hi, rfl, hr, hb⟩ := hrel
    have Hr := Lib.hid hr
    have Hb := Lib.hid hb
    have Hl := Lib.hid (show (Sha.padRow n i).length = L by rw [Sha.padRow_length, Hz.out, HL.out])
    clear hr hb
    by_cases h8 : i < 8
    · have h8' : (i : Int) < 8 := by omega
      have hcell : ∀ k, k < 8 → (∃ v, wr.cell? ⟨w.heap.size, L - 1 - k, none⟩ = some v) ∧ wr.frozen? ⟨w.heap.size, L - 1 - k, none⟩ = false := fun k hk => ⟨⟨_, Hr.out.cell (hgetD_cell _ (L - 1 - k) (by rw [Hl.out]; have := HL.out; omega))⟩, frozen_row Hr.out _⟩
      have hset : ∀ k, i = k → Row (wr.setCell ⟨w.heap.size, L - 1 - k, none⟩ (.int .u8 ((n * 8 / 2 ^ (8 * k) % 256 : Nat) : Int))) w.heap.size ((Sha.padRow n (i + 1)).map bv) 5 := by
        intro k hk
        subst hk
        have := Hr.out.set (L - 1 - i) (bv (Sha.lenByte n i))
        rw [← List.map_set, Sha.lenByte_is] at this
        rw [Sha.padRow, Hz.out, show z + 8 - i = L - 1 - i by have := HL.out; omega]
        exact this
      have Hcell := Lib.hid hcell
      have Hset := Lib.hid hset
      clear hcell hset
      have hz64 := hz64
      obtain rfl | rfl | rfl | rfl | rfl | rfl | rfl | rfl : i = 0 ∨ i = 1 ∨ i = 2 ∨ i = 3 ∨ i = 4 ∨ i = 5 ∨ i = 6 ∨ i = 7 := by omega
      · have hset := Hset.out 0 rfl
        have hL1 : (L : Int) - 1 = ((L - 1 - 0 : Nat) : Int) := by have := HL.out; omega
        have hcl := Hcell.out 0 (by omega)
        obtain ⟨q, hq⟩ : ∃ q, L - 1 - 0 = q := ⟨_, rfl⟩
        rw [hq] at hset hL1 hcl
        have hwq : IntKind.i64.wrap (q : Int) = (q : Int) := IntWalk.i64_in _ (by have := HL.out; omega)
        have hql : (q : Int) < (L : Int) := by have := HL.out; omega
        have Hset := Lib.hid hset
        obtain ⟨⟨v, hcv⟩, hfr⟩ := hcl
        have Hne := Lib.hid hq
        clear hset hq
        go_wp2
        have e1 : (n : Int) * 8 % 256 = ((n * 8 / 2 ^ (8 * 0) % 256 : Nat) : Int) := by
          rw [show 2 ^ (8 * 0) = 1 from rfl]
          omega
        rw [e1]
        go_roundw
        case rel => exact ⟨0 + 1, by omega, rfl, Hset.out, Hb.out.setCell (by dsimp only; omega) _⟩
        case measure => simp [intOf]
      · have hset := Hset.out 1 rfl
        have hw1 : IntKind.i64.wrap ((L : Int) - 1) = (L : Int) - 1 := IntWalk.i64_in _ (by have := HL.out; omega)
        have hL1 : IntKind.i64.wrap ((L : Int) - 1 - 1) = ((L - 1 - 1 : Nat) : Int) := (IntWalk.i64_in _ (by have := HL.out; omega)).trans (by have := HL.out; omega)
        have hcl := Hcell.out 1 (by omega)
        obtain ⟨q, hq⟩ : ∃ q, L - 1 - 1 = q := ⟨_, rfl⟩
        rw [hq] at hset hL1 hcl
        have hql : (q : Int) < (L : Int) := by have := HL.out; omega
        have Hset := Lib.hid hset
        obtain ⟨⟨v, hcv⟩, hfr⟩ := hcl
        have Hne := Lib.hid hq
        clear hset hq
        go_wp2
        have e1 : (n : Int) * 8 / 256 % 256 = ((n * 8 / 2 ^ (8 * 1) % 256 : Nat) : Int) := by
          rw [show 2 ^ (8 * 1) = 256 from rfl]
          omega
        rw [e1]
        go_roundw
        case rel => exact ⟨1 + 1, by omega, rfl, Hset.out, Hb.out.setCell (by dsimp only; omega) _⟩
        case measure => simp [intOf]
      · have hset := Hset.out 2 rfl
        have hw1 : IntKind.i64.wrap ((L : Int) - 1) = (L : Int) - 1 := IntWalk.i64_in _ (by have := HL.out; omega)
        have hL1 : IntKind.i64.wrap ((L : Int) - 1 - 2) = ((L - 1 - 2 : Nat) : Int) := (IntWalk.i64_in _ (by have := HL.out; omega)).trans (by have := HL.out; omega)
        have hcl := Hcell.out 2 (by omega)
        obtain ⟨q, hq⟩ : ∃ q, L - 1 - 2 = q := ⟨_, rfl⟩
        rw [hq] at hset hL1 hcl
        have hql : (q : Int) < (L : Int) := by have := HL.out; omega
        have Hset := Lib.hid hset
        obtain ⟨⟨v, hcv⟩, hfr⟩ := hcl
        have Hne := Lib.hid hq
        clear hset hq
        go_wp2
        have e1 : (n : Int) * 8 / 65536 % 256 = ((n * 8 / 2 ^ (8 * 2) % 256 : Nat) : Int) := by
          rw [show 2 ^ (8 * 2) = 65536 from rfl]
          omega
        rw [e1]
        go_roundw
        case rel => exact ⟨2 + 1, by omega, rfl, Hset.out, Hb.out.setCell (by dsimp only; omega) _⟩
        case measure => simp [intOf]
      · have hset := Hset.out 3 rfl
        have hw1 : IntKind.i64.wrap ((L : Int) - 1) = (L : Int) - 1 := IntWalk.i64_in _ (by have := HL.out; omega)
        have hL1 : IntKind.i64.wrap ((L : Int) - 1 - 3) = ((L - 1 - 3 : Nat) : Int) := (IntWalk.i64_in _ (by have := HL.out; omega)).trans (by have := HL.out; omega)
        have hcl := Hcell.out 3 (by omega)
        obtain ⟨q, hq⟩ : ∃ q, L - 1 - 3 = q := ⟨_, rfl⟩
        rw [hq] at hset hL1 hcl
        have hql : (q : Int) < (L : Int) := by have := HL.out; omega
        have Hset := Lib.hid hset
        obtain ⟨⟨v, hcv⟩, hfr⟩ := hcl
        have Hne := Lib.hid hq
        clear hset hq
        go_wp2
        have e1 : (n : Int) * 8 / 16777216 % 256 = ((n * 8 / 2 ^ (8 * 3) % 256 : Nat) : Int) := by
          rw [show 2 ^ (8 * 3) = 16777216 from rfl]
          omega
        rw [e1]
        go_roundw
        case rel => exact ⟨3 + 1, by omega, rfl, Hset.out, Hb.out.setCell (by dsimp only; omega) _⟩
        case measure => simp [intOf]
      · have hset := Hset.out 4 rfl
        have hw1 : IntKind.i64.wrap ((L : Int) - 1) = (L : Int) - 1 := IntWalk.i64_in _ (by have := HL.out; omega)
        have hL1 : IntKind.i64.wrap ((L : Int) - 1 - 4) = ((L - 1 - 4 : Nat) : Int) := (IntWalk.i64_in _ (by have := HL.out; omega)).trans (by have := HL.out; omega)
        have hcl := Hcell.out 4 (by omega)
        obtain ⟨q, hq⟩ : ∃ q, L - 1 - 4 = q := ⟨_, rfl⟩
        rw [hq] at hset hL1 hcl
        have hql : (q : Int) < (L : Int) := by have := HL.out; omega
        have Hset := Lib.hid hset
        obtain ⟨⟨v, hcv⟩, hfr⟩ := hcl
        have Hne := Lib.hid hq
        clear hset hq
        go_wp2
        have e1 : (n : Int) * 8 / 4294967296 % 256 = ((n * 8 / 2 ^ (8 * 4) % 256 : Nat) : Int) := by
          rw [show 2 ^ (8 * 4) = 4294967296 from rfl]
          omega
        rw [e1]
        go_roundw
        case rel => exact ⟨4 + 1, by omega, rfl, Hset.out, Hb.out.setCell (by dsimp only; omega) _⟩
        case measure => simp [intOf]
      · have hset := Hset.out 5 rfl
        have hw1 : IntKind.i64.wrap ((L : Int) - 1) = (L : Int) - 1 := IntWalk.i64_in _ (by have := HL.out; omega)
        have hL1 : IntKind.i64.wrap ((L : Int) - 1 - 5) = ((L - 1 - 5 : Nat) : Int) := (IntWalk.i64_in _ (by have := HL.out; omega)).trans (by have := HL.out; omega)
        have hcl := Hcell.out 5 (by omega)
        obtain ⟨q, hq⟩ : ∃ q, L - 1 - 5 = q := ⟨_, rfl⟩
        rw [hq] at hset hL1 hcl
        have hql : (q : Int) < (L : Int) := by have := HL.out; omega
        have Hset := Lib.hid hset
        obtain ⟨⟨v, hcv⟩, hfr⟩ := hcl
        have Hne := Lib.hid hq
        clear hset hq
        go_wp2
        have e1 : (n : Int) * 8 / 1099511627776 % 256 = ((n * 8 / 2 ^ (8 * 5) % 256 : Nat) : Int) := by
          rw [show 2 ^ (8 * 5) = 1099511627776 from rfl]
          omega
        rw [e1]
        go_roundw
        case rel => exact ⟨5 + 1, by omega, rfl, Hset.out, Hb.out.setCell (by dsimp only; omega) _⟩
        case measure => simp [intOf]
      · have hset := Hset.out 6 rfl
        have hw1 : IntKind.i64.wrap ((L : Int) - 1) = (L : Int) - 1 := IntWalk.i64_in _ (by have := HL.out; omega)
        have hL1 : IntKind.i64.wrap ((L : Int) - 1 - 6) = ((L - 1 - 6 : Nat) : Int) := (IntWalk.i64_in _ (by have := HL.out; omega)).trans (by have := HL.out; omega)
        have hcl := Hcell.out 6 (by omega)
        obtain ⟨q, hq⟩ : ∃ q, L - 1 - 6 = q := ⟨_, rfl⟩
        rw [hq] at hset hL1 hcl
        have hql : (q : Int) < (L : Int) := by have := HL.out; omega
        have Hset := Lib.hid hset
        obtain ⟨⟨v, hcv⟩, hfr⟩ := hcl
        have Hne := Lib.hid hq
        clear hset hq
        go_wp2
        have e1 : (n : Int) * 8 / 281474976710656 = ((n * 8 / 2 ^ (8 * 6) % 256 : Nat) : Int) := by
          rw [show 2 ^ (8 * 6) = 281474976710656 from rfl]
          omega
        rw [e1]
        go_roundw
        case rel => exact ⟨6 + 1, by omega, rfl, Hset.out, Hb.out.setCell (by dsimp only; omega) _⟩
        case measure => simp [intOf]
      · have hset := Hset.out 7 rfl
        have hw1 : IntKind.i64.wrap ((L : Int) - 1) = (L : Int) - 1 := IntWalk.i64_in _ (by have := HL.out; omega)
        have hL1 : IntKind.i64.wrap ((L : Int) - 1 - 7) = ((L - 1 - 7 : Nat) : Int) := (IntWalk.i64_in _ (by have := HL.out; omega)).trans (by have := HL.out; omega)
        have hcl := Hcell.out 7 (by omega)
        obtain ⟨q, hq⟩ : ∃ q, L - 1 - 7 = q := ⟨_, rfl⟩
        rw [hq] at hset hL1 hcl
        have hql : (q : Int) < (L : Int) := by have := HL.out; omega
        have Hset := Lib.hid hset
        obtain ⟨⟨v, hcv⟩, hfr⟩ := hcl
        have Hne := Lib.hid hq
        clear hset hq
        go_wp2
        have e1 : (n : Int) * 8 / 72057594037927936 = ((n * 8 / 2 ^ (8 * 7) % 256 : Nat) : Int) := by
          rw [show 2 ^ (8 * 7) = 72057594037927936 from rfl]
          omega
        rw [e1]
        go_roundw
        case rel => exact ⟨7 + 1, by omega, rfl, Hset.out, Hb.out.setCell (by dsimp only; omega) _⟩
        case measure => simp [intOf]
    · have h8' : ¬ (i : Int) < 8 := by omega
      have : i = 8 := by omega
      subst this
      have hr := Hr.out
      rw [Sha.padRow_all] at hr
      have Hr := Lib.hid hr
      clear hr
      go_wp2
      go_ret
      exact ⟨by rw [HL.out]; rfl, Hr.out, Hb.out⟩
end Go.Proofs.YtmfpjdbgdmmjkaaDoor
namespace Go.Proofs.YtmfpjdbgdmmjkaaDoor
open Go.ChangeShapes Go.WideShapes Go.RowKit Go.Deep

section
variable {H : Type} {enc : TypeId × Value → H}

theorem add_none (b off i : Nat) : (⟨b, off, none⟩ : Addr).add i = ⟨b, off + i, none⟩ := by unfold Addr.add; split <;> simp_all
theorem spot_none {w : World} {a : Addr} {v : Value} (h : w.cell? (a.add 0) = some v) : a.spot = none := by simpa [Addr.add] using World.cell?_spot h
theorem add_assoc (a : Addr) (i j : Nat) : (a.add i).add j = a.add (i + j) := by
  unfold Addr.add
  by_cases hi : i = 0 <;> by_cases hj : j = 0 <;> simp [hi, hj, Nat.add_assoc]

set_option maxRecDepth 100000 in
/-- Bytes, out of a reading. -/
theorem bytes_trod {W : World} {sp : Nat → Bool} {fuel : Nat} {v : Value} {x : DataW H × List MemPlace} {t : TypeId} (ht : Tryd.prog.underlying t = some (.slice 5)) (h : DataW.trod enc Tryd.prog W 0 sp true fuel t [v] = some x)
    (hlt : ∀ y ∈ x.2, y.block < W.heap.size) : ∃ l : List UInt8, Bs W W.heap.size v l ∧ l.length ≤ maxLen := by
  have hcell1 : Tryd.prog.cellsOf 5 = 1 := by kernel_rfl
  rcases open_ints ht Tryd.underlying5 hcell1 h with ⟨hcs, hx⟩ | ⟨a, len, cap, zs, hcs, _, hl, hm, hz, hx, hcell, hwz⟩
  · simp only [List.cons.injEq, and_true] at hcs
    subst hcs
    exact ⟨[], Bs.nil _ _ _ _, by simp⟩
  · simp only [List.cons.injEq, and_true] at hcs
    subst hcs
    subst hx
    have hle : len ≤ zs.length := by rw [hz]; split <;> omega
    refine ⟨(zs.take len).map fun z => UInt8.ofNat z.toNat, ⟨some a, cap, by simp [Nat.min_eq_left hle], by simp; omega, fun hne => ?_⟩, by simp; omega⟩
    have hn0 : 0 < len := by
      rcases Nat.eq_zero_or_pos len with rfl | h
      · simp at hne
      · exact h
    obtain ⟨b, off, spot⟩ := a
    have hspot : spot = none := spot_none (hcell 0 (by omega))
    subst hspot
    refine ⟨b, off, rfl, hlt (.cell b off) (MemPlace.mem_row.2 ⟨0, by omega, by simp⟩), fun i u hu => ?_⟩
    rw [List.getElem?_map, Option.map_eq_some_iff] at hu
    obtain ⟨z, hz1, rfl⟩ := hu
    rw [List.getElem?_take] at hz1
    split at hz1
    · have hi : i < zs.length := by omega
      have hg : zs.getD i 0 = z := by rw [List.getD_eq_getElem?_getD, hz1]; rfl
      have hc := hcell i hi
      rw [hg] at hc
      have hwf := hwz z (List.mem_of_getElem? hz1)
      simp only [Lit.wf, Bool.and_eq_true, decide_eq_true_eq, show IntKind.u8.min = 0 from rfl, show IntKind.u8.max = 255 from rfl] at hwf
      rw [add_none] at hc
      rw [hc]
      unfold bv
      congr 2
      simp [UInt8.toNat_ofNat']
      omega
    · cases hz1

/-- A list of lists of bytes, in blocks below B. -/
def Bss (w : World) (B : Nat) (v : Value) (ls : List (List UInt8)) : Prop :=
  ∃ A c, v = .slice A ls.length c ∧ ls.length ≤ c ∧ (ls ≠ [] → ∃ b off, A = some ⟨b, off, none⟩ ∧ b < B ∧ ∀ (i : Nat) (l : List UInt8), ls[i]? = some l → ∃ u, w.cell? ⟨b, off + i, none⟩ = some u ∧ Bs w B u l)
theorem Bss.below {w w' : World} {B : Nat} {v : Value} {ls : List (List UInt8)} (h : Bss w B v ls) (hb : Below B w w') : Bss w' B v ls := by
  obtain ⟨A, c, h1, h2, h3⟩ := h
  refine ⟨A, c, h1, h2, fun hne => ?_⟩
  obtain ⟨b, off, e, hlt, h4⟩ := h3 hne
  refine ⟨b, off, e, hlt, fun i l hl => ?_⟩
  obtain ⟨u, h5, h6⟩ := h4 i l hl
  exact ⟨u, (hb.cell (p := ⟨b, off + i, none⟩) hlt).trans h5, h6.below hb⟩

set_option maxRecDepth 100000 in
theorem lists_trod {W : World} {t : TypeId} {base : Nat} {sp : Nat → Bool} {v : Value} {d : DataW H} {ps : List MemPlace} (ht : Tryd.prog.underlying t = some (.slice 23)) (hok : Value.okWide Tryd.prog W .any base t v)
    (h : DataW.Trod enc Tryd.prog W 0 sp true t v d ps) (hlt : ∀ x ∈ ps, x.block < W.heap.size) : ∃ ls : List (List UInt8), Bss W W.heap.size v ls ∧ ls.length ≤ maxLen := by
  obtain ⟨A, n, c, rfl⟩ := okWide_slice ht hok
  obtain ⟨fuel, hf⟩ := h
  have hcell1 : Tryd.prog.cellsOf 23 = 1 := by kernel_rfl
  rcases open_slice1 ht hcell1 hf with ⟨hcs, hx⟩ | ⟨a, len, cap, m, k, V, D, Pl, hcs, _, hl, hm, hmm, hx, hi⟩
  · simp only [Value.cells, List.cons.injEq, Value.slice.injEq, and_true] at hcs
    obtain ⟨rfl, rfl, rfl⟩ := hcs
    exact ⟨[], ⟨none, 0, rfl, Nat.le_refl _, fun h => absurd rfl h⟩, by simp⟩
  · simp only [Value.cells, List.cons.injEq, Value.slice.injEq, and_true] at hcs
    obtain ⟨rfl, rfl, rfl⟩ := hcs
    simp only [Prod.mk.injEq] at hx
    obtain ⟨rfl, rfl⟩ := hx
    have hle : n ≤ m := by rw [hmm]; split <;> omega
    have hin : ∀ i, i < n → ∃ l : List UInt8, Bs W W.heap.size (V i) l := by
      intro i hin
      obtain ⟨_, h2⟩ := hi i (by omega)
      obtain ⟨l, h3, _⟩ := bytes_trod Tryd.underlying23 h2 (fun y hy => hlt y (List.mem_append_right _ (List.mem_flatMap.2 ⟨i, List.mem_range.2 (by omega), hy⟩)))
      exact ⟨l, h3⟩
    have hex : ∀ k, k ≤ n → ∃ ls : List (List UInt8), ls.length = k ∧ ∀ (i : Nat) (l : List UInt8), ls[i]? = some l → Bs W W.heap.size (V i) l := by
      intro k
      induction k with
      | zero => exact fun _ => ⟨[], rfl, fun i l h => by simp at h⟩
      | succ k ih =>
        intro hk
        obtain ⟨ls, h1, h2⟩ := ih (by omega)
        obtain ⟨l, h3⟩ := hin k (by omega)
        refine ⟨ls ++ [l], by simp [h1], fun i l' hl' => ?_⟩
        rw [List.getElem?_append] at hl'
        split at hl'
        · exact h2 i l' hl'
        · rename_i hge
          rw [h1] at hl' hge
          cases hik : i - k with
          | zero =>
            rw [hik] at hl'
            simp at hl'
            subst hl'
            have : i = k := by omega
            subst this
            exact h3
          | succ q => rw [hik] at hl'; simp at hl'
    obtain ⟨ls, h1, h2⟩ := hex n (Nat.le_refl _)
    refine ⟨ls, ⟨some a, c, by rw [h1], by omega, fun hne => ?_⟩, by omega⟩
    have hn0 : 0 < n := by
      rcases Nat.eq_zero_or_pos n with rfl | h
      · exact absurd (List.eq_nil_of_length_eq_zero h1) hne
      · exact h
    obtain ⟨b, off, spot⟩ := a
    have hspot : spot = none := spot_none (hi 0 (by omega)).1
    subst hspot
    refine ⟨b, off, rfl, hlt (.cell b off) (List.mem_append_left _ (MemPlace.mem_row.2 ⟨0, by omega, by simp⟩)), fun i l hl' => ?_⟩
    have hin' : i < n := by rw [← h1]; exact (List.getElem?_eq_some_iff.1 hl').1
    have := (hi i (by omega)).1
    rw [add_none] at this
    exact ⟨V i, this, h2 i l hl'⟩

/-- A list of numbers without a sign, in a block below B. -/
def Ws (w : World) (B : Nat) (v : Value) (xs : List Nat) : Prop :=
  ∃ A c, v = .slice A xs.length c ∧ xs.length ≤ c ∧ (xs ≠ [] → ∃ b off, A = some ⟨b, off, none⟩ ∧ b < B ∧ ∀ (i : Nat) (x : Nat), xs[i]? = some x → w.cell? ⟨b, off + i, none⟩ = some (.int .u64 (x : Int)))
theorem Ws.below {w w' : World} {B : Nat} {v : Value} {xs : List Nat} (h : Ws w B v xs) (hb : Below B w w') : Ws w' B v xs := by
  obtain ⟨A, c, h1, h2, h3⟩ := h
  refine ⟨A, c, h1, h2, fun hne => ?_⟩
  obtain ⟨b, off, e, hlt, h4⟩ := h3 hne
  exact ⟨b, off, e, hlt, fun i x hx => (hb.cell (p := ⟨b, off + i, none⟩) hlt).trans (h4 i x hx)⟩

set_option maxRecDepth 100000 in
theorem words_trod {W : World} {t e : TypeId} {base : Nat} {sp : Nat → Bool} {v : Value} {d : DataW H} {ps : List MemPlace} (ht : Tryd.prog.underlying t = some (.slice e)) (he : Tryd.prog.underlying e = some (.int .u64)) (hc1 : Tryd.prog.cellsOf e = 1)
    (hok : Value.okWide Tryd.prog W .any base t v) (h : DataW.Trod enc Tryd.prog W 0 sp true t v d ps) (hlt : ∀ x ∈ ps, x.block < W.heap.size) : ∃ xs : List Nat, Ws W W.heap.size v xs ∧ xs.length ≤ maxLen ∧ ∀ x ∈ xs, x < 2 ^ 64 := by
  obtain ⟨A, n, c, rfl⟩ := okWide_slice ht hok
  obtain ⟨fuel, hf⟩ := h
  rcases open_ints ht he hc1 hf with ⟨hcs, hx⟩ | ⟨a, len, cap, zs, hcs, _, hl, hm, hz, hx, hcell, hwz⟩
  · simp only [Value.cells, List.cons.injEq, Value.slice.injEq, and_true] at hcs
    obtain ⟨rfl, rfl, rfl⟩ := hcs
    exact ⟨[], ⟨none, 0, rfl, Nat.le_refl _, fun h => absurd rfl h⟩, by simp, by simp⟩
  · simp only [Value.cells, List.cons.injEq, Value.slice.injEq, and_true] at hcs
    obtain ⟨rfl, rfl, rfl⟩ := hcs
    simp only [Prod.mk.injEq] at hx
    obtain ⟨rfl, rfl⟩ := hx
    have hle : n ≤ zs.length := by rw [hz]; split <;> omega
    have hnn : ∀ z ∈ zs, 0 ≤ z ∧ z < 2 ^ 64 := by
      intro z hz'
      have := hwz z hz'
      simp only [Lit.wf, Bool.and_eq_true, decide_eq_true_eq, show IntKind.u64.min = 0 from rfl, show IntKind.u64.max = 18446744073709551615 from rfl] at this
      omega
    refine ⟨(zs.take n).map Int.toNat, ⟨some a, c, by simp [Nat.min_eq_left hle], by simp; omega, fun hne => ?_⟩, by simp; omega, fun x hx => ?_⟩
    · have hn0 : 0 < n := by
        rcases Nat.eq_zero_or_pos n with rfl | h
        · simp at hne
        · exact h
      obtain ⟨b, off, spot⟩ := a
      have hspot : spot = none := spot_none (hcell 0 (by omega))
      subst hspot
      refine ⟨b, off, rfl, hlt (.cell b off) (MemPlace.mem_row.2 ⟨0, by omega, by simp⟩), fun i u hu => ?_⟩
      rw [List.getElem?_map, Option.map_eq_some_iff] at hu
      obtain ⟨z, hz1, rfl⟩ := hu
      rw [List.getElem?_take] at hz1
      split at hz1
      · have hi : i < zs.length := by omega
        have hg : zs.getD i 0 = z := by rw [List.getD_eq_getElem?_getD, hz1]; rfl
        have hc := hcell i hi
        rw [hg, add_none] at hc
        rw [hc]
        have := hnn z (List.mem_of_getElem? hz1)
        congr 2
        omega
      · cases hz1
    · obtain ⟨z, hz', rfl⟩ := List.mem_map.1 hx
      have := hnn z (List.mem_of_mem_take hz')
      omega

/-- A list of records of k numbers, in a block below B. -/
def Recs (w : World) (B : Nat) (v : Value) (k n : Nat) (f : Nat → Nat → Int) : Prop :=
  ∃ A c, v = .slice A n c ∧ n ≤ c ∧ (0 < n → ∃ b off, A = some ⟨b, off, none⟩ ∧ b < B ∧ ∀ i, i < n → ∀ j, j < k → w.cell? ⟨b, off + (i * k + j), none⟩ = some (.int .i64 (f i j)))
theorem Recs.below {w w' : World} {B : Nat} {v : Value} {k n : Nat} {f : Nat → Nat → Int} (h : Recs w B v k n f) (hb : Below B w w') : Recs w' B v k n f := by
  obtain ⟨A, c, h1, h2, h3⟩ := h
  refine ⟨A, c, h1, h2, fun hne => ?_⟩
  obtain ⟨b, off, e, hlt, h4⟩ := h3 hne
  exact ⟨b, off, e, hlt, fun i hi j hj => (hb.cell (p := ⟨b, _, none⟩) hlt).trans (h4 i hi j hj)⟩

set_option maxRecDepth 100000 in
theorem recs_trod {W : World} {t e : TypeId} {fs : Array Field} {base : Nat} {sp : Nat → Bool} {v : Value} {d : DataW H} {ps : List MemPlace} (ht : Tryd.prog.underlying t = some (.slice e)) (he : Tryd.prog.underlying e = some (.struct fs))
    (hpos : 0 < fs.size) (hone : oneCellFields Tryd.prog fs = true) (hC : Tryd.prog.cellsOf e = fs.size) (h64 : ∀ (j : Nat) (f : Field), fs[j]? = some f → Tryd.prog.underlying f.type = some (.int .i64)) (hok : Value.okWide Tryd.prog W .any base t v)
    (h : DataW.Trod enc Tryd.prog W 0 sp true t v d ps) (hlt : ∀ x ∈ ps, x.block < W.heap.size) :
    ∃ (n : Nat) (f : Nat → Nat → Int), Recs W W.heap.size v fs.size n f ∧ n ≤ maxLen ∧ ∀ i, i < n → ∀ j, j < fs.size → -9223372036854775808 ≤ f i j ∧ f i j ≤ 9223372036854775807 := by
  obtain ⟨A, n, c, rfl⟩ := okWide_slice ht hok
  obtain ⟨fuel, hf⟩ := h
  rcases open_slice ht hf with ⟨hcs, hx⟩ | ⟨a, len, cap, m, k, D, Pl, hcs, _, hl, hm, hmm, hx, hi⟩
  · simp only [Value.cells, List.cons.injEq, Value.slice.injEq, and_true] at hcs
    obtain ⟨rfl, rfl, rfl⟩ := hcs
    exact ⟨0, fun _ _ => 0, ⟨none, 0, rfl, Nat.le_refl _, fun h => absurd h (by omega)⟩, by omega, fun i hi => absurd hi (by omega)⟩
  · simp only [Value.cells, List.cons.injEq, Value.slice.injEq, and_true] at hcs
    obtain ⟨rfl, rfl, rfl⟩ := hcs
    simp only [Prod.mk.injEq] at hx
    obtain ⟨rfl, rfl⟩ := hx
    have hle : n ≤ m := by rw [hmm]; split <;> omega
    have hin : ∀ i j, ∃ z : Int, i < n → j < fs.size → W.cell? (a.add (i * fs.size + j)) = some (.int .i64 z) ∧ -9223372036854775808 ≤ z ∧ z ≤ 9223372036854775807 := by
      intro i j
      by_cases hin : i < n
      · by_cases hjn : j < fs.size
        · obtain ⟨cs', hc, ht'⟩ := hi i (by omega)
          rw [hC] at hc
          obtain ⟨ys, n', _, _, _, hyl, hfd⟩ := DataW.trod_struct he ht'
          obtain ⟨_, hcl, hat⟩ := World.cells?_some hc
          have hj : fs[j]? = some fs[j] := Array.getElem?_eq_getElem hjn
          obtain ⟨ho, hk⟩ := hone_of hone j _ hj
          have h1 := hfd j _ hj
          rw [ho, hk] at h1
          have hone' : (cs'.drop j).take 1 = [cs'[j]'(by omega)] := by
            rw [List.drop_eq_getElem_cons (by omega)]
            rfl
          rw [hone', List.getElem?_eq_getElem (by omega)] at h1
          obtain ⟨z, hz, _, hwf⟩ := DataW.trod_int (h64 j _ hj) h1
          simp only [Lit.wf, Bool.and_eq_true, decide_eq_true_eq] at hwf
          simp only [List.cons.injEq, and_true] at hz
          refine ⟨z, fun _ _ => ⟨?_, hwf⟩⟩
          have := hat j hjn
          rw [List.getElem?_eq_getElem (by omega), hz] at this
          rw [← this]
          rw [add_assoc]
        · exact ⟨0, fun _ h => absurd h hjn⟩
      · exact ⟨0, fun h => absurd h hin⟩
    obtain ⟨g, hg⟩ : ∃ g : Nat → Nat → Int, ∀ i j, i < n → j < fs.size → W.cell? (a.add (i * fs.size + j)) = some (.int .i64 (g i j)) ∧ -9223372036854775808 ≤ g i j ∧ g i j ≤ 9223372036854775807 :=
      ⟨fun i j => (hin i j).choose, fun i j h1 h2 => (hin i j).choose_spec h1 h2⟩
    refine ⟨n, g, ⟨some a, c, rfl, hl, fun hn0 => ?_⟩, by omega, fun i hi' j hj => (hg i j hi' hj).2⟩
    obtain ⟨b, off, spot⟩ := a
    have hspot : spot = none := by
      have h00 := (hg 0 0 hn0 hpos).1
      rw [Nat.zero_mul] at h00
      exact spot_none h00
    subst hspot
    refine ⟨b, off, rfl, hlt (.cell b off) (List.mem_append_left _ (MemPlace.mem_row.2 ⟨0, by rw [hC]; exact Nat.mul_pos (by omega) hpos, by simp⟩)), fun i hi' j hj => ?_⟩
    have := (hg i j hi' hj).1
    rwa [add_none] at this
end
end Go.Proofs.YtmfpjdbgdmmjkaaDoor
namespace Go.Proofs.YtmfpjdbgdmmjkaaDoor
open Go.RowKit

/-- A list whose cells hold just these values. -/
def Vals (w : World) (v : Value) (vs : List Value) : Prop :=
  ∃ A c, v = .slice A vs.length c ∧ vs.length ≤ c ∧ (vs ≠ [] → ∃ b off, A = some ⟨b, off, none⟩ ∧ ∀ (i : Nat) (u : Value), vs[i]? = some u → w.cell? ⟨b, off + i, none⟩ = some u)
/-- Values that read as these lists of bytes. -/
def Reads (w : World) (B : Nat) (vs : List Value) (ls : List (List UInt8)) : Prop := vs.length = ls.length ∧ ∀ (i : Nat) (l : List UInt8), ls[i]? = some l → ∃ u, vs[i]? = some u ∧ Bs w B u l
theorem Reads.below {w w' : World} {B : Nat} {vs : List Value} {ls : List (List UInt8)} (h : Reads w B vs ls) (hb : Below B w w') : Reads w' B vs ls :=
  ⟨h.1, fun i l hl => by obtain ⟨u, h1, h2⟩ := h.2 i l hl; exact ⟨u, h1, h2.below hb⟩⟩
theorem Reads.more {w : World} {B B' : Nat} {vs : List Value} {ls : List (List UInt8)} (h : Reads w B vs ls) (hb : B ≤ B') : Reads w B' vs ls :=
  ⟨h.1, fun i l hl => by obtain ⟨u, h1, h2⟩ := h.2 i l hl; exact ⟨u, h1, h2.more hb⟩⟩
theorem Reads.keep {w W : World} {g : Nat} {vs : List Value} {ls : List (List UInt8)} (h : Reads w g vs ls) (hk : Ev.Keep ⟨w, fun k => k = g⟩ W) (hg : g < w.heap.size) : Reads W g vs ls :=
  ⟨h.1, fun i l hl => by obtain ⟨u, h1, h2⟩ := h.2 i l hl; exact ⟨u, h1, keep_bs h2 hk hg⟩⟩
theorem Reads.one {w : World} {B : Nat} {u : Value} {l : List UInt8} (h : Bs w B u l) : Reads w B [u] [l] := ⟨rfl, fun i m hm => by
  cases i with
  | zero => simp at hm; subst hm; exact ⟨u, rfl, h⟩
  | succ i => simp at hm⟩
theorem Reads.append {w : World} {B : Nat} {vs us : List Value} {ls ms : List (List UInt8)} (h : Reads w B vs ls) (k : Reads w B us ms) : Reads w B (vs ++ us) (ls ++ ms) := by
  refine ⟨by rw [List.length_append, List.length_append, h.1, k.1], fun i l hl => ?_⟩
  rw [List.getElem?_append] at hl ⊢
  rw [h.1]
  split at hl
  · rename_i hi; rw [if_pos hi]; exact h.2 i l hl
  · rename_i hi; rw [if_neg hi]; exact k.2 _ l hl
theorem Reads.one_cell {w : World} {B : Nat} {vs : List Value} {ls : List (List UInt8)} (h : Reads w B vs ls) : ∀ u ∈ vs, u.oneCell' = true := by
  intro u hu
  obtain ⟨i, hi⟩ := List.getElem?_of_mem hu
  have hlt : i < ls.length := by rw [← h.1]; exact (List.getElem?_eq_some_iff.1 hi).1
  obtain ⟨u', h1, A, c, rfl, _⟩ := h.2 i _ (List.getElem?_eq_getElem hlt)
  rw [hi] at h1
  injection h1 with h1
  subst h1
  rfl
theorem bss_vals {w : World} {B : Nat} {v : Value} {ls : List (List UInt8)} (h : Bss w B v ls) : ∃ vs, Vals w v vs ∧ Reads w B vs ls := by
  obtain ⟨A, c, rfl, hc, hcs⟩ := h
  by_cases hne : ls = []
  · subst hne
    exact ⟨[], ⟨A, c, rfl, Nat.zero_le _, fun h => absurd rfl h⟩, rfl, fun i l hl => by simp at hl⟩
  · obtain ⟨b, off, rfl, _, hcell⟩ := hcs hne
    have hex : ∀ k, k ≤ ls.length → ∃ vs : List Value, vs.length = k ∧ ∀ (i : Nat) (l : List UInt8), i < k → ls[i]? = some l → ∃ u, vs[i]? = some u ∧ w.cell? ⟨b, off + i, none⟩ = some u ∧ Bs w B u l := by
      intro k
      induction k with
      | zero => exact fun _ => ⟨[], rfl, fun i l h => absurd h (by omega)⟩
      | succ k ih =>
        intro hk
        obtain ⟨vs, h1, h2⟩ := ih (by omega)
        obtain ⟨u, h3, h4⟩ := hcell k _ (List.getElem?_eq_getElem (by omega))
        refine ⟨vs ++ [u], by simp [h1], fun i l hi hl => ?_⟩
        by_cases hik : i < k
        · obtain ⟨u', h5, h6⟩ := h2 i l hik hl
          exact ⟨u', by rw [List.getElem?_append_left (by omega)]; exact h5, h6⟩
        · have : i = k := by omega
          subst this
          rw [List.getElem?_eq_getElem (by omega)] at hl
          injection hl with hl
          subst hl
          exact ⟨u, by rw [List.getElem?_append_right (by omega), h1, Nat.sub_self]; rfl, h3, h4⟩
    obtain ⟨vs, h1, h2⟩ := hex _ (Nat.le_refl _)
    refine ⟨vs, ⟨some ⟨b, off, none⟩, c, by rw [h1], by omega, fun _ => ⟨b, off, rfl, fun i u hu => ?_⟩⟩, h1, fun i l hl => ?_⟩
    · have hi : i < ls.length := by rw [← h1]; exact (List.getElem?_eq_some_iff.1 hu).1
      obtain ⟨u', h3, h4, _⟩ := h2 i _ hi (List.getElem?_eq_getElem hi)
      rw [hu] at h3
      injection h3 with h3
      rw [h3]
      exact h4
    · obtain ⟨u, h3, _, h5⟩ := h2 i l (List.getElem?_eq_some_iff.1 hl).1 hl
      exact ⟨u, h3, h5⟩
theorem Bss.more' {w : World} {B B' : Nat} {v : Value} {ls : List (List UInt8)} (h : Bss w B v ls) (hB : B ≤ B') : Bss w B' v ls := by
  obtain ⟨A, c, h1, h2, h3⟩ := h
  refine ⟨A, c, h1, h2, fun hne => ?_⟩
  obtain ⟨b, off, e, hlt, h4⟩ := h3 hne
  refine ⟨b, off, e, by omega, fun i l hl => ?_⟩
  obtain ⟨u, h5, h6⟩ := h4 i l hl
  exact ⟨u, h5, h6.more hB⟩
theorem Vals.grown {w w' : World} {v : Value} {vs : List Value} {B : Nat} (h : Vals w v vs) (hB : ∀ b off c, v = .slice (some ⟨b, off, none⟩) vs.length c → vs ≠ [] → b < B) (hb : Below B w w') : Vals w' v vs := by
  obtain ⟨A, c, rfl, h1, h2⟩ := h
  refine ⟨A, c, rfl, h1, fun hne => ?_⟩
  obtain ⟨b, off, rfl, h3⟩ := h2 hne
  exact ⟨b, off, rfl, fun i u hu => (hb.cell (p := ⟨b, off + i, none⟩) (hB b off c rfl hne)).trans (h3 i u hu)⟩
set_option maxRecDepth 100000 in
theorem info_bs : ∃ i, Tryd.prog.info? 23 = some i ∧ i.zero = some (.slice none 0 0) ∧ i.size = 1 ∧ i.bytes = 24 :=
  ⟨_, rfl, by kernel_rfl, by kernel_rfl, by kernel_rfl⟩
/-- append in a row that has room. -/
theorem run_app_room (w : World) (ty : TypeId) {g n cap : Nat} {cur vs : List Value} {y : Value} (hrow : Row w g cur 23) (hcap : cur.length = cap) (hy : Vals w y vs) (h1 : ∀ u ∈ vs, u.oneCell' = true) (hroom : n + vs.length ≤ cap) :
    ∃ w', (Builtin.append_ #[22, 22] ty #[.slice (some ⟨g, 0, none⟩) n cap, y]).run Tryd.prog w = .ok (.slice (some ⟨g, 0, none⟩) (n + vs.length) cap) w' ∧ Row w' g (cur.take n ++ vs ++ cur.drop (n + vs.length)) 23 ∧ Ev.Keep ⟨w, fun k => k = g⟩ w' := by
  obtain ⟨i, hi, hz, hs, hb⟩ := info_bs
  obtain ⟨A, c, rfl, hc, hcell⟩ := hy
  by_cases hne : vs = []
  · subst hne
    have hrun := Ev.run_append_fit (P := Tryd.prog) (ty := ty) (base := some ⟨g, 0, none⟩) (m := n) (n := 0) (c := cap) (x := .slice A 0 c) (w := w) (new := #[]) Tryd.underlying22 Tryd.underlying22 (.inr ⟨_, rfl⟩) hi rfl (by cases A <;> simp [Builtin.firstCells, loadCells, loadCellsFrom]) (by simpa using hroom)
    refine ⟨w, ?_, ?_, ⟨rfl, rfl, rfl, Nat.le_refl _, fun _ _ => rfl⟩⟩
    · rw [List.length_nil, hrun]
      simp [storeCells]
    · rw [List.length_nil, Nat.add_zero, List.append_nil, List.take_append_drop]
      exact hrow
  · obtain ⟨b, off, rfl, h2⟩ := hcell hne
    have hrun := run_append_room (P := Tryd.prog) w 22 ty 23 i Tryd.underlying22 hi g n cap cur.toArray hrow ⟨b, off, none⟩ vs.length c vs (by rw [hs, Nat.mul_one])
      (fun j u hj => by rw [show (⟨b, off, none⟩ : Addr).add j = ⟨b, off + j, none⟩ by unfold Addr.add; split <;> simp_all]; exact h2 j u hj) h1 hroom (by rw [hs, Nat.mul_one]; simpa [hcap] using hroom)
    refine ⟨_, hrun, ?_, ⟨rfl, rfl, rfl, by simp [World.setRow], fun k hk => setRow_other w g k _ fun e => hk (.inr e)⟩⟩
    rw [hs, Nat.mul_one]
    have := hrow.setRow (cur.take n ++ vs ++ cur.drop (n + vs.length))
    exact this
theorem wpList_app_room (w : World) {ops : Array Oper} {rest : List Oper} {o : Oper} {a : Act} {Q : Exit → Act → World → Prop} (hgd : o.guard = none) (s x : Operand)
    (ho : o.op = .call { callee := .builtin .append, args := #[s, x], argTypes := #[22, 22] }) {g n cap : Nat} {cur vs : List Value} {y : Value} (hs : a.eval s = .slice (some ⟨g, 0, none⟩) n cap) (hx : a.eval x = y)
    (hrow : Row w g cur 23) (hcap : cur.length = cap) (hy : Vals w y vs) (h1 : ∀ u ∈ vs, u.oneCell' = true) (hroom : n + vs.length ≤ cap)
    (h : ∀ w', Row w' g (cur.take n ++ vs ++ cur.drop (n + vs.length)) 23 → Ev.Keep ⟨w, fun k => k = g⟩ w' → wpList Tryd.prog ops Q rest (a.put o.dst (.slice (some ⟨g, 0, none⟩) (n + vs.length) cap)) w') : wpList Tryd.prog ops Q (o :: rest) a w := by
  refine wpList_plain hgd fun K hK => ?_
  obtain ⟨w', hr, h2, h3⟩ := run_app_room w o.type hrow hcap hy h1 hroom
  unfold Oper.wp execOp
  simp only [ho, resolve, invoke, builtin, Sem.run_bind, Sem.run_pure, Result.andThen_ok, List.map_toArray, List.map_cons, List.map_nil, hs, hx, hr]
  exact hK _ _ (h w' h2 h3)
/-- A made row of lists. -/
theorem wpList_make_lists (w : World) {ops : Array Oper} {rest : List Oper} {o : Oper} {a : Act} {Q : Exit → Act → World → Prop}
    (hg : o.guard = none) (l c : Operand) (hop : o.op = Op.makeSlice 22 l c) (n : Nat) (hl : a.eval l = .int .i64 0) (hc : a.eval c = .int .i64 (n : Int)) (hn : n ≤ 1000000000)
    (hK : ∀ w' cur, Row w' w.heap.size cur 23 → cur.length = n → w.grownBy w' none → wpList Tryd.prog ops Q rest (a.put o.dst (.slice (some ⟨w.heap.size, 0, none⟩) 0 n)) w') :
    wpList Tryd.prog ops Q (o :: rest) a w := by
  obtain ⟨i, hi, hz, hs, hb⟩ := info_bs
  refine wpList_make_own w hg l c 22 hop w.heap.size 23 i (.slice none 0 0) 1 Tryd.underlying22 hi hz hs .i64 .i64 _ n hl hc rfl (by rw [hb]; omega) (by unfold maxLen; omega) (Nat.le_refl _) fun w' h1 h2 => ?_
  rcases h1.2 with ⟨h0, _⟩ | ⟨g, cap, cur, e, _, hgg, _, _, hcs, _⟩
  · simp at h0
  · simp only [Value.slice.injEq, Option.some.injEq, Addr.mk.injEq, and_true, true_and] at e
    obtain ⟨rfl, rfl⟩ := e
    exact hK w' cur.toList (by unfold Row; simpa using hgg) (by simpa using hcs) h2
/-- A row of the call's own that holds these values. -/
def OwnVs (w : World) (base : Nat) (v : Value) (vs : List Value) : Prop := w.ownsRow base 23 1 v vs.length vs
theorem ownVs_new (w : World) (v : Value) : OwnVs (w.alloc (.cells #[v] 23)) w.heap.size (.slice (some ⟨w.heap.size, 0, none⟩) 1 1) [v] :=
  ⟨rfl, .inr ⟨w.heap.size, 1, #[v], rfl, Nat.le_refl _, heap_alloc_new w _, Nat.le_refl _, by decide, rfl, by simp⟩⟩
theorem bss_own {w : World} {base : Nat} {v : Value} {vs : List Value} {ls : List (List UInt8)} (h : OwnVs w base v vs) (hr : Reads w w.heap.size vs ls) : Bss w w.heap.size v ls := by
  rcases h.2 with ⟨rfl, hl⟩ | ⟨g, cap, cur, rfl, _, hg, hnc, _⟩
  · have : ls = [] := List.eq_nil_of_length_eq_zero (by rw [← hr.1]; exact hl)
    subst this
    exact ⟨none, 0, rfl, Nat.zero_le _, fun h => absurd rfl h⟩
  · refine ⟨_, cap, by rw [hr.1], by rw [← hr.1]; exact hnc, fun _ => ⟨g, 0, rfl, (Array.getElem?_eq_some_iff.1 hg).1, fun i l hl => ?_⟩⟩
    obtain ⟨u, h1, h2⟩ := hr.2 i l hl
    have := h.cells (g := g) rfl i u h1
    rw [show (⟨g, 0, none⟩ : Addr).add i = ⟨g, 0 + i, none⟩ by unfold Addr.add; split <;> simp_all] at this
    exact ⟨u, this, h2⟩
theorem run_app_lists (w : World) (ty : TypeId) {base : Nat} {v y : Value} {vs us : List Value} (hown : OwnVs w base v vs) (hy : Vals w y us) (h1 : ∀ u ∈ us, u.oneCell' = true) (hlen : vs.length + us.length ≤ 1000000) (hbase : base ≤ w.heap.size) :
    ∃ v' w', (Builtin.append_ #[22, 22] ty #[v, y]).run Tryd.prog w = .ok v' w' ∧ OwnVs w' base v' (vs ++ us) ∧ w.grownBy w' v.ownBlock := by
  obtain ⟨i, hi, hz, hs, hb⟩ := info_bs
  obtain ⟨A, c, rfl, hc, hcell⟩ := hy
  by_cases hne : us = []
  · subst hne
    refine ⟨v, w, ?_, by simpa using hown, ⟨rfl, rfl, rfl, Nat.le_refl _, fun _ _ _ => rfl⟩⟩
    have hf : ∀ (cap : Nat) (base' : Option Addr), vs.length ≤ cap → v = .slice base' vs.length cap → (Builtin.append_ #[22, 22] ty #[v, .slice A 0 c]).run Tryd.prog w = .ok v w := by
      intro cap base' hcap hv
      subst hv
      have hrun := Ev.run_append_fit (P := Tryd.prog) (ty := ty) (base := base') (m := vs.length) (n := 0) (c := cap) (x := .slice A 0 c) (w := w) (new := #[]) Tryd.underlying22 Tryd.underlying22 (.inr ⟨_, rfl⟩) hi rfl (by cases A <;> simp [Builtin.firstCells, loadCells, loadCellsFrom]) (by omega)
      rw [hrun]
      cases base' <;> simp [storeCells]
    rcases hown.2 with ⟨rfl, hl⟩ | ⟨g, cap, cur, rfl, _, _, hnc, _⟩
    · exact hf 0 none (by omega) (by rw [hl])
    · exact hf cap _ hnc rfl
  · obtain ⟨b, off, rfl, h2⟩ := hcell hne
    obtain ⟨v', w', k1, k2, k3, _, _⟩ := run_append_own_at (P := Tryd.prog) w base 22 ty 23 i (.slice none 0 0) 1 24 Tryd.underlying22 hi hz hs hb rfl (by decide) v vs.length vs hown ⟨b, off, none⟩ us.length c us (by simp)
      (fun j u hj => by rw [show (⟨b, off, none⟩ : Addr).add j = ⟨b, off + j, none⟩ by unfold Addr.add; split <;> simp_all]; exact h2 j u hj) h1 (by unfold maxLen; omega) (by omega) hbase
    refine ⟨v', w', k1, ?_, k3⟩
    unfold OwnVs
    rw [List.length_append]
    exact k2
theorem wpList_app_lists (w : World) {ops : Array Oper} {rest : List Oper} {o : Oper} {a : Act} {Q : Exit → Act → World → Prop} (hgd : o.guard = none) (s x : Operand)
    (ho : o.op = .call { callee := .builtin .append, args := #[s, x], argTypes := #[22, 22] }) {base : Nat} {v y : Value} {vs us : List Value} (hs : a.eval s = v) (hx : a.eval x = y)
    (hown : OwnVs w base v vs) (hy : Vals w y us) (h1 : ∀ u ∈ us, u.oneCell' = true) (hlen : vs.length + us.length ≤ 1000000) (hbase : base ≤ w.heap.size)
    (h : ∀ v' w', OwnVs w' base v' (vs ++ us) → w.grownBy w' v.ownBlock → wpList Tryd.prog ops Q rest (a.put o.dst v') w') : wpList Tryd.prog ops Q (o :: rest) a w := by
  refine wpList_plain hgd fun K hK => ?_
  obtain ⟨v', w', hr, h2, h3⟩ := run_app_lists w o.type hown hy h1 hlen hbase
  unfold Oper.wp execOp
  simp only [ho, resolve, invoke, builtin, Sem.run_bind, Sem.run_pure, Result.andThen_ok, List.map_toArray, List.map_cons, List.map_nil, hs, hx, hr]
  exact hK _ _ (h v' w' h2 h3)
/-- A literal list of byte slices. -/
theorem bss_new {w : World} {vs : List Value} {ls : List (List UInt8)} {g n : Nat} (hg : w.heap.size = g) (hn : ls.length = n) (hr : Reads w w.heap.size vs ls) : Bss (w.alloc (.cells vs.toArray 23)) (w.alloc (.cells vs.toArray 23)).heap.size (.slice (some ⟨g, 0, none⟩) n n) ls := by
  subst hg; subst hn
  refine ⟨_, _, rfl, Nat.le_refl _, fun _ => ⟨w.heap.size, 0, rfl, by simp, fun i l hl => ?_⟩⟩
  obtain ⟨u, h1, h2⟩ := hr.2 i l hl
  exact ⟨u, Row.cell (cs := vs) (t := 23) (Row.new rfl rfl) (by rw [Nat.zero_add]; exact h1), (h2.alloc (Nat.le_refl _) _).more (by simp)⟩
theorem pcs_of {w : World} {g n cap : Nat} {cur vs : List Value} {ls : List (List UInt8)} (hrow : Row w g (vs ++ cur) 23) (hr : Reads w g vs ls) (hn : n = ls.length) (hcap : n ≤ cap) : Pcs w g (.slice (some ⟨g, 0, none⟩) n cap) ls := by
  subst hn
  refine ⟨0, cap, _, rfl, hcap, hrow, by rw [List.length_append, hr.1]; omega, fun i l hl => ?_⟩
  obtain ⟨u, h1, h2⟩ := hr.2 i l hl
  have hi : i < vs.length := (List.getElem?_eq_some_iff.1 h1).1
  exact ⟨u, by rw [Nat.zero_add, List.getElem?_append_left hi]; exact h1, h2⟩
end Go.Proofs.YtmfpjdbgdmmjkaaDoor
namespace Go.Proofs.YtmfpjdbgdmmjkaaDoor
open Go.RowKit

set_option maxRecDepth 8000 in
set_option maxHeartbeats 1000000 in
theorem Padded_any (v : Value) (ls : List (List UInt8)) (w : World) (hb : Bss w w.heap.size v ls) (hn : ls.length ≤ 100000) (hm : ∀ l ∈ ls, l.length ≤ 1000000000) (hf : ls.flatten.length ≤ 1000000000000) :
    Calls Tryd.prog 44 #[v] w fun e w' => ∃ g v' , e = .returned (.tuple #[v', .int .i64 (((Sha.full ls.flatten).length / 64 : Nat) : Int)]) ∧ Pcs w' g v' (ls ++ [Sha.pad ls.flatten.length]) ∧ w.heap.size ≤ g ∧ Below w.heap.size w w' := by
  have Hb := Lib.hid hb
  have Hm := Lib.hid hm
  have Hf := Lib.hid hf
  obtain ⟨A, c, rfl, hc, hcs⟩ := hb
  have Hc := Lib.hid hc
  have Hcs := Lib.hid hcs
  clear hm hf hc hcs
  go_enter Tryd.func44, Tryd.ntmps44
  go_wp2
  go_loopw [10, 4] (fun iv sv wr => ∃ i n : Nat, i ≤ ls.length ∧ iv = .int .i64 (i : Int) ∧ sv = .int .i64 (n : Int) ∧ (ls.take i).flatten.length = n ∧ w = wr) (fun iv _ _ => ls.length - (intOf iv).toNat)
  case atStart => exact ⟨0, 0, Nat.zero_le _, rfl, rfl, rfl, rfl⟩
  case round =>
    obtain ⟨i, n, hi, rfl, rfl, hnl, rfl⟩ := hrel
    have Hnl := Lib.hid hnl
    clear hnl
    by_cases h1 : i < ls.length
    · have h1' : (i : Int) < (ls.length : Int) := by omega
      obtain ⟨b, off, rfl, hlt, hcell⟩ := Hcs.out (by intro h; subst h; simp at h1)
      obtain ⟨u, hu, hbs⟩ := hcell i _ (List.getElem?_eq_getElem h1)
      obtain ⟨piece, hpiece⟩ : ∃ piece, ls[i] = piece := ⟨_, rfl⟩
      have hpi : ls[i]? = some piece := by rw [← hpiece]; exact List.getElem?_eq_getElem h1
      rw [hpiece] at hbs
      obtain ⟨A2, c2, rfl, _, _⟩ := hbs
      have hsum : (ls.take (i + 1)).flatten.length = n + piece.length := by rw [Sha.take_flat hpi, List.length_append, Hnl.out]
      have hle : n + piece.length ≤ 1000000000000 := by
        rw [← hsum]
        have h2 : ls.flatten = (ls.take (i + 1)).flatten ++ (ls.drop (i + 1)).flatten := by rw [← List.flatten_append, List.take_append_drop]
        have h3 := congrArg List.length h2
        rw [List.length_append] at h3
        have := Hf.out
        omega
      have hws : IntKind.i64.wrap ((n : Int) + (piece.length : Int)) = (n : Int) + (piece.length : Int) := IntWalk.i64_in _ (by omega)
      have Hsum := Lib.hid hsum
      clear hcell hpi hsum hle hpiece
      go_wp2
      go_roundw
      case rel => exact ⟨i + 1, n + piece.length, h1, by simp, by simp, Hsum.out, trivial⟩
      case measure => simp [intOf]; omega
    · have h1' : ¬ (i : Int) < (ls.length : Int) := by omega
      have : i = ls.length := by omega
      subst this
      have hnf := Hnl.out
      rw [List.take_length] at hnf
      have hn12 : n ≤ 1000000000000 := by rw [← hnf]; exact Hf.out
      have Hnf := Lib.hid hnf
      clear hnf
      go_wp2_with fail
      refine (Pad_any n (by omega) _).mono ?_
      rintro e w1 ⟨rfl, hrow1, hb1⟩
      obtain ⟨L, hL⟩ : ∃ L, Sha.zerosOf n + 9 = L := ⟨_, rfl⟩
      have hL72 : L ≤ 72 := by have := (Sha.zerosOf_is n).2; omega
      have hdiv : (n + L) / 64 = (Sha.full ls.flatten).length / 64 := by rw [Sha.full_length, Hnf.out]; congr 1; omega
      rw [hL]
      obtain ⟨vs, hvals, hreads⟩ := bss_vals Hb.out
      have hvals1 : Vals w1 (.slice A ls.length c) vs := hvals.grown (B := w.heap.size) (by
        intro b off c' e hne
        have hl0 : ls ≠ [] := by intro h; subst h; exact hne (List.eq_nil_of_length_eq_zero hreads.1)
        obtain ⟨b', off', e', hlt, _⟩ := Hcs.out hl0
        rw [e'] at e
        simp only [Value.slice.injEq, Option.some.injEq, Addr.mk.injEq] at e
        omega) hb1
      have hcap : IntKind.i64.wrap ((ls.length : Int) + 1) = ((ls.length + 1 : Nat) : Int) := (IntWalk.i64_in _ (by omega)).trans (by omega)
      obtain ⟨M, hM⟩ : ∃ M, ls.length + 1 = M := ⟨_, rfl⟩
      rw [hM] at hcap
      have Hvals := Lib.hid hvals1
      have Hreads := Lib.hid (hreads.below hb1)
      have Hrow1 := Lib.hid hrow1
      have Hb1 := Lib.hid hb1
      have HM := Lib.hid hM
      have HL := Lib.hid hL
      have Hdiv := Lib.hid hdiv
      have hsz1 : w.heap.size < w1.heap.size := hrow1.lt
      have Hsz1 := Lib.hid hsz1
      clear hvals hvals1 hreads hrow1 hb1 hM hL hdiv hsz1
      have hq : ((n : Int) + (L : Int)) / 64 = (((Sha.full ls.flatten).length / 64 : Nat) : Int) := by rw [← Hdiv.out]; omega
      have Hq := Lib.hid hq
      clear hq
      go_wp2_with (first
        | (at_make; refine wpList_make_lists _ rfl _ _ rfl M rfl rfl (by have := HM.out; omega) ?_; intro w2 cur hrow2 hcl2 hg2
           have Hrow2 := Lib.hid hrow2
           have Hcl2 := Lib.hid hcl2
           have hb2 : Below w1.heap.size w1 w2 := (Below.refl _ w1).grown hg2 (Nat.le_refl _) (fun k hk => by cases hk)
           have Hb2 := Lib.hid hb2
           have Hv2 := Lib.hid (show Vals w2 (.slice A ls.length c) vs from Hvals.out.grown (B := w1.heap.size) (by
             intro b off c' e hne
             have hl0 : ls ≠ [] := by intro h; subst h; exact hne (List.eq_nil_of_length_eq_zero Hreads.out.1)
             obtain ⟨b', off', e', hlt, _⟩ := Hcs.out hl0
             rw [e'] at e
             simp only [Value.slice.injEq, Option.some.injEq, Addr.mk.injEq] at e
             have := Hsz1.out
             omega) hb2)
           clear hrow2 hcl2 hg2 hb2)
        | (show wpList _ _ _ (⟨some 26, _, _, _, _, _⟩ :: _) _ _; refine wpList_app_room (n := 0) w2 rfl _ _ rfl rfl rfl Hrow2.out Hcl2.out Hv2.out Hreads.out.one_cell (by rw [Hreads.out.1]; have := HM.out; omega) ?_; intro w3 hrow3 hk3
           have hvl : vs.length = ls.length := Hreads.out.1
           rw [List.take_zero, List.nil_append, Nat.zero_add, hvl] at hrow3
           rw [Nat.zero_add, hvl]
           have Hrow3 := Lib.hid hrow3
           have Hk3 := Lib.hid hk3
           have hsz3 : w1.heap.size < w3.heap.size := hrow3.lt
           have Hsz3 := Lib.hid hsz3
           have Hpadv := Lib.hid (show Row w3 w.heap.size ((Sha.pad n).map bv) 5 from (Hrow1.out.below Hb2.out Hsz1.out).keep hk3 (by have := Hsz1.out; omega))
           have Hb3 := Lib.hid (show Below w.heap.size w w3 from Below.keep (nextB Hb1.out (Nat.le_refl _) Hb2.out) hk3 (by have := Hb2.out.size; have := Hsz1.out; omega) (by have := Hsz1.out; omega))
           clear hrow3 hk3 hvl hsz3)
        | (show wpList _ _ _ (⟨some 30, _, _, _, _, _⟩ :: _) _ _
           refine wpList_app_room (n := ls.length) (w3.alloc (.cells #[.slice (some ⟨w.heap.size, 0, none⟩) L L] 23)) rfl _ _ rfl rfl rfl (Hrow3.out.alloc _) (by rw [List.length_append, List.length_drop, Hreads.out.1, Hcl2.out]; have := HM.out; omega) (vs := [.slice (some ⟨w.heap.size, 0, none⟩) L L])
             ⟨some ⟨w3.heap.size, 0, none⟩, 1, rfl, Nat.le_refl _, fun _ => ⟨w3.heap.size, 0, rfl, fun i u hu => by
               cases i with
               | zero => rw [List.getElem?_cons_zero] at hu; injection hu with hu; subst hu; exact Row.cell (cs := [.slice (some ⟨w.heap.size, 0, none⟩) L L]) (Row.new rfl rfl) rfl
               | succ i => simp at hu⟩⟩ (by intro u hu; simp only [List.mem_singleton] at hu; subst hu; rfl) (by have := HM.out; simp; omega) ?_
           intro w5 hrow5 hk5
           have Hrow5 := Lib.hid hrow5
           have Hk5 := Lib.hid hk5
           clear hrow5 hk5)
        | fail)
      refine bodyPost_ret (results_tmp2 rfl _ _ _) rfl ?_
      have hs2 := Hb2.out.size
      have hs3 := Hk3.out.size
      have hs3' : w2.heap.size ≤ w3.heap.size := hs3
      have hb13 : Below w1.heap.size w1 w3 := Below.keep Hb2.out Hk3.out hs2 (Nat.le_refl _)
      have hb15 : Below w1.heap.size w1 w5 := Below.keep (hb13.alloc (by omega) (.cells #[.slice (some ⟨w.heap.size, 0, none⟩) L L] 23)) Hk5.out (by simp; omega) (Nat.le_refl _)
      have hpl : (Sha.pad n).length = L := by rw [Sha.pad_length]; exact HL.out
      have hpad : Bs w5 w1.heap.size (.slice (some ⟨w.heap.size, 0, none⟩) L L) (Sha.pad n) := by
        have := (Hrow1.out.below hb15 Hsz1.out).bs (B := w1.heap.size) Hsz1.out
        rwa [hpl] at this
      have hrd : Reads w5 w1.heap.size (vs ++ [.slice (some ⟨w.heap.size, 0, none⟩) L L]) (ls ++ [Sha.pad n]) :=
        ((Hreads.out.below (hb15.mono (Nat.le_of_lt Hsz1.out))).more (Nat.le_of_lt Hsz1.out)).append (.one hpad)
      have hr5 := Hrow5.out
      rw [List.take_append_of_le_length (by rw [Hreads.out.1]; exact Nat.le_refl _), List.take_of_length_le (by rw [Hreads.out.1]; exact Nat.le_refl _)] at hr5
      refine ⟨w1.heap.size, _, by rw [← Hq.out]; rfl, ?_, Nat.le_of_lt Hsz1.out, nextB Hb1.out (Nat.le_refl _) hb15⟩
      rw [Hnf.out]
      exact pcs_of hr5 hrd (by simp) (Nat.le_of_eq HM.out)
end Go.Proofs.YtmfpjdbgdmmjkaaDoor
namespace Go.Proofs.YtmfpjdbgdmmjkaaDoor
open Go.RowKit
namespace Sha
/-- As many bytes as are written, then zeros, k in all. -/
def fillTo (k : Nat) (b : List UInt8) (n : Nat) : List UInt8 := b.take n ++ List.replicate (k - n) 0
theorem fillTo_length (k : Nat) (b : List UInt8) (n : Nat) (hb : b.length = k) (hn : n ≤ k) : (fillTo k b n).length = k := by
  rw [fillTo, List.length_append, List.length_take, List.length_replicate]
  omega
theorem fillTo_set (k : Nat) (b : List UInt8) (n : Nat) (u : UInt8) (hb : b.length = k) (hn : n < k) (hu : b[n]? = some u) : (fillTo k b n).set n u = fillTo k b (n + 1) := by
  apply List.ext_getElem?
  intro j
  rw [List.getElem?_set]
  unfold fillTo
  simp only [List.getElem?_append, List.length_append, List.length_take, List.length_replicate, List.getElem?_take, List.getElem?_replicate, hb]
  by_cases h1 : n = j
  · subst h1
    simp [show min n k = n by omega, show min (n + 1) k = n + 1 by omega, hu, show n < n + (k - n) by omega]
  · by_cases h2 : j < n
    · simp [h1, show min n k = n by omega, show min (n + 1) k = n + 1 by omega, h2, show j < n + 1 by omega]
    · simp [h1, show min n k = n by omega, show min (n + 1) k = n + 1 by omega, h2, show ¬ j < n + 1 by omega]
      by_cases h3 : j - n < k - n
      · simp [h3]
        omega
      · simp [h3]
        omega
theorem fillTo_all (k : Nat) (b : List UInt8) (hb : b.length = k) : fillTo k b k = b := by
  rw [fillTo, List.take_of_length_le (by omega), Nat.sub_self, List.replicate_zero, List.append_nil]
theorem full_64 (l : List UInt8) : 64 * ((full l).length / 64) = (full l).length := by
  have := (zerosOf_is l.length).1
  rw [full_length]
  omega
end Sha

theorem sbyte0 (x : BitVec 32) : Value.int .u8 ((x.toNat : Int) / 16777216) = .int .u8 (((x >>> (24 - 8 * 0)).toNat % 256 : Nat) : Int) := by
  rw [show 24 - 8 * 0 = 24 from rfl, BitVec.toNat_ushiftRight, Nat.shiftRight_eq_div_pow]
  have := x.isLt
  exact congrArg (Value.int .u8) (by omega)
theorem sbyte1 (x : BitVec 32) : Value.int .u8 ((x.toNat : Int) / 65536 % 256) = .int .u8 (((x >>> (24 - 8 * 1)).toNat % 256 : Nat) : Int) := by
  rw [w_shr16, show 24 - 8 * 1 = 16 from rfl]
  exact congrArg (Value.int .u8) (by omega)
theorem sbyte2 (x : BitVec 32) : Value.int .u8 ((x.toNat : Int) / 256 % 256) = .int .u8 (((x >>> (24 - 8 * 2)).toNat % 256 : Nat) : Int) := by
  rw [w_shr8, show 24 - 8 * 2 = 8 from rfl]
  exact congrArg (Value.int .u8) (by omega)
theorem sbyte3 (x : BitVec 32) : Value.int .u8 ((x.toNat : Int) % 256) = .int .u8 (((x >>> (24 - 8 * 3)).toNat % 256 : Nat) : Int) := by
  rw [show 24 - 8 * 3 = 0 from rfl, show x >>> 0 = x by simp]
  exact congrArg (Value.int .u8) (by omega)

set_option maxRecDepth 8000 in
set_option maxHeartbeats 1000000 in
theorem Sum_any (v : Value) (ls : List (List UInt8)) (w : World) (ht : Tab w) (hb : Bss w w.heap.size v ls) (hn : ls.length ≤ 100000) (hm : ∀ l ∈ ls, l.length ≤ 1000000000) (hf : ls.flatten.length ≤ 1000000000000) :
    Calls Tryd.prog 19 #[v] w fun e w' => e = .returned (arr8 (Sha.sum ls.flatten)) ∧ Below w.heap.size w w' := by
  have Ht := Lib.hid ht
  have Hb := Lib.hid hb
  have Hm := Lib.hid hm
  have Hf := Lib.hid hf
  clear ht hb hm hf
  go_enter Tryd.func19, Tryd.ntmps19
  go_wp2_with fail
  have hB0 := (Below.refl w.heap.size w).alloc (Nat.le_refl _) (.cells ((List.replicate 32 (0 : UInt8)).map bv).toArray 24)
  have hR0 : Row (w.alloc (.cells ((List.replicate 32 (0 : UInt8)).map bv).toArray 24)) w.heap.size ((List.replicate 32 (0 : UInt8)).map bv) 24 := Row.new rfl rfl
  have hss := (Hb.out.below hB0)
  refine (Padded_any v ls (w.alloc (.cells ((List.replicate 32 (0 : UInt8)).map bv).toArray 24)) (hss.more' (by simp)) hn Hm.out Hf.out).mono ?_
  rintro e w2 ⟨g, v2, rfl, hp2, hg2, hb2⟩
  have hsz0 : (w.alloc (.cells ((List.replicate 32 (0 : UInt8)).map bv).toArray 24)).heap.size = w.heap.size + 1 := by simp
  have hR2 := hR0.below hb2 (by rw [hsz0]; omega)
  have hB2 := nextB hB0 (Nat.le_refl _) hb2
  rw [hsz0] at hg2
  have hgl := hp2.lt
  clear hb2 hsz0 hB0 hR0 hss
  obtain ⟨N, hN⟩ : ∃ N, (Sha.full ls.flatten).length / 64 = N := ⟨_, rfl⟩
  have hfull : (ls ++ [Sha.pad ls.flatten.length]).flatten = Sha.full ls.flatten := by rw [List.flatten_append, Sha.full]; simp
  have h64 : 64 * N = (Sha.full ls.flatten).length := by rw [← hN]; exact Sha.full_64 _
  have hNb : N ≤ 1000000000000 := by
    have h1 := Hf.out
    have h2 := Sha.full_length ls.flatten
    have h3 := (Sha.zerosOf_is ls.flatten.length).2
    omega
  have hpm : ∀ l ∈ ls ++ [Sha.pad ls.flatten.length], l.length ≤ 1000000000 := by
    intro l hl
    rcases List.mem_append.1 hl with h | h
    · exact Hm.out l h
    · rw [List.mem_singleton] at h
      subst h
      rw [Sha.pad_length]
      have := (Sha.zerosOf_is ls.flatten.length).2
      omega
  rw [hN]
  obtain ⟨S, hS⟩ : ∃ S, Sha.blocks N Sha.start (Sha.full ls.flatten) = S := ⟨_, rfl⟩
  have hsum : Sha.sum ls.flatten = Sha.outOf S := by rw [Sha.sum, hN, hS]
  have hSl : S.length = 8 := by rw [← hS]; exact Sha.blocks_length _ _ _ rfl
  have Hp2 := Lib.hid hp2
  have HR2 := Lib.hid hR2
  have HB2 := Lib.hid hB2
  have Hg2 := Lib.hid hg2
  have Hgl := Lib.hid hgl
  have Hfull := Lib.hid hfull
  have H64 := Lib.hid h64
  have Hpm := Lib.hid hpm
  have Hsum := Lib.hid hsum
  have HS := Lib.hid hS
  have HSl := Lib.hid hSl
  clear hp2 hR2 hB2 hg2 hgl hfull h64 hpm hsum hS hSl hN
  go_wp2_with (first
    | (show wpList _ _ _ (⟨none, Op.store 67 _ _, _, _, _, _⟩ :: _) _ _; refine wpList_storeRow rfl 67 _ _ rfl rfl rfl (cs := Sha.start.map wv) (old := (List.replicate 8 0#32).map wv) (Row.new rfl rfl) (by kernel_rfl) rfl rfl (hwords_one _) ?_)
    | fail)
  have hr0 := (HR2.out.alloc (.cells ((List.replicate 8 0#32).map wv).toArray 67)).setOther w2.heap.size (Sha.start.map wv).toArray (Nat.ne_of_lt HR2.out.lt)
  have hr5 : Row ((w2.alloc (.cells ((List.replicate 8 0#32).map wv).toArray 67)).setRow w2.heap.size (Sha.start.map wv).toArray) w2.heap.size (Sha.start.map wv) 67 := (Row.new (cs := (List.replicate 8 0#32).map wv) rfl rfl).setRow (Sha.start.map wv)
  have hb5 := below_setRow (HB2.out.alloc HB2.out.size (.cells ((List.replicate 8 0#32).map wv).toArray 67)) (show w.heap.size ≤ w2.heap.size from HB2.out.size) (Sha.start.map wv).toArray
  have hp5 : Pcs ((w2.alloc (.cells ((List.replicate 8 0#32).map wv).toArray 67)).setRow w2.heap.size (Sha.start.map wv).toArray) g v2 (ls ++ [Sha.pad ls.flatten.length]) :=
    Hp2.out.below (below_setRow ((Below.refl w2.heap.size w2).alloc (Nat.le_refl _) (.cells ((List.replicate 8 0#32).map wv).toArray 67)) (Nat.le_refl _) (Sha.start.map wv).toArray) Hgl.out
  obtain ⟨V, hV⟩ : ∃ V, (w2.alloc (.cells ((List.replicate 8 0#32).map wv).toArray 67)).setRow w2.heap.size (Sha.start.map wv).toArray = V := ⟨_, rfl⟩
  refine code_world hV ?_
  rw [hV] at hr0 hr5 hb5 hp5
  obtain ⟨gs, hgs⟩ : ∃ gs, w2.heap.size = gs := ⟨_, rfl⟩
  have hggs : g < gs := by rw [← hgs]; exact Hgl.out
  have hwgs : w.heap.size < gs := by have := Hg2.out; omega
  rw [hgs] at hr5 ⊢
  have Hr0 := Lib.hid hr0
  have Hr5 := Lib.hid hr5
  have Hb5 := Lib.hid hb5
  have Hp5 := Lib.hid hp5
  clear hV hr0 hr5 hb5 hp5 hgs
  go_loopw [16, 3] (fun iv pv wr => ∃ (i : Nat) (st : List (BitVec 32)) (ps : List (List UInt8)), i ≤ N ∧ iv = .int .i64 (i : Int) ∧ st.length = 8 ∧ Sha.blocks (N - i) st ps.flatten = S ∧ 64 * (N - i) ≤ ps.flatten.length ∧ ps.length ≤ 100001 ∧ (∀ l ∈ ps, l.length ≤ 1000000000) ∧
    Pcs wr g pv ps ∧ Row wr w.heap.size ((List.replicate 32 (0 : UInt8)).map bv) 24 ∧ Row wr gs (st.map wv) 67 ∧ Below w.heap.size w wr) (fun iv _ _ => N - (intOf iv).toNat)
  case atStart => exact ⟨0, Sha.start, _, Nat.zero_le _, rfl, rfl, by rw [Hfull.out, Nat.sub_zero]; exact HS.out, by rw [Hfull.out, Nat.sub_zero, H64.out]; exact Nat.le_refl _, by simp; omega, Hpm.out, Hp5.out, Hr0.out, Hr5.out, Hb5.out⟩
  case round =>
    obtain ⟨i, st, ps, hi, rfl, hst, hblk, hlen, hpsl, hpsm, hp, hr0, hr5, hb⟩ := hrel
    have Hst := Lib.hid hst
    have Hblk := Lib.hid hblk
    have Hlen := Lib.hid hlen
    have Hpsm := Lib.hid hpsm
    have Hp := Lib.hid hp
    have Hr0 := Lib.hid hr0
    have Hr5 := Lib.hid hr5
    have Hb := Lib.hid hb
    clear hst hblk hlen hpsm hp hr0 hr5 hb
    by_cases hN : i < N
    · have hN' : (i : Int) < (N : Int) := by omega
      have hsub : N - i = (N - (i + 1)) + 1 := by omega
      have Hsub := Lib.hid hsub
      clear hsub
      go_wp2_with fail
      refine (Cut_any g u3 ps _ (Hp.out.below ((Below.refl wr.heap.size wr).alloc (Nat.le_refl _) _) Hp.out.lt) (by have := Hlen.out; have := Hsub.out; omega) (by omega) Hpsm.out).mono ?_
      rintro e w3 ⟨pv', ps', rfl, hp3, hfl3, hpl3, hpm3, hk3⟩
      have hka : Ev.Keep ⟨wr.alloc (.cells ((List.replicate 16 0#32).map wv).toArray 68), fun k => k = g⟩ w3 := hk3
      have hglt := Hp.out.lt
      have hne0 : w.heap.size ≠ g := by have := Hg2.out; omega
      have hneS : gs ≠ g := by omega
      have hgb := (Row.new (w := wr) (cs := (List.replicate 16 0#32).map wv) (t := 68) rfl rfl).keep hka (show wr.heap.size ≠ g by omega)
      have hr0 := (Hr0.out.alloc (.cells ((List.replicate 16 0#32).map wv).toArray 68)).keep hka hne0
      have hr5 := (Hr5.out.alloc (.cells ((List.replicate 16 0#32).map wv).toArray 68)).keep hka hneS
      have hb3 := Below.keep (Hb.out.alloc Hb.out.size (.cells ((List.replicate 16 0#32).map wv).toArray 68)) hka (by have := Hb.out.size; simp; omega) (by have := Hg2.out; omega)
      obtain ⟨gb, hgbe⟩ : ∃ gb, wr.heap.size = gb := ⟨_, rfl⟩
      rw [hgbe] at hgb hglt ⊢
      have hgsb : gs < gb := by rw [← hgbe]; exact Hr5.out.lt
      have hwb : w.heap.size < gb := by have := Hg2.out; omega
      obtain ⟨Wd, hWd⟩ : ∃ Wd, Sha.words ps.flatten = Wd := ⟨_, rfl⟩
      have hWl : Wd.length = 16 := by rw [← hWd]; exact Sha.words_length _
      rw [hWd]
      have Hp3 := Lib.hid hp3
      have Hfl3 := Lib.hid hfl3
      have Hpm3 := Lib.hid hpm3
      have Hgb := Lib.hid hgb
      have Hr0 := Lib.hid hr0
      have Hr5 := Lib.hid hr5
      have Hb3 := Lib.hid hb3
      have HWd := Lib.hid hWd
      have HWl := Lib.hid hWl
      have HWm := Lib.hid (show (Wd.map wv).length = 16 by rw [List.length_map]; exact hWl)
      have Hsm := Lib.hid (show (st.map wv).length = 8 by rw [List.length_map]; exact Hst.out)
      clear hk3 hka hp3 hfl3 hpm3 hgb hr0 hr5 hb3 hgbe hWd hWl
      unfold arr32
      go_wp2_with (first
        | (show wpList _ _ _ (⟨none, Op.store 68 _ _, _, _, _, _⟩ :: _) _ _; refine wpList_storeRow (g := gb) rfl 68 _ _ rfl rfl rfl (cs := Wd.map wv) Hgb.out (by kernel_rfl) HWm.out (by simp) (hwords_one Wd) ?_
           have hgb := Hgb.out.setRow (Wd.map wv)
           have hr0 := Hr0.out.setOther gb (Wd.map wv).toArray (Nat.ne_of_lt hwb)
           have hr5 := Hr5.out.setOther gb (Wd.map wv).toArray (Nat.ne_of_lt hgsb)
           have hb3 := below_setRow Hb3.out (Nat.le_of_lt hwb) (Wd.map wv).toArray
           have hp3 := Hp3.out.below (below_setRow (Below.refl gb w3) (Nat.le_refl _) (Wd.map wv).toArray) hglt
           obtain ⟨V4, hV4⟩ : ∃ V4, w3.setRow gb (Wd.map wv).toArray = V4 := ⟨_, rfl⟩
           rw [hV4] at hgb hr0 hr5 hb3 hp3
           refine wpList_in hV4 ?_
           have Hgb := Lib.hid hgb
           have Hr0 := Lib.hid hr0
           have Hr5 := Lib.hid hr5
           have Hb3 := Lib.hid hb3
           have Hp3 := Lib.hid hp3
           clear hV4 hgb hr0 hr5 hb3 hp3)
        | (show wpList _ _ _ (⟨some 23, _, _, _, _, _⟩ :: _) _ _; refine wpList_loadRow (g := gs) rfl 67 _ rfl rfl Hr5.out Tryd.underlying67 rfl (by kernel_rfl) Hsm.out ?_)
        | (show wpList _ _ _ (⟨some 24, _, _, _, _, _⟩ :: _) _ _; refine wpList_loadRow (g := gb) rfl 68 _ rfl rfl Hgb.out Tryd.underlying68 rfl (by kernel_rfl) HWm.out ?_)
        | fail)
      refine (Comp_any st Wd Hst.out HWl.out V4 (Ht.out.below Hb3.out Ht.out.1)).mono ?_
      rintro e w6 ⟨rfl, hb6⟩
      have hsb := Hb3.out.size
      have hr0l := Hr0.out.lt
      have hr5l := Hr5.out.lt
      have hgl4 := Hp3.out.lt
      have Hr0 := Lib.hid (Hr0.out.below hb6 hr0l)
      have Hr5 := Lib.hid (Hr5.out.below hb6 hr5l)
      have Hp3 := Lib.hid (Hp3.out.below hb6 hgl4)
      have Hb3 := Lib.hid (nextB Hb3.out (Nat.le_refl _) hb6)
      obtain ⟨S2, hS2⟩ : ∃ S2, Sha.comp st Wd = S2 := ⟨_, rfl⟩
      have hS2l : S2.length = 8 := by rw [← hS2]; exact Sha.comp_length _ _ Hst.out
      rw [hS2]
      have HS2 := Lib.hid hS2
      have HS2l := Lib.hid hS2l
      have HS2m := Lib.hid (show (S2.map wv).length = 8 by rw [List.length_map]; exact hS2l)
      clear hb6 hsb hr0l hr5l hgl4 hS2 hS2l
      unfold arr32
      go_wp2_with (first
        | (show wpList _ _ _ (⟨none, Op.store 67 _ _, _, _, _, _⟩ :: _) _ _; refine wpList_storeRow (g := gs) rfl 67 _ _ rfl rfl rfl (cs := S2.map wv) Hr5.out (by kernel_rfl) HS2m.out Hsm.out (hwords_one S2) ?_)
        | fail)
      go_roundw
      case rel =>
        refine ⟨i + 1, S2, ps', hN, by simp, HS2l.out, ?_, ?_, by omega, Hpm3.out, ?_, Hr0.out.setOther gs _ (by omega), Hr5.out.setRow _, below_setRow Hb3.out (by omega) _⟩
        · rw [Hfl3.out, ← HS2.out, ← HWd.out]
          have := Hblk.out
          rw [Hsub.out, Sha.blocks] at this
          exact this
        · rw [Hfl3.out, List.length_drop]
          have := Hlen.out
          have := Hsub.out
          omega
        · exact Hp3.out.below (below_setRow (Below.refl gs w6) (Nat.le_refl _) _) hggs
      case measure => simp [intOf]; omega
    · have hN' : ¬ (i : Int) < (N : Int) := by omega
      have : i = N := by omega
      subst this
      have hst2 : st = S := by have := Hblk.out; rw [Nat.sub_self, Sha.blocks] at this; exact this
      subst hst2
      obtain ⟨B, hB⟩ : ∃ B, Sha.outOf st = B := ⟨_, rfl⟩
      have hBl : B.length = 32 := by rw [← hB, Sha.outOf_length, HSl.out]
      have hat : ∀ q r, q < 8 → r < 4 → B[4 * q + r]? = some (Sha.byteOf (Sha.at_ st q) r) := by
        intro q r hq hr
        rw [← hB, Sha.outOf_at _ _ _ hr, List.getElem?_eq_getElem (by rw [HSl.out]; exact hq), Sha.at_, List.getD_eq_getElem?_getD, List.getElem?_eq_getElem (by rw [HSl.out]; exact hq)]
        rfl
      have HB := Lib.hid hB
      have HBl := Lib.hid hBl
      have Hat := Lib.hid hat
      clear hB hBl hat
      go_wp2_with fail
      have hsz := Hb.out.size
      have hr7 : Row (wr.alloc (.cells ((List.replicate 32 (0 : UInt8)).map bv).toArray 24)) wr.heap.size ((Sha.fillTo 32 B 0).map bv) 24 := Row.new rfl rfl
      obtain ⟨gm, hgm⟩ : ∃ gm, wr.heap.size = gm := ⟨_, rfl⟩
      have hr0 := Hr0.out.alloc (.cells ((List.replicate 32 (0 : UInt8)).map bv).toArray 24)
      have hr5 := Hr5.out.alloc (.cells ((List.replicate 32 (0 : UInt8)).map bv).toArray 24)
      have hb7 := Hb.out.alloc hsz (.cells ((List.replicate 32 (0 : UInt8)).map bv).toArray 24)
      obtain ⟨V7, hV7⟩ : ∃ V7, wr.alloc (.cells ((List.replicate 32 (0 : UInt8)).map bv).toArray 24) = V7 := ⟨_, rfl⟩
      refine code_world hV7 ?_
      rw [hV7] at hr7 hr0 hr5 hb7
      have hgsm : gs < gm := by rw [← hgm]; exact Hr5.out.lt
      rw [hgm] at hr7 ⊢
      have Hr7 := Lib.hid hr7
      have Hr0 := Lib.hid hr0
      have Hr5 := Lib.hid hr5
      have Hb := Lib.hid hb7
      clear hV7 hr7 hr0 hr5 hb7 hgm hsz
      have HiN := Lib.hid hi
      clear hi hN hN' hNb
      obtain ⟨N, hNN⟩ : ∃ N, i = N := ⟨_, rfl⟩
      go_loopw [27] (fun iv wq => ∃ i : Nat, i ≤ 32 ∧ iv = .int .i64 (i : Int) ∧ Row wq w.heap.size ((List.replicate 32 (0 : UInt8)).map bv) 24 ∧ Row wq gs (st.map wv) 67 ∧ Row wq gm ((Sha.fillTo 32 B i).map bv) 24 ∧ Below w.heap.size w wq) (fun iv _ => 32 - (intOf iv).toNat)
      case atStart => exact ⟨0, by omega, rfl, Hr0.out, Hr5.out, Hr7.out, Hb.out⟩
      case round =>
        obtain ⟨i, hi, rfl, hr0, hr5, hr7, hb⟩ := hrel
        have Hr0 := Lib.hid hr0
        have Hr5 := Lib.hid hr5
        have Hr7 := Lib.hid hr7
        have Hb := Lib.hid hb
        clear hr0 hr5 hr7 hb
        by_cases h32 : i < 32
        · have h32' : (i : Int) < 32 := by omega
          obtain ⟨q, hq⟩ : ∃ q, i / 4 = q := ⟨_, rfl⟩
          have hq8 : q < 8 := by omega
          have hqi : (i : Int) / 4 = (q : Int) := by omega
          have hwc := Hr5.out.cell (hgetD_word st q (by rw [HSl.out]; exact hq8))
          obtain ⟨x, hx⟩ : ∃ x, Sha.at_ st q = x := ⟨_, rfl⟩
          rw [hx] at hwc
          have hfl := Sha.fillTo_length 32 B i HBl.out (by omega)
          obtain ⟨v0, hv0⟩ : ∃ v0, wr.cell? ⟨gm, i, none⟩ = some v0 := ⟨_, Hr7.out.cell (hgetD_cell _ i (by rw [hfl]; exact h32))⟩
          have hfr := frozen_row Hr7.out i
          have hset : ∀ r, r < 4 → i % 4 = r → Row (wr.setCell ⟨gm, i, none⟩ (.int .u8 (((x >>> (24 - 8 * r)).toNat % 256 : Nat) : Int))) gm ((Sha.fillTo 32 B (i + 1)).map bv) 24 := by
            intro r hr hir
            have e : i = 4 * q + r := by omega
            have h1 := Hat.out q r hq8 hr
            rw [← e, hx] at h1
            have := Hr7.out.set i (bv (Sha.byteOf x r))
            rw [← List.map_set, Sha.fillTo_set 32 B i _ HBl.out h32 h1, Sha.byteOf_is] at this
            exact this
          have Hset4 := Lib.hid hset
          clear hset hfl hx
          have Hq := Lib.hid hq
          clear hq
          have h4 : i % 4 = 0 ∨ i % 4 = 1 ∨ i % 4 = 2 ∨ i % 4 = 3 := by omega
          rcases h4 with h4 | h4 | h4 | h4
          · have hr4 : (i : Int) % 4 = 0 := by omega
            have Hset := Lib.hid (Hset4.out 0 (by omega) h4)
            clear h4
            go_wp2
            rw [sbyte0]
            go_roundw
            case rel => exact ⟨i + 1, h32, by simp, Hr0.out.other _ _ (by dsimp only; omega), Hr5.out.other _ _ (by dsimp only; omega), Hset.out, Hb.out.setCell (by dsimp only; omega) _⟩
            case measure => simp [intOf]; omega
          · have hr4 : (i : Int) % 4 = 1 := by omega
            have Hset := Lib.hid (Hset4.out 1 (by omega) h4)
            clear h4
            go_wp2
            rw [sbyte1]
            go_roundw
            case rel => exact ⟨i + 1, h32, by simp, Hr0.out.other _ _ (by dsimp only; omega), Hr5.out.other _ _ (by dsimp only; omega), Hset.out, Hb.out.setCell (by dsimp only; omega) _⟩
            case measure => simp [intOf]; omega
          · have hr4 : (i : Int) % 4 = 2 := by omega
            have Hset := Lib.hid (Hset4.out 2 (by omega) h4)
            clear h4
            go_wp2
            rw [sbyte2]
            go_roundw
            case rel => exact ⟨i + 1, h32, by simp, Hr0.out.other _ _ (by dsimp only; omega), Hr5.out.other _ _ (by dsimp only; omega), Hset.out, Hb.out.setCell (by dsimp only; omega) _⟩
            case measure => simp [intOf]; omega
          · have hr4 : (i : Int) % 4 = 3 := by omega
            have Hset := Lib.hid (Hset4.out 3 (by omega) h4)
            clear h4
            go_wp2
            rw [sbyte3]
            go_roundw
            case rel => exact ⟨i + 1, h32, by simp, Hr0.out.other _ _ (by dsimp only; omega), Hr5.out.other _ _ (by dsimp only; omega), Hset.out, Hb.out.setCell (by dsimp only; omega) _⟩
            case measure => simp [intOf]; omega
        · have h32' : ¬ (i : Int) < 32 := by omega
          have : i = 32 := by omega
          subst this
          have hr7 := Hr7.out.same (cs' := B.map bv) (by rw [Sha.fillTo_all 32 B HBl.out])
          have Hr7 := Lib.hid hr7
          have Hlb := Lib.hid (show (B.map bv).length = 32 by rw [List.length_map]; exact HBl.out)
          clear hr7
          go_wp2_with (first
            | (refine wpList_loadRow rfl 24 _ rfl rfl Hr7.out Tryd.underlying24 rfl (by kernel_rfl) Hlb.out ?_)
            | (refine wpList_storeRow rfl 24 _ _ rfl rfl rfl Hr0.out (by kernel_rfl) Hlb.out (by simp) (hbytes_one B) ?_))
          refine bodyPost_ret (results_row rfl _ rfl (Hr0.out.setRow (B.map bv)) Tryd.underlying24 rfl (by kernel_rfl) Hlb.out) rfl ?_
          exact ⟨by rw [Hsum.out, HB.out]; rfl, below_setRow Hb.out (by omega) _⟩
end Go.Proofs.YtmfpjdbgdmmjkaaDoor
namespace Go.Proofs.YtmfpjdbgdmmjkaaDoor
namespace ByJ
open Go.RowKit Ev By

/-- What is known of the world ahead of operation i. -/
def Pre (T0 T : World → World → Prop) (J i : Nat) (x y : World) : Prop := if i = J then T0 x y else T x y
/-- How operation i may turn the world. -/
def Post (T0 T : World → World → Prop) (J i : Nat) (x y : World) : Prop := if i = J then T x y else T0 x y

section
variable {P : Program} {ops : Array Oper} {Q : Exit → Act → World → Prop} {V : Nat → Value → World → Prop} {T0 T : World → World → Prop} {J : Nat} {a0 : Act} {w0 : World}

def Can (P : Program) (ops : Array Oper) (Q : Exit → Act → World → Prop) (V : Nat → Value → World → Prop) (T0 T : World → World → Prop) (J : Nat) (a0 : Act) (w0 : World) (i : Nat) (o : Oper) : Prop :=
  ∀ (a : Act) (w : World), Pre T0 T J i w0 w → (∀ t, (∀ (j : Nat) (oj : Oper), ops[j]? = some oj → oj.dst = some t → Anc ops j i) → a.tmps.getD t undef = a0.tmps.getD t undef) →
    (∀ (j : Nat) (oj : Oper) (d : Tmp), Anc ops i j → ops[j]? = some oj → oj.dst = some d → V j (a.tmps.getD d undef) w) →
    (Region.wanted o (yielded ops a.tmps) = true → o.wp P a w (fun a' w' => ∃ v, a' = a.put o.dst v ∧ Post T0 T J i w w' ∧ V i v w') Q) ∧ (Region.wanted o (yielded ops a.tmps) = false → V i undef w)

structure Mid (ops : Array Oper) (V : Nat → Value → World → Prop) (T0 T : World → World → Prop) (J : Nat) (a0 : Act) (w0 : World) (L : Array Bool) (a : Act) (w : World) : Prop where
  size : L.size = ops.size
  closed : ∀ (i : Nat) (o : Oper), L.getD i false = true → ops[i]? = some o → ∀ e ∈ o.after, Region.binds .any e = true → L.getD e.on false = true
  defers : a.defers = a0.defers
  asize : a.tmps.size = a0.tmps.size
  tr : T w0 w
  tj : L.getD J false = false → T0 w0 w
  done : ∀ (j : Nat) (o : Oper) (d : Tmp), L.getD j false = true → ops[j]? = some o → o.dst = some d → V j (a.tmps.getD d undef) w
  keep : ∀ t, (∀ (j : Nat) (o : Oper), ops[j]? = some o → o.dst = some t → L.getD j false = false) → a.tmps.getD t undef = a0.tmps.getD t undef

theorem Mid.step (h01 : ∀ x y, T0 x y → T x y) (hT00 : ∀ x, T0 x x) (hTT : ∀ x y z : World, T0 x y → T0 y z → T0 x z) (hT : ∀ x y z : World, T x y → T y z → T x z) (hV : ∀ (i : Nat) (v : Value) (x y : World), V i v x → T x y → V i v y) (hf : Fit ops a0.tmps.size)
    (hc : ∀ (i : Nat) (o : Oper), ops[i]? = some o → Can P ops Q V T0 T J a0 w0 i o) (hT0 : ∀ x, T x x) {L : Array Bool} {a : Act} {w : World} (h : Mid ops V T0 T J a0 w0 L a w) {i : Nat} (hi : i ∈ Region.ready .any ops L)
    {K : Act → World → Prop} (hK : ∀ a1 w1, Mid ops V T0 T J a0 w0 (L.setIfInBounds i true) a1 w1 → K a1 w1) : wpOp P ops Q i K a w := by
  obtain ⟨hun, o, ho, hpre⟩ := mem_ready.1 hi
  have hlt : i < ops.size := (Array.getElem?_eq_some_iff.1 ho).1
  have hiL : i < L.size := by rw [h.size]; exact hlt
  have hnot : L.getD i false = false := by
    rw [Array.getD_eq_getD_getElem?, Array.getElem?_eq_getElem hiL] at hun ⊢
    simpa using hun
  have hpre' : ∀ e ∈ o.after, Region.binds .any e = true → L.getD e.on false = true := hpre
  have hnext : ∀ (v : Value) (w' : World), Post T0 T J i w w' → V i v w' → Mid ops V T0 T J a0 w0 (L.setIfInBounds i true) (a.put o.dst v) w' := by
    intro v w' hp hv
    have ht : T w w' := by
      unfold Post at hp
      split at hp
      · exact hp
      · exact h01 _ _ hp
    refine ⟨by simp [h.size], ?_, (act_put_defers a o.dst v).trans h.defers, (act_put_size a o.dst v).trans h.asize, hT _ _ _ h.tr ht, ?_, ?_, ?_⟩
    rotate_left 1
    · intro hJ
      rw [set_getD L i _ hiL] at hJ
      split at hJ
      · cases hJ
      · rename_i hne
        unfold Post at hp
        rw [if_neg (fun e => hne (by rw [e]))] at hp
        exact hTT _ _ _ (h.tj hJ) hp
    rotate_left 2
    · intro j oj hj hoj e he hb
      rw [set_getD L i _ hiL] at hj ⊢
      split
      · rfl
      · split at hj
        · rename_i hji
          subst hji
          rw [ho] at hoj; injection hoj with hoj; subst hoj
          exact hpre' e he hb
        · exact h.closed j oj hj hoj e he hb
    · intro j oj d hj hoj hd
      rw [set_getD L i _ hiL] at hj
      rw [act_put_getD]
      split at hj
      · rename_i hji
        subst hji
        rw [ho] at hoj; injection hoj with hoj; subst hoj
        rw [if_pos ⟨hd, by rw [h.asize]; exact hf.small _ _ _ ho hd⟩]
        exact hv
      · rename_i hji
        rw [if_neg (by rintro ⟨hd', _⟩; exact hji (hf.one _ _ _ _ _ hoj ho hd hd'))]
        exact hV _ _ _ _ (h.done j oj d hj hoj hd) ht
    · intro t hkt
      rw [act_put_getD]
      rw [if_neg (by
        rintro ⟨hd, _⟩
        have := hkt i o ho hd
        rw [set_getD L i _ hiL, if_pos rfl] at this
        cases this)]
      refine h.keep t fun j oj hoj hd => ?_
      have := hkt j oj hoj hd
      rw [set_getD L i _ hiL] at this
      split at this
      · cases this
      · exact this
  obtain ⟨h1, h2⟩ := hc i o ho a w (by
      unfold Pre
      split
      · rename_i e
        exact h.tj (by rw [← e]; exact hnot)
      · exact h.tr)
    (fun t ht => h.keep t fun j oj hoj hd => by
      cases hjl : L.getD j false with
      | false => rfl
      | true =>
        have := (ht j oj hoj hd).listed (L := fun k => L.getD k false = true) (fun k ok hk hok => h.closed k ok hk hok) hjl
        rw [hnot] at this; cases this)
    (fun j oj d hanc hoj hd => h.done j oj d (hanc.ready (L := fun k => L.getD k false = true) (fun k ok hk hok => h.closed k ok hk hok) ho hpre') hoj hd)
  unfold wpOp
  simp only [ho]
  cases hw : Region.wanted o (yielded ops a.tmps) with
  | true =>
    rw [if_pos rfl]
    refine .inl (Oper.wp_mono ?_ (h1 hw))
    rintro a' w' ⟨v, rfl, ht, hv⟩
    exact hK _ _ (hnext v w' ht hv)
  | false =>
    rw [if_neg (by simp)]
    exact hK _ _ (hnext undef w (by unfold Post; split; exact hT0 w; exact hT00 w) (h2 hw))

theorem Mid.all (hf : Fit ops a0.tmps.size) {L : Array Bool} {a : Act} {w : World} (h : Mid ops V T0 T J a0 w0 L a w) (hr : Region.ready .any ops L = []) : ∀ (n i : Nat), i < n → i < ops.size → L.getD i false = true := by
  intro n
  induction n with
  | zero => intro i hi; omega
  | succ n ih =>
    intro i hi hlt
    cases hl : L.getD i false with
    | true => rfl
    | false =>
      have hm : i ∈ Region.ready .any ops L := mem_ready.2 ⟨by
        have hiL : i < L.size := by rw [h.size]; exact hlt
        rw [Array.getD_eq_getD_getElem?, Array.getElem?_eq_getElem hiL] at hl ⊢
        simpa using hl, ops[i], Array.getElem?_eq_getElem hlt, fun e he hb => by
        have hlt2 := hf.back i ops[i] (Array.getElem?_eq_getElem hlt) e he hb
        exact ih e.on (by omega) (by omega)⟩
      rw [hr] at hm
      cases hm

theorem any (h01 : ∀ x y, T0 x y → T x y) (hT00 : ∀ x, T0 x x) (hTT : ∀ x y z : World, T0 x y → T0 y z → T0 x z) (hT0 : ∀ x, T x x) (hT : ∀ x y z : World, T x y → T y z → T x z) (hV : ∀ (i : Nat) (v : Value) (x y : World), V i v x → T x y → V i v y) (hf : Fit ops a0.tmps.size)
    (hc : ∀ (i : Nat) (o : Oper), ops[i]? = some o → Can P ops Q V T0 T J a0 w0 i o)
    (hend : ∀ (L : Array Bool) (a : Act) (w : World), Mid ops V T0 T J a0 w0 L a w → (∀ i, i < ops.size → L.getD i false = true) → Q .normal a w) :
    ∀ (fuel : Nat) (L : Array Bool) (a : Act) (w : World), L.toList.count false ≤ fuel → Mid ops V T0 T J a0 w0 L a w → wpAny P .any ops Q fuel L a w := by
  have hnorm : ∀ (L : Array Bool) (a : Act) (w : World), Mid ops V T0 T J a0 w0 L a w → Region.ready .any ops L = [] → Q .normal a w := fun L a w h hr => hend L a w h fun i hi => h.all hf hr (i + 1) i (by omega) hi
  intro fuel
  induction fuel with
  | zero =>
    intro L a w hcn h
    have hr : Region.ready .any ops L = [] := by
      cases hrr : Region.ready .any ops L with
      | nil => rfl
      | cons i r =>
        have hi : i ∈ Region.ready .any ops L := by rw [hrr]; exact List.mem_cons_self ..
        obtain ⟨hun, o, ho, _⟩ := mem_ready.1 hi
        have hlt : i < L.size := by rw [h.size]; exact (Array.getElem?_eq_some_iff.1 ho).1
        rw [Array.getD_eq_getD_getElem?, Array.getElem?_eq_getElem hlt] at hun
        have hm : false ∈ L.toList := by
          rw [Array.mem_toList_iff]
          have : L[i] = false := by simpa using hun
          rw [← this]; exact Array.getElem_mem hlt
        have := List.count_pos_iff.2 hm
        omega
    exact ⟨hr, hnorm L a w h hr⟩
  | succ fuel ih =>
    intro L a w hcn h
    refine ⟨hnorm L a w h, fun i hi => ?_⟩
    refine h.step h01 hT00 hTT hT hV hf hc hT0 hi fun a1 w1 h1 => ih _ a1 w1 ?_ h1
    obtain ⟨hun, o, ho, _⟩ := mem_ready.1 hi
    have hlt : i < L.size := by rw [h.size]; exact (Array.getElem?_eq_some_iff.1 ho).1
    rw [Array.getD_eq_getD_getElem?, Array.getElem?_eq_getElem hlt] at hun
    have hb : L.toList[i]'(by simpa using hlt) = false := by simpa using hun
    have hcs := List.count_set (a := true) (b := false) (l := L.toList) (i := i) (by simpa using hlt)
    rw [hb] at hcs
    have e1 : (if (false == false) = true then 1 else 0) = 1 := rfl
    have e2 : (if (true == false) = true then 1 else 0) = 0 := rfl
    rw [e1, e2] at hcs
    rw [Array.toList_setIfInBounds, hcs]
    omega

/-- The end, by the values of the slots in the text's order. -/
theorem Mid.puts (hf : Fit ops a0.tmps.size) {L : Array Bool} {a : Act} {w : World} (h : Mid ops V T0 T J a0 w0 L a w) (hall : ∀ i, i < ops.size → L.getD i false = true) :
    ∃ vs : List Value, vs.length = ops.size ∧ a = By.puts ops.toList vs a0 ∧ ∀ (j : Nat) (o : Oper) (v : Value), ops[j]? = some o → o.dst.isSome = true → vs[j]? = some v → V j v w := by
  have hvs : ∀ (j : Nat) (o : Oper), ops[j]? = some o → (ops.toList.map fun o : Oper => a.tmps.getD (o.dst.getD 0) undef)[j]? = some (a.tmps.getD (o.dst.getD 0) undef) := by
    intro j o hj
    rw [List.getElem?_map, Array.getElem?_toList, hj]
    rfl
  refine ⟨ops.toList.map fun o => a.tmps.getD (o.dst.getD 0) undef, by simp, ?_, ?_⟩
  · refine act_ext (by rw [puts_size, h.asize]) (by rw [puts_defers, h.defers]) fun t ht => ?_
    by_cases hex : ∃ o ∈ ops.toList, o.dst = some t
    · obtain ⟨o, ho, hd⟩ := hex
      obtain ⟨j, hj⟩ := List.getElem?_of_mem ho
      have hj' : ops[j]? = some o := by rwa [Array.getElem?_toList] at hj
      rw [puts_at ops.toList _ a0 j o _ t (fun i j o o' d q1 q2 => hf.one i j o o' d (by rwa [Array.getElem?_toList] at q1) (by rwa [Array.getElem?_toList] at q2)) hj (hvs j o hj') hd (hf.small _ _ _ hj' hd), hd]
      rfl
    · rw [puts_other _ _ _ _ (fun o ho hd => hex ⟨o, ho, hd⟩)]
      exact h.keep t fun j o hj hd => (hex ⟨o, by rw [Array.mem_toList_iff]; exact Array.mem_of_getElem? hj, hd⟩).elim
  · intro j o v hj hd hv
    rw [hvs j o hj] at hv
    injection hv with hv
    subst hv
    cases hdd : o.dst with
    | none => rw [hdd] at hd; cases hd
    | some d => exact h.done j o d (hall j (Array.getElem?_eq_some_iff.1 hj).1) hj hdd

/-- THE RULE. -/
theorem region (hm : P.follows .mixedOrders = true) {id : Nat} {W : World} {A : Act} (hf : Fit ops A.tmps.size) (T0 T : World → World → Prop) (J : Nat) (h01 : ∀ x y, T0 x y → T x y) (hT00 : ∀ x, T0 x x) (hTT : ∀ x y z : World, T0 x y → T0 y z → T0 x z) (V : Nat → Value → World → Prop) (hT0 : ∀ x, T x x) (hT : ∀ x y z : World, T x y → T y z → T x z)
    (hV : ∀ (i : Nat) (v : Value) (x y : World), V i v x → T x y → V i v y)
    (hc : ∀ (i : Nat) (o : Oper), ops[i]? = some o → Can P ops Q V T0 T J A W.drew i o)
    (hend : ∀ (vs : List Value) (w : World), vs.length = ops.size → T W.drew w → (∀ (j : Nat) (o : Oper) (v : Value), ops[j]? = some o → o.dst.isSome = true → vs[j]? = some v → V j v w) → Q .normal (puts ops.toList vs A) w) :
    (Code.region id ops true).wp P Q A W := by
  refine wp_region_any hm ?_
  refine any (V := V) (T0 := T0) (T := T) (J := J) (a0 := A) (w0 := W.drew) h01 hT00 hTT hT0 hT hV hf hc (fun L a w h hall => ?_) ops.size _ A _ ?_ ⟨by simp, ?_, rfl, rfl, hT0 _, fun _ => hT00 _, ?_, fun _ _ => rfl⟩
  · obtain ⟨vs, h1, rfl, h3⟩ := h.puts hf hall
    exact hend vs w h1 h.tr h3
  · simp
  · intro i o hi
    simp [Array.getD_eq_getD_getElem?, Array.getElem?_replicate] at hi
    split at hi <;> simp at hi
  · intro j o d hj
    simp [Array.getD_eq_getD_getElem?, Array.getElem?_replicate] at hj
    split at hj <;> simp at hj
end


/-! ### The rule over lists -/
section
variable {P : Program} {Q : Exit → Act → World → Prop} {T0 T : World → World → Prop} {J : Nat}

/-- What is asked of each operation. -/
def Each (P : Program) (Q : Exit → Act → World → Prop) (T0 T : World → World → Prop) (J : Nat) (A : Act) (W : World) (l : List Oper) (ms : List Nat) (Vs : List (Value → World → Prop)) : Nat → List Oper → List (Value → World → Prop) → Prop
  | i, o :: r, V :: Vr => (∀ (a : Act) (w : World), Pre T0 T J i W w → same a A l ms i (o.looksAt l.toArray) → given a w l Vs (ms.getD i 0) →
      (want l a o = true → o.wp P a w (fun a' w' => ∃ v, a' = a.put o.dst v ∧ Post T0 T J i w w' ∧ V v w') Q) ∧ (want l a o = false → V undef w)) ∧ Each P Q T0 T J A W l ms Vs (i + 1) r Vr
  | _, [], [] => True
  | _, _, _ => False

theorem Each.at {A : Act} {W : World} {l : List Oper} {ms : List Nat} {Vs : List (Value → World → Prop)} : ∀ (k : Nat) (r : List Oper) (Vr : List (Value → World → Prop)), Each P Q T0 T J A W l ms Vs k r Vr → r.length = Vr.length ∧ ∀ (j : Nat) (o : Oper) (V : Value → World → Prop), r[j]? = some o → Vr[j]? = some V →
    ∀ (a : Act) (w : World), Pre T0 T J (k + j) W w → same a A l ms (k + j) (o.looksAt l.toArray) → given a w l Vs (ms.getD (k + j) 0) →
      (want l a o = true → o.wp P a w (fun a' w' => ∃ v, a' = a.put o.dst v ∧ Post T0 T J (k + j) w w' ∧ V v w') Q) ∧ (want l a o = false → V undef w)
  | k, [], [], _ => ⟨rfl, fun j o V h => by simp at h⟩
  | k, [], _ :: _, h => by simp [Each] at h
  | k, _ :: _, [], h => by simp [Each] at h
  | k, o :: r, V :: Vr, h => by
    obtain ⟨h1, h2⟩ := h
    obtain ⟨h3, h4⟩ := Each.at (k + 1) r Vr h2
    refine ⟨by simp [h3], fun j o' V' hj hV => ?_⟩
    cases j with
    | zero =>
      simp only [List.getElem?_cons_zero, Option.some.injEq] at hj hV
      subst hj; subst hV
      exact h1
    | succ j =>
      have := h4 j o' V' (by simpa using hj) (by simpa using hV)
      rwa [show k + 1 + j = k + (j + 1) by omega] at this

/-- THE RULE, OVER LISTS: 'Vs': what each operation leaves; 'ms': the masks of what goes ahead of each. -/
theorem go (hm : P.follows .mixedOrders = true) (ms : List Nat) (Vs : List (Value → World → Prop)) (T0 T : World → World → Prop) (J : Nat) (h01 : ∀ x y, T0 x y → T x y) (hT00 : ∀ x, T0 x x) (hTT : ∀ x y z : World, T0 x y → T0 y z → T0 x z) {id : Nat} {l : List Oper} {W : World} {A : Act} (hf : fitB l A.tmps.size = true) (hms : masks l [] = ms)
    (hT0 : ∀ x, T x x) (hT : ∀ x y z, T x y → T y z → T x z) (hV : ∀ V ∈ Vs, ∀ (v : Value) (x y : World), V v x → T x y → V v y)
    (hc : Each P Q T0 T J A W.drew l ms Vs 0 l Vs) (hend : By.Ends Q l Vs A (fun w => T W.drew w)) : (Code.region id l.toArray true).wp P Q A W := by
  have hsome : ∀ oj ∈ l, oj.dst.isSome = true := by
    simp only [fitB, Bool.and_eq_true, List.all_eq_true] at hf
    exact hf.2
  obtain ⟨hlen, hat⟩ := Each.at 0 l Vs hc
  have hanc : ∀ i j, (ms.getD i 0).testBit j = true → Anc l.toArray i j := by
    intro i j h
    rw [← hms] at h
    exact masks_spec l.toArray l [] (fun j o h => by simpa using h) (fun i j h => by simp at h) i j h
  refine region hm (fit_of hf) T0 T J h01 hT00 hTT (fun i v w => ∀ V, Vs[i]? = some V → V v w) hT0 hT (fun i v x y h ht V hV' => hV V (List.mem_of_getElem? hV') v x y (h V hV') ht) ?_ ?_
  · intro i o hi a w htr hs hg
    have hi' : l[i]? = some o := by simpa using hi
    obtain ⟨V, hVi⟩ : ∃ V, Vs[i]? = some V := ⟨_, List.getElem?_eq_getElem (by rw [← hlen]; exact (List.getElem?_eq_some_iff.1 hi').1)⟩
    rw [want_eq hsome]
    have := hat i o V hi' hVi a w (by rw [Nat.zero_add]; exact htr)
      (same_of _ fun t ht => by
        rw [Nat.zero_add] at ht
        refine hs t fun j oj hj hd => hanc j i ?_
        have hz := List.all_eq_true.1 ht (oj, j) (zip_mem (by simpa using hj))
        simpa [hd] using hz)
      (given_of _ _ _ fun j oj Vj hj hVj hb => by
        rw [Nat.zero_add] at hb
        have hd := hsome oj (List.mem_of_getElem? hj)
        cases hdd : oj.dst with
        | none => rw [hdd] at hd; cases hd
        | some d => exact hg j oj d (hanc i j hb) (by simpa using hj) hdd Vj hVj)
    simp only [Nat.zero_add] at this
    refine ⟨fun h => Oper.wp_mono ?_ (this.1 h), fun h V' hV' => by rw [hVi] at hV'; injection hV' with e; subst e; exact this.2 h⟩
    rintro a' w' ⟨v, h1, h2, h3⟩
    exact ⟨v, h1, h2, fun V' hV' => by rw [hVi] at hV'; injection hV' with e; subst e; exact h3⟩
  · intro vs w hlv htr hv
    refine By.Ends.use l Vs A _ vs w hlen (by simpa using hlv) hend htr fun j v V h1 h2 => ?_
    obtain ⟨o, ho⟩ : ∃ o, l[j]? = some o := ⟨_, List.getElem?_eq_getElem (by rw [hlen]; exact (List.getElem?_eq_some_iff.1 h2).1)⟩
    exact hv j o v (by simpa using ho) (hsome o (List.mem_of_getElem? ho)) h1 V h2
end

/-- THE RULE, BY MARKS. -/
theorem marks {P : Program} {Q : Exit → Act → World → Prop} (hm : P.follows .mixedOrders = true) (T0 T : World → World → Prop) (J : Nat) (h01 : ∀ x y, T0 x y → T x y) (hT00 : ∀ x, T0 x x) (hTT : ∀ x y z : World, T0 x y → T0 y z → T0 x z) (Ms : List (By.Mark T)) (ms : List Nat) {id : Nat} {l : List Oper} {W : World} {A : Act} (hf : fitB l A.tmps.size = true) (hms : masks l [] = ms)
    (hT0 : ∀ x, T x x) (hT : ∀ x y z, T x y → T y z → T x z)
    (hc : Each P Q T0 T J A W.drew l ms (Ms.map (·.on)) 0 l (Ms.map (·.on))) (hend : By.Ends Q l (Ms.map (·.on)) A (fun w => T W.drew w)) : (Code.region id l.toArray true).wp P Q A W :=
  go hm ms (Ms.map (·.on)) T0 T J h01 hT00 hTT hf hms hT0 hT (fun V hV v x y h ht => by
    obtain ⟨M, _, rfl⟩ := List.mem_map.1 hV
    exact M.stays v x y h ht) hc hend


theorem guarded {c : Prop} [Decidable c] {T R : World → World → Prop} {M : By.Mark T} {P : Program} {Q : Exit → Act → World → Prop} {o : Oper} {a : Act} {w : World} {b : Bool} (hw : b = decide c) (h : c → o.wp P a w (fun a' w' => ∃ v, a' = a.put o.dst v ∧ R w w' ∧ M.on v w') Q) :
    (b = true → o.wp P a w (fun a' w' => ∃ v, a' = a.put o.dst v ∧ R w w' ∧ (when c M).on v w') Q) ∧ (b = false → (when c M).on undef w) := by
  refine ⟨fun hb => ?_, fun hb => ?_⟩
  · have hc : c := by rw [hw] at hb; simpa using hb
    refine Oper.wp_mono ?_ (h hc)
    rintro a' w' ⟨v, h1, h2, h3⟩
    exact ⟨v, h1, h2, by unfold when; simp only [if_pos hc]; exact h3⟩
  · have hc : ¬ c := by rw [hw] at hb; simpa using hb
    unfold when
    simp only [if_neg hc]
end ByJ
end Go.Proofs.YtmfpjdbgdmmjkaaDoor
namespace Go.Proofs.YtmfpjdbgdmmjkaaDoor
open Go.RowKit

theorem and1 : bits .and .u64 1 4294967295 = 1 := by decide
theorem and64 : bits .and .u64 64 4294967295 = 64 := by decide
theorem and0 : bits .and .u64 0 4294967295 = 0 := by decide
theorem mul64_any (w : World) : Calls Tryd.prog 118 #[.int .u64 1, .int .u64 64] w fun e w1 => e = .returned (.tuple #[.int .u64 0, .int .u64 64]) ∧ w = w1 := by
  have h1 := and1
  have h2 := and64
  have h3 := and0
  go_enter Tryd.func118, Tryd.ntmps118
  go_wp2
  refine bodyPost_ret (results_tmp2 rfl _ _ _) rfl ?_
  exact ⟨rfl, rfl⟩
theorem mul_any (w : World) : Calls Tryd.prog 97 #[.int .u64 1, .int .u64 64] w fun e w1 => e = .returned (.tuple #[.int .u64 0, .int .u64 64]) ∧ w = w1 := by
  go_enter Tryd.func97, Tryd.ntmps97
  go_wp2_with (first
    | (go_at_call 118; refine (mul64_any _).mono ?_; rintro e w1 ⟨rfl, rfl⟩)
    | fail)
  refine bodyPost_ret (results_tmp2 rfl _ _ _) rfl ?_
  exact ⟨rfl, rfl⟩

theorem splice_rep {α : Type} (v : α) (p : Nat) (R : List α) : splice (List.replicate p v ++ R) p (List.replicate p v) = List.replicate (p + p) v ++ R.drop p := by
  have e1 : (List.replicate p v ++ R).take p = List.replicate p v := by rw [List.take_append_of_le_length (by simp)]; simp
  have e2 : (List.replicate p v ++ R).drop (p + p) = R.drop p := by
    rw [List.drop_append, List.drop_of_length_le (by simp), List.nil_append, List.length_replicate]
    congr 1
    omega
  rw [splice, List.length_replicate, e1, e2, ← List.append_assoc, List.replicate_append_replicate]

set_option maxRecDepth 8000 in
set_option maxHeartbeats 1000000 in
theorem Rep_any (x : UInt8) (gb : Nat) (w : World) (hb : w.cell? ⟨gb, 0, none⟩ = some (bv x)) (hlt : gb < w.heap.size) :
    Calls Tryd.prog 76 #[.slice (some ⟨gb, 0, none⟩) 1 1, .int .i64 64] w fun e w' => ∃ g R, e = .returned (.slice (some ⟨g, 0, none⟩) 64 64) ∧ w.heap.size ≤ g ∧ Row w' g ((List.replicate 64 x).map bv ++ R) 5 ∧ Below w.heap.size w w' := by
  have Hb := Lib.hid hb
  have Hlt := Lib.hid hlt
  clear hb hlt
  obtain ⟨cs, hrunM, hle, _⟩ := Lib.run_makeNoZero (P := Tryd.prog) w #[3] 23 5 Tryd.underlying23 64 (by omega)
  have hcall : (callFunc 98 #[.int .i64 64]).run Tryd.prog w = .ok (.value (.slice (some ⟨w.heap.size, 0, none⟩) 64 cs.size)) ((w.alloc (.cells cs 5)).drewN 2) := by
    rw [run_callFunc_extern Tryd.func98 (by kernel_rfl) (by kernel_rfl) (by kernel_rfl) (e := Extern.BytealgMakeNoZero.makeNoZero #[3] #[23]) (by kernel_rfl), show (Value.int .i64 64) = .int .i64 ((64 : Nat) : Int) from rfl, hrunM]
    rfl
  have hcap : (64 : Int) ≤ (cs.size : Int) := by omega
  have Hle := Lib.hid hle
  have hsrc : ∀ (j : Nat) (v : Value), [bv x][j]? = some v → ((w.alloc (.cells cs 5)).drewN 2).cell? ((⟨gb, 0, none⟩ : Addr).add j) = some v := by
    intro j v hj
    cases j with
    | zero =>
      simp at hj
      subst hj
      rw [show (⟨gb, 0, none⟩ : Addr).add 0 = ⟨gb, 0, none⟩ by unfold Addr.add; split <;> simp_all]
      exact (World.cell?_alloc_lt w (.cells cs 5) ⟨gb, 0, none⟩ Hlt.out).trans Hb.out
    | succ j => simp at hj
  have Hsrc := Lib.hid hsrc
  have hrow0 : Row ((w.alloc (.cells cs 5)).drewN 2) w.heap.size cs.toList 5 := Row.drewN (Row.new rfl (by simp)) 2
  have Hrow0 := Lib.hid hrow0
  clear hrunM hle hsrc hrow0
  go_enter Tryd.func76, Tryd.ntmps76
  go_wp2_with (first
    | (go_at_call 97; refine (mul_any _).mono ?_; rintro e w1 ⟨rfl, rfl⟩)
    | (show wpList _ _ _ (⟨some 60, _, _, _, _, _⟩ :: _) _ _; go_loud (
       refine wpList_copy_keep rfl (.tmp 58) (.tmp 59) 23 23 rfl 5 (by kernel_rfl) (by kernel_rfl) rfl rfl Hrow0.out [bv x] (by rfl) Hsrc.out (by have := Hle.out; simp; omega) (by intro v hv; simp at hv; subst hv; rfl) ?_
       intro W hr hk
       have Hr := Lib.hid hr
       have Hk := Lib.hid hk
       clear hr hk))
    | fail)
  have hb0 : Below w.heap.size w W := Below.keep (((Below.refl _ w).alloc (Nat.le_refl _) (.cells cs 5)).drew.drew) Hk.out (by show w.heap.size ≤ (w.alloc _).heap.size; simp) (Nat.le_refl _)
  have hr0 : ∃ R, R.length + 1 = cs.size ∧ Row W w.heap.size ((List.replicate 1 x).map bv ++ R) 5 := by
    refine ⟨cs.toList.drop 1, by have := Hle.out; simp; omega, Hr.out.same ?_⟩
    simp [splice]
  obtain ⟨R0, hR0, hr0⟩ := hr0
  have Hb0 := Lib.hid hb0
  have Hr0 := Lib.hid hr0
  have HR0 := Lib.hid hR0
  clear hb0 hr0 hR0
  go_loopw [10] (fun pv wr => ∃ (p : Nat) (R : List Value), (p = 1 ∨ p = 2 ∨ p = 4 ∨ p = 8 ∨ p = 16 ∨ p = 32 ∨ p = 64) ∧ pv = .int .i64 (p : Int) ∧ R.length + p = cs.size ∧ Row wr w.heap.size ((List.replicate p x).map bv ++ R) 5 ∧ Below w.heap.size w wr) (fun pv _ => 64 - (intOf pv).toNat)
  case atStart => exact ⟨1, R0, by omega, rfl, HR0.out, Hr0.out, Hb0.out⟩
  case round =>
    obtain ⟨p, R, hp, rfl, hR, hr, hb⟩ := hrel
    have Hp := Lib.hid hp
    have HR := Lib.hid hR
    have Hr := Lib.hid hr
    have Hbl := Lib.hid hb
    clear hp hR hr hb
    by_cases h64 : p < 64
    · have h64' : (p : Int) < 64 := by omega
      have hpm : ¬ (64 : Int) < (p : Int) := by omega
      have hp0 : 0 < p := by have := Hp.out; omega
      have hne : ¬ (64 = p) := by omega
      have hwp : IntKind.i64.wrap ((p : Int) + (p : Int)) = (p : Int) + (p : Int) := IntWalk.i64_in _ (by omega)
      have hmin : min p (64 - p) = p := by have := Hp.out; omega
      have hmin' : Nat.min p (64 - p) = p := hmin
      have Hsrc2 : Hid (∀ (j : Nat) (v : Value), (List.replicate p (bv x))[j]? = some v → wr.drew.cell? ((⟨w.heap.size, 0, none⟩ : Addr).add j) = some v) := fun j v hj => by
        rw [show (⟨w.heap.size, 0, none⟩ : Addr).add j = ⟨w.heap.size, 0 + j, none⟩ by unfold Addr.add; split <;> simp_all, Nat.zero_add]
        refine Row.cell (w := wr.drew) Hr.out ?_
        have hlt : j < p := by have := (List.getElem?_eq_some_iff.1 hj).1; simpa using this
        rw [List.getElem?_append_left (by simpa using hlt), List.map_replicate]
        exact hj
      have Hfit : Hid (p + (List.replicate p (bv x)).length ≤ ((List.replicate p x).map bv ++ R).length) := by have h1 := HR.out; have h2 := Hle.out; have h3 := Hp.out; show p + _ ≤ _; simp; omega
      have Hlen : Hid ((List.replicate p (bv x)).length = Nat.min p (64 - p)) := by show _ = _; rw [hmin']; simp
      have Hone : Hid (∀ v ∈ List.replicate p (bv x), v.oneCell' = true) := fun v hv => by rw [List.eq_of_mem_replicate hv]; rfl
      clear hmin hmin'
      go_wp2_with fail
      go_region_law (refine step_copy_splice rfl (.tmp 70) (.tmp 73) 23 23 rfl 5 (by kernel_rfl) (by kernel_rfl) (some ⟨w.heap.size, p, none⟩) (some ⟨w.heap.size, 0, none⟩) (64 - p) (64 - p) p 64 (by simp [Act.eval, Act.put]) (by simp [Act.eval, Act.put]) w.heap.size p ((List.replicate p x).map bv ++ R) 5 Hr.out (List.replicate p (bv x)) Hlen.out (fun _ => ⟨rfl, _, rfl, Hsrc2.out⟩) Hfit.out Hone.out w.heap.size w Hbl.out.drew (Nat.le_refl _) ?_; intro w4 hg4 hb4)
      have Hg4 : Row w4 w.heap.size (splice ((List.replicate p x).map bv ++ R) p (List.replicate p (bv x))) 5 := hg4
      have Hb4 := Lib.hid hb4
      have hR4 : ∃ R2, R2.length + (p + p) = cs.size ∧ Row w4 w.heap.size ((List.replicate (p + p) x).map bv ++ R2) 5 := by
        refine ⟨R.drop p, ?_, Hg4.same ?_⟩
        · have h1 := HR.out
          have h2 := Hle.out
          have h3 := Hp.out
          rw [List.length_drop]
          omega
        · rw [List.map_replicate, List.map_replicate, splice_rep]
      have HR4 := Lib.hid hR4
      clear hg4 hb4 Hg4 hR4
      simp only [Act.put, List.getElem_toArray, List.getElem_cons_succ, List.getElem_cons_zero, List.setIfInBounds_toArray, List.set_cons_succ, List.set_cons_zero]
      go_wp2
      go_roundw
      case rel =>
        obtain ⟨R2, h1, h2⟩ := HR4.out
        exact ⟨p + p, R2, by have := Hp.out; omega, by simp, h1, h2, Hb4.out⟩
      case measure => simp [intOf]; omega
    · have h64' : ¬ (p : Int) < 64 := by omega
      have : p = 64 := by have := Hp.out; omega
      subst this
      go_wp2
      go_ret
      first
        | exact ⟨w.heap.size, rfl, Nat.le_refl _, ⟨R, Hr.out⟩, Hbl.out⟩
        | exact ⟨w.heap.size, R, rfl, Nat.le_refl _, Hr.out, Hbl.out⟩
end Go.Proofs.YtmfpjdbgdmmjkaaDoor
namespace Go.Proofs.YtmfpjdbgdmmjkaaDoor
namespace Tail
open Go.RowKit Ev By

/-- The operations of 'r' wait for all of 'l', and go one by one; those of 'l' are guarded by one another alone. -/
def tailB (l r : List Oper) : Bool :=
  (l.all fun o => match o.guard with | some (j, _) => decide (j < l.length) | none => true) &&
  ((List.range r.length).all fun k => (List.range l.length).all fun j => ((masks (l ++ r) []).getD (l.length + k) 0).testBit j) &&
  Region.seqB .any (l ++ r).toArray r.length l.length (Array.replicate l.length true ++ Array.replicate r.length false)

section
variable {P : Program} {Q : Exit → Act → World → Prop} {V : Nat → Value → World → Prop} {T : World → World → Prop} {a0 : Act} {w0 : World}

theorem getD_left (L F : Array Bool) (i : Nat) (d : Bool) (h : i < L.size) : (L ++ F).getD i d = L.getD i d := by
  simp only [Array.getD_eq_getD_getElem?]
  rw [Array.getElem?_append_left h]
theorem count_zero : ∀ (l : List Bool), l.count false = 0 → l = List.replicate l.length true
  | [], _ => rfl
  | b :: l, h => by
    cases b with
    | false => simp at h
    | true =>
      rw [List.length_cons, List.replicate_succ, ← count_zero l (by simpa using h)]

theorem loop (l r : List Oper) (hn : 0 < r.length) (hB : tailB l r = true) (hT0 : ∀ x, T x x) (hT : ∀ x y z : World, T x y → T y z → T x z) (hV : ∀ (i : Nat) (v : Value) (x y : World), V i v x → T x y → V i v y) (hf : Fit l.toArray a0.tmps.size)
    (hc : ∀ (i : Nat) (o : Oper), l.toArray[i]? = some o → By.Can P l.toArray Q V T a0 w0 i o)
    (hend : ∀ (L : Array Bool) (a : Act) (w : World), By.Mid l.toArray V T a0 w0 L a w → (∀ i, i < l.toArray.size → L.getD i false = true) → wpList P (l ++ r).toArray Q r a w) :
    ∀ (fuel : Nat) (L : Array Bool) (a : Act) (w : World), L.toList.count false = fuel → By.Mid l.toArray V T a0 w0 L a w → wpAny P .any (l ++ r).toArray Q (fuel + r.length) (L ++ Array.replicate r.length false) a w := by
  simp only [tailB, Bool.and_eq_true, List.all_eq_true] at hB
  obtain ⟨⟨hg, hs⟩, hq⟩ := hB
  intro fuel
  induction fuel with
  | zero =>
    intro L a w hcn h
    have hL : L = Array.replicate l.length true := by
      have hz := count_zero L.toList hcn
      have hsz : L.size = l.length := by have := h.size; simpa using this
      rw [Array.length_toList, hsz] at hz
      rw [← Array.toArray_toList (xs := L), hz]
      simp
    have hall : ∀ i, i < l.toArray.size → L.getD i false = true := by
      intro i hi
      rw [hL, Array.getD_eq_getD_getElem?, Array.getElem?_replicate, if_pos (by simpa using hi)]
      rfl
    have hw := hend L a w h hall
    subst hL
    rw [Nat.zero_add]
    exact wpAny_of_seq r l.length _ a w (fun j => by
      rw [List.getElem?_toArray, List.getElem?_append_right (by omega)]
      congr 1
      omega) hq hw
  | succ fuel ih =>
    intro L a w hcn h
    have hsz : L.size = l.length := by have := h.size; simpa using this
    -- some operation of 'l' is left
    have hleft : ∃ i, i < l.length ∧ L.getD i false = false := by
      have hm : false ∈ L.toList := List.count_pos_iff.1 (by omega)
      obtain ⟨i, hi, he⟩ := List.getElem_of_mem hm
      refine ⟨i, by rw [← hsz]; simpa using hi, ?_⟩
      rw [Array.getD_eq_getD_getElem?, Array.getElem?_eq_getElem (by simpa using hi)]
      simpa using he
    have hsub : ∀ i, i ∈ Region.ready .any (l ++ r).toArray (L ++ Array.replicate r.length false) → i < l.length ∧ i ∈ Region.ready .any l.toArray L := by
      intro i hi
      obtain ⟨hun, o, ho, hpre⟩ := mem_ready.1 hi
      by_cases hil : i < l.length
      · refine ⟨hil, mem_ready.2 ⟨?_, o, ?_, fun e he hb => ?_⟩⟩
        · rwa [getD_left _ _ _ _ (by omega)] at hun
        · rw [List.getElem?_toArray, List.getElem?_append_left hil] at ho
          simpa using ho
        · have hlt : e.on < i := hf.back i o (by rw [List.getElem?_toArray, List.getElem?_append_left hil] at ho; simpa using ho) e he hb
          have := hpre e he hb
          rwa [getD_left _ _ _ _ (by omega)] at this
      · exfalso
        obtain ⟨j, hj, hjf⟩ := hleft
        rw [List.getElem?_toArray, List.getElem?_append_right (by omega)] at ho
        have hk : i - l.length < r.length := (List.getElem?_eq_some_iff.1 ho).1
        have hanc : Anc (l ++ r).toArray i j := by
          have := masks_spec (l ++ r).toArray (l ++ r) [] (fun j o h => by simpa using h) (fun i j h => by simp at h) i j (by
            have := hs (i - l.length) (List.mem_range.2 hk) j (List.mem_range.2 hj)
            rwa [show l.length + (i - l.length) = i by omega] at this)
          exact this
        have ho2 : (l ++ r).toArray[i]? = some o := by rw [List.getElem?_toArray, List.getElem?_append_right (by omega)]; exact ho
        have hL := Anc.ready (L := fun k => (L ++ Array.replicate r.length false).getD k false = true) (fun i o hi ho e he hb => by
          have hil : i < l.length := by
            refine Nat.lt_of_not_le fun hge => ?_
            have h1 : (L ++ Array.replicate r.length false).getD i false = true := hi
            rw [Array.getD_eq_getD_getElem?, Array.getElem?_append_right (by omega), Array.getElem?_replicate] at h1
            split at h1 <;> simp at h1
          have hlt : e.on < i := hf.back i o (by rw [List.getElem?_toArray, List.getElem?_append_left hil] at ho; simpa using ho) e he hb
          show (L ++ Array.replicate r.length false).getD e.on false = true
          rw [getD_left _ _ _ _ (by omega)]
          refine h.closed i o ?_ (by rw [List.getElem?_toArray, List.getElem?_append_left hil] at ho; simpa using ho) e he hb
          have h1 : (L ++ Array.replicate r.length false).getD i false = true := hi
          rwa [getD_left _ _ _ _ (by omega)] at h1) hanc ho2 hpre
        have hL2 : (L ++ Array.replicate r.length false).getD j false = true := hL
        rw [getD_left _ _ _ _ (by omega), hjf] at hL2
        cases hL2
    rw [show fuel + 1 + r.length = (fuel + r.length) + 1 by omega]
    refine ⟨fun hr => ?_, fun i hi => ?_⟩
    · exfalso
      have hr0 : Region.ready .any l.toArray L = [] := by
        cases hrr : Region.ready .any l.toArray L with
        | nil => rfl
        | cons i q =>
          have hi : i ∈ Region.ready .any l.toArray L := by rw [hrr]; exact List.mem_cons_self ..
          obtain ⟨hun, o, ho, hpre⟩ := mem_ready.1 hi
          have hil : i < l.length := by have := (Array.getElem?_eq_some_iff.1 ho).1; simpa using this
          have hm : i ∈ Region.ready .any (l ++ r).toArray (L ++ Array.replicate r.length false) := by
            refine mem_ready.2 ⟨?_, o, ?_, fun e he hb => ?_⟩
            · rw [getD_left _ _ _ _ (by omega)]; exact hun
            · rw [List.getElem?_toArray, List.getElem?_append_left hil]; simpa using ho
            · have hlt : e.on < i := hf.back i o ho e he hb
              rw [getD_left _ _ _ _ (by omega)]
              exact hpre e he hb
          rw [hr] at hm; cases hm
      obtain ⟨i, hi, hif⟩ := hleft
      have := h.all hf hr0 (i + 1) i (by omega) (by simpa using hi)
      rw [this] at hif; cases hif
    · obtain ⟨hil, hi0⟩ := hsub i hi
      have hstep : wpOp P l.toArray Q i (wpAny P .any (l ++ r).toArray Q (fuel + r.length) ((L ++ Array.replicate r.length false).setIfInBounds i true)) a w := by
        refine h.step hT hV hf hc hT0 hi0 fun a1 w1 h1 => ?_
        have hset : (L ++ Array.replicate r.length false).setIfInBounds i true = L.setIfInBounds i true ++ Array.replicate r.length false := by
          apply Array.ext_getElem?
          intro k
          rw [Array.getElem?_setIfInBounds]
          by_cases hk : k < L.size
          · rw [Array.getElem?_append_left (xs := L) hk, Array.getElem?_append_left (xs := L.setIfInBounds i true) (by simpa using hk), Array.getElem?_setIfInBounds]
            by_cases hik : i = k
            · subst hik
              rw [if_pos rfl, if_pos rfl, if_pos (by simp; omega), if_pos hk]
            · rw [if_neg hik, if_neg hik]
          · rw [Array.getElem?_append_right (xs := L) (by omega), Array.getElem?_append_right (xs := L.setIfInBounds i true) (by simp; omega), if_neg (by omega)]
            simp
        rw [hset]
        refine ih _ a1 w1 ?_ h1
        obtain ⟨hun, o, ho, _⟩ := mem_ready.1 hi0
        have hlt : i < L.size := by omega
        rw [Array.getD_eq_getD_getElem?, Array.getElem?_eq_getElem hlt] at hun
        have hb : L.toList[i]'(by simpa using hlt) = false := by simpa using hun
        have hcs := List.count_set (a := true) (b := false) (l := L.toList) (i := i) (by simpa using hlt)
        rw [hb] at hcs
        have e1 : (if (false == false) = true then 1 else 0) = 1 := rfl
        have e2 : (if (true == false) = true then 1 else 0) = 0 := rfl
        rw [e1, e2] at hcs
        rw [Array.toList_setIfInBounds, hcs]
        omega
      -- the same operation, guarded by the same
      have hop : (l ++ r).toArray[i]? = l.toArray[i]? := by
        rw [List.getElem?_toArray, List.getElem?_toArray, List.getElem?_append_left hil]
      unfold wpOp at hstep ⊢
      rw [hop]
      cases ho : l.toArray[i]? with
      | none => rw [ho] at hstep; exact hstep
      | some o =>
        rw [ho] at hstep
        have hy : Region.wanted o (yielded (l ++ r).toArray a.tmps) = Region.wanted o (yielded l.toArray a.tmps) := by
          unfold Region.wanted
          cases hgd : o.guard with
          | none => rfl
          | some jw =>
            obtain ⟨j, want⟩ := jw
            have := hg o (List.mem_of_getElem? (by simpa using ho))
            rw [hgd] at this
            have hjl : j < l.length := of_decide_eq_true this
            simp only [yielded, List.getElem?_toArray, List.getElem?_append_left hjl]
        simp only at hstep ⊢
        rw [hy]
        exact hstep

/-- The operations go one by one, in this order. -/
def forcedB (md : Region.Mode) (ops : Array Oper) : List Nat → Array Bool → Bool
  | [], listed => (Region.ready md ops listed).isEmpty
  | i :: is, listed => decide (Region.ready md ops listed = [i]) && forcedB md ops is (listed.setIfInBounds i true)
theorem wpAny_of_forced {P : Program} {md : Region.Mode} {ops : Array Oper} {Q' : Exit → Act → World → Prop} : ∀ (is : List Nat) (listed : Array Bool) (a : Act) (w : World), forcedB md ops is listed = true → wpOps P ops Q' is a w → wpAny P md ops Q' is.length listed a w
  | [], _, _, _, hB, h => ⟨by simpa [forcedB] using hB, h⟩
  | i :: is, listed, a, w, hB, h => by
    simp only [forcedB, Bool.and_eq_true, decide_eq_true_eq] at hB
    rw [wpOps_cons] at h
    refine ⟨fun h1 => (by rw [hB.1] at h1; cases h1), fun j hj => ?_⟩
    rw [hB.1] at hj
    have hij : j = i := by simpa using hj
    subst hij
    exact wpOp_mono (fun a' w' h' => wpAny_of_forced is _ a' w' hB.2 h') h
theorem wpOps_eq_list {P : Program} {ops : Array Oper} {Q : Exit → Act → World → Prop} : ∀ (is : List Nat) (os : List Oper), is.map (ops[·]?) = os.map some → wpOps P ops Q is = wpList P ops Q os
  | [], [], _ => by funext a w; simp [wpOps, wpList]
  | i :: is, o :: os, h => by
    simp only [List.map_cons, List.cons.injEq] at h
    funext a w
    simp only [wpOps, wpList, h.1]
    rw [wpOps_eq_list is os h.2]
  | [], _ :: _, h => by simp at h
  | _ :: _, [], h => by simp at h

/-- As 'tailB', but the first of 'r' need not wait for operation f. -/
def tailFB (l r : List Oper) (f : Nat) : Bool :=
  (l.all fun o => match o.guard with | some (j, _) => decide (j < l.length) | none => true) &&
  ((List.range l.length).all fun j => decide (j = f) || ((masks (l ++ r) []).getD l.length 0).testBit j) &&
  ((List.range r.length).all fun k => (List.range l.length).all fun j => decide (k = 0) || ((masks (l ++ r) []).getD (l.length + k) 0).testBit j) &&
  Region.seqB .any (l ++ r).toArray r.length l.length (Array.replicate l.length true ++ Array.replicate r.length false) &&
  forcedB .any (l ++ r).toArray (f :: List.range' (l.length + 1) (r.length - 1)) (((Array.replicate l.length true).setIfInBounds f false ++ Array.replicate r.length false).setIfInBounds l.length true) &&
  decide (f < l.length)

theorem loopF (l r : List Oper) (f : Nat) (hn : 0 < r.length) (hB : tailFB l r f = true) (hT0 : ∀ x, T x x) (hT : ∀ x y z : World, T x y → T y z → T x z) (hV : ∀ (i : Nat) (v : Value) (x y : World), V i v x → T x y → V i v y) (hf : Fit l.toArray a0.tmps.size)
    (hc : ∀ (i : Nat) (o : Oper), l.toArray[i]? = some o → By.Can P l.toArray Q V T a0 w0 i o)
    (hend : ∀ (L : Array Bool) (a : Act) (w : World), By.Mid l.toArray V T a0 w0 L a w → (∀ i, i < l.toArray.size → L.getD i false = true) → wpList P (l ++ r).toArray Q r a w)
    (hendF : ∀ (L : Array Bool) (a : Act) (w : World), By.Mid l.toArray V T a0 w0 L a w → (∀ i, i < l.toArray.size → i ≠ f → L.getD i false = true) → L.getD f false = false → wpOps P (l ++ r).toArray Q (l.length :: f :: List.range' (l.length + 1) (r.length - 1)) a w) :
    ∀ (fuel : Nat) (L : Array Bool) (a : Act) (w : World), L.toList.count false = fuel → By.Mid l.toArray V T a0 w0 L a w → wpAny P .any (l ++ r).toArray Q (fuel + r.length) (L ++ Array.replicate r.length false) a w := by
  simp only [tailFB, Bool.and_eq_true, List.all_eq_true] at hB
  obtain ⟨⟨⟨⟨⟨hg, hs0⟩, hs⟩, hq⟩, hfo⟩, hfl⟩ := hB
  have hfl := of_decide_eq_true hfl
  intro fuel
  induction fuel with
  | zero =>
    intro L a w hcn h
    have hL : L = Array.replicate l.length true := by
      have hz := count_zero L.toList hcn
      have hsz : L.size = l.length := by have := h.size; simpa using this
      rw [Array.length_toList, hsz] at hz
      rw [← Array.toArray_toList (xs := L), hz]
      simp
    have hall : ∀ i, i < l.toArray.size → L.getD i false = true := by
      intro i hi
      rw [hL, Array.getD_eq_getD_getElem?, Array.getElem?_replicate, if_pos (by simpa using hi)]
      rfl
    have hw := hend L a w h hall
    subst hL
    rw [Nat.zero_add]
    exact wpAny_of_seq r l.length _ a w (fun j => by
      rw [List.getElem?_toArray, List.getElem?_append_right (by omega)]
      congr 1
      omega) hq hw
  | succ fuel ih =>
    intro L a w hcn h
    have hsz : L.size = l.length := by have := h.size; simpa using this
    -- some operation of 'l' is left
    have hleft : ∃ i, i < l.length ∧ L.getD i false = false := by
      have hm : false ∈ L.toList := List.count_pos_iff.1 (by omega)
      obtain ⟨i, hi, he⟩ := List.getElem_of_mem hm
      refine ⟨i, by rw [← hsz]; simpa using hi, ?_⟩
      rw [Array.getD_eq_getD_getElem?, Array.getElem?_eq_getElem (by simpa using hi)]
      simpa using he
    have hsub : ∀ i, i ∈ Region.ready .any (l ++ r).toArray (L ++ Array.replicate r.length false) → (i < l.length ∧ i ∈ Region.ready .any l.toArray L) ∨ (i = l.length ∧ (∀ j, j < l.length → j ≠ f → L.getD j false = true) ∧ L.getD f false = false) := by
      intro i hi
      obtain ⟨hun, o, ho, hpre⟩ := mem_ready.1 hi
      by_cases hil : i < l.length
      · refine .inl ⟨hil, mem_ready.2 ⟨?_, o, ?_, fun e he hb => ?_⟩⟩
        · rwa [getD_left _ _ _ _ (by omega)] at hun
        · rw [List.getElem?_toArray, List.getElem?_append_left hil] at ho
          simpa using ho
        · have hlt : e.on < i := hf.back i o (by rw [List.getElem?_toArray, List.getElem?_append_left hil] at ho; simpa using ho) e he hb
          have := hpre e he hb
          rwa [getD_left _ _ _ _ (by omega)] at this
      · rw [List.getElem?_toArray, List.getElem?_append_right (by omega)] at ho
        have hk : i - l.length < r.length := (List.getElem?_eq_some_iff.1 ho).1
        have ho2 : (l ++ r).toArray[i]? = some o := by rw [List.getElem?_toArray, List.getElem?_append_right (by omega)]; exact ho
        have hready : ∀ j, ((masks (l ++ r) []).getD i 0).testBit j = true → (L ++ Array.replicate r.length false).getD j false = true := by
          intro j hj
          have hanc : Anc (l ++ r).toArray i j := masks_spec (l ++ r).toArray (l ++ r) [] (fun j o h => by simpa using h) (fun i j h => by simp at h) i j hj
          exact Anc.ready (L := fun k => (L ++ Array.replicate r.length false).getD k false = true) (fun i o hi ho e he hb => by
            have hil : i < l.length := by
              refine Nat.lt_of_not_le fun hge => ?_
              have h1 : (L ++ Array.replicate r.length false).getD i false = true := hi
              rw [Array.getD_eq_getD_getElem?, Array.getElem?_append_right (by omega), Array.getElem?_replicate] at h1
              split at h1 <;> simp at h1
            have hlt : e.on < i := hf.back i o (by rw [List.getElem?_toArray, List.getElem?_append_left hil] at ho; simpa using ho) e he hb
            show (L ++ Array.replicate r.length false).getD e.on false = true
            rw [getD_left _ _ _ _ (by omega)]
            refine h.closed i o ?_ (by rw [List.getElem?_toArray, List.getElem?_append_left hil] at ho; simpa using ho) e he hb
            have h1 : (L ++ Array.replicate r.length false).getD i false = true := hi
            rwa [getD_left _ _ _ _ (by omega)] at h1) hanc ho2 hpre
        obtain ⟨j, hj, hjf⟩ := hleft
        by_cases hi0 : i = l.length
        · have hall : ∀ j, j < l.length → j ≠ f → L.getD j false = true := by
            intro j hj hjf
            have := hready j (by
              have := hs0 j (List.mem_range.2 hj)
              rw [Bool.or_eq_true] at this
              rcases this with this | this
              · exact absurd (of_decide_eq_true this) hjf
              · rwa [hi0])
            rwa [getD_left _ _ _ _ (by omega)] at this
          refine .inr ⟨hi0, hall, ?_⟩
          by_cases hjf2 : j = f
          · rw [← hjf2]; exact hjf
          · rw [hall j hj hjf2] at hjf; cases hjf
        · exfalso
          have := hready j (by
            have := hs (i - l.length) (List.mem_range.2 hk) j (List.mem_range.2 hj)
            rw [Bool.or_eq_true] at this
            rcases this with this | this
            · exact absurd (of_decide_eq_true this) (by omega)
            · rwa [show l.length + (i - l.length) = i by omega] at this)
          rw [getD_left _ _ _ _ (by omega), hjf] at this
          cases this
    rw [show fuel + 1 + r.length = (fuel + r.length) + 1 by omega]
    refine ⟨fun hr => ?_, fun i hi => ?_⟩
    · exfalso
      have hr0 : Region.ready .any l.toArray L = [] := by
        cases hrr : Region.ready .any l.toArray L with
        | nil => rfl
        | cons i q =>
          have hi : i ∈ Region.ready .any l.toArray L := by rw [hrr]; exact List.mem_cons_self ..
          obtain ⟨hun, o, ho, hpre⟩ := mem_ready.1 hi
          have hil : i < l.length := by have := (Array.getElem?_eq_some_iff.1 ho).1; simpa using this
          have hm : i ∈ Region.ready .any (l ++ r).toArray (L ++ Array.replicate r.length false) := by
            refine mem_ready.2 ⟨?_, o, ?_, fun e he hb => ?_⟩
            · rw [getD_left _ _ _ _ (by omega)]; exact hun
            · rw [List.getElem?_toArray, List.getElem?_append_left hil]; simpa using ho
            · have hlt : e.on < i := hf.back i o ho e he hb
              rw [getD_left _ _ _ _ (by omega)]
              exact hpre e he hb
          rw [hr] at hm; cases hm
      obtain ⟨i, hi, hif⟩ := hleft
      have := h.all hf hr0 (i + 1) i (by omega) (by simpa using hi)
      rw [this] at hif; cases hif
    · rcases hsub i hi with ⟨hil, hi0⟩ | ⟨rfl, hall, hff⟩
      case inr =>
        have hL : L = (Array.replicate l.length true).setIfInBounds f false := by
          apply Array.ext_getElem?
          intro k
          rw [Array.getElem?_setIfInBounds, Array.getElem?_replicate, Array.size_replicate]
          by_cases hk : k < L.size
          · rw [Array.getElem?_eq_getElem hk]
            by_cases hkf : f = k
            · subst hkf
              rw [Array.getD_eq_getD_getElem?, Array.getElem?_eq_getElem hk] at hff
              simp only [Option.getD_some] at hff
              rw [if_pos rfl, if_pos hfl, hff]
            · have := hall k (by omega) (Ne.symm hkf)
              rw [Array.getD_eq_getD_getElem?, Array.getElem?_eq_getElem hk] at this
              simp only [Option.getD_some] at this
              rw [if_neg hkf, if_pos (by omega), this]
          · rw [Array.getElem?_eq_none (by omega)]
            split
            · rename_i e; subst e; omega
            · rw [if_neg (by omega)]
        have hfuel : fuel = 0 := by
          have hc1 : L.toList.count false = 1 := by
            have h2 := List.count_set (a := false) (b := false) (l := List.replicate l.length true) (i := f) (by simpa using hfl)
            rw [hL, Array.toList_setIfInBounds, Array.toList_replicate, h2]
            simp [List.count_replicate]
          omega
        subst hfuel
        have hw := hendF L a w h (fun i hi hif => hall i (by simpa using hi) hif) hff
        rw [wpOps_cons] at hw
        rw [hL]
        refine wpOp_mono (fun a1 w1 h1 => ?_) hw
        have := wpAny_of_forced (md := .any) (Q' := Q) (f :: List.range' (l.length + 1) (r.length - 1)) (((Array.replicate l.length true).setIfInBounds f false ++ Array.replicate r.length false).setIfInBounds l.length true) a1 w1 hfo h1
        rwa [List.length_cons, List.length_range', show r.length - 1 + 1 = 0 + r.length by omega] at this
      have hstep : wpOp P l.toArray Q i (wpAny P .any (l ++ r).toArray Q (fuel + r.length) ((L ++ Array.replicate r.length false).setIfInBounds i true)) a w := by
        refine h.step hT hV hf hc hT0 hi0 fun a1 w1 h1 => ?_
        have hset : (L ++ Array.replicate r.length false).setIfInBounds i true = L.setIfInBounds i true ++ Array.replicate r.length false := by
          apply Array.ext_getElem?
          intro k
          rw [Array.getElem?_setIfInBounds]
          by_cases hk : k < L.size
          · rw [Array.getElem?_append_left (xs := L) hk, Array.getElem?_append_left (xs := L.setIfInBounds i true) (by simpa using hk), Array.getElem?_setIfInBounds]
            by_cases hik : i = k
            · subst hik
              rw [if_pos rfl, if_pos rfl, if_pos (by simp; omega), if_pos hk]
            · rw [if_neg hik, if_neg hik]
          · rw [Array.getElem?_append_right (xs := L) (by omega), Array.getElem?_append_right (xs := L.setIfInBounds i true) (by simp; omega), if_neg (by omega)]
            simp
        rw [hset]
        refine ih _ a1 w1 ?_ h1
        obtain ⟨hun, o, ho, _⟩ := mem_ready.1 hi0
        have hlt : i < L.size := by omega
        rw [Array.getD_eq_getD_getElem?, Array.getElem?_eq_getElem hlt] at hun
        have hb : L.toList[i]'(by simpa using hlt) = false := by simpa using hun
        have hcs := List.count_set (a := true) (b := false) (l := L.toList) (i := i) (by simpa using hlt)
        rw [hb] at hcs
        have e1 : (if (false == false) = true then 1 else 0) = 1 := rfl
        have e2 : (if (true == false) = true then 1 else 0) = 0 := rfl
        rw [e1, e2] at hcs
        rw [Array.toList_setIfInBounds, hcs]
        omega
      -- the same operation, guarded by the same
      have hop : (l ++ r).toArray[i]? = l.toArray[i]? := by
        rw [List.getElem?_toArray, List.getElem?_toArray, List.getElem?_append_left hil]
      unfold wpOp at hstep ⊢
      rw [hop]
      cases ho : l.toArray[i]? with
      | none => rw [ho] at hstep; exact hstep
      | some o =>
        rw [ho] at hstep
        have hy : Region.wanted o (yielded (l ++ r).toArray a.tmps) = Region.wanted o (yielded l.toArray a.tmps) := by
          unfold Region.wanted
          cases hgd : o.guard with
          | none => rfl
          | some jw =>
            obtain ⟨j, want⟩ := jw
            have := hg o (List.mem_of_getElem? (by simpa using ho))
            rw [hgd] at this
            have hjl : j < l.length := of_decide_eq_true this
            simp only [yielded, List.getElem?_toArray, List.getElem?_append_left hjl]
        simp only at hstep ⊢
        rw [hy]
        exact hstep

theorem region (hm : P.follows .mixedOrders = true) {id : Nat} {W : World} {A : Act} (l r : List Oper) (hn : 0 < r.length) (hB : tailB l r = true) (hf : Fit l.toArray A.tmps.size) (T : World → World → Prop) (V : Nat → Value → World → Prop) (hT0 : ∀ x, T x x) (hT : ∀ x y z : World, T x y → T y z → T x z)
    (hV : ∀ (i : Nat) (v : Value) (x y : World), V i v x → T x y → V i v y)
    (hc : ∀ (i : Nat) (o : Oper), l.toArray[i]? = some o → By.Can P l.toArray Q V T A W.drew i o)
    (hend : ∀ (vs : List Value) (w : World), vs.length = l.toArray.size → T W.drew w → (∀ (j : Nat) (o : Oper) (v : Value), l.toArray[j]? = some o → o.dst.isSome = true → vs[j]? = some v → V j v w) → wpList P (l ++ r).toArray Q r (puts l.toArray.toList vs A) w) :
    (Code.region id (l ++ r).toArray true).wp P Q A W := by
  refine wp_region_any hm ?_
  have hL : Array.replicate (l ++ r).toArray.size false = Array.replicate l.length false ++ Array.replicate r.length false := by
    rw [List.size_toArray, List.length_append, Array.replicate_append_replicate]
  have hcnt : (Array.replicate l.length false).toList.count false = l.length := by simp
  have hsz : (l ++ r).toArray.size = l.length + r.length := by simp
  rw [hL, hsz]
  refine loop (V := V) (T := T) (a0 := A) (w0 := W.drew) l r hn hB hT0 hT hV hf hc (fun L a w h hall => ?_) l.length _ A _ hcnt ⟨by simp, ?_, rfl, rfl, hT0 _, ?_, fun _ _ => rfl⟩
  · obtain ⟨vs, h1, rfl, h3⟩ := h.puts hf hall
    exact hend vs w h1 h.tr h3
  · intro i o hi
    simp [Array.getD_eq_getD_getElem?, Array.getElem?_replicate] at hi
    split at hi <;> simp at hi
  · intro j o d hj
    simp [Array.getD_eq_getD_getElem?, Array.getElem?_replicate] at hj
    split at hj <;> simp at hj

theorem regionF (hm : P.follows .mixedOrders = true) {id : Nat} {W : World} {A : Act} (l r : List Oper) (f : Nat) (df : Tmp) (hdf : (l[f]?).bind (·.dst) = some df) (hn : 0 < r.length) (hB : tailFB l r f = true) (hf : Fit l.toArray A.tmps.size) (T : World → World → Prop) (V : Nat → Value → World → Prop) (hT0 : ∀ x, T x x) (hT : ∀ x y z : World, T x y → T y z → T x z)
    (hV : ∀ (i : Nat) (v : Value) (x y : World), V i v x → T x y → V i v y)
    (hc : ∀ (i : Nat) (o : Oper), l.toArray[i]? = some o → By.Can P l.toArray Q V T A W.drew i o)
    (hend : ∀ (vs : List Value) (w : World), vs.length = l.toArray.size → T W.drew w → (∀ (j : Nat) (o : Oper) (v : Value), l.toArray[j]? = some o → o.dst.isSome = true → vs[j]? = some v → V j v w) → wpList P (l ++ r).toArray Q r (puts l.toArray.toList vs A) w)
    (hendF : ∀ (vs : List Value) (w : World), vs.length = l.toArray.size → T W.drew w → (∀ (j : Nat) (o : Oper) (v : Value), l.toArray[j]? = some o → o.dst.isSome = true → vs[j]? = some v → (if j = f then v = A.tmps.getD df undef else V j v w)) → wpOps P (l ++ r).toArray Q (l.length :: f :: List.range' (l.length + 1) (r.length - 1)) (puts l.toArray.toList vs A) w) :
    (Code.region id (l ++ r).toArray true).wp P Q A W := by
  refine wp_region_any hm ?_
  have hL : Array.replicate (l ++ r).toArray.size false = Array.replicate l.length false ++ Array.replicate r.length false := by
    rw [List.size_toArray, List.length_append, Array.replicate_append_replicate]
  have hcnt : (Array.replicate l.length false).toList.count false = l.length := by simp
  have hsz : (l ++ r).toArray.size = l.length + r.length := by simp
  rw [hL, hsz]
  refine loopF (V := V) (T := T) (a0 := A) (w0 := W.drew) l r f hn hB hT0 hT hV hf hc (fun L a w h hall => ?_) (fun L a w h hall hff => ?_) l.length _ A _ hcnt ⟨by simp, ?_, rfl, rfl, hT0 _, ?_, fun _ _ => rfl⟩
  · obtain ⟨vs, h1, rfl, h3⟩ := h.puts hf hall
    exact hend vs w h1 h.tr h3
  · obtain ⟨of, hof, hofd⟩ : ∃ o, l[f]? = some o ∧ o.dst = some df := by
      rw [Option.bind_eq_some_iff] at hdf
      exact hdf
    have h' : By.Mid l.toArray (fun j v w => if j = f then v = A.tmps.getD df undef else V j v w) T A W.drew (Array.replicate l.toArray.size true) a w := by
      refine ⟨by simp, fun i o _ ho e he hb => ?_, h.defers, h.asize, h.tr, fun j o d _ ho hd => ?_, fun t ht => ?_⟩
      · have := hf.back i o ho e he hb
        have := (Array.getElem?_eq_some_iff.1 ho).1
        rw [Array.getD_eq_getD_getElem?, Array.getElem?_replicate, if_pos (by omega)]
        rfl
      · by_cases hjf : j = f
        · rw [if_pos hjf]
          have hoo : o = of := by
            have : l[j]? = some o := by simpa using ho
            rw [hjf, hof] at this
            injection this with this; exact this.symm
          have hdd : d = df := by rw [hoo, hofd] at hd; injection hd with hd; exact hd.symm
          rw [hdd]
          refine h.keep df fun j2 o2 ho2 hd2 => ?_
          have : j2 = f := hf.one j2 f o2 of df ho2 (by simpa using hof) hd2 hofd
          rw [this]; exact hff
        · rw [if_neg hjf]
          exact h.done j o d (hall j (Array.getElem?_eq_some_iff.1 ho).1 hjf) ho hd
      · refine h.keep t fun j o ho hd => ?_
        have := ht j o ho hd
        have hlt := (Array.getElem?_eq_some_iff.1 ho).1
        rw [Array.getD_eq_getD_getElem?, Array.getElem?_replicate, if_pos hlt] at this
        cases this
    obtain ⟨vs, h1, rfl, h3⟩ := h'.puts hf fun i hi => by
      rw [Array.getD_eq_getD_getElem?, Array.getElem?_replicate, if_pos hi]
      rfl
    exact hendF vs w h1 h.tr h3
  · intro i o hi
    simp [Array.getD_eq_getD_getElem?, Array.getElem?_replicate] at hi
    split at hi <;> simp at hi
  · intro j o d hj
    simp [Array.getD_eq_getD_getElem?, Array.getElem?_replicate] at hj
    split at hj <;> simp at hj

/-- THE RULE, OVER LISTS. -/
theorem go (hm : P.follows .mixedOrders = true) (r : List Oper) (hn : 0 < r.length) (ms : List Nat) (Vs : List (Value → World → Prop)) (T : World → World → Prop) {id : Nat} {l : List Oper} {W : World} {A : Act} (hB : tailB l r = true) (hf : fitB l A.tmps.size = true) (hms : masks l [] = ms)
    (hT0 : ∀ x, T x x) (hT : ∀ x y z, T x y → T y z → T x z) (hV : ∀ V ∈ Vs, ∀ (v : Value) (x y : World), V v x → T x y → V v y)
    (hc : By.Each P Q T A W.drew l ms Vs 0 l Vs) (hend : By.Ends (fun _ a w => wpList P (l ++ r).toArray Q r a w) l Vs A (fun w => T W.drew w)) : (Code.region id (l ++ r).toArray true).wp P Q A W := by
  have hsome : ∀ oj ∈ l, oj.dst.isSome = true := by
    simp only [fitB, Bool.and_eq_true, List.all_eq_true] at hf
    exact hf.2
  obtain ⟨hlen, hat⟩ := Each.at 0 l Vs hc
  have hanc : ∀ i j, (ms.getD i 0).testBit j = true → Anc l.toArray i j := by
    intro i j h
    rw [← hms] at h
    exact masks_spec l.toArray l [] (fun j o h => by simpa using h) (fun i j h => by simp at h) i j h
  refine region hm l r hn hB (fit_of hf) T (fun i v w => ∀ V, Vs[i]? = some V → V v w) hT0 hT (fun i v x y h ht V hV' => hV V (List.mem_of_getElem? hV') v x y (h V hV') ht) ?_ ?_
  · intro i o hi a w htr hs hg
    have hi' : l[i]? = some o := by simpa using hi
    obtain ⟨V, hVi⟩ : ∃ V, Vs[i]? = some V := ⟨_, List.getElem?_eq_getElem (by rw [← hlen]; exact (List.getElem?_eq_some_iff.1 hi').1)⟩
    rw [want_eq hsome]
    have := hat i o V hi' hVi a w htr
      (same_of _ fun t ht => by
        rw [Nat.zero_add] at ht
        refine hs t fun j oj hj hd => hanc j i ?_
        have hz := List.all_eq_true.1 ht (oj, j) (zip_mem (by simpa using hj))
        simpa [hd] using hz)
      (given_of _ _ _ fun j oj Vj hj hVj hb => by
        rw [Nat.zero_add] at hb
        have hd := hsome oj (List.mem_of_getElem? hj)
        cases hdd : oj.dst with
        | none => rw [hdd] at hd; cases hd
        | some d => exact hg j oj d (hanc i j hb) (by simpa using hj) hdd Vj hVj)
    refine ⟨fun h => Oper.wp_mono ?_ (this.1 h), fun h V' hV' => by rw [hVi] at hV'; injection hV' with e; subst e; exact this.2 h⟩
    rintro a' w' ⟨v, h1, h2, h3⟩
    exact ⟨v, h1, h2, fun V' hV' => by rw [hVi] at hV'; injection hV' with e; subst e; exact h3⟩
  · intro vs w hlv htr hv
    refine By.Ends.use (Q := fun _ a w => wpList P (l ++ r).toArray Q r a w) l Vs A _ vs w hlen (by simpa using hlv) hend htr fun j v V h1 h2 => ?_
    obtain ⟨o, ho⟩ : ∃ o, l[j]? = some o := ⟨_, List.getElem?_eq_getElem (by rw [hlen]; exact (List.getElem?_eq_some_iff.1 h2).1)⟩
    exact hv j o v (by simpa using ho) (hsome o (List.mem_of_getElem? ho)) h1 V h2
/-- THE RULE, OVER LISTS. -/
theorem goF (hm : P.follows .mixedOrders = true) (r : List Oper) (f : Nat) (df : Tmp) (hn : 0 < r.length) (ms : List Nat) (Vs : List (Value → World → Prop)) (T : World → World → Prop) {id : Nat} {l : List Oper} {W : World} {A : Act} (hdf : (l[f]?).bind (·.dst) = some df) (hB : tailFB l r f = true) (hf : fitB l A.tmps.size = true) (hms : masks l [] = ms)
    (hT0 : ∀ x, T x x) (hT : ∀ x y z, T x y → T y z → T x z) (hV : ∀ V ∈ Vs, ∀ (v : Value) (x y : World), V v x → T x y → V v y)
    (hc : By.Each P Q T A W.drew l ms Vs 0 l Vs) (hend : By.Ends (fun _ a w => wpList P (l ++ r).toArray Q r a w) l Vs A (fun w => T W.drew w))
    (hendF : By.Ends (fun _ a w => wpOps P (l ++ r).toArray Q (l.length :: f :: List.range' (l.length + 1) (r.length - 1)) a w) l (Vs.set f (fun v _ => v = A.tmps.getD df undef)) A (fun w => T W.drew w)) : (Code.region id (l ++ r).toArray true).wp P Q A W := by
  have hsome : ∀ oj ∈ l, oj.dst.isSome = true := by
    simp only [fitB, Bool.and_eq_true, List.all_eq_true] at hf
    exact hf.2
  obtain ⟨hlen, hat⟩ := Each.at 0 l Vs hc
  have hanc : ∀ i j, (ms.getD i 0).testBit j = true → Anc l.toArray i j := by
    intro i j h
    rw [← hms] at h
    exact masks_spec l.toArray l [] (fun j o h => by simpa using h) (fun i j h => by simp at h) i j h
  refine regionF hm l r f df hdf hn hB (fit_of hf) T (fun i v w => ∀ V, Vs[i]? = some V → V v w) hT0 hT (fun i v x y h ht V hV' => hV V (List.mem_of_getElem? hV') v x y (h V hV') ht) ?_ ?_ ?_
  · intro i o hi a w htr hs hg
    have hi' : l[i]? = some o := by simpa using hi
    obtain ⟨V, hVi⟩ : ∃ V, Vs[i]? = some V := ⟨_, List.getElem?_eq_getElem (by rw [← hlen]; exact (List.getElem?_eq_some_iff.1 hi').1)⟩
    rw [want_eq hsome]
    have := hat i o V hi' hVi a w htr
      (same_of _ fun t ht => by
        rw [Nat.zero_add] at ht
        refine hs t fun j oj hj hd => hanc j i ?_
        have hz := List.all_eq_true.1 ht (oj, j) (zip_mem (by simpa using hj))
        simpa [hd] using hz)
      (given_of _ _ _ fun j oj Vj hj hVj hb => by
        rw [Nat.zero_add] at hb
        have hd := hsome oj (List.mem_of_getElem? hj)
        cases hdd : oj.dst with
        | none => rw [hdd] at hd; cases hd
        | some d => exact hg j oj d (hanc i j hb) (by simpa using hj) hdd Vj hVj)
    refine ⟨fun h => Oper.wp_mono ?_ (this.1 h), fun h V' hV' => by rw [hVi] at hV'; injection hV' with e; subst e; exact this.2 h⟩
    rintro a' w' ⟨v, h1, h2, h3⟩
    exact ⟨v, h1, h2, fun V' hV' => by rw [hVi] at hV'; injection hV' with e; subst e; exact h3⟩
  · intro vs w hlv htr hv
    refine By.Ends.use (Q := fun _ a w => wpList P (l ++ r).toArray Q r a w) l Vs A _ vs w hlen (by simpa using hlv) hend htr fun j v V h1 h2 => ?_
    obtain ⟨o, ho⟩ : ∃ o, l[j]? = some o := ⟨_, List.getElem?_eq_getElem (by rw [hlen]; exact (List.getElem?_eq_some_iff.1 h2).1)⟩
    exact hv j o v (by simpa using ho) (hsome o (List.mem_of_getElem? ho)) h1 V h2
  · intro vs w hlv htr hv
    refine By.Ends.use (Q := fun _ a w => wpOps P (l ++ r).toArray Q (l.length :: f :: List.range' (l.length + 1) (r.length - 1)) a w) l (Vs.set f (fun v _ => v = A.tmps.getD df undef)) A _ vs w (by rw [List.length_set]; exact hlen) (by simpa using hlv) hendF htr fun j v V h1 h2 => ?_
    obtain ⟨o, ho⟩ : ∃ o, l[j]? = some o := ⟨_, List.getElem?_eq_getElem (by have := (List.getElem?_eq_some_iff.1 h2).1; rw [List.length_set, ← hlen] at this; exact this)⟩
    have h3 := hv j o v (by simpa using ho) (hsome o (List.mem_of_getElem? ho)) h1
    rw [List.getElem?_set] at h2
    by_cases hjf : f = j
    · rw [if_pos hjf] at h2
      rw [if_pos hjf.symm] at h3
      split at h2
      · injection h2 with h2; rw [← h2]; exact h3
      · cases h2
    · rw [if_neg hjf] at h2
      rw [if_neg (Ne.symm hjf)] at h3
      exact h3 V h2
end

/-- THE RULE, BY MARKS. -/
theorem marks {P : Program} {Q : Exit → Act → World → Prop} (hm : P.follows .mixedOrders = true) (r : List Oper) (hn : 0 < r.length) (T : World → World → Prop) (Ms : List (By.Mark T)) (ms : List Nat) {id : Nat} {l : List Oper} {W : World} {A : Act} (hB : tailB l r = true) (hf : fitB l A.tmps.size = true) (hms : masks l [] = ms)
    (hT0 : ∀ x, T x x) (hT : ∀ x y z, T x y → T y z → T x z)
    (hc : By.Each P Q T A W.drew l ms (Ms.map (·.on)) 0 l (Ms.map (·.on))) (hend : By.Ends (fun _ a w => wpList P (l ++ r).toArray Q r a w) l (Ms.map (·.on)) A (fun w => T W.drew w)) : (Code.region id (l ++ r).toArray true).wp P Q A W :=
  go hm r hn ms (Ms.map (·.on)) T hB hf hms hT0 hT (fun V hV v x y h ht => by
    obtain ⟨M, _, rfl⟩ := List.mem_map.1 hV
    exact M.stays v x y h ht) hc hend

/-- THE RULE, BY MARKS; the first n operations go in any order. -/
theorem marksAt {P : Program} {Q : Exit → Act → World → Prop} (hm : P.follows .mixedOrders = true) (n : Nat) (T : World → World → Prop) (Ms : List (By.Mark T)) (ms : List Nat) {id : Nat} {L : List Oper} {W : World} {A : Act} (hn : 0 < (L.drop n).length) (hB : tailB (L.take n) (L.drop n) = true)
    (hf : fitB (L.take n) A.tmps.size = true) (hms : masks (L.take n) [] = ms) (hT0 : ∀ x, T x x) (hT : ∀ x y z, T x y → T y z → T x z)
    (hc : By.Each P Q T A W.drew (L.take n) ms (Ms.map (·.on)) 0 (L.take n) (Ms.map (·.on))) (hend : By.Ends (fun _ a w => wpList P L.toArray Q (L.drop n) a w) (L.take n) (Ms.map (·.on)) A (fun w => T W.drew w)) : (Code.region id L.toArray true).wp P Q A W := by
  have := marks (P := P) (Q := Q) hm (L.drop n) hn T Ms ms (id := id) (l := L.take n) (W := W) (A := A) hB hf hms hT0 hT hc (by rw [List.take_append_drop]; exact hend)
  rwa [List.take_append_drop] at this
/-- THE RULE, BY MARKS, with one operation, f, for which the first of the last ones need not wait: those then go on with f behind it ('hendF'), or without it ('hend'). -/
theorem marksF {P : Program} {Q : Exit → Act → World → Prop} (hm : P.follows .mixedOrders = true) (n f : Nat) (df : Tmp) (T : World → World → Prop) (Ms : List (By.Mark T)) (ms : List Nat) {id : Nat} {L : List Oper} {W : World} {A : Act} (hn : 0 < (L.drop n).length) (hdf : ((L.take n)[f]?).bind (·.dst) = some df) (hB : tailFB (L.take n) (L.drop n) f = true)
    (hf : fitB (L.take n) A.tmps.size = true) (hms : masks (L.take n) [] = ms) (hT0 : ∀ x, T x x) (hT : ∀ x y z, T x y → T y z → T x z)
    (hc : By.Each P Q T A W.drew (L.take n) ms (Ms.map (·.on)) 0 (L.take n) (Ms.map (·.on))) (os : List Oper) (hos : ((L.take n).length :: f :: List.range' ((L.take n).length + 1) ((L.drop n).length - 1)).map (L.toArray[·]?) = os.map some)
    (hend : By.Ends (fun _ a w => wpList P L.toArray Q (L.drop n) a w) (L.take n) (Ms.map (·.on)) A (fun w => T W.drew w))
    (hendF : By.Ends (fun _ a w => wpList P L.toArray Q os a w) (L.take n) ((Ms.set f (By.is (A.tmps.getD df undef))).map (·.on)) A (fun w => T W.drew w)) : (Code.region id L.toArray true).wp P Q A W := by
  have hl : L.take n ++ L.drop n = L := List.take_append_drop n L
  have := goF (P := P) (Q := Q) hm (L.drop n) f df hn ms (Ms.map (·.on)) T (id := id) (l := L.take n) (W := W) (A := A) hdf hB hf hms hT0 hT (fun V hV v x y h ht => by
    obtain ⟨M, _, rfl⟩ := List.mem_map.1 hV
    exact M.stays v x y h ht) hc (by rw [hl]; exact hend) (by
    rw [hl, wpOps_eq_list _ os hos]
    rw [List.map_set] at hendF
    exact hendF)
  rwa [hl] at this
end Tail
/-- The world by another name. -/
theorem wpList_world {P : Program} {ops : Array Oper} {l : List Oper} {a : Act} {w W : World} {Q : Exit → Act → World → Prop} (h : w = W) (hk : wpList P ops Q l a W) : wpList P ops Q l a w := h ▸ hk
end Go.Proofs.YtmfpjdbgdmmjkaaDoor
namespace Go.Proofs.YtmfpjdbgdmmjkaaDoor
open Go.RowKit
namespace Sha
/-- The first i bytes of the key xor the mask, then the mask. -/
def maskN (key : List UInt8) (m : UInt8) (i : Nat) : List UInt8 := (key.take i).map (m ^^^ ·) ++ List.replicate (64 - i) m
theorem maskN_length (key : List UInt8) (m : UInt8) (i : Nat) (h : i ≤ key.length) (hk : key.length ≤ 64) : (maskN key m i).length = 64 := by
  simp [maskN]
  omega
theorem maskN_at (key : List UInt8) (m : UInt8) (i : Nat) (h : i < key.length) (hk : key.length ≤ 64) : (maskN key m i).getD i 0 = m := by
  rw [List.getD_eq_getElem?_getD, maskN, List.getElem?_append_right (by simp; omega), List.getElem?_replicate, if_pos (by simp; omega)]
  rfl
theorem maskN_set (key : List UInt8) (m c : UInt8) (i : Nat) (hk : key.length ≤ 64) (hc : key[i]? = some c) : (maskN key m i).set i (m ^^^ c) = maskN key m (i + 1) := by
  have hi : i < key.length := (List.getElem?_eq_some_iff.1 hc).1
  have e1 : ((key.take i).map (m ^^^ ·)).length = i := by simp; omega
  have e2 : List.replicate (64 - i) m = m :: List.replicate (64 - (i + 1)) m := by rw [show 64 - i = (64 - (i + 1)) + 1 by omega, List.replicate_succ]
  unfold maskN
  rw [List.set_append_right _ _ (by omega), e1, Nat.sub_self, e2, List.set_cons_zero, List.take_add_one, hc]
  simp
theorem maskN_all (key : List UInt8) (m : UInt8) (hk : key.length ≤ 64) : maskN key m key.length = masked key m := by
  unfold maskN masked
  rw [List.take_length, List.map_append, List.map_replicate]
  simp
end Sha
theorem w_xor8 (x y : UInt8) : bits .xor .u8 (x.toNat : Int) (y.toNat : Int) = ((x ^^^ y).toNat : Int) := by
  have h : ∀ a b : BitVec 8, bits .xor .u8 (a.toNat : Int) (b.toNat : Int) = ((a ^^^ b).toNat : Int) := by
    intro a b
    show IntKind.u8.wrap ((BitVec.ofInt 8 (a.toNat : Int) ^^^ BitVec.ofInt 8 (b.toNat : Int)).toNat : Int) = _
    simp only [BitVec.ofInt_natCast, BitVec.ofNat_toNat, BitVec.setWidth_eq]
    have h := (a ^^^ b).isLt
    obtain ⟨c, hc⟩ : ∃ c, (a ^^^ b).toNat = c := ⟨_, rfl⟩
    rw [hc] at h ⊢
    simp only [IntKind.wrap, IntKind.bits, IntKind.signed]
    simp
    omega
  exact h x.toBitVec y.toBitVec

set_option maxRecDepth 8000 in
set_option maxHeartbeats 1000000 in
/-- A key, masked: a row of 64 bytes at a block of its own. -/
theorem Masked_any (v : Value) (key : List UInt8) (m : UInt8) (w : World) (hb : Bs w w.heap.size v key) (hk : key.length ≤ 64) :
    Calls Tryd.prog 47 #[v, .int .u8 (m.toNat : Int)] w fun e w' => ∃ g, e = .returned (.slice (some ⟨g, 0, none⟩) 64 64) ∧ w.heap.size ≤ g ∧ (∃ R, Row w' g ((Sha.masked key m).map bv ++ R) 5) ∧ Below w.heap.size w w' := by
  have Hb := Lib.hid hb
  obtain ⟨A, c, rfl, hc, hcs⟩ := hb
  have Hcs := Lib.hid hcs
  clear hc hcs
  go_enter Tryd.func47, Tryd.ntmps47
  go_wp2_with fail
  have hc0 : (w.alloc (.cells #[.int .u8 (m.toNat : Int)] 5)).cell? ⟨w.heap.size, 0, none⟩ = some (bv m) := Row.cell (cs := [bv m]) (t := 5) (Row.new rfl rfl) rfl
  refine (Rep_any m w.heap.size (w.alloc (.cells #[.int .u8 (m.toNat : Int)] 5)) hc0 (by simp)).mono ?_
  rintro e w2 ⟨g, R, rfl, hg2, hr2, hb2⟩
  have hsz : (w.alloc (.cells #[.int .u8 (m.toNat : Int)] 5)).heap.size = w.heap.size + 1 := by simp
  have hbw : Below w.heap.size w w2 := nextB ((Below.refl w.heap.size w).alloc (Nat.le_refl _) (.cells #[.int .u8 (m.toNat : Int)] 5)) (Nat.le_refl _) hb2
  rw [hsz] at hg2
  have hr0 : Row w2 g ((Sha.maskN key m 0).map bv ++ R) 5 := by simpa [Sha.maskN] using hr2
  have Hr0 := Lib.hid hr0
  have Hg2 := Lib.hid hg2
  have Hbw := Lib.hid hbw
  clear hb2 hsz hbw hr0 hr2 hg2 hc0
  go_wp2_with fail
  go_loopw [13] (fun iv wr => ∃ i : Nat, i ≤ key.length ∧ iv = .int .i64 (i : Int) ∧ Row wr g ((Sha.maskN key m i).map bv ++ R) 5 ∧ Below w.heap.size w wr) (fun iv _ => key.length - (intOf iv).toNat)
  case atStart => exact ⟨0, Nat.zero_le _, rfl, Hr0.out, Hbw.out⟩
  case round =>
    obtain ⟨i, hi, rfl, hr, hb⟩ := hrel
    have Hr := Lib.hid hr
    have Hbw := Lib.hid hb
    have Hl := Lib.hid (Sha.maskN_length key m i hi hk)
    clear hr hb
    by_cases h1 : i < key.length
    · have h1' : (i : Int) < (key.length : Int) := by omega
      have h64 : (i : Int) < 64 := by omega
      obtain ⟨c0, hc0⟩ : ∃ c0, key[i]? = some c0 := ⟨_, List.getElem?_eq_getElem h1⟩
      obtain ⟨b, off, rfl, hlt, hcell⟩ := Hcs.out (by intro h; subst h; simp at h1)
      have hcell0 : wr.cell? ⟨b, off + i, none⟩ = some (.int .u8 (c0.toNat : Int)) := (Hbw.out.cell (p := ⟨b, off + i, none⟩) hlt).trans (hcell i c0 hc0)
      have hcell1 : wr.cell? ⟨g, i, none⟩ = some (.int .u8 (m.toNat : Int)) := by
        refine Hr.out.cell ?_
        rw [List.getElem?_append_left (by rw [List.length_map, Hl.out]; omega), hgetD_cell _ i (by rw [Hl.out]; omega), Sha.maskN_at key m i h1 hk]
        rfl
      have hfr := frozen_row Hr.out i
      have hx := w_xor8 m c0
      have hset := Hr.out.set i (bv (m ^^^ c0))
      rw [List.set_append_left _ _ (by rw [List.length_map, Hl.out]; omega), ← List.map_set, Sha.maskN_set key m c0 i hk hc0] at hset
      have Hset := Lib.hid hset
      clear hset hcell hc0
      go_wp2
      go_roundw
      case rel => exact ⟨i + 1, h1, by simp, Hset.out, Hbw.out.setCell (by have := Hg2.out; dsimp only; omega) _⟩
      case measure => simp [intOf]; omega
    · have h1' : ¬ (i : Int) < (key.length : Int) := by omega
      have : i = key.length := by omega
      subst this
      have hr := Hr.out
      rw [Sha.maskN_all key m hk] at hr
      have Hr := Lib.hid hr
      clear hr
      go_wp2
      go_ret
      exact ⟨g, rfl, by have := Hg2.out; omega, ⟨R, Hr.out⟩, Hbw.out⟩
--@mac
theorem bs_row {w : World} {g n : Nat} {l : List UInt8} {R : List Value} (h : Row w g (l.map bv ++ R) 5) (hl : l.length = n) : Bs w w.heap.size (.slice (some ⟨g, 0, none⟩) n n) l := by
  subst hl
  exact ⟨_, _, rfl, Nat.le_refl _, fun _ => ⟨g, 0, rfl, h.lt, fun i u hu => h.cell (by rw [Nat.zero_add, List.getElem?_append_left (by rw [List.length_map]; exact (List.getElem?_eq_some_iff.1 hu).1), List.getElem?_map, hu]; rfl)⟩⟩
theorem grew_bs {w w' : World} {v : Value} {l : List UInt8} (h : Bs w w.heap.size v l) (hg : Grew w.drew w') : Bs w' w'.heap.size v l :=
  (Bs.below (w := w.drew) h hg).more hg.size
/-- Bytes that are read: a slice from a block's start. -/
def rdM (l : List UInt8) (n : Nat) : By.Mark Grew := ⟨fun v w => ∃ g, v = .slice (some ⟨g, 0, none⟩) n n ∧ Bs w w.heap.size v l, fun _ _ _ h k => by
  obtain ⟨g, h1, h2⟩ := h
  exact ⟨g, h1, (h2.below k).more k.size⟩⟩
def rdL (ls : List (List UInt8)) (n : Nat) : By.Mark Grew := ⟨fun v w => ∃ g, v = .slice (some ⟨g, 0, none⟩) n n ∧ Bss w w.heap.size v ls, fun _ _ _ h k => by
  obtain ⟨g, h1, h2⟩ := h
  exact ⟨g, h1, (h2.below k).more' k.size⟩⟩
theorem calls_in {P : Program} {f : FuncId} {args : Array Value} {w W : World} {Q : Ending → World → Prop} (h : w = W) (hk : Calls P f args W Q) : Calls P f args w Q := h ▸ hk
theorem Masked_at (v : Value) (key : List UInt8) (m : UInt8) (z : Int) (hz : z = (m.toNat : Int)) (w : World) (hb : Bs w w.heap.size v key) (hk : key.length ≤ 64) :
    Calls Tryd.prog 47 #[v, .int .u8 z] w fun e w' => ∃ g, e = .returned (.slice (some ⟨g, 0, none⟩) 64 64) ∧ w.heap.size ≤ g ∧ (∃ R, Row w' g ((Sha.masked key m).map bv ++ R) 5) ∧ Below w.heap.size w w' := by
  subst hz
  exact Masked_any v key m w hb hk
theorem bss_lt {w : World} {B : Nat} {v : Value} {ls : List (List UInt8)} {us : List Value} (h : Bss w B v ls) (hl : us.length = ls.length) : ∀ b off c, v = .slice (some ⟨b, off, none⟩) us.length c → us ≠ [] → b < B := by
  intro b off c e hne
  obtain ⟨A, c', rfl, _, hcs⟩ := h
  have hl0 : ls ≠ [] := by intro h; subst h; exact hne (List.eq_nil_of_length_eq_zero hl)
  obtain ⟨b', off', rfl, hlt, _⟩ := hcs hl0
  simp only [Value.slice.injEq, Option.some.injEq, Addr.mk.injEq] at e
  omega

set_option maxRecDepth 8000 in
set_option maxHeartbeats 1000000 in
theorem Mac_any (v lv : Value) (key : List UInt8) (ls : List (List UInt8)) (w : World) (ht : Tab w) (hk : Bs w w.heap.size v key) (hkl : key.length ≤ 1000000000) (hb : Bss w w.heap.size lv ls) (hn : ls.length ≤ 50000) (hm : ∀ l ∈ ls, l.length ≤ 1000000000) (hf : ls.flatten.length ≤ 100000000000) :
    Calls Tryd.prog 20 #[v, lv] w fun e w' => e = .returned (arr8 (Sha.mac key ls.flatten)) ∧ Below w.heap.size w w' := by
  have Ht := Lib.hid ht
  have Hk := Lib.hid hk
  have Hls := Lib.hid hb
  have Hm := Lib.hid hm
  have Hf := Lib.hid hf
  obtain ⟨A, c, rfl, _, _⟩ := hk
  clear ht hb hm hf
  have HR0 := Lib.hid (show Row (w.alloc (.cells ((List.replicate 32 (0 : UInt8)).map bv).toArray 24)) w.heap.size ((List.replicate 32 (0 : UInt8)).map bv) 24 from Row.new rfl rfl)
  have HB0 := Lib.hid ((Below.refl w.heap.size w).alloc (Nat.le_refl _) (.cells ((List.replicate 32 (0 : UInt8)).map bv).toArray 24))
  have HK0 := Lib.hid (((Hk.out.alloc (Nat.le_refl _) (.cells ((List.replicate 32 (0 : UInt8)).map bv).toArray 24))).more (B' := (w.alloc (.cells ((List.replicate 32 (0 : UInt8)).map bv).toArray 24)).heap.size) (by simp))
  by_cases h64 : 64 < key.length
  · have h64' : (64 : Int) < (key.length : Int) := by omega
    have hsh : Sha.short key = Sha.sum key := by rw [Sha.short, if_pos h64]
    have Hsh := Lib.hid hsh
    clear hsh
    go_enter Tryd.func20, Tryd.ntmps20
    go_wp2_with fail
    obtain ⟨W0, hW0⟩ : ∃ W0, w.alloc (.cells ((List.replicate 32 (0 : UInt8)).map bv).toArray 24) = W0 := ⟨_, rfl⟩
    rw [hW0] at HK0 HR0 HB0
    have hss0 := bss_new (n := 1) (ls := [key]) (vs := [.slice A key.length c]) (w := W0) rfl rfl (.one HK0.out)
    have htab0 : Tab (W0.alloc (.cells #[.slice A key.length c] 23)) := (Ht.out.below HB0.out Ht.out.1).below ((Below.refl W0.heap.size W0).alloc (Nat.le_refl _) _) (by have := Ht.out.1; have := HB0.out.size; omega)
    have hsum0 := Sum_any _ [key] (W0.alloc (.cells #[.slice A key.length c] 23)) htab0 hss0 (by simp) (by intro l hl; simp at hl; subst hl; exact hkl) (by simp; omega)
    have hWa : (w.alloc (.cells ((List.replicate 32 (0 : UInt8)).map bv).toArray 24)).alloc (.cells #[.slice A key.length c] 23) = W0.alloc (.cells #[.slice A key.length c] 23) := by rw [hW0]
    refine calls_in hWa ?_
    clear hWa
    have hszW : w.heap.size + 1 = W0.heap.size := by rw [← hW0]; simp
    rw [← hszW] at hsum0
    refine hsum0.mono ?_
    rintro e w1 ⟨rfl, hb1⟩
    have hb01 : Below w.heap.size w w1 := nextB (nextB HB0.out (Nat.le_refl _) ((Below.refl W0.heap.size W0).alloc (Nat.le_refl _) (.cells #[.slice A key.length c] 23))) (Nat.le_refl _) hb1
    have hr01 := (HR0.out.alloc (.cells #[.slice A key.length c] 23)).below hb1 (HR0.out.alloc (.cells #[.slice A key.length c] 23)).lt
    have HB1 := Lib.hid hb01
    have HR1 := Lib.hid hr01
    clear hb1 hb01 hr01 hsum0 hss0 htab0 hszW
    rw [show [key].flatten = key by simp]
    obtain ⟨K, hK⟩ : ∃ K, Sha.sum key = K := ⟨_, rfl⟩
    have hKl : K.length = 32 := by rw [← hK]; exact Sha.sum_length _
    rw [hK]
    have HKe := Lib.hid (show Sha.short key = K by rw [Hsh.out, hK])
    have HK32 := Lib.hid hKl
    have HKm := Lib.hid (show (K.map bv).length = 32 by rw [List.length_map]; exact hKl)
    have HKl := Lib.hid (show K.length ≤ 64 by omega)
    clear hK hKl hW0
    unfold arr8
    go_wp2_with (first
      | (show wpList _ _ _ (⟨none, Op.store 24 _ _, _, _, _, _⟩ :: _) _ _; refine wpList_storeRow (g := w1.heap.size) rfl 24 _ _ rfl rfl rfl (cs := K.map bv) (old := (List.replicate 32 (0 : UInt8)).map bv) (Row.new rfl rfl) (by kernel_rfl) HKm.out (by simp) (hbytes_one K) ?_)
      | fail)
    have hr5 : Row ((w1.alloc (.cells ((List.replicate 32 (0 : UInt8)).map bv).toArray 24)).setRow w1.heap.size (K.map bv).toArray) w1.heap.size (K.map bv) 24 := (Row.new (cs := (List.replicate 32 (0 : UInt8)).map bv) rfl rfl).setRow (K.map bv)
    have hb5 : Below w1.heap.size w1 ((w1.alloc (.cells ((List.replicate 32 (0 : UInt8)).map bv).toArray 24)).setRow w1.heap.size (K.map bv).toArray) := below_setRow ((Below.refl w1.heap.size w1).alloc (Nat.le_refl _) _) (Nat.le_refl _) _
    obtain ⟨W, hW⟩ : ∃ W, (w1.alloc (.cells ((List.replicate 32 (0 : UInt8)).map bv).toArray 24)).setRow w1.heap.size (K.map bv).toArray = W := ⟨_, rfl⟩
    rw [hW] at hr5 hb5
    have HB := Lib.hid (nextB HB1.out (Nat.le_refl _) hb5)
    have HR := Lib.hid (HR1.out.below hb5 HR1.out.lt)
    have hkb : Bs W W.heap.size (.slice (some ⟨w1.heap.size, 0, none⟩) 32 32) K := by
      have h1 := hr5.bs (B := W.heap.size) hr5.lt
      rwa [HK32.out] at h1
    obtain ⟨kv, hkv⟩ : ∃ kv, Value.slice (some ⟨w1.heap.size, 0, none⟩) 32 32 = kv := ⟨_, rfl⟩
    rw [hkv] at hkb ⊢
    have HK := Lib.hid hkb
    clear hr5 hb5 hkb hkv
    have hkK := HKl.out
    refine calls_in hW ?_
    clear hW
    refine (Masked_at kv K 0x36 54 rfl W HK.out hkK).mono ?_
    rintro e w1 ⟨g1, rfl, hg1, hr1, hb1⟩
    obtain ⟨R1, hr1⟩ := hr1
    have hm1 : Bs w1 w1.heap.size (.slice (some ⟨g1, 0, none⟩) 64 64) (Sha.masked K 0x36) := bs_row hr1 (Sha.masked_length _ _ hkK)
    have HB1 := Lib.hid (nextB HB.out (Nat.le_refl _) hb1)
    have HR1 := Lib.hid (HR.out.below hb1 HR.out.lt)
    have HK1 := Lib.hid ((HK.out.below hb1).more hb1.size)
    have HM1 := Lib.hid hm1
    have Hls1 := Lib.hid (Hls.out.below HB1.out)
    clear hg1 hr1 hb1 hm1
    obtain ⟨us, hvals, hreads⟩ := bss_vals Hls1.out
    have hsz1 : w.heap.size ≤ w1.heap.size := HB1.out.size
    have hvals1 : Vals (w1.alloc (.cells #[.slice (some ⟨g1, 0, none⟩) 64 64] 23)) lv us := hvals.grown (B := w.heap.size) (bss_lt Hls1.out hreads.1) ((Below.refl w.heap.size w1).alloc hsz1 _)
    have Hvals1 := Lib.hid hvals1
    have Hone := Lib.hid hreads.one_cell
    have Hul := Lib.hid (show us.length = ls.length from hreads.1)
    have Hreads := Lib.hid hreads
    clear hvals hvals1 hreads
    go_wp2_with (first
      | (show wpList _ _ _ (⟨some 18, _, _, _, _, _⟩ :: _) _ _
         refine wpList_app_lists (w1.alloc (.cells #[.slice (some ⟨g1, 0, none⟩) 64 64] 23)) rfl _ _ rfl rfl rfl (ownVs_new w1 _) Hvals1.out Hone.out (by rw [Hul.out]; simp; omega) (by simp) ?_
         intro v2 w2 hown2 hg2
         have hbg : Below w1.heap.size w1 w2 := ((Below.refl w1.heap.size w1).alloc (Nat.le_refl _) (.cells #[.slice (some ⟨g1, 0, none⟩) 64 64] 23)).grown hg2 (by simp) (fun k hk => by have hk' : some w1.heap.size = some k := hk; injection hk' with hk'; omega)
         have hrd2 : Reads w2 w2.heap.size ([.slice (some ⟨g1, 0, none⟩) 64 64] ++ us) ([Sha.masked K 0x36] ++ ls) :=
           Reads.append (.one ((HM1.out.below hbg).more hbg.size)) ((Hreads.out.below (hbg.mono hsz1)).more (Nat.le_trans hsz1 hbg.size))
         have Hss2 := Lib.hid (bss_own hown2 hrd2)
         have HB2 := Lib.hid (nextB HB1.out (Nat.le_refl _) hbg)
         have HR2 := Lib.hid (HR1.out.below hbg HR1.out.lt)
         have HK2 := Lib.hid ((HK1.out.below hbg).more hbg.size)
         clear hown2 hg2 hbg hrd2)
      | fail)
    refine (Sum_any v2 ([Sha.masked K 0x36] ++ ls) w2 (Ht.out.below HB2.out Ht.out.1) Hss2.out (by simp; omega) (by
      intro l hl
      rcases List.mem_append.1 hl with h | h
      · rw [List.mem_singleton] at h; subst h; rw [Sha.masked_length _ _ hkK]; omega
      · exact Hm.out l h) (by rw [List.flatten_append, List.length_append]; simp only [List.flatten_cons, List.flatten_nil, List.append_nil]; rw [Sha.masked_length _ _ hkK]; have := Hf.out; omega)).mono ?_
    rintro e w3 ⟨rfl, hb3⟩
    have hfl : ([Sha.masked K 0x36] ++ ls).flatten = Sha.masked K 0x36 ++ ls.flatten := by simp
    rw [hfl]
    obtain ⟨I, hI⟩ : ∃ I, Sha.sum (Sha.masked K 0x36 ++ ls.flatten) = I := ⟨_, rfl⟩
    have hIl : I.length = 32 := by rw [← hI]; exact Sha.sum_length _
    rw [hI]
    have hsz2 : w.heap.size ≤ w2.heap.size := HB2.out.size
    have HB3 := Lib.hid (nextB HB2.out (Nat.le_refl _) hb3)
    have HR3 := Lib.hid (HR2.out.below hb3 HR2.out.lt)
    have HK3 := Lib.hid ((HK2.out.below hb3).more hb3.size)
    have HI := Lib.hid hI
    have HIl := Lib.hid (show (I.map bv).length = 32 by rw [List.length_map]; exact hIl)
    have HIn := Lib.hid hIl
    clear hb3 hfl hI hIl
    unfold arr8
    go_wp2_with (first
      | (show wpList _ _ _ (⟨none, Op.store 24 _ _, _, _, _, _⟩ :: _) _ _; refine wpList_storeRow (g := w3.heap.size) rfl 24 _ _ rfl rfl rfl (cs := I.map bv) (old := (List.replicate 32 (0 : UInt8)).map bv) (Row.new rfl rfl) (by kernel_rfl) HIl.out (by simp) (hbytes_one I) ?_)
      | fail)
    have hr6 : Row ((w3.alloc (.cells ((List.replicate 32 (0 : UInt8)).map bv).toArray 24)).setRow w3.heap.size (I.map bv).toArray) w3.heap.size (I.map bv) 24 := (Row.new (cs := (List.replicate 32 (0 : UInt8)).map bv) rfl rfl).setRow (I.map bv)
    have hb36 : Below w3.heap.size w3 ((w3.alloc (.cells ((List.replicate 32 (0 : UInt8)).map bv).toArray 24)).setRow w3.heap.size (I.map bv).toArray) := below_setRow ((Below.refl w3.heap.size w3).alloc (Nat.le_refl _) _) (Nat.le_refl _) _
    obtain ⟨V, hV⟩ : ∃ V, (w3.alloc (.cells ((List.replicate 32 (0 : UInt8)).map bv).toArray 24)).setRow w3.heap.size (I.map bv).toArray = V := ⟨_, rfl⟩
    refine code_world hV ?_
    rw [hV] at hr6 hb36
    obtain ⟨g6, hg6⟩ : ∃ g6, w3.heap.size = g6 := ⟨_, rfl⟩
    rw [hg6] at hr6 ⊢
    have HR6 := Lib.hid hr6
    have HRV := Lib.hid (HR3.out.below hb36 HR3.out.lt)
    have HBV := Lib.hid (nextB HB3.out (Nat.le_refl _) hb36)
    have HKV := Lib.hid ((HK3.out.below hb36).more hb36.size)
    have hgw : w.heap.size < g6 := by rw [← hg6]; exact HR3.out.lt
    clear hr6 hb36 hV hg6
    have HTV := Lib.hid (Ht.out.below HBV.out Ht.out.1)
    have hI6 : ∀ w', Grew V.drew w' → Bs w' w'.heap.size (.slice (some ⟨g6, 0, none⟩) 32 32) I := by
      intro w' hw'
      have hr6 := Row.below (w := V.drew) HR6.out hw' HR6.out.lt
      have h1 := hr6.bs (B := w'.heap.size) hr6.lt
      rwa [HIn.out] at h1
    have HI6 := Lib.hid hI6
    have HM2 : Hid (∀ l ∈ [Sha.masked K 0x5c, I], l.length ≤ 1000000000) := by
      intro l hl
      simp only [List.mem_cons, List.not_mem_nil, or_false] at hl
      rcases hl with rfl | rfl
      · rw [Sha.masked_length _ _ hkK]; omega
      · rw [HIn.out]; omega
    have HF2 : Hid ([Sha.masked K 0x5c, I].flatten.length ≤ 1000000000000) := by
      show _ ≤ _
      simp only [List.flatten_cons, List.flatten_nil, List.append_nil, List.length_append]
      rw [Sha.masked_length _ _ hkK, HIn.out]
      omega
    clear hI6
    obtain ⟨O, hO⟩ : ∃ O, Sha.sum [Sha.masked K 0x5c, I].flatten = O := ⟨_, rfl⟩
    have hmac : Sha.mac key ls.flatten = O := by
      rw [← hO, Sha.mac, HKe.out, HI.out]
      simp
    have hOl : O.length = 32 := by rw [← hO]; exact Sha.sum_length _
    have HO := Lib.hid hO
    have Hmac := Lib.hid hmac
    have HOm := Lib.hid (show (O.map bv).length = 32 by rw [List.length_map]; exact hOl)
    clear hO hmac hOl
    refine Tail.marksAt Pol.mixed 5 Grew [By.is kv,
      rdM (Sha.masked K 0x5c) 64,
      By.is (.slice (some ⟨g6, 0, none⟩) 32 32),
      rdL [Sha.masked K 0x5c, I] 2,
      By.is (arr8 O)]
      (Ev.masks _ []) (Nat.zero_lt_succ _) (by kernel_rfl) (by kernel_rfl) rfl Grew.refl Grew.trans ⟨?_, ?_, ?_, ?_, ?_, trivial⟩ ?_
    · intro a w ht hs hg -- 20
      have h0 := By.same_get hs 0 (by decide) (by kernel_rfl)
      refine By.yes rfl ?_
      clear hs hg
      go_simp
      exact ⟨_, rfl, Grew.refl _, rfl⟩
    · intro a w ht hs hg -- 21
      have h20 : a.tmps.getD 20 undef = _ := By.given_get hg 0 rfl rfl (by kernel_rfl)
      refine By.yes rfl ?_
      clear hs hg
      have hkw := Lib.hid (grew_bs HKV.out ht)
      clear ht
      go_simp
      refine (Masked_at kv K 0x5c 92 rfl w hkw.out hkK).mono ?_
      rintro e w7 ⟨g7, rfl, hg7, hr7, hb7⟩
      obtain ⟨R7, hr7⟩ := hr7
      exact ⟨_, rfl, hb7, g7, rfl, bs_row hr7 (Sha.masked_length _ _ hkK)⟩
    · intro a w ht hs hg -- 22
      have h6 := By.same_get hs 6 (by decide) (by kernel_rfl)
      refine By.yes rfl ?_
      clear hs hg
      go_simp
      exact ⟨_, rfl, Grew.refl _, rfl⟩
    · intro a w ht hs hg -- 23
      have h21 := By.given_get hg 1 rfl rfl (by kernel_rfl)
      have h22 : a.tmps.getD 22 undef = _ := By.given_get hg 2 rfl rfl (by kernel_rfl)
      refine By.yes rfl ?_
      obtain ⟨v21, hv21⟩ : ∃ v, a.tmps.getD 21 undef = v := ⟨_, rfl⟩
      replace h21 := (congrArg (fun v => (rdM (Sha.masked K 0x5c) 64).on v w) hv21).mp h21
      clear hs hg
      have hi6 := Lib.hid (HI6.out w ht)
      clear ht
      obtain ⟨g7, rfl, hm7⟩ := h21
      have Hm7 := Lib.hid hm7
      clear hm7
      rw [Array.getD_eq_getD_getElem?] at hv21 h22
      go_simp
      exact ⟨_, rfl, (Below.refl _ w).alloc (Nat.le_refl _) _, w.heap.size, rfl, bss_new (n := 2) (ls := [Sha.masked K 0x5c, I]) (vs := [.slice (some ⟨g7, 0, none⟩) 64 64, .slice (some ⟨g6, 0, none⟩) 32 32]) (w := w) rfl rfl (Reads.append (.one Hm7.out) (.one hi6.out))⟩
    · intro a w ht hs hg -- 24
      have h23 := By.given_get hg 3 rfl rfl (by kernel_rfl)
      refine By.yes rfl ?_
      obtain ⟨v23, hv23⟩ : ∃ v, a.tmps.getD 23 undef = v := ⟨_, rfl⟩
      replace h23 := (congrArg (fun v => (rdL [Sha.masked K 0x5c, I] 2).on v w) hv23).mp h23
      clear hs hg
      have htab := Lib.hid (HTV.out.below (show Below V.heap.size V w from ⟨ht.os, ht.tape, ht.output, ht.size, ht.block⟩) HTV.out.1)
      clear ht
      obtain ⟨g8, rfl, hs8⟩ := h23
      have Hs8 := Lib.hid hs8
      clear hs8
      go_simp
      refine (Sum_any _ [Sha.masked K 0x5c, I] w htab.out Hs8.out (by simp) HM2.out HF2.out).mono ?_
      rintro e w8 ⟨rfl, hb8⟩
      exact ⟨_, rfl, hb8, congrArg arr8 HO.out⟩
    refine By.ends_is (By.ends_skip fun v21 => (By.ends_is (By.ends_skip fun v23 => (By.ends_is (By.ends_nil fun w9 hw9 => ?_)))))
    simp only [Act.put, List.setIfInBounds_toArray, List.set_cons_succ, List.set_cons_zero]
    simp only [List.drop_succ_cons, List.drop_zero]

    have hr9 := Lib.hid (Row.below (w := V.drew) HRV.out hw9 HRV.out.lt)
    have hb9 : Below w.heap.size w w9 := nextB HBV.out (Nat.le_refl _) (show Below V.heap.size V w9 from ⟨hw9.os, hw9.tape, hw9.output, hw9.size, hw9.block⟩)
    have HB9 := Lib.hid hb9
    clear hb9 hw9
    unfold arr8
    go_wp2_with (first
      | (show wpList _ _ _ (⟨none, Op.store 24 _ _, _, _, _, _⟩ :: _) _ _; refine wpList_storeRow (g := w.heap.size) rfl 24 _ _ rfl rfl rfl (cs := O.map bv) hr9.out (by kernel_rfl) HOm.out (by simp) (hbytes_one O) ?_)
      | fail)
    refine bodyPost_ret (results_row rfl _ rfl (hr9.out.setRow (O.map bv)) Tryd.underlying24 rfl (by kernel_rfl) HOm.out) rfl ?_
    exact ⟨by rw [Hmac.out]; rfl, below_setRow HB9.out (Nat.le_refl _) _⟩
  · have h64' : ¬ (64 : Int) < (key.length : Int) := by omega
    have hsh : Sha.short key = key := by rw [Sha.short, if_neg h64]
    go_enter Tryd.func20, Tryd.ntmps20
    go_wp2_with fail
    obtain ⟨kv, hkv⟩ : ∃ kv, Value.slice A key.length c = kv := ⟨_, rfl⟩
    obtain ⟨W, hW⟩ : ∃ W, w.alloc (.cells ((List.replicate 32 (0 : UInt8)).map bv).toArray 24) = W := ⟨_, rfl⟩
    have HK := HK0
    have HB := HB0
    have HR := HR0
    rw [hW, hkv] at HK
    rw [← hsh] at HK
    rw [hW] at HB HR
    have HKl := Lib.hid (show (Sha.short key).length ≤ 64 by rw [hsh]; omega)
    rw [hkv]
    obtain ⟨K, hKe⟩ : ∃ K, Sha.short key = K := ⟨_, rfl⟩
    rw [hKe] at HK HKl
    have HKe := Lib.hid hKe
    clear hsh hKe
    have hkK := HKl.out
    refine calls_in hW ?_
    clear hW
    refine (Masked_at kv K 0x36 54 rfl W HK.out hkK).mono ?_
    rintro e w1 ⟨g1, rfl, hg1, hr1, hb1⟩
    obtain ⟨R1, hr1⟩ := hr1
    have hm1 : Bs w1 w1.heap.size (.slice (some ⟨g1, 0, none⟩) 64 64) (Sha.masked K 0x36) := bs_row hr1 (Sha.masked_length _ _ hkK)
    have HB1 := Lib.hid (nextB HB.out (Nat.le_refl _) hb1)
    have HR1 := Lib.hid (HR.out.below hb1 HR.out.lt)
    have HK1 := Lib.hid ((HK.out.below hb1).more hb1.size)
    have HM1 := Lib.hid hm1
    have Hls1 := Lib.hid (Hls.out.below HB1.out)
    clear hg1 hr1 hb1 hm1
    obtain ⟨us, hvals, hreads⟩ := bss_vals Hls1.out
    have hsz1 : w.heap.size ≤ w1.heap.size := HB1.out.size
    have hvals1 : Vals (w1.alloc (.cells #[.slice (some ⟨g1, 0, none⟩) 64 64] 23)) lv us := hvals.grown (B := w.heap.size) (bss_lt Hls1.out hreads.1) ((Below.refl w.heap.size w1).alloc hsz1 _)
    have Hvals1 := Lib.hid hvals1
    have Hone := Lib.hid hreads.one_cell
    have Hul := Lib.hid (show us.length = ls.length from hreads.1)
    have Hreads := Lib.hid hreads
    clear hvals hvals1 hreads
    go_wp2_with (first
      | (show wpList _ _ _ (⟨some 18, _, _, _, _, _⟩ :: _) _ _
         refine wpList_app_lists (w1.alloc (.cells #[.slice (some ⟨g1, 0, none⟩) 64 64] 23)) rfl _ _ rfl rfl rfl (ownVs_new w1 _) Hvals1.out Hone.out (by rw [Hul.out]; simp; omega) (by simp) ?_
         intro v2 w2 hown2 hg2
         have hbg : Below w1.heap.size w1 w2 := ((Below.refl w1.heap.size w1).alloc (Nat.le_refl _) (.cells #[.slice (some ⟨g1, 0, none⟩) 64 64] 23)).grown hg2 (by simp) (fun k hk => by have hk' : some w1.heap.size = some k := hk; injection hk' with hk'; omega)
         have hrd2 : Reads w2 w2.heap.size ([.slice (some ⟨g1, 0, none⟩) 64 64] ++ us) ([Sha.masked K 0x36] ++ ls) :=
           Reads.append (.one ((HM1.out.below hbg).more hbg.size)) ((Hreads.out.below (hbg.mono hsz1)).more (Nat.le_trans hsz1 hbg.size))
         have Hss2 := Lib.hid (bss_own hown2 hrd2)
         have HB2 := Lib.hid (nextB HB1.out (Nat.le_refl _) hbg)
         have HR2 := Lib.hid (HR1.out.below hbg HR1.out.lt)
         have HK2 := Lib.hid ((HK1.out.below hbg).more hbg.size)
         clear hown2 hg2 hbg hrd2)
      | fail)
    refine (Sum_any v2 ([Sha.masked K 0x36] ++ ls) w2 (Ht.out.below HB2.out Ht.out.1) Hss2.out (by simp; omega) (by
      intro l hl
      rcases List.mem_append.1 hl with h | h
      · rw [List.mem_singleton] at h; subst h; rw [Sha.masked_length _ _ hkK]; omega
      · exact Hm.out l h) (by rw [List.flatten_append, List.length_append]; simp only [List.flatten_cons, List.flatten_nil, List.append_nil]; rw [Sha.masked_length _ _ hkK]; have := Hf.out; omega)).mono ?_
    rintro e w3 ⟨rfl, hb3⟩
    have hfl : ([Sha.masked K 0x36] ++ ls).flatten = Sha.masked K 0x36 ++ ls.flatten := by simp
    rw [hfl]
    obtain ⟨I, hI⟩ : ∃ I, Sha.sum (Sha.masked K 0x36 ++ ls.flatten) = I := ⟨_, rfl⟩
    have hIl : I.length = 32 := by rw [← hI]; exact Sha.sum_length _
    rw [hI]
    have hsz2 : w.heap.size ≤ w2.heap.size := HB2.out.size
    have HB3 := Lib.hid (nextB HB2.out (Nat.le_refl _) hb3)
    have HR3 := Lib.hid (HR2.out.below hb3 HR2.out.lt)
    have HK3 := Lib.hid ((HK2.out.below hb3).more hb3.size)
    have HI := Lib.hid hI
    have HIl := Lib.hid (show (I.map bv).length = 32 by rw [List.length_map]; exact hIl)
    have HIn := Lib.hid hIl
    clear hb3 hfl hI hIl
    unfold arr8
    go_wp2_with (first
      | (show wpList _ _ _ (⟨none, Op.store 24 _ _, _, _, _, _⟩ :: _) _ _; refine wpList_storeRow (g := w3.heap.size) rfl 24 _ _ rfl rfl rfl (cs := I.map bv) (old := (List.replicate 32 (0 : UInt8)).map bv) (Row.new rfl rfl) (by kernel_rfl) HIl.out (by simp) (hbytes_one I) ?_)
      | fail)
    have hr6 : Row ((w3.alloc (.cells ((List.replicate 32 (0 : UInt8)).map bv).toArray 24)).setRow w3.heap.size (I.map bv).toArray) w3.heap.size (I.map bv) 24 := (Row.new (cs := (List.replicate 32 (0 : UInt8)).map bv) rfl rfl).setRow (I.map bv)
    have hb36 : Below w3.heap.size w3 ((w3.alloc (.cells ((List.replicate 32 (0 : UInt8)).map bv).toArray 24)).setRow w3.heap.size (I.map bv).toArray) := below_setRow ((Below.refl w3.heap.size w3).alloc (Nat.le_refl _) _) (Nat.le_refl _) _
    obtain ⟨V, hV⟩ : ∃ V, (w3.alloc (.cells ((List.replicate 32 (0 : UInt8)).map bv).toArray 24)).setRow w3.heap.size (I.map bv).toArray = V := ⟨_, rfl⟩
    refine code_world hV ?_
    rw [hV] at hr6 hb36
    obtain ⟨g6, hg6⟩ : ∃ g6, w3.heap.size = g6 := ⟨_, rfl⟩
    rw [hg6] at hr6 ⊢
    have HR6 := Lib.hid hr6
    have HRV := Lib.hid (HR3.out.below hb36 HR3.out.lt)
    have HBV := Lib.hid (nextB HB3.out (Nat.le_refl _) hb36)
    have HKV := Lib.hid ((HK3.out.below hb36).more hb36.size)
    have hgw : w.heap.size < g6 := by rw [← hg6]; exact HR3.out.lt
    clear hr6 hb36 hV hg6
    have HTV := Lib.hid (Ht.out.below HBV.out Ht.out.1)
    have hI6 : ∀ w', Grew V.drew w' → Bs w' w'.heap.size (.slice (some ⟨g6, 0, none⟩) 32 32) I := by
      intro w' hw'
      have hr6 := Row.below (w := V.drew) HR6.out hw' HR6.out.lt
      have h1 := hr6.bs (B := w'.heap.size) hr6.lt
      rwa [HIn.out] at h1
    have HI6 := Lib.hid hI6
    have HM2 : Hid (∀ l ∈ [Sha.masked K 0x5c, I], l.length ≤ 1000000000) := by
      intro l hl
      simp only [List.mem_cons, List.not_mem_nil, or_false] at hl
      rcases hl with rfl | rfl
      · rw [Sha.masked_length _ _ hkK]; omega
      · rw [HIn.out]; omega
    have HF2 : Hid ([Sha.masked K 0x5c, I].flatten.length ≤ 1000000000000) := by
      show _ ≤ _
      simp only [List.flatten_cons, List.flatten_nil, List.append_nil, List.length_append]
      rw [Sha.masked_length _ _ hkK, HIn.out]
      omega
    clear hI6
    obtain ⟨O, hO⟩ : ∃ O, Sha.sum [Sha.masked K 0x5c, I].flatten = O := ⟨_, rfl⟩
    have hmac : Sha.mac key ls.flatten = O := by
      rw [← hO, Sha.mac, HKe.out, HI.out]
      simp
    have hOl : O.length = 32 := by rw [← hO]; exact Sha.sum_length _
    have HO := Lib.hid hO
    have Hmac := Lib.hid hmac
    have HOm := Lib.hid (show (O.map bv).length = 32 by rw [List.length_map]; exact hOl)
    clear hO hmac hOl
    refine Tail.marksAt Pol.mixed 5 Grew [By.is kv,
      rdM (Sha.masked K 0x5c) 64,
      By.is (.slice (some ⟨g6, 0, none⟩) 32 32),
      rdL [Sha.masked K 0x5c, I] 2,
      By.is (arr8 O)]
      (Ev.masks _ []) (Nat.zero_lt_succ _) (by kernel_rfl) (by kernel_rfl) rfl Grew.refl Grew.trans ⟨?_, ?_, ?_, ?_, ?_, trivial⟩ ?_
    · intro a w ht hs hg -- 20
      have h0 := By.same_get hs 0 (by decide) (by kernel_rfl)
      refine By.yes rfl ?_
      clear hs hg
      go_simp
      exact ⟨_, rfl, Grew.refl _, rfl⟩
    · intro a w ht hs hg -- 21
      have h20 : a.tmps.getD 20 undef = _ := By.given_get hg 0 rfl rfl (by kernel_rfl)
      refine By.yes rfl ?_
      clear hs hg
      have hkw := Lib.hid (grew_bs HKV.out ht)
      clear ht
      go_simp
      refine (Masked_at kv K 0x5c 92 rfl w hkw.out hkK).mono ?_
      rintro e w7 ⟨g7, rfl, hg7, hr7, hb7⟩
      obtain ⟨R7, hr7⟩ := hr7
      exact ⟨_, rfl, hb7, g7, rfl, bs_row hr7 (Sha.masked_length _ _ hkK)⟩
    · intro a w ht hs hg -- 22
      have h6 := By.same_get hs 6 (by decide) (by kernel_rfl)
      refine By.yes rfl ?_
      clear hs hg
      go_simp
      exact ⟨_, rfl, Grew.refl _, rfl⟩
    · intro a w ht hs hg -- 23
      have h21 := By.given_get hg 1 rfl rfl (by kernel_rfl)
      have h22 : a.tmps.getD 22 undef = _ := By.given_get hg 2 rfl rfl (by kernel_rfl)
      refine By.yes rfl ?_
      obtain ⟨v21, hv21⟩ : ∃ v, a.tmps.getD 21 undef = v := ⟨_, rfl⟩
      replace h21 := (congrArg (fun v => (rdM (Sha.masked K 0x5c) 64).on v w) hv21).mp h21
      clear hs hg
      have hi6 := Lib.hid (HI6.out w ht)
      clear ht
      obtain ⟨g7, rfl, hm7⟩ := h21
      have Hm7 := Lib.hid hm7
      clear hm7
      rw [Array.getD_eq_getD_getElem?] at hv21 h22
      go_simp
      exact ⟨_, rfl, (Below.refl _ w).alloc (Nat.le_refl _) _, w.heap.size, rfl, bss_new (n := 2) (ls := [Sha.masked K 0x5c, I]) (vs := [.slice (some ⟨g7, 0, none⟩) 64 64, .slice (some ⟨g6, 0, none⟩) 32 32]) (w := w) rfl rfl (Reads.append (.one Hm7.out) (.one hi6.out))⟩
    · intro a w ht hs hg -- 24
      have h23 := By.given_get hg 3 rfl rfl (by kernel_rfl)
      refine By.yes rfl ?_
      obtain ⟨v23, hv23⟩ : ∃ v, a.tmps.getD 23 undef = v := ⟨_, rfl⟩
      replace h23 := (congrArg (fun v => (rdL [Sha.masked K 0x5c, I] 2).on v w) hv23).mp h23
      clear hs hg
      have htab := Lib.hid (HTV.out.below (show Below V.heap.size V w from ⟨ht.os, ht.tape, ht.output, ht.size, ht.block⟩) HTV.out.1)
      clear ht
      obtain ⟨g8, rfl, hs8⟩ := h23
      have Hs8 := Lib.hid hs8
      clear hs8
      go_simp
      refine (Sum_any _ [Sha.masked K 0x5c, I] w htab.out Hs8.out (by simp) HM2.out HF2.out).mono ?_
      rintro e w8 ⟨rfl, hb8⟩
      exact ⟨_, rfl, hb8, congrArg arr8 HO.out⟩
    refine By.ends_is (By.ends_skip fun v21 => (By.ends_is (By.ends_skip fun v23 => (By.ends_is (By.ends_nil fun w9 hw9 => ?_)))))
    simp only [Act.put, List.setIfInBounds_toArray, List.set_cons_succ, List.set_cons_zero]
    simp only [List.drop_succ_cons, List.drop_zero]

    have hr9 := Lib.hid (Row.below (w := V.drew) HRV.out hw9 HRV.out.lt)
    have hb9 : Below w.heap.size w w9 := nextB HBV.out (Nat.le_refl _) (show Below V.heap.size V w9 from ⟨hw9.os, hw9.tape, hw9.output, hw9.size, hw9.block⟩)
    have HB9 := Lib.hid hb9
    clear hb9 hw9
    unfold arr8
    go_wp2_with (first
      | (show wpList _ _ _ (⟨none, Op.store 24 _ _, _, _, _, _⟩ :: _) _ _; refine wpList_storeRow (g := w.heap.size) rfl 24 _ _ rfl rfl rfl (cs := O.map bv) hr9.out (by kernel_rfl) HOm.out (by simp) (hbytes_one O) ?_)
      | fail)
    refine bodyPost_ret (results_row rfl _ rfl (hr9.out.setRow (O.map bv)) Tryd.underlying24 rfl (by kernel_rfl) HOm.out) rfl ?_
    exact ⟨by rw [Hmac.out]; rfl, below_setRow HB9.out (Nat.le_refl _) _⟩
end Go.Proofs.YtmfpjdbgdmmjkaaDoor
namespace Go.Proofs.YtmfpjdbgdmmjkaaDoor.Shk
open Go.RowKit
theorem bytesWorld_below (w : World) (l : List UInt8) : Below w.heap.size w (Lib.bytesWorld w 5 ⟨l.toArray⟩) :=
  ⟨rfl, rfl, rfl, by rw [Lib.bytesWorld_size]; omega, fun i hi => Lib.bytesWorld_at_old w 5 _ i hi⟩
/-- The bytes of a string. -/
theorem run_bytes (w : World) (l : List UInt8) : ∃ v W, (convert 9 23 (strOf l)).run Tryd.prog w = .ok v W ∧ Bs W W.heap.size v l ∧ Below w.heap.size w W := by
  refine ⟨_, _, Lib.run_convert_string_bytes w 9 23 5 ⟨l.toArray⟩ Tryd.underlying9 Tryd.underlying23 Tryd.underlying5, ?_, bytesWorld_below w l⟩
  have hs : (⟨l.toArray⟩ : ByteArray).size = l.length := rfl
  refine ⟨some ⟨w.heap.size, 0, none⟩, grownCap w l.length 0 5, rfl, ?_, fun _ => ⟨w.heap.size, 0, rfl, by rw [Lib.bytesWorld_size]; omega, fun i u hu => ?_⟩⟩
  · exact grownCap_ge w l.length 0 5
  · have hi : i < l.length := (List.getElem?_eq_some_iff.1 hu).1
    rw [Nat.zero_add, Lib.bytesWorld_cell w 5 _ i (by rw [hs]; exact hi)]
    rw [List.getD_eq_getElem?_getD, hu]
    rfl
end Go.Proofs.YtmfpjdbgdmmjkaaDoor.Shk
namespace Go.Proofs.YtmfpjdbgdmmjkaaDoor
open Go.RowKit
section
variable {P : Program}
theorem run_equal_ints {t e : TypeId} {n : Nat} {k : IntKind} (hu : P.underlying t = some (.array n e)) (he : P.underlying e = some (.int k)) (hs : (P.info? e).map (·.size) = some 1) (xs ys : List Int) (hx : xs.length = n) (hy : ys.length = n) (w : World) :
    (Op.equal t (.agg (xs.map (Value.int k)).toArray) (.agg (ys.map (Value.int k)).toArray)).run P w = .ok (decide (xs = ys)) w := by
  suffices hd : ∀ d, (Op.equalIn (d + 1 + 1) t (.agg (xs.map (Value.int k)).toArray) (.agg (ys.map (Value.int k)).toArray)).run P w = .ok (decide (xs = ys)) w from hd 9998
  intro d
  have hinner : ∀ (x y : Int), (Op.equalIn (d + 1) e (.int k x) (.int k y)).run P w = .ok (x == y) w := by
    intro x y
    simp [Op.equalIn, run_underlying he w]
  generalize hE : Op.equalIn (d + 1) = E at hinner
  unfold Op.equalIn
  rw [hE]
  simp only [Op.equalIn, Sem.run_bind, run_underlying hu w, Result.andThen_ok]
  have hsz : (sizeOf e).run P w = .ok 1 w := by
    cases hq : P.info? e with
    | none => simp [hq] at hs
    | some i =>
      have h1 : i.size = 1 := by simpa [hq] using hs
      simp [sizeOf, typeInfo, hq, h1]
  have hagg : (isAgg e).run P w = .ok false w := by
    unfold isAgg
    rw [Sem.run_bind, run_underlying he w]
    rfl
  have hpart : ∀ (zs : List Int) (i : Nat) (z : Int), zs[i]? = some z → (part e (zs.map (Value.int k)).toArray (i * 1)).run P w = .ok (.int k z) w := by
    intro zs i z hz
    have : (zs.map (Value.int k)).toArray[i * 1]? = some (.int k z) := by rw [Nat.mul_one, List.getElem?_toArray, List.getElem?_map, hz]; rfl
    simp only [part, Sem.run_bind, hagg, Result.andThen_ok, Bool.false_eq_true, if_false, this, Sem.run_pure]
  rw [hsz]
  simp only [Result.andThen_ok]
  rw [Std.Legacy.Range.forIn_eq_forIn_range']
  have key : ∀ l : List Nat, (∀ i ∈ l, i < n) → (forIn (m := Sem) l ((none : Option Bool), ()) fun i __s => do
              let __do_lift ← part e (List.map (Value.int k) xs).toArray (i * 1)
              let __do_lift_1 ← part e (List.map (Value.int k) ys).toArray (i * 1)
              let __do_lift ← E e __do_lift __do_lift_1
              if (!__do_lift) = true then pure (ForInStep.done (some false, ())) else pure (ForInStep.yield (none, ()))).run P w = .ok (if (l.all fun i => xs[i]? == ys[i]?) = true then (none, ()) else (some false, ())) w := by
    intro l
    induction l with
    | nil => intro _; simp
    | cons i l ih =>
      intro hl
      have hi := hl i (List.mem_cons_self ..)
      obtain ⟨x, hx'⟩ : ∃ x, xs[i]? = some x := ⟨_, List.getElem?_eq_getElem (by omega)⟩
      obtain ⟨y, hy'⟩ : ∃ y, ys[i]? = some y := ⟨_, List.getElem?_eq_getElem (by omega)⟩
      rw [List.forIn_cons]
      simp only [Sem.run_bind, hpart _ _ _ hx', hpart _ _ _ hy', hinner, Result.andThen_ok]
      by_cases hxy : x = y
      · subst hxy
        simp only [beq_self_eq_true, Bool.not_true, Bool.false_eq_true, if_false, Sem.run_pure, Result.andThen_ok]
        rw [ih fun j hj => hl j (List.mem_cons_of_mem _ hj)]
        simp [hx', hy']
      · have hb : (x == y) = false := by simp [hxy]
        simp only [hb, Bool.not_false, if_true, Sem.run_pure, Result.andThen_ok]
        simp [hx', hy', hxy]
  rw [key _ (fun i hi => by simp [List.mem_range'] at hi; omega)]
  simp only [Result.andThen_ok]
  by_cases hxy : xs = ys
  · subst hxy
    simp
  · have : ¬ ((List.range' 0 n).all fun i => xs[i]? == ys[i]?) = true := by
      intro hall
      apply hxy
      apply List.ext_getElem?
      intro i
      by_cases hi : i < n
      · have := List.all_eq_true.1 hall i (by simp [List.mem_range']; omega)
        simpa using this
      · rw [List.getElem?_eq_none (by omega), List.getElem?_eq_none (by omega)]
    rw [if_neg (fun h => this (by simpa using h))]
    simp [hxy]
/-- The same as an operation of a walk, for words and for bytes. -/
theorem run_eql_arr32 {t e : TypeId} {n : Nat} (hu : P.underlying t = some (.array n e)) (he : P.underlying e = some (.int .u32)) (hs : (P.info? e).map (·.size) = some 1) (x y : List (BitVec 32)) (hx : x.length = n) (hy : y.length = n) (w : World) :
    (Op.equal t (arr32 x) (arr32 y)).run P w = .ok (decide (x = y)) w := by
  have h := run_equal_ints hu he hs (x.map fun a => (a.toNat : Int)) (y.map fun a => (a.toNat : Int)) (by simpa using hx) (by simpa using hy) w
  have e1 : ∀ z : List (BitVec 32), (z.map fun a => (a.toNat : Int)).map (Value.int .u32) = z.map wv := by intro z; rw [List.map_map]; rfl
  rw [e1, e1] at h
  unfold arr32
  rw [h]
  congr 1
  rw [decide_eq_decide]
  constructor
  · intro hh
    refine List.map_inj_right (f := fun a : BitVec 32 => (a.toNat : Int)) (fun a b hab => ?_) |>.1 hh
    have hab : (a.toNat : Int) = (b.toNat : Int) := hab
    have : a.toNat = b.toNat := by omega
    exact BitVec.eq_of_toNat_eq this
  · rintro rfl; rfl
theorem run_eql_arr8 {t e : TypeId} {n : Nat} (hu : P.underlying t = some (.array n e)) (he : P.underlying e = some (.int .u8)) (hs : (P.info? e).map (·.size) = some 1) (x y : List UInt8) (hx : x.length = n) (hy : y.length = n) (w : World) :
    (Op.equal t (arr8 x) (arr8 y)).run P w = .ok (decide (x = y)) w := by
  have h := run_equal_ints hu he hs (x.map fun a => (a.toNat : Int)) (y.map fun a => (a.toNat : Int)) (by simpa using hx) (by simpa using hy) w
  have e1 : ∀ z : List UInt8, (z.map fun a => (a.toNat : Int)).map (Value.int .u8) = z.map bv := by intro z; rw [List.map_map]; rfl
  rw [e1, e1] at h
  unfold arr8
  rw [h]
  congr 1
  rw [decide_eq_decide]
  constructor
  · intro hh
    refine List.map_inj_right (f := fun a : UInt8 => (a.toNat : Int)) (fun a b hab => ?_) |>.1 hh
    have hab : (a.toNat : Int) = (b.toNat : Int) := hab
    have : a.toNat = b.toNat := by omega
    exact UInt8.toNat.inj this
  · rintro rfl; rfl
/-- '==' and '!=' of two arrays, as an operation. -/
theorem run_eqArr (op : BinOp) (b : Bool) (hop : (op = .eql ∧ b = false) ∨ (op = .neq ∧ b = true)) {t : TypeId} {x y : Operand} {xs ys : Array Value} {r : Bool} (w : World) (hg : P.eqGuardType P.depth t = false) (h : (Op.equal t (.agg xs) (.agg ys)).run P w = .ok r w) :
    (do eqGuard op t x y (.agg xs) (.agg ys); binOp op t (.agg xs) (.agg ys) : Sem Value).run P w = .ok (.bool (xor r b)) w := by
  rcases hop with ⟨rfl, rfl⟩ | ⟨rfl, rfl⟩
  · simp [eqGuard, binOp, Sem.run_bind, hg, h]
  · simp [eqGuard, binOp, Sem.run_bind, hg, h]
theorem wp_eqArr {o : Oper} {a : Act} {w : World} {K : Act → World → Prop} {Q : Exit → Act → World → Prop} {t t2 : TypeId} {xs ys : Array Value} {r : Bool} (x y : Operand) (ho : o.op = .binOp .eql t x y t2) (hg : P.eqGuardType P.depth t = false)
    (hx : a.eval x = .agg xs) (hy : a.eval y = .agg ys) (h : (Op.equal t (.agg xs) (.agg ys)).run P w = .ok r w) (hk : K (a.put o.dst (.bool r)) w) : o.wp P a w K Q := by
  have hr := run_eqArr (P := P) .eql false (.inl ⟨rfl, rfl⟩) (x := x) (y := y) w hg h
  rw [Bool.xor_false] at hr
  unfold Oper.wp execOp
  simp only [ho, hx, hy]
  rw [Sem.run_bind, hr]
  exact hk
end
end Go.Proofs.YtmfpjdbgdmmjkaaDoor
namespace Go.Proofs.YtmfpjdbgdmmjkaaDoor
open Go.RowKit
namespace Pol
theorem flat_args {β : Ev.Pl} {l : List Value} (h : l.all Ev.flat = true) : Ev.VL β l l := .of_flat (List.all_eq_true.1 h)
section
variable {P : Program}
/-- Part of a row, read. -/
theorem run_loadVar_sub (w : World) {g off n : Nat} {t ty : TypeId} {cs : List Value} {d : TypeDesc} (h : Row w g cs t) (hu : P.underlying ty = some d) (hd : (match d with | .struct _ | .array _ _ => true | _ => false) = true)
    (hi : (P.info? ty).map (·.size) = some n) (hn : off + n ≤ cs.length) : (loadVar ty ⟨g, off, none⟩).run P w = .ok (.agg ((cs.drop off).take n).toArray) w := by
  have hlen : ((cs.drop off).take n).length = n := by rw [List.length_take, List.length_drop]; omega
  have hl : (loadCells ⟨g, off, none⟩ ((cs.drop off).take n).length).run P w = .ok ((cs.drop off).take n).toArray w :=
    run_loadCells_list (P := P) w ⟨g, off, none⟩ ((cs.drop off).take n) (fun j v hv => by
      have hadd : (⟨g, off, none⟩ : Addr).add j = ⟨g, off + j, none⟩ := by unfold Addr.add; split <;> simp_all
      rw [List.getElem?_take] at hv
      split at hv
      · rw [List.getElem?_drop] at hv
        rw [hadd]
        exact h.cell hv
      · cases hv)
  rw [hlen] at hl
  cases hq : P.info? ty with
  | none => simp [hq] at hi
  | some i =>
    have hs : i.size = n := by simpa [hq] using hi
    have hagg : (isAgg ty).run P w = .ok true w := by
      unfold isAgg
      rw [Sem.run_bind, run_underlying hu w]
      cases d <;> simp_all
    simp [loadVar, Sem.run_bind, hagg, sizeOf, typeInfo, hq, hs, hl]
theorem wp_loadSub {o : Oper} {a : Act} {w : World} {K : Act → World → Prop} {Q : Exit → Act → World → Prop} (ty : TypeId) (x : Operand) (ho : o.op = .load ty x)
    {g off n : Nat} (hx : a.eval x = .pointer (some ⟨g, off, none⟩)) {t : TypeId} {cs : List Value} {d : TypeDesc} (h : Row w g cs t) (hu : P.underlying ty = some d) (hd : (match d with | .struct _ | .array _ _ => true | _ => false) = true)
    (hi : (P.info? ty).map (·.size) = some n) (hn : off + n ≤ cs.length) (hk : K (a.put o.dst (.agg ((cs.drop off).take n).toArray)) w) : o.wp P a w K Q := by
  unfold Oper.wp execOp
  simp only [ho, hx, Instr.loadAt, Instr.sureAddr, Sem.run_bind, Sem.run_pure, Result.andThen_ok, run_loadVar_sub w h hu hd hi hn]
  exact hk
theorem wpList_loadSub {ops : Array Oper} {rest : List Oper} {o : Oper} {a : Act} {w : World} {Q : Exit → Act → World → Prop} (hgd : o.guard = none) (ty : TypeId) (x : Operand) (ho : o.op = .load ty x)
    {g off n : Nat} (hx : a.eval x = .pointer (some ⟨g, off, none⟩)) {t : TypeId} {cs : List Value} {d : TypeDesc} (h : Row w g cs t) (hu : P.underlying ty = some d) (hd : (match d with | .struct _ | .array _ _ => true | _ => false) = true)
    (hi : (P.info? ty).map (·.size) = some n) (hn : off + n ≤ cs.length) (hk : wpList P ops Q rest (a.put o.dst (.agg ((cs.drop off).take n).toArray)) w) : wpList P ops Q (o :: rest) a w :=
  wpList_plain hgd fun _ hK => wp_loadSub ty x ho hx h hu hd hi hn (hK _ _ hk)
end
section
variable {P : Program}
/-- Part of a row, written. -/
theorem wpList_storeSub {ops : Array Oper} {rest : List Oper} {o : Oper} {a : Act} {w : World} {Q : Exit → Act → World → Prop} (hgd : o.guard = none) (ty : TypeId) (x y : Operand) (ho : o.op = .store ty x y)
    {g off : Nat} {cs old : List Value} (hx : a.eval x = .pointer (some ⟨g, off, none⟩)) (hy : a.eval y = .agg cs.toArray) {t : TypeId} (h : Row w g old t)
    {n : Nat} (hi : (P.info? ty).map (·.size) = some n) (hn : cs.length = n) (hfit : off + cs.length ≤ old.length) (h1 : ∀ v ∈ cs, v.oneCell' = true)
    (hk : wpList P ops Q rest (a.put o.dst undef) (w.setRow g (splice old off cs).toArray)) : wpList P ops Q (o :: rest) a w := by
  refine wpList_plain hgd fun K hK => ?_
  have hrun := run_storeCells_at (P := P) g off t cs 0 old.toArray w h (by simpa using hfit) h1
  cases hq : P.info? ty with
  | none => simp [hq] at hi
  | some i =>
    have hs : i.size = cs.length := by simp [hq] at hi; omega
    have hrun2 : (storeVar ty ⟨g, off, none⟩ (.agg cs.toArray)).run P w = .ok () (w.setRow g (splice old off cs).toArray) := by
      simp [storeVar, sizeOf, typeInfo, hq, Value.cells, hs, hrun, splice]
    unfold Oper.wp execOp
    simp only [ho, hx, hy, Instr.storeAt, Instr.sureAddr, Sem.run_bind, Sem.run_pure, Result.andThen_ok, hrun2]
    exact hK _ _ hk
end
end Pol
end Go.Proofs.YtmfpjdbgdmmjkaaDoor
namespace Go.Proofs.YtmfpjdbgdmmjkaaDoor.Pkt
open Go.RowKit
structure Pk where
  kind : Int
  peer : Int
  ses : Nat
  epo : Nat
  cnt : Nat
  rnd : List UInt8
  mrk : List UInt8
  bo : Value
def Pk.cells (p : Pk) : List Value := .int .i64 p.kind :: .int .i64 p.peer :: .int .u64 (p.ses : Int) :: .int .u32 (p.epo : Int) :: .int .u64 (p.cnt : Int) :: (p.rnd.map bv ++ (p.mrk.map bv ++ [p.bo]))
def Pk.val (p : Pk) : Value := .agg p.cells.toArray
/-- The lists of a packet have sixteen bytes, its body is a slice. -/
structure Pk.Ok (p : Pk) : Prop where
  r : p.rnd.length = 16
  m : p.mrk.length = 16
  b : p.bo.oneCell' = true
namespace Pk
variable {p : Pk}
theorem length (h : p.Ok) : p.cells.length = 38 := by simp [cells, h.r, h.m]
theorem rnd_at (h : p.Ok) : (p.cells.drop 5).take 16 = p.rnd.map bv := by
  show (p.rnd.map bv ++ (p.mrk.map bv ++ [p.bo])).take 16 = _
  rw [List.take_left' (by rw [List.length_map, h.r])]
theorem mrk_at (h : p.Ok) : (p.cells.drop 21).take 16 = p.mrk.map bv := by
  show ((p.rnd.map bv ++ (p.mrk.map bv ++ [p.bo])).drop 16).take 16 = _
  rw [List.drop_left' (by rw [List.length_map, h.r]), List.take_left' (by rw [List.length_map, h.m])]
theorem bo_at (h : p.Ok) : p.cells[37]? = some p.bo := by
  show (p.rnd.map bv ++ (p.mrk.map bv ++ [p.bo]))[32]? = _
  rw [List.getElem?_append_right (by rw [List.length_map, h.r]; omega), List.length_map, h.r, List.getElem?_append_right (by rw [List.length_map, h.m]; omega), List.length_map, h.m]
  rfl
theorem set_bo (h : p.Ok) (v : Value) : p.cells.set 37 v = { p with bo := v }.cells := by
  show _ :: _ :: _ :: _ :: _ :: (p.rnd.map bv ++ (p.mrk.map bv ++ [p.bo])).set 32 v = _
  rw [List.set_append_right _ _ (by rw [List.length_map, h.r]; omega), List.length_map, h.r, List.set_append_right _ _ (by rw [List.length_map, h.m]; omega), List.length_map, h.m]
  rfl
theorem one (h : p.Ok) : ∀ v ∈ p.cells, v.oneCell' = true := by
  intro v hv
  simp only [cells, List.mem_cons, List.mem_append, List.mem_map, List.not_mem_nil, or_false] at hv
  rcases hv with rfl | rfl | rfl | rfl | rfl | ⟨u, _, rfl⟩ | ⟨u, _, rfl⟩ | rfl
  · rfl
  · rfl
  · rfl
  · rfl
  · rfl
  · rfl
  · rfl
  · exact h.b
theorem with_bo (h : p.Ok) {v : Value} (hv : v.oneCell' = true) : Ok { p with bo := v } := ⟨h.r, h.m, hv⟩
end Pk
section
variable {p : Pk} {w : World} {g : Nat}
theorem c_kind (h : Row w g p.cells 40) : w.cell? ⟨g, 0, none⟩ = some (.int .i64 p.kind) := h.cell rfl
theorem c_peer (h : Row w g p.cells 40) : w.cell? ⟨g, 1, none⟩ = some (.int .i64 p.peer) := h.cell rfl
theorem c_ses (h : Row w g p.cells 40) : w.cell? ⟨g, 2, none⟩ = some (.int .u64 (p.ses : Int)) := h.cell rfl
theorem c_epo (h : Row w g p.cells 40) : w.cell? ⟨g, 3, none⟩ = some (.int .u32 (p.epo : Int)) := h.cell rfl
theorem c_cnt (h : Row w g p.cells 40) : w.cell? ⟨g, 4, none⟩ = some (.int .u64 (p.cnt : Int)) := h.cell rfl
theorem c_bo (h : Row w g p.cells 40) (ho : p.Ok) : w.cell? ⟨g, 37, none⟩ = some p.bo := h.cell (Pk.bo_at ho)
theorem l_rnd (h : Row w g p.cells 40) (ho : p.Ok) : (loadVar 38 ⟨g, 5, none⟩).run Tryd.prog w = .ok (arr8 p.rnd) w := by
  rw [Pol.run_loadVar_sub (off := 5) (n := 16) w h Tryd.underlying38 rfl (by kernel_rfl) (by rw [Pk.length ho]; omega), Pk.rnd_at ho]
  rfl
theorem l_mrk (h : Row w g p.cells 40) (ho : p.Ok) : (loadVar 38 ⟨g, 21, none⟩).run Tryd.prog w = .ok (arr8 p.mrk) w := by
  rw [Pol.run_loadVar_sub (off := 21) (n := 16) w h Tryd.underlying38 rfl (by kernel_rfl) (by rw [Pk.length ho]; omega), Pk.mrk_at ho]
  rfl
theorem l_all (h : Row w g p.cells 40) (ho : p.Ok) : (loadVar 40 ⟨g, 0, none⟩).run Tryd.prog w = .ok p.val w := by
  rw [Pol.run_loadVar_sub (off := 0) (n := 38) w h Tryd.underlying40 rfl (by kernel_rfl) (by rw [Pk.length ho]; omega), List.drop_zero, List.take_of_length_le (by rw [Pk.length ho]; omega)]
  rfl
end
theorem eqg16 (x y : List UInt8) (u v : Operand) (w : World) : (eqGuard .eql 38 u v (arr8 x) (arr8 y)).run Tryd.prog w = .ok () w := by
  have hg : Tryd.prog.eqGuardType Tryd.prog.depth 38 = false := by kernel_rfl
  unfold arr8
  simp [eqGuard, Sem.run_bind, hg]
theorem eqv16 (x y : List UInt8) (hx : x.length = 16) (hy : y.length = 16) (w : World) : (binOp .eql 38 (arr8 x) (arr8 y)).run Tryd.prog w = .ok (.bool (decide (x = y))) w := by
  have h := run_eql_arr8 (P := Tryd.prog) Tryd.underlying38 Tryd.underlying5 (by kernel_rfl) x y hx hy w
  unfold arr8 at h ⊢
  simp [binOp, Sem.run_bind, h]
theorem wpList_name {P : Program} {ops : Array Oper} {l : List Oper} {a : Act} {w : World} {Q : Exit → Act → World → Prop} (h : ∀ W, w = W → wpList P ops Q l a W) : wpList P ops Q l a w := h w rfl
theorem code_name {P : Program} {c : Code} {Q : Exit → Act → World → Prop} {a : Act} {w : World} (h : ∀ W, w = W → Code.wp P c Q a W) : Code.wp P c Q a w := h w rfl
/-- A load whose run is known, guarded or not. -/
theorem wpList_ld {P : Program} {ops : Array Oper} {rest : List Oper} {o : Oper} {a : Act} {w : World} {Q : Exit → Act → World → Prop} (ty : TypeId) {x : Operand} {ad : Addr} {v : Value} (ho : o.op = .load ty x) (hx : a.eval x = .pointer (some ad)) (hrun : (loadVar ty ad).run P w = .ok v w)
    (hw : Region.wanted o (yielded ops a.tmps) = true) (hk : wpList P ops Q rest (a.put o.dst v) w) : wpList P ops Q (o :: rest) a w :=
  BigFrame.wpList_want hw fun K hK => by
    unfold Oper.wp execOp
    simp only [ho, hx, Instr.loadAt, Instr.sureAddr, Sem.run_bind, Sem.run_pure, Result.andThen_ok, hrun]
    exact hK _ _ hk
end Go.Proofs.YtmfpjdbgdmmjkaaDoor.Pkt
namespace Go.Proofs.YtmfpjdbgdmmjkaaDoor.Shk
open Go.RowKit
def SStop (p : Prop) : Prop := p
theorem sstop {p : Prop} (h : SStop p) : p := h
/-- A list of byte slices that fills its row. -/
def FullL (w : World) (v : Value) (ls : List (List UInt8)) : Prop := ∃ g vs, v = .slice (some ⟨g, 0, none⟩) vs.length vs.length ∧ vs ≠ [] ∧ g < w.heap.size ∧ (∀ (i : Nat) (u : Value), vs[i]? = some u → w.cell? ⟨g, i, none⟩ = some u) ∧ Reads w w.heap.size vs ls
theorem FullL.below {w w' : World} {v : Value} {ls : List (List UInt8)} (h : FullL w v ls) (hb : Below w.heap.size w w') : FullL w' v ls := by
  obtain ⟨g, vs, h1, h2, h3, h4, h5⟩ := h
  exact ⟨g, vs, h1, h2, Nat.lt_of_lt_of_le h3 hb.size, fun i u hu => (hb.cell (p := ⟨g, i, none⟩) h3).trans (h4 i u hu), (h5.below hb).more hb.size⟩
theorem FullL.bss {w : World} {v : Value} {ls : List (List UInt8)} (h : FullL w v ls) : Bss w w.heap.size v ls := by
  obtain ⟨g, vs, rfl, h2, h3, h4, h5⟩ := h
  refine ⟨_, vs.length, by rw [h5.1], by rw [h5.1]; exact Nat.le_refl _, fun _ => ⟨g, 0, rfl, h3, fun i l hl => ?_⟩⟩
  obtain ⟨u, k1, k2⟩ := h5.2 i l hl
  exact ⟨u, by rw [Nat.zero_add]; exact h4 i u k1, k2⟩
def fullM (ls : List (List UInt8)) : By.Mark Grew := ⟨fun v w => FullL w v ls, fun _ _ _ h k => h.below k⟩
def bsM (l : List UInt8) : By.Mark Grew := ⟨fun v w => Bs w w.heap.size v l, fun _ _ _ h k => (h.below k).more k.size⟩
def bssM (ls : List (List UInt8)) : By.Mark Grew := ⟨fun v w => Bss w w.heap.size v ls, fun _ _ _ h k => Bss.more' (h.below k) k.size⟩
theorem fullL_lit (w : World) {vs : List Value} {ls : List (List UInt8)} (hne : vs ≠ []) (hr : Reads w w.heap.size vs ls) : FullL (w.alloc (.cells vs.toArray 23)) (.slice (some ⟨w.heap.size, 0, none⟩) vs.length vs.length) ls :=
  ⟨w.heap.size, vs, rfl, hne, by simp, fun i u hu => Row.cell (cs := vs) (t := 23) (Row.new rfl rfl) hu, (hr.below ((Below.refl w.heap.size w).alloc (Nat.le_refl _) _)).more (by simp)⟩
theorem wp_list1 {o : Oper} {a : Act} {w : World} {K : Act → World → Prop} {Q : Exit → Act → World → Prop} {v : Value} {l : List UInt8} (x : Operand) (ho : o.op = .buildSlice 22 1 #[(0, x)]) (hx : a.eval x = v) (hb : Bs w w.heap.size v l)
    (h : ∀ v' w', FullL w' v' [l] → Below w.heap.size w w' → K (a.put o.dst v') w') : o.wp Tryd.prog a w K Q := by
  obtain ⟨i, hi, hz, hs, _⟩ := info_bs
  obtain ⟨A, c, hA, _⟩ := id hb
  refine wp_buildSlice 22 23 1 #[(0, x)] ho #[v] i _ Tryd.underlying22 hi hz (by rw [hs]; decide) (by rw [hs]; decide) ?_ ?_
  · rw [hs, show Array.range (1 * 1) = #[0] from by kernel_rfl]
    subst hA
    simp [Instr.fill, hx, Value.cells]
  · exact h _ _ (fullL_lit w (hne := by simp) (vs := [v]) (.one hb)) ((Below.refl _ w).alloc (Nat.le_refl _) _)
theorem wp_list2 {o : Oper} {a : Act} {w : World} {K : Act → World → Prop} {Q : Exit → Act → World → Prop} {v v2 : Value} {l l2 : List UInt8} (x y : Operand) (ho : o.op = .buildSlice 22 2 #[(0, x), (1, y)]) (hx : a.eval x = v) (hb : Bs w w.heap.size v l) (hy : a.eval y = v2) (hb2 : Bs w w.heap.size v2 l2)
    (h : ∀ v' w', FullL w' v' [l, l2] → Below w.heap.size w w' → K (a.put o.dst v') w') : o.wp Tryd.prog a w K Q := by
  obtain ⟨i, hi, hz, hs, _⟩ := info_bs
  obtain ⟨A, c, hA, _⟩ := id hb
  obtain ⟨A2, c2, hA2, _⟩ := id hb2
  refine wp_buildSlice 22 23 2 #[(0, x), (1, y)] ho #[v, v2] i _ Tryd.underlying22 hi hz (by rw [hs]; decide) (by rw [hs]; decide) ?_ ?_
  · rw [hs, show Array.range (2 * 1) = #[0, 1] from by kernel_rfl]
    subst hA hA2
    simp [Instr.fill, hx, hy, Value.cells]
  · exact h _ _ (fullL_lit w (hne := by simp) (vs := [v, v2]) (Reads.append (.one hb) (.one hb2))) ((Below.refl _ w).alloc (Nat.le_refl _) _)
theorem wp_list3 {o : Oper} {a : Act} {w : World} {K : Act → World → Prop} {Q : Exit → Act → World → Prop} {v v2 v3 : Value} {l l2 l3 : List UInt8} (x y z : Operand) (ho : o.op = .buildSlice 22 3 #[(0, x), (1, y), (2, z)]) (hx : a.eval x = v) (hb : Bs w w.heap.size v l) (hy : a.eval y = v2) (hb2 : Bs w w.heap.size v2 l2) (hz' : a.eval z = v3) (hb3 : Bs w w.heap.size v3 l3)
    (h : ∀ v' w', FullL w' v' [l, l2, l3] → Below w.heap.size w w' → K (a.put o.dst v') w') : o.wp Tryd.prog a w K Q := by
  obtain ⟨i, hi, hz, hs, _⟩ := info_bs
  obtain ⟨A, c, hA, _⟩ := id hb
  obtain ⟨A2, c2, hA2, _⟩ := id hb2
  obtain ⟨A3, c3, hA3, _⟩ := id hb3
  refine wp_buildSlice 22 23 3 #[(0, x), (1, y), (2, z)] ho #[v, v2, v3] i _ Tryd.underlying22 hi hz (by rw [hs]; decide) (by rw [hs]; decide) ?_ ?_
  · rw [hs, show Array.range (3 * 1) = #[0, 1, 2] from by kernel_rfl]
    subst hA hA2 hA3
    simp [Instr.fill, hx, hy, hz', Value.cells]
  · exact h _ _ (fullL_lit w (hne := by simp) (vs := [v, v2, v3]) (Reads.append (.one hb) (Reads.append (.one hb2) (.one hb3)))) ((Below.refl _ w).alloc (Nat.le_refl _) _)
set_option maxRecDepth 100000 in
theorem run_app_fullL (w : World) (ty : TypeId) {v y : Value} {ls ms : List (List UInt8)} (hv : FullL w v ls) (hy : Bss w w.heap.size y ms) (hlen : ls.length + ms.length ≤ 1000000) :
    ∃ v' w', (Builtin.append_ #[22, 22] ty #[v, y]).run Tryd.prog w = .ok v' w' ∧ Bss w' w'.heap.size v' (ls ++ ms) ∧ Below w.heap.size w w' := by
  obtain ⟨i, hi, hz, hs, hbb⟩ := info_bs
  obtain ⟨us, k1, k2⟩ := bss_vals hy
  obtain ⟨A, c, rfl, hc, hcell⟩ := k1
  by_cases hm : us = []
  · subst hm
    have hms : ms = [] := List.eq_nil_of_length_eq_zero (by rw [← k2.1]; rfl)
    subst hms
    have hb := hv.bss
    obtain ⟨g, vs, rfl, h2, h3, h4, h5⟩ := hv
    refine ⟨_, w, ?_, by rw [List.append_nil]; exact hb, Below.refl _ _⟩
    have hrun := Ev.run_append_fit (P := Tryd.prog) (ty := ty) (base := some ⟨g, 0, none⟩) (m := vs.length) (n := 0) (c := vs.length) (x := .slice A 0 c) (w := w) (new := #[]) Tryd.underlying22 Tryd.underlying22 (.inr ⟨_, rfl⟩) hi rfl (by cases A <;> simp [Builtin.firstCells, loadCells, loadCellsFrom]) (by omega)
    rw [List.length_nil, hrun]
    simp [storeCells]
  · obtain ⟨g, vs, rfl, h2, h3, h4, h5⟩ := hv
    obtain ⟨b2, off2, rfl, h6⟩ := hcell hm
    have h0 : 0 < us.length := List.length_pos_iff.2 hm
    have hl1 := h5.1
    have hl2 := k2.1
    obtain ⟨v', w', hr, h7, h8⟩ := run_append_arg_grows (P := Tryd.prog) w 22 ty 23 i (.slice none 0 0) 1 24 Tryd.underlying22 hi hz hs hbb rfl (by decide) ⟨g, 0, none⟩ vs.length vs.length vs (by simp) (fun j u hj => by
      rw [show (⟨g, 0, none⟩ : Addr).add j = ⟨g, j, none⟩ by unfold Addr.add; split <;> simp_all]
      exact h4 j u hj) ⟨b2, off2, none⟩ us.length c us (by simp) (fun j u hj => by
      rw [show (⟨b2, off2, none⟩ : Addr).add j = ⟨b2, off2 + j, none⟩ by unfold Addr.add; split <;> simp_all]
      exact h6 j u hj) (by omega) (by unfold maxLen; omega) (by omega)
    have hb : Below w.heap.size w w' := (Below.refl _ w).grown h8 (Nat.le_refl _) (fun k hk => by cases hk)
    have hown : OwnVs w' w.heap.size v' (vs ++ us) := by
      unfold OwnVs
      rw [List.length_append]
      exact h7
    exact ⟨v', w', hr, bss_own hown (Reads.append ((h5.below hb).more hb.size) ((k2.below hb).more hb.size)), hb⟩
theorem wp_app_l {o : Oper} {a : Act} {w : World} {K : Act → World → Prop} {Q : Exit → Act → World → Prop} (s x : Operand) (ho : o.op = .call { callee := .builtin .append, args := #[s, x], argTypes := #[22, 22] }) {v y : Value} {ls ms : List (List UInt8)}
    (hs : a.eval s = v) (hx : a.eval x = y) (hv : FullL w v ls) (hy : Bss w w.heap.size y ms) (hlen : ls.length + ms.length ≤ 1000000)
    (h : ∀ v' w', Bss w' w'.heap.size v' (ls ++ ms) → Below w.heap.size w w' → K (a.put o.dst v') w') : o.wp Tryd.prog a w K Q := by
  obtain ⟨v', w', hr, h5, h6⟩ := run_app_fullL w o.type hv hy hlen
  unfold Oper.wp execOp
  simp only [ho, resolve, invoke, builtin, Sem.run_bind, Sem.run_pure, Result.andThen_ok, List.map_toArray, List.map_cons, List.map_nil, hs, hx, hr]
  exact h v' w' h5 h6
/-- An operation whose run is known. -/
theorem wp_conv {o : Oper} {a : Act} {w : World} {K : Act → World → Prop} {Q : Exit → Act → World → Prop} (s t : TypeId) (x : Operand) (ho : o.op = .convert s t x) {v v' : Value} {w' : World} (hx : a.eval x = v) (hr : (convert s t v).run Tryd.prog w = .ok v' w')
    (h : K (a.put o.dst v') w') : o.wp Tryd.prog a w K Q := by
  unfold Oper.wp execOp
  simp only [ho, Sem.run_bind, Sem.run_pure, Result.andThen_ok, hx, hr]
  exact h
/-- A load whose run is known. -/
theorem wp_ld {P : Program} {o : Oper} {a : Act} {w : World} {K : Act → World → Prop} {Q : Exit → Act → World → Prop} (ty : TypeId) (x : Operand) (ho : o.op = .load ty x) {ad : Addr} {v : Value} (hx : a.eval x = .pointer (some ad)) (hrun : (loadVar ty ad).run P w = .ok v w)
    (h : K (a.put o.dst v) w) : o.wp P a w K Q := by
  unfold Oper.wp execOp
  simp only [ho, hx, Instr.loadAt, Instr.sureAddr, Sem.run_bind, Sem.run_pure, Result.andThen_ok, hrun]
  exact h
theorem grew_below {w x : World} (h : Grew w.drew x) : Below w.heap.size w x := ⟨h.os, h.tape, h.output, h.size, h.block⟩
end Go.Proofs.YtmfpjdbgdmmjkaaDoor.Shk
