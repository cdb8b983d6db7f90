/- The first block of some pieces, and what is left. -/
import Derived.Test.YtpllbnioncjhaaaDoorHkComp
import Derived.Test.YtpllbnioncjhaaaDoorBs
import Derived.WalkMore
namespace Go.Proofs.YtpllbnioncjhaaaDoor
open Go.RowKit

theorem results_row_tmp {P : Program} {fn : Func} {p q : Tmp} {ty : TypeId} (hr : fn.results = #[.cell p ty, .tmp q]) (tmps : Array Value) {w : World} {g : Nat} {t : TypeId} {cs : List Value} {d : TypeDesc}
    (hp : tmps.getD p undef = .pointer (some ⟨g, 0, none⟩)) (h1 : Row w g cs t) (hu : P.underlying ty = some d) (hd : (match d with | .struct _ | .array _ _ => true | _ => false) = true) {n : Nat} (hi : (P.info? ty).map (·.size) = some n) (hn : cs.length = n) :
    (results fn tmps).run P w = .ok (.tuple #[.agg cs.toArray, tmps.getD q undef]) w := by
  have hp' : tmps[p]?.getD undef = .pointer (some ⟨g, 0, none⟩) := by simpa using hp
  have r1 := run_loadVar_row (P := P) w g t ty cs.toArray (0, 0) d h1 hu hd (by rw [hi]; simp [hn])
  simp [results, hr, hp', asAddr, r1]
/-- A list of pieces in a row at block g, the bytes in blocks below. -/
def Pcs (w : World) (g : Nat) (v : Value) (ls : List (List UInt8)) : Prop :=
  ∃ off c cs, v = .slice (some ⟨g, off, none⟩) ls.length c ∧ ls.length ≤ c ∧ Row w g cs 22 ∧ off + ls.length ≤ cs.length ∧ ∀ (i : Nat) (l : List UInt8), ls[i]? = some l → ∃ u, cs[off + i]? = some u ∧ Bs w g u l
theorem Pcs.lt {w : World} {g : Nat} {v : Value} {ls : List (List UInt8)} (h : Pcs w g v ls) : g < w.heap.size := by
  obtain ⟨_, _, _, _, _, h, _⟩ := h
  exact h.lt
theorem Pcs.below {w w' : World} {g B : Nat} {v : Value} {ls : List (List UInt8)} (h : Pcs w g v ls) (hb : Below B w w') (hg : g < B) : Pcs w' g v ls := by
  obtain ⟨off, c, cs, h1, h2, h3, h4, h5⟩ := h
  refine ⟨off, c, cs, h1, h2, h3.below hb hg, h4, fun i l hl => ?_⟩
  obtain ⟨u, h6, h7⟩ := h5 i l hl
  exact ⟨u, h6, h7.below (hb.mono (by omega))⟩
namespace Sha
theorem feed_take {pre piece : List UInt8} {j : Nat} {c : UInt8} (hc : piece[j]? = some c) (B : List Wd) : feed B 0 (pre ++ piece.take (j + 1)) = put (feed B 0 (pre ++ piece.take j)) (pre.length + j) c := by
  have hj : j < piece.length := (List.getElem?_eq_some_iff.1 hc).1
  have e : piece.take (j + 1) = piece.take j ++ [c] := by rw [List.take_add_one, hc]; rfl
  have hl : (piece.take j).length = j := by rw [List.length_take]; omega
  rw [e, ← List.append_assoc, feed_append, List.length_append, hl, Nat.zero_add]
  rfl
theorem flat_at_piece {ls : List (List UInt8)} {i : Nat} {l : List UInt8} (h : ls[i]? = some l) : ls.flatten = (ls.take i).flatten ++ (l ++ (ls.drop (i + 1)).flatten) := by
  have hi : i < ls.length := (List.getElem?_eq_some_iff.1 h).1
  have e : ls.drop i = l :: ls.drop (i + 1) := by rw [List.drop_eq_getElem_cons hi]; congr 1; exact Option.some.inj ((List.getElem?_eq_getElem hi).symm.trans h)
  rw [← List.flatten_cons, ← e, ← List.flatten_append, List.take_append_drop]
theorem take_flat {ls : List (List UInt8)} {i : Nat} {l : List UInt8} (h : ls[i]? = some l) : (ls.take (i + 1)).flatten = (ls.take i).flatten ++ l := by
  rw [List.take_add_one, h]
  simp
theorem cut_end {ls : List (List UInt8)} {i : Nat} {piece pre : List UInt8} {n j N : Nat} (hpi : ls[i]? = some piece) (hpre : (ls.take i).flatten = pre) (hnl : pre.length = n) (hN : N = n + j) (h64 : N + 1 = 64) (hj : j < piece.length) :
    words ls.flatten = feed zeros16 0 (pre ++ piece.take (j + 1)) ∧ (piece.drop (j + 1) :: ls.drop (i + 1)).flatten = ls.flatten.drop 64 := by
  have e : ls.flatten = (pre ++ piece.take (j + 1)) ++ (piece.drop (j + 1) ++ (ls.drop (i + 1)).flatten) := by
    rw [flat_at_piece hpi, hpre]
    have := List.take_append_drop (j + 1) piece
    rw [List.append_assoc, ← List.append_assoc (piece.take (j + 1)), this]
  have hl : (pre ++ piece.take (j + 1)).length = 64 := by rw [List.length_append, List.length_take]; omega
  refine ⟨by rw [e, words_app _ _ hl], ?_⟩
  rw [e, List.flatten_cons, List.drop_append_of_le_length (l₁ := pre ++ piece.take (j + 1)) (by omega), List.drop_of_length_le (l := pre ++ piece.take (j + 1)) (by omega)]
  rfl
end Sha

theorem keep_bs {w W : World} {g : Nat} {u : Value} {l : List UInt8} (h : Bs w g u l) (hk : Ev.Keep ⟨w, fun k => k = g⟩ W) (hg : g < w.heap.size) : Bs W g u l :=
  h.keep fun b o hb => World.cell?_of_block (a := ⟨b, o, none⟩) (hk.block b (by
    rintro (e | e)
    · have e' : w.heap.size ≤ b := e; omega
    · have e' : b = g := e; omega))
theorem cut_pcs {w W : World} {g off c i j : Nat} {ls : List (List UInt8)} {cs : List Value} {piece : List UInt8} {u : Value} (hi : ls[i]? = some piece) (hc : ls.length ≤ c) (hcs : off + ls.length ≤ cs.length) (hg : g < w.heap.size)
    (hpc : ∀ (i : Nat) (l : List UInt8), ls[i]? = some l → ∃ u, cs[off + i]? = some u ∧ Bs w g u l) (hk : Ev.Keep ⟨w, fun k => k = g⟩ W) (hrow : Row W g (cs.set (off + i) u) 22) (hu : Bs w g u (piece.drop (j + 1))) :
    Pcs W g (.slice (some ⟨g, off + i, none⟩) (ls.length - i) (c - i)) (piece.drop (j + 1) :: ls.drop (i + 1)) := by
  have hil : i < ls.length := (List.getElem?_eq_some_iff.1 hi).1
  have hl : (piece.drop (j + 1) :: ls.drop (i + 1)).length = ls.length - i := by rw [List.length_cons, List.length_drop]; omega
  refine ⟨off + i, c - i, _, by rw [hl], by rw [hl]; omega, hrow, by rw [hl, List.length_set]; omega, fun q l hq => ?_⟩
  cases q with
  | zero =>
    rw [List.getElem?_cons_zero] at hq
    injection hq with hq
    subst hq
    refine ⟨u, ?_, keep_bs hu hk hg⟩
    rw [Nat.add_zero, List.getElem?_set]
    simp
    omega
  | succ q =>
    rw [List.getElem?_cons_succ, List.getElem?_drop] at hq
    obtain ⟨u', h1, h2⟩ := hpc _ l hq
    refine ⟨u', ?_, keep_bs h2 hk hg⟩
    rw [List.getElem?_set, if_neg (by omega), show off + i + (q + 1) = off + (i + 1 + q) by omega]
    exact h1
theorem cut_keep {w wr : World} {g gb : Nat} (hb : Below w.heap.size w wr) (hgb : w.heap.size = gb) (a b : Addr) (ha : a.block = gb) (hbg : b.block = g) (u v : Value) (cs : Array Value) :
    Ev.Keep ⟨w, fun k => k = g⟩ (((wr.setCell a u).setCell b v).setRow gb cs) := by
  refine ⟨hb.os, hb.tape, hb.output, ?_, fun k hk => ?_⟩
  · show w.heap.size ≤ _
    rw [size_setRow]
    simpa [World.setCell] using hb.size
  · have h1 : k < w.heap.size := Nat.lt_of_not_le fun e => hk (.inl e)
    have h2 : k ≠ g := fun e => hk (.inr e)
    rw [setRow_other _ _ _ _ (by omega), Below.heap_setCell _ _ _ _ (by omega), Below.heap_setCell _ _ _ _ (by omega)]
    exact hb.block k h1

set_option maxRecDepth 8000 in
set_option maxHeartbeats 1000000 in
theorem Cut_any (g : Nat) (v : Value) (ls : List (List UInt8)) (w : World) (hp : Pcs w g v ls) (hl : 64 ≤ ls.flatten.length) (hn : ls.length ≤ 1000000) (hm : ∀ l ∈ ls, l.length ≤ 1000000000) :
    Calls Tryd.prog 33 #[v] w fun e w' => ∃ v' ls', e = .returned (.tuple #[arr32 (Sha.words ls.flatten), v']) ∧ Pcs w' g v' ls' ∧ ls'.flatten = ls.flatten.drop 64 ∧ ls'.length ≤ ls.length ∧ (∀ l ∈ ls', l.length ≤ 1000000000) ∧ Ev.Keep ⟨w, fun k => k = g⟩ w' := by
  have Hl := Lib.hid hl
  have Hm := Lib.hid hm
  obtain ⟨off, c, cs, rfl, hc, hrow, hcs, hpc⟩ := hp
  have Hc := Lib.hid hc
  have Hrow := Lib.hid hrow
  have Hcs := Lib.hid hcs
  have Hpc := Lib.hid hpc
  clear hl hm hc hrow hcs hpc
  go_enter Tryd.func33, Tryd.ntmps33
  go_wp2_with fail
  obtain ⟨W, hW⟩ : ∃ W, w.alloc (.cells ((List.replicate 16 0#32).map wv).toArray 57) = W := ⟨_, rfl⟩
  have hr2 : Row W w.heap.size ((List.replicate 16 0#32).map wv) 57 := hW ▸ Row.new rfl rfl
  have hb : Below w.heap.size w W := hW ▸ (Below.refl _ w).alloc (Nat.le_refl _) _
  refine code_world hW ?_
  have Hr2 := Lib.hid hr2
  have Hb := Lib.hid hb
  clear hW hr2 hb
  obtain ⟨gb, hgb⟩ : ∃ gb, w.heap.size = gb := ⟨_, rfl⟩
  have Hgb := Lib.hid hgb
  rw [hgb] at Hr2
  rw [hgb]
  clear hgb
  go_wp2
  go_step3
  go_wp2
  go_step3
  go_wp2
  go_loopw [11, 4] (fun iv nv wr => ∃ i n : Nat, i ≤ ls.length ∧ iv = .int .i64 (i : Int) ∧ nv = .int .i64 (n : Int) ∧ n < 64 ∧ (ls.take i).flatten.length = n ∧ Row wr gb ((Sha.feed Sha.zeros16 0 (ls.take i).flatten).map wv) 57 ∧ Below w.heap.size w wr) (fun iv _ _ => ls.length - (intOf iv).toNat)
  case atStart => exact ⟨0, 0, by omega, rfl, rfl, by omega, rfl, Hr2.out, Hb.out⟩
  case round =>
    obtain ⟨i, n, hi, rfl, rfl, hn64, hnl, hr, hb⟩ := hrel
    have Hr := Lib.hid hr
    have Hb := Lib.hid hb
    have Hnl := Lib.hid hnl
    clear hr hb hnl
    by_cases h1 : i < ls.length
    · have h1' : (i : Int) < (ls.length : Int) := by omega
      obtain ⟨u, hu, hbs⟩ := Hpc.out i _ (List.getElem?_eq_getElem h1)
      obtain ⟨piece, hpiece⟩ : ∃ piece, ls[i] = piece := ⟨_, rfl⟩
      have hpi : ls[i]? = some piece := by rw [← hpiece]; exact List.getElem?_eq_getElem h1
      rw [hpiece] at hbs
      have hcell := (Hrow.out.below Hb.out Hrow.out.lt).cell hu
      have Hbs := Lib.hid hbs
      obtain ⟨A, c2, rfl, hc2, hcs2⟩ := hbs
      have Hpi := Lib.hid hpi
      have Hc2 := Lib.hid hc2
      have Hcs2 := Lib.hid hcs2
      have Hu := Lib.hid hu
      clear hpi hc2 hcs2 hu hpiece
      go_wp2_with fail
      obtain ⟨pre, hpre⟩ : ∃ pre, (ls.take i).flatten = pre := ⟨_, rfl⟩
      rw [hpre] at Hr Hnl
      have Hpre := Lib.hid hpre
      clear hpre hcell
      go_loopw [18, 4] (fun jv nv wr => ∃ j N : Nat, j ≤ piece.length ∧ jv = .int .i64 (j : Int) ∧ nv = .int .i64 (N : Int) ∧ N = n + j ∧ N < 64 ∧ Row wr gb ((Sha.feed Sha.zeros16 0 (pre ++ piece.take j)).map wv) 57 ∧ Below w.heap.size w wr) (fun jv _ _ => piece.length - (intOf jv).toNat)
      case atStart => exact ⟨0, n, by omega, rfl, rfl, rfl, hn64, by rw [List.take_zero, List.append_nil]; exact Hr.out, Hb.out⟩
      case round =>
        obtain ⟨j, N, hj, rfl, rfl, hN, hN64, hr, hb⟩ := hrel
        have Hr := Lib.hid hr
        have Hb := Lib.hid hb
        have HN := Lib.hid hN
        have Hfl := Lib.hid (show (Sha.feed Sha.zeros16 0 (pre ++ piece.take j)).length = 16 by rw [Sha.feed_length]; rfl)
        clear hr hb hN
        by_cases h2 : j < piece.length
        · have h2' : (j : Int) < (piece.length : Int) := by omega
          obtain ⟨c0, hc0⟩ : ∃ c0, piece[j]? = some c0 := ⟨_, List.getElem?_eq_getElem h2⟩
          obtain ⟨pb, po, rfl, hpb, hcell0⟩ := Hcs2.out (by intro h; subst h; simp at h2)
          have hg0 := Hrow.out.lt
          have hcell : wr.cell? ⟨pb, po + j, none⟩ = some (.int .u8 (c0.toNat : Int)) := (Hb.out.cell (p := ⟨pb, po + j, none⟩) (by show pb < w.heap.size; omega)).trans (hcell0 j c0 hc0)
          obtain ⟨k, hk⟩ : ∃ k, N / 4 = k := ⟨_, rfl⟩
          have hk16 : k < 16 := by omega
          have hq : (N : Int) / 4 = (k : Int) := by omega
          have hwc := Hr.out.cell (getD_word (Sha.feed Sha.zeros16 0 (pre ++ piece.take j)) k (by rw [Hfl.out]; exact hk16))
          have hfr := frozen_row Hr.out k
          have hmod : (c0.toNat : Int) % 4294967296 = (c0.toNat : Int) := by have := c0.toNat_lt; omega
          have hwrap : IntKind.u32.wrap (c0.toNat : Int) = (c0.toNat : Int) := wrap_u32_lt _ (by have := c0.toNat_lt; omega)
          have Hcell0 := Lib.hid hcell0
          have Hc0 := Lib.hid hc0
          have Hk := Lib.hid hk
          clear hcell0 hc0 hk
          have hsetn : Sha.put (Sha.feed Sha.zeros16 0 (pre ++ piece.take j)) N c0 = (Sha.feed Sha.zeros16 0 (pre ++ piece.take j)).set k (Sha.at_ (Sha.feed Sha.zeros16 0 (pre ++ piece.take j)) k <<< 8 ||| wb c0) := by rw [Sha.put, Hk.out]
          have hft : Sha.feed Sha.zeros16 0 (pre ++ piece.take (j + 1)) = (Sha.feed Sha.zeros16 0 (pre ++ piece.take j)).set k (Sha.at_ (Sha.feed Sha.zeros16 0 (pre ++ piece.take j)) k <<< 8 ||| wb c0) := by rw [Sha.feed_take Hc0.out, Hnl.out, ← HN.out, hsetn]
          have hset := Hr.out.set k (wv (Sha.at_ (Sha.feed Sha.zeros16 0 (pre ++ piece.take j)) k <<< 8 ||| wb c0))
          rw [← List.map_set, ← hft] at hset
          have Hset := Lib.hid hset
          have hbw := Hb.out.setCell (p := ⟨gb, k, none⟩) (Nat.le_of_eq Hgb.out) (wv (Sha.at_ (Sha.feed Sha.zeros16 0 (pre ++ piece.take j)) k <<< 8 ||| wb c0))
          have Hbw := Lib.hid hbw
          obtain ⟨X, hX⟩ : ∃ X, Sha.at_ (Sha.feed Sha.zeros16 0 (pre ++ piece.take j)) k = X := ⟨_, rfl⟩
          rw [hX] at hwc Hset Hbw
          have hor : bits .or .u32 ((X.toNat : Int) * 256 % 4294967296) (c0.toNat : Int) = ((X <<< 8 ||| wb c0).toNat : Int) := by rw [w_shl8, w_byte, w_or]
          have hw1 : IntKind.i64.wrap ((j : Int) + 1) = (j : Int) + 1 := IntWalk.i64_in _ (by have := Hm.out _ (List.mem_of_getElem? Hpi.out); omega)
          clear hsetn hft hset hbw hX
          by_cases h64 : N + 1 = 64
          · have h64' : (N : Int) + 1 = 64 := by omega
            have hgne : gb ≠ g := by have := Hgb.out; omega
            have hci : ¬ c = i := by have := Hc.out; omega
            have hic : i ≤ c := by have := Hc.out; omega
            have hcg : wr.cell? ⟨g, off + i, none⟩ = some (.slice (some ⟨pb, po, none⟩) piece.length c2) := (Hb.out.cell (p := ⟨g, off + i, none⟩) hg0).trans (Hrow.out.cell Hu.out)
            have hfg : wr.frozen? ⟨g, off + i, none⟩ = false := frozen_row (Hrow.out.below Hb.out hg0) (off + i)
            have hj1 : j + 1 ≤ piece.length := h2
            have hjc : j + 1 ≤ c2 := by have := Hc2.out; omega
            by_cases hcap : c2 = j + 1
            · have hlen : piece.length = j + 1 := by have := Hc2.out; omega
              obtain ⟨hwords, hflat⟩ := Sha.cut_end Hpi.out Hpre.out Hnl.out HN.out h64 h2
              obtain ⟨Bl, hBl⟩ : ∃ Bl, Sha.feed Sha.zeros16 0 (pre ++ piece.take (j + 1)) = Bl := ⟨_, rfl⟩
              rw [hBl] at Hset hwords
              have Hml := Lib.hid (show (Bl.map wv).length = 16 by rw [List.length_map, ← hBl, Sha.feed_length]; rfl)
              have Hwords := Lib.hid hwords
              have Hflat := Lib.hid hflat
              clear hBl hwords hflat
              go_wp2_with (first
                | (show wpList _ _ _ (⟨some 49, _, _, _, _, _⟩ :: _) _ _; refine wpList_loadRow (g := gb) rfl 57 (.tmp 2) rfl rfl (Hset.out.other ⟨g, off + i, none⟩ _ hgne) Tryd.underlying57 rfl (by kernel_rfl) Hml.out ?_)
                | (show wpList _ _ _ (⟨none, Op.store 57 _ _, _, _, _, _⟩ :: _) _ _; refine wpList_storeRow (g := gb) (cs := Bl.map wv) rfl 57 (.tmp 2) (.tmp 49) rfl rfl rfl (Hset.out.other ⟨g, off + i, none⟩ _ hgne) (by kernel_rfl) Hml.out Hml.out (words_one Bl) ?_)
                | fail)
              rw [Exit.noGoto_ret]
              have hcut := Hbs.out.cut (k := j + 1) hj1
              rw [if_pos hcap, show piece.length - (j + 1) = 0 by omega, show c2 - (j + 1) = 0 by omega] at hcut
              have hk9 := cut_keep Hb.out Hgb.out ⟨gb, k, none⟩ ⟨g, off + i, none⟩ rfl rfl (wv (X <<< 8 ||| wb c0)) (.slice (some ⟨pb, po, none⟩) 0 0) (Bl.map wv).toArray
              have hr9 := ((Hrow.out.below Hb.out hg0).other ⟨gb, k, none⟩ (wv (X <<< 8 ||| wb c0)) (Ne.symm hgne)).set (off + i) (.slice (some ⟨pb, po, none⟩) 0 0)
              refine bodyPost_ret (results_row_tmp rfl _ rfl ((Hset.out.other ⟨g, off + i, none⟩ _ hgne).setRow (Bl.map wv)) Tryd.underlying57 rfl (by kernel_rfl) Hml.out) rfl ?_
              refine ⟨_, piece.drop (j + 1) :: ls.drop (i + 1), by rw [Hwords.out]; rfl, cut_pcs Hpi.out Hc.out Hcs.out hg0 Hpc.out hk9 (hr9.setOther gb _ (Ne.symm hgne)) hcut, Hflat.out, by rw [List.length_cons, List.length_drop]; omega, ?_, hk9⟩
              intro l hl
              rcases List.mem_cons.1 hl with rfl | hl
              · rw [List.length_drop]
                have := Hm.out _ (List.mem_of_getElem? Hpi.out)
                omega
              · exact Hm.out l (List.mem_of_mem_drop hl)
            · obtain ⟨hwords, hflat⟩ := Sha.cut_end Hpi.out Hpre.out Hnl.out HN.out h64 h2
              obtain ⟨Bl, hBl⟩ : ∃ Bl, Sha.feed Sha.zeros16 0 (pre ++ piece.take (j + 1)) = Bl := ⟨_, rfl⟩
              rw [hBl] at Hset hwords
              have Hml := Lib.hid (show (Bl.map wv).length = 16 by rw [List.length_map, ← hBl, Sha.feed_length]; rfl)
              have Hwords := Lib.hid hwords
              have Hflat := Lib.hid hflat
              clear hBl hwords hflat
              go_wp2_with (first
                | (show wpList _ _ _ (⟨some 49, _, _, _, _, _⟩ :: _) _ _; refine wpList_loadRow (g := gb) rfl 57 (.tmp 2) rfl rfl (Hset.out.other ⟨g, off + i, none⟩ _ hgne) Tryd.underlying57 rfl (by kernel_rfl) Hml.out ?_)
                | (show wpList _ _ _ (⟨none, Op.store 57 _ _, _, _, _, _⟩ :: _) _ _; refine wpList_storeRow (g := gb) (cs := Bl.map wv) rfl 57 (.tmp 2) (.tmp 49) rfl rfl rfl (Hset.out.other ⟨g, off + i, none⟩ _ hgne) (by kernel_rfl) Hml.out Hml.out (words_one Bl) ?_)
                | fail)
              rw [Exit.noGoto_ret]
              have hcut := Hbs.out.cut (k := j + 1) hj1
              rw [if_neg hcap, Option.map_some, show (⟨pb, po, none⟩ : Addr).add (j + 1) = ⟨pb, po + (j + 1), none⟩ by unfold Addr.add; split <;> simp_all] at hcut
              have hk9 := cut_keep Hb.out Hgb.out ⟨gb, k, none⟩ ⟨g, off + i, none⟩ rfl rfl (wv (X <<< 8 ||| wb c0)) (.slice (some ⟨pb, po + (j + 1), none⟩) (piece.length - (j + 1)) (c2 - (j + 1))) (Bl.map wv).toArray
              have hr9 := ((Hrow.out.below Hb.out hg0).other ⟨gb, k, none⟩ (wv (X <<< 8 ||| wb c0)) (Ne.symm hgne)).set (off + i) (.slice (some ⟨pb, po + (j + 1), none⟩) (piece.length - (j + 1)) (c2 - (j + 1)))
              refine bodyPost_ret (results_row_tmp rfl _ rfl ((Hset.out.other ⟨g, off + i, none⟩ _ hgne).setRow (Bl.map wv)) Tryd.underlying57 rfl (by kernel_rfl) Hml.out) rfl ?_
              refine ⟨_, piece.drop (j + 1) :: ls.drop (i + 1), by rw [Hwords.out]; rfl, cut_pcs Hpi.out Hc.out Hcs.out hg0 Hpc.out hk9 (hr9.setOther gb _ (Ne.symm hgne)) hcut, Hflat.out, by rw [List.length_cons, List.length_drop]; omega, ?_, hk9⟩
              intro l hl
              rcases List.mem_cons.1 hl with rfl | hl
              · rw [List.length_drop]
                have := Hm.out _ (List.mem_of_getElem? Hpi.out)
                omega
              · exact Hm.out l (List.mem_of_mem_drop hl)
          · have h64' : ¬ (N : Int) + 1 = 64 := by omega
            go_wp2
            go_roundw
            case rel => exact ⟨j + 1, N + 1, h2, by simp, by simp, by have := HN.out; omega, by omega, Hset.out, Hbw.out⟩
            case measure => simp [intOf]; omega
        · have h2' : ¬ (j : Int) < (piece.length : Int) := by omega
          have : j = piece.length := by omega
          subst this
          go_wp2
          go_roundw
          case rel =>
            refine ⟨i + 1, N, by omega, by simp, rfl, hN64, ?_, ?_, Hb.out⟩
            · rw [Sha.take_flat Hpi.out, Hpre.out, List.length_append, Hnl.out, HN.out]
            · rw [Sha.take_flat Hpi.out, Hpre.out]
              have := Hr.out
              rw [List.take_length] at this
              exact this
          case measure => simp [intOf]; omega
    · exfalso
      have : i = ls.length := by omega
      subst this
      have := Hnl.out
      rw [List.take_length] at this
      have := Hl.out
      omega
end Go.Proofs.YtpllbnioncjhaaaDoor
