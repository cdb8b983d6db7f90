/- Texts that the proofs share: ShkConcat. -/
import Derived.Test.YtbdpnpabpcidkaaDoorU19
import Derived.Test.YtbdpnpabpcidkaaDoorU38
import Derived.Test.YtbdpnpabpcidkaaDoorU39
namespace Go.Proofs.YtbdpnpabpcidkaaDoor.Shk
open Go.RowKit
open Pkt (code_name wpList_name)
theorem own_empty {w : World} {base : Nat} {v : Value} {l : List UInt8} (h : Own w base v l) (hl : l ≠ []) : ∃ g c, v = .slice (some ⟨g, 0, none⟩) l.length c ∧ l.length ≤ c ∧ Own w base (.slice (some ⟨g, 0, none⟩) 0 c) [] := by
 rcases h.2 with ⟨_, h2⟩ | ⟨g, cap, cur, e, h1, h2, h3, h4, h5, _⟩
 · exact absurd (List.eq_nil_of_length_eq_zero h2) hl
 · exact ⟨g, cap, e, h3, rfl, .inr ⟨g, cap, cur, rfl, h1, h2, Nat.zero_le _, h4, h5, by simp⟩⟩
set_option maxRecDepth 100000 in
set_option maxHeartbeats 1000000 in
theorem Grow_any (n : Nat) (h0 : 0 < n) (hn : n ≤ 100000000) (w : World) : Calls Tryd.prog 89 #[.slice none 0 0, .int .i64 (n : Int)] w fun e w' => ∃ v, e = .returned v ∧ Own w' w.heap.size v [] ∧ Below w.heap.size w w' := by
 have h1 : ¬ (n : Int) < 0 := by omega
 have h2 : (0 : Int) < (n : Int) := by omega
 go_enter Tryd.func89, Tryd.ntmps89
 go_wp2_with (first
  | (at_builtin; refine wpList_app_zeros w rfl (.tmp 20) (.tmp 21) rfl rfl (Own.nil w w.heap.size) rfl (k := n) (by simp; omega) (Nat.le_refl _) ?_
     intro v2 w2 ho2 hg2
     refine sstop ?_)
  | fail)
 unfold SStop
 rw [List.nil_append] at ho2
 have hne : List.replicate n (0 : UInt8) ≠ [] := by intro h; have := congrArg List.length h; simp at this; omega
 have HB := Lib.hid ((Below.refl w.heap.size w).grown hg2 (Nat.le_refl _) (fun k hk => by cases hk))
 obtain ⟨g, c, rfl, hc, ho⟩ := own_empty ho2 hne
 rw [List.length_replicate] at hc ⊢
 have HO := Lib.hid ho
 have hc0 : (0 : Int) ≤ (c : Int) := by omega
 clear ho2 hg2 hne hc ho
 go_wp2
 go_ret
 exact ⟨_, rfl, HO.out, HB.out⟩
set_option maxRecDepth 100000 in
set_option maxHeartbeats 1000000 in
theorem Concat_any (v : Value) (ls : List (List UInt8)) (w : World) (hb : Bss w w.heap.size v ls) (hn : ls.length ≤ 1000) (h0 : ls.flatten ≠ []) (hf : ls.flatten.length ≤ 1000000) :
 Calls Tryd.prog 65 #[v] w fun e w' => ∃ v, e = .returned v ∧ Bs w' w'.heap.size v ls.flatten ∧ Below w.heap.size w w' := by
 have Hb := Lib.hid hb
 have Hf := Lib.hid hf
 have H0 := Lib.hid h0
 obtain ⟨A, c, rfl, hc, hcs⟩ := hb
 have Hcs := Lib.hid hcs
 have HpL : Hid (∀ (i : Nat) (l : List UInt8), ls[i]? = some l → (ls.take (i + 1)).flatten = (ls.take i).flatten ++ l) := fun i l h => by
  rw [List.take_add_one, h]; simp
 have HfL : Hid (∀ i, (ls.take i).flatten.length ≤ 1000000) := fun i => by
  have h2 : ls.flatten = (ls.take i).flatten ++ (ls.drop i).flatten := by rw [← List.flatten_append, List.take_append_drop]
  have h3 := congrArg List.length h2
  rw [List.length_append] at h3
  omega
 clear hf hc hcs h0
 go_enter Tryd.func65, Tryd.ntmps65
 go_wp2
 go_loopw [11, 3] (fun iv sv wr => ∃ i n : Nat, i ≤ ls.length ∧ iv = .int .i64 (i : Int) ∧ sv = .int .i64 (n : Int) ∧ (ls.take i).flatten.length = n ∧ w = wr) (fun iv _ _ => ls.length - (intOf iv).toNat)
 case atStart => exact ⟨0, 0, Nat.zero_le _, rfl, rfl, rfl, rfl⟩
 case round =>
  obtain ⟨i, n, hi, rfl, rfl, hnl, rfl⟩ := hrel
  have Hnl := Lib.hid hnl
  clear hnl
  by_cases h1 : i < ls.length
  · have h1' : (i : Int) < (ls.length : Int) := by omega
    obtain ⟨b, off, rfl, hlt, hcell⟩ := Hcs.out (by intro h; subst h; simp at h1)
    obtain ⟨u, hu, hbs⟩ := hcell i _ (List.getElem?_eq_getElem h1)
    obtain ⟨piece, hpiece⟩ : ∃ piece, ls[i] = piece := ⟨_, rfl⟩
    have hpi : ls[i]? = some piece := by rw [← hpiece]; exact List.getElem?_eq_getElem h1
    rw [hpiece] at hbs
    obtain ⟨A2, c2, rfl, _, _⟩ := hbs
    have hsum : (ls.take (i + 1)).flatten.length = n + piece.length := by rw [HpL.out i piece hpi, List.length_append, Hnl.out]
    have hle : n + piece.length ≤ 1000000 := by rw [← hsum]; exact HfL.out _
    have hws : IntKind.i64.wrap ((n : Int) + (piece.length : Int)) = (n : Int) + (piece.length : Int) := IntWalk.i64_in _ (by omega)
    have hpos : ¬ (n : Int) + (piece.length : Int) < 0 := by omega
    have Hsum := Lib.hid hsum
    clear hcell hpi hsum hle hpiece
    go_wp2
    go_roundw
    case rel => exact ⟨i + 1, n + piece.length, h1, by simp, by simp, Hsum.out, trivial⟩
    case measure => simp [intOf]; omega
  · have h1' : ¬ (i : Int) < (ls.length : Int) := by omega
    have : i = ls.length := by omega
    subst this
    have hnf := Hnl.out
    rw [List.take_length] at hnf
    have hn6 : n ≤ 1000000 := by rw [← hnf]; exact Hf.out
    have hn0 : 0 < n := by rw [← hnf]; exact List.length_pos_iff.2 H0.out
    have Hnf := Lib.hid hnf
    clear hnf
    go_wp2_with fail
    refine (Grow_any n hn0 (by omega) _).mono ?_
    rintro e w1 ⟨v1, rfl, ho1, hb1⟩
    have HO1 := Lib.hid ho1
    have HB1 := Lib.hid hb1
    obtain ⟨A1, c1, e1⟩ := ho1.shape
    obtain ⟨n1, hn1⟩ : ∃ n, ([] : List UInt8).length = n := ⟨_, rfl⟩
    clear ho1 hb1 e1 hn1
    go_wp2
    go_loopw [27, 6] (fun iv sv wr => ∃ i : Nat, i ≤ ls.length ∧ iv = .int .i64 (i : Int) ∧ Own wr w.heap.size sv (ls.take i).flatten ∧ Below w.heap.size w wr) (fun iv _ _ => ls.length - (intOf iv).toNat)
    case atStart => exact ⟨0, Nat.zero_le _, rfl, by rw [List.take_zero]; exact HO1.out, HB1.out⟩
    case round =>
     obtain ⟨i, hi, rfl, ho, hb⟩ := hrel
     rename_i sv _
     have HO := Lib.hid ho
     have HB := Lib.hid hb
     clear ho hb
     by_cases h1 : i < ls.length
     · have h1' : (i : Int) < (ls.length : Int) := by omega
       obtain ⟨b, off, rfl, hlt, hcell⟩ := Hcs.out (by intro h; subst h; simp at h1)
       obtain ⟨u, hu, hbs⟩ := hcell i _ (List.getElem?_eq_getElem h1)
       obtain ⟨piece, hpiece⟩ : ∃ piece, ls[i] = piece := ⟨_, rfl⟩
       have hpi : ls[i]? = some piece := by rw [← hpiece]; exact List.getElem?_eq_getElem h1
       rw [hpiece] at hbs
       have Hbs := Lib.hid (hbs.below HB.out)
       obtain ⟨A2, c2, rfl, _, _⟩ := hbs
       have Hcat := Lib.hid (HpL.out i piece hpi)
       have hlen : (ls.take i).flatten.length + piece.length ≤ 1000000 := by rw [← List.length_append, ← Hcat.out]; exact HfL.out _
       have Hlen := Lib.hid hlen
       have hu' := (HB.out.cell (p := ⟨b, off + i, none⟩) hlt).trans hu
       have HSz := Lib.hid HB.out.size
       clear hcell hpi hpiece hlen hu
       go_wp2_with (first
        | (at_builtin; refine wpList_app_bytes _ rfl (.tmp 31) (.tmp 32) rfl rfl HO.out rfl Hbs.out (by have := Hlen.out; omega) HSz.out ?_
           intro v2 w2 ho2 hg2 _
           have HO2 := Lib.hid ho2
           have HB2 := Lib.hid (HB.out.grown hg2 HSz.out (fun k hk => (HO.out.block_ge hk).1))
           clear ho2 hg2)
        | fail)
       go_roundw
       case rel => exact ⟨i + 1, h1, by simp, by rw [Hcat.out]; exact HO2.out, HB2.out⟩
       case measure => simp [intOf]; omega
     · have h1' : ¬ (i : Int) < (ls.length : Int) := by omega
       have : i = ls.length := by omega
       subst this
       have ho := HO.out
       rw [List.take_length] at ho
       have HX := Lib.hid ho.bs
       clear ho
       go_wp2
       go_ret
       exact ⟨_, rfl, HX.out, HB.out⟩
end Go.Proofs.YtbdpnpabpcidkaaDoor.Shk
