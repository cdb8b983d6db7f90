/- The pieces with what follows them. -/
import Derived.Test.YtpllbnioncjhaaaDoorHkLists
namespace Go.Proofs.YtpllbnioncjhaaaDoor
open Go.RowKit

set_option maxRecDepth 8000 in
set_option maxHeartbeats 1000000 in
theorem Padded_any (v : Value) (ls : List (List UInt8)) (w : World) (hb : Bss w w.heap.size v ls) (hn : ls.length ≤ 100000) (hm : ∀ l ∈ ls, l.length ≤ 1000000000) (hf : ls.flatten.length ≤ 1000000000000) :
    Calls Tryd.prog 32 #[v] w fun e w' => ∃ g v' , e = .returned (.tuple #[v', .int .i64 (((Sha.full ls.flatten).length / 64 : Nat) : Int)]) ∧ Pcs w' g v' (ls ++ [Sha.pad ls.flatten.length]) ∧ w.heap.size ≤ g ∧ Below w.heap.size w w' := by
  have Hb := Lib.hid hb
  have Hm := Lib.hid hm
  have Hf := Lib.hid hf
  obtain ⟨A, c, rfl, hc, hcs⟩ := hb
  have Hc := Lib.hid hc
  have Hcs := Lib.hid hcs
  clear hm hf hc hcs
  go_enter Tryd.func32, Tryd.ntmps32
  go_wp2
  go_loopw [10, 4] (fun iv sv wr => ∃ i n : Nat, i ≤ ls.length ∧ iv = .int .i64 (i : Int) ∧ sv = .int .i64 (n : Int) ∧ (ls.take i).flatten.length = n ∧ w = wr) (fun iv _ _ => ls.length - (intOf iv).toNat)
  case atStart => exact ⟨0, 0, Nat.zero_le _, rfl, rfl, rfl, rfl⟩
  case round =>
    obtain ⟨i, n, hi, rfl, rfl, hnl, rfl⟩ := hrel
    have Hnl := Lib.hid hnl
    clear hnl
    by_cases h1 : i < ls.length
    · have h1' : (i : Int) < (ls.length : Int) := by omega
      obtain ⟨b, off, rfl, hlt, hcell⟩ := Hcs.out (by intro h; subst h; simp at h1)
      obtain ⟨u, hu, hbs⟩ := hcell i _ (List.getElem?_eq_getElem h1)
      obtain ⟨piece, hpiece⟩ : ∃ piece, ls[i] = piece := ⟨_, rfl⟩
      have hpi : ls[i]? = some piece := by rw [← hpiece]; exact List.getElem?_eq_getElem h1
      rw [hpiece] at hbs
      obtain ⟨A2, c2, rfl, _, _⟩ := hbs
      have hsum : (ls.take (i + 1)).flatten.length = n + piece.length := by rw [Sha.take_flat hpi, List.length_append, Hnl.out]
      have hle : n + piece.length ≤ 1000000000000 := by
        rw [← hsum]
        have h2 : ls.flatten = (ls.take (i + 1)).flatten ++ (ls.drop (i + 1)).flatten := by rw [← List.flatten_append, List.take_append_drop]
        have h3 := congrArg List.length h2
        rw [List.length_append] at h3
        have := Hf.out
        omega
      have hws : IntKind.i64.wrap ((n : Int) + (piece.length : Int)) = (n : Int) + (piece.length : Int) := IntWalk.i64_in _ (by omega)
      have Hsum := Lib.hid hsum
      clear hcell hpi hsum hle hpiece
      go_wp2
      go_roundw
      case rel => exact ⟨i + 1, n + piece.length, h1, by simp, by simp, Hsum.out, trivial⟩
      case measure => simp [intOf]; omega
    · have h1' : ¬ (i : Int) < (ls.length : Int) := by omega
      have : i = ls.length := by omega
      subst this
      have hnf := Hnl.out
      rw [List.take_length] at hnf
      have hn12 : n ≤ 1000000000000 := by rw [← hnf]; exact Hf.out
      have Hnf := Lib.hid hnf
      clear hnf
      go_wp2_with fail
      refine (Pad_any n (by omega) _).mono ?_
      rintro e w1 ⟨rfl, hrow1, hb1⟩
      obtain ⟨L, hL⟩ : ∃ L, Sha.zerosOf n + 9 = L := ⟨_, rfl⟩
      have hL72 : L ≤ 72 := by have := (Sha.zerosOf_is n).2; omega
      have hdiv : (n + L) / 64 = (Sha.full ls.flatten).length / 64 := by rw [Sha.full_length, Hnf.out]; congr 1; omega
      rw [hL]
      obtain ⟨vs, hvals, hreads⟩ := bss_vals Hb.out
      have hvals1 : Vals w1 (.slice A ls.length c) vs := hvals.grown (B := w.heap.size) (by
        intro b off c' e hne
        have hl0 : ls ≠ [] := by intro h; subst h; exact hne (List.eq_nil_of_length_eq_zero hreads.1)
        obtain ⟨b', off', e', hlt, _⟩ := Hcs.out hl0
        rw [e'] at e
        simp only [Value.slice.injEq, Option.some.injEq, Addr.mk.injEq] at e
        omega) hb1
      have hcap : IntKind.i64.wrap ((ls.length : Int) + 1) = ((ls.length + 1 : Nat) : Int) := (IntWalk.i64_in _ (by omega)).trans (by omega)
      obtain ⟨M, hM⟩ : ∃ M, ls.length + 1 = M := ⟨_, rfl⟩
      rw [hM] at hcap
      have Hvals := Lib.hid hvals1
      have Hreads := Lib.hid (hreads.below hb1)
      have Hrow1 := Lib.hid hrow1
      have Hb1 := Lib.hid hb1
      have HM := Lib.hid hM
      have HL := Lib.hid hL
      have Hdiv := Lib.hid hdiv
      have hsz1 : w.heap.size < w1.heap.size := hrow1.lt
      have Hsz1 := Lib.hid hsz1
      clear hvals hvals1 hreads hrow1 hb1 hM hL hdiv hsz1
      have hq : ((n : Int) + (L : Int)) / 64 = (((Sha.full ls.flatten).length / 64 : Nat) : Int) := by rw [← Hdiv.out]; omega
      have Hq := Lib.hid hq
      clear hq
      go_wp2_with (first
        | (at_make; refine wpList_make_lists _ rfl _ _ rfl M rfl rfl (by have := HM.out; omega) ?_; intro w2 cur hrow2 hcl2 hg2
           have Hrow2 := Lib.hid hrow2
           have Hcl2 := Lib.hid hcl2
           have hb2 : Below w1.heap.size w1 w2 := (Below.refl _ w1).grown hg2 (Nat.le_refl _) (fun k hk => by cases hk)
           have Hb2 := Lib.hid hb2
           have Hv2 := Lib.hid (show Vals w2 (.slice A ls.length c) vs from Hvals.out.grown (B := w1.heap.size) (by
             intro b off c' e hne
             have hl0 : ls ≠ [] := by intro h; subst h; exact hne (List.eq_nil_of_length_eq_zero Hreads.out.1)
             obtain ⟨b', off', e', hlt, _⟩ := Hcs.out hl0
             rw [e'] at e
             simp only [Value.slice.injEq, Option.some.injEq, Addr.mk.injEq] at e
             have := Hsz1.out
             omega) hb2)
           clear hrow2 hcl2 hg2 hb2)
        | (show wpList _ _ _ (⟨some 26, _, _, _, _, _⟩ :: _) _ _; refine wpList_app_room (n := 0) w2 rfl _ _ rfl rfl rfl Hrow2.out Hcl2.out Hv2.out Hreads.out.one_cell (by rw [Hreads.out.1]; have := HM.out; omega) ?_; intro w3 hrow3 hk3
           have hvl : vs.length = ls.length := Hreads.out.1
           rw [List.take_zero, List.nil_append, Nat.zero_add, hvl] at hrow3
           rw [Nat.zero_add, hvl]
           have Hrow3 := Lib.hid hrow3
           have Hk3 := Lib.hid hk3
           have hsz3 : w1.heap.size < w3.heap.size := hrow3.lt
           have Hsz3 := Lib.hid hsz3
           have Hpadv := Lib.hid (show Row w3 w.heap.size ((Sha.pad n).map bv) 5 from (Hrow1.out.below Hb2.out Hsz1.out).keep hk3 (by have := Hsz1.out; omega))
           have Hb3 := Lib.hid (show Below w.heap.size w w3 from Below.keep (nextB Hb1.out (Nat.le_refl _) Hb2.out) hk3 (by have := Hb2.out.size; have := Hsz1.out; omega) (by have := Hsz1.out; omega))
           clear hrow3 hk3 hvl hsz3)
        | (show wpList _ _ _ (⟨some 30, _, _, _, _, _⟩ :: _) _ _
           refine wpList_app_room (n := ls.length) (w3.alloc (.cells #[.slice (some ⟨w.heap.size, 0, none⟩) L L] 22)) rfl _ _ rfl rfl rfl (Hrow3.out.alloc _) (by rw [List.length_append, List.length_drop, Hreads.out.1, Hcl2.out]; have := HM.out; omega) (vs := [.slice (some ⟨w.heap.size, 0, none⟩) L L])
             ⟨some ⟨w3.heap.size, 0, none⟩, 1, rfl, Nat.le_refl _, fun _ => ⟨w3.heap.size, 0, rfl, fun i u hu => by
               cases i with
               | zero => rw [List.getElem?_cons_zero] at hu; injection hu with hu; subst hu; exact Row.cell (cs := [.slice (some ⟨w.heap.size, 0, none⟩) L L]) (Row.new rfl rfl) rfl
               | succ i => simp at hu⟩⟩ (by intro u hu; simp only [List.mem_singleton] at hu; subst hu; rfl) (by have := HM.out; simp; omega) ?_
           intro w5 hrow5 hk5
           have Hrow5 := Lib.hid hrow5
           have Hk5 := Lib.hid hk5
           clear hrow5 hk5)
        | fail)
      refine bodyPost_ret (results_tmp2 rfl _ _ _) rfl ?_
      have hs2 := Hb2.out.size
      have hs3 := Hk3.out.size
      have hs3' : w2.heap.size ≤ w3.heap.size := hs3
      have hb13 : Below w1.heap.size w1 w3 := Below.keep Hb2.out Hk3.out hs2 (Nat.le_refl _)
      have hb15 : Below w1.heap.size w1 w5 := Below.keep (hb13.alloc (by omega) (.cells #[.slice (some ⟨w.heap.size, 0, none⟩) L L] 22)) Hk5.out (by simp; omega) (Nat.le_refl _)
      have hpl : (Sha.pad n).length = L := by rw [Sha.pad_length]; exact HL.out
      have hpad : Bs w5 w1.heap.size (.slice (some ⟨w.heap.size, 0, none⟩) L L) (Sha.pad n) := by
        have := (Hrow1.out.below hb15 Hsz1.out).bs (B := w1.heap.size) Hsz1.out
        rwa [hpl] at this
      have hrd : Reads w5 w1.heap.size (vs ++ [.slice (some ⟨w.heap.size, 0, none⟩) L L]) (ls ++ [Sha.pad n]) :=
        ((Hreads.out.below (hb15.mono (Nat.le_of_lt Hsz1.out))).more (Nat.le_of_lt Hsz1.out)).append (.one hpad)
      have hr5 := Hrow5.out
      rw [List.take_append_of_le_length (by rw [Hreads.out.1]; exact Nat.le_refl _), List.take_of_length_le (by rw [Hreads.out.1]; exact Nat.le_refl _)] at hr5
      refine ⟨w1.heap.size, _, by rw [← Hq.out]; rfl, ?_, Nat.le_of_lt Hsz1.out, nextB Hb1.out (Nat.le_refl _) hb15⟩
      rw [Hnf.out]
      exact pcs_of hr5 hrd (by simp) (Nat.le_of_eq HM.out)
end Go.Proofs.YtpllbnioncjhaaaDoor
