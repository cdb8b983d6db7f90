/- 'hkdf.Key': what is extracted from the salt and the secret, expanded with the info. -/
import Derived.Test.YtpllbnioncjhaaaDoorHkExtract
import Derived.Test.YtpllbnioncjhaaaDoorHkExpand
namespace Go.Proofs.YtpllbnioncjhaaaDoor
open Go.RowKit
set_option maxRecDepth 8000 in
set_option maxHeartbeats 1000000 in
theorem Key_any (v sv iv : Value) (key sec info : List UInt8) (w : World) (ht : Tab w) (hk : Bs w w.heap.size v key) (hkl : key.length ≤ 1000000000) (hs : Bs w w.heap.size sv sec) (hsl : sec.length ≤ 1000000000) (hi : Bs w w.heap.size iv info) (hil : info.length ≤ 1000000000) :
    Calls Tryd.prog 19 #[v, sv, iv] w fun e w' => e = .returned (arr8 (Hk.outL (Sha.mac key sec) info 32)) ∧ Below w.heap.size w w' := by
  have hr0 : Row (w.alloc (.cells ((List.replicate 32 (0 : UInt8)).map bv).toArray 23)) w.heap.size ((List.replicate 32 (0 : UInt8)).map bv) 23 := Row.new rfl rfl
  have hb0 := (Below.refl w.heap.size w).alloc (Nat.le_refl _) (.cells ((List.replicate 32 (0 : UInt8)).map bv).toArray 23)
  have hsz : (w.alloc (.cells ((List.replicate 32 (0 : UInt8)).map bv).toArray 23)).heap.size = w.heap.size + 1 := by simp
  obtain ⟨W, hW⟩ : ∃ W, w.alloc (.cells ((List.replicate 32 (0 : UInt8)).map bv).toArray 23) = W := ⟨_, rfl⟩
  rw [hW] at hr0 hb0 hsz
  have hk0 := (hk.below hb0).more hb0.size
  have hs0 := (hs.below hb0).more hb0.size
  have hi0 := (hi.below hb0).more hb0.size
  have ht0 := ht.below hb0 ht.1
  have hext := Extract_any v sv key sec W ht0 hk0 hkl hs0 hsl
  obtain ⟨M, hM⟩ : ∃ M, Sha.mac key sec = M := ⟨_, rfl⟩
  have hMl : M.length = 32 := by rw [← hM]; exact Sha.sum_length _
  rw [hM] at hext ⊢
  obtain ⟨O, hO⟩ : ∃ O, Hk.outL M info 32 = O := ⟨_, rfl⟩
  have hOl : O.length = 32 := by rw [← hO, ← Hk.outN_end M info 32 1 (by omega) (by omega)]; exact Hk.outN_length _ _ _ _
  have HO := Lib.hid hO
  have HOm := Lib.hid (show (O.map bv).length = 32 by rw [List.length_map]; exact hOl)
  rw [hO]
  have HW := Lib.hid hW
  have Hext := Lib.hid hext
  have HR := Lib.hid hr0
  have HB := Lib.hid hb0
  have HI := Lib.hid hi0
  have HT := Lib.hid ht0
  have HMl := Lib.hid hMl
  have Hil := Lib.hid hil
  clear hr0 hb0 hsz hW hk0 hs0 hi0 ht0 hext hM hMl hO hOl hil hi hs hk ht hkl hsl
  go_enter Tryd.func19, Tryd.ntmps19
  go_wp2_with fail
  refine calls_in HW.out ?_
  refine Hext.out.mono ?_
  rintro e w1 ⟨rfl, hb1⟩
  have HI1 := Lib.hid ((HI.out.below hb1).more hb1.size)
  have HT1 := Lib.hid (HT.out.below hb1 HT.out.1)
  have HR1 := Lib.hid (HR.out.below hb1 HR.out.lt)
  have HB1 := Lib.hid (nextB HB.out (Nat.le_refl _) hb1)
  clear hb1
  go_wp2_with fail
  refine (Expand_ok iv M info 32 32 (.inr rfl) (by omega) HMl.out w1 HT1.out HI1.out Hil.out).mono ?_
  rintro e w2 ⟨g, rfl, hg, hr2, hb2⟩
  rw [HO.out] at hr2
  have HR2 := Lib.hid hr2
  have HR3 := Lib.hid (HR1.out.below hb2 HR1.out.lt)
  have HB2 := Lib.hid (nextB HB1.out (Nat.le_refl _) hb2)
  have Hg2 := Lib.hid hr2.lt
  clear hr2 hb2 hg
  have harr : (Instr.arrayAt 23 (.slice (some ⟨g, 0, none⟩) 32 32)).run Tryd.prog w2 = .ok (.pointer (some ⟨g, 0, none⟩)) w2 := by simp [Instr.arrayAt, run_underlying Tryd.underlying23]
  go_wp2_with (first
    | (show wpList _ _ _ (⟨some 19, _, _, _, _, _⟩ :: _) _ _; refine wpList_loadRow rfl 23 _ rfl rfl HR2.out Tryd.underlying23 rfl (by kernel_rfl) HOm.out ?_)
    | (show wpList _ _ _ (⟨none, Op.store 23 _ _, _, _, _, _⟩ :: _) _ _; refine wpList_storeRow (g := w.heap.size) rfl 23 _ _ rfl rfl rfl (cs := O.map bv) HR3.out (by kernel_rfl) HOm.out (by simp) (bytes_one O) ?_)
    | fail)
  refine bodyPost_ret (results_row rfl _ rfl (HR3.out.setRow (O.map bv)) Tryd.underlying23 rfl (by kernel_rfl) HOm.out) rfl ?_
  exact ⟨rfl, below_setRow HB2.out (Nat.le_refl _) _⟩
end Go.Proofs.YtpllbnioncjhaaaDoor
