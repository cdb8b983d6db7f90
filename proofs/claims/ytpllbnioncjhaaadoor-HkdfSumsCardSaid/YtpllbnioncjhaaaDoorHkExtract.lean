/- 'hkdf.Extract': the HMAC of the secret with the salt as the key. -/
import Derived.Test.YtpllbnioncjhaaaDoorHkMac
namespace Go.Proofs.YtpllbnioncjhaaaDoor
open Go.RowKit
set_option maxRecDepth 8000 in
set_option maxHeartbeats 1000000 in
theorem Extract_any (v sv : Value) (key sec : List UInt8) (w : World) (ht : Tab w) (hk : Bs w w.heap.size v key) (hkl : key.length ≤ 1000000000) (hs : Bs w w.heap.size sv sec) (hsl : sec.length ≤ 1000000000) :
    Calls Tryd.prog 17 #[v, sv] w fun e w' => e = .returned (arr8 (Sha.mac key sec)) ∧ Below w.heap.size w w' := by
  have hr0 : Row (w.alloc (.cells ((List.replicate 32 (0 : UInt8)).map bv).toArray 23)) w.heap.size ((List.replicate 32 (0 : UInt8)).map bv) 23 := Row.new rfl rfl
  have hb0 := (Below.refl w.heap.size w).alloc (Nat.le_refl _) (.cells ((List.replicate 32 (0 : UInt8)).map bv).toArray 23)
  have hk0 := (hk.alloc (Nat.le_refl _) (.cells ((List.replicate 32 (0 : UInt8)).map bv).toArray 23)).more (B' := (w.alloc (.cells ((List.replicate 32 (0 : UInt8)).map bv).toArray 23)).heap.size) (by simp)
  have hs0 := (hs.alloc (Nat.le_refl _) (.cells ((List.replicate 32 (0 : UInt8)).map bv).toArray 23)).more (B' := (w.alloc (.cells ((List.replicate 32 (0 : UInt8)).map bv).toArray 23)).heap.size) (by simp)
  obtain ⟨W, hW⟩ : ∃ W, w.alloc (.cells ((List.replicate 32 (0 : UInt8)).map bv).toArray 23) = W := ⟨_, rfl⟩
  rw [hW] at hr0 hb0 hk0 hs0
  obtain ⟨A1, c1, rfl, _, _⟩ := hk
  obtain ⟨A2, c2, rfl, _, _⟩ := hs
  have hss := bss_new (n := 1) (ls := [sec]) (vs := [.slice A2 sec.length c2]) (w := W) rfl rfl (.one hs0)
  have hb1 := (Below.refl W.heap.size W).alloc (Nat.le_refl _) (.cells #[.slice A2 sec.length c2] 22)
  have htab : Tab (W.alloc (.cells #[.slice A2 sec.length c2] 22)) := (ht.below hb0 ht.1).below hb1 (by have := ht.1; have := hb0.size; omega)
  have hk1 := (hk0.alloc (Nat.le_refl _) (.cells #[.slice A2 sec.length c2] 22)).more (B' := (W.alloc (.cells #[.slice A2 sec.length c2] 22)).heap.size) (by simp)
  have hmac := Mac_any _ _ key [sec] _ htab hk1 hkl hss (by simp) (by intro l hl; simp at hl; subst hl; exact hsl) (by simp; omega)
  rw [show [sec].flatten = sec by simp] at hmac
  have hWa : (w.alloc (.cells ((List.replicate 32 (0 : UInt8)).map bv).toArray 23)).alloc (.cells #[.slice A2 sec.length c2] 22) = W.alloc (.cells #[.slice A2 sec.length c2] 22) := by rw [hW]
  have hszW : w.heap.size + 1 = W.heap.size := by rw [← hW]; simp
  rw [← hszW] at hmac
  obtain ⟨O, hO⟩ : ∃ O, Sha.mac key sec = O := ⟨_, rfl⟩
  have hOl : O.length = 32 := by rw [← hO]; exact Sha.sum_length _
  rw [hO] at hmac ⊢
  have HOm := Lib.hid (show (O.map bv).length = 32 by rw [List.length_map]; exact hOl)
  have Hmac := Lib.hid hmac
  have HWa := Lib.hid hWa
  have HR := Lib.hid (hr0.alloc (.cells #[.slice A2 sec.length c2] 22))
  have HB := Lib.hid (nextB hb0 (Nat.le_refl _) hb1)
  clear hr0 hb0 hk0 hs0 hW hss hb1 htab hk1 hmac hWa hszW hO hOl ht hkl hsl
  go_enter Tryd.func17, Tryd.ntmps17
  go_wp2_with fail
  refine calls_in HWa.out ?_
  refine Hmac.out.mono ?_
  rintro e w1 ⟨rfl, hb2⟩
  have HB2 := Lib.hid (nextB HB.out (Nat.le_refl _) hb2)
  have hr9 := Lib.hid (HR.out.below hb2 HR.out.lt)
  clear hb2
  unfold arr8
  go_wp2_with (first
    | (show wpList _ _ _ (⟨none, Op.store 23 _ _, _, _, _, _⟩ :: _) _ _; refine wpList_storeRow (g := w.heap.size) rfl 23 _ _ rfl rfl rfl (cs := O.map bv) hr9.out (by kernel_rfl) HOm.out (by simp) (bytes_one O) ?_)
    | fail)
  refine bodyPost_ret (results_row rfl _ rfl (hr9.out.setRow (O.map bv)) Tryd.underlying23 rfl (by kernel_rfl) HOm.out) rfl ?_
  exact ⟨rfl, below_setRow HB2.out (Nat.le_refl _) _⟩
end Go.Proofs.YtpllbnioncjhaaaDoor
