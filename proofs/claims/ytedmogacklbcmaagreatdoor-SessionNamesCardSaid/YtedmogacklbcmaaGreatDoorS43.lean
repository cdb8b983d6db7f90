/- Texts that the proofs share: PktKey. -/
import Derived.Test.YtedmogacklbcmaaGreatDoorS00
import Derived.Test.YtedmogacklbcmaaGreatDoorS19
import Derived.Test.YtedmogacklbcmaaGreatDoorS37
import Derived.Test.YtedmogacklbcmaaGreatDoorS41
namespace Go.Proofs.YtedmogacklbcmaaGreatDoor.Pkt
open Go.RowKit
def data4 : List UInt8 := [100, 97, 116, 97]
def tail5 (e : Nat) (b : UInt8) : List UInt8 := [UInt8.ofNat (e / 16777216 % 256), UInt8.ofNat (e / 65536 % 256), UInt8.ofNat (e / 256 % 256), UInt8.ofNat (e % 256), b]
def par (z : Int) : UInt8 := if z % 2 = 0 then 0 else 1
def pkey (sec : List UInt8) (e : Nat) (z : Int) : List UInt8 := Hk.outL (Sha.mac [] sec) (data4 ++ tail5 e (par z)) 32
def KStop (p : Prop) : Prop := p
theorem kstop {p : Prop} (h : KStop p) : p := h
theorem and_par (z : Int) : bits .and .i64 z 1 = ((par z).toNat : Int) := by
 show IntKind.i64.wrap ((BitVec.ofInt 64 z &&& BitVec.ofInt 64 1).toNat : Int) = _
 have h : (BitVec.ofInt 64 z &&& BitVec.ofInt 64 1).toNat = (z % 2).toNat := by
  rw [BitVec.toNat_and, BitVec.toNat_ofInt, show (BitVec.ofInt 64 1).toNat = 1 from rfl, Nat.and_one_is_mod]
  omega
 rw [h]
 unfold par
 rcases (show z % 2 = 0 ∨ z % 2 = 1 by omega) with e | e
 · rw [if_pos e, e]; rfl
 · rw [if_neg (by omega), e]; rfl
theorem tail5_cells (e : Nat) (b : UInt8) (he : e < 4294967296) : (tail5 e b).map bv = [.int .u8 ((e : Int) / 16777216), .int .u8 ((e : Int) / 65536 % 256), .int .u8 ((e : Int) / 256 % 256), .int .u8 ((e : Int) % 256), .int .u8 (b.toNat : Int)] := by
 simp only [tail5, List.map_cons, List.map_nil, bv, UInt8.toNat_ofNat']
 rw [show ((e / 16777216 % 256 % 2 ^ 8 : Nat) : Int) = (e : Int) / 16777216 by omega, show ((e / 65536 % 256 % 2 ^ 8 : Nat) : Int) = (e : Int) / 65536 % 256 by omega, show ((e / 256 % 256 % 2 ^ 8 : Nat) : Int) = (e : Int) / 256 % 256 by omega, show ((e % 256 % 2 ^ 8 : Nat) : Int) = (e : Int) % 256 by omega]
set_option maxRecDepth 100000 in
set_option maxHeartbeats 2000000 in
theorem Key_any (sec : List UInt8) (hs : sec.length = 32) (e : Nat) (he : e < 4294967296) (z : Int) (w : World) (ht : Tab w) : Calls Tryz.prog 47 #[arr8 sec, .int .u32 (e : Int), .int .i64 z] w fun r w' => r = .returned (arr8 (pkey sec e z)) ∧ Below w.heap.size w w' := by
 have Ht := Lib.hid ht
 have Hs := Lib.hid hs
 have hand := and_par z
 have hp : ((par z).toNat : Int) ≤ 1 := by unfold par; split <;> decide
 obtain ⟨pz, hpz⟩ : ∃ pz, par z = pz := ⟨_, rfl⟩
 rw [hpz] at hand hp
 have Hpz := Lib.hid hpz
 have hw8 : IntKind.u8.wrap ((pz.toNat : Nat) : Int) = (pz.toNat : Int) := IntWalk.u8_in _ (by have := pz.toNat_lt; omega)
 clear ht hs hpz
 obtain ⟨W1, hW1⟩ : ∃ W1, (w.alloc (.cells (sec.map bv).toArray 23)).alloc (.cells ((List.replicate 32 (0 : UInt8)).map bv).toArray 23) = W1 := ⟨_, rfl⟩
 have hs1 : W1.heap.size = w.heap.size + 1 + 1 := by rw [← hW1]; simp
 obtain ⟨m, hconv⟩ := Hk.conv_lit W1 data4 4 rfl (by omega)
 have hconv' : (convert 38 38 (.slice (some ⟨w.heap.size + 1 + 1, 0, none⟩) 4 4)).run Tryz.prog (((w.alloc (.cells (sec.map bv).toArray 23)).alloc (.cells #[.int .u8 0, .int .u8 0, .int .u8 0, .int .u8 0, .int .u8 0, .int .u8 0, .int .u8 0, .int .u8 0, .int .u8 0, .int .u8 0, .int .u8 0, .int .u8 0, .int .u8 0, .int .u8 0, .int .u8 0, .int .u8 0, .int .u8 0, .int .u8 0, .int .u8 0, .int .u8 0, .int .u8 0, .int .u8 0, .int .u8 0, .int .u8 0, .int .u8 0, .int .u8 0, .int .u8 0, .int .u8 0, .int .u8 0, .int .u8 0, .int .u8 0, .int .u8 0] 23)).alloc (.cells #[.int .u8 100, .int .u8 97, .int .u8 116, .int .u8 97] 5)) = .ok (.slice (some ⟨w.heap.size + 1 + 1, 0, none⟩) 4 4) ((W1.alloc (.cells (data4.map bv).toArray 5)).freeze ⟨W1.heap.size, m, none⟩ 1) := by
  have hW1' : (w.alloc (.cells (sec.map bv).toArray 23)).alloc (.cells #[.int .u8 0, .int .u8 0, .int .u8 0, .int .u8 0, .int .u8 0, .int .u8 0, .int .u8 0, .int .u8 0, .int .u8 0, .int .u8 0, .int .u8 0, .int .u8 0, .int .u8 0, .int .u8 0, .int .u8 0, .int .u8 0, .int .u8 0, .int .u8 0, .int .u8 0, .int .u8 0, .int .u8 0, .int .u8 0, .int .u8 0, .int .u8 0, .int .u8 0, .int .u8 0, .int .u8 0, .int .u8 0, .int .u8 0, .int .u8 0, .int .u8 0, .int .u8 0] 23) = W1 := hW1
  rw [hW1', ← hs1]
  exact hconv
 clear hconv
 obtain ⟨WF, hWF⟩ : ∃ WF, (W1.alloc (.cells (data4.map bv).toArray 5)).freeze ⟨W1.heap.size, m, none⟩ 1 = WF := ⟨_, rfl⟩
 rw [hWF] at hconv'
 have hsF : WF.heap.size = w.heap.size + 1 + 1 + 1 := by rw [← hWF, Hk.size_freeze]; simp [hs1]
 have HBF := Lib.hid (show Below W1.heap.size W1 WF from hWF ▸ Hk.below_frozen ((Below.refl _ W1).alloc (Nat.le_refl _) _) (Nat.le_refl _) 1)
 have HR1 := Lib.hid (show Row W1 w.heap.size (sec.map bv) 23 from hW1 ▸ (Row.new rfl rfl).alloc _)
 have HZ1 := Lib.hid (show Row W1 (w.heap.size + 1) ((List.replicate 32 (0 : UInt8)).map bv) 23 from hW1 ▸ Row.new (by simp) rfl)
 have HB1 := Lib.hid (show Below w.heap.size w W1 from hW1 ▸ ((Below.refl _ w).alloc (Nat.le_refl _) _).alloc (by simp) _)
 have HD := Lib.hid (show Bs WF (W1.heap.size + 1) (.slice (some ⟨W1.heap.size, 0, none⟩) 4 4) data4 from hWF ▸ Hk.bs_lit W1 data4 4 m rfl)
 have HsF := Lib.hid hsF
 have Hs1 := Lib.hid hs1
 clear hW1 hWF hs1
 unfold arr8
 go_enter Tryz.func47, Tryz.ntmps47
 go_wp2_with (first
  | (at_builtin
     refine wpList_name fun W hW => ?_
     refine kstop ?_)
  | fail)
 unfold KStop
 have hW2 : WF.alloc (.cells ((tail5 e pz).map bv).toArray 5) = W := by
  rw [← hW, tail5_cells e pz he]
 have HBW := Lib.hid (show Below WF.heap.size WF W from hW2 ▸ (Below.refl _ WF).alloc (Nat.le_refl _) _)
 have hT : Bs W W.heap.size (.slice (some ⟨w.heap.size + 1 + 1 + 1, 0, none⟩) 5 5) (tail5 e pz) := by
  have hr : Row W (w.heap.size + 1 + 1 + 1) ((tail5 e pz).map bv) 5 := hW2 ▸ Row.new HsF.out rfl
  exact hr.bs hr.lt
 have HT := Lib.hid hT
 have hD := HD.out.below (HBW.out.mono (by rw [HsF.out, Hs1.out]; exact Nat.le_refl _))
 rw [Hs1.out] at hD
 have hDc : ∀ (i : Nat) (u : UInt8), data4[i]? = some u → W.cell? ⟨w.heap.size + 1 + 1, 0 + i, none⟩ = some (bv u) := by
  obtain ⟨A', c', e', _, hcs⟩ := hD
  obtain ⟨b', o', hA, _, hx⟩ := hcs (by decide)
  subst hA
  simp only [Value.slice.injEq, Option.some.injEq, Addr.mk.injEq] at e'
  obtain ⟨⟨rfl, rfl, _⟩, _, _⟩ := e'
  exact hx
 have HDc := Lib.hid hDc
 have HWl := Lib.hid (show w.heap.size + 1 + 1 < W.heap.size by have h1 := HBW.out.size; have h2 := HsF.out; omega)
 clear hW hW2 hT hD hDc hconv' hsF hand hw8 hp
 refine wpList_plain rfl fun K hK => ?_
 refine hwp_app_full (.tmp 9) (.tmp 24) rfl rfl (l := data4) rfl HDc.out HWl.out rfl HT.out (by show 4 + 5 ≤ _; omega) ?_
 intro v' w' hv hb
 refine hK _ _ ?_
 clear hK
 obtain ⟨b2, o2, c2, rfl, hc2, hb2, hx2⟩ := hv
 obtain ⟨I, hI⟩ : ∃ I, data4 ++ tail5 e pz = I := ⟨_, rfl⟩
 have hIl : I.length = 9 := by rw [← hI]; rfl
 rw [hI] at hc2 hx2
 have HI := Lib.hid (show Bs w' w'.heap.size (.slice (some ⟨b2, o2, none⟩) I.length c2) I from ⟨_, c2, rfl, hc2, fun _ => ⟨b2, o2, rfl, hb2, hx2⟩⟩)
 have hBw : Below W1.heap.size W1 w' := nextB (nextB HBF.out (Nat.le_refl _) (HBW.out.mono (Nat.le_refl _))) (Nat.le_refl _) hb
 have HB' := Lib.hid (nextB HB1.out (Nat.le_refl _) hBw)
 have HR' := Lib.hid (HR1.out.below hBw HR1.out.lt)
 have HZ' := Lib.hid (HZ1.out.below hBw HZ1.out.lt)
 have HIL := Lib.hid hIl
 have HIe := Lib.hid hI
 rw [hI]
 clear hc2 hx2 hb hBw hI hIl hb2
 go_wp2_with fail
 have hsec : Bs w' w'.heap.size (.slice (some ⟨w.heap.size, 0, none⟩) 32 32) sec := by
  have h1 := HR'.out.bs (B := w'.heap.size) HR'.out.lt
  rwa [Hs.out] at h1
 refine (_root_.Go.Proofs.YtedmogacklbcmaaGreatDoor.Key_any _ _ _ [] sec I w' (Ht.out.below HB'.out Ht.out.1) (Bs.nil _ _ _ _) (by simp) hsec (by rw [Hs.out]; omega) HI.out (by rw [HIL.out]; omega)).mono ?_
 rintro r w2 ⟨rfl, hb2⟩
 obtain ⟨O, hO⟩ : ∃ O, Hk.outL (Sha.mac [] sec) I 32 = O := ⟨_, rfl⟩
 have hOl : O.length = 32 := by rw [← hO, ← Hk.outN_end (Sha.mac [] sec) I 32 1 (by omega) (by omega)]; exact Hk.outN_length _ _ _ _
 have HO := Lib.hid (show pkey sec e z = O by rw [pkey, Hpz.out, HIe.out, hO])
 have HOm := Lib.hid (show (O.map bv).length = 32 by rw [List.length_map]; exact hOl)
 rw [hO]
 have HB2 := Lib.hid (nextB HB'.out (Nat.le_refl _) hb2)
 have HZ2 := Lib.hid (HZ'.out.below hb2 HZ'.out.lt)
 clear hb2 hO hOl hsec
 unfold arr8
 go_wp2_with (first
  | (show wpList _ _ _ (⟨none, Op.store 23 _ _, _, _, _, _⟩ :: _) _ _; refine wpList_storeRow (g := w.heap.size + 1) rfl 23 _ _ rfl rfl rfl (cs := O.map bv) HZ2.out (by kernel_rfl) HOm.out (by simp) (hbytes_one O) ?_)
  | fail)
 refine bodyPost_ret (results_row rfl _ rfl (HZ2.out.setRow (O.map bv)) Tryz.underlying23 rfl (by kernel_rfl) HOm.out) rfl ?_
 exact ⟨by rw [HO.out], below_setRow HB2.out (Nat.le_succ _) _⟩
end Go.Proofs.YtedmogacklbcmaaGreatDoor.Pkt
