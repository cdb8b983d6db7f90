/- The examples of chapter 5 have the results that it states: 'drawbridgelaw05.HkdfNames'. -/
import Derived.Test.YtaamkgchophpeaaDoorHkLives
import Derived.Test.YtaamkgchophpeaaDoorHkExpand
import Derived.Test.YtaamkgchophpeaaDoorHkExtract
import Derived.Test.YtaamkgchophpeaaDoorHkPad
import Derived.Test.YtaamkgchophpeaaDoorKit
import Derived.Test.YtaamkgchophpeaaDoorBs
import Derived.Test.YtaamkgchophpeaaDoorHkLaw
namespace Go.Proofs.YtaamkgchophpeaaDoor.hkdfNames
open Go.ChangeShapes Go.WideShapes Go.ChangeAt Go.RowKit

theorem Bs_one (w : World) (V : Value) (u : UInt8) (hV : V = bv u) : Bs (w.alloc (.cells #[V] 5)) (w.heap.size + 1) (.slice (some ⟨w.heap.size, 0, none⟩) 1 1) [u] :=
  ⟨_, 1, rfl, by simp, fun _ => ⟨w.heap.size, 0, rfl, by omega, fun i x hx => by
    cases i with
    | zero => simp at hx; subst hx; rw [World.cell?_alloc_at _ _ _ _ rfl, hV]; rfl
    | succ i => simp at hx⟩⟩
theorem bv_nat (z : Int) (n : Nat) (h : z = (n : Int)) (hn : n < 256) : Value.int .u8 z = bv (UInt8.ofNat n) := by
  subst h
  unfold bv
  congr 1
  simp [UInt8.toNat_ofNat']
  omega
def secret : List UInt8 := List.replicate 22 11
def cnt (k i : Nat) : List UInt8 := (List.range i).map fun j => UInt8.ofNat (k + j)
theorem cnt_succ (k i : Nat) : cnt k (i + 1) = cnt k i ++ [UInt8.ofNat (k + i)] := by simp [cnt, List.range_succ]
theorem cnt_len (k i : Nat) : (cnt k i).length = i := by simp [cnt]
set_option maxRecDepth 100000 in
theorem val : (Hk.outL (Sha.mac (cnt 0 13) secret) (cnt 240 10) 42).take 8 = [60, 178, 95, 37, 250, 172, 213, 122] := by decide +kernel
theorem pad0 : Sha.zerosOf 0 = 55 := by decide
theorem row_bsN {w : World} {g n : Nat} {l : List UInt8} {t : TypeId} (h : Row w g (l.map bv) t) (hl : l.length = n) : Bs w w.heap.size (.slice (some ⟨g, 0, none⟩) n n) l := by
  have h' := h.bs h.lt
  rwa [hl] at h'

set_option maxRecDepth 8000 in
set_option maxHeartbeats 16000000 in
theorem walk (w : World) (ht : Tab w) : Calls Tryd.prog 3 #[] w fun r w' => r = .returned (.bool true) ∧ Below w.heap.size w w' := by
  have HT := Lib.hid ht
  clear ht
  go_enter Tryd.func3, Tryd.ntmps3
  go_wp2
  go_loopw [1, 4] (fun va vi wr => ∃ i : Nat, i ≤ 22 ∧ vi = .int .i64 (i : Int) ∧ Own wr w.heap.size va (List.replicate i (11 : UInt8)) ∧ Below w.heap.size w wr) (fun _ vi _ => 22 - (intOf vi).toNat)
  case atStart => exact ⟨0, by omega, rfl, Own.nil _ _, Below.refl _ _⟩
  case round =>
    obtain ⟨i, hi, rfl, hown, hbr⟩ := hrel
    have HBr := Lib.hid hbr
    have HOw := Lib.hid hown
    have hs1 : w.heap.size ≤ wr.heap.size := hbr.size
    clear hbr hown
    by_cases hil : i < 22
    · have hil' : (i : Int) < 22 := by omega
      have HV := Lib.hid (show Value.int .u8 11 = bv (11 : UInt8) from rfl)
      have Hln := Lib.hid (show (List.replicate i (11 : UInt8)).length + 1 ≤ 140737488355327 by simp [cnt_len]; omega)
      have Hil := Lib.hid hil
      clear hi hil
      go_wp2_with (at_builtin; refine wpList_app_bytes _ rfl _ _ rfl rfl (HOw.out.alloc _) rfl (Bs_one _ _ _ HV.out) Hln.out (by simp <;> omega) ?_; intro v9 w9 ho9 hg9 hb9)
      have hbz : Below w.heap.size wr w9 := ((Below.refl w.heap.size wr).alloc hs1 _).grown hg9 (by simp <;> omega) (fun j hj => (HOw.out.block_ge hj).1)
      have HBz := Lib.hid (HBr.out.trans hbz)
      have HO9 := Lib.hid ho9
      clear ho9 hg9 hb9 hbz
      go_wp2
      go_roundw
      case rel => exact ⟨i + 1, by have := Hil.out; omega, by go_num, by rw [List.replicate_succ']; exact HO9.out, HBz.out⟩
      case measure => simp [intOf]; have := Hil.out; omega
    · obtain rfl : i = 22 := by omega
      have hil' : ¬ ((22 : Nat) : Int) < 22 := by omega
      clear hi hil
      have HO1 := Lib.hid (show Own wr w.heap.size u1 secret from HOw.out)
      have HB1 := Lib.hid HBr.out
      clear HOw HBr
      obtain ⟨wa, hwa⟩ : ∃ x, x = wr := ⟨_, rfl⟩
      subst hwa
      obtain ⟨va1, hva1⟩ : ∃ x, x = u1 := ⟨_, rfl⟩
      subst hva1
      go_wp2
      go_loopw [2, 5] (fun va vi wr => ∃ i : Nat, i ≤ 13 ∧ vi = .int .i64 (i : Int) ∧ Own wr wa.heap.size va (cnt 0 i) ∧ Below wa.heap.size wa wr) (fun _ vi _ => 13 - (intOf vi).toNat)
      case atStart => exact ⟨0, by omega, rfl, Own.nil _ _, Below.refl _ _⟩
      case round =>
        obtain ⟨i, hi, rfl, hown, hbr⟩ := hrel
        have HBr := Lib.hid hbr
        have HOw := Lib.hid hown
        have hs1 : wa.heap.size ≤ wr.heap.size := hbr.size
        clear hbr hown
        by_cases hil : i < 13
        · have hil' : (i : Int) < 13 := by omega
          have HV := Lib.hid (bv_nat (i : Int) (0 + i) (by omega) (by omega))
          have Hln := Lib.hid (show (cnt 0 i).length + 1 ≤ 140737488355327 by simp [cnt_len]; omega)
          have Hil := Lib.hid hil
          clear hi hil
          go_wp2_with (at_builtin; refine wpList_app_bytes _ rfl _ _ rfl rfl (HOw.out.alloc _) rfl (Bs_one _ _ _ HV.out) Hln.out (by simp <;> omega) ?_; intro v9 w9 ho9 hg9 hb9)
          have hbz : Below wa.heap.size wr w9 := ((Below.refl wa.heap.size wr).alloc hs1 _).grown hg9 (by simp <;> omega) (fun j hj => (HOw.out.block_ge hj).1)
          have HBz := Lib.hid (HBr.out.trans hbz)
          have HO9 := Lib.hid ho9
          clear ho9 hg9 hb9 hbz
          go_wp2
          go_roundw
          case rel => exact ⟨i + 1, by have := Hil.out; omega, by go_num, by rw [cnt_succ]; exact HO9.out, HBz.out⟩
          case measure => simp [intOf]; have := Hil.out; omega
        · obtain rfl : i = 13 := by omega
          have hil' : ¬ ((13 : Nat) : Int) < 13 := by omega
          clear hi hil
          have HO2 := Lib.hid (show Own wr wa.heap.size u2 (cnt 0 13) from HOw.out)
          have HO1b := Lib.hid (HO1.out.below HBr.out (Nat.le_refl _))
          have HB2 := Lib.hid (nextB HB1.out (Nat.le_refl _) HBr.out)
          clear HOw HBr HO1 HB1
          obtain ⟨wb, hwb⟩ : ∃ x, x = wr := ⟨_, rfl⟩
          subst hwb
          obtain ⟨va2, hva2⟩ : ∃ x, x = u2 := ⟨_, rfl⟩
          subst hva2
          go_wp2
          go_loopw [3, 6] (fun va vi wr => ∃ i : Nat, i ≤ 10 ∧ vi = .int .i64 (i : Int) ∧ Own wr wb.heap.size va (cnt 240 i) ∧ Below wb.heap.size wb wr) (fun _ vi _ => 10 - (intOf vi).toNat)
          case atStart => exact ⟨0, by omega, rfl, Own.nil _ _, Below.refl _ _⟩
          case round =>
            obtain ⟨i, hi, rfl, hown, hbr⟩ := hrel
            have HBr := Lib.hid hbr
            have HOw := Lib.hid hown
            have hs1 : wb.heap.size ≤ wr.heap.size := hbr.size
            clear hbr hown
            by_cases hil : i < 10
            · have hil' : (i : Int) < 10 := by omega
              have HV := Lib.hid (bv_nat (240 + (i : Int)) (240 + i) (by omega) (by omega))
              have Hln := Lib.hid (show (cnt 240 i).length + 1 ≤ 140737488355327 by simp [cnt_len]; omega)
              have Hil := Lib.hid hil
              clear hi hil
              go_wp2_with (at_builtin; refine wpList_app_bytes _ rfl _ _ rfl rfl (HOw.out.alloc _) rfl (Bs_one _ _ _ HV.out) Hln.out (by simp <;> omega) ?_; intro v9 w9 ho9 hg9 hb9)
              have hbz : Below wb.heap.size wr w9 := ((Below.refl wb.heap.size wr).alloc hs1 _).grown hg9 (by simp <;> omega) (fun j hj => (HOw.out.block_ge hj).1)
              have HBz := Lib.hid (HBr.out.trans hbz)
              have HO9 := Lib.hid ho9
              clear ho9 hg9 hb9 hbz
              go_wp2
              go_roundw
              case rel => exact ⟨i + 1, by have := Hil.out; omega, by go_num, by rw [cnt_succ]; exact HO9.out, HBz.out⟩
              case measure => simp [intOf]; have := Hil.out; omega
            · obtain rfl : i = 10 := by omega
              have hil' : ¬ ((10 : Nat) : Int) < 10 := by omega
              clear hi hil
              have HO3 := Lib.hid (show Own wr wb.heap.size u3 (cnt 240 10) from HOw.out).bs
              have HO2b := Lib.hid (HO2.out.below HBr.out (Nat.le_refl _)).bs
              have HO1c := Lib.hid (HO1b.out.below HBr.out (Nat.le_refl _)).bs
              have HB3 := Lib.hid (nextB HB2.out (Nat.le_refl _) HBr.out)
              clear HOw HBr HO1b HO2 HB2
              have HT3 := Lib.hid (HT.out.below HB3.out HT.out.1)
              go_wp2_with fail
              refine (Extract_any _ _ (cnt 0 13) secret wr HT3.out HO2b.out (by simp [cnt_len]) HO1c.out (by simp [secret])).mono ?_
              obtain ⟨E, hE⟩ : ∃ E, Sha.mac (cnt 0 13) secret = E := ⟨_, rfl⟩
              have HE := Lib.hid hE
              have HEl := Lib.hid (show E.length = 32 by rw [← hE]; exact Sha.sum_length _)
              rw [hE]
              rintro r w4 ⟨rfl, hb4⟩
              have HB4 := Lib.hid (nextB HB3.out (Nat.le_refl _) hb4)
              have HI4 := Lib.hid ((HO3.out.below hb4).more hb4.size)
              have HT4 := Lib.hid (HT3.out.below hb4 HT3.out.1)
              clear hb4 hE
              go_wp2_with fail
              refine (Expand_ok _ E (cnt 240 10) (42 : Int) 42 (.inr rfl) (by omega) HEl.out w4 HT4.out HI4.out (by simp [cnt_len])).mono ?_
              obtain ⟨O, hO⟩ : ∃ O, Hk.outL E (cnt 240 10) 42 = O := ⟨_, rfl⟩
              have HOe := Lib.hid hO
              have HOl := Lib.hid (show O.length = 42 by rw [← hO]; unfold Hk.outL; rw [List.length_take, Hk.catN_length]; decide)
              rw [hO]
              rintro r w5 ⟨g7, rfl, hg7, hr7, hb5⟩
              have HB5 := Lib.hid (nextB HB4.out (Nat.le_refl _) hb5)
              have HR5 := Lib.hid hr7
              have HT5 := Lib.hid (HT4.out.below hb5 HT4.out.1)
              clear hb5 hr7 hO
              go_wp2_with fail
              refine (Expand_long (List.replicate 32 0) none 0 0 8161 (by omega) w5).mono ?_
              rintro r w6 ⟨rfl, hb6⟩
              have HB6 := Lib.hid (nextB HB5.out (Nat.le_refl _) hb6)
              have HR6 := Lib.hid (HR5.out.below hb6 HR5.out.lt)
              have HT6 := Lib.hid (HT5.out.below hb6 HT5.out.1)
              clear hb6
              go_wp2_with fail
              refine (Expand_ok (.slice none 0 0) (List.replicate 32 0) [] (-1 : Int) 0 (.inl ⟨by omega, rfl⟩) (by omega) (by simp) w6 HT6.out (Bs.nil _ _ _ _) (by simp)).mono ?_
              rintro r w7 ⟨g11, rfl, hg11, hr11, hb7⟩
              have HB7 := Lib.hid (nextB HB6.out (Nat.le_refl _) hb7)
              have HR7 := Lib.hid (HR6.out.below hb7 HR6.out.lt)
              have HT7 := Lib.hid (HT6.out.below hb7 HT6.out.1)
              clear hb7 hr11
              go_wp2_with fail
              refine (lives_any _ HT7.out).mono ?_
              rintro r w8 ⟨rfl, hb8⟩
              have HB8 := Lib.hid (nextB HB7.out (Nat.le_refl _) hb8)
              have HR8 := Lib.hid (HR7.out.below hb8 HR7.out.lt)
              clear hb8
              have hv8 : O.take 8 = [60, 178, 95, 37, 250, 172, 213, 122] := by rw [← HOe.out, ← HE.out]; exact val
              have hr8 : (convert 22 9 (.slice (some ⟨g7, 0, none⟩) 8 42)).run Tryd.prog w8 = .ok (.string ⟨#[60, 178, 95, 37, 250, 172, 213, 122]⟩) w8 := by
                have h := run_str w8 ((row_bsN HR8.out HOl.out).take HOl.out.symm (k := 8) (by rw [HOl.out]; omega))
                rwa [hv8] at h
              clear hv8
              go_wp2_with fail
              have hPad := Pad_any 0 (by omega) w8
              rw [pad0] at hPad
              refine hPad.mono ?_
              rintro r w9 ⟨rfl, _, hb9⟩
              have HB9 := Lib.hid (nextB HB8.out (Nat.le_refl _) hb9)
              clear hb9
              go_wp2
              go_ret
              exact ⟨rfl, HB9.out⟩

set_option maxRecDepth 100000 in
theorem lift (os : Os) (started : os.Started) (H : Type) (enc : TypeId × Value → H) :
    ReturnsInHanded {} Tryd.checked os 3 .any (fun w args => (Rows.hkdfNamesSpec.pre enc Tryd.prog Tryd.f3 Rows.hkdfNamesRow.domain false w args ∧ laidMetH Tryd.prog Hk.laidL w) ∧ sizedMet enc Tryd.prog Tryd.f3 (OpenSpec.ofChange Rows.hkdfNamesSpec) false w args) (Rows.hkdfNamesSpec.post enc Tryd.prog Tryd.f3 false true false false) := by
  refine Hk.lifted 4 Pol.own started (by kernel_rfl) Tryd.func3 Pol.laid (by kernel_rfl) rfl Tryd.underlying4 rfl
    (fun ds hd => by
      have hd' : ds.length = 0 := hd
      match ds, hd' with
      | [], _ => rfl)
    (ChangeSpec.witness_at (enc := enc) (C := Tryd.checked) (os := os) (X := fun w _ => laidMetH Tryd.prog Hk.laidL w) false (Hk.laidWorld os) #[] 8 rfl (by kernel_rfl) (by kernel_rfl) (by kernel_rfl) (by kernel_rfl) (by kernel_rfl) (Hk.laid_metH os _)) ?_
  intro W args ds ps hst htab
  have hA : DataW.TrodAll enc Tryd.prog W 0 (fun _ => true) true Tryd.f3.params.toList args.toList ds ps := hst.trod
  have hok := hst.okw
  have hlt := hst.lt
  rw [Tryd.params3] at hA hok
  obtain ⟨rfl, rfl, rfl⟩ := trodAll_none hA
  exact walk W htab

theorem over : Rows.hkdfNamesRow.holds Tryd.pinned (OpenSpec.ofChange Rows.hkdfNamesSpec) :=
  OpenClaim.holds_of_wide 3 Tryd.f3 rfl rfl rfl rfl rfl rfl rfl ⟨rfl, rfl, rfl, rfl, rfl⟩ rfl rfl rfl rfl rfl (by kernel_rfl) Tryd.func3 (by kernel_rfl)
    (of_decide_eq_true (by kernel_rfl)) (by unfold Func.isWrapper; first | (rw [if_pos (by decide +kernel)]; kernel_rfl) | (rw [if_neg (by decide +kernel)]; exact ⟨rfl, rfl⟩))
    (fun os started H enc _ => lift os started H enc)
theorem proved : Rows.HkdfNamesCardSaid :=
  Claim7.holds_tied_plain_at .later [] [.data] true Rows.hkdfNamesCard.stood.harness false over (fun _ h => by cases h) (by kernel_rfl) (fun _ h => by cases h) hkdfNames_row_tie rfl ⟨rfl, rfl⟩ (by kernel_rfl) rfl
    (fun f fn hf hfn => by
      obtain rfl : f = 3 := (Option.some.inj ((show Tryd.prog.funcNamed Rows.hkdfNamesRow.func = some 3 by kernel_rfl).symm.trans hf)).symm
      obtain rfl : fn = Tryd.f3 := (Option.some.inj (Tryd.func3.symm.trans hfn)).symm
      refine ⟨by kernel_rfl, fun j t ht => ?_⟩
      have hall : (Tryd.f3.params.toList.all fun t => Tryd.prog.wantsStandIn t == false) = true := by kernel_rfl
      have h := List.all_eq_true.1 hall t (Array.mem_toList_iff.2 (Array.mem_of_getElem? ht))
      exact eq_of_beq h)
    (by kernel_rfl)
#print axioms proved
end Go.Proofs.YtaamkgchophpeaaDoor.hkdfNames

