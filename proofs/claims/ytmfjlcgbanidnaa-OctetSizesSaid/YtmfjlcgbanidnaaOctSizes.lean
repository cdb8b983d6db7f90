/- Greater numbers have no fewer bytes and come later: 'drawbridgelaw01.OctetSizes', for every two numbers. -/
import Derived.Test.YtmfjlcgbanidnaaOctMake
import Derived.Test.YtmfjlcgbanidnaaKit
import Derived.Test.YtmfjlcgbanidnaaLaw
import Derived.Test.YtmfjlcgbanidnaaOctLives
namespace Go.Proofs.Ytmfjlcgbanidnaa.octetSizes
open Go.ChangeShapes Go.WideShapes Go.ChangeAt Go.RowKit

theorem less_be : ∀ l m : List UInt8, l.length = m.length → Op.bytesLess l m = decide (Oct.be l < Oct.be m)
  | [], [], _ => by simp [Op.bytesLess]
  | [], _ :: _, h => by simp at h
  | _ :: _, [], h => by simp at h
  | a :: l, b :: m, h => by
    have hl : l.length = m.length := by simpa using h
    have h1 := Oct.be_lt l
    have h2 := Oct.be_lt m
    rw [Op.bytesLess, less_be l m hl, Oct.be_cons, Oct.be_cons, hl]
    rw [hl] at h1
    generalize Oct.be l = x at *
    generalize Oct.be m = y at *
    generalize 256 ^ m.length = k at *
    rw [Bool.eq_iff_iff]
    simp only [Bool.or_eq_true, Bool.and_eq_true, decide_eq_true_eq, beq_iff_eq]
    constructor
    · rintro (hab | ⟨rfl, hxy⟩)
      · have hab' : a.toNat + 1 ≤ b.toNat := UInt8.lt_iff_toNat_lt.1 hab
        have := Nat.mul_le_mul_right k hab'
        rw [Nat.add_mul] at this
        omega
      · omega
    · intro hlt
      rcases Nat.lt_trichotomy a.toNat b.toNat with h | h | h
      · exact .inl (UInt8.lt_iff_toNat_lt.2 h)
      · refine .inr ⟨UInt8.toNat_inj.1 h, ?_⟩
        rw [h] at hlt
        omega
      · exfalso
        have := Nat.mul_le_mul_right k (show b.toNat + 1 ≤ a.toNat from h)
        rw [Nat.add_mul] at this
        omega

theorem less_enc (x y : Nat) (hx : x < 2 ^ 64) (hy : y < 2 ^ 64) : Op.bytesLess (Oct.enc x) (Oct.enc y) = decide (x < y) := by
  obtain ⟨hx8, hx1, hx2⟩ := Oct.nsize_spec x hx
  obtain ⟨hy8, hy1, hy2⟩ := Oct.nsize_spec y hy
  have key : ∀ u v : Nat, u < 256 ^ Oct.nsize u → (v ≠ 0 → 0 < Oct.nsize v ∧ 256 ^ (Oct.nsize v - 1) ≤ v) → Oct.nsize u < Oct.nsize v → u < v := by
    intro u v h1 h2 h
    have hv : v ≠ 0 := by rintro rfl; simp [Oct.nsize_zero] at h
    exact Nat.lt_of_lt_of_le h1 (Nat.le_trans (Nat.pow_le_pow_right (by omega) (by omega)) (h2 hv).2)
  have ht : ∀ n, n ≤ 8 → (UInt8.ofNat n).toNat = n := fun n hn => by rw [UInt8.toNat_ofNat']; omega
  unfold Oct.enc
  rw [Op.bytesLess]
  rcases Nat.lt_trichotomy (Oct.nsize x) (Oct.nsize y) with h | h | h
  · have h1 : UInt8.ofNat (Oct.nsize x) < UInt8.ofNat (Oct.nsize y) := UInt8.lt_iff_toNat_lt.2 (by rw [ht _ hx8, ht _ hy8]; exact h)
    simp [h1, key x y hx1 hy2 h]
  · rw [h, less_be _ _ (by rw [Oct.bytesBE_length, Oct.bytesBE_length]), Oct.be_enc y hy, ← h, Oct.be_enc x hx]
    have h1 : ¬ UInt8.ofNat (Oct.nsize x) < UInt8.ofNat (Oct.nsize x) := UInt8.lt_irrefl _
    simp [h1]
  · have h1 : ¬ UInt8.ofNat (Oct.nsize x) < UInt8.ofNat (Oct.nsize y) := fun hh => by
      have := UInt8.lt_iff_toNat_lt.1 hh
      rw [ht _ hx8, ht _ hy8] at this
      omega
    have h2 : (UInt8.ofNat (Oct.nsize x) == UInt8.ofNat (Oct.nsize y)) = false := by
      rw [beq_eq_false_iff_ne]
      intro hh
      have := congrArg UInt8.toNat hh
      rw [ht _ hx8, ht _ hy8] at this
      omega
    have h3 := key y x hy1 hx2 h
    simp [h1, h2]
    omega

set_option maxHeartbeats 1000000 in
theorem walk (x y : Nat) (w : World) (hx : x < 2 ^ 64) (hy : y < 2 ^ 64) : Calls Try.prog 10 #[.int .u64 x, .int .u64 y] w fun e w' => e = .returned (.bool true) ∧ Below w.heap.size w w' := by
  go_enter Try.func10, Try.ntmps10
  go_wp2_with (go_at_call 16; refine (lives_any _).mono ?_; rintro e w1 ⟨rfl, hb1⟩)
  go_wp2_with fail
  refine (Number_any _ [] x _ (Bs.nil _ _ _ _) hx (by simp)).mono ?_
  rintro e w2 ⟨v2, rfl, hown2, hb2⟩
  have hb02 := nextB hb1 (Nat.le_refl _) hb2
  have Hown2 := Lib.hid hown2
  clear hown2 hb1 hb2
  go_wp2_with fail
  refine (Number_any _ [] y _ (Bs.nil _ _ _ _) hy (by simp)).mono ?_
  rintro e w3 ⟨v3, rfl, hown3, hb3⟩
  have hb03 := nextB hb02 (Nat.le_refl _) hb3
  have Hown3 := Lib.hid hown3
  have Hown2b := Lib.hid (Hown2.out.below hb3 (Nat.le_refl _))
  clear hown3 hb02 hb3 Hown2
  have hr2 := run_str w3 Hown2b.out.bs
  have hr3 := run_str w3 Hown3.out.bs
  obtain ⟨A2, c2, e2, hc2, hcs2⟩ := Hown2b.out.bs
  obtain ⟨b2, off2, rfl, hlt2, hcell2⟩ := hcs2 (by simp [Oct.enc])
  have h0 := hcell2 0 (UInt8.ofNat (Oct.nsize x)) (by simp [Oct.enc])
  have hl : ([] ++ Oct.enc x).length = Oct.nsize x + 1 := Oct.enc_length x
  obtain ⟨hn8, hx1, hx2⟩ := Oct.nsize_spec x hx
  rw [hl] at e2 hc2
  have h0' : w3.cell? ⟨b2, off2, none⟩ = some (.int .u8 (Oct.nsize x : Nat)) := by
    rw [Nat.add_zero] at h0
    rw [h0]
    unfold bv
    rw [UInt8.toNat_ofNat', Nat.mod_eq_of_lt (by omega)]
  have hless := less_enc x y hx hy
  have hrl : ∀ W, (binOp .lss 9 (strOf (Oct.enc x)) (strOf (Oct.enc y))).run Try.prog W = .ok (.bool (decide (x < y))) W := fun W => by rw [run_strless, hless]
  clear h0 hcell2 hl hcs2 hless Hown2b
  subst e2
  have hx2' : 0 < Oct.nsize x → 256 ^ (Oct.nsize x - 1) ≤ x := fun h => (hx2 (by rintro rfl; simp [Oct.nsize_zero] at h)).2
  clear hx2
  generalize Oct.nsize x = n at *
  rcases (by omega : n = 0 ∨ n = 1 ∨ n = 2 ∨ n = 3 ∨ n = 4 ∨ n = 5 ∨ n = 6 ∨ n = 7 ∨ n = 8) with rfl | rfl | rfl | rfl | rfl | rfl | rfl | rfl | rfl
  · obtain rfl : x = 0 := by simpa using hx1
    clear hx1 hx2'
    go_wp2
    all_goals
      go_ret
      exact ⟨rfl, hb03⟩
  all_goals
    simp at hx1 hx2'
    go_wp2
  all_goals
    go_ret
    exact ⟨rfl, hb03⟩

set_option maxRecDepth 100000 in
theorem lift (os : Os) (started : os.Started) (H : Type) (enc : TypeId × Value → H) :
    ReturnsInHanded {} Try.checked os 10 .any (Rows.octetSizesSpec.pre6 enc Try.prog Try.f10 Rows.octetSizesRow.domain false) (Rows.octetSizesSpec.post enc Try.prog Try.f10 false true false false) := by
  refine Law.lifted (C := Try.checked) 4 own started (by kernel_rfl) Try.func10 laid (by kernel_rfl) rfl Try.underlying4 rfl
    (fun ds hd => by
      have hd' : ds.length = 2 := hd
      match ds, hd' with
      | [d0, d1], _ => rfl)
    (ChangeSpec.witness6 (enc := enc) (C := Try.checked) false ⟨#[], #[.int .u64 0, .int .u64 0], []⟩ 8 (by kernel_rfl) (by kernel_rfl) (by kernel_rfl) (by kernel_rfl)) ?_
  intro W args ds ps hst
  have hA : DataW.TrodAll enc Try.prog W 0 (fun _ => true) true Try.f10.params.toList args.toList ds ps := hst.trod
  have hok := hst.okw
  have hlt := hst.lt
  rw [Try.params10] at hA hok
  obtain ⟨v0, v1, d0, d1, p0, p1, rfl, rfl, rfl, h0, h1⟩ := trodAll_two hA
  obtain ⟨_, hv0⟩ := hok 0 27 v0 rfl rfl
  obtain ⟨_, hv1⟩ := hok 1 27 v1 rfl rfl
  obtain ⟨n0, rfl, a0, b0⟩ := Law.int_at Try.underlying27 hv0 h0
  obtain ⟨n1, rfl, a1, b1⟩ := Law.int_at Try.underlying27 hv1 h1
  have a0' : (0 : Int) ≤ n0 := a0
  have b0' : n0 ≤ 18446744073709551615 := b0
  have a1' : (0 : Int) ≤ n1 := a1
  have b1' : n1 ≤ 18446744073709551615 := b1
  obtain ⟨x, rfl⟩ := Int.eq_ofNat_of_zero_le a0'
  obtain ⟨y, rfl⟩ := Int.eq_ofNat_of_zero_le a1'
  exact walk x y W (by omega) (by omega)

theorem over : Rows.octetSizesRow.holds Try.pinned (OpenSpec.ofChange Rows.octetSizesSpec) :=
  OpenClaim.holds_of_wide 10 Try.f10 rfl rfl rfl rfl rfl rfl rfl ⟨rfl, rfl, rfl, rfl, rfl⟩ rfl rfl rfl rfl rfl (by kernel_rfl) Try.func10 (by kernel_rfl)
    (of_decide_eq_true (by kernel_rfl)) (by unfold Func.isWrapper; first | (rw [if_pos (by decide +kernel)]; kernel_rfl) | (rw [if_neg (by decide +kernel)]; exact ⟨rfl, rfl⟩))
    (fun os started H enc _ => lift os started H enc)
theorem proved : Rows.OctetSizesSaid := over
#print axioms proved
end Go.Proofs.Ytmfjlcgbanidnaa.octetSizes
