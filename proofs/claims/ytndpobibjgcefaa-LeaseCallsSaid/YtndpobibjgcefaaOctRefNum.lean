/- The reference's numbers. -/
import Derived.Test.YtndpobibjgcefaaKit
import Derived.Test.YtndpobibjgcefaaOctMake
namespace Go.Proofs.Ytndpobibjgcefaa.Ref
open Go.RowKit

theorem bytesBE_cons (j : Nat) : ∀ x, Oct.bytesBE (j + 1) x = UInt8.ofNat (x / 256 ^ j % 256) :: Oct.bytesBE j x := by
  induction j with
  | zero => intro x; simp [Oct.bytesBE]
  | succ j ih =>
    intro x
    rw [Oct.bytesBE, ih (x / 256), Nat.div_div_eq_div_mul, Nat.mul_comm, ← Nat.pow_succ]
    simp [Oct.bytesBE]

theorem own_one (w : World) (V : Value) (u : UInt8) (hV : V = bv u) : Own (w.alloc (.cells #[V] 5)) w.heap.size (.slice (some ⟨w.heap.size, 0, none⟩) 1 1) [u] :=
  ⟨rfl, .inr ⟨w.heap.size, 1, #[V], rfl, Nat.le_refl _, heap_alloc_new w _, Nat.le_refl _, by decide, by simp, by simp [hV]⟩⟩

set_option maxHeartbeats 400000 in
theorem Number_any (b : Value) (l : List UInt8) (x : Nat) (base : Nat) (w : World) (hb : Own w base b l) (hx : x < 2 ^ 64) (hl : l.length ≤ 105553116266496) (hbase : base ≤ w.heap.size) :
    Calls Try.prog 31 #[b, .int .u64 x] w fun e w' => ∃ v, e = .returned v ∧ Own w' base v (l ++ Oct.enc x) ∧ Below base w w' := by
  obtain ⟨hn8, hxn, hx0⟩ := Oct.nsize_spec x hx
  have Hb := Lib.hid hb
  clear hb
  go_enter Try.func31, Try.ntmps31
  go_wp2
  go_loopw [5, 6] (fun v y wr => ∃ j yn : Nat, j ≤ Oct.nsize x ∧ yn = x / 256 ^ j ∧ y = .int .u64 (yn : Int) ∧ Own wr w.heap.size v (Oct.bytesBE j x) ∧ Below w.heap.size w wr) (fun _ y _ => (intOf y).toNat)
  case atStart => exact ⟨0, x, Nat.zero_le _, by simp, rfl, Own.nil _ _, Below.refl _ _⟩
  case round =>
    obtain ⟨j, yn, hj, hyn, hy, hown, hbel⟩ := hrel
    subst hy
    have Hyn := Lib.hid hyn
    have hyx : yn ≤ x := by rw [hyn]; exact Nat.div_le_self _ _
    have Hown := Lib.hid hown
    clear hown
    by_cases h0 : yn = 0
    · have hjn : j = Oct.nsize x := by
        rw [h0] at hyn
        rcases Nat.lt_or_ge j (Oct.nsize x) with h | h
        · have hne : x ≠ 0 := by rintro rfl; simp [Oct.nsize_zero] at h
          have h1 := (hx0 hne).2
          have h2 : 256 ^ j ≤ 256 ^ (Oct.nsize x - 1) := Nat.pow_le_pow_right (by decide) (by omega)
          have := (Nat.div_eq_zero_iff_lt (Nat.pow_pos (by decide : 0 < 256))).1 hyn.symm
          omega
        · omega
      have Hjn := Lib.hid hjn
      have hj8 : j ≤ 8 := by omega
      clear hyn hjn Hyn hj hyx
      subst h0
      have hlen : (Oct.bytesBE j x).length = j := Oct.bytesBE_length _ _
      obtain ⟨A5, c5, h5⟩ := Hown.out.shape
      rw [hlen] at h5
      subst h5
      have Hlen := Lib.hid hlen
      clear hlen
      have hb1 := Hb.out.below hbel (Nat.le_refl _)
      have Hb1 := Lib.hid hb1
      clear hb1
      have HV : Hid (Value.int .u8 (j : Int) = bv (UInt8.ofNat j)) := by
        unfold Hid bv
        rw [UInt8.toNat_ofNat']
        congr 1
        omega
      have hap : (Value.slice A5 j c5).ownBlock = none ∨ (Value.slice A5 j c5).ownBlock ≠ b.ownBlock := by
        cases hk : (Value.slice A5 j c5).ownBlock with
        | none => exact .inl rfl
        | some k =>
          refine .inr fun he => ?_
          have h1 := (Hown.out.block_ge hk).1
          have h2 := (Hb.out.block_ge he.symm).2
          omega
      have Hap := Lib.hid hap
      clear hap
      go_wp2_with (first
        | (at_builtin; refine wpList_app_bytes _ rfl _ _ rfl rfl (Hb1.out.alloc _) rfl (Bs.one _ _ _ HV.out) (by simp; omega) (by have := hbel.size; simp; omega) ?_; intro v1 w1 hown1 hg1 hblk1)
        | (at_builtin; refine wpList_app_bytes _ rfl _ _ rfl rfl hown1 rfl (((Hown.out.alloc _).kept hg1 Hap.out).bs) (by simp [Hlen.out]; omega) (by have := hbel.size; have := hg1.size; simp at this; omega) ?_; intro v2 w2 hown2 hg2 hblk2))
      go_ret
      refine ⟨v2, rfl, ?_, ?_⟩
      · have := hown2
        rw [List.append_assoc] at this
        simpa [Oct.enc, ← Hjn.out] using this
      · have h1 : Below base w w1 := ((hbel.mono hbase).alloc (by have := hbel.size; omega) _).grown hg1 (by have := hbel.size; simp; omega) (fun k hk => (Hb.out.block_ge hk).1)
        refine h1.grown hg2 (by have := h1.size; omega) (fun k hk => ?_)
        exact (hown1.block_ge hk).1
    · have hpos : (0 : Int) < (yn : Int) := by omega
      clear hyn
      go_wp2_with (at_builtin; refine wpList_app_bytes _ rfl _ _ rfl rfl (own_one _ _ (UInt8.ofNat (yn % 256)) (by unfold bv; rw [UInt8.toNat_ofNat']; congr 1; omega)) rfl (Hown.out.bs.alloc (Nat.le_refl _) _) (by simp [Oct.bytesBE_length]; omega) (by simp) ?_; intro v1 w1 hown1 hg1 hblk1)
      go_roundw
      case rel =>
        refine ⟨j + 1, yn / 256, ?_, ?_, ?_, ?_, ?_⟩
        · rcases Nat.lt_or_ge j (Oct.nsize x) with h | h
          · exact h
          · have hjn : j = Oct.nsize x := by omega
            have := Hyn.out
            rw [hjn, Nat.div_eq_of_lt hxn] at this
            exact absurd this h0
        · rw [Hyn.out, Nat.div_div_eq_div_mul, ← Nat.pow_succ]
        · congr 1
        · rw [bytesBE_cons, ← Hyn.out]
          exact hown1.less hbel.size
        · exact (hbel.alloc hbel.size _).grown hg1 (by have := hbel.size; simp; omega) (fun k hk => by have hk' : some wr.heap.size = some k := hk; injection hk' with hk'; have := hbel.size; omega)
      case measure =>
        simp [intOf]
        omega

end Go.Proofs.Ytndpobibjgcefaa.Ref
