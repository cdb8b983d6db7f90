/- A window is determined by its bytes, and no other bytes give it: 'drawbridgelaw07.WindowBack'. -/
import Derived.Test.YtnpmlbpnlflkkaaWinCodec
import Derived.Test.YtnpmlbpnlflkkaaWinArgs
import Derived.Test.YtnpmlbpnlflkkaaKit
namespace Go.Proofs.Ytnpmlbpnlflkkaa.windowBack
open Go.ChangeShapes Go.WideShapes Go.ChangeAt Go.RowKit Win

theorem str_guard (op : BinOp) (hop : op = .eql ∨ op = .neq) (x y : Operand) (l m : List UInt8) (w : World) : (eqGuard op 9 x y (strOf l) (strOf m)).run Try.prog w = .ok () w := by
  have hg : Try.prog.eqGuardType Try.prog.depth 9 = false := by kernel_rfl
  unfold strOf
  rcases hop with rfl | rfl <;> simp [eqGuard, Sem.run_bind, hg]
theorem str_neq (l : List UInt8) (w : World) : (binOp .neq 9 (strOf l) (strOf l)).run Try.prog w = .ok (.bool false) w := by
  unfold strOf binOp Op.stringOp
  simp [Sem.run_pure]
theorem eq_guard (op : BinOp) (hop : op = .eql ∨ op = .neq) (x y : Operand) (a b c d a' b' c' d' : Nat) (W : World) : (eqGuard op 35 x y (wv a b c d) (wv a' b' c' d')).run Try.prog W = .ok () W := by
  have hg : Try.prog.eqGuardType Try.prog.depth 35 = false := by kernel_rfl
  rcases hop with rfl | rfl <;> simp [eqGuard, Sem.run_bind, hg]
theorem eq_same (a b c d : Nat) (W : World) : (binOp .eql 35 (wv a b c d) (wv a b c d)).run Try.prog W = .ok (.bool true) W := by
  go_simp

theorem long (f t s l : Nat) (A : Option Addr) (c N : Nat) (w : World) (h : 100 < N) : Calls Try.prog 7 #[wv f t s l, .slice A N c] w fun r w' => r = .returned (.bool true) ∧ Below w.heap.size w w' := by
  have h' : (100 : Int) < (N : Int) := by omega
  go_enter Try.func7, Try.ntmps7
  go_wp2_with fail
  refine (lives_any _).mono ?_
  rintro r w1 ⟨rfl, hb1⟩
  have HB1 := Lib.hid (nextB ((Below.refl w.heap.size w).alloc (Nat.le_refl _) _) (Nat.le_refl _) hb1)
  clear hb1
  go_wp2
  go_ret
  exact ⟨rfl, HB1.out⟩

set_option maxRecDepth 8000 in
set_option maxHeartbeats 4000000 in
theorem walk (f t s l : Nat) (A : Option Addr) (c : Nat) (b : List UInt8) (w : World) (hb : Bs w w.heap.size (.slice A b.length c) b) (hb1 : b.length ≤ 100) (hF : Fits f t s l) :
    Calls Try.prog 7 #[wv f t s l, .slice A b.length c] w fun r w' => r = .returned (.bool true) ∧ Below w.heap.size w w' := by
  have h' : ¬ (100 : Int) < (b.length : Int) := by omega
  have HBb := Lib.hid hb
  have HBl := Lib.hid (show b.length ≤ 35184372088832 by omega)
  have HBl2 := Lib.hid (show b.length ≤ 140737488355327 by omega)
  have HF := Lib.hid hF
  clear hb hb1 hF
  go_enter Try.func7, Try.ntmps7
  go_wp2_with fail
  refine (lives_any _).mono ?_
  rintro r w1 ⟨rfl, hb1⟩
  have HB1 := Lib.hid (nextB ((Below.refl w.heap.size w).alloc (Nat.le_refl _) _) (Nat.le_refl _) hb1)
  have HC1 := Lib.hid (show Row w1 w.heap.size (wl f t s l) 35 from (Row.new rfl rfl).below hb1 (by simp))
  clear hb1
  go_wp2_with fail
  refine (Own_any _ b _ ((HBb.out.below HB1.out).more HB1.out.size) HBl2.out).mono ?_
  rintro r w6 ⟨v6, rfl, ho6, hb6⟩
  have HB6 := Lib.hid (nextB HB1.out (Nat.le_refl _) hb6)
  have HC6 := Lib.hid (HC1.out.below hb6 HC1.out.lt)
  have HO6 := Lib.hid ho6
  clear hb6 ho6
  go_wp2_with fail
  refine (Read_any _ b _ HO6.out.bs HBl.out).mono ?_
  by_cases hrd : ∃ x y z u, rdW b = (x, y, z, u, 0)
  · obtain ⟨x, y, z, u, hxy⟩ := hrd
    obtain ⟨hbb, hok, hfit⟩ := rdW_bytes b x y z u hxy
    have HOK := Lib.hid hok
    have HBB := Lib.hid hbb
    have HFX := Lib.hid hfit
    rw [hxy]
    clear hxy hok hbb hfit
    rintro r w7 ⟨rfl, hb7⟩
    have HB7 := Lib.hid (nextB HB6.out (Nat.le_refl _) hb7)
    have HC7 := Lib.hid (HC6.out.below hb7 HC6.out.lt)
    have hs7 : w.heap.size ≤ w7.heap.size := HB7.out.size
    clear hb7
    go_wp2_with fail
    refine (Bytes_ok x y z u _ HFX.out HOK.out).mono ?_
    rintro r w8 ⟨v8, rfl, ho8, hb8⟩
    rw [HBB.out] at ho8
    have HB8 := Lib.hid (nextB (HB7.out.alloc hs7 _) (Nat.le_refl _) hb8)
    have HC8 := Lib.hid ((HC7.out.alloc _).below hb8 (by have := HC7.out.lt; simp <;> omega))
    have HD8 := Lib.hid (show Row w8 w7.heap.size (wl x y z u) 35 from (Row.new (w := w7) rfl rfl).below hb8 (by simp))
    have hr1 := run_str w8 ho8.bs
    have hr2 := run_str w8 (HBb.out.below HB8.out)
    obtain ⟨A8, c8, rfl⟩ := ho8.shape
    have hsg := str_guard .neq (.inr rfl) (.tmp 33) (.tmp 35) b b w8
    have hsn := str_neq b w8
    obtain ⟨q0, q1, q2, q3⟩ := quad HC8.out
    have HD7 := HC7.out.lt
    clear hb8 ho8
    go_wp2_with fail
    by_cases hokc : Ok f t s l
    · have HKC := Lib.hid hokc
      have HRC := Lib.hid (rdW_own f t s l HF.out hokc)
      have HEl := Lib.hid (show (wenc f t s l).length ≤ 35184372088832 by
        unfold wenc
        rw [List.length_append, List.length_append, List.length_append]
        have h1 := enc_len HF.out.1
        have h2 := enc_len HF.out.2.1
        have h3 := enc_len HF.out.2.2.1
        have h4 := enc_len HF.out.2.2.2
        omega)
      clear hokc
      refine (Bytes_ok f t s l _ HF.out HKC.out).mono ?_
      rintro r w9 ⟨v9, rfl, ho9, hb9⟩
      have HB9 := Lib.hid (nextB HB8.out (Nat.le_refl _) hb9)
      have HC9 := Lib.hid (HC8.out.below hb9 HC8.out.lt)
      have HD9 := Lib.hid (HD8.out.below hb9 HD8.out.lt)
      have HO9 := Lib.hid ho9
      clear hb9 ho9
      go_wp2_with fail
      refine (Read_any _ (wenc f t s l) _ HO9.out.bs HEl.out).mono ?_
      rw [HRC.out]
      rintro r w10 ⟨rfl, hb10⟩
      have HB10 := Lib.hid (nextB HB9.out (Nat.le_refl _) hb10)
      have HC10 := Lib.hid (HC9.out.below hb10 HC9.out.lt)
      have HD10 := Lib.hid (HD9.out.below hb10 HD9.out.lt)
      have hDw : w.heap.size ≠ w7.heap.size := by omega
      clear hb10
      go_wp2_with (first
        | (refine wpList_storeRow (n := 4) rfl 35 _ _ rfl rfl rfl (cs := wl f t s l) (old := wl x y z u) HD10.out (by kernel_rfl) rfl rfl (wl_one _ _ _ _) ?_
           obtain ⟨V, hV⟩ : ∃ V, w10.setRow w7.heap.size (wl f t s l).toArray = V := ⟨_, rfl⟩
           refine wpList_world hV ?_
           have RC := Lib.hid (show Row V w.heap.size (wl f t s l) 35 by rw [← hV]; exact HC10.out.setOther _ _ hDw)
           have RD := Lib.hid (show Row V w7.heap.size (wl f t s l) 35 by rw [← hV]; exact HD10.out.setRow _)
           have HBV := Lib.hid (show Below w.heap.size w V by rw [← hV]; exact below_setRow HB10.out (by omega) _)
           obtain ⟨y0, y1, y2, y3⟩ := quad RC.out
           obtain ⟨y4, y5, y6, y7⟩ := quad RD.out
           have hsg' := eq_guard .eql (.inl rfl) (.tmp 57) (.tmp 58) f t s l f t s l V
           have hsn' := eq_same f t s l V
           clear hV)
        | fail)
      go_ret
      exact ⟨rfl, HBV.out⟩
    · have HKC := Lib.hid hokc
      clear hokc
      refine (Bytes_no f t s l _ HF.out HKC.out).mono ?_
      rintro r w9 ⟨rfl, hb9⟩
      have HB9 := Lib.hid (nextB HB8.out (Nat.le_refl _) hb9)
      have HC9 := Lib.hid (HC8.out.below hb9 HC8.out.lt)
      have hs9 : w.heap.size ≤ w9.heap.size := HB9.out.size
      obtain ⟨z0, z1, z2, z3⟩ := quad HC9.out
      clear hb9
      go_wp2_with fail
      refine (Check_no f t s l _ HF.out.1 HF.out.2.1 HF.out.2.2.1 HF.out.2.2.2 HKC.out).mono ?_
      rintro r w' ⟨rfl, rfl⟩
      go_wp2_with fail
      go_ret
      exact ⟨rfl, HB9.out.alloc hs9 _⟩
  · have hz := (rdW_cases b).resolve_left hrd
    rw [hz]
    clear hrd hz
    rintro r w7 ⟨rfl, hb7⟩
    have HB7 := Lib.hid (nextB HB6.out (Nat.le_refl _) hb7)
    have HC7 := Lib.hid (HC6.out.below hb7 HC6.out.lt)
    have HD7 := HC7.out.lt
    have hs7 : w.heap.size ≤ w7.heap.size := HB7.out.size
    obtain ⟨q0, q1, q2, q3⟩ := quadA HC7.out
    clear hb7
    go_wp2_with fail
    have HB8 := Lib.hid (HB7.out.alloc hs7 (.cells #[.int .u64 0, .int .u64 0, .int .u64 0, .int .u64 0] 35))
    have HC8 := Lib.hid (HC7.out.alloc (.cells #[.int .u64 0, .int .u64 0, .int .u64 0, .int .u64 0] 35))
    have HD8 := Lib.hid (show Row (w7.alloc (.cells #[.int .u64 0, .int .u64 0, .int .u64 0, .int .u64 0] 35)) w7.heap.size (wl 0 0 0 0) 35 from Row.new rfl rfl)
    by_cases hokc : Ok f t s l
    · have HKC := Lib.hid hokc
      have HRC := Lib.hid (rdW_own f t s l HF.out hokc)
      have HEl := Lib.hid (show (wenc f t s l).length ≤ 35184372088832 by
        unfold wenc
        rw [List.length_append, List.length_append, List.length_append]
        have h1 := enc_len HF.out.1
        have h2 := enc_len HF.out.2.1
        have h3 := enc_len HF.out.2.2.1
        have h4 := enc_len HF.out.2.2.2
        omega)
      clear hokc
      refine (Bytes_ok f t s l _ HF.out HKC.out).mono ?_
      rintro r w9 ⟨v9, rfl, ho9, hb9⟩
      have HB9 := Lib.hid (nextB HB8.out (Nat.le_refl _) hb9)
      have HC9 := Lib.hid (HC8.out.below hb9 HC8.out.lt)
      have HD9 := Lib.hid (HD8.out.below hb9 HD8.out.lt)
      have HO9 := Lib.hid ho9
      clear hb9 ho9
      go_wp2_with fail
      refine (Read_any _ (wenc f t s l) _ HO9.out.bs HEl.out).mono ?_
      rw [HRC.out]
      rintro r w10 ⟨rfl, hb10⟩
      have HB10 := Lib.hid (nextB HB9.out (Nat.le_refl _) hb10)
      have HC10 := Lib.hid (HC9.out.below hb10 HC9.out.lt)
      have HD10 := Lib.hid (HD9.out.below hb10 HD9.out.lt)
      have hDw : w.heap.size ≠ w7.heap.size := by omega
      clear hb10
      go_wp2_with (first
        | (refine wpList_storeRow (n := 4) rfl 35 _ _ rfl rfl rfl (cs := wl f t s l) (old := wl 0 0 0 0) HD10.out (by kernel_rfl) rfl rfl (wl_one _ _ _ _) ?_
           obtain ⟨V, hV⟩ : ∃ V, w10.setRow w7.heap.size (wl f t s l).toArray = V := ⟨_, rfl⟩
           refine wpList_world hV ?_
           have RC := Lib.hid (show Row V w.heap.size (wl f t s l) 35 by rw [← hV]; exact HC10.out.setOther _ _ hDw)
           have RD := Lib.hid (show Row V w7.heap.size (wl f t s l) 35 by rw [← hV]; exact HD10.out.setRow _)
           have HBV := Lib.hid (show Below w.heap.size w V by rw [← hV]; exact below_setRow HB10.out (by omega) _)
           obtain ⟨y0, y1, y2, y3⟩ := quad RC.out
           obtain ⟨y4, y5, y6, y7⟩ := quad RD.out
           have hsg' := eq_guard .eql (.inl rfl) (.tmp 57) (.tmp 58) f t s l f t s l V
           have hsn' := eq_same f t s l V
           clear hV)
        | fail)
      go_ret
      exact ⟨rfl, HBV.out⟩
    · have HKC := Lib.hid hokc
      clear hokc
      refine (Bytes_no f t s l _ HF.out HKC.out).mono ?_
      rintro r w9 ⟨rfl, hb9⟩
      have HB9 := Lib.hid (nextB HB8.out (Nat.le_refl _) hb9)
      have HC9 := Lib.hid (HC8.out.below hb9 HC8.out.lt)
      have hs9 : w.heap.size ≤ w9.heap.size := HB9.out.size
      obtain ⟨z0, z1, z2, z3⟩ := quad HC9.out
      clear hb9
      go_wp2_with fail
      refine (Check_no f t s l _ HF.out.1 HF.out.2.1 HF.out.2.2.1 HF.out.2.2.2 HKC.out).mono ?_
      rintro r w' ⟨rfl, rfl⟩
      go_wp2_with fail
      go_ret
      exact ⟨rfl, HB9.out.alloc hs9 _⟩

set_option maxRecDepth 100000 in
theorem lift (os : Os) (started : os.Started) (H : Type) (enc : TypeId × Value → H) :
    ReturnsInHanded {} Try.checked os 7 .any (Rows.windowBackSpec.pre6 enc Try.prog Try.f7 Rows.windowBackRow.domain false) (Rows.windowBackSpec.post enc Try.prog Try.f7 false true false false) := by
  refine Law.lifted (C := Try.checked) 4 own started (by kernel_rfl) Try.func7 laid (by kernel_rfl) rfl Try.underlying4 rfl
    (fun ds hd => by
      have hd' : ds.length = 2 := hd
      match ds, hd' with
      | [d0, d1], _ => rfl)
    (ChangeSpec.witness6 (enc := enc) (C := Try.checked) false ⟨#[], #[.agg #[.int .u64 0, .int .u64 0, .int .u64 0, .int .u64 0], .slice none 0 0], []⟩ 8 (by kernel_rfl) (by kernel_rfl) (by kernel_rfl) (by kernel_rfl)) ?_
  intro W args ds ps hst
  have hA : DataW.TrodAll enc Try.prog W 0 (fun _ => true) true Try.f7.params.toList args.toList ds ps := hst.trod
  have hok := hst.okw
  have hlt := hst.lt
  rw [Try.params7] at hA hok
  obtain ⟨v0, v1, d0, d1, p0, p1, rfl, rfl, rfl, h0, h1⟩ := trodAll_two hA
  obtain ⟨_, hv0⟩ := hok 0 35 v0 rfl rfl
  obtain ⟨_, hv1⟩ := hok 1 27 v1 rfl rfl
  obtain ⟨f, t, s, l, rfl, hf, ht, hs, hl⟩ := quad64_at Try.underlying35 (by kernel_rfl) (by kernel_rfl) Try.underlying24 hv0
  obtain ⟨b, hb, _⟩ := Law.bytes_at Try.underlying27 hv1 h1 (fun x hx => hlt x (by simp [hx]))
  have hb0 := hb
  obtain ⟨A, c, rfl, _, _⟩ := hb0
  by_cases h100 : b.length ≤ 100
  · exact walk f t s l A c b W hb h100 ⟨hf, ht, hs, hl⟩
  · exact long f t s l A c b.length W (by omega)

theorem over : Rows.windowBackRow.holds Try.pinned (OpenSpec.ofChange Rows.windowBackSpec) :=
  OpenClaim.holds_of_wide 7 Try.f7 rfl rfl rfl rfl rfl rfl rfl ⟨rfl, rfl, rfl, rfl, rfl⟩ rfl rfl rfl rfl rfl (by kernel_rfl) Try.func7 (by kernel_rfl)
    (of_decide_eq_true (by kernel_rfl)) (by unfold Func.isWrapper; first | (rw [if_pos (by decide +kernel)]; kernel_rfl) | (rw [if_neg (by decide +kernel)]; exact ⟨rfl, rfl⟩))
    (fun os started H enc _ => lift os started H enc)
theorem proved : Rows.WindowBackSaid := over
#print axioms proved
end Go.Proofs.Ytnpmlbpnlflkkaa.windowBack

