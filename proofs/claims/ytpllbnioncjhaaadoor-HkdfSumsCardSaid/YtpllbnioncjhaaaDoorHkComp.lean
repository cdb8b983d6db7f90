/- A state behind a block. -/
import Derived.Test.YtpllbnioncjhaaaDoorHkSched
namespace Go.Proofs.YtpllbnioncjhaaaDoor
open Go.RowKit
namespace Sha
/-- The first i words of t added to those of s. -/
def upd (s t : List Wd) : Nat → List Wd
  | 0 => s
  | i + 1 => (upd s t i).set i (at_ (upd s t i) i + at_ t i)
theorem upd_length (s t : List Wd) (i : Nat) : (upd s t i).length = s.length := by
  induction i with
  | zero => rfl
  | succ i ih => rw [upd, List.length_set, ih]
theorem upd_all : ∀ (s t : List Wd), s.length = 8 → t.length = 8 → upd s t 8 = List.zipWith (· + ·) s t
  | [_, _, _, _, _, _, _, _], [_, _, _, _, _, _, _, _], _, _ => rfl
theorem toList_length (s : St) : s.toList.length = 8 := rfl
end Sha
theorem S1_is (x : BitVec 32) : bits .xor .u32 (bits .xor .u32 ((Sha.rotr x 6).toNat : Int) ((Sha.rotr x 11).toNat : Int)) ((Sha.rotr x 25).toNat : Int) = ((Sha.S1 x).toNat : Int) := by
  rw [w_xor, w_xor]; rfl
theorem S0_is (x : BitVec 32) : bits .xor .u32 (bits .xor .u32 ((Sha.rotr x 2).toNat : Int) ((Sha.rotr x 13).toNat : Int)) ((Sha.rotr x 22).toNat : Int) = ((Sha.S0 x).toNat : Int) := by
  rw [w_xor, w_xor]; rfl
theorem maj_is (a b c : BitVec 32) : bits .xor .u32 (bits .xor .u32 (bits .and .u32 (a.toNat : Int) (b.toNat : Int)) (bits .and .u32 (a.toNat : Int) (c.toNat : Int))) (bits .and .u32 (b.toNat : Int) (c.toNat : Int)) = ((a &&& b ^^^ a &&& c ^^^ b &&& c).toNat : Int) := by
  rw [w_and, w_and, w_and, w_xor, w_xor]

theorem not_is (x : BitVec 32) : bits .xor .u32 (if IntKind.u32.signed = true then -1 else IntKind.u32.max) (x.toNat : Int) = ((~~~ x).toNat : Int) := by
  have h := w_xor (BitVec.allOnes 32) x
  rw [BitVec.allOnes_xor] at h
  exact h
theorem tOf_is (t : Sha.St) (k w : BitVec 32) : (((t.h.toNat : Int) + ((Sha.S1 t.e).toNat : Int) + bits .xor .u32 (bits .and .u32 (t.e.toNat : Int) (t.f.toNat : Int)) (bits .and .u32 (bits .xor .u32 (if IntKind.u32.signed = true then -1 else IntKind.u32.max) (t.e.toNat : Int)) (t.g.toNat : Int)) + (k.toNat : Int)) % 4294967296 + (w.toNat : Int)) % 4294967296 = ((Sha.tOf t k w).toNat : Int) := by
  rw [not_is, w_and, w_and, w_xor, sum4_is, w_add]
  rfl
theorem uOf_is (t : Sha.St) : (((Sha.S0 t.a).toNat : Int) + bits .xor .u32 (bits .xor .u32 (bits .and .u32 (t.a.toNat : Int) (t.b.toNat : Int)) (bits .and .u32 (t.a.toNat : Int) (t.c.toNat : Int))) (bits .and .u32 (t.b.toNat : Int) (t.c.toNat : Int))) % 4294967296 = ((Sha.uOf t).toNat : Int) := by
  rw [maj_is, w_add]
  rfl
theorem rnd_eq {ws : List (BitVec 32)} {s : Sha.St} {i : Nat} {t : Sha.St} (h : Sha.rnds ws s i = t) : Sha.rnds ws s (i + 1) = Sha.rnd t (Sha.at_ Sha.K i) (Sha.at_ ws i) := by rw [Sha.rnds, h]

set_option maxRecDepth 8000 in
set_option maxHeartbeats 4000000 in
theorem Comp_any (s m : List (BitVec 32)) (hs : s.length = 8) (hm : m.length = 16) (w : World) (ht : Tab w) : Calls Tryd.prog 34 #[arr32 s, arr32 m] w fun e w' => e = .returned (arr32 (Sha.comp s m)) ∧ Below w.heap.size w w' := by
  have Hm := Lib.hid hm
  have Hs := Lib.hid hs
  have Ht := Lib.hid ht
  have Hml := Lib.hid (show (m.map wv).length = 16 by simpa using hm)
  have Hsl := Lib.hid (show (s.map wv).length = 8 by simpa using hs)
  clear hm hs ht
  unfold arr32
  go_enter Tryd.func34, Tryd.ntmps34
  go_wp2_with (first
    | (refine wpList_loadRow rfl 57 _ rfl rfl ((Row.new (by simp) rfl).alloc _) Tryd.underlying57 rfl (by kernel_rfl) Hml.out ?_)
    | fail)
  obtain ⟨W, hW⟩ : ∃ W, ((w.alloc (.cells (s.map wv).toArray 56)).alloc (.cells (m.map wv).toArray 57)).alloc (.cells ((List.replicate 8 0#32).map wv).toArray 56) = W := ⟨_, rfl⟩
  have hr0 : Row W w.heap.size (s.map wv) 56 := hW ▸ ((Row.new rfl rfl).alloc _).alloc _
  have hr2 : Row W (w.heap.size + 1 + 1) ((List.replicate 8 0#32).map wv) 56 := hW ▸ Row.new (by simp) rfl
  have hb : Below w.heap.size w W := hW ▸ (((Below.refl _ w).alloc (Nat.le_refl _) _).alloc (by simp) _).alloc (by simp; omega) _
  have Hr0 := Lib.hid hr0
  have Hr2 := Lib.hid hr2
  have Hb := Lib.hid hb
  clear hr0 hr2 hb
  refine (Sched_any m Hm.out _).mono ?_
  rintro e w2 ⟨rfl, hb2⟩
  have hb2' : Below W.heap.size W w2 := by rw [← hW]; exact hb2
  clear hb2 hW
  have hlW : w.heap.size + 1 + 1 < W.heap.size := Hr2.out.lt
  have Hr0 := Lib.hid (Hr0.out.below hb2' (by omega))
  have Hr2 := Lib.hid (Hr2.out.below hb2' (by omega))
  have Hb := Lib.hid (nextB Hb.out (by omega) hb2')
  have hl2 : w.heap.size + 1 + 1 < w2.heap.size := Hr2.out.lt
  clear hb2' hlW
  obtain ⟨ws, hws⟩ : ∃ ws, Sha.sched m 48 = ws := ⟨_, rfl⟩
  have hwl : ws.length = 64 := by rw [← hws, Sha.sched_length, Hm.out]
  rw [hws]
  have Hws := Lib.hid hws
  have Hwl := Lib.hid hwl
  have Hwml := Lib.hid (show (ws.map wv).length = 64 by rw [List.length_map]; exact hwl)
  clear hws hwl
  unfold arr32
  go_wp2_with (first
    | (refine wpList_storeRow rfl 78 _ _ rfl rfl rfl (old := (List.replicate 64 0#32).map wv) (Row.new rfl rfl) (by kernel_rfl) Hwml.out (by simp) (words_one ws) ?_)
    | fail)
  have hr0 := (Hr0.out.alloc (.cells ((List.replicate 64 0#32).map wv).toArray 78)).setOther w2.heap.size (ws.map wv).toArray (by omega)
  have hr2 := (Hr2.out.alloc (.cells ((List.replicate 64 0#32).map wv).toArray 78)).setOther w2.heap.size (ws.map wv).toArray (by omega)
  have hr5 : Row ((w2.alloc (.cells ((List.replicate 64 0#32).map wv).toArray 78)).setRow w2.heap.size (ws.map wv).toArray) w2.heap.size (ws.map wv) 78 := (Row.new (cs := (List.replicate 64 0#32).map wv) rfl rfl).setRow (ws.map wv)
  have hb5 := below_setRow (Hb.out.alloc (by omega) (.cells ((List.replicate 64 0#32).map wv).toArray 78)) (show w.heap.size ≤ w2.heap.size by omega) (ws.map wv).toArray
  obtain ⟨V, hV⟩ : ∃ V, (w2.alloc (.cells ((List.replicate 64 0#32).map wv).toArray 78)).setRow w2.heap.size (ws.map wv).toArray = V := ⟨_, rfl⟩
  refine code_world hV ?_
  rw [hV] at hr0 hr2 hr5 hb5
  obtain ⟨g, hg⟩ : ∃ g, w2.heap.size = g := ⟨_, rfl⟩
  rw [hg] at hr5 hl2 ⊢
  have Hg := Lib.hid hl2
  have Hr0 := Lib.hid hr0
  have Hr2 := Lib.hid hr2
  have Hr5 := Lib.hid hr5
  have Hb := Lib.hid hb5
  clear hV hr0 hr2 hr5 hb5 hg hl2
  have hc0 := Hr0.out.cell (getD_word s 0 (by rw [Hs.out]; omega))
  have hc1 := Hr0.out.cell (getD_word s 1 (by rw [Hs.out]; omega))
  have hc2 := Hr0.out.cell (getD_word s 2 (by rw [Hs.out]; omega))
  have hc3 := Hr0.out.cell (getD_word s 3 (by rw [Hs.out]; omega))
  have hc4 := Hr0.out.cell (getD_word s 4 (by rw [Hs.out]; omega))
  have hc5 := Hr0.out.cell (getD_word s 5 (by rw [Hs.out]; omega))
  have hc6 := Hr0.out.cell (getD_word s 6 (by rw [Hs.out]; omega))
  have hc7 := Hr0.out.cell (getD_word s 7 (by rw [Hs.out]; omega))
  go_quiet (fail)
  obtain ⟨V2, hV2⟩ : ∃ V2, V.drewN nq = V2 := ⟨_, rfl⟩
  have Hr0 := Lib.hid (Hr0.out.drewN nq)
  have Hr2 := Lib.hid (Hr2.out.drewN nq)
  have Hr5 := Lib.hid (Hr5.out.drewN nq)
  have Hb := Lib.hid (below_drewN Hb.out nq)
  rw [hV2] at Hr0 Hr2 Hr5 Hb
  rw [hV2]
  clear hV2 hc0 hc1 hc2 hc3 hc4 hc5 hc6 hc7
  go_wp2_with fail
  go_loopw [37, 6, 7, 8, 9, 10, 11, 12, 13] (fun iv a b c d e f g' h wr => ∃ (i : Nat) (t : Sha.St), i ≤ 64 ∧ iv = .int .i64 (i : Int) ∧ Sha.rnds ws (Sha.ofList s) i = t ∧ a = wv t.a ∧ b = wv t.b ∧ c = wv t.c ∧ d = wv t.d ∧ e = wv t.e ∧ f = wv t.f ∧ g' = wv t.g ∧ h = wv t.h ∧
    Row wr w.heap.size (s.map wv) 56 ∧ Row wr (w.heap.size + 1 + 1) ((List.replicate 8 0#32).map wv) 56 ∧ Row wr g (ws.map wv) 78 ∧ Below w.heap.size w wr) (fun iv _ _ _ _ _ _ _ _ _ => 64 - (intOf iv).toNat)
  case atStart => exact ⟨0, Sha.ofList s, by omega, rfl, rfl, rfl, rfl, rfl, rfl, rfl, rfl, rfl, rfl, Hr0.out, Hr2.out, Hr5.out, Hb.out⟩
  case round =>
    obtain ⟨i, t, hi, rfl, ht, rfl, rfl, rfl, rfl, rfl, rfl, rfl, rfl, hr0, hr2, hr5, hb⟩ := hrel
    have Hr0 := Lib.hid hr0
    have Hr2 := Lib.hid hr2
    have Hr5 := Lib.hid hr5
    have Hb := Lib.hid hb
    have HT := Lib.hid ht
    clear hr0 hr2 hr5 hb ht
    by_cases h64 : i < 64
    · have h64' : (i : Int) < 64 := by omega
      have hk := (Ht.out.below Hb.out Ht.out.1).2 i h64
      have hw := Hr5.out.cell (getD_word ws i (by rw [Hwl.out]; omega))
      have hS1 := S1_is t.e
      go_wp2_with fail
      go_quiet ((go_at_call 54; exact quiet_same fun W hW => right_any _ _ (by decide) W))
      rw [tOf_is]
      obtain ⟨V3, hV3⟩ : ∃ V3, wr.drewN nq = V3 := ⟨_, rfl⟩
      have Hr0 := Lib.hid (Hr0.out.drewN nq)
      have Hr2 := Lib.hid (Hr2.out.drewN nq)
      have Hr5 := Lib.hid (Hr5.out.drewN nq)
      have Hb := Lib.hid (below_drewN Hb.out nq)
      rw [hV3] at Hr0 Hr2 Hr5 Hb
      rw [hV3]
      clear hV3 hk hw hS1
      have hS0 := S0_is t.a
      have hu := uOf_is t
      obtain ⟨T, hT⟩ : ∃ T, Sha.tOf t (Sha.at_ Sha.K i) (Sha.at_ ws i) = T := ⟨_, rfl⟩
      obtain ⟨U, hU⟩ : ∃ U, Sha.uOf t = U := ⟨_, rfl⟩
      rw [hT]
      rw [hU] at hu
      have HTT := Lib.hid hT
      have HUU := Lib.hid hU
      clear hT hU
      go_wp2_with (first
        | (go_at_call 54; refine (right_any _ _ (by decide) _).mono ?_; rintro e w' ⟨rfl, rfl⟩)
        | fail)
      go_roundw
      case rel =>
        refine ⟨i + 1, _, h64, by simp, rnd_eq HT.out, ?_, rfl, rfl, rfl, ?_, rfl, rfl, rfl, Hr0.out, Hr2.out, Hr5.out, Hb.out⟩
        · rw [Sha.rnd, HTT.out, HUU.out]
          exact congrArg (Value.int .u32) (w_add T U)
        · rw [Sha.rnd, HTT.out]
          exact congrArg (Value.int .u32) (w_add t.d T)
      case measure => simp [intOf]; omega
    · have h64' : ¬ (i : Int) < 64 := by omega
      have : i = 64 := by omega
      subst this
      obtain ⟨B, hB⟩ : ∃ B, Sha.comp s m = B := ⟨_, rfl⟩
      have hB2 : Sha.upd s t.toList 8 = B := by rw [← hB, Sha.upd_all _ _ Hs.out rfl, Sha.comp, Hws.out, HT.out]
      have hBl : B.length = 8 := by rw [← hB]; exact Sha.comp_length _ _ Hs.out
      have HB := Lib.hid hB
      have HB2 := Lib.hid hB2
      have HBl := Lib.hid hBl
      clear hB hB2 hBl
      go_wp2_with fail
      go_loopw [109] (fun iv wq => ∃ i : Nat, i ≤ 8 ∧ iv = .int .i64 (i : Int) ∧ Row wq w.heap.size ((Sha.upd s t.toList i).map wv) 56 ∧ Row wq (w.heap.size + 1 + 1) ((List.replicate 8 0#32).map wv) 56 ∧ Below w.heap.size w wq) (fun iv _ => 8 - (intOf iv).toNat)
      case atStart => exact ⟨0, by omega, rfl, Hr0.out, Hr2.out, Hb.out⟩
      case round =>
        obtain ⟨i, hi, rfl, hr0, hr2, hb⟩ := hrel
        have Hr0 := Lib.hid hr0
        have Hr2 := Lib.hid hr2
        have Hb := Lib.hid hb
        have Hl := Lib.hid (show (Sha.upd s t.toList i).length = 8 by rw [Sha.upd_length, Hs.out])
        clear hr0 hr2 hb
        by_cases h8 : i < 8
        · have h8' : (i : Int) < 8 := by omega
          have hix : (Instr.index 56 (.agg #[wv t.a, wv t.b, wv t.c, wv t.d, wv t.e, wv t.f, wv t.g, wv t.h]) (.int .i64 (i : Int))).run Tryd.prog wr = .ok (wv (Sha.at_ t.toList i)) wr :=
            run_index_one (cs := t.toList.map wv) wr Tryd.underlying56 Tryd.underlying39 rfl (by kernel_rfl) h8 (getD_word t.toList i h8)
          have hcell := Hr0.out.cell (getD_word (Sha.upd s t.toList i) i (by rw [Hl.out]; exact h8))
          have hfr := frozen_row Hr0.out i
          go_wp2
          rw [w_add]
          go_roundw
          case rel =>
            refine ⟨i + 1, h8, by simp, ?_, Hr2.out.other _ _ (by dsimp only; omega), Hb.out.setCell (by dsimp only; omega) _⟩
            have := Hr0.out.set i (wv (Sha.at_ (Sha.upd s t.toList i) i + Sha.at_ t.toList i))
            rw [← List.map_set] at this
            exact this
          case measure => simp [intOf]; omega
        · have h8' : ¬ (i : Int) < 8 := by omega
          have : i = 8 := by omega
          subst this
          have hr0 := Hr0.out
          rw [HB2.out] at hr0
          have Hr0 := Lib.hid hr0
          have Hml := Lib.hid (show (B.map wv).length = 8 by rw [List.length_map]; exact HBl.out)
          clear hr0
          go_wp2_with (first
            | (refine wpList_loadRow rfl 56 _ rfl rfl Hr0.out Tryd.underlying56 rfl (by kernel_rfl) Hml.out ?_)
            | (refine wpList_storeRow rfl 56 _ _ rfl rfl rfl Hr2.out (by kernel_rfl) Hml.out (by simp) (words_one B) ?_))
          refine bodyPost_ret (results_row rfl _ rfl (Hr2.out.setRow (B.map wv)) Tryd.underlying56 rfl (by kernel_rfl) Hml.out) rfl ?_
          exact ⟨by rw [HB.out], below_setRow Hb.out (by omega) _⟩
end Go.Proofs.YtpllbnioncjhaaaDoor
