/- A quarter round and a round are invertible, so that different states remain different: 'drawbridgelaw02.ChachaTurns', for every argument. -/
import Derived.Test.YtpllbnioncjhaaaChaTurnStage
import Derived.Test.YtpllbnioncjhaaaByC
import Derived.Test.YtpllbnioncjhaaaByD
import Derived.Test.YtpllbnioncjhaaaChaState
import Derived.Test.YtpllbnioncjhaaaChaLives
import Derived.Test.YtpllbnioncjhaaaChaRound
import Derived.Test.YtpllbnioncjhaaaEqArr
import Derived.Test.YtpllbnioncjhaaaTail
import Derived.Test.YtpllbnioncjhaaaLaw
import Derived.Deep.QuietTactic
import Derived.BigQuiet
import Derived.RegionTactic
import Derived.Deep.RegionWith
namespace Go.Proofs.Ytpllbnioncjhaaa.chachaTurns
open Go.ChangeShapes Go.WideShapes Go.ChangeAt Go.RowKit
open Cha (own mixed laid)

def tabL : List Value := [3, 4, 9, 14, 2, 7, 8, 13, 1, 6, 11, 12, 0, 5, 10, 15, 3, 7, 11, 15, 2, 6, 10, 14, 1, 5, 9, 13, 0, 4, 8, 12].map fun n : Nat => .int .i64 (n : Int)
theorem wpList_build {P : Program} {w : World} {ops : Array Oper} {rest : List Oper} {o : Oper} {a : Act} {Q : Exit → Act → World → Prop} (hgd : o.guard = none) (t : TypeId) (parts : Array (Nat × Operand)) (ho : o.op = .build t parts) {v : Value}
    (hrun : (Instr.build t (parts.map fun (i, x) => (i, a.eval x))).run P w = .ok v w) (hk : wpList P ops Q rest (a.put o.dst v) w) : wpList P ops Q (o :: rest) a w := by
  refine wpList_plain hgd fun K hK => ?_
  unfold Oper.wp execOp
  simp only [ho, Sem.run_bind, Sem.run_pure, Result.andThen_ok, hrun]
  exact hK _ _ hk
theorem tab_one : ∀ v ∈ tabL, v.oneCell' = true := by
  intro v hv
  unfold tabL at hv
  obtain ⟨n, _, rfl⟩ := List.mem_map.1 hv
  rfl
theorem wv_one (s : List (BitVec 32)) : ∀ v ∈ s.map wv, v.oneCell' = true := by
  intro v hv
  obtain ⟨n, _, rfl⟩ := List.mem_map.1 hv
  rfl
abbrev z16 : List Value := List.replicate 16 (.int .u32 0)
abbrev z32 : List Value := List.replicate 32 (.int .i64 0)
theorem wpList_nm {P : Program} {ops : Array Oper} {l : List Oper} {a : Act} {w : World} {Q : Exit → Act → World → Prop} (h : ∀ W, w = W → wpList P ops Q l a W) : wpList P ops Q l a w := h w rfl
def LStop (p : Prop) : Prop := p
theorem lstop {p : Prop} (h : LStop p) : p := h
/-- A row of sixteen noughts that was made here. -/
def newM (lo : Nat) : By.Mark Grew := ⟨fun v w => ∃ g, v = .pointer (some ⟨g, 0, none⟩) ∧ g < w.heap.size ∧ lo ≤ g ∧ Row w g z16 23, fun _ _ _ ⟨g, h1, h2, h3, h4⟩ h => ⟨g, h1, Nat.lt_of_lt_of_le h2 h.size, h3, h4.below h h2⟩⟩
theorem new_at (w : World) {lo : Nat} (h : lo ≤ w.heap.size) : (newM lo).on (.pointer (some ⟨w.heap.size, 0, none⟩)) (w.alloc (.cells z16.toArray 23)) := ⟨_, rfl, by simp, h, Row.new rfl rfl⟩
theorem new_ne {w : World} {lo : Nat} {x : Value} (h : (newM lo).on x w) : (Value.pointer (some ⟨w.heap.size, 0, none⟩)) ≠ x := by
  obtain ⟨g, rfl, hlt, _⟩ := h
  intro e
  simp only [Value.pointer.injEq, Option.some.injEq, Addr.mk.injEq] at e
  omega
theorem eqW (x y : List (BitVec 32)) (hx : x.length = 16) (hy : y.length = 16) (w : World) : (Op.equal 23 (arr32 x) (arr32 y)).run Try.prog w = .ok (decide (x = y)) w :=
  run_eql_arr32 (P := Try.prog) Try.underlying23 Try.underlying22 (by kernel_rfl) x y hx hy w
theorem eqK (x y : List UInt8) (hx : x.length = 32) (hy : y.length = 32) (w : World) : (Op.equal 24 (arr8 x) (arr8 y)).run Try.prog w = .ok (decide (x = y)) w :=
  run_eql_arr8 (P := Try.prog) Try.underlying24 Try.underlying5 (by kernel_rfl) x y hx hy w
theorem wp_neqArr {P : Program} {o : Oper} {a : Act} {w : World} {K : Act → World → Prop} {Q : Exit → Act → World → Prop} {t t2 : TypeId} {xs ys : Array Value} {r : Bool} (x y : Operand) (ho : o.op = .binOp .neq t x y t2) (hg : P.eqGuardType P.depth t = false)
    (hx : a.eval x = .agg xs) (hy : a.eval y = .agg ys) (h : (Op.equal t (.agg xs) (.agg ys)).run P w = .ok r w) (hk : K (a.put o.dst (.bool (!r))) w) : o.wp P a w K Q := by
  have hr := run_eqArr (P := P) .neq true (.inr ⟨rfl, rfl⟩) (x := x) (y := y) w hg h
  rw [Bool.xor_true] at hr
  unfold Oper.wp execOp
  simp only [ho, hx, hy]
  rw [Sem.run_bind, hr]
  exact hk
theorem tab_at (i : Nat) (hi : i < 8) : ∃ p q r o : Nat, Cha.table[7 - i]? = some (p, q, r, o) ∧ Cha.Four p q r o ∧ tabL[i * 4]? = some (.int .i64 (p : Int)) ∧ tabL[i * 4 + 1]? = some (.int .i64 (q : Int)) ∧ tabL[i * 4 + 2]? = some (.int .i64 (r : Int)) ∧ tabL[i * 4 + 3]? = some (.int .i64 (o : Int)) := by
  match i, hi with
  | 0, _ => exact ⟨3, 4, 9, 14, rfl, ⟨by decide, by decide, by decide, by decide, by decide⟩, rfl, rfl, rfl, rfl⟩
  | 1, _ => exact ⟨2, 7, 8, 13, rfl, ⟨by decide, by decide, by decide, by decide, by decide⟩, rfl, rfl, rfl, rfl⟩
  | 2, _ => exact ⟨1, 6, 11, 12, rfl, ⟨by decide, by decide, by decide, by decide, by decide⟩, rfl, rfl, rfl, rfl⟩
  | 3, _ => exact ⟨0, 5, 10, 15, rfl, ⟨by decide, by decide, by decide, by decide, by decide⟩, rfl, rfl, rfl, rfl⟩
  | 4, _ => exact ⟨3, 7, 11, 15, rfl, ⟨by decide, by decide, by decide, by decide, by decide⟩, rfl, rfl, rfl, rfl⟩
  | 5, _ => exact ⟨2, 6, 10, 14, rfl, ⟨by decide, by decide, by decide, by decide, by decide⟩, rfl, rfl, rfl, rfl⟩
  | 6, _ => exact ⟨1, 5, 9, 13, rfl, ⟨by decide, by decide, by decide, by decide, by decide⟩, rfl, rfl, rfl, rfl⟩
  | 7, _ => exact ⟨0, 4, 8, 12, rfl, ⟨by decide, by decide, by decide, by decide, by decide⟩, rfl, rfl, rfl, rfl⟩
theorem back_step (w : List (BitVec 32)) (i : Nat) (e : Nat × Nat × Nat × Nat) (hi : i < 8) (he : Cha.table[7 - i]? = some e) : Cha.back w i = Cha.qr (Cha.back w (i + 1)) e := by
  unfold Cha.back
  rw [show 8 - i = (7 - i) + 1 by omega, List.take_add_one, he, List.foldl_append]
  rw [show 8 - (i + 1) = 7 - i by omega]
  rfl

set_option maxRecDepth 8000 in
set_option maxHeartbeats 40000000 in
theorem walk (s0 : List (BitVec 32)) (hs0 : s0.length = 16) (k l nn : List UInt8) (hk : k.length = 32) (hl : l.length = 32) (hn : nn.length = 12) (c : BitVec 32) (w : World) :
    Calls Try.prog 3 #[arr32 s0, arr8 k, arr8 l, wv c, arr8 nn] w fun e w' => e = .returned (.bool true) ∧ Below w.heap.size w w' := by
  have HS0 := Lib.hid hs0
  have HSm := Lib.hid (show (s0.map wv).length = 16 by rw [List.length_map]; exact hs0)
  have HK := Lib.hid hk
  have HL := Lib.hid hl
  have HN := Lib.hid hn
  have HKm := Lib.hid (show (k.map bv).length = 32 by rw [List.length_map]; exact hk)
  have HLm := Lib.hid (show (l.map bv).length = 32 by rw [List.length_map]; exact hl)
  have HNm := Lib.hid (show (nn.map bv).length = 12 by rw [List.length_map]; exact hn)
  obtain ⟨q0, q1, q2, q3, hq⟩ : ∃ a b c d, Cha.at_ s0 0 = a ∧ Cha.at_ s0 1 = b ∧ Cha.at_ s0 2 = c ∧ Cha.at_ s0 3 = d := ⟨_, _, _, _, rfl, rfl, rfl, rfl⟩
  have HQ := Lib.hid hq
  clear hs0 hk hl hn hq
  unfold arr32 arr8
  go_enter Try.func3, Try.ntmps3
  go_wp2_with fail
  refine (Cha.lives_any _).mono ?_
  rintro r w1 ⟨rfl, hb1⟩
  have hb0 : Below w.heap.size w ((((w.alloc (.cells (s0.map wv).toArray 23)).alloc (.cells (k.map bv).toArray 24)).alloc (.cells (l.map bv).toArray 24)).alloc (.cells (nn.map bv).toArray 25)) := (((((Below.refl w.heap.size w).alloc (Nat.le_refl _) _).alloc (by simp) _).alloc (by simp; omega) _).alloc (by simp; omega) _)
  have HB1 := Lib.hid (nextB hb0 (Nat.le_refl _) hb1)
  have RS := Lib.hid (show Row w1 w.heap.size (s0.map wv) 23 from ((((Row.new rfl rfl).alloc _).alloc _).alloc _).below hb1 (by simp <;> omega))
  have RK := Lib.hid (show Row w1 (w.heap.size + 1) (k.map bv) 24 from (((Row.new (by simp) rfl).alloc _).alloc _).below hb1 (by simp <;> omega))
  have RL := Lib.hid (show Row w1 (w.heap.size + 1 + 1) (l.map bv) 24 from ((Row.new (by simp) rfl).alloc _).below hb1 (by simp <;> omega))
  have RN := Lib.hid (show Row w1 (w.heap.size + 1 + 1 + 1) (nn.map bv) 25 from (Row.new (by simp) rfl).below hb1 (by simp <;> omega))
  clear hb1 hb0
  have c0 : w1.cell? ⟨w.heap.size, 0, none⟩ = some (wv q0) := by rw [← HQ.out.1]; exact RS.out.cell (getD_word s0 0 (by rw [HS0.out]; omega))
  have c1 : w1.cell? ⟨w.heap.size, 1, none⟩ = some (wv q1) := by rw [← HQ.out.2.1]; exact RS.out.cell (getD_word s0 1 (by rw [HS0.out]; omega))
  have c2 : w1.cell? ⟨w.heap.size, 2, none⟩ = some (wv q2) := by rw [← HQ.out.2.2.1]; exact RS.out.cell (getD_word s0 2 (by rw [HS0.out]; omega))
  have c3 : w1.cell? ⟨w.heap.size, 3, none⟩ = some (wv q3) := by rw [← HQ.out.2.2.2]; exact RS.out.cell (getD_word s0 3 (by rw [HS0.out]; omega))
  go_wp2_with fail
  refine (Quarter_any ⟨q0, q1, q2, q3⟩ _).mono ?_
  obtain ⟨qa, qb, qc, qd, hQ⟩ : ∃ a b c d, Cha.quarter ⟨q0, q1, q2, q3⟩ = ⟨a, b, c, d⟩ := ⟨_, _, _, _, rfl⟩
  have HQU := Lib.hid (show Cha.undo ⟨qa, qb, qc, qd⟩ = ⟨q0, q1, q2, q3⟩ by rw [← hQ, Cha.undo_quarter])
  rw [hQ]
  clear hQ
  rintro r w' ⟨rfl, rfl⟩
  unfold qv
  go_wp2_with fail
  refine (Undo_any ⟨qa, qb, qc, qd⟩ _).mono ?_
  rw [HQU.out]
  rintro r w' ⟨rfl, rfl⟩
  unfold qv
  go_wp2_with (first
    | (refine wpList_loadRow rfl 23 _ rfl rfl RS.out Try.underlying23 rfl (by kernel_rfl) HSm.out ?_)
    | fail)
  refine (Round_any s0 HS0.out _).mono ?_
  rintro r w2 ⟨rfl, hb2⟩
  have HB2 := Lib.hid (nextB HB1.out (Nat.le_refl _) hb2)
  have RS2 := Lib.hid (RS.out.below hb2 RS.out.lt)
  have RK2 := Lib.hid (RK.out.below hb2 RK.out.lt)
  have RL2 := Lib.hid (RL.out.below hb2 RL.out.lt)
  have RN2 := Lib.hid (RN.out.below hb2 RN.out.lt)
  clear hb2 c0 c1 c2 c3
  have HRl := Lib.hid (show ((Cha.round s0).map wv).length = 16 by rw [List.length_map, Cha.round_length]; exact HS0.out)
  have HRo := Lib.hid (wv_one (Cha.round s0))
  unfold arr32
  obtain ⟨R, hR⟩ : ∃ R, (Cha.round s0).map wv = R := ⟨_, rfl⟩
  rw [hR] at HRl HRo
  have HRR := Lib.hid hR
  rw [hR]
  clear hR
  go_wp2_with (first
    | (show wpList _ _ _ (⟨none, .store 23 (.tmp 15) _, _, _, _, _⟩ :: _) _ _
       try simp only [Act.put, List.setIfInBounds_toArray, List.set_cons_succ, List.set_cons_zero]
       go_loud (
       refine wpList_storeRow (n := 16) rfl 23 (.tmp 15) (.tmp 73) rfl rfl rfl (cs := R) (old := z16) (g := w2.heap.size) (t := 23) ?_ (by kernel_rfl) HRl.out rfl HRo.out ?_
       · exact Row.new rfl rfl
       obtain ⟨W3, hW3⟩ : ∃ W3, (w2.alloc (.cells z16.toArray 23)).setRow w2.heap.size R.toArray = W3 := ⟨_, rfl⟩
       refine wpList_world hW3 ?_
       have RB := Lib.hid (show Row W3 w2.heap.size R 23 by rw [← hW3]; exact (Row.new (cs := z16) rfl rfl).setRow _)
       have HBW3 := Lib.hid (show Below w2.heap.size w2 W3 by rw [← hW3]; exact below_setRow ((Below.refl _ w2).alloc (Nat.le_refl _) _) (Nat.le_refl _) _)
       have hs3 : W3.heap.size = w2.heap.size + 1 := by rw [← hW3]; simp [World.setRow]
       clear hW3))
    | (show wpList _ _ _ (⟨some 82, _, _, _, _, _⟩ :: _) _ _
       try simp only [Act.put, List.setIfInBounds_toArray, List.set_cons_succ, List.set_cons_zero]
       go_loud (refine wpList_build rfl _ _ rfl (v := .agg tabL.toArray) (by kernel_rfl) ?_))
    | (show wpList _ _ _ (⟨none, .store 31 (.tmp 16) _, _, _, _, _⟩ :: _) _ _
       try simp only [Act.put, List.setIfInBounds_toArray, List.set_cons_succ, List.set_cons_zero]
       go_loud (
       refine wpList_storeRow (n := 32) rfl 31 (.tmp 16) (.tmp 82) rfl rfl rfl (cs := tabL) (old := z32) (g := w2.heap.size + 1) (t := 31) ?_ (by kernel_rfl) rfl rfl tab_one ?_
       · exact Row.new hs3 rfl
       obtain ⟨W4, hW4⟩ : ∃ W4, (W3.alloc (.cells z32.toArray 31)).setRow (w2.heap.size + 1) tabL.toArray = W4 := ⟨_, rfl⟩
       refine wpList_world hW4 ?_
       have RB4 := Lib.hid (show Row W4 w2.heap.size R 23 by rw [← hW4]; exact (RB.out.alloc _).setOther _ _ (by omega))
       have RT4 := Lib.hid (show Row W4 (w2.heap.size + 1) tabL 31 by rw [← hW4]; exact (Row.new (cs := z32) hs3 rfl).setRow _)
       have HB4 := Lib.hid (show Below w2.heap.size w2 W4 by rw [← hW4]; exact below_setRow (HBW3.out.alloc (by omega) _) (by omega) _)
       clear hW4))
    | fail)
  obtain ⟨B, hB⟩ : ∃ B, w2.heap.size = B := ⟨_, rfl⟩
  have hwB : w.heap.size + 1 + 1 + 1 < B := by have := RN2.out.lt; omega
  rw [hB]
  rw [hB] at RB4 RT4 HB4
  rw [← HRR.out] at RB4
  go_loopw [17, 18, 19, 20, 21] (fun iv _ _ _ _ wr => ∃ i : Nat, i ≤ 8 ∧ iv = .int .i64 (i : Int) ∧ Row wr B ((Cha.back s0 i).map wv) 23 ∧ Row wr (B + 1) tabL 31 ∧ Below B w2 wr) (fun iv _ _ _ _ _ => 8 - (intOf iv).toNat)
  case atStart =>
    exact ⟨0, by omega, rfl, RB4.out, RT4.out, HB4.out⟩
  case round =>
    obtain ⟨i, hi, rfl, hrs, hrt, hbr⟩ := hrel
    have HRS := Lib.hid hrs
    have HRT := Lib.hid hrt
    have HBR := Lib.hid hbr
    clear hrs hrt hbr
    by_cases hi8 : i < 8
    · have hi8' : (i : Int) < 8 := by omega
      obtain ⟨p, q, r, o, htab, hF, z0, z1, z2, z3⟩ := tab_at i hi8
      have hcs : Cha.back s0 i = Cha.qr (Cha.back s0 (i + 1)) (p, q, r, o) := back_step s0 i _ hi8 htab
      have hln : (Cha.back s0 (i + 1)).length = 16 := by rw [Cha.back_length]; exact HS0.out
      obtain ⟨T, hT⟩ : ∃ T, Cha.back s0 (i + 1) = T := ⟨_, rfl⟩
      rw [hT] at hcs hln
      have HT := Lib.hid hT
      have HTl := Lib.hid hln
      have HF := Lib.hid hF
      have HL0 := Lib.hid (show Row wr B ((Cha.qr T (p, q, r, o)).map wv) 23 by rw [← hcs]; exact HRS.out)
      have HLl := Lib.hid (show (Cha.qr T (p, q, r, o)).length = 16 by rw [Cha.qr_length]; exact hln)
      have hz0 : wr.cell? ⟨B + 1, i * 4, none⟩ = some (.int .i64 (p : Int)) := HRT.out.cell z0
      have hz1 : wr.cell? ⟨B + 1, i * 4 + 1, none⟩ = some (.int .i64 (q : Int)) := HRT.out.cell z1
      have hz2 : wr.cell? ⟨B + 1, i * 4 + 2, none⟩ = some (.int .i64 (r : Int)) := HRT.out.cell z2
      have hz3 : wr.cell? ⟨B + 1, i * 4 + 3, none⟩ = some (.int .i64 (o : Int)) := HRT.out.cell z3
      have Hi := Lib.hid hi8
      clear hT hcs hln HRS z0 z1 z2 z3 htab hF hi hi8
      go_wp2_with fail
      go_quiet (fail)
      go_wp2_with fail
      clear hz0 hz1 hz2 hz3 hi8'
      obtain ⟨W, hW⟩ : ∃ W, wr.drewN nq = W := ⟨_, rfl⟩
      have HRV := Lib.hid (show Row W B ((Cha.qr T (p, q, r, o)).map wv) 23 by rw [← hW]; exact HL0.out)
      have HTV := Lib.hid (show Row W (B + 1) tabL 31 by rw [← hW]; exact HRT.out)
      have HBV := Lib.hid (show Below B w2 W by rw [← hW]; exact below_drewN HBR.out nq)
      rw [hW]
      clear hW
      obtain ⟨Q, hQ⟩ : ∃ Q, Cha.quarter ⟨Cha.at_ T p, Cha.at_ T q, Cha.at_ T r, Cha.at_ T o⟩ = Q := ⟨_, rfl⟩
      have HQQ := Lib.hid (show Cha.undo Q = ⟨Cha.at_ T p, Cha.at_ T q, Cha.at_ T r, Cha.at_ T o⟩ by rw [← hQ, Cha.undo_quarter])
      have HQG := Lib.hid (Cha.qr_get T HTl.out HF.out Q hQ)
      clear hQ
      refine ByC.marks Cha.mixed (Stg.St B (fun s => (Cha.stage (Cha.qr T (p, q, r, o)) T p q r o s).map wv) 23) (fun x y => y = x) 23 [By.is (.int .i64 (p : Int)),
        By.is (.int .i64 (q : Int)),
        By.is (.int .i64 (r : Int)),
        By.is (.int .i64 (o : Int)),
        By.is (.int .i64 (p : Int)),
        By.is (.pointer (some ⟨B, p, none⟩)),
        By.is (wv Q.a),
        By.is (.int .i64 (q : Int)),
        By.is (.pointer (some ⟨B, q, none⟩)),
        By.is (wv Q.b),
        By.is (.int .i64 (r : Int)),
        By.is (.pointer (some ⟨B, r, none⟩)),
        By.is (wv Q.c),
        By.is (.int .i64 (o : Int)),
        By.is (.pointer (some ⟨B, o, none⟩)),
        By.is (wv Q.d),
        By.is (.tuple #[wv (Cha.at_ T p), wv (Cha.at_ T q), wv (Cha.at_ T r), wv (Cha.at_ T o)]),
        By.is (.tuple #[wv (Cha.at_ T p), wv (Cha.at_ T q), wv (Cha.at_ T r), wv (Cha.at_ T o)]),
        By.is (wv (Cha.at_ T p)),
        By.is (wv (Cha.at_ T q)),
        By.is (wv (Cha.at_ T r)),
        By.is (wv (Cha.at_ T o)),
        By.is (.pointer (some ⟨B, p, none⟩)),
        Stg.stM B (fun s => (Cha.stage (Cha.qr T (p, q, r, o)) T p q r o s).map wv) 23 1,
        By.is (.pointer (some ⟨B, q, none⟩)),
        Stg.stM B (fun s => (Cha.stage (Cha.qr T (p, q, r, o)) T p q r o s).map wv) 23 2,
        By.is (.pointer (some ⟨B, r, none⟩)),
        Stg.stM B (fun s => (Cha.stage (Cha.qr T (p, q, r, o)) T p q r o s).map wv) 23 3,
        By.is (.pointer (some ⟨B, o, none⟩)),
        Stg.stM B (fun s => (Cha.stage (Cha.qr T (p, q, r, o)) T p q r o s).map wv) 23 4]
        (Ev.masks _ []) (by kernel_rfl) rfl Stg.St.refl Stg.St.trans (fun _ => rfl) (fun _ _ _ h k => k.trans h) ⟨?_, ?_, ?_, ?_, ?_, ?_, ?_, ?_, ?_, ?_, ?_, ?_, ?_, ?_, ?_, ?_, ?_, ?_, ?_, ?_, ?_, ?_, ?_, ?_, ?_, ?_, ?_, ?_, ?_, ?_, trivial⟩ ?_
      · intro a w9 ht ht0 hs hg
        have h18 := By.same_get hs 18 (by decide) (by kernel_rfl)
        refine By.yes rfl ?_
        clear hs hg
        go_simp
        first | exact ⟨_, rfl, Stg.St.refl _, rfl⟩ | exact ⟨_, rfl, rfl⟩ | exact ⟨_, rfl, Stg.St.refl _, fun _ => rfl, rfl⟩
      · intro a w9 ht ht0 hs hg
        have h19 := By.same_get hs 19 (by decide) (by kernel_rfl)
        refine By.yes rfl ?_
        clear hs hg
        go_simp
        first | exact ⟨_, rfl, Stg.St.refl _, rfl⟩ | exact ⟨_, rfl, rfl⟩ | exact ⟨_, rfl, Stg.St.refl _, fun _ => rfl, rfl⟩
      · intro a w9 ht ht0 hs hg
        have h20 := By.same_get hs 20 (by decide) (by kernel_rfl)
        refine By.yes rfl ?_
        clear hs hg
        go_simp
        first | exact ⟨_, rfl, Stg.St.refl _, rfl⟩ | exact ⟨_, rfl, rfl⟩ | exact ⟨_, rfl, Stg.St.refl _, fun _ => rfl, rfl⟩
      · intro a w9 ht ht0 hs hg
        have h21 := By.same_get hs 21 (by decide) (by kernel_rfl)
        refine By.yes rfl ?_
        clear hs hg
        go_simp
        first | exact ⟨_, rfl, Stg.St.refl _, rfl⟩ | exact ⟨_, rfl, rfl⟩ | exact ⟨_, rfl, Stg.St.refl _, fun _ => rfl, rfl⟩
      · intro a w9 ht ht0 hs hg
        have h18 := By.same_get hs 18 (by decide) (by kernel_rfl)
        refine By.yes rfl ?_
        clear hs hg
        go_simp
        first | exact ⟨_, rfl, Stg.St.refl _, rfl⟩ | exact ⟨_, rfl, rfl⟩ | exact ⟨_, rfl, Stg.St.refl _, fun _ => rfl, rfl⟩
      · intro a w9 ht ht0 hs hg
        have h15 := By.same_get hs 15 (by decide) (by kernel_rfl)
        have h108 : a.tmps.getD 108 undef = _ := ByN.given_get hg 4 rfl rfl (by kernel_rfl)
        refine By.yes rfl ?_
        clear hs hg
        have hb := Lib.hid HF.out.fp
        have hbi : (p : Int) < 16 := by have := hb.out; omega
        go_simp
        first | exact ⟨_, rfl, Stg.St.refl _, rfl⟩ | exact ⟨_, rfl, rfl⟩ | exact ⟨_, rfl, Stg.St.refl _, fun _ => rfl, rfl⟩
      · intro a w9 ht ht0 hs hg
        have h109 : a.tmps.getD 109 undef = _ := ByN.given_get hg 5 rfl rfl (by kernel_rfl)
        refine By.yes rfl ?_
        clear hs hg
        have hw := ht0 (by kernel_rfl)
        subst hw
        have hc := Row.cell (w := W.drew) HRV.out (i := p) (v := wv Q.a) (by rw [List.getElem?_map, HQG.out.1]; rfl)
        go_simp
        first | exact ⟨_, rfl, Stg.St.refl _, rfl⟩ | exact ⟨_, rfl, rfl⟩ | exact ⟨_, rfl, Stg.St.refl _, fun _ => rfl, rfl⟩
      · intro a w9 ht ht0 hs hg
        have h19 := By.same_get hs 19 (by decide) (by kernel_rfl)
        refine By.yes rfl ?_
        clear hs hg
        go_simp
        first | exact ⟨_, rfl, Stg.St.refl _, rfl⟩ | exact ⟨_, rfl, rfl⟩ | exact ⟨_, rfl, Stg.St.refl _, fun _ => rfl, rfl⟩
      · intro a w9 ht ht0 hs hg
        have h15 := By.same_get hs 15 (by decide) (by kernel_rfl)
        have h111 : a.tmps.getD 111 undef = _ := ByN.given_get hg 7 rfl rfl (by kernel_rfl)
        refine By.yes rfl ?_
        clear hs hg
        have hb := Lib.hid HF.out.fq
        have hbi : (q : Int) < 16 := by have := hb.out; omega
        go_simp
        first | exact ⟨_, rfl, Stg.St.refl _, rfl⟩ | exact ⟨_, rfl, rfl⟩ | exact ⟨_, rfl, Stg.St.refl _, fun _ => rfl, rfl⟩
      · intro a w9 ht ht0 hs hg
        have h112 : a.tmps.getD 112 undef = _ := ByN.given_get hg 8 rfl rfl (by kernel_rfl)
        refine By.yes rfl ?_
        clear hs hg
        have hw := ht0 (by kernel_rfl)
        subst hw
        have hc := Row.cell (w := W.drew) HRV.out (i := q) (v := wv Q.b) (by rw [List.getElem?_map, HQG.out.2.1]; rfl)
        go_simp
        first | exact ⟨_, rfl, Stg.St.refl _, rfl⟩ | exact ⟨_, rfl, rfl⟩ | exact ⟨_, rfl, Stg.St.refl _, fun _ => rfl, rfl⟩
      · intro a w9 ht ht0 hs hg
        have h20 := By.same_get hs 20 (by decide) (by kernel_rfl)
        refine By.yes rfl ?_
        clear hs hg
        go_simp
        first | exact ⟨_, rfl, Stg.St.refl _, rfl⟩ | exact ⟨_, rfl, rfl⟩ | exact ⟨_, rfl, Stg.St.refl _, fun _ => rfl, rfl⟩
      · intro a w9 ht ht0 hs hg
        have h15 := By.same_get hs 15 (by decide) (by kernel_rfl)
        have h114 : a.tmps.getD 114 undef = _ := ByN.given_get hg 10 rfl rfl (by kernel_rfl)
        refine By.yes rfl ?_
        clear hs hg
        have hb := Lib.hid HF.out.fr
        have hbi : (r : Int) < 16 := by have := hb.out; omega
        go_simp
        first | exact ⟨_, rfl, Stg.St.refl _, rfl⟩ | exact ⟨_, rfl, rfl⟩ | exact ⟨_, rfl, Stg.St.refl _, fun _ => rfl, rfl⟩
      · intro a w9 ht ht0 hs hg
        have h115 : a.tmps.getD 115 undef = _ := ByN.given_get hg 11 rfl rfl (by kernel_rfl)
        refine By.yes rfl ?_
        clear hs hg
        have hw := ht0 (by kernel_rfl)
        subst hw
        have hc := Row.cell (w := W.drew) HRV.out (i := r) (v := wv Q.c) (by rw [List.getElem?_map, HQG.out.2.2.1]; rfl)
        go_simp
        first | exact ⟨_, rfl, Stg.St.refl _, rfl⟩ | exact ⟨_, rfl, rfl⟩ | exact ⟨_, rfl, Stg.St.refl _, fun _ => rfl, rfl⟩
      · intro a w9 ht ht0 hs hg
        have h21 := By.same_get hs 21 (by decide) (by kernel_rfl)
        refine By.yes rfl ?_
        clear hs hg
        go_simp
        first | exact ⟨_, rfl, Stg.St.refl _, rfl⟩ | exact ⟨_, rfl, rfl⟩ | exact ⟨_, rfl, Stg.St.refl _, fun _ => rfl, rfl⟩
      · intro a w9 ht ht0 hs hg
        have h15 := By.same_get hs 15 (by decide) (by kernel_rfl)
        have h117 : a.tmps.getD 117 undef = _ := ByN.given_get hg 13 rfl rfl (by kernel_rfl)
        refine By.yes rfl ?_
        clear hs hg
        have hb := Lib.hid HF.out.fo
        have hbi : (o : Int) < 16 := by have := hb.out; omega
        go_simp
        first | exact ⟨_, rfl, Stg.St.refl _, rfl⟩ | exact ⟨_, rfl, rfl⟩ | exact ⟨_, rfl, Stg.St.refl _, fun _ => rfl, rfl⟩
      · intro a w9 ht ht0 hs hg
        have h118 : a.tmps.getD 118 undef = _ := ByN.given_get hg 14 rfl rfl (by kernel_rfl)
        refine By.yes rfl ?_
        clear hs hg
        have hw := ht0 (by kernel_rfl)
        subst hw
        have hc := Row.cell (w := W.drew) HRV.out (i := o) (v := wv Q.d) (by rw [List.getElem?_map, HQG.out.2.2.2]; rfl)
        go_simp
        first | exact ⟨_, rfl, Stg.St.refl _, rfl⟩ | exact ⟨_, rfl, rfl⟩ | exact ⟨_, rfl, Stg.St.refl _, fun _ => rfl, rfl⟩
      · intro a w9 ht ht0 hs hg
        have h110 : a.tmps.getD 110 undef = _ := ByN.given_get hg 6 rfl rfl (by kernel_rfl)
        have h113 : a.tmps.getD 113 undef = _ := ByN.given_get hg 9 rfl rfl (by kernel_rfl)
        have h116 : a.tmps.getD 116 undef = _ := ByN.given_get hg 12 rfl rfl (by kernel_rfl)
        have h119 : a.tmps.getD 119 undef = _ := ByN.given_get hg 15 rfl rfl (by kernel_rfl)
        refine By.yes rfl ?_
        clear hs hg
        go_simp
        refine (Undo_any ⟨Q.a, Q.b, Q.c, Q.d⟩ _).mono ?_
        rw [show Cha.undo ⟨Q.a, Q.b, Q.c, Q.d⟩ = _ from HQQ.out]
        rintro r w' ⟨rfl, rfl⟩
        first | exact ⟨_, rfl, Stg.St.refl _, rfl⟩ | exact ⟨_, rfl, rfl⟩ | exact ⟨_, rfl, Stg.St.refl _, fun _ => rfl, rfl⟩
      · intro a w9 ht ht0 hs hg
        have h120 : a.tmps.getD 120 undef = _ := ByN.given_get hg 16 rfl rfl (by kernel_rfl)
        refine By.yes rfl ?_
        clear hs hg
        go_simp
        first | exact ⟨_, rfl, Stg.St.refl _, rfl⟩ | exact ⟨_, rfl, rfl⟩ | exact ⟨_, rfl, Stg.St.refl _, fun _ => rfl, rfl⟩
      · intro a w9 ht ht0 hs hg
        have h103 : a.tmps.getD 103 undef = _ := ByN.given_get hg 17 rfl rfl (by kernel_rfl)
        refine By.yes rfl ?_
        clear hs hg
        go_simp
        first | exact ⟨_, rfl, Stg.St.refl _, rfl⟩ | exact ⟨_, rfl, rfl⟩ | exact ⟨_, rfl, Stg.St.refl _, fun _ => rfl, rfl⟩
      · intro a w9 ht ht0 hs hg
        have h103 : a.tmps.getD 103 undef = _ := ByN.given_get hg 17 rfl rfl (by kernel_rfl)
        refine By.yes rfl ?_
        clear hs hg
        go_simp
        first | exact ⟨_, rfl, Stg.St.refl _, rfl⟩ | exact ⟨_, rfl, rfl⟩ | exact ⟨_, rfl, Stg.St.refl _, fun _ => rfl, rfl⟩
      · intro a w9 ht ht0 hs hg
        have h103 : a.tmps.getD 103 undef = _ := ByN.given_get hg 17 rfl rfl (by kernel_rfl)
        refine By.yes rfl ?_
        clear hs hg
        go_simp
        first | exact ⟨_, rfl, Stg.St.refl _, rfl⟩ | exact ⟨_, rfl, rfl⟩ | exact ⟨_, rfl, Stg.St.refl _, fun _ => rfl, rfl⟩
      · intro a w9 ht ht0 hs hg
        have h103 : a.tmps.getD 103 undef = _ := ByN.given_get hg 17 rfl rfl (by kernel_rfl)
        refine By.yes rfl ?_
        clear hs hg
        go_simp
        first | exact ⟨_, rfl, Stg.St.refl _, rfl⟩ | exact ⟨_, rfl, rfl⟩ | exact ⟨_, rfl, Stg.St.refl _, fun _ => rfl, rfl⟩
      · intro a w9 ht ht0 hs hg
        have h15 := By.same_get hs 15 (by decide) (by kernel_rfl)
        have h104 : a.tmps.getD 104 undef = _ := ByN.given_get hg 0 rfl rfl (by kernel_rfl)
        refine By.yes rfl ?_
        clear hs hg
        have hb := Lib.hid HF.out.fp
        have hbi : (p : Int) < 16 := by have := hb.out; omega
        go_simp
        first | exact ⟨_, rfl, Stg.St.refl _, rfl⟩ | exact ⟨_, rfl, rfl⟩ | exact ⟨_, rfl, Stg.St.refl _, fun _ => rfl, rfl⟩
      · intro a w9 ht ht0 hs hg
        have h125 : a.tmps.getD 125 undef = _ := ByN.given_get hg 22 rfl rfl (by kernel_rfl)
        have h121 : a.tmps.getD 121 undef = _ := ByN.given_get hg 18 rfl rfl (by kernel_rfl)
        obtain ⟨s0, _, hrow⟩ := ht.up 0 (show Row W.drew B ((Cha.stage (Cha.qr T (p, q, r, o)) T p q r o 0).map wv) 23 from HRV.out)
        have hst : ∃ s, 1 ≤ s + 1 ∧ Row w9 B ((fun s => (Cha.stage (Cha.qr T (p, q, r, o)) T p q r o s).map wv) s) 23 := ⟨s0, by omega, hrow⟩
        refine By.yes rfl ?_
        clear hs hg
        refine Oper.wp_mono ?_ (Stg.wp_stage (cells := (fun s => (Cha.stage (Cha.qr T (p, q, r, o)) T p q r o s).map wv)) (n := 1) 1 22 _ _ rfl rfl [wv (Cha.at_ T p)] h125 h121 rfl hst (by kernel_rfl) rfl (fun s => by show p + 1 ≤ _; rw [List.length_map]; unfold Cha.stage; rw [Cha.setsN_length, HLl.out]; exact HF.out.fp) (by intro v hv; simp at hv; subst hv; rfl) (fun s hs => Cha.stage_put1 _ T HLl.out HF.out s hs))
        rintro a' w' ⟨v, h1, h2, h3⟩
        exact ⟨v, h1, h2, fun h => absurd (Eq.trans (Eq.symm (by kernel_rfl)) h) Bool.false_ne_true, h3⟩
      · intro a w9 ht ht0 hs hg
        have h15 := By.same_get hs 15 (by decide) (by kernel_rfl)
        have h105 : a.tmps.getD 105 undef = _ := ByN.given_get hg 1 rfl rfl (by kernel_rfl)
        refine By.yes rfl ?_
        clear hs hg
        have hb := Lib.hid HF.out.fq
        have hbi : (q : Int) < 16 := by have := hb.out; omega
        go_simp
        first | exact ⟨_, rfl, Stg.St.refl _, rfl⟩ | exact ⟨_, rfl, rfl⟩ | exact ⟨_, rfl, Stg.St.refl _, fun _ => rfl, rfl⟩
      · intro a w9 ht ht0 hs hg
        have h126 : a.tmps.getD 126 undef = _ := ByN.given_get hg 24 rfl rfl (by kernel_rfl)
        have h122 : a.tmps.getD 122 undef = _ := ByN.given_get hg 19 rfl rfl (by kernel_rfl)
        have hp := ByN.given_get hg 23 rfl rfl (by kernel_rfl)
        obtain ⟨s0, hs0, hrow⟩ := hp
        have hst : ∃ s, 2 ≤ s + 1 ∧ Row w9 B ((fun s => (Cha.stage (Cha.qr T (p, q, r, o)) T p q r o s).map wv) s) 23 := ⟨s0, by omega, hrow⟩
        refine By.yes rfl ?_
        clear hs hg
        refine Oper.wp_mono ?_ (Stg.wp_stage (cells := (fun s => (Cha.stage (Cha.qr T (p, q, r, o)) T p q r o s).map wv)) (n := 1) 2 22 _ _ rfl rfl [wv (Cha.at_ T q)] h126 h122 rfl hst (by kernel_rfl) rfl (fun s => by show q + 1 ≤ _; rw [List.length_map]; unfold Cha.stage; rw [Cha.setsN_length, HLl.out]; exact HF.out.fq) (by intro v hv; simp at hv; subst hv; rfl) (fun s hs => Cha.stage_put2 _ T HLl.out HF.out s hs))
        rintro a' w' ⟨v, h1, h2, h3⟩
        exact ⟨v, h1, h2, fun h => absurd (Eq.trans (Eq.symm (by kernel_rfl)) h) Bool.false_ne_true, h3⟩
      · intro a w9 ht ht0 hs hg
        have h15 := By.same_get hs 15 (by decide) (by kernel_rfl)
        have h106 : a.tmps.getD 106 undef = _ := ByN.given_get hg 2 rfl rfl (by kernel_rfl)
        refine By.yes rfl ?_
        clear hs hg
        have hb := Lib.hid HF.out.fr
        have hbi : (r : Int) < 16 := by have := hb.out; omega
        go_simp
        first | exact ⟨_, rfl, Stg.St.refl _, rfl⟩ | exact ⟨_, rfl, rfl⟩ | exact ⟨_, rfl, Stg.St.refl _, fun _ => rfl, rfl⟩
      · intro a w9 ht ht0 hs hg
        have h127 : a.tmps.getD 127 undef = _ := ByN.given_get hg 26 rfl rfl (by kernel_rfl)
        have h123 : a.tmps.getD 123 undef = _ := ByN.given_get hg 20 rfl rfl (by kernel_rfl)
        have hp := ByN.given_get hg 25 rfl rfl (by kernel_rfl)
        obtain ⟨s0, hs0, hrow⟩ := hp
        have hst : ∃ s, 3 ≤ s + 1 ∧ Row w9 B ((fun s => (Cha.stage (Cha.qr T (p, q, r, o)) T p q r o s).map wv) s) 23 := ⟨s0, by omega, hrow⟩
        refine By.yes rfl ?_
        clear hs hg
        refine Oper.wp_mono ?_ (Stg.wp_stage (cells := (fun s => (Cha.stage (Cha.qr T (p, q, r, o)) T p q r o s).map wv)) (n := 1) 3 22 _ _ rfl rfl [wv (Cha.at_ T r)] h127 h123 rfl hst (by kernel_rfl) rfl (fun s => by show r + 1 ≤ _; rw [List.length_map]; unfold Cha.stage; rw [Cha.setsN_length, HLl.out]; exact HF.out.fr) (by intro v hv; simp at hv; subst hv; rfl) (fun s hs => Cha.stage_put3 _ T HLl.out HF.out s hs))
        rintro a' w' ⟨v, h1, h2, h3⟩
        exact ⟨v, h1, h2, fun h => absurd (Eq.trans (Eq.symm (by kernel_rfl)) h) Bool.false_ne_true, h3⟩
      · intro a w9 ht ht0 hs hg
        have h15 := By.same_get hs 15 (by decide) (by kernel_rfl)
        have h107 : a.tmps.getD 107 undef = _ := ByN.given_get hg 3 rfl rfl (by kernel_rfl)
        refine By.yes rfl ?_
        clear hs hg
        have hb := Lib.hid HF.out.fo
        have hbi : (o : Int) < 16 := by have := hb.out; omega
        go_simp
        first | exact ⟨_, rfl, Stg.St.refl _, rfl⟩ | exact ⟨_, rfl, rfl⟩ | exact ⟨_, rfl, Stg.St.refl _, fun _ => rfl, rfl⟩
      · intro a w9 ht ht0 hs hg
        have h128 : a.tmps.getD 128 undef = _ := ByN.given_get hg 28 rfl rfl (by kernel_rfl)
        have h124 : a.tmps.getD 124 undef = _ := ByN.given_get hg 21 rfl rfl (by kernel_rfl)
        have hp := ByN.given_get hg 27 rfl rfl (by kernel_rfl)
        obtain ⟨s0, hs0, hrow⟩ := hp
        have hst : ∃ s, 4 ≤ s + 1 ∧ Row w9 B ((fun s => (Cha.stage (Cha.qr T (p, q, r, o)) T p q r o s).map wv) s) 23 := ⟨s0, by omega, hrow⟩
        refine By.yes rfl ?_
        clear hs hg
        refine Oper.wp_mono ?_ (Stg.wp_stage (cells := (fun s => (Cha.stage (Cha.qr T (p, q, r, o)) T p q r o s).map wv)) (n := 1) 4 22 _ _ rfl rfl [wv (Cha.at_ T o)] h128 h124 rfl hst (by kernel_rfl) rfl (fun s => by show o + 1 ≤ _; rw [List.length_map]; unfold Cha.stage; rw [Cha.setsN_length, HLl.out]; exact HF.out.fo) (by intro v hv; simp at hv; subst hv; rfl) (fun s hs => Cha.stage_put4 _ T HLl.out HF.out s hs))
        rintro a' w' ⟨v, h1, h2, h3⟩
        exact ⟨v, h1, h2, fun h => absurd (Eq.trans (Eq.symm (by kernel_rfl)) h) Bool.false_ne_true, h3⟩
      refine ByN.ends_is ?_
      refine ByN.ends_is ?_
      refine ByN.ends_is ?_
      refine ByN.ends_is ?_
      refine ByN.ends_is ?_
      refine ByN.ends_is ?_
      refine ByN.ends_is ?_
      refine ByN.ends_is ?_
      refine ByN.ends_is ?_
      refine ByN.ends_is ?_
      refine ByN.ends_is ?_
      refine ByN.ends_is ?_
      refine ByN.ends_is ?_
      refine ByN.ends_is ?_
      refine ByN.ends_is ?_
      refine ByN.ends_is ?_
      refine ByN.ends_is ?_
      refine ByN.ends_is ?_
      refine ByN.ends_is ?_
      refine ByN.ends_is ?_
      refine ByN.ends_is ?_
      refine ByN.ends_is ?_
      refine ByN.ends_is ?_
      refine ByN.ends_skip fun _ => ?_
      refine ByN.ends_is ?_
      refine ByN.ends_skip fun _ => ?_
      refine ByN.ends_is ?_
      refine ByN.ends_skip fun _ => ?_
      refine ByN.ends_is ?_
      refine ByN.ends_any fun _ => ?_
      refine ByN.ends_nil fun W9 hw9 => ?_
      obtain ⟨hw9, hl9⟩ := hw9
      obtain ⟨s9, hs9, hrow9⟩ := (show ∃ s, 4 ≤ s ∧ Row W9 B ((Cha.stage (Cha.qr T (p, q, r, o)) T p q r o s).map wv) 23 from hl9)
      rw [Cha.stage_ge _ _ _ _ _ _ _ hs9, Cha.stage_end T HTl.out HF.out] at hrow9
      have HR9 := Lib.hid hrow9
      have HT9 := Lib.hid (hw9.row (x := W.drew) HTV.out (by omega))
      have HB9 := Lib.hid (HBV.out.drew.trans (hw9.below (x := W.drew) (B := B) (Nat.le_refl _) (show B ≤ W.heap.size from Nat.le_of_lt HRV.out.lt)))
      clear hw9 hl9 hrow9 hs9
      have hi8' : (i : Int) < 8 := by have := Hi.out; omega
      simp only [Act.put, List.setIfInBounds_toArray, List.set_cons_succ, List.set_cons_zero]
      go_wp2_with fail
      go_roundw
      case rel => exact ⟨i + 1, Hi.out, by go_num, by rw [HT.out]; exact HR9.out, HT9.out, HB9.out⟩
      case measure => simp [intOf]; omega
    · have hi8 : i = 8 := by omega
      subst hi8
      have HRS8 := Lib.hid (show Row wr B (s0.map wv) 23 from HRS.out)
      have RS3 := Lib.hid (RS2.out.below HBR.out (by omega))
      have RK3 := Lib.hid (RK2.out.below HBR.out (by omega))
      have RL3 := Lib.hid (RL2.out.below HBR.out (by omega))
      have RN3 := Lib.hid (RN2.out.below HBR.out (by omega))
      have HB3 := Lib.hid (show Below w.heap.size w wr from HB2.out.trans (HBR.out.mono (by omega)))
      clear HRS HRT hi
      go_wp2
      obtain ⟨X, hX⟩ : ∃ X, Cha.state k c nn = X := ⟨_, rfl⟩
      obtain ⟨Y, hY⟩ : ∃ Y, Cha.state l c nn = Y := ⟨_, rfl⟩
      obtain ⟨Z, hZ⟩ : ∃ Z, Cha.state k (c + 1#32) nn = Z := ⟨_, rfl⟩
      have HXl := Lib.hid (show X.length = 16 by rw [← hX]; exact Cha.state_length _ _ _)
      have HYl := Lib.hid (show Y.length = 16 by rw [← hY]; exact Cha.state_length _ _ _)
      have HZl := Lib.hid (show Z.length = 16 by rw [← hZ]; exact Cha.state_length _ _ _)
      have HXm := Lib.hid (show (X.map wv).length = 16 by rw [List.length_map]; exact HXl.out)
      have HYm := Lib.hid (show (Y.map wv).length = 16 by rw [List.length_map]; exact HYl.out)
      have hXY : decide (X = Y) = decide (k = l) := by rw [← hX, ← hY]; exact decide_eq_decide.2 (Cha.state_key HK.out HL.out)
      have HZX := Lib.hid (show ¬ Z = X by rw [← hX, ← hZ]; exact Cha.state_ctr)
      obtain ⟨bb, hbb⟩ : ∃ bb, decide (k = l) = bb := ⟨_, rfl⟩
      have HXY := Lib.hid (hXY.trans hbb)
      have Hbb := Lib.hid hbb
      have HX := Lib.hid hX
      have HY := Lib.hid hY
      have HZ := Lib.hid hZ
      have HAdd := Lib.hid (show ((c.toNat : Int) + 1) % (4294967296 : Int) = ((c + 1#32).toNat : Int) from w_add c 1#32)
      clear hX hY hZ hXY hbb
      refine ByD.marksAt Cha.mixed 10 8 9 (fun v x => v ≠ x) (by decide) Grew [By.is (arr8 k), By.is (wv c), By.is (arr8 nn), By.is (arr32 X), By.is (arr8 l), By.is (wv c), By.is (arr8 nn), By.is (arr32 Y), newM wr.heap.size, newM wr.heap.size]
        (Ev.masks _ []) (Nat.zero_lt_succ _) (by kernel_rfl) (by kernel_rfl) rfl Grew.refl Grew.trans rfl rfl rfl rfl rfl rfl ⟨?_, ?_, ?_, ?_, ?_, ?_, ?_, ?_, ?_, ?_, trivial⟩ ?_
      · intro a w9 ht hs hg
        have h6 := By.same_get hs 6 (by decide) (by kernel_rfl)
        refine By.yes rfl ?_
        clear hs hg
        refine wp_loadRow 24 _ rfl h6 (Row.below (w := wr.drew) RK3.out ht RK3.out.lt) Try.underlying24 rfl (by kernel_rfl) HKm.out ?_
        first | exact ⟨_, rfl, Grew.refl _, rfl⟩ | exact ⟨_, rfl, Grew.refl _, rfl, fun h => absurd h (by decide), fun h => absurd h (by decide)⟩
      · intro a w9 ht hs hg
        have h3 := By.same_get hs 3 (by decide) (by kernel_rfl)
        refine By.yes rfl ?_
        clear hs hg
        go_simp
        first | exact ⟨_, rfl, Grew.refl _, rfl⟩ | exact ⟨_, rfl, Grew.refl _, rfl, fun h => absurd h (by decide), fun h => absurd h (by decide)⟩
      · intro a w9 ht hs hg
        have h9 := By.same_get hs 9 (by decide) (by kernel_rfl)
        refine By.yes rfl ?_
        clear hs hg
        refine wp_loadRow 25 _ rfl h9 (Row.below (w := wr.drew) RN3.out ht RN3.out.lt) Try.underlying25 rfl (by kernel_rfl) HNm.out ?_
        first | exact ⟨_, rfl, Grew.refl _, rfl⟩ | exact ⟨_, rfl, Grew.refl _, rfl, fun h => absurd h (by decide), fun h => absurd h (by decide)⟩
      · intro a w9 ht hs hg
        have h129 : a.tmps.getD 129 undef = _ := By.given_get hg 0 rfl rfl (by kernel_rfl)
        have h130 : a.tmps.getD 130 undef = _ := By.given_get hg 1 rfl rfl (by kernel_rfl)
        have h131 : a.tmps.getD 131 undef = _ := By.given_get hg 2 rfl rfl (by kernel_rfl)
        refine By.yes rfl ?_
        clear hs hg
        go_simp
        refine (State_any k nn c HK.out HN.out w9).mono ?_
        rintro r w' ⟨rfl, hb⟩
        rw [show Cha.state k c nn = X from HX.out]
        first | exact ⟨_, rfl, hb, rfl⟩ | exact ⟨_, rfl, hb, rfl, fun h => absurd h (by decide), fun h => absurd h (by decide)⟩
      · intro a w9 ht hs hg
        have h7 := By.same_get hs 7 (by decide) (by kernel_rfl)
        refine By.yes rfl ?_
        clear hs hg
        refine wp_loadRow 24 _ rfl h7 (Row.below (w := wr.drew) RL3.out ht RL3.out.lt) Try.underlying24 rfl (by kernel_rfl) HLm.out ?_
        first | exact ⟨_, rfl, Grew.refl _, rfl⟩ | exact ⟨_, rfl, Grew.refl _, rfl, fun h => absurd h (by decide), fun h => absurd h (by decide)⟩
      · intro a w9 ht hs hg
        have h3 := By.same_get hs 3 (by decide) (by kernel_rfl)
        refine By.yes rfl ?_
        clear hs hg
        go_simp
        first | exact ⟨_, rfl, Grew.refl _, rfl⟩ | exact ⟨_, rfl, Grew.refl _, rfl, fun h => absurd h (by decide), fun h => absurd h (by decide)⟩
      · intro a w9 ht hs hg
        have h9 := By.same_get hs 9 (by decide) (by kernel_rfl)
        refine By.yes rfl ?_
        clear hs hg
        refine wp_loadRow 25 _ rfl h9 (Row.below (w := wr.drew) RN3.out ht RN3.out.lt) Try.underlying25 rfl (by kernel_rfl) HNm.out ?_
        first | exact ⟨_, rfl, Grew.refl _, rfl⟩ | exact ⟨_, rfl, Grew.refl _, rfl, fun h => absurd h (by decide), fun h => absurd h (by decide)⟩
      · intro a w9 ht hs hg
        have h133 : a.tmps.getD 133 undef = _ := By.given_get hg 4 rfl rfl (by kernel_rfl)
        have h134 : a.tmps.getD 134 undef = _ := By.given_get hg 5 rfl rfl (by kernel_rfl)
        have h135 : a.tmps.getD 135 undef = _ := By.given_get hg 6 rfl rfl (by kernel_rfl)
        refine By.yes rfl ?_
        clear hs hg
        go_simp
        refine (State_any l nn c HL.out HN.out w9).mono ?_
        rintro r w' ⟨rfl, hb⟩
        rw [show Cha.state l c nn = Y from HY.out]
        first | exact ⟨_, rfl, hb, rfl⟩ | exact ⟨_, rfl, hb, rfl, fun h => absurd h (by decide), fun h => absurd h (by decide)⟩
      · intro a w9 ht hs hg
        refine By.yes rfl ?_
        clear hs hg
        have hBw : wr.heap.size ≤ w9.heap.size := (show wr.drew.heap.size ≤ w9.heap.size from ht.size)
        refine Oper.wp_mono ?_ (show Oper.wp Try.prog _ a w9 (fun a' w' => a' = a.put (some 22) (.pointer (some ⟨w9.heap.size, 0, none⟩)) ∧ w' = w9.alloc (.cells z16.toArray 23)) _ from by
          go_simp
          first | rfl | exact ⟨rfl, rfl⟩)
        rintro a' w' ⟨rfl, rfl⟩
        exact ⟨_, rfl, (Below.refl _ w9).alloc (Nat.le_refl _) _, new_at w9 hBw, fun _ x hx => new_ne hx, fun h => absurd h (by decide)⟩
      · intro a w9 ht hs hg
        refine By.yes rfl ?_
        clear hs hg
        have hBw : wr.heap.size ≤ w9.heap.size := (show wr.drew.heap.size ≤ w9.heap.size from ht.size)
        refine Oper.wp_mono ?_ (show Oper.wp Try.prog _ a w9 (fun a' w' => a' = a.put (some 23) (.pointer (some ⟨w9.heap.size, 0, none⟩)) ∧ w' = w9.alloc (.cells z16.toArray 23)) _ from by
          go_simp
          first | rfl | exact ⟨rfl, rfl⟩)
        rintro a' w' ⟨rfl, rfl⟩
        exact ⟨_, rfl, (Below.refl _ w9).alloc (Nat.le_refl _) _, new_at w9 hBw, fun h => absurd h (by decide), fun _ x hx e => new_ne hx e.symm⟩
      refine By.ends_is ?_
      refine By.ends_is ?_
      refine By.ends_is ?_
      refine By.ends_is ?_
      refine By.ends_is ?_
      refine By.ends_is ?_
      refine By.ends_is ?_
      refine By.ends_is ?_
      refine By.ends_any fun _ => ?_
      refine By.ends_any fun _ => ?_
      refine By.ends_nil fun w9 hw9 => ?_
      intro hD
      obtain ⟨⟨hw9, hn22⟩, hn23⟩ := hw9
      obtain ⟨g22, hv22, hlt22, hge22, hr22⟩ := hn22
      obtain ⟨g23, hv23, hlt23, hge23, hr23⟩ := hn23
      subst hv22
      subst hv23
      have hne : g22 ≠ g23 := by
        intro e
        subst e
        refine hD ?_
        kernel_rfl
      have HR22 := Lib.hid hr22
      have HR23 := Lib.hid hr23
      have HBw := Lib.hid (show Below wr.heap.size wr w9 from ⟨hw9.os, hw9.tape, hw9.output, hw9.size, hw9.block⟩)
      have HNe := Lib.hid (show g22 ≠ g23 ∧ wr.heap.size ≤ g22 ∧ wr.heap.size ≤ g23 from ⟨hne, hge22, hge23⟩)
      clear hD hw9 hlt22 hlt23 hge22 hge23 hr22 hr23 hne
      simp only [Act.put, List.setIfInBounds_toArray, List.set_cons_succ, List.set_cons_zero, List.drop_succ_cons, List.drop_zero]
      unfold arr32
      go_wp2_with (first
        | (refine wpList_storeRow (n := 16) rfl 23 (.tmp 22) (.tmp 132) rfl rfl rfl (cs := X.map wv) (old := z16) HR22.out (by kernel_rfl) HXm.out rfl (wv_one X) ?_
           refine wpList_nm fun V1 hV1 => ?_
           have HX1 := Lib.hid (show Row V1 g22 (X.map wv) 23 from hV1 ▸ HR22.out.setRow _)
           have HY1 := Lib.hid (show Row V1 g23 z16 23 from hV1 ▸ HR23.out.setOther g22 _ HNe.out.1.symm)
           have HB1w := Lib.hid (show Below wr.heap.size wr V1 from hV1 ▸ below_setRow HBw.out HNe.out.2.1 _)
           clear hV1)
        | (refine wpList_storeRow (n := 16) rfl 23 (.tmp 23) (.tmp 136) rfl rfl rfl (cs := Y.map wv) (old := z16) HY1.out (by kernel_rfl) HYm.out rfl (wv_one Y) ?_
           refine wpList_nm fun V2 hV2 => ?_
           have RY5 := Lib.hid (show Row V2 g23 (Y.map wv) 23 from hV2 ▸ HY1.out.setRow _)
           have RX5 := Lib.hid (show Row V2 g22 (X.map wv) 23 from hV2 ▸ HX1.out.setOther g23 _ HNe.out.1)
           have HB2w := Lib.hid (show Below wr.heap.size wr V2 from hV2 ▸ below_setRow HB1w.out HNe.out.2.2 _)
           refine lstop ?_)
        | fail)
      unfold LStop
      clear hV2
      have RB5 := Lib.hid (HRS8.out.below HB2w.out HRS8.out.lt)
      have RS5 := Lib.hid (RS3.out.below HB2w.out RS3.out.lt)
      have RK5 := Lib.hid (RK3.out.below HB2w.out RK3.out.lt)
      have RL5 := Lib.hid (RL3.out.below HB2w.out RL3.out.lt)
      have RN5 := Lib.hid (RN3.out.below HB2w.out RN3.out.lt)
      have HB5 := Lib.hid (nextB HB3.out (Nat.le_refl _) HB2w.out)
      go_wp2_with fail
      refine By.marks Cha.mixed Grew [By.is (arr32 s0),
        By.is (arr32 s0),
        By.is (.bool true),
        By.is (.bool true),
        By.is (arr32 X),
        By.is (arr32 Y),
        By.is (.bool bb),
        By.is (arr8 k),
        By.is (arr8 l),
        By.is (.bool bb),
        By.is (.bool true),
        By.is (.bool true),
        By.is (.bool true),
        By.is (arr8 k),
        By.is (wv c),
        By.is (wv (c + 1#32)),
        By.is (arr8 nn),
        By.is (arr32 Z),
        By.is (arr32 X),
        By.is (.bool true),
        By.is (.bool true),
        By.is (.bool true)]
        (Ev.masks _ []) (by kernel_rfl) rfl Grew.refl Grew.trans ⟨?_, ?_, ?_, ?_, ?_, ?_, ?_, ?_, ?_, ?_, ?_, ?_, ?_, ?_, ?_, ?_, ?_, ?_, ?_, ?_, ?_, ?_, trivial⟩ ?_
      · intro a w ht hs hg -- 137
        have h15 := By.same_get hs 15 (by decide) (by kernel_rfl)
        refine By.yes rfl ?_
        clear hs hg
        refine wp_loadRow 23 _ rfl h15 (Row.below (w := V2.drew) RB5.out ht RB5.out.lt) Try.underlying23 rfl (by kernel_rfl) HSm.out ?_
        exact ⟨_, rfl, Grew.refl _, rfl⟩
      · intro a w ht hs hg -- 138
        have h5 := By.same_get hs 5 (by decide) (by kernel_rfl)
        refine By.yes rfl ?_
        clear hs hg
        refine wp_loadRow 23 _ rfl h5 (Row.below (w := V2.drew) RS5.out ht RS5.out.lt) Try.underlying23 rfl (by kernel_rfl) HSm.out ?_
        exact ⟨_, rfl, Grew.refl _, rfl⟩
      · intro a w ht hs hg -- 139
        have h137 : a.tmps.getD 137 undef = _ := By.given_get hg 0 rfl rfl (by kernel_rfl)
        have h138 : a.tmps.getD 138 undef = _ := By.given_get hg 1 rfl rfl (by kernel_rfl)
        refine By.yes rfl ?_
        clear hs hg
        refine wp_eqArr _ _ rfl (by kernel_rfl) h137 h138 (eqW s0 s0 HS0.out HS0.out w) ?_
        exact ⟨_, rfl, Grew.refl _, congrArg Value.bool (by simp)⟩
      · intro a w ht hs hg -- 140
        have h139 : a.tmps.getD 139 undef = _ := By.given_get hg 2 rfl rfl (by kernel_rfl)
        refine By.yes rfl ?_
        clear hs hg
        go_simp
        exact ⟨_, rfl, Grew.refl _, rfl⟩
      · intro a w ht hs hg -- 141
        have h22 := By.same_get hs 22 (by decide) (by kernel_rfl)
        have hg140 := By.given_get hg 3 rfl rfl (by kernel_rfl)
        refine By.yes (By.want_yes rfl rfl hg140) ?_
        clear hg140
        clear hs hg
        refine wp_loadRow 23 _ rfl h22 (Row.below (w := V2.drew) RX5.out ht RX5.out.lt) Try.underlying23 rfl (by kernel_rfl) HXm.out ?_
        exact ⟨_, rfl, Grew.refl _, rfl⟩
      · intro a w ht hs hg -- 142
        have h23 := By.same_get hs 23 (by decide) (by kernel_rfl)
        have hg140 := By.given_get hg 3 rfl rfl (by kernel_rfl)
        refine By.yes (By.want_yes rfl rfl hg140) ?_
        clear hg140
        clear hs hg
        refine wp_loadRow 23 _ rfl h23 (Row.below (w := V2.drew) RY5.out ht RY5.out.lt) Try.underlying23 rfl (by kernel_rfl) HYm.out ?_
        exact ⟨_, rfl, Grew.refl _, rfl⟩
      · intro a w ht hs hg -- 143
        have h141 : a.tmps.getD 141 undef = _ := By.given_get hg 4 rfl rfl (by kernel_rfl)
        have h142 : a.tmps.getD 142 undef = _ := By.given_get hg 5 rfl rfl (by kernel_rfl)
        have hg140 := By.given_get hg 3 rfl rfl (by kernel_rfl)
        refine By.yes (By.want_yes rfl rfl hg140) ?_
        clear hg140
        clear hs hg
        refine wp_eqArr _ _ rfl (by kernel_rfl) h141 h142 (eqW X Y HXl.out HYl.out w) ?_
        exact ⟨_, rfl, Grew.refl _, congrArg Value.bool HXY.out⟩
      · intro a w ht hs hg -- 144
        have h6 := By.same_get hs 6 (by decide) (by kernel_rfl)
        have hg140 := By.given_get hg 3 rfl rfl (by kernel_rfl)
        refine By.yes (By.want_yes rfl rfl hg140) ?_
        clear hg140
        clear hs hg
        refine wp_loadRow 24 _ rfl h6 (Row.below (w := V2.drew) RK5.out ht RK5.out.lt) Try.underlying24 rfl (by kernel_rfl) HKm.out ?_
        exact ⟨_, rfl, Grew.refl _, rfl⟩
      · intro a w ht hs hg -- 145
        have h7 := By.same_get hs 7 (by decide) (by kernel_rfl)
        have hg140 := By.given_get hg 3 rfl rfl (by kernel_rfl)
        refine By.yes (By.want_yes rfl rfl hg140) ?_
        clear hg140
        clear hs hg
        refine wp_loadRow 24 _ rfl h7 (Row.below (w := V2.drew) RL5.out ht RL5.out.lt) Try.underlying24 rfl (by kernel_rfl) HLm.out ?_
        exact ⟨_, rfl, Grew.refl _, rfl⟩
      · intro a w ht hs hg -- 146
        have h144 : a.tmps.getD 144 undef = _ := By.given_get hg 7 rfl rfl (by kernel_rfl)
        have h145 : a.tmps.getD 145 undef = _ := By.given_get hg 8 rfl rfl (by kernel_rfl)
        have hg140 := By.given_get hg 3 rfl rfl (by kernel_rfl)
        refine By.yes (By.want_yes rfl rfl hg140) ?_
        clear hg140
        clear hs hg
        refine wp_eqArr _ _ rfl (by kernel_rfl) h144 h145 (eqK k l HK.out HL.out w) ?_
        exact ⟨_, rfl, Grew.refl _, congrArg Value.bool Hbb.out⟩
      · intro a w ht hs hg -- 147
        have h143 : a.tmps.getD 143 undef = _ := By.given_get hg 6 rfl rfl (by kernel_rfl)
        have h146 : a.tmps.getD 146 undef = _ := By.given_get hg 9 rfl rfl (by kernel_rfl)
        have hg140 := By.given_get hg 3 rfl rfl (by kernel_rfl)
        refine By.yes (By.want_yes rfl rfl hg140) ?_
        clear hg140
        clear hs hg
        go_simp
        exact ⟨_, rfl, Grew.refl _, congrArg Value.bool (by simp)⟩
      · intro a w ht hs hg -- 148
        have h140 : a.tmps.getD 140 undef = _ := By.given_get hg 3 rfl rfl (by kernel_rfl)
        have h147 : a.tmps.getD 147 undef = _ := By.given_get hg 10 rfl rfl (by kernel_rfl)
        refine By.yes rfl ?_
        clear hs hg
        go_simp
        exact ⟨_, rfl, Grew.refl _, rfl⟩
      · intro a w ht hs hg -- 149
        have h148 : a.tmps.getD 148 undef = _ := By.given_get hg 11 rfl rfl (by kernel_rfl)
        refine By.yes rfl ?_
        clear hs hg
        go_simp
        exact ⟨_, rfl, Grew.refl _, rfl⟩
      · intro a w ht hs hg -- 150
        have h6 := By.same_get hs 6 (by decide) (by kernel_rfl)
        have hg149 := By.given_get hg 12 rfl rfl (by kernel_rfl)
        refine By.yes (By.want_yes rfl rfl hg149) ?_
        clear hg149
        clear hs hg
        refine wp_loadRow 24 _ rfl h6 (Row.below (w := V2.drew) RK5.out ht RK5.out.lt) Try.underlying24 rfl (by kernel_rfl) HKm.out ?_
        exact ⟨_, rfl, Grew.refl _, rfl⟩
      · intro a w ht hs hg -- 151
        have h3 := By.same_get hs 3 (by decide) (by kernel_rfl)
        have hg149 := By.given_get hg 12 rfl rfl (by kernel_rfl)
        refine By.yes (By.want_yes rfl rfl hg149) ?_
        clear hg149
        clear hs hg
        go_simp
        exact ⟨_, rfl, Grew.refl _, rfl⟩
      · intro a w ht hs hg -- 152
        have h151 : a.tmps.getD 151 undef = _ := By.given_get hg 14 rfl rfl (by kernel_rfl)
        have hg149 := By.given_get hg 12 rfl rfl (by kernel_rfl)
        refine By.yes (By.want_yes rfl rfl hg149) ?_
        clear hg149
        clear hs hg
        have hadd := HAdd.out
        go_simp
        exact ⟨_, rfl, Grew.refl _, rfl⟩
      · intro a w ht hs hg -- 153
        have h9 := By.same_get hs 9 (by decide) (by kernel_rfl)
        have hg149 := By.given_get hg 12 rfl rfl (by kernel_rfl)
        refine By.yes (By.want_yes rfl rfl hg149) ?_
        clear hg149
        clear hs hg
        refine wp_loadRow 25 _ rfl h9 (Row.below (w := V2.drew) RN5.out ht RN5.out.lt) Try.underlying25 rfl (by kernel_rfl) HNm.out ?_
        exact ⟨_, rfl, Grew.refl _, rfl⟩
      · intro a w ht hs hg -- 154
        have h150 : a.tmps.getD 150 undef = _ := By.given_get hg 13 rfl rfl (by kernel_rfl)
        have h152 : a.tmps.getD 152 undef = _ := By.given_get hg 15 rfl rfl (by kernel_rfl)
        have h153 : a.tmps.getD 153 undef = _ := By.given_get hg 16 rfl rfl (by kernel_rfl)
        have hg149 := By.given_get hg 12 rfl rfl (by kernel_rfl)
        refine By.yes (By.want_yes rfl rfl hg149) ?_
        clear hg149
        clear hs hg
        go_simp
        refine (State_any k nn (c + 1#32) HK.out HN.out w).mono ?_
        rintro r w' ⟨rfl, hb⟩
        exact ⟨_, rfl, hb, congrArg arr32 HZ.out⟩
      · intro a w ht hs hg -- 155
        have h22 := By.same_get hs 22 (by decide) (by kernel_rfl)
        have hg149 := By.given_get hg 12 rfl rfl (by kernel_rfl)
        refine By.yes (By.want_yes rfl rfl hg149) ?_
        clear hg149
        clear hs hg
        refine wp_loadRow 23 _ rfl h22 (Row.below (w := V2.drew) RX5.out ht RX5.out.lt) Try.underlying23 rfl (by kernel_rfl) HXm.out ?_
        exact ⟨_, rfl, Grew.refl _, rfl⟩
      · intro a w ht hs hg -- 156
        have h154 : a.tmps.getD 154 undef = _ := By.given_get hg 17 rfl rfl (by kernel_rfl)
        have h155 : a.tmps.getD 155 undef = _ := By.given_get hg 18 rfl rfl (by kernel_rfl)
        have hg149 := By.given_get hg 12 rfl rfl (by kernel_rfl)
        refine By.yes (By.want_yes rfl rfl hg149) ?_
        clear hg149
        clear hs hg
        refine wp_neqArr _ _ rfl (by kernel_rfl) h154 h155 (eqW Z X HZl.out HXl.out w) ?_
        exact ⟨_, rfl, Grew.refl _, congrArg Value.bool (by rw [decide_eq_false HZX.out]; rfl)⟩
      · intro a w ht hs hg -- 157
        have h149 : a.tmps.getD 149 undef = _ := By.given_get hg 12 rfl rfl (by kernel_rfl)
        have h156 : a.tmps.getD 156 undef = _ := By.given_get hg 19 rfl rfl (by kernel_rfl)
        refine By.yes rfl ?_
        clear hs hg
        go_simp
        exact ⟨_, rfl, Grew.refl _, rfl⟩
      · intro a w ht hs hg -- 10
        have h157 : a.tmps.getD 157 undef = _ := By.given_get hg 20 rfl rfl (by kernel_rfl)
        refine By.yes rfl ?_
        clear hs hg
        go_simp
        exact ⟨_, rfl, Grew.refl _, rfl⟩
      refine By.ends_is (By.ends_is (By.ends_is (By.ends_is (By.ends_is (By.ends_is (By.ends_is (By.ends_is (By.ends_is (By.ends_is (By.ends_is (By.ends_is (By.ends_is (By.ends_is (By.ends_is (By.ends_is (By.ends_is (By.ends_is (By.ends_is (By.ends_is (By.ends_is (By.ends_is (By.ends_nil fun wz hz => ?_))))))))))))))))))))))
      simp only [Act.put, List.setIfInBounds_toArray, List.set_cons_succ, List.set_cons_zero]
      go_wp2
      go_ret
      exact ⟨rfl, nextB (b := V2.drew) HB5.out.drew (Nat.le_refl _) hz⟩

set_option maxRecDepth 100000 in
theorem lift (os : Os) (started : os.Started) (H : Type) (enc : TypeId × Value → H) :
    ReturnsInHanded {} Try.checked os 3 .any (Rows.chachaTurnsSpec.pre6 enc Try.prog Try.f3 Rows.chachaTurnsRow.domain false) (Rows.chachaTurnsSpec.post enc Try.prog Try.f3 false true false false) := by
  refine Law.lifted (C := Try.checked) 4 own started (by kernel_rfl) Try.func3 laid (by kernel_rfl) rfl Try.underlying4 rfl
    (fun ds hd => by
      have hd' : ds.length = 5 := hd
      match ds, hd' with
      | [d0, d1, d2, d3, d4], _ => rfl)
    (ChangeSpec.witness6 (enc := enc) (C := Try.checked) false ⟨#[], #[.agg (Array.replicate 16 (.int .u32 0)), .agg (Array.replicate 32 (.int .u8 0)), .agg (Array.replicate 32 (.int .u8 0)), .int .u32 0, .agg (Array.replicate 12 (.int .u8 0))], []⟩ 8 (by kernel_rfl) (by kernel_rfl) (by kernel_rfl) (by kernel_rfl)) ?_
  intro W args ds ps hst
  have hA : DataW.TrodAll enc Try.prog W 0 (fun _ => true) true Try.f3.params.toList args.toList ds ps := hst.trod
  have hok := hst.okw
  have hlt := hst.lt
  rw [Try.params3] at hA hok
  obtain ⟨v0, r0, d0, e0, p0, q0, hargs, rfl, rfl, h0, hA⟩ := trodAll_cons hA
  obtain ⟨v1, r1, d1, e1, p1, q1, rfl, rfl, rfl, h1, hA⟩ := trodAll_cons hA
  obtain ⟨v2, r2, d2, e2, p2, q2, rfl, rfl, rfl, h2, hA⟩ := trodAll_cons hA
  obtain ⟨v3, r3, d3, e3, p3, q3, rfl, rfl, rfl, h3, hA⟩ := trodAll_cons hA
  obtain ⟨v4, r4, d4, e4, p4, q4, rfl, rfl, rfl, h4, hA⟩ := trodAll_cons hA
  obtain ⟨rfl, rfl, rfl⟩ := trodAll_nil hA
  obtain rfl : args = #[v0, v1, v2, v3, v4] := by cases args; simp_all
  obtain ⟨_, hv0⟩ := hok 0 23 v0 rfl rfl
  obtain ⟨_, hv1⟩ := hok 1 24 v1 rfl rfl
  obtain ⟨_, hv2⟩ := hok 2 24 v2 rfl rfl
  obtain ⟨_, hv3⟩ := hok 3 22 v3 rfl rfl
  obtain ⟨_, hv4⟩ := hok 4 25 v4 rfl rfl
  obtain ⟨s0, rfl, hs0⟩ := arr32_at Try.underlying23 (by kernel_rfl) (by kernel_rfl) Try.underlying22 hv0
  obtain ⟨k, rfl, hk⟩ := arr8_at Try.underlying24 (by kernel_rfl) (by kernel_rfl) Try.underlying5 hv1
  obtain ⟨l, rfl, hl⟩ := arr8_at Try.underlying24 (by kernel_rfl) (by kernel_rfl) Try.underlying5 hv2
  obtain ⟨c, rfl⟩ := word_at Try.underlying22 hv3
  obtain ⟨nn, rfl, hn⟩ := arr8_at Try.underlying25 (by kernel_rfl) (by kernel_rfl) Try.underlying5 hv4
  exact walk s0 hs0 k l nn hk hl hn c W

theorem over : Rows.chachaTurnsRow.holds Try.pinned (OpenSpec.ofChange Rows.chachaTurnsSpec) :=
  OpenClaim.holds_of_wide 3 Try.f3 rfl rfl rfl rfl rfl rfl rfl ⟨rfl, rfl, rfl, rfl, rfl⟩ rfl rfl rfl rfl rfl (by kernel_rfl) Try.func3 (by kernel_rfl)
    (of_decide_eq_true (by kernel_rfl)) (by unfold Func.isWrapper; first | (rw [if_pos (by decide +kernel)]; kernel_rfl) | (rw [if_neg (by decide +kernel)]; exact ⟨rfl, rfl⟩))
    (fun os started H enc _ => lift os started H enc)
theorem proved : Rows.ChachaTurnsSaid := over
#print axioms proved
end Go.Proofs.Ytpllbnioncjhaaa.chachaTurns

