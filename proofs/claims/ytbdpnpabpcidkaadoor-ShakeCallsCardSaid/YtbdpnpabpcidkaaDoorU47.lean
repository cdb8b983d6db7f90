/- Texts that the proofs share: ShkCheck, ShkHello, ShkRHm. -/
import Derived.Test.YtbdpnpabpcidkaaDoorU27
import Derived.Test.YtbdpnpabpcidkaaDoorU32
import Derived.Test.YtbdpnpabpcidkaaDoorU33
import Derived.Test.YtbdpnpabpcidkaaDoorU41
import Derived.Test.YtbdpnpabpcidkaaDoorU42
namespace Go.Proofs.YtbdpnpabpcidkaaDoor.Shk
open Go.RowKit
open Pkt (Pk code_name wpList_name wpList_ld l_all l_mrk c_kind Head BodyOk chk Check_any)
def chkk (p : Pk) (n : Nat) (k : Int) (m : List UInt8) : Int := if Head p ∧ BodyOk p n then (if p.kind = k then (if p.mrk = m then 0 else 12) else 2) else 2
theorem l_a32 {w : World} {g : Nat} {key : List UInt8} (h : Row w g (key.map bv) 24) (hk : key.length = 32) : (loadVar 24 ⟨g, 0, none⟩).run Tryd.prog w = .ok (arr8 key) w := by
 rw [Pol.run_loadVar_sub (off := 0) (n := 32) w h Tryd.underlying24 rfl (by kernel_rfl) (by rw [List.length_map]; omega), List.drop_zero, List.take_of_length_le (by rw [List.length_map]; omega)]
 rfl
structure Few (ls : List (List UInt8)) : Prop where
 n : ls.length ≤ 1000
 m : ∀ l ∈ ls, l.length ≤ 1000000
 f : ls.flatten.length ≤ 1000000
set_option maxRecDepth 100000 in
set_option maxHeartbeats 2000000 in
theorem check_any (key tb : List UInt8) (p : Pk) (k : Int) (ls : List (List UInt8)) (lv : Value) (hk : key.length = 32) (ho : p.Ok) (A : Option Addr) (n c : Nat) (hbo : p.bo = .slice A n c) (htb : tb.length ≤ 1000) (w : World) (ht : Tab w) (hb : Bss w w.heap.size lv ls) (hf : Few ls) :
 Calls Tryd.prog 61 #[arr8 key, p.val, .int .i64 k, strOf tb, lv] w fun e w' => e = .returned (.int .i64 (chkk p n k (mark key (tb ++ ls.flatten)))) ∧ Below w.heap.size w w' := by
 have Hkl := Lib.hid hk
 have Ho := Lib.hid ho
 have Hbo := Lib.hid hbo
 have Htb := Lib.hid htb
 have Hf := Lib.hid hf
 obtain ⟨A2, c2, rfl, _, _⟩ := id hb
 obtain ⟨lv, hlv⟩ : ∃ lv, Value.slice A2 ls.length c2 = lv := ⟨_, rfl⟩
 rw [hlv] at hb ⊢
 obtain ⟨M, hM⟩ : ∃ M, mark key (tb ++ ls.flatten) = M := ⟨_, rfl⟩
 have HMl := Lib.hid (show M.length = 16 by rw [← hM]; exact mark_length _ _)
 have HM := Lib.hid hM
 rw [hM]
 have Hb := Lib.hid hb
 have Ht := Lib.hid ht
 obtain ⟨g0, hg0⟩ : ∃ g, w.heap.size = g := ⟨_, rfl⟩
 have Hg0 := Lib.hid hg0
 clear hk ho hbo htb hf hlv hM hb ht
 unfold arr8 Pk.val
 have HP := Lib.hid (show Row ((w.alloc (.cells (key.map bv).toArray 24)).alloc (.cells p.cells.toArray 40)) (g0 + 1) p.cells 40 from hg0 ▸ Row.new (by simp) rfl)
 have HK := Lib.hid (show Row ((w.alloc (.cells (key.map bv).toArray 24)).alloc (.cells p.cells.toArray 40)) g0 (key.map bv) 24 from hg0 ▸ (Row.new rfl rfl).alloc _)
 have HB0 := Lib.hid (show Below w.heap.size w ((w.alloc (.cells (key.map bv).toArray 24)).alloc (.cells p.cells.toArray 40)) from ((Below.refl _ w).alloc (Nat.le_refl _) _).alloc (by simp) _)
 have HL := Lib.hid ((Hb.out.below HB0.out).more' HB0.out.size)
 have HT := Lib.hid (Ht.out.below HB0.out Ht.out.1)
 have hld := l_all HP.out Ho.out
 rw [← hg0] at hld
 unfold Pk.val at hld
 have HLd := Lib.hid hld
 clear hld hg0
 go_enter Tryd.func61, Tryd.ntmps61
 go_wp2_with (first
  | (refine wpList_ld 40 rfl rfl HLd.out rfl ?_)
  | fail)
 refine (Check_any p Ho.out A n c Hbo.out _).mono ?_
 rintro e w1 ⟨rfl, hb1⟩
 rw [Hg0.out]
 have HB1 := Lib.hid (nextB HB0.out (Nat.le_refl _) hb1)
 have HK1 := Lib.hid (HK.out.below hb1 HK.out.lt)
 have HP1 := Lib.hid (HP.out.below hb1 HP.out.lt)
 have HL1 := Lib.hid ((HL.out.below hb1).more' hb1.size)
 have HT1 := Lib.hid (HT.out.below hb1 HT.out.1)
 have ck := c_kind HP1.out
 clear hb1
 by_cases h : Head p ∧ BodyOk p n
 · have hc : chk p n = 0 := if_pos h
   rw [hc]
   by_cases h2 : p.kind = k
   · have hres : chkk p n k M = if p.mrk = M then 0 else 12 := by rw [chkk, if_pos h, if_pos h2]
     rw [h2] at ck
     have Hres := Lib.hid hres
     clear hres h hc h2
     go_wp2_with fail
     refine By.marks Pol.mixed Grew [By.is (.pointer (some ⟨(g0 + 1), 21, none⟩)),
      By.is (arr8 p.mrk),
      By.is (arr8 key),
      By.is (strOf tb),
      By.is lv,
      By.is (arr8 M),
      By.is (.bool (decide (p.mrk = M))),
      By.is (.bool (!decide (p.mrk = M)))]
      (Ev.masks _ []) (by kernel_rfl) rfl Grew.refl Grew.trans ⟨?_, ?_, ?_, ?_, ?_, ?_, ?_, ?_, trivial⟩ ?_
     · intro a w ht hs hg
       have h6 := By.same_get hs 6 (by decide) (by kernel_rfl)
       refine By.yes rfl ?_
       clear hs hg
       go_simp
       exact ⟨_, rfl, Grew.refl _, rfl⟩
     · intro a w ht hs hg
       have h21 : a.tmps.getD 21 undef = _ := By.given_get hg 0 rfl rfl (by kernel_rfl)
       refine By.yes rfl ?_
       clear hs hg
       have hr := l_mrk (Row.below (w := w1.drew) HP1.out ht HP1.out.lt) Ho.out
       refine wp_ld 38 _ rfl h21 hr ?_
       exact ⟨_, rfl, Grew.refl _, rfl⟩
     · intro a w ht hs hg
       have h5 := By.same_get hs 5 (by decide) (by kernel_rfl)
       refine By.yes rfl ?_
       clear hs hg
       have hr := l_a32 (Row.below (w := w1.drew) HK1.out ht HK1.out.lt) Hkl.out
       refine wp_ld 24 _ rfl h5 hr ?_
       exact ⟨_, rfl, Grew.refl _, rfl⟩
     · intro a w ht hs hg
       have h3 := By.same_get hs 3 (by decide) (by kernel_rfl)
       refine By.yes rfl ?_
       clear hs hg
       go_simp
       exact ⟨_, rfl, Grew.refl _, rfl⟩
     · intro a w ht hs hg
       have h4 := By.same_get hs 4 (by decide) (by kernel_rfl)
       refine By.yes rfl ?_
       clear hs hg
       go_simp
       exact ⟨_, rfl, Grew.refl _, rfl⟩
     · intro a w ht hs hg
       have h23 : a.tmps.getD 23 undef = _ := By.given_get hg 2 rfl rfl (by kernel_rfl)
       have h24 : a.tmps.getD 24 undef = _ := By.given_get hg 3 rfl rfl (by kernel_rfl)
       have h25 : a.tmps.getD 25 undef = _ := By.given_get hg 4 rfl rfl (by kernel_rfl)
       refine By.yes rfl ?_
       clear hs hg
       have HLw := Lib.hid ((HL1.out.below (grew_below ht)).more' ht.size)
       have HTw := Lib.hid (HT1.out.below (grew_below ht) HT1.out.1)
       clear ht
       unfold arr8 at h23
       go_simp
       refine (Mark_any key tb ls lv Hkl.out (by have := Htb.out; omega) w HTw.out HLw.out Hf.out.n Hf.out.m Hf.out.f).mono ?_
       rintro e w8 ⟨rfl, hb8⟩
       exact ⟨_, rfl, hb8, congrArg arr8 HM.out⟩
     · intro a w ht hs hg
       have h22 : a.tmps.getD 22 undef = _ := By.given_get hg 1 rfl rfl (by kernel_rfl)
       have h26 : a.tmps.getD 26 undef = _ := By.given_get hg 5 rfl rfl (by kernel_rfl)
       refine By.yes rfl ?_
       clear hs hg
       clear ht
       unfold arr8 at h22 h26
       go_simp
       refine (isSame_any Ho.out.m HMl.out w).mono ?_
       rintro e w8 ⟨rfl, hb8⟩
       exact ⟨_, rfl, hb8, rfl⟩
     · intro a w ht hs hg
       have h27 : a.tmps.getD 27 undef = _ := By.given_get hg 6 rfl rfl (by kernel_rfl)
       refine By.yes rfl ?_
       clear hs hg
       go_simp
       exact ⟨_, rfl, Grew.refl _, rfl⟩
     refine By.ends_is (By.ends_is (By.ends_is (By.ends_is (By.ends_is (By.ends_is (By.ends_is (By.ends_is (By.ends_nil fun w9 hw9 => ?_))))))))
     simp only [Act.put, List.setIfInBounds_toArray, List.set_cons_succ, List.set_cons_zero]
     have HB9 := Lib.hid (nextB HB1.out (Nat.le_refl _) (grew_below hw9))
     obtain ⟨d, hd⟩ : ∃ d, decide (p.mrk = M) = d := ⟨_, rfl⟩
     rw [hd]
     clear hw9
     cases d with
     | true =>
       have Hd := Lib.hid (of_decide_eq_true hd)
       clear hd
       go_wp2
       go_ret
       exact ⟨by rw [Hres.out, if_pos Hd.out]; rfl, HB9.out⟩
     | false =>
       have Hd := Lib.hid (of_decide_eq_false hd)
       clear hd
       go_wp2
       go_ret
       exact ⟨by rw [Hres.out, if_neg Hd.out]; rfl, HB9.out⟩
   · have hres : chkk p n k M = 2 := by rw [chkk, if_pos h, if_neg h2]
     have hkk : (p.kind != k) = true := by simp [h2]
     clear h hc h2
     go_wp2
     go_ret
     exact ⟨by rw [hres]; rfl, HB1.out⟩
 · have hc : chk p n = 2 := if_neg h
   have hres : chkk p n k M = 2 := by rw [chkk, if_neg h]
   rw [hc]
   clear h hc
   go_wp2
   go_ret
   exact ⟨by rw [hres]; rfl, HB1.out⟩
def hello5 : List UInt8 := [104, 101, 108, 108, 111]
theorem few_hello {p : Pk} (ho : p.Ok) : Few (helloL p) := by
 have h4 := Oct.bytesBE_length 4 (p32 p.peer)
 have h := ho.r
 refine ⟨by simp [helloL], fun l hl => ?_, by simp [helloL, h4, h]⟩
 simp only [helloL, List.mem_cons, List.not_mem_nil, or_false] at hl
 rcases hl with rfl | rfl <;> omega
set_option maxRecDepth 100000 in
set_option maxHeartbeats 2000000 in
theorem CheckHello_any (key : List UInt8) (p : Pk) (hk : key.length = 32) (ho : p.Ok) (A : Option Addr) (n c : Nat) (hbo : p.bo = .slice A n c) (w : World) (ht : Tab w) :
 Calls Tryd.prog 32 #[arr8 key, p.val] w fun e w' => e = .returned (.int .i64 (chkk p n 1 (mark key (hello5 ++ (helloL p).flatten)))) ∧ Below w.heap.size w w' := by
 have Hkl := Lib.hid hk
 have Ho := Lib.hid ho
 have Hbo := Lib.hid hbo
 have Ht := Lib.hid ht
 obtain ⟨g0, hg0⟩ : ∃ g, w.heap.size = g := ⟨_, rfl⟩
 have Hg0 := Lib.hid hg0
 clear hk ho hbo ht hg0
 unfold arr8 Pk.val
 go_enter Tryd.func32, Tryd.ntmps32
 go_wp2_with fail
 refine code_name fun W0 hW0 => ?_
 rw [Hg0.out]
 have HK := Lib.hid (show Row W0 g0 (key.map bv) 24 from Hg0.out ▸ hW0 ▸ (Row.new rfl rfl).alloc _)
 have HP := Lib.hid (show Row W0 (g0 + 1) p.cells 40 from Hg0.out ▸ hW0 ▸ Row.new (by simp) rfl)
 have HB0 := Lib.hid (show Below w.heap.size w W0 from hW0 ▸ ((Below.refl _ w).alloc (Nat.le_refl _) _).alloc (by simp) _)
 have HT := Lib.hid (Ht.out.below HB0.out Ht.out.1)
 clear hW0
 refine By.marks Pol.mixed Grew [By.is (arr8 key),
  By.is p.val,
  By.is p.val,
  bssM (helloL p),
  By.is (.int .i64 (chkk p n 1 (mark key (hello5 ++ (helloL p).flatten)))),
  By.is (.int .i64 (chkk p n 1 (mark key (hello5 ++ (helloL p).flatten))))]
  (Ev.masks _ []) (by kernel_rfl) rfl Grew.refl Grew.trans ⟨?_, ?_, ?_, ?_, ?_, ?_, trivial⟩ ?_
 · intro a w ht hs hg
   have h2 := By.same_get hs 2 (by decide) (by kernel_rfl)
   refine By.yes rfl ?_
   clear hs hg
   have hr := l_a32 (Row.below (w := W0.drew) HK.out ht HK.out.lt) Hkl.out
   refine wp_ld 24 _ rfl h2 hr ?_
   exact ⟨_, rfl, Grew.refl _, rfl⟩
 · intro a w ht hs hg
   have h3 := By.same_get hs 3 (by decide) (by kernel_rfl)
   refine By.yes rfl ?_
   clear hs hg
   have hr := l_all (Row.below (w := W0.drew) HP.out ht HP.out.lt) Ho.out
   refine wp_ld 40 _ rfl h3 hr ?_
   exact ⟨_, rfl, Grew.refl _, rfl⟩
 · intro a w ht hs hg
   have h3 := By.same_get hs 3 (by decide) (by kernel_rfl)
   refine By.yes rfl ?_
   clear hs hg
   have hr := l_all (Row.below (w := W0.drew) HP.out ht HP.out.lt) Ho.out
   refine wp_ld 40 _ rfl h3 hr ?_
   exact ⟨_, rfl, Grew.refl _, rfl⟩
 · intro a w ht hs hg
   have h7 : a.tmps.getD 7 undef = _ := By.given_get hg 2 rfl rfl (by kernel_rfl)
   refine By.yes rfl ?_
   clear hs hg
   clear ht
   unfold Pk.val at h7
   go_simp
   refine (helloBytes_any p Ho.out w).mono ?_
   rintro e w' ⟨v, rfl, hv, hb⟩
   exact ⟨_, rfl, hb, hv.bss⟩
 · intro a w ht hs hg
   have h5 : a.tmps.getD 5 undef = _ := By.given_get hg 0 rfl rfl (by kernel_rfl)
   have h6 : a.tmps.getD 6 undef = _ := By.given_get hg 1 rfl rfl (by kernel_rfl)
   have h8 := By.given_get hg 3 rfl rfl (by kernel_rfl)
   refine By.yes rfl ?_
   obtain ⟨v8, hv8⟩ : ∃ v, a.tmps.getD 8 undef = v := ⟨_, rfl⟩
   replace h8 := (congrArg (fun v => ((bssM (helloL p))).on v w) hv8).mp h8
   clear hs hg
   have HTw := Lib.hid (HT.out.below (grew_below ht) HT.out.1)
   have HLw := Lib.hid h8
   obtain ⟨A8, c8, rfl, _, _⟩ := id HLw.out
   clear ht h8
   unfold arr8 at h5
   unfold Pk.val at h6
   go_simp
   refine (check_any key hello5 p 1 (helloL p) _ Hkl.out Ho.out A n c Hbo.out (by decide) w HTw.out HLw.out (few_hello Ho.out)).mono ?_
   rintro e w8 ⟨rfl, hb8⟩
   exact ⟨_, rfl, hb8, rfl⟩
 · intro a w ht hs hg
   have h9 : a.tmps.getD 9 undef = _ := By.given_get hg 4 rfl rfl (by kernel_rfl)
   refine By.yes rfl ?_
   clear hs hg
   go_simp
   exact ⟨_, rfl, Grew.refl _, rfl⟩
 refine By.ends_is (By.ends_is (By.ends_is (By.ends_skip fun v8 => (By.ends_is (By.ends_is (By.ends_nil fun w9 hw9 => ?_))))))
 simp only [Act.put, List.setIfInBounds_toArray, List.set_cons_succ, List.set_cons_zero]
 have HB9 := Lib.hid (nextB HB0.out (Nat.le_refl _) (grew_below hw9))
 clear hw9
 go_wp2
 go_ret
 exact ⟨rfl, Hg0.out ▸ HB9.out⟩
end Go.Proofs.YtbdpnpabpcidkaaDoor.Shk
namespace Go.Proofs.YtbdpnpabpcidkaaDoor.Shk
open Go.RowKit
open Pkt (Pk code_name wpList_name wpList_ld l_all c_ses Head BodyOk chk Check_any nm z16)
theorem wpList_build {P : Program} {w : World} {ops : Array Oper} {rest : List Oper} {o : Oper} {a : Act} {Q : Exit → Act → World → Prop} (hgd : o.guard = none) (t : TypeId) (parts : Array (Nat × Operand)) (ho : o.op = .build t parts) {v : Value}
 (hrun : (Instr.build t (parts.map fun (i, x) => (i, a.eval x))).run P w = .ok v w) (hk : wpList P ops Q rest (a.put o.dst v) w) : wpList P ops Q (o :: rest) a w := by
 refine wpList_plain hgd fun K hK => ?_
 unfold Oper.wp execOp
 simp only [ho, Sem.run_bind, Sem.run_pure, Result.andThen_ok, hrun]
 exact hK _ _ hk
def hp (z : Int) (r m : List UInt8) : Pk := ⟨1, z, 0, 0, 0, r, m, .slice none 0 0⟩
def ap (s e : Nat) (r m : List UInt8) : Pk := ⟨2, 0, s, e, 0, r, m, .slice none 0 0⟩
theorem hp_ok {z : Int} {r m : List UInt8} (hr : r.length = 16) (hm : m.length = 16) : (hp z r m).Ok := ⟨hr, hm, rfl⟩
theorem ap_ok {s e : Nat} {r m : List UInt8} (hr : r.length = 16) (hm : m.length = 16) : (ap s e r m).Ok := ⟨hr, hm, rfl⟩
set_option maxRecDepth 100000 in
theorem build_hp (z : Int) (w : World) : ∀ r : List UInt8, r.length = 16 → (Instr.build 40 #[(0, .int .i64 1), (1, .int .i64 z), (5, arr8 r)]).run Tryd.prog w = .ok (hp z r z16).val w
 | [_, _, _, _, _, _, _, _, _, _, _, _, _, _, _, _], _ => by kernel_rfl
set_option maxRecDepth 100000 in
theorem build_ap (s e : Nat) (w : World) : ∀ r : List UInt8, r.length = 16 → (Instr.build 40 #[(0, .int .i64 2), (2, .int .u64 (s : Int)), (3, .int .u32 (e : Int)), (5, arr8 r)]).run Tryd.prog w = .ok (ap s e r z16).val w
 | [_, _, _, _, _, _, _, _, _, _, _, _, _, _, _, _], _ => by kernel_rfl
theorem nm_ok : (nm 0).Ok := ⟨rfl, rfl, rfl⟩
theorem l_a16 {w : World} {g : Nat} {r : List UInt8} (h : Row w g (r.map bv) 38) (hk : r.length = 16) : (loadVar 38 ⟨g, 0, none⟩).run Tryd.prog w = .ok (arr8 r) w := by
 rw [Pol.run_loadVar_sub (off := 0) (n := 16) w h Tryd.underlying38 rfl (by kernel_rfl) (by rw [List.length_map]; omega), List.drop_zero, List.take_of_length_le (by rw [List.length_map]; omega)]
 rfl
def helloP (key : List UInt8) (z : Int) (r : List UInt8) : Pk := hp z r (mark key (hello5 ++ (helloL (hp z r z16)).flatten))
def helloOk (z : Int) : Prop := 1 ≤ z ∧ z ≤ 65536
instance (z : Int) : Decidable (helloOk z) := by unfold helloOk; infer_instance
theorem chk_hp (z : Int) (r m : List UInt8) : chk (hp z r m) 0 = if helloOk z then 0 else 2 := by
 have e : (Head (hp z r m) ∧ BodyOk (hp z r m) 0) ↔ helloOk z := by
  unfold Head BodyOk hp helloOk
  simp
 unfold chk
 by_cases h : helloOk z
 · rw [if_pos (e.2 h), if_pos h]
 · rw [if_neg (fun k => h (e.1 k)), if_neg h]
set_option maxRecDepth 100000 in
set_option maxHeartbeats 2000000 in
theorem Hello_any (key : List UInt8) (z : Int) (r : List UInt8) (hk : key.length = 32) (hrl : r.length = 16) (w : World) (ht : Tab w) :
 Calls Tryd.prog 28 #[arr8 key, .int .i64 z, arr8 r] w fun e w' => e = .returned (if helloOk z then .tuple #[(helloP key z r).val, .int .i64 0] else .tuple #[(nm 0).val, .int .i64 2]) ∧ Below w.heap.size w w' := by
 have Hkl := Lib.hid hk
 have Hrl := Lib.hid hrl
 have Ht := Lib.hid ht
 obtain ⟨M, hM⟩ : ∃ M, mark key (hello5 ++ (helloL (hp z r z16)).flatten) = M := ⟨_, rfl⟩
 have HMl := Lib.hid (show M.length = 16 by rw [← hM]; exact mark_length _ _)
 have HM := Lib.hid hM
 have HX := Lib.hid (show helloP key z r = hp z r M by rw [helloP, hM])
 obtain ⟨R, hR⟩ : ∃ R, (if helloOk z then Value.tuple #[(helloP key z r).val, .int .i64 0] else .tuple #[(nm 0).val, .int .i64 2]) = R := ⟨_, rfl⟩
 have HRes := Lib.hid hR
 rw [hR]
 have HB0 := Lib.hid (show Below w.heap.size w (((w.alloc (.cells (key.map bv).toArray 24)).alloc (.cells (r.map bv).toArray 38)).alloc (.cells (nm 0).cells.toArray 40)) from (((Below.refl _ w).alloc (Nat.le_refl _) _).alloc (by simp) _).alloc (by simp; omega) _)
 have HK := Lib.hid (show Row (((w.alloc (.cells (key.map bv).toArray 24)).alloc (.cells (r.map bv).toArray 38)).alloc (.cells (nm 0).cells.toArray 40)) w.heap.size (key.map bv) 24 from ((Row.new rfl rfl).alloc _).alloc _)
 have HR := Lib.hid (show Row (((w.alloc (.cells (key.map bv).toArray 24)).alloc (.cells (r.map bv).toArray 38)).alloc (.cells (nm 0).cells.toArray 40)) (w.heap.size + 1) (r.map bv) 38 from (Row.new (by simp) rfl).alloc _)
 have HO := Lib.hid (show Row (((w.alloc (.cells (key.map bv).toArray 24)).alloc (.cells (r.map bv).toArray 38)).alloc (.cells (nm 0).cells.toArray 40)) (w.heap.size + 1 + 1) (nm 0).cells 40 from Row.new (by simp) rfl)
 have hrun := l_a16 HR.out hrl
 unfold arr8 at hrun
 have HRr := Lib.hid hrun
 have HHn := Lib.hid (show Row ((((w.alloc (.cells (key.map bv).toArray 24)).alloc (.cells (r.map bv).toArray 38)).alloc (.cells (nm 0).cells.toArray 40)).alloc (.cells (nm 0).cells.toArray 40)) (w.heap.size + 1 + 1 + 1) (nm 0).cells 40 from Row.new (by simp) rfl)
 clear hk hrl ht hM hR hrun
 unfold arr8
 go_enter Tryd.func28, Tryd.ntmps28
 go_wp2_with (first
  | (refine wpList_ld 38 rfl rfl HRr.out rfl ?_
     refine wpList_name fun W0 hW0 => ?_
     refine sstop ?_)
  | fail)
 unfold SStop
 have HK0 := Lib.hid (show Row W0 w.heap.size (key.map bv) 24 from hW0 ▸ HK.out)
 have HO0 := Lib.hid (show Row W0 (w.heap.size + 1 + 1) (nm 0).cells 40 from hW0 ▸ HO.out)
 have HBW := Lib.hid (show Below w.heap.size w W0 from hW0 ▸ HB0.out)
 have hs0 : W0.heap.size = w.heap.size + 1 + 1 + 1 := by rw [← hW0]; simp
 have Hs0 := Lib.hid hs0
 have Hg := Lib.hid (show Row (W0.alloc (.cells (nm 0).cells.toArray 40)) (w.heap.size + 1 + 1 + 1) (nm 0).cells 40 from Row.new hs0 rfl)
 clear hW0
 refine wpList_build rfl _ _ rfl (v := (hp z r z16).val) (Eq.trans (congrArg (fun q => (Instr.build 40 q).run Tryd.prog W0) (by kernel_rfl)) (build_hp z W0 r Hrl.out)) ?_
 go_wp2_with (first
  | (show wpList _ _ _ (⟨none, Op.store 40 _ _, _, _, _, _⟩ :: _) _ _
     refine wpList_storeRow (g := w.heap.size + 1 + 1 + 1) rfl 40 _ _ rfl rfl rfl (cs := (hp z r z16).cells) Hg.out (by kernel_rfl) (Pk.length (hp_ok Hrl.out rfl)) (Pk.length nm_ok) (Pk.one (hp_ok Hrl.out rfl)) ?_
     refine wpList_name fun V hV => ?_
     refine sstop ?_)
  | fail)
 unfold SStop
 have HKV := Lib.hid (show Row V w.heap.size (key.map bv) 24 by rw [← hV]; exact (HK0.out.alloc _).setOther _ _ (by omega))
 have HOV := Lib.hid (show Row V (w.heap.size + 1 + 1) (nm 0).cells 40 by rw [← hV]; exact (HO0.out.alloc _).setOther _ _ (by omega))
 have HHV := Lib.hid (show Row V (w.heap.size + 1 + 1 + 1) (hp z r z16).cells 40 by rw [← hV]; exact Hg.out.setRow _)
 have HBV := Lib.hid (show Below w.heap.size w V by rw [← hV]; exact below_setRow (HBW.out.alloc (by omega) _) (by omega) _)
 have HTV := Lib.hid (Ht.out.below HBV.out Ht.out.1)
 have HLd := Lib.hid (l_all HHV.out (hp_ok Hrl.out rfl))
 clear hV hs0
 go_wp2_with (first
  | (refine wpList_ld 40 rfl rfl HLd.out rfl ?_)
  | fail)
 refine (Check_any (hp z r z16) (hp_ok Hrl.out rfl) none 0 0 rfl _).mono ?_
 rintro e w1 ⟨rfl, hb1⟩
 rw [chk_hp]
 have HB1 := Lib.hid (nextB HBV.out (Nat.le_refl _) hb1)
 have HK1 := Lib.hid (HKV.out.below hb1 HKV.out.lt)
 have HO1 := Lib.hid (HOV.out.below hb1 HOV.out.lt)
 have HH1 := Lib.hid (HHV.out.below hb1 HHV.out.lt)
 have HT1 := Lib.hid (HTV.out.below hb1 HTV.out.1)
 clear hb1
 by_cases h : helloOk z
 · rw [if_pos h]
   have Hh := Lib.hid h
   clear h
   go_wp2_with fail
   refine Tail.marksAt Pol.mixed 5 Grew [By.is (arr8 key),
    By.is (hp z r z16).val,
    bssM (helloL (hp z r z16)),
    By.is (arr8 M),
    By.is (.pointer (some ⟨(w.heap.size + 1 + 1 + 1), 21, none⟩))]
    (Ev.masks _ []) (Nat.zero_lt_succ _) (by kernel_rfl) (by kernel_rfl) rfl Grew.refl Grew.trans ⟨?_, ?_, ?_, ?_, ?_, trivial⟩ ?_
   · intro a w ht hs hg
     have h3 := By.same_get hs 3 (by decide) (by kernel_rfl)
     refine By.yes rfl ?_
     clear hs hg
     have hr := l_a32 (Row.below (w := w1.drew) HK1.out ht HK1.out.lt) Hkl.out
     refine wp_ld 24 _ rfl h3 hr ?_
     exact ⟨_, rfl, Grew.refl _, rfl⟩
   · intro a w ht hs hg
     have h8 := By.same_get hs 8 (by decide) (by kernel_rfl)
     refine By.yes rfl ?_
     clear hs hg
     have hr := l_all (Row.below (w := w1.drew) HH1.out ht HH1.out.lt) (hp_ok Hrl.out rfl)
     refine wp_ld 40 _ rfl h8 hr ?_
     exact ⟨_, rfl, Grew.refl _, rfl⟩
   · intro a w ht hs hg
     have h20 : a.tmps.getD 20 undef = _ := By.given_get hg 1 rfl rfl (by kernel_rfl)
     refine By.yes rfl ?_
     clear hs hg
     clear ht
     unfold Pk.val at h20
     go_simp
     refine (helloBytes_any (hp z r z16) (hp_ok Hrl.out rfl) w).mono ?_
     rintro e w' ⟨v, rfl, hv, hb⟩
     exact ⟨_, rfl, hb, hv.bss⟩
   · intro a w ht hs hg
     have h19 : a.tmps.getD 19 undef = _ := By.given_get hg 0 rfl rfl (by kernel_rfl)
     have h21 := By.given_get hg 2 rfl rfl (by kernel_rfl)
     refine By.yes rfl ?_
     obtain ⟨v21, hv21⟩ : ∃ v, a.tmps.getD 21 undef = v := ⟨_, rfl⟩
     replace h21 := (congrArg (fun v => ((bssM (helloL (hp z r z16)))).on v w) hv21).mp h21
     clear hs hg
     have HTw := Lib.hid (HT1.out.below (grew_below ht) HT1.out.1)
     have HLw := Lib.hid h21
     obtain ⟨A8, c8, rfl, _, _⟩ := id HLw.out
     clear ht h21
     unfold arr8 at h19
     go_simp
     have hfw := few_hello (p := hp z r z16) (hp_ok Hrl.out rfl)
     refine (Mark_any key hello5 (helloL (hp z r z16)) _ Hkl.out (by decide) w HTw.out HLw.out hfw.n hfw.m hfw.f).mono ?_
     rintro e w8 ⟨rfl, hb8⟩
     exact ⟨_, rfl, hb8, congrArg arr8 HM.out⟩
   · intro a w ht hs hg
     have h8 := By.same_get hs 8 (by decide) (by kernel_rfl)
     refine By.yes rfl ?_
     clear hs hg
     go_simp
     exact ⟨_, rfl, Grew.refl _, rfl⟩
   refine By.ends_is (By.ends_is (By.ends_skip fun v21 => (By.ends_is (By.ends_is (By.ends_nil fun w9 hw9 => ?_)))))
   simp only [Act.put, List.setIfInBounds_toArray, List.set_cons_succ, List.set_cons_zero]
   simp only [List.drop_succ_cons, List.drop_zero]
   have hbw := grew_below hw9
   have HB9 := Lib.hid (nextB HB1.out (Nat.le_refl _) hbw)
   have HH9 := Lib.hid (HH1.out.below hbw HH1.out.lt)
   have HO9 := Lib.hid (HO1.out.below hbw HO1.out.lt)
   clear hw9 hbw
   refine Pol.wpList_storeSub (n := 16) rfl 38 (.tmp 23) (.tmp 22) rfl rfl rfl (cs := M.map bv) HH9.out (by kernel_rfl) (by rw [List.length_map]; exact HMl.out) (by rw [List.length_map, HMl.out, Pk.length (hp_ok Hrl.out rfl)]; omega) (hbytes_one M) ?_
   rw [Pkt.sp_mrk _ (hp_ok Hrl.out rfl) M HMl.out]
   refine wpList_name fun V hV => ?_
   have HHV := Lib.hid (show Row V (w.heap.size + 1 + 1 + 1) (hp z r M).cells 40 by rw [← hV]; exact HH9.out.setRow _)
   have HOV := Lib.hid (show Row V (w.heap.size + 1 + 1) (nm 0).cells 40 by rw [← hV]; exact HO9.out.setOther _ _ (by omega))
   have HBV := Lib.hid (show Below w.heap.size w V by rw [← hV]; exact below_setRow HB9.out (by omega) _)
   have HLd := Lib.hid (l_all HHV.out (hp_ok Hrl.out HMl.out))
   clear hV
   go_wp2_with (first
    | (refine wpList_ld 40 rfl rfl HLd.out rfl ?_)
    | (show wpList _ _ _ (⟨none, Op.store 40 _ _, _, _, _, _⟩ :: _) _ _
       refine wpList_storeRow (g := w.heap.size + 1 + 1) rfl 40 _ _ rfl rfl rfl (cs := (hp z r M).cells) HOV.out (by kernel_rfl) (Pk.length (hp_ok Hrl.out HMl.out)) (Pk.length nm_ok) (Pk.one (hp_ok Hrl.out HMl.out)) ?_)
    | fail)
   refine bodyPost_ret (results_ct rfl rfl (HOV.out.setRow (hp z r M).cells) Tryd.underlying40 rfl (by kernel_rfl) (Pk.length (hp_ok Hrl.out HMl.out))) rfl ?_
   exact ⟨by rw [← HRes.out, if_pos Hh.out, HX.out]; rfl, below_setRow HBV.out (by omega) _⟩
 · rw [if_neg h]
   have Hh := Lib.hid h
   clear h
   go_wp2_with (first
    | (show wpList _ _ _ (⟨some 17, _, _, _, _, _⟩ :: _) _ _; refine wpList_build rfl _ _ rfl (v := (nm 0).val) (by kernel_rfl) ?_)
    | (show wpList _ _ _ (⟨none, Op.store 40 _ _, _, _, _, _⟩ :: _) _ _
       refine wpList_storeRow (g := w.heap.size + 1 + 1) rfl 40 _ _ rfl rfl rfl (cs := (nm 0).cells) HO1.out (by kernel_rfl) (Pk.length nm_ok) (Pk.length nm_ok) (Pk.one nm_ok) ?_)
    | fail)
   refine bodyPost_ret (results_ct rfl rfl (HO1.out.setRow (nm 0).cells) Tryd.underlying40 rfl (by kernel_rfl) (Pk.length nm_ok)) rfl ?_
   exact ⟨by rw [← HRes.out, if_neg Hh.out]; rfl, below_setRow HB1.out (by omega) _⟩
end Go.Proofs.YtbdpnpabpcidkaaDoor.Shk
namespace Go.Proofs.YtbdpnpabpcidkaaDoor.Shk
open Go.RowKit
open Pkt (Pk code_name wpList_name wpList_ld c_peer c_ses c_epo l_all)
def p64 (z : Int) : Nat := (z % 18446744073709551616).toNat
theorem p64_wrap (z : Int) : IntKind.u64.wrap z = ((p64 z : Nat) : Int) := by
 rw [show IntKind.u64.wrap z = z % 18446744073709551616 by simp [IntKind.wrap, IntKind.signed, IntKind.bits]]
 unfold p64
 omega
theorem p64_low (z : Int) : p64 z % 4294967296 = p32 z := by
 unfold p64 p32
 omega
theorem be4_low (x : Nat) : Oct.bytesBE 4 (x % 4294967296) = Oct.bytesBE 4 x := by
 have h : ∀ d : Nat, d ∣ 16777216 → (x % 4294967296) / d % 256 = x / d % 256 := by
  intro d hd
  obtain ⟨e, he⟩ := hd
  have h1 : 4294967296 = d * (e * 256) := by rw [← Nat.mul_assoc, ← he]
  rw [h1, Nat.mod_mul_right_div_self, Nat.mod_mul_left_mod]
 simp only [Oct.bytesBE, Nat.div_div_eq_div_mul, List.nil_append, List.cons_append]
 simp only [Nat.reduceMul, h 16777216 (by decide), h 65536 (by decide), h 256 (by decide)]
 rw [show x % 4294967296 % 256 = x % 256 by omega]
theorem be4_p64 (z : Int) : Oct.bytesBE 4 (p64 z) = Oct.bytesBE 4 (p32 z) := by rw [← p64_low, be4_low]
set_option maxRecDepth 100000 in
set_option maxHeartbeats 2000000 in
theorem RHelloMark_any (key : List UInt8) (p : Pk) (hk : key.length = 32) (ho : p.Ok) (w : World) (ht : Tab w) :
 Calls Tryd.prog 63 #[arr8 key, p.val] w fun e w' => e = .returned (arr8 (mark key (hello5 ++ (helloL p).flatten))) ∧ Below w.heap.size w w' := by
 have Hkl := Lib.hid hk
 have Ho := Lib.hid ho
 have Ht := Lib.hid ht
 obtain ⟨M, hM⟩ : ∃ M, mark key (hello5 ++ (helloL p).flatten) = M := ⟨_, rfl⟩
 have HMl := Lib.hid (show (M.map bv).length = 16 by rw [List.length_map, ← hM]; exact mark_length _ _)
 have HM := Lib.hid (show mark key (hello5 ++ [Oct.bytesBE 4 (p64 p.peer), p.rnd].flatten) = M by rw [be4_p64]; exact hM)
 have Hfl := Lib.hid (show [Oct.bytesBE 4 (p64 p.peer), p.rnd].flatten.length ≤ 100000 by
  simp only [List.flatten_cons, List.flatten_nil, List.append_nil, List.length_append, ho.r, Oct.bytesBE]
  simp)
 rw [hM]
 clear hk ho ht hM
 unfold arr8 Pk.val
 go_enter Tryd.func63, Tryd.ntmps63
 go_wp2_with fail
 refine code_name fun W0 hW0 => ?_
 have HK := Lib.hid (show Row W0 w.heap.size (key.map bv) 24 from hW0 ▸ ((Row.new rfl rfl).alloc _).alloc _)
 have HP := Lib.hid (show Row W0 (w.heap.size + 1) p.cells 40 from hW0 ▸ (Row.new (by simp) rfl).alloc _)
 have HO := Lib.hid (show Row W0 (w.heap.size + 1 + 1) ((List.replicate 16 (0 : UInt8)).map bv) 38 from hW0 ▸ Row.new (by simp) rfl)
 have HB0 := Lib.hid (show Below w.heap.size w W0 from hW0 ▸ (((Below.refl _ w).alloc (Nat.le_refl _) _).alloc (by simp) _).alloc (by simp; omega) _)
 have HT := Lib.hid (Ht.out.below HB0.out Ht.out.1)
 clear hW0
 refine Tail.marksAt Pol.mixed 9 Grew [By.is (arr8 key),
  By.is (.pointer (some ⟨(w.heap.size + 1), 1, none⟩)),
  By.is (.int .i64 p.peer),
  By.is (.int .u64 ((p64 p.peer : Nat) : Int)),
  bsM (Oct.bytesBE 4 (p64 p.peer)),
  By.is (.pointer (some ⟨(w.heap.size + 1), 5, none⟩)),
  By.is (.slice (some ⟨(w.heap.size + 1), 5, none⟩) 16 16),
  bssM [Oct.bytesBE 4 (p64 p.peer), p.rnd],
  By.is (arr8 M)]
  (Ev.masks _ []) (Nat.zero_lt_succ _) (by kernel_rfl) (by kernel_rfl) rfl Grew.refl Grew.trans ⟨?_, ?_, ?_, ?_, ?_, ?_, ?_, ?_, ?_, trivial⟩ ?_
 · intro a w ht hs hg
   have h2 := By.same_get hs 2 (by decide) (by kernel_rfl)
   refine By.yes rfl ?_
   clear hs hg
   have hr := l_a32 (Row.below (w := W0.drew) HK.out ht HK.out.lt) Hkl.out
   refine wp_ld 24 _ rfl h2 hr ?_
   exact ⟨_, rfl, Grew.refl _, rfl⟩
 · intro a w ht hs hg
   have h3 := By.same_get hs 3 (by decide) (by kernel_rfl)
   refine By.yes rfl ?_
   clear hs hg
   go_simp
   exact ⟨_, rfl, Grew.refl _, rfl⟩
 · intro a w ht hs hg
   have h6 : a.tmps.getD 6 undef = _ := By.given_get hg 1 rfl rfl (by kernel_rfl)
   refine By.yes rfl ?_
   clear hs hg
   have hc := c_peer (Row.below (w := W0.drew) HP.out ht HP.out.lt)
   clear ht
   go_simp
   exact ⟨_, rfl, Grew.refl _, rfl⟩
 · intro a w ht hs hg
   have h7 : a.tmps.getD 7 undef = _ := By.given_get hg 2 rfl rfl (by kernel_rfl)
   refine By.yes rfl ?_
   clear hs hg
   go_simp
   exact ⟨_, rfl, Grew.refl _, congrArg (Value.int .u64) (p64_wrap p.peer)⟩
 · intro a w ht hs hg
   have h8 : a.tmps.getD 8 undef = _ := By.given_get hg 3 rfl rfl (by kernel_rfl)
   refine By.yes rfl ?_
   clear hs hg
   clear ht
   go_simp
   refine (big4_any (p64 p.peer) w).mono ?_
   rintro e w' ⟨v, rfl, hv, hb⟩
   exact ⟨_, rfl, hb, hv⟩
 · intro a w ht hs hg
   have h3 := By.same_get hs 3 (by decide) (by kernel_rfl)
   refine By.yes rfl ?_
   clear hs hg
   go_simp
   exact ⟨_, rfl, Grew.refl _, rfl⟩
 · intro a w ht hs hg
   have h10 : a.tmps.getD 10 undef = _ := By.given_get hg 5 rfl rfl (by kernel_rfl)
   refine By.yes rfl ?_
   clear hs hg
   go_simp
   exact ⟨_, rfl, Grew.refl _, rfl⟩
 · intro a w ht hs hg
   have h9 := By.given_get hg 4 rfl rfl (by kernel_rfl)
   have h11 : a.tmps.getD 11 undef = _ := By.given_get hg 6 rfl rfl (by kernel_rfl)
   refine By.yes rfl ?_
   obtain ⟨v9, hv9⟩ : ∃ v, a.tmps.getD 9 undef = v := ⟨_, rfl⟩
   replace h9 := (congrArg (fun v => ((bsM (Oct.bytesBE 4 (p64 p.peer)))).on v w) hv9).mp h9
   clear hs hg
   have h2 := bs_rnd (Row.below (w := W0.drew) HP.out ht HP.out.lt) Ho.out
   refine wp_list2 (.tmp 9) (.tmp 11) rfl hv9 h9 h11 h2 ?_
   intro v' w' h hb
   exact ⟨_, rfl, hb, h.bss⟩
 · intro a w ht hs hg
   have h5 : a.tmps.getD 5 undef = _ := By.given_get hg 0 rfl rfl (by kernel_rfl)
   have h12 := By.given_get hg 7 rfl rfl (by kernel_rfl)
   refine By.yes rfl ?_
   obtain ⟨v12, hv12⟩ : ∃ v, a.tmps.getD 12 undef = v := ⟨_, rfl⟩
   replace h12 := (congrArg (fun v => ((bssM [Oct.bytesBE 4 (p64 p.peer), p.rnd])).on v w) hv12).mp h12
   clear hs hg
   have HTw := Lib.hid (HT.out.below (grew_below ht) HT.out.1)
   have HLw := Lib.hid h12
   obtain ⟨A8, c8, rfl, _, _⟩ := id HLw.out
   clear ht h12
   unfold arr8 at h5
   go_simp
   refine (RMark_any key hello5 [Oct.bytesBE 4 (p64 p.peer), p.rnd] _ Hkl.out (by decide) w HTw.out HLw.out (by simp) Hfl.out).mono ?_
   rintro e w8 ⟨rfl, hb8⟩
   exact ⟨_, rfl, hb8, congrArg arr8 HM.out⟩
 refine By.ends_is (By.ends_is (By.ends_is (By.ends_is (By.ends_skip fun v9 => (By.ends_is (By.ends_is (By.ends_skip fun v12 => (By.ends_is (By.ends_nil fun w9 hw9 => ?_)))))))))
 simp only [Act.put, List.setIfInBounds_toArray, List.set_cons_succ, List.set_cons_zero]
 simp only [List.drop_succ_cons, List.drop_zero]
 have hbw := grew_below hw9
 have HO9 := Lib.hid (HO.out.below hbw HO.out.lt)
 have HB9 := Lib.hid (nextB HB0.out (Nat.le_refl _) hbw)
 clear hbw
 unfold arr8
 refine wpList_storeRow (g := w.heap.size + 1 + 1) rfl 38 _ _ rfl rfl rfl (cs := M.map bv) HO9.out (by kernel_rfl) HMl.out (by simp) (hbytes_one M) ?_
 go_wp2_with fail
 refine bodyPost_ret (results_row rfl _ rfl (HO9.out.setRow (M.map bv)) Tryd.underlying38 rfl (by kernel_rfl) HMl.out) rfl ?_
 exact ⟨rfl, below_setRow HB9.out (by omega) _⟩
end Go.Proofs.YtbdpnpabpcidkaaDoor.Shk
