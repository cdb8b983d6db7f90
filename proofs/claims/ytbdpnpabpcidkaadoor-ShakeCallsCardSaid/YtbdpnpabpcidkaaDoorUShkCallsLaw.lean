/- Every function of shake answers what the reference answers: 'drawbridgelaw10.ShakeCalls'. -/
import Derived.Test.YtbdpnpabpcidkaaDoorU19
import Derived.Test.YtbdpnpabpcidkaaDoorU23
import Derived.Test.YtbdpnpabpcidkaaDoorU41
import Derived.Test.YtbdpnpabpcidkaaDoorU42
import Derived.Test.YtbdpnpabpcidkaaDoorU44
import Derived.Test.YtbdpnpabpcidkaaDoorU48
import Derived.Test.YtbdpnpabpcidkaaDoorU49
import Derived.Test.YtbdpnpabpcidkaaDoorU50
namespace Go.Proofs.YtbdpnpabpcidkaaDoor.shakeCalls
open Go.ChangeShapes Go.WideShapes Go.ChangeAt Go.RowKit
open Shk Pkt
theorem eq32 (x y : List UInt8) (hx : x.length = 32) (hy : y.length = 32) (w : World) : (Op.equal 24 (arr8 x) (arr8 y)).run Tryd.prog w = .ok (decide (x = y)) w := run_eql_arr8 (P := Tryd.prog) Tryd.underlying24 Tryd.underlying5 (by kernel_rfl) x y hx hy w
theorem eq16' (x : List UInt8) (hx : x.length = 16) (w : World) : (Op.equal 38 (arr8 x) (arr8 x)).run Tryd.prog w = .ok (decide (x = x)) w := run_eql_arr8 (P := Tryd.prog) Tryd.underlying38 Tryd.underlying5 (by kernel_rfl) x x hx hx w
theorem bs_nil (w : World) (B : Nat) : Bs w B (.slice none 0 0) [] := ⟨none, 0, rfl, Nat.le_refl _, fun h => absurd rfl h⟩
theorem flat_le (m : Nat) : ∀ ls : List (List UInt8), (∀ l ∈ ls, l.length ≤ m) → ls.flatten.length ≤ ls.length * m
 | [], _ => by simp
 | l :: ls, h => by
   have h1 := h l (by simp)
   have h2 := flat_le m ls (fun x hx => h x (by simp [hx]))
   rw [List.flatten_cons, List.length_append, List.length_cons, Nat.succ_mul]
   omega
theorem arr_z : (Value.agg z32.toArray) = arr8 (List.replicate 32 (0 : UInt8)) := rfl
theorem hello_is (key : List UInt8) (z : Int) (r : List UInt8) (hr : r.length = 16) : ∃ (F : Pk) (c : Int), F.Ok ∧ F.bo = .slice none 0 0 ∧ (if helloOk z then Value.tuple #[(helloP key z r).val, .int .i64 0] else .tuple #[(nm 0).val, .int .i64 2]) = .tuple #[F.val, .int .i64 c] := by
 by_cases h : helloOk z
 · exact ⟨helloP key z r, 0, helloP_ok key z hr, rfl, if_pos h⟩
 · exact ⟨nm 0, 2, Shk.nm_ok, rfl, if_neg h⟩
theorem ans_is (key : List UInt8) (p : Pk) (n s e : Nat) (r : List UInt8) (hr : r.length = 16) : ∃ (G : Pk) (S : List UInt8) (c : Int), G.Ok ∧ G.bo = .slice none 0 0 ∧ S.length = 32 ∧ ansV key p n s e r = .tuple #[G.val, arr8 S, .int .i64 c] := by
 by_cases h : ckH key p n = 0
 · by_cases h2 : ansOk s e
   · exact ⟨answerP key p s e r, secL key p (answerP key p s e r), 0, answerP_ok key p s e hr, rfl, secL_length _ _ _, ansV_yes h h2⟩
   · exact ⟨nm 0, List.replicate 32 0, 2, Shk.nm_ok, rfl, rfl, by rw [ansV_args h h2, arr_z]⟩
 · exact ⟨nm 0, List.replicate 32 0, ckH key p n, Shk.nm_ok, rfl, rfl, by rw [ansV_no rfl h, arr_z]⟩
theorem cans_is (key : List UInt8) (p q : Pk) (n m : Nat) : ∃ (U : List UInt8) (c : Int), U.length = 32 ∧ cansV key p q n m = .tuple #[arr8 U, .int .i64 c] := by
 unfold cansV
 by_cases h : ckH key p n = 0
 · by_cases h2 : ckA key p q m = 0
   · exact ⟨secL key p q, 0, secL_length _ _ _, by rw [if_pos h, if_pos h2]⟩
   · exact ⟨List.replicate 32 0, _, rfl, by rw [if_pos h, if_neg h2, arr_z]⟩
 · exact ⟨List.replicate 32 0, _, rfl, by rw [if_neg h, arr_z]⟩
set_option maxRecDepth 100000 in
set_option maxHeartbeats 400000 in
theorem long1 (key ra tb : List UInt8) (ls : List (List UInt8)) (z : Int) (s e : Nat) (p q : Pk) (A A2 Al : Option Addr) (n m c c2 cl : Nat) (w : World) (ht : Tab w) (hk : key.length = 32) (hra : ra.length = 16) (he : e < 4294967296) (hp : p.In) (hq : q.In) (hbp : p.bo = .slice A n c) (hbq : q.bo = .slice A2 m c2) (hb : Bss w w.heap.size (.slice Al ls.length cl) ls) (h1 : 200 < n) : Calls Tryd.prog 9 #[arr8 key, .int .i64 z, arr8 ra, p.val, q.val, .int .u64 (s : Int), .int .u32 (e : Int), strOf tb, .slice Al ls.length cl] w fun e w' => e = .returned (.bool true) ∧ Below w.heap.size w w' := by
 have HB0 := Lib.hid (show Below w.heap.size w ((((w.alloc (.cells (key.map bv).toArray 24)).alloc (.cells (ra.map bv).toArray 38)).alloc (.cells p.cells.toArray 40)).alloc (.cells q.cells.toArray 40)) from ((((Below.refl _ w).alloc (Nat.le_refl _) _).alloc (by simp) _).alloc (by simp; omega) _).alloc (by simp; omega) _)
 have HT0 := Lib.hid (ht.below HB0.out ht.1)
 have HK0 := Lib.hid (show Row ((((w.alloc (.cells (key.map bv).toArray 24)).alloc (.cells (ra.map bv).toArray 38)).alloc (.cells p.cells.toArray 40)).alloc (.cells q.cells.toArray 40)) w.heap.size (key.map bv) 24 from (((Row.new rfl rfl).alloc _).alloc _).alloc _)
 have HA0 := Lib.hid (show Row ((((w.alloc (.cells (key.map bv).toArray 24)).alloc (.cells (ra.map bv).toArray 38)).alloc (.cells p.cells.toArray 40)).alloc (.cells q.cells.toArray 40)) (w.heap.size + 1) (ra.map bv) 38 from ((Row.new (by simp) rfl).alloc _).alloc _)
 have HP0 := Lib.hid (show Row ((((w.alloc (.cells (key.map bv).toArray 24)).alloc (.cells (ra.map bv).toArray 38)).alloc (.cells p.cells.toArray 40)).alloc (.cells q.cells.toArray 40)) (w.heap.size + 1 + 1) p.cells 40 from (Row.new (by simp) rfl).alloc _)
 have HQ0 := Lib.hid (show Row ((((w.alloc (.cells (key.map bv).toArray 24)).alloc (.cells (ra.map bv).toArray 38)).alloc (.cells p.cells.toArray 40)).alloc (.cells q.cells.toArray 40)) (w.heap.size + 1 + 1 + 1) q.cells 40 from Row.new (by simp) rfl)
 have HLv := Lib.hid (fun w (ht : Tab w) => Shk.lives_any w ht)
 have HL0 := Lib.hid hb
 have HKl := Lib.hid hk
 have HRa := Lib.hid hra
 have Hel := Lib.hid he
 have HPo := Lib.hid hp.ok
 have HQo := Lib.hid hq.ok
 have HQe := Lib.hid hq.e
 have HPb := Lib.hid hbp
 have HQb := Lib.hid hbq
 have h1' : (200 : Int) < (n : Int) := by omega
 clear h1
 clear ht hk hra he hp hq hbp hbq hb
 unfold arr8 Pk.val strOf
 go_enter Tryd.func9, Tryd.ntmps9
 go_wp2_with fail
 refine (HLv.out _ HT0.out).mono ?_
 rintro e w1 ⟨rfl, hb⟩
 have HB1 := Lib.hid (nextB HB0.out (Nat.le_refl _) hb)
 have HT1 := Lib.hid (HT0.out.below hb HT0.out.1)
 have HKa := Lib.hid (HK0.out.below hb HK0.out.lt)
 have HAa := Lib.hid (HA0.out.below hb HA0.out.lt)
 have HPa := Lib.hid (HP0.out.below hb HP0.out.lt)
 have HQa := Lib.hid (HQ0.out.below hb HQ0.out.lt)
 have HL1 := Lib.hid (HL0.out.below HB1.out)
 clear hb
 have cp := c_bo HPa.out HPo.out
 rw [HPb.out] at cp
 have cq := c_bo HQa.out HQo.out
 rw [HQb.out] at cq
 go_wp2
 go_ret
 exact ⟨rfl, HB1.out⟩
set_option maxRecDepth 100000 in
set_option maxHeartbeats 400000 in
theorem long2 (key ra tb : List UInt8) (ls : List (List UInt8)) (z : Int) (s e : Nat) (p q : Pk) (A A2 Al : Option Addr) (n m c c2 cl : Nat) (w : World) (ht : Tab w) (hk : key.length = 32) (hra : ra.length = 16) (he : e < 4294967296) (hp : p.In) (hq : q.In) (hbp : p.bo = .slice A n c) (hbq : q.bo = .slice A2 m c2) (hb : Bss w w.heap.size (.slice Al ls.length cl) ls) (h1 : ¬ 200 < n) (h2 : 200 < m) : Calls Tryd.prog 9 #[arr8 key, .int .i64 z, arr8 ra, p.val, q.val, .int .u64 (s : Int), .int .u32 (e : Int), strOf tb, .slice Al ls.length cl] w fun e w' => e = .returned (.bool true) ∧ Below w.heap.size w w' := by
 have HB0 := Lib.hid (show Below w.heap.size w ((((w.alloc (.cells (key.map bv).toArray 24)).alloc (.cells (ra.map bv).toArray 38)).alloc (.cells p.cells.toArray 40)).alloc (.cells q.cells.toArray 40)) from ((((Below.refl _ w).alloc (Nat.le_refl _) _).alloc (by simp) _).alloc (by simp; omega) _).alloc (by simp; omega) _)
 have HT0 := Lib.hid (ht.below HB0.out ht.1)
 have HK0 := Lib.hid (show Row ((((w.alloc (.cells (key.map bv).toArray 24)).alloc (.cells (ra.map bv).toArray 38)).alloc (.cells p.cells.toArray 40)).alloc (.cells q.cells.toArray 40)) w.heap.size (key.map bv) 24 from (((Row.new rfl rfl).alloc _).alloc _).alloc _)
 have HA0 := Lib.hid (show Row ((((w.alloc (.cells (key.map bv).toArray 24)).alloc (.cells (ra.map bv).toArray 38)).alloc (.cells p.cells.toArray 40)).alloc (.cells q.cells.toArray 40)) (w.heap.size + 1) (ra.map bv) 38 from ((Row.new (by simp) rfl).alloc _).alloc _)
 have HP0 := Lib.hid (show Row ((((w.alloc (.cells (key.map bv).toArray 24)).alloc (.cells (ra.map bv).toArray 38)).alloc (.cells p.cells.toArray 40)).alloc (.cells q.cells.toArray 40)) (w.heap.size + 1 + 1) p.cells 40 from (Row.new (by simp) rfl).alloc _)
 have HQ0 := Lib.hid (show Row ((((w.alloc (.cells (key.map bv).toArray 24)).alloc (.cells (ra.map bv).toArray 38)).alloc (.cells p.cells.toArray 40)).alloc (.cells q.cells.toArray 40)) (w.heap.size + 1 + 1 + 1) q.cells 40 from Row.new (by simp) rfl)
 have HLv := Lib.hid (fun w (ht : Tab w) => Shk.lives_any w ht)
 have HL0 := Lib.hid hb
 have HKl := Lib.hid hk
 have HRa := Lib.hid hra
 have Hel := Lib.hid he
 have HPo := Lib.hid hp.ok
 have HQo := Lib.hid hq.ok
 have HQe := Lib.hid hq.e
 have HPb := Lib.hid hbp
 have HQb := Lib.hid hbq
 have h1' : ¬ (200 : Int) < (n : Int) := by omega
 have h2' : (200 : Int) < (m : Int) := by omega
 clear h1 h2
 clear ht hk hra he hp hq hbp hbq hb
 unfold arr8 Pk.val strOf
 go_enter Tryd.func9, Tryd.ntmps9
 go_wp2_with fail
 refine (HLv.out _ HT0.out).mono ?_
 rintro e w1 ⟨rfl, hb⟩
 have HB1 := Lib.hid (nextB HB0.out (Nat.le_refl _) hb)
 have HT1 := Lib.hid (HT0.out.below hb HT0.out.1)
 have HKa := Lib.hid (HK0.out.below hb HK0.out.lt)
 have HAa := Lib.hid (HA0.out.below hb HA0.out.lt)
 have HPa := Lib.hid (HP0.out.below hb HP0.out.lt)
 have HQa := Lib.hid (HQ0.out.below hb HQ0.out.lt)
 have HL1 := Lib.hid (HL0.out.below HB1.out)
 clear hb
 have cp := c_bo HPa.out HPo.out
 rw [HPb.out] at cp
 have cq := c_bo HQa.out HQo.out
 rw [HQb.out] at cq
 go_wp2
 go_ret
 exact ⟨rfl, HB1.out⟩
set_option maxRecDepth 100000 in
set_option maxHeartbeats 400000 in
theorem long3 (key ra tb : List UInt8) (ls : List (List UInt8)) (z : Int) (s e : Nat) (p q : Pk) (A A2 Al : Option Addr) (n m c c2 cl : Nat) (w : World) (ht : Tab w) (hk : key.length = 32) (hra : ra.length = 16) (he : e < 4294967296) (hp : p.In) (hq : q.In) (hbp : p.bo = .slice A n c) (hbq : q.bo = .slice A2 m c2) (hb : Bss w w.heap.size (.slice Al ls.length cl) ls) (h1 : ¬ 200 < n) (h2 : ¬ 200 < m) (h3 : 200 < tb.length) : Calls Tryd.prog 9 #[arr8 key, .int .i64 z, arr8 ra, p.val, q.val, .int .u64 (s : Int), .int .u32 (e : Int), strOf tb, .slice Al ls.length cl] w fun e w' => e = .returned (.bool true) ∧ Below w.heap.size w w' := by
 have HB0 := Lib.hid (show Below w.heap.size w ((((w.alloc (.cells (key.map bv).toArray 24)).alloc (.cells (ra.map bv).toArray 38)).alloc (.cells p.cells.toArray 40)).alloc (.cells q.cells.toArray 40)) from ((((Below.refl _ w).alloc (Nat.le_refl _) _).alloc (by simp) _).alloc (by simp; omega) _).alloc (by simp; omega) _)
 have HT0 := Lib.hid (ht.below HB0.out ht.1)
 have HK0 := Lib.hid (show Row ((((w.alloc (.cells (key.map bv).toArray 24)).alloc (.cells (ra.map bv).toArray 38)).alloc (.cells p.cells.toArray 40)).alloc (.cells q.cells.toArray 40)) w.heap.size (key.map bv) 24 from (((Row.new rfl rfl).alloc _).alloc _).alloc _)
 have HA0 := Lib.hid (show Row ((((w.alloc (.cells (key.map bv).toArray 24)).alloc (.cells (ra.map bv).toArray 38)).alloc (.cells p.cells.toArray 40)).alloc (.cells q.cells.toArray 40)) (w.heap.size + 1) (ra.map bv) 38 from ((Row.new (by simp) rfl).alloc _).alloc _)
 have HP0 := Lib.hid (show Row ((((w.alloc (.cells (key.map bv).toArray 24)).alloc (.cells (ra.map bv).toArray 38)).alloc (.cells p.cells.toArray 40)).alloc (.cells q.cells.toArray 40)) (w.heap.size + 1 + 1) p.cells 40 from (Row.new (by simp) rfl).alloc _)
 have HQ0 := Lib.hid (show Row ((((w.alloc (.cells (key.map bv).toArray 24)).alloc (.cells (ra.map bv).toArray 38)).alloc (.cells p.cells.toArray 40)).alloc (.cells q.cells.toArray 40)) (w.heap.size + 1 + 1 + 1) q.cells 40 from Row.new (by simp) rfl)
 have HLv := Lib.hid (fun w (ht : Tab w) => Shk.lives_any w ht)
 have HL0 := Lib.hid hb
 have HKl := Lib.hid hk
 have HRa := Lib.hid hra
 have Hel := Lib.hid he
 have HPo := Lib.hid hp.ok
 have HQo := Lib.hid hq.ok
 have HQe := Lib.hid hq.e
 have HPb := Lib.hid hbp
 have HQb := Lib.hid hbq
 have h1' : ¬ (200 : Int) < (n : Int) := by omega
 have h2' : ¬ (200 : Int) < (m : Int) := by omega
 have h3' : (200 : Int) < (tb.length : Int) := by omega
 clear h1 h2 h3
 clear ht hk hra he hp hq hbp hbq hb
 unfold arr8 Pk.val strOf
 go_enter Tryd.func9, Tryd.ntmps9
 go_wp2_with fail
 refine (HLv.out _ HT0.out).mono ?_
 rintro e w1 ⟨rfl, hb⟩
 have HB1 := Lib.hid (nextB HB0.out (Nat.le_refl _) hb)
 have HT1 := Lib.hid (HT0.out.below hb HT0.out.1)
 have HKa := Lib.hid (HK0.out.below hb HK0.out.lt)
 have HAa := Lib.hid (HA0.out.below hb HA0.out.lt)
 have HPa := Lib.hid (HP0.out.below hb HP0.out.lt)
 have HQa := Lib.hid (HQ0.out.below hb HQ0.out.lt)
 have HL1 := Lib.hid (HL0.out.below HB1.out)
 clear hb
 have cp := c_bo HPa.out HPo.out
 rw [HPb.out] at cp
 have cq := c_bo HQa.out HQo.out
 rw [HQb.out] at cq
 go_wp2
 go_ret
 exact ⟨rfl, HB1.out⟩
set_option maxRecDepth 100000 in
set_option maxHeartbeats 400000 in
theorem long4 (key ra tb : List UInt8) (ls : List (List UInt8)) (z : Int) (s e : Nat) (p q : Pk) (A A2 Al : Option Addr) (n m c c2 cl : Nat) (w : World) (ht : Tab w) (hk : key.length = 32) (hra : ra.length = 16) (he : e < 4294967296) (hp : p.In) (hq : q.In) (hbp : p.bo = .slice A n c) (hbq : q.bo = .slice A2 m c2) (hb : Bss w w.heap.size (.slice Al ls.length cl) ls) (h1 : ¬ 200 < n) (h2 : ¬ 200 < m) (h3 : ¬ 200 < tb.length) (h4' : light ls 10 200 = false) : Calls Tryd.prog 9 #[arr8 key, .int .i64 z, arr8 ra, p.val, q.val, .int .u64 (s : Int), .int .u32 (e : Int), strOf tb, .slice Al ls.length cl] w fun e w' => e = .returned (.bool true) ∧ Below w.heap.size w w' := by
 have HB0 := Lib.hid (show Below w.heap.size w ((((w.alloc (.cells (key.map bv).toArray 24)).alloc (.cells (ra.map bv).toArray 38)).alloc (.cells p.cells.toArray 40)).alloc (.cells q.cells.toArray 40)) from ((((Below.refl _ w).alloc (Nat.le_refl _) _).alloc (by simp) _).alloc (by simp; omega) _).alloc (by simp; omega) _)
 have HT0 := Lib.hid (ht.below HB0.out ht.1)
 have HK0 := Lib.hid (show Row ((((w.alloc (.cells (key.map bv).toArray 24)).alloc (.cells (ra.map bv).toArray 38)).alloc (.cells p.cells.toArray 40)).alloc (.cells q.cells.toArray 40)) w.heap.size (key.map bv) 24 from (((Row.new rfl rfl).alloc _).alloc _).alloc _)
 have HA0 := Lib.hid (show Row ((((w.alloc (.cells (key.map bv).toArray 24)).alloc (.cells (ra.map bv).toArray 38)).alloc (.cells p.cells.toArray 40)).alloc (.cells q.cells.toArray 40)) (w.heap.size + 1) (ra.map bv) 38 from ((Row.new (by simp) rfl).alloc _).alloc _)
 have HP0 := Lib.hid (show Row ((((w.alloc (.cells (key.map bv).toArray 24)).alloc (.cells (ra.map bv).toArray 38)).alloc (.cells p.cells.toArray 40)).alloc (.cells q.cells.toArray 40)) (w.heap.size + 1 + 1) p.cells 40 from (Row.new (by simp) rfl).alloc _)
 have HQ0 := Lib.hid (show Row ((((w.alloc (.cells (key.map bv).toArray 24)).alloc (.cells (ra.map bv).toArray 38)).alloc (.cells p.cells.toArray 40)).alloc (.cells q.cells.toArray 40)) (w.heap.size + 1 + 1 + 1) q.cells 40 from Row.new (by simp) rfl)
 have HLv := Lib.hid (fun w (ht : Tab w) => Shk.lives_any w ht)
 have HL0 := Lib.hid hb
 have HKl := Lib.hid hk
 have HRa := Lib.hid hra
 have Hel := Lib.hid he
 have HPo := Lib.hid hp.ok
 have HQo := Lib.hid hq.ok
 have HQe := Lib.hid hq.e
 have HPb := Lib.hid hbp
 have HQb := Lib.hid hbq
 have h1' : ¬ (200 : Int) < (n : Int) := by omega
 have h2' : ¬ (200 : Int) < (m : Int) := by omega
 have h3' : ¬ (200 : Int) < (tb.length : Int) := by omega
 clear h1 h2 h3
 clear ht hk hra he hp hq hbp hbq hb
 unfold arr8 Pk.val strOf
 go_enter Tryd.func9, Tryd.ntmps9
 go_wp2_with fail
 refine (HLv.out _ HT0.out).mono ?_
 rintro e w1 ⟨rfl, hb⟩
 have HB1 := Lib.hid (nextB HB0.out (Nat.le_refl _) hb)
 have HT1 := Lib.hid (HT0.out.below hb HT0.out.1)
 have HKa := Lib.hid (HK0.out.below hb HK0.out.lt)
 have HAa := Lib.hid (HA0.out.below hb HA0.out.lt)
 have HPa := Lib.hid (HP0.out.below hb HP0.out.lt)
 have HQa := Lib.hid (HQ0.out.below hb HQ0.out.lt)
 have HL1 := Lib.hid (HL0.out.below HB1.out)
 clear hb
 have cp := c_bo HPa.out HPo.out
 rw [HPb.out] at cp
 have cq := c_bo HQa.out HQo.out
 rw [HQb.out] at cq
 go_wp2_with fail
 refine (LightLists_any _ ls 10 200 w1 HL1.out (by decide) (by decide)).mono ?_
 rintro e w2 ⟨rfl, rfl⟩
 rw [h4']
 go_wp2
 go_ret
 exact ⟨rfl, HB1.out⟩
set_option maxRecDepth 100000 in
set_option maxHeartbeats 4000000 in
theorem walk (key ra tb : List UInt8) (ls : List (List UInt8)) (z : Int) (s e : Nat) (p q : Pk) (A A2 Al : Option Addr) (n m c c2 cl : Nat) (w : World) (ht : Tab w) (hk : key.length = 32) (hra : ra.length = 16) (he : e < 4294967296) (hp : p.In) (hq : q.In) (hbp : p.bo = .slice A n c) (hbq : q.bo = .slice A2 m c2) (hb : Bss w w.heap.size (.slice Al ls.length cl) ls) (h1 : ¬ 200 < n) (h2 : ¬ 200 < m) (h3 : ¬ 200 < tb.length) (h4 : light ls 10 200 = true) : Calls Tryd.prog 9 #[arr8 key, .int .i64 z, arr8 ra, p.val, q.val, .int .u64 (s : Int), .int .u32 (e : Int), strOf tb, .slice Al ls.length cl] w fun e w' => e = .returned (.bool true) ∧ Below w.heap.size w w' := by
 have HB0 := Lib.hid (show Below w.heap.size w ((((w.alloc (.cells (key.map bv).toArray 24)).alloc (.cells (ra.map bv).toArray 38)).alloc (.cells p.cells.toArray 40)).alloc (.cells q.cells.toArray 40)) from ((((Below.refl _ w).alloc (Nat.le_refl _) _).alloc (by simp) _).alloc (by simp; omega) _).alloc (by simp; omega) _)
 have HT0 := Lib.hid (ht.below HB0.out ht.1)
 have HK0 := Lib.hid (show Row ((((w.alloc (.cells (key.map bv).toArray 24)).alloc (.cells (ra.map bv).toArray 38)).alloc (.cells p.cells.toArray 40)).alloc (.cells q.cells.toArray 40)) w.heap.size (key.map bv) 24 from (((Row.new rfl rfl).alloc _).alloc _).alloc _)
 have HA0 := Lib.hid (show Row ((((w.alloc (.cells (key.map bv).toArray 24)).alloc (.cells (ra.map bv).toArray 38)).alloc (.cells p.cells.toArray 40)).alloc (.cells q.cells.toArray 40)) (w.heap.size + 1) (ra.map bv) 38 from ((Row.new (by simp) rfl).alloc _).alloc _)
 have HP0 := Lib.hid (show Row ((((w.alloc (.cells (key.map bv).toArray 24)).alloc (.cells (ra.map bv).toArray 38)).alloc (.cells p.cells.toArray 40)).alloc (.cells q.cells.toArray 40)) (w.heap.size + 1 + 1) p.cells 40 from (Row.new (by simp) rfl).alloc _)
 have HQ0 := Lib.hid (show Row ((((w.alloc (.cells (key.map bv).toArray 24)).alloc (.cells (ra.map bv).toArray 38)).alloc (.cells p.cells.toArray 40)).alloc (.cells q.cells.toArray 40)) (w.heap.size + 1 + 1 + 1) q.cells 40 from Row.new (by simp) rfl)
 have HLv := Lib.hid (fun w (ht : Tab w) => Shk.lives_any w ht)
 have HL0 := Lib.hid hb
 have HKl := Lib.hid hk
 have HRa := Lib.hid hra
 have Hel := Lib.hid he
 have HPo := Lib.hid hp.ok
 have HQo := Lib.hid hq.ok
 have HQe := Lib.hid hq.e
 have HPb := Lib.hid hbp
 have HQb := Lib.hid hbq
 have h1' : ¬ (200 : Int) < (n : Int) := by omega
 have h2' : ¬ (200 : Int) < (m : Int) := by omega
 have h3' : ¬ (200 : Int) < (tb.length : Int) := by omega
 obtain ⟨F, ec, hFo, hFb, hF⟩ := hello_is key z ra hra
 obtain ⟨G, S, ed, hGo, hGb, hSl, hG⟩ := ans_is key p n s e ra hra
 obtain ⟨U, eu, hUl, hU⟩ := cans_is key p q n m
 obtain ⟨C, hC⟩ : ∃ C, ckH key p n = C := ⟨_, rfl⟩
 obtain ⟨M, hM⟩ : ∃ M, Shk.mark key (tb ++ ls.flatten) = M := ⟨_, rfl⟩
 obtain ⟨X, hX⟩ : ∃ X, secL key p q = X := ⟨_, rfl⟩
 have HF := Lib.hid hF
 have HFo := Lib.hid hFo
 have HFb := Lib.hid hFb
 have HG := Lib.hid hG
 have HGo := Lib.hid hGo
 have HGb := Lib.hid hGb
 have HSl := Lib.hid hSl
 have HU := Lib.hid hU
 have HUl := Lib.hid hUl
 have HC := Lib.hid hC
 have HC' := Lib.hid (show chkk p n 1 (Shk.mark key (hello5 ++ (helloL p).flatten)) = C from hC)
 have HM := Lib.hid hM
 have HX := Lib.hid hX
 have HMl := Lib.hid (show M.length = 16 by rw [← hM]; exact mark_length _ _)
 have HXl := Lib.hid (show X.length = 32 by rw [← hX]; exact secL_length _ _ _)
 have hl : ls.length ≤ 10 ∧ ∀ l ∈ ls, l.length ≤ 200 := of_decide_eq_true h4
 have hfl := flat_le 200 ls hl.2
 have Htb := Lib.hid (show tb.length ≤ 1000 by omega)
 have Hfl := Lib.hid (show ls.flatten.length ≤ 2000 by have := hl.1; omega)
 have Hl := Lib.hid hl
 clear ht hk hra he hp hq hbp hbq hb hF hFo hFb hG hGo hGb hSl hU hUl hC hM hX hl hfl h1 h2 h3
 unfold arr8 Pk.val strOf
 go_enter Tryd.func9, Tryd.ntmps9
 go_wp2_with fail
 refine (HLv.out _ HT0.out).mono ?_
 rintro e w1 ⟨rfl, hb⟩
 have HB1 := Lib.hid (nextB HB0.out (Nat.le_refl _) hb)
 have HT1 := Lib.hid (HT0.out.below hb HT0.out.1)
 have HKa := Lib.hid (HK0.out.below hb HK0.out.lt)
 have HAa := Lib.hid (HA0.out.below hb HA0.out.lt)
 have HPa := Lib.hid (HP0.out.below hb HP0.out.lt)
 have HQa := Lib.hid (HQ0.out.below hb HQ0.out.lt)
 have HL1 := Lib.hid (HL0.out.below HB1.out)
 clear hb
 have cp := c_bo HPa.out HPo.out
 rw [HPb.out] at cp
 have cq := c_bo HQa.out HQo.out
 rw [HQb.out] at cq
 go_wp2_with fail
 refine (LightLists_any _ ls 10 200 w1 HL1.out (by decide) (by decide)).mono ?_
 rintro e w2 ⟨rfl, rfl⟩
 rw [h4]
 clear cp cq
 have HL2 := Lib.hid (l_a32 HKa.out HKl.out)
 have HL3 := Lib.hid (l_a16 HAa.out HRa.out)
 go_wp2_with (first
  | (refine wpList_ld 24 rfl rfl HL2.out rfl ?_)
  | (refine wpList_ld 38 rfl rfl HL3.out rfl ?_)
  | fail)
 refine (Hello_any key z ra HKl.out HRa.out w1 HT1.out).mono ?_
 rintro e w4 ⟨rfl, hb⟩
 rw [HF.out]
 have HB5 := Lib.hid (nextB HB1.out (Nat.le_refl _) hb)
 have HK5 := Lib.hid (HKa.out.below hb HKa.out.lt)
 have HA5 := Lib.hid (HAa.out.below hb HAa.out.lt)
 have HP5 := Lib.hid (HPa.out.below hb HPa.out.lt)
 have HQ5 := Lib.hid (HQa.out.below hb HQa.out.lt)
 have HT5 := Lib.hid (HT1.out.below hb HT1.out.1)
 clear hb
 clear h1' h2' h3'
 go_wp2_with (first
  | (show wpList _ _ _ (⟨none, Op.store 40 _ _, _, _, _, _⟩ :: _) _ _
     refine wpList_storeRow (g := w4.heap.size) rfl 40 _ _ rfl rfl rfl (cs := F.cells) (Row.new rfl rfl : Row (w4.alloc (.cells (nm 0).cells.toArray 40)) w4.heap.size (nm 0).cells 40) (by kernel_rfl) (Pk.length HFo.out) (Pk.length nm_ok) (Pk.one HFo.out) ?_
     refine wpList_name fun V hV => ?_
     refine sstop ?_)
  | fail)
 unfold SStop
 obtain ⟨W6, hV2⟩ : ∃ V2, V = V2 := ⟨V, rfl⟩
 rw [hV2] at hV ⊢
 clear hV2
 have hb : Below w4.heap.size w4 W6 := by rw [← hV]; exact (below_setRow ((Below.refl _ w4).alloc (Nat.le_refl _) _) (by omega) _)
 have HE6 := Lib.hid (show Row W6 w4.heap.size F.cells 40 by rw [← hV]; exact ((Row.new rfl rfl : Row (w4.alloc (.cells (nm 0).cells.toArray 40)) w4.heap.size (nm 0).cells 40).setRow _))
 have HBs6 := Lib.hid hb
 have HB7 := Lib.hid (nextB HB5.out (Nat.le_refl _) hb)
 have HK7 := Lib.hid (HK5.out.below hb HK5.out.lt)
 have HA7 := Lib.hid (HA5.out.below hb HA5.out.lt)
 have HP7 := Lib.hid (HP5.out.below hb HP5.out.lt)
 have HQ7 := Lib.hid (HQ5.out.below hb HQ5.out.lt)
 have HT7 := Lib.hid (HT5.out.below hb HT5.out.1)
 clear hV hb
 have HL8 := Lib.hid (l_a32 HK7.out HKl.out)
 have HL9 := Lib.hid (l_a16 HA7.out HRa.out)
 go_wp2_with (first
  | (refine wpList_ld 24 rfl rfl HL8.out rfl ?_)
  | (refine wpList_ld 38 rfl rfl HL9.out rfl ?_)
  | fail)
 refine (RHello_any key z ra HKl.out HRa.out W6 HT7.out).mono ?_
 rintro e w10 ⟨rfl, hb⟩
 rw [HF.out]
 have HB11 := Lib.hid (nextB HB7.out (Nat.le_refl _) hb)
 have HK11 := Lib.hid (HK7.out.below hb HK7.out.lt)
 have HA11 := Lib.hid (HA7.out.below hb HA7.out.lt)
 have HP11 := Lib.hid (HP7.out.below hb HP7.out.lt)
 have HQ11 := Lib.hid (HQ7.out.below hb HQ7.out.lt)
 have HE11 := Lib.hid (HE6.out.below hb HE6.out.lt)
 have HT11 := Lib.hid (HT7.out.below hb HT7.out.1)
 clear hb
 go_wp2_with (first
  | (show wpList _ _ _ (⟨none, Op.store 40 _ _, _, _, _, _⟩ :: _) _ _
     refine wpList_storeRow (g := w10.heap.size) rfl 40 _ _ rfl rfl rfl (cs := F.cells) (Row.new rfl rfl : Row (w10.alloc (.cells (nm 0).cells.toArray 40)) w10.heap.size (nm 0).cells 40) (by kernel_rfl) (Pk.length HFo.out) (Pk.length nm_ok) (Pk.one HFo.out) ?_
     refine wpList_name fun V hV => ?_
     refine sstop ?_)
  | fail)
 unfold SStop
 obtain ⟨W12, hV2⟩ : ∃ V2, V = V2 := ⟨V, rfl⟩
 rw [hV2] at hV ⊢
 clear hV2
 have hb : Below w10.heap.size w10 W12 := by rw [← hV]; exact (below_setRow ((Below.refl _ w10).alloc (Nat.le_refl _) _) (by omega) _)
 have HE212 := Lib.hid (show Row W12 w10.heap.size F.cells 40 by rw [← hV]; exact ((Row.new rfl rfl : Row (w10.alloc (.cells (nm 0).cells.toArray 40)) w10.heap.size (nm 0).cells 40).setRow _))
 have HBs12 := Lib.hid hb
 have HB13 := Lib.hid (nextB HB11.out (Nat.le_refl _) hb)
 have HK13 := Lib.hid (HK11.out.below hb HK11.out.lt)
 have HA13 := Lib.hid (HA11.out.below hb HA11.out.lt)
 have HP13 := Lib.hid (HP11.out.below hb HP11.out.lt)
 have HQ13 := Lib.hid (HQ11.out.below hb HQ11.out.lt)
 have HE13 := Lib.hid (HE11.out.below hb HE11.out.lt)
 have HT13 := Lib.hid (HT11.out.below hb HT11.out.1)
 clear hV hb
 go_wp2_with fail
 refine By.marks Pol.mixed Grew [By.is (F.val),
  By.is (F.val),
  By.is (.bool true),
  By.is (.bool false),
  By.is (.bool false),
  By.is (.int .i64 ec),
  By.is (.int .i64 ec),
  By.is (.bool false),
  By.is (.bool false),
  By.is (.bool false),
  By.is (arr8 key),
  By.is (p.val),
  By.is (.int .i64 C),
  By.is (arr8 key),
  By.is (p.val),
  By.is (.int .i64 C),
  By.is (.bool false),
  By.is (.bool false),
  By.is (.bool false),
  By.is (arr8 key),
  By.is (strOf tb),
  By.is (.slice Al ls.length cl),
  By.is (arr8 M),
  By.is (arr8 key),
  By.is (strOf tb),
  By.is (.slice Al ls.length cl),
  By.is (arr8 M),
  By.is (.bool false),
  By.is (.bool false),
  By.is (.bool false),
  By.is (arr8 key),
  By.is (p.val),
  By.is (q.val),
  By.is (arr8 X),
  By.is (arr8 key),
  By.is (p.val),
  By.is (q.val),
  By.is (arr8 X),
  By.is (.bool false),
  By.is (.bool false)]
  (Ev.masks _ []) (by kernel_rfl) rfl Grew.refl Grew.trans ⟨?_, ?_, ?_, ?_, ?_, ?_, ?_, ?_, ?_, ?_, ?_, ?_, ?_, ?_, ?_, ?_, ?_, ?_, ?_, ?_, ?_, ?_, ?_, ?_, ?_, ?_, ?_, ?_, ?_, ?_, ?_, ?_, ?_, ?_, ?_, ?_, ?_, ?_, ?_, ?_, trivial⟩ ?_
 · intro a w ht hs hg
   have h19 := By.same_get hs 19 (by decide) (by kernel_rfl)
   refine By.yes rfl ?_
   clear hs hg
   have hr := l_all (Row.below (w := W12.drew) HE13.out ht HE13.out.lt) HFo.out
   refine wp_ld 40 _ rfl h19 hr ?_
   exact ⟨_, rfl, Grew.refl _, rfl⟩
 · intro a w ht hs hg
   have h21 := By.same_get hs 21 (by decide) (by kernel_rfl)
   refine By.yes rfl ?_
   clear hs hg
   have hr := l_all (Row.below (w := W12.drew) HE212.out ht HE212.out.lt) HFo.out
   refine wp_ld 40 _ rfl h21 hr ?_
   exact ⟨_, rfl, Grew.refl _, rfl⟩
 · intro a w ht hs hg
   have h65 : a.tmps.getD 65 undef = _ := By.given_get hg 0 rfl rfl (by kernel_rfl)
   have h66 : a.tmps.getD 66 undef = _ := By.given_get hg 1 rfl rfl (by kernel_rfl)
   refine By.yes rfl ?_
   clear hs hg
   clear ht
   unfold Pk.val at h65 h66
   go_simp
   refine (KPacket_yes F F HFo.out HFo.out w [] [] (by rw [HFb.out]; exact bs_nil _ _) (by rw [HFb.out]; exact bs_nil _ _) rfl rfl rfl rfl rfl rfl rfl).mono ?_
   rintro x w8 ⟨rfl, hb8⟩
   exact ⟨_, rfl, hb8, congrArg Value.bool (by simp)⟩
 · intro a w ht hs hg
   have h67 : a.tmps.getD 67 undef = _ := By.given_get hg 2 rfl rfl (by kernel_rfl)
   refine By.yes rfl ?_
   clear hs hg
   go_simp
   exact ⟨_, rfl, Grew.refl _, rfl⟩
 · intro a w ht hs hg
   have h68 : a.tmps.getD 68 undef = _ := By.given_get hg 3 rfl rfl (by kernel_rfl)
   refine By.yes rfl ?_
   clear hs hg
   go_simp
   exact ⟨_, rfl, Grew.refl _, rfl⟩
 · intro a w ht hs hg
   have h20 := By.same_get hs 20 (by decide) (by kernel_rfl)
   have hg69 := By.given_get hg 4 rfl rfl (by kernel_rfl)
   refine By.yes (By.want_yes rfl rfl hg69) ?_
   clear hg69
   clear hs hg
   go_simp
   exact ⟨_, rfl, Grew.refl _, rfl⟩
 · intro a w ht hs hg
   have h22 := By.same_get hs 22 (by decide) (by kernel_rfl)
   have hg69 := By.given_get hg 4 rfl rfl (by kernel_rfl)
   refine By.yes (By.want_yes rfl rfl hg69) ?_
   clear hg69
   clear hs hg
   go_simp
   exact ⟨_, rfl, Grew.refl _, rfl⟩
 · intro a w ht hs hg
   have h70 : a.tmps.getD 70 undef = _ := By.given_get hg 5 rfl rfl (by kernel_rfl)
   have h71 : a.tmps.getD 71 undef = _ := By.given_get hg 6 rfl rfl (by kernel_rfl)
   have hg69 := By.given_get hg 4 rfl rfl (by kernel_rfl)
   refine By.yes (By.want_yes rfl rfl hg69) ?_
   clear hg69
   clear hs hg
   clear ht
   go_simp
   exact ⟨_, rfl, Grew.refl _, congrArg Value.bool (by simp)⟩
 · intro a w ht hs hg
   have h69 : a.tmps.getD 69 undef = _ := By.given_get hg 4 rfl rfl (by kernel_rfl)
   have h72 : a.tmps.getD 72 undef = _ := By.given_get hg 7 rfl rfl (by kernel_rfl)
   refine By.yes rfl ?_
   clear hs hg
   go_simp
   exact ⟨_, rfl, Grew.refl _, rfl⟩
 · intro a w ht hs hg
   have h73 : a.tmps.getD 73 undef = _ := By.given_get hg 8 rfl rfl (by kernel_rfl)
   refine By.yes rfl ?_
   clear hs hg
   go_simp
   exact ⟨_, rfl, Grew.refl _, rfl⟩
 · intro a w ht hs hg
   have h9 := By.same_get hs 9 (by decide) (by kernel_rfl)
   have hg74 := By.given_get hg 9 rfl rfl (by kernel_rfl)
   refine By.yes (By.want_yes rfl rfl hg74) ?_
   clear hg74
   clear hs hg
   have hr := l_a32 (Row.below (w := W12.drew) HK13.out ht HK13.out.lt) HKl.out
   refine wp_ld 24 _ rfl h9 hr ?_
   exact ⟨_, rfl, Grew.refl _, rfl⟩
 · intro a w ht hs hg
   have h12 := By.same_get hs 12 (by decide) (by kernel_rfl)
   have hg74 := By.given_get hg 9 rfl rfl (by kernel_rfl)
   refine By.yes (By.want_yes rfl rfl hg74) ?_
   clear hg74
   clear hs hg
   have hr := l_all (Row.below (w := W12.drew) HP13.out ht HP13.out.lt) HPo.out
   refine wp_ld 40 _ rfl h12 hr ?_
   exact ⟨_, rfl, Grew.refl _, rfl⟩
 · intro a w ht hs hg
   have h75 : a.tmps.getD 75 undef = _ := By.given_get hg 10 rfl rfl (by kernel_rfl)
   have h76 : a.tmps.getD 76 undef = _ := By.given_get hg 11 rfl rfl (by kernel_rfl)
   have hg74 := By.given_get hg 9 rfl rfl (by kernel_rfl)
   refine By.yes (By.want_yes rfl rfl hg74) ?_
   clear hg74
   clear hs hg
   have HTw := Lib.hid (HT13.out.below (grew_below ht) HT13.out.1)
   clear ht
   unfold arr8 at h75
   unfold Pk.val at h76
   go_simp
   refine (CheckHello_any key p HKl.out HPo.out A n c HPb.out w HTw.out).mono ?_
   rintro x w8 ⟨rfl, hb8⟩
   exact ⟨_, rfl, hb8, congrArg (Value.int .i64) HC'.out⟩
 · intro a w ht hs hg
   have h9 := By.same_get hs 9 (by decide) (by kernel_rfl)
   have hg74 := By.given_get hg 9 rfl rfl (by kernel_rfl)
   refine By.yes (By.want_yes rfl rfl hg74) ?_
   clear hg74
   clear hs hg
   have hr := l_a32 (Row.below (w := W12.drew) HK13.out ht HK13.out.lt) HKl.out
   refine wp_ld 24 _ rfl h9 hr ?_
   exact ⟨_, rfl, Grew.refl _, rfl⟩
 · intro a w ht hs hg
   have h12 := By.same_get hs 12 (by decide) (by kernel_rfl)
   have hg74 := By.given_get hg 9 rfl rfl (by kernel_rfl)
   refine By.yes (By.want_yes rfl rfl hg74) ?_
   clear hg74
   clear hs hg
   have hr := l_all (Row.below (w := W12.drew) HP13.out ht HP13.out.lt) HPo.out
   refine wp_ld 40 _ rfl h12 hr ?_
   exact ⟨_, rfl, Grew.refl _, rfl⟩
 · intro a w ht hs hg
   have h78 : a.tmps.getD 78 undef = _ := By.given_get hg 13 rfl rfl (by kernel_rfl)
   have h79 : a.tmps.getD 79 undef = _ := By.given_get hg 14 rfl rfl (by kernel_rfl)
   have hg74 := By.given_get hg 9 rfl rfl (by kernel_rfl)
   refine By.yes (By.want_yes rfl rfl hg74) ?_
   clear hg74
   clear hs hg
   have HTw := Lib.hid (HT13.out.below (grew_below ht) HT13.out.1)
   clear ht
   unfold arr8 at h78
   unfold Pk.val at h79
   go_simp
   refine (RCheckHello_any key p HKl.out HPo.out A n c HPb.out w HTw.out).mono ?_
   rintro x w8 ⟨rfl, hb8⟩
   exact ⟨_, rfl, hb8, congrArg (Value.int .i64) HC.out⟩
 · intro a w ht hs hg
   have h77 : a.tmps.getD 77 undef = _ := By.given_get hg 12 rfl rfl (by kernel_rfl)
   have h80 : a.tmps.getD 80 undef = _ := By.given_get hg 15 rfl rfl (by kernel_rfl)
   have hg74 := By.given_get hg 9 rfl rfl (by kernel_rfl)
   refine By.yes (By.want_yes rfl rfl hg74) ?_
   clear hg74
   clear hs hg
   clear ht
   go_simp
   exact ⟨_, rfl, Grew.refl _, congrArg Value.bool (by simp)⟩
 · intro a w ht hs hg
   have h74 : a.tmps.getD 74 undef = _ := By.given_get hg 9 rfl rfl (by kernel_rfl)
   have h81 : a.tmps.getD 81 undef = _ := By.given_get hg 16 rfl rfl (by kernel_rfl)
   refine By.yes rfl ?_
   clear hs hg
   go_simp
   exact ⟨_, rfl, Grew.refl _, rfl⟩
 · intro a w ht hs hg
   have h82 : a.tmps.getD 82 undef = _ := By.given_get hg 17 rfl rfl (by kernel_rfl)
   refine By.yes rfl ?_
   clear hs hg
   go_simp
   exact ⟨_, rfl, Grew.refl _, rfl⟩
 · intro a w ht hs hg
   have h9 := By.same_get hs 9 (by decide) (by kernel_rfl)
   have hg83 := By.given_get hg 18 rfl rfl (by kernel_rfl)
   refine By.yes (By.want_yes rfl rfl hg83) ?_
   clear hg83
   clear hs hg
   have hr := l_a32 (Row.below (w := W12.drew) HK13.out ht HK13.out.lt) HKl.out
   refine wp_ld 24 _ rfl h9 hr ?_
   exact ⟨_, rfl, Grew.refl _, rfl⟩
 · intro a w ht hs hg
   have h7 := By.same_get hs 7 (by decide) (by kernel_rfl)
   have hg83 := By.given_get hg 18 rfl rfl (by kernel_rfl)
   refine By.yes (By.want_yes rfl rfl hg83) ?_
   clear hg83
   clear hs hg
   go_simp
   exact ⟨_, rfl, Grew.refl _, rfl⟩
 · intro a w ht hs hg
   have h8 := By.same_get hs 8 (by decide) (by kernel_rfl)
   have hg83 := By.given_get hg 18 rfl rfl (by kernel_rfl)
   refine By.yes (By.want_yes rfl rfl hg83) ?_
   clear hg83
   clear hs hg
   go_simp
   exact ⟨_, rfl, Grew.refl _, rfl⟩
 · intro a w ht hs hg
   have h84 : a.tmps.getD 84 undef = _ := By.given_get hg 19 rfl rfl (by kernel_rfl)
   have h85 : a.tmps.getD 85 undef = _ := By.given_get hg 20 rfl rfl (by kernel_rfl)
   have h86 : a.tmps.getD 86 undef = _ := By.given_get hg 21 rfl rfl (by kernel_rfl)
   have hg83 := By.given_get hg 18 rfl rfl (by kernel_rfl)
   refine By.yes (By.want_yes rfl rfl hg83) ?_
   clear hg83
   clear hs hg
   have HTw := Lib.hid (HT13.out.below (grew_below ht) HT13.out.1)
   have HLw := Lib.hid ((HL0.out.below (nextB HB13.out (Nat.le_refl _) (grew_below ht))).more' (HB13.out.trans ((grew_below ht).mono HB13.out.size)).size)
   clear ht
   unfold arr8 at h84
   go_simp
   refine (Mark_any key tb ls _ HKl.out (by have := Htb.out; omega) w HTw.out HLw.out (by have := Hl.out.1; omega) (fun l h => by have := Hl.out.2 l h; omega) (by have := Hfl.out; omega)).mono ?_
   rintro x w8 ⟨rfl, hb8⟩
   exact ⟨_, rfl, hb8, congrArg arr8 HM.out⟩
 · intro a w ht hs hg
   have h9 := By.same_get hs 9 (by decide) (by kernel_rfl)
   have hg83 := By.given_get hg 18 rfl rfl (by kernel_rfl)
   refine By.yes (By.want_yes rfl rfl hg83) ?_
   clear hg83
   clear hs hg
   have hr := l_a32 (Row.below (w := W12.drew) HK13.out ht HK13.out.lt) HKl.out
   refine wp_ld 24 _ rfl h9 hr ?_
   exact ⟨_, rfl, Grew.refl _, rfl⟩
 · intro a w ht hs hg
   have h7 := By.same_get hs 7 (by decide) (by kernel_rfl)
   have hg83 := By.given_get hg 18 rfl rfl (by kernel_rfl)
   refine By.yes (By.want_yes rfl rfl hg83) ?_
   clear hg83
   clear hs hg
   go_simp
   exact ⟨_, rfl, Grew.refl _, rfl⟩
 · intro a w ht hs hg
   have h8 := By.same_get hs 8 (by decide) (by kernel_rfl)
   have hg83 := By.given_get hg 18 rfl rfl (by kernel_rfl)
   refine By.yes (By.want_yes rfl rfl hg83) ?_
   clear hg83
   clear hs hg
   go_simp
   exact ⟨_, rfl, Grew.refl _, rfl⟩
 · intro a w ht hs hg
   have h88 : a.tmps.getD 88 undef = _ := By.given_get hg 23 rfl rfl (by kernel_rfl)
   have h89 : a.tmps.getD 89 undef = _ := By.given_get hg 24 rfl rfl (by kernel_rfl)
   have h90 : a.tmps.getD 90 undef = _ := By.given_get hg 25 rfl rfl (by kernel_rfl)
   have hg83 := By.given_get hg 18 rfl rfl (by kernel_rfl)
   refine By.yes (By.want_yes rfl rfl hg83) ?_
   clear hg83
   clear hs hg
   have HTw := Lib.hid (HT13.out.below (grew_below ht) HT13.out.1)
   have HLw := Lib.hid ((HL0.out.below (nextB HB13.out (Nat.le_refl _) (grew_below ht))).more' (HB13.out.trans ((grew_below ht).mono HB13.out.size)).size)
   clear ht
   unfold arr8 at h88
   go_simp
   refine (RMark_any key tb ls _ HKl.out Htb.out w HTw.out HLw.out (by have := Hl.out.1; omega) (by have := Hfl.out; omega)).mono ?_
   rintro x w8 ⟨rfl, hb8⟩
   exact ⟨_, rfl, hb8, congrArg arr8 HM.out⟩
 · intro a w ht hs hg
   have h87 : a.tmps.getD 87 undef = _ := By.given_get hg 22 rfl rfl (by kernel_rfl)
   have h91 : a.tmps.getD 91 undef = _ := By.given_get hg 26 rfl rfl (by kernel_rfl)
   have hg83 := By.given_get hg 18 rfl rfl (by kernel_rfl)
   refine By.yes (By.want_yes rfl rfl hg83) ?_
   clear hg83
   clear hs hg
   refine wp_neqArr _ _ rfl (by kernel_rfl) h87 h91 (eq16' M HMl.out w) ?_
   exact ⟨_, rfl, Grew.refl _, congrArg Value.bool (by simp)⟩
 · intro a w ht hs hg
   have h83 : a.tmps.getD 83 undef = _ := By.given_get hg 18 rfl rfl (by kernel_rfl)
   have h92 : a.tmps.getD 92 undef = _ := By.given_get hg 27 rfl rfl (by kernel_rfl)
   refine By.yes rfl ?_
   clear hs hg
   go_simp
   exact ⟨_, rfl, Grew.refl _, rfl⟩
 · intro a w ht hs hg
   have h93 : a.tmps.getD 93 undef = _ := By.given_get hg 28 rfl rfl (by kernel_rfl)
   refine By.yes rfl ?_
   clear hs hg
   go_simp
   exact ⟨_, rfl, Grew.refl _, rfl⟩
 · intro a w ht hs hg
   have h9 := By.same_get hs 9 (by decide) (by kernel_rfl)
   have hg94 := By.given_get hg 29 rfl rfl (by kernel_rfl)
   refine By.yes (By.want_yes rfl rfl hg94) ?_
   clear hg94
   clear hs hg
   have hr := l_a32 (Row.below (w := W12.drew) HK13.out ht HK13.out.lt) HKl.out
   refine wp_ld 24 _ rfl h9 hr ?_
   exact ⟨_, rfl, Grew.refl _, rfl⟩
 · intro a w ht hs hg
   have h12 := By.same_get hs 12 (by decide) (by kernel_rfl)
   have hg94 := By.given_get hg 29 rfl rfl (by kernel_rfl)
   refine By.yes (By.want_yes rfl rfl hg94) ?_
   clear hg94
   clear hs hg
   have hr := l_all (Row.below (w := W12.drew) HP13.out ht HP13.out.lt) HPo.out
   refine wp_ld 40 _ rfl h12 hr ?_
   exact ⟨_, rfl, Grew.refl _, rfl⟩
 · intro a w ht hs hg
   have h13 := By.same_get hs 13 (by decide) (by kernel_rfl)
   have hg94 := By.given_get hg 29 rfl rfl (by kernel_rfl)
   refine By.yes (By.want_yes rfl rfl hg94) ?_
   clear hg94
   clear hs hg
   have hr := l_all (Row.below (w := W12.drew) HQ13.out ht HQ13.out.lt) HQo.out
   refine wp_ld 40 _ rfl h13 hr ?_
   exact ⟨_, rfl, Grew.refl _, rfl⟩
 · intro a w ht hs hg
   have h95 : a.tmps.getD 95 undef = _ := By.given_get hg 30 rfl rfl (by kernel_rfl)
   have h96 : a.tmps.getD 96 undef = _ := By.given_get hg 31 rfl rfl (by kernel_rfl)
   have h97 : a.tmps.getD 97 undef = _ := By.given_get hg 32 rfl rfl (by kernel_rfl)
   have hg94 := By.given_get hg 29 rfl rfl (by kernel_rfl)
   refine By.yes (By.want_yes rfl rfl hg94) ?_
   clear hg94
   clear hs hg
   have HTw := Lib.hid (HT13.out.below (grew_below ht) HT13.out.1)
   clear ht
   unfold arr8 at h95
   unfold Pk.val at h96 h97
   go_simp
   refine (Secret_any key p q HKl.out HPo.out HQo.out w HTw.out).mono ?_
   rintro x w8 ⟨rfl, hb8⟩
   exact ⟨_, rfl, hb8, congrArg arr8 HX.out⟩
 · intro a w ht hs hg
   have h9 := By.same_get hs 9 (by decide) (by kernel_rfl)
   have hg94 := By.given_get hg 29 rfl rfl (by kernel_rfl)
   refine By.yes (By.want_yes rfl rfl hg94) ?_
   clear hg94
   clear hs hg
   have hr := l_a32 (Row.below (w := W12.drew) HK13.out ht HK13.out.lt) HKl.out
   refine wp_ld 24 _ rfl h9 hr ?_
   exact ⟨_, rfl, Grew.refl _, rfl⟩
 · intro a w ht hs hg
   have h12 := By.same_get hs 12 (by decide) (by kernel_rfl)
   have hg94 := By.given_get hg 29 rfl rfl (by kernel_rfl)
   refine By.yes (By.want_yes rfl rfl hg94) ?_
   clear hg94
   clear hs hg
   have hr := l_all (Row.below (w := W12.drew) HP13.out ht HP13.out.lt) HPo.out
   refine wp_ld 40 _ rfl h12 hr ?_
   exact ⟨_, rfl, Grew.refl _, rfl⟩
 · intro a w ht hs hg
   have h13 := By.same_get hs 13 (by decide) (by kernel_rfl)
   have hg94 := By.given_get hg 29 rfl rfl (by kernel_rfl)
   refine By.yes (By.want_yes rfl rfl hg94) ?_
   clear hg94
   clear hs hg
   have hr := l_all (Row.below (w := W12.drew) HQ13.out ht HQ13.out.lt) HQo.out
   refine wp_ld 40 _ rfl h13 hr ?_
   exact ⟨_, rfl, Grew.refl _, rfl⟩
 · intro a w ht hs hg
   have h99 : a.tmps.getD 99 undef = _ := By.given_get hg 34 rfl rfl (by kernel_rfl)
   have h100 : a.tmps.getD 100 undef = _ := By.given_get hg 35 rfl rfl (by kernel_rfl)
   have h101 : a.tmps.getD 101 undef = _ := By.given_get hg 36 rfl rfl (by kernel_rfl)
   have hg94 := By.given_get hg 29 rfl rfl (by kernel_rfl)
   refine By.yes (By.want_yes rfl rfl hg94) ?_
   clear hg94
   clear hs hg
   have HTw := Lib.hid (HT13.out.below (grew_below ht) HT13.out.1)
   clear ht
   unfold arr8 at h99
   unfold Pk.val at h100 h101
   go_simp
   refine (RSecret_any key p q HKl.out HPo.out HQo.out w HTw.out).mono ?_
   rintro x w8 ⟨rfl, hb8⟩
   exact ⟨_, rfl, hb8, congrArg arr8 HX.out⟩
 · intro a w ht hs hg
   have h98 : a.tmps.getD 98 undef = _ := By.given_get hg 33 rfl rfl (by kernel_rfl)
   have h102 : a.tmps.getD 102 undef = _ := By.given_get hg 37 rfl rfl (by kernel_rfl)
   have hg94 := By.given_get hg 29 rfl rfl (by kernel_rfl)
   refine By.yes (By.want_yes rfl rfl hg94) ?_
   clear hg94
   clear hs hg
   refine wp_neqArr _ _ rfl (by kernel_rfl) h98 h102 (eq32 X X HXl.out HXl.out w) ?_
   exact ⟨_, rfl, Grew.refl _, congrArg Value.bool (by simp)⟩
 · intro a w ht hs hg
   have h94 : a.tmps.getD 94 undef = _ := By.given_get hg 29 rfl rfl (by kernel_rfl)
   have h103 : a.tmps.getD 103 undef = _ := By.given_get hg 38 rfl rfl (by kernel_rfl)
   refine By.yes rfl ?_
   clear hs hg
   go_simp
   exact ⟨_, rfl, Grew.refl _, rfl⟩
 refine By.ends_is (By.ends_is (By.ends_is (By.ends_is (By.ends_is (By.ends_is (By.ends_is (By.ends_is (By.ends_is (By.ends_is (By.ends_is (By.ends_is (By.ends_is (By.ends_is (By.ends_is (By.ends_is (By.ends_is (By.ends_is (By.ends_is (By.ends_is (By.ends_is (By.ends_is (By.ends_is (By.ends_is (By.ends_is (By.ends_is (By.ends_is (By.ends_is (By.ends_is (By.ends_is (By.ends_is (By.ends_is (By.ends_is (By.ends_is (By.ends_is (By.ends_is (By.ends_is (By.ends_is (By.ends_is (By.ends_is (By.ends_nil fun W14 hw14 => ?_))))))))))))))))))))))))))))))))))))))))
 simp only [Act.put, List.setIfInBounds_toArray, List.set_cons_succ, List.set_cons_zero]
 have hb := grew_below hw14
 have HB14 := Lib.hid (nextB HB13.out (Nat.le_refl _) hb)
 have HK14 := Lib.hid (HK13.out.below hb HK13.out.lt)
 have HA14 := Lib.hid (HA13.out.below hb HA13.out.lt)
 have HP14 := Lib.hid (HP13.out.below hb HP13.out.lt)
 have HQ14 := Lib.hid (HQ13.out.below hb HQ13.out.lt)
 have HE14 := Lib.hid (HE13.out.below hb HE13.out.lt)
 have HE214 := Lib.hid (HE212.out.below hb HE212.out.lt)
 have HT14 := Lib.hid (HT13.out.below hb HT13.out.1)
 clear hb hw14
 have HL15 := Lib.hid (l_a32 HK14.out HKl.out)
 have HL16 := Lib.hid (l_all HP14.out HPo.out)
 have HL17 := Lib.hid (l_a16 HA14.out HRa.out)
 go_wp2_with (first
  | (refine wpList_ld 24 rfl rfl HL15.out rfl ?_)
  | (refine wpList_ld 40 rfl rfl HL16.out rfl ?_)
  | (refine wpList_ld 38 rfl rfl HL17.out rfl ?_)
  | fail)
 refine (Answer_any key p s e ra HKl.out HPo.out A n c HPb.out HRa.out W14 HT14.out).mono ?_
 rintro e w18 ⟨rfl, hb⟩
 rw [HG.out]
 have HB19 := Lib.hid (nextB HB14.out (Nat.le_refl _) hb)
 have HK19 := Lib.hid (HK14.out.below hb HK14.out.lt)
 have HA19 := Lib.hid (HA14.out.below hb HA14.out.lt)
 have HP19 := Lib.hid (HP14.out.below hb HP14.out.lt)
 have HQ19 := Lib.hid (HQ14.out.below hb HQ14.out.lt)
 have HE19 := Lib.hid (HE14.out.below hb HE14.out.lt)
 have HE219 := Lib.hid (HE214.out.below hb HE214.out.lt)
 have HT19 := Lib.hid (HT14.out.below hb HT14.out.1)
 clear hb
 have HL20 := Lib.hid (l_a32 HK19.out HKl.out)
 have HL21 := Lib.hid (l_all HP19.out HPo.out)
 have HL22 := Lib.hid (l_a16 HA19.out HRa.out)
 have HltE := Lib.hid (HE19.out.lt)
 go_wp2_with (first
  | (refine wpList_ld 24 rfl rfl HL20.out rfl ?_)
  | (refine wpList_ld 40 rfl rfl HL21.out rfl ?_)
  | (refine wpList_ld 38 rfl rfl HL22.out rfl ?_)
  | (show wpList _ _ _ (⟨none, Op.store 40 _ _, _, _, _, _⟩ :: _) _ _
     refine wpList_storeRow (g := w4.heap.size) rfl 40 _ _ rfl rfl rfl (cs := G.cells) (HE19.out.alloc _) (by kernel_rfl) (Pk.length HGo.out) (Pk.length HFo.out) (Pk.one HGo.out) ?_)
  | (show wpList _ _ _ (⟨none, Op.store 24 _ _, _, _, _, _⟩ :: _) _ _
     refine wpList_storeRow (g := w18.heap.size) rfl 24 _ _ rfl rfl rfl (cs := (S.map bv)) ((Row.new rfl rfl : Row (w18.alloc (.cells z32.toArray 24)) w18.heap.size z32 24).setOther _ _ (by have := HltE.out; omega)) (by kernel_rfl) (by rw [List.length_map]; exact HSl.out) rfl (hbytes_one S) ?_
     refine wpList_name fun V hV => ?_
     refine sstop ?_)
  | fail)
 unfold SStop
 obtain ⟨W23, hV2⟩ : ∃ V2, V = V2 := ⟨V, rfl⟩
 rw [hV2] at hV ⊢
 clear hV2
 have hb : Below w4.heap.size w18 W23 := by rw [← hV]; exact below_setRow (below_setRow ((Below.refl _ w18).alloc (Nat.le_of_lt HltE.out) _) (Nat.le_refl _) _) (Nat.le_of_lt HltE.out) _
 have HE23 := Lib.hid (show Row W23 w4.heap.size G.cells 40 by rw [← hV]; exact ((HE19.out.alloc _).setRow _).setOther _ _ (by have := HltE.out; omega))
 have HS23 := Lib.hid (show Row W23 w18.heap.size (S.map bv) 24 by rw [← hV]; exact ((Row.new rfl rfl : Row (w18.alloc (.cells z32.toArray 24)) w18.heap.size z32 24).setOther _ _ (by have := HltE.out; omega)).setRow _)
 have HE223 := Lib.hid (show Row W23 w10.heap.size (F.cells) 40 by rw [← hV]; exact (((HE219.out.alloc _).setOther _ _ (by have := HE11.out.lt; omega)).setOther _ _ (by have := HE219.out.lt; omega)))
 have HB23 := Lib.hid (HB19.out.trans (hb.mono HB5.out.size))
 have HK23 := Lib.hid (HK19.out.below hb HK5.out.lt)
 have HA23 := Lib.hid (HA19.out.below hb HA5.out.lt)
 have HP23 := Lib.hid (HP19.out.below hb HP5.out.lt)
 have HQ23 := Lib.hid (HQ19.out.below hb HQ5.out.lt)
 have HT23 := Lib.hid (HT19.out.below hb HT5.out.1)
 clear hV hb HltE
 have HL24 := Lib.hid (l_a32 HK23.out HKl.out)
 have HL25 := Lib.hid (l_all HP23.out HPo.out)
 have HL26 := Lib.hid (l_a16 HA23.out HRa.out)
 go_wp2_with (first
  | (refine wpList_ld 24 rfl rfl HL24.out rfl ?_)
  | (refine wpList_ld 40 rfl rfl HL25.out rfl ?_)
  | (refine wpList_ld 38 rfl rfl HL26.out rfl ?_)
  | fail)
 refine (RAnswer_any key p s e ra HKl.out HPo.out A n c HPb.out HRa.out Hel.out W23 HT23.out).mono ?_
 rintro e w27 ⟨rfl, hb⟩
 rw [HG.out]
 have HB28 := Lib.hid (nextB HB23.out (Nat.le_refl _) hb)
 have HK28 := Lib.hid (HK23.out.below hb HK23.out.lt)
 have HA28 := Lib.hid (HA23.out.below hb HA23.out.lt)
 have HP28 := Lib.hid (HP23.out.below hb HP23.out.lt)
 have HQ28 := Lib.hid (HQ23.out.below hb HQ23.out.lt)
 have HE28 := Lib.hid (HE23.out.below hb HE23.out.lt)
 have HE228 := Lib.hid (HE223.out.below hb HE223.out.lt)
 have HS28 := Lib.hid (HS23.out.below hb HS23.out.lt)
 have HT28 := Lib.hid (HT23.out.below hb HT23.out.1)
 clear hb
 have HL29 := Lib.hid (l_a32 HK28.out HKl.out)
 have HL30 := Lib.hid (l_all HP28.out HPo.out)
 have HL31 := Lib.hid (l_a16 HA28.out HRa.out)
 have HltE := Lib.hid (HE228.out.lt)
 go_wp2_with (first
  | (refine wpList_ld 24 rfl rfl HL29.out rfl ?_)
  | (refine wpList_ld 40 rfl rfl HL30.out rfl ?_)
  | (refine wpList_ld 38 rfl rfl HL31.out rfl ?_)
  | (show wpList _ _ _ (⟨none, Op.store 40 _ _, _, _, _, _⟩ :: _) _ _
     refine wpList_storeRow (g := w10.heap.size) rfl 40 _ _ rfl rfl rfl (cs := G.cells) (HE228.out.alloc _) (by kernel_rfl) (Pk.length HGo.out) (Pk.length HFo.out) (Pk.one HGo.out) ?_)
  | (show wpList _ _ _ (⟨none, Op.store 24 _ _, _, _, _, _⟩ :: _) _ _
     refine wpList_storeRow (g := w27.heap.size) rfl 24 _ _ rfl rfl rfl (cs := (S.map bv)) ((Row.new rfl rfl : Row (w27.alloc (.cells z32.toArray 24)) w27.heap.size z32 24).setOther _ _ (by have := HltE.out; omega)) (by kernel_rfl) (by rw [List.length_map]; exact HSl.out) rfl (hbytes_one S) ?_
     refine wpList_name fun V hV => ?_
     refine sstop ?_)
  | fail)
 unfold SStop
 obtain ⟨W32, hV2⟩ : ∃ V2, V = V2 := ⟨V, rfl⟩
 rw [hV2] at hV ⊢
 clear hV2
 have hb : Below w10.heap.size w27 W32 := by rw [← hV]; exact below_setRow (below_setRow ((Below.refl _ w27).alloc (Nat.le_of_lt HltE.out) _) (Nat.le_refl _) _) (Nat.le_of_lt HltE.out) _
 have HE232 := Lib.hid (show Row W32 w10.heap.size G.cells 40 by rw [← hV]; exact ((HE228.out.alloc _).setRow _).setOther _ _ (by have := HltE.out; omega))
 have HS232 := Lib.hid (show Row W32 w27.heap.size (S.map bv) 24 by rw [← hV]; exact ((Row.new rfl rfl : Row (w27.alloc (.cells z32.toArray 24)) w27.heap.size z32 24).setOther _ _ (by have := HltE.out; omega)).setRow _)
 have HS32 := Lib.hid (show Row W32 w18.heap.size (S.map bv) 24 by rw [← hV]; exact (((HS28.out.alloc _).setOther _ _ (by have := HE219.out.lt; omega)).setOther _ _ (by have := HS28.out.lt; omega)))
 have HB32 := Lib.hid (HB28.out.trans (hb.mono HB11.out.size))
 have HK32 := Lib.hid (HK28.out.below hb HK11.out.lt)
 have HA32 := Lib.hid (HA28.out.below hb HA11.out.lt)
 have HP32 := Lib.hid (HP28.out.below hb HP11.out.lt)
 have HQ32 := Lib.hid (HQ28.out.below hb HQ11.out.lt)
 have HE32 := Lib.hid (HE28.out.below hb HE11.out.lt)
 have HT32 := Lib.hid (HT28.out.below hb HT11.out.1)
 clear hV hb HltE
 have HL33 := Lib.hid (l_a32 HK32.out HKl.out)
 have HL34 := Lib.hid (l_all HP32.out HPo.out)
 have HL35 := Lib.hid (l_all HQ32.out HQo.out)
 go_wp2_with (first
  | (refine wpList_ld 24 rfl rfl HL33.out rfl ?_)
  | (refine wpList_ld 40 rfl rfl HL34.out rfl ?_)
  | (refine wpList_ld 40 rfl rfl HL35.out rfl ?_)
  | fail)
 refine (CheckAnswer_any key p q HKl.out HPo.out HQo.out A A2 n m c c2 HPb.out HQb.out W32 HT32.out).mono ?_
 rintro e w36 ⟨rfl, hb⟩
 rw [HU.out]
 have HB37 := Lib.hid (nextB HB32.out (Nat.le_refl _) hb)
 have HK37 := Lib.hid (HK32.out.below hb HK32.out.lt)
 have HA37 := Lib.hid (HA32.out.below hb HA32.out.lt)
 have HP37 := Lib.hid (HP32.out.below hb HP32.out.lt)
 have HQ37 := Lib.hid (HQ32.out.below hb HQ32.out.lt)
 have HE37 := Lib.hid (HE32.out.below hb HE32.out.lt)
 have HE237 := Lib.hid (HE232.out.below hb HE232.out.lt)
 have HS37 := Lib.hid (HS32.out.below hb HS32.out.lt)
 have HS237 := Lib.hid (HS232.out.below hb HS232.out.lt)
 have HT37 := Lib.hid (HT32.out.below hb HT32.out.1)
 clear hb
 go_wp2_with (first
  | (show wpList _ _ _ (⟨none, Op.store 24 _ _, _, _, _, _⟩ :: _) _ _
     refine wpList_storeRow (g := w36.heap.size) rfl 24 _ _ rfl rfl rfl (cs := (U.map bv)) (Row.new rfl rfl : Row (w36.alloc (.cells z32.toArray 24)) w36.heap.size z32 24) (by kernel_rfl) (by rw [List.length_map]; exact HUl.out) rfl (hbytes_one U) ?_
     refine wpList_name fun V hV => ?_
     refine sstop ?_)
  | fail)
 unfold SStop
 obtain ⟨W38, hV2⟩ : ∃ V2, V = V2 := ⟨V, rfl⟩
 rw [hV2] at hV ⊢
 clear hV2
 have hb : Below w36.heap.size w36 W38 := by rw [← hV]; exact (below_setRow ((Below.refl _ w36).alloc (Nat.le_refl _) _) (by omega) _)
 have HU38 := Lib.hid (show Row W38 w36.heap.size (U.map bv) 24 by rw [← hV]; exact ((Row.new rfl rfl : Row (w36.alloc (.cells z32.toArray 24)) w36.heap.size z32 24).setRow _))
 have HBs38 := Lib.hid hb
 have HB39 := Lib.hid (nextB HB37.out (Nat.le_refl _) hb)
 have HK39 := Lib.hid (HK37.out.below hb HK37.out.lt)
 have HA39 := Lib.hid (HA37.out.below hb HA37.out.lt)
 have HP39 := Lib.hid (HP37.out.below hb HP37.out.lt)
 have HQ39 := Lib.hid (HQ37.out.below hb HQ37.out.lt)
 have HE39 := Lib.hid (HE37.out.below hb HE37.out.lt)
 have HE239 := Lib.hid (HE237.out.below hb HE237.out.lt)
 have HS39 := Lib.hid (HS37.out.below hb HS37.out.lt)
 have HS239 := Lib.hid (HS237.out.below hb HS237.out.lt)
 have HT39 := Lib.hid (HT37.out.below hb HT37.out.1)
 clear hV hb
 have HL40 := Lib.hid (l_a32 HK39.out HKl.out)
 have HL41 := Lib.hid (l_all HP39.out HPo.out)
 have HL42 := Lib.hid (l_all HQ39.out HQo.out)
 go_wp2_with (first
  | (refine wpList_ld 24 rfl rfl HL40.out rfl ?_)
  | (refine wpList_ld 40 rfl rfl HL41.out rfl ?_)
  | (refine wpList_ld 40 rfl rfl HL42.out rfl ?_)
  | fail)
 refine (RCheckAnswer_any key p q HKl.out HPo.out HQo.out HQe.out A A2 n m c c2 HPb.out HQb.out W38 HT39.out).mono ?_
 rintro e w43 ⟨rfl, hb⟩
 rw [HU.out]
 have HB44 := Lib.hid (nextB HB39.out (Nat.le_refl _) hb)
 have HK44 := Lib.hid (HK39.out.below hb HK39.out.lt)
 have HA44 := Lib.hid (HA39.out.below hb HA39.out.lt)
 have HP44 := Lib.hid (HP39.out.below hb HP39.out.lt)
 have HQ44 := Lib.hid (HQ39.out.below hb HQ39.out.lt)
 have HE44 := Lib.hid (HE39.out.below hb HE39.out.lt)
 have HE244 := Lib.hid (HE239.out.below hb HE239.out.lt)
 have HS44 := Lib.hid (HS39.out.below hb HS39.out.lt)
 have HS244 := Lib.hid (HS239.out.below hb HS239.out.lt)
 have HU44 := Lib.hid (HU38.out.below hb HU38.out.lt)
 have HT44 := Lib.hid (HT39.out.below hb HT39.out.1)
 clear hb
 go_wp2_with (first
  | (show wpList _ _ _ (⟨none, Op.store 24 _ _, _, _, _, _⟩ :: _) _ _
     refine wpList_storeRow (g := w43.heap.size) rfl 24 _ _ rfl rfl rfl (cs := (U.map bv)) (Row.new rfl rfl : Row (w43.alloc (.cells z32.toArray 24)) w43.heap.size z32 24) (by kernel_rfl) (by rw [List.length_map]; exact HUl.out) rfl (hbytes_one U) ?_
     refine wpList_name fun V hV => ?_
     refine sstop ?_)
  | fail)
 unfold SStop
 obtain ⟨W45, hV2⟩ : ∃ V2, V = V2 := ⟨V, rfl⟩
 rw [hV2] at hV ⊢
 clear hV2
 have hb : Below w43.heap.size w43 W45 := by rw [← hV]; exact (below_setRow ((Below.refl _ w43).alloc (Nat.le_refl _) _) (by omega) _)
 have HU245 := Lib.hid (show Row W45 w43.heap.size (U.map bv) 24 by rw [← hV]; exact ((Row.new rfl rfl : Row (w43.alloc (.cells z32.toArray 24)) w43.heap.size z32 24).setRow _))
 have HBs45 := Lib.hid hb
 have HB46 := Lib.hid (nextB HB44.out (Nat.le_refl _) hb)
 have HK46 := Lib.hid (HK44.out.below hb HK44.out.lt)
 have HA46 := Lib.hid (HA44.out.below hb HA44.out.lt)
 have HP46 := Lib.hid (HP44.out.below hb HP44.out.lt)
 have HQ46 := Lib.hid (HQ44.out.below hb HQ44.out.lt)
 have HE46 := Lib.hid (HE44.out.below hb HE44.out.lt)
 have HE246 := Lib.hid (HE244.out.below hb HE244.out.lt)
 have HS46 := Lib.hid (HS44.out.below hb HS44.out.lt)
 have HS246 := Lib.hid (HS244.out.below hb HS244.out.lt)
 have HU46 := Lib.hid (HU44.out.below hb HU44.out.lt)
 have HT46 := Lib.hid (HT44.out.below hb HT44.out.1)
 clear hV hb
 have HL47 := Lib.hid (l_all HE46.out HGo.out)
 have HL48 := Lib.hid (l_all HE246.out HGo.out)
 go_wp2_with (first
  | (refine wpList_ld 40 rfl rfl HL47.out rfl ?_)
  | (refine wpList_ld 40 rfl rfl HL48.out rfl ?_)
  | fail)
 refine (KPacket_yes G G HGo.out HGo.out W45 [] [] (by rw [HGb.out]; exact bs_nil _ _) (by rw [HGb.out]; exact bs_nil _ _) rfl rfl rfl rfl rfl rfl rfl).mono ?_
 rintro e w49 ⟨rfl, hb⟩
 rw [show decide (([] : List UInt8) = []) = true by simp]
 have HB50 := Lib.hid (nextB HB46.out (Nat.le_refl _) hb)
 have HK50 := Lib.hid (HK46.out.below hb HK46.out.lt)
 have HA50 := Lib.hid (HA46.out.below hb HA46.out.lt)
 have HP50 := Lib.hid (HP46.out.below hb HP46.out.lt)
 have HQ50 := Lib.hid (HQ46.out.below hb HQ46.out.lt)
 have HE50 := Lib.hid (HE46.out.below hb HE46.out.lt)
 have HE250 := Lib.hid (HE246.out.below hb HE246.out.lt)
 have HS50 := Lib.hid (HS46.out.below hb HS46.out.lt)
 have HS250 := Lib.hid (HS246.out.below hb HS246.out.lt)
 have HU50 := Lib.hid (HU46.out.below hb HU46.out.lt)
 have HU250 := Lib.hid (HU245.out.below hb HU245.out.lt)
 have HT50 := Lib.hid (HT46.out.below hb HT46.out.1)
 clear hb
 have he1 := fun u v w => eqg .eql (.inl rfl) S S u v w
 have hv1 := fun w => eqv S S HSl.out HSl.out w
 rw [show decide (S = S) = true by simp] at hv1
 have he2 := fun u v w => eqg .eql (.inl rfl) U U u v w
 have hv2 := fun w => eqv U U HUl.out HUl.out w
 rw [show decide (U = U) = true by simp] at hv2
 have HL51 := Lib.hid (l_a32 HS50.out HSl.out)
 have HL52 := Lib.hid (l_a32 HS250.out HSl.out)
 have HL53 := Lib.hid (l_a32 HU50.out HUl.out)
 have HL54 := Lib.hid (l_a32 HU250.out HUl.out)
 go_wp2_with (first
  | (refine wpList_ld 24 rfl rfl HL51.out rfl ?_)
  | (refine wpList_ld 24 rfl rfl HL52.out rfl ?_)
  | (refine wpList_ld 24 rfl rfl HL53.out rfl ?_)
  | (refine wpList_ld 24 rfl rfl HL54.out rfl ?_)
  | fail)
 go_ret
 exact ⟨rfl, HB50.out⟩
set_option maxRecDepth 100000 in
theorem lift (os : Os) (started : os.Started) (H : Type) (enc : TypeId × Value → H) :
 ReturnsInHanded {} Tryd.checked os 9 .any (fun w args => (Rows.shakeCallsSpec.pre enc Tryd.prog Tryd.f9 Rows.shakeCallsRow.domain false w args ∧ laidMetH Tryd.prog Hk.laidL w) ∧ sizedMet enc Tryd.prog Tryd.f9 (OpenSpec.ofChange Rows.shakeCallsSpec) false w args) (Rows.shakeCallsSpec.post enc Tryd.prog Tryd.f9 false true false false) := by
 refine Hk.lifted 4 Pol.own started (by kernel_rfl) Tryd.func9 Pol.laid (by kernel_rfl) rfl Tryd.underlying4 rfl
  (fun ds hd => by
   have hd' : ds.length = 9 := hd
   match ds, hd' with
   | [d0, d1, d2, d3, d4, d5, d6, d7, d8], _ => rfl)
  (ChangeSpec.witness_at (enc := enc) (C := Tryd.checked) (os := os) (X := fun w _ => laidMetH Tryd.prog Hk.laidL w) false (Hk.laidWorld os) #[.agg (Array.replicate 32 (.int .u8 0)), .int .i64 0, .agg (Array.replicate 16 (.int .u8 0)), (Pkt.nm 0).val, (Pkt.nm 0).val, .int .u64 0, .int .u32 0, .string ⟨#[]⟩, .slice none 0 0] 8 rfl (by kernel_rfl) (by kernel_rfl) (by kernel_rfl) (by kernel_rfl) (by kernel_rfl) (Hk.laid_metH os _)) ?_
 intro W args ds ps hst htab
 have hA : DataW.TrodAll enc Tryd.prog W 0 (fun _ => true) true Tryd.f9.params.toList args.toList ds ps := hst.trod
 have hok := hst.okw
 have hlt := hst.lt
 rw [Tryd.params9] at hA hok
 obtain ⟨v0, r0, d0, e0, p0, q0, hargs, rfl, rfl, h0, hA⟩ := trodAll_cons hA
 obtain ⟨v1, r1, d1, e1, p1, q1, rfl, rfl, rfl, h1, hA⟩ := trodAll_cons hA
 obtain ⟨v2, r2, d2, e2, p2, q2, rfl, rfl, rfl, h2, hA⟩ := trodAll_cons hA
 obtain ⟨v3, r3, d3, e3, p3, q3, rfl, rfl, rfl, h3, hA⟩ := trodAll_cons hA
 obtain ⟨v4, r4, d4, e4, p4, q4, rfl, rfl, rfl, h4, hA⟩ := trodAll_cons hA
 obtain ⟨v5, r5, d5, e5, p5, q5, rfl, rfl, rfl, h5, hA⟩ := trodAll_cons hA
 obtain ⟨v6, r6, d6, e6, p6, q6, rfl, rfl, rfl, h6, hA⟩ := trodAll_cons hA
 obtain ⟨v7, r7, d7, e7, p7, q7, rfl, rfl, rfl, h7, hA⟩ := trodAll_cons hA
 obtain ⟨v8, r8, d8, e8, p8, q8, rfl, rfl, rfl, h8, hA⟩ := trodAll_cons hA
 obtain ⟨rfl, rfl, rfl⟩ := trodAll_nil hA
 obtain rfl : args = #[v0, v1, v2, v3, v4, v5, v6, v7, v8] := by cases args; simp_all
 obtain ⟨_, hv0⟩ := hok 0 24 v0 rfl rfl
 obtain ⟨_, hv1⟩ := hok 1 3 v1 rfl rfl
 obtain ⟨_, hv2⟩ := hok 2 38 v2 rfl rfl
 obtain ⟨_, hv3⟩ := hok 3 40 v3 rfl rfl
 obtain ⟨_, hv4⟩ := hok 4 40 v4 rfl rfl
 obtain ⟨_, hv5⟩ := hok 5 36 v5 rfl rfl
 obtain ⟨_, hv6⟩ := hok 6 37 v6 rfl rfl
 obtain ⟨_, hv7⟩ := hok 7 9 v7 rfl rfl
 obtain ⟨_, hv8⟩ := hok 8 22 v8 rfl rfl
 obtain ⟨key, rfl, hk⟩ := arr8_at Tryd.underlying24 (by kernel_rfl) (by kernel_rfl) Tryd.underlying5 hv0
 obtain ⟨z, rfl, _, _⟩ := Law.int_at Tryd.underlying3 hv1 h1
 obtain ⟨ra, rfl, hra⟩ := arr8_at Tryd.underlying38 (by kernel_rfl) (by kernel_rfl) Tryd.underlying5 hv2
 obtain ⟨p, mp, A, c, rfl, hp, hbp, _, _, _, _⟩ := packet_at hv3 h3 (fun x hx => hlt x (by simp [hx]))
 obtain ⟨q, mq, A2, c2, rfl, hq, hbq, _, _, _, _⟩ := packet_at hv4 h4 (fun x hx => hlt x (by simp [hx]))
 obtain ⟨s, rfl, hs1, _⟩ := Law.int_at Tryd.underlying36 hv5 h5
 obtain ⟨e, rfl, he1, he2⟩ := Law.int_at Tryd.underlying37 hv6 h6
 obtain ⟨s, rfl⟩ : ∃ n : Nat, s = (n : Int) := ⟨s.toNat, (Int.toNat_of_nonneg (show (0 : Int) ≤ s from hs1)).symm⟩
 obtain ⟨e, rfl⟩ : ∃ n : Nat, e = (n : Int) := ⟨e.toNat, (Int.toNat_of_nonneg (show (0 : Int) ≤ e from he1)).symm⟩
 have hel : e < 4294967296 := by have h : (e : Int) ≤ 4294967295 := he2; omega
 obtain ⟨str, rfl⟩ := okWide_string Tryd.underlying9 hv7
 obtain ⟨tb, rfl⟩ : ∃ tb : List UInt8, str = ⟨tb.toArray⟩ := ⟨str.data.toList, by cases str; simp⟩
 obtain ⟨ls, hb, _⟩ := lists_trod Tryd.underlying22 hv8 h8 (fun x hx => hlt x (by simp [hx]))
 obtain ⟨Al, cl, rfl, _⟩ := id hb
 by_cases l1 : 200 < mp.length
 · exact long1 key ra tb ls z s e p q A A2 Al _ _ c c2 cl W htab hk hra hel hp hq hbp hbq hb l1
 by_cases l2 : 200 < mq.length
 · exact long2 key ra tb ls z s e p q A A2 Al _ _ c c2 cl W htab hk hra hel hp hq hbp hbq hb l1 l2
 by_cases l3 : 200 < tb.length
 · exact long3 key ra tb ls z s e p q A A2 Al _ _ c c2 cl W htab hk hra hel hp hq hbp hbq hb l1 l2 l3
 by_cases l4 : light ls 10 200 = true
 · exact walk key ra tb ls z s e p q A A2 Al _ _ c c2 cl W htab hk hra hel hp hq hbp hbq hb l1 l2 l3 l4
 · exact long4 key ra tb ls z s e p q A A2 Al _ _ c c2 cl W htab hk hra hel hp hq hbp hbq hb l1 l2 l3 (by simpa using l4)
theorem over : Rows.shakeCallsRow.holds Tryd.pinned (OpenSpec.ofChange Rows.shakeCallsSpec) :=
 OpenClaim.holds_of_wide 9 Tryd.f9 rfl rfl rfl rfl rfl rfl rfl ⟨rfl, rfl, rfl, rfl, rfl⟩ rfl rfl rfl rfl rfl (by kernel_rfl) Tryd.func9 (by kernel_rfl)
  (of_decide_eq_true (by kernel_rfl)) (by unfold Func.isWrapper; first | (rw [if_pos (by decide +kernel)]; kernel_rfl) | (rw [if_neg (by decide +kernel)]; exact ⟨rfl, rfl⟩))
  (fun os started H enc _ => lift os started H enc)
theorem proved : Rows.ShakeCallsCardSaid :=
 Claim7.holds_tied_plain_at .later [] [.data] true Rows.shakeCallsCard.stood.harness false over (fun _ h => by cases h) (by kernel_rfl) (fun _ h => by cases h) shakeCalls_row_tie rfl ⟨rfl, rfl⟩ (by kernel_rfl) rfl
  (fun f fn hf hfn => by
   obtain rfl : f = 9 := (Option.some.inj ((show Tryd.prog.funcNamed Rows.shakeCallsRow.func = some 9 by kernel_rfl).symm.trans hf)).symm
   obtain rfl : fn = Tryd.f9 := (Option.some.inj (Tryd.func9.symm.trans hfn)).symm
   refine ⟨by kernel_rfl, fun j t ht => ?_⟩
   have hall : (Tryd.f9.params.toList.all fun t => Tryd.prog.wantsStandIn t == false) = true := by kernel_rfl
   have h := List.all_eq_true.1 hall t (Array.mem_toList_iff.2 (Array.mem_of_getElem? ht))
   exact eq_of_beq h)
  (by kernel_rfl)
#print axioms proved
end Go.Proofs.YtbdpnpabpcidkaaDoor.shakeCalls
