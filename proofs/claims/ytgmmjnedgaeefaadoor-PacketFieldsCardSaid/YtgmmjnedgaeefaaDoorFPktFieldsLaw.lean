/- One field changed makes a packet wrong but where its kind has the field; the associated data differ where the numbers differ: 'drawbridgelaw09.PacketFields'. -/
import Derived.Test.YtgmmjnedgaeefaaDoorF15
import Derived.Test.YtgmmjnedgaeefaaDoorF20
import Derived.Test.YtgmmjnedgaeefaaDoorF44
import Derived.Test.YtgmmjnedgaeefaaDoorF46
import Derived.Test.YtgmmjnedgaeefaaDoorF48
import Derived.Test.YtgmmjnedgaeefaaDoorF49
import Derived.Test.YtgmmjnedgaeefaaDoorF50
namespace Go.Proofs.YtgmmjnedgaeefaaDoor.packetFields
open Go.ChangeShapes Go.WideShapes Go.ChangeAt Go.RowKit
open Pkt
open Shk (bsM wp_ld wp_conv grew_below sstop SStop)
def Two (lo : Nat) (c : List Value) (a b : World) : Prop := Below lo a b ∧ ∀ g, lo ≤ g → ((Row a g (nm 0).cells 40 ∨ Row a g c 40) → (Row b g (nm 0).cells 40 ∨ Row b g c 40)) ∧ (Row a g c 40 → Row b g c 40)
theorem Two.refl {lo : Nat} {c : List Value} (a : World) : Two lo c a a := ⟨Below.refl _ a, fun _ _ => ⟨id, id⟩⟩
theorem Two.trans {lo : Nat} {c : List Value} {x y z : World} (h : Two lo c x y) (k : Two lo c y z) : Two lo c x z := ⟨h.1.trans k.1, fun g hg => ⟨fun r => (k.2 g hg).1 ((h.2 g hg).1 r), fun r => (k.2 g hg).2 ((h.2 g hg).2 r)⟩⟩
theorem Two.alloc {lo : Nat} {c : List Value} (a : World) (h : lo ≤ a.heap.size) : Two lo c a (a.alloc (.cells (nm 0).cells.toArray 40)) :=
 ⟨(Below.refl _ a).alloc h _, fun g _ => ⟨fun r => r.elim (fun r => .inl (r.alloc _)) (fun r => .inr (r.alloc _)), fun r => r.alloc _⟩⟩
theorem Two.store {lo : Nat} {c old : List Value} {a : World} {g : Nat} (hg : lo ≤ g) (r0 : Row a g old 40) : Two lo c a (a.setRow g c.toArray) := by
 refine ⟨below_setRow (Below.refl _ a) hg _, fun k _ => ?_⟩
 by_cases e : k = g
 · subst e
   exact ⟨fun _ => .inr (r0.setRow _), fun _ => r0.setRow _⟩
 · exact ⟨fun r => r.elim (fun r => .inl (r.setOther _ _ e)) (fun r => .inr (r.setOther _ _ e)), fun r => r.setOther _ _ e⟩
def twoM (lo : Nat) (c : List Value) : By.Mark (Two lo c) := ⟨fun v w => ∃ g, v = .pointer (some ⟨g, 0, none⟩) ∧ lo ≤ g ∧ (Row w g (nm 0).cells 40 ∨ Row w g c 40), fun _ _ _ ⟨g, h1, h2, h3⟩ k => ⟨g, h1, h2, (k.2 g h2).1 h3⟩⟩
def hasM (lo : Nat) (c : List Value) : By.Mark (Two lo c) := ⟨fun v w => ∃ g, v = .pointer (some ⟨g, 0, none⟩) ∧ lo ≤ g ∧ Row w g c 40, fun _ _ _ ⟨g, h1, h2, h3⟩ k => ⟨g, h1, h2, (k.2 g h2).2 h3⟩⟩
theorem twoM_ne {lo : Nat} {c : List Value} {w : World} {x : Value} (h : (twoM lo c).on x w) : Value.pointer (some ⟨w.heap.size, 0, none⟩) ≠ x := by
 obtain ⟨g, rfl, _, h3⟩ := h
 intro e
 injection e with e
 injection e with e
 injection e with e
 subst e
 rcases h3 with h3 | h3 <;> exact Nat.lt_irrefl _ h3.lt
theorem chk_no {p : Pk} {n : Nat} (h : ¬ chk p n = 0) : chk p n = 2 := by
 unfold chk at h ⊢
 split
 · rename_i k; rw [if_pos k] at h; exact absurd rfl h
 · rfl
theorem sp_cnt (p : Pk) (z : Nat) : splice p.cells 4 [.int .u64 (z : Int)] = { p with cnt := z }.cells := rfl
theorem sp_bo (p : Pk) (ho : p.Ok) (b : Value) : splice p.cells 37 [b] = { p with bo := b }.cells := by
 obtain ⟨X, hX, hl⟩ : ∃ X, (∀ v, { p with bo := v }.cells = X ++ [v]) ∧ X.length = 37 := by
  refine ⟨.int .i64 p.kind :: .int .i64 p.peer :: .int .u64 (p.ses : Int) :: .int .u32 (p.epo : Int) :: .int .u64 (p.cnt : Int) :: (p.rnd.map bv ++ p.mrk.map bv), fun v => ?_, ?_⟩
  · simp [Pk.cells]
  · simp [ho.r, ho.m]
 have e : p.cells = X ++ [p.bo] := hX p.bo
 rw [hX b, e]
 unfold splice
 rw [List.take_append_of_le_length (by omega), List.take_of_length_le (by omega), List.drop_eq_nil_of_le (by simp; omega), List.append_nil]
def Ch (A B : World → Prop) (a b : World) : Prop := (A a → A b ∨ B b) ∧ (B a → B b)
theorem Ch.refl {A B : World → Prop} (a : World) : Ch A B a a := ⟨.inl, id⟩
theorem Ch.trans {A B : World → Prop} {x y z : World} (h : Ch A B x y) (k : Ch A B y z) : Ch A B x z := ⟨fun r => (h.1 r).elim k.1 (fun r => .inr (k.2 r)), fun r => k.2 (h.2 r)⟩
theorem Ch.hit {A B : World → Prop} {a b : World} (h : B b) : Ch A B a b := ⟨fun _ => .inr h, fun _ => h⟩
theorem Ch.keep {A B : World → Prop} {a b : World} (h : A a → A b) (k : B a → B b) : Ch A B a b := ⟨fun r => .inl (h r), k⟩
def Is (g : Nat) (p : Pk) (w : World) : Prop := Row w g p.cells 40
def IsB (g : Nat) (p : Pk) (w : World) : Prop := ∃ k, Row w g { p with bo := .slice (some ⟨k, 0, none⟩) 16 16 }.cells 40
theorem Is.set {g h : Nat} {p : Pk} {w : World} (cs : Array Value) (hn : g ≠ h) : Is g p w → Is g p (w.setRow h cs) := fun r => Row.setOther r h cs hn
theorem IsB.set {g h : Nat} {p : Pk} {w : World} (cs : Array Value) (hn : g ≠ h) : IsB g p w → IsB g p (w.setRow h cs) := fun ⟨k, r⟩ => ⟨k, Row.setOther r h cs hn⟩
theorem Is.new {g : Nat} {p : Pk} {w : World} (b : Obj) : Is g p w → Is g p (w.alloc b) := fun r => Row.alloc r b
theorem IsB.new {g : Nat} {p : Pk} {w : World} (b : Obj) : IsB g p w → IsB g p (w.alloc b) := fun ⟨k, r⟩ => ⟨k, Row.alloc r b⟩
def Four (lo g5 g6 g7 g8 : Nat) (p : Pk) (a b : World) : Prop := Below lo a b ∧ Ch (Is g5 p) (Is g5 { p with peer := 1 }) a b ∧ Ch (Is g6 p) (Is g6 { p with cnt := 1 }) a b ∧ Ch (Is g7 p) (Is g7 { p with rnd := one16 }) a b ∧ Ch (Is g8 p) (IsB g8 p) a b
theorem Four.refl {lo g5 g6 g7 g8 : Nat} {p : Pk} (a : World) : Four lo g5 g6 g7 g8 p a a := ⟨Below.refl _ a, Ch.refl a, Ch.refl a, Ch.refl a, Ch.refl a⟩
theorem Four.trans {lo g5 g6 g7 g8 : Nat} {p : Pk} {x y z : World} (h : Four lo g5 g6 g7 g8 p x y) (k : Four lo g5 g6 g7 g8 p y z) : Four lo g5 g6 g7 g8 p x z := ⟨h.1.trans k.1, h.2.1.trans k.2.1, h.2.2.1.trans k.2.2.1, h.2.2.2.1.trans k.2.2.2.1, h.2.2.2.2.trans k.2.2.2.2⟩
theorem Four.new {lo g5 g6 g7 g8 : Nat} {p : Pk} (a : World) (h : lo ≤ a.heap.size) (b : Obj) : Four lo g5 g6 g7 g8 p a (a.alloc b) := ⟨(Below.refl _ a).alloc h _, Ch.keep (Is.new b) (Is.new b), Ch.keep (Is.new b) (Is.new b), Ch.keep (Is.new b) (Is.new b), Ch.keep (Is.new b) (IsB.new b)⟩
def woM {T : World → World → Prop} (B : World → Prop) (h : ∀ x y, B x → T x y → B y) : By.Mark T := ByN.wo B h
def slM {T : World → World → Prop} : By.Mark T := ⟨fun v _ => ∃ k, v = .slice (some ⟨k, 0, none⟩) 16 16, fun _ _ _ h _ => h⟩
set_option maxRecDepth 100000 in
set_option maxHeartbeats 400000 in
theorem long1 (p q : Pk) (A A2 : Option Addr) (n m c c2 : Nat) (w : World) (ht : Tab w) (hp : p.In) (hq : q.In) (hbp : p.bo = .slice A n c) (hbq : q.bo = .slice A2 m c2) (h1 : 300 < n) : Calls Tryd.prog 6 #[p.val, q.val] w fun e w' => e = .returned (.bool true) ∧ Below w.heap.size w w' := by
 have HB0 := Lib.hid (show Below w.heap.size w ((w.alloc (.cells p.cells.toArray 40)).alloc (.cells q.cells.toArray 40)) from ((Below.refl _ w).alloc (Nat.le_refl _) _).alloc (by simp) _)
 have HT0 := Lib.hid (ht.below HB0.out ht.1)
 have HP0 := Lib.hid (show Row ((w.alloc (.cells p.cells.toArray 40)).alloc (.cells q.cells.toArray 40)) w.heap.size p.cells 40 from (Row.new rfl rfl).alloc _)
 have HQ0 := Lib.hid (show Row ((w.alloc (.cells p.cells.toArray 40)).alloc (.cells q.cells.toArray 40)) (w.heap.size + 1) q.cells 40 from Row.new (by simp) rfl)
 have HLv := Lib.hid (fun w (ht : Tab w) => Pkt.lives_any w ht)
 have HPo := Lib.hid hp.ok
 have HQo := Lib.hid hq.ok
 have HPi := Lib.hid hp
 have HQi := Lib.hid hq
 have HPb := Lib.hid hbp
 have HQb := Lib.hid hbq
 have h1' : decide ((300 : Int) < (n : Int)) = true := decide_eq_true (by omega)
 clear h1
 clear ht hp hq hbp hbq
 unfold Pk.val
 go_enter Tryd.func6, Tryd.ntmps6
 go_wp2_with fail
 refine (HLv.out _ HT0.out).mono ?_
 rintro e w1 ⟨rfl, hb⟩
 have HB1 := Lib.hid (nextB HB0.out (Nat.le_refl _) hb)
 have HT1 := Lib.hid (HT0.out.below hb HT0.out.1)
 have HPa := Lib.hid (HP0.out.below hb HP0.out.lt)
 have HQa := Lib.hid (HQ0.out.below hb HQ0.out.lt)
 clear hb
 have cp := c_bo HPa.out HPo.out
 rw [HPb.out] at cp
 have cq := c_bo HQa.out HQo.out
 rw [HQb.out] at cq
 go_wp2
 go_ret
 exact ⟨rfl, HB1.out⟩
set_option maxRecDepth 100000 in
set_option maxHeartbeats 400000 in
theorem long2 (p q : Pk) (A A2 : Option Addr) (n m c c2 : Nat) (w : World) (ht : Tab w) (hp : p.In) (hq : q.In) (hbp : p.bo = .slice A n c) (hbq : q.bo = .slice A2 m c2) (h1 : ¬ 300 < n) (h2 : 300 < m) : Calls Tryd.prog 6 #[p.val, q.val] w fun e w' => e = .returned (.bool true) ∧ Below w.heap.size w w' := by
 have HB0 := Lib.hid (show Below w.heap.size w ((w.alloc (.cells p.cells.toArray 40)).alloc (.cells q.cells.toArray 40)) from ((Below.refl _ w).alloc (Nat.le_refl _) _).alloc (by simp) _)
 have HT0 := Lib.hid (ht.below HB0.out ht.1)
 have HP0 := Lib.hid (show Row ((w.alloc (.cells p.cells.toArray 40)).alloc (.cells q.cells.toArray 40)) w.heap.size p.cells 40 from (Row.new rfl rfl).alloc _)
 have HQ0 := Lib.hid (show Row ((w.alloc (.cells p.cells.toArray 40)).alloc (.cells q.cells.toArray 40)) (w.heap.size + 1) q.cells 40 from Row.new (by simp) rfl)
 have HLv := Lib.hid (fun w (ht : Tab w) => Pkt.lives_any w ht)
 have HPo := Lib.hid hp.ok
 have HQo := Lib.hid hq.ok
 have HPi := Lib.hid hp
 have HQi := Lib.hid hq
 have HPb := Lib.hid hbp
 have HQb := Lib.hid hbq
 have h1' : decide ((300 : Int) < (n : Int)) = false := decide_eq_false (by omega)
 have h2' : decide ((300 : Int) < (m : Int)) = true := decide_eq_true (by omega)
 clear h1 h2
 clear ht hp hq hbp hbq
 unfold Pk.val
 go_enter Tryd.func6, Tryd.ntmps6
 go_wp2_with fail
 refine (HLv.out _ HT0.out).mono ?_
 rintro e w1 ⟨rfl, hb⟩
 have HB1 := Lib.hid (nextB HB0.out (Nat.le_refl _) hb)
 have HT1 := Lib.hid (HT0.out.below hb HT0.out.1)
 have HPa := Lib.hid (HP0.out.below hb HP0.out.lt)
 have HQa := Lib.hid (HQ0.out.below hb HQ0.out.lt)
 clear hb
 have cp := c_bo HPa.out HPo.out
 rw [HPb.out] at cp
 have cq := c_bo HQa.out HQo.out
 rw [HQb.out] at cq
 go_wp2
 go_ret
 exact ⟨rfl, HB1.out⟩
set_option maxRecDepth 100000 in
set_option maxHeartbeats 400000 in
theorem bad1 (p q : Pk) (A A2 : Option Addr) (n m c c2 : Nat) (w : World) (ht : Tab w) (hp : p.In) (hq : q.In) (hbp : p.bo = .slice A n c) (hbq : q.bo = .slice A2 m c2) (h1 : ¬ 300 < n) (h2 : ¬ 300 < m) (h3 : ¬ chk p n = 0) : Calls Tryd.prog 6 #[p.val, q.val] w fun e w' => e = .returned (.bool true) ∧ Below w.heap.size w w' := by
 have HB0 := Lib.hid (show Below w.heap.size w ((w.alloc (.cells p.cells.toArray 40)).alloc (.cells q.cells.toArray 40)) from ((Below.refl _ w).alloc (Nat.le_refl _) _).alloc (by simp) _)
 have HT0 := Lib.hid (ht.below HB0.out ht.1)
 have HP0 := Lib.hid (show Row ((w.alloc (.cells p.cells.toArray 40)).alloc (.cells q.cells.toArray 40)) w.heap.size p.cells 40 from (Row.new rfl rfl).alloc _)
 have HQ0 := Lib.hid (show Row ((w.alloc (.cells p.cells.toArray 40)).alloc (.cells q.cells.toArray 40)) (w.heap.size + 1) q.cells 40 from Row.new (by simp) rfl)
 have HLv := Lib.hid (fun w (ht : Tab w) => Pkt.lives_any w ht)
 have HPo := Lib.hid hp.ok
 have HQo := Lib.hid hq.ok
 have HPi := Lib.hid hp
 have HQi := Lib.hid hq
 have HPb := Lib.hid hbp
 have HQb := Lib.hid hbq
 have h1' : decide ((300 : Int) < (n : Int)) = false := decide_eq_false (by omega)
 have h2' : decide ((300 : Int) < (m : Int)) = false := decide_eq_false (by omega)
 have HC1 := Lib.hid (chk_no h3)
 clear h1 h2 h3
 clear ht hp hq hbp hbq
 unfold Pk.val
 go_enter Tryd.func6, Tryd.ntmps6
 go_wp2_with fail
 refine (HLv.out _ HT0.out).mono ?_
 rintro e w1 ⟨rfl, hb⟩
 have HB1 := Lib.hid (nextB HB0.out (Nat.le_refl _) hb)
 have HT1 := Lib.hid (HT0.out.below hb HT0.out.1)
 have HPa := Lib.hid (HP0.out.below hb HP0.out.lt)
 have HQa := Lib.hid (HQ0.out.below hb HQ0.out.lt)
 clear hb
 have cp := c_bo HPa.out HPo.out
 rw [HPb.out] at cp
 have cq := c_bo HQa.out HQo.out
 rw [HQb.out] at cq
 have HL2 := Lib.hid (l_all HPa.out HPo.out)
 go_wp2_with (first
  | (refine wpList_ld 40 rfl rfl HL2.out rfl ?_)
  | fail)
 refine (Check_any p HPo.out A n c HPb.out w1).mono ?_
 rintro e w3 ⟨rfl, hb⟩
 rw [HC1.out]
 have HB4 := Lib.hid (nextB HB1.out (Nat.le_refl _) hb)
 have HP4 := Lib.hid (HPa.out.below hb HPa.out.lt)
 have HQ4 := Lib.hid (HQa.out.below hb HQa.out.lt)
 have HT4 := Lib.hid (HT1.out.below hb HT1.out.1)
 clear hb
 go_wp2
 go_ret
 exact ⟨rfl, HB4.out⟩
set_option maxRecDepth 100000 in
set_option maxHeartbeats 400000 in
theorem bad2 (p q : Pk) (A A2 : Option Addr) (n m c c2 : Nat) (w : World) (ht : Tab w) (hp : p.In) (hq : q.In) (hbp : p.bo = .slice A n c) (hbq : q.bo = .slice A2 m c2) (h1 : ¬ 300 < n) (h2 : ¬ 300 < m) (h3 : chk p n = 0) (h4 : ¬ chk q m = 0) : Calls Tryd.prog 6 #[p.val, q.val] w fun e w' => e = .returned (.bool true) ∧ Below w.heap.size w w' := by
 have HB0 := Lib.hid (show Below w.heap.size w ((w.alloc (.cells p.cells.toArray 40)).alloc (.cells q.cells.toArray 40)) from ((Below.refl _ w).alloc (Nat.le_refl _) _).alloc (by simp) _)
 have HT0 := Lib.hid (ht.below HB0.out ht.1)
 have HP0 := Lib.hid (show Row ((w.alloc (.cells p.cells.toArray 40)).alloc (.cells q.cells.toArray 40)) w.heap.size p.cells 40 from (Row.new rfl rfl).alloc _)
 have HQ0 := Lib.hid (show Row ((w.alloc (.cells p.cells.toArray 40)).alloc (.cells q.cells.toArray 40)) (w.heap.size + 1) q.cells 40 from Row.new (by simp) rfl)
 have HLv := Lib.hid (fun w (ht : Tab w) => Pkt.lives_any w ht)
 have HPo := Lib.hid hp.ok
 have HQo := Lib.hid hq.ok
 have HPi := Lib.hid hp
 have HQi := Lib.hid hq
 have HPb := Lib.hid hbp
 have HQb := Lib.hid hbq
 have h1' : decide ((300 : Int) < (n : Int)) = false := decide_eq_false (by omega)
 have h2' : decide ((300 : Int) < (m : Int)) = false := decide_eq_false (by omega)
 have HC1 := Lib.hid h3
 have HC2 := Lib.hid (chk_no h4)
 clear h1 h2 h3 h4
 clear ht hp hq hbp hbq
 unfold Pk.val
 go_enter Tryd.func6, Tryd.ntmps6
 go_wp2_with fail
 refine (HLv.out _ HT0.out).mono ?_
 rintro e w1 ⟨rfl, hb⟩
 have HB1 := Lib.hid (nextB HB0.out (Nat.le_refl _) hb)
 have HT1 := Lib.hid (HT0.out.below hb HT0.out.1)
 have HPa := Lib.hid (HP0.out.below hb HP0.out.lt)
 have HQa := Lib.hid (HQ0.out.below hb HQ0.out.lt)
 clear hb
 have cp := c_bo HPa.out HPo.out
 rw [HPb.out] at cp
 have cq := c_bo HQa.out HQo.out
 rw [HQb.out] at cq
 have HL2 := Lib.hid (l_all HPa.out HPo.out)
 go_wp2_with (first
  | (refine wpList_ld 40 rfl rfl HL2.out rfl ?_)
  | fail)
 refine (Check_any p HPo.out A n c HPb.out w1).mono ?_
 rintro e w3 ⟨rfl, hb⟩
 rw [HC1.out]
 have HB4 := Lib.hid (nextB HB1.out (Nat.le_refl _) hb)
 have HP4 := Lib.hid (HPa.out.below hb HPa.out.lt)
 have HQ4 := Lib.hid (HQa.out.below hb HQa.out.lt)
 have HT4 := Lib.hid (HT1.out.below hb HT1.out.1)
 clear hb
 have HL5 := Lib.hid (l_all HQ4.out HQo.out)
 go_wp2_with (first
  | (refine wpList_ld 40 rfl rfl HL5.out rfl ?_)
  | fail)
 refine (Check_any q HQo.out A2 m c2 HQb.out w3).mono ?_
 rintro e w6 ⟨rfl, hb⟩
 rw [HC2.out]
 have HB7 := Lib.hid (nextB HB4.out (Nat.le_refl _) hb)
 have HP7 := Lib.hid (HP4.out.below hb HP4.out.lt)
 have HQ7 := Lib.hid (HQ4.out.below hb HQ4.out.lt)
 have HT7 := Lib.hid (HT4.out.below hb HT4.out.1)
 clear hb
 go_wp2
 go_ret
 exact ⟨rfl, HB7.out⟩
theorem splice_whole (a b : List Value) (h : b.length = a.length) : splice a 0 b = b := by
 unfold splice
 rw [List.take_zero, List.nil_append, Nat.zero_add, List.drop_eq_nil_of_le (by omega), List.append_nil]
set_option maxRecDepth 100000 in
set_option maxHeartbeats 4000000 in
theorem walk (p q : Pk) (A A2 : Option Addr) (n m c c2 : Nat) (w : World) (ht : Tab w) (hp : p.In) (hq : q.In) (hbp : p.bo = .slice A n c) (hbq : q.bo = .slice A2 m c2) (h1 : ¬ 300 < n) (h2 : ¬ 300 < m) (h3 : chk p n = 0) (h4 : chk q m = 0) : Calls Tryd.prog 6 #[p.val, q.val] w fun e w' => e = .returned (.bool true) ∧ Below w.heap.size w w' := by
 have HB0 := Lib.hid (show Below w.heap.size w ((w.alloc (.cells p.cells.toArray 40)).alloc (.cells q.cells.toArray 40)) from ((Below.refl _ w).alloc (Nat.le_refl _) _).alloc (by simp) _)
 have HT0 := Lib.hid (ht.below HB0.out ht.1)
 have HP0 := Lib.hid (show Row ((w.alloc (.cells p.cells.toArray 40)).alloc (.cells q.cells.toArray 40)) w.heap.size p.cells 40 from (Row.new rfl rfl).alloc _)
 have HQ0 := Lib.hid (show Row ((w.alloc (.cells p.cells.toArray 40)).alloc (.cells q.cells.toArray 40)) (w.heap.size + 1) q.cells 40 from Row.new (by simp) rfl)
 have HLv := Lib.hid (fun w (ht : Tab w) => Pkt.lives_any w ht)
 have HPo := Lib.hid hp.ok
 have HQo := Lib.hid hq.ok
 have HPi := Lib.hid hp
 have HQi := Lib.hid hq
 have HPb := Lib.hid hbp
 have HQb := Lib.hid hbq
 have h1' : decide ((300 : Int) < (n : Int)) = false := decide_eq_false (by omega)
 have h2' : decide ((300 : Int) < (m : Int)) = false := decide_eq_false (by omega)
 have HC1 := Lib.hid h3
 have HC2 := Lib.hid h4
 clear ht hp hq hbp hbq h1 h2 h3 h4
 unfold Pk.val
 go_enter Tryd.func6, Tryd.ntmps6
 go_wp2_with fail
 refine (HLv.out _ HT0.out).mono ?_
 rintro e w1 ⟨rfl, hb⟩
 have HB1 := Lib.hid (nextB HB0.out (Nat.le_refl _) hb)
 have HT1 := Lib.hid (HT0.out.below hb HT0.out.1)
 have HPa := Lib.hid (HP0.out.below hb HP0.out.lt)
 have HQa := Lib.hid (HQ0.out.below hb HQ0.out.lt)
 clear hb
 have cp := c_bo HPa.out HPo.out
 rw [HPb.out] at cp
 have cq := c_bo HQa.out HQo.out
 rw [HQb.out] at cq
 have HL2 := Lib.hid (l_all HPa.out HPo.out)
 go_wp2_with (first
  | (refine wpList_ld 40 rfl rfl HL2.out rfl ?_)
  | fail)
 refine (Check_any p HPo.out A n c HPb.out w1).mono ?_
 rintro e w3 ⟨rfl, hb⟩
 rw [HC1.out]
 have HB4 := Lib.hid (nextB HB1.out (Nat.le_refl _) hb)
 have HP4 := Lib.hid (HPa.out.below hb HPa.out.lt)
 have HQ4 := Lib.hid (HQa.out.below hb HQa.out.lt)
 have HT4 := Lib.hid (HT1.out.below hb HT1.out.1)
 clear hb
 have HL5 := Lib.hid (l_all HQ4.out HQo.out)
 go_wp2_with (first
  | (refine wpList_ld 40 rfl rfl HL5.out rfl ?_)
  | fail)
 refine (Check_any q HQo.out A2 m c2 HQb.out w3).mono ?_
 rintro e w6 ⟨rfl, hb⟩
 rw [HC2.out]
 have HB7 := Lib.hid (nextB HB4.out (Nat.le_refl _) hb)
 have HP7 := Lib.hid (HP4.out.below hb HP4.out.lt)
 have HQ7 := Lib.hid (HQ4.out.below hb HQ4.out.lt)
 have HT7 := Lib.hid (HT4.out.below hb HT4.out.1)
 clear hb
 go_wp2_with fail
 clear cp cq h1' h2'
 have Hlo : Hid (w6.heap.size ≤ w6.drew.heap.size) := Nat.le_refl _
 refine ByG.marks Pol.mixed (Two w6.heap.size p.cells) [By.is p.val, By.is p.val, By.is p.val, By.is p.val, twoM w6.heap.size p.cells, twoM w6.heap.size p.cells, twoM w6.heap.size p.cells, twoM w6.heap.size p.cells, hasM w6.heap.size p.cells, hasM w6.heap.size p.cells, hasM w6.heap.size p.cells, hasM w6.heap.size p.cells] [4, 5, 6, 7] (twoM w6.heap.size p.cells) (fun v x => v ≠ x)
  (Ev.masks _ []) (by kernel_rfl) rfl (by kernel_rfl) rfl (by kernel_rfl) Two.refl (fun _ _ _ => Two.trans) ⟨?_, ?_, ?_, ?_, ?_, ?_, ?_, ?_, ?_, ?_, ?_, ?_, trivial⟩ ?_
 · intro a w9 ht hs hg
   have h2 := By.same_get hs 2 (by decide) (by kernel_rfl)
   refine ⟨fun _ => ?_, fun h => absurd (show true = false from h) (by decide)⟩
   clear hs hg
   have hr := l_all (Row.below (w := w6.drew) HP7.out ht.1 HP7.out.lt) HPo.out
   refine wp_ld 40 _ rfl h2 hr ?_
   exact ⟨_, rfl, Two.refl _, rfl, fun h => absurd h (by decide)⟩
 · intro a w9 ht hs hg
   have h2 := By.same_get hs 2 (by decide) (by kernel_rfl)
   refine ⟨fun _ => ?_, fun h => absurd (show true = false from h) (by decide)⟩
   clear hs hg
   have hr := l_all (Row.below (w := w6.drew) HP7.out ht.1 HP7.out.lt) HPo.out
   refine wp_ld 40 _ rfl h2 hr ?_
   exact ⟨_, rfl, Two.refl _, rfl, fun h => absurd h (by decide)⟩
 · intro a w9 ht hs hg
   have h2 := By.same_get hs 2 (by decide) (by kernel_rfl)
   refine ⟨fun _ => ?_, fun h => absurd (show true = false from h) (by decide)⟩
   clear hs hg
   have hr := l_all (Row.below (w := w6.drew) HP7.out ht.1 HP7.out.lt) HPo.out
   refine wp_ld 40 _ rfl h2 hr ?_
   exact ⟨_, rfl, Two.refl _, rfl, fun h => absurd h (by decide)⟩
 · intro a w9 ht hs hg
   have h2 := By.same_get hs 2 (by decide) (by kernel_rfl)
   refine ⟨fun _ => ?_, fun h => absurd (show true = false from h) (by decide)⟩
   clear hs hg
   have hr := l_all (Row.below (w := w6.drew) HP7.out ht.1 HP7.out.lt) HPo.out
   refine wp_ld 40 _ rfl h2 hr ?_
   exact ⟨_, rfl, Two.refl _, rfl, fun h => absurd h (by decide)⟩
 · intro a w9 ht hs hg
   refine ⟨fun _ => ?_, fun h => absurd (show true = false from h) (by decide)⟩
   clear hs hg
   have hBw : w6.heap.size ≤ w9.heap.size := (show w6.drew.heap.size ≤ w9.heap.size from ht.1.size)
   refine Oper.wp_mono ?_ (show Oper.wp Tryd.prog _ a w9 (fun a' w' => a' = a.put (some 5) (.pointer (some ⟨w9.heap.size, 0, none⟩)) ∧ w' = w9.alloc (.cells (nm 0).cells.toArray 40)) _ from by
    go_simp
    first | rfl | exact ⟨rfl, rfl⟩)
   rintro a' w' ⟨rfl, rfl⟩
   exact ⟨_, rfl, Two.alloc _ hBw, ⟨_, rfl, hBw, .inl (Row.new rfl rfl)⟩, fun _ x hx => ⟨twoM_ne hx, (twoM_ne hx).symm⟩⟩
 · intro a w9 ht hs hg
   refine ⟨fun _ => ?_, fun h => absurd (show true = false from h) (by decide)⟩
   clear hs hg
   have hBw : w6.heap.size ≤ w9.heap.size := (show w6.drew.heap.size ≤ w9.heap.size from ht.1.size)
   refine Oper.wp_mono ?_ (show Oper.wp Tryd.prog _ a w9 (fun a' w' => a' = a.put (some 6) (.pointer (some ⟨w9.heap.size, 0, none⟩)) ∧ w' = w9.alloc (.cells (nm 0).cells.toArray 40)) _ from by
    go_simp
    first | rfl | exact ⟨rfl, rfl⟩)
   rintro a' w' ⟨rfl, rfl⟩
   exact ⟨_, rfl, Two.alloc _ hBw, ⟨_, rfl, hBw, .inl (Row.new rfl rfl)⟩, fun _ x hx => ⟨twoM_ne hx, (twoM_ne hx).symm⟩⟩
 · intro a w9 ht hs hg
   refine ⟨fun _ => ?_, fun h => absurd (show true = false from h) (by decide)⟩
   clear hs hg
   have hBw : w6.heap.size ≤ w9.heap.size := (show w6.drew.heap.size ≤ w9.heap.size from ht.1.size)
   refine Oper.wp_mono ?_ (show Oper.wp Tryd.prog _ a w9 (fun a' w' => a' = a.put (some 7) (.pointer (some ⟨w9.heap.size, 0, none⟩)) ∧ w' = w9.alloc (.cells (nm 0).cells.toArray 40)) _ from by
    go_simp
    first | rfl | exact ⟨rfl, rfl⟩)
   rintro a' w' ⟨rfl, rfl⟩
   exact ⟨_, rfl, Two.alloc _ hBw, ⟨_, rfl, hBw, .inl (Row.new rfl rfl)⟩, fun _ x hx => ⟨twoM_ne hx, (twoM_ne hx).symm⟩⟩
 · intro a w9 ht hs hg
   refine ⟨fun _ => ?_, fun h => absurd (show true = false from h) (by decide)⟩
   clear hs hg
   have hBw : w6.heap.size ≤ w9.heap.size := (show w6.drew.heap.size ≤ w9.heap.size from ht.1.size)
   refine Oper.wp_mono ?_ (show Oper.wp Tryd.prog _ a w9 (fun a' w' => a' = a.put (some 8) (.pointer (some ⟨w9.heap.size, 0, none⟩)) ∧ w' = w9.alloc (.cells (nm 0).cells.toArray 40)) _ from by
    go_simp
    first | rfl | exact ⟨rfl, rfl⟩)
   rintro a' w' ⟨rfl, rfl⟩
   exact ⟨_, rfl, Two.alloc _ hBw, ⟨_, rfl, hBw, .inl (Row.new rfl rfl)⟩, fun _ x hx => ⟨twoM_ne hx, (twoM_ne hx).symm⟩⟩
 · intro a w9 ht hs hg
   have hv : a.tmps.getD 34 undef = _ := ByG.given_get hg 0 rfl rfl (by kernel_rfl)
   obtain ⟨g, hx, hge, hrow⟩ := ByG.given_get hg 4 rfl rfl (by kernel_rfl)
   refine ⟨fun _ => ?_, fun h => absurd (show true = false from h) (by decide)⟩
   clear hs hg
   have hx' : a.tmps.getD 5 undef = .pointer (some ⟨g, 0, none⟩) := hx
   obtain ⟨old, hold, hlen⟩ : ∃ old, Row w9 g old 40 ∧ old.length = 38 := by
    rcases hrow with h | h
    · exact ⟨_, h, Pk.length (nm_ok 0)⟩
    · exact ⟨_, h, Pk.length HPo.out⟩
   refine Stg.wp_storeAny (n := 38) (off := 0) (cs := p.cells) 40 (.tmp 5) (.tmp 34) rfl hx' hv rfl hold (by kernel_rfl) (Pk.length HPo.out) (by rw [Pk.length HPo.out, hlen]; omega) (Pk.one HPo.out) ?_
   rw [splice_whole _ _ (by rw [Pk.length HPo.out, hlen])]
   refine ⟨_, rfl, Two.store hge hold, ⟨g, hx', hge, hold.setRow _⟩, fun h => absurd h (by decide)⟩
 · intro a w9 ht hs hg
   have hv : a.tmps.getD 35 undef = _ := ByG.given_get hg 1 rfl rfl (by kernel_rfl)
   obtain ⟨g, hx, hge, hrow⟩ := ByG.given_get hg 5 rfl rfl (by kernel_rfl)
   refine ⟨fun _ => ?_, fun h => absurd (show true = false from h) (by decide)⟩
   clear hs hg
   have hx' : a.tmps.getD 6 undef = .pointer (some ⟨g, 0, none⟩) := hx
   obtain ⟨old, hold, hlen⟩ : ∃ old, Row w9 g old 40 ∧ old.length = 38 := by
    rcases hrow with h | h
    · exact ⟨_, h, Pk.length (nm_ok 0)⟩
    · exact ⟨_, h, Pk.length HPo.out⟩
   refine Stg.wp_storeAny (n := 38) (off := 0) (cs := p.cells) 40 (.tmp 6) (.tmp 35) rfl hx' hv rfl hold (by kernel_rfl) (Pk.length HPo.out) (by rw [Pk.length HPo.out, hlen]; omega) (Pk.one HPo.out) ?_
   rw [splice_whole _ _ (by rw [Pk.length HPo.out, hlen])]
   refine ⟨_, rfl, Two.store hge hold, ⟨g, hx', hge, hold.setRow _⟩, fun h => absurd h (by decide)⟩
 · intro a w9 ht hs hg
   have hv : a.tmps.getD 36 undef = _ := ByG.given_get hg 2 rfl rfl (by kernel_rfl)
   obtain ⟨g, hx, hge, hrow⟩ := ByG.given_get hg 6 rfl rfl (by kernel_rfl)
   refine ⟨fun _ => ?_, fun h => absurd (show true = false from h) (by decide)⟩
   clear hs hg
   have hx' : a.tmps.getD 7 undef = .pointer (some ⟨g, 0, none⟩) := hx
   obtain ⟨old, hold, hlen⟩ : ∃ old, Row w9 g old 40 ∧ old.length = 38 := by
    rcases hrow with h | h
    · exact ⟨_, h, Pk.length (nm_ok 0)⟩
    · exact ⟨_, h, Pk.length HPo.out⟩
   refine Stg.wp_storeAny (n := 38) (off := 0) (cs := p.cells) 40 (.tmp 7) (.tmp 36) rfl hx' hv rfl hold (by kernel_rfl) (Pk.length HPo.out) (by rw [Pk.length HPo.out, hlen]; omega) (Pk.one HPo.out) ?_
   rw [splice_whole _ _ (by rw [Pk.length HPo.out, hlen])]
   refine ⟨_, rfl, Two.store hge hold, ⟨g, hx', hge, hold.setRow _⟩, fun h => absurd h (by decide)⟩
 · intro a w9 ht hs hg
   have hv : a.tmps.getD 37 undef = _ := ByG.given_get hg 3 rfl rfl (by kernel_rfl)
   obtain ⟨g, hx, hge, hrow⟩ := ByG.given_get hg 7 rfl rfl (by kernel_rfl)
   refine ⟨fun _ => ?_, fun h => absurd (show true = false from h) (by decide)⟩
   clear hs hg
   have hx' : a.tmps.getD 8 undef = .pointer (some ⟨g, 0, none⟩) := hx
   obtain ⟨old, hold, hlen⟩ : ∃ old, Row w9 g old 40 ∧ old.length = 38 := by
    rcases hrow with h | h
    · exact ⟨_, h, Pk.length (nm_ok 0)⟩
    · exact ⟨_, h, Pk.length HPo.out⟩
   refine Stg.wp_storeAny (n := 38) (off := 0) (cs := p.cells) 40 (.tmp 8) (.tmp 37) rfl hx' hv rfl hold (by kernel_rfl) (Pk.length HPo.out) (by rw [Pk.length HPo.out, hlen]; omega) (Pk.one HPo.out) ?_
   rw [splice_whole _ _ (by rw [Pk.length HPo.out, hlen])]
   refine ⟨_, rfl, Two.store hge hold, ⟨g, hx', hge, hold.setRow _⟩, fun h => absurd h (by decide)⟩
 · skip
   refine ByG.ends_is rfl ?_
   refine ByG.ends_is rfl ?_
   refine ByG.ends_is rfl ?_
   refine ByG.ends_is rfl ?_
   refine ByG.ends_any fun v5 => ?_
   refine ByG.ends_any fun v6 => ?_
   refine ByG.ends_any fun v7 => ?_
   refine ByG.ends_any fun v8 => ?_
   refine ByG.ends_any fun _ => ?_
   refine ByG.ends_any fun _ => ?_
   refine ByG.ends_any fun _ => ?_
   refine ByG.ends_any fun _ => ?_
   refine ByG.ends_nil fun w9 hw9 => ?_
   obtain ⟨⟨⟨⟨⟨⟨⟨⟨⟨hT, hP⟩, m5⟩, m6⟩, m7⟩, m8⟩, s5⟩, s6⟩, s7⟩, s8⟩ := hw9
   obtain ⟨g5, e5, hge5, _⟩ := m5
   have e5' : v5 = .pointer (some ⟨g5, 0, none⟩) := e5
   clear e5
   subst e5'
   obtain ⟨g6, e6, hge6, _⟩ := m6
   have e6' : v6 = .pointer (some ⟨g6, 0, none⟩) := e6
   clear e6
   subst e6'
   obtain ⟨g7, e7, hge7, _⟩ := m7
   have e7' : v7 = .pointer (some ⟨g7, 0, none⟩) := e7
   clear e7
   subst e7'
   obtain ⟨g8, e8, hge8, _⟩ := m8
   have e8' : v8 = .pointer (some ⟨g8, 0, none⟩) := e8
   clear e8
   subst e8'
   obtain ⟨k5, e5, _, hr5⟩ := s5
   have e5' : Value.pointer (some ⟨g5, 0, none⟩) = .pointer (some ⟨k5, 0, none⟩) := Eq.trans (by kernel_rfl) e5
   injection e5' with e5'
   injection e5' with e5'
   injection e5' with e5'
   subst e5'
   clear e5
   have HR5 := Lib.hid hr5
   obtain ⟨k6, e6, _, hr6⟩ := s6
   have e6' : Value.pointer (some ⟨g6, 0, none⟩) = .pointer (some ⟨k6, 0, none⟩) := Eq.trans (by kernel_rfl) e6
   injection e6' with e6'
   injection e6' with e6'
   injection e6' with e6'
   subst e6'
   clear e6
   have HR6 := Lib.hid hr6
   obtain ⟨k7, e7, _, hr7⟩ := s7
   have e7' : Value.pointer (some ⟨g7, 0, none⟩) = .pointer (some ⟨k7, 0, none⟩) := Eq.trans (by kernel_rfl) e7
   injection e7' with e7'
   injection e7' with e7'
   injection e7' with e7'
   subst e7'
   clear e7
   have HR7 := Lib.hid hr7
   obtain ⟨k8, e8, _, hr8⟩ := s8
   have e8' : Value.pointer (some ⟨g8, 0, none⟩) = .pointer (some ⟨k8, 0, none⟩) := Eq.trans (by kernel_rfl) e8
   injection e8' with e8'
   injection e8' with e8'
   injection e8' with e8'
   subst e8'
   clear e8
   have HR8 := Lib.hid hr8
   have hne56 : g5 ≠ g6 := by
    intro e
    subst e
    refine hP 4 5 _ _ (by simp) (by simp) (by decide) rfl rfl ?_
    kernel_rfl
   have hne57 : g5 ≠ g7 := by
    intro e
    subst e
    refine hP 4 6 _ _ (by simp) (by simp) (by decide) rfl rfl ?_
    kernel_rfl
   have hne58 : g5 ≠ g8 := by
    intro e
    subst e
    refine hP 4 7 _ _ (by simp) (by simp) (by decide) rfl rfl ?_
    kernel_rfl
   have hne67 : g6 ≠ g7 := by
    intro e
    subst e
    refine hP 5 6 _ _ (by simp) (by simp) (by decide) rfl rfl ?_
    kernel_rfl
   have hne68 : g6 ≠ g8 := by
    intro e
    subst e
    refine hP 5 7 _ _ (by simp) (by simp) (by decide) rfl rfl ?_
    kernel_rfl
   have hne78 : g7 ≠ g8 := by
    intro e
    subst e
    refine hP 6 7 _ _ (by simp) (by simp) (by decide) rfl rfl ?_
    kernel_rfl
   have HNe := Lib.hid (show g5 ≠ g6 ∧ g5 ≠ g7 ∧ g5 ≠ g8 ∧ g6 ≠ g7 ∧ g6 ≠ g8 ∧ g7 ≠ g8 from ⟨hne56, hne57, hne58, hne67, hne68, hne78⟩)
   have HGe := Lib.hid (show w6.heap.size ≤ g5 ∧ w6.heap.size ≤ g6 ∧ w6.heap.size ≤ g7 ∧ w6.heap.size ≤ g8 from ⟨hge5, hge6, hge7, hge8⟩)
   have hb := grew_below hT.1
   have HB8 := Lib.hid (nextB HB7.out (Nat.le_refl _) hb)
   have HP8 := Lib.hid (HP7.out.below hb HP7.out.lt)
   have HQ8 := Lib.hid (HQ7.out.below hb HQ7.out.lt)
   have HT8 := Lib.hid (HT7.out.below hb HT7.out.1)
   clear hb hT hP hr5 hge5 hr6 hge6 hr7 hge7 hr8 hge8 hne56 hne57 hne58 hne67 hne68 hne78
   simp only [Act.put, List.setIfInBounds_toArray, List.set_cons_succ, List.set_cons_zero]
   go_wp2_with fail
   refine ByN.marks Pol.mixed (Four w6.heap.size g5 g6 g7 g8 p) [By.is (arr8 one16),
    slM,
    By.is (.pointer (some ⟨g5, 1, none⟩)),
    woM (Is g5 { p with peer := 1 }) (fun _ _ h k => k.2.1.2 h),
    By.is (.pointer (some ⟨g6, 4, none⟩)),
    woM (Is g6 { p with cnt := 1 }) (fun _ _ h k => k.2.2.1.2 h),
    By.is (.pointer (some ⟨g7, 5, none⟩)),
    woM (Is g7 { p with rnd := one16 }) (fun _ _ h k => k.2.2.2.1.2 h),
    By.is (.pointer (some ⟨g8, 37, none⟩)),
    woM (IsB g8 p) (fun _ _ h k => k.2.2.2.2.2 h)]
    (Ev.masks _ []) (by kernel_rfl) rfl Four.refl (fun _ _ _ => Four.trans) ⟨?_, ?_, ?_, ?_, ?_, ?_, ?_, ?_, ?_, ?_, trivial⟩ ?_
   · intro a w8 ht hs hg
     refine ⟨fun _ => ?_, fun h => absurd (show true = false from h) (by decide)⟩
     clear ht hs hg
     refine Oper.wp_mono ?_ (show Oper.wp Tryd.prog _ a w8 (fun a' w' => a' = a.put (some 38) (arr8 one16) ∧ w' = w8) _ from by
      go_simp
      first | rfl | kernel_rfl | exact ⟨rfl, rfl⟩ | exact ⟨by kernel_rfl, rfl⟩)
     rintro a' w' ⟨rfl, rfl⟩
     exact ⟨_, rfl, Four.refl _, rfl⟩
   · intro a w8 ht hs hg
     refine ⟨fun _ => ?_, fun h => absurd (show true = false from h) (by decide)⟩
     clear hs hg
     have hBw : w6.heap.size ≤ w8.heap.size := Nat.le_trans (show w6.heap.size ≤ w9.drew.heap.size from Nat.le_trans HGe.out.1 (Nat.le_of_lt HR5.out.lt)) ht.1.size
     clear ht
     go_simp
     exact ⟨_, rfl, Four.new _ hBw _, ⟨_, rfl⟩⟩
   · intro a w8 ht hs hg
     refine ⟨fun _ => ?_, fun h => absurd (show true = false from h) (by decide)⟩
     have h5 := By.same_get hs 5 (by decide) (by kernel_rfl)
     clear ht hs hg
     go_simp
     exact ⟨_, rfl, Four.refl _, rfl⟩
   · intro a w8 ht hs hg
     have hx : a.tmps.getD 40 undef = _ := ByN.given_get hg 2 rfl rfl (by kernel_rfl)
     refine ⟨fun _ => ?_, fun h => absurd (show true = false from h) (by decide)⟩
     clear hs hg
     have hr := ht.2.1.1 (show Row w9.drew g5 p.cells 40 from HR5.out)
     clear ht
     obtain ⟨old, hold, hlen, hsp⟩ : ∃ old, Row w8 g5 old 40 ∧ old.length = 38 ∧ splice old 1 [.int .i64 1] = { p with peer := 1 }.cells := by
      rcases hr with h | h
      · exact ⟨_, h, Pk.length HPo.out, sp_peer p 1⟩
      · exact ⟨_, h, Pk.length ⟨HPo.out.r, HPo.out.m, HPo.out.b⟩, sp_peer { p with peer := 1 } 1⟩
     refine Stg.wp_storeAny (n := 1) (off := 1) (cs := [.int .i64 1]) 3 (.tmp 40) (.const (.int .i64 1)) rfl hx rfl rfl hold (by kernel_rfl) (by rfl) (by rw [hlen]; exact (by decide : 1 + 1 ≤ 38)) (by intro v hv; simp at hv; subst hv; rfl) ?_
     rw [hsp]
     exact ⟨_, rfl, ⟨below_setRow (Below.refl _ _) HGe.out.1 _, Ch.hit (hold.setRow _), Ch.keep (Is.set _ (HNe.out.1.symm)) (Is.set _ (HNe.out.1.symm)), Ch.keep (Is.set _ (HNe.out.2.1.symm)) (Is.set _ (HNe.out.2.1.symm)), Ch.keep (Is.set _ (HNe.out.2.2.1.symm)) (IsB.set _ (HNe.out.2.2.1.symm))⟩, (hold.setRow _)⟩
   · intro a w8 ht hs hg
     refine ⟨fun _ => ?_, fun h => absurd (show true = false from h) (by decide)⟩
     have h6 := By.same_get hs 6 (by decide) (by kernel_rfl)
     clear ht hs hg
     go_simp
     exact ⟨_, rfl, Four.refl _, rfl⟩
   · intro a w8 ht hs hg
     have hx : a.tmps.getD 41 undef = _ := ByN.given_get hg 4 rfl rfl (by kernel_rfl)
     refine ⟨fun _ => ?_, fun h => absurd (show true = false from h) (by decide)⟩
     clear hs hg
     have hr := ht.2.2.1.1 (show Row w9.drew g6 p.cells 40 from HR6.out)
     clear ht
     obtain ⟨old, hold, hlen, hsp⟩ : ∃ old, Row w8 g6 old 40 ∧ old.length = 38 ∧ splice old 4 [.int .u64 1] = { p with cnt := 1 }.cells := by
      rcases hr with h | h
      · exact ⟨_, h, Pk.length HPo.out, sp_cnt p 1⟩
      · exact ⟨_, h, Pk.length ⟨HPo.out.r, HPo.out.m, HPo.out.b⟩, sp_cnt { p with cnt := 1 } 1⟩
     refine Stg.wp_storeAny (n := 1) (off := 4) (cs := [.int .u64 1]) 36 (.tmp 41) (.const (.int .u64 1)) rfl hx rfl rfl hold (by kernel_rfl) (by rfl) (by rw [hlen]; exact (by decide : 4 + 1 ≤ 38)) (by intro v hv; simp at hv; subst hv; rfl) ?_
     rw [hsp]
     exact ⟨_, rfl, ⟨below_setRow (Below.refl _ _) HGe.out.2.1 _, Ch.keep (Is.set _ (HNe.out.1)) (Is.set _ (HNe.out.1)), Ch.hit (hold.setRow _), Ch.keep (Is.set _ (HNe.out.2.2.2.1.symm)) (Is.set _ (HNe.out.2.2.2.1.symm)), Ch.keep (Is.set _ (HNe.out.2.2.2.2.1.symm)) (IsB.set _ (HNe.out.2.2.2.2.1.symm))⟩, (hold.setRow _)⟩
   · intro a w8 ht hs hg
     refine ⟨fun _ => ?_, fun h => absurd (show true = false from h) (by decide)⟩
     have h7 := By.same_get hs 7 (by decide) (by kernel_rfl)
     clear ht hs hg
     go_simp
     exact ⟨_, rfl, Four.refl _, rfl⟩
   · intro a w8 ht hs hg
     have hx : a.tmps.getD 42 undef = _ := ByN.given_get hg 6 rfl rfl (by kernel_rfl)
     have hv : a.tmps.getD 38 undef = _ := ByN.given_get hg 0 rfl rfl (by kernel_rfl)
     refine ⟨fun _ => ?_, fun h => absurd (show true = false from h) (by decide)⟩
     clear hs hg
     have hr := ht.2.2.2.1.1 (show Row w9.drew g7 p.cells 40 from HR7.out)
     clear ht
     obtain ⟨old, hold, hlen, hsp⟩ : ∃ old, Row w8 g7 old 40 ∧ old.length = 38 ∧ splice old 5 (one16.map bv) = { p with rnd := one16 }.cells := by
      rcases hr with h | h
      · exact ⟨_, h, Pk.length HPo.out, sp_rnd p HPo.out one16 rfl⟩
      · exact ⟨_, h, Pk.length ⟨rfl, HPo.out.m, HPo.out.b⟩, sp_rnd { p with rnd := one16 } ⟨rfl, HPo.out.m, HPo.out.b⟩ one16 rfl⟩
     refine Stg.wp_storeAny (n := 16) (off := 5) (cs := (one16.map bv)) 38 (.tmp 42) (.tmp 38) rfl hx hv rfl hold (by kernel_rfl) (by rfl) (by rw [hlen]; exact (by decide : 5 + 16 ≤ 38)) (hbytes_one one16) ?_
     rw [hsp]
     exact ⟨_, rfl, ⟨below_setRow (Below.refl _ _) HGe.out.2.2.1 _, Ch.keep (Is.set _ (HNe.out.2.1)) (Is.set _ (HNe.out.2.1)), Ch.keep (Is.set _ (HNe.out.2.2.2.1)) (Is.set _ (HNe.out.2.2.2.1)), Ch.hit (hold.setRow _), Ch.keep (Is.set _ (HNe.out.2.2.2.2.2.symm)) (IsB.set _ (HNe.out.2.2.2.2.2.symm))⟩, (hold.setRow _)⟩
   · intro a w8 ht hs hg
     refine ⟨fun _ => ?_, fun h => absurd (show true = false from h) (by decide)⟩
     have h8 := By.same_get hs 8 (by decide) (by kernel_rfl)
     clear ht hs hg
     go_simp
     exact ⟨_, rfl, Four.refl _, rfl⟩
   · intro a w8 ht hs hg
     have hx : a.tmps.getD 43 undef = _ := ByN.given_get hg 8 rfl rfl (by kernel_rfl)
     obtain ⟨k, hv⟩ : ∃ k, a.tmps.getD 39 undef = .slice (some ⟨k, 0, none⟩) 16 16 := ByN.given_get hg 1 rfl rfl (by kernel_rfl)
     refine ⟨fun _ => ?_, fun h => absurd (show true = false from h) (by decide)⟩
     clear hs hg
     have hr := ht.2.2.2.2.1 (show Row w9.drew g8 p.cells 40 from HR8.out)
     clear ht
     obtain ⟨old, hold, hlen, hsp⟩ : ∃ old, Row w8 g8 old 40 ∧ old.length = 38 ∧ splice old 37 [.slice (some ⟨k, 0, none⟩) 16 16] = { p with bo := .slice (some ⟨k, 0, none⟩) 16 16 }.cells := by
      rcases hr with h | ⟨k', h⟩
      · exact ⟨_, h, Pk.length HPo.out, sp_bo p HPo.out _⟩
      · exact ⟨_, h, Pk.length ⟨HPo.out.r, HPo.out.m, rfl⟩, sp_bo { p with bo := .slice (some ⟨k', 0, none⟩) 16 16 } ⟨HPo.out.r, HPo.out.m, rfl⟩ _⟩
     refine Stg.wp_storeAny (n := 1) (off := 37) (cs := [.slice (some ⟨k, 0, none⟩) 16 16]) 23 (.tmp 43) (.tmp 39) rfl hx hv rfl hold (by kernel_rfl) (by rfl) (by rw [hlen]; exact (by decide : 37 + 1 ≤ 38)) (by intro v hv; simp at hv; subst hv; rfl) ?_
     rw [hsp]
     exact ⟨_, rfl, ⟨below_setRow (Below.refl _ _) HGe.out.2.2.2 _, Ch.keep (Is.set _ (HNe.out.2.2.1)) (Is.set _ (HNe.out.2.2.1)), Ch.keep (Is.set _ (HNe.out.2.2.2.2.1)) (Is.set _ (HNe.out.2.2.2.2.1)), Ch.keep (Is.set _ (HNe.out.2.2.2.2.2)) (Is.set _ (HNe.out.2.2.2.2.2)), Ch.hit ⟨k, hold.setRow _⟩⟩, ⟨k, hold.setRow _⟩⟩
   · skip
     refine ByN.ends_is ?_
     refine ByN.ends_any fun v39 => ?_
     refine ByN.ends_is ?_
     refine ByN.ends_any fun _ => ?_
     refine ByN.ends_is ?_
     refine ByN.ends_any fun _ => ?_
     refine ByN.ends_is ?_
     refine ByN.ends_any fun _ => ?_
     refine ByN.ends_is ?_
     refine ByN.ends_any fun _ => ?_
     refine ByN.ends_nil fun W10 hw9 => ?_
     obtain ⟨⟨⟨⟨⟨hT, ⟨k39, e39⟩⟩, b5⟩, b6⟩, b7⟩, ⟨k8, b8⟩⟩ := hw9
     have e39' : v39 = .slice (some ⟨k39, 0, none⟩) 16 16 := e39
     clear e39
     subst e39'
     have hb : Below w6.heap.size w9 W10 := ⟨hT.1.os, hT.1.tape, hT.1.output, hT.1.size, hT.1.block⟩
     have HB10 := Lib.hid (HB8.out.trans (hb.mono HB7.out.size))
     have HP10 := Lib.hid (HP8.out.below hb HP7.out.lt)
     have HQ10 := Lib.hid (HQ8.out.below hb HQ7.out.lt)
     have HT10 := Lib.hid (HT8.out.below hb HT7.out.1)
     obtain ⟨C5, hC5⟩ : ∃ C, { p with peer := 1 } = C := ⟨_, rfl⟩
     obtain ⟨C6, hC6⟩ : ∃ C, { p with cnt := 1 } = C := ⟨_, rfl⟩
     obtain ⟨C7, hC7⟩ : ∃ C, { p with rnd := one16 } = C := ⟨_, rfl⟩
     obtain ⟨C8, hC8⟩ : ∃ C, { p with bo := .slice (some ⟨k8, 0, none⟩) 16 16 } = C := ⟨_, rfl⟩
     have HF5 := Lib.hid (show Row W10 g5 C5.cells 40 from hC5 ▸ b5)
     have HF6 := Lib.hid (show Row W10 g6 C6.cells 40 from hC6 ▸ b6)
     have HF7 := Lib.hid (show Row W10 g7 C7.cells 40 from hC7 ▸ b7)
     have HF8 := Lib.hid (show Row W10 g8 C8.cells 40 from hC8 ▸ b8)
     have HC5o := Lib.hid (show C5.Ok from hC5 ▸ ⟨HPo.out.r, HPo.out.m, HPo.out.b⟩)
     have HC6o := Lib.hid (show C6.Ok from hC6 ▸ ⟨HPo.out.r, HPo.out.m, HPo.out.b⟩)
     have HC7o := Lib.hid (show C7.Ok from hC7 ▸ ⟨rfl, HPo.out.m, HPo.out.b⟩)
     have HC8o := Lib.hid (show C8.Ok from hC8 ▸ ⟨HPo.out.r, HPo.out.m, rfl⟩)
     have HC5b := Lib.hid (show C5.bo = .slice A n c from hC5 ▸ HPb.out)
     have HC6b := Lib.hid (show C6.bo = .slice A n c from hC6 ▸ HPb.out)
     have HC7b := Lib.hid (show C7.bo = .slice A n c from hC7 ▸ HPb.out)
     have HC8b := Lib.hid (show C8.bo = .slice (some ⟨k8, 0, none⟩) 16 16 from hC8 ▸ rfl)
     have HV5 := Lib.hid (show chk C5 n = 0 ↔ p.kind = 1 from hC5 ▸ fld_peer HC1.out)
     have HV6 := Lib.hid (show chk C6 n = 0 ↔ p.kind = 3 from hC6 ▸ fld_cnt HC1.out)
     have HV7 := Lib.hid (show chk C7 n = 0 ↔ p.kind = 1 ∨ p.kind = 2 from hC7 ▸ fld_rnd HC1.out)
     have HV8 := Lib.hid (show chk C8 16 = 0 ↔ p.kind = 3 from hC8 ▸ fld_bo _ HC1.out)
     clear hT hb b5 b6 b7 b8 hC5 hC6 hC7 hC8
     simp only [Act.put, List.setIfInBounds_toArray, List.set_cons_succ, List.set_cons_zero]
     go_wp2_with fail
     refine By.marks Pol.mixed Grew [By.is (.pointer (some ⟨w.heap.size, 0, none⟩)),
      By.is (.int .i64 p.kind),
      By.is (.bool (decide (p.kind = 1))),
      By.is (.pointer (some ⟨w.heap.size, 0, none⟩)),
      By.is (.int .i64 p.kind),
      By.is (.bool (decide (p.kind = 3))),
      By.is (.bool (decide (p.kind = 1))),
      By.is (.bool (decide (p.kind = 3)))]
      (Ev.masks _ []) (by kernel_rfl) rfl Grew.refl Grew.trans ⟨?_, ?_, ?_, ?_, ?_, ?_, ?_, ?_, trivial⟩ ?_
     · intro a w ht hs hg
       have h2 := By.same_get hs 2 (by decide) (by kernel_rfl)
       refine By.yes rfl ?_
       clear hs hg
       go_simp
       exact ⟨_, rfl, Grew.refl _, rfl⟩
     · intro a w ht hs hg
       have h44 : a.tmps.getD 44 undef = _ := By.given_get hg 0 rfl rfl (by kernel_rfl)
       refine By.yes rfl ?_
       clear hs hg
       have hc := c_kind (Row.below (w := W10.drew) HP10.out ht HP10.out.lt)
       clear ht
       go_simp
       exact ⟨_, rfl, Grew.refl _, rfl⟩
     · intro a w ht hs hg
       have h45 : a.tmps.getD 45 undef = _ := By.given_get hg 1 rfl rfl (by kernel_rfl)
       refine By.yes rfl ?_
       clear hs hg
       clear ht
       go_simp
       exact ⟨_, rfl, Grew.refl _, rfl⟩
     · intro a w ht hs hg
       have h2 := By.same_get hs 2 (by decide) (by kernel_rfl)
       refine By.yes rfl ?_
       clear hs hg
       go_simp
       exact ⟨_, rfl, Grew.refl _, rfl⟩
     · intro a w ht hs hg
       have h47 : a.tmps.getD 47 undef = _ := By.given_get hg 3 rfl rfl (by kernel_rfl)
       refine By.yes rfl ?_
       clear hs hg
       have hc := c_kind (Row.below (w := W10.drew) HP10.out ht HP10.out.lt)
       clear ht
       go_simp
       exact ⟨_, rfl, Grew.refl _, rfl⟩
     · intro a w ht hs hg
       have h48 : a.tmps.getD 48 undef = _ := By.given_get hg 4 rfl rfl (by kernel_rfl)
       refine By.yes rfl ?_
       clear hs hg
       clear ht
       go_simp
       exact ⟨_, rfl, Grew.refl _, rfl⟩
     · intro a w ht hs hg
       have h46 : a.tmps.getD 46 undef = _ := By.given_get hg 2 rfl rfl (by kernel_rfl)
       refine By.yes rfl ?_
       clear hs hg
       go_simp
       exact ⟨_, rfl, Grew.refl _, rfl⟩
     · intro a w ht hs hg
       have h49 : a.tmps.getD 49 undef = _ := By.given_get hg 5 rfl rfl (by kernel_rfl)
       refine By.yes rfl ?_
       clear hs hg
       go_simp
       exact ⟨_, rfl, Grew.refl _, rfl⟩
     refine By.ends_is (By.ends_is (By.ends_is (By.ends_is (By.ends_is (By.ends_is (By.ends_is (By.ends_is (By.ends_nil fun W11 hw11 => ?_))))))))
     simp only [Act.put, List.setIfInBounds_toArray, List.set_cons_succ, List.set_cons_zero]
     have hb := grew_below hw11
     have HB9 := Lib.hid (nextB HB10.out (Nat.le_refl _) hb)
     have HP9 := Lib.hid (HP10.out.below hb HP10.out.lt)
     have HQ9 := Lib.hid (HQ10.out.below hb HQ10.out.lt)
     have HF59 := Lib.hid (HF5.out.below hb HF5.out.lt)
     have HF69 := Lib.hid (HF6.out.below hb HF6.out.lt)
     have HF79 := Lib.hid (HF7.out.below hb HF7.out.lt)
     have HF89 := Lib.hid (HF8.out.below hb HF8.out.lt)
     have HT9 := Lib.hid (HT10.out.below hb HT10.out.1)
     clear hb hw11
     rcases head_kind (chk_ok HC1.out).1 with hk | hk | hk | hk
     · skip
       have d1 : decide (p.kind = 1) = true := by rw [hk]; rfl
       have d3 : decide (p.kind = 3) = false := by rw [hk]; rfl
       have V5 := Lib.hid (show chk C5 n = 0 from HV5.out.2 hk)
       have V6 := Lib.hid (show chk C6 n = 2 from chk_no (fun h => by have := HV6.out.1 h; omega))
       have V7 := Lib.hid (show chk C7 n = 0 from HV7.out.2 (.inl hk))
       have V8 := Lib.hid (show chk C8 16 = 2 from chk_no (fun h => by have := HV8.out.1 h; omega))
       have Hk := Lib.hid hk
       simp only [d1, d3]
       clear hk d1 d3
       have HL10 := Lib.hid (l_all HF59.out HC5o.out)
       go_wp2_with (first
        | (refine wpList_ld 40 rfl rfl HL10.out rfl ?_)
        | fail)
       refine (Check_any C5 HC5o.out A n c HC5b.out W11).mono ?_
       rintro e w11 ⟨rfl, hb⟩
       rw [V5.out]
       have HB12 := Lib.hid (nextB HB9.out (Nat.le_refl _) hb)
       have HP12 := Lib.hid (HP9.out.below hb HP9.out.lt)
       have HQ12 := Lib.hid (HQ9.out.below hb HQ9.out.lt)
       have HF512 := Lib.hid (HF59.out.below hb HF59.out.lt)
       have HF612 := Lib.hid (HF69.out.below hb HF69.out.lt)
       have HF712 := Lib.hid (HF79.out.below hb HF79.out.lt)
       have HF812 := Lib.hid (HF89.out.below hb HF89.out.lt)
       have HT12 := Lib.hid (HT9.out.below hb HT9.out.1)
       clear hb
       have HL13 := Lib.hid (l_all HF612.out HC6o.out)
       go_wp2_with (first
        | (refine wpList_ld 40 rfl rfl HL13.out rfl ?_)
        | fail)
       refine (Check_any C6 HC6o.out A n c HC6b.out w11).mono ?_
       rintro e w14 ⟨rfl, hb⟩
       rw [V6.out]
       have HB15 := Lib.hid (nextB HB12.out (Nat.le_refl _) hb)
       have HP15 := Lib.hid (HP12.out.below hb HP12.out.lt)
       have HQ15 := Lib.hid (HQ12.out.below hb HQ12.out.lt)
       have HF515 := Lib.hid (HF512.out.below hb HF512.out.lt)
       have HF615 := Lib.hid (HF612.out.below hb HF612.out.lt)
       have HF715 := Lib.hid (HF712.out.below hb HF712.out.lt)
       have HF815 := Lib.hid (HF812.out.below hb HF812.out.lt)
       have HT15 := Lib.hid (HT12.out.below hb HT12.out.1)
       clear hb
       have HL16 := Lib.hid (l_all HF715.out HC7o.out)
       go_wp2_with (first
        | (refine wpList_ld 40 rfl rfl HL16.out rfl ?_)
        | fail)
       refine (Check_any C7 HC7o.out A n c HC7b.out w14).mono ?_
       rintro e w17 ⟨rfl, hb⟩
       rw [V7.out]
       have HB18 := Lib.hid (nextB HB15.out (Nat.le_refl _) hb)
       have HP18 := Lib.hid (HP15.out.below hb HP15.out.lt)
       have HQ18 := Lib.hid (HQ15.out.below hb HQ15.out.lt)
       have HF518 := Lib.hid (HF515.out.below hb HF515.out.lt)
       have HF618 := Lib.hid (HF615.out.below hb HF615.out.lt)
       have HF718 := Lib.hid (HF715.out.below hb HF715.out.lt)
       have HF818 := Lib.hid (HF815.out.below hb HF815.out.lt)
       have HT18 := Lib.hid (HT15.out.below hb HT15.out.1)
       clear hb
       have ck := c_kind HP18.out
       rw [Hk.out] at ck
       have HL19 := Lib.hid (l_all HF818.out HC8o.out)
       go_wp2_with (first
        | (refine wpList_ld 40 rfl rfl HL19.out rfl ?_)
        | fail)
       refine (Check_any C8 HC8o.out (some ⟨k8, 0, none⟩) 16 16 HC8b.out w17).mono ?_
       rintro e w20 ⟨rfl, hb⟩
       rw [V8.out]
       clear ck
       have HB21 := Lib.hid (nextB HB18.out (Nat.le_refl _) hb)
       have HP21 := Lib.hid (HP18.out.below hb HP18.out.lt)
       have HQ21 := Lib.hid (HQ18.out.below hb HQ18.out.lt)
       have HF521 := Lib.hid (HF518.out.below hb HF518.out.lt)
       have HF621 := Lib.hid (HF618.out.below hb HF618.out.lt)
       have HF721 := Lib.hid (HF718.out.below hb HF718.out.lt)
       have HF821 := Lib.hid (HF818.out.below hb HF818.out.lt)
       have HT21 := Lib.hid (HT18.out.below hb HT18.out.1)
       clear hb
       go_wp2
       go_ret
       exact ⟨rfl, HB21.out⟩
     · skip
       have d1 : decide (p.kind = 1) = false := by rw [hk]; rfl
       have d3 : decide (p.kind = 3) = false := by rw [hk]; rfl
       have V5 := Lib.hid (show chk C5 n = 2 from chk_no (fun h => by have := HV5.out.1 h; omega))
       have V6 := Lib.hid (show chk C6 n = 2 from chk_no (fun h => by have := HV6.out.1 h; omega))
       have V7 := Lib.hid (show chk C7 n = 0 from HV7.out.2 (.inr hk))
       have V8 := Lib.hid (show chk C8 16 = 2 from chk_no (fun h => by have := HV8.out.1 h; omega))
       have Hk := Lib.hid hk
       simp only [d1, d3]
       clear hk d1 d3
       have HL10 := Lib.hid (l_all HF59.out HC5o.out)
       go_wp2_with (first
        | (refine wpList_ld 40 rfl rfl HL10.out rfl ?_)
        | fail)
       refine (Check_any C5 HC5o.out A n c HC5b.out W11).mono ?_
       rintro e w11 ⟨rfl, hb⟩
       rw [V5.out]
       have HB12 := Lib.hid (nextB HB9.out (Nat.le_refl _) hb)
       have HP12 := Lib.hid (HP9.out.below hb HP9.out.lt)
       have HQ12 := Lib.hid (HQ9.out.below hb HQ9.out.lt)
       have HF512 := Lib.hid (HF59.out.below hb HF59.out.lt)
       have HF612 := Lib.hid (HF69.out.below hb HF69.out.lt)
       have HF712 := Lib.hid (HF79.out.below hb HF79.out.lt)
       have HF812 := Lib.hid (HF89.out.below hb HF89.out.lt)
       have HT12 := Lib.hid (HT9.out.below hb HT9.out.1)
       clear hb
       have HL13 := Lib.hid (l_all HF612.out HC6o.out)
       go_wp2_with (first
        | (refine wpList_ld 40 rfl rfl HL13.out rfl ?_)
        | fail)
       refine (Check_any C6 HC6o.out A n c HC6b.out w11).mono ?_
       rintro e w14 ⟨rfl, hb⟩
       rw [V6.out]
       have HB15 := Lib.hid (nextB HB12.out (Nat.le_refl _) hb)
       have HP15 := Lib.hid (HP12.out.below hb HP12.out.lt)
       have HQ15 := Lib.hid (HQ12.out.below hb HQ12.out.lt)
       have HF515 := Lib.hid (HF512.out.below hb HF512.out.lt)
       have HF615 := Lib.hid (HF612.out.below hb HF612.out.lt)
       have HF715 := Lib.hid (HF712.out.below hb HF712.out.lt)
       have HF815 := Lib.hid (HF812.out.below hb HF812.out.lt)
       have HT15 := Lib.hid (HT12.out.below hb HT12.out.1)
       clear hb
       have HL16 := Lib.hid (l_all HF715.out HC7o.out)
       go_wp2_with (first
        | (refine wpList_ld 40 rfl rfl HL16.out rfl ?_)
        | fail)
       refine (Check_any C7 HC7o.out A n c HC7b.out w14).mono ?_
       rintro e w17 ⟨rfl, hb⟩
       rw [V7.out]
       have HB18 := Lib.hid (nextB HB15.out (Nat.le_refl _) hb)
       have HP18 := Lib.hid (HP15.out.below hb HP15.out.lt)
       have HQ18 := Lib.hid (HQ15.out.below hb HQ15.out.lt)
       have HF518 := Lib.hid (HF515.out.below hb HF515.out.lt)
       have HF618 := Lib.hid (HF615.out.below hb HF615.out.lt)
       have HF718 := Lib.hid (HF715.out.below hb HF715.out.lt)
       have HF818 := Lib.hid (HF815.out.below hb HF815.out.lt)
       have HT18 := Lib.hid (HT15.out.below hb HT15.out.1)
       clear hb
       have ck := c_kind HP18.out
       rw [Hk.out] at ck
       have HL19 := Lib.hid (l_all HF818.out HC8o.out)
       go_wp2_with (first
        | (refine wpList_ld 40 rfl rfl HL19.out rfl ?_)
        | fail)
       refine (Check_any C8 HC8o.out (some ⟨k8, 0, none⟩) 16 16 HC8b.out w17).mono ?_
       rintro e w20 ⟨rfl, hb⟩
       rw [V8.out]
       clear ck
       have HB21 := Lib.hid (nextB HB18.out (Nat.le_refl _) hb)
       have HP21 := Lib.hid (HP18.out.below hb HP18.out.lt)
       have HQ21 := Lib.hid (HQ18.out.below hb HQ18.out.lt)
       have HF521 := Lib.hid (HF518.out.below hb HF518.out.lt)
       have HF621 := Lib.hid (HF618.out.below hb HF618.out.lt)
       have HF721 := Lib.hid (HF718.out.below hb HF718.out.lt)
       have HF821 := Lib.hid (HF818.out.below hb HF818.out.lt)
       have HT21 := Lib.hid (HT18.out.below hb HT18.out.1)
       clear hb
       go_wp2
       go_ret
       exact ⟨rfl, HB21.out⟩
     · skip
       have d1 : decide (p.kind = 1) = false := by rw [hk]; rfl
       have d3 : decide (p.kind = 3) = true := by rw [hk]; rfl
       have V5 := Lib.hid (show chk C5 n = 2 from chk_no (fun h => by have := HV5.out.1 h; omega))
       have V6 := Lib.hid (show chk C6 n = 0 from HV6.out.2 hk)
       have V7 := Lib.hid (show chk C7 n = 2 from chk_no (fun h => by have := HV7.out.1 h; omega))
       have V8 := Lib.hid (show chk C8 16 = 0 from HV8.out.2 hk)
       have Hk := Lib.hid hk
       simp only [d1, d3]
       clear hk d1 d3
       have HL10 := Lib.hid (l_all HF59.out HC5o.out)
       go_wp2_with (first
        | (refine wpList_ld 40 rfl rfl HL10.out rfl ?_)
        | fail)
       refine (Check_any C5 HC5o.out A n c HC5b.out W11).mono ?_
       rintro e w11 ⟨rfl, hb⟩
       rw [V5.out]
       have HB12 := Lib.hid (nextB HB9.out (Nat.le_refl _) hb)
       have HP12 := Lib.hid (HP9.out.below hb HP9.out.lt)
       have HQ12 := Lib.hid (HQ9.out.below hb HQ9.out.lt)
       have HF512 := Lib.hid (HF59.out.below hb HF59.out.lt)
       have HF612 := Lib.hid (HF69.out.below hb HF69.out.lt)
       have HF712 := Lib.hid (HF79.out.below hb HF79.out.lt)
       have HF812 := Lib.hid (HF89.out.below hb HF89.out.lt)
       have HT12 := Lib.hid (HT9.out.below hb HT9.out.1)
       clear hb
       have HL13 := Lib.hid (l_all HF612.out HC6o.out)
       go_wp2_with (first
        | (refine wpList_ld 40 rfl rfl HL13.out rfl ?_)
        | fail)
       refine (Check_any C6 HC6o.out A n c HC6b.out w11).mono ?_
       rintro e w14 ⟨rfl, hb⟩
       rw [V6.out]
       have HB15 := Lib.hid (nextB HB12.out (Nat.le_refl _) hb)
       have HP15 := Lib.hid (HP12.out.below hb HP12.out.lt)
       have HQ15 := Lib.hid (HQ12.out.below hb HQ12.out.lt)
       have HF515 := Lib.hid (HF512.out.below hb HF512.out.lt)
       have HF615 := Lib.hid (HF612.out.below hb HF612.out.lt)
       have HF715 := Lib.hid (HF712.out.below hb HF712.out.lt)
       have HF815 := Lib.hid (HF812.out.below hb HF812.out.lt)
       have HT15 := Lib.hid (HT12.out.below hb HT12.out.1)
       clear hb
       have HL16 := Lib.hid (l_all HF715.out HC7o.out)
       go_wp2_with (first
        | (refine wpList_ld 40 rfl rfl HL16.out rfl ?_)
        | fail)
       refine (Check_any C7 HC7o.out A n c HC7b.out w14).mono ?_
       rintro e w17 ⟨rfl, hb⟩
       rw [V7.out]
       have HB18 := Lib.hid (nextB HB15.out (Nat.le_refl _) hb)
       have HP18 := Lib.hid (HP15.out.below hb HP15.out.lt)
       have HQ18 := Lib.hid (HQ15.out.below hb HQ15.out.lt)
       have HF518 := Lib.hid (HF515.out.below hb HF515.out.lt)
       have HF618 := Lib.hid (HF615.out.below hb HF615.out.lt)
       have HF718 := Lib.hid (HF715.out.below hb HF715.out.lt)
       have HF818 := Lib.hid (HF815.out.below hb HF815.out.lt)
       have HT18 := Lib.hid (HT15.out.below hb HT15.out.1)
       clear hb
       have ck := c_kind HP18.out
       rw [Hk.out] at ck
       have HL19 := Lib.hid (l_all HF818.out HC8o.out)
       go_wp2_with (first
        | (refine wpList_ld 40 rfl rfl HL19.out rfl ?_)
        | fail)
       refine (Check_any C8 HC8o.out (some ⟨k8, 0, none⟩) 16 16 HC8b.out w17).mono ?_
       rintro e w20 ⟨rfl, hb⟩
       rw [V8.out]
       clear ck
       have HB21 := Lib.hid (nextB HB18.out (Nat.le_refl _) hb)
       have HP21 := Lib.hid (HP18.out.below hb HP18.out.lt)
       have HQ21 := Lib.hid (HQ18.out.below hb HQ18.out.lt)
       have HF521 := Lib.hid (HF518.out.below hb HF518.out.lt)
       have HF621 := Lib.hid (HF618.out.below hb HF618.out.lt)
       have HF721 := Lib.hid (HF718.out.below hb HF718.out.lt)
       have HF821 := Lib.hid (HF818.out.below hb HF818.out.lt)
       have HT21 := Lib.hid (HT18.out.below hb HT18.out.1)
       clear hb
       by_cases hq3 : q.kind = 3
       case neg =>
        have dq : (q.kind != 3) = true := by simp [hq3]
        have dr : (!decide (q.kind = 3)) = true := by simp [hq3]
        have ds : (q.kind == 3) = false := by simp [hq3]
        have cq := c_kind HQ21.out
        go_wp2
        go_ret
        exact ⟨rfl, HB21.out⟩
       have Hq3 := Lib.hid hq3
       clear hq3
       by_cases e0 : p.ses = q.ses
       case neg =>
        have cq := c_kind HQ21.out
        rw [Hq3.out] at cq
        have cp0 := c_ses HP21.out
        have cq0 := c_ses HQ21.out
        have n1 : decide (p.ses = q.ses) = false := decide_eq_false e0
        have n2 : decide ((p.ses : Int) = (q.ses : Int)) = false := decide_eq_false (by omega)
        have n3 : ¬ (p.ses : Int) = (q.ses : Int) := by omega
        have cp1 := c_epo HP21.out
        have cq1 := c_epo HQ21.out
        have cp2 := c_cnt HP21.out
        have cq2 := c_cnt HQ21.out
        obtain ⟨AL, hAL⟩ : ∃ AL, alongL p = AL := ⟨_, rfl⟩
        obtain ⟨BL, hBL⟩ : ∃ BL, alongL q = BL := ⟨_, rfl⟩
        have HAB := Lib.hid (show decide (AL = BL) = false by
         rw [← hAL, ← hBL]
         exact decide_eq_false (fun h => e0 ((along_same HPi.out HQi.out Hk.out Hq3.out (chk_ok HC1.out).1 (chk_ok HC2.out).1).1 h).1))
        have HAp := Lib.hid hAL
        have HAq := Lib.hid hBL
        clear hAL hBL
        go_wp2_with fail
        refine By.marks Pol.mixed Grew [By.is p.val,
         bsM AL,
         By.is (strOf AL),
         By.is q.val,
         bsM BL,
         By.is (strOf BL),
         By.is (.bool false),
         By.is (.bool false),
         By.is (.bool true),
         By.is (.bool true)]
         (Ev.masks _ []) (by kernel_rfl) rfl Grew.refl Grew.trans ⟨?_, ?_, ?_, ?_, ?_, ?_, ?_, ?_, ?_, ?_, trivial⟩ ?_
        · intro a w ht hs hg
          have h2 := By.same_get hs 2 (by decide) (by kernel_rfl)
          refine By.yes rfl ?_
          clear hs hg
          have hr := l_all (Row.below (w := w20.drew) HP21.out ht HP21.out.lt) HPo.out
          refine wp_ld 40 _ rfl h2 hr ?_
          exact ⟨_, rfl, Grew.refl _, rfl⟩
        · intro a w ht hs hg
          have h107 : a.tmps.getD 107 undef = _ := By.given_get hg 0 rfl rfl (by kernel_rfl)
          refine By.yes rfl ?_
          clear hs hg
          clear ht
          unfold Pk.val at h107
          go_simp
          refine (Along_any p HPi.out w).mono ?_
          rintro x w8 ⟨v, rfl, ho, hb8⟩
          rw [HAp.out] at ho
          exact ⟨_, rfl, hb8, ho.bs⟩
        · intro a w ht hs hg
          have h108 := By.given_get hg 1 rfl rfl (by kernel_rfl)
          refine By.yes rfl ?_
          obtain ⟨v108, hv108⟩ : ∃ v, a.tmps.getD 108 undef = v := ⟨_, rfl⟩
          replace h108 := (congrArg (fun v => (bsM AL).on v w) hv108).mp h108
          clear hs hg
          have hr := run_str w h108
          clear h108 ht
          go_simp
          exact ⟨_, rfl, Grew.refl _, rfl⟩
        · intro a w ht hs hg
          have h3 := By.same_get hs 3 (by decide) (by kernel_rfl)
          refine By.yes rfl ?_
          clear hs hg
          have hr := l_all (Row.below (w := w20.drew) HQ21.out ht HQ21.out.lt) HQo.out
          refine wp_ld 40 _ rfl h3 hr ?_
          exact ⟨_, rfl, Grew.refl _, rfl⟩
        · intro a w ht hs hg
          have h110 : a.tmps.getD 110 undef = _ := By.given_get hg 3 rfl rfl (by kernel_rfl)
          refine By.yes rfl ?_
          clear hs hg
          clear ht
          unfold Pk.val at h110
          go_simp
          refine (Along_any q HQi.out w).mono ?_
          rintro x w8 ⟨v, rfl, ho, hb8⟩
          rw [HAq.out] at ho
          exact ⟨_, rfl, hb8, ho.bs⟩
        · intro a w ht hs hg
          have h111 := By.given_get hg 4 rfl rfl (by kernel_rfl)
          refine By.yes rfl ?_
          obtain ⟨v111, hv111⟩ : ∃ v, a.tmps.getD 111 undef = v := ⟨_, rfl⟩
          replace h111 := (congrArg (fun v => (bsM BL).on v w) hv111).mp h111
          clear hs hg
          have hr := run_str w h111
          clear h111 ht
          go_simp
          exact ⟨_, rfl, Grew.refl _, rfl⟩
        · intro a w ht hs hg
          have h109 : a.tmps.getD 109 undef = _ := By.given_get hg 2 rfl rfl (by kernel_rfl)
          have h112 : a.tmps.getD 112 undef = _ := By.given_get hg 5 rfl rfl (by kernel_rfl)
          refine By.yes rfl ?_
          clear hs hg
          clear ht
          have hsg : ∀ u v w, (eqGuard .eql 9 u v (strOf AL) (strOf BL)).run Tryd.prog w = .ok () w := fun u v w => by unfold strOf; simp [eqGuard]
          have hsv : ∀ w, (binOp .eql 9 (strOf AL) (strOf BL)).run Tryd.prog w = .ok (.bool (decide (AL = BL))) w := fun w => strv2 AL BL w
          go_simp
          exact ⟨_, rfl, Grew.refl _, congrArg Value.bool HAB.out⟩
        · intro a w ht hs hg
          have h11 := By.same_get hs 11 (by decide) (by kernel_rfl)
          refine By.yes rfl ?_
          clear hs hg
          go_simp
          exact ⟨_, rfl, Grew.refl _, rfl⟩
        · intro a w ht hs hg
          have h113 : a.tmps.getD 113 undef = _ := By.given_get hg 6 rfl rfl (by kernel_rfl)
          have h114 : a.tmps.getD 114 undef = _ := By.given_get hg 7 rfl rfl (by kernel_rfl)
          refine By.yes rfl ?_
          clear hs hg
          go_simp
          exact ⟨_, rfl, Grew.refl _, rfl⟩
        · intro a w ht hs hg
          have h115 : a.tmps.getD 115 undef = _ := By.given_get hg 8 rfl rfl (by kernel_rfl)
          refine By.yes rfl ?_
          clear hs hg
          go_simp
          exact ⟨_, rfl, Grew.refl _, rfl⟩
        refine By.ends_is (By.ends_skip fun v108 => (By.ends_is (By.ends_is (By.ends_skip fun v111 => (By.ends_is (By.ends_is (By.ends_is (By.ends_is (By.ends_is (By.ends_nil fun W13 hw13 => ?_))))))))))
        simp only [Act.put, List.setIfInBounds_toArray, List.set_cons_succ, List.set_cons_zero]
        have HB13 := Lib.hid (nextB HB21.out (Nat.le_refl _) (grew_below hw13))
        clear hw13
        go_wp2
        go_ret
        exact ⟨rfl, HB13.out⟩
       case pos =>
        by_cases e1 : p.epo = q.epo
        case neg =>
         have cq := c_kind HQ21.out
         rw [Hq3.out] at cq
         have cp0 := c_ses HP21.out
         have cq0 := c_ses HQ21.out
         rw [← e0] at cq0
         have cp1 := c_epo HP21.out
         have cq1 := c_epo HQ21.out
         have n1 : decide (p.epo = q.epo) = false := decide_eq_false e1
         have n2 : decide ((p.epo : Int) = (q.epo : Int)) = false := decide_eq_false (by omega)
         have n3 : ¬ (p.epo : Int) = (q.epo : Int) := by omega
         have cp2 := c_cnt HP21.out
         have cq2 := c_cnt HQ21.out
         obtain ⟨AL, hAL⟩ : ∃ AL, alongL p = AL := ⟨_, rfl⟩
         obtain ⟨BL, hBL⟩ : ∃ BL, alongL q = BL := ⟨_, rfl⟩
         have HAB := Lib.hid (show decide (AL = BL) = false by
          rw [← hAL, ← hBL]
          exact decide_eq_false (fun h => e1 ((along_same HPi.out HQi.out Hk.out Hq3.out (chk_ok HC1.out).1 (chk_ok HC2.out).1).1 h).2.1))
         have HAp := Lib.hid hAL
         have HAq := Lib.hid hBL
         clear hAL hBL
         go_wp2_with fail
         refine By.marks Pol.mixed Grew [By.is p.val,
          bsM AL,
          By.is (strOf AL),
          By.is q.val,
          bsM BL,
          By.is (strOf BL),
          By.is (.bool false),
          By.is (.bool false),
          By.is (.bool true),
          By.is (.bool true)]
          (Ev.masks _ []) (by kernel_rfl) rfl Grew.refl Grew.trans ⟨?_, ?_, ?_, ?_, ?_, ?_, ?_, ?_, ?_, ?_, trivial⟩ ?_
         · intro a w ht hs hg
           have h2 := By.same_get hs 2 (by decide) (by kernel_rfl)
           refine By.yes rfl ?_
           clear hs hg
           have hr := l_all (Row.below (w := w20.drew) HP21.out ht HP21.out.lt) HPo.out
           refine wp_ld 40 _ rfl h2 hr ?_
           exact ⟨_, rfl, Grew.refl _, rfl⟩
         · intro a w ht hs hg
           have h107 : a.tmps.getD 107 undef = _ := By.given_get hg 0 rfl rfl (by kernel_rfl)
           refine By.yes rfl ?_
           clear hs hg
           clear ht
           unfold Pk.val at h107
           go_simp
           refine (Along_any p HPi.out w).mono ?_
           rintro x w8 ⟨v, rfl, ho, hb8⟩
           rw [HAp.out] at ho
           exact ⟨_, rfl, hb8, ho.bs⟩
         · intro a w ht hs hg
           have h108 := By.given_get hg 1 rfl rfl (by kernel_rfl)
           refine By.yes rfl ?_
           obtain ⟨v108, hv108⟩ : ∃ v, a.tmps.getD 108 undef = v := ⟨_, rfl⟩
           replace h108 := (congrArg (fun v => (bsM AL).on v w) hv108).mp h108
           clear hs hg
           have hr := run_str w h108
           clear h108 ht
           go_simp
           exact ⟨_, rfl, Grew.refl _, rfl⟩
         · intro a w ht hs hg
           have h3 := By.same_get hs 3 (by decide) (by kernel_rfl)
           refine By.yes rfl ?_
           clear hs hg
           have hr := l_all (Row.below (w := w20.drew) HQ21.out ht HQ21.out.lt) HQo.out
           refine wp_ld 40 _ rfl h3 hr ?_
           exact ⟨_, rfl, Grew.refl _, rfl⟩
         · intro a w ht hs hg
           have h110 : a.tmps.getD 110 undef = _ := By.given_get hg 3 rfl rfl (by kernel_rfl)
           refine By.yes rfl ?_
           clear hs hg
           clear ht
           unfold Pk.val at h110
           go_simp
           refine (Along_any q HQi.out w).mono ?_
           rintro x w8 ⟨v, rfl, ho, hb8⟩
           rw [HAq.out] at ho
           exact ⟨_, rfl, hb8, ho.bs⟩
         · intro a w ht hs hg
           have h111 := By.given_get hg 4 rfl rfl (by kernel_rfl)
           refine By.yes rfl ?_
           obtain ⟨v111, hv111⟩ : ∃ v, a.tmps.getD 111 undef = v := ⟨_, rfl⟩
           replace h111 := (congrArg (fun v => (bsM BL).on v w) hv111).mp h111
           clear hs hg
           have hr := run_str w h111
           clear h111 ht
           go_simp
           exact ⟨_, rfl, Grew.refl _, rfl⟩
         · intro a w ht hs hg
           have h109 : a.tmps.getD 109 undef = _ := By.given_get hg 2 rfl rfl (by kernel_rfl)
           have h112 : a.tmps.getD 112 undef = _ := By.given_get hg 5 rfl rfl (by kernel_rfl)
           refine By.yes rfl ?_
           clear hs hg
           clear ht
           have hsg : ∀ u v w, (eqGuard .eql 9 u v (strOf AL) (strOf BL)).run Tryd.prog w = .ok () w := fun u v w => by unfold strOf; simp [eqGuard]
           have hsv : ∀ w, (binOp .eql 9 (strOf AL) (strOf BL)).run Tryd.prog w = .ok (.bool (decide (AL = BL))) w := fun w => strv2 AL BL w
           go_simp
           exact ⟨_, rfl, Grew.refl _, congrArg Value.bool HAB.out⟩
         · intro a w ht hs hg
           have h11 := By.same_get hs 11 (by decide) (by kernel_rfl)
           refine By.yes rfl ?_
           clear hs hg
           go_simp
           exact ⟨_, rfl, Grew.refl _, rfl⟩
         · intro a w ht hs hg
           have h113 : a.tmps.getD 113 undef = _ := By.given_get hg 6 rfl rfl (by kernel_rfl)
           have h114 : a.tmps.getD 114 undef = _ := By.given_get hg 7 rfl rfl (by kernel_rfl)
           refine By.yes rfl ?_
           clear hs hg
           go_simp
           exact ⟨_, rfl, Grew.refl _, rfl⟩
         · intro a w ht hs hg
           have h115 : a.tmps.getD 115 undef = _ := By.given_get hg 8 rfl rfl (by kernel_rfl)
           refine By.yes rfl ?_
           clear hs hg
           go_simp
           exact ⟨_, rfl, Grew.refl _, rfl⟩
         refine By.ends_is (By.ends_skip fun v108 => (By.ends_is (By.ends_is (By.ends_skip fun v111 => (By.ends_is (By.ends_is (By.ends_is (By.ends_is (By.ends_is (By.ends_nil fun W13 hw13 => ?_))))))))))
         simp only [Act.put, List.setIfInBounds_toArray, List.set_cons_succ, List.set_cons_zero]
         have HB13 := Lib.hid (nextB HB21.out (Nat.le_refl _) (grew_below hw13))
         clear hw13
         go_wp2
         go_ret
         exact ⟨rfl, HB13.out⟩
        case pos =>
         by_cases e2 : p.cnt = q.cnt
         case neg =>
          have cq := c_kind HQ21.out
          rw [Hq3.out] at cq
          have cp0 := c_ses HP21.out
          have cq0 := c_ses HQ21.out
          rw [← e0] at cq0
          have cp1 := c_epo HP21.out
          have cq1 := c_epo HQ21.out
          rw [← e1] at cq1
          have cp2 := c_cnt HP21.out
          have cq2 := c_cnt HQ21.out
          have n1 : decide (p.cnt = q.cnt) = false := decide_eq_false e2
          have n2 : decide ((p.cnt : Int) = (q.cnt : Int)) = false := decide_eq_false (by omega)
          have n3 : ¬ (p.cnt : Int) = (q.cnt : Int) := by omega
          obtain ⟨AL, hAL⟩ : ∃ AL, alongL p = AL := ⟨_, rfl⟩
          obtain ⟨BL, hBL⟩ : ∃ BL, alongL q = BL := ⟨_, rfl⟩
          have HAB := Lib.hid (show decide (AL = BL) = false by
           rw [← hAL, ← hBL]
           exact decide_eq_false (fun h => e2 ((along_same HPi.out HQi.out Hk.out Hq3.out (chk_ok HC1.out).1 (chk_ok HC2.out).1).1 h).2.2))
          have HAp := Lib.hid hAL
          have HAq := Lib.hid hBL
          clear hAL hBL
          have N4 := Lib.hid (show ((p.cnt : Int) == (q.cnt : Int)) = false by rw [beq_eq_false_iff_ne]; exact n3)
          go_wp2_with fail
          refine By.marks Pol.mixed Grew [By.is p.val,
           bsM AL,
           By.is (strOf AL),
           By.is q.val,
           bsM BL,
           By.is (strOf BL),
           By.is (.bool false),
           By.is (.bool false),
           By.is (.bool true),
           By.is (.bool true)]
           (Ev.masks _ []) (by kernel_rfl) rfl Grew.refl Grew.trans ⟨?_, ?_, ?_, ?_, ?_, ?_, ?_, ?_, ?_, ?_, trivial⟩ ?_
          · intro a w ht hs hg
            have h2 := By.same_get hs 2 (by decide) (by kernel_rfl)
            refine By.yes rfl ?_
            clear hs hg
            have hr := l_all (Row.below (w := w20.drew) HP21.out ht HP21.out.lt) HPo.out
            refine wp_ld 40 _ rfl h2 hr ?_
            exact ⟨_, rfl, Grew.refl _, rfl⟩
          · intro a w ht hs hg
            have h107 : a.tmps.getD 107 undef = _ := By.given_get hg 0 rfl rfl (by kernel_rfl)
            refine By.yes rfl ?_
            clear hs hg
            clear ht
            unfold Pk.val at h107
            go_simp
            refine (Along_any p HPi.out w).mono ?_
            rintro x w8 ⟨v, rfl, ho, hb8⟩
            rw [HAp.out] at ho
            exact ⟨_, rfl, hb8, ho.bs⟩
          · intro a w ht hs hg
            have h108 := By.given_get hg 1 rfl rfl (by kernel_rfl)
            refine By.yes rfl ?_
            obtain ⟨v108, hv108⟩ : ∃ v, a.tmps.getD 108 undef = v := ⟨_, rfl⟩
            replace h108 := (congrArg (fun v => (bsM AL).on v w) hv108).mp h108
            clear hs hg
            have hr := run_str w h108
            clear h108 ht
            go_simp
            exact ⟨_, rfl, Grew.refl _, rfl⟩
          · intro a w ht hs hg
            have h3 := By.same_get hs 3 (by decide) (by kernel_rfl)
            refine By.yes rfl ?_
            clear hs hg
            have hr := l_all (Row.below (w := w20.drew) HQ21.out ht HQ21.out.lt) HQo.out
            refine wp_ld 40 _ rfl h3 hr ?_
            exact ⟨_, rfl, Grew.refl _, rfl⟩
          · intro a w ht hs hg
            have h110 : a.tmps.getD 110 undef = _ := By.given_get hg 3 rfl rfl (by kernel_rfl)
            refine By.yes rfl ?_
            clear hs hg
            clear ht
            unfold Pk.val at h110
            go_simp
            refine (Along_any q HQi.out w).mono ?_
            rintro x w8 ⟨v, rfl, ho, hb8⟩
            rw [HAq.out] at ho
            exact ⟨_, rfl, hb8, ho.bs⟩
          · intro a w ht hs hg
            have h111 := By.given_get hg 4 rfl rfl (by kernel_rfl)
            refine By.yes rfl ?_
            obtain ⟨v111, hv111⟩ : ∃ v, a.tmps.getD 111 undef = v := ⟨_, rfl⟩
            replace h111 := (congrArg (fun v => (bsM BL).on v w) hv111).mp h111
            clear hs hg
            have hr := run_str w h111
            clear h111 ht
            go_simp
            exact ⟨_, rfl, Grew.refl _, rfl⟩
          · intro a w ht hs hg
            have h109 : a.tmps.getD 109 undef = _ := By.given_get hg 2 rfl rfl (by kernel_rfl)
            have h112 : a.tmps.getD 112 undef = _ := By.given_get hg 5 rfl rfl (by kernel_rfl)
            refine By.yes rfl ?_
            clear hs hg
            clear ht
            have hsg : ∀ u v w, (eqGuard .eql 9 u v (strOf AL) (strOf BL)).run Tryd.prog w = .ok () w := fun u v w => by unfold strOf; simp [eqGuard]
            have hsv : ∀ w, (binOp .eql 9 (strOf AL) (strOf BL)).run Tryd.prog w = .ok (.bool (decide (AL = BL))) w := fun w => strv2 AL BL w
            go_simp
            exact ⟨_, rfl, Grew.refl _, congrArg Value.bool HAB.out⟩
          · intro a w ht hs hg
            have h11 := By.same_get hs 11 (by decide) (by kernel_rfl)
            refine By.yes rfl ?_
            clear hs hg
            clear ht
            go_simp
            exact ⟨_, rfl, Grew.refl _, congrArg Value.bool N4.out⟩
          · intro a w ht hs hg
            have h113 : a.tmps.getD 113 undef = _ := By.given_get hg 6 rfl rfl (by kernel_rfl)
            have h114 : a.tmps.getD 114 undef = _ := By.given_get hg 7 rfl rfl (by kernel_rfl)
            refine By.yes rfl ?_
            clear hs hg
            go_simp
            exact ⟨_, rfl, Grew.refl _, rfl⟩
          · intro a w ht hs hg
            have h115 : a.tmps.getD 115 undef = _ := By.given_get hg 8 rfl rfl (by kernel_rfl)
            refine By.yes rfl ?_
            clear hs hg
            go_simp
            exact ⟨_, rfl, Grew.refl _, rfl⟩
          refine By.ends_is (By.ends_skip fun v108 => (By.ends_is (By.ends_is (By.ends_skip fun v111 => (By.ends_is (By.ends_is (By.ends_is (By.ends_is (By.ends_is (By.ends_nil fun W13 hw13 => ?_))))))))))
          simp only [Act.put, List.setIfInBounds_toArray, List.set_cons_succ, List.set_cons_zero]
          have HB13 := Lib.hid (nextB HB21.out (Nat.le_refl _) (grew_below hw13))
          clear hw13
          go_wp2
          go_ret
          exact ⟨rfl, HB13.out⟩
         case pos =>
          have cq := c_kind HQ21.out
          rw [Hq3.out] at cq
          have cp0 := c_ses HP21.out
          have cq0 := c_ses HQ21.out
          rw [← e0] at cq0
          have cp1 := c_epo HP21.out
          have cq1 := c_epo HQ21.out
          rw [← e1] at cq1
          have cp2 := c_cnt HP21.out
          have cq2 := c_cnt HQ21.out
          rw [← e2] at cq2
          obtain ⟨AL, hAL⟩ : ∃ AL, alongL p = AL := ⟨_, rfl⟩
          obtain ⟨BL, hBL⟩ : ∃ BL, alongL q = BL := ⟨_, rfl⟩
          have HAB := Lib.hid (show decide (AL = BL) = true by
           rw [← hAL, ← hBL]
           exact decide_eq_true ((along_same HPi.out HQi.out Hk.out Hq3.out (chk_ok HC1.out).1 (chk_ok HC2.out).1).2 ⟨e0, e1, e2⟩))
          have HAp := Lib.hid hAL
          have HAq := Lib.hid hBL
          clear hAL hBL
          go_wp2_with fail
          refine By.marks Pol.mixed Grew [By.is p.val,
           bsM AL,
           By.is (strOf AL),
           By.is q.val,
           bsM BL,
           By.is (strOf BL),
           By.is (.bool true),
           By.is (.bool true),
           By.is (.bool true),
           By.is (.bool true)]
           (Ev.masks _ []) (by kernel_rfl) rfl Grew.refl Grew.trans ⟨?_, ?_, ?_, ?_, ?_, ?_, ?_, ?_, ?_, ?_, trivial⟩ ?_
          · intro a w ht hs hg
            have h2 := By.same_get hs 2 (by decide) (by kernel_rfl)
            refine By.yes rfl ?_
            clear hs hg
            have hr := l_all (Row.below (w := w20.drew) HP21.out ht HP21.out.lt) HPo.out
            refine wp_ld 40 _ rfl h2 hr ?_
            exact ⟨_, rfl, Grew.refl _, rfl⟩
          · intro a w ht hs hg
            have h107 : a.tmps.getD 107 undef = _ := By.given_get hg 0 rfl rfl (by kernel_rfl)
            refine By.yes rfl ?_
            clear hs hg
            clear ht
            unfold Pk.val at h107
            go_simp
            refine (Along_any p HPi.out w).mono ?_
            rintro x w8 ⟨v, rfl, ho, hb8⟩
            rw [HAp.out] at ho
            exact ⟨_, rfl, hb8, ho.bs⟩
          · intro a w ht hs hg
            have h108 := By.given_get hg 1 rfl rfl (by kernel_rfl)
            refine By.yes rfl ?_
            obtain ⟨v108, hv108⟩ : ∃ v, a.tmps.getD 108 undef = v := ⟨_, rfl⟩
            replace h108 := (congrArg (fun v => (bsM AL).on v w) hv108).mp h108
            clear hs hg
            have hr := run_str w h108
            clear h108 ht
            go_simp
            exact ⟨_, rfl, Grew.refl _, rfl⟩
          · intro a w ht hs hg
            have h3 := By.same_get hs 3 (by decide) (by kernel_rfl)
            refine By.yes rfl ?_
            clear hs hg
            have hr := l_all (Row.below (w := w20.drew) HQ21.out ht HQ21.out.lt) HQo.out
            refine wp_ld 40 _ rfl h3 hr ?_
            exact ⟨_, rfl, Grew.refl _, rfl⟩
          · intro a w ht hs hg
            have h110 : a.tmps.getD 110 undef = _ := By.given_get hg 3 rfl rfl (by kernel_rfl)
            refine By.yes rfl ?_
            clear hs hg
            clear ht
            unfold Pk.val at h110
            go_simp
            refine (Along_any q HQi.out w).mono ?_
            rintro x w8 ⟨v, rfl, ho, hb8⟩
            rw [HAq.out] at ho
            exact ⟨_, rfl, hb8, ho.bs⟩
          · intro a w ht hs hg
            have h111 := By.given_get hg 4 rfl rfl (by kernel_rfl)
            refine By.yes rfl ?_
            obtain ⟨v111, hv111⟩ : ∃ v, a.tmps.getD 111 undef = v := ⟨_, rfl⟩
            replace h111 := (congrArg (fun v => (bsM BL).on v w) hv111).mp h111
            clear hs hg
            have hr := run_str w h111
            clear h111 ht
            go_simp
            exact ⟨_, rfl, Grew.refl _, rfl⟩
          · intro a w ht hs hg
            have h109 : a.tmps.getD 109 undef = _ := By.given_get hg 2 rfl rfl (by kernel_rfl)
            have h112 : a.tmps.getD 112 undef = _ := By.given_get hg 5 rfl rfl (by kernel_rfl)
            refine By.yes rfl ?_
            clear hs hg
            clear ht
            have hsg : ∀ u v w, (eqGuard .eql 9 u v (strOf AL) (strOf BL)).run Tryd.prog w = .ok () w := fun u v w => by unfold strOf; simp [eqGuard]
            have hsv : ∀ w, (binOp .eql 9 (strOf AL) (strOf BL)).run Tryd.prog w = .ok (.bool (decide (AL = BL))) w := fun w => strv2 AL BL w
            go_simp
            exact ⟨_, rfl, Grew.refl _, congrArg Value.bool HAB.out⟩
          · intro a w ht hs hg
            have h11 := By.same_get hs 11 (by decide) (by kernel_rfl)
            refine By.yes rfl ?_
            clear hs hg
            go_simp
            exact ⟨_, rfl, Grew.refl _, rfl⟩
          · intro a w ht hs hg
            have h113 : a.tmps.getD 113 undef = _ := By.given_get hg 6 rfl rfl (by kernel_rfl)
            have h114 : a.tmps.getD 114 undef = _ := By.given_get hg 7 rfl rfl (by kernel_rfl)
            refine By.yes rfl ?_
            clear hs hg
            go_simp
            exact ⟨_, rfl, Grew.refl _, rfl⟩
          · intro a w ht hs hg
            have h115 : a.tmps.getD 115 undef = _ := By.given_get hg 8 rfl rfl (by kernel_rfl)
            refine By.yes rfl ?_
            clear hs hg
            go_simp
            exact ⟨_, rfl, Grew.refl _, rfl⟩
          refine By.ends_is (By.ends_skip fun v108 => (By.ends_is (By.ends_is (By.ends_skip fun v111 => (By.ends_is (By.ends_is (By.ends_is (By.ends_is (By.ends_is (By.ends_nil fun W13 hw13 => ?_))))))))))
          simp only [Act.put, List.setIfInBounds_toArray, List.set_cons_succ, List.set_cons_zero]
          have HB13 := Lib.hid (nextB HB21.out (Nat.le_refl _) (grew_below hw13))
          clear hw13
          go_wp2
          go_ret
          exact ⟨rfl, HB13.out⟩
     · skip
       have d1 : decide (p.kind = 1) = false := by rw [hk]; rfl
       have d3 : decide (p.kind = 3) = false := by rw [hk]; rfl
       have V5 := Lib.hid (show chk C5 n = 2 from chk_no (fun h => by have := HV5.out.1 h; omega))
       have V6 := Lib.hid (show chk C6 n = 2 from chk_no (fun h => by have := HV6.out.1 h; omega))
       have V7 := Lib.hid (show chk C7 n = 2 from chk_no (fun h => by have := HV7.out.1 h; omega))
       have V8 := Lib.hid (show chk C8 16 = 2 from chk_no (fun h => by have := HV8.out.1 h; omega))
       have Hk := Lib.hid hk
       simp only [d1, d3]
       clear hk d1 d3
       have HL10 := Lib.hid (l_all HF59.out HC5o.out)
       go_wp2_with (first
        | (refine wpList_ld 40 rfl rfl HL10.out rfl ?_)
        | fail)
       refine (Check_any C5 HC5o.out A n c HC5b.out W11).mono ?_
       rintro e w11 ⟨rfl, hb⟩
       rw [V5.out]
       have HB12 := Lib.hid (nextB HB9.out (Nat.le_refl _) hb)
       have HP12 := Lib.hid (HP9.out.below hb HP9.out.lt)
       have HQ12 := Lib.hid (HQ9.out.below hb HQ9.out.lt)
       have HF512 := Lib.hid (HF59.out.below hb HF59.out.lt)
       have HF612 := Lib.hid (HF69.out.below hb HF69.out.lt)
       have HF712 := Lib.hid (HF79.out.below hb HF79.out.lt)
       have HF812 := Lib.hid (HF89.out.below hb HF89.out.lt)
       have HT12 := Lib.hid (HT9.out.below hb HT9.out.1)
       clear hb
       have HL13 := Lib.hid (l_all HF612.out HC6o.out)
       go_wp2_with (first
        | (refine wpList_ld 40 rfl rfl HL13.out rfl ?_)
        | fail)
       refine (Check_any C6 HC6o.out A n c HC6b.out w11).mono ?_
       rintro e w14 ⟨rfl, hb⟩
       rw [V6.out]
       have HB15 := Lib.hid (nextB HB12.out (Nat.le_refl _) hb)
       have HP15 := Lib.hid (HP12.out.below hb HP12.out.lt)
       have HQ15 := Lib.hid (HQ12.out.below hb HQ12.out.lt)
       have HF515 := Lib.hid (HF512.out.below hb HF512.out.lt)
       have HF615 := Lib.hid (HF612.out.below hb HF612.out.lt)
       have HF715 := Lib.hid (HF712.out.below hb HF712.out.lt)
       have HF815 := Lib.hid (HF812.out.below hb HF812.out.lt)
       have HT15 := Lib.hid (HT12.out.below hb HT12.out.1)
       clear hb
       have HL16 := Lib.hid (l_all HF715.out HC7o.out)
       go_wp2_with (first
        | (refine wpList_ld 40 rfl rfl HL16.out rfl ?_)
        | fail)
       refine (Check_any C7 HC7o.out A n c HC7b.out w14).mono ?_
       rintro e w17 ⟨rfl, hb⟩
       rw [V7.out]
       have HB18 := Lib.hid (nextB HB15.out (Nat.le_refl _) hb)
       have HP18 := Lib.hid (HP15.out.below hb HP15.out.lt)
       have HQ18 := Lib.hid (HQ15.out.below hb HQ15.out.lt)
       have HF518 := Lib.hid (HF515.out.below hb HF515.out.lt)
       have HF618 := Lib.hid (HF615.out.below hb HF615.out.lt)
       have HF718 := Lib.hid (HF715.out.below hb HF715.out.lt)
       have HF818 := Lib.hid (HF815.out.below hb HF815.out.lt)
       have HT18 := Lib.hid (HT15.out.below hb HT15.out.1)
       clear hb
       have ck := c_kind HP18.out
       rw [Hk.out] at ck
       have HL19 := Lib.hid (l_all HF818.out HC8o.out)
       go_wp2_with (first
        | (refine wpList_ld 40 rfl rfl HL19.out rfl ?_)
        | fail)
       refine (Check_any C8 HC8o.out (some ⟨k8, 0, none⟩) 16 16 HC8b.out w17).mono ?_
       rintro e w20 ⟨rfl, hb⟩
       rw [V8.out]
       clear ck
       have HB21 := Lib.hid (nextB HB18.out (Nat.le_refl _) hb)
       have HP21 := Lib.hid (HP18.out.below hb HP18.out.lt)
       have HQ21 := Lib.hid (HQ18.out.below hb HQ18.out.lt)
       have HF521 := Lib.hid (HF518.out.below hb HF518.out.lt)
       have HF621 := Lib.hid (HF618.out.below hb HF618.out.lt)
       have HF721 := Lib.hid (HF718.out.below hb HF718.out.lt)
       have HF821 := Lib.hid (HF818.out.below hb HF818.out.lt)
       have HT21 := Lib.hid (HT18.out.below hb HT18.out.1)
       clear hb
       go_wp2
       go_ret
       exact ⟨rfl, HB21.out⟩
set_option maxRecDepth 100000 in
theorem lift (os : Os) (started : os.Started) (H : Type) (enc : TypeId × Value → H) :
 ReturnsInHanded {} Tryd.checked os 6 .any (fun w args => (Rows.packetFieldsSpec.pre enc Tryd.prog Tryd.f6 Rows.packetFieldsRow.domain false w args ∧ laidMetH Tryd.prog Hk.laidL w) ∧ sizedMet enc Tryd.prog Tryd.f6 (OpenSpec.ofChange Rows.packetFieldsSpec) false w args) (Rows.packetFieldsSpec.post enc Tryd.prog Tryd.f6 false true false false) := by
 refine Hk.lifted 4 Pol.own started (by kernel_rfl) Tryd.func6 Pol.laid (by kernel_rfl) rfl Tryd.underlying4 rfl
  (fun ds hd => by
   have hd' : ds.length = 2 := hd
   match ds, hd' with
   | [d0, d1], _ => rfl)
  (ChangeSpec.witness_at (enc := enc) (C := Tryd.checked) (os := os) (X := fun w _ => laidMetH Tryd.prog Hk.laidL w) false (Hk.laidWorld os) #[(Pkt.nm 0).val, (Pkt.nm 0).val] 8 rfl (by kernel_rfl) (by kernel_rfl) (by kernel_rfl) (by kernel_rfl) (by kernel_rfl) (Hk.laid_metH os _)) ?_
 intro W args ds ps hst htab
 have hA : DataW.TrodAll enc Tryd.prog W 0 (fun _ => true) true Tryd.f6.params.toList args.toList ds ps := hst.trod
 have hok := hst.okw
 have hlt := hst.lt
 rw [Tryd.params6] at hA hok
 obtain ⟨v0, v1, d0, d1, p0, p1, rfl, rfl, rfl, h0, h1⟩ := trodAll_two hA
 obtain ⟨_, hv0⟩ := hok 0 40 v0 rfl rfl
 obtain ⟨_, hv1⟩ := hok 1 40 v1 rfl rfl
 obtain ⟨p, mp, A, c, rfl, hp, hbp, _, _, _, _⟩ := packet_at hv0 h0 (fun x hx => hlt x (by simp [hx]))
 obtain ⟨q, mq, A2, c2, rfl, hq, hbq, _, _, _, _⟩ := packet_at hv1 h1 (fun x hx => hlt x (by simp [hx]))
 by_cases l1 : 300 < mp.length
 · exact long1 p q A A2 _ _ c c2 W htab hp hq hbp hbq l1
 by_cases l2 : 300 < mq.length
 · exact long2 p q A A2 _ _ c c2 W htab hp hq hbp hbq l1 l2
 by_cases l3 : chk p mp.length = 0
 · by_cases l4 : chk q mq.length = 0
   · exact walk p q A A2 _ _ c c2 W htab hp hq hbp hbq l1 l2 l3 l4
   · exact bad2 p q A A2 _ _ c c2 W htab hp hq hbp hbq l1 l2 l3 l4
 · exact bad1 p q A A2 _ _ c c2 W htab hp hq hbp hbq l1 l2 l3
theorem over : Rows.packetFieldsRow.holds Tryd.pinned (OpenSpec.ofChange Rows.packetFieldsSpec) :=
 OpenClaim.holds_of_wide 6 Tryd.f6 rfl rfl rfl rfl rfl rfl rfl ⟨rfl, rfl, rfl, rfl, rfl⟩ rfl rfl rfl rfl rfl (by kernel_rfl) Tryd.func6 (by kernel_rfl)
  (of_decide_eq_true (by kernel_rfl)) (by unfold Func.isWrapper; first | (rw [if_pos (by decide +kernel)]; kernel_rfl) | (rw [if_neg (by decide +kernel)]; exact ⟨rfl, rfl⟩))
  (fun os started H enc _ => lift os started H enc)
theorem proved : Rows.PacketFieldsCardSaid :=
 Claim7.holds_tied_plain_at .later [] [.data] true Rows.packetFieldsCard.stood.harness false over (fun _ h => by cases h) (by kernel_rfl) (fun _ h => by cases h) packetFields_row_tie rfl ⟨rfl, rfl⟩ (by kernel_rfl) rfl
  (fun f fn hf hfn => by
   obtain rfl : f = 6 := (Option.some.inj ((show Tryd.prog.funcNamed Rows.packetFieldsRow.func = some 6 by kernel_rfl).symm.trans hf)).symm
   obtain rfl : fn = Tryd.f6 := (Option.some.inj (Tryd.func6.symm.trans hfn)).symm
   refine ⟨by kernel_rfl, fun j t ht => ?_⟩
   have hall : (Tryd.f6.params.toList.all fun t => Tryd.prog.wantsStandIn t == false) = true := by kernel_rfl
   have h := List.all_eq_true.1 hall t (Array.mem_toList_iff.2 (Array.mem_of_getElem? ht))
   exact eq_of_beq h)
  (by kernel_rfl)
#print axioms proved
end Go.Proofs.YtgmmjnedgaeefaaDoor.packetFields
