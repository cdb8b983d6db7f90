/- octet: numbers are read. -/
import Derived.Test.YtedmogacklbcmaaOctMake
import Derived.Test.YtedmogacklbcmaaBs
import Derived.Deep.QuietTactic
import Derived.BigQuiet
namespace Go.Proofs.Ytedmogacklbcmaa
open Go.RowKit

theorem number_nil (A : Option Addr) (c : Nat) (w : World) :
    Calls Try.prog 100 #[.slice A 0 c] w fun e w' => e = .returned (.tuple #[.int .u64 0, .int .i64 0, .int .i64 5]) ∧ w = w' := by
  go_enter Try.func100, Try.ntmps100
  go_wp2
  go_ret3
  exact ⟨rfl, rfl⟩
theorem number_big (b off c : Nat) (n : Nat) (h : Nat) (w : World) (hn : 0 < n) (h8 : 8 < h) (h256 : h < 256) (hc : w.cell? ⟨b, off, none⟩ = some (.int .u8 h)) :
    Calls Try.prog 100 #[.slice (some ⟨b, off, none⟩) n c] w fun e w' => e = .returned (.tuple #[.int .u64 0, .int .i64 0, .int .i64 4]) ∧ w = w' := by
  have hn1 : ((n : Int) == 0) = false := by simp; omega
  go_enter Try.func100, Try.ntmps100
  go_wp2
  go_ret3
  exact ⟨rfl, rfl⟩
theorem number_more (b off c : Nat) (n : Nat) (h : Nat) (w : World) (hn : 0 < n) (h8 : h ≤ 8) (hl : n < 1 + h) (hc : w.cell? ⟨b, off, none⟩ = some (.int .u8 h)) :
    Calls Try.prog 100 #[.slice (some ⟨b, off, none⟩) n c] w fun e w' => e = .returned (.tuple #[.int .u64 0, .int .i64 0, .int .i64 5]) ∧ w = w' := by
  have hn1 : ((n : Int) == 0) = false := by simp; omega
  go_enter Try.func100, Try.ntmps100
  go_wp2
  go_ret3
  exact ⟨rfl, rfl⟩
theorem number_zero (b off c : Nat) (n : Nat) (h : Nat) (w : World) (hn : 0 < n) (h0 : 0 < h) (h8 : h ≤ 8) (hl : 1 + h ≤ n) (hc : w.cell? ⟨b, off, none⟩ = some (.int .u8 h)) (hc1 : w.cell? ⟨b, off + 1, none⟩ = some (.int .u8 0)) :
    Calls Try.prog 100 #[.slice (some ⟨b, off, none⟩) n c] w fun e w' => e = .returned (.tuple #[.int .u64 0, .int .i64 0, .int .i64 4]) ∧ w = w' := by
  have hn1 : ((n : Int) == 0) = false := by simp; omega
  go_enter Try.func100, Try.ntmps100
  go_wp2
  go_ret3
  exact ⟨rfl, rfl⟩
theorem number_none (b off c : Nat) (n : Nat) (w : World) (hn : 0 < n) (hnc : n ≤ c) (hc : w.cell? ⟨b, off, none⟩ = some (.int .u8 0)) :
    Calls Try.prog 100 #[.slice (some ⟨b, off, none⟩) n c] w fun e w' => e = .returned (.tuple #[.int .u64 0, .int .i64 1, .int .i64 0]) ∧ w = w' := by
  have hn1 : ((n : Int) == 0) = false := by simp; omega
  have hn2 : (1 : Int) ≤ (c : Int) := by omega
  by_cases h1 : c = 1
  all_goals
    go_enter Try.func100, Try.ntmps100
    go_wp2
    go_loop [36, 6] (fun i x => i = .int .i64 0 ∧ x = .int .u64 0) (fun _ _ => 0)
    case atStart => exact ⟨rfl, rfl⟩
    case round =>
      obtain ⟨rfl, rfl⟩ := hrel
      go_wp2
      go_ret3
      exact ⟨rfl, rfl⟩

theorem or_byte (x : Nat) (u : UInt8) (hx : x < 2 ^ 56) : bits .or .u64 ((x : Int) * 256) (IntKind.u64.wrap (u.toNat : Int)) = ((x * 256 + u.toNat : Nat) : Int) := by
  have hu := u.toNat_lt
  have h1 : IntKind.u64.wrap (u.toNat : Int) = (u.toNat : Int) := by
    simp [IntKind.wrap, IntKind.bits, IntKind.signed]; omega
  rw [h1, show ((x : Int) * 256) = ((x * 256 : Nat) : Int) by simp, u64_or_nat _ _ (by omega) (by omega), nat_join 8 _ _ (by omega) (by omega)]

set_option maxHeartbeats 400000 in
theorem number_ok (b off c : Nat) (n : Nat) (l : List UInt8) (w : World) (h0 : 0 < l.length) (h8 : l.length ≤ 8) (hl : 1 + l.length ≤ n) (hnc : n ≤ c) (hc : w.cell? ⟨b, off, none⟩ = some (.int .u8 l.length))
    (hcs : ∀ i u, l[i]? = some u → w.cell? ⟨b, off + 1 + i, none⟩ = some (.int .u8 u.toNat)) (h1 : ∀ u, l[0]? = some u → u.toNat ≠ 0) :
    Calls Try.prog 100 #[.slice (some ⟨b, off, none⟩) n c] w fun e w' => e = .returned (.tuple #[.int .u64 (Oct.be l : Nat), .int .i64 (1 + l.length : Nat), .int .i64 0]) ∧ w = w' := by
  have hn1 : ((n : Int) == 0) = false := by simp; omega
  obtain ⟨u, hu⟩ : ∃ u, l[0]? = some u := ⟨l[0]'(by omega), List.getElem?_eq_getElem _⟩
  have hc1 : w.cell? ⟨b, off + 1, none⟩ = some (.int .u8 u.toNat) := hcs 0 u hu
  have hu0 : ((u.toNat : Int) == 0) = false := by simpa using h1 u hu
  have hn2 : (decide (0 < l.length)) = true := by simpa using h0
  have Hcs := Lib.hid hcs
  clear hcs
  have Hu := Lib.hid hu
  clear hu
  go_enter Try.func100, Try.ntmps100
  go_wp2
  go_loop [36, 6] (fun i x => ∃ k : Nat, k ≤ l.length ∧ i = .int .i64 k ∧ x = .int .u64 (Oct.be (l.take k) : Nat)) (fun i _ => l.length - (intOf i).toNat)
  case atStart => exact ⟨0, Nat.zero_le _, rfl, rfl⟩
  case round =>
    obtain ⟨k, hk, rfl, rfl⟩ := hrel
    by_cases hlt : k < l.length
    · have hv : l[k]? = some l[k] := List.getElem?_eq_getElem hlt
      have hck := Hcs.out k _ hv
      have Hv := Lib.hid hv
      clear hv
      have hsm := Oct.be_small (l.take k) (by rw [List.length_take]; omega)
      have Hor := Lib.hid (or_byte (Oct.be (l.take k)) l[k] hsm)
      go_wp2
      go_round
      case rel =>
        refine ⟨k + 1, by omega, by go_num, ?_⟩
        rw [Hor.out, Oct.be_take Hv.out]
      case measure => simp [intOf]; omega
    · have hkl : k = l.length := by omega
      have Hkl := Lib.hid hkl
      clear hkl
      go_wp2
      go_ret3
      refine ⟨?_, rfl⟩
      rw [Hkl.out, List.take_length]
      simp

/-- What 'number' answers at these bytes. -/
abbrev numTuple (l : List UInt8) : Value := .tuple #[.int .u64 ((Oct.dec l).1 : Nat), .int .i64 ((Oct.dec l).2.1 : Nat), .int .i64 ((Oct.dec l).2.2 : Nat)]
theorem number_any (v : Value) (l : List UInt8) (w : World) {B : Nat} (hb : Bs w B v l) : Calls Try.prog 100 #[v] w fun e w' => e = .returned (numTuple l) ∧ w = w' := by
  obtain ⟨A, c, rfl, hc, hcs⟩ := hb
  cases l with
  | nil => exact number_nil A c w
  | cons h t =>
    obtain ⟨b, off, rfl, _, hcell⟩ := hcs (by simp)
    have hu := h.toNat_lt
    have hc0 : w.cell? ⟨b, off, none⟩ = some (.int .u8 h.toNat) := hcell 0 h rfl
    have hct : ∀ i u, t[i]? = some u → w.cell? ⟨b, off + 1 + i, none⟩ = some (.int .u8 u.toNat) := fun i u hiu => by
      have := hcell (i + 1) u (by simpa using hiu)
      rwa [show off + (i + 1) = off + 1 + i by omega] at this
    have hlen : (h :: t).length = t.length + 1 := rfl
    unfold numTuple
    simp only [Oct.dec]
    by_cases h8 : 8 < h.toNat
    · rw [if_pos h8]; exact number_big b off c _ _ w (by simp) h8 hu hc0
    · rw [if_neg h8]
      by_cases hm : t.length < h.toNat
      · rw [if_pos hm]; exact number_more b off c _ _ w (by simp) (by omega) (by rw [hlen]; omega) hc0
      · rw [if_neg hm]
        by_cases hz : 0 < h.toNat ∧ (t[0]?.map UInt8.toNat) = some 0
        · rw [if_pos hz]
          obtain ⟨u, hu1, hu2⟩ := Option.map_eq_some_iff.1 hz.2
          have := hct 0 u hu1
          rw [hu2] at this
          exact number_zero b off c _ _ w (by simp) hz.1 (by omega) (by rw [hlen]; omega) hc0 this
        · rw [if_neg hz]
          by_cases h0 : h.toNat = 0
          · rw [h0] at hc0 ⊢
            refine (number_none b off c _ w (by simp) hc hc0).mono fun e w' ⟨he, hw⟩ => ⟨?_, hw⟩
            rw [he]; simp [Oct.be]
          · have hlt : (t.take h.toNat).length = h.toNat := by rw [List.length_take]; omega
            refine (number_ok b off c _ (t.take h.toNat) w (by omega) (by omega) (by rw [hlen, hlt]; omega) hc (by rw [hlt]; exact hc0) (fun i u hiu => ?_) (fun u hu1 => ?_)).mono fun e w' ⟨he, hw⟩ => ⟨?_, hw⟩
            · rw [List.getElem?_take] at hiu
              split at hiu
              · exact hct i u hiu
              · cases hiu
            · intro hu0
              rw [List.getElem?_take] at hu1
              split at hu1
              · exact hz ⟨by omega, by rw [hu1]; simp [hu0]⟩
              · cases hu1
            · rw [he, hlt]; rfl

/-- A reader of the bytes l, at a place, with an error; its bytes lie in an earlier block. -/
def Rd (w : World) (lo g : Nat) (l : List UInt8) (at_ err : Nat) : Prop :=
  ∃ v, w.heap[g]? = some (.cells #[.bool true, v, .int .i64 (at_ : Nat), .int .i64 (err : Nat)] 152 (0, 0)) ∧ Bs w g v l ∧ at_ ≤ l.length ∧ l.length ≤ 35184372088832 ∧ ∀ k, v.ownBlock = some k → lo ≤ k

theorem Rd.cells {w : World} {lo g : Nat} {l : List UInt8} {at_ err : Nat} (h : Rd w lo g l at_ err) : ∃ A c, w.cell? ⟨g, 0, none⟩ = some (.bool true) ∧ w.cell? ⟨g, 1, none⟩ = some (.slice A l.length c) ∧ w.cell? ⟨g, 2, none⟩ = some (.int .i64 (at_ : Nat)) ∧ w.cell? ⟨g, 3, none⟩ = some (.int .i64 (err : Nat)) ∧
    w.frozen? ⟨g, 2, none⟩ = false ∧ w.frozen? ⟨g, 3, none⟩ = false ∧ Bs w g (.slice A l.length c) l ∧ l.length ≤ c ∧ at_ ≤ l.length ∧ l.length ≤ 35184372088832 ∧ g < w.heap.size := by
  obtain ⟨v, h1, h2, h3, h4⟩ := h
  obtain ⟨A, c, rfl, hc, hcs⟩ := h2
  refine ⟨A, c, ?_, ?_, ?_, ?_, ?_, ?_, ⟨A, c, rfl, hc, hcs⟩, hc, h3, h4.1, (Array.getElem?_eq_some_iff.1 h1).1⟩ <;> simp [World.cell?, World.frozen?, h1]

/-- The reader behind stores into its place and its error. -/
theorem Rd.put {w : World} {lo g : Nat} {l : List UInt8} {at_ err : Nat} (h : Rd w lo g l at_ err) (a e : Nat) (ha : a ≤ l.length) : Rd ((w.setCell ⟨g, 2, none⟩ (.int .i64 (a : Nat))).setCell ⟨g, 3, none⟩ (.int .i64 (e : Nat))) lo g l a e := by
  obtain ⟨v, h1, h2, h3, h4⟩ := h
  refine ⟨v, ?_, (h2.setCell (p := ⟨g, 2, none⟩) (Nat.le_refl _) _).setCell (p := ⟨g, 3, none⟩) (Nat.le_refl _) _, ha, h4⟩
  simp [World.setCell, Array.getElem?_modify, h1]
theorem Rd.putErr {w : World} {lo g : Nat} {l : List UInt8} {at_ err : Nat} (h : Rd w lo g l at_ err) (e : Nat) : Rd (w.setCell ⟨g, 3, none⟩ (.int .i64 (e : Nat))) lo g l at_ e := by
  obtain ⟨v, h1, h2, h3, h4⟩ := h
  refine ⟨v, ?_, h2.setCell (p := ⟨g, 3, none⟩) (Nat.le_refl _) _, h3, h4⟩
  simp [World.setCell, Array.getElem?_modify, h1]
theorem Rd.putAt {w : World} {lo g : Nat} {l : List UInt8} {at_ err : Nat} (h : Rd w lo g l at_ err) (a : Nat) (ha : a ≤ l.length) : Rd (w.setCell ⟨g, 2, none⟩ (.int .i64 (a : Nat))) lo g l a err := by
  obtain ⟨v, h1, h2, h3, h4⟩ := h
  refine ⟨v, ?_, h2.setCell (p := ⟨g, 2, none⟩) (Nat.le_refl _) _, ha, h4⟩
  simp [World.setCell, Array.getElem?_modify, h1]
theorem Rd.drew {w : World} {lo g : Nat} {l : List UInt8} {at_ err : Nat} (h : Rd w lo g l at_ err) : Rd w.drew lo g l at_ err := h
theorem Rd.drewN {w : World} {lo g : Nat} {l : List UInt8} {at_ err : Nat} (h : Rd w lo g l at_ err) (n : Nat) : Rd (w.drewN n) lo g l at_ err := h

theorem ret_int {k : IntKind} {a b : Int} (h : a = b) : Ending.returned (.int k a) = .returned (.int k b) := by rw [h]

theorem Err_nil (w : World) : Calls Try.prog 98 #[.pointer none] w fun e w' => e = .returned (.int .i64 1) ∧ w = w' := by
  go_enter Try.func98, Try.ntmps98
  go_wp2
  go_ret
  exact ⟨rfl, rfl⟩
theorem Err_any {w : World} {lo g : Nat} {l : List UInt8} {at_ err : Nat} (h : Rd w lo g l at_ err) : Calls Try.prog 98 #[.pointer (some ⟨g, 0, none⟩)] w fun e w' => e = .returned (.int .i64 (err : Nat)) ∧ w = w' := by
  obtain ⟨A, c, h0, h1, h2, h3, _⟩ := h.cells
  clear h
  go_enter Try.func98, Try.ntmps98
  go_wp2
  go_ret
  exact ⟨rfl, rfl⟩
theorem Left_nil (w : World) : Calls Try.prog 99 #[.pointer none] w fun e w' => e = .returned (.int .i64 0) ∧ w = w' := by
  go_enter Try.func99, Try.ntmps99
  go_wp2
  go_ret
  exact ⟨rfl, rfl⟩
theorem Left_any {w : World} {lo g : Nat} {l : List UInt8} {at_ err : Nat} (h : Rd w lo g l at_ err) : Calls Try.prog 99 #[.pointer (some ⟨g, 0, none⟩)] w fun e w' => e = .returned (.int .i64 ((l.length - at_ : Nat) : Int)) ∧ ∃ n, w' = w.drewN n := by
  obtain ⟨A, c, h0, h1, h2, h3, _, _, _, hc, hat, hl, _⟩ := h.cells
  clear h
  go_enter Try.func99, Try.ntmps99
  go_wp2
  go_quiet (fail)
  go_wp2
  go_ret
  exact ⟨ret_int (by omega), _, rfl⟩

theorem dec_le (l : List UInt8) : (Oct.dec l).2.1 ≤ l.length := by
  cases l with
  | nil => simp [Oct.dec]
  | cons h t =>
    simp only [Oct.dec]
    repeat' split
    all_goals simp
    omega

/-- What a reader's Number answers, its place and its error behind it. -/
def rdNumber (l : List UInt8) (a e : Nat) : Nat × Nat × Nat := if e ≠ 0 then (0, a, e) else ((Oct.dec (l.drop a)).1, a + (Oct.dec (l.drop a)).2.1, (Oct.dec (l.drop a)).2.2)
theorem rdNumber_le (l : List UInt8) (a e : Nat) (h : a ≤ l.length) : (rdNumber l a e).2.1 ≤ l.length := by
  unfold rdNumber
  split
  · exact h
  · have := dec_le (l.drop a)
    rw [List.length_drop] at this
    simp only
    omega



theorem RNumber_err {w : World} {lo g : Nat} {l : List UInt8} {at_ err : Nat} (h : Rd w lo g l at_ err) (he : err ≠ 0) : Calls Try.prog 58 #[.pointer (some ⟨g, 0, none⟩)] w fun e w' => e = .returned (.int .u64 0) ∧ w = w' := by
  have Hr := Lib.hid h
  clear h
  have he' : ((err : Int) == 0) = false := by simpa using he
  have he2 : ((err : Int) != 0) = true := by simpa using he
  go_enter Try.func58, Try.ntmps58
  go_wp2_with (go_at_call 98; refine (Err_any Hr.out).mono ?_; rintro e w' ⟨rfl, rfl⟩)
  go_ret
  exact ⟨rfl, rfl⟩

set_option maxHeartbeats 400000 in
theorem RNumber_ok {w : World} {lo g : Nat} {l : List UInt8} {at_ : Nat} (h : Rd w lo g l at_ 0) : Calls Try.prog 58 #[.pointer (some ⟨g, 0, none⟩)] w fun e w' => e = .returned (.int .u64 ((Oct.dec (l.drop at_)).1 : Nat)) ∧
    ∃ n, w' = ((w.drewN n).setCell ⟨g, 2, none⟩ (.int .i64 ((at_ + (Oct.dec (l.drop at_)).2.1 : Nat) : Int))).setCell ⟨g, 3, none⟩ (.int .i64 ((Oct.dec (l.drop at_)).2.2 : Nat)) := by
  obtain ⟨A, c, h0, h1, h2, h3, h4, h5, h6, hc, hat, hl, hg⟩ := h.cells
  have Hr := Lib.hid h
  have H6 := Lib.hid h6
  clear h h6
  have hd := dec_le (l.drop at_)
  rw [List.length_drop] at hd
  go_enter Try.func58, Try.ntmps58
  go_wp2_with (go_at_call 98; refine (Err_any Hr.out).mono ?_; rintro e w' ⟨rfl, rfl⟩)
  go_quiet ((go_at_call 100; exact quiet_same fun W hW => number_any _ _ _ ((H6.out.cut hat).heap hW)))
  go_wp2
  all_goals
    go_ret
    exact ⟨rfl, _, rfl⟩

/-- Only block g, and what is new, has turned. -/
theorem only_put {w : World} {g : Nat} (n : Nat) (a b : Nat) (x y : Value) : w.grownBy (((w.drewN n).setCell ⟨g, a, none⟩ x).setCell ⟨g, b, none⟩ y) (some g) :=
  ⟨rfl, rfl, rfl, by simp [World.setCell, World.drewN], fun k _ hne => by
    have hk : k ≠ g := fun e => hne (by rw [e])
    rw [Below.heap_setCell _ _ _ _ hk, Below.heap_setCell _ _ _ _ hk]; rfl⟩
theorem only_put1 {w : World} {g : Nat} (a : Nat) (x : Value) : w.grownBy (w.setCell ⟨g, a, none⟩ x) (some g) :=
  ⟨rfl, rfl, rfl, by simp [World.setCell], fun k _ hne => by
    have hk : k ≠ g := fun e => hne (by rw [e])
    rw [Below.heap_setCell _ _ _ _ hk]⟩
theorem only_refl (w : World) (row : Option Nat) : w.grownBy w row := ⟨rfl, rfl, rfl, Nat.le_refl _, fun _ _ _ => rfl⟩
theorem only_trans {a b c : World} {row : Option Nat} (h : a.grownBy b row) (k : b.grownBy c row) : a.grownBy c row :=
  ⟨k.os.trans h.os, k.tape.trans h.tape, k.output.trans h.output, Nat.le_trans h.size k.size, fun i hi hn => (k.block i (Nat.lt_of_lt_of_le hi h.size) hn).trans (h.block i hi hn)⟩
theorem only_drewN (w : World) (n : Nat) (row : Option Nat) : w.grownBy (w.drewN n) row := ⟨rfl, rfl, rfl, Nat.le_refl _, fun _ _ _ => rfl⟩

theorem RNumber_any {w : World} {lo g : Nat} {l : List UInt8} {at_ err : Nat} (h : Rd w lo g l at_ err) : Calls Try.prog 58 #[.pointer (some ⟨g, 0, none⟩)] w fun e w' =>
    e = .returned (.int .u64 ((rdNumber l at_ err).1 : Nat)) ∧ Rd w' lo g l (rdNumber l at_ err).2.1 (rdNumber l at_ err).2.2 ∧ w.grownBy w' (some g) := by
  by_cases he : err = 0
  · subst he
    have hle := rdNumber_le l at_ 0 h.choose_spec.2.2.1
    have e : rdNumber l at_ 0 = ((Oct.dec (l.drop at_)).1, at_ + (Oct.dec (l.drop at_)).2.1, (Oct.dec (l.drop at_)).2.2) := by simp [rdNumber]
    rw [e] at hle ⊢
    refine (RNumber_ok h).mono ?_
    rintro e w' ⟨rfl, n, rfl⟩
    exact ⟨rfl, (h.drewN n).put _ _ hle, only_put _ _ _ _ _⟩
  · have e : rdNumber l at_ err = (0, at_, err) := by simp [rdNumber, he]
    rw [e]
    refine (RNumber_err h he).mono ?_
    rintro e w' ⟨rfl, rfl⟩
    exact ⟨rfl, h, only_refl _ _⟩
end Go.Proofs.Ytedmogacklbcmaa
