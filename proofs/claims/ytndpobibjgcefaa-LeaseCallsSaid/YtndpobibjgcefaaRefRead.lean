/- The reference's reader: a new one, numbers, the end. -/
import Derived.Test.YtndpobibjgcefaaOctEnd
import Derived.Test.YtndpobibjgcefaaKit
import Derived.Test.YtndpobibjgcefaaRow
namespace Go.Proofs.Ytndpobibjgcefaa.Ref
open Go.RowKit

/-- A reader at g whose bytes left are l. -/
def Rr (w : World) (g : Nat) (l : List UInt8) (e : Nat) : Prop :=
  ∃ v, Row w g [v, .int .i64 (e : Int)] 68 ∧ Bs w g v l ∧ l.length ≤ 35184372088832
theorem Rr.lt {w : World} {g : Nat} {l : List UInt8} {e : Nat} (h : Rr w g l e) : g < w.heap.size := h.choose_spec.1.lt
theorem Rr.below {w w' : World} {g B : Nat} {l : List UInt8} {e : Nat} (h : Rr w g l e) (hb : Below B w w') (hg : g < B) : Rr w' g l e := by
  obtain ⟨v, h1, h2, h3⟩ := h
  exact ⟨v, h1.below hb hg, h2.keep fun b o hbg => hb.cell (p := ⟨b, o, none⟩) (by simp only; omega), h3⟩
theorem Rr.put {w : World} {g : Nat} {l : List UInt8} {e : Nat} (h : Rr w g l e) (d : Nat) : Rr (w.setCell ⟨g, 1, none⟩ (.int .i64 (d : Int))) g l d := by
  obtain ⟨v, h1, h2, h3⟩ := h
  exact ⟨v, h1.set 1 _, h2.setCell (Nat.le_refl g) _, h3⟩
theorem grown_put (w : World) (g : Nat) (k : Nat) (x : Value) : w.grownBy (w.setCell ⟨g, k, none⟩ x) (some g) := only_put1 k x

theorem RNew_any (b : Value) (l : List UInt8) (w : World) (hb : Bs w w.heap.size b l) (hl : l.length ≤ 35184372088832) : Calls Try.prog 35 #[b] w fun e w' =>
    ∃ g, e = .returned (.pointer (some ⟨g, 0, none⟩)) ∧ w.heap.size ≤ g ∧ Rr w' g l 0 ∧ Below w.heap.size w w' := by
  have Hb := Lib.hid hb
  clear hb
  have ho := own_new w
  have Ho := Lib.hid ho
  clear ho
  go_enter Try.func35, Try.ntmps35
  go_wp2_with (at_builtin; refine wpList_app_bytes _ rfl _ _ rfl rfl (l := []) Ho.out rfl (Hb.out.alloc (Nat.le_refl _) _) (by simp; omega) (by simp) ?_; intro v2 w2 hown2 hg2 hblk2; obtain ⟨A2, c2, rfl⟩ := hown2.shape)
  go_ret
  rw [List.nil_append] at hown2
  have hb2 : Below w.heap.size w w2 := ((Below.refl _ w).alloc (Nat.le_refl _) _).grown hg2 (by simp) (fun k hk => by have hk' : some w.heap.size = some k := hk; injection hk' with hk'; omega)
  refine ⟨w2.heap.size, rfl, hb2.size, ⟨_, Row.new rfl rfl, (hown2.bs).alloc (Nat.le_refl _) _, hl⟩, hb2.alloc hb2.size _⟩

def RdPost (l : List UInt8) (b off c n g : Nat) (w : World) (r : Ending) (w' : World) : Prop :=
  if 0 < l.length ∧ (l[0]?.map UInt8.toNat) = some 0 then r = .returned (.int .u64 0) ∧ w' = w.setCell ⟨g, 1, none⟩ (.int .i64 4)
  else r = .returned (.int .u64 (Oct.be l : Nat)) ∧ w' = w.setCell ⟨g, 0, none⟩ (.slice (if c = 1 + l.length then some ⟨b, off, none⟩ else some ⟨b, off + (1 + l.length), none⟩) (n - (1 + l.length)) (c - (1 + l.length)))
section
variable {w : World} {g : Nat}
theorem RNum_err {l : List UInt8} {e : Nat} (h : Rr w g l e) (he : e ≠ 0) : Calls Try.prog 36 #[.pointer (some ⟨g, 0, none⟩)] w fun r w' => r = .returned (.int .u64 0) ∧ w = w' := by
  obtain ⟨v, h1, _, _⟩ := h
  have q1 : w.cell? ⟨g, 1, none⟩ = some (.int .i64 (e : Int)) := h1.cell rfl
  have he' : ((e : Int) != 0) = true := by rw [bne_iff_ne]; omega
  clear h1 he
  go_enter Try.func36, Try.ntmps36
  go_wp2
  go_ret
  exact ⟨rfl, rfl⟩
theorem RNum_nil {A : Option Addr} {c : Nat} (h : Row w g [.slice A 0 c, .int .i64 0] 68) : Calls Try.prog 36 #[.pointer (some ⟨g, 0, none⟩)] w fun r w' => r = .returned (.int .u64 0) ∧ w' = w.setCell ⟨g, 1, none⟩ (.int .i64 5) := by
  have q0 : w.cell? ⟨g, 0, none⟩ = some (.slice A 0 c) := h.cell rfl
  have q1 : w.cell? ⟨g, 1, none⟩ = some (.int .i64 0) := h.cell rfl
  have f1 := frozen_row h 1
  clear h
  go_enter Try.func36, Try.ntmps36
  go_wp2
  go_ret
  exact ⟨rfl, rfl⟩
theorem RNum_big {b off c n h : Nat} (hr : Row w g [.slice (some ⟨b, off, none⟩) n c, .int .i64 0] 68) (hn : 0 < n) (h8 : 8 < h) (h256 : h < 256) (hc : w.cell? ⟨b, off, none⟩ = some (.int .u8 h)) :
    Calls Try.prog 36 #[.pointer (some ⟨g, 0, none⟩)] w fun r w' => r = .returned (.int .u64 0) ∧ w' = w.setCell ⟨g, 1, none⟩ (.int .i64 4) := by
  have q0 : w.cell? ⟨g, 0, none⟩ = some (.slice (some ⟨b, off, none⟩) n c) := hr.cell rfl
  have q1 : w.cell? ⟨g, 1, none⟩ = some (.int .i64 0) := hr.cell rfl
  have f1 := frozen_row hr 1
  have hn1 : ((n : Int) == 0) = false := by rw [beq_eq_false_iff_ne]; omega
  have h8' : (8 : Int) < (h : Int) := by omega
  clear hr
  go_enter Try.func36, Try.ntmps36
  go_wp2
  go_ret
  exact ⟨rfl, rfl⟩
theorem RNum_more {b off c n h : Nat} (hr : Row w g [.slice (some ⟨b, off, none⟩) n c, .int .i64 0] 68) (hn : 0 < n) (h8 : h ≤ 8) (hl : n < 1 + h) (hc : w.cell? ⟨b, off, none⟩ = some (.int .u8 h)) :
    Calls Try.prog 36 #[.pointer (some ⟨g, 0, none⟩)] w fun r w' => r = .returned (.int .u64 0) ∧ w' = w.setCell ⟨g, 1, none⟩ (.int .i64 5) := by
  have q0 : w.cell? ⟨g, 0, none⟩ = some (.slice (some ⟨b, off, none⟩) n c) := hr.cell rfl
  have q1 : w.cell? ⟨g, 1, none⟩ = some (.int .i64 0) := hr.cell rfl
  have f1 := frozen_row hr 1
  have hn1 : ((n : Int) == 0) = false := by rw [beq_eq_false_iff_ne]; omega
  have h8' : ¬ (8 : Int) < (h : Int) := by omega
  have hl' : (n : Int) < 1 + (h : Int) := by omega
  clear hr
  go_enter Try.func36, Try.ntmps36
  go_wp2
  go_ret
  exact ⟨rfl, rfl⟩
set_option maxHeartbeats 1000000 in
theorem RNum_read {b off c n : Nat} {l : List UInt8} (hr : Row w g [.slice (some ⟨b, off, none⟩) n c, .int .i64 0] 68) (h8 : l.length ≤ 8) (hl : 1 + l.length ≤ n) (hnc : n ≤ c) (hc : w.cell? ⟨b, off, none⟩ = some (.int .u8 l.length))
    (hcs : ∀ i u, l[i]? = some u → w.cell? ⟨b, off + 1 + i, none⟩ = some (.int .u8 u.toNat)) :
    Calls Try.prog 36 #[.pointer (some ⟨g, 0, none⟩)] w fun r w' =>
      RdPost l b off c n g w r w' := by
  have q0 : w.cell? ⟨g, 0, none⟩ = some (.slice (some ⟨b, off, none⟩) n c) := hr.cell rfl
  have q1 : w.cell? ⟨g, 1, none⟩ = some (.int .i64 0) := hr.cell rfl
  have f0 := frozen_row hr 0
  have f1 := frozen_row hr 1
  have hn1 : ((n : Int) == 0) = false := by rw [beq_eq_false_iff_ne]; omega
  have h8' : ¬ (8 : Int) < (l.length : Int) := by omega
  have hl' : ¬ (n : Int) < 1 + (l.length : Int) := by omega
  have Hcs := Lib.hid hcs
  clear hr hcs
  go_enter Try.func36, Try.ntmps36
  go_wp2
  go_loop [4, 5] (fun vx vi => ∃ j : Nat, j ≤ l.length ∧ vi = .int .i64 ((j : Int) + 1) ∧ vx = .int .u64 (Oct.be (l.take j) : Nat)) (fun _ vi => l.length + 1 - (intOf vi).toNat)
  case atStart => exact ⟨0, by omega, rfl, rfl⟩
  case round =>
    obtain ⟨j, hj, rfl, rfl⟩ := hrel
    by_cases hjl : j < l.length
    · have hjl' : (j : Int) + 1 ≤ (l.length : Int) := by omega
      have hv : l[j]? = some l[j] := List.getElem?_eq_getElem hjl
      have hck : w.cell? ⟨b, off + (j + 1), none⟩ = some (.int .u8 (l[j]).toNat) := by
        have := Hcs.out j _ hv
        rwa [show off + 1 + j = off + (j + 1) by omega] at this
      have hu := (l[j]).toNat_lt
      have hsm := Oct.be_small (l.take j) (by rw [List.length_take]; omega)
      have Hbe := Lib.hid (Oct.be_take hv)
      obtain ⟨X, hX⟩ : ∃ X, Oct.be (l.take j) = X := ⟨_, rfl⟩
      obtain ⟨U, hU⟩ : ∃ U, (l[j]).toNat = U := ⟨_, rfl⟩
      rw [hX, hU] at Hbe
      rw [hX] at hsm ⊢
      rw [hU] at hck hu
      have e1 : IntKind.u64.wrap ((X : Int) * 256) = (X : Int) * 256 := by simp only [IntKind.wrap, IntKind.bits, IntKind.signed]; simp; omega
      have e2 : IntKind.u64.wrap (U : Int) = (U : Int) := by simp only [IntKind.wrap, IntKind.bits, IntKind.signed]; simp; omega
      have e3 : IntKind.u64.wrap ((X : Int) * 256 + (U : Int)) = ((X * 256 + U : Nat) : Int) := by simp only [IntKind.wrap, IntKind.bits, IntKind.signed]; simp; omega
      have e4 : ((j : Int) + 1).toNat = j + 1 := by omega
      have e5 : (j : Int) + 1 < (n : Int) := by omega
      have Hjl := Lib.hid hjl
      clear hX hU hv hsm hu hjl
      go_wp2
      go_round
      case rel =>
        refine ⟨j + 1, by have := Hjl.out; omega, by go_num, ?_⟩
        rw [Hbe.out]; simp
      case measure => simp [intOf]; have := Hjl.out; omega
    · obtain rfl : j = l.length := by omega
      have hjl' : ¬ (l.length : Int) + 1 ≤ (l.length : Int) := by omega
      rw [List.take_length]
      have e9 : (1 + (l.length : Int)).toNat = 1 + l.length := by omega
      by_cases h0 : l.length = 0
      · have Hc := Lib.hid (show ¬ (0 < l.length ∧ (l[0]?.map UInt8.toNat) = some 0) by omega)
        have h0' : decide (0 < l.length) = false := by rw [decide_eq_false_iff_not]; omega
        go_wp2
        all_goals
          go_ret
          unfold RdPost
          first
            | (rw [if_neg Hc.out]; exact ⟨rfl, rfl⟩)
            | (rw [if_pos Hc.out]; exact ⟨rfl, rfl⟩)
            | (rw [if_neg Hc.out]; refine ⟨rfl, ?_⟩; simp_all; done)
      · have h0' : decide (0 < l.length) = true := by rw [decide_eq_true_eq]; omega
        have h0'' : (0 : Int) < (l.length : Int) := by omega
        obtain ⟨u0, hu0⟩ : ∃ u, l[0]? = some u := ⟨_, List.getElem?_eq_getElem (by omega)⟩
        have hc1 : w.cell? ⟨b, off + 1, none⟩ = some (.int .u8 u0.toNat) := Hcs.out 0 u0 hu0
        have hn2 : (1 : Int) < (n : Int) := by omega
        by_cases hz : u0.toNat = 0
        · have Hc := Lib.hid (show 0 < l.length ∧ (l[0]?.map UInt8.toNat) = some 0 from ⟨by omega, by rw [hu0]; simp [hz]⟩)
          rw [hz] at hc1
          clear hu0 hz
          go_wp2
          all_goals
            go_ret
            unfold RdPost
            first
              | (rw [if_neg Hc.out]; exact ⟨rfl, rfl⟩)
              | (rw [if_pos Hc.out]; exact ⟨rfl, rfl⟩)
              | (rw [if_neg Hc.out]; refine ⟨rfl, ?_⟩; simp_all; done)
        · have Hc := Lib.hid (show ¬ (0 < l.length ∧ (l[0]?.map UInt8.toNat) = some 0) by rintro ⟨_, h⟩; rw [hu0] at h; simp at h; exact hz (by rw [h]))
          obtain ⟨U, hU⟩ : ∃ U, u0.toNat = U := ⟨_, rfl⟩
          rw [hU] at hc1 hz
          have hz1 : ((U : Int) == 0) = false := by rw [beq_eq_false_iff_ne]; omega
          have hz2 : decide (U = 0) = false := by rw [decide_eq_false_iff_not]; exact hz
          clear hu0 hU
          go_wp2
          all_goals
            go_ret
            unfold RdPost
            first
              | (rw [if_neg Hc.out]; exact ⟨rfl, rfl⟩)
              | (rw [if_pos Hc.out]; exact ⟨rfl, rfl⟩)
              | (rw [if_neg Hc.out]; refine ⟨rfl, ?_⟩; simp_all; done)
end
theorem add_none' (b off i : Nat) : (⟨b, off, none⟩ : Addr).add i = ⟨b, off + i, none⟩ := by unfold Addr.add; split <;> simp_all
theorem Rr.put0 {w : World} {g : Nat} {l m : List UInt8} {v v' : Value} (h1 : Row w g [v, .int .i64 0] 68) (h2 : Bs w g v' m) (hm : m.length ≤ 35184372088832) : Rr (w.setCell ⟨g, 0, none⟩ v') g m 0 :=
  ⟨v', h1.set 0 _, h2.setCell (Nat.le_refl g) _, hm⟩
theorem RNumber_dec {w : World} {g : Nat} {l : List UInt8} (h : Rr w g l 0) : Calls Try.prog 36 #[.pointer (some ⟨g, 0, none⟩)] w fun r w' =>
    r = .returned (.int .u64 ((Oct.dec l).1 : Nat)) ∧ Rr w' g (l.drop (Oct.dec l).2.1) (Oct.dec l).2.2 ∧ w.grownBy w' (some g) := by
  obtain ⟨v, h1, h2, h3⟩ := h
  have hR : Rr w g l 0 := ⟨v, h1, h2, h3⟩
  obtain ⟨A, c, rfl, hc, hcs⟩ := h2
  have hB : Bs w g (.slice A l.length c) l := ⟨A, c, rfl, hc, hcs⟩
  cases l with
  | nil =>
    refine (RNum_nil h1).mono ?_
    rintro r w' ⟨rfl, rfl⟩
    exact ⟨rfl, hR.put 5, grown_put w g 1 _⟩
  | cons h t =>
    obtain ⟨b, off, rfl, _, hcell⟩ := hcs (by simp)
    have hu := h.toNat_lt
    have hc0 : w.cell? ⟨b, off, none⟩ = some (.int .u8 h.toNat) := hcell 0 h rfl
    have hlen : (h :: t).length = t.length + 1 := rfl
    simp only [Oct.dec]
    by_cases h8 : 8 < h.toNat
    · rw [if_pos h8]
      refine (RNum_big h1 (by simp) h8 (by omega) hc0).mono ?_
      rintro r w' ⟨rfl, rfl⟩
      exact ⟨rfl, hR.put 4, grown_put w g 1 _⟩
    · rw [if_neg h8]
      by_cases hl : t.length < h.toNat
      · rw [if_pos hl]
        refine (RNum_more h1 (by simp) (by omega) (by rw [hlen]; omega) hc0).mono ?_
        rintro r w' ⟨rfl, rfl⟩
        exact ⟨rfl, hR.put 5, grown_put w g 1 _⟩
      · rw [if_neg hl]
        have htl : (t.take h.toNat).length = h.toNat := by rw [List.length_take]; omega
        refine (RNum_read (l := t.take h.toNat) h1 (by omega) (by rw [htl, hlen]; omega) hc (by rw [htl]; exact hc0) (fun i u hi => ?_)).mono ?_
        · rw [List.getElem?_take] at hi
          split at hi
          · have := hcell (i + 1) u (by simpa using hi)
            rwa [show off + (i + 1) = off + 1 + i by omega] at this
          · cases hi
        · intro r w' hp
          unfold RdPost at hp
          rw [htl] at hp
          have h0 : 0 < h.toNat → (t.take h.toNat)[0]? = t[0]? := fun hpos => by rw [List.getElem?_take, if_pos hpos]
          by_cases hz : 0 < h.toNat ∧ (t[0]?.map UInt8.toNat) = some 0
          · rw [if_pos ⟨hz.1, by rw [h0 hz.1]; exact hz.2⟩] at hp
            rw [if_pos hz]
            obtain ⟨rfl, rfl⟩ := hp
            exact ⟨rfl, hR.put 4, grown_put w g 1 _⟩
          · rw [if_neg (fun hh => hz ⟨hh.1, by rw [← h0 hh.1]; exact hh.2⟩)] at hp
            rw [if_neg hz]
            obtain ⟨rfl, rfl⟩ := hp
            refine ⟨rfl, Rr.put0 (l := h :: t) h1 ?_ (by rw [List.length_drop]; omega), grown_put w g 0 _⟩
            have hcut := hB.cut (k := 1 + h.toNat) (by rw [hlen]; omega)
            rwa [Option.map_some, add_none'] at hcut
theorem RNumber_any {w : World} {g a e : Nat} {b : List UInt8} (h : Rr w g (b.drop a) e) : Calls Try.prog 36 #[.pointer (some ⟨g, 0, none⟩)] w fun r w' =>
    r = .returned (.int .u64 ((rdNumber b a e).1 : Nat)) ∧ Rr w' g (b.drop (rdNumber b a e).2.1) (rdNumber b a e).2.2 ∧ w.grownBy w' (some g) := by
  by_cases he : e = 0
  · subst he
    have e1 : rdNumber b a 0 = ((Oct.dec (b.drop a)).1, a + (Oct.dec (b.drop a)).2.1, (Oct.dec (b.drop a)).2.2) := by simp [rdNumber]
    rw [e1]
    refine (RNumber_dec h).mono ?_
    rintro r w' ⟨rfl, h2, h3⟩
    rw [List.drop_drop] at h2
    exact ⟨rfl, h2, h3⟩
  · have e1 : rdNumber b a e = (0, a, e) := by simp [rdNumber, he]
    rw [e1]
    refine (RNum_err h he).mono ?_
    rintro r w' ⟨rfl, rfl⟩
    exact ⟨rfl, h, only_refl _ _⟩
theorem REnd_any {w : World} {g a e : Nat} {b : List UInt8} (h : Rr w g (b.drop a) e) : Calls Try.prog 37 #[.pointer (some ⟨g, 0, none⟩)] w fun r w' =>
    r = .returned (.int .i64 (rdEnd b a e : Nat)) ∧ w.grownBy w' (some g) := by
  obtain ⟨v, h1, h2, h3⟩ := h
  obtain ⟨A, c, rfl, _, _⟩ := h2
  have q0 : w.cell? ⟨g, 0, none⟩ = some (.slice A (b.drop a).length c) := h1.cell rfl
  have q1 : w.cell? ⟨g, 1, none⟩ = some (.int .i64 (e : Int)) := h1.cell rfl
  have f1 := frozen_row h1 1
  obtain ⟨L, hL⟩ : ∃ L, (b.drop a).length = L := ⟨_, rfl⟩
  rw [hL] at q0
  have hLb : L = b.length - a := by rw [← hL, List.length_drop]
  clear h1 h3
  by_cases he : e = 0
  · subst he
    by_cases hl : a < b.length
    · have HE := Lib.hid (show rdEnd b a 0 = 4 by unfold rdEnd; rw [if_pos ⟨rfl, hl⟩])
      have hL0 : decide (0 < L) = true := by rw [decide_eq_true_eq]; omega
      clear hl hLb hL
      go_enter Try.func37, Try.ntmps37
      go_wp2
      go_ret
      exact ⟨by rw [HE.out]; rfl, grown_put w g 1 _⟩
    · have HE := Lib.hid (show rdEnd b a 0 = 0 by unfold rdEnd; rw [if_neg (fun h => hl h.2)])
      have hL0 : decide (0 < L) = false := by rw [decide_eq_false_iff_not]; omega
      clear hl hLb hL
      go_enter Try.func37, Try.ntmps37
      go_wp2
      go_ret
      exact ⟨by rw [HE.out]; rfl, only_refl _ _⟩
  · have HE := Lib.hid (show rdEnd b a e = e by unfold rdEnd; rw [if_neg (fun h => he h.1)])
    have he' : ((e : Int) == 0) = false := by rw [beq_eq_false_iff_ne]; omega
    clear hLb hL he
    go_enter Try.func37, Try.ntmps37
    go_wp2
    go_ret
    exact ⟨by rw [HE.out]; rfl, only_refl _ _⟩
end Go.Proofs.Ytndpobibjgcefaa.Ref
