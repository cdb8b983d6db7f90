/- The room is what files do not use; a fuse lets the given number of operations through: 'drawbridgelaw12.DiskRoom', for every argument. -/
import Derived.Test.YtgmmjnedgaeefaaDskInv
import Derived.Test.YtgmmjnedgaeefaaDskSmall
import Derived.Test.YtgmmjnedgaeefaaDskLives
import Derived.Test.YtgmmjnedgaeefaaLawSized
namespace Go.Proofs.Ytgmmjnedgaeefaa.diskRoom
open Go.ChangeShapes Go.WideShapes Go.ChangeAt Go.RowKit
open Dsk
theorem own : ownKnob Try.checked.prog.godebug = none := by kernel_rfl
theorem laid : laidOutB Try.checked.prog = true := by kernel_rfl
theorem New_ex (room : Int) (h0 : 0 ≤ room) (h1 : room ≤ 16777216) (w : World) : Calls Try.prog 8 #[.int .i64 room] w fun e w' => ∃ p L, e = .returned (.tuple #[pv p, .int .i64 0]) ∧ At w' w.heap.size L p ⟨[], room, false, -1⟩ ∧ Below w.heap.size w w' :=
  (New_ok room h0 h1 w).mono fun _ _ ⟨h2, h3, h4⟩ => ⟨_, _, h2, h3, h4⟩
theorem key_len {w : World} {B : Nat} {L : Lab} {p : Nat} {d : Dk} (h : At w B L p d) : ∀ s ∈ keys d.files, s.length ≤ maxLen := by
  intro s hs
  obtain ⟨_, _, m, D, _, _, hf⟩ := h
  have h1 := (hf.perm.mem_iff (a := s)).1 hs
  obtain ⟨es, hD, hk⟩ := hf.map.keysOf
  subst hD
  obtain ⟨p, hp, hps⟩ := List.mem_map.1 h1
  obtain ⟨v, hv⟩ := hk p hp
  obtain ⟨x, _, hx, hxl⟩ := Maps.keyOf_str Try.underlying9 hv
  rw [hx] at hps
  have : x = s := hps
  subst this
  exact hxl
set_option maxRecDepth 100000 in
set_option maxHeartbeats 8000000 in
theorem walk {w : World} {v : Value} {l : List Ac} {f : Int} (h : Acs w w.heap.size v l) (hl : l.length ≤ maxLen) (hf : in64 f) (hal : ∀ a ∈ l, a.name.length ≤ maxLen ∧ a.b.length ≤ 140737488355327) :
    Calls Try.prog 6 #[v, .int .i64 f] w fun e w' => e = .returned (.bool true) ∧ Below w.heap.size w w' := by
  obtain ⟨A, c, rfl, hc, _⟩ := id h
  have Hac := Lib.hid h
  have Hl := Lib.hid hl
  have Hf := Lib.hid hf
  have Hal := Lib.hid hal
  have HPk := Lib.hid (pick_in f 60 (by decide))
  obtain ⟨n0, hn0⟩ : ∃ n0, pick f 60 = n0 := ⟨_, rfl⟩
  have HP := Lib.hid (fun W => Pick_any f 60 W hf ⟨by decide, by decide⟩)
  rw [hn0] at HP HPk
  have TK := Lib.hid True.intro
  clear h hl hf hal hn0
  cases hs : smallB l with
  | false =>
    go_enter Try.func6, Try.ntmps6
    go_wp2_with (first
      | (go_at_call 13; refine (lives_any _).mono ?_; rintro e w1 ⟨rfl, hb⟩; have HB1 := Lib.hid hb; clear hb)
      | (go_at_call 8; refine (New_ex 2000 (by decide) (by decide) _).mono ?_; rintro e w2 ⟨p, L, rfl, hat, hb⟩; have HB2 := Lib.hid (nextB HB1.out (Nat.le_refl _) hb); clear hat hb; unfold pv)
      | (go_at_call 23; refine (HP.out _).mono ?_; rintro e w' ⟨rfl, rfl⟩)
      | (go_at_call 18; refine (small_any ((Hac.out.below HB2.out).more HB2.out.size) Hl.out).mono ?_; rintro e w3 ⟨rfl, hb⟩; have HB3 := Lib.hid (nextB HB2.out (Nat.le_refl _) hb); clear hb)
      | fail)
    go_ret
    exact ⟨rfl, HB3.out⟩
  | true =>
    go_enter Try.func6, Try.ntmps6
    go_wp2_with (first
      | (go_at_call 13; refine (lives_any _).mono ?_; rintro e w1 ⟨rfl, hb⟩; have HB1 := Lib.hid hb; clear hb)
      | (go_at_call 8; refine (New_ex 2000 (by decide) (by decide) _).mono ?_; rintro e w2 ⟨p, L, rfl, hat, hb⟩; have HB2 := Lib.hid (nextB HB1.out (Nat.le_refl _) hb); have HA2 := Lib.hid hat; clear hat hb; unfold pv)
      | (go_at_call 23; refine (HP.out _).mono ?_; rintro e w' ⟨rfl, rfl⟩)
      | (go_at_call 18; refine (small_any ((Hac.out.below HB2.out).more HB2.out.size) Hl.out).mono ?_; rintro e w3 ⟨rfl, hb⟩; have HB3 := Lib.hid (nextB HB2.out (Nat.le_refl _) hb); have HA3 := Lib.hid (HA2.out.new hb); clear hb)
      | (go_at_call 16; refine (Fuse_at HA3.out n0).mono ?_; rintro e w4 ⟨rfl, hat, hst⟩; have HB4 := Lib.hid (HB3.out.trans ((hst.below HA3.out).mono HB1.out.size)); have HA4 := Lib.hid hat; clear hat hst)
      | fail)
    obtain ⟨B, hB⟩ : ∃ B, w1.heap.size = B := ⟨_, rfl⟩
    have HA4' := Lib.hid (show At w4 B L p ⟨[], 2000, false, n0⟩ from hB ▸ HA4.out)
    have HwB : Hid (w.heap.size ≤ B) := by
      have h1 : w.heap.size ≤ B := by rw [← hB]; exact HB1.out.size
      exact h1
    have hl100 : l.length ≤ 100 := by
      have h1 := hs
      simp only [smallB, Bool.and_eq_true, decide_eq_true_eq] at h1
      exact h1.1
    clear HB2 HA2 HB3 HA3 HA4 HB1 hB TK
    go_loopw [8, 7] (fun iv nv wr => ∃ (i : Nat) (n : Int) (Li : Lab) (d : Dk), i ≤ l.length ∧ iv = .int .i64 (i : Int) ∧ nv = .int .i64 n ∧ At wr B Li p d ∧ Fz d n ∧ d.left + (total d.files : Int) = 2000 ∧ 0 ≤ d.left ∧ d.files.length ≤ i ∧ n ≤ 60 ∧ -(i : Int) ≤ n ∧ Below w.heap.size w wr) (fun iv _ _ => l.length - (intOf iv).toNat)
    case atStart => exact ⟨0, n0, L, _, Nat.zero_le _, rfl, rfl, HA4'.out, .inl ⟨HPk.out.1, rfl, rfl⟩, rfl, (by decide : (0 : Int) ≤ 2000), by simp, by have := HPk.out.2; omega, by have := HPk.out.1; omega, HB4.out⟩
    case round =>
      obtain ⟨i, n, Li, d, hi, rfl, rfl, hat, hfz, hsum, hleft, hlen, hn60, hni, hb⟩ := hrel
      have HA := Lib.hid hat
      have HF := Lib.hid hfz
      have HB := Lib.hid hb
      have Hsum := Lib.hid hsum
      have Hleft := Lib.hid hleft
      have Hlen := Lib.hid hlen
      clear hat hfz hb hsum hleft hlen HA4' HB4
      by_cases h1 : i < l.length
      · have h1' : (i : Int) < (l.length : Int) := by omega
        obtain ⟨A0, c0, e0, _, hcell⟩ := Hac.out
        simp only [Value.slice.injEq, true_and] at e0
        obtain ⟨rfl, rfl⟩ := e0
        obtain ⟨b, off, rfl, hlt, hcell⟩ := hcell (by intro e; subst e; simp at h1)
        obtain ⟨a, ha⟩ : ∃ a, l[i]? = some a := ⟨_, List.getElem?_eq_getElem h1⟩
        obtain ⟨cs, hac, hat⟩ := hcell i a ha
        have ham : a ∈ l := List.mem_of_getElem? ha
        have HAc := Lib.hid ((hac.below HB.out).more HwB.out)
        obtain ⟨vb, vp, rfl, hvb, hvp, hk1, hk2⟩ := hac
        obtain ⟨A1, c1, rfl, _, _⟩ := hvb
        obtain ⟨A2, c2, rfl, _, _⟩ := hvp
        have e0 := (HB.out.cell (p := ⟨b, off + (i * 5 + 0), none⟩) hlt).trans (hat 0 (by decide))
        have e1 := (HB.out.cell (p := ⟨b, off + (i * 5 + 1), none⟩) hlt).trans (hat 1 (by decide))
        have e2 := (HB.out.cell (p := ⟨b, off + (i * 5 + 2), none⟩) hlt).trans (hat 2 (by decide))
        have e3 := (HB.out.cell (p := ⟨b, off + (i * 5 + 3), none⟩) hlt).trans (hat 3 (by decide))
        have e4 := (HB.out.cell (p := ⟨b, off + (i * 5 + 4), none⟩) hlt).trans (hat 4 (by decide))
        simp only [List.getElem?_cons_succ, List.getElem?_cons_zero, ← Nat.add_assoc, Nat.add_zero] at e0 e1 e2 e3 e4
        have HPk2 := Lib.hid (pick_in a.kind 7 (by decide))
        obtain ⟨k, hk⟩ : ∃ k, pick a.kind 7 = k := ⟨_, rfl⟩
        have HP2 := Lib.hid (fun W => Pick_any a.kind 7 W hk1 ⟨by decide, by decide⟩)
        rw [hk] at HP2 HPk2
        have Hk := Lib.hid hk
        have Ham := Lib.hid ham
        clear hcell hat ha hk hk1 hk2 HP ham
        by_cases h3 : k ≤ 3
        · have h3' : ¬ 3 < k := by omega
          have hd : Fits d := ⟨by have := Hsum.out; have := Hleft.out; omega, by have := Hlen.out; omega, by rcases HF.out with ⟨g1, g2, g3⟩ | ⟨g1, g2, g3⟩ <;> omega, by have := Hsum.out; have := Hleft.out; omega⟩
          have HCall := Lib.hid (Call_at HA.out hd HAc.out (by rw [Hk.out]; exact h3) (Hal.out a Ham.out).1 (Hal.out a Ham.out).2)
          rw [Hk.out] at HCall
          have hsm := opD_sum k d a HA.out.nodup
          have hln := opD_len k d a
          obtain ⟨d2, hd2⟩ : ∃ d2, opD k d a = d2 := ⟨_, rfl⟩
          obtain ⟨oe, hoe⟩ : ∃ oe, opE k d a = oe := ⟨_, rfl⟩
          have key : ∃ n', Fz d2 n' ∧ ((oe = 2 ∧ n' = n) ∨ (oe ≠ 2 ∧ n ≤ 0 ∧ oe = 11 ∧ n' = n - 1) ∨ (oe ≠ 2 ∧ ¬ n ≤ 0 ∧ oe ≠ 11 ∧ n' = n - 1)) := by
            by_cases h2 : oe = 2
            · exact ⟨n, hd2 ▸ HF.out.same k a (hoe.trans h2), .inl ⟨h2, rfl⟩⟩
            · obtain ⟨g1, g2⟩ := HF.out.next k a (by rw [hoe]; exact h2)
              rw [hoe] at g1
              refine ⟨n - 1, hd2 ▸ g2, .inr ?_⟩
              by_cases h4 : n ≤ 0
              · exact .inl ⟨h2, h4, g1.2 h4, rfl⟩
              · exact .inr ⟨h2, h4, fun e => h4 (g1.1 e), rfl⟩
          rw [hd2, hoe] at HCall
          rw [hd2] at hsm hln
          obtain ⟨n', HFz2, hcase⟩ := key
          have HF2 := Lib.hid HFz2
          have Hsm := Lib.hid hsm
          have Hln := Lib.hid hln
          clear HFz2 hsm hln hd2 hoe hd
          have hwn : n' = n - 1 → wrap64 (n - 1) = n' := fun e => by subst e; unfold wrap64; omega
          have Hn' : Hid (n' ≤ 60 ∧ -((i : Int) + 1) ≤ n') := by
            have h1 : n' ≤ 60 ∧ -((i : Int) + 1) ≤ n' := by rcases hcase with ⟨_, g⟩ | ⟨_, _, _, g⟩ | ⟨_, _, _, g⟩ <;> omega
            exact h1
          obtain ⟨ns, hns⟩ : ∃ ns, names d2.files = ns := ⟨_, rfl⟩
          have HNl : Hid (d2.files.length ≤ 1000000 ∧ total d2.files ≤ 2000 ∧ ns.length ≤ 1000000) := by
            have h1 : d2.files.length ≤ 1000000 ∧ total d2.files ≤ 2000 ∧ ns.length ≤ 1000000 := by
              have g1 := Hln.out
              have g2 := Hlen.out
              have g3 := Hsm.out
              have g4 := Hsum.out
              have g5 := g3.2 Hleft.out
              refine ⟨by omega, by omega, ?_⟩
              rw [← hns, names_len]
              omega
            exact h1
          have HL : Hid (wrap64 (2000 - (total d2.files : Int)) = d2.left) := by
            have h1 : wrap64 (2000 - (total d2.files : Int)) = d2.left := by
              have g3 := Hsm.out
              have g4 := Hsum.out
              have g5 := g3.2 Hleft.out
              unfold wrap64
              omega
            exact h1
          have Hns := Lib.hid hns
          clear hns
          rcases hcase with ⟨rfl, rfl⟩ | ⟨g1, g2, rfl, g4⟩ | ⟨g1, g2, g3, g4⟩
          · clear hwn
            skip
            go_wp2_with (first
              | (go_at_call 23; refine (HP2.out _).mono ?_; rintro e w' ⟨rfl, rfl⟩)
              | (go_at_call 19; refine HCall.out.mono ?_; rintro e w5 ⟨rfl, L5, hat, hst⟩; have HA5 := Lib.hid hat; have HB5 := Lib.hid (HB.out.trans ((hst.below HA.out).mono HwB.out)); clear hat hst)
              | (go_at_call 15; refine (Names_at HA5.out HNl.out.1).mono ?_; rintro e w6 ⟨v6, rfl, ho, hb⟩; rw [Hns.out] at ho; obtain ⟨A6, c6, rfl, hc6, hcn⟩ := ho.cells; have HN := Lib.hid hcn; have HB6 := Lib.hid (nextB HB5.out (Nat.le_refl _) hb); have HA6 := Lib.hid (HA5.out.new hb); clear ho hb hcn)
              | fail)
            clear e0 e1 e2 e3 e4
            go_loopw [14, 12] (fun xv sv wr2 => ∃ j : Nat, j ≤ ns.length ∧ xv = .int .i64 (j : Int) ∧ sv = .int .i64 (sumS d2.files ns j : Int) ∧ Below w6.heap.size w6 wr2) (fun xv _ _ => ns.length - (intOf xv).toNat)
            case atStart => exact ⟨0, Nat.zero_le _, rfl, rfl, Below.refl _ _⟩
            case round =>
              obtain ⟨j, hj, rfl, rfl, hb⟩ := hrel
              have HBj := Lib.hid hb
              have HAj := Lib.hid (HA6.out.new hb)
              clear hb
              have hnsl := HNl.out.2.2
              by_cases h7 : j < ns.length
              · have h7' : (j : Int) < (ns.length : Int) := by omega
                obtain ⟨g6, rfl, _, hg6, hcell⟩ := HN.out (by intro e; subst e; simp at h7)
                obtain ⟨s, hs6⟩ : ∃ s, ns[j]? = some s := ⟨_, List.getElem?_eq_getElem h7⟩
                have hcs := (HBj.out.cell (p := ⟨g6, j, none⟩) hg6).trans (hcell j s hs6)
                have hsl : s.length ≤ maxLen := key_len HAj.out s (by rw [← mem_names, Hns.out]; exact List.mem_of_getElem? hs6)
                have HSz := Lib.hid (Size_at HAj.out s hsl (by have := HNl.out.2.1; omega))
                have hsu := sumS_succ d2.files ns hs6
                have hsw : wrap64 ((sumS d2.files ns j : Int) + (sizeN d2.files s : Int)) = (sumS d2.files ns (j + 1) : Int) := by
                  have h8 := sumS_le d2.files HA6.out.nodup (j + 1)
                  rw [Hns.out] at h8
                  have h9 := HNl.out.2.1
                  unfold wrap64
                  omega
                clear hcell hs6 hsu hsl
                go_wp2_with (first
                  | (go_at_call 20; refine HSz.out.mono ?_; rintro e w7 ⟨rfl, hb⟩; have HBk := Lib.hid (nextB HBj.out (Nat.le_refl _) hb); clear hb)
                  | fail)
                go_roundw
                case rel => exact ⟨j + 1, h7, by go_num, congrArg (Value.int .i64) hsw, HBk.out⟩
                case measure => simp [intOf]; omega
              · have h7' : ¬ (j : Int) < (ns.length : Int) := by omega
                have hjn : j = ns.length := by omega
                subst hjn
                have hall : sumS d2.files ns ns.length = total d2.files := by
                  have := sumS_all d2.files HA6.out.nodup
                  rw [Hns.out] at this
                  exact this
                have hLf := HL.out
                rw [hall]
                clear hall
                go_wp2_with (first
                  | (go_at_call 21; refine (Left_at HAj.out).mono ?_; rintro e w' ⟨rfl, rfl⟩)
                  | fail)
                go_roundw
                case rel => exact ⟨i + 1, n', L5, d2, h1, by go_num, by first | rfl | exact congrArg (Value.int .i64) HN4.out.symm, HAj.out, HF2.out, by have := Hsm.out.1; have := Hsum.out; omega, Hsm.out.2 Hleft.out, by have := Hln.out; have := Hlen.out; omega, Hn'.out.1, by have := Hn'.out.2; push_cast; omega, nextB HB6.out (Nat.le_refl _) HBj.out⟩
                case measure => simp [intOf]; omega
          · replace hwn := hwn g4
            have HN4 := Lib.hid g4
            clear g4
            go_wp2_with (first
              | (go_at_call 23; refine (HP2.out _).mono ?_; rintro e w' ⟨rfl, rfl⟩)
              | (go_at_call 19; refine HCall.out.mono ?_; rintro e w5 ⟨rfl, L5, hat, hst⟩; have HA5 := Lib.hid hat; have HB5 := Lib.hid (HB.out.trans ((hst.below HA.out).mono HwB.out)); clear hat hst)
              | (go_at_call 15; refine (Names_at HA5.out HNl.out.1).mono ?_; rintro e w6 ⟨v6, rfl, ho, hb⟩; rw [Hns.out] at ho; obtain ⟨A6, c6, rfl, hc6, hcn⟩ := ho.cells; have HN := Lib.hid hcn; have HB6 := Lib.hid (nextB HB5.out (Nat.le_refl _) hb); have HA6 := Lib.hid (HA5.out.new hb); clear ho hb hcn)
              | fail)
            clear e0 e1 e2 e3 e4
            go_loopw [14, 12] (fun xv sv wr2 => ∃ j : Nat, j ≤ ns.length ∧ xv = .int .i64 (j : Int) ∧ sv = .int .i64 (sumS d2.files ns j : Int) ∧ Below w6.heap.size w6 wr2) (fun xv _ _ => ns.length - (intOf xv).toNat)
            case atStart => exact ⟨0, Nat.zero_le _, rfl, rfl, Below.refl _ _⟩
            case round =>
              obtain ⟨j, hj, rfl, rfl, hb⟩ := hrel
              have HBj := Lib.hid hb
              have HAj := Lib.hid (HA6.out.new hb)
              clear hb
              have hnsl := HNl.out.2.2
              by_cases h7 : j < ns.length
              · have h7' : (j : Int) < (ns.length : Int) := by omega
                obtain ⟨g6, rfl, _, hg6, hcell⟩ := HN.out (by intro e; subst e; simp at h7)
                obtain ⟨s, hs6⟩ : ∃ s, ns[j]? = some s := ⟨_, List.getElem?_eq_getElem h7⟩
                have hcs := (HBj.out.cell (p := ⟨g6, j, none⟩) hg6).trans (hcell j s hs6)
                have hsl : s.length ≤ maxLen := key_len HAj.out s (by rw [← mem_names, Hns.out]; exact List.mem_of_getElem? hs6)
                have HSz := Lib.hid (Size_at HAj.out s hsl (by have := HNl.out.2.1; omega))
                have hsu := sumS_succ d2.files ns hs6
                have hsw : wrap64 ((sumS d2.files ns j : Int) + (sizeN d2.files s : Int)) = (sumS d2.files ns (j + 1) : Int) := by
                  have h8 := sumS_le d2.files HA6.out.nodup (j + 1)
                  rw [Hns.out] at h8
                  have h9 := HNl.out.2.1
                  unfold wrap64
                  omega
                clear hcell hs6 hsu hsl
                go_wp2_with (first
                  | (go_at_call 20; refine HSz.out.mono ?_; rintro e w7 ⟨rfl, hb⟩; have HBk := Lib.hid (nextB HBj.out (Nat.le_refl _) hb); clear hb)
                  | fail)
                go_roundw
                case rel => exact ⟨j + 1, h7, by go_num, congrArg (Value.int .i64) hsw, HBk.out⟩
                case measure => simp [intOf]; omega
              · have h7' : ¬ (j : Int) < (ns.length : Int) := by omega
                have hjn : j = ns.length := by omega
                subst hjn
                have hall : sumS d2.files ns ns.length = total d2.files := by
                  have := sumS_all d2.files HA6.out.nodup
                  rw [Hns.out] at this
                  exact this
                have hLf := HL.out
                rw [hall]
                clear hall
                go_wp2_with (first
                  | (go_at_call 21; refine (Left_at HAj.out).mono ?_; rintro e w' ⟨rfl, rfl⟩)
                  | fail)
                go_roundw
                case rel => exact ⟨i + 1, n', L5, d2, h1, by go_num, by first | rfl | exact congrArg (Value.int .i64) HN4.out.symm, HAj.out, HF2.out, by have := Hsm.out.1; have := Hsum.out; omega, Hsm.out.2 Hleft.out, by have := Hln.out; have := Hlen.out; omega, Hn'.out.1, by have := Hn'.out.2; push_cast; omega, nextB HB6.out (Nat.le_refl _) HBj.out⟩
                case measure => simp [intOf]; omega
          · replace hwn := hwn g4
            have g5 : (oe != 2) = true := by simpa using g1
            have g6 : (oe == 11) = false := by simpa using g3
            have HN4 := Lib.hid g4
            clear g1 g3 g4
            go_wp2_with (first
              | (go_at_call 23; refine (HP2.out _).mono ?_; rintro e w' ⟨rfl, rfl⟩)
              | (go_at_call 19; refine HCall.out.mono ?_; rintro e w5 ⟨rfl, L5, hat, hst⟩; have HA5 := Lib.hid hat; have HB5 := Lib.hid (HB.out.trans ((hst.below HA.out).mono HwB.out)); clear hat hst)
              | (go_at_call 15; refine (Names_at HA5.out HNl.out.1).mono ?_; rintro e w6 ⟨v6, rfl, ho, hb⟩; rw [Hns.out] at ho; obtain ⟨A6, c6, rfl, hc6, hcn⟩ := ho.cells; have HN := Lib.hid hcn; have HB6 := Lib.hid (nextB HB5.out (Nat.le_refl _) hb); have HA6 := Lib.hid (HA5.out.new hb); clear ho hb hcn)
              | fail)
            clear e0 e1 e2 e3 e4
            go_loopw [14, 12] (fun xv sv wr2 => ∃ j : Nat, j ≤ ns.length ∧ xv = .int .i64 (j : Int) ∧ sv = .int .i64 (sumS d2.files ns j : Int) ∧ Below w6.heap.size w6 wr2) (fun xv _ _ => ns.length - (intOf xv).toNat)
            case atStart => exact ⟨0, Nat.zero_le _, rfl, rfl, Below.refl _ _⟩
            case round =>
              obtain ⟨j, hj, rfl, rfl, hb⟩ := hrel
              have HBj := Lib.hid hb
              have HAj := Lib.hid (HA6.out.new hb)
              clear hb
              have hnsl := HNl.out.2.2
              by_cases h7 : j < ns.length
              · have h7' : (j : Int) < (ns.length : Int) := by omega
                obtain ⟨g6, rfl, _, hg6, hcell⟩ := HN.out (by intro e; subst e; simp at h7)
                obtain ⟨s, hs6⟩ : ∃ s, ns[j]? = some s := ⟨_, List.getElem?_eq_getElem h7⟩
                have hcs := (HBj.out.cell (p := ⟨g6, j, none⟩) hg6).trans (hcell j s hs6)
                have hsl : s.length ≤ maxLen := key_len HAj.out s (by rw [← mem_names, Hns.out]; exact List.mem_of_getElem? hs6)
                have HSz := Lib.hid (Size_at HAj.out s hsl (by have := HNl.out.2.1; omega))
                have hsu := sumS_succ d2.files ns hs6
                have hsw : wrap64 ((sumS d2.files ns j : Int) + (sizeN d2.files s : Int)) = (sumS d2.files ns (j + 1) : Int) := by
                  have h8 := sumS_le d2.files HA6.out.nodup (j + 1)
                  rw [Hns.out] at h8
                  have h9 := HNl.out.2.1
                  unfold wrap64
                  omega
                clear hcell hs6 hsu hsl
                go_wp2_with (first
                  | (go_at_call 20; refine HSz.out.mono ?_; rintro e w7 ⟨rfl, hb⟩; have HBk := Lib.hid (nextB HBj.out (Nat.le_refl _) hb); clear hb)
                  | fail)
                go_roundw
                case rel => exact ⟨j + 1, h7, by go_num, congrArg (Value.int .i64) hsw, HBk.out⟩
                case measure => simp [intOf]; omega
              · have h7' : ¬ (j : Int) < (ns.length : Int) := by omega
                have hjn : j = ns.length := by omega
                subst hjn
                have hall : sumS d2.files ns ns.length = total d2.files := by
                  have := sumS_all d2.files HA6.out.nodup
                  rw [Hns.out] at this
                  exact this
                have hLf := HL.out
                rw [hall]
                clear hall
                go_wp2_with (first
                  | (go_at_call 21; refine (Left_at HAj.out).mono ?_; rintro e w' ⟨rfl, rfl⟩)
                  | fail)
                go_roundw
                case rel => exact ⟨i + 1, n', L5, d2, h1, by go_num, by first | rfl | exact congrArg (Value.int .i64) HN4.out.symm, HAj.out, HF2.out, by have := Hsm.out.1; have := Hsum.out; omega, Hsm.out.2 Hleft.out, by have := Hln.out; have := Hlen.out; omega, Hn'.out.1, by have := Hn'.out.2; push_cast; omega, nextB HB6.out (Nat.le_refl _) HBj.out⟩
                case measure => simp [intOf]; omega
        · have h3' : 3 < k := by omega
          go_wp2_with (first
            | (go_at_call 23; refine (HP2.out _).mono ?_; rintro e w' ⟨rfl, rfl⟩)
            | fail)
          go_roundw
          case rel => exact ⟨i + 1, n, Li, d, h1, by go_num, rfl, HA.out, HF.out, Hsum.out, Hleft.out, Nat.le_succ_of_le Hlen.out, hn60, by omega, HB.out⟩
          case measure => simp [intOf]; omega
      · have h1' : ¬ (i : Int) < (l.length : Int) := by omega
        go_wp2
        go_ret
        exact ⟨rfl, HB.out⟩

set_option maxRecDepth 100000 in
theorem lift (os : Os) (started : os.Started) (H : Type) (enc : TypeId × Value → H) :
    ReturnsInHanded {} Try.checked os 6 .any (Rows.diskRoomSpec.pre6 enc Try.prog Try.f6 Rows.diskRoomRow.domain false) (Rows.diskRoomSpec.post enc Try.prog Try.f6 false true false false) := by
  refine Law.liftedS (C := Try.checked) 4 own started (by kernel_rfl) Try.func6 laid (by kernel_rfl) rfl Try.underlying4 rfl
    (fun ds hd => by
      have hd' : ds.length = 2 := hd
      match ds, hd' with
      | [d0, d1], _ => rfl)
    (ChangeSpec.witness6 (enc := enc) (C := Try.checked) false ⟨#[], #[.slice none 0 0, .int .i64 0], []⟩ 8 (by kernel_rfl) (by kernel_rfl) (by kernel_rfl) (by kernel_rfl)) ?_
  intro W args ds ps hst hsz
  have hA : DataW.TrodAll enc Try.prog W 0 (fun _ => true) true Try.f6.params.toList args.toList ds ps := hst.trod
  have hok := hst.okw
  have hlt := hst.lt
  rw [Try.params6] at hA hok
  obtain ⟨v0, v1, d0, d1, p0, p1, rfl, rfl, rfl, h0, h1⟩ := trodAll_two hA
  obtain ⟨_, hv0⟩ := hok 0 41 v0 rfl rfl
  obtain ⟨_, hv1⟩ := hok 1 3 v1 rfl rfl
  obtain ⟨l, hAc, hll, hn, hR⟩ := acts_trod hv0 h0 (fun x hx => hlt x (List.mem_append_left _ hx))
  obtain ⟨f, rfl, hf0, hf1⟩ := Law.int_at Try.underlying3 hv1 h1
  have hb := hR reachBytes (hsz 0 41 d0 (by rw [Try.params6]; rfl) rfl)
  unfold reachBytes at hb
  exact walk hAc hll ⟨hf0, hf1⟩ fun a ha => ⟨hn a ha, by have := (hb a ha).1; omega⟩

theorem over : Rows.diskRoomRow.holds Try.pinned (OpenSpec.ofChange Rows.diskRoomSpec) :=
  OpenClaim.holds_of_wide 6 Try.f6 rfl rfl rfl rfl rfl rfl rfl ⟨rfl, rfl, rfl, rfl, rfl⟩ rfl rfl rfl rfl rfl (by kernel_rfl) Try.func6 (by kernel_rfl)
    (of_decide_eq_true (by kernel_rfl)) (by unfold Func.isWrapper; first | (rw [if_pos (by decide +kernel)]; kernel_rfl) | (rw [if_neg (by decide +kernel)]; exact ⟨rfl, rfl⟩))
    (fun os started H enc _ => lift os started H enc)
theorem proved : Rows.DiskRoomSaid := over
#print axioms proved
end Go.Proofs.Ytgmmjnedgaeefaa.diskRoom
