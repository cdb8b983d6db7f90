/- Bytes xor the key stream. -/
import Derived.Test.YtpllbnioncjhaaaChaBlock
import Derived.Test.YtpllbnioncjhaaaChaStream
import Derived.ArgAppend
namespace Go.Proofs.Ytpllbnioncjhaaa
open Go.RowKit

/-- A slice without room behind its bytes. -/
def Full (v : Value) : Prop := ∃ A n, v = .slice A n n

set_option maxRecDepth 8000 in
set_option maxHeartbeats 2000000 in
theorem Xor_long (key nonce : List UInt8) (A : Option Addr) (cap : Nat) (c : BitVec 32) (n : Nat) (w : World) (hn : n ≤ 1000000000) (hlong : Cha.long c n) :
    Calls Try.prog 39 #[arr8 key, wv c, arr8 nonce, .slice A n cap] w fun e w' => e = .returned (.tuple #[.slice none 0 0, .int .i64 3]) ∧ Below w.heap.size w w' := by
  unfold Cha.long at hlong
  have hc := c.isLt
  have h1 : (4294967296 : Int) - (c.toNat : Int) < ((n : Int) + 64 - 1) / 64 := by omega
  unfold arr8
  go_enter Try.func39, Try.ntmps39
  go_wp2
  go_ret2
  exact ⟨rfl, ((Below.refl _ w).alloc (Nat.le_refl _) _).alloc (by simp) _⟩

set_option maxRecDepth 8000 in
set_option maxHeartbeats 2000000 in
theorem Xor_okf (key nonce l : List UInt8) (v : Value) (c : BitVec 32) (hk : key.length = 32) (hn : nonce.length = 12) (w : World) (hb : Bs w w.heap.size v l) (hl : l.length ≤ 1000000000) (hlong : ¬ Cha.long c l.length) :
    Calls Try.prog 39 #[arr8 key, wv c, arr8 nonce, v] w fun e w' => ∃ v, e = .returned (.tuple #[v, .int .i64 0]) ∧ Own w' w.heap.size v (Cha.xor key c nonce l) ∧ Below w.heap.size w w' ∧ Full v := by
  have hlong0 := hlong
  unfold Cha.long at hlong
  have hc := c.isLt
  have h1 : ¬ (4294967296 : Int) - (c.toNat : Int) < ((l.length : Int) + 64 - 1) / 64 := by omega
  have Hb := Lib.hid hb
  obtain ⟨A, cap, rfl, hcap, hcs⟩ := hb
  have Hcs := Lib.hid hcs
  have Hkl := Lib.hid (show (key.map bv).length = 32 by simpa using hk)
  have Hnl := Lib.hid (show (nonce.map bv).length = 12 by simpa using hn)
  have Hk := Lib.hid hk
  have Hn := Lib.hid hn
  clear hk hn hcs hlong
  unfold arr8
  go_enter Try.func39, Try.ntmps39
  go_wp2_with (at_make; refine wpList_make_bytes _ rfl _ _ rfl l.length rfl rfl (by omega) ?_; intro w1 hrow1 hg1)
  have hb1 : Below w.heap.size w ((w.alloc (.cells (key.map bv).toArray 24)).alloc (.cells (nonce.map bv).toArray 25)) := ((Below.refl _ w).alloc (Nat.le_refl _) _).alloc (by simp) _
  have hk1 : Row ((w.alloc (.cells (key.map bv).toArray 24)).alloc (.cells (nonce.map bv).toArray 25)) w.heap.size (key.map bv) 24 := (Row.new rfl rfl).alloc _
  have hn1 : Row ((w.alloc (.cells (key.map bv).toArray 24)).alloc (.cells (nonce.map bv).toArray 25)) (w.heap.size + 1) (nonce.map bv) 25 := Row.new (by simp) rfl
  have hsz : ((w.alloc (.cells (key.map bv).toArray 24)).alloc (.cells (nonce.map bv).toArray 25)).heap.size = w.heap.size + 2 := by simp
  obtain ⟨W, hW⟩ : ∃ W, (w.alloc (.cells (key.map bv).toArray 24)).alloc (.cells (nonce.map bv).toArray 25) = W := ⟨_, rfl⟩
  rw [hW] at hb1 hk1 hn1 hsz hrow1 hg1
  have hbg : Below W.heap.size W w1 := (Below.refl _ W).grown hg1 (Nat.le_refl _) (fun k hk => by cases hk)
  have hk2 := hk1.below hbg (by omega)
  have hn2 := hn1.below hbg (by omega)
  have hb2 := nextB hb1 (by omega) hbg
  have hlt1 := hrow1.lt
  have hrow2 := hrow1.same (cs' := (Cha.fillN (Cha.xor key c nonce l) 0).map bv) (by rw [Cha.fillN_zero, Cha.xor_length])
  obtain ⟨X, hX⟩ : ∃ X, Cha.xor key c nonce l = X := ⟨_, rfl⟩
  have hXl : X.length = l.length := by rw [← hX, Cha.xor_length]
  rw [hX] at hrow2
  have HX := Lib.hid hX
  have Hrow2 := Lib.hid hrow2
  have Hk2 := Lib.hid hk2
  have Hn2 := Lib.hid hn2
  have hgb : w.heap.size + 2 = W.heap.size := hsz.symm
  clear hW hX hk1 hn1 hsz hrow1 hrow2 hg1 hbg hk2 hn2 hb1
  obtain ⟨gb, hgb2⟩ : ∃ gb, W.heap.size = gb := ⟨_, rfl⟩
  rw [hgb2] at hgb hlt1 Hrow2
  rw [show w.heap.size + 1 + 1 = gb from hgb]
  clear hgb2
  go_loopw [1, 12] (fun cv iv wr => ∃ k : Nat, 64 * k < l.length + 64 ∧ cv = wv (c + BitVec.ofNat 32 k) ∧ iv = .int .i64 ((64 * k : Nat) : Int) ∧ Row wr w.heap.size (key.map bv) 24 ∧ Row wr (w.heap.size + 1) (nonce.map bv) 25 ∧ Row wr gb ((Cha.fillN X (64 * k)).map bv) 5 ∧ gb < wr.heap.size ∧ Below w.heap.size w wr) (fun _ iv _ => l.length + 64 - (intOf iv).toNat)
  case atStart => exact ⟨0, by omega, by simp, rfl, Hk2.out, Hn2.out, Hrow2.out, hlt1, hb2⟩
  case round =>
    obtain ⟨k, hk, rfl, rfl, hrk, hrn, hro, hlt, hbel⟩ := hrel
    have Hrk := Lib.hid hrk
    have Hrn := Lib.hid hrn
    have Hro := Lib.hid hro
    clear hrk hrn hro
    by_cases hin : 64 * k < l.length
    · have hin' : ((64 * k : Nat) : Int) < (l.length : Int) := by omega
      go_wp2_with (first
        | (refine wpList_loadRow rfl 24 _ rfl rfl Hrk.out Try.underlying24 rfl (by kernel_rfl) Hkl.out ?_)
        | (refine wpList_loadRow rfl 25 _ rfl rfl Hrn.out Try.underlying25 rfl (by kernel_rfl) Hnl.out ?_)
        | fail)
      refine (Block_any key nonce (c + BitVec.ofNat 32 k) Hk.out Hn.out _).mono ?_
      rintro e w3 ⟨rfl, hb3⟩
      obtain ⟨B, hB⟩ : ∃ B, Cha.block key (c + BitVec.ofNat 32 k) nonce = B := ⟨_, rfl⟩
      have hst : ∀ i, i < 64 → Cha.stream key c nonce (64 * k + i) = B.getD i 0 := fun i hi => by rw [Cha.stream_at _ _ _ _ _ hi, hB]
      have hBl : B.length = 64 := by rw [← hB]; exact Cha.block_length _ _ _
      have HBl := Lib.hid hBl
      have Hst := Lib.hid hst
      have Hlb := Lib.hid (show (B.map bv).length = 64 by rw [List.length_map]; exact hBl)
      rw [hB]
      have Hrk := Lib.hid (Hrk.out.below hb3 (by omega))
      have Hrn := Lib.hid (Hrn.out.below hb3 (by omega))
      have Hro := Lib.hid (Hro.out.below hb3 (by omega))
      have hb03 := nextB hbel (Nat.le_refl _) hb3
      have hlt3 : gb < w3.heap.size := by have := hb3.size; omega
      clear hB hst hb3 hBl hbel
      unfold arr8
      obtain ⟨cc, hcc⟩ : ∃ cc, c + BitVec.ofNat 32 k = cc := ⟨_, rfl⟩
      rw [hcc]
      have Hcc := Lib.hid hcc
      clear hcc
      obtain ⟨gx, hgx⟩ : ∃ gx, w3.heap.size = gx := ⟨_, rfl⟩
      obtain ⟨b, off, rfl, hltb, hcellb⟩ := Hcs.out (by intro h; subst h; simp at hin)
      have Hcellb := Lib.hid hcellb
      clear hcellb
      by_cases hmin : l.length < 64 * k + 64
      · have hmin' : (l.length : Int) < 64 * (k : Int) + 64 := by omega
        have hlo : (0 : Int) ≤ 64 * (k : Int) := by omega
        have hle : 64 * (k : Int) ≤ (l.length : Int) := by omega
        have hcap2 : (l.length : Int) ≤ (cap : Int) := by omega
        clear hin'
        go_wp2_with (first
          | (refine wpList_storeRow rfl 49 _ _ rfl rfl rfl (old := (List.replicate 64 (0 : UInt8)).map bv) (Row.new hgx rfl) (by kernel_rfl) Hlb.out (by simp) (bytes_one B) ?_)
          | fail)
        obtain ⟨m, hm⟩ : ∃ m, l.length - 64 * k = m := ⟨_, rfl⟩
        rw [hm]
        have hx0 : Row (w3.alloc (.cells ((List.replicate 64 (0 : UInt8)).map bv).toArray 49)) gx ((List.replicate 64 (0 : UInt8)).map bv) 49 := Row.new hgx rfl
        have hx1 := hx0.setRow (B.map bv)
        go_loopw [49] (fun jv wr => ∃ j : Nat, j ≤ m ∧ jv = .int .i64 (j : Int) ∧ Row wr w.heap.size (key.map bv) 24 ∧ Row wr (w.heap.size + 1) (nonce.map bv) 25 ∧ Row wr gb ((Cha.fillN X (64 * k + j)).map bv) 5 ∧ Row wr gx (B.map bv) 49 ∧ gb < wr.heap.size ∧ Below w.heap.size w wr) (fun jv _ => m - (intOf jv).toNat)
        case atStart =>
          exact ⟨0, Nat.zero_le _, rfl, (Hrk.out.alloc _).setOther _ _ (by omega), (Hrn.out.alloc _).setOther _ _ (by omega), (Hro.out.alloc _).setOther _ _ (by omega), hx1, by rw [size_setRow]; simp; omega, below_setRow (hb03.alloc (by omega) _) (by omega) _⟩
        case round =>
          obtain ⟨j, hj, rfl, hrk, hrn, hro, hrx, hlt, hbel⟩ := hrel
          have Hrk := Lib.hid hrk
          have Hrn := Lib.hid hrn
          have Hro := Lib.hid hro
          have Hrx := Lib.hid hrx
          clear hrk hrn hro hrx hx0 hx1
          by_cases hjm : j < m
          · have hjm' : (j : Int) < ((m : Nat) : Int) := by omega
            obtain ⟨u, hu⟩ : ∃ u, l[64 * k + j]? = some u := ⟨_, List.getElem?_eq_getElem (show 64 * k + j < l.length by omega)⟩
            have hX : X[64 * k + j]? = some (u ^^^ B.getD j 0) := by rw [← HX.out, Cha.xor_at _ _ _ _ _ _ hu, Hst.out j (by omega)]
            have hcb : wr.cell? ⟨b, off + 64 * k + j, none⟩ = some (bv u) := by
              rw [Nat.add_assoc]
              exact (hbel.cell (p := ⟨b, off + (64 * k + j), none⟩) hltb).trans (Hcellb.out _ _ hu)
            have hcx : wr.cell? ⟨gx, j, none⟩ = some (bv (B.getD j 0)) := Hrx.out.cell (getD_cell B j (by rw [HBl.out]; omega))
            obtain ⟨y, hy⟩ : ∃ y, B.getD j 0 = y := ⟨_, rfl⟩
            rw [hy] at hX hcx
            obtain ⟨v, hco⟩ : ∃ v, wr.cell? ⟨gb, 64 * k + j, none⟩ = some v := ⟨_, Hro.out.cell (getD_cell _ _ (by rw [Cha.fillN_length, hXl]; omega))⟩
            have hfr := frozen_row Hro.out (64 * k + j)
            have Hset := Lib.hid (Hro.out.set (64 * k + j) (bv (u ^^^ y)))
            have HXj := Lib.hid hX
            unfold bv at hcb hcx
            have hi1 : 64 * (k : Int) + (j : Int) < (l.length : Int) := by omega
            have hi2 : (0 : Int) ≤ 64 * (k : Int) + (j : Int) := by omega
            have hi3 : (j : Int) < 64 := by omega
            clear hX hy hu
            go_wp2
            rw [w8_xor]
            go_roundw
            case rel =>
              refine ⟨j + 1, hjm, by simp, Hrk.out.other _ _ (by dsimp only; omega), Hrn.out.other _ _ (by dsimp only; omega), ?_, Hrx.out.other _ _ (by dsimp only; omega), by simpa using hlt, hbel.setCell (by dsimp only; omega) _⟩
              have := Hset.out
              rw [← List.map_set, Cha.fillN_set _ _ _ HXj.out] at this
              exact this
            case measure => simp [intOf]; omega
          · have hjm' : ¬ (j : Int) < ((m : Nat) : Int) := by omega
            have : j = m := by omega
            subst this
            go_wp2
            go_roundw
            case rel =>
              rw [w_add1]
              refine ⟨k + 1, by omega, ?_, by simp; omega, Hrk.out, Hrn.out, ?_, hlt, hbel⟩
              · rw [← Hcc.out, BitVec.add_assoc, BitVec.ofNat_add]
              · exact Hro.out.same (by rw [Cha.fillN_all _ _ (by rw [hXl]; omega), Cha.fillN_all _ _ (by rw [hXl]; omega)])
            case measure => simp [intOf]; omega
      · have hmin' : ¬ (l.length : Int) < 64 * (k : Int) + 64 := by omega
        have hlo : (0 : Int) ≤ 64 * (k : Int) := by omega
        have hle : 64 * (k : Int) + 64 ≤ (l.length : Int) := by omega
        have hcap2 : 64 * (k : Int) + 64 ≤ (cap : Int) := by omega
        clear hin'
        go_wp2_with (first
          | (refine wpList_storeRow rfl 49 _ _ rfl rfl rfl (old := (List.replicate 64 (0 : UInt8)).map bv) (Row.new hgx rfl) (by kernel_rfl) Hlb.out (by simp) (bytes_one B) ?_)
          | fail)
        have hx0 : Row (w3.alloc (.cells ((List.replicate 64 (0 : UInt8)).map bv).toArray 49)) gx ((List.replicate 64 (0 : UInt8)).map bv) 49 := Row.new hgx rfl
        have hx1 := hx0.setRow (B.map bv)
        go_loopw [49] (fun jv wr => ∃ j : Nat, j ≤ 64 ∧ jv = .int .i64 (j : Int) ∧ Row wr w.heap.size (key.map bv) 24 ∧ Row wr (w.heap.size + 1) (nonce.map bv) 25 ∧ Row wr gb ((Cha.fillN X (64 * k + j)).map bv) 5 ∧ Row wr gx (B.map bv) 49 ∧ gb < wr.heap.size ∧ Below w.heap.size w wr) (fun jv _ => 64 - (intOf jv).toNat)
        case atStart =>
          exact ⟨0, Nat.zero_le _, rfl, (Hrk.out.alloc _).setOther _ _ (by omega), (Hrn.out.alloc _).setOther _ _ (by omega), (Hro.out.alloc _).setOther _ _ (by omega), hx1, by rw [size_setRow]; simp; omega, below_setRow (hb03.alloc (by omega) _) (by omega) _⟩
        case round =>
          obtain ⟨j, hj, rfl, hrk, hrn, hro, hrx, hlt, hbel⟩ := hrel
          have Hrk := Lib.hid hrk
          have Hrn := Lib.hid hrn
          have Hro := Lib.hid hro
          have Hrx := Lib.hid hrx
          clear hrk hrn hro hrx hx0 hx1
          by_cases hjm : j < 64
          · have hjm' : (j : Int) < ((64 : Nat) : Int) := by omega
            obtain ⟨u, hu⟩ : ∃ u, l[64 * k + j]? = some u := ⟨_, List.getElem?_eq_getElem (show 64 * k + j < l.length by omega)⟩
            have hX : X[64 * k + j]? = some (u ^^^ B.getD j 0) := by rw [← HX.out, Cha.xor_at _ _ _ _ _ _ hu, Hst.out j (by omega)]
            have hcb : wr.cell? ⟨b, off + 64 * k + j, none⟩ = some (bv u) := by
              rw [Nat.add_assoc]
              exact (hbel.cell (p := ⟨b, off + (64 * k + j), none⟩) hltb).trans (Hcellb.out _ _ hu)
            have hcx : wr.cell? ⟨gx, j, none⟩ = some (bv (B.getD j 0)) := Hrx.out.cell (getD_cell B j (by rw [HBl.out]; omega))
            obtain ⟨y, hy⟩ : ∃ y, B.getD j 0 = y := ⟨_, rfl⟩
            rw [hy] at hX hcx
            obtain ⟨v, hco⟩ : ∃ v, wr.cell? ⟨gb, 64 * k + j, none⟩ = some v := ⟨_, Hro.out.cell (getD_cell _ _ (by rw [Cha.fillN_length, hXl]; omega))⟩
            have hfr := frozen_row Hro.out (64 * k + j)
            have Hset := Lib.hid (Hro.out.set (64 * k + j) (bv (u ^^^ y)))
            have HXj := Lib.hid hX
            unfold bv at hcb hcx
            have hi1 : 64 * (k : Int) + (j : Int) < (l.length : Int) := by omega
            have hi2 : (0 : Int) ≤ 64 * (k : Int) + (j : Int) := by omega
            have hi3 : (j : Int) < 64 := by omega
            clear hX hy hu
            go_wp2
            rw [w8_xor]
            go_roundw
            case rel =>
              refine ⟨j + 1, hjm, by simp, Hrk.out.other _ _ (by dsimp only; omega), Hrn.out.other _ _ (by dsimp only; omega), ?_, Hrx.out.other _ _ (by dsimp only; omega), by simpa using hlt, hbel.setCell (by dsimp only; omega) _⟩
              have := Hset.out
              rw [← List.map_set, Cha.fillN_set _ _ _ HXj.out] at this
              exact this
            case measure => simp [intOf]; omega
          · have hjm' : ¬ (j : Int) < ((64 : Nat) : Int) := by omega
            have : j = 64 := by omega
            subst this
            go_wp2
            go_roundw
            case rel =>
              rw [w_add1]
              refine ⟨k + 1, by omega, ?_, by simp; omega, Hrk.out, Hrn.out, ?_, hlt, hbel⟩
              · rw [← Hcc.out, BitVec.add_assoc, BitVec.ofNat_add]
              · exact Hro.out.same (by rw [show 64 * (k + 1) = 64 * k + 64 by omega])
            case measure => simp [intOf]; omega
    · have hin' : ¬ ((64 * k : Nat) : Int) < (l.length : Int) := by omega
      go_wp2
      go_ret2
      refine ⟨_, rfl, ?_, hbel, ⟨_, _, rfl⟩⟩
      have := Hro.out.same (cs' := X.map bv) (by rw [Cha.fillN_all _ _ (by rw [hXl]; omega)])
      have h2 := this.own (base := w.heap.size) (by omega) (by omega)
      rw [hXl] at h2
      rw [HX.out]
      exact h2

theorem Xor_ok (key nonce l : List UInt8) (v : Value) (c : BitVec 32) (hk : key.length = 32) (hn : nonce.length = 12) (w : World) (hb : Bs w w.heap.size v l) (hl : l.length ≤ 1000000000) (hlong : ¬ Cha.long c l.length) :
    Calls Try.prog 39 #[arr8 key, wv c, arr8 nonce, v] w fun e w' => ∃ v, e = .returned (.tuple #[v, .int .i64 0]) ∧ Own w' w.heap.size v (Cha.xor key c nonce l) ∧ Below w.heap.size w w' :=
  (Xor_okf key nonce l v c hk hn w hb hl hlong).mono fun _ _ ⟨v, h1, h2, h3, _⟩ => ⟨v, h1, h2, h3⟩
theorem Xor_full (key nonce l : List UInt8) (v : Value) (c : BitVec 32) (hk : key.length = 32) (hn : nonce.length = 12) (w : World) (hb : Bs w w.heap.size v l) (hl : l.length ≤ 1000000000) :
    Calls Try.prog 39 #[arr8 key, wv c, arr8 nonce, v] w fun e w' => ∃ v, e = .returned (.tuple #[v, .int .i64 (Cha.err c l.length : Nat)]) ∧ (Own w' w.heap.size v (Cha.out key c nonce l) ∧ Full v) ∧ Below w.heap.size w w' := by
  rcases Cha.err_cases c l.length with ⟨he, hlong⟩ | ⟨he, hlong⟩
  · rw [he, Cha.out_long _ _ _ _ hlong]
    obtain ⟨A, cap, rfl, _, _⟩ := hb
    refine (Xor_long key nonce A cap c l.length w hl hlong).mono ?_
    rintro e w' ⟨rfl, h⟩
    exact ⟨_, rfl, ⟨Own.nil _ _, ⟨_, _, rfl⟩⟩, h⟩
  · rw [he, Cha.out_ok _ _ _ _ he]
    exact (Xor_okf key nonce l v c hk hn w hb hl hlong).mono fun e w' ⟨v, h1, h2, h3, h4⟩ => ⟨v, h1, ⟨h2, h4⟩, h3⟩

/-- append to a slice without room: what was there stays as it was. -/
theorem run_app_full (w : World) {B C : Nat} {v y : Value} {l m : List UInt8} (ty : TypeId) (hv : Bs w B v l) (hf : Full v) (hy : Bs w C y m) (hlen : l.length + m.length ≤ 1000000000) (hB : B ≤ w.heap.size) :
    ∃ v' w', (Builtin.append_ #[34, 34] ty #[v, y]).run Try.prog w = .ok v' w' ∧ Bs w' w'.heap.size v' (l ++ m) ∧ Below w.heap.size w w' := by
  obtain ⟨i, hi, hz, hs, hb⟩ := info_u8
  have Hv := Lib.hid hv
  obtain ⟨A, n, rfl⟩ := hf
  obtain ⟨A', c', he, _, hcs⟩ := hv
  simp only [Value.slice.injEq] at he
  obtain ⟨rfl, rfl, rfl⟩ := he
  obtain ⟨A2, c2, rfl, hc2, hcell⟩ := hy
  by_cases hm : m = []
  · subst hm
    refine ⟨.slice A l.length l.length, w, ?_, by rw [List.append_nil]; exact Hv.out.more hB, Below.refl _ _⟩
    have hrun := Ev.run_append_fit (P := Try.prog) (ty := ty) (base := A) (m := l.length) (n := 0) (c := l.length) (x := .slice A2 0 c2) (w := w) (new := #[]) Try.underlying34 Try.underlying34 (.inr ⟨_, rfl⟩) hi rfl (by cases A2 <;> simp [Builtin.firstCells, loadCells, loadCellsFrom]) (by omega)
    rw [List.length_nil]
    rw [hrun]
    cases A <;> simp [storeCells]
  · obtain ⟨b2, off2, rfl, _, h2⟩ := hcell hm
    have hm0 : 0 < m.length := Nat.pos_of_ne_zero (fun h => hm (List.eq_nil_of_length_eq_zero h))
    have hnews : ∀ j u, (m.map bv)[j]? = some u → w.cell? ((⟨b2, off2, none⟩ : Addr).add j) = some u := by
      intro j u hj
      rw [List.getElem?_map, Option.map_eq_some_iff] at hj
      obtain ⟨x, hx, rfl⟩ := hj
      rw [show (⟨b2, off2, none⟩ : Addr).add j = ⟨b2, off2 + j, none⟩ by unfold Addr.add; split <;> simp_all]
      exact h2 j x hx
    cases A with
    | none =>
      have hl0 : l = [] := by
        rcases Decidable.em (l = []) with h | h
        · exact h
        · obtain ⟨_, _, h1, _⟩ := hcs h
          cases h1
      subst hl0
      obtain ⟨v', w', h3, h4, h5, _⟩ := run_app_bytes w (base := w.heap.size) (v := .slice none 0 0) (y := .slice (some ⟨b2, off2, none⟩) m.length c2) (l := []) (m := m) (B := C) ty (Own.nil _ _) ⟨_, _, rfl, hc2, hcell⟩ (by simp; simp at hlen; omega) (Nat.le_refl _)
      exact ⟨v', w', h3, h4.bs, (Below.refl _ w).grown h5 (Nat.le_refl _) (fun k hk => by cases hk)⟩
    | some a =>
      obtain ⟨b, off, spot⟩ := a
      by_cases hl0 : l = []
      · subst hl0
        obtain ⟨v', w', h3, h4, h5⟩ := run_append_arg_grows (P := Try.prog) w 34 ty 5 i (.int .u8 0) 1 1 Try.underlying34 hi hz hs hb rfl (by decide) ⟨b, off, spot⟩ 0 0 [] rfl (by simp) ⟨b2, off2, none⟩ m.length c2 (m.map bv) (by simp) hnews (by omega) (by simp at hlen; unfold maxLen; omega) (by simp at hlen; omega)
        refine ⟨v', w', h3, Own.bs (base := w.heap.size) ?_, (Below.refl _ w).grown h5 (Nat.le_refl _) (fun k hk => by cases hk)⟩
        unfold Own
        rw [List.nil_append]
        rw [Nat.zero_add, List.nil_append] at h4
        exact h4
      · obtain ⟨b', off', h1, _, h6⟩ := hcs hl0
        injection h1 with h1
        injection h1 with e1 e2 e3
        subst e1; subst e2; subst e3
        obtain ⟨v', w', h3, h4, h5⟩ := run_append_arg_grows (P := Try.prog) w 34 ty 5 i (.int .u8 0) 1 1 Try.underlying34 hi hz hs hb rfl (by decide) ⟨b, off, none⟩ l.length l.length (l.map bv) (by simp) (by
            intro j u hj
            rw [List.getElem?_map, Option.map_eq_some_iff] at hj
            obtain ⟨x, hx, rfl⟩ := hj
            rw [show (⟨b, off, none⟩ : Addr).add j = ⟨b, off + j, none⟩ by unfold Addr.add; split <;> simp_all]
            exact h6 j x hx) ⟨b2, off2, none⟩ m.length c2 (m.map bv) (by simp) hnews (by omega) (by unfold maxLen; omega) (by omega)
        refine ⟨v', w', h3, Own.bs (base := w.heap.size) ?_, (Below.refl _ w).grown h5 (Nat.le_refl _) (fun k hk => by cases hk)⟩
        unfold Own
        rw [List.length_append, List.map_append]
        exact h4

theorem Xor_any (key nonce l : List UInt8) (v : Value) (c : BitVec 32) (hk : key.length = 32) (hn : nonce.length = 12) (w : World) (hb : Bs w w.heap.size v l) (hl : l.length ≤ 1000000000) :
    Calls Try.prog 39 #[arr8 key, wv c, arr8 nonce, v] w fun e w' => ∃ v, e = .returned (.tuple #[v, .int .i64 (Cha.err c l.length : Nat)]) ∧ Own w' w.heap.size v (Cha.out key c nonce l) ∧ Below w.heap.size w w' := by
  rcases Cha.err_cases c l.length with ⟨he, hlong⟩ | ⟨he, hlong⟩
  · rw [he, Cha.out_long _ _ _ _ hlong]
    obtain ⟨A, cap, rfl, _, _⟩ := hb
    refine (Xor_long key nonce A cap c l.length w hl hlong).mono ?_
    rintro e w' ⟨rfl, h⟩
    exact ⟨_, rfl, Own.nil _ _, h⟩
  · rw [he, Cha.out_ok _ _ _ _ he]
    exact (Xor_ok key nonce l v c hk hn w hb hl hlong).mono fun e w' ⟨v, h1, h2, h3⟩ => ⟨v, h1, h2, h3⟩
theorem wp_app_full {o : Oper} {a : Act} {w : World} {K : Act → World → Prop} {Q : Exit → Act → World → Prop} (s x : Operand) (ho : o.op = .call { callee := .builtin .append, args := #[s, x], argTypes := #[34, 34] }) {B C : Nat} {v y : Value} {l m : List UInt8}
    (hs : a.eval s = v) (hv : Bs w B v l) (hf : Full v) (hx : a.eval x = y) (hy : Bs w C y m) (hlen : l.length + m.length ≤ 1000000000) (hB : B ≤ w.heap.size)
    (h : ∀ v' w', Bs w' w'.heap.size v' (l ++ m) → Below w.heap.size w w' → K (a.put o.dst v') w') : o.wp Try.prog a w K Q := by
  obtain ⟨v', w', hr, h2, h3⟩ := run_app_full w o.type hv hf hy hlen hB
  unfold Oper.wp execOp
  simp only [ho, resolve, invoke, builtin, Sem.run_bind, Sem.run_pure, Result.andThen_ok, List.map_toArray, List.map_cons, List.map_nil, hs, hx, hr]
  exact h _ _ h2 h3
end Go.Proofs.Ytpllbnioncjhaaa
