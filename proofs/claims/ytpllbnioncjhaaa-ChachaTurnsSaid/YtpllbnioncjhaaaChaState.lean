/- A state out of a key, a counter and a nonce. -/
import Derived.Test.YtpllbnioncjhaaaChaRound
import Derived.Test.YtpllbnioncjhaaaRow
namespace Go.Proofs.Ytpllbnioncjhaaa
open Go.RowKit

theorem getD_cell (l : List UInt8) (k : Nat) (h : k < l.length) : (l.map bv)[k]? = some (bv (l.getD k 0)) := by
  rw [List.getElem?_map, List.getElem?_eq_getElem h, List.getD_eq_getElem?_getD, List.getElem?_eq_getElem h]
  rfl
theorem Row.word {w : World} {g : Nat} {l : List UInt8} {t : TypeId} (h : Row w g (l.map bv) t) (i n c : Nat) (hi : i + 4 ≤ l.length) (hn : 4 ≤ n) :
    Calls Try.prog 30 #[.slice (some ⟨g, i, none⟩) n c] w fun e w' => e = .returned (wv (Cha.word l i)) ∧ ∃ m, w' = w.drewN m :=
  word_any g i n c _ _ _ _ w (h.cell (getD_cell l i (by omega))) (h.cell (getD_cell l (i + 1) (by omega))) (h.cell (getD_cell l (i + 2) (by omega))) (h.cell (getD_cell l (i + 3) (by omega))) hn
theorem getD_word (s : List (BitVec 32)) (k : Nat) (h : k < s.length) : (s.map wv)[k]? = some (wv (Cha.at_ s k)) := by
  rw [List.getElem?_map, List.getElem?_eq_getElem h, Cha.at_, List.getD_eq_getElem?_getD, List.getElem?_eq_getElem h]
  rfl

set_option maxRecDepth 8000 in
set_option maxHeartbeats 4000000 in
theorem State_any (key nonce : List UInt8) (c : BitVec 32) (hk : key.length = 32) (hn : nonce.length = 12) (w : World) : Calls Try.prog 10 #[arr8 key, wv c, arr8 nonce] w fun e w' => e = .returned (arr32 (Cha.state key c nonce)) ∧ Below w.heap.size w w' := by
  unfold arr8
  go_enter Try.func10, Try.ntmps10
  go_wp2
  go_loopw [12] (fun iv wr => ∃ i : Nat, i ≤ 8 ∧ iv = .int .i64 (i : Int) ∧ Row wr w.heap.size (key.map bv) 24 ∧ Row wr (w.heap.size + 1) (nonce.map bv) 25 ∧ Row wr (w.heap.size + 1 + 1) ((List.replicate 16 0#32).map wv) 23 ∧ Row wr (w.heap.size + 1 + 1 + 1) ((Cha.stKey key (Cha.state0 c) i).map wv) 23 ∧ wr.heap.size = w.heap.size + 4 ∧ Below w.heap.size w wr) (fun iv _ => 8 - (intOf iv).toNat)
  case atStart =>
    refine ⟨0, by omega, rfl, (((Row.new rfl rfl).alloc _).alloc _).alloc _, ((Row.new (by simp) rfl).alloc _).alloc _, (Row.new (by simp) (by rfl)).alloc _, Row.new (by simp) (by rfl), by simp, ?_⟩
    exact ((((Below.refl _ w).alloc (Nat.le_refl _) _).alloc (by simp) _).alloc (by simp; omega) _).alloc (by simp; omega) _
  case round =>
    obtain ⟨i, hi, rfl, hr1, hr2, hr3, hr4, hsz, hbel⟩ := hrel
    have Hr1 := Lib.hid hr1
    have Hr2 := Lib.hid hr2
    have Hr3 := Lib.hid hr3
    have Hr4 := Lib.hid hr4
    clear hr1 hr2 hr3 hr4
    by_cases h8 : i < 8
    · have h8' : (i : Int) < 8 := by omega
      have hlo : (0 : Int) ≤ 4 * (i : Int) := by omega
      have hle : 4 * (i : Int) ≤ 32 := by omega
      go_wp2_with fail
      refine (Hr1.out.word (4 * i) _ _ (by omega) (by omega)).mono ?_
      rintro e w' ⟨rfl, m, rfl⟩
      have hcell := (Hr4.out.drewN m).cell (getD_word _ (4 + i) (by rw [Cha.stKey_length]; simp [Cha.state0]; omega))
      have hfr := frozen_row (Hr4.out.drewN m) (4 + i)
      go_wp2
      go_roundw
      case rel =>
        refine ⟨i + 1, h8, by simp, (Hr1.out.drewN m).other _ _ (by dsimp only; omega), (Hr2.out.drewN m).other _ _ (by dsimp only; omega), (Hr3.out.drewN m).other _ _ (by dsimp only; omega), ?_, by simpa using hsz, ?_⟩
        · have := (Hr4.out.drewN m).set (4 + i) (wv (Cha.word key (4 * i)))
          rw [← List.map_set] at this
          exact this
        · exact (below_drewN hbel m).setCell (by dsimp only; omega) _
      case measure => simp [intOf]; omega
    · have h8' : ¬ (i : Int) < 8 := by omega
      have : i = 8 := by omega
      subst this
      go_wp2
      go_loopw [23] (fun iv wr => ∃ i : Nat, i ≤ 3 ∧ iv = .int .i64 (i : Int) ∧ Row wr (w.heap.size + 1) (nonce.map bv) 25 ∧ Row wr (w.heap.size + 1 + 1) ((List.replicate 16 0#32).map wv) 23 ∧ Row wr (w.heap.size + 1 + 1 + 1) ((Cha.stNonce nonce (Cha.stKey key (Cha.state0 c) 8) i).map wv) 23 ∧ wr.heap.size = w.heap.size + 4 ∧ Below w.heap.size w wr) (fun iv _ => 3 - (intOf iv).toNat)
      case atStart => exact ⟨0, by omega, rfl, Hr2.out, Hr3.out, Hr4.out, hsz, hbel⟩
      case round =>
        obtain ⟨i, hi, rfl, hr2, hr3, hr4, hsz, hbel⟩ := hrel
        have Hr2 := Lib.hid hr2
        have Hr3 := Lib.hid hr3
        have Hr4 := Lib.hid hr4
        clear hr2 hr3 hr4
        by_cases h3 : i < 3
        · have h3' : (i : Int) < 3 := by omega
          have hlo : (0 : Int) ≤ 4 * (i : Int) := by omega
          have hle : 4 * (i : Int) ≤ 12 := by omega
          go_wp2_with fail
          refine (Hr2.out.word (4 * i) _ _ (by omega) (by omega)).mono ?_
          rintro e w' ⟨rfl, m, rfl⟩
          have hcell := (Hr4.out.drewN m).cell (getD_word _ (13 + i) (by rw [Cha.stNonce_length, Cha.stKey_length]; simp [Cha.state0]; omega))
          have hfr := frozen_row (Hr4.out.drewN m) (13 + i)
          go_wp2
          go_roundw
          case rel =>
            refine ⟨i + 1, h3, by simp, (Hr2.out.drewN m).other _ _ (by dsimp only; omega), (Hr3.out.drewN m).other _ _ (by dsimp only; omega), ?_, by simpa using hsz, ?_⟩
            · have := (Hr4.out.drewN m).set (13 + i) (wv (Cha.word nonce (4 * i)))
              rw [← List.map_set] at this
              exact this
            · exact (below_drewN hbel m).setCell (by dsimp only; omega) _
          case measure => simp [intOf]; omega
        · have h3' : ¬ (i : Int) < 3 := by omega
          have : i = 3 := by omega
          subst this
          have hlen := Cha.state_length key c nonce
          obtain ⟨s, hs⟩ : ∃ s, Cha.state key c nonce = s := ⟨_, rfl⟩
          have hs2 : Cha.stNonce nonce (Cha.stKey key (Cha.state0 c) 8) 3 = s := hs
          have Hs := Lib.hid hs
          rw [hs2] at Hr4
          rw [hs] at hlen
          clear hs hs2
          have hone : ∀ v ∈ s.map wv, v.oneCell' = true := by
            intro v hv
            rw [List.mem_map] at hv
            obtain ⟨x, _, rfl⟩ := hv
            rfl
          have Hlen := Lib.hid (show (s.map wv).length = 16 by simpa using hlen)
          have Hone := Lib.hid hone
          clear hlen hone
          go_wp2_with (first
            | (refine wpList_loadRow rfl 23 _ rfl rfl Hr4.out Try.underlying23 rfl (by kernel_rfl) Hlen.out ?_)
            | (refine wpList_storeRow rfl 23 _ _ rfl rfl rfl Hr3.out (by kernel_rfl) Hlen.out (by simp) Hone.out ?_))
          refine bodyPost_ret (results_row rfl _ rfl (Hr3.out.setRow (s.map wv)) Try.underlying23 rfl (by kernel_rfl) Hlen.out) rfl ?_
          exact ⟨by rw [Hs.out]; rfl, below_setRow hbel (by omega) _⟩
end Go.Proofs.Ytpllbnioncjhaaa
