/- The chapter's key and nonce. -/
import Derived.Test.YtmfjlcgbanidnaaRow
import Derived.Test.YtmfjlcgbanidnaaArr
import Derived.Test.YtmfjlcgbanidnaaChaStream
import Derived.Test.YtmfjlcgbanidnaaChaBlock
namespace Go.Proofs.Ytmfjlcgbanidnaa
open Go.RowKit
namespace Cha
def key1 : List UInt8 := (List.range 32).map UInt8.ofNat
def nonce1 : List UInt8 := [0, 0, 0, 9, 0, 0, 0, 74, 0, 0, 0, 0]
theorem key1_length : key1.length = 32 := rfl
theorem nonce1_length : nonce1.length = 12 := rfl
theorem key1_at (i : Nat) (h : i < 32) : key1[i]? = some (UInt8.ofNat i) := by
  rw [key1, List.getElem?_map, List.getElem?_range h]
  rfl
end Cha
theorem results_rows2 {P : Program} {fn : Func} {p q : Tmp} {ty sy : TypeId} (hr : fn.results = #[.cell p ty, .cell q sy]) (tmps : Array Value) {w : World} {g h : Nat} {t s : TypeId} {cs ds : List Value} {d e : TypeDesc}
    (hp : tmps.getD p undef = .pointer (some ⟨g, 0, none⟩)) (h1 : Row w g cs t) (hu : P.underlying ty = some d) (hd : (match d with | .struct _ | .array _ _ => true | _ => false) = true) {n : Nat} (hi : (P.info? ty).map (·.size) = some n) (hn : cs.length = n)
    (hq : tmps.getD q undef = .pointer (some ⟨h, 0, none⟩)) (h2 : Row w h ds s) (hv : P.underlying sy = some e) (he : (match e with | .struct _ | .array _ _ => true | _ => false) = true) {m : Nat} (hj : (P.info? sy).map (·.size) = some m) (hm : ds.length = m) :
    (results fn tmps).run P w = .ok (.tuple #[.agg cs.toArray, .agg ds.toArray]) w := by
  have hp' : tmps[p]?.getD undef = .pointer (some ⟨g, 0, none⟩) := by simpa using hp
  have hq' : tmps[q]?.getD undef = .pointer (some ⟨h, 0, none⟩) := by simpa using hq
  have r1 := run_loadVar_row (P := P) w g t ty cs.toArray (0, 0) d h1 hu hd (by rw [hi]; simp [hn])
  have r2 := run_loadVar_row (P := P) w h s sy ds.toArray (0, 0) e h2 hv he (by rw [hj]; simp [hm])
  simp [results, hr, hp', hq', asAddr, r1, r2]

set_option maxRecDepth 8000 in
set_option maxHeartbeats 2000000 in
theorem first_any (w : World) : Calls Try.prog 33 #[] w fun e w' => e = .returned (.tuple #[arr8 Cha.key1, arr8 Cha.nonce1]) ∧ Below w.heap.size w w' := by
  go_enter Try.func33, Try.ntmps33
  go_wp2
  go_loopw [3] (fun iv wr => ∃ i : Nat, i ≤ 32 ∧ iv = .int .i64 (i : Int) ∧ Row wr w.heap.size ((List.replicate 32 (0 : UInt8)).map bv) 55 ∧ Row wr (w.heap.size + 1) ((List.replicate 12 (0 : UInt8)).map bv) 56 ∧ Row wr (w.heap.size + 1 + 1) ((Cha.fillN Cha.key1 i).map bv) 55 ∧ Below w.heap.size w wr) (fun iv _ => 32 - (intOf iv).toNat)
  case atStart =>
    refine ⟨0, by omega, rfl, ((Row.new rfl rfl).alloc _).alloc _, (Row.new (by simp) rfl).alloc _, Row.new (by simp) (by rw [Cha.fillN_zero]; rfl), ?_⟩
    exact (((Below.refl _ w).alloc (Nat.le_refl _) _).alloc (by simp) _).alloc (by simp; omega) _
  case round =>
    obtain ⟨i, hi, rfl, hr1, hr2, hr3, hbel⟩ := hrel
    have Hr1 := Lib.hid hr1
    have Hr2 := Lib.hid hr2
    have Hr3 := Lib.hid hr3
    clear hr1 hr2 hr3
    by_cases h8 : i < 32
    · have h8' : (i : Int) < 32 := by omega
      obtain ⟨v, hco⟩ : ∃ v, wr.cell? ⟨w.heap.size + 1 + 1, i, none⟩ = some v := ⟨_, Hr3.out.cell (getD_cell _ _ (by rw [Cha.fillN_length, Cha.key1_length]; omega))⟩
      have hfr := frozen_row Hr3.out i
      have hv : Value.int .u8 (i : Int) = bv (UInt8.ofNat i) := by
        unfold bv
        rw [UInt8.toNat_ofNat']
        exact congrArg (Value.int .u8) (by omega)
      have Hset := Lib.hid (Hr3.out.set i (bv (UInt8.ofNat i)))
      have Hv := Lib.hid hv
      clear hv
      go_wp2
      rw [Hv.out]
      go_roundw
      case rel =>
        refine ⟨i + 1, h8, by simp, Hr1.out.other _ _ (by dsimp only; omega), Hr2.out.other _ _ (by dsimp only; omega), ?_, hbel.setCell (by dsimp only; omega) _⟩
        have := Hset.out
        rw [← List.map_set, Cha.fillN_set _ _ _ (Cha.key1_at i h8)] at this
        exact this
      case measure => simp [intOf]; omega
    · have h8' : ¬ (i : Int) < 32 := by omega
      have : i = 32 := by omega
      subst this
      have Hm3 := Lib.hid (Hr3.out.same (cs' := Cha.key1.map bv) (by rw [Cha.fillN_all _ _ (by rw [Cha.key1_length]; omega)]))
      go_wp2_with (first
        | (refine wpList_loadRow rfl 55 _ rfl rfl Hm3.out Try.underlying55 rfl (by kernel_rfl) (show (Cha.key1.map bv).length = 32 from rfl) ?_)
        | (refine wpList_storeRow rfl 55 _ _ rfl rfl rfl Hr1.out (by kernel_rfl) (show (Cha.key1.map bv).length = 32 from rfl) (by simp) (bytes_one Cha.key1) ?_)
        | (refine wpList_storeRow rfl 56 _ _ rfl rfl rfl (cs := Cha.nonce1.map bv) (Hr2.out.setOther _ _ (by omega)) (by kernel_rfl) (show (Cha.nonce1.map bv).length = 12 from rfl) (by rw [List.length_map, List.length_replicate]) (bytes_one Cha.nonce1) ?_))
      refine bodyPost_ret (results_rows2 rfl _ rfl ((Hr1.out.setRow (Cha.key1.map bv)).setOther _ _ (by omega)) Try.underlying55 rfl (by kernel_rfl) (show (Cha.key1.map bv).length = 32 from rfl) rfl ((Hr2.out.setOther _ _ (by omega)).setRow (Cha.nonce1.map bv)) Try.underlying56 rfl (by kernel_rfl) rfl) rfl ?_
      exact ⟨rfl, below_setRow (below_setRow hbel (by omega) _) (by omega) _⟩
end Go.Proofs.Ytmfjlcgbanidnaa
