/- The chapter's example of sealing: 'lives'. -/
import Derived.Test.YtpllbnioncjhaaaRow
import Derived.Test.YtpllbnioncjhaaaSym
import Derived.Test.YtpllbnioncjhaaaPolLives
import Derived.Test.YtpllbnioncjhaaaAeadPure
import Derived.Test.YtpllbnioncjhaaaAeadSeal
namespace Go.Proofs.Ytpllbnioncjhaaa
open Go.RowKit
theorem run_buildBytes {w : World} {len : Nat} {parts : Array (Nat × Value)} {l : List UInt8} (hl : l.length = len) (h0 : 0 < len) (hmax : len ≤ 1000)
    (hfill : Instr.fill (fun i => some (i * 1, 1)) ((Array.range (len * 1)).map (fun x => (#[Value.int .u8 0] : Array Value)[x % (#[Value.int .u8 0] : Array Value).size]!)) parts.toList = some (l.map bv).toArray) :
    (Instr.buildSlice 34 len parts).run Try.prog w = .ok (.slice (some ⟨w.heap.size, 0, none⟩) len len) (w.alloc (.cells (l.map bv).toArray 5)) := by
  obtain ⟨i, hi, hz, hs, hb⟩ := info_u8
  have hsz : (sizeOf 5).run Try.prog w = .ok 1 w := by simp [sizeOf, typeInfo, hi, hs]
  have hzv : (zeroValue 5).run Try.prog w = .ok (.int .u8 0) w := by simp [zeroValue, typeInfo, hi, hz]
  unfold Instr.buildSlice
  rw [Sem.run_bind, run_underlying Try.underlying34]
  simp only [Result.andThen_ok]
  rw [Sem.run_bind, hsz]
  simp only [Result.andThen_ok]
  rw [if_neg (by omega), if_neg (by omega)]
  simp only [Sem.run_bind, hzv, Result.andThen_ok, Sem.run_pure]
  have hc : (Value.int IntKind.u8 0).cells = #[.int .u8 0] := rfl
  rw [hc, hfill]
  simp [newRow]
theorem wpList_buildBytes {w : World} {ops : Array Oper} {rest : List Oper} {o : Oper} {a : Act} {Q : Exit → Act → World → Prop} (hgd : o.guard = none) (len : Nat) (parts : Array (Nat × Operand)) (ho : o.op = .buildSlice 34 len parts) {g : Nat} (hg : w.heap.size = g) (l : List UInt8) (hl : l.length = len) (h0 : 0 < len) (hmax : len ≤ 1000)
    (hfill : Instr.fill (fun i => some (i * 1, 1)) ((Array.range (len * 1)).map (fun x => (#[Value.int .u8 0] : Array Value)[x % (#[Value.int .u8 0] : Array Value).size]!)) (parts.map fun (i, x) => (i, a.eval x)).toList = some (l.map bv).toArray)
    (hk : wpList Try.prog ops Q rest (a.put o.dst (.slice (some ⟨g, 0, none⟩) len len)) (w.alloc (.cells (l.map bv).toArray 5))) : wpList Try.prog ops Q (o :: rest) a w := by
  refine wpList_plain hgd fun K hK => ?_
  unfold Oper.wp execOp
  simp only [ho, Sem.run_bind, Sem.run_pure, Result.andThen_ok, run_buildBytes hl h0 hmax hfill, hg]
  exact hK _ _ hk
theorem run_convBytes {w : World} {g n : Nat} {l : List UInt8} (h : Row w g (l.map bv) 5) (h0 : 0 < l.length) : ∃ m, (convert 34 34 (.slice (some ⟨g, 0, none⟩) n n)).run Try.prog w = .ok (.slice (some ⟨g, 0, none⟩) n n) (w.freeze ⟨g, m, none⟩ 1) := by
  obtain ⟨u, r, hl⟩ : ∃ u r, l = u :: r := by
    cases l with
    | nil => simp at h0
    | cons u r => exact ⟨u, r, rfl⟩
  obtain ⟨e, m, hs, _⟩ := World.shape?_of_cell? (h.cell (i := 0) (v := bv u) (by rw [hl]; rfl))
  refine ⟨m, ?_⟩
  simp [convert, run_underlying Try.underlying34, run_underlying Try.underlying5, Ev.mark_run hs]
theorem wpList_convBytes {w : World} {ops : Array Oper} {rest : List Oper} {o : Oper} {a : Act} {Q : Exit → Act → World → Prop} (hgd : o.guard = none) (x : Operand) (ho : o.op = .convert 34 34 x) {g n : Nat} {l : List UInt8} (hx : a.eval x = .slice (some ⟨g, 0, none⟩) n n) (h : Row w g (l.map bv) 5) (h0 : 0 < l.length) (hl : l.length = n)
    (hk : ∀ w', Bs w' w'.heap.size (.slice (some ⟨g, 0, none⟩) n n) l → Below g w w' → wpList Try.prog ops Q rest (a.put o.dst (.slice (some ⟨g, 0, none⟩) n n)) w') : wpList Try.prog ops Q (o :: rest) a w := by
  refine wpList_plain hgd fun K hK => ?_
  obtain ⟨m, hr⟩ := run_convBytes (n := n) h h0
  unfold Oper.wp execOp
  simp only [ho, hx, Sem.run_bind, Sem.run_pure, Result.andThen_ok, hr]
  refine hK _ _ (hk _ ?_ (Pol.below_frozen (p := ⟨g, m, none⟩) (Below.refl g w) (Nat.le_refl _) 1))
  have hb : Bs w w.heap.size (.slice (some ⟨g, 0, none⟩) n n) l := hl ▸ Row.bs h h.lt
  refine (hb.keep (w' := w.freeze ⟨g, m, none⟩ 1) fun b o _ => Pol.cell_freeze _ _ _ _).more ?_
  unfold World.freeze
  split <;> simp
end Go.Proofs.Ytpllbnioncjhaaa
namespace Go.Proofs.Ytpllbnioncjhaaa
namespace Aead
def sun : List UInt8 := [76, 97, 100, 105, 101, 115, 32, 97, 110, 100, 32, 71, 101, 110, 116, 108, 101, 109, 101, 110, 32, 111, 102, 32, 116, 104, 101, 32, 99, 108, 97, 115, 115, 32, 111, 102, 32, 39, 57, 57, 58, 32, 73, 102, 32, 73, 32, 99, 111, 117, 108, 100, 32, 111, 102, 102, 101, 114, 32, 121, 111, 117, 32, 111, 110, 108, 121, 32, 111, 110, 101, 32, 116, 105, 112, 32, 102, 111, 114, 32, 116, 104, 101, 32, 102, 117, 116, 117, 114, 101, 44, 32, 115, 117, 110, 115, 99, 114, 101, 101, 110, 32, 119, 111, 117, 108, 100, 32, 98, 101, 32, 105, 116, 46]
def sunKey : List UInt8 := (List.range 32).map fun i => UInt8.ofNat (128 + i)
def sunNonce : List UInt8 := [7, 0, 0, 0, 64, 65, 66, 67, 68, 69, 70, 71]
def sunAlong : List UInt8 := [80, 81, 82, 83, 192, 193, 194, 195, 196, 197, 198, 199]
def sunTag : List UInt8 := [26, 225, 11, 89, 79, 9, 226, 106, 126, 144, 46, 203, 208, 96, 6, 145]
set_option maxRecDepth 100000 in
theorem sun_tag : (sealed sunKey sunNonce sun sunAlong).drop 114 = sunTag := by decide +kernel
end Aead
end Go.Proofs.Ytpllbnioncjhaaa
namespace Go.Proofs.Ytpllbnioncjhaaa
open Go.RowKit
namespace Aead
open Pol (own mixed laid cell_freeze below_frozen)
def sunParts : Array (Nat × Operand) := (sun.zipIdx.map fun p => (p.2, Operand.const (bv p.1))).toArray
theorem sun_fill (a : Act) : Instr.fill (fun i => some (i * 1, 1)) ((Array.range (114 * 1)).map (fun x => (#[Value.int .u8 0] : Array Value)[x % (#[Value.int .u8 0] : Array Value).size]!)) (sunParts.map fun (i, x) => (i, a.eval x)).toList = some (sun.map bv).toArray := by kernel_rfl
theorem sunKey_at (i : Nat) (h : i < 32) : sunKey[i]? = some (UInt8.ofNat (128 + i)) := by
  unfold sunKey
  rw [List.getElem?_map, List.getElem?_range h]
  rfl
theorem sunKey_byte (i : Nat) (h : i < 32) : bv (UInt8.ofNat (128 + i)) = .int .u8 (128 + (i : Int)) := by
  unfold bv
  rw [UInt8.toNat_ofNat']
  congr 1
  omega
set_option maxRecDepth 100000 in
set_option maxHeartbeats 1000000 in
theorem lives_any (w : World) : Calls Try.prog 18 #[] w fun e w' => e = .returned (.bool true) ∧ Below w.heap.size w w' := by
  go_enter Try.func18, Try.ntmps18
  generalize hX : List.toArray (List.append _ _) = X
  have hX2 : X = sunParts := hX.symm.trans (by kernel_rfl)
  clear hX
  subst hX2
  go_wp2
  go_loopw [2] (fun iv wr => ∃ i : Nat, i ≤ 32 ∧ iv = .int .i64 (i : Int) ∧ Row wr w.heap.size ((Cha.fillN sunKey i).map bv) 24 ∧ Below w.heap.size w wr) (fun iv _ => 32 - (intOf iv).toNat)
  case atStart =>
    refine ⟨0, by omega, rfl, ?_, (Below.refl _ w).alloc (Nat.le_refl _) _⟩
    rw [Cha.fillN_zero]
    exact Row.new (by simp) rfl
  case round =>
    obtain ⟨i, hi, rfl, hr, hbel⟩ := hrel
    have Hr := Lib.hid hr
    have Hbel := Lib.hid hbel
    clear hr hbel
    by_cases h32 : i < 32
    · have h32' : (i : Int) < 32 := by omega
      have Hset := Lib.hid (show Row (wr.setCell ⟨w.heap.size, i, none⟩ (.int .u8 (128 + (i : Int)))) w.heap.size ((Cha.fillN sunKey (i + 1)).map bv) 24 by
        have h := Hr.out.set i (bv (UInt8.ofNat (128 + i)))
        rw [← List.map_set, Cha.fillN_set _ _ _ (sunKey_at i h32), sunKey_byte i h32] at h
        exact h)
      obtain ⟨v0, hcell⟩ : ∃ v, wr.cell? ⟨w.heap.size, i, none⟩ = some v := ⟨_, Hr.out.cell (getD_cell _ i (by rw [Cha.fillN_length]; exact h32))⟩
      have hfr := frozen_row Hr.out i
      go_wp2
      go_roundw
      case rel => exact ⟨i + 1, h32, by simp, Hset.out, Hbel.out.setCell (by dsimp only; omega) _⟩
      case measure => simp [intOf]; omega
    · have h32' : ¬ (i : Int) < 32 := by omega
      have : i = 32 := by omega
      subst this
      rw [Cha.fillN_all _ _ (by decide)] at Hr
      have Hkl := Lib.hid (show (sunKey.map bv).length = 32 by decide)
      have Hbel2 := Lib.hid (show Below w.heap.size w wr from Hbel.out)
      go_wp2_with (first
        | (refine wpList_buildBytes rfl 114 _ rfl (g := wr.heap.size + 1) (by simp) sun rfl (by decide) (by decide) (sun_fill _) ?_
           obtain ⟨w2, hw2⟩ : ∃ w2, (wr.alloc (.cells (sunNonce.map bv).toArray 25)).alloc (.cells (sun.map bv).toArray 5) = w2 := ⟨_, rfl⟩
           have hs2 : (wr.alloc (.cells (sunNonce.map bv).toArray 25)).heap.size = wr.heap.size + 1 := by simp
           have HR2 := Lib.hid (show Row w2 (wr.heap.size + 1) (sun.map bv) 5 from hw2 ▸ Row.new hs2 rfl)
           have HN2 := Lib.hid (show Row w2 wr.heap.size (sunNonce.map bv) 25 from hw2 ▸ (Row.new rfl rfl).alloc _)
           have HK2 := Lib.hid (show Row w2 w.heap.size (sunKey.map bv) 24 from hw2 ▸ (Hr.out.alloc _).alloc _)
           have HB2 := Lib.hid (show Below w.heap.size w w2 from hw2 ▸ (Hbel.out.alloc Hbel.out.size _).alloc (by rw [hs2]; have := Hbel.out.size; omega) _)
           refine wpList_world hw2 ?_
           clear hw2 hs2)
        | (refine wpList_convBytes rfl _ rfl (n := 114) (l := sun) rfl HR2.out (by decide) rfl ?_
           intro w3 hb3 hg3
           have HT3 := Lib.hid hb3
           have HN3 := Lib.hid (HN2.out.below hg3 (by omega))
           have HK3 := Lib.hid (HK2.out.below hg3 (by have := Hr.out.lt; omega))
           have HB3 := Lib.hid (HB2.out.trans (hg3.mono (by have := Hbel.out.size; omega)))
           clear hb3 hg3)
        | (refine wpList_loadRow (n := 32) (cs := sunKey.map bv) rfl 24 _ rfl rfl (HK3.out.alloc _) Try.underlying24 rfl (by kernel_rfl) Hkl.out ?_)
        | (refine wpList_loadRow (n := 12) (cs := sunNonce.map bv) rfl 25 _ rfl rfl (HN3.out.alloc _) Try.underlying25 rfl (by kernel_rfl) rfl ?_)
        | fail)
      obtain ⟨W, hW⟩ : ∃ W, w3.alloc (.cells (sunAlong.map bv).toArray 5) = W := ⟨_, rfl⟩
      have hWs : W.heap.size = w3.heap.size + 1 := by rw [← hW]; simp
      have hA : Bs W W.heap.size (.slice (some ⟨w3.heap.size, 0, none⟩) 12 12) sunAlong := by
        rw [hWs, ← hW]
        exact Row.bs (l := sunAlong) (t := 5) (Row.new rfl rfl) (by omega)
      have hT : Bs W W.heap.size (.slice (some ⟨wr.heap.size + 1, 0, none⟩) 114 114) sun := by
        rw [hWs, ← hW]
        exact (HT3.out.alloc (Nat.le_refl _) _).more (by omega)
      have HB := Lib.hid (show Below w.heap.size w W from hW ▸ HB3.out.alloc HB3.out.size _)
      show Calls _ _ _ (w3.alloc (.cells (sunAlong.map bv).toArray 5)) _
      rw [hW]
      clear hW hWs
      refine (Seal_ok sunKey sunNonce sun sunAlong _ _ (by decide) rfl W hT hA (by decide) (by decide)).mono ?_
      rintro e w5 ⟨v5, rfl, ho5, hb5⟩
      have HB5 := Lib.hid (nextB HB.out (Nat.le_refl _) hb5)
      have hl5 : (sealed sunKey sunNonce sun sunAlong).length = 130 := sealed_length _ _ _ _
      have hs5 := ho5.bs
      obtain ⟨A5, c5, rfl, hc5, hcs5⟩ := hs5
      obtain ⟨kb, off, rfl, hkb, hcell⟩ := hcs5 (by intro h; rw [h] at hl5; cases hl5)
      have hr : (convert 34 9 (.slice (some ⟨kb, off + 114, none⟩) 16 (c5 - 114))).run Try.prog w5 = .ok (.string ⟨#[26, 225, 11, 89, 79, 9, 226, 106, 126, 144, 46, 203, 208, 96, 6, 145]⟩) w5 := by
        refine run_str (B := w5.heap.size) (l := sunTag) w5 ⟨_, c5 - 114, rfl, by show 16 ≤ _; omega, fun _ => ⟨kb, off + 114, rfl, hkb, fun i u hu => ?_⟩⟩
        rw [Nat.add_assoc]
        refine hcell (114 + i) u ?_
        rw [← sun_tag, List.getElem?_drop] at hu
        exact hu
      rw [hl5] at hc5 ⊢
      have hc5' : (130 : Int) ≤ (c5 : Int) := by omega
      have hc5'' : (114 : Int) ≤ (c5 : Int) := by omega
      have hc5n : ¬ c5 = 114 := by omega
      clear hcell hcs5 ho5 hl5 hb5 hkb hA hT
      go_wp2
      go_ret
      exact ⟨rfl, HB5.out⟩
end Aead
end Go.Proofs.Ytpllbnioncjhaaa
