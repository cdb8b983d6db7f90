/- disk: the law's 'call' on a disk: Append, Sync, Remove. -/
import Derived.Test.YtgmmjnedgaeefaaDskActs
import Derived.Test.YtgmmjnedgaeefaaDskAppend
import Derived.Test.YtgmmjnedgaeefaaKitPick
import Derived.Test.YtgmmjnedgaeefaaKit
import Derived.Deep.RegionWith
namespace Go.Proofs.Ytgmmjnedgaeefaa.Dsk
open Go.RowKit Go.Deep
def opE (k : Int) (d : Dk) (a : Ac) : Int := if k = 2 ∨ k = 3 then synE (okName a.name) d a.name else appE (okName a.name) d a.b
def opD (k : Int) (d : Dk) (a : Ac) : Dk := if k = 2 then synD (okName a.name) d a.name else if k = 3 then remD (okName a.name) d a.name else appD (okName a.name) d a.name a.b
/-- What an operation asks of a disk. -/
structure Fits (d : Dk) : Prop where
  tot : total d.files ≤ 100000000
  num : d.files.length ≤ 1000000
  fuse : d.fuse ≤ 9223372036854775807 ∧ -9223372036854775808 ≤ d.fuse
  left : 0 ≤ d.left ∧ d.left ≤ 100000000
set_option maxRecDepth 100000 in
set_option maxHeartbeats 4000000 in
theorem Call_at {w : World} {B : Nat} {L : Lab} {p : Nat} {d : Dk} (h : At w B L p d) (hd : Fits d) {cs : List Value} {a : Ac} (ha : AcAt w B cs a) (hk3 : pick a.kind 7 ≤ 3) (hnl : a.name.length ≤ maxLen) (hb : a.b.length ≤ 140737488355327) :
    Calls Try.prog 19 #[pv p, .agg cs.toArray] w fun e w' => e = .returned (.tuple #[.string ⟨#[]⟩, .int .i64 (opE (pick a.kind 7) d a)]) ∧ ∃ L', At w' B L' p (opD (pick a.kind 7) d a) ∧ Step L L' w w' := by
  obtain ⟨vb, vp, rfl, hvb, hvp, hk, hn⟩ := ha
  obtain ⟨A1, c1, rfl, _, _⟩ := id hvb
  obtain ⟨A2, c2, rfl, _, _⟩ := id hvp
  have Hvb := Lib.hid hvb
  have Hpk := Lib.hid (pick_in a.kind 7 (by decide))
  obtain ⟨k, hk'⟩ : ∃ k, pick a.kind 7 = k := ⟨_, rfl⟩
  rw [hk'] at Hpk hk3
  rw [hk']
  have HP := Lib.hid (fun W => Pick_any a.kind 7 W hk ⟨by decide, by decide⟩)
  rw [hk'] at HP
  obtain ⟨W, hW⟩ : ∃ W, w.alloc (Obj.cells #[Value.int .i64 a.kind, sv a.name, Value.slice A1 a.b.length c1, Value.int .i64 a.n, Value.slice A2 a.parts.length c2] 39) = W := ⟨_, rfl⟩
  have hBW : Below w.heap.size w W := by rw [← hW]; exact (Below.refl _ w).alloc (Nat.le_refl _) _
  have hrow : Row W w.heap.size [Value.int .i64 a.kind, sv a.name, Value.slice A1 a.b.length c1, Value.int .i64 a.n, Value.slice A2 a.parts.length c2] 39 := by rw [← hW]; exact Row.new rfl rfl
  have HAt := Lib.hid (h.new hBW)
  have HSt := Lib.hid (Step.new (L := L) hBW)
  have HB := Lib.hid h.size
  have HAt0 := Lib.hid h
  clear hvp hk hk' h
  by_cases k2 : k = 2
  · subst k2
    have HSy := Lib.hid (Sync_at HAt.out a.name hnl hd.tot hd.fuse)
    rw [← hW] at HSy
    have HW := Lib.hid hW
    have Hop : Hid (opE 2 d a = synE (okName a.name) d a.name ∧ opD 2 d a = synD (okName a.name) d a.name) := ⟨by simp [opE], by simp [opD]⟩
    clear hW hrow hBW hvb
    unfold pv at *
    go_enter Try.func19, Try.ntmps19
    go_wp2_with (first
      | (go_at_call 23; refine (HP.out _).mono ?_; rintro e w' ⟨rfl, rfl⟩)
      | (go_at_call 10; refine HSy.out.mono ?_; rintro e w2 ⟨rfl, L2, hat, hst⟩; have Ha2 := Lib.hid hat; have Hs2 := Lib.hid (HSt.out.trans (HW.out ▸ hst)); clear hat hst)
      | fail)
    go_ret2
    exact ⟨by rw [Hop.out.1]; rfl, L2, by rw [Hop.out.2]; exact Ha2.out, Hs2.out⟩
  by_cases k3 : k = 3
  · subst k3
    have HSy := Lib.hid (Remove_at HAt.out a.name hnl hd.tot hd.fuse hd.left)
    rw [← hW] at HSy
    have HW := Lib.hid hW
    have Hop : Hid (opE 3 d a = synE (okName a.name) d a.name ∧ opD 3 d a = remD (okName a.name) d a.name) := ⟨by simp [opE], by simp [opD]⟩
    clear hW hrow hBW hvb
    unfold pv at *
    go_enter Try.func19, Try.ntmps19
    go_wp2_with (first
      | (go_at_call 23; refine (HP.out _).mono ?_; rintro e w' ⟨rfl, rfl⟩)
      | (go_at_call 34; refine HSy.out.mono ?_; rintro e w2 ⟨rfl, L2, hat, hst⟩; have Ha2 := Lib.hid hat; have Hs2 := Lib.hid (HSt.out.trans (HW.out ▸ hst)); clear hat hst)
      | fail)
    go_ret2
    exact ⟨by rw [Hop.out.1]; rfl, L2, by rw [Hop.out.2]; exact Ha2.out, Hs2.out⟩
  have k4 : ¬ k = 4 := by omega
  have k5 : ¬ k = 5 := by omega
  have k6 : ¬ k = 6 := by omega
  have Hop : Hid (opE k d a = appE (okName a.name) d a.b ∧ opD k d a = appD (okName a.name) d a.name a.b) := ⟨by simp [opE, k2, k3], by simp [opD, k2, k3]⟩
  have hown := Own_any (Value.slice A1 a.b.length c1) a.b W.drew (((hvb.more HB.out).below hBW).more hBW.size) (by omega)
  have e1 : W.cell? ⟨w.heap.size, 1, none⟩ = some (sv a.name) := hrow.cell rfl
  have e2 : W.cell? ⟨w.heap.size, 2, none⟩ = some (Value.slice A1 a.b.length c1) := hrow.cell rfl
  have HBW := Lib.hid hBW
  have HO := Lib.hid hown
  have Hrow := Lib.hid hrow
  have Hd := Lib.hid hd
  have HW := Lib.hid hW
  clear hBW hown hrow hd hvb hW
  unfold pv at *
  go_enter Try.func19, Try.ntmps19
  go_wp2_with (first
    | (go_at_call 23; refine (HP.out _).mono ?_; rintro e w' ⟨rfl, rfl⟩)
    | fail)
  rw [HW.out]
  go_region_with (first
    | (go_at_call 35; refine HO.out.mono ?_; rintro e w2 ⟨v, rfl, ho, hb⟩
       have e3 : w2.cell? ⟨w.heap.size, 1, none⟩ = some (sv a.name) := (hb.cell (p := ⟨w.heap.size, 1, none⟩) Hrow.out.lt).trans e1
       have hb' : Below W.heap.size W w2 := ⟨hb.os, hb.tape, hb.output, hb.size, hb.block⟩
       have HA2 := Lib.hid (HAt.out.new hb')
       have HS2 := Lib.hid (HSt.out.trans (Step.new hb'))
       have hfree : Free L v := fun b hvb => by
         have := ho.block_ge hvb
         cases hL : L b with
         | none => rfl
         | some x => have h1 := (HAt.out.lab b (by rw [hL]; simp)).2; exact absurd this.1 (by show ¬ W.heap.size ≤ b; omega)
       have HAp := Lib.hid (Append_at HA2.out a.name hnl Hd.out.tot (by have := Hd.out.num; omega) Hd.out.fuse Hd.out.left v a.b ho.bs hfree)
       obtain ⟨A3, c3, rfl⟩ := ho.shape
       clear ho hb hb' hfree)
    | (go_at_call 9; refine HAp.out.mono ?_; rintro e w3 ⟨rfl, L3, hat, hst⟩; have Ha3 := Lib.hid hat; have Hs3 := Lib.hid (HS2.out.trans hst); clear hat hst))
  all_goals
    go_wp2
    go_ret2
    exact ⟨by rw [Hop.out.1]; rfl, L3, by rw [Hop.out.2]; exact Ha3.out, Hs3.out⟩
end Go.Proofs.Ytgmmjnedgaeefaa.Dsk
