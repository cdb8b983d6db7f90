/- Texts that the proofs share: OctEnd, OctRest. -/
import Derived.Test.YtgmmjnedgaeefaaDoorF26
import Derived.StillTailTactics
import Derived.IntWalk
namespace Go.Proofs.YtgmmjnedgaeefaaDoor
open Go.RowKit
theorem Rd.below {w w' : World} {lo g : Nat} {l : List UInt8} {a e B : Nat} (h : Rd w lo g l a e) (hb : Below B w w') (hg : g < B) : Rd w' lo g l a e := by
 obtain ⟨v, h1, h2, h3, h4⟩ := h
 exact ⟨v, by rw [hb.block g hg]; exact h1, h2.keep fun b o hbg => hb.cell (p := ⟨b, o, none⟩) (by simp only; omega), h3, h4⟩
theorem Rd.grown {w w' : World} {lo g : Nat} {l : List UInt8} {a e : Nat} {row : Option Nat} (h : Rd w lo g l a e) (hg : w.grownBy w' row) (hr : ∀ k, row = some k → g < k ∨ k < lo ∧ k < g) : Rd w' lo g l a e := by
 obtain ⟨v, h1, h2, h3, h4, h5⟩ := h
 have hlt : g < w.heap.size := (Array.getElem?_eq_some_iff.1 h1).1
 refine ⟨v, by rw [hg.block g hlt (fun e => by have := hr g e.symm; omega)]; exact h1, ?_, h3, h4, h5⟩
 obtain ⟨A, c, rfl, hc, hcs⟩ := h2
 refine ⟨A, c, rfl, hc, fun hne => ?_⟩
 obtain ⟨b, off, rfl, k1, k2⟩ := hcs hne
 have hlo := h5 b rfl
 exact ⟨b, off, rfl, k1, fun i u hu => (World.cell?_of_block (a := ⟨b, off + i, none⟩) (hg.block b (by omega) (fun e => by have := hr b e.symm; omega))).trans (k2 i u hu)⟩
set_option maxHeartbeats 400000 in
theorem New_any (b : Value) (l : List UInt8) (w : World) (hb : Bs w w.heap.size b l) (hl : l.length ≤ 35184372088832) : Calls Tryd.prog 29 #[b] w fun e w' =>
 ∃ g, e = .returned (.pointer (some ⟨g, 0, none⟩)) ∧ w.heap.size ≤ g ∧ g < w'.heap.size ∧ Rd w' w.heap.size g l 0 0 ∧ Below w.heap.size w w' := by
 have Hb := Lib.hid hb
 clear hb
 go_enter Tryd.func29, Tryd.ntmps29
 go_wp2_with (go_at_call 47; refine (withRoom_any _ l 0 _ Hb.out (by omega) (by omega) hl).mono ?_; rintro e w1 ⟨v, rfl, hown, hb1⟩; obtain ⟨A1, c1, rfl⟩ := hown.shape)
 go_ret
 have hsz := hb1.size
 refine ⟨w1.heap.size, rfl, hsz, by simp, ⟨.slice A1 l.length c1, ?_, ?_, Nat.zero_le _, hl, fun k hk => (hown.block_ge hk).1⟩, hb1.alloc hsz _⟩
 · exact heap_alloc_new w1 _
 · exact (hown.bs).alloc (Nat.le_refl _) _
end Go.Proofs.YtgmmjnedgaeefaaDoor
namespace Go.Proofs.YtgmmjnedgaeefaaDoor
open Go.RowKit
set_option maxHeartbeats 400000 in
theorem Block_ok (b : Value) (p : Value) (l m : List UInt8) (w : World) (hb : Bs w w.heap.size b l) (hp : Bs w w.heap.size p m) (hm : m.length ≤ 1048576) (hl : l.length ≤ 35184372088832) : Calls Tryd.prog 80 #[b, p] w fun e w' =>
 ∃ v, e = .returned (.tuple #[v, .int .i64 0]) ∧ Own w' w.heap.size v (l ++ Oct.enc m.length ++ m) ∧ Below w.heap.size w w' := by
 have Hp := Lib.hid hp
 obtain ⟨A, c, rfl, hc, hcs⟩ := hp
 clear hcs
 have hm' : ¬ (1048576 : Int) < (m.length : Int) := by omega
 have Hb := Lib.hid hb
 clear hb
 go_enter Tryd.func80, Tryd.ntmps80
 go_wp2_with (first
  | (go_at_call 47; refine (withRoom_any _ l _ _ Hb.out (by omega) (by omega) hl).mono ?_; rintro e w1 ⟨v1, rfl, hown1, hb1⟩)
  | (go_at_call 91; refine (appendNumber_any _ l m.length w.heap.size _ hown1 (by omega) (by omega) hb1.size).mono ?_; rintro e w2 ⟨v2, rfl, hown2, hb2⟩)
  | (at_builtin; refine wpList_app_bytes _ rfl _ _ rfl rfl hown2 rfl (Hp.out.below (hb1.trans hb2)) (by rw [List.length_append, Oct.enc_length]; have := (Oct.nsize_spec m.length (by omega)).1; omega) (hb1.trans hb2).size ?_; intro v3 w3 hown3 hg3 hblk3))
 go_ret2
 exact ⟨v3, rfl, hown3, (hb1.trans hb2).grown hg3 (hb1.trans hb2).size (fun k hk => (hown2.block_ge hk).1)⟩
end Go.Proofs.YtgmmjnedgaeefaaDoor
