/- octet.Block. -/
import Derived.Test.YtedmogacklbcmaaOctMake
namespace Go.Proofs.Ytedmogacklbcmaa
open Go.RowKit
theorem Block_long (b : Value) (p : Value) (l m : List UInt8) (w : World) (hp : Bs w w.heap.size p m) (hm : 1048576 < m.length) : Calls Try.prog 66 #[b, p] w fun e w' =>
    e = .returned (.tuple #[.slice none 0 0, .int .i64 3]) ∧ w = w' := by
  obtain ⟨A, c, rfl, hc, hcs⟩ := hp
  clear hcs
  have hm' : (1048576 : Int) < (m.length : Int) := by omega
  go_enter Try.func66, Try.ntmps66
  go_wp2
  go_ret2
  exact ⟨rfl, rfl⟩
set_option maxHeartbeats 400000 in
theorem Block_ok (b : Value) (p : Value) (l m : List UInt8) (w : World) (hb : Bs w w.heap.size b l) (hp : Bs w w.heap.size p m) (hm : m.length ≤ 1048576) (hl : l.length ≤ 35184372088832) : Calls Try.prog 66 #[b, p] w fun e w' =>
    ∃ v, e = .returned (.tuple #[v, .int .i64 0]) ∧ Own w' w.heap.size v (l ++ Oct.enc m.length ++ m) ∧ Below w.heap.size w w' := by
  have Hp := Lib.hid hp
  obtain ⟨A, c, rfl, hc, hcs⟩ := hp
  clear hcs
  have hm' : ¬ (1048576 : Int) < (m.length : Int) := by omega
  have Hb := Lib.hid hb
  clear hb
  go_enter Try.func66, Try.ntmps66
  go_wp2_with (first
    | (go_at_call 97; refine (withRoom_any _ l _ _ Hb.out (by omega) (by omega) hl).mono ?_; rintro e w1 ⟨v1, rfl, hown1, hb1⟩)
    | (go_at_call 103; refine (appendNumber_any _ l m.length w.heap.size _ hown1 (by omega) (by omega) hb1.size).mono ?_; rintro e w2 ⟨v2, rfl, hown2, hb2⟩)
    | (at_builtin; refine wpList_app_bytes _ rfl _ _ rfl rfl hown2 rfl (Hp.out.below (hb1.trans hb2)) (by rw [List.length_append, Oct.enc_length]; have := (Oct.nsize_spec m.length (by omega)).1; omega) (hb1.trans hb2).size ?_; intro v3 w3 hown3 hg3 hblk3))
  go_ret2
  exact ⟨v3, rfl, hown3, (hb1.trans hb2).grown hg3 (hb1.trans hb2).size (fun k hk => (hown2.block_ge hk).1)⟩
end Go.Proofs.Ytedmogacklbcmaa
