/- octet: blocks, read and written. -/
import Derived.Test.YtedmogacklbcmaaOctFix
import Derived.Test.YtedmogacklbcmaaOctBlock
namespace Go.Proofs.Ytedmogacklbcmaa
open Go.RowKit

set_option maxHeartbeats 400000 in
theorem RBlock_any {w : World} {lo g : Nat} {l : List UInt8} {at_ err : Nat} (h : Rd w lo g l at_ err) : Calls Try.prog 62 #[.pointer (some ⟨g, 0, none⟩)] w fun e w' =>
    ∃ v, e = .returned v ∧ Own w' w.heap.size v (rdBlock l at_ err).1 ∧ Rd w' lo g l (rdBlock l at_ err).2.1 (rdBlock l at_ err).2.2 ∧ w.grownBy w' (some g) := by
  have Hr := Lib.hid h
  clear h
  have hle : ((rdUpto l at_ err 1048576).1 : Int) ≤ 1048576 := by
    unfold rdUpto
    split
    · simp
    · omega
  unfold rdBlock
  go_enter Try.func62, Try.ntmps62
  go_wp2_with fail
  refine (Upto_any 1048576 Hr.out).mono ?_
  rintro e w1 ⟨rfl, hr1, hg1⟩
  have Hr1 := Lib.hid hr1
  have Hg1 := Lib.hid hg1
  clear hr1 hg1
  go_wp2_with fail
  refine (Fixed_any _ Hr1.out).mono ?_
  rintro e w2 ⟨v, rfl, hown, hr2, hg2⟩
  have Hown := Lib.hid hown
  have Hr2 := Lib.hid hr2
  have Hg2 := Lib.hid hg2
  clear hown hr2 hg2
  go_wp2
  go_ret
  exact ⟨v, rfl, Hown.out.less Hg1.out.size, Hr2.out, only_trans Hg1.out Hg2.out⟩
end Go.Proofs.Ytedmogacklbcmaa
