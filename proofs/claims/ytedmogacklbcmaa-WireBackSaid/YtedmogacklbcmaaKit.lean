/- The verifier's kit: bytes of one's own. -/
import Derived.Test.YtedmogacklbcmaaKitBase
namespace Go.Proofs.Ytedmogacklbcmaa
open Go.RowKit

theorem own_new (w : World) : Own (w.alloc (.cells #[] 5)) w.heap.size (.slice (some ⟨w.heap.size, 0, none⟩) 0 0) [] :=
  ⟨rfl, .inr ⟨w.heap.size, 0, #[], rfl, Nat.le_refl _, heap_alloc_new w _, Nat.le_refl _, by simp, by decide, by simp⟩⟩

theorem Own_any (b : Value) (l : List UInt8) (w : World) (hb : Bs w w.heap.size b l) (hl : l.length ≤ 140737488355327) : Calls Try.prog 11 #[b] w fun e w' => ∃ v, e = .returned v ∧ Own w' w.heap.size v l ∧ Below w.heap.size w w' := by
  have Hb := Lib.hid hb
  clear hb
  have ho := own_new w
  have Ho := Lib.hid ho
  clear ho
  go_enter Try.func11, Try.ntmps11
  go_wp2_with (at_builtin; refine wpList_app_bytes _ rfl _ _ rfl rfl (l := []) Ho.out rfl (Hb.out.alloc (Nat.le_refl _) _) (by simpa using hl) (by simp) ?_; intro v2 w2 hown2 hg2 hblk2)
  go_ret
  exact ⟨v2, rfl, by simpa using hown2, ((Below.refl _ w).alloc (Nat.le_refl _) _).grown hg2 (by simp) (fun k hk => by have hk' : some w.heap.size = some k := hk; injection hk' with hk'; omega)⟩

end Go.Proofs.Ytedmogacklbcmaa
