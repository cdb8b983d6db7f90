/- window: the numbers that were accepted, as a map. -/
import Derived.Test.YtnpmlbpnlflkkaaWinAny
import Derived.Maps.OwnSet
namespace Go.Proofs.Ytnpmlbpnlflkkaa.Win
open Go.RowKit Go.Maps

abbrev MD := DataW Unit
/-- Block b is a map of n entries at most that reads as D. -/
abbrev Own' (W : World) (b n : Nat) (D : MD) : Prop := W.ownsMap Try.prog 24 (plainElem Try.prog 4) b n D
/-- Is x in the map? -/
def In (D : MD) (x : Nat) : Prop := D.atKey (.int .u64 (x : Int)) (.lit (.bool false)) = .lit (.bool true)
theorem law64 : Keyed Try.prog 24 := int_keyed Try.underlying24
theorem zero4 (W : World) : (zeroValue 4).run Try.prog W = .ok (.bool false) W := by kernel_rfl
theorem wf64 {x : Nat} (h : x < 2 ^ 64) : (Lit.int .u64 (x : Int)).wf = true := by
  simp only [Lit.wf, IntKind.min, IntKind.max, IntKind.bits, IntKind.signed]
  simp
  omega
theorem key64 {x : Nat} (h : x < 2 ^ 64) : keyOf Try.prog 24 (.int .u64 (x : Int)) = some (.int .u64 (x : Int)) := keyOf_int_mk Try.underlying24 (wf64 h)
theorem plainElem_bool_inv {P : Program} {e : TypeId} (he : P.underlying e = some .bool) {v : Value} {z : MD × List MemPlace} (h : plainElem P e v = some z) : ∃ x, v = .bool x ∧ z = (.lit (.bool x), []) := by
  unfold plainElem at h
  rw [he] at h
  cases v <;> simp at h
  subst h
  exact ⟨_, rfl, rfl⟩
theorem look {W : World} {b n : Nat} {D : MD} (h : Own' W b n D) {x : Nat} (hx : x < 2 ^ 64) : ∃ c : Bool, (In D x ↔ c = true) ∧ ∀ (W' : World) (n' : Nat), Own' W' b n' D → (Instr.lookup 43 (.map (some b)) (.int .u64 (x : Int)) false).run Try.prog W' = .ok (.bool c) W' := by
  have key : ∀ (W' : World) (n' : Nat), Own' W' b n' D → ∃ c : Bool, D.atKey (.int .u64 (x : Int)) (.lit (.bool false)) = .lit (.bool c) ∧ (Instr.lookup 43 (.map (some b)) (.int .u64 (x : Int)) false).run Try.prog W' = .ok (.bool c) W' := by
    intro W' n' h'
    obtain ⟨v, ps, hrun, hv⟩ := h'.lookup law64 Try.underlying43 (zero4 W') (plainElem_bool Try.underlying4 false) (key64 hx)
    obtain ⟨c, rfl, hc⟩ := plainElem_bool_inv Try.underlying4 hv
    exact ⟨c, congrArg Prod.fst hc, hrun⟩
  obtain ⟨c, hc, _⟩ := key W n h
  refine ⟨c, ?_, fun W' n' h' => ?_⟩
  · unfold In
    rw [hc]
    constructor
    · intro e; injection e with e; injection e
    · rintro rfl; rfl
  · obtain ⟨c', hc', hr⟩ := key W' n' h'
    rw [hc] at hc'
    injection hc' with e
    injection e with e
    subst e
    exact hr
theorem store {W : World} {b n : Nat} {D : MD} (h : Own' W b n D) {x : Nat} (hx : x < 2 ^ 64) (hn : n < maxLen) :
    ∃ W', (Instr.mapUpdate 43 (.map (some b)) (.int .u64 (x : Int)) (.bool true)).run Try.prog W = .ok () W' ∧ Own' W' b (n + 1) (D.put (.int .u64 (x : Int)) (.lit (.bool true))) ∧ W.grownBy W' (some b) := by
  exact h.update law64 Try.underlying43 hn (key64 hx) (plainElem_bool Try.underlying4 true)
theorem in_put {W : World} {b n : Nat} {D : MD} (h : Own' W b n D) {x y : Nat} (hx : x < 2 ^ 64) : In (D.put (.int .u64 (x : Int)) (.lit (.bool true))) y ↔ (y = x ∨ In D y) := by
  unfold In
  by_cases hxy : y = x
  · subst hxy
    rw [atKey_put_same h.isMap (law64.key (key64 hx))]
    simp
  · rw [atKey_put_other (by simp; omega)]
    simp [hxy]
theorem in_empty (x : Nat) : ¬ In (.map []) x := by
  unfold In
  simp [DataW.atKey]
/-- What the map and the window say of each other. -/
structure Inv (D : MD) (f t s l : Nat) : Prop where
  a : ∀ x, x < 2 ^ 64 → In D x → x < f ∨ (x ≤ t ∧ (64 ≤ t - x ∨ seen t s x = true))
  b : ∀ x, x < 2 ^ 64 → f ≤ x → seen t s x = true → In D x
theorem Inv.more {D : MD} {f t s l : Nat} (k : Nat) (h : Inv D f t s l) : Inv D f t s k := ⟨h.a, h.b⟩
theorem Inv.recover {D : MD} {f t s l : Nat} (hk : Ok f t s l) (h : Inv D f t s l) : Inv D l (l - 1) 0 l := by
  obtain ⟨h1, h2, h3, h4, h5, h6, h7⟩ := hk
  refine ⟨fun x hx hi => .inl ?_, fun x hx _ hs => ?_⟩
  · rcases h.a x hx hi with h | ⟨h, _⟩ <;> omega
  · unfold seen at hs; simp at hs
theorem ok_recover {f t s l : Nat} (hk : Ok f t s l) : Ok l (l - 1) 0 l := by
  obtain ⟨h1, h2, h3, h4, h5, h6, h7⟩ := hk
  exact ⟨by omega, by omega, h3, by omega, by omega, Nat.pow_pos (by omega), by omega⟩
theorem ok_crash {f t s l : Nat} (hk : Ok f t s l) : Ok 1 0 0 l := by
  obtain ⟨h1, h2, h3, h4, h5, h6, h7⟩ := hk
  exact ⟨by omega, by omega, h3, by omega, by omega, by omega, by omega⟩
theorem Inv.new {D : MD} {f t s l n : Nat} (h : Inv D f t s l) (hn : n < 2 ^ 64) (hr : ref f t s l n = 0) : ¬ In D n := by
  intro hi
  obtain ⟨_, _, _, h4, h5, h6, _⟩ := ref_ok hr
  rcases h.a n hn hi with h | ⟨h, h' | h'⟩
  · omega
  · exact h5 ⟨h, h'⟩
  · rw [h6] at h'; cases h'
theorem Inv.take {W : World} {b m : Nat} {D : MD} {f t s l n : Nat} (ho : Own' W b m D) (h : Inv D f t s l) (hF : Fits f t s l) (hn : n < 2 ^ 64) (hr : ref f t s l n = 0) :
    Inv (D.put (.int .u64 (n : Int)) (.lit (.bool true))) f (takeT t n) (takeS t s n) l := by
  have hT : t ≤ takeT t n ∧ n ≤ takeT t n := by rw [takeT_max]; omega
  constructor
  · intro x hx hi
    rw [in_put ho hn] at hi
    rcases hi with rfl | hi
    · right
      exact ⟨hT.2, .inr (seen_self hF hr)⟩
    · rcases h.a x hx hi with h1 | ⟨h1, h2⟩
      · exact .inl h1
      · right
        refine ⟨by omega, ?_⟩
        rcases Nat.lt_or_ge (takeT t n - x) 64 with h3 | h3
        · right
          rw [seen_take hF hr]
          rcases h2 with h2 | h2
          · omega
          · exact .inr ⟨h2, h3⟩
        · exact .inl h3
  · intro x hx hf hs
    rw [in_put ho hn]
    rw [seen_take hF hr] at hs
    rcases hs with rfl | ⟨hs, _⟩
    · exact .inl rfl
    · exact .inr (h.b x hx hf hs)
/-- Why a number is refused. -/
theorem ref_why {f t s l n : Nat} (hk : Ok f t s l) (h : ref f t s l n ≠ 0) : n < 1 ∨ 1152921504606846976 < n ∨ n < f ∨ (n ≤ t ∧ 64 ≤ t - n) ∨ (f ≤ n ∧ seen t s n = true) ∨ l ≤ n := by
  unfold ref at h
  rw [if_neg (by simpa using hk)] at h
  split at h
  · omega
  split at h
  · omega
  split at h
  · rename_i h1; right; right; right; right; left; exact ⟨by omega, h1⟩
  split at h
  · omega
  · exact absurd rfl h
end Go.Proofs.Ytnpmlbpnlflkkaa.Win
