/- config: peers that were added one by one, in plain terms; masks. -/
import Derived.Test.YtfomogokonkkfaaCfgDo
namespace Go.Proofs.Ytfomogokonkkfaa.Cfg
def keyOf1 (p : Nat) : List UInt8 := UInt8.ofNat p :: List.replicate 31 0
def mbOf (p : Nat) : Mb := ⟨1 + (p : Int), keyOf1 p, false⟩
def tabOf (l : List Nat) : List Mb := l.foldl (fun t p => setL t (mbOf p)) []
theorem tabOf_snoc (l : List Nat) (p : Nat) : tabOf (l ++ [p]) = setL (tabOf l) (mbOf p) := by simp [tabOf]
theorem mbOf_key (p : Nat) : (mbOf p).key = (1 + (p : Int), 0) := rfl
theorem mbOf_inj {p q : Nat} (h : (mbOf p).key = (mbOf q).key) : p = q := by
  simp only [mbOf_key, Prod.mk.injEq, and_true] at h
  omega
theorem snoc_ind {P : List Nat → Prop} (h0 : P []) (h1 : ∀ l p, P l → P (l ++ [p])) (l : List Nat) : P l := by
  have : ∀ m : List Nat, P m.reverse := by
    intro m
    induction m with
    | nil => exact h0
    | cons a r ih => rw [List.reverse_cons]; exact h1 _ _ ih
  have := this l.reverse
  rwa [List.reverse_reverse] at this
theorem tabOf_ord (l : List Nat) : Ord Mb.key (tabOf l) := by
  induction l using snoc_ind with
  | h0 => exact List.Pairwise.nil
  | h1 l p ih => rw [tabOf_snoc]; exact ih.put rfl
theorem tabOf_mem (l : List Nat) (x : Mb) : x ∈ tabOf l ↔ ∃ p ∈ l, x = mbOf p := by
  induction l using snoc_ind with
  | h0 => simp [tabOf]
  | h1 l p ih =>
    rw [tabOf_snoc]
    unfold setL
    rw [mem_put, ih]
    constructor
    · rintro (h | ⟨⟨q, hq, h⟩, _⟩)
      · exact ⟨p, by simp, h⟩
      · exact ⟨q, by simp [hq], h⟩
    · rintro ⟨q, hq, h⟩
      rcases List.mem_append.1 hq with hq | hq
      · by_cases hp : q = p
        · exact .inl (hp ▸ h)
        · exact .inr ⟨⟨q, hq, h⟩, fun e => hp (mbOf_inj (by rw [← h]; exact e))⟩
      · simp only [List.mem_cons, List.not_mem_nil, or_false] at hq
        exact .inl (hq ▸ h)
theorem tabOf_len (l : List Nat) (hn : l.Nodup) : (tabOf l).length = l.length := by
  induction l using snoc_ind with
  | h0 => rfl
  | h1 l p ih =>
    rw [List.nodup_append] at hn
    rw [tabOf_snoc]
    unfold setL
    rw [len_put (tabOf_ord l), ih hn.1]
    have : has Mb.key (mbOf p).key (tabOf l) = false := by
      cases hh : has Mb.key (mbOf p).key (tabOf l) with
      | false => rfl
      | true =>
        obtain ⟨x, hx, hk⟩ := has_iff.1 hh
        obtain ⟨q, hq, rfl⟩ := (tabOf_mem l x).1 hx
        have := mbOf_inj hk
        subst this
        exact absurd rfl (hn.2.2 q hq q (by simp))
    rw [this]
    simp
theorem tabOf_le (l : List Nat) : (tabOf l).length ≤ l.length := by
  induction l using snoc_ind with
  | h0 => exact Nat.le_refl _
  | h1 l p ih =>
    rw [tabOf_snoc]
    unfold setL
    rw [len_put (tabOf_ord l), List.length_append]
    split <;> simp <;> omega
theorem tabOf_rev (l : List Nat) : tabOf l = tabOf l.reverse := (tabOf_ord l).ext (tabOf_ord _) fun x => by rw [tabOf_mem, tabOf_mem]; simp
theorem isID_p (p : Nat) (h : p < 65536) : isIDB (1 + (p : Int)) = true := by
  unfold isIDB
  rw [Bool.and_eq_true, decide_eq_true_iff, decide_eq_true_iff]
  omega
theorem tabOf_val (l : List Nat) (hl : l.length ≤ 40) (h : ∀ p ∈ l, p < 65536) : Val ⟨tabOf l, []⟩ := by
  refine ⟨?_, by simp, fun m hm => ?_, tabOf_ord l, fun r hr => by simp at hr, List.Pairwise.nil⟩
  · have := tabOf_le l
    show (tabOf l).length ≤ 64
    omega
  · obtain ⟨p, hp, rfl⟩ := (tabOf_mem l m).1 hm
    exact isID_p p (h p hp)
def opOf (p : Nat) : Opn := ⟨1, 0, 1 + (p : Int), keyOf1 p, 0, 0⟩
theorem keyOf1_len (p : Nat) : (keyOf1 p).length = 32 := by simp [keyOf1]
set_option maxRecDepth 10000 in
theorem pref0 : prefB 0 0 = true := by decide
theorem opOf_ok (p : Nat) (h : p < 65536) : okO (opOf p) = true := by
  have h1 : named (opOf p) = opOf p := by
    unfold named
    rw [if_pos (show (opOf p).kind = 1 from rfl)]
    rfl
  have h2 : isIDB (opOf p).id = true := isID_p p h
  unfold okO
  rw [h1, h2, show prefB (opOf p).addr (opOf p).bits = true from pref0]
  simp [opOf]
/-! ### masks -/
def clip (a : Int) : Nat := (max 0 (min a 32)).toNat
def mN (n : Nat) : Int := 4294967295 * 2 ^ (32 - n) % 4294967296
theorem clip_le (a : Int) : clip a ≤ 32 := by unfold clip; omega
theorem clip_mono {a b : Int} (h : a ≤ b) : clip a ≤ clip b := by unfold clip; omega
theorem maskZ_clip (a : Int) : maskZ a = mN (clip a) := by
  unfold maskZ
  by_cases h1 : a < 0
  · rw [if_pos h1, show clip a = 0 by unfold clip; omega]
    decide
  · by_cases h2 : 32 < a
    · rw [if_neg h1, if_pos h2, show clip a = 32 by unfold clip; omega]
      decide
    · rw [if_neg h1, if_neg h2]
      unfold mN
      rw [show 32 - clip a = (32 - a).toNat by unfold clip; omega]
theorem masks_fin : ∀ n : Fin 33, ∀ m : Fin 33, n.1 ≤ m.1 → (bits .and .u32 (mN n.1) (mN m.1) = mN n.1 ∧ bits .and .u32 (mN m.1) (mN n.1) = mN n.1) ∧ (bits .or .u32 (mN n.1) (mN m.1) = mN m.1 ∧ bits .or .u32 (mN m.1) (mN n.1) = mN m.1) := by decide +kernel
theorem masks_le {a b : Int} (h : a ≤ b) : (bits .and .u32 (maskZ a) (maskZ b) = maskZ a ∧ bits .and .u32 (maskZ b) (maskZ a) = maskZ a) ∧ (bits .or .u32 (maskZ a) (maskZ b) = maskZ b ∧ bits .or .u32 (maskZ b) (maskZ a) = maskZ b) := by
  rw [maskZ_clip a, maskZ_clip b]
  exact masks_fin ⟨clip a, by have := clip_le a; omega⟩ ⟨clip b, by have := clip_le b; omega⟩ (clip_mono h)
end Go.Proofs.Ytfomogokonkkfaa.Cfg
