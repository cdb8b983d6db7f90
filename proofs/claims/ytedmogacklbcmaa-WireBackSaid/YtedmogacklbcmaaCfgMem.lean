/- config: tables in memory. -/
import Derived.Test.YtedmogacklbcmaaFrame
import Derived.Test.YtedmogacklbcmaaRow
import Derived.Test.YtedmogacklbcmaaArr
import Derived.Test.YtedmogacklbcmaaEqArr
import Derived.Test.YtedmogacklbcmaaMem
import Derived.Test.YtedmogacklbcmaaCells
namespace Go.Proofs.Ytedmogacklbcmaa.Cfg
open Go.RowKit
def isIDB (x : Int) : Bool := decide (1 ≤ x) && decide (x ≤ 65536)
set_option maxRecDepth 100000 in
theorem isID_any (x : Int) (w : World) : Calls Try.prog 88 #[.int .i64 x] w fun e w' => e = .returned (.bool (isIDB x)) ∧ w = w' := by
  by_cases h1 : (1 : Int) ≤ x
  · by_cases h2 : x ≤ 65536
    · go_enter Try.func88, Try.ntmps88
      go_wp2
      go_ret
      exact ⟨by simp [isIDB, h1, h2], rfl⟩
    · go_enter Try.func88, Try.ntmps88
      go_wp2
      go_ret
      exact ⟨by simp [isIDB, h1, h2], rfl⟩
  · go_enter Try.func88, Try.ntmps88
    go_wp2
    go_ret
    exact ⟨by simp [isIDB]; omega, rfl⟩
/-- The mask of a prefix of b bits. -/
def maskZ (b : Int) : Int := if b < 0 then 0 else if 32 < b then 4294967295 else 4294967295 * 2 ^ (32 - b).toNat % 4294967296
set_option maxRecDepth 100000 in
theorem Mask_any (b : Int) (w : World) : Calls Try.prog 85 #[.int .i64 b] w fun e w' => e = .returned (.int .u32 (maskZ b)) ∧ w = w' := by
  unfold maskZ
  by_cases h1 : b < 0
  · have h2 : (0 : Int) ≤ 32 := by decide
    rw [if_pos h1]
    go_enter Try.func85, Try.ntmps85
    go_wp2
    all_goals
      first
      | omega
      | (go_ret; exact ⟨rfl, rfl⟩)
  · by_cases h2 : 32 < b
    · rw [if_neg h1, if_pos h2]
      go_enter Try.func85, Try.ntmps85
      go_wp2
      all_goals
        first
        | omega
        | (go_ret; exact ⟨rfl, rfl⟩)
    · rw [if_neg h1, if_neg h2]
      go_enter Try.func85, Try.ntmps85
      go_wp2
      all_goals
        first
        | omega
        | (go_ret; exact ⟨rfl, rfl⟩)
theorem maskZ_in (b : Int) : 0 ≤ maskZ b ∧ maskZ b < 4294967296 := by
  unfold maskZ
  split
  · decide
  · split
    · decide
    · exact ⟨Int.emod_nonneg _ (by decide), Int.emod_lt_of_pos _ (by decide)⟩
/-- Is a an address with nothing behind its first b bits? -/
def prefB (a b : Int) : Bool := decide (0 ≤ b) && decide (b ≤ 32) && (bits .andNot .u32 a (maskZ b) == 0)
set_option maxRecDepth 100000 in
theorem isPrefix_any (a b : Int) (w : World) : Calls Try.prog 90 #[.int .u32 a, .int .i64 b] w fun e w' => e = .returned (.bool (prefB a b)) ∧ w = w' := by
  by_cases h1 : (0 : Int) ≤ b
  · by_cases h2 : b ≤ 32
    · have e : prefB a b = (bits .andNot .u32 a (maskZ b) == 0) := by simp [prefB, h1, h2]
      rw [e]
      have HP := Lib.hid (Mask_any b)
      obtain ⟨m, hm⟩ : ∃ m, maskZ b = m := ⟨_, rfl⟩
      rw [hm] at HP ⊢
      clear hm e
      go_enter Try.func90, Try.ntmps90
      go_wp2_with (first | (go_at_call 85; refine (HP.out _).mono ?_; rintro e w' ⟨rfl, rfl⟩) | fail)
      go_ret
      exact ⟨rfl, rfl⟩
    · have e : prefB a b = false := by simp [prefB, h2]
      rw [e]
      clear e
      have h3 : 32 < b := by omega
      go_enter Try.func90, Try.ntmps90
      go_wp2
      go_ret
      exact ⟨rfl, rfl⟩
  · have e : prefB a b = false := by simp [prefB, h1]
    rw [e]
    clear e
    go_enter Try.func90, Try.ntmps90
    go_wp2
    go_ret
    exact ⟨rfl, rfl⟩
end Go.Proofs.Ytedmogacklbcmaa.Cfg
namespace Go.Proofs.Ytedmogacklbcmaa.Cfg
/-- Keys of a table: pairs in their order. -/
abbrev Ky := Int × Int
def klt (a b : Ky) : Prop := a.1 < b.1 ∨ (a.1 = b.1 ∧ a.2 < b.2)
instance (a b : Ky) : Decidable (klt a b) := by unfold klt; infer_instance
theorem klt_irrefl (a : Ky) : ¬ klt a a := by unfold klt; omega
theorem klt_trans {a b c : Ky} (h : klt a b) (k : klt b c) : klt a c := by unfold klt at *; omega
theorem klt_asymm {a b : Ky} (h : klt a b) : ¬ klt b a := by unfold klt at *; omega
theorem klt_tri (a b : Ky) : klt a b ∨ a = b ∨ klt b a := by
  obtain ⟨a1, a2⟩ := a
  obtain ⟨b1, b2⟩ := b
  unfold klt
  simp only [Prod.mk.injEq]
  omega
section
variable {α : Type} (key : α → Ky)
/-- A table in order. -/
def Ord (l : List α) : Prop := l.Pairwise fun x y => klt (key x) (key y)
/-- Where what has the key k belongs. -/
def pos (k : Ky) (l : List α) : Nat := l.countP fun x => decide (klt (key x) k)
def lo (k : Ky) (l : List α) : List α := l.filter fun x => decide (klt (key x) k)
def hi (k : Ky) (l : List α) : List α := l.filter fun x => decide (klt k (key x))
variable {key}
theorem pos_le (k : Ky) (l : List α) : pos key k l ≤ l.length := List.countP_le_length
theorem Ord.tail {x : α} {l : List α} (h : Ord key (x :: l)) : Ord key l := (List.pairwise_cons.1 h).2
theorem Ord.all_hi {x : α} {l : List α} (h : Ord key (x :: l)) {k : Ky} (hk : ¬ klt (key x) k) : ∀ y ∈ l, klt k (key y) := by
  intro y hy
  have h1 := (List.pairwise_cons.1 h).1 y hy
  rcases klt_tri (key x) k with h2 | h2 | h2
  · exact absurd h2 hk
  · rw [← h2]; exact h1
  · exact klt_trans h2 h1
theorem filter_none {p : α → Bool} {l : List α} (h : ∀ x ∈ l, p x = false) : l.filter p = [] := List.filter_eq_nil_iff.2 fun x hx => by simp [h x hx]
theorem filter_all {p : α → Bool} {l : List α} (h : ∀ x ∈ l, p x = true) : l.filter p = l := List.filter_eq_self.2 h
theorem take_pos : ∀ {l : List α} (k : Ky), Ord key l → l.take (pos key k l) = lo key k l
  | [], k, _ => rfl
  | x :: l, k, h => by
    by_cases hx : klt (key x) k
    · have e : pos key k (x :: l) = pos key k l + 1 := by simp [pos, hx]
      rw [e, List.take_succ_cons, take_pos k h.tail]
      simp [lo, hx]
    · have hall := h.all_hi hx
      have e : pos key k (x :: l) = 0 := by
        unfold pos
        rw [List.countP_eq_zero]
        intro y hy
        rcases List.mem_cons.1 hy with rfl | hy
        · simpa using hx
        · simpa using klt_asymm (hall y hy)
      have e2 : lo key k (x :: l) = [] := filter_none fun y hy => by
        rcases List.mem_cons.1 hy with rfl | hy
        · simpa using hx
        · simpa using klt_asymm (hall y hy)
      rw [e, e2]
      rfl
/-- Is something with that key there? -/
def has (key : α → Ky) (k : Ky) (l : List α) : Bool := l.any fun x => decide (key x = k)
theorem drop_pos : ∀ {l : List α} (k : Ky), Ord key l → l.drop (pos key k l + (if has key k l = true then 1 else 0)) = hi key k l
  | [], k, _ => by simp [hi]
  | x :: l, k, h => by
    by_cases hx : klt (key x) k
    · have e : pos key k (x :: l) = pos key k l + 1 := by simp [pos, hx]
      have hne : ¬ key x = k := fun e => klt_irrefl k (e ▸ hx)
      have e2 : has key k (x :: l) = has key k l := by simp [has, hne]
      rw [e, e2, show pos key k l + 1 + (if has key k l = true then 1 else 0) = (pos key k l + (if has key k l = true then 1 else 0)) + 1 by omega, List.drop_succ_cons, drop_pos k h.tail]
      have h3 := klt_asymm hx
      simp [hi, h3]
    · have hall := h.all_hi hx
      have e : pos key k (x :: l) = 0 := by
        unfold pos
        rw [List.countP_eq_zero]
        intro y hy
        rcases List.mem_cons.1 hy with rfl | hy
        · simpa using hx
        · simpa using klt_asymm (hall y hy)
      have e3 : hi key k l = l := filter_all fun y hy => by simpa using hall y hy
      rcases klt_tri (key x) k with h2 | h2 | h2
      · exact absurd h2 hx
      · have e2 : has key k (x :: l) = true := by simp [has, h2]
        rw [e, e2, if_pos rfl]
        have h4 : ¬ klt k (key x) := by rw [h2]; exact klt_irrefl k
        show l = _
        have : hi key k (x :: l) = hi key k l := by simp [hi, h4]
        rw [this, e3]
      · have e2 : has key k (x :: l) = false := by
          simp only [has, List.any_eq_false, decide_eq_true_eq]
          intro y hy ek
          rcases List.mem_cons.1 hy with hyx | hy
          · rw [hyx] at ek; rw [ek] at h2; exact klt_irrefl _ h2
          · have := hall y hy; rw [ek] at this; exact klt_irrefl _ this
        rw [e, e2]
        have : hi key k (x :: l) = x :: hi key k l := by simp [hi, h2]
        rw [this, e3]
        rfl
theorem at_pos : ∀ {l : List α} (k : Ky), Ord key l → has key k l = true → ∃ x, l[pos key k l]? = some x ∧ key x = k
  | [], k, _, hh => by simp [has] at hh
  | x :: l, k, h, hh => by
    by_cases hx : klt (key x) k
    · have e : pos key k (x :: l) = pos key k l + 1 := by simp [pos, hx]
      have hne : ¬ key x = k := fun e => klt_irrefl k (e ▸ hx)
      have e2 : has key k (x :: l) = has key k l := by simp [has, hne]
      rw [e2] at hh
      rw [e, List.getElem?_cons_succ]
      exact at_pos k h.tail hh
    · have hall := h.all_hi hx
      have e : pos key k (x :: l) = 0 := by
        unfold pos
        rw [List.countP_eq_zero]
        intro y hy
        rcases List.mem_cons.1 hy with rfl | hy
        · simpa using hx
        · simpa using klt_asymm (hall y hy)
      rw [e]
      refine ⟨x, rfl, ?_⟩
      simp only [has, List.any_eq_true, decide_eq_true_eq] at hh
      obtain ⟨y, hy, hyk⟩ := hh
      rcases List.mem_cons.1 hy with rfl | hy
      · exact hyk
      · have := hall y hy; rw [hyk] at this; exact absurd this (klt_irrefl _)
theorem not_at {l : List α} {k : Ky} {x : α} (hh : has key k l = false) (h : l[pos key k l]? = some x) : ¬ key x = k := by
  simp only [has, List.any_eq_false, decide_eq_true_eq] at hh
  exact hh x (List.mem_of_getElem? h)
theorem mem_lo {k : Ky} {l : List α} {x : α} : x ∈ lo key k l ↔ x ∈ l ∧ klt (key x) k := by simp [lo]
theorem mem_hi {k : Ky} {l : List α} {x : α} : x ∈ hi key k l ↔ x ∈ l ∧ klt k (key x) := by simp [hi]
/-- What has another key. -/
theorem mem_lo_hi {k : Ky} {l : List α} {x : α} : x ∈ lo key k l ++ hi key k l ↔ x ∈ l ∧ key x ≠ k := by
  rw [List.mem_append, mem_lo, mem_hi]
  constructor
  · rintro (⟨h1, h2⟩ | ⟨h1, h2⟩)
    · exact ⟨h1, fun e => klt_irrefl k (by rw [e] at h2; exact h2)⟩
    · exact ⟨h1, fun e => klt_irrefl k (by rw [e] at h2; exact h2)⟩
  · rintro ⟨h1, h2⟩
    rcases klt_tri (key x) k with h3 | h3 | h3
    · exact .inl ⟨h1, h3⟩
    · exact absurd h3 h2
    · exact .inr ⟨h1, h3⟩
theorem mem_put {k : Ky} {l : List α} {x y : α} : x ∈ lo key k l ++ y :: hi key k l ↔ x = y ∨ (x ∈ l ∧ key x ≠ k) := by
  rw [← mem_lo_hi]
  simp only [List.mem_append, List.mem_cons]
  constructor
  · rintro (h | h | h)
    · exact .inr (.inl h)
    · exact .inl h
    · exact .inr (.inr h)
  · rintro (h | h | h)
    · exact .inr (.inl h)
    · exact .inl h
    · exact .inr (.inr h)
theorem Ord.filter {l : List α} (h : Ord key l) (p : α → Bool) : Ord key (l.filter p) := List.Pairwise.filter p h
theorem Ord.del {l : List α} (h : Ord key l) (k : Ky) : Ord key (lo key k l ++ hi key k l) := by
  unfold Ord
  rw [List.pairwise_append]
  exact ⟨h.filter _, h.filter _, fun x hx y hy => klt_trans (mem_lo.1 hx).2 (mem_hi.1 hy).2⟩
theorem Ord.put {l : List α} (h : Ord key l) {k : Ky} {y : α} (hy : key y = k) : Ord key (lo key k l ++ y :: hi key k l) := by
  unfold Ord
  rw [List.pairwise_append]
  refine ⟨h.filter _, List.pairwise_cons.2 ⟨fun x hx => ?_, h.filter _⟩, fun x hx z hz => ?_⟩
  · rw [hy]; exact (mem_hi.1 hx).2
  · rcases List.mem_cons.1 hz with rfl | hz
    · rw [hy]; exact (mem_lo.1 hx).2
    · exact klt_trans (mem_lo.1 hx).2 (mem_hi.1 hz).2
/-- Tables in order with the same in them are the same. -/
theorem Ord.ext : ∀ {l m : List α}, Ord key l → Ord key m → (∀ x, x ∈ l ↔ x ∈ m) → l = m
  | [], [], _, _, _ => rfl
  | [], y :: m, _, _, h => absurd ((h y).2 List.mem_cons_self) (by simp)
  | x :: l, [], _, _, h => absurd ((h x).1 List.mem_cons_self) (by simp)
  | x :: l, y :: m, hl, hm, h => by
    have hxl := (List.pairwise_cons.1 hl).1
    have hym := (List.pairwise_cons.1 hm).1
    have hxy : x = y := by
      rcases List.mem_cons.1 ((h x).1 List.mem_cons_self) with e | h1
      · exact e
      · rcases List.mem_cons.1 ((h y).2 List.mem_cons_self) with e | h2
        · exact e.symm
        · exact absurd (klt_trans (hym x h1) (hxl y h2)) (klt_irrefl _)
    subst hxy
    congr 1
    refine Ord.ext hl.tail hm.tail fun z => ?_
    constructor
    · intro hz
      rcases List.mem_cons.1 ((h z).1 (List.mem_cons_of_mem _ hz)) with e | h1
      · subst e; exact absurd (hxl _ hz) (klt_irrefl _)
      · exact h1
    · intro hz
      rcases List.mem_cons.1 ((h z).2 (List.mem_cons_of_mem _ hz)) with e | h1
      · subst e; exact absurd (hym _ hz) (klt_irrefl _)
      · exact h1
theorem Ord.one {l : List α} (h : Ord key l) {x y : α} (hx : x ∈ l) (hy : y ∈ l) (he : key x = key y) : x = y := by
  induction l with
  | nil => simp at hx
  | cons z l ih =>
    have h1 := (List.pairwise_cons.1 h).1
    rcases List.mem_cons.1 hx with ex | hx <;> rcases List.mem_cons.1 hy with ey | hy
    · rw [ex, ey]
    · have := h1 y hy; rw [← ex, he] at this; exact absurd this (klt_irrefl _)
    · have := h1 x hx; rw [← ey, he] at this; exact absurd this (klt_irrefl _)
    · exact ih h.tail hx hy
theorem Ord.snoc {l : List α} {x y : α} (h : Ord key (l ++ [x])) (hy : klt (key x) (key y)) : Ord key (l ++ [x] ++ [y]) := by
  unfold Ord at *
  rw [List.pairwise_append]
  refine ⟨h, List.pairwise_singleton _ _, fun z hz w hw => ?_⟩
  simp only [List.mem_cons, List.not_mem_nil, or_false] at hw
  subst hw
  rcases List.mem_append.1 hz with hz | hz
  · exact klt_trans ((List.pairwise_append.1 h).2.2 z hz x (by simp)) hy
  · simp only [List.mem_cons, List.not_mem_nil, or_false] at hz
    subst hz
    exact hy
theorem len_put {l : List α} (h : Ord key l) (k : Ky) (y : α) : (lo key k l ++ y :: hi key k l).length = l.length + (if has key k l = true then 0 else 1) := by
  rw [List.length_append, List.length_cons, ← take_pos k h, ← drop_pos k h, List.length_take, List.length_drop, Nat.min_eq_left (pos_le k l)]
  have h1 := pos_le (key := key) k l
  cases hh : has key k l with
  | false => simp; omega
  | true =>
    obtain ⟨x, hx, _⟩ := at_pos k h hh
    have := (List.getElem?_eq_some_iff.1 hx).1
    simp
    omega
theorem len_del {l : List α} (k : Ky) : (lo key k l ++ hi key k l).length ≤ l.length := by
  have : ∀ l : List α, (lo key k l).length + (hi key k l).length ≤ l.length := by
    intro l
    induction l with
    | nil => simp [lo, hi]
    | cons x l ih =>
      by_cases h1 : klt (key x) k
      · have h2 := klt_asymm h1
        simp only [lo, hi, List.filter_cons, h1, h2, decide_true, decide_false, if_true, Bool.false_eq_true, if_false, List.length_cons]
        simp only [lo, hi] at ih
        omega
      · by_cases h2 : klt k (key x)
        · simp only [lo, hi, List.filter_cons, h1, h2, decide_true, decide_false, if_true, Bool.false_eq_true, if_false, List.length_cons]
          simp only [lo, hi] at ih
          omega
        · simp only [lo, hi, List.filter_cons, h1, h2, decide_false, Bool.false_eq_true, if_false, List.length_cons]
          simp only [lo, hi] at ih
          omega
  rw [List.length_append]
  exact this l
theorem has_iff {k : Ky} {l : List α} : has key k l = true ↔ ∃ x ∈ l, key x = k := by simp [has]
end
/-! ### configurations -/
structure Mb where
  id : Int
  ky : List UInt8
  off : Bool
  deriving DecidableEq
structure Rt where
  addr : Int
  bits : Int
  peer : Int
  deriving DecidableEq
structure Cf where
  ps : List Mb
  rs : List Rt
structure Opn where
  kind : Int
  ref : Int
  id : Int
  ky : List UInt8
  addr : Int
  bits : Int
  deriving DecidableEq
def Mb.key (m : Mb) : Ky := (m.id, 0)
def Rt.key (r : Rt) : Ky := (r.addr, r.bits)
/-- Is a configuration valid? -/
def Val (c : Cf) : Prop := c.ps.length ≤ 64 ∧ c.rs.length ≤ 256 ∧ (∀ m ∈ c.ps, isIDB m.id = true) ∧ Ord Mb.key c.ps ∧ (∀ r ∈ c.rs, prefB r.addr r.bits = true ∧ has Mb.key (r.peer, 0) c.ps = true) ∧ Ord Rt.key c.rs
def zkey : List UInt8 := List.replicate 32 0
/-- Is an operation valid? -/
def okOp (o : Opn) : Bool :=
  (decide (o.kind = 1) && decide (o.addr = 0) && decide (o.bits = 0) && isIDB o.id) ||
  ((decide (o.kind = 2) || decide (o.kind = 3)) && decide (o.ky = zkey) && decide (o.addr = 0) && decide (o.bits = 0) && isIDB o.id) ||
  (decide (o.kind = 4) && decide (o.ky = zkey) && isIDB o.id && prefB o.addr o.bits) ||
  (decide (o.kind = 5) && decide (o.id = 0) && decide (o.ky = zkey) && prefB o.addr o.bits)
end Go.Proofs.Ytedmogacklbcmaa.Cfg
namespace Go.Proofs.Ytedmogacklbcmaa.Cfg
open Go.RowKit
/-- A slice that reads as n rows of k cells, in a block below B. -/
def Tab (k : Nat) (w : World) (B : Nat) (v : Value) (n : Nat) (xs : List Value) : Prop :=
  ∃ A c, v = .slice A n c ∧ n ≤ c ∧ xs.length = n * k ∧ (n ≠ 0 → ∃ b off, A = some ⟨b, off, none⟩ ∧ b < B ∧ ∀ j x, xs[j]? = some x → w.cell? ⟨b, off + j, none⟩ = some x)
section
variable {k : Nat} {w w' : World} {B B' : Nat} {v : Value} {n : Nat} {xs : List Value}
theorem Tab.below (h : Tab k w B v n xs) (hb : Below B w w') : Tab k w' B v n xs := by
  obtain ⟨A, c, h1, h2, h3, h4⟩ := h
  refine ⟨A, c, h1, h2, h3, fun hne => ?_⟩
  obtain ⟨b, off, e, hlt, h5⟩ := h4 hne
  exact ⟨b, off, e, hlt, fun j x hx => (hb.cell (p := ⟨b, off + j, none⟩) hlt).trans (h5 j x hx)⟩
theorem Tab.more (h : Tab k w B v n xs) (hB : B ≤ B') : Tab k w B' v n xs := by
  obtain ⟨A, c, h1, h2, h3, h4⟩ := h
  refine ⟨A, c, h1, h2, h3, fun hne => ?_⟩
  obtain ⟨b, off, e, hlt, h5⟩ := h4 hne
  exact ⟨b, off, e, by omega, h5⟩
theorem Tab.shape (h : Tab k w B v n xs) : ∃ A c, v = .slice A n c ∧ n ≤ c := by
  obtain ⟨A, c, h1, h2, _⟩ := h
  exact ⟨A, c, h1, h2⟩
theorem Tab.nil (k : Nat) (w : World) (B : Nat) (A : Option Addr) (c : Nat) : Tab k w B (.slice A 0 c) 0 [] := ⟨A, c, rfl, Nat.zero_le _, by simp, fun h => absurd rfl h⟩
/-- A row of one's own, as a table. -/
theorem Tab.of_own {base : Nat} {e : TypeId} (h : w.ownsRow base e k v n xs) : Tab k w w.heap.size v n xs := by
  rcases h.2 with ⟨rfl, hl⟩ | ⟨g, cap, cur, rfl, _, hg, hnc, _⟩
  · subst hl
    exact ⟨none, 0, rfl, Nat.le_refl _, h.1, fun h => absurd rfl h⟩
  · refine ⟨_, cap, rfl, hnc, h.1, fun _ => ⟨g, 0, rfl, (Array.getElem?_eq_some_iff.1 hg).1, fun i u hu => ?_⟩⟩
    have := h.cells (g := g) rfl i u hu
    rwa [show (⟨g, 0, none⟩ : Addr).add i = ⟨g, 0 + i, none⟩ by unfold Addr.add; split <;> simp_all] at this
/-- A piece of a table. -/
theorem Tab.piece {A : Option Addr} {c i m : Nat} (h : Tab k w B (.slice A n c) n xs) (him : i + m ≤ n) (hm : m ≠ 0) : ∃ b off, A = some ⟨b, off, none⟩ ∧ b < B ∧ ∀ j x, ((xs.drop (i * k)).take (m * k))[j]? = some x → w.cell? ⟨b, off + i * k + j, none⟩ = some x := by
  obtain ⟨A', c', e, h2, h3, h4⟩ := h
  simp only [Value.slice.injEq, true_and] at e
  obtain ⟨rfl, rfl⟩ := e
  obtain ⟨b, off, rfl, hlt, h5⟩ := h4 (by omega)
  refine ⟨b, off, rfl, hlt, fun j x hx => ?_⟩
  rw [List.getElem?_take] at hx
  split at hx
  · rw [List.getElem?_drop] at hx
    rw [Nat.add_assoc]
    exact h5 _ _ hx
  · cases hx
end
section
variable {P : Program}
/-- Some cells in a row, read as one value. -/
theorem run_loadVar_cells (w : World) {b off n : Nat} {ty : TypeId} {cs : List Value} {d : TypeDesc} (hu : P.underlying ty = some d) (hd : (match d with | .struct _ | .array _ _ => true | _ => false) = true)
    (hi : (P.info? ty).map (·.size) = some n) (hn : cs.length = n) (hc : ∀ j x, cs[j]? = some x → w.cell? ⟨b, off + j, none⟩ = some x) : (loadVar ty ⟨b, off, none⟩).run P w = .ok (.agg cs.toArray) w := by
  have hl : (loadCells ⟨b, off, none⟩ cs.length).run P w = .ok cs.toArray w :=
    run_loadCells_list (P := P) w ⟨b, off, none⟩ cs (fun j v hv => by
      have hadd : (⟨b, off, none⟩ : Addr).add j = ⟨b, off + j, none⟩ := by unfold Addr.add; split <;> simp_all
      rw [hadd]
      exact hc j v hv)
  rw [hn] at hl
  cases hq : P.info? ty with
  | none => simp [hq] at hi
  | some i =>
    have hs : i.size = n := by simpa [hq] using hi
    have hagg : (isAgg ty).run P w = .ok true w := by
      unfold isAgg
      rw [Sem.run_bind, run_underlying hu w]
      cases d <;> simp_all
    simp [loadVar, Sem.run_bind, hagg, sizeOf, typeInfo, hq, hs, hl]
/-- append of rows onto a row of one's own. -/
theorem run_app_tab (w : World) {base B k bytes : Nat} {t ty e : TypeId} {i : TypeInfo} {z : Value} (ht : P.underlying t = some (.slice e)) (hi : P.info? e = some i) (hz : i.zero = some z) (hs : i.size = k) (hby : i.bytes = bytes) (hzs : z.cells.size = k) (hk : 0 < k)
    {v y : Value} {n m : Nat} {xs ys : List Value} (hown : w.ownsRow base e k v n xs) (hy : Tab k w B y m ys) (h1 : ∀ u ∈ ys, u.oneCell' = true) (hlen : n + m ≤ 1000000) (hb : bytes ≤ 1000) (hbase : base ≤ w.heap.size) :
    ∃ v' w', (Builtin.append_ #[t, t] ty #[v, y]).run P w = .ok v' w' ∧ w'.ownsRow base e k v' (n + m) (xs ++ ys) ∧ Below base w w' := by
  have hbytes : (n + m) * bytes ≤ 140737488355328 := by
    have := Nat.mul_le_mul hlen hb
    omega
  obtain ⟨A, c, rfl, hc, hl, hcell⟩ := hy
  by_cases hm : m = 0
  · subst hm
    have hys : ys = [] := List.eq_nil_of_length_eq_zero (by simpa using hl)
    subst hys
    refine ⟨v, w, ?_, by simpa using hown, Below.refl _ _⟩
    have hf : ∀ (cap : Nat) (base' : Option Addr), n ≤ cap → v = .slice base' n cap → (Builtin.append_ #[t, t] ty #[v, .slice A 0 c]).run P w = .ok v w := by
      intro cap base' hcap hv
      subst hv
      have hrun := Ev.run_append_fit (P := P) (ty := ty) (base := base') (m := n) (n := 0) (c := cap) (x := .slice A 0 c) (w := w) (new := #[]) ht ht (.inr ⟨_, rfl⟩) hi rfl (by cases A <;> simp [Builtin.firstCells, loadCells, loadCellsFrom]) (by omega)
      rw [hrun]
      cases base' <;> simp [storeCells]
    rcases hown.2 with ⟨rfl, hl'⟩ | ⟨g, cap, cur, rfl, _, _, hnc, _⟩
    · exact hf 0 none (by omega) (by rw [hl'])
    · exact hf cap _ hnc rfl
  · obtain ⟨b, off, rfl, hlt, hcs⟩ := hcell hm
    obtain ⟨v', w', k1, k2, k3, _, k5⟩ := run_append_own_at (P := P) w base t ty e i z k bytes ht hi hz hs hby hzs hk v n xs hown ⟨b, off, none⟩ m c ys hl
      (by
        intro j u hj
        rw [show (⟨b, off, none⟩ : Addr).add j = ⟨b, off + j, none⟩ by unfold Addr.add; split <;> simp_all]
        exact hcs j u hj)
      h1 (by unfold maxLen; omega) hbytes hbase
    refine ⟨v', w', k1, k2, ?_⟩
    refine ⟨k3.os, k3.tape, k3.output, k3.size, fun j hj => k3.block j (by omega) fun e => ?_⟩
    have := (hown.lt j e.symm).1
    omega
theorem wpList_app_tab (w : World) {base B k bytes : Nat} {t e : TypeId} {i : TypeInfo} {z : Value} (ht : P.underlying t = some (.slice e)) (hi : P.info? e = some i) (hz : i.zero = some z) (hs : i.size = k) (hby : i.bytes = bytes) (hzs : z.cells.size = k) (hk : 0 < k)
    {ops : Array Oper} {rest : List Oper} {o : Oper} {a : Act} {Q : Exit → Act → World → Prop} (hgd : o.guard = none) (so xo : Operand) (ho : o.op = .call { callee := .builtin .append, args := #[so, xo], argTypes := #[t, t] })
    {v y : Value} {n m : Nat} {xs ys : List Value} (hsv : a.eval so = v) (hown : w.ownsRow base e k v n xs) (hyv : a.eval xo = y) (hy : Tab k w B y m ys) (h1 : ∀ u ∈ ys, u.oneCell' = true) (hlen : n + m ≤ 1000000) (hb : bytes ≤ 1000) (hbase : base ≤ w.heap.size)
    (h : ∀ v' w', w'.ownsRow base e k v' (n + m) (xs ++ ys) → Below base w w' → wpList P ops Q rest (a.put o.dst v') w') : wpList P ops Q (o :: rest) a w := by
  refine wpList_plain hgd fun K hK => ?_
  obtain ⟨v', w', hr, h2, h3⟩ := run_app_tab (P := P) w (ty := o.type) ht hi hz hs hby hzs hk hown hy h1 hlen hb hbase
  unfold Oper.wp execOp
  simp only [ho, resolve, invoke, builtin, Sem.run_bind, Sem.run_pure, Result.andThen_ok, List.map_toArray, List.map_cons, List.map_nil, hsv, hyv, hr]
  exact hK _ _ (h v' w' h2 h3)
end
/-! ### peers, routes -/
def Mb.cs (m : Mb) : List Value := .int .i64 m.id :: (m.ky.map bv ++ [.bool m.off])
def Mb.val (m : Mb) : Value := .agg m.cs.toArray
def Rt.cs (r : Rt) : List Value := [.int .u32 r.addr, .int .i64 r.bits, .int .i64 r.peer]
def Rt.val (r : Rt) : Value := .agg r.cs.toArray
def mcs (l : List Mb) : List Value := l.flatMap Mb.cs
def rcs (l : List Rt) : List Value := l.flatMap Rt.cs
/-- Its key has 32 bytes. -/
def K32 (l : List Mb) : Prop := ∀ m ∈ l, m.ky.length = 32
theorem Mb.len {m : Mb} (h : m.ky.length = 32) : m.cs.length = 34 := by simp [Mb.cs, h]
theorem Mb.one (m : Mb) : ∀ v ∈ m.cs, v.oneCell' = true := by
  intro v hv
  simp only [Mb.cs, List.mem_cons, List.mem_append, List.mem_map, List.not_mem_nil, or_false] at hv
  rcases hv with rfl | ⟨u, _, rfl⟩ | rfl <;> rfl
theorem Rt.one (r : Rt) : ∀ v ∈ r.cs, v.oneCell' = true := by
  intro v hv
  simp only [Rt.cs, List.mem_cons, List.not_mem_nil, or_false] at hv
  rcases hv with rfl | rfl | rfl <;> rfl
theorem mcs_one (l : List Mb) : ∀ v ∈ mcs l, v.oneCell' = true := by
  intro v hv
  obtain ⟨m, _, h⟩ := List.mem_flatMap.1 hv
  exact m.one v h
theorem rcs_one (l : List Rt) : ∀ v ∈ rcs l, v.oneCell' = true := by
  intro v hv
  obtain ⟨m, _, h⟩ := List.mem_flatMap.1 hv
  exact m.one v h
section
variable {α : Type} (f : α → List Value) (k : Nat)
theorem flat_len : ∀ (l : List α), (∀ x ∈ l, (f x).length = k) → (l.flatMap f).length = l.length * k
  | [], _ => by simp
  | x :: l, h => by
    have h1 := h x (by simp)
    have h2 := flat_len l fun y hy => h y (by simp [hy])
    rw [List.flatMap_cons, List.length_append, h1, h2, List.length_cons, Nat.add_mul]
    omega
theorem flat_drop : ∀ (l : List α) (i : Nat), (∀ x ∈ l, (f x).length = k) → (l.flatMap f).drop (i * k) = (l.drop i).flatMap f
  | l, 0, _ => by simp
  | [], i + 1, _ => by simp
  | x :: l, i + 1, h => by
    have h1 := h x (by simp)
    rw [List.flatMap_cons, List.drop_succ_cons, show (i + 1) * k = (f x).length + i * k by rw [h1, Nat.add_mul]; omega, List.drop_append, List.drop_of_length_le (by omega), List.nil_append, Nat.add_sub_cancel_left]
    exact flat_drop l i fun y hy => h y (by simp [hy])
theorem flat_take : ∀ (l : List α) (i : Nat), (∀ x ∈ l, (f x).length = k) → (l.flatMap f).take (i * k) = (l.take i).flatMap f
  | l, 0, _ => by simp
  | [], i + 1, _ => by simp
  | x :: l, i + 1, h => by
    have h1 := h x (by simp)
    rw [List.flatMap_cons, List.take_succ_cons, List.flatMap_cons, show (i + 1) * k = (f x).length + i * k by rw [h1, Nat.add_mul]; omega, List.take_length_add_append]
    congr 1
    exact flat_take l i fun y hy => h y (by simp [hy])
theorem flat_at {l : List α} {i : Nat} {x : α} (h : ∀ x ∈ l, (f x).length = k) (hx : l[i]? = some x) : ((l.flatMap f).drop (i * k)).take (1 * k) = f x := by
  rw [flat_drop f k l i h, flat_take f k _ 1 fun y hy => h y (List.mem_of_mem_drop hy)]
  have hlt := (List.getElem?_eq_some_iff.1 hx).1
  rw [List.drop_eq_getElem_cons hlt]
  rw [List.getElem?_eq_getElem hlt] at hx
  cases hx
  simp only [List.take_succ_cons, List.take_zero, List.flatMap_cons, List.flatMap_nil, List.append_nil]
end
/-- A slice of peers, of routes. -/
def MTab (w : World) (B : Nat) (v : Value) (l : List Mb) : Prop := K32 l ∧ Tab 34 w B v l.length (mcs l)
def RTab (w : World) (B : Nat) (v : Value) (l : List Rt) : Prop := Tab 3 w B v l.length (rcs l)
theorem K32.cs {l : List Mb} (h : K32 l) : ∀ m ∈ l, m.cs.length = 34 := fun m hm => Mb.len (h m hm)
theorem MTab.below {w w' : World} {B : Nat} {v : Value} {l : List Mb} (h : MTab w B v l) (hb : Below B w w') : MTab w' B v l := ⟨h.1, h.2.below hb⟩
theorem MTab.more {w : World} {B B' : Nat} {v : Value} {l : List Mb} (h : MTab w B v l) (hB : B ≤ B') : MTab w B' v l := ⟨h.1, h.2.more hB⟩
theorem RTab.below {w w' : World} {B : Nat} {v : Value} {l : List Rt} (h : RTab w B v l) (hb : Below B w w') : RTab w' B v l := Tab.below h hb
theorem RTab.more {w : World} {B B' : Nat} {v : Value} {l : List Rt} (h : RTab w B v l) (hB : B ≤ B') : RTab w B' v l := Tab.more h hB
/-- An element of a table of peers. -/
theorem MTab.at {w : World} {B : Nat} {A : Option Addr} {n c : Nat} {l : List Mb} (h : MTab w B (.slice A n c) l) {i : Nat} {m : Mb} (hm : l[i]? = some m) :
    ∃ b off, A = some ⟨b, off, none⟩ ∧ b < B ∧ (∀ j x, m.cs[j]? = some x → w.cell? ⟨b, off + i * 34 + j, none⟩ = some x) ∧ (loadVar 95 ⟨b, off + i * 34, none⟩).run Try.prog w = .ok m.val w := by
  obtain ⟨hk, ht⟩ := h
  have hn : n = l.length := by obtain ⟨_, _, e, _⟩ := ht; simp only [Value.slice.injEq] at e; exact e.2.1
  subst hn
  have hlt := (List.getElem?_eq_some_iff.1 hm).1
  obtain ⟨b, off, rfl, hb, hc⟩ := ht.piece (i := i) (m := 1) (by omega) (by decide)
  unfold mcs at hc
  rw [flat_at Mb.cs 34 hk.cs hm] at hc
  exact ⟨b, off, rfl, hb, hc, run_loadVar_cells w Try.underlying95 rfl (by kernel_rfl) (Mb.len (hk m (List.mem_of_getElem? hm))) hc⟩
theorem RTab.at {w : World} {B : Nat} {A : Option Addr} {n c : Nat} {l : List Rt} (h : RTab w B (.slice A n c) l) {i : Nat} {m : Rt} (hm : l[i]? = some m) :
    ∃ b off, A = some ⟨b, off, none⟩ ∧ b < B ∧ (∀ j x, m.cs[j]? = some x → w.cell? ⟨b, off + i * 3 + j, none⟩ = some x) ∧ (loadVar 98 ⟨b, off + i * 3, none⟩).run Try.prog w = .ok m.val w := by
  have ht : Tab 3 w B (.slice A n c) l.length (rcs l) := h
  have hn : n = l.length := by obtain ⟨_, _, e, _⟩ := ht; simp only [Value.slice.injEq] at e; exact e.2.1
  subst hn
  have hlt := (List.getElem?_eq_some_iff.1 hm).1
  obtain ⟨b, off, rfl, hb, hc⟩ := ht.piece (i := i) (m := 1) (by omega) (by decide)
  unfold rcs at hc
  rw [flat_at Rt.cs 3 (fun _ _ => rfl) hm] at hc
  exact ⟨b, off, rfl, hb, hc, run_loadVar_cells w Try.underlying98 rfl (by kernel_rfl) rfl hc⟩
end Go.Proofs.Ytedmogacklbcmaa.Cfg
