/- config: tables in order, what the operations do of them, in plain terms. -/
import Derived.Test.YtigjbgjjngeinaaFrame
import Derived.Test.YtigjbgjjngeinaaRow
namespace Go.Proofs.Ytigjbgjjngeinaa.Cfg
open Go.RowKit
def isIDB (x : Int) : Bool := decide (1 ≤ x) && decide (x ≤ 65536)
set_option maxRecDepth 100000 in
theorem isID_any (x : Int) (w : World) : Calls Try.prog 90 #[.int .i64 x] w fun e w' => e = .returned (.bool (isIDB x)) ∧ w = w' := by
  by_cases h1 : (1 : Int) ≤ x
  · by_cases h2 : x ≤ 65536
    · go_enter Try.func90, Try.ntmps90
      go_wp2
      go_ret
      exact ⟨by simp [isIDB, h1, h2], rfl⟩
    · go_enter Try.func90, Try.ntmps90
      go_wp2
      go_ret
      exact ⟨by simp [isIDB, h1, h2], rfl⟩
  · go_enter Try.func90, Try.ntmps90
    go_wp2
    go_ret
    exact ⟨by simp [isIDB]; omega, rfl⟩
/-- The mask of a prefix of b bits. -/
def maskZ (b : Int) : Int := if b < 0 then 0 else if 32 < b then 4294967295 else 4294967295 * 2 ^ (32 - b).toNat % 4294967296
set_option maxRecDepth 100000 in
theorem Mask_any (b : Int) (w : World) : Calls Try.prog 87 #[.int .i64 b] w fun e w' => e = .returned (.int .u32 (maskZ b)) ∧ w = w' := by
  unfold maskZ
  by_cases h1 : b < 0
  · have h2 : (0 : Int) ≤ 32 := by decide
    rw [if_pos h1]
    go_enter Try.func87, Try.ntmps87
    go_wp2
    all_goals
      first
      | omega
      | (go_ret; exact ⟨rfl, rfl⟩)
  · by_cases h2 : 32 < b
    · rw [if_neg h1, if_pos h2]
      go_enter Try.func87, Try.ntmps87
      go_wp2
      all_goals
        first
        | omega
        | (go_ret; exact ⟨rfl, rfl⟩)
    · rw [if_neg h1, if_neg h2]
      go_enter Try.func87, Try.ntmps87
      go_wp2
      all_goals
        first
        | omega
        | (go_ret; exact ⟨rfl, rfl⟩)
theorem maskZ_in (b : Int) : 0 ≤ maskZ b ∧ maskZ b < 4294967296 := by
  unfold maskZ
  split
  · decide
  · split
    · decide
    · exact ⟨Int.emod_nonneg _ (by decide), Int.emod_lt_of_pos _ (by decide)⟩
/-- Is a an address with nothing behind its first b bits? -/
def prefB (a b : Int) : Bool := decide (0 ≤ b) && decide (b ≤ 32) && (bits .andNot .u32 a (maskZ b) == 0)
set_option maxRecDepth 100000 in
theorem isPrefix_any (a b : Int) (w : World) : Calls Try.prog 92 #[.int .u32 a, .int .i64 b] w fun e w' => e = .returned (.bool (prefB a b)) ∧ w = w' := by
  by_cases h1 : (0 : Int) ≤ b
  · by_cases h2 : b ≤ 32
    · have e : prefB a b = (bits .andNot .u32 a (maskZ b) == 0) := by simp [prefB, h1, h2]
      rw [e]
      have HP := Lib.hid (Mask_any b)
      obtain ⟨m, hm⟩ : ∃ m, maskZ b = m := ⟨_, rfl⟩
      rw [hm] at HP ⊢
      clear hm e
      go_enter Try.func92, Try.ntmps92
      go_wp2_with (first | (go_at_call 87; refine (HP.out _).mono ?_; rintro e w' ⟨rfl, rfl⟩) | fail)
      go_ret
      exact ⟨rfl, rfl⟩
    · have e : prefB a b = false := by simp [prefB, h2]
      rw [e]
      clear e
      have h3 : 32 < b := by omega
      go_enter Try.func92, Try.ntmps92
      go_wp2
      go_ret
      exact ⟨rfl, rfl⟩
  · have e : prefB a b = false := by simp [prefB, h1]
    rw [e]
    clear e
    go_enter Try.func92, Try.ntmps92
    go_wp2
    go_ret
    exact ⟨rfl, rfl⟩
end Go.Proofs.Ytigjbgjjngeinaa.Cfg
namespace Go.Proofs.Ytigjbgjjngeinaa.Cfg
/-- Keys of a table: pairs in their order. -/
abbrev Ky := Int × Int
def klt (a b : Ky) : Prop := a.1 < b.1 ∨ (a.1 = b.1 ∧ a.2 < b.2)
instance (a b : Ky) : Decidable (klt a b) := by unfold klt; infer_instance
theorem klt_irrefl (a : Ky) : ¬ klt a a := by unfold klt; omega
theorem klt_trans {a b c : Ky} (h : klt a b) (k : klt b c) : klt a c := by unfold klt at *; omega
theorem klt_asymm {a b : Ky} (h : klt a b) : ¬ klt b a := by unfold klt at *; omega
theorem klt_tri (a b : Ky) : klt a b ∨ a = b ∨ klt b a := by
  obtain ⟨a1, a2⟩ := a
  obtain ⟨b1, b2⟩ := b
  unfold klt
  simp only [Prod.mk.injEq]
  omega
section
variable {α : Type} (key : α → Ky)
/-- A table in order. -/
def Ord (l : List α) : Prop := l.Pairwise fun x y => klt (key x) (key y)
/-- Where what has the key k belongs. -/
def pos (k : Ky) (l : List α) : Nat := l.countP fun x => decide (klt (key x) k)
def lo (k : Ky) (l : List α) : List α := l.filter fun x => decide (klt (key x) k)
def hi (k : Ky) (l : List α) : List α := l.filter fun x => decide (klt k (key x))
variable {key}
theorem pos_le (k : Ky) (l : List α) : pos key k l ≤ l.length := List.countP_le_length
theorem Ord.tail {x : α} {l : List α} (h : Ord key (x :: l)) : Ord key l := (List.pairwise_cons.1 h).2
theorem Ord.all_hi {x : α} {l : List α} (h : Ord key (x :: l)) {k : Ky} (hk : ¬ klt (key x) k) : ∀ y ∈ l, klt k (key y) := by
  intro y hy
  have h1 := (List.pairwise_cons.1 h).1 y hy
  rcases klt_tri (key x) k with h2 | h2 | h2
  · exact absurd h2 hk
  · rw [← h2]; exact h1
  · exact klt_trans h2 h1
theorem filter_none {p : α → Bool} {l : List α} (h : ∀ x ∈ l, p x = false) : l.filter p = [] := List.filter_eq_nil_iff.2 fun x hx => by simp [h x hx]
theorem filter_all {p : α → Bool} {l : List α} (h : ∀ x ∈ l, p x = true) : l.filter p = l := List.filter_eq_self.2 h
theorem take_pos : ∀ {l : List α} (k : Ky), Ord key l → l.take (pos key k l) = lo key k l
  | [], k, _ => rfl
  | x :: l, k, h => by
    by_cases hx : klt (key x) k
    · have e : pos key k (x :: l) = pos key k l + 1 := by simp [pos, hx]
      rw [e, List.take_succ_cons, take_pos k h.tail]
      simp [lo, hx]
    · have hall := h.all_hi hx
      have e : pos key k (x :: l) = 0 := by
        unfold pos
        rw [List.countP_eq_zero]
        intro y hy
        rcases List.mem_cons.1 hy with rfl | hy
        · simpa using hx
        · simpa using klt_asymm (hall y hy)
      have e2 : lo key k (x :: l) = [] := filter_none fun y hy => by
        rcases List.mem_cons.1 hy with rfl | hy
        · simpa using hx
        · simpa using klt_asymm (hall y hy)
      rw [e, e2]
      rfl
/-- Is something with that key there? -/
def has (key : α → Ky) (k : Ky) (l : List α) : Bool := l.any fun x => decide (key x = k)
theorem drop_pos : ∀ {l : List α} (k : Ky), Ord key l → l.drop (pos key k l + (if has key k l = true then 1 else 0)) = hi key k l
  | [], k, _ => by simp [hi]
  | x :: l, k, h => by
    by_cases hx : klt (key x) k
    · have e : pos key k (x :: l) = pos key k l + 1 := by simp [pos, hx]
      have hne : ¬ key x = k := fun e => klt_irrefl k (e ▸ hx)
      have e2 : has key k (x :: l) = has key k l := by simp [has, hne]
      rw [e, e2, show pos key k l + 1 + (if has key k l = true then 1 else 0) = (pos key k l + (if has key k l = true then 1 else 0)) + 1 by omega, List.drop_succ_cons, drop_pos k h.tail]
      have h3 := klt_asymm hx
      simp [hi, h3]
    · have hall := h.all_hi hx
      have e : pos key k (x :: l) = 0 := by
        unfold pos
        rw [List.countP_eq_zero]
        intro y hy
        rcases List.mem_cons.1 hy with rfl | hy
        · simpa using hx
        · simpa using klt_asymm (hall y hy)
      have e3 : hi key k l = l := filter_all fun y hy => by simpa using hall y hy
      rcases klt_tri (key x) k with h2 | h2 | h2
      · exact absurd h2 hx
      · have e2 : has key k (x :: l) = true := by simp [has, h2]
        rw [e, e2, if_pos rfl]
        have h4 : ¬ klt k (key x) := by rw [h2]; exact klt_irrefl k
        show l = _
        have : hi key k (x :: l) = hi key k l := by simp [hi, h4]
        rw [this, e3]
      · have e2 : has key k (x :: l) = false := by
          simp only [has, List.any_eq_false, decide_eq_true_eq]
          intro y hy ek
          rcases List.mem_cons.1 hy with hyx | hy
          · rw [hyx] at ek; rw [ek] at h2; exact klt_irrefl _ h2
          · have := hall y hy; rw [ek] at this; exact klt_irrefl _ this
        rw [e, e2]
        have : hi key k (x :: l) = x :: hi key k l := by simp [hi, h2]
        rw [this, e3]
        rfl
theorem at_pos : ∀ {l : List α} (k : Ky), Ord key l → has key k l = true → ∃ x, l[pos key k l]? = some x ∧ key x = k
  | [], k, _, hh => by simp [has] at hh
  | x :: l, k, h, hh => by
    by_cases hx : klt (key x) k
    · have e : pos key k (x :: l) = pos key k l + 1 := by simp [pos, hx]
      have hne : ¬ key x = k := fun e => klt_irrefl k (e ▸ hx)
      have e2 : has key k (x :: l) = has key k l := by simp [has, hne]
      rw [e2] at hh
      rw [e, List.getElem?_cons_succ]
      exact at_pos k h.tail hh
    · have hall := h.all_hi hx
      have e : pos key k (x :: l) = 0 := by
        unfold pos
        rw [List.countP_eq_zero]
        intro y hy
        rcases List.mem_cons.1 hy with rfl | hy
        · simpa using hx
        · simpa using klt_asymm (hall y hy)
      rw [e]
      refine ⟨x, rfl, ?_⟩
      simp only [has, List.any_eq_true, decide_eq_true_eq] at hh
      obtain ⟨y, hy, hyk⟩ := hh
      rcases List.mem_cons.1 hy with rfl | hy
      · exact hyk
      · have := hall y hy; rw [hyk] at this; exact absurd this (klt_irrefl _)
theorem not_at {l : List α} {k : Ky} {x : α} (hh : has key k l = false) (h : l[pos key k l]? = some x) : ¬ key x = k := by
  simp only [has, List.any_eq_false, decide_eq_true_eq] at hh
  exact hh x (List.mem_of_getElem? h)
theorem mem_lo {k : Ky} {l : List α} {x : α} : x ∈ lo key k l ↔ x ∈ l ∧ klt (key x) k := by simp [lo]
theorem mem_hi {k : Ky} {l : List α} {x : α} : x ∈ hi key k l ↔ x ∈ l ∧ klt k (key x) := by simp [hi]
/-- What has another key. -/
theorem mem_lo_hi {k : Ky} {l : List α} {x : α} : x ∈ lo key k l ++ hi key k l ↔ x ∈ l ∧ key x ≠ k := by
  rw [List.mem_append, mem_lo, mem_hi]
  constructor
  · rintro (⟨h1, h2⟩ | ⟨h1, h2⟩)
    · exact ⟨h1, fun e => klt_irrefl k (by rw [e] at h2; exact h2)⟩
    · exact ⟨h1, fun e => klt_irrefl k (by rw [e] at h2; exact h2)⟩
  · rintro ⟨h1, h2⟩
    rcases klt_tri (key x) k with h3 | h3 | h3
    · exact .inl ⟨h1, h3⟩
    · exact absurd h3 h2
    · exact .inr ⟨h1, h3⟩
theorem mem_put {k : Ky} {l : List α} {x y : α} : x ∈ lo key k l ++ y :: hi key k l ↔ x = y ∨ (x ∈ l ∧ key x ≠ k) := by
  rw [← mem_lo_hi]
  simp only [List.mem_append, List.mem_cons]
  constructor
  · rintro (h | h | h)
    · exact .inr (.inl h)
    · exact .inl h
    · exact .inr (.inr h)
  · rintro (h | h | h)
    · exact .inr (.inl h)
    · exact .inl h
    · exact .inr (.inr h)
theorem Ord.filter {l : List α} (h : Ord key l) (p : α → Bool) : Ord key (l.filter p) := List.Pairwise.filter p h
theorem Ord.del {l : List α} (h : Ord key l) (k : Ky) : Ord key (lo key k l ++ hi key k l) := by
  unfold Ord
  rw [List.pairwise_append]
  exact ⟨h.filter _, h.filter _, fun x hx y hy => klt_trans (mem_lo.1 hx).2 (mem_hi.1 hy).2⟩
theorem Ord.put {l : List α} (h : Ord key l) {k : Ky} {y : α} (hy : key y = k) : Ord key (lo key k l ++ y :: hi key k l) := by
  unfold Ord
  rw [List.pairwise_append]
  refine ⟨h.filter _, List.pairwise_cons.2 ⟨fun x hx => ?_, h.filter _⟩, fun x hx z hz => ?_⟩
  · rw [hy]; exact (mem_hi.1 hx).2
  · rcases List.mem_cons.1 hz with rfl | hz
    · rw [hy]; exact (mem_lo.1 hx).2
    · exact klt_trans (mem_lo.1 hx).2 (mem_hi.1 hz).2
/-- Tables in order with the same in them are the same. -/
theorem Ord.ext : ∀ {l m : List α}, Ord key l → Ord key m → (∀ x, x ∈ l ↔ x ∈ m) → l = m
  | [], [], _, _, _ => rfl
  | [], y :: m, _, _, h => absurd ((h y).2 List.mem_cons_self) (by simp)
  | x :: l, [], _, _, h => absurd ((h x).1 List.mem_cons_self) (by simp)
  | x :: l, y :: m, hl, hm, h => by
    have hxl := (List.pairwise_cons.1 hl).1
    have hym := (List.pairwise_cons.1 hm).1
    have hxy : x = y := by
      rcases List.mem_cons.1 ((h x).1 List.mem_cons_self) with e | h1
      · exact e
      · rcases List.mem_cons.1 ((h y).2 List.mem_cons_self) with e | h2
        · exact e.symm
        · exact absurd (klt_trans (hym x h1) (hxl y h2)) (klt_irrefl _)
    subst hxy
    congr 1
    refine Ord.ext hl.tail hm.tail fun z => ?_
    constructor
    · intro hz
      rcases List.mem_cons.1 ((h z).1 (List.mem_cons_of_mem _ hz)) with e | h1
      · subst e; exact absurd (hxl _ hz) (klt_irrefl _)
      · exact h1
    · intro hz
      rcases List.mem_cons.1 ((h z).2 (List.mem_cons_of_mem _ hz)) with e | h1
      · subst e; exact absurd (hym _ hz) (klt_irrefl _)
      · exact h1
theorem Ord.one {l : List α} (h : Ord key l) {x y : α} (hx : x ∈ l) (hy : y ∈ l) (he : key x = key y) : x = y := by
  induction l with
  | nil => simp at hx
  | cons z l ih =>
    have h1 := (List.pairwise_cons.1 h).1
    rcases List.mem_cons.1 hx with ex | hx <;> rcases List.mem_cons.1 hy with ey | hy
    · rw [ex, ey]
    · have := h1 y hy; rw [← ex, he] at this; exact absurd this (klt_irrefl _)
    · have := h1 x hx; rw [← ey, he] at this; exact absurd this (klt_irrefl _)
    · exact ih h.tail hx hy
theorem Ord.snoc {l : List α} {x y : α} (h : Ord key (l ++ [x])) (hy : klt (key x) (key y)) : Ord key (l ++ [x] ++ [y]) := by
  unfold Ord at *
  rw [List.pairwise_append]
  refine ⟨h, List.pairwise_singleton _ _, fun z hz w hw => ?_⟩
  simp only [List.mem_cons, List.not_mem_nil, or_false] at hw
  subst hw
  rcases List.mem_append.1 hz with hz | hz
  · exact klt_trans ((List.pairwise_append.1 h).2.2 z hz x (by simp)) hy
  · simp only [List.mem_cons, List.not_mem_nil, or_false] at hz
    subst hz
    exact hy
theorem len_put {l : List α} (h : Ord key l) (k : Ky) (y : α) : (lo key k l ++ y :: hi key k l).length = l.length + (if has key k l = true then 0 else 1) := by
  rw [List.length_append, List.length_cons, ← take_pos k h, ← drop_pos k h, List.length_take, List.length_drop, Nat.min_eq_left (pos_le k l)]
  have h1 := pos_le (key := key) k l
  cases hh : has key k l with
  | false => simp; omega
  | true =>
    obtain ⟨x, hx, _⟩ := at_pos k h hh
    have := (List.getElem?_eq_some_iff.1 hx).1
    simp
    omega
theorem len_del {l : List α} (k : Ky) : (lo key k l ++ hi key k l).length ≤ l.length := by
  have : ∀ l : List α, (lo key k l).length + (hi key k l).length ≤ l.length := by
    intro l
    induction l with
    | nil => simp [lo, hi]
    | cons x l ih =>
      by_cases h1 : klt (key x) k
      · have h2 := klt_asymm h1
        simp only [lo, hi, List.filter_cons, h1, h2, decide_true, decide_false, if_true, Bool.false_eq_true, if_false, List.length_cons]
        simp only [lo, hi] at ih
        omega
      · by_cases h2 : klt k (key x)
        · simp only [lo, hi, List.filter_cons, h1, h2, decide_true, decide_false, if_true, Bool.false_eq_true, if_false, List.length_cons]
          simp only [lo, hi] at ih
          omega
        · simp only [lo, hi, List.filter_cons, h1, h2, decide_false, Bool.false_eq_true, if_false, List.length_cons]
          simp only [lo, hi] at ih
          omega
  rw [List.length_append]
  exact this l
theorem has_iff {k : Ky} {l : List α} : has key k l = true ↔ ∃ x ∈ l, key x = k := by simp [has]
end
/-! ### configurations -/
structure Mb where
  id : Int
  ky : List UInt8
  off : Bool
  deriving DecidableEq
structure Rt where
  addr : Int
  bits : Int
  peer : Int
  deriving DecidableEq
structure Cf where
  ps : List Mb
  rs : List Rt
structure Opn where
  kind : Int
  ref : Int
  id : Int
  ky : List UInt8
  addr : Int
  bits : Int
  deriving DecidableEq
def Mb.key (m : Mb) : Ky := (m.id, 0)
def Rt.key (r : Rt) : Ky := (r.addr, r.bits)
/-- Is a configuration valid? -/
def Val (c : Cf) : Prop := c.ps.length ≤ 64 ∧ c.rs.length ≤ 256 ∧ (∀ m ∈ c.ps, isIDB m.id = true) ∧ Ord Mb.key c.ps ∧ (∀ r ∈ c.rs, prefB r.addr r.bits = true ∧ has Mb.key (r.peer, 0) c.ps = true) ∧ Ord Rt.key c.rs
def zkey : List UInt8 := List.replicate 32 0
/-- Is an operation valid? -/
def okOp (o : Opn) : Bool :=
  (decide (o.kind = 1) && decide (o.addr = 0) && decide (o.bits = 0) && isIDB o.id) ||
  ((decide (o.kind = 2) || decide (o.kind = 3)) && decide (o.ky = zkey) && decide (o.addr = 0) && decide (o.bits = 0) && isIDB o.id) ||
  (decide (o.kind = 4) && decide (o.ky = zkey) && isIDB o.id && prefB o.addr o.bits) ||
  (decide (o.kind = 5) && decide (o.id = 0) && decide (o.ky = zkey) && prefB o.addr o.bits)
end Go.Proofs.Ytigjbgjjngeinaa.Cfg
