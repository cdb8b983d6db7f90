/- The evaluator on numbers that are not known: what a call answers for plain arguments, as operations on whole numbers. -/
import Derived.Test.YtpllbnioncjhaaaEvAll
import Derived.Test.YtpllbnioncjhaaaW32
import Derived.KernelRfl
namespace Go.Proofs.Ytpllbnioncjhaaa
open Go.RowKit

namespace Ev
/-- Plain values, and tuples of such. -/
def flat2 : Value → Bool
  | .tuple cs => cs.toList.all flat
  | v => flat v
theorem VR.flat2_eq {β : Pl} {v v' : Value} (h : VR β v v') (hf : flat2 v = true) : v' = v := by
  cases h with
  | flat _ => rfl
  | ptr _ => simp [flat2, Ev.flat, atom] at hf
  | slice _ _ => simp [flat2, Ev.flat, atom] at hf
  | agg hs h => exact VR.flat_eq (.agg hs h) hf
  | tuple hs h =>
    rename_i cs cs'
    congr 1
    apply Array.ext_getElem?
    intro i
    cases hi : cs[i]? with
    | none =>
      have : ¬ i < cs.size := by intro hlt; rw [Array.getElem?_eq_getElem hlt] at hi; cases hi
      exact Array.getElem?_eq_none (by omega)
    | some v =>
      have hlt : i < cs.size := (Array.getElem?_eq_some_iff.1 hi).1
      have hi' : cs'[i]? = some (cs'[i]'(by omega)) := Array.getElem?_eq_getElem (by omega)
      have hr := h i v _ hi hi'
      simp only [flat2, List.all_eq_true] at hf
      have := hr.flat_eq (hf v (by rw [Array.mem_toList_iff]; exact Array.mem_of_getElem? hi))
      rw [hi', this]
  | func _ _ _ _ _ => simp [flat2, Ev.flat, atom] at hf
  | map _ => simp [flat2, Ev.flat, atom] at hf
theorem calls_sym {P : Program} (hm : P.follows .mixedOrders = true) {n : Nat} {f : FuncId} {args : Array Value} {v : Value} (hargs : (args.toList.all flat) = true) (h : (evBody P (evC P n) f args .empty).map Prod.fst = some v) (hv : flat2 v = true) (w : World) :
    Calls P f args w fun e w1 => e = .returned v ∧ Below w.heap.size w w1 := by
  rw [Option.map_eq_some_iff] at h
  obtain ⟨⟨v0, a1⟩, h, rfl⟩ := h
  refine (body_sound (w0 := only w) (code_sound hm n) _ _ _ _ args args _ a1 (Emb.start P w) (.of_flat (List.all_eq_true.1 hargs)) h).mono ?_
  rintro e w1 ⟨β1, v', rfl, _, h2, h3⟩
  rw [h3.flat2_eq hv]
  exact ⟨rfl, h2.below.below fun _ h => h⟩

/-! ### Blocks of the caller's: some may be changed (kind 0), of others cells are read (kind 3) -/
def ofList : List Blk → Nat → Tr Blk → Tr Blk
  | [], _, t => t
  | x :: r, i, t => ofList r (i + 1) (Tr.set 32 t i x)
theorem ofList_get : ∀ (l : List Blk) (i : Nat) (t : Tr Blk) (k : Nat), i + l.length ≤ 1000000 → (ofList l i t).get k = if i ≤ k then (match l[k - i]? with | some x => some x | none => t.get k) else t.get k := by
  intro l
  induction l with
  | nil => intro i t k _; simp [ofList]
  | cons x r ih =>
    intro i t k h
    simp only [List.length_cons] at h
    unfold ofList
    rw [ih (i + 1) _ k (by omega), Tr.get_set 32 t i x k (by simp; omega)]
    rcases Nat.lt_trichotomy k i with hk | hk | hk
    · simp [show ¬ i + 1 ≤ k by omega, show ¬ i ≤ k by omega, show k ≠ i by omega]
    · subst hk
      rw [if_neg (by omega), if_pos rfl, if_pos (Nat.le_refl _), Nat.sub_self]
      rfl
    · have e : k - i = (k - (i + 1)) + 1 := by omega
      rw [e, List.getElem?_cons_succ]
      simp [show i + 1 ≤ k by omega, show i ≤ k by omega, show k ≠ i by omega]

/-- What is handed to a call, block by block: the cells, and where they lie. -/
def Given (w : World) (K : Nat → Prop) (x : Blk × BI) : Prop :=
  x.1.cells.all flat = true ∧
  ((x.1.kind = 0 ∧ K x.2.blk ∧ x.2.off = 0 ∧ x.2.ext = 0 ∧ w.heap[x.2.blk]? = some (.cells x.1.cells.toArray x.1.elem (0, 0))) ∨
   (x.1.kind = 3 ∧ ¬ K x.2.blk ∧ x.2.blk < w.heap.size ∧ ∀ (j : Nat) (v : Value), x.1.cells[j]? = some v → w.cell? ⟨x.2.blk, x.2.off + j, none⟩ = some v))

def pl (l : List (Blk × BI)) : Pl := fun i => (l[i]?).map (·.2)
def aw (l : List Blk) : AW := ⟨ofList l 0 .lf, l.length, .lf, 0⟩

theorem Emb.given {P : Program} {w : World} {K : Nat → Prop} {l : List (Blk × BI)} (hl : l.length ≤ 1000000) (hg : ∀ x ∈ l, Given w K x)
    (hd : ∀ (i j : Nat) (x y : Blk × BI), l[i]? = some x → l[j]? = some y → x.1.kind = 0 → y.1.kind = 0 → x.2.blk = y.2.blk → i = j) : Emb P ⟨w, K⟩ (pl l) (aw (l.map (·.1))) w := by
  have hget : ∀ i, (aw (l.map (·.1))).heap.get i = (l[i]?).map (·.1) := by
    intro i
    unfold aw
    rw [ofList_get _ _ _ _ (by simpa using hl), if_pos (Nat.zero_le _), Nat.sub_zero, List.getElem?_map]
    cases l[i]? <;> rfl
  have key : ∀ i b, (aw (l.map (·.1))).heap.get i = some b → ∃ x, l[i]? = some x ∧ x.1 = b ∧ pl l i = some x.2 ∧ Given w K x := by
    intro i b h
    rw [hget, Option.map_eq_some_iff] at h
    obtain ⟨x, h1, h2⟩ := h
    exact ⟨x, h1, h2, by simp only [pl, h1, Option.map_some], hg x (List.mem_of_getElem? h1)⟩
  refine .mk' ⟨rfl, rfl, rfl, Nat.le_refl _, fun _ _ => rfl⟩ (fun i hi => ?_) (fun i b h hk => ?_) (fun i j b c bi bj hi hkb hj hkc hbi hbj hblk => ?_) (fun i b h hk => ?_) (fun i b h => ?_) ?_
  · have : l[i]? = none := List.getElem?_eq_none (by simpa [aw] using hi)
    exact ⟨by rw [hget, this]; rfl, by simp only [pl, this, Option.map_none]⟩
  · obtain ⟨x, h1, rfl, h3, hf, h4⟩ := key i b h
    rcases h4 with ⟨k1, k2, k3, k4, k5⟩ | ⟨k1, _⟩
    · refine ⟨x.2, _, _, h3, .inr k2, k3, k5, .inl rfl, by simp [k4], fun _ => ⟨k4, rfl⟩, ?_⟩
      rw [List.take_of_length_le (by simp)]
      exact .of_flat (List.all_eq_true.1 hf)
    · omega
  · obtain ⟨x, h1, rfl, h3, hf, h4⟩ := key i b hi
    obtain ⟨y, g1, rfl, g3, gf, g4⟩ := key j c hj
    rw [hbi] at h3; injection h3 with h3; subst h3
    rw [hbj] at g3; injection g3 with g3; subst g3
    refine hd i j x y h1 g1 ?_ ?_ hblk
    · rcases h4 with ⟨k1, _⟩ | ⟨k1, _⟩ <;> omega
    · rcases g4 with ⟨k1, _⟩ | ⟨k1, _⟩ <;> omega
  · obtain ⟨x, h1, rfl, h3, hf, h4⟩ := key i b h
    rcases h4 with ⟨k1, _⟩ | ⟨_, k2, k3, k4⟩
    · omega
    · refine ⟨x.2, h3, fun e => ?_, fun j v hv => ⟨v, k4 j v hv, .flat (List.all_eq_true.1 hf v (List.mem_of_getElem? hv))⟩⟩
      rcases e with e | e
      · exact absurd e (by simpa using k3)
      · exact k2 e
  · obtain ⟨x, h1, rfl, h3, hf, h4⟩ := key i b h
    rcases h4 with ⟨k1, _⟩ | ⟨k1, _⟩ <;> omega
  · have no : ∀ i b, (aw (l.map (·.1))).heap.get i = some b → b.kind = 2 → False := by
      intro i b h hk
      obtain ⟨x, h1, rfl, h3, hf, h4⟩ := key i b h
      rcases h4 with ⟨k1, _⟩ | ⟨k1, _⟩ <;> omega
    exact ⟨fun i b l h hk _ => (no i b h hk).elim, fun i j b c l m bi bj h hk => (no i b h hk).elim⟩

/-- What a block holds that was given, or is new. -/
theorem Emb.row {P : Program} {w0 : Base} {β : Pl} {a : AW} {w : World} (he : Emb P w0 β a w) {i : Nat} {b : Blk} {bi : BI} (hb : a.heap.get i = some b) (hk : b.kind = 0) (hbi : β i = some bi) (hf : b.cells.all flat = true) :
    w.heap[bi.blk]? = some (.cells b.cells.toArray b.elem (0, 0)) := by
  obtain ⟨bj, cur, fz, g1, g2, g3, g4, g5, g6, g7, g8⟩ := he.blk i b hb (by omega)
  rw [hbi] at g1; injection g1 with g1; subst g1
  obtain ⟨e1, e2⟩ := g7 hk
  rw [g4, e2]
  have hc : cur = b.cells.toArray := by
    rw [e1, Nat.zero_mul, Nat.add_zero] at g6
    rw [List.take_of_length_le (by rw [Array.length_toList]; omega)] at g8
    have hl : cur.toList = b.cells := by
      apply List.ext_getElem?
      intro j
      cases hj : b.cells[j]? with
      | none =>
        have : b.cells.length ≤ j := by
          rcases Nat.lt_or_ge j b.cells.length with h | h
          · rw [List.getElem?_eq_getElem h] at hj; cases hj
          · exact h
        exact List.getElem?_eq_none (by rw [Array.length_toList]; omega)
      | some v =>
        obtain ⟨v', h1, h2⟩ := g8.get hj
        rw [h1, h2.flat_eq (List.all_eq_true.1 hf v (List.mem_of_getElem? hj))]
    rw [← hl]
  rw [hc]

/-- What the evaluator answers for a call that is given these blocks. -/
def ans (P : Program) (n : Nat) (f : FuncId) (args : Array Value) (l : List Blk) : Option Value := (evBody P (evC P n) f args (aw l)).map Prod.fst
/-- A call that is given blocks of the caller's. 'out': what the given blocks hold behind it. -/
theorem calls_given {P : Program} (hm : P.follows .mixedOrders = true) {n : Nat} {f : FuncId} {args args' : Array Value} {v : Value} {a1 : AW} {w : World} {K : Nat → Prop} {l : List (Blk × BI)} (hl : l.length ≤ 1000000) (hg : ∀ x ∈ l, Given w K x)
    (hd : ∀ (i j : Nat) (x y : Blk × BI), l[i]? = some x → l[j]? = some y → x.1.kind = 0 → y.1.kind = 0 → x.2.blk = y.2.blk → i = j) (hargs : VL (pl l) args.toList args'.toList)
    (h : evBody P (evC P n) f args (aw (l.map (·.1))) = some (v, a1)) :
    Calls P f args' w fun e w1 => ∃ β1 v', e = .returned v' ∧ Le (pl l) β1 ∧ Emb P ⟨w, K⟩ β1 a1 w1 ∧ VR β1 v v' :=
  body_sound (code_sound hm n) (pl l) (aw (l.map (·.1))) w f args args' v a1 (.given hl hg hd) hargs h

/-- A call that only reads what it is given, and answers plain values. -/
theorem calls_ans {P : Program} (hm : P.follows .mixedOrders = true) {n : Nat} {f : FuncId} {args args' : Array Value} {v : Value} {w : World} {l : List (Blk × BI)} (hl : l.length ≤ 1000000) (hg : ∀ x ∈ l, Given w (fun _ => False) x)
    (h3 : ∀ x ∈ l, x.1.kind = 3) (hargs : VL (pl l) args.toList args'.toList) (h : ans P n f args (l.map (·.1)) = some v) (hv : flat2 v = true) :
    Calls P f args' w fun e w1 => e = .returned v ∧ Below w.heap.size w w1 := by
  unfold ans at h
  rw [Option.map_eq_some_iff] at h
  obtain ⟨⟨v0, a1⟩, h, rfl⟩ := h
  refine (calls_given hm hl hg (fun i j x y hx _ hk => by have := h3 x (List.mem_of_getElem? hx); omega) hargs h).mono ?_
  rintro e w1 ⟨β1, v', rfl, _, k2, k3⟩
  rw [k3.flat2_eq hv]
  exact ⟨rfl, k2.below.below fun _ h => h⟩

/-- The block that a call answers a pointer to. -/
def ansBlk (P : Program) (n : Nat) (f : FuncId) (args : Array Value) (l : List Blk) : Option Blk :=
  match evBody P (evC P n) f args (aw l) with
  | some (.pointer (some ⟨i, 0, none⟩), a) => a.heap.get i
  | _ => none
/-- A call that only reads what it is given, and answers a pointer to a block of its own. -/
theorem calls_blk {P : Program} (hm : P.follows .mixedOrders = true) {n : Nat} {f : FuncId} {args args' : Array Value} {b : Blk} {w : World} {l : List (Blk × BI)} (hl : l.length ≤ 1000000) (hg : ∀ x ∈ l, Given w (fun _ => False) x)
    (h3 : ∀ x ∈ l, x.1.kind = 3) (hargs : VL (pl l) args.toList args'.toList) (h : ansBlk P n f args (l.map (·.1)) = some b) (hk : b.kind = 0) (hf : b.cells.all flat = true) :
    Calls P f args' w fun e w1 => ∃ g, e = .returned (.pointer (some ⟨g, 0, none⟩)) ∧ w.heap.size ≤ g ∧ w1.heap[g]? = some (.cells b.cells.toArray b.elem (0, 0)) ∧ Below w.heap.size w w1 := by
  unfold ansBlk at h
  split at h
  · rename_i i a1 he
    refine (calls_given hm hl hg (fun i j x y hx _ hk => by have := h3 x (List.mem_of_getElem? hx); omega) hargs he).mono ?_
    rintro e w1 ⟨β1, v', rfl, _, k2, k3⟩
    obtain ⟨a', rfl, _, bi, k4, rfl⟩ := k3.pointer
    obtain ⟨bj, cur, fz, g1, g2, g3, _⟩ := k2.blk i b h (by omega)
    rw [k4] at g1; injection g1 with g1; subst g1
    refine ⟨bi.blk, by rw [g3]; rfl, ?_, k2.row h hk k4 hf, k2.below.below fun _ h => h⟩
    rcases g2 with g2 | g2
    · exact g2
    · exact absurd g2 fun h => h
  · cases h

/-! ### A region that draws its order, in the midst of a walk -/
/-- Where a value of the evaluator's lies in the model's memory. -/
def lie (β : Pl) : Value → Value
  | .pointer (some a) => match β a.block with
    | some bi => .pointer (some ⟨bi.blk, bi.off + a.off, none⟩)
    | none => .pointer none
  | .slice (some a) n c => match β a.block with
    | some bi => .slice (some ⟨bi.blk, bi.off + a.off, none⟩) n (c + bi.ext)
    | none => .slice none 0 0
  | v => v
/-- Values that hold no memory, but in the open. -/
def open_ : Value → Bool
  | .pointer (some _) => true
  | .slice (some _) _ _ => true
  | v => flat2 v
theorem VR.lie_eq {β : Pl} {v v' : Value} (h : VR β v v') (ho : open_ v = true) : v' = Ev.lie β v := by
  have fl : flat2 v = true → Ev.lie β v = v → v' = Ev.lie β v := fun h1 h2 => by rw [h2]; exact h.flat2_eq h1
  cases v with
  | pointer a =>
    cases a with
    | none => exact fl ho rfl
    | some a =>
      obtain ⟨a', rfl, h1, bi, h2, h3⟩ := h.pointer
      simp only [Ev.lie, h2, h3]
  | slice a n c =>
    cases a with
    | none => exact fl ho rfl
    | some a =>
      obtain ⟨a', bi, rfl, ⟨h1, bj, h2, h3⟩, h4⟩ := h.sliceOf
      rw [h2] at h4; injection h4 with h4; subst h4
      simp only [Ev.lie, h2, h3]
  | _ => exact fl ho rfl
theorem VR.of_lie {β : Pl} {v : Value} (ho : open_ v = true) (hs : ∀ a, v = .pointer (some a) → a.spot = none ∧ ∃ bi, β a.block = some bi) (hs2 : ∀ a n c, v = .slice (some a) n c → a.spot = none ∧ ∃ bi, β a.block = some bi) : VR β v (Ev.lie β v) := by
  cases v with
  | pointer a =>
    cases a with
    | none => exact .flat rfl
    | some a =>
      obtain ⟨h1, bi, h2⟩ := hs a rfl
      simp only [Ev.lie, h2]
      exact .ptr ⟨h1, bi, h2, rfl⟩
  | slice a n c =>
    cases a with
    | none =>
      exact .flat ho
    | some a =>
      obtain ⟨h1, bi, h2⟩ := hs2 a n c rfl
      simp only [Ev.lie, h2]
      exact .slice ⟨h1, bi, h2, rfl⟩ h2
  | tuple cs =>
    simp only [open_, flat2, List.all_eq_true] at ho
    refine .tuple rfl fun i x x' h1 h2 => ?_
    rw [h1] at h2; injection h2 with h2; subst h2
    exact .flat (ho x (by rw [Array.mem_toList_iff]; exact Array.mem_of_getElem? h1))
  | _ => exact .flat ho
def slot (s : St) (k : Nat) : Value := (s.tmps.get k).getD undef
/-- The frame as the evaluator has it, of n slots. -/
def frame (β : Pl) (tl : List Value) : Array Value := (tl.map (Ev.lie β)).toArray
def tmpsOf : List Value → Nat → Tr Value → Tr Value
  | [], _, t => t
  | x :: r, i, t => tmpsOf r (i + 1) (Tr.set 32 t i x)
theorem tmpsOf_get : ∀ (l : List Value) (i : Nat) (t : Tr Value) (k : Nat), i + l.length ≤ 1000000 → (tmpsOf l i t).get k = if i ≤ k then (match l[k - i]? with | some x => some x | none => t.get k) else t.get k := by
  intro l
  induction l with
  | nil => intro i t k _; simp [tmpsOf]
  | cons x r ih =>
    intro i t k h
    simp only [List.length_cons] at h
    unfold tmpsOf
    rw [ih (i + 1) _ k (by omega), Tr.get_set 32 t i x k (by simp; omega)]
    rcases Nat.lt_trichotomy k i with hk | hk | hk
    · simp [show ¬ i + 1 ≤ k by omega, show ¬ i ≤ k by omega, show k ≠ i by omega]
    · subst hk
      rw [if_neg (by omega), if_pos rfl, if_pos (Nat.le_refl _), Nat.sub_self]
      rfl
    · have e : k - i = (k - (i + 1)) + 1 := by omega
      rw [e, List.getElem?_cons_succ]
      simp [show i + 1 ≤ k by omega, show i ≤ k by omega, show k ≠ i by omega]
def stOf (tl : List Value) (l : List Blk) : St := ⟨tmpsOf tl 0 .lf, tl.length, aw l⟩
/-- What a region comes to: the slots, and the blocks from the first on. -/
def regionOut (P : Program) (n : Nat) (ops : Array Oper) (tl : List Value) (l : List Blk) (m : Nat) : Option (List Value × List (Option Blk)) :=
  (evDraw P (evBody P (evC P n)) ops (stOf tl l)).map fun s => ((List.range tl.length).map (slot s), (List.range m).map s.w.heap.get)
/-- Does the value lie in one of the first n blocks, or in none? -/
def near (n : Nat) : Value → Bool
  | .pointer (some a) => decide (a.block < n) && a.spot.isNone
  | .slice (some a) _ _ => decide (a.block < n) && a.spot.isNone
  | _ => true
theorem region_ev {P : Program} (hm : P.follows .mixedOrders = true) {n id m : Nat} {ops : Array Oper} {tl tl' : List Value} {l : List (Blk × BI)} {out : List (Option Blk)} {K : Nat → Prop} {w : World} {act : Act} {Q : Exit → Act → World → Prop}
    (hl : l.length ≤ 1000000) (ht : tl.length ≤ 1000000) (hg : ∀ x ∈ l, Given w K x)
    (hd : ∀ (i j : Nat) (x y : Blk × BI), l[i]? = some x → l[j]? = some y → x.1.kind = 0 → y.1.kind = 0 → x.2.blk = y.2.blk → i = j)
    (hact : act.tmps = frame (pl l) tl) (ho : (tl.all fun v => open_ v && near l.length v) = true)
    (h : regionOut P n ops tl (l.map (·.1)) m = some (tl', out)) (ho' : (tl'.all open_) = true)
    (hQ : ∀ β w1, (∀ i x, l[i]? = some x → β i = some x.2) → Keep ⟨w, K⟩ w1 → (∀ (i : Nat) (b : Blk), out[i]? = some (some b) → b.kind = 0 → b.cells.all flat = true → ∃ bi, β i = some bi ∧ bi.off = 0 ∧ (Base.Mine ⟨w, K⟩ bi.blk) ∧ w1.heap[bi.blk]? = some (.cells b.cells.toArray b.elem (0, 0))) →
      Q .normal ⟨frame β tl', act.defers⟩ w1) : (Code.region id ops true).wp P Q act w := by
  unfold regionOut at h
  rw [Option.map_eq_some_iff] at h
  obtain ⟨s', h, he⟩ := h
  simp only [Prod.mk.injEq] at he
  obtain ⟨rfl, rfl⟩ := he
  have hpl : ∀ i, i < l.length → ∃ bi, pl l i = some bi := fun i hi => ⟨_, by unfold pl; rw [List.getElem?_eq_getElem hi]; rfl⟩
  have hslots : Slots (pl l) (stOf tl (l.map (·.1))) act := by
    refine ⟨fun k => ?_, by rw [hact]; simp [stOf, frame]⟩
    have e : (stOf tl (l.map (·.1))).tmps.get k = tl[k]? := by
      unfold stOf
      simp only
      rw [tmpsOf_get _ _ _ _ (by omega), if_pos (Nat.zero_le _), Nat.sub_zero]
      cases tl[k]? <;> rfl
    rw [e, hact]
    unfold frame
    rw [Array.getD_eq_getD_getElem?, List.getElem?_toArray, List.getElem?_map]
    cases hk : tl[k]? with
    | none => exact .flat rfl
    | some v =>
      simp only [Option.getD_some, Option.map_some]
      simp only [List.all_eq_true, Bool.and_eq_true] at ho
      obtain ⟨o1, o2⟩ := ho v (List.mem_of_getElem? hk)
      refine VR.of_lie o1 ?_ ?_
      · rintro a rfl
        simp only [near, Bool.and_eq_true, decide_eq_true_eq] at o2
        exact ⟨by simpa using o2.2, hpl _ o2.1⟩
      · rintro a n c rfl
        simp only [near, Bool.and_eq_true, decide_eq_true_eq] at o2
        exact ⟨by simpa using o2.2, hpl _ o2.1⟩
  refine evDraw_sound (w0 := ⟨w, K⟩) (fun _ => body_sound (code_sound hm n)) (evBody_since (evC_since n)) hm (Emb.given hl hg hd) hslots h ?_
  intro β1 act1 w1 k1 k2 k3 k4
  have hsz : act1.tmps.size = tl.length := by
    have h1 := k3.size
    have h2 : ∀ (call : CallF) (ls : List Oper) (s : St) (sts : List St), trace P call ops ls s = some sts → ∀ (i : Nat) (si : St), sts[i]? = some si → si.n = s.n := by
      intro call ls
      induction ls with
      | nil =>
        intro s sts ht i si hi
        simp only [trace, Option.some.injEq] at ht; subst ht
        cases i with
        | zero => simp at hi; rw [hi]
        | succ i => simp at hi
      | cons o r ih =>
        intro s sts ht i si hi
        unfold trace at ht
        split at ht
        · rename_i s1 hst
          split at ht
          · rename_i l' hl'
            injection ht with ht; subst ht
            cases i with
            | zero => simp at hi; rw [hi]
            | succ i =>
              rw [ih s1 l' hl' i si (by simpa using hi)]
              unfold step at hst
              split at hst
              · exact (put_get hst).2.1
              · cases hst
          · cases ht
        · cases ht
    unfold evDraw at h
    split at h
    · rename_i sts htr
      split at h
      · have := h2 _ _ _ _ htr _ _ h
        rw [← h1, this]
        rfl
      · cases h
    · cases h
  have hact1 : act1 = ⟨frame β1 ((List.range tl.length).map (slot s')), act.defers⟩ := by
    obtain ⟨tm, df⟩ := act1
    simp only at k4 hsz
    subst k4
    congr 1
    apply Array.ext
    · rw [hsz]; simp [frame]
    · intro k hk1 hk2
      have hk : k < tl.length := by omega
      have hr := k3.rel k
      rw [Array.getD_eq_getD_getElem?, Array.getElem?_eq_getElem hk1] at hr
      simp only [Option.getD_some] at hr
      simp only [List.all_eq_true] at ho'
      have := hr.lie_eq (ho' _ (List.mem_map.2 ⟨k, List.mem_range.2 hk, rfl⟩))
      rw [this]
      simp [frame, slot]
  rw [hact1]
  refine hQ β1 w1 (fun i x hx => k1 _ _ (by unfold pl; rw [hx]; rfl)) k2.below (fun i b hb hk hf => ?_)
  rw [List.getElem?_map, Option.map_eq_some_iff] at hb
  obtain ⟨j, hj, hb⟩ := hb
  have hji : j = i := by
    have hlt : i < (List.range m).length := (List.getElem?_eq_some_iff.1 hj).1
    rw [List.length_range] at hlt
    rw [List.getElem?_range hlt] at hj
    injection hj with hj
    exact hj.symm
  subst hji
  obtain ⟨bj, cur, fz, g1, g2, g3, g4, _⟩ := k2.blk j b hb (by omega)
  exact ⟨bj, g1, g3, g2, k2.row hb hk g1 hf⟩
end Ev

/-- What operations on numbers come to. -/
def oadd (k : IntKind) (x y : Int) : Int := k.wrap (x + y)
def osub (k : IntKind) (x y : Int) : Int := k.wrap (x - y)
def omul (k : IntKind) (x y : Int) : Int := k.wrap (x * y)
def oand (k : IntKind) (x y : Int) : Int := k.wrap ((BitVec.ofInt k.bits x &&& BitVec.ofInt k.bits y).toNat)
def oor (k : IntKind) (x y : Int) : Int := k.wrap ((BitVec.ofInt k.bits x ||| BitVec.ofInt k.bits y).toNat)
def oxor (k : IntKind) (x y : Int) : Int := k.wrap ((BitVec.ofInt k.bits x ^^^ BitVec.ofInt k.bits y).toNat)
def oandn (k : IntKind) (x y : Int) : Int := k.wrap ((BitVec.ofInt k.bits x &&& ~~~ BitVec.ofInt k.bits y).toNat)
def oshl (k : IntKind) (x : Int) (n : Nat) : Int := k.wrap (x * 2 ^ n)
def oshr (x : Int) (n : Nat) : Int := x.fdiv (2 ^ n)

theorem wrap_u64 (n : Nat) (h : n < 18446744073709551616) : IntKind.u64.wrap (n : Int) = (n : Int) := by
  simp only [IntKind.wrap, IntKind.bits, IntKind.signed]
  simp
  omega
theorem wrap_u8 (n : Nat) (h : n < 256) : IntKind.u8.wrap (n : Int) = (n : Int) := by
  simp only [IntKind.wrap, IntKind.bits, IntKind.signed]
  simp
  omega
theorem oadd_u64 (a b : Nat) (h : a + b < 18446744073709551616) : oadd .u64 (a : Int) (b : Int) = ((a + b : Nat) : Int) := by
  unfold oadd
  rw [← Int.natCast_add, wrap_u64 _ h]
theorem omul_u64 (a b : Nat) (h : a * b < 18446744073709551616) : omul .u64 (a : Int) (b : Int) = ((a * b : Nat) : Int) := by
  unfold omul
  rw [← Int.natCast_mul, wrap_u64 _ h]
theorem osub_u64 (a b : Nat) (ha : a < 18446744073709551616) (hb : b < 18446744073709551616) : osub .u64 (a : Int) (b : Int) = (((a + 18446744073709551616 - b) % 18446744073709551616 : Nat) : Int) := by
  simp only [osub, IntKind.wrap, IntKind.bits, IntKind.signed]
  simp
  omega
theorem oand_u64 (a b : Nat) (ha : a < 18446744073709551616) (hb : b < 18446744073709551616) : oand .u64 (a : Int) (b : Int) = ((a &&& b : Nat) : Int) := by
  show IntKind.u64.wrap ((BitVec.ofInt 64 (a : Int) &&& BitVec.ofInt 64 (b : Int)).toNat : Int) = _
  simp only [BitVec.ofInt_natCast, BitVec.toNat_and, BitVec.toNat_ofNat]
  rw [Nat.mod_eq_of_lt ha, Nat.mod_eq_of_lt hb]
  exact wrap_u64 _ (Nat.lt_of_le_of_lt Nat.and_le_left ha)
theorem oor_u64 (a b : Nat) (ha : a < 18446744073709551616) (hb : b < 18446744073709551616) : oor .u64 (a : Int) (b : Int) = ((a ||| b : Nat) : Int) := by
  show IntKind.u64.wrap ((BitVec.ofInt 64 (a : Int) ||| BitVec.ofInt 64 (b : Int)).toNat : Int) = _
  simp only [BitVec.ofInt_natCast, BitVec.toNat_or, BitVec.toNat_ofNat]
  rw [Nat.mod_eq_of_lt ha, Nat.mod_eq_of_lt hb]
  exact wrap_u64 _ (Nat.or_lt_two_pow (n := 64) ha hb)
theorem oandn_u64 (a b : Nat) (ha : a < 18446744073709551616) (hb : b < 18446744073709551616) : oandn .u64 (a : Int) (b : Int) = ((a &&& (18446744073709551615 - b) : Nat) : Int) := by
  show IntKind.u64.wrap ((BitVec.ofInt 64 (a : Int) &&& ~~~ BitVec.ofInt 64 (b : Int)).toNat : Int) = _
  simp only [BitVec.ofInt_natCast, BitVec.toNat_and, BitVec.toNat_ofNat, BitVec.toNat_not]
  rw [Nat.mod_eq_of_lt ha, Nat.mod_eq_of_lt hb]
  exact wrap_u64 _ (Nat.lt_of_le_of_lt Nat.and_le_left ha)
theorem oshl_u64 (a n : Nat) : oshl .u64 (a : Int) n = ((a * 2 ^ n % 18446744073709551616 : Nat) : Int) := by
  unfold oshl
  rw [show ((a : Int) * 2 ^ n) = ((a * 2 ^ n : Nat) : Int) by rw [Int.natCast_mul, Int.natCast_pow]; rfl]
  simp only [IntKind.wrap, IntKind.bits, IntKind.signed]
  simp
theorem oshr_nat (a n : Nat) : oshr (a : Int) n = ((a / 2 ^ n : Nat) : Int) := by
  unfold oshr
  rw [Int.fdiv_eq_ediv_of_nonneg _ (by exact Int.le_of_lt (Int.pow_pos (by decide)))]
  rw [Int.natCast_ediv, Int.natCast_pow]
  rfl
theorem and_low (a : Nat) : a &&& 67108863 = a % 67108864 := Nat.and_two_pow_sub_one_eq_mod a 26
end Go.Proofs.Ytpllbnioncjhaaa
