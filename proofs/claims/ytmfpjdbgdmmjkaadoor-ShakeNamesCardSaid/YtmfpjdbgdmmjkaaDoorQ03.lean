/- Texts that the proofs share: Sym, EvBs, OctPure, LeaNonce, ShkNum, ShkBytes, ShkMark, PktSame, ByN, Stage, PktHead, AeadExtra, Kit, PktCheck, ShkCheck, Str, ShkHello, HkZeros, ShkConcat, HkExtract, HkExpand. -/
import Derived.Test.YtmfpjdbgdmmjkaaDoorQ01
import Derived.Test.YtmfpjdbgdmmjkaaDoorQ02
import Derived.KernelRfl
import Derived.Lib.BitFns
import Derived.Lib.ItoaNum
import Derived.Test.YtmfpjdbgdmmjkaaDoorShelf
import Derived.Lib.AppendZerosOnto
namespace Go.Proofs.YtmfpjdbgdmmjkaaDoor
open Go.RowKit

namespace Ev
/-- Plain values, and tuples of such. -/
def flat2 : Value → Bool
  | .tuple cs => cs.toList.all flat
  | v => flat v
theorem VR.flat2_eq {β : Pl} {v v' : Value} (h : VR β v v') (hf : flat2 v = true) : v' = v := by
  cases h with
  | flat _ => rfl
  | ptr _ => simp [flat2, Ev.flat, atom] at hf
  | slice _ _ => simp [flat2, Ev.flat, atom] at hf
  | agg hs h => exact VR.flat_eq (.agg hs h) hf
  | tuple hs h =>
    rename_i cs cs'
    congr 1
    apply Array.ext_getElem?
    intro i
    cases hi : cs[i]? with
    | none =>
      have : ¬ i < cs.size := by intro hlt; rw [Array.getElem?_eq_getElem hlt] at hi; cases hi
      exact Array.getElem?_eq_none (by omega)
    | some v =>
      have hlt : i < cs.size := (Array.getElem?_eq_some_iff.1 hi).1
      have hi' : cs'[i]? = some (cs'[i]'(by omega)) := Array.getElem?_eq_getElem (by omega)
      have hr := h i v _ hi hi'
      simp only [flat2, List.all_eq_true] at hf
      have := hr.flat_eq (hf v (by rw [Array.mem_toList_iff]; exact Array.mem_of_getElem? hi))
      rw [hi', this]
  | func _ _ _ _ _ => simp [flat2, Ev.flat, atom] at hf
  | map _ => simp [flat2, Ev.flat, atom] at hf
theorem calls_sym {P : Program} (hm : P.follows .mixedOrders = true) {n : Nat} {f : FuncId} {args : Array Value} {v : Value} (hargs : (args.toList.all flat) = true) (h : (evBody P (evC P n) f args .empty).map Prod.fst = some v) (hv : flat2 v = true) (w : World) :
    Calls P f args w fun e w1 => e = .returned v ∧ Below w.heap.size w w1 := by
  rw [Option.map_eq_some_iff] at h
  obtain ⟨⟨v0, a1⟩, h, rfl⟩ := h
  refine (body_sound (w0 := only w) (code_sound hm n) _ _ _ _ args args _ a1 (Emb.start P w) (.of_flat (List.all_eq_true.1 hargs)) h).mono ?_
  rintro e w1 ⟨β1, v', rfl, _, h2, h3⟩
  rw [h3.flat2_eq hv]
  exact ⟨rfl, h2.below.below fun _ h => h⟩

/-! ### Blocks of the caller's: some may be changed (kind 0), of others cells are read (kind 3) -/
def ofList : List Blk → Nat → Tr Blk → Tr Blk
  | [], _, t => t
  | x :: r, i, t => ofList r (i + 1) (Tr.set 32 t i x)
theorem ofList_get : ∀ (l : List Blk) (i : Nat) (t : Tr Blk) (k : Nat), i + l.length ≤ 1000000 → (ofList l i t).get k = if i ≤ k then (match l[k - i]? with | some x => some x | none => t.get k) else t.get k := by
  intro l
  induction l with
  | nil => intro i t k _; simp [ofList]
  | cons x r ih =>
    intro i t k h
    simp only [List.length_cons] at h
    unfold ofList
    rw [ih (i + 1) _ k (by omega), Tr.get_set 32 t i x k (by simp; omega)]
    rcases Nat.lt_trichotomy k i with hk | hk | hk
    · simp [show ¬ i + 1 ≤ k by omega, show ¬ i ≤ k by omega, show k ≠ i by omega]
    · subst hk
      rw [if_neg (by omega), if_pos rfl, if_pos (Nat.le_refl _), Nat.sub_self]
      rfl
    · have e : k - i = (k - (i + 1)) + 1 := by omega
      rw [e, List.getElem?_cons_succ]
      simp [show i + 1 ≤ k by omega, show i ≤ k by omega, show k ≠ i by omega]

/-- What is handed to a call, block by block: the cells, and where they lie. -/
def Given (w : World) (K : Nat → Prop) (x : Blk × BI) : Prop :=
  x.1.cells.all flat = true ∧
  ((x.1.kind = 0 ∧ K x.2.blk ∧ x.2.off = 0 ∧ x.2.ext = 0 ∧ w.heap[x.2.blk]? = some (.cells x.1.cells.toArray x.1.elem (0, 0))) ∨
   (x.1.kind = 3 ∧ ¬ K x.2.blk ∧ x.2.blk < w.heap.size ∧ ∀ (j : Nat) (v : Value), x.1.cells[j]? = some v → w.cell? ⟨x.2.blk, x.2.off + j, none⟩ = some v))

def pl (l : List (Blk × BI)) : Pl := fun i => (l[i]?).map (·.2)
def aw (l : List Blk) : AW := ⟨ofList l 0 .lf, l.length, .lf, 0⟩

theorem Emb.given {P : Program} {w : World} {K : Nat → Prop} {l : List (Blk × BI)} (hl : l.length ≤ 1000000) (hg : ∀ x ∈ l, Given w K x)
    (hd : ∀ (i j : Nat) (x y : Blk × BI), l[i]? = some x → l[j]? = some y → x.1.kind = 0 → y.1.kind = 0 → x.2.blk = y.2.blk → i = j) : Emb P ⟨w, K⟩ (pl l) (aw (l.map (·.1))) w := by
  have hget : ∀ i, (aw (l.map (·.1))).heap.get i = (l[i]?).map (·.1) := by
    intro i
    unfold aw
    rw [ofList_get _ _ _ _ (by simpa using hl), if_pos (Nat.zero_le _), Nat.sub_zero, List.getElem?_map]
    cases l[i]? <;> rfl
  have key : ∀ i b, (aw (l.map (·.1))).heap.get i = some b → ∃ x, l[i]? = some x ∧ x.1 = b ∧ pl l i = some x.2 ∧ Given w K x := by
    intro i b h
    rw [hget, Option.map_eq_some_iff] at h
    obtain ⟨x, h1, h2⟩ := h
    exact ⟨x, h1, h2, by simp only [pl, h1, Option.map_some], hg x (List.mem_of_getElem? h1)⟩
  refine .mk' ⟨rfl, rfl, rfl, Nat.le_refl _, fun _ _ => rfl⟩ (fun i hi => ?_) (fun i b h hk => ?_) (fun i j b c bi bj hi hkb hj hkc hbi hbj hblk => ?_) (fun i b h hk => ?_) (fun i b h => ?_) ?_
  · have : l[i]? = none := List.getElem?_eq_none (by simpa [aw] using hi)
    exact ⟨by rw [hget, this]; rfl, by simp only [pl, this, Option.map_none]⟩
  · obtain ⟨x, h1, rfl, h3, hf, h4⟩ := key i b h
    rcases h4 with ⟨k1, k2, k3, k4, k5⟩ | ⟨k1, _⟩
    · refine ⟨x.2, _, _, h3, .inr k2, k3, k5, .inl rfl, by simp [k4], fun _ => ⟨k4, rfl⟩, ?_⟩
      rw [List.take_of_length_le (by simp)]
      exact .of_flat (List.all_eq_true.1 hf)
    · omega
  · obtain ⟨x, h1, rfl, h3, hf, h4⟩ := key i b hi
    obtain ⟨y, g1, rfl, g3, gf, g4⟩ := key j c hj
    rw [hbi] at h3; injection h3 with h3; subst h3
    rw [hbj] at g3; injection g3 with g3; subst g3
    refine hd i j x y h1 g1 ?_ ?_ hblk
    · rcases h4 with ⟨k1, _⟩ | ⟨k1, _⟩ <;> omega
    · rcases g4 with ⟨k1, _⟩ | ⟨k1, _⟩ <;> omega
  · obtain ⟨x, h1, rfl, h3, hf, h4⟩ := key i b h
    rcases h4 with ⟨k1, _⟩ | ⟨_, k2, k3, k4⟩
    · omega
    · refine ⟨x.2, h3, fun e => ?_, fun j v hv => ⟨v, k4 j v hv, .flat (List.all_eq_true.1 hf v (List.mem_of_getElem? hv))⟩⟩
      rcases e with e | e
      · exact absurd e (by simpa using k3)
      · exact k2 e
  · obtain ⟨x, h1, rfl, h3, hf, h4⟩ := key i b h
    rcases h4 with ⟨k1, _⟩ | ⟨k1, _⟩ <;> omega
  · have no : ∀ i b, (aw (l.map (·.1))).heap.get i = some b → b.kind = 2 → False := by
      intro i b h hk
      obtain ⟨x, h1, rfl, h3, hf, h4⟩ := key i b h
      rcases h4 with ⟨k1, _⟩ | ⟨k1, _⟩ <;> omega
    exact ⟨fun i b l h hk _ => (no i b h hk).elim, fun i j b c l m bi bj h hk => (no i b h hk).elim⟩

/-- What a block holds that was given, or is new. -/
theorem Emb.row {P : Program} {w0 : Base} {β : Pl} {a : AW} {w : World} (he : Emb P w0 β a w) {i : Nat} {b : Blk} {bi : BI} (hb : a.heap.get i = some b) (hk : b.kind = 0) (hbi : β i = some bi) (hf : b.cells.all flat = true) :
    w.heap[bi.blk]? = some (.cells b.cells.toArray b.elem (0, 0)) := by
  obtain ⟨bj, cur, fz, g1, g2, g3, g4, g5, g6, g7, g8⟩ := he.blk i b hb (by omega)
  rw [hbi] at g1; injection g1 with g1; subst g1
  obtain ⟨e1, e2⟩ := g7 hk
  rw [g4, e2]
  have hc : cur = b.cells.toArray := by
    rw [e1, Nat.zero_mul, Nat.add_zero] at g6
    rw [List.take_of_length_le (by rw [Array.length_toList]; omega)] at g8
    have hl : cur.toList = b.cells := by
      apply List.ext_getElem?
      intro j
      cases hj : b.cells[j]? with
      | none =>
        have : b.cells.length ≤ j := by
          rcases Nat.lt_or_ge j b.cells.length with h | h
          · rw [List.getElem?_eq_getElem h] at hj; cases hj
          · exact h
        exact List.getElem?_eq_none (by rw [Array.length_toList]; omega)
      | some v =>
        obtain ⟨v', h1, h2⟩ := g8.get hj
        rw [h1, h2.flat_eq (List.all_eq_true.1 hf v (List.mem_of_getElem? hj))]
    rw [← hl]
  rw [hc]

/-- What the evaluator answers for a call that is given these blocks. -/
def ans (P : Program) (n : Nat) (f : FuncId) (args : Array Value) (l : List Blk) : Option Value := (evBody P (evC P n) f args (aw l)).map Prod.fst
/-- A call that is given blocks of the caller's. 'out': what the given blocks hold behind it. -/
theorem calls_given {P : Program} (hm : P.follows .mixedOrders = true) {n : Nat} {f : FuncId} {args args' : Array Value} {v : Value} {a1 : AW} {w : World} {K : Nat → Prop} {l : List (Blk × BI)} (hl : l.length ≤ 1000000) (hg : ∀ x ∈ l, Given w K x)
    (hd : ∀ (i j : Nat) (x y : Blk × BI), l[i]? = some x → l[j]? = some y → x.1.kind = 0 → y.1.kind = 0 → x.2.blk = y.2.blk → i = j) (hargs : VL (pl l) args.toList args'.toList)
    (h : evBody P (evC P n) f args (aw (l.map (·.1))) = some (v, a1)) :
    Calls P f args' w fun e w1 => ∃ β1 v', e = .returned v' ∧ Le (pl l) β1 ∧ Emb P ⟨w, K⟩ β1 a1 w1 ∧ VR β1 v v' :=
  body_sound (code_sound hm n) (pl l) (aw (l.map (·.1))) w f args args' v a1 (.given hl hg hd) hargs h

/-- A call that only reads what it is given, and answers plain values. -/
theorem calls_ans {P : Program} (hm : P.follows .mixedOrders = true) {n : Nat} {f : FuncId} {args args' : Array Value} {v : Value} {w : World} {l : List (Blk × BI)} (hl : l.length ≤ 1000000) (hg : ∀ x ∈ l, Given w (fun _ => False) x)
    (h3 : ∀ x ∈ l, x.1.kind = 3) (hargs : VL (pl l) args.toList args'.toList) (h : ans P n f args (l.map (·.1)) = some v) (hv : flat2 v = true) :
    Calls P f args' w fun e w1 => e = .returned v ∧ Below w.heap.size w w1 := by
  unfold ans at h
  rw [Option.map_eq_some_iff] at h
  obtain ⟨⟨v0, a1⟩, h, rfl⟩ := h
  refine (calls_given hm hl hg (fun i j x y hx _ hk => by have := h3 x (List.mem_of_getElem? hx); omega) hargs h).mono ?_
  rintro e w1 ⟨β1, v', rfl, _, k2, k3⟩
  rw [k3.flat2_eq hv]
  exact ⟨rfl, k2.below.below fun _ h => h⟩

/-- The block that a call answers a pointer to. -/
def ansBlk (P : Program) (n : Nat) (f : FuncId) (args : Array Value) (l : List Blk) : Option Blk :=
  match evBody P (evC P n) f args (aw l) with
  | some (.pointer (some ⟨i, 0, none⟩), a) => a.heap.get i
  | _ => none
/-- A call that only reads what it is given, and answers a pointer to a block of its own. -/
theorem calls_blk {P : Program} (hm : P.follows .mixedOrders = true) {n : Nat} {f : FuncId} {args args' : Array Value} {b : Blk} {w : World} {l : List (Blk × BI)} (hl : l.length ≤ 1000000) (hg : ∀ x ∈ l, Given w (fun _ => False) x)
    (h3 : ∀ x ∈ l, x.1.kind = 3) (hargs : VL (pl l) args.toList args'.toList) (h : ansBlk P n f args (l.map (·.1)) = some b) (hk : b.kind = 0) (hf : b.cells.all flat = true) :
    Calls P f args' w fun e w1 => ∃ g, e = .returned (.pointer (some ⟨g, 0, none⟩)) ∧ w.heap.size ≤ g ∧ w1.heap[g]? = some (.cells b.cells.toArray b.elem (0, 0)) ∧ Below w.heap.size w w1 := by
  unfold ansBlk at h
  split at h
  · rename_i i a1 he
    refine (calls_given hm hl hg (fun i j x y hx _ hk => by have := h3 x (List.mem_of_getElem? hx); omega) hargs he).mono ?_
    rintro e w1 ⟨β1, v', rfl, _, k2, k3⟩
    obtain ⟨a', rfl, _, bi, k4, rfl⟩ := k3.pointer
    obtain ⟨bj, cur, fz, g1, g2, g3, _⟩ := k2.blk i b h (by omega)
    rw [k4] at g1; injection g1 with g1; subst g1
    refine ⟨bi.blk, by rw [g3]; rfl, ?_, k2.row h hk k4 hf, k2.below.below fun _ h => h⟩
    rcases g2 with g2 | g2
    · exact g2
    · exact absurd g2 fun h => h
  · cases h

/-! ### A region that draws its order, in the midst of a walk -/
/-- Where a value of the evaluator's lies in the model's memory. -/
def lie (β : Pl) : Value → Value
  | .pointer (some a) => match β a.block with
    | some bi => .pointer (some ⟨bi.blk, bi.off + a.off, none⟩)
    | none => .pointer none
  | .slice (some a) n c => match β a.block with
    | some bi => .slice (some ⟨bi.blk, bi.off + a.off, none⟩) n (c + bi.ext)
    | none => .slice none 0 0
  | v => v
/-- Values that hold no memory, but in the open. -/
def open_ : Value → Bool
  | .pointer (some _) => true
  | .slice (some _) _ _ => true
  | v => flat2 v
theorem VR.lie_eq {β : Pl} {v v' : Value} (h : VR β v v') (ho : open_ v = true) : v' = Ev.lie β v := by
  have fl : flat2 v = true → Ev.lie β v = v → v' = Ev.lie β v := fun h1 h2 => by rw [h2]; exact h.flat2_eq h1
  cases v with
  | pointer a =>
    cases a with
    | none => exact fl ho rfl
    | some a =>
      obtain ⟨a', rfl, h1, bi, h2, h3⟩ := h.pointer
      simp only [Ev.lie, h2, h3]
  | slice a n c =>
    cases a with
    | none => exact fl ho rfl
    | some a =>
      obtain ⟨a', bi, rfl, ⟨h1, bj, h2, h3⟩, h4⟩ := h.sliceOf
      rw [h2] at h4; injection h4 with h4; subst h4
      simp only [Ev.lie, h2, h3]
  | _ => exact fl ho rfl
theorem VR.of_lie {β : Pl} {v : Value} (ho : open_ v = true) (hs : ∀ a, v = .pointer (some a) → a.spot = none ∧ ∃ bi, β a.block = some bi) (hs2 : ∀ a n c, v = .slice (some a) n c → a.spot = none ∧ ∃ bi, β a.block = some bi) : VR β v (Ev.lie β v) := by
  cases v with
  | pointer a =>
    cases a with
    | none => exact .flat rfl
    | some a =>
      obtain ⟨h1, bi, h2⟩ := hs a rfl
      simp only [Ev.lie, h2]
      exact .ptr ⟨h1, bi, h2, rfl⟩
  | slice a n c =>
    cases a with
    | none =>
      exact .flat ho
    | some a =>
      obtain ⟨h1, bi, h2⟩ := hs2 a n c rfl
      simp only [Ev.lie, h2]
      exact .slice ⟨h1, bi, h2, rfl⟩ h2
  | tuple cs =>
    simp only [open_, flat2, List.all_eq_true] at ho
    refine .tuple rfl fun i x x' h1 h2 => ?_
    rw [h1] at h2; injection h2 with h2; subst h2
    exact .flat (ho x (by rw [Array.mem_toList_iff]; exact Array.mem_of_getElem? h1))
  | _ => exact .flat ho
def slot (s : St) (k : Nat) : Value := (s.tmps.get k).getD undef
/-- The frame as the evaluator has it, of n slots. -/
def frame (β : Pl) (tl : List Value) : Array Value := (tl.map (Ev.lie β)).toArray
def tmpsOf : List Value → Nat → Tr Value → Tr Value
  | [], _, t => t
  | x :: r, i, t => tmpsOf r (i + 1) (Tr.set 32 t i x)
theorem tmpsOf_get : ∀ (l : List Value) (i : Nat) (t : Tr Value) (k : Nat), i + l.length ≤ 1000000 → (tmpsOf l i t).get k = if i ≤ k then (match l[k - i]? with | some x => some x | none => t.get k) else t.get k := by
  intro l
  induction l with
  | nil => intro i t k _; simp [tmpsOf]
  | cons x r ih =>
    intro i t k h
    simp only [List.length_cons] at h
    unfold tmpsOf
    rw [ih (i + 1) _ k (by omega), Tr.get_set 32 t i x k (by simp; omega)]
    rcases Nat.lt_trichotomy k i with hk | hk | hk
    · simp [show ¬ i + 1 ≤ k by omega, show ¬ i ≤ k by omega, show k ≠ i by omega]
    · subst hk
      rw [if_neg (by omega), if_pos rfl, if_pos (Nat.le_refl _), Nat.sub_self]
      rfl
    · have e : k - i = (k - (i + 1)) + 1 := by omega
      rw [e, List.getElem?_cons_succ]
      simp [show i + 1 ≤ k by omega, show i ≤ k by omega, show k ≠ i by omega]
def stOf (tl : List Value) (l : List Blk) : St := ⟨tmpsOf tl 0 .lf, tl.length, aw l⟩
/-- What a region comes to: the slots, and the blocks from the first on. -/
def regionOut (P : Program) (n : Nat) (ops : Array Oper) (tl : List Value) (l : List Blk) (m : Nat) : Option (List Value × List (Option Blk)) :=
  (evDraw P (evBody P (evC P n)) ops (stOf tl l)).map fun s => ((List.range tl.length).map (slot s), (List.range m).map s.w.heap.get)
/-- Does the value lie in one of the first n blocks, or in none? -/
def near (n : Nat) : Value → Bool
  | .pointer (some a) => decide (a.block < n) && a.spot.isNone
  | .slice (some a) _ _ => decide (a.block < n) && a.spot.isNone
  | _ => true
theorem region_ev {P : Program} (hm : P.follows .mixedOrders = true) {n id m : Nat} {ops : Array Oper} {tl tl' : List Value} {l : List (Blk × BI)} {out : List (Option Blk)} {K : Nat → Prop} {w : World} {act : Act} {Q : Exit → Act → World → Prop}
    (hl : l.length ≤ 1000000) (ht : tl.length ≤ 1000000) (hg : ∀ x ∈ l, Given w K x)
    (hd : ∀ (i j : Nat) (x y : Blk × BI), l[i]? = some x → l[j]? = some y → x.1.kind = 0 → y.1.kind = 0 → x.2.blk = y.2.blk → i = j)
    (hact : act.tmps = frame (pl l) tl) (ho : (tl.all fun v => open_ v && near l.length v) = true)
    (h : regionOut P n ops tl (l.map (·.1)) m = some (tl', out)) (ho' : (tl'.all open_) = true)
    (hQ : ∀ β w1, (∀ i x, l[i]? = some x → β i = some x.2) → Keep ⟨w, K⟩ w1 → (∀ (i : Nat) (b : Blk), out[i]? = some (some b) → b.kind = 0 → b.cells.all flat = true → ∃ bi, β i = some bi ∧ bi.off = 0 ∧ (Base.Mine ⟨w, K⟩ bi.blk) ∧ w1.heap[bi.blk]? = some (.cells b.cells.toArray b.elem (0, 0))) →
      Q .normal ⟨frame β tl', act.defers⟩ w1) : (Code.region id ops true).wp P Q act w := by
  unfold regionOut at h
  rw [Option.map_eq_some_iff] at h
  obtain ⟨s', h, he⟩ := h
  simp only [Prod.mk.injEq] at he
  obtain ⟨rfl, rfl⟩ := he
  have hpl : ∀ i, i < l.length → ∃ bi, pl l i = some bi := fun i hi => ⟨_, by unfold pl; rw [List.getElem?_eq_getElem hi]; rfl⟩
  have hslots : Slots (pl l) (stOf tl (l.map (·.1))) act := by
    refine ⟨fun k => ?_, by rw [hact]; simp [stOf, frame]⟩
    have e : (stOf tl (l.map (·.1))).tmps.get k = tl[k]? := by
      unfold stOf
      simp only
      rw [tmpsOf_get _ _ _ _ (by omega), if_pos (Nat.zero_le _), Nat.sub_zero]
      cases tl[k]? <;> rfl
    rw [e, hact]
    unfold frame
    rw [Array.getD_eq_getD_getElem?, List.getElem?_toArray, List.getElem?_map]
    cases hk : tl[k]? with
    | none => exact .flat rfl
    | some v =>
      simp only [Option.getD_some, Option.map_some]
      simp only [List.all_eq_true, Bool.and_eq_true] at ho
      obtain ⟨o1, o2⟩ := ho v (List.mem_of_getElem? hk)
      refine VR.of_lie o1 ?_ ?_
      · rintro a rfl
        simp only [near, Bool.and_eq_true, decide_eq_true_eq] at o2
        exact ⟨by simpa using o2.2, hpl _ o2.1⟩
      · rintro a n c rfl
        simp only [near, Bool.and_eq_true, decide_eq_true_eq] at o2
        exact ⟨by simpa using o2.2, hpl _ o2.1⟩
  refine evDraw_sound (w0 := ⟨w, K⟩) (fun _ => body_sound (code_sound hm n)) (evBody_since (evC_since n)) hm (Emb.given hl hg hd) hslots h ?_
  intro β1 act1 w1 k1 k2 k3 k4
  have hsz : act1.tmps.size = tl.length := by
    have h1 := k3.size
    have h2 : ∀ (call : CallF) (ls : List Oper) (s : St) (sts : List St), trace P call ops ls s = some sts → ∀ (i : Nat) (si : St), sts[i]? = some si → si.n = s.n := by
      intro call ls
      induction ls with
      | nil =>
        intro s sts ht i si hi
        simp only [trace, Option.some.injEq] at ht; subst ht
        cases i with
        | zero => simp at hi; rw [hi]
        | succ i => simp at hi
      | cons o r ih =>
        intro s sts ht i si hi
        unfold trace at ht
        split at ht
        · rename_i s1 hst
          split at ht
          · rename_i l' hl'
            injection ht with ht; subst ht
            cases i with
            | zero => simp at hi; rw [hi]
            | succ i =>
              rw [ih s1 l' hl' i si (by simpa using hi)]
              unfold step at hst
              split at hst
              · exact (put_get hst).2.1
              · cases hst
          · cases ht
        · cases ht
    unfold evDraw at h
    split at h
    · rename_i sts htr
      split at h
      · have := h2 _ _ _ _ htr _ _ h
        rw [← h1, this]
        rfl
      · cases h
    · cases h
  have hact1 : act1 = ⟨frame β1 ((List.range tl.length).map (slot s')), act.defers⟩ := by
    obtain ⟨tm, df⟩ := act1
    simp only at k4 hsz
    subst k4
    congr 1
    apply Array.ext
    · rw [hsz]; simp [frame]
    · intro k hk1 hk2
      have hk : k < tl.length := by omega
      have hr := k3.rel k
      rw [Array.getD_eq_getD_getElem?, Array.getElem?_eq_getElem hk1] at hr
      simp only [Option.getD_some] at hr
      simp only [List.all_eq_true] at ho'
      have := hr.lie_eq (ho' _ (List.mem_map.2 ⟨k, List.mem_range.2 hk, rfl⟩))
      rw [this]
      simp [frame, slot]
  rw [hact1]
  refine hQ β1 w1 (fun i x hx => k1 _ _ (by unfold pl; rw [hx]; rfl)) k2.below (fun i b hb hk hf => ?_)
  rw [List.getElem?_map, Option.map_eq_some_iff] at hb
  obtain ⟨j, hj, hb⟩ := hb
  have hji : j = i := by
    have hlt : i < (List.range m).length := (List.getElem?_eq_some_iff.1 hj).1
    rw [List.length_range] at hlt
    rw [List.getElem?_range hlt] at hj
    injection hj with hj
    exact hj.symm
  subst hji
  obtain ⟨bj, cur, fz, g1, g2, g3, g4, _⟩ := k2.blk j b hb (by omega)
  exact ⟨bj, g1, g3, g2, k2.row hb hk g1 hf⟩
end Ev

/-- What operations on numbers come to. -/
def oadd (k : IntKind) (x y : Int) : Int := k.wrap (x + y)
def osub (k : IntKind) (x y : Int) : Int := k.wrap (x - y)
def omul (k : IntKind) (x y : Int) : Int := k.wrap (x * y)
def oand (k : IntKind) (x y : Int) : Int := k.wrap ((BitVec.ofInt k.bits x &&& BitVec.ofInt k.bits y).toNat)
def oor (k : IntKind) (x y : Int) : Int := k.wrap ((BitVec.ofInt k.bits x ||| BitVec.ofInt k.bits y).toNat)
def oxor (k : IntKind) (x y : Int) : Int := k.wrap ((BitVec.ofInt k.bits x ^^^ BitVec.ofInt k.bits y).toNat)
def oandn (k : IntKind) (x y : Int) : Int := k.wrap ((BitVec.ofInt k.bits x &&& ~~~ BitVec.ofInt k.bits y).toNat)
def oshl (k : IntKind) (x : Int) (n : Nat) : Int := k.wrap (x * 2 ^ n)
def oshr (x : Int) (n : Nat) : Int := x.fdiv (2 ^ n)

theorem wrap_u64 (n : Nat) (h : n < 18446744073709551616) : IntKind.u64.wrap (n : Int) = (n : Int) := by
  simp only [IntKind.wrap, IntKind.bits, IntKind.signed]
  simp
  omega
theorem wrap_u8 (n : Nat) (h : n < 256) : IntKind.u8.wrap (n : Int) = (n : Int) := by
  simp only [IntKind.wrap, IntKind.bits, IntKind.signed]
  simp
  omega
theorem oadd_u64 (a b : Nat) (h : a + b < 18446744073709551616) : oadd .u64 (a : Int) (b : Int) = ((a + b : Nat) : Int) := by
  unfold oadd
  rw [← Int.natCast_add, wrap_u64 _ h]
theorem omul_u64 (a b : Nat) (h : a * b < 18446744073709551616) : omul .u64 (a : Int) (b : Int) = ((a * b : Nat) : Int) := by
  unfold omul
  rw [← Int.natCast_mul, wrap_u64 _ h]
theorem osub_u64 (a b : Nat) (ha : a < 18446744073709551616) (hb : b < 18446744073709551616) : osub .u64 (a : Int) (b : Int) = (((a + 18446744073709551616 - b) % 18446744073709551616 : Nat) : Int) := by
  simp only [osub, IntKind.wrap, IntKind.bits, IntKind.signed]
  simp
  omega
theorem oand_u64 (a b : Nat) (ha : a < 18446744073709551616) (hb : b < 18446744073709551616) : oand .u64 (a : Int) (b : Int) = ((a &&& b : Nat) : Int) := by
  show IntKind.u64.wrap ((BitVec.ofInt 64 (a : Int) &&& BitVec.ofInt 64 (b : Int)).toNat : Int) = _
  simp only [BitVec.ofInt_natCast, BitVec.toNat_and, BitVec.toNat_ofNat]
  rw [Nat.mod_eq_of_lt ha, Nat.mod_eq_of_lt hb]
  exact wrap_u64 _ (Nat.lt_of_le_of_lt Nat.and_le_left ha)
theorem oor_u64 (a b : Nat) (ha : a < 18446744073709551616) (hb : b < 18446744073709551616) : oor .u64 (a : Int) (b : Int) = ((a ||| b : Nat) : Int) := by
  show IntKind.u64.wrap ((BitVec.ofInt 64 (a : Int) ||| BitVec.ofInt 64 (b : Int)).toNat : Int) = _
  simp only [BitVec.ofInt_natCast, BitVec.toNat_or, BitVec.toNat_ofNat]
  rw [Nat.mod_eq_of_lt ha, Nat.mod_eq_of_lt hb]
  exact wrap_u64 _ (Nat.or_lt_two_pow (n := 64) ha hb)
theorem oandn_u64 (a b : Nat) (ha : a < 18446744073709551616) (hb : b < 18446744073709551616) : oandn .u64 (a : Int) (b : Int) = ((a &&& (18446744073709551615 - b) : Nat) : Int) := by
  show IntKind.u64.wrap ((BitVec.ofInt 64 (a : Int) &&& ~~~ BitVec.ofInt 64 (b : Int)).toNat : Int) = _
  simp only [BitVec.ofInt_natCast, BitVec.toNat_and, BitVec.toNat_ofNat, BitVec.toNat_not]
  rw [Nat.mod_eq_of_lt ha, Nat.mod_eq_of_lt hb]
  exact wrap_u64 _ (Nat.lt_of_le_of_lt Nat.and_le_left ha)
theorem oshl_u64 (a n : Nat) : oshl .u64 (a : Int) n = ((a * 2 ^ n % 18446744073709551616 : Nat) : Int) := by
  unfold oshl
  rw [show ((a : Int) * 2 ^ n) = ((a * 2 ^ n : Nat) : Int) by rw [Int.natCast_mul, Int.natCast_pow]; rfl]
  simp only [IntKind.wrap, IntKind.bits, IntKind.signed]
  simp
theorem oshr_nat (a n : Nat) : oshr (a : Int) n = ((a / 2 ^ n : Nat) : Int) := by
  unfold oshr
  rw [Int.fdiv_eq_ediv_of_nonneg _ (by exact Int.le_of_lt (Int.pow_pos (by decide)))]
  rw [Int.natCast_ediv, Int.natCast_pow]
  rfl
theorem and_low (a : Nat) : a &&& 67108863 = a % 67108864 := Nat.and_two_pow_sub_one_eq_mod a 26
end Go.Proofs.YtmfpjdbgdmmjkaaDoor
namespace Go.Proofs.YtmfpjdbgdmmjkaaDoor.Ev
open Go.RowKit
/-- The bytes that a call answers. -/
def ansSl (P : Program) (n : Nat) (f : FuncId) (args : Array Value) (l : List Blk) : Option (List Value) :=
  match evBody P (evC P n) f args (aw l) with
  | some (.slice (some ⟨i, 0, none⟩) m c, a) => match a.heap.get i with
    | some b => if m ≤ b.cells.length ∧ m ≤ c ∧ b.kind < 2 then some (b.cells.take m) else none
    | none => none
  | _ => none
theorem calls_bs {P : Program} (hm : P.follows .mixedOrders = true) {n : Nat} {f : FuncId} {args args' : Array Value} {cs : List Value} {w : World} {l : List (Blk × BI)} (hl : l.length ≤ 1000000) (hg : ∀ x ∈ l, Given w (fun _ => False) x)
    (h3 : ∀ x ∈ l, x.1.kind = 3) (hargs : VL (pl l) args.toList args'.toList) (h : ansSl P n f args (l.map (·.1)) = some cs) (bs : List UInt8) (hb : cs = bs.map bv) :
    Calls P f args' w fun e w1 => ∃ v, e = .returned v ∧ Bs w1 w1.heap.size v bs ∧ Below w.heap.size w w1 := by
  subst hb
  unfold ansSl at h
  split at h
  · rename_i i m c a1 he
    split at h
    · rename_i b hbl
      split at h
      · rename_i hc
        obtain ⟨hc1, hc2, hk⟩ := hc
        injection h with h
        refine (calls_given hm hl hg (fun i j x y hx _ hk => by have := h3 x (List.mem_of_getElem? hx); omega) hargs he).mono ?_
        rintro e w1 ⟨β1, v', rfl, _, k2, k3⟩
        obtain ⟨a', bi, rfl, hva, k4⟩ := k3.sliceOf
        obtain ⟨_, bi', k5, rfl⟩ := hva
        rw [k4] at k5; injection k5 with k5; subst k5
        obtain ⟨bj, cur, fz, g1, g2, g3, g4, g5, g6, g7, g8⟩ := k2.blk i b hbl hk
        rw [k4] at g1; injection g1 with g1; subst g1
        have hlen : bs.length = m := by
          have := congrArg List.length h
          rw [List.length_take, List.length_map] at this
          omega
        refine ⟨_, rfl, ⟨some ⟨bi.blk, 0, none⟩, c + bi.ext, by rw [hlen, g3]; rfl, by omega, fun _ => ⟨bi.blk, 0, rfl, ?_, fun j u hu => ?_⟩⟩, k2.below.below fun _ h => h⟩
        · rcases Nat.lt_or_ge bi.blk w1.heap.size with h' | h'
          · exact h'
          · rw [Array.getElem?_eq_none h'] at g4; cases g4
        · have hj : b.cells[j]? = some (bv u) := by
            have h2 : (b.cells.take m)[j]? = some (bv u) := by rw [h, List.getElem?_map, hu]; rfl
            rw [List.getElem?_take] at h2
            split at h2
            · exact h2
            · cases h2
          obtain ⟨v', h5, h6⟩ := g8.get hj
          have := h6.flat_eq (v := bv u) rfl
          subst this
          have h7 : cur[j]? = some (bv u) := by
            rw [List.getElem?_take] at h5
            split at h5
            · rw [← Array.getElem?_toList]; exact h5
            · cases h5
          simp only [World.cell?, g4, Nat.zero_add, h7]
          rfl
      · cases h
    · cases h
  · cases h
end Go.Proofs.YtmfpjdbgdmmjkaaDoor.Ev
namespace Go.Proofs.YtmfpjdbgdmmjkaaDoor
namespace Oct

/-- The number whose bytes are these, the highest first. -/
def be (l : List UInt8) : Nat := l.foldl (fun x b => x * 256 + b.toNat) 0
theorem be_snoc (l : List UInt8) (b : UInt8) : be (l ++ [b]) = be l * 256 + b.toNat := by simp [be]
theorem be_nil : be [] = 0 := rfl

/-- Whatever holds of the empty list, and of a list with one more at its end, holds of all. -/
theorem snoc_ind {α : Type} {p : List α → Prop} (h0 : p []) (h1 : ∀ l a, p l → p (l ++ [a])) (l : List α) : p l := by
  have key : ∀ n (l : List α), l.length = n → p l := by
    intro n
    induction n with
    | zero => intro l hl; have := List.eq_nil_of_length_eq_zero hl; subst this; exact h0
    | succ n ih =>
      intro l hl
      have hne : l ≠ [] := by intro h; subst h; simp at hl
      rw [← List.dropLast_concat_getLast hne]
      exact h1 _ _ (ih _ (by simp [hl]))
  exact key _ l rfl

theorem be_lt (l : List UInt8) : be l < 256 ^ l.length := by
  induction l using snoc_ind with
  | h0 => simp [be]
  | h1 l b ih =>
    rw [be_snoc, List.length_append, List.length_singleton, Nat.pow_succ]
    have := b.toNat_lt
    omega
theorem be_take {l : List UInt8} {k : Nat} {u : UInt8} (hu : l[k]? = some u) : be (l.take (k + 1)) = be (l.take k) * 256 + u.toNat := by
  rw [List.take_add_one, hu]
  exact be_snoc _ _
theorem be_small (l : List UInt8) (h : l.length ≤ 7) : be l < 2 ^ 56 := by
  have h1 := be_lt l
  have h2 : 256 ^ l.length ≤ 256 ^ 7 := Nat.pow_le_pow_right (by omega) h
  have h3 : (256 : Nat) ^ 7 = 2 ^ 56 := by decide
  omega
theorem be_cons (u : UInt8) (l : List UInt8) : be (u :: l) = u.toNat * 256 ^ l.length + be l := by
  induction l using snoc_ind with
  | h0 => simp [be]
  | h1 l b ih =>
    rw [← List.cons_append, be_snoc, ih, be_snoc, List.length_append, List.length_singleton, Nat.pow_succ, Nat.add_mul, Nat.mul_assoc]
    omega

/-- The last k bytes of a number, the highest first. -/
def bytesBE : Nat → Nat → List UInt8
  | 0, _ => []
  | k + 1, x => bytesBE k (x / 256) ++ [UInt8.ofNat (x % 256)]
theorem bytesBE_length (k : Nat) : ∀ x, (bytesBE k x).length = k := by
  induction k with
  | zero => intro x; rfl
  | succ k ih => intro x; simp [bytesBE, ih]
theorem be_bytesBE (k : Nat) : ∀ x, be (bytesBE k x) = x % 256 ^ k := by
  induction k with
  | zero => intro x; simp [bytesBE, be, Nat.mod_one]
  | succ k ih =>
    intro x
    have h1 : (UInt8.ofNat (x % 256)).toNat = x % 256 := by simp [UInt8.toNat_ofNat']
    rw [bytesBE, be_snoc, ih, h1, Nat.pow_succ, Nat.mul_comm (256 ^ k) 256, Nat.mod_mul]
    omega
theorem bytesBE_be (l : List UInt8) : bytesBE l.length (be l) = l := by
  induction l using snoc_ind with
  | h0 => rfl
  | h1 l b ih =>
    have hb := b.toNat_lt
    rw [List.length_append, List.length_singleton, bytesBE, be_snoc]
    have h1 : (be l * 256 + b.toNat) / 256 = be l := by omega
    have h2 : (be l * 256 + b.toNat) % 256 = b.toNat := by omega
    rw [h1, h2, ih]
    simp

/-- How many bytes a number needs. -/
def nsize (x : Nat) : Nat := (Lib.bitLen x + 7) / 8
theorem nsize_zero : nsize 0 = 0 := by decide
theorem nsize_spec (x : Nat) (hx : x < 2 ^ 64) : nsize x ≤ 8 ∧ x < 256 ^ nsize x ∧ (x ≠ 0 → 0 < nsize x ∧ 256 ^ (nsize x - 1) ≤ x) := by
  by_cases h0 : x = 0
  · subst h0; exact ⟨by decide, by decide, fun h => absurd rfl h⟩
  · have h := Lib.bitLenAux_bounds 64 x hx h0
    have hL : Lib.bitLen x ≤ 64 := Lib.bitLen_le x 64 (by omega) hx
    have e : Lib.bitLenAux 64 x = Lib.bitLen x := rfl
    rw [e] at h
    obtain ⟨h1, h2, h3⟩ := h
    have p : ∀ k, (256 : Nat) ^ k = 2 ^ (8 * k) := by intro k; rw [Nat.pow_mul]
    unfold nsize
    refine ⟨by omega, ?_, fun _ => ⟨by omega, ?_⟩⟩
    · rw [p]; exact Nat.lt_of_lt_of_le h3 (Nat.pow_le_pow_right (by omega) (by omega))
    · rw [p]; exact Nat.le_trans (Nat.pow_le_pow_right (by omega) (by omega)) h2
theorem nsize_unique (x k : Nat) (hx : x < 2 ^ 64) (h1 : x < 256 ^ k) (h2 : 0 < k → 256 ^ (k - 1) ≤ x) : nsize x = k := by
  obtain ⟨_, s1, s2⟩ := nsize_spec x hx
  by_cases h0 : x = 0
  · subst h0
    rw [nsize_zero]
    rcases Nat.eq_zero_or_pos k with hk | hk
    · exact hk.symm
    · have := h2 hk
      have := Nat.pow_pos (n := k - 1) (show 0 < 256 by omega)
      omega
  · obtain ⟨s3, s4⟩ := s2 h0
    have hk : 0 < k := by
      rcases Nat.eq_zero_or_pos k with hk | hk
      · subst hk; simp at h1; omega
      · exact hk
    have a : nsize x - 1 < k := (Nat.pow_lt_pow_iff_right (show 1 < 256 by omega)).1 (Nat.lt_of_le_of_lt s4 h1)
    have b : k - 1 < nsize x := (Nat.pow_lt_pow_iff_right (show 1 < 256 by omega)).1 (Nat.lt_of_le_of_lt (h2 hk) s1)
    omega

/-- The bytes of a number. -/
def enc (x : Nat) : List UInt8 := UInt8.ofNat (nsize x) :: bytesBE (nsize x) x
theorem enc_length (x : Nat) : (enc x).length = nsize x + 1 := by simp [enc, bytesBE_length]
theorem be_enc (x : Nat) (hx : x < 2 ^ 64) : be (bytesBE (nsize x) x) = x := by
  rw [be_bytesBE, Nat.mod_eq_of_lt (nsize_spec x hx).2.1]
theorem head_enc (x : Nat) (hx : x < 2 ^ 64) {u : UInt8} (h : (bytesBE (nsize x) x)[0]? = some u) : u.toNat ≠ 0 := by
  intro hu
  have hl := bytesBE_length (nsize x) x
  cases hb : bytesBE (nsize x) x with
  | nil => rw [hb] at h; simp at h
  | cons v r =>
    rw [hb] at h hl
    simp at h
    subst h
    have h1 := be_enc x hx
    rw [hb, be_cons, hu, Nat.zero_mul, Nat.zero_add] at h1
    have h2 := be_lt r
    have hlen : r.length = nsize x - 1 := by simp at hl; omega
    by_cases h0 : x = 0
    · subst h0; rw [nsize_zero] at hl; simp at hl
    · have := ((nsize_spec x hx).2.2 h0).2
      rw [hlen] at h2
      omega
/-- Bytes that are read as a number are that number's own. -/
theorem enc_be (l : List UInt8) (h8 : l.length ≤ 8) (h : ∀ u, l[0]? = some u → u.toNat ≠ 0) : nsize (be l) = l.length ∧ enc (be l) = UInt8.ofNat l.length :: l ∧ be l < 2 ^ 64 := by
  have hlt : be l < 2 ^ 64 := by
    have h1 := be_lt l
    have h2 : 256 ^ l.length ≤ 256 ^ 8 := Nat.pow_le_pow_right (by omega) h8
    have h3 : (256 : Nat) ^ 8 = 2 ^ 64 := by decide
    omega
  have hn : nsize (be l) = l.length := by
    refine nsize_unique _ _ hlt (be_lt l) fun hpos => ?_
    cases l with
    | nil => simp at hpos
    | cons u r =>
      have hu := h u rfl
      rw [be_cons]
      have : 1 * 256 ^ r.length ≤ u.toNat * 256 ^ r.length := Nat.mul_le_mul_right _ (by omega)
      simp at this ⊢
      omega
  exact ⟨hn, by rw [enc, hn, bytesBE_be], hlt⟩

/-- What a reader finds at the beginning of these bytes: the number, how many bytes it takes, the error. -/
def dec (l : List UInt8) : Nat × Nat × Nat :=
  match l with
  | [] => (0, 0, 5)
  | h :: t =>
    if 8 < h.toNat then (0, 0, 4)
    else if t.length < h.toNat then (0, 0, 5)
    else if 0 < h.toNat ∧ (t[0]?.map UInt8.toNat) = some 0 then (0, 0, 4)
    else (be (t.take h.toNat), 1 + h.toNat, 0)

theorem dec_enc (x : Nat) (hx : x < 2 ^ 64) (r : List UInt8) : dec (enc x ++ r) = (x, 1 + nsize x, 0) := by
  have hs := (nsize_spec x hx).1
  have hn : (UInt8.ofNat (nsize x)).toNat = nsize x := by rw [UInt8.toNat_ofNat']; omega
  have hl := bytesBE_length (nsize x) x
  simp only [enc, List.cons_append, dec, hn]
  rw [if_neg (by omega), if_neg (by rw [List.length_append, hl]; omega), if_neg, List.take_left' hl, be_enc x hx]
  rintro ⟨h0, h1⟩
  have hpos : 0 < (bytesBE (nsize x) x).length := by omega
  rw [List.getElem?_append_left hpos, List.getElem?_eq_getElem hpos] at h1
  simp only [Option.map_some, Option.some.injEq] at h1
  exact head_enc x hx (List.getElem?_eq_getElem hpos) h1

/-- What is read is written as just these bytes. -/
theorem enc_dec (l : List UInt8) (x n : Nat) (h : dec l = (x, n, 0)) : n ≤ l.length ∧ enc x = l.take n ∧ x < 2 ^ 64 := by
  cases l with
  | nil => simp [dec] at h
  | cons u t =>
    simp only [dec] at h
    split at h
    · simp at h
    · split at h
      · simp at h
      · split at h
        · simp at h
        · rename_i h1 h2 h3
          simp only [Prod.mk.injEq, and_true] at h
          obtain ⟨rfl, rfl⟩ := h
          have hlen : (t.take u.toNat).length = u.toNat := by rw [List.length_take]; omega
          have hz : ∀ v, (t.take u.toNat)[0]? = some v → v.toNat ≠ 0 := by
            intro v hv h0
            rw [List.getElem?_take] at hv
            split at hv
            · rename_i hpos
              exact h3 ⟨hpos, by rw [hv]; simp [h0]⟩
            · cases hv
          obtain ⟨e1, e2, e3⟩ := enc_be (t.take u.toNat) (by omega) hz
          refine ⟨by simp; omega, ?_, e3⟩
          rw [e2, hlen, Nat.add_comm 1, List.take_succ_cons]
          congr 1
          exact UInt8.ofNat_toNat
end Oct
end Go.Proofs.YtmfpjdbgdmmjkaaDoor
namespace Go.Proofs.YtmfpjdbgdmmjkaaDoor.Lea
open Go.RowKit
abbrev u1 (x : Int) : Value := .int .u8 x
def nonceI (e n : Int) : List Int := [IntKind.u8.wrap (oshr e 24), IntKind.u8.wrap (oshr e 16), IntKind.u8.wrap (oshr e 8), IntKind.u8.wrap (oshr e 0), IntKind.u8.wrap (oshr n 56), IntKind.u8.wrap (oshr n 48), IntKind.u8.wrap (oshr n 40), IntKind.u8.wrap (oshr n 32), IntKind.u8.wrap (oshr n 24), IntKind.u8.wrap (oshr n 16), IntKind.u8.wrap (oshr n 8), IntKind.u8.wrap (oshr n 0)]
set_option maxRecDepth 100000 in
theorem Nonce_ev (e n : Int) : Ev.ans Tryd.prog 1000 50 #[.int .u32 e, .int .u64 n] [] = some (.agg ((nonceI e n).map u1).toArray) := by kernel_rfl
theorem byte_ev (x k : Nat) : u1 (IntKind.u8.wrap (oshr (x : Int) k)) = bv (UInt8.ofNat (x / 2 ^ k % 256)) := by
  rw [oshr_nat, IntKind.wrap_u8']
  unfold bv
  simp [UInt8.toNat_ofNat']
/-- The bytes of a nonce. -/
def nonce (e n : Nat) : List UInt8 := Oct.bytesBE 4 e ++ Oct.bytesBE 8 n
theorem nonce_length (e n : Nat) : (nonce e n).length = 12 := by simp [nonce, Oct.bytesBE_length]
theorem nonce_ev (e n : Nat) : (nonceI e n).map u1 = (nonce e n).map bv := by
  simp only [nonceI, List.map_cons, List.map_nil, byte_ev, nonce, Oct.bytesBE, Nat.div_div_eq_div_mul, List.nil_append, List.cons_append, List.append_assoc]
  simp only [Nat.reducePow, Nat.reduceMul, Nat.div_one]
theorem flat_args {l : List Value} (h : (l.all Ev.flat) = true) : Ev.VL (Ev.pl []) l l := Ev.VL.of_flat (List.all_eq_true.1 h)
theorem flat2_bv (l : List UInt8) : Ev.flat2 (.agg (l.map bv).toArray) = true := by
  simp only [Ev.flat2, Ev.flat, List.all_eq_true]
  intro v hv
  simp at hv
  obtain ⟨u, _, rfl⟩ := hv
  rfl
theorem Nonce_any (e n : Nat) (w : World) : Calls Tryd.prog 50 #[.int .u32 (e : Int), .int .u64 (n : Int)] w fun r w' => r = .returned (arr8 (nonce e n)) ∧ Below w.heap.size w w' := by
  have h := Nonce_ev (e : Int) (n : Int)
  rw [nonce_ev] at h
  exact Ev.calls_ans (l := []) (show Tryd.prog.follows .mixedOrders = true by kernel_rfl) (by decide) (by simp) (by simp) (flat_args rfl) h (flat2_bv _)
end Go.Proofs.YtmfpjdbgdmmjkaaDoor.Lea
namespace Go.Proofs.YtmfpjdbgdmmjkaaDoor.Shk
open Go.RowKit
open Lea (u1)
/-- A mark's bytes as numbers. -/
def u8n (x : Int) : Value := .int .u8 x
def nums (l : List UInt8) : List Int := l.map fun u => (u.toNat : Int)
theorem cells_nums (l : List UInt8) : (nums l).map u8n = l.map bv := by simp [u8n, nums, bv]
theorem wrap8 (n : Nat) (h : n < 256) : IntKind.u8.wrap ((n : Nat) : Int) = ((n : Nat) : Int) := IntWalk.u8_in _ (by omega)
def eqAcc : List Int → List Int → Int → Int
  | x :: xs, y :: ys, acc => eqAcc xs ys (oor .u8 acc (oxor .u8 x y))
  | _, _, acc => acc
theorem or_is (a b : UInt8) : oor .u8 (a.toNat : Int) (b.toNat : Int) = ((a ||| b).toNat : Int) := by
  show IntKind.u8.wrap ((BitVec.ofInt 8 (a.toNat : Int) ||| BitVec.ofInt 8 (b.toNat : Int)).toNat : Int) = _
  have h := (a ||| b).toNat_lt
  simp only [BitVec.ofInt_natCast, BitVec.toNat_or, BitVec.toNat_ofNat]
  rw [Nat.mod_eq_of_lt a.toNat_lt, Nat.mod_eq_of_lt b.toNat_lt, ← UInt8.toNat_or]
  exact wrap8 _ h
theorem xor_is (a b : UInt8) : oxor .u8 (a.toNat : Int) (b.toNat : Int) = ((a ^^^ b).toNat : Int) := by
  show IntKind.u8.wrap ((BitVec.ofInt 8 (a.toNat : Int) ^^^ BitVec.ofInt 8 (b.toNat : Int)).toNat : Int) = _
  have h := (a ^^^ b).toNat_lt
  simp only [BitVec.ofInt_natCast, BitVec.toNat_xor, BitVec.toNat_ofNat]
  rw [Nat.mod_eq_of_lt a.toNat_lt, Nat.mod_eq_of_lt b.toNat_lt, ← UInt8.toNat_xor]
  exact wrap8 _ h
theorem or_zero (a b : UInt8) : (a ||| b) = 0 ↔ a = 0 ∧ b = 0 := by
  constructor
  · intro h
    have h' : (a.toBitVec ||| b.toBitVec) = 0#8 := congrArg UInt8.toBitVec h
    rw [BitVec.or_eq_zero_iff] at h'
    exact ⟨UInt8.toBitVec_inj.1 h'.1, UInt8.toBitVec_inj.1 h'.2⟩
  · rintro ⟨rfl, rfl⟩
    rfl
theorem xor_zero (a b : UInt8) : (a ^^^ b) = 0 ↔ a = b := by
  constructor
  · intro h
    have h2 : (a ^^^ b) ^^^ b = 0 ^^^ b := by rw [h]
    rw [UInt8.xor_assoc, UInt8.xor_self, UInt8.xor_zero, UInt8.zero_xor] at h2
    exact h2
  · rintro rfl
    exact UInt8.xor_self
def accB : List UInt8 → List UInt8 → UInt8 → UInt8
  | x :: xs, y :: ys, acc => accB xs ys (acc ||| (x ^^^ y))
  | _, _, acc => acc
theorem eqAcc_is : ∀ (a b : List UInt8) (acc : UInt8), eqAcc (nums a) (nums b) (acc.toNat : Int) = ((accB a b acc).toNat : Int)
  | [], _, _ => rfl
  | _ :: _, [], _ => rfl
  | x :: xs, y :: ys, acc => by
    show eqAcc (nums xs) (nums ys) (oor .u8 (acc.toNat : Int) (oxor .u8 (x.toNat : Int) (y.toNat : Int))) = _
    rw [xor_is, or_is]
    exact eqAcc_is xs ys _
theorem accB_zero : ∀ (a b : List UInt8) (acc : UInt8), a.length = b.length → (accB a b acc = 0 ↔ acc = 0 ∧ a = b)
  | [], [], acc, _ => by simp [accB]
  | [], _ :: _, _, h => by simp at h
  | _ :: _, [], _, h => by simp at h
  | x :: xs, y :: ys, acc, h => by
    show accB xs ys _ = 0 ↔ _
    rw [accB_zero xs ys _ (by simpa using h), or_zero, xor_zero, List.cons.injEq, and_assoc]
theorem equal_is {a b : List UInt8} (ha : a.length = 16) (hb : b.length = 16) : (eqAcc (nums a) (nums b) ((0 : Nat) : Int) == ((0 : Nat) : Int)) = decide (a = b) := by
  have h := eqAcc_is a b 0
  rw [show ((0 : UInt8).toNat : Int) = ((0 : Nat) : Int) from rfl] at h
  rw [h, Bool.eq_iff_iff]
  simp only [beq_iff_eq, decide_eq_true_eq, Int.natCast_inj]
  have h2 := accB_zero a b 0 (by omega)
  rw [← UInt8.toNat_inj] at h2
  rw [show (0 : UInt8).toNat = 0 from rfl] at h2
  rw [h2]
  simp
def I4 (x : Int) : List Int := [IntKind.u8.wrap (oshr x 24), IntKind.u8.wrap (oshr x 16), IntKind.u8.wrap (oshr x 8), IntKind.u8.wrap (oshr x 0)]
def I8 (n : Int) : List Int := [IntKind.u8.wrap (oshr n 56), IntKind.u8.wrap (oshr n 48), IntKind.u8.wrap (oshr n 40), IntKind.u8.wrap (oshr n 32), IntKind.u8.wrap (oshr n 24), IntKind.u8.wrap (oshr n 16), IntKind.u8.wrap (oshr n 8), IntKind.u8.wrap (oshr n 0)]
set_option maxRecDepth 100000 in
theorem num4_ev (x : Int) : Ev.ansSl Tryd.prog 4000 88 #[.int .u32 x] [] = some ((I4 x).map u1) := by kernel_rfl
set_option maxRecDepth 100000 in
theorem num8_ev (x : Int) : Ev.ansSl Tryd.prog 4000 69 #[.int .u64 x] [] = some ((I8 x).map u1) := by kernel_rfl
theorem I4_is (x : Nat) : (I4 (x : Int)).map u1 = (Oct.bytesBE 4 x).map bv := by
  simp only [I4, List.map_cons, List.map_nil, Lea.byte_ev, Oct.bytesBE, Nat.div_div_eq_div_mul, List.nil_append, List.cons_append, List.append_assoc]
  simp only [Nat.reducePow, Nat.reduceMul, Nat.div_one]
theorem I8_is (x : Nat) : (I8 (x : Int)).map u1 = (Oct.bytesBE 8 x).map bv := by
  simp only [I8, List.map_cons, List.map_nil, Lea.byte_ev, Oct.bytesBE, Nat.div_div_eq_div_mul, List.nil_append, List.cons_append, List.append_assoc]
  simp only [Nat.reducePow, Nat.reduceMul, Nat.div_one]
theorem num4_any (x : Nat) (w : World) : Calls Tryd.prog 88 #[.int .u32 (x : Int)] w fun e w' => ∃ v, e = .returned v ∧ Bs w' w'.heap.size v (Oct.bytesBE 4 x) ∧ Below w.heap.size w w' :=
  Ev.calls_bs (l := []) (show Tryd.prog.follows .mixedOrders = true by kernel_rfl) (by decide) (by simp) (by simp) (Lea.flat_args rfl) (num4_ev (x : Int)) _ (I4_is x)
theorem num8_any (x : Nat) (w : World) : Calls Tryd.prog 69 #[.int .u64 (x : Int)] w fun e w' => ∃ v, e = .returned v ∧ Bs w' w'.heap.size v (Oct.bytesBE 8 x) ∧ Below w.heap.size w w' :=
  Ev.calls_bs (l := []) (show Tryd.prog.follows .mixedOrders = true by kernel_rfl) (by decide) (by simp) (by simp) (Lea.flat_args rfl) (num8_ev (x : Int)) _ (I8_is x)
theorem flat_arr (l : List UInt8) : Ev.flat (arr8 l) = true := by
  simp only [arr8, Ev.flat, List.all_eq_true]
  intro v hv
  simp at hv
  obtain ⟨u, _, rfl⟩ := hv
  rfl
theorem isSame_ev : ∀ a b : List Int, a.length = 16 → b.length = 16 → Ev.ans Tryd.prog 2000 89 #[.agg (a.map u8n).toArray, .agg (b.map u8n).toArray] [] = some (.bool (eqAcc a b ((0 : Nat) : Int) == ((0 : Nat) : Int)))
  | [_, _, _, _, _, _, _, _, _, _, _, _, _, _, _, _], [_, _, _, _, _, _, _, _, _, _, _, _, _, _, _, _], _, _ => by kernel_rfl
theorem isSame_any {a b : List UInt8} (ha : a.length = 16) (hb : b.length = 16) (w : World) : Calls Tryd.prog 89 #[arr8 a, arr8 b] w fun e w' => e = .returned (.bool (decide (a = b))) ∧ Below w.heap.size w w' := by
  have h := isSame_ev (nums a) (nums b) (by simp [nums, ha]) (by simp [nums, hb])
  rw [show (nums a).map u8n = a.map bv from cells_nums a, show (nums b).map u8n = b.map bv from cells_nums b, equal_is ha hb] at h
  exact Ev.calls_ans (l := []) (show Tryd.prog.follows .mixedOrders = true by kernel_rfl) (by decide) (by simp) (by simp) (Lea.flat_args (by simp only [List.all_cons, List.all_nil, flat_arr, Bool.and_self])) h rfl
end Go.Proofs.YtmfpjdbgdmmjkaaDoor.Shk
namespace Go.Proofs.YtmfpjdbgdmmjkaaDoor.Shk
open Go.RowKit
open Pkt (Pk code_name c_peer c_ses c_epo l_all)
/-- A peer's number, as 32 bits. -/
def p32 (z : Int) : Nat := (z % 4294967296).toNat
theorem p32_wrap (z : Int) : IntKind.u32.wrap z = ((p32 z : Nat) : Int) := by
  rw [IntKind.wrap_u32']
  unfold p32
  omega
/-- What a hello's mark is of. -/
def helloL (p : Pk) : List (List UInt8) := [Oct.bytesBE 4 (p32 p.peer), p.rnd]
theorem bs_rnd {w : World} {g : Nat} {p : Pk} (h : Row w g p.cells 40) (ho : p.Ok) : Bs w w.heap.size (.slice (some ⟨g, 5, none⟩) 16 16) p.rnd :=
  ⟨_, 16, by rw [ho.r], by rw [ho.r]; exact Nat.le_refl _, fun _ => ⟨g, 5, rfl, h.lt, fun i u hu => h.cell (by
    have hi := (List.getElem?_eq_some_iff.1 hu).1
    rw [Nat.add_comm]
    show (p.rnd.map bv ++ (p.mrk.map bv ++ [p.bo]))[i]? = _
    rw [List.getElem?_append_left (by rw [List.length_map]; exact hi), List.getElem?_map, hu]
    rfl)⟩⟩
set_option maxRecDepth 100000 in
set_option maxHeartbeats 2000000 in
theorem helloBytes_any (p : Pk) (ho : p.Ok) (w : World) : Calls Tryd.prog 62 #[p.val] w fun e w' => ∃ v, e = .returned v ∧ FullL w' v (helloL p) ∧ Below w.heap.size w w' := by
  have Ho := Lib.hid ho
  clear ho
  unfold Pk.val
  go_enter Tryd.func62, Tryd.ntmps62
  go_wp2_with fail
  refine code_name fun W0 hW0 => ?_
  have HP := Lib.hid (show Row W0 w.heap.size p.cells 40 from hW0 ▸ Row.new rfl rfl)
  have HB0 := Lib.hid (show Below w.heap.size w W0 from hW0 ▸ (Below.refl _ w).alloc (Nat.le_refl _) _)
  clear hW0
  refine By.marks Pol.mixed Grew [By.is (.pointer (some ⟨w.heap.size, 1, none⟩)),
    By.is (.int .i64 p.peer),
    By.is (.int .u32 ((p32 p.peer : Nat) : Int)),
    bsM (Oct.bytesBE 4 (p32 p.peer)),
    By.is (.pointer (some ⟨w.heap.size, 5, none⟩)),
    By.is (.slice (some ⟨w.heap.size, 5, none⟩) 16 16),
    fullM (helloL p),
    fullM (helloL p)]
    (Ev.masks _ []) (by kernel_rfl) rfl Grew.refl Grew.trans ⟨?_, ?_, ?_, ?_, ?_, ?_, ?_, ?_, trivial⟩ ?_
  · intro a w ht hs hg -- 3
    have h1 := By.same_get hs 1 (by decide) (by kernel_rfl)
    refine By.yes rfl ?_
    clear hs hg
    go_simp
    exact ⟨_, rfl, Grew.refl _, rfl⟩
  · intro a w ht hs hg -- 4
    have h3 : a.tmps.getD 3 undef = _ := By.given_get hg 0 rfl rfl (by kernel_rfl)
    refine By.yes rfl ?_
    clear hs hg
    have hc := c_peer (Row.below (w := W0.drew) HP.out ht HP.out.lt)
    clear ht
    go_simp
    exact ⟨_, rfl, Grew.refl _, rfl⟩
  · intro a w ht hs hg -- 5
    have h4 : a.tmps.getD 4 undef = _ := By.given_get hg 1 rfl rfl (by kernel_rfl)
    refine By.yes rfl ?_
    clear hs hg
    go_simp
    exact ⟨_, rfl, Grew.refl _, congrArg (Value.int .u32) (p32_wrap p.peer)⟩
  · intro a w ht hs hg -- 6
    have h5 : a.tmps.getD 5 undef = _ := By.given_get hg 2 rfl rfl (by kernel_rfl)
    refine By.yes rfl ?_
    clear hs hg
    clear ht
    go_simp
    refine (num4_any (p32 p.peer) w).mono ?_
    rintro e w' ⟨v, rfl, hv, hb⟩
    exact ⟨_, rfl, hb, hv⟩
  · intro a w ht hs hg -- 7
    have h1 := By.same_get hs 1 (by decide) (by kernel_rfl)
    refine By.yes rfl ?_
    clear hs hg
    go_simp
    exact ⟨_, rfl, Grew.refl _, rfl⟩
  · intro a w ht hs hg -- 8
    have h7 : a.tmps.getD 7 undef = _ := By.given_get hg 4 rfl rfl (by kernel_rfl)
    refine By.yes rfl ?_
    clear hs hg
    go_simp
    exact ⟨_, rfl, Grew.refl _, rfl⟩
  · intro a w ht hs hg -- 9
    have h6 := By.given_get hg 3 rfl rfl (by kernel_rfl)
    have h8 : a.tmps.getD 8 undef = _ := By.given_get hg 5 rfl rfl (by kernel_rfl)
    refine By.yes rfl ?_
    obtain ⟨v6, hv6⟩ : ∃ v, a.tmps.getD 6 undef = v := ⟨_, rfl⟩
    replace h6 := (congrArg (fun v => ((bsM (Oct.bytesBE 4 (p32 p.peer)))).on v w) hv6).mp h6
    clear hs hg
    have h2 := bs_rnd (Row.below (w := W0.drew) HP.out ht HP.out.lt) Ho.out
    refine wp_list2 (.tmp 6) (.tmp 8) rfl hv6 h6 h8 h2 ?_
    intro v' w' h hb
    exact ⟨_, rfl, hb, h⟩
  · intro a w ht hs hg -- 2
    have h9 := By.given_get hg 6 rfl rfl (by kernel_rfl)
    refine By.yes rfl ?_
    obtain ⟨v9, hv9⟩ : ∃ v, a.tmps.getD 9 undef = v := ⟨_, rfl⟩
    replace h9 := (congrArg (fun v => ((fullM (helloL p))).on v w) hv9).mp h9
    clear hs hg
    have Hx := Lib.hid h9
    clear h9
    go_simp
    exact ⟨_, rfl, Grew.refl _, Hx.out⟩
  refine By.ends_is (By.ends_is (By.ends_is (By.ends_skip fun v6 => (By.ends_is (By.ends_is (By.ends_skip fun v9 => (By.ends_any fun v2 => (By.ends_nil fun w9 hw9 => ?_))))))))
  simp only [Act.put, List.setIfInBounds_toArray, List.set_cons_succ, List.set_cons_zero]
  obtain ⟨hw, h2⟩ := hw9
  have HB9 := Lib.hid (nextB HB0.out (Nat.le_refl _) (grew_below hw))
  have HX := Lib.hid h2
  clear h2 hw
  go_wp2
  go_ret
  exact ⟨_, rfl, HX.out, HB9.out⟩
/-- What an answer's mark is of. -/
def answerL (p q : Pk) : List (List UInt8) := helloL p ++ [Oct.bytesBE 8 q.ses, Oct.bytesBE 4 q.epo, q.rnd]
set_option maxRecDepth 100000 in
set_option maxHeartbeats 2000000 in
theorem answerBytes_any (p q : Pk) (ho : p.Ok) (hq : q.Ok) (w : World) : Calls Tryd.prog 63 #[p.val, q.val] w fun e w' => ∃ v, e = .returned v ∧ Bss w' w'.heap.size v (answerL p q) ∧ Below w.heap.size w w' := by
  have Ho := Lib.hid ho
  have Hq := Lib.hid hq
  clear ho hq
  unfold Pk.val
  go_enter Tryd.func63, Tryd.ntmps63
  go_wp2_with fail
  refine code_name fun W0 hW0 => ?_
  have HP := Lib.hid (show Row W0 w.heap.size p.cells 40 from hW0 ▸ (Row.new rfl rfl).alloc _)
  have HQ := Lib.hid (show Row W0 (w.heap.size + 1) q.cells 40 from hW0 ▸ Row.new (by simp) rfl)
  have HB0 := Lib.hid (show Below w.heap.size w W0 from hW0 ▸ ((Below.refl _ w).alloc (Nat.le_refl _) _).alloc (by simp) _)
  clear hW0
  refine By.marks Pol.mixed Grew [By.is p.val,
    fullM (helloL p),
    By.is (.pointer (some ⟨(w.heap.size + 1), 2, none⟩)),
    By.is (.int .u64 (q.ses : Int)),
    bsM (Oct.bytesBE 8 q.ses),
    By.is (.pointer (some ⟨(w.heap.size + 1), 3, none⟩)),
    By.is (.int .u32 (q.epo : Int)),
    bsM (Oct.bytesBE 4 q.epo),
    By.is (.pointer (some ⟨(w.heap.size + 1), 5, none⟩)),
    By.is (.slice (some ⟨(w.heap.size + 1), 5, none⟩) 16 16),
    fullM [Oct.bytesBE 8 q.ses, Oct.bytesBE 4 q.epo, q.rnd],
    bssM (answerL p q),
    bssM (answerL p q)]
    (Ev.masks _ []) (by kernel_rfl) rfl Grew.refl Grew.trans ⟨?_, ?_, ?_, ?_, ?_, ?_, ?_, ?_, ?_, ?_, ?_, ?_, ?_, trivial⟩ ?_
  · intro a w ht hs hg -- 5
    have h2 := By.same_get hs 2 (by decide) (by kernel_rfl)
    refine By.yes rfl ?_
    clear hs hg
    have hr := l_all (Row.below (w := W0.drew) HP.out ht HP.out.lt) Ho.out
    refine wp_ld 40 _ rfl h2 hr ?_
    exact ⟨_, rfl, Grew.refl _, rfl⟩
  · intro a w ht hs hg -- 6
    have h5 : a.tmps.getD 5 undef = _ := By.given_get hg 0 rfl rfl (by kernel_rfl)
    refine By.yes rfl ?_
    clear hs hg
    clear ht
    unfold Pk.val at h5
    go_simp
    refine (helloBytes_any p Ho.out w).mono ?_
    rintro e w' ⟨v, rfl, hv, hb⟩
    exact ⟨_, rfl, hb, hv⟩
  · intro a w ht hs hg -- 7
    have h3 := By.same_get hs 3 (by decide) (by kernel_rfl)
    refine By.yes rfl ?_
    clear hs hg
    go_simp
    exact ⟨_, rfl, Grew.refl _, rfl⟩
  · intro a w ht hs hg -- 8
    have h7 : a.tmps.getD 7 undef = _ := By.given_get hg 2 rfl rfl (by kernel_rfl)
    refine By.yes rfl ?_
    clear hs hg
    have hc := c_ses (Row.below (w := W0.drew) HQ.out ht HQ.out.lt)
    clear ht
    go_simp
    exact ⟨_, rfl, Grew.refl _, rfl⟩
  · intro a w ht hs hg -- 9
    have h8 : a.tmps.getD 8 undef = _ := By.given_get hg 3 rfl rfl (by kernel_rfl)
    refine By.yes rfl ?_
    clear hs hg
    clear ht
    go_simp
    refine (num8_any q.ses w).mono ?_
    rintro e w' ⟨v, rfl, hv, hb⟩
    exact ⟨_, rfl, hb, hv⟩
  · intro a w ht hs hg -- 10
    have h3 := By.same_get hs 3 (by decide) (by kernel_rfl)
    refine By.yes rfl ?_
    clear hs hg
    go_simp
    exact ⟨_, rfl, Grew.refl _, rfl⟩
  · intro a w ht hs hg -- 11
    have h10 : a.tmps.getD 10 undef = _ := By.given_get hg 5 rfl rfl (by kernel_rfl)
    refine By.yes rfl ?_
    clear hs hg
    have hc := c_epo (Row.below (w := W0.drew) HQ.out ht HQ.out.lt)
    clear ht
    go_simp
    exact ⟨_, rfl, Grew.refl _, rfl⟩
  · intro a w ht hs hg -- 12
    have h11 : a.tmps.getD 11 undef = _ := By.given_get hg 6 rfl rfl (by kernel_rfl)
    refine By.yes rfl ?_
    clear hs hg
    clear ht
    go_simp
    refine (num4_any q.epo w).mono ?_
    rintro e w' ⟨v, rfl, hv, hb⟩
    exact ⟨_, rfl, hb, hv⟩
  · intro a w ht hs hg -- 13
    have h3 := By.same_get hs 3 (by decide) (by kernel_rfl)
    refine By.yes rfl ?_
    clear hs hg
    go_simp
    exact ⟨_, rfl, Grew.refl _, rfl⟩
  · intro a w ht hs hg -- 14
    have h13 : a.tmps.getD 13 undef = _ := By.given_get hg 8 rfl rfl (by kernel_rfl)
    refine By.yes rfl ?_
    clear hs hg
    go_simp
    exact ⟨_, rfl, Grew.refl _, rfl⟩
  · intro a w ht hs hg -- 15
    have h9 := By.given_get hg 4 rfl rfl (by kernel_rfl)
    have h12 := By.given_get hg 7 rfl rfl (by kernel_rfl)
    have h14 : a.tmps.getD 14 undef = _ := By.given_get hg 9 rfl rfl (by kernel_rfl)
    refine By.yes rfl ?_
    obtain ⟨v9, hv9⟩ : ∃ v, a.tmps.getD 9 undef = v := ⟨_, rfl⟩
    replace h9 := (congrArg (fun v => ((bsM (Oct.bytesBE 8 q.ses))).on v w) hv9).mp h9
    obtain ⟨v12, hv12⟩ : ∃ v, a.tmps.getD 12 undef = v := ⟨_, rfl⟩
    replace h12 := (congrArg (fun v => ((bsM (Oct.bytesBE 4 q.epo))).on v w) hv12).mp h12
    clear hs hg
    have h2 := bs_rnd (Row.below (w := W0.drew) HQ.out ht HQ.out.lt) Hq.out
    refine wp_list3 (.tmp 9) (.tmp 12) (.tmp 14) rfl hv9 h9 hv12 h12 h14 h2 ?_
    intro v' w' h hb
    exact ⟨_, rfl, hb, h⟩
  · intro a w ht hs hg -- 16
    have h6 := By.given_get hg 1 rfl rfl (by kernel_rfl)
    have h15 := By.given_get hg 10 rfl rfl (by kernel_rfl)
    refine By.yes rfl ?_
    obtain ⟨v6, hv6⟩ : ∃ v, a.tmps.getD 6 undef = v := ⟨_, rfl⟩
    replace h6 := (congrArg (fun v => ((fullM (helloL p))).on v w) hv6).mp h6
    obtain ⟨v15, hv15⟩ : ∃ v, a.tmps.getD 15 undef = v := ⟨_, rfl⟩
    replace h15 := (congrArg (fun v => ((fullM [Oct.bytesBE 8 q.ses, Oct.bytesBE 4 q.epo, q.rnd])).on v w) hv15).mp h15
    clear hs hg
    refine wp_app_l (.tmp 6) (.tmp 15) rfl hv6 hv15 h6 (FullL.bss h15) (by unfold helloL; simp) ?_
    intro v' w' h hb
    exact ⟨_, rfl, hb, h⟩
  · intro a w ht hs hg -- 4
    have h16 := By.given_get hg 11 rfl rfl (by kernel_rfl)
    refine By.yes rfl ?_
    obtain ⟨v16, hv16⟩ : ∃ v, a.tmps.getD 16 undef = v := ⟨_, rfl⟩
    replace h16 := (congrArg (fun v => ((bssM (answerL p q))).on v w) hv16).mp h16
    clear hs hg
    have Hx := Lib.hid h16
    clear h16
    go_simp
    exact ⟨_, rfl, Grew.refl _, Hx.out⟩
  refine By.ends_is (By.ends_skip fun v6 => (By.ends_is (By.ends_is (By.ends_skip fun v9 => (By.ends_is (By.ends_is (By.ends_skip fun v12 => (By.ends_is (By.ends_is (By.ends_skip fun v15 => (By.ends_skip fun v16 => (By.ends_any fun v4 => (By.ends_nil fun w9 hw9 => ?_)))))))))))))
  simp only [Act.put, List.setIfInBounds_toArray, List.set_cons_succ, List.set_cons_zero]
  obtain ⟨hw, h4⟩ := hw9
  have HB9 := Lib.hid (nextB HB0.out (Nat.le_refl _) (grew_below hw))
  have HX := Lib.hid h4
  clear h4 hw
  go_wp2
  go_ret
  exact ⟨_, rfl, HX.out, HB9.out⟩
end Go.Proofs.YtmfpjdbgdmmjkaaDoor.Shk
namespace Go.Proofs.YtmfpjdbgdmmjkaaDoor.Shk
open Go.RowKit
open Pkt (code_name wpList_name wpList_ld)
def mark (key b : List UInt8) : List UInt8 := (Sha.mac key b).take 16
theorem mark_length (key b : List UInt8) : (mark key b).length = 16 := by
  unfold mark
  rw [List.length_take, show (Sha.mac key b).length = 32 from Sha.sum_length _]
  rfl
def z32 : List Value := (List.replicate 32 (0 : UInt8)).map bv
def newM (lo : Nat) : By.Mark Grew := ⟨fun v w => ∃ g, v = .pointer (some ⟨g, 0, none⟩) ∧ lo ≤ g ∧ Row w g z32 24, fun _ _ _ ⟨g, h1, h2, h3⟩ k => ⟨g, h1, h2, h3.below k h3.lt⟩⟩
set_option maxRecDepth 100000 in
set_option maxHeartbeats 2000000 in
theorem Mark_any (key tb : List UInt8) (ls : List (List UInt8)) (lv : Value) (hk : key.length = 32) (htb : tb.length ≤ 1000) (w : World) (ht : Tab w) (hb : Bss w w.heap.size lv ls) (hn : ls.length ≤ 1000) (hm : ∀ l ∈ ls, l.length ≤ 1000000) (hf : ls.flatten.length ≤ 1000000) :
    Calls Tryd.prog 38 #[arr8 key, strOf tb, lv] w fun e w' => e = .returned (arr8 (mark key (tb ++ ls.flatten))) ∧ Below w.heap.size w w' := by
  have Hkl := Lib.hid hk
  have Htb := Lib.hid htb
  have Hn := Lib.hid hn
  have Hm := Lib.hid hm
  have Hf := Lib.hid hf
  obtain ⟨A, c, rfl, _, _⟩ := id hb
  obtain ⟨lv, hlv⟩ : ∃ lv, Value.slice A ls.length c = lv := ⟨_, rfl⟩
  rw [hlv] at hb ⊢
  obtain ⟨M, hM⟩ : ∃ M, Sha.mac key (tb ++ ls.flatten) = M := ⟨_, rfl⟩
  have hMl : M.length = 32 := by rw [← hM]; exact Sha.sum_length _
  obtain ⟨N16, hN⟩ : ∃ N, mark key (tb ++ ls.flatten) = N := ⟨_, rfl⟩
  have hNe : M.take 16 = N16 := by rw [← hM, ← hN]; rfl
  have HNl := Lib.hid (show (N16.map bv).length = 16 by rw [List.length_map, ← hN]; exact mark_length _ _)
  have HM := Lib.hid hM
  have HMl := Lib.hid (show (M.map bv).length = 32 by rw [List.length_map]; exact hMl)
  have HN := Lib.hid hNe
  rw [hN]
  have Hb := Lib.hid hb
  have Ht := Lib.hid ht
  obtain ⟨g0, hg0⟩ : ∃ g, w.heap.size = g := ⟨_, rfl⟩
  have Hg0 := Lib.hid hg0
  clear hk htb hn hm hf hlv hM hMl hN hNe hb ht
  unfold arr8
  go_enter Tryd.func38, Tryd.ntmps38
  go_wp2_with fail
  refine code_name fun W0 hW0 => ?_
  have HK := Lib.hid (show Row W0 g0 (key.map bv) 24 from hg0 ▸ hW0 ▸ (Row.new rfl rfl).alloc _)
  have HO := Lib.hid (show Row W0 (g0 + 1) ((List.replicate 16 (0 : UInt8)).map bv) 38 from hg0 ▸ hW0 ▸ Row.new (by simp) rfl)
  have HB0 := Lib.hid (show Below g0 w W0 from hg0 ▸ hW0 ▸ ((Below.refl _ w).alloc (Nat.le_refl _) _).alloc (by simp) _)
  have HL := Lib.hid ((Hb.out.below (hg0.symm ▸ HB0.out)).more' HB0.out.size)
  have HT := Lib.hid (Ht.out.below (hg0.symm ▸ HB0.out) Ht.out.1)
  obtain ⟨L0, hL0⟩ : ∃ L, W0.heap.size = L := ⟨_, rfl⟩
  have HL0 := Lib.hid hL0
  try rw [hg0]
  clear hW0 hL0 hg0
  refine Tail.marksAt Pol.mixed 8 Grew [By.is (.slice (some ⟨g0, 0, none⟩) 32 32),
    By.is (strOf tb),
    bsM tb,
    fullM [tb],
    By.is lv,
    bssM ([tb] ++ ls),
    By.is (arr8 M),
    newM L0]
    (Ev.masks _ []) (Nat.zero_lt_succ _) (by kernel_rfl) (by kernel_rfl) rfl Grew.refl Grew.trans ⟨?_, ?_, ?_, ?_, ?_, ?_, ?_, ?_, trivial⟩ ?_
  · intro a w ht hs hg -- 8
    have h3 := By.same_get hs 3 (by decide) (by kernel_rfl)
    refine By.yes rfl ?_
    clear hs hg
    go_simp
    exact ⟨_, rfl, Grew.refl _, rfl⟩
  · intro a w ht hs hg -- 9
    have h1 := By.same_get hs 1 (by decide) (by kernel_rfl)
    refine By.yes rfl ?_
    clear hs hg
    go_simp
    exact ⟨_, rfl, Grew.refl _, rfl⟩
  · intro a w ht hs hg -- 10
    have h9 : a.tmps.getD 9 undef = _ := By.given_get hg 1 rfl rfl (by kernel_rfl)
    refine By.yes rfl ?_
    clear hs hg
    obtain ⟨v, W, hr, hv, hb⟩ := run_bytes w tb
    refine wp_conv _ _ (.tmp 9) rfl h9 hr ?_
    exact ⟨_, rfl, hb, hv⟩
  · intro a w ht hs hg -- 11
    have h10 := By.given_get hg 2 rfl rfl (by kernel_rfl)
    refine By.yes rfl ?_
    obtain ⟨v10, hv10⟩ : ∃ v, a.tmps.getD 10 undef = v := ⟨_, rfl⟩
    replace h10 := (congrArg (fun v => ((bsM tb)).on v w) hv10).mp h10
    clear hs hg
    refine wp_list1 (.tmp 10) rfl hv10 h10 ?_
    intro v' w' h hb
    exact ⟨_, rfl, hb, h⟩
  · intro a w ht hs hg -- 12
    have h2 := By.same_get hs 2 (by decide) (by kernel_rfl)
    refine By.yes rfl ?_
    clear hs hg
    go_simp
    exact ⟨_, rfl, Grew.refl _, rfl⟩
  · intro a w ht hs hg -- 13
    have h11 := By.given_get hg 3 rfl rfl (by kernel_rfl)
    have h12 : a.tmps.getD 12 undef = _ := By.given_get hg 4 rfl rfl (by kernel_rfl)
    refine By.yes rfl ?_
    obtain ⟨v11, hv11⟩ : ∃ v, a.tmps.getD 11 undef = v := ⟨_, rfl⟩
    replace h11 := (congrArg (fun v => ((fullM [tb])).on v w) hv11).mp h11
    clear hs hg
    refine wp_app_l (.tmp 11) (.tmp 12) rfl hv11 h12 h11 ((HL.out.below (grew_below ht)).more' ht.size) (by have := Hn.out; simp; omega) ?_
    intro v' w' h hb
    exact ⟨_, rfl, hb, h⟩
  · intro a w ht hs hg -- 14
    have h8 : a.tmps.getD 8 undef = _ := By.given_get hg 0 rfl rfl (by kernel_rfl)
    have h13 := By.given_get hg 5 rfl rfl (by kernel_rfl)
    refine By.yes rfl ?_
    obtain ⟨v13, hv13⟩ : ∃ v, a.tmps.getD 13 undef = v := ⟨_, rfl⟩
    replace h13 := (congrArg (fun v => ((bssM ([tb] ++ ls))).on v w) hv13).mp h13
    clear hs hg
    have HLw := Lib.hid h13
    have HTw := Lib.hid (HT.out.below (grew_below ht) HT.out.1)
    have HKw := Lib.hid (show Bs w w.heap.size (.slice (some ⟨g0, 0, none⟩) 32 32) key by
      have h1 := (Row.below (w := W0.drew) HK.out ht HK.out.lt).bs (B := w.heap.size) (Nat.lt_of_lt_of_le HK.out.lt ht.size)
      rwa [Hkl.out] at h1)
    clear h13 ht
    go_simp
    refine (Mac_any _ _ key ([tb] ++ ls) w HTw.out HKw.out (by rw [Hkl.out]; omega) HLw.out (by have := Hn.out; simp; omega) (by
      intro l hl
      rcases List.mem_append.1 hl with h | h
      · rw [List.mem_singleton] at h; subst h; have := Htb.out; omega
      · have := Hm.out l h; omega) (by rw [List.flatten_append, List.length_append]; simp only [List.flatten_cons, List.flatten_nil, List.append_nil]; have := Htb.out; have := Hf.out; omega)).mono ?_
    rintro e w8 ⟨rfl, hb8⟩
    exact ⟨_, rfl, hb8, congrArg arr8 (by rw [show ([tb] ++ ls).flatten = tb ++ ls.flatten by simp]; exact HM.out)⟩
  · intro a w ht hs hg -- 7
    refine By.yes rfl ?_
    clear hs hg
    have hlo : L0 ≤ w.heap.size := by rw [← HL0.out]; exact ht.size
    go_simp
    exact ⟨_, rfl, (Below.refl _ w).alloc (Nat.le_refl _) _, _, rfl, hlo, Row.new rfl rfl⟩
  refine By.ends_is (By.ends_is (By.ends_skip fun v10 => (By.ends_skip fun v11 => (By.ends_is (By.ends_skip fun v13 => (By.ends_is (By.ends_any fun v7 => (By.ends_nil fun w9 hw9 => ?_))))))))
  simp only [Act.put, List.setIfInBounds_toArray, List.set_cons_succ, List.set_cons_zero]
  simp only [List.drop_succ_cons, List.drop_zero]
  obtain ⟨hw, g7, rfl, hg7, h7⟩ := hw9
  have hbw := grew_below hw
  have HB9 := Lib.hid (nextB HB0.out (Nat.le_of_eq Hg0.out.symm) hbw)
  have HO9 := Lib.hid (HO.out.below hbw HO.out.lt)
  have H7 := Lib.hid h7
  have hlt7 : g0 + 1 < g7 := by have h1 := HL0.out; have h2 := HO.out.lt; omega
  clear h7 hw hbw
  refine wpList_storeRow (g := g7) rfl 24 (.tmp 7) (.tmp 14) rfl rfl rfl (cs := M.map bv) H7.out (by kernel_rfl) HMl.out (by simp [z32]) (hbytes_one M) ?_
  refine wpList_name fun V hV => ?_
  have hr7 : Row V g7 (M.map bv) 24 := hV ▸ H7.out.setRow (M.map bv)
  have HBV := Lib.hid (show Below g0 w V from hV ▸ below_setRow HB9.out (by omega) _)
  have HOV := Lib.hid (show Row V (g0 + 1) ((List.replicate 16 (0 : UInt8)).map bv) 38 from hV ▸ HO9.out.setOther _ _ (by omega))
  have hld : (loadVar 38 ⟨g7, 0, none⟩).run Tryd.prog V = .ok (.agg (N16.map bv).toArray) V := by
    rw [Pol.run_loadVar_sub (off := 0) (n := 16) V hr7 Tryd.underlying38 rfl (by kernel_rfl) (by rw [HMl.out]; omega), List.drop_zero, ← List.map_take, HN.out]
  have HLd := Lib.hid hld
  have harr : (Instr.arrayAt 38 (.slice (some ⟨g7, 0, none⟩) 16 32)).run Tryd.prog V = .ok (.pointer (some ⟨g7, 0, none⟩)) V := by simp [Instr.arrayAt, run_underlying Tryd.underlying38]
  clear hV hr7 hld hlt7 hg7
  go_wp2_with (first
    | (refine wpList_ld 38 rfl rfl HLd.out rfl ?_)
    | (show wpList _ _ _ (⟨none, Op.store 38 _ _, _, _, _, _⟩ :: _) _ _; refine wpList_storeRow (g := g0 + 1) rfl 38 _ _ rfl rfl rfl (cs := N16.map bv) HOV.out (by kernel_rfl) HNl.out (by simp) (hbytes_one N16) ?_)
    | fail)
  refine bodyPost_ret (results_row rfl _ rfl (HOV.out.setRow (N16.map bv)) Tryd.underlying38 rfl (by kernel_rfl) HNl.out) rfl ?_
  exact ⟨rfl, by rw [Hg0.out]; exact below_setRow HBV.out (Nat.le_succ _) _⟩
end Go.Proofs.YtmfpjdbgdmmjkaaDoor.Shk
namespace Go.Proofs.YtmfpjdbgdmmjkaaDoor.Pkt
open Go.RowKit
def nums (l : List UInt8) : List Int := l.map fun u => (u.toNat : Int)
theorem bytes_nums (l : List UInt8) : Lib.bytesOf (nums l) = l := by
  unfold Lib.bytesOf nums
  rw [List.map_map]
  conv => rhs; rw [← List.map_id l]
  refine List.map_congr_left fun u _ => ?_
  simp
theorem str_nums (l : List UInt8) : Value.string (strOfNums (nums l)) = strOf l := by
  unfold strOf strOfNums
  rw [show (nums l).map (fun n => UInt8.ofNat n.toNat) = l from bytes_nums l]
theorem Equal_any (u v : Value) (x y : List UInt8) (w : World) {B B' : Nat} (hu : Bs w B u x) (hv : Bs w B' v y) : Calls Tryd.prog 99 #[u, v] w fun e w' => e = .returned (.bool (decide (x = y))) ∧ w = w' := by
  refine (Tryd.bytes_Equal u v (nums x) (nums y) w ((run_str w hu).trans (by rw [str_nums])) ((run_str w hv).trans (by rw [str_nums]))).mono ?_
  rintro e w' ⟨rfl, rfl⟩
  rw [bytes_nums, bytes_nums]
  refine ⟨congrArg (fun b => Ending.returned (.bool b)) ?_, rfl⟩
  by_cases h : x = y
  · rw [decide_eq_true h]; exact beq_iff_eq.2 h
  · rw [decide_eq_false h]; exact beq_eq_false_iff_ne.2 h
/-- All fields are equal. -/
def Eqv (p q : Pk) (x y : List UInt8) : Prop := p.kind = q.kind ∧ p.peer = q.peer ∧ p.ses = q.ses ∧ p.epo = q.epo ∧ p.cnt = q.cnt ∧ p.rnd = q.rnd ∧ p.mrk = q.mrk ∧ x = y
instance (p q : Pk) (x y : List UInt8) : Decidable (Eqv p q x y) := by unfold Eqv; infer_instance
set_option maxRecDepth 100000 in
set_option maxHeartbeats 2000000 in
theorem Same_no0 (p q : Pk) (hpo : p.Ok) (hqo : q.Ok) (w : World) (hn : ¬ p.kind = q.kind) : Calls Tryd.prog 77 #[p.val, q.val] w fun e w' => e = .returned (.bool false) ∧ Below w.heap.size w w' := by
  have hR1 : Row ((w.alloc (.cells p.cells.toArray 40)).alloc (.cells q.cells.toArray 40)) w.heap.size p.cells 40 := (Row.new rfl rfl).alloc _
  have hR2 : Row ((w.alloc (.cells p.cells.toArray 40)).alloc (.cells q.cells.toArray 40)) (w.heap.size + 1) q.cells 40 := Row.new (by simp) rfl
  have hB : Below w.heap.size w ((w.alloc (.cells p.cells.toArray 40)).alloc (.cells q.cells.toArray 40)) := ((Below.refl _ w).alloc (Nat.le_refl _) _).alloc (by simp) _
  have HB := Lib.hid hB
  have pkind := c_kind hR1
  have qkind := c_kind hR2
  have en := hn
  clear hR1 hR2 hB hpo hqo
  unfold Pk.val
  go_enter Tryd.func77, Tryd.ntmps77
  go_wp2_with fail
  go_ret
  exact ⟨rfl, HB.out⟩
set_option maxRecDepth 100000 in
set_option maxHeartbeats 2000000 in
theorem Same_no1 (p q : Pk) (hpo : p.Ok) (hqo : q.Ok) (w : World) (h0 : p.kind = q.kind) (hn : ¬ p.peer = q.peer) : Calls Tryd.prog 77 #[p.val, q.val] w fun e w' => e = .returned (.bool false) ∧ Below w.heap.size w w' := by
  have hR1 : Row ((w.alloc (.cells p.cells.toArray 40)).alloc (.cells q.cells.toArray 40)) w.heap.size p.cells 40 := (Row.new rfl rfl).alloc _
  have hR2 : Row ((w.alloc (.cells p.cells.toArray 40)).alloc (.cells q.cells.toArray 40)) (w.heap.size + 1) q.cells 40 := Row.new (by simp) rfl
  have hB : Below w.heap.size w ((w.alloc (.cells p.cells.toArray 40)).alloc (.cells q.cells.toArray 40)) := ((Below.refl _ w).alloc (Nat.le_refl _) _).alloc (by simp) _
  have HB := Lib.hid hB
  have pkind := c_kind hR1
  have qkind := c_kind hR2
  have ppeer := c_peer hR1
  have qpeer := c_peer hR2
  have e0 := h0
  have en := hn
  clear hR1 hR2 hB hpo hqo
  unfold Pk.val
  go_enter Tryd.func77, Tryd.ntmps77
  go_wp2_with fail
  go_ret
  exact ⟨rfl, HB.out⟩
set_option maxRecDepth 100000 in
set_option maxHeartbeats 2000000 in
theorem Same_no2 (p q : Pk) (hpo : p.Ok) (hqo : q.Ok) (w : World) (h0 : p.kind = q.kind) (h1 : p.peer = q.peer) (hn : ¬ p.ses = q.ses) : Calls Tryd.prog 77 #[p.val, q.val] w fun e w' => e = .returned (.bool false) ∧ Below w.heap.size w w' := by
  have hR1 : Row ((w.alloc (.cells p.cells.toArray 40)).alloc (.cells q.cells.toArray 40)) w.heap.size p.cells 40 := (Row.new rfl rfl).alloc _
  have hR2 : Row ((w.alloc (.cells p.cells.toArray 40)).alloc (.cells q.cells.toArray 40)) (w.heap.size + 1) q.cells 40 := Row.new (by simp) rfl
  have hB : Below w.heap.size w ((w.alloc (.cells p.cells.toArray 40)).alloc (.cells q.cells.toArray 40)) := ((Below.refl _ w).alloc (Nat.le_refl _) _).alloc (by simp) _
  have HB := Lib.hid hB
  have pkind := c_kind hR1
  have qkind := c_kind hR2
  have ppeer := c_peer hR1
  have qpeer := c_peer hR2
  have pses := c_ses hR1
  have qses := c_ses hR2
  have e0 := h0
  have e1 := h1
  have en : ¬ (p.ses : Int) = (q.ses : Int) := by omega
  clear hR1 hR2 hB hpo hqo
  unfold Pk.val
  go_enter Tryd.func77, Tryd.ntmps77
  go_wp2_with fail
  go_ret
  exact ⟨rfl, HB.out⟩
set_option maxRecDepth 100000 in
set_option maxHeartbeats 2000000 in
theorem Same_no3 (p q : Pk) (hpo : p.Ok) (hqo : q.Ok) (w : World) (h0 : p.kind = q.kind) (h1 : p.peer = q.peer) (h2 : p.ses = q.ses) (hn : ¬ p.epo = q.epo) : Calls Tryd.prog 77 #[p.val, q.val] w fun e w' => e = .returned (.bool false) ∧ Below w.heap.size w w' := by
  have hR1 : Row ((w.alloc (.cells p.cells.toArray 40)).alloc (.cells q.cells.toArray 40)) w.heap.size p.cells 40 := (Row.new rfl rfl).alloc _
  have hR2 : Row ((w.alloc (.cells p.cells.toArray 40)).alloc (.cells q.cells.toArray 40)) (w.heap.size + 1) q.cells 40 := Row.new (by simp) rfl
  have hB : Below w.heap.size w ((w.alloc (.cells p.cells.toArray 40)).alloc (.cells q.cells.toArray 40)) := ((Below.refl _ w).alloc (Nat.le_refl _) _).alloc (by simp) _
  have HB := Lib.hid hB
  have pkind := c_kind hR1
  have qkind := c_kind hR2
  have ppeer := c_peer hR1
  have qpeer := c_peer hR2
  have pses := c_ses hR1
  have qses := c_ses hR2
  have pepo := c_epo hR1
  have qepo := c_epo hR2
  have e0 := h0
  have e1 := h1
  have e2 : (p.ses : Int) = (q.ses : Int) := by rw [h2]
  have en : ¬ (p.epo : Int) = (q.epo : Int) := by omega
  clear hR1 hR2 hB hpo hqo
  unfold Pk.val
  go_enter Tryd.func77, Tryd.ntmps77
  go_wp2_with fail
  go_ret
  exact ⟨rfl, HB.out⟩
set_option maxRecDepth 100000 in
set_option maxHeartbeats 2000000 in
theorem Same_no4 (p q : Pk) (hpo : p.Ok) (hqo : q.Ok) (w : World) (h0 : p.kind = q.kind) (h1 : p.peer = q.peer) (h2 : p.ses = q.ses) (h3 : p.epo = q.epo) (hn : ¬ p.cnt = q.cnt) : Calls Tryd.prog 77 #[p.val, q.val] w fun e w' => e = .returned (.bool false) ∧ Below w.heap.size w w' := by
  have hR1 : Row ((w.alloc (.cells p.cells.toArray 40)).alloc (.cells q.cells.toArray 40)) w.heap.size p.cells 40 := (Row.new rfl rfl).alloc _
  have hR2 : Row ((w.alloc (.cells p.cells.toArray 40)).alloc (.cells q.cells.toArray 40)) (w.heap.size + 1) q.cells 40 := Row.new (by simp) rfl
  have hB : Below w.heap.size w ((w.alloc (.cells p.cells.toArray 40)).alloc (.cells q.cells.toArray 40)) := ((Below.refl _ w).alloc (Nat.le_refl _) _).alloc (by simp) _
  have HB := Lib.hid hB
  have pkind := c_kind hR1
  have qkind := c_kind hR2
  have ppeer := c_peer hR1
  have qpeer := c_peer hR2
  have pses := c_ses hR1
  have qses := c_ses hR2
  have pepo := c_epo hR1
  have qepo := c_epo hR2
  have pcnt := c_cnt hR1
  have qcnt := c_cnt hR2
  have e0 := h0
  have e1 := h1
  have e2 : (p.ses : Int) = (q.ses : Int) := by rw [h2]
  have e3 : (p.epo : Int) = (q.epo : Int) := by rw [h3]
  have en : ¬ (p.cnt : Int) = (q.cnt : Int) := by omega
  clear hR1 hR2 hB hpo hqo
  unfold Pk.val
  go_enter Tryd.func77, Tryd.ntmps77
  go_wp2_with fail
  go_ret
  exact ⟨rfl, HB.out⟩
set_option maxRecDepth 100000 in
set_option maxHeartbeats 2000000 in
theorem Same_no5 (p q : Pk) (hpo : p.Ok) (hqo : q.Ok) (w : World) (h0 : p.kind = q.kind) (h1 : p.peer = q.peer) (h2 : p.ses = q.ses) (h3 : p.epo = q.epo) (h4 : p.cnt = q.cnt) (hn : ¬ p.rnd = q.rnd) : Calls Tryd.prog 77 #[p.val, q.val] w fun e w' => e = .returned (.bool false) ∧ Below w.heap.size w w' := by
  have hR1 : Row ((w.alloc (.cells p.cells.toArray 40)).alloc (.cells q.cells.toArray 40)) w.heap.size p.cells 40 := (Row.new rfl rfl).alloc _
  have hR2 : Row ((w.alloc (.cells p.cells.toArray 40)).alloc (.cells q.cells.toArray 40)) (w.heap.size + 1) q.cells 40 := Row.new (by simp) rfl
  have hB : Below w.heap.size w ((w.alloc (.cells p.cells.toArray 40)).alloc (.cells q.cells.toArray 40)) := ((Below.refl _ w).alloc (Nat.le_refl _) _).alloc (by simp) _
  have HB := Lib.hid hB
  have pkind := c_kind hR1
  have qkind := c_kind hR2
  have ppeer := c_peer hR1
  have qpeer := c_peer hR2
  have pses := c_ses hR1
  have qses := c_ses hR2
  have pepo := c_epo hR1
  have qepo := c_epo hR2
  have pcnt := c_cnt hR1
  have qcnt := c_cnt hR2
  have pr := Lib.hid (l_rnd hR1 hpo)
  have qr := Lib.hid (l_rnd hR2 hqo)
  have gr := eqg16 p.rnd q.rnd
  have er := eqv16 p.rnd q.rnd hpo.r hqo.r
  have e0 := h0
  have e1 := h1
  have e2 : (p.ses : Int) = (q.ses : Int) := by rw [h2]
  have e3 : (p.epo : Int) = (q.epo : Int) := by rw [h3]
  have e4 : (p.cnt : Int) = (q.cnt : Int) := by rw [h4]
  have en : decide (p.rnd = q.rnd) = false := decide_eq_false hn
  clear hR1 hR2 hB hpo hqo
  unfold Pk.val
  go_enter Tryd.func77, Tryd.ntmps77
  go_wp2_with (first
    | (refine wpList_ld 38 rfl rfl pr.out rfl ?_)
    | (refine wpList_ld 38 rfl rfl qr.out rfl ?_)
    | fail)
  go_ret
  exact ⟨rfl, HB.out⟩
set_option maxRecDepth 100000 in
set_option maxHeartbeats 2000000 in
theorem Same_no6 (p q : Pk) (hpo : p.Ok) (hqo : q.Ok) (w : World) (h0 : p.kind = q.kind) (h1 : p.peer = q.peer) (h2 : p.ses = q.ses) (h3 : p.epo = q.epo) (h4 : p.cnt = q.cnt) (h5 : p.rnd = q.rnd) (hn : ¬ p.mrk = q.mrk) : Calls Tryd.prog 77 #[p.val, q.val] w fun e w' => e = .returned (.bool false) ∧ Below w.heap.size w w' := by
  have hR1 : Row ((w.alloc (.cells p.cells.toArray 40)).alloc (.cells q.cells.toArray 40)) w.heap.size p.cells 40 := (Row.new rfl rfl).alloc _
  have hR2 : Row ((w.alloc (.cells p.cells.toArray 40)).alloc (.cells q.cells.toArray 40)) (w.heap.size + 1) q.cells 40 := Row.new (by simp) rfl
  have hB : Below w.heap.size w ((w.alloc (.cells p.cells.toArray 40)).alloc (.cells q.cells.toArray 40)) := ((Below.refl _ w).alloc (Nat.le_refl _) _).alloc (by simp) _
  have HB := Lib.hid hB
  have pkind := c_kind hR1
  have qkind := c_kind hR2
  have ppeer := c_peer hR1
  have qpeer := c_peer hR2
  have pses := c_ses hR1
  have qses := c_ses hR2
  have pepo := c_epo hR1
  have qepo := c_epo hR2
  have pcnt := c_cnt hR1
  have qcnt := c_cnt hR2
  have pr := Lib.hid (l_rnd hR1 hpo)
  have qr := Lib.hid (l_rnd hR2 hqo)
  have gr := eqg16 q.rnd q.rnd
  have er := fun w => (eqv16 q.rnd q.rnd hqo.r hqo.r w).trans (by rw [decide_eq_true rfl])
  have pm := Lib.hid (l_mrk hR1 hpo)
  have qm := Lib.hid (l_mrk hR2 hqo)
  have gm := eqg16 p.mrk q.mrk
  have em := eqv16 p.mrk q.mrk hpo.m hqo.m
  have e0 := h0
  have e1 := h1
  have e2 : (p.ses : Int) = (q.ses : Int) := by rw [h2]
  have e3 : (p.epo : Int) = (q.epo : Int) := by rw [h3]
  have e4 : (p.cnt : Int) = (q.cnt : Int) := by rw [h4]
  have en : decide (p.mrk = q.mrk) = false := decide_eq_false hn
  clear hR1 hR2 hB hpo hqo
  unfold Pk.val
  go_enter Tryd.func77, Tryd.ntmps77
  go_wp2_with (first
    | (refine wpList_ld 38 rfl rfl pr.out rfl ?_)
    | (refine wpList_ld 38 rfl rfl qr.out rfl ?_)
    | (refine wpList_ld 38 rfl rfl pm.out rfl ?_)
    | (refine wpList_ld 38 rfl rfl qm.out rfl ?_)
    | fail)
  go_ret
  exact ⟨rfl, HB.out⟩
set_option maxRecDepth 100000 in
set_option maxHeartbeats 2000000 in
theorem Same_yes (p q : Pk) (hpo : p.Ok) (hqo : q.Ok) (w : World) (x y : List UInt8) (hx : Bs w w.heap.size p.bo x) (hy : Bs w w.heap.size q.bo y) (h0 : p.kind = q.kind) (h1 : p.peer = q.peer) (h2 : p.ses = q.ses) (h3 : p.epo = q.epo) (h4 : p.cnt = q.cnt) (h5 : p.rnd = q.rnd) (h6 : p.mrk = q.mrk) : Calls Tryd.prog 77 #[p.val, q.val] w fun e w' => e = .returned (.bool (decide (x = y))) ∧ Below w.heap.size w w' := by
  have hR1 : Row ((w.alloc (.cells p.cells.toArray 40)).alloc (.cells q.cells.toArray 40)) w.heap.size p.cells 40 := (Row.new rfl rfl).alloc _
  have hR2 : Row ((w.alloc (.cells p.cells.toArray 40)).alloc (.cells q.cells.toArray 40)) (w.heap.size + 1) q.cells 40 := Row.new (by simp) rfl
  have hB : Below w.heap.size w ((w.alloc (.cells p.cells.toArray 40)).alloc (.cells q.cells.toArray 40)) := ((Below.refl _ w).alloc (Nat.le_refl _) _).alloc (by simp) _
  have HB := Lib.hid hB
  have HX := Lib.hid (hx.below hB)
  have HY := Lib.hid (hy.below hB)
  have pkind := c_kind hR1
  have qkind := c_kind hR2
  have ppeer := c_peer hR1
  have qpeer := c_peer hR2
  have pses := c_ses hR1
  have qses := c_ses hR2
  have pepo := c_epo hR1
  have qepo := c_epo hR2
  have pcnt := c_cnt hR1
  have qcnt := c_cnt hR2
  have pr := Lib.hid (l_rnd hR1 hpo)
  have qr := Lib.hid (l_rnd hR2 hqo)
  have gr := eqg16 q.rnd q.rnd
  have er := fun w => (eqv16 q.rnd q.rnd hqo.r hqo.r w).trans (by rw [decide_eq_true rfl])
  have pm := Lib.hid (l_mrk hR1 hpo)
  have qm := Lib.hid (l_mrk hR2 hqo)
  have gm := eqg16 q.mrk q.mrk
  have em := fun w => (eqv16 q.mrk q.mrk hqo.m hqo.m w).trans (by rw [decide_eq_true rfl])
  have pb := c_bo hR1 hpo
  have qb := c_bo hR2 hqo
  have e0 := h0
  have e1 := h1
  have e2 : (p.ses : Int) = (q.ses : Int) := by rw [h2]
  have e3 : (p.epo : Int) = (q.epo : Int) := by rw [h3]
  have e4 : (p.cnt : Int) = (q.cnt : Int) := by rw [h4]
  clear hR1 hR2 hB hpo hqo hx hy
  unfold Pk.val
  go_enter Tryd.func77, Tryd.ntmps77
  go_wp2_with (first
    | (refine wpList_ld 38 rfl rfl pr.out rfl ?_)
    | (refine wpList_ld 38 rfl rfl qr.out rfl ?_)
    | (refine wpList_ld 38 rfl rfl pm.out rfl ?_)
    | (refine wpList_ld 38 rfl rfl qm.out rfl ?_)
    | fail)
  refine (Equal_any _ _ x y _ HX.out HY.out).mono ?_
  rintro e w' ⟨rfl, rfl⟩
  go_wp2
  go_ret
  exact ⟨rfl, HB.out⟩
theorem Same_any (p q : Pk) (hpo : p.Ok) (hqo : q.Ok) (w : World) (x y : List UInt8) (hx : Bs w w.heap.size p.bo x) (hy : Bs w w.heap.size q.bo y) : Calls Tryd.prog 77 #[p.val, q.val] w fun e w' => e = .returned (.bool (decide (Eqv p q x y))) ∧ Below w.heap.size w w' := by
  by_cases h0 : p.kind = q.kind
  case neg =>
    refine (Same_no0 p q hpo hqo w h0).mono fun e w' h => ⟨h.1.trans ?_, h.2⟩
    rw [decide_eq_false (fun h : Eqv p q x y => h0 h.1)]
  by_cases h1 : p.peer = q.peer
  case neg =>
    refine (Same_no1 p q hpo hqo w h0 h1).mono fun e w' h => ⟨h.1.trans ?_, h.2⟩
    rw [decide_eq_false (fun h : Eqv p q x y => h1 h.2.1)]
  by_cases h2 : p.ses = q.ses
  case neg =>
    refine (Same_no2 p q hpo hqo w h0 h1 h2).mono fun e w' h => ⟨h.1.trans ?_, h.2⟩
    rw [decide_eq_false (fun h : Eqv p q x y => h2 h.2.2.1)]
  by_cases h3 : p.epo = q.epo
  case neg =>
    refine (Same_no3 p q hpo hqo w h0 h1 h2 h3).mono fun e w' h => ⟨h.1.trans ?_, h.2⟩
    rw [decide_eq_false (fun h : Eqv p q x y => h3 h.2.2.2.1)]
  by_cases h4 : p.cnt = q.cnt
  case neg =>
    refine (Same_no4 p q hpo hqo w h0 h1 h2 h3 h4).mono fun e w' h => ⟨h.1.trans ?_, h.2⟩
    rw [decide_eq_false (fun h : Eqv p q x y => h4 h.2.2.2.2.1)]
  by_cases h5 : p.rnd = q.rnd
  case neg =>
    refine (Same_no5 p q hpo hqo w h0 h1 h2 h3 h4 h5).mono fun e w' h => ⟨h.1.trans ?_, h.2⟩
    rw [decide_eq_false (fun h : Eqv p q x y => h5 h.2.2.2.2.2.1)]
  by_cases h6 : p.mrk = q.mrk
  case neg =>
    refine (Same_no6 p q hpo hqo w h0 h1 h2 h3 h4 h5 h6).mono fun e w' h => ⟨h.1.trans ?_, h.2⟩
    rw [decide_eq_false (fun h : Eqv p q x y => h6 h.2.2.2.2.2.2.1)]
  refine (Same_yes p q hpo hqo w x y hx hy h0 h1 h2 h3 h4 h5 h6).mono fun e w' h => ⟨h.1.trans ?_, h.2⟩
  refine congrArg (fun b => Ending.returned (.bool b)) (decide_eq_decide.2 ?_)
  exact ⟨fun h => ⟨h0, h1, h2, h3, h4, h5, h6, h⟩, fun h => h.2.2.2.2.2.2.2⟩
end Go.Proofs.YtmfpjdbgdmmjkaaDoor.Pkt
namespace Go.Proofs.YtmfpjdbgdmmjkaaDoor
namespace ByN
open Go.RowKit Ev By

/-- What an operation's slot holds; nothing for one without a slot. -/
def sl (a : Act) (o : Oper) : Value := match o.dst with
  | some d => a.tmps.getD d undef
  | none => undef
def vo (o : Oper) (v : Value) : Value := match o.dst with
  | some _ => v
  | none => undef
theorem vo_undef (o : Oper) : vo o undef = undef := by unfold vo; cases o.dst <;> rfl
theorem sl_put (a : Act) (o : Oper) (v : Value) (h : ∀ d, o.dst = some d → d < a.tmps.size) : sl (a.put o.dst v) o = vo o v := by
  unfold sl vo
  cases hd : o.dst with
  | none => rfl
  | some d =>
    simp only
    rw [act_put_getD, if_pos ⟨rfl, h d hd⟩]
theorem sl_other (a : Act) (o oj : Oper) (v : Value) (h : ∀ d, oj.dst = some d → o.dst ≠ some d) : sl (a.put o.dst v) oj = sl a oj := by
  unfold sl
  cases hd : oj.dst with
  | none => rfl
  | some d =>
    simp only
    rw [act_put_getD, if_neg (fun hh => h d hd hh.1)]
theorem sl_eq (a : Act) (o : Oper) : vo o (a.tmps.getD (o.dst.getD 0) undef) = sl a o := by
  unfold sl vo
  cases o.dst <;> rfl

section
variable {P : Program} {ops : Array Oper} {Q : Exit → Act → World → Prop} {V : Nat → Value → World → Prop} {T : World → World → Prop} {a0 : Act} {w0 : World}
def Can (P : Program) (ops : Array Oper) (Q : Exit → Act → World → Prop) (V : Nat → Value → World → Prop) (T : World → World → Prop) (a0 : Act) (w0 : World) (i : Nat) (o : Oper) : Prop :=
  ∀ (a : Act) (w : World), T w0 w → (∀ t, (∀ (j : Nat) (oj : Oper), ops[j]? = some oj → oj.dst = some t → Anc ops j i) → a.tmps.getD t undef = a0.tmps.getD t undef) →
    (∀ (j : Nat) (oj : Oper), Anc ops i j → ops[j]? = some oj → V j (sl a oj) w) →
    (Region.wanted o (yielded ops a.tmps) = true → o.wp P a w (fun a' w' => ∃ v, a' = a.put o.dst v ∧ T w w' ∧ V i (vo o v) w') Q) ∧ (Region.wanted o (yielded ops a.tmps) = false → V i undef w)

structure Mid (ops : Array Oper) (V : Nat → Value → World → Prop) (T : World → World → Prop) (a0 : Act) (w0 : World) (L : Array Bool) (a : Act) (w : World) : Prop where
  size : L.size = ops.size
  closed : ∀ (i : Nat) (o : Oper), L.getD i false = true → ops[i]? = some o → ∀ e ∈ o.after, Region.binds .any e = true → L.getD e.on false = true
  defers : a.defers = a0.defers
  asize : a.tmps.size = a0.tmps.size
  tr : T w0 w
  done : ∀ (j : Nat) (o : Oper), L.getD j false = true → ops[j]? = some o → V j (sl a o) w
  keep : ∀ t, (∀ (j : Nat) (o : Oper), ops[j]? = some o → o.dst = some t → L.getD j false = false) → a.tmps.getD t undef = a0.tmps.getD t undef

theorem Mid.step (hT : ∀ x y z : World, T x y → T y z → T x z) (hV : ∀ (i : Nat) (v : Value) (x y : World), V i v x → T x y → V i v y) (hf : Fit ops a0.tmps.size)
    (hc : ∀ (i : Nat) (o : Oper), ops[i]? = some o → Can P ops Q V T a0 w0 i o) (hT0 : ∀ x, T x x) {L : Array Bool} {a : Act} {w : World} (h : Mid ops V T a0 w0 L a w) {i : Nat} (hi : i ∈ Region.ready .any ops L)
    {K : Act → World → Prop} (hK : ∀ a1 w1, Mid ops V T a0 w0 (L.setIfInBounds i true) a1 w1 → K a1 w1) : wpOp P ops Q i K a w := by
  obtain ⟨hun, o, ho, hpre⟩ := mem_ready.1 hi
  have hlt : i < ops.size := (Array.getElem?_eq_some_iff.1 ho).1
  have hiL : i < L.size := by rw [h.size]; exact hlt
  have hnot : L.getD i false = false := by
    rw [Array.getD_eq_getD_getElem?, Array.getElem?_eq_getElem hiL] at hun ⊢
    simpa using hun
  have hpre' : ∀ e ∈ o.after, Region.binds .any e = true → L.getD e.on false = true := hpre
  have hnext : ∀ (v : Value) (w' : World), T w w' → V i (vo o v) w' → Mid ops V T a0 w0 (L.setIfInBounds i true) (a.put o.dst v) w' := by
    intro v w' ht hv
    refine ⟨by simp [h.size], ?_, (act_put_defers a o.dst v).trans h.defers, (act_put_size a o.dst v).trans h.asize, hT _ _ _ h.tr ht, ?_, ?_⟩
    · intro j oj hj hoj e he hb
      rw [set_getD L i _ hiL] at hj ⊢
      split
      · rfl
      · split at hj
        · rename_i hji
          subst hji
          rw [ho] at hoj; injection hoj with hoj; subst hoj
          exact hpre' e he hb
        · exact h.closed j oj hj hoj e he hb
    · intro j oj hj hoj
      rw [set_getD L i _ hiL] at hj
      split at hj
      · rename_i hji
        subst hji
        rw [ho] at hoj; injection hoj with hoj; subst hoj
        rw [sl_put a o v (fun d hd => by rw [h.asize]; exact hf.small _ _ _ ho hd)]
        exact hv
      · rename_i hji
        rw [sl_other a o oj v (fun d hd hd' => hji (hf.one _ _ _ _ _ hoj ho hd hd'))]
        exact hV _ _ _ _ (h.done j oj hj hoj) ht
    · intro t hkt
      rw [act_put_getD]
      rw [if_neg (by
        rintro ⟨hd, _⟩
        have := hkt i o ho hd
        rw [set_getD L i _ hiL, if_pos rfl] at this
        cases this)]
      refine h.keep t fun j oj hoj hd => ?_
      have := hkt j oj hoj hd
      rw [set_getD L i _ hiL] at this
      split at this
      · cases this
      · exact this
  obtain ⟨h1, h2⟩ := hc i o ho a w h.tr
    (fun t ht => h.keep t fun j oj hoj hd => by
      cases hjl : L.getD j false with
      | false => rfl
      | true =>
        have := (ht j oj hoj hd).listed (L := fun k => L.getD k false = true) (fun k ok hk hok => h.closed k ok hk hok) hjl
        rw [hnot] at this; cases this)
    (fun j oj hanc hoj => h.done j oj (hanc.ready (L := fun k => L.getD k false = true) (fun k ok hk hok => h.closed k ok hk hok) ho hpre') hoj)
  unfold wpOp
  simp only [ho]
  cases hw : Region.wanted o (yielded ops a.tmps) with
  | true =>
    rw [if_pos rfl]
    refine .inl (Oper.wp_mono ?_ (h1 hw))
    rintro a' w' ⟨v, rfl, ht, hv⟩
    exact hK _ _ (hnext v w' ht hv)
  | false =>
    rw [if_neg (by simp)]
    exact hK _ _ (hnext undef w (hT0 w) (by rw [vo_undef]; exact h2 hw))

theorem Mid.all (hf : Fit ops a0.tmps.size) {L : Array Bool} {a : Act} {w : World} (h : Mid ops V T a0 w0 L a w) (hr : Region.ready .any ops L = []) : ∀ (n i : Nat), i < n → i < ops.size → L.getD i false = true := by
  intro n
  induction n with
  | zero => intro i hi; omega
  | succ n ih =>
    intro i hi hlt
    cases hl : L.getD i false with
    | true => rfl
    | false =>
      have hm : i ∈ Region.ready .any ops L := mem_ready.2 ⟨by
        have hiL : i < L.size := by rw [h.size]; exact hlt
        rw [Array.getD_eq_getD_getElem?, Array.getElem?_eq_getElem hiL] at hl ⊢
        simpa using hl, ops[i], Array.getElem?_eq_getElem hlt, fun e he hb => by
        have hlt2 := hf.back i ops[i] (Array.getElem?_eq_getElem hlt) e he hb
        exact ih e.on (by omega) (by omega)⟩
      rw [hr] at hm
      cases hm

theorem any (hT0 : ∀ x, T x x) (hT : ∀ x y z : World, T x y → T y z → T x z) (hV : ∀ (i : Nat) (v : Value) (x y : World), V i v x → T x y → V i v y) (hf : Fit ops a0.tmps.size)
    (hc : ∀ (i : Nat) (o : Oper), ops[i]? = some o → Can P ops Q V T a0 w0 i o)
    (hend : ∀ (L : Array Bool) (a : Act) (w : World), Mid ops V T a0 w0 L a w → (∀ i, i < ops.size → L.getD i false = true) → Q .normal a w) :
    ∀ (fuel : Nat) (L : Array Bool) (a : Act) (w : World), L.toList.count false ≤ fuel → Mid ops V T a0 w0 L a w → wpAny P .any ops Q fuel L a w := by
  have hnorm : ∀ (L : Array Bool) (a : Act) (w : World), Mid ops V T a0 w0 L a w → Region.ready .any ops L = [] → Q .normal a w := fun L a w h hr => hend L a w h fun i hi => h.all hf hr (i + 1) i (by omega) hi
  intro fuel
  induction fuel with
  | zero =>
    intro L a w hcn h
    have hr : Region.ready .any ops L = [] := by
      cases hrr : Region.ready .any ops L with
      | nil => rfl
      | cons i r =>
        have hi : i ∈ Region.ready .any ops L := by rw [hrr]; exact List.mem_cons_self ..
        obtain ⟨hun, o, ho, _⟩ := mem_ready.1 hi
        have hlt : i < L.size := by rw [h.size]; exact (Array.getElem?_eq_some_iff.1 ho).1
        rw [Array.getD_eq_getD_getElem?, Array.getElem?_eq_getElem hlt] at hun
        have hm : false ∈ L.toList := by
          rw [Array.mem_toList_iff]
          have : L[i] = false := by simpa using hun
          rw [← this]; exact Array.getElem_mem hlt
        have := List.count_pos_iff.2 hm
        omega
    exact ⟨hr, hnorm L a w h hr⟩
  | succ fuel ih =>
    intro L a w hcn h
    refine ⟨hnorm L a w h, fun i hi => ?_⟩
    refine h.step hT hV hf hc hT0 hi fun a1 w1 h1 => ih _ a1 w1 ?_ h1
    obtain ⟨hun, o, ho, _⟩ := mem_ready.1 hi
    have hlt : i < L.size := by rw [h.size]; exact (Array.getElem?_eq_some_iff.1 ho).1
    rw [Array.getD_eq_getD_getElem?, Array.getElem?_eq_getElem hlt] at hun
    have hb : L.toList[i]'(by simpa using hlt) = false := by simpa using hun
    have hcs := List.count_set (a := true) (b := false) (l := L.toList) (i := i) (by simpa using hlt)
    rw [hb] at hcs
    have e1 : (if (false == false) = true then 1 else 0) = 1 := rfl
    have e2 : (if (true == false) = true then 1 else 0) = 0 := rfl
    rw [e1, e2] at hcs
    rw [Array.toList_setIfInBounds, hcs]
    omega

/-- The end, by the values of the slots in the text's order. -/
theorem Mid.puts (hf : Fit ops a0.tmps.size) {L : Array Bool} {a : Act} {w : World} (h : Mid ops V T a0 w0 L a w) (hall : ∀ i, i < ops.size → L.getD i false = true) :
    ∃ vs : List Value, vs.length = ops.size ∧ a = By.puts ops.toList vs a0 ∧ ∀ (j : Nat) (o : Oper) (v : Value), ops[j]? = some o → vs[j]? = some v → V j (vo o v) w := by
  have hvs : ∀ (j : Nat) (o : Oper), ops[j]? = some o → (ops.toList.map fun o : Oper => a.tmps.getD (o.dst.getD 0) undef)[j]? = some (a.tmps.getD (o.dst.getD 0) undef) := by
    intro j o hj
    rw [List.getElem?_map, Array.getElem?_toList, hj]
    rfl
  refine ⟨ops.toList.map fun o => a.tmps.getD (o.dst.getD 0) undef, by simp, ?_, ?_⟩
  · refine act_ext (by rw [puts_size, h.asize]) (by rw [puts_defers, h.defers]) fun t ht => ?_
    by_cases hex : ∃ o ∈ ops.toList, o.dst = some t
    · obtain ⟨o, ho, hd⟩ := hex
      obtain ⟨j, hj⟩ := List.getElem?_of_mem ho
      have hj' : ops[j]? = some o := by rwa [Array.getElem?_toList] at hj
      rw [puts_at ops.toList _ a0 j o _ t (fun i j o o' d q1 q2 => hf.one i j o o' d (by rwa [Array.getElem?_toList] at q1) (by rwa [Array.getElem?_toList] at q2)) hj (hvs j o hj') hd (hf.small _ _ _ hj' hd), hd]
      rfl
    · rw [puts_other _ _ _ _ (fun o ho hd => hex ⟨o, ho, hd⟩)]
      exact h.keep t fun j o hj hd => (hex ⟨o, by rw [Array.mem_toList_iff]; exact Array.mem_of_getElem? hj, hd⟩).elim
  · intro j o v hj hv
    rw [hvs j o hj] at hv
    injection hv with hv
    subst hv
    rw [sl_eq]
    exact h.done j o (hall j (Array.getElem?_eq_some_iff.1 hj).1) hj

/-- THE RULE. -/
theorem region (hm : P.follows .mixedOrders = true) {id : Nat} {W : World} {A : Act} (hf : Fit ops A.tmps.size) (T : World → World → Prop) (V : Nat → Value → World → Prop) (hT0 : ∀ x, T x x) (hT : ∀ x y z : World, T x y → T y z → T x z)
    (hV : ∀ (i : Nat) (v : Value) (x y : World), V i v x → T x y → V i v y)
    (hc : ∀ (i : Nat) (o : Oper), ops[i]? = some o → Can P ops Q V T A W.drew i o)
    (hend : ∀ (vs : List Value) (w : World), vs.length = ops.size → T W.drew w → (∀ (j : Nat) (o : Oper) (v : Value), ops[j]? = some o → vs[j]? = some v → V j (vo o v) w) → Q .normal (puts ops.toList vs A) w) :
    (Code.region id ops true).wp P Q A W := by
  refine wp_region_any hm ?_
  refine any (V := V) (T := T) (a0 := A) (w0 := W.drew) hT0 hT hV hf hc (fun L a w h hall => ?_) ops.size _ A _ ?_ ⟨by simp, ?_, rfl, rfl, hT0 _, ?_, fun _ _ => rfl⟩
  · obtain ⟨vs, h1, rfl, h3⟩ := h.puts hf hall
    exact hend vs w h1 h.tr h3
  · simp
  · intro i o hi
    simp [Array.getD_eq_getD_getElem?, Array.getElem?_replicate] at hi
    split at hi <;> simp at hi
  · intro j o hj
    simp [Array.getD_eq_getD_getElem?, Array.getElem?_replicate] at hj
    split at hj <;> simp at hj
end

/-! ### The rule over lists -/
section
variable {P : Program} {Q : Exit → Act → World → Prop} {T : World → World → Prop}
def oneB : List Oper → Bool
  | [] => true
  | o :: r => (match o.dst with
    | some d => r.all fun o' => o'.dst != some d
    | none => true) && oneB r
theorem oneB_one : ∀ {l : List Oper}, oneB l = true → ∀ (i j : Nat) (o o' : Oper) (d : Tmp), l[i]? = some o → l[j]? = some o' → o.dst = some d → o'.dst = some d → i = j
  | [], _, i, _, _, _, _, h, _, _, _ => by simp at h
  | x :: r, h, i, j, o, o', d, hi, hj, hd, hd' => by
    simp only [oneB, Bool.and_eq_true] at h
    cases i with
    | zero =>
      cases j with
      | zero => rfl
      | succ j =>
        simp only [List.getElem?_cons_zero, Option.some.injEq] at hi
        subst hi
        have h1 := h.1
        rw [hd] at h1
        have := List.all_eq_true.1 h1 o' (List.mem_of_getElem? (by simpa using hj))
        rw [hd'] at this
        simp at this
    | succ i =>
      cases j with
      | zero =>
        simp only [List.getElem?_cons_zero, Option.some.injEq] at hj
        subst hj
        have h1 := h.1
        rw [hd'] at h1
        have := List.all_eq_true.1 h1 o (List.mem_of_getElem? (by simpa using hi))
        rw [hd] at this
        simp at this
      | succ j => rw [oneB_one h.2 i j o o' d (by simpa using hi) (by simpa using hj) hd hd']
def fitB (l : List Oper) (n : Nat) : Bool :=
  (l.zipIdx.all fun x => (x.1.after.toList.all fun e => !Region.binds .any e || decide (e.on < x.2)) && x.1.dst.all fun d => decide (d < n)) && oneB l
theorem fit_of {l : List Oper} {n : Nat} (h : fitB l n = true) : Fit l.toArray n := by
  simp only [fitB, Bool.and_eq_true, List.all_eq_true] at h
  obtain ⟨h1, h2⟩ := h
  have hz : ∀ (i : Nat) (o : Oper), l.toArray[i]? = some o → (o, i) ∈ l.zipIdx := fun i o hi => zip_mem (by simpa using hi)
  refine ⟨fun i o hi e he hb => ?_, fun i o d hi hd => ?_, fun i j o o' d hi hj hd hd' => ?_⟩
  · have := (h1 _ (hz i o hi)).1 e (by simpa using he)
    simpa [hb] using this
  · have := (h1 _ (hz i o hi)).2
    rw [hd] at this
    simpa using this
  · exact oneB_one h2 i j o o' d (by simpa using hi) (by simpa using hj) hd hd'
/-- What is known of the slots of the operations in the mask. -/
def given (a : Act) (w : World) : List Oper → List (Value → World → Prop) → Nat → Prop
  | o :: r, V :: Vs, m => (m % 2 = 1 → V (sl a o) w) ∧ given a w r Vs (m / 2)
  | _, _, _ => True

theorem given_of {a : Act} {w : World} : ∀ (l : List Oper) (Vs : List (Value → World → Prop)) (m : Nat), (∀ (j : Nat) (o : Oper) (V : Value → World → Prop), l[j]? = some o → Vs[j]? = some V → m.testBit j = true → V (sl a o) w) → given a w l Vs m
  | [], _, _, _ => by simp [given]
  | _ :: _, [], _, _ => by simp [given]
  | o :: r, V :: Vs, m, h => by
    refine ⟨fun hm => h 0 o V rfl rfl (by simp [Nat.testBit, hm]), given_of r Vs (m / 2) fun j o' V' h1 h2 h3 => h (j + 1) o' V' (by simpa using h1) (by simpa using h2) ?_⟩
    rw [Nat.testBit_succ]
    exact h3

def want (l : List Oper) (a : Act) (o : Oper) : Bool :=
  match o.guard with
  | none => true
  | some (j, b) => match l[j]? with
    | some oj => isBool (sl a oj) == some b
    | none => false

theorem want_eq {l : List Oper} {a : Act} {o : Oper} : Region.wanted o (yielded l.toArray a.tmps) = want l a o := by
  unfold Region.wanted want
  cases hg : o.guard with
  | none => rfl
  | some jb =>
    obtain ⟨j, b⟩ := jb
    simp only
    unfold yielded
    rw [show l.toArray[j]? = l[j]? by simp]
    cases hj : l[j]? with
    | none => rfl
    | some oj =>
      unfold sl
      cases hdd : oj.dst with
      | none => simp [hdd, undef, isBool]
      | some d =>
        simp only [Option.bind_some, hdd, Array.getD_eq_getD_getElem?]
        cases ht : a.tmps[d]? with
        | none => simp [undef, isBool]
        | some v => cases v <;> simp [isBool]

/-- What is asked of each operation. -/
def Each (P : Program) (Q : Exit → Act → World → Prop) (T : World → World → Prop) (A : Act) (W : World) (l : List Oper) (ms : List Nat) (Vs : List (Value → World → Prop)) : Nat → List Oper → List (Value → World → Prop) → Prop
  | i, o :: r, V :: Vr => (∀ (a : Act) (w : World), T W w → same a A l ms i (o.looksAt l.toArray) → given a w l Vs (ms.getD i 0) →
      (want l a o = true → o.wp P a w (fun a' w' => ∃ v, a' = a.put o.dst v ∧ T w w' ∧ V (vo o v) w') Q) ∧ (want l a o = false → V undef w)) ∧ Each P Q T A W l ms Vs (i + 1) r Vr
  | _, [], [] => True
  | _, _, _ => False

theorem Each.at {A : Act} {W : World} {l : List Oper} {ms : List Nat} {Vs : List (Value → World → Prop)} : ∀ (k : Nat) (r : List Oper) (Vr : List (Value → World → Prop)), Each P Q T A W l ms Vs k r Vr → r.length = Vr.length ∧ ∀ (j : Nat) (o : Oper) (V : Value → World → Prop), r[j]? = some o → Vr[j]? = some V →
    ∀ (a : Act) (w : World), T W w → same a A l ms (k + j) (o.looksAt l.toArray) → given a w l Vs (ms.getD (k + j) 0) →
      (want l a o = true → o.wp P a w (fun a' w' => ∃ v, a' = a.put o.dst v ∧ T w w' ∧ V (vo o v) w') Q) ∧ (want l a o = false → V undef w)
  | k, [], [], _ => ⟨rfl, fun j o V h => by simp at h⟩
  | k, [], _ :: _, h => by simp [Each] at h
  | k, _ :: _, [], h => by simp [Each] at h
  | k, o :: r, V :: Vr, h => by
    obtain ⟨h1, h2⟩ := h
    obtain ⟨h3, h4⟩ := Each.at (k + 1) r Vr h2
    refine ⟨by simp [h3], fun j o' V' hj hV => ?_⟩
    cases j with
    | zero =>
      simp only [List.getElem?_cons_zero, Option.some.injEq] at hj hV
      subst hj; subst hV
      exact h1
    | succ j =>
      have := h4 j o' V' (by simpa using hj) (by simpa using hV)
      rwa [show k + 1 + j = k + (j + 1) by omega] at this

/-- The end, value by value. -/
def Ends (Q : Exit → Act → World → Prop) : List Oper → List (Value → World → Prop) → Act → (World → Prop) → Prop
  | o :: r, V :: Vs, a, F => ∀ v : Value, Ends Q r Vs (a.put o.dst v) (fun w => F w ∧ V (vo o v) w)
  | [], [], a, F => ∀ w, F w → Q .normal a w
  | _, _, _, _ => True

theorem Ends.use {Q : Exit → Act → World → Prop} : ∀ (l : List Oper) (Vs : List (Value → World → Prop)) (a : Act) (F : World → Prop) (vs : List Value) (w : World), l.length = Vs.length → vs.length = l.length → Ends Q l Vs a F → F w → (∀ (j : Nat) (o : Oper) (v : Value) (V : Value → World → Prop), l[j]? = some o → vs[j]? = some v → Vs[j]? = some V → V (vo o v) w) →
    Q .normal (puts l vs a) w
  | [], [], a, F, [], w, _, _, h, hF, _ => h w hF
  | [], [], a, F, _ :: _, w, _, h, _, _, _ => by simp at h
  | [], _ :: _, _, _, _, _, h, _, _, _, _ => by simp at h
  | _ :: _, [], _, _, _, _, h, _, _, _, _ => by simp at h
  | _ :: _, _ :: _, _, _, [], _, _, h, _, _, _ => by simp at h
  | o :: r, V :: Vs, a, F, v :: vs, w, h1, h2, h, hF, hv => by
    rw [puts]
    exact Ends.use r Vs _ _ vs w (by simpa using h1) (by simpa using h2) (h v) ⟨hF, hv 0 o v V rfl rfl rfl⟩ fun j o' v' V' q0 q1 q2 => hv (j + 1) o' v' V' (by simpa using q0) (by simpa using q1) (by simpa using q2)

/-- THE RULE, OVER LISTS: 'Vs': what each operation leaves; 'ms': the masks of what goes ahead of each. -/
theorem go (hm : P.follows .mixedOrders = true) (ms : List Nat) (Vs : List (Value → World → Prop)) (T : World → World → Prop) {id : Nat} {l : List Oper} {W : World} {A : Act} (hf : fitB l A.tmps.size = true) (hms : masks l [] = ms)
    (hT0 : ∀ x, T x x) (hT : ∀ x y z, T x y → T y z → T x z) (hV : ∀ V ∈ Vs, ∀ (v : Value) (x y : World), V v x → T x y → V v y)
    (hc : Each P Q T A W.drew l ms Vs 0 l Vs) (hend : Ends Q l Vs A (fun w => T W.drew w)) : (Code.region id l.toArray true).wp P Q A W := by
  obtain ⟨hlen, hat⟩ := Each.at 0 l Vs hc
  have hanc : ∀ i j, (ms.getD i 0).testBit j = true → Anc l.toArray i j := by
    intro i j h
    rw [← hms] at h
    exact masks_spec l.toArray l [] (fun j o h => by simpa using h) (fun i j h => by simp at h) i j h
  refine region hm (fit_of hf) T (fun i v w => ∀ V, Vs[i]? = some V → V v w) hT0 hT (fun i v x y h ht V hV' => hV V (List.mem_of_getElem? hV') v x y (h V hV') ht) ?_ ?_
  · intro i o hi a w htr hs hg
    have hi' : l[i]? = some o := by simpa using hi
    obtain ⟨V, hVi⟩ : ∃ V, Vs[i]? = some V := ⟨_, List.getElem?_eq_getElem (by rw [← hlen]; exact (List.getElem?_eq_some_iff.1 hi').1)⟩
    rw [want_eq]
    have := hat i o V hi' hVi a w htr
      (same_of _ fun t ht => by
        rw [Nat.zero_add] at ht
        refine hs t fun j oj hj hd => hanc j i ?_
        have hz := List.all_eq_true.1 ht (oj, j) (zip_mem (by simpa using hj))
        simpa [hd] using hz)
      (given_of _ _ _ fun j oj Vj hj hVj hb => by
        rw [Nat.zero_add] at hb
        exact hg j oj (hanc i j hb) (by simpa using hj) Vj hVj)
    refine ⟨fun h => Oper.wp_mono ?_ (this.1 h), fun h V' hV' => by rw [hVi] at hV'; injection hV' with e; subst e; exact this.2 h⟩
    rintro a' w' ⟨v, h1, h2, h3⟩
    exact ⟨v, h1, h2, fun V' hV' => by rw [hVi] at hV'; injection hV' with e; subst e; exact h3⟩
  · intro vs w hlv htr hv
    exact Ends.use l Vs A _ vs w hlen (by simpa using hlv) hend htr fun j o v V h0 h1 h2 => hv j o v (by simpa using h0) h1 V h2
end

theorem given_get {a : Act} {w : World} : ∀ {l : List Oper} {Vs : List (Value → World → Prop)} {m : Nat}, given a w l Vs m → ∀ (j : Nat) {o : Oper} {V : Value → World → Prop}, l[j]? = some o → Vs[j]? = some V → m.testBit j = true → V (sl a o) w
  | [], _, _, _, j, _, _, h, _, _ => by simp at h
  | _ :: _, [], _, _, j, _, _, _, h, _ => by simp at h
  | o :: r, V :: Vs, m, h, j, o', V', h1, h2, h3 => by
    cases j with
    | zero =>
      simp only [List.getElem?_cons_zero, Option.some.injEq] at h1 h2
      subst h1; subst h2
      exact h.1 (by simpa [Nat.testBit] using h3)
    | succ j => exact given_get h.2 j (by simpa using h1) (by simpa using h2) (by rwa [Nat.testBit_succ] at h3)

/-- THE RULE, BY MARKS. -/
theorem marks {P : Program} {Q : Exit → Act → World → Prop} (hm : P.follows .mixedOrders = true) (T : World → World → Prop) (Ms : List (By.Mark T)) (ms : List Nat) {id : Nat} {l : List Oper} {W : World} {A : Act} (hf : fitB l A.tmps.size = true) (hms : masks l [] = ms)
    (hT0 : ∀ x, T x x) (hT : ∀ x y z, T x y → T y z → T x z)
    (hc : Each P Q T A W.drew l ms (Ms.map (·.on)) 0 l (Ms.map (·.on))) (hend : Ends Q l (Ms.map (·.on)) A (fun w => T W.drew w)) : (Code.region id l.toArray true).wp P Q A W :=
  go hm ms (Ms.map (·.on)) T hf hms hT0 hT (fun V hV v x y h ht => by
    obtain ⟨M, _, rfl⟩ := List.mem_map.1 hV
    exact M.stays v x y h ht) hc hend

/-- The world alone. -/
def wo {T : World → World → Prop} (p : World → Prop) (h : ∀ x y, p x → T x y → p y) : By.Mark T := ⟨fun _ w => p w, fun _ x y hp ht => h x y hp ht⟩
theorem Ends.weak {Q : Exit → Act → World → Prop} : ∀ {l : List Oper} {Vs : List (Value → World → Prop)} {a : Act} {F F' : World → Prop}, (∀ w, F' w → F w) → Ends Q l Vs a F → Ends Q l Vs a F'
  | [], [], _, _, _, h, k => fun w hw => k w (h w hw)
  | [], _ :: _, _, _, _, _, _ => trivial
  | _ :: _, [], _, _, _, _, _ => trivial
  | _ :: _, _ :: _, _, _, _, h, k => fun v => Ends.weak (fun w hw => ⟨h w hw.1, hw.2⟩) (k v)
theorem ends_none {Q : Exit → Act → World → Prop} : ∀ (l : List Oper) (Vs : List (Value → World → Prop)) (a : Act), Ends Q l Vs a (fun _ => False)
  | [], [], _ => fun _ h => h.elim
  | [], _ :: _, _ => trivial
  | _ :: _, [], _ => trivial
  | _ :: l, _ :: Vs, _ => fun _ => Ends.weak (fun _ hw => hw.1) (ends_none l Vs _)
theorem ends_is {Q : Exit → Act → World → Prop} {T : World → World → Prop} {o : Oper} {r : List Oper} {x : Value} {Ms : List (By.Mark T)} {a : Act} {F : World → Prop} (h : Ends Q r (Ms.map (·.on)) (a.put o.dst x) F) : Ends Q (o :: r) ((By.is x :: Ms).map (·.on)) a F := by
  intro v
  by_cases hv : vo o v = x
  · cases hd : o.dst with
    | none =>
      have e : a.put o.dst v = a.put o.dst x := by rw [hd]; rfl
      rw [hd] at e h
      rw [e]
      exact Ends.weak (fun w hw => hw.1) h
    | some d =>
      have e : v = x := by unfold vo at hv; rw [hd] at hv; exact hv
      subst e
      rw [hd] at h
      exact Ends.weak (fun w hw => hw.1) h
  · exact Ends.weak (fun w hw => hv hw.2) (ends_none _ _ _)
theorem ends_any {Q : Exit → Act → World → Prop} {T : World → World → Prop} {o : Oper} {r : List Oper} {M : By.Mark T} {Ms : List (By.Mark T)} {a : Act} {F : World → Prop} (h : ∀ v, Ends Q r (Ms.map (·.on)) (a.put o.dst v) (fun w => F w ∧ M.on (vo o v) w)) : Ends Q (o :: r) ((M :: Ms).map (·.on)) a F := h
theorem ends_nil {Q : Exit → Act → World → Prop} {T : World → World → Prop} {a : Act} {F : World → Prop} (h : ∀ w, F w → Q .normal a w) : Ends Q [] (([] : List (By.Mark T)).map (·.on)) a F := h
theorem ends_skip {Q : Exit → Act → World → Prop} {T : World → World → Prop} {o : Oper} {r : List Oper} {M : By.Mark T} {Ms : List (By.Mark T)} {a : Act} {F : World → Prop} (h : ∀ v, Ends Q r (Ms.map (·.on)) (a.put o.dst v) F) : Ends Q (o :: r) ((M :: Ms).map (·.on)) a F :=
  fun v => Ends.weak (fun w hw => hw.1) (h v)
end ByN
end Go.Proofs.YtmfpjdbgdmmjkaaDoor
namespace Go.Proofs.YtmfpjdbgdmmjkaaDoor.Stg
open Go.RowKit
/-- All blocks but one stay; that one goes from stage to stage. -/
structure St (gn : Nat) (cells : Nat → List Value) (t : TypeId) (x y : World) : Prop where
  os : y.os = x.os
  tape : y.tape = x.tape
  output : y.output = x.output
  size : x.heap.size ≤ y.heap.size
  block : ∀ k, k < x.heap.size → k ≠ gn → y.heap[k]? = x.heap[k]?
  up : ∀ s, Row x gn (cells s) t → ∃ s', s ≤ s' ∧ Row y gn (cells s') t
section
variable {gn : Nat} {cells : Nat → List Value} {t : TypeId}
theorem St.refl (x : World) : St gn cells t x x := ⟨rfl, rfl, rfl, Nat.le_refl _, fun _ _ _ => rfl, fun s h => ⟨s, Nat.le_refl _, h⟩⟩
theorem St.trans (x y z : World) (h : St gn cells t x y) (k : St gn cells t y z) : St gn cells t x z :=
  ⟨k.os.trans h.os, k.tape.trans h.tape, k.output.trans h.output, Nat.le_trans h.size k.size, fun i hi hne => (k.block i (Nat.lt_of_lt_of_le hi h.size) hne).trans (h.block i hi hne), fun s hs => by
    obtain ⟨s1, h1, r1⟩ := h.up s hs
    obtain ⟨s2, h2, r2⟩ := k.up s1 r1
    exact ⟨s2, Nat.le_trans h1 h2, r2⟩⟩
theorem St.row {x y : World} {g : Nat} {cs : List Value} {u : TypeId} (h : St gn cells t x y) (hr : Row x g cs u) (hne : g ≠ gn) : Row y g cs u := by
  unfold Row
  rw [h.block g hr.lt hne]
  exact hr
theorem St.below {x y : World} {B : Nat} (h : St gn cells t x y) (hB : B ≤ gn) (hs : B ≤ x.heap.size) : Below B x y :=
  ⟨h.os, h.tape, h.output, h.size, fun k hk => h.block k (Nat.lt_of_lt_of_le hk hs) (by omega)⟩
theorem St.of_below {x y : World} (h : Below x.heap.size x y) (hg : gn < x.heap.size) : St gn cells t x y :=
  ⟨h.os, h.tape, h.output, h.size, fun k hk _ => h.block k hk, fun s hr => ⟨s, Nat.le_refl _, hr.below h hg⟩⟩
/-- The row has come to stage k. -/
def stM (gn : Nat) (cells : Nat → List Value) (t : TypeId) (k : Nat) : By.Mark (St gn cells t) := ByN.wo (fun w => ∃ s, k ≤ s ∧ Row w gn (cells s) t) fun x y ⟨s, h1, h2⟩ h => by
  obtain ⟨s', h3, h4⟩ := h.up s h2
  exact ⟨s', Nat.le_trans h1 h3, h4⟩
theorem wp_storeAny {P : Program} {o : Oper} {a : Act} {w : World} {K : Act → World → Prop} {Q : Exit → Act → World → Prop} (ty : TypeId) (x y : Operand) (ho : o.op = .store ty x y)
    {g off : Nat} {v : Value} {cs old : List Value} (hx : a.eval x = .pointer (some ⟨g, off, none⟩)) (hy : a.eval y = v) (hv : v.cells = cs.toArray) {u : TypeId} (h : Row w g old u)
    {n : Nat} (hi : (P.info? ty).map (·.size) = some n) (hn : cs.length = n) (hfit : off + cs.length ≤ old.length) (h1 : ∀ v ∈ cs, v.oneCell' = true)
    (hk : K (a.put o.dst undef) (w.setRow g (splice old off cs).toArray)) : o.wp P a w K Q := by
  have hrun := run_storeCells_at (P := P) g off u cs 0 old.toArray w h (by simpa using hfit) h1
  cases hq : P.info? ty with
  | none => simp [hq] at hi
  | some i =>
    have hs : i.size = cs.length := by simp [hq] at hi; omega
    have hrun2 : (storeVar ty ⟨g, off, none⟩ v).run P w = .ok () (w.setRow g (splice old off cs).toArray) := by
      simp [storeVar, sizeOf, typeInfo, hq, hv, hs, hrun, splice]
    unfold Oper.wp execOp
    simp only [ho, hx, hy, Instr.storeAt, Instr.sureAddr, Sem.run_bind, Sem.run_pure, Result.andThen_ok, hrun2]
    exact hk
theorem St.store {w w' : World} {k s0 : Nat} (upd : List Value → List Value) (h0 : Row w gn (cells s0) t) (hk : k ≤ s0 + 1) (hu : ∀ s, k ≤ s + 1 → upd (cells s) = cells (max s k)) (hw : Row w' gn (upd (cells s0)) t)
    (h1 : w'.os = w.os) (h2 : w'.tape = w.tape) (h3 : w'.output = w.output) (h4 : w.heap.size ≤ w'.heap.size) (h5 : ∀ i, i < w.heap.size → i ≠ gn → w'.heap[i]? = w.heap[i]?) :
    St gn cells t w w' ∧ ∃ s, k ≤ s ∧ Row w' gn (cells s) t := by
  rw [hu s0 hk] at hw
  refine ⟨⟨h1, h2, h3, h4, h5, fun s hs => ?_⟩, max s0 k, Nat.le_max_right _ _, hw⟩
  by_cases hle : s ≤ max s0 k
  · exact ⟨_, hle, hw⟩
  · refine ⟨s, Nat.le_refl _, ?_⟩
    have e : cells s = cells s0 := by
      have e1 : (cells s).toArray = (cells s0).toArray := by
        have := hs.symm.trans h0
        simp only [Option.some.injEq, Obj.cells.injEq] at this
        exact this.1
      exact congrArg Array.toList e1
    have e2 := hu s (by omega)
    rw [e, hu s0 hk, show max s k = s by omega] at e2
    rw [← e2]
    exact hw
/-- A store of the chain. -/
theorem wp_stage {P : Program} {o : Oper} {a : Act} {w : World} {Q : Exit → Act → World → Prop} (k : Nat) (ty : TypeId) (x y : Operand) (ho : o.op = .store ty x y) (_ : o.dst = none)
    {off n : Nat} {v : Value} (cs : List Value) (hx : a.eval x = .pointer (some ⟨gn, off, none⟩)) (hy : a.eval y = v) (hv : v.cells = cs.toArray) (h : ∃ s, k ≤ s + 1 ∧ Row w gn (cells s) t)
    (hi : (P.info? ty).map (·.size) = some n) (hn : cs.length = n) (hfit : ∀ s, off + cs.length ≤ (cells s).length) (h1 : ∀ v ∈ cs, v.oneCell' = true) (hu : ∀ s, k ≤ s + 1 → splice (cells s) off cs = cells (max s k)) :
    o.wp P a w (fun a' w' => ∃ v, a' = a.put o.dst v ∧ St gn cells t w w' ∧ (stM gn cells t k).on (ByN.vo o v) w') Q := by
  obtain ⟨s0, hk, h0⟩ := h
  refine wp_storeAny ty x y ho hx hy hv h0 hi hn (hfit s0) h1 ?_
  obtain ⟨h2, h3⟩ := St.store (fun l => splice l off cs) (w' := w.setRow gn (splice (cells s0) off cs).toArray) h0 hk hu (h0.setRow _) rfl rfl rfl (by simp [World.setRow]) (fun i _ hne => setRow_other w gn i _ hne)
  exact ⟨undef, rfl, h2, h3⟩
end
end Go.Proofs.YtmfpjdbgdmmjkaaDoor.Stg
namespace Go.Proofs.YtmfpjdbgdmmjkaaDoor.Pkt
open Go.RowKit
def z16 : List UInt8 := List.replicate 16 0
/-- A packet with nothing but its kind. -/
def nm (k : Int) : Pk := ⟨k, 0, 0, 0, 0, z16, z16, .slice none 0 0⟩
theorem nm_ok (k : Int) : (nm k).Ok := ⟨rfl, rfl, rfl⟩
/-- The numbers of a packet. -/
structure Pk.In (p : Pk) : Prop where
  ok : p.Ok
  s : p.ses < 18446744073709551616
  e : p.epo < 4294967296
  c : p.cnt < 18446744073709551616
def Stop (p : Prop) : Prop := p
theorem stop {p : Prop} (h : Stop p) : p := h
theorem sp_peer (p : Pk) (z : Int) : splice p.cells 1 [.int .i64 z] = { p with peer := z }.cells := rfl
theorem sp_ses (p : Pk) (z : Nat) : splice p.cells 2 [.int .u64 (z : Int)] = { p with ses := z }.cells := rfl
theorem sp_epo (p : Pk) (z : Nat) : splice p.cells 3 [.int .u32 (z : Int)] = { p with epo := z }.cells := rfl
theorem sp_rnd (p : Pk) (ho : p.Ok) (r : List UInt8) (hr : r.length = 16) : splice p.cells 5 (r.map bv) = { p with rnd := r }.cells := by
  unfold splice
  rw [List.length_map, hr]
  show _ :: _ :: _ :: _ :: _ :: (r.map bv ++ (p.rnd.map bv ++ (p.mrk.map bv ++ [p.bo])).drop 16) = _
  rw [List.drop_left' (by rw [List.length_map, ho.r])]
  rfl
theorem sp_mrk (p : Pk) (ho : p.Ok) (r : List UInt8) (hr : r.length = 16) : splice p.cells 21 (r.map bv) = { p with mrk := r }.cells := by
  unfold splice
  rw [List.length_map, hr]
  show _ :: _ :: _ :: _ :: _ :: ((p.rnd.map bv ++ (p.mrk.map bv ++ [p.bo])).take 16 ++ (r.map bv ++ (p.rnd.map bv ++ (p.mrk.map bv ++ [p.bo])).drop 32)) = _
  rw [List.take_left' (by rw [List.length_map, ho.r]), show 32 = (p.rnd.map bv).length + 16 by rw [List.length_map, ho.r], List.drop_length_add_append, List.drop_left' (by rw [List.length_map, ho.m])]
  rfl
def st1 (q : Pk) (s : Nat) : Pk := ⟨1, if 1 ≤ s then q.peer else 0, 0, 0, 0, if 2 ≤ s then q.rnd else z16, if 3 ≤ s then q.mrk else z16, .slice none 0 0⟩
def st2 (q : Pk) (s : Nat) : Pk := ⟨2, 0, if 1 ≤ s then q.ses else 0, if 2 ≤ s then q.epo else 0, 0, if 3 ≤ s then q.rnd else z16, if 4 ≤ s then q.mrk else z16, .slice none 0 0⟩
theorem ite_len {c : Prop} [Decidable c] {r : List UInt8} (hr : r.length = 16) : (if c then r else z16).length = 16 := by split <;> first | exact hr | rfl
theorem st1_ok (q : Pk) (hq : q.Ok) (s : Nat) : (st1 q s).Ok := ⟨ite_len hq.r, ite_len hq.m, rfl⟩
theorem st2_ok (q : Pk) (hq : q.Ok) (s : Nat) : (st2 q s).Ok := ⟨ite_len hq.r, ite_len hq.m, rfl⟩
theorem then_name {K : Act → World → Prop} {Q : Exit → Act → World → Prop} {x : Exit} {a : Act} {w : World} (h : ∀ W, w = W → Exit.then K Q x a W) : Exit.then K Q x a w := h w rfl
def Head (p : Pk) : Prop :=
  if p.kind = 1 then 1 ≤ p.peer ∧ p.peer ≤ 65536 ∧ p.ses = 0 ∧ p.epo = 0 ∧ p.cnt = 0
  else if p.kind = 2 then 1 ≤ p.ses ∧ 1 ≤ p.epo ∧ p.peer = 0 ∧ p.cnt = 0
  else if p.kind = 3 then 1 ≤ p.ses ∧ 1 ≤ p.epo ∧ 1 ≤ p.cnt ∧ p.cnt ≤ 1152921504606846976 ∧ p.peer = 0 ∧ p.rnd = z16 ∧ p.mrk = z16
  else if p.kind = 4 then 1 ≤ p.ses ∧ p.peer = 0 ∧ p.epo = 0 ∧ p.cnt = 0 ∧ p.rnd = z16 ∧ p.mrk = z16
  else False
instance (p : Pk) : Decidable (Head p) := by unfold Head; infer_instance
theorem head_world (q : Pk) (k : Int) (w W : World) (h : ((w.alloc (.cells q.cells.toArray 40)).alloc (.cells (nm 0).cells.toArray 40)).setRow (w.heap.size + 1) (nm k).cells.toArray = W) :
    Row W w.heap.size q.cells 40 ∧ Row W (w.heap.size + 1) (nm k).cells 40 ∧ Below w.heap.size w W := by
  subst h
  refine ⟨((Row.new (cs := q.cells) rfl rfl).alloc _).setOther _ _ (by omega), ?_, ?_⟩
  · exact (Row.new (cs := (nm 0).cells) (by simp) rfl).setRow (nm k).cells
  · exact below_setRow (((Below.refl _ w).alloc (Nat.le_refl _) _).alloc (by simp) _) (by omega) _
theorem Bs_nil (w : World) (B : Nat) : Bs w B (.slice none 0 0) [] := Bs.nil _ _ _ _
set_option maxRecDepth 100000 in
set_option maxHeartbeats 4000000 in
theorem isHead_x (p : Pk) (ho : p.Ok) (w : World) (k1 : ¬ p.kind = 1) (k2 : ¬ p.kind = 2) (k3 : ¬ p.kind = 3) (k4 : ¬ p.kind = 4) : Calls Tryd.prog 48 #[p.val] w fun e w' => e = .returned (.bool (decide (Head p))) ∧ Below w.heap.size w w' := by
  obtain ⟨q, hq⟩ : ∃ q : Pk, q = { p with bo := .slice none 0 0 } := ⟨_, rfl⟩
  have hqo : q.Ok := hq ▸ Pk.with_bo ho rfl
  have hr0 : Row (w.alloc (.cells p.cells.toArray 40)) w.heap.size p.cells 40 := Row.new rfl rfl
  have hv0 := c_bo hr0 ho
  have hfr := frozen_row hr0 37
  have hset : p.cells.set 37 (.slice none 0 0) = q.cells := by rw [hq, Pk.set_bo ho]
  have hk0 : (w.alloc (.cells q.cells.toArray 40)).cell? ⟨w.heap.size, 0, none⟩ = some (.int .i64 p.kind) := by
    have h2 := c_kind (p := q) (w := w.alloc (.cells q.cells.toArray 40)) (g := w.heap.size) (Row.new rfl rfl)
    rw [hq] at h2 ⊢
    exact h2
  have Ho := Lib.hid ho
  have Hq := Lib.hid hq
  have Hqo := Lib.hid hqo
  clear hr0 ho hq hqo
  unfold Pk.val
  go_enter Tryd.func48, Tryd.ntmps48
  go_wp2_with (first
    | (show wpList _ _ _ (⟨none, Op.store 40 _ _, _, _, _, _⟩ :: _) _ _
       refine wpList_storeRow (g := w.heap.size + 1) rfl 40 _ _ rfl rfl rfl (cs := (nm p.kind).cells) (old := (nm 0).cells) (Row.new (by simp) rfl) (by kernel_rfl) rfl rfl (Pk.one (nm_ok _)) ?_
       refine wpList_name fun W hW => ?_
       obtain ⟨hR1, hR2, hB⟩ := head_world q p.kind w W hW
       have HR1 := Lib.hid hR1
       have HR2 := Lib.hid hR2
       have HB := Lib.hid hB
       refine stop ?_)
    | fail)
  unfold Stop
  clear hv0 hfr hk0 hW hB hset
  have ck := c_kind hR1
  have hqk : q.kind = p.kind := by rw [Hq.out]
  rw [hqk] at ck
  clear hR1 hR2 hqk
  go_wp2_with fail
  go_ret
  exact ⟨by rw [decide_eq_false (fun h : Head p => by unfold Head at h; rw [if_neg k1, if_neg k2, if_neg k3, if_neg k4] at h; exact h)]; rfl, HB.out⟩
set_option maxRecDepth 100000 in
set_option maxHeartbeats 4000000 in
theorem isHead_1 (p : Pk) (ho : p.Ok) (w : World) (hk : p.kind = 1) : Calls Tryd.prog 48 #[p.val] w fun e w' => e = .returned (.bool (decide (Head p))) ∧ Below w.heap.size w w' := by
  obtain ⟨q, hq⟩ : ∃ q : Pk, q = { p with bo := .slice none 0 0 } := ⟨_, rfl⟩
  have hqo : q.Ok := hq ▸ Pk.with_bo ho rfl
  have hr0 : Row (w.alloc (.cells p.cells.toArray 40)) w.heap.size p.cells 40 := Row.new rfl rfl
  have hv0 := c_bo hr0 ho
  have hfr := frozen_row hr0 37
  have hset : p.cells.set 37 (.slice none 0 0) = q.cells := by rw [hq, Pk.set_bo ho]
  have hk0 : (w.alloc (.cells q.cells.toArray 40)).cell? ⟨w.heap.size, 0, none⟩ = some (.int .i64 1) := by
    have h2 := c_kind (p := q) (w := w.alloc (.cells q.cells.toArray 40)) (g := w.heap.size) (Row.new rfl rfl)
    rw [hq] at h2 ⊢
    exact h2.trans (congrArg (fun z => some (Value.int .i64 z)) hk)
  have Ho := Lib.hid ho
  have Hq := Lib.hid hq
  have Hqo := Lib.hid hqo
  clear hr0 ho hq hqo
  unfold Pk.val
  go_enter Tryd.func48, Tryd.ntmps48
  go_wp2_with (first
    | (show wpList _ _ _ (⟨none, Op.store 40 _ _, _, _, _, _⟩ :: _) _ _
       refine wpList_storeRow (g := w.heap.size + 1) rfl 40 _ _ rfl rfl rfl (cs := (nm 1).cells) (old := (nm 0).cells) (Row.new (by simp) rfl) (by kernel_rfl) rfl rfl (Pk.one (nm_ok _)) ?_
       refine wpList_name fun W hW => ?_
       obtain ⟨hR1, hR2, hB⟩ := head_world q 1 w W hW
       have HR1 := Lib.hid hR1
       have HR2 := Lib.hid hR2
       have HB := Lib.hid hB
       refine stop ?_)
    | fail)
  unfold Stop
  clear hv0 hfr hk0 hW hB hset
  have HH := Lib.hid (show decide (Head p) = decide (Head q) from decide_eq_decide.2 (by rw [Hq.out]; exact Iff.rfl))
  have Hqk := Lib.hid (show q.kind = 1 by rw [Hq.out]; exact hk)
  obtain ⟨N, hN⟩ : ∃ N : Pk, { nm 1 with peer := q.peer, rnd := q.rnd, mrk := q.mrk } = N := ⟨_, rfl⟩
  have hNo : N.Ok := hN ▸ ⟨Hqo.out.r, Hqo.out.m, rfl⟩
  have HN := Lib.hid hN
  have ck := c_kind hR1
  rw [Hqk.out] at ck
  clear hk
  have HR1 := Lib.hid hR1
  obtain ⟨gn, hgn⟩ : ∃ gn, w.heap.size + 1 = gn := ⟨_, rfl⟩
  rw [hgn] at hR2
  have HR2 := Lib.hid hR2
  have HGne := Lib.hid (show w.heap.size ≠ gn by omega)
  have HGle := Lib.hid (show w.heap.size ≤ gn by omega)
  clear hR1 hR2 hN
  go_wp2_with fail
  refine ByN.marks Pol.mixed (Stg.St gn (fun s => (st1 q s).cells) 40) [By.is (.pointer (some ⟨w.heap.size, 1, none⟩)),
    By.is (.int .i64 q.peer),
    By.is (.pointer (some ⟨w.heap.size, 5, none⟩)),
    By.is (arr8 q.rnd),
    By.is (.pointer (some ⟨w.heap.size, 21, none⟩)),
    By.is (arr8 q.mrk),
    By.is (.pointer (some ⟨gn, 1, none⟩)),
    Stg.stM gn (fun s => (st1 q s).cells) 40 1,
    By.is (.pointer (some ⟨gn, 5, none⟩)),
    Stg.stM gn (fun s => (st1 q s).cells) 40 2,
    By.is (.pointer (some ⟨gn, 21, none⟩)),
    Stg.stM gn (fun s => (st1 q s).cells) 40 3]
    (Ev.masks _ []) (by kernel_rfl) rfl Stg.St.refl Stg.St.trans ⟨?_, ?_, ?_, ?_, ?_, ?_, ?_, ?_, ?_, ?_, ?_, ?_, trivial⟩ ?_
  · intro a w9 ht hs hg
    have h1 := By.same_get hs 1 (by decide) (by kernel_rfl)
    refine By.yes rfl ?_
    clear hs hg
    go_simp
    exact ⟨_, rfl, Stg.St.refl _, rfl⟩
  · intro a w9 ht hs hg
    have h13 : a.tmps.getD 13 undef = _ := ByN.given_get hg 0 rfl rfl (by kernel_rfl)
    refine By.yes rfl ?_
    clear hs hg
    have hc := c_peer (ht.row (x := W.drew) HR1.out HGne.out)
    clear ht
    go_simp
    exact ⟨_, rfl, Stg.St.refl _, rfl⟩
  · intro a w9 ht hs hg
    have h1 := By.same_get hs 1 (by decide) (by kernel_rfl)
    refine By.yes rfl ?_
    clear hs hg
    go_simp
    exact ⟨_, rfl, Stg.St.refl _, rfl⟩
  · intro a w9 ht hs hg
    have h15 : a.tmps.getD 15 undef = _ := ByN.given_get hg 2 rfl rfl (by kernel_rfl)
    refine By.yes rfl ?_
    clear hs hg
    refine Pol.wp_loadSub (off := 5) (n := 16) 38 _ rfl h15 (ht.row (x := W.drew) HR1.out HGne.out) Tryd.underlying38 rfl (by kernel_rfl) (by rw [Pk.length Hqo.out]; omega) ?_
    exact ⟨_, rfl, Stg.St.refl _, by rw [Pk.rnd_at Hqo.out]; rfl⟩
  · intro a w9 ht hs hg
    have h1 := By.same_get hs 1 (by decide) (by kernel_rfl)
    refine By.yes rfl ?_
    clear hs hg
    go_simp
    exact ⟨_, rfl, Stg.St.refl _, rfl⟩
  · intro a w9 ht hs hg
    have h17 : a.tmps.getD 17 undef = _ := ByN.given_get hg 4 rfl rfl (by kernel_rfl)
    refine By.yes rfl ?_
    clear hs hg
    refine Pol.wp_loadSub (off := 21) (n := 16) 38 _ rfl h17 (ht.row (x := W.drew) HR1.out HGne.out) Tryd.underlying38 rfl (by kernel_rfl) (by rw [Pk.length Hqo.out]; omega) ?_
    exact ⟨_, rfl, Stg.St.refl _, by rw [Pk.mrk_at Hqo.out]; rfl⟩
  · intro a w9 ht hs hg
    have h3 := By.same_get hs 3 (by decide) (by kernel_rfl)
    refine By.yes rfl ?_
    clear hs hg
    go_simp
    exact ⟨_, rfl, Stg.St.refl _, rfl⟩
  · intro a w9 ht hs hg
    have h19 : a.tmps.getD 19 undef = _ := ByN.given_get hg 6 rfl rfl (by kernel_rfl)
    have h14 : a.tmps.getD 14 undef = _ := ByN.given_get hg 1 rfl rfl (by kernel_rfl)
    obtain ⟨s0, _, hrow⟩ := ht.up 0 (show Row W.drew gn (st1 q 0).cells 40 from HR2.out)
    have hst : ∃ s, 1 ≤ s + 1 ∧ Row w9 gn ((fun s => (st1 q s).cells) s) 40 := ⟨s0, by omega, hrow⟩
    refine By.yes rfl ?_
    clear hs hg
    exact Stg.wp_stage (cells := (fun s => (st1 q s).cells)) (n := 1) 1 3 _ _ rfl rfl [.int .i64 q.peer] h19 h14 rfl hst (by kernel_rfl) rfl (fun s => by show 1 + 1 ≤ (st1 q s).cells.length; rw [Pk.length (st1_ok q Hqo.out s)]; omega) (by intro v hv; simp at hv; subst hv; rfl) (fun s hs => (sp_peer (st1 q s) q.peer).trans (congrArg Pk.cells (by simp [st1, show 1 ≤ max s 1 by omega, show (2 ≤ max s 1) ↔ (2 ≤ s) by omega, show (3 ≤ max s 1) ↔ (3 ≤ s) by omega])))
  · intro a w9 ht hs hg
    have h3 := By.same_get hs 3 (by decide) (by kernel_rfl)
    refine By.yes rfl ?_
    clear hs hg
    go_simp
    exact ⟨_, rfl, Stg.St.refl _, rfl⟩
  · intro a w9 ht hs hg
    have h20 : a.tmps.getD 20 undef = _ := ByN.given_get hg 8 rfl rfl (by kernel_rfl)
    have h16 : a.tmps.getD 16 undef = _ := ByN.given_get hg 3 rfl rfl (by kernel_rfl)
    have hp := ByN.given_get hg 7 rfl rfl (by kernel_rfl)
    obtain ⟨s0, hs0, hrow⟩ := hp
    have hst : ∃ s, 2 ≤ s + 1 ∧ Row w9 gn ((fun s => (st1 q s).cells) s) 40 := ⟨s0, by omega, hrow⟩
    refine By.yes rfl ?_
    clear hs hg
    exact Stg.wp_stage (cells := (fun s => (st1 q s).cells)) (n := 16) 2 38 _ _ rfl rfl (q.rnd.map bv) h20 h16 rfl hst (by kernel_rfl) (by rw [List.length_map]; exact Hqo.out.r) (fun s => by show 5 + (q.rnd.map bv).length ≤ (st1 q s).cells.length; rw [Pk.length (st1_ok q Hqo.out s), List.length_map, Hqo.out.r]; omega) (by intro v hv; simp at hv; obtain ⟨u, _, rfl⟩ := hv; rfl) (fun s hs => (sp_rnd (st1 q s) (st1_ok q Hqo.out s) q.rnd Hqo.out.r).trans (congrArg Pk.cells (by simp [st1, show 1 ≤ s by omega, show 1 ≤ max s 2 by omega, show 2 ≤ max s 2 by omega, show (3 ≤ max s 2) ↔ (3 ≤ s) by omega])))
  · intro a w9 ht hs hg
    have h3 := By.same_get hs 3 (by decide) (by kernel_rfl)
    refine By.yes rfl ?_
    clear hs hg
    go_simp
    exact ⟨_, rfl, Stg.St.refl _, rfl⟩
  · intro a w9 ht hs hg
    have h21 : a.tmps.getD 21 undef = _ := ByN.given_get hg 10 rfl rfl (by kernel_rfl)
    have h18 : a.tmps.getD 18 undef = _ := ByN.given_get hg 5 rfl rfl (by kernel_rfl)
    have hp := ByN.given_get hg 9 rfl rfl (by kernel_rfl)
    obtain ⟨s0, hs0, hrow⟩ := hp
    have hst : ∃ s, 3 ≤ s + 1 ∧ Row w9 gn ((fun s => (st1 q s).cells) s) 40 := ⟨s0, by omega, hrow⟩
    refine By.yes rfl ?_
    clear hs hg
    exact Stg.wp_stage (cells := (fun s => (st1 q s).cells)) (n := 16) 3 38 _ _ rfl rfl (q.mrk.map bv) h21 h18 rfl hst (by kernel_rfl) (by rw [List.length_map]; exact Hqo.out.m) (fun s => by show 21 + (q.mrk.map bv).length ≤ (st1 q s).cells.length; rw [Pk.length (st1_ok q Hqo.out s), List.length_map, Hqo.out.m]; omega) (by intro v hv; simp at hv; obtain ⟨u, _, rfl⟩ := hv; rfl) (fun s hs => (sp_mrk (st1 q s) (st1_ok q Hqo.out s) q.mrk Hqo.out.m).trans (congrArg Pk.cells (by simp [st1, show 1 ≤ s by omega, show 2 ≤ s by omega, show 1 ≤ max s 3 by omega, show 2 ≤ max s 3 by omega, show 3 ≤ max s 3 by omega])))
  refine ByN.ends_is ?_
  refine ByN.ends_is ?_
  refine ByN.ends_is ?_
  refine ByN.ends_is ?_
  refine ByN.ends_is ?_
  refine ByN.ends_is ?_
  refine ByN.ends_is ?_
  refine ByN.ends_skip fun _ => ?_
  refine ByN.ends_is ?_
  refine ByN.ends_skip fun _ => ?_
  refine ByN.ends_is ?_
  refine ByN.ends_any fun _ => ?_
  refine ByN.ends_nil fun W9 hw9 => ?_
  obtain ⟨hw9, hl9⟩ := hw9
  obtain ⟨s9, hs9, hrow9⟩ := (show ∃ s, 3 ≤ s ∧ Row W9 gn (st1 q s).cells 40 from hl9)
  have HRn := Lib.hid (show Row W9 gn N.cells 40 by
    rw [show N = st1 q s9 by rw [← HN.out]; simp [st1, nm, show 1 ≤ s9 by omega, show 2 ≤ s9 by omega, show 3 ≤ s9 by omega]]
    exact hrow9)
  have HRq := Lib.hid (hw9.row (x := W.drew) HR1.out HGne.out)
  have HB9 := Lib.hid (HB.out.drew.trans (hw9.below (x := W.drew) (B := w.heap.size) HGle.out HB.out.size))
  clear hw9 hl9 hrow9 hs9
  simp only [Act.put, List.setIfInBounds_toArray, List.set_cons_succ, List.set_cons_zero]
  have dk := c_kind HRq.out
  have dp := c_peer HRq.out
  have ds := c_ses HRq.out
  have de := c_epo HRq.out
  have dc := c_cnt HRq.out
  rw [Hqk.out] at dk
  have Hl1 := Lib.hid (l_all HRq.out Hqo.out)
  have Hl2 := Lib.hid (l_all HRn.out hNo)
  have HNo := Lib.hid hNo
  clear hNo
  by_cases f0 : (1 : Int) ≤ q.peer
  case neg =>
    go_wp2_with fail
    go_ret
    exact ⟨by rw [HH.out, decide_eq_false (fun h : Head q => by unfold Head at h; rw [if_pos Hqk.out] at h; omega)]; rfl, HB9.out⟩
  by_cases f1 : q.peer ≤ (65536 : Int)
  case neg =>
    go_wp2_with fail
    go_ret
    exact ⟨by rw [HH.out, decide_eq_false (fun h : Head q => by unfold Head at h; rw [if_pos Hqk.out] at h; omega)]; rfl, HB9.out⟩
  have Hf := Lib.hid (show 1 ≤ q.peer ∧ q.peer ≤ 65536 by omega)
  go_wp2_with (first
    | (refine wpList_ld 40 rfl rfl Hl1.out rfl ?_)
    | (refine wpList_ld 40 rfl rfl Hl2.out rfl ?_)
    | fail)
  have hqb : q.bo = .slice none 0 0 := by rw [Hq.out]
  refine (Same_any q N Hqo.out HNo.out _ [] [] (by rw [hqb]; exact Bs_nil _ _) (by rw [← HN.out]; exact Bs_nil _ _)).mono ?_
  rintro e w9 ⟨rfl, hb9⟩
  have HB10 := Lib.hid (nextB HB9.out (Nat.le_refl _) hb9)
  clear hb9
  have hend : decide (Eqv q N [] []) = decide (Head p) := by
    rw [HH.out]
    refine decide_eq_decide.2 ?_
    unfold Eqv Head
    rw [if_pos Hqk.out, ← HN.out]
    have := Hf.out
    have := Hqk.out
    simp only [nm]
    constructor
    · intro h
      simp_all
    · intro h
      simp_all
  have Hend := Lib.hid hend
  clear hend hqb
  go_wp2_with fail
  go_ret
  exact ⟨by rw [← Hend.out]; rfl, HB10.out⟩
set_option maxRecDepth 100000 in
set_option maxHeartbeats 4000000 in
theorem isHead_2 (p : Pk) (ho : p.Ok) (w : World) (hk : p.kind = 2) : Calls Tryd.prog 48 #[p.val] w fun e w' => e = .returned (.bool (decide (Head p))) ∧ Below w.heap.size w w' := by
  obtain ⟨q, hq⟩ : ∃ q : Pk, q = { p with bo := .slice none 0 0 } := ⟨_, rfl⟩
  have hqo : q.Ok := hq ▸ Pk.with_bo ho rfl
  have hr0 : Row (w.alloc (.cells p.cells.toArray 40)) w.heap.size p.cells 40 := Row.new rfl rfl
  have hv0 := c_bo hr0 ho
  have hfr := frozen_row hr0 37
  have hset : p.cells.set 37 (.slice none 0 0) = q.cells := by rw [hq, Pk.set_bo ho]
  have hk0 : (w.alloc (.cells q.cells.toArray 40)).cell? ⟨w.heap.size, 0, none⟩ = some (.int .i64 2) := by
    have h2 := c_kind (p := q) (w := w.alloc (.cells q.cells.toArray 40)) (g := w.heap.size) (Row.new rfl rfl)
    rw [hq] at h2 ⊢
    exact h2.trans (congrArg (fun z => some (Value.int .i64 z)) hk)
  have Ho := Lib.hid ho
  have Hq := Lib.hid hq
  have Hqo := Lib.hid hqo
  clear hr0 ho hq hqo
  unfold Pk.val
  go_enter Tryd.func48, Tryd.ntmps48
  go_wp2_with (first
    | (show wpList _ _ _ (⟨none, Op.store 40 _ _, _, _, _, _⟩ :: _) _ _
       refine wpList_storeRow (g := w.heap.size + 1) rfl 40 _ _ rfl rfl rfl (cs := (nm 2).cells) (old := (nm 0).cells) (Row.new (by simp) rfl) (by kernel_rfl) rfl rfl (Pk.one (nm_ok _)) ?_
       refine wpList_name fun W hW => ?_
       obtain ⟨hR1, hR2, hB⟩ := head_world q 2 w W hW
       have HR1 := Lib.hid hR1
       have HR2 := Lib.hid hR2
       have HB := Lib.hid hB
       refine stop ?_)
    | fail)
  unfold Stop
  clear hv0 hfr hk0 hW hB hset
  have HH := Lib.hid (show decide (Head p) = decide (Head q) from decide_eq_decide.2 (by rw [Hq.out]; exact Iff.rfl))
  have Hqk := Lib.hid (show q.kind = 2 by rw [Hq.out]; exact hk)
  obtain ⟨N, hN⟩ : ∃ N : Pk, { nm 2 with ses := q.ses, epo := q.epo, rnd := q.rnd, mrk := q.mrk } = N := ⟨_, rfl⟩
  have hNo : N.Ok := hN ▸ ⟨Hqo.out.r, Hqo.out.m, rfl⟩
  have HN := Lib.hid hN
  have ck := c_kind hR1
  rw [Hqk.out] at ck
  clear hk
  have HR1 := Lib.hid hR1
  obtain ⟨gn, hgn⟩ : ∃ gn, w.heap.size + 1 = gn := ⟨_, rfl⟩
  rw [hgn] at hR2
  have HR2 := Lib.hid hR2
  have HGne := Lib.hid (show w.heap.size ≠ gn by omega)
  have HGle := Lib.hid (show w.heap.size ≤ gn by omega)
  clear hR1 hR2 hN
  go_wp2_with fail
  refine ByN.marks Pol.mixed (Stg.St gn (fun s => (st2 q s).cells) 40) [By.is (.pointer (some ⟨w.heap.size, 2, none⟩)),
    By.is (.int .u64 (q.ses : Int)),
    By.is (.pointer (some ⟨w.heap.size, 3, none⟩)),
    By.is (.int .u32 (q.epo : Int)),
    By.is (.pointer (some ⟨w.heap.size, 5, none⟩)),
    By.is (arr8 q.rnd),
    By.is (.pointer (some ⟨w.heap.size, 21, none⟩)),
    By.is (arr8 q.mrk),
    By.is (.pointer (some ⟨gn, 2, none⟩)),
    Stg.stM gn (fun s => (st2 q s).cells) 40 1,
    By.is (.pointer (some ⟨gn, 3, none⟩)),
    Stg.stM gn (fun s => (st2 q s).cells) 40 2,
    By.is (.pointer (some ⟨gn, 5, none⟩)),
    Stg.stM gn (fun s => (st2 q s).cells) 40 3,
    By.is (.pointer (some ⟨gn, 21, none⟩)),
    Stg.stM gn (fun s => (st2 q s).cells) 40 4]
    (Ev.masks _ []) (by kernel_rfl) rfl Stg.St.refl Stg.St.trans ⟨?_, ?_, ?_, ?_, ?_, ?_, ?_, ?_, ?_, ?_, ?_, ?_, ?_, ?_, ?_, ?_, trivial⟩ ?_
  · intro a w9 ht hs hg
    have h1 := By.same_get hs 1 (by decide) (by kernel_rfl)
    refine By.yes rfl ?_
    clear hs hg
    go_simp
    exact ⟨_, rfl, Stg.St.refl _, rfl⟩
  · intro a w9 ht hs hg
    have h32 : a.tmps.getD 32 undef = _ := ByN.given_get hg 0 rfl rfl (by kernel_rfl)
    refine By.yes rfl ?_
    clear hs hg
    have hc := c_ses (ht.row (x := W.drew) HR1.out HGne.out)
    clear ht
    go_simp
    exact ⟨_, rfl, Stg.St.refl _, rfl⟩
  · intro a w9 ht hs hg
    have h1 := By.same_get hs 1 (by decide) (by kernel_rfl)
    refine By.yes rfl ?_
    clear hs hg
    go_simp
    exact ⟨_, rfl, Stg.St.refl _, rfl⟩
  · intro a w9 ht hs hg
    have h34 : a.tmps.getD 34 undef = _ := ByN.given_get hg 2 rfl rfl (by kernel_rfl)
    refine By.yes rfl ?_
    clear hs hg
    have hc := c_epo (ht.row (x := W.drew) HR1.out HGne.out)
    clear ht
    go_simp
    exact ⟨_, rfl, Stg.St.refl _, rfl⟩
  · intro a w9 ht hs hg
    have h1 := By.same_get hs 1 (by decide) (by kernel_rfl)
    refine By.yes rfl ?_
    clear hs hg
    go_simp
    exact ⟨_, rfl, Stg.St.refl _, rfl⟩
  · intro a w9 ht hs hg
    have h36 : a.tmps.getD 36 undef = _ := ByN.given_get hg 4 rfl rfl (by kernel_rfl)
    refine By.yes rfl ?_
    clear hs hg
    refine Pol.wp_loadSub (off := 5) (n := 16) 38 _ rfl h36 (ht.row (x := W.drew) HR1.out HGne.out) Tryd.underlying38 rfl (by kernel_rfl) (by rw [Pk.length Hqo.out]; omega) ?_
    exact ⟨_, rfl, Stg.St.refl _, by rw [Pk.rnd_at Hqo.out]; rfl⟩
  · intro a w9 ht hs hg
    have h1 := By.same_get hs 1 (by decide) (by kernel_rfl)
    refine By.yes rfl ?_
    clear hs hg
    go_simp
    exact ⟨_, rfl, Stg.St.refl _, rfl⟩
  · intro a w9 ht hs hg
    have h38 : a.tmps.getD 38 undef = _ := ByN.given_get hg 6 rfl rfl (by kernel_rfl)
    refine By.yes rfl ?_
    clear hs hg
    refine Pol.wp_loadSub (off := 21) (n := 16) 38 _ rfl h38 (ht.row (x := W.drew) HR1.out HGne.out) Tryd.underlying38 rfl (by kernel_rfl) (by rw [Pk.length Hqo.out]; omega) ?_
    exact ⟨_, rfl, Stg.St.refl _, by rw [Pk.mrk_at Hqo.out]; rfl⟩
  · intro a w9 ht hs hg
    have h3 := By.same_get hs 3 (by decide) (by kernel_rfl)
    refine By.yes rfl ?_
    clear hs hg
    go_simp
    exact ⟨_, rfl, Stg.St.refl _, rfl⟩
  · intro a w9 ht hs hg
    have h40 : a.tmps.getD 40 undef = _ := ByN.given_get hg 8 rfl rfl (by kernel_rfl)
    have h33 : a.tmps.getD 33 undef = _ := ByN.given_get hg 1 rfl rfl (by kernel_rfl)
    obtain ⟨s0, _, hrow⟩ := ht.up 0 (show Row W.drew gn (st2 q 0).cells 40 from HR2.out)
    have hst : ∃ s, 1 ≤ s + 1 ∧ Row w9 gn ((fun s => (st2 q s).cells) s) 40 := ⟨s0, by omega, hrow⟩
    refine By.yes rfl ?_
    clear hs hg
    exact Stg.wp_stage (cells := (fun s => (st2 q s).cells)) (n := 1) 1 36 _ _ rfl rfl [.int .u64 (q.ses : Int)] h40 h33 rfl hst (by kernel_rfl) rfl (fun s => by show 2 + 1 ≤ (st2 q s).cells.length; rw [Pk.length (st2_ok q Hqo.out s)]; omega) (by intro v hv; simp at hv; subst hv; rfl) (fun s hs => (sp_ses (st2 q s) q.ses).trans (congrArg Pk.cells (by simp [st2, show 1 ≤ max s 1 by omega, show (2 ≤ max s 1) ↔ (2 ≤ s) by omega, show (3 ≤ max s 1) ↔ (3 ≤ s) by omega, show (4 ≤ max s 1) ↔ (4 ≤ s) by omega])))
  · intro a w9 ht hs hg
    have h3 := By.same_get hs 3 (by decide) (by kernel_rfl)
    refine By.yes rfl ?_
    clear hs hg
    go_simp
    exact ⟨_, rfl, Stg.St.refl _, rfl⟩
  · intro a w9 ht hs hg
    have h41 : a.tmps.getD 41 undef = _ := ByN.given_get hg 10 rfl rfl (by kernel_rfl)
    have h35 : a.tmps.getD 35 undef = _ := ByN.given_get hg 3 rfl rfl (by kernel_rfl)
    have hp := ByN.given_get hg 9 rfl rfl (by kernel_rfl)
    obtain ⟨s0, hs0, hrow⟩ := hp
    have hst : ∃ s, 2 ≤ s + 1 ∧ Row w9 gn ((fun s => (st2 q s).cells) s) 40 := ⟨s0, by omega, hrow⟩
    refine By.yes rfl ?_
    clear hs hg
    exact Stg.wp_stage (cells := (fun s => (st2 q s).cells)) (n := 1) 2 37 _ _ rfl rfl [.int .u32 (q.epo : Int)] h41 h35 rfl hst (by kernel_rfl) rfl (fun s => by show 3 + 1 ≤ (st2 q s).cells.length; rw [Pk.length (st2_ok q Hqo.out s)]; omega) (by intro v hv; simp at hv; subst hv; rfl) (fun s hs => (sp_epo (st2 q s) q.epo).trans (congrArg Pk.cells (by simp [st2, show 1 ≤ s by omega, show 1 ≤ max s 2 by omega, show 2 ≤ max s 2 by omega, show (3 ≤ max s 2) ↔ (3 ≤ s) by omega, show (4 ≤ max s 2) ↔ (4 ≤ s) by omega])))
  · intro a w9 ht hs hg
    have h3 := By.same_get hs 3 (by decide) (by kernel_rfl)
    refine By.yes rfl ?_
    clear hs hg
    go_simp
    exact ⟨_, rfl, Stg.St.refl _, rfl⟩
  · intro a w9 ht hs hg
    have h42 : a.tmps.getD 42 undef = _ := ByN.given_get hg 12 rfl rfl (by kernel_rfl)
    have h37 : a.tmps.getD 37 undef = _ := ByN.given_get hg 5 rfl rfl (by kernel_rfl)
    have hp := ByN.given_get hg 11 rfl rfl (by kernel_rfl)
    obtain ⟨s0, hs0, hrow⟩ := hp
    have hst : ∃ s, 3 ≤ s + 1 ∧ Row w9 gn ((fun s => (st2 q s).cells) s) 40 := ⟨s0, by omega, hrow⟩
    refine By.yes rfl ?_
    clear hs hg
    exact Stg.wp_stage (cells := (fun s => (st2 q s).cells)) (n := 16) 3 38 _ _ rfl rfl (q.rnd.map bv) h42 h37 rfl hst (by kernel_rfl) (by rw [List.length_map]; exact Hqo.out.r) (fun s => by show 5 + (q.rnd.map bv).length ≤ (st2 q s).cells.length; rw [Pk.length (st2_ok q Hqo.out s), List.length_map, Hqo.out.r]; omega) (by intro v hv; simp at hv; obtain ⟨u, _, rfl⟩ := hv; rfl) (fun s hs => (sp_rnd (st2 q s) (st2_ok q Hqo.out s) q.rnd Hqo.out.r).trans (congrArg Pk.cells (by simp [st2, show 1 ≤ s by omega, show 2 ≤ s by omega, show 1 ≤ max s 3 by omega, show 2 ≤ max s 3 by omega, show 3 ≤ max s 3 by omega, show (4 ≤ max s 3) ↔ (4 ≤ s) by omega])))
  · intro a w9 ht hs hg
    have h3 := By.same_get hs 3 (by decide) (by kernel_rfl)
    refine By.yes rfl ?_
    clear hs hg
    go_simp
    exact ⟨_, rfl, Stg.St.refl _, rfl⟩
  · intro a w9 ht hs hg
    have h43 : a.tmps.getD 43 undef = _ := ByN.given_get hg 14 rfl rfl (by kernel_rfl)
    have h39 : a.tmps.getD 39 undef = _ := ByN.given_get hg 7 rfl rfl (by kernel_rfl)
    have hp := ByN.given_get hg 13 rfl rfl (by kernel_rfl)
    obtain ⟨s0, hs0, hrow⟩ := hp
    have hst : ∃ s, 4 ≤ s + 1 ∧ Row w9 gn ((fun s => (st2 q s).cells) s) 40 := ⟨s0, by omega, hrow⟩
    refine By.yes rfl ?_
    clear hs hg
    exact Stg.wp_stage (cells := (fun s => (st2 q s).cells)) (n := 16) 4 38 _ _ rfl rfl (q.mrk.map bv) h43 h39 rfl hst (by kernel_rfl) (by rw [List.length_map]; exact Hqo.out.m) (fun s => by show 21 + (q.mrk.map bv).length ≤ (st2 q s).cells.length; rw [Pk.length (st2_ok q Hqo.out s), List.length_map, Hqo.out.m]; omega) (by intro v hv; simp at hv; obtain ⟨u, _, rfl⟩ := hv; rfl) (fun s hs => (sp_mrk (st2 q s) (st2_ok q Hqo.out s) q.mrk Hqo.out.m).trans (congrArg Pk.cells (by simp [st2, show 1 ≤ s by omega, show 2 ≤ s by omega, show 3 ≤ s by omega, show 1 ≤ max s 4 by omega, show 2 ≤ max s 4 by omega, show 3 ≤ max s 4 by omega, show 4 ≤ max s 4 by omega])))
  refine ByN.ends_is ?_
  refine ByN.ends_is ?_
  refine ByN.ends_is ?_
  refine ByN.ends_is ?_
  refine ByN.ends_is ?_
  refine ByN.ends_is ?_
  refine ByN.ends_is ?_
  refine ByN.ends_is ?_
  refine ByN.ends_is ?_
  refine ByN.ends_skip fun _ => ?_
  refine ByN.ends_is ?_
  refine ByN.ends_skip fun _ => ?_
  refine ByN.ends_is ?_
  refine ByN.ends_skip fun _ => ?_
  refine ByN.ends_is ?_
  refine ByN.ends_any fun _ => ?_
  refine ByN.ends_nil fun W9 hw9 => ?_
  obtain ⟨hw9, hl9⟩ := hw9
  obtain ⟨s9, hs9, hrow9⟩ := (show ∃ s, 4 ≤ s ∧ Row W9 gn (st2 q s).cells 40 from hl9)
  have HRn := Lib.hid (show Row W9 gn N.cells 40 by
    rw [show N = st2 q s9 by rw [← HN.out]; simp [st2, nm, show 1 ≤ s9 by omega, show 2 ≤ s9 by omega, show 3 ≤ s9 by omega, show 4 ≤ s9 by omega]]
    exact hrow9)
  have HRq := Lib.hid (hw9.row (x := W.drew) HR1.out HGne.out)
  have HB9 := Lib.hid (HB.out.drew.trans (hw9.below (x := W.drew) (B := w.heap.size) HGle.out HB.out.size))
  clear hw9 hl9 hrow9 hs9
  simp only [Act.put, List.setIfInBounds_toArray, List.set_cons_succ, List.set_cons_zero]
  have dk := c_kind HRq.out
  have dp := c_peer HRq.out
  have ds := c_ses HRq.out
  have de := c_epo HRq.out
  have dc := c_cnt HRq.out
  rw [Hqk.out] at dk
  have Hl1 := Lib.hid (l_all HRq.out Hqo.out)
  have Hl2 := Lib.hid (l_all HRn.out hNo)
  have HNo := Lib.hid hNo
  clear hNo
  by_cases f0 : (1 : Int) ≤ (q.ses : Int)
  case neg =>
    go_wp2_with fail
    go_ret
    exact ⟨by rw [HH.out, decide_eq_false (fun h : Head q => by unfold Head at h; rw [if_neg (show ¬ q.kind = 1 by rw [Hqk.out]; decide), if_pos Hqk.out] at h; omega)]; rfl, HB9.out⟩
  by_cases f1 : (1 : Int) ≤ (q.epo : Int)
  case neg =>
    go_wp2_with fail
    go_ret
    exact ⟨by rw [HH.out, decide_eq_false (fun h : Head q => by unfold Head at h; rw [if_neg (show ¬ q.kind = 1 by rw [Hqk.out]; decide), if_pos Hqk.out] at h; omega)]; rfl, HB9.out⟩
  have Hf := Lib.hid (show 1 ≤ q.ses ∧ 1 ≤ q.epo by omega)
  go_wp2_with (first
    | (refine wpList_ld 40 rfl rfl Hl1.out rfl ?_)
    | (refine wpList_ld 40 rfl rfl Hl2.out rfl ?_)
    | fail)
  have hqb : q.bo = .slice none 0 0 := by rw [Hq.out]
  refine (Same_any q N Hqo.out HNo.out _ [] [] (by rw [hqb]; exact Bs_nil _ _) (by rw [← HN.out]; exact Bs_nil _ _)).mono ?_
  rintro e w9 ⟨rfl, hb9⟩
  have HB10 := Lib.hid (nextB HB9.out (Nat.le_refl _) hb9)
  clear hb9
  have hend : decide (Eqv q N [] []) = decide (Head p) := by
    rw [HH.out]
    refine decide_eq_decide.2 ?_
    unfold Eqv Head
    rw [if_neg (show ¬ q.kind = 1 by rw [Hqk.out]; decide), if_pos Hqk.out, ← HN.out]
    have := Hf.out
    have := Hqk.out
    simp only [nm]
    constructor
    · intro h
      simp_all
    · intro h
      simp_all
  have Hend := Lib.hid hend
  clear hend hqb
  go_wp2_with fail
  go_ret
  exact ⟨by rw [← Hend.out]; rfl, HB10.out⟩
set_option maxRecDepth 100000 in
set_option maxHeartbeats 4000000 in
theorem isHead_3 (p : Pk) (ho : p.Ok) (w : World) (hk : p.kind = 3) : Calls Tryd.prog 48 #[p.val] w fun e w' => e = .returned (.bool (decide (Head p))) ∧ Below w.heap.size w w' := by
  obtain ⟨q, hq⟩ : ∃ q : Pk, q = { p with bo := .slice none 0 0 } := ⟨_, rfl⟩
  have hqo : q.Ok := hq ▸ Pk.with_bo ho rfl
  have hr0 : Row (w.alloc (.cells p.cells.toArray 40)) w.heap.size p.cells 40 := Row.new rfl rfl
  have hv0 := c_bo hr0 ho
  have hfr := frozen_row hr0 37
  have hset : p.cells.set 37 (.slice none 0 0) = q.cells := by rw [hq, Pk.set_bo ho]
  have hk0 : (w.alloc (.cells q.cells.toArray 40)).cell? ⟨w.heap.size, 0, none⟩ = some (.int .i64 3) := by
    have h2 := c_kind (p := q) (w := w.alloc (.cells q.cells.toArray 40)) (g := w.heap.size) (Row.new rfl rfl)
    rw [hq] at h2 ⊢
    exact h2.trans (congrArg (fun z => some (Value.int .i64 z)) hk)
  have Ho := Lib.hid ho
  have Hq := Lib.hid hq
  have Hqo := Lib.hid hqo
  clear hr0 ho hq hqo
  unfold Pk.val
  go_enter Tryd.func48, Tryd.ntmps48
  go_wp2_with (first
    | (show wpList _ _ _ (⟨none, Op.store 40 _ _, _, _, _, _⟩ :: _) _ _
       refine wpList_storeRow (g := w.heap.size + 1) rfl 40 _ _ rfl rfl rfl (cs := (nm 3).cells) (old := (nm 0).cells) (Row.new (by simp) rfl) (by kernel_rfl) rfl rfl (Pk.one (nm_ok _)) ?_
       refine wpList_name fun W hW => ?_
       obtain ⟨hR1, hR2, hB⟩ := head_world q 3 w W hW
       have HR1 := Lib.hid hR1
       have HR2 := Lib.hid hR2
       have HB := Lib.hid hB
       refine stop ?_)
    | fail)
  unfold Stop
  clear hv0 hfr hk0 hW hB hset
  have HH := Lib.hid (show decide (Head p) = decide (Head q) from decide_eq_decide.2 (by rw [Hq.out]; exact Iff.rfl))
  have Hqk := Lib.hid (show q.kind = 3 by rw [Hq.out]; exact hk)
  obtain ⟨N, hN⟩ : ∃ N : Pk, { nm 3 with ses := q.ses, epo := q.epo, cnt := q.cnt } = N := ⟨_, rfl⟩
  have hNo : N.Ok := hN ▸ ⟨rfl, rfl, rfl⟩
  have HN := Lib.hid hN
  have ck := c_kind hR1
  rw [Hqk.out] at ck
  clear hk
  have cs := c_ses hR1
  have ce := c_epo hR1
  have cc := c_cnt hR1
  obtain ⟨gn, hgn⟩ : ∃ gn, w.heap.size + 1 = gn := ⟨_, rfl⟩
  rw [hgn] at hR2
  have hne : w.heap.size ≠ gn := by omega
  have hle : w.heap.size ≤ gn := by omega
  have n2 := c_ses hR2
  have f2 := frozen_row hR2 2
  have r2 := hR2.set 2 (.int .u64 (q.ses : Int))
  have n3 : (W.setCell ⟨gn, 2, none⟩ (.int .u64 (q.ses : Int))).cell? ⟨gn, 3, none⟩ = _ := r2.cell rfl
  have f3 := frozen_row r2 3
  have r3 := r2.set 3 (.int .u32 (q.epo : Int))
  have n4 : ((W.setCell ⟨gn, 2, none⟩ (.int .u64 (q.ses : Int))).setCell ⟨gn, 3, none⟩ (.int .u32 (q.epo : Int))).cell? ⟨gn, 4, none⟩ = _ := r3.cell rfl
  have f4 := frozen_row r3 4
  have r4 := r3.set 4 (.int .u64 (q.cnt : Int))
  have HRn0 := Lib.hid (show Row (((W.setCell ⟨gn, 2, none⟩ (.int .u64 (q.ses : Int))).setCell ⟨gn, 3, none⟩ (.int .u32 (q.epo : Int))).setCell ⟨gn, 4, none⟩ (.int .u64 (q.cnt : Int))) gn N.cells 40 from hN ▸ r4)
  have HRq0 := Lib.hid (((hR1.other ⟨gn, 2, none⟩ (.int .u64 (q.ses : Int)) hne).other ⟨gn, 3, none⟩ (.int .u32 (q.epo : Int)) hne).other ⟨gn, 4, none⟩ (.int .u64 (q.cnt : Int)) hne)
  have HB0 := Lib.hid (((HB.out.setCell (p := ⟨gn, 2, none⟩) hle (.int .u64 (q.ses : Int))).setCell (p := ⟨gn, 3, none⟩) hle (.int .u32 (q.epo : Int))).setCell (p := ⟨gn, 4, none⟩) hle (.int .u64 (q.cnt : Int)))
  clear hR1 hR2 r2 r3 r4 hN hne hle
  go_wp2_with fail
  go_region
  refine then_name fun W9 hW9 => ?_
  have HRq := Lib.hid (show Row W9 w.heap.size q.cells 40 from hW9 ▸ HRq0.out)
  have HRn := Lib.hid (show Row W9 gn N.cells 40 from hW9 ▸ HRn0.out)
  have HB9 := Lib.hid (show Below w.heap.size w W9 from hW9 ▸ HB0.out.drew)
  clear HRq0 HRn0 HB0 hW9 cs ce cc n2 n3 n4 f2 f3 f4
  have dk := c_kind HRq.out
  have dp := c_peer HRq.out
  have ds := c_ses HRq.out
  have de := c_epo HRq.out
  have dc := c_cnt HRq.out
  rw [Hqk.out] at dk
  have Hl1 := Lib.hid (l_all HRq.out Hqo.out)
  have Hl2 := Lib.hid (l_all HRn.out hNo)
  have HNo := Lib.hid hNo
  clear hNo
  by_cases f0 : (1 : Int) ≤ (q.ses : Int)
  case neg =>
    go_wp2_with fail
    go_ret
    exact ⟨by rw [HH.out, decide_eq_false (fun h : Head q => by unfold Head at h; rw [if_neg (show ¬ q.kind = 1 by rw [Hqk.out]; decide), if_neg (show ¬ q.kind = 2 by rw [Hqk.out]; decide), if_pos Hqk.out] at h; omega)]; rfl, HB9.out⟩
  by_cases f1 : (1 : Int) ≤ (q.epo : Int)
  case neg =>
    go_wp2_with fail
    go_ret
    exact ⟨by rw [HH.out, decide_eq_false (fun h : Head q => by unfold Head at h; rw [if_neg (show ¬ q.kind = 1 by rw [Hqk.out]; decide), if_neg (show ¬ q.kind = 2 by rw [Hqk.out]; decide), if_pos Hqk.out] at h; omega)]; rfl, HB9.out⟩
  by_cases f2 : (1 : Int) ≤ (q.cnt : Int)
  case neg =>
    go_wp2_with fail
    go_ret
    exact ⟨by rw [HH.out, decide_eq_false (fun h : Head q => by unfold Head at h; rw [if_neg (show ¬ q.kind = 1 by rw [Hqk.out]; decide), if_neg (show ¬ q.kind = 2 by rw [Hqk.out]; decide), if_pos Hqk.out] at h; omega)]; rfl, HB9.out⟩
  by_cases f3 : (q.cnt : Int) ≤ (1152921504606846976 : Int)
  case neg =>
    go_wp2_with fail
    go_ret
    exact ⟨by rw [HH.out, decide_eq_false (fun h : Head q => by unfold Head at h; rw [if_neg (show ¬ q.kind = 1 by rw [Hqk.out]; decide), if_neg (show ¬ q.kind = 2 by rw [Hqk.out]; decide), if_pos Hqk.out] at h; omega)]; rfl, HB9.out⟩
  have Hf := Lib.hid (show 1 ≤ q.ses ∧ 1 ≤ q.epo ∧ 1 ≤ q.cnt ∧ q.cnt ≤ 1152921504606846976 by omega)
  go_wp2_with (first
    | (refine wpList_ld 40 rfl rfl Hl1.out rfl ?_)
    | (refine wpList_ld 40 rfl rfl Hl2.out rfl ?_)
    | fail)
  have hqb : q.bo = .slice none 0 0 := by rw [Hq.out]
  refine (Same_any q N Hqo.out HNo.out _ [] [] (by rw [hqb]; exact Bs_nil _ _) (by rw [← HN.out]; exact Bs_nil _ _)).mono ?_
  rintro e w9 ⟨rfl, hb9⟩
  have HB10 := Lib.hid (nextB HB9.out (Nat.le_refl _) hb9)
  clear hb9
  have hend : decide (Eqv q N [] []) = decide (Head p) := by
    rw [HH.out]
    refine decide_eq_decide.2 ?_
    unfold Eqv Head
    rw [if_neg (show ¬ q.kind = 1 by rw [Hqk.out]; decide), if_neg (show ¬ q.kind = 2 by rw [Hqk.out]; decide), if_pos Hqk.out, ← HN.out]
    have := Hf.out
    have := Hqk.out
    simp only [nm]
    constructor
    · intro h
      simp_all
    · intro h
      simp_all
  have Hend := Lib.hid hend
  clear hend hqb
  go_wp2_with fail
  go_ret
  exact ⟨by rw [← Hend.out]; rfl, HB10.out⟩
set_option maxRecDepth 100000 in
set_option maxHeartbeats 4000000 in
theorem isHead_4 (p : Pk) (ho : p.Ok) (w : World) (hk : p.kind = 4) : Calls Tryd.prog 48 #[p.val] w fun e w' => e = .returned (.bool (decide (Head p))) ∧ Below w.heap.size w w' := by
  obtain ⟨q, hq⟩ : ∃ q : Pk, q = { p with bo := .slice none 0 0 } := ⟨_, rfl⟩
  have hqo : q.Ok := hq ▸ Pk.with_bo ho rfl
  have hr0 : Row (w.alloc (.cells p.cells.toArray 40)) w.heap.size p.cells 40 := Row.new rfl rfl
  have hv0 := c_bo hr0 ho
  have hfr := frozen_row hr0 37
  have hset : p.cells.set 37 (.slice none 0 0) = q.cells := by rw [hq, Pk.set_bo ho]
  have hk0 : (w.alloc (.cells q.cells.toArray 40)).cell? ⟨w.heap.size, 0, none⟩ = some (.int .i64 4) := by
    have h2 := c_kind (p := q) (w := w.alloc (.cells q.cells.toArray 40)) (g := w.heap.size) (Row.new rfl rfl)
    rw [hq] at h2 ⊢
    exact h2.trans (congrArg (fun z => some (Value.int .i64 z)) hk)
  have Ho := Lib.hid ho
  have Hq := Lib.hid hq
  have Hqo := Lib.hid hqo
  clear hr0 ho hq hqo
  unfold Pk.val
  go_enter Tryd.func48, Tryd.ntmps48
  go_wp2_with (first
    | (show wpList _ _ _ (⟨none, Op.store 40 _ _, _, _, _, _⟩ :: _) _ _
       refine wpList_storeRow (g := w.heap.size + 1) rfl 40 _ _ rfl rfl rfl (cs := (nm 4).cells) (old := (nm 0).cells) (Row.new (by simp) rfl) (by kernel_rfl) rfl rfl (Pk.one (nm_ok _)) ?_
       refine wpList_name fun W hW => ?_
       obtain ⟨hR1, hR2, hB⟩ := head_world q 4 w W hW
       have HR1 := Lib.hid hR1
       have HR2 := Lib.hid hR2
       have HB := Lib.hid hB
       refine stop ?_)
    | fail)
  unfold Stop
  clear hv0 hfr hk0 hW hB hset
  have HH := Lib.hid (show decide (Head p) = decide (Head q) from decide_eq_decide.2 (by rw [Hq.out]; exact Iff.rfl))
  have Hqk := Lib.hid (show q.kind = 4 by rw [Hq.out]; exact hk)
  obtain ⟨N, hN⟩ : ∃ N : Pk, { nm 4 with ses := q.ses } = N := ⟨_, rfl⟩
  have hNo : N.Ok := hN ▸ ⟨rfl, rfl, rfl⟩
  have HN := Lib.hid hN
  have ck := c_kind hR1
  rw [Hqk.out] at ck
  clear hk
  have cs := c_ses hR1
  have ns := c_ses hR2
  have fr := frozen_row hR2 2
  have hrn := hR2.set 2 (.int .u64 (q.ses : Int))
  have HRn := Lib.hid (show Row (W.setCell ⟨w.heap.size + 1, 2, none⟩ (.int .u64 (q.ses : Int))) (w.heap.size + 1) N.cells 40 from hN ▸ hrn)
  have HRq := Lib.hid (hR1.other ⟨w.heap.size + 1, 2, none⟩ (.int .u64 (q.ses : Int)) (by dsimp only; omega))
  have HB9 := Lib.hid (HB.out.setCell (p := ⟨w.heap.size + 1, 2, none⟩) (show w.heap.size ≤ w.heap.size + 1 by omega) (.int .u64 (q.ses : Int)))
  clear hR1 hR2 hrn hN
  have dk := c_kind HRq.out
  have dp := c_peer HRq.out
  have ds := c_ses HRq.out
  have de := c_epo HRq.out
  have dc := c_cnt HRq.out
  rw [Hqk.out] at dk
  have Hl1 := Lib.hid (l_all HRq.out Hqo.out)
  have Hl2 := Lib.hid (l_all HRn.out hNo)
  have HNo := Lib.hid hNo
  clear hNo
  by_cases f0 : (1 : Int) ≤ (q.ses : Int)
  case neg =>
    go_wp2_with fail
    go_ret
    exact ⟨by rw [HH.out, decide_eq_false (fun h : Head q => by unfold Head at h; rw [if_neg (show ¬ q.kind = 1 by rw [Hqk.out]; decide), if_neg (show ¬ q.kind = 2 by rw [Hqk.out]; decide), if_neg (show ¬ q.kind = 3 by rw [Hqk.out]; decide), if_pos Hqk.out] at h; omega)]; rfl, HB9.out⟩
  have Hf := Lib.hid (show 1 ≤ q.ses by omega)
  go_wp2_with (first
    | (refine wpList_ld 40 rfl rfl Hl1.out rfl ?_)
    | (refine wpList_ld 40 rfl rfl Hl2.out rfl ?_)
    | fail)
  have hqb : q.bo = .slice none 0 0 := by rw [Hq.out]
  refine (Same_any q N Hqo.out HNo.out _ [] [] (by rw [hqb]; exact Bs_nil _ _) (by rw [← HN.out]; exact Bs_nil _ _)).mono ?_
  rintro e w9 ⟨rfl, hb9⟩
  have HB10 := Lib.hid (nextB HB9.out (Nat.le_refl _) hb9)
  clear hb9
  have hend : decide (Eqv q N [] []) = decide (Head p) := by
    rw [HH.out]
    refine decide_eq_decide.2 ?_
    unfold Eqv Head
    rw [if_neg (show ¬ q.kind = 1 by rw [Hqk.out]; decide), if_neg (show ¬ q.kind = 2 by rw [Hqk.out]; decide), if_neg (show ¬ q.kind = 3 by rw [Hqk.out]; decide), if_pos Hqk.out, ← HN.out]
    have := Hf.out
    have := Hqk.out
    simp only [nm]
    constructor
    · intro h
      simp_all
    · intro h
      simp_all
  have Hend := Lib.hid hend
  clear hend hqb
  go_wp2_with fail
  go_ret
  exact ⟨by rw [← Hend.out]; rfl, HB10.out⟩
theorem isHead_any (p : Pk) (ho : p.Ok) (w : World) : Calls Tryd.prog 48 #[p.val] w fun e w' => e = .returned (.bool (decide (Head p))) ∧ Below w.heap.size w w' := by
  by_cases k1 : p.kind = 1
  · exact isHead_1 p ho w k1
  by_cases k2 : p.kind = 2
  · exact isHead_2 p ho w k2
  by_cases k3 : p.kind = 3
  · exact isHead_3 p ho w k3
  by_cases k4 : p.kind = 4
  · exact isHead_4 p ho w k4
  exact isHead_x p ho w k1 k2 k3 k4
end Go.Proofs.YtmfpjdbgdmmjkaaDoor.Pkt
namespace Go.Proofs.YtmfpjdbgdmmjkaaDoor
open Go.RowKit
namespace Aead
open Pol (own mixed laid)
theorem Extra_ev : Ev.ans Tryd.prog 1000 81 #[] [] = some (.int .i64 16) := by kernel_rfl
theorem Extra_any (w : World) : Calls Tryd.prog 81 #[] w fun e w' => e = .returned (.int .i64 16) ∧ Below w.heap.size w w' :=
  Ev.calls_ans (l := []) mixed (by decide) (by simp) (by simp) (Pol.flat_args rfl) Extra_ev rfl
end Aead
end Go.Proofs.YtmfpjdbgdmmjkaaDoor
namespace Go.Proofs.YtmfpjdbgdmmjkaaDoor
open Go.RowKit

theorem own_new (w : World) : Own (w.alloc (.cells #[] 5)) w.heap.size (.slice (some ⟨w.heap.size, 0, none⟩) 0 0) [] :=
  ⟨rfl, .inr ⟨w.heap.size, 0, #[], rfl, Nat.le_refl _, heap_alloc_new w _, Nat.le_refl _, by simp, by decide, by simp⟩⟩

theorem Own_any (b : Value) (l : List UInt8) (w : World) (hb : Bs w w.heap.size b l) (hl : l.length ≤ 140737488355327) : Calls Tryd.prog 26 #[b] w fun e w' => ∃ v, e = .returned v ∧ Own w' w.heap.size v l ∧ Below w.heap.size w w' := by
  have Hb := Lib.hid hb
  clear hb
  have ho := own_new w
  have Ho := Lib.hid ho
  clear ho
  go_enter Tryd.func26, Tryd.ntmps26
  go_wp2_with (at_builtin; refine wpList_app_bytes _ rfl _ _ rfl rfl (l := []) Ho.out rfl (Hb.out.alloc (Nat.le_refl _) _) (by simpa using hl) (by simp) ?_; intro v2 w2 hown2 hg2 hblk2)
  go_ret
  exact ⟨v2, rfl, by simpa using hown2, ((Below.refl _ w).alloc (Nat.le_refl _) _).grown hg2 (by simp) (fun k hk => by have hk' : some w.heap.size = some k := hk; injection hk' with hk'; omega)⟩

end Go.Proofs.YtmfpjdbgdmmjkaaDoor
namespace Go.Proofs.YtmfpjdbgdmmjkaaDoor.Pkt
open Go.RowKit
/-- A body of n bytes is as long as one of its kind. -/
def BodyOk (p : Pk) (n : Nat) : Prop := if p.kind = 3 then 16 ≤ n ∧ n ≤ 65552 else n = 0
instance (p : Pk) (n : Nat) : Decidable (BodyOk p n) := by unfold BodyOk; infer_instance
set_option maxRecDepth 100000 in
set_option maxHeartbeats 2000000 in
theorem isBody_other (p : Pk) (ho : p.Ok) (A : Option Addr) (n c : Nat) (hb : p.bo = .slice A n c) (hk : ¬ p.kind = 3) (w : World) : Calls Tryd.prog 53 #[p.val] w fun e w' => e = .returned (.bool (decide (BodyOk p n))) ∧ Below w.heap.size w w' := by
  have hr0 : Row (w.alloc (.cells p.cells.toArray 40)) w.heap.size p.cells 40 := Row.new rfl rfl
  have hB0 : Below w.heap.size w (w.alloc (.cells p.cells.toArray 40)) := (Below.refl _ w).alloc (Nat.le_refl _) _
  have HR0 := Lib.hid hr0
  have HB0 := Lib.hid hB0
  have Ho := Lib.hid ho
  have ck := c_kind hr0
  have cb := c_bo hr0 ho
  rw [hb] at cb
  have hn : ((n : Int) == 0) = decide (n = 0) := by rw [Bool.eq_iff_iff]; simp
  clear hr0 hB0 ho
  unfold Pk.val
  go_enter Tryd.func53, Tryd.ntmps53
  go_wp2
  go_ret
  refine ⟨?_, HB0.out⟩
  rw [show decide (BodyOk p n) = decide (n = 0) from decide_eq_decide.2 (by unfold BodyOk; rw [if_neg hk])]
  rfl
set_option maxRecDepth 100000 in
set_option maxHeartbeats 2000000 in
theorem isBody_short (p : Pk) (ho : p.Ok) (A : Option Addr) (n c : Nat) (hb : p.bo = .slice A n c) (hk : p.kind = 3) (hn : ¬ 16 ≤ n) (w : World) : Calls Tryd.prog 53 #[p.val] w fun e w' => e = .returned (.bool (decide (BodyOk p n))) ∧ Below w.heap.size w w' := by
  have hr0 : Row (w.alloc (.cells p.cells.toArray 40)) w.heap.size p.cells 40 := Row.new rfl rfl
  have hB0 : Below w.heap.size w (w.alloc (.cells p.cells.toArray 40)) := (Below.refl _ w).alloc (Nat.le_refl _) _
  have HR0 := Lib.hid hr0
  have HB0 := Lib.hid hB0
  have Ho := Lib.hid ho
  have ck := c_kind hr0
  rw [hk] at ck
  have Hk := Lib.hid hk
  have Hn := Lib.hid hn
  have Hb := Lib.hid hb
  clear hr0 hB0 ho hk hb
  unfold Pk.val
  go_enter Tryd.func53, Tryd.ntmps53
  go_wp2_with fail
  refine code_name fun W0 hW0 => ?_
  have HRW := Lib.hid (show Row W0 w.heap.size p.cells 40 from hW0 ▸ HR0.out)
  have HBW := Lib.hid (show Below w.heap.size w W0 from hW0 ▸ HB0.out)
  clear hW0 HR0 HB0 ck
  refine By.marks Pol.mixed Grew [By.is (.pointer (some ⟨w.heap.size, 37, none⟩)),
    By.is (.slice A n c),
    By.is (.int .i64 (n : Int)),
    By.is (.int .i64 16),
    By.is (.bool false),
    By.is (.bool false),
    By.is undef,
    By.is undef,
    By.is undef,
    By.is undef,
    By.is undef,
    By.is undef,
    By.is (.bool false),
    By.is (.bool false)]
    (Ev.masks _ []) (by kernel_rfl) rfl Grew.refl Grew.trans ⟨?_, ?_, ?_, ?_, ?_, ?_, ?_, ?_, ?_, ?_, ?_, ?_, ?_, ?_, trivial⟩ ?_
  · intro a w ht hs hg -- 10
    have h1 := By.same_get hs 1 (by decide) (by kernel_rfl)
    refine By.yes rfl ?_
    clear hs hg
    go_simp
    exact ⟨_, rfl, Grew.refl _, rfl⟩
  · intro a w ht hs hg -- 11
    have h10 : a.tmps.getD 10 undef = _ := By.given_get hg 0 rfl rfl (by kernel_rfl)
    refine By.yes rfl ?_
    clear hs hg
    have hcb := c_bo (Row.below (w := W0.drew) HRW.out ht HRW.out.lt) Ho.out
    rw [Hb.out] at hcb
    clear ht
    go_simp
    exact ⟨_, rfl, Grew.refl _, rfl⟩
  · intro a w ht hs hg -- 12
    have h11 : a.tmps.getD 11 undef = _ := By.given_get hg 1 rfl rfl (by kernel_rfl)
    refine By.yes rfl ?_
    clear hs hg
    go_simp
    exact ⟨_, rfl, Grew.refl _, rfl⟩
  · intro a w ht hs hg -- 13
    refine By.yes rfl ?_
    clear hs hg
    go_simp
    refine (Aead.Extra_any w).mono ?_
    rintro e w' ⟨rfl, hb⟩
    exact ⟨_, rfl, hb, rfl⟩
  · intro a w ht hs hg -- 14
    have h12 : a.tmps.getD 12 undef = _ := By.given_get hg 2 rfl rfl (by kernel_rfl)
    have h13 : a.tmps.getD 13 undef = _ := By.given_get hg 3 rfl rfl (by kernel_rfl)
    refine By.yes rfl ?_
    clear hs hg
    go_simp
    exact ⟨_, rfl, Grew.refl _, congrArg Value.bool (by simp; omega)⟩
  · intro a w ht hs hg -- 15
    have h14 : a.tmps.getD 14 undef = _ := By.given_get hg 4 rfl rfl (by kernel_rfl)
    refine By.yes rfl ?_
    clear hs hg
    go_simp
    exact ⟨_, rfl, Grew.refl _, rfl⟩
  · intro a w ht hs hg -- 16
    have hg15 := By.given_get hg 5 rfl rfl (by kernel_rfl)
    exact By.no (By.want_no rfl rfl hg15 (by decide)) rfl
  · intro a w ht hs hg -- 17
    have hg15 := By.given_get hg 5 rfl rfl (by kernel_rfl)
    exact By.no (By.want_no rfl rfl hg15 (by decide)) rfl
  · intro a w ht hs hg -- 18
    have hg15 := By.given_get hg 5 rfl rfl (by kernel_rfl)
    exact By.no (By.want_no rfl rfl hg15 (by decide)) rfl
  · intro a w ht hs hg -- 19
    have hg15 := By.given_get hg 5 rfl rfl (by kernel_rfl)
    exact By.no (By.want_no rfl rfl hg15 (by decide)) rfl
  · intro a w ht hs hg -- 20
    have hg15 := By.given_get hg 5 rfl rfl (by kernel_rfl)
    exact By.no (By.want_no rfl rfl hg15 (by decide)) rfl
  · intro a w ht hs hg -- 21
    have hg15 := By.given_get hg 5 rfl rfl (by kernel_rfl)
    exact By.no (By.want_no rfl rfl hg15 (by decide)) rfl
  · intro a w ht hs hg -- 22
    have h15 : a.tmps.getD 15 undef = _ := By.given_get hg 5 rfl rfl (by kernel_rfl)
    have h21 : a.tmps.getD 21 undef = _ := By.given_get hg 11 rfl rfl (by kernel_rfl)
    refine By.yes rfl ?_
    clear hs hg
    go_simp
    exact ⟨_, rfl, Grew.refl _, rfl⟩
  · intro a w ht hs hg -- 2
    have h22 : a.tmps.getD 22 undef = _ := By.given_get hg 12 rfl rfl (by kernel_rfl)
    refine By.yes rfl ?_
    clear hs hg
    go_simp
    exact ⟨_, rfl, Grew.refl _, rfl⟩
  refine By.ends_is (By.ends_is (By.ends_is (By.ends_is (By.ends_is (By.ends_is (By.ends_is (By.ends_is (By.ends_is (By.ends_is (By.ends_is (By.ends_is (By.ends_is (By.ends_is (By.ends_nil fun wz hz => ?_))))))))))))))
  simp only [Act.put, List.setIfInBounds_toArray, List.set_cons_succ, List.set_cons_zero]
  have hz' : Below W0.heap.size W0 wz := ⟨hz.os, hz.tape, hz.output, hz.size, hz.block⟩
  go_wp2
  go_ret
  refine ⟨?_, nextB HBW.out (Nat.le_refl _) hz'⟩
  rw [decide_eq_false (fun h : BodyOk p n => by unfold BodyOk at h; rw [if_pos Hk.out] at h; exact Hn.out h.1)]
  rfl
set_option maxRecDepth 100000 in
set_option maxHeartbeats 2000000 in
theorem isBody_long (p : Pk) (ho : p.Ok) (A : Option Addr) (n c : Nat) (hb : p.bo = .slice A n c) (hk : p.kind = 3) (hn : 16 ≤ n) (w : World) : Calls Tryd.prog 53 #[p.val] w fun e w' => e = .returned (.bool (decide (BodyOk p n))) ∧ Below w.heap.size w w' := by
  have hr0 : Row (w.alloc (.cells p.cells.toArray 40)) w.heap.size p.cells 40 := Row.new rfl rfl
  have hB0 : Below w.heap.size w (w.alloc (.cells p.cells.toArray 40)) := (Below.refl _ w).alloc (Nat.le_refl _) _
  have HR0 := Lib.hid hr0
  have HB0 := Lib.hid hB0
  have Ho := Lib.hid ho
  have ck := c_kind hr0
  rw [hk] at ck
  have Hk := Lib.hid hk
  have Hn := Lib.hid hn
  have Hb := Lib.hid hb
  clear hr0 hB0 ho hk hb
  unfold Pk.val
  go_enter Tryd.func53, Tryd.ntmps53
  go_wp2_with fail
  refine code_name fun W0 hW0 => ?_
  have HRW := Lib.hid (show Row W0 w.heap.size p.cells 40 from hW0 ▸ HR0.out)
  have HBW := Lib.hid (show Below w.heap.size w W0 from hW0 ▸ HB0.out)
  clear hW0 HR0 HB0 ck
  refine By.marks Pol.mixed Grew [By.is (.pointer (some ⟨w.heap.size, 37, none⟩)),
    By.is (.slice A n c),
    By.is (.int .i64 (n : Int)),
    By.is (.int .i64 16),
    By.is (.bool true),
    By.is (.bool true),
    By.is (.pointer (some ⟨w.heap.size, 37, none⟩)),
    By.is (.slice A n c),
    By.is (.int .i64 (n : Int)),
    By.is (.int .i64 16),
    By.is (.int .i64 65552),
    By.is (.bool (decide (n ≤ 65552))),
    By.is (.bool (decide (n ≤ 65552))),
    By.is (.bool (decide (n ≤ 65552)))]
    (Ev.masks _ []) (by kernel_rfl) rfl Grew.refl Grew.trans ⟨?_, ?_, ?_, ?_, ?_, ?_, ?_, ?_, ?_, ?_, ?_, ?_, ?_, ?_, trivial⟩ ?_
  · intro a w ht hs hg -- 10
    have h1 := By.same_get hs 1 (by decide) (by kernel_rfl)
    refine By.yes rfl ?_
    clear hs hg
    go_simp
    exact ⟨_, rfl, Grew.refl _, rfl⟩
  · intro a w ht hs hg -- 11
    have h10 : a.tmps.getD 10 undef = _ := By.given_get hg 0 rfl rfl (by kernel_rfl)
    refine By.yes rfl ?_
    clear hs hg
    have hcb := c_bo (Row.below (w := W0.drew) HRW.out ht HRW.out.lt) Ho.out
    rw [Hb.out] at hcb
    clear ht
    go_simp
    exact ⟨_, rfl, Grew.refl _, rfl⟩
  · intro a w ht hs hg -- 12
    have h11 : a.tmps.getD 11 undef = _ := By.given_get hg 1 rfl rfl (by kernel_rfl)
    refine By.yes rfl ?_
    clear hs hg
    go_simp
    exact ⟨_, rfl, Grew.refl _, rfl⟩
  · intro a w ht hs hg -- 13
    refine By.yes rfl ?_
    clear hs hg
    go_simp
    refine (Aead.Extra_any w).mono ?_
    rintro e w' ⟨rfl, hb⟩
    exact ⟨_, rfl, hb, rfl⟩
  · intro a w ht hs hg -- 14
    have h12 : a.tmps.getD 12 undef = _ := By.given_get hg 2 rfl rfl (by kernel_rfl)
    have h13 : a.tmps.getD 13 undef = _ := By.given_get hg 3 rfl rfl (by kernel_rfl)
    refine By.yes rfl ?_
    clear hs hg
    go_simp
    exact ⟨_, rfl, Grew.refl _, congrArg Value.bool (by simp; omega)⟩
  · intro a w ht hs hg -- 15
    have h14 : a.tmps.getD 14 undef = _ := By.given_get hg 4 rfl rfl (by kernel_rfl)
    refine By.yes rfl ?_
    clear hs hg
    go_simp
    exact ⟨_, rfl, Grew.refl _, rfl⟩
  · intro a w ht hs hg -- 16
    have h1 := By.same_get hs 1 (by decide) (by kernel_rfl)
    have hg15 := By.given_get hg 5 rfl rfl (by kernel_rfl)
    refine By.yes (By.want_yes rfl rfl hg15) ?_
    clear hg15
    clear hs hg
    go_simp
    exact ⟨_, rfl, Grew.refl _, rfl⟩
  · intro a w ht hs hg -- 17
    have h16 : a.tmps.getD 16 undef = _ := By.given_get hg 6 rfl rfl (by kernel_rfl)
    have hg15 := By.given_get hg 5 rfl rfl (by kernel_rfl)
    refine By.yes (By.want_yes rfl rfl hg15) ?_
    clear hg15
    clear hs hg
    have hcb := c_bo (Row.below (w := W0.drew) HRW.out ht HRW.out.lt) Ho.out
    rw [Hb.out] at hcb
    clear ht
    go_simp
    exact ⟨_, rfl, Grew.refl _, rfl⟩
  · intro a w ht hs hg -- 18
    have h17 : a.tmps.getD 17 undef = _ := By.given_get hg 7 rfl rfl (by kernel_rfl)
    have hg15 := By.given_get hg 5 rfl rfl (by kernel_rfl)
    refine By.yes (By.want_yes rfl rfl hg15) ?_
    clear hg15
    clear hs hg
    go_simp
    exact ⟨_, rfl, Grew.refl _, rfl⟩
  · intro a w ht hs hg -- 19
    have hg15 := By.given_get hg 5 rfl rfl (by kernel_rfl)
    refine By.yes (By.want_yes rfl rfl hg15) ?_
    clear hg15
    clear hs hg
    go_simp
    refine (Aead.Extra_any w).mono ?_
    rintro e w' ⟨rfl, hb⟩
    exact ⟨_, rfl, hb, rfl⟩
  · intro a w ht hs hg -- 20
    have h19 : a.tmps.getD 19 undef = _ := By.given_get hg 9 rfl rfl (by kernel_rfl)
    have hg15 := By.given_get hg 5 rfl rfl (by kernel_rfl)
    refine By.yes (By.want_yes rfl rfl hg15) ?_
    clear hg15
    clear hs hg
    go_simp
    exact ⟨_, rfl, Grew.refl _, rfl⟩
  · intro a w ht hs hg -- 21
    have h18 : a.tmps.getD 18 undef = _ := By.given_get hg 8 rfl rfl (by kernel_rfl)
    have h20 : a.tmps.getD 20 undef = _ := By.given_get hg 10 rfl rfl (by kernel_rfl)
    have hg15 := By.given_get hg 5 rfl rfl (by kernel_rfl)
    refine By.yes (By.want_yes rfl rfl hg15) ?_
    clear hg15
    clear hs hg
    go_simp
    exact ⟨_, rfl, Grew.refl _, congrArg Value.bool (by rw [Bool.eq_iff_iff]; simp; omega)⟩
  · intro a w ht hs hg -- 22
    have h15 : a.tmps.getD 15 undef = _ := By.given_get hg 5 rfl rfl (by kernel_rfl)
    have h21 : a.tmps.getD 21 undef = _ := By.given_get hg 11 rfl rfl (by kernel_rfl)
    refine By.yes rfl ?_
    clear hs hg
    go_simp
    exact ⟨_, rfl, Grew.refl _, rfl⟩
  · intro a w ht hs hg -- 2
    have h22 : a.tmps.getD 22 undef = _ := By.given_get hg 12 rfl rfl (by kernel_rfl)
    refine By.yes rfl ?_
    clear hs hg
    go_simp
    exact ⟨_, rfl, Grew.refl _, rfl⟩
  refine By.ends_is (By.ends_is (By.ends_is (By.ends_is (By.ends_is (By.ends_is (By.ends_is (By.ends_is (By.ends_is (By.ends_is (By.ends_is (By.ends_is (By.ends_is (By.ends_is (By.ends_nil fun wz hz => ?_))))))))))))))
  simp only [Act.put, List.setIfInBounds_toArray, List.set_cons_succ, List.set_cons_zero]
  have hz' : Below W0.heap.size W0 wz := ⟨hz.os, hz.tape, hz.output, hz.size, hz.block⟩
  go_wp2
  go_ret
  refine ⟨?_, nextB HBW.out (Nat.le_refl _) hz'⟩
  rw [show decide (BodyOk p n) = decide (n ≤ 65552) from decide_eq_decide.2 (by unfold BodyOk; rw [if_pos Hk.out]; exact ⟨fun h => h.2, fun h => ⟨Hn.out, h⟩⟩)]
  rfl
theorem isBody_any (p : Pk) (ho : p.Ok) (A : Option Addr) (n c : Nat) (hb : p.bo = .slice A n c) (w : World) : Calls Tryd.prog 53 #[p.val] w fun e w' => e = .returned (.bool (decide (BodyOk p n))) ∧ Below w.heap.size w w' := by
  by_cases hk : p.kind = 3
  · by_cases hn : 16 ≤ n
    · exact isBody_long p ho A n c hb hk hn w
    · exact isBody_short p ho A n c hb hk hn w
  · exact isBody_other p ho A n c hb hk w
/-- What Check answers. -/
def chk (p : Pk) (n : Nat) : Int := if Head p ∧ BodyOk p n then 0 else 2
set_option maxRecDepth 100000 in
set_option maxHeartbeats 2000000 in
theorem Check_any (p : Pk) (ho : p.Ok) (A : Option Addr) (n c : Nat) (hb : p.bo = .slice A n c) (w : World) : Calls Tryd.prog 24 #[p.val] w fun e w' => e = .returned (.int .i64 (chk p n)) ∧ Below w.heap.size w w' := by
  have hr0 : Row (w.alloc (.cells p.cells.toArray 40)) w.heap.size p.cells 40 := Row.new rfl rfl
  have hB0 : Below w.heap.size w (w.alloc (.cells p.cells.toArray 40)) := (Below.refl _ w).alloc (Nat.le_refl _) _
  have HR0 := Lib.hid hr0
  have HB0 := Lib.hid hB0
  have Ho := Lib.hid ho
  have Hb := Lib.hid hb
  obtain ⟨W0, hW0⟩ : ∃ W0, w.alloc (.cells p.cells.toArray 40) = W0 := ⟨_, rfl⟩
  have HL := Lib.hid (l_all hr0 ho)
  have HW0 := Lib.hid hW0
  clear hr0 hB0 ho hb hW0
  unfold Pk.val
  go_enter Tryd.func24, Tryd.ntmps24
  go_wp2_with (first
    | (refine wpList_ld 40 rfl rfl HL.out rfl ?_)
    | fail)
  refine (isHead_any p Ho.out _).mono ?_
  rintro e w1 ⟨rfl, hb1⟩
  have HB1 := Lib.hid (nextB HB0.out (Nat.le_refl _) hb1)
  have HL1 := Lib.hid (l_all (HR0.out.below hb1 HR0.out.lt) Ho.out)
  clear hb1
  by_cases h : Head p
  · rw [decide_eq_true h]
    go_wp2_with (first
      | (refine wpList_ld 40 rfl rfl HL1.out rfl ?_)
      | fail)
    refine (isBody_any p Ho.out A n c Hb.out _).mono ?_
    rintro e w2 ⟨rfl, hb2⟩
    have HB2 := Lib.hid (nextB HB1.out (Nat.le_refl _) hb2)
    clear hb2
    by_cases h2 : BodyOk p n
    · rw [decide_eq_true h2]
      go_wp2
      go_ret
      exact ⟨by rw [chk, if_pos ⟨h, h2⟩]; rfl, HB2.out⟩
    · rw [decide_eq_false h2]
      go_wp2
      go_ret
      exact ⟨by rw [chk, if_neg (fun hh => h2 hh.2)]; rfl, HB2.out⟩
  · rw [decide_eq_false h]
    go_wp2
    go_ret
    exact ⟨by rw [chk, if_neg (fun hh => h hh.1)]; rfl, HB1.out⟩
set_option maxRecDepth 100000 in
set_option maxHeartbeats 2000000 in
theorem clone_any (v : Value) (l : List UInt8) (w : World) (hb : Bs w w.heap.size v l) (hl : l.length ≤ 1000000) : Calls Tryd.prog 51 #[v] w fun e w' => ∃ A' c', e = .returned (.slice A' l.length c') ∧ Bs w' w'.heap.size (.slice A' l.length c') l ∧ Below w.heap.size w w' := by
  have Hb := Lib.hid hb
  have Hl := Lib.hid hl
  obtain ⟨A, c, rfl, _, _⟩ := id hb
  clear hb
  go_enter Tryd.func51, Tryd.ntmps51
  go_wp2_with (first
    | (at_builtin; refine wpList_app_bytes _ rfl _ _ rfl rfl (Own.nil w w.heap.size) rfl Hb.out (by have := Hl.out; simp; omega) (Nat.le_refl _) ?_
       intro v2 w2 ho2 hg2 _
       refine stop ?_)
    | fail)
  unfold Stop
  rw [List.nil_append] at ho2
  have HB2 := Lib.hid ((Below.refl w.heap.size w).grown hg2 (Nat.le_refl _) (fun k hk => by cases hk))
  obtain ⟨A2, c2, rfl, hc2, hcs⟩ := ho2.bs
  have HC := Lib.hid (show Bs w2 w2.heap.size (.slice A2 l.length l.length) l from ⟨A2, l.length, rfl, Nat.le_refl _, hcs⟩)
  have hcc : (l.length : Int) ≤ (c2 : Int) := by omega
  clear ho2 hg2 hcs hc2 hl
  go_wp2
  all_goals go_ret
  all_goals exact ⟨_, _, rfl, HC.out, HB2.out⟩
end Go.Proofs.YtmfpjdbgdmmjkaaDoor.Pkt
namespace Go.Proofs.YtmfpjdbgdmmjkaaDoor.Shk
open Go.RowKit
open Pkt (Pk code_name wpList_name wpList_ld l_all l_mrk c_kind Head BodyOk chk Check_any)
/-- What check answers. -/
def chkk (p : Pk) (n : Nat) (k : Int) (m : List UInt8) : Int := if Head p ∧ BodyOk p n then (if p.kind = k then (if p.mrk = m then 0 else 12) else 2) else 2
theorem l_a32 {w : World} {g : Nat} {key : List UInt8} (h : Row w g (key.map bv) 24) (hk : key.length = 32) : (loadVar 24 ⟨g, 0, none⟩).run Tryd.prog w = .ok (arr8 key) w := by
  rw [Pol.run_loadVar_sub (off := 0) (n := 32) w h Tryd.underlying24 rfl (by kernel_rfl) (by rw [List.length_map]; omega), List.drop_zero, List.take_of_length_le (by rw [List.length_map]; omega)]
  rfl
/-- What is asked of a mark's pieces. -/
structure Few (ls : List (List UInt8)) : Prop where
  n : ls.length ≤ 1000
  m : ∀ l ∈ ls, l.length ≤ 1000000
  f : ls.flatten.length ≤ 1000000
set_option maxRecDepth 100000 in
set_option maxHeartbeats 2000000 in
theorem check_any (key tb : List UInt8) (p : Pk) (k : Int) (ls : List (List UInt8)) (lv : Value) (hk : key.length = 32) (ho : p.Ok) (A : Option Addr) (n c : Nat) (hbo : p.bo = .slice A n c) (htb : tb.length ≤ 1000) (w : World) (ht : Tab w) (hb : Bss w w.heap.size lv ls) (hf : Few ls) :
    Calls Tryd.prog 64 #[arr8 key, p.val, .int .i64 k, strOf tb, lv] w fun e w' => e = .returned (.int .i64 (chkk p n k (mark key (tb ++ ls.flatten)))) ∧ Below w.heap.size w w' := by
  have Hkl := Lib.hid hk
  have Ho := Lib.hid ho
  have Hbo := Lib.hid hbo
  have Htb := Lib.hid htb
  have Hf := Lib.hid hf
  obtain ⟨A2, c2, rfl, _, _⟩ := id hb
  obtain ⟨lv, hlv⟩ : ∃ lv, Value.slice A2 ls.length c2 = lv := ⟨_, rfl⟩
  rw [hlv] at hb ⊢
  obtain ⟨M, hM⟩ : ∃ M, mark key (tb ++ ls.flatten) = M := ⟨_, rfl⟩
  have HMl := Lib.hid (show M.length = 16 by rw [← hM]; exact mark_length _ _)
  have HM := Lib.hid hM
  rw [hM]
  have Hb := Lib.hid hb
  have Ht := Lib.hid ht
  obtain ⟨g0, hg0⟩ : ∃ g, w.heap.size = g := ⟨_, rfl⟩
  have Hg0 := Lib.hid hg0
  clear hk ho hbo htb hf hlv hM hb ht
  unfold arr8 Pk.val
  have HP := Lib.hid (show Row ((w.alloc (.cells (key.map bv).toArray 24)).alloc (.cells p.cells.toArray 40)) (g0 + 1) p.cells 40 from hg0 ▸ Row.new (by simp) rfl)
  have HK := Lib.hid (show Row ((w.alloc (.cells (key.map bv).toArray 24)).alloc (.cells p.cells.toArray 40)) g0 (key.map bv) 24 from hg0 ▸ (Row.new rfl rfl).alloc _)
  have HB0 := Lib.hid (show Below w.heap.size w ((w.alloc (.cells (key.map bv).toArray 24)).alloc (.cells p.cells.toArray 40)) from ((Below.refl _ w).alloc (Nat.le_refl _) _).alloc (by simp) _)
  have HL := Lib.hid ((Hb.out.below HB0.out).more' HB0.out.size)
  have HT := Lib.hid (Ht.out.below HB0.out Ht.out.1)
  have hld := l_all HP.out Ho.out
  rw [← hg0] at hld
  unfold Pk.val at hld
  have HLd := Lib.hid hld
  clear hld hg0
  go_enter Tryd.func64, Tryd.ntmps64
  go_wp2_with (first
    | (refine wpList_ld 40 rfl rfl HLd.out rfl ?_)
    | fail)
  refine (Check_any p Ho.out A n c Hbo.out _).mono ?_
  rintro e w1 ⟨rfl, hb1⟩
  rw [Hg0.out]
  have HB1 := Lib.hid (nextB HB0.out (Nat.le_refl _) hb1)
  have HK1 := Lib.hid (HK.out.below hb1 HK.out.lt)
  have HP1 := Lib.hid (HP.out.below hb1 HP.out.lt)
  have HL1 := Lib.hid ((HL.out.below hb1).more' hb1.size)
  have HT1 := Lib.hid (HT.out.below hb1 HT.out.1)
  have ck := c_kind HP1.out
  clear hb1
  by_cases h : Head p ∧ BodyOk p n
  · have hc : chk p n = 0 := if_pos h
    rw [hc]
    by_cases h2 : p.kind = k
    · have hres : chkk p n k M = if p.mrk = M then 0 else 12 := by rw [chkk, if_pos h, if_pos h2]
      rw [h2] at ck
      have Hres := Lib.hid hres
      clear hres h hc h2
      go_wp2_with fail
      refine By.marks Pol.mixed Grew [By.is (.pointer (some ⟨(g0 + 1), 21, none⟩)),
        By.is (arr8 p.mrk),
        By.is (arr8 key),
        By.is (strOf tb),
        By.is lv,
        By.is (arr8 M),
        By.is (.bool (decide (p.mrk = M))),
        By.is (.bool (!decide (p.mrk = M)))]
        (Ev.masks _ []) (by kernel_rfl) rfl Grew.refl Grew.trans ⟨?_, ?_, ?_, ?_, ?_, ?_, ?_, ?_, trivial⟩ ?_
      · intro a w ht hs hg -- 21
        have h6 := By.same_get hs 6 (by decide) (by kernel_rfl)
        refine By.yes rfl ?_
        clear hs hg
        go_simp
        exact ⟨_, rfl, Grew.refl _, rfl⟩
      · intro a w ht hs hg -- 22
        have h21 : a.tmps.getD 21 undef = _ := By.given_get hg 0 rfl rfl (by kernel_rfl)
        refine By.yes rfl ?_
        clear hs hg
        have hr := l_mrk (Row.below (w := w1.drew) HP1.out ht HP1.out.lt) Ho.out
        refine wp_ld 38 _ rfl h21 hr ?_
        exact ⟨_, rfl, Grew.refl _, rfl⟩
      · intro a w ht hs hg -- 23
        have h5 := By.same_get hs 5 (by decide) (by kernel_rfl)
        refine By.yes rfl ?_
        clear hs hg
        have hr := l_a32 (Row.below (w := w1.drew) HK1.out ht HK1.out.lt) Hkl.out
        refine wp_ld 24 _ rfl h5 hr ?_
        exact ⟨_, rfl, Grew.refl _, rfl⟩
      · intro a w ht hs hg -- 24
        have h3 := By.same_get hs 3 (by decide) (by kernel_rfl)
        refine By.yes rfl ?_
        clear hs hg
        go_simp
        exact ⟨_, rfl, Grew.refl _, rfl⟩
      · intro a w ht hs hg -- 25
        have h4 := By.same_get hs 4 (by decide) (by kernel_rfl)
        refine By.yes rfl ?_
        clear hs hg
        go_simp
        exact ⟨_, rfl, Grew.refl _, rfl⟩
      · intro a w ht hs hg -- 26
        have h23 : a.tmps.getD 23 undef = _ := By.given_get hg 2 rfl rfl (by kernel_rfl)
        have h24 : a.tmps.getD 24 undef = _ := By.given_get hg 3 rfl rfl (by kernel_rfl)
        have h25 : a.tmps.getD 25 undef = _ := By.given_get hg 4 rfl rfl (by kernel_rfl)
        refine By.yes rfl ?_
        clear hs hg
        have HLw := Lib.hid ((HL1.out.below (grew_below ht)).more' ht.size)
        have HTw := Lib.hid (HT1.out.below (grew_below ht) HT1.out.1)
        clear ht
        unfold arr8 at h23
        go_simp
        refine (Mark_any key tb ls lv Hkl.out Htb.out w HTw.out HLw.out Hf.out.n Hf.out.m Hf.out.f).mono ?_
        rintro e w8 ⟨rfl, hb8⟩
        exact ⟨_, rfl, hb8, congrArg arr8 HM.out⟩
      · intro a w ht hs hg -- 27
        have h22 : a.tmps.getD 22 undef = _ := By.given_get hg 1 rfl rfl (by kernel_rfl)
        have h26 : a.tmps.getD 26 undef = _ := By.given_get hg 5 rfl rfl (by kernel_rfl)
        refine By.yes rfl ?_
        clear hs hg
        clear ht
        unfold arr8 at h22 h26
        go_simp
        refine (isSame_any Ho.out.m HMl.out w).mono ?_
        rintro e w8 ⟨rfl, hb8⟩
        exact ⟨_, rfl, hb8, rfl⟩
      · intro a w ht hs hg -- 28
        have h27 : a.tmps.getD 27 undef = _ := By.given_get hg 6 rfl rfl (by kernel_rfl)
        refine By.yes rfl ?_
        clear hs hg
        go_simp
        exact ⟨_, rfl, Grew.refl _, rfl⟩
      refine By.ends_is (By.ends_is (By.ends_is (By.ends_is (By.ends_is (By.ends_is (By.ends_is (By.ends_is (By.ends_nil fun w9 hw9 => ?_))))))))
      simp only [Act.put, List.setIfInBounds_toArray, List.set_cons_succ, List.set_cons_zero]
      have HB9 := Lib.hid (nextB HB1.out (Nat.le_refl _) (grew_below hw9))
      obtain ⟨d, hd⟩ : ∃ d, decide (p.mrk = M) = d := ⟨_, rfl⟩
      rw [hd]
      clear hw9
      cases d with
      | true =>
        have Hd := Lib.hid (of_decide_eq_true hd)
        clear hd
        go_wp2
        go_ret
        exact ⟨by rw [Hres.out, if_pos Hd.out]; rfl, HB9.out⟩
      | false =>
        have Hd := Lib.hid (of_decide_eq_false hd)
        clear hd
        go_wp2
        go_ret
        exact ⟨by rw [Hres.out, if_neg Hd.out]; rfl, HB9.out⟩
    · have hres : chkk p n k M = 2 := by rw [chkk, if_pos h, if_neg h2]
      have hkk : (p.kind != k) = true := by simp [h2]
      clear h hc h2
      go_wp2
      go_ret
      exact ⟨by rw [hres]; rfl, HB1.out⟩
  · have hc : chk p n = 2 := if_neg h
    have hres : chkk p n k M = 2 := by rw [chkk, if_neg h]
    rw [hc]
    clear h hc
    go_wp2
    go_ret
    exact ⟨by rw [hres]; rfl, HB1.out⟩
def hello5 : List UInt8 := [104, 101, 108, 108, 111]
theorem few_hello {p : Pk} (ho : p.Ok) : Few (helloL p) := by
  have h4 := Oct.bytesBE_length 4 (p32 p.peer)
  have h := ho.r
  refine ⟨by simp [helloL], fun l hl => ?_, by simp [helloL, h4, h]⟩
  simp only [helloL, List.mem_cons, List.not_mem_nil, or_false] at hl
  rcases hl with rfl | rfl <;> omega
set_option maxRecDepth 100000 in
set_option maxHeartbeats 2000000 in
theorem CheckHello_any (key : List UInt8) (p : Pk) (hk : key.length = 32) (ho : p.Ok) (A : Option Addr) (n c : Nat) (hbo : p.bo = .slice A n c) (w : World) (ht : Tab w) :
    Calls Tryd.prog 35 #[arr8 key, p.val] w fun e w' => e = .returned (.int .i64 (chkk p n 1 (mark key (hello5 ++ (helloL p).flatten)))) ∧ Below w.heap.size w w' := by
  have Hkl := Lib.hid hk
  have Ho := Lib.hid ho
  have Hbo := Lib.hid hbo
  have Ht := Lib.hid ht
  obtain ⟨g0, hg0⟩ : ∃ g, w.heap.size = g := ⟨_, rfl⟩
  have Hg0 := Lib.hid hg0
  clear hk ho hbo ht hg0
  unfold arr8 Pk.val
  go_enter Tryd.func35, Tryd.ntmps35
  go_wp2_with fail
  refine code_name fun W0 hW0 => ?_
  rw [Hg0.out]
  have HK := Lib.hid (show Row W0 g0 (key.map bv) 24 from Hg0.out ▸ hW0 ▸ (Row.new rfl rfl).alloc _)
  have HP := Lib.hid (show Row W0 (g0 + 1) p.cells 40 from Hg0.out ▸ hW0 ▸ Row.new (by simp) rfl)
  have HB0 := Lib.hid (show Below w.heap.size w W0 from hW0 ▸ ((Below.refl _ w).alloc (Nat.le_refl _) _).alloc (by simp) _)
  have HT := Lib.hid (Ht.out.below HB0.out Ht.out.1)
  clear hW0
  refine By.marks Pol.mixed Grew [By.is (arr8 key),
    By.is p.val,
    By.is p.val,
    bssM (helloL p),
    By.is (.int .i64 (chkk p n 1 (mark key (hello5 ++ (helloL p).flatten)))),
    By.is (.int .i64 (chkk p n 1 (mark key (hello5 ++ (helloL p).flatten))))]
    (Ev.masks _ []) (by kernel_rfl) rfl Grew.refl Grew.trans ⟨?_, ?_, ?_, ?_, ?_, ?_, trivial⟩ ?_
  · intro a w ht hs hg -- 5
    have h2 := By.same_get hs 2 (by decide) (by kernel_rfl)
    refine By.yes rfl ?_
    clear hs hg
    have hr := l_a32 (Row.below (w := W0.drew) HK.out ht HK.out.lt) Hkl.out
    refine wp_ld 24 _ rfl h2 hr ?_
    exact ⟨_, rfl, Grew.refl _, rfl⟩
  · intro a w ht hs hg -- 6
    have h3 := By.same_get hs 3 (by decide) (by kernel_rfl)
    refine By.yes rfl ?_
    clear hs hg
    have hr := l_all (Row.below (w := W0.drew) HP.out ht HP.out.lt) Ho.out
    refine wp_ld 40 _ rfl h3 hr ?_
    exact ⟨_, rfl, Grew.refl _, rfl⟩
  · intro a w ht hs hg -- 7
    have h3 := By.same_get hs 3 (by decide) (by kernel_rfl)
    refine By.yes rfl ?_
    clear hs hg
    have hr := l_all (Row.below (w := W0.drew) HP.out ht HP.out.lt) Ho.out
    refine wp_ld 40 _ rfl h3 hr ?_
    exact ⟨_, rfl, Grew.refl _, rfl⟩
  · intro a w ht hs hg -- 8
    have h7 : a.tmps.getD 7 undef = _ := By.given_get hg 2 rfl rfl (by kernel_rfl)
    refine By.yes rfl ?_
    clear hs hg
    clear ht
    unfold Pk.val at h7
    go_simp
    refine (helloBytes_any p Ho.out w).mono ?_
    rintro e w' ⟨v, rfl, hv, hb⟩
    exact ⟨_, rfl, hb, hv.bss⟩
  · intro a w ht hs hg -- 9
    have h5 : a.tmps.getD 5 undef = _ := By.given_get hg 0 rfl rfl (by kernel_rfl)
    have h6 : a.tmps.getD 6 undef = _ := By.given_get hg 1 rfl rfl (by kernel_rfl)
    have h8 := By.given_get hg 3 rfl rfl (by kernel_rfl)
    refine By.yes rfl ?_
    obtain ⟨v8, hv8⟩ : ∃ v, a.tmps.getD 8 undef = v := ⟨_, rfl⟩
    replace h8 := (congrArg (fun v => ((bssM (helloL p))).on v w) hv8).mp h8
    clear hs hg
    have HTw := Lib.hid (HT.out.below (grew_below ht) HT.out.1)
    have HLw := Lib.hid h8
    obtain ⟨A8, c8, rfl, _, _⟩ := id HLw.out
    clear ht h8
    unfold arr8 at h5
    unfold Pk.val at h6
    go_simp
    refine (check_any key hello5 p 1 (helloL p) _ Hkl.out Ho.out A n c Hbo.out (by decide) w HTw.out HLw.out (few_hello Ho.out)).mono ?_
    rintro e w8 ⟨rfl, hb8⟩
    exact ⟨_, rfl, hb8, rfl⟩
  · intro a w ht hs hg -- 4
    have h9 : a.tmps.getD 9 undef = _ := By.given_get hg 4 rfl rfl (by kernel_rfl)
    refine By.yes rfl ?_
    clear hs hg
    go_simp
    exact ⟨_, rfl, Grew.refl _, rfl⟩
  refine By.ends_is (By.ends_is (By.ends_is (By.ends_skip fun v8 => (By.ends_is (By.ends_is (By.ends_nil fun w9 hw9 => ?_))))))
  simp only [Act.put, List.setIfInBounds_toArray, List.set_cons_succ, List.set_cons_zero]
  have HB9 := Lib.hid (nextB HB0.out (Nat.le_refl _) (grew_below hw9))
  clear hw9
  go_wp2
  go_ret
  exact ⟨rfl, Hg0.out ▸ HB9.out⟩
end Go.Proofs.YtmfpjdbgdmmjkaaDoor.Shk
namespace Go.Proofs.YtmfpjdbgdmmjkaaDoor
open Go.RowKit
/-- A pointer to a row from B on. -/
def rowS (B : Nat) (cs : List Value) (t : TypeId) : By.Mark Grew := ⟨fun v w => ∃ q, v = .pointer (some ⟨q, 0, none⟩) ∧ B ≤ q ∧ Row w q cs t, fun _ _ _ ⟨q, h1, h2, h3⟩ k => ⟨q, h1, h2, h3.below k h3.lt⟩⟩
section
variable {P : Program} {fn : Func} {tmps : Array Value} {w : World}
theorem results_ct {p t : Tmp} {ty : TypeId} (hr : fn.results = #[.cell p ty, .tmp t]) {g : Nat} {t' : TypeId} {cs : List Value} {d : TypeDesc}
    (hp : tmps.getD p undef = .pointer (some ⟨g, 0, none⟩)) (h : Row w g cs t') (hu : P.underlying ty = some d) (hd : (match d with | .struct _ | .array _ _ => true | _ => false) = true) {n : Nat}
    (hi : (P.info? ty).map (·.size) = some n) (hn : cs.length = n) : (results fn tmps).run P w = .ok (.tuple #[.agg cs.toArray, tmps.getD t undef]) w := by
  have hp' : tmps[p]?.getD undef = .pointer (some ⟨g, 0, none⟩) := by simpa using hp
  simp [results, hr, hp', asAddr, run_loadVar_row w g t' ty cs.toArray (0, 0) d h hu hd (by rw [hi]; simp [hn])]
theorem results_tct {p t u : Tmp} {ty : TypeId} (hr : fn.results = #[.tmp u, .cell p ty, .tmp t]) {g : Nat} {t' : TypeId} {cs : List Value} {d : TypeDesc}
    (hp : tmps.getD p undef = .pointer (some ⟨g, 0, none⟩)) (h : Row w g cs t') (hu : P.underlying ty = some d) (hd : (match d with | .struct _ | .array _ _ => true | _ => false) = true) {n : Nat}
    (hi : (P.info? ty).map (·.size) = some n) (hn : cs.length = n) : (results fn tmps).run P w = .ok (.tuple #[tmps.getD u undef, .agg cs.toArray, tmps.getD t undef]) w := by
  have hp' : tmps[p]?.getD undef = .pointer (some ⟨g, 0, none⟩) := by simpa using hp
  simp [results, hr, hp', asAddr, run_loadVar_row w g t' ty cs.toArray (0, 0) d h hu hd (by rw [hi]; simp [hn])]
end
end Go.Proofs.YtmfpjdbgdmmjkaaDoor
namespace Go.Proofs.YtmfpjdbgdmmjkaaDoor.Shk
open Go.RowKit
open Pkt (Pk code_name wpList_name wpList_ld l_all c_ses Head BodyOk chk Check_any nm z16)
theorem wpList_build {P : Program} {w : World} {ops : Array Oper} {rest : List Oper} {o : Oper} {a : Act} {Q : Exit → Act → World → Prop} (hgd : o.guard = none) (t : TypeId) (parts : Array (Nat × Operand)) (ho : o.op = .build t parts) {v : Value}
    (hrun : (Instr.build t (parts.map fun (i, x) => (i, a.eval x))).run P w = .ok v w) (hk : wpList P ops Q rest (a.put o.dst v) w) : wpList P ops Q (o :: rest) a w := by
  refine wpList_plain hgd fun K hK => ?_
  unfold Oper.wp execOp
  simp only [ho, Sem.run_bind, Sem.run_pure, Result.andThen_ok, hrun]
  exact hK _ _ hk
/-- A hello, an answer. -/
def hp (z : Int) (r m : List UInt8) : Pk := ⟨1, z, 0, 0, 0, r, m, .slice none 0 0⟩
def ap (s e : Nat) (r m : List UInt8) : Pk := ⟨2, 0, s, e, 0, r, m, .slice none 0 0⟩
theorem hp_ok {z : Int} {r m : List UInt8} (hr : r.length = 16) (hm : m.length = 16) : (hp z r m).Ok := ⟨hr, hm, rfl⟩
theorem ap_ok {s e : Nat} {r m : List UInt8} (hr : r.length = 16) (hm : m.length = 16) : (ap s e r m).Ok := ⟨hr, hm, rfl⟩
set_option maxRecDepth 100000 in
theorem build_hp (z : Int) (w : World) : ∀ r : List UInt8, r.length = 16 → (Instr.build 40 #[(0, .int .i64 1), (1, .int .i64 z), (5, arr8 r)]).run Tryd.prog w = .ok (hp z r z16).val w
  | [_, _, _, _, _, _, _, _, _, _, _, _, _, _, _, _], _ => by kernel_rfl
set_option maxRecDepth 100000 in
theorem build_ap (s e : Nat) (w : World) : ∀ r : List UInt8, r.length = 16 → (Instr.build 40 #[(0, .int .i64 2), (2, .int .u64 (s : Int)), (3, .int .u32 (e : Int)), (5, arr8 r)]).run Tryd.prog w = .ok (ap s e r z16).val w
  | [_, _, _, _, _, _, _, _, _, _, _, _, _, _, _, _], _ => by kernel_rfl
theorem build_nm (w : World) : (Instr.build 40 #[]).run Tryd.prog w = .ok (nm 0).val w := by kernel_rfl
theorem nm_ok : (nm 0).Ok := ⟨rfl, rfl, rfl⟩
theorem l_a16 {w : World} {g : Nat} {r : List UInt8} (h : Row w g (r.map bv) 38) (hk : r.length = 16) : (loadVar 38 ⟨g, 0, none⟩).run Tryd.prog w = .ok (arr8 r) w := by
  rw [Pol.run_loadVar_sub (off := 0) (n := 16) w h Tryd.underlying38 rfl (by kernel_rfl) (by rw [List.length_map]; omega), List.drop_zero, List.take_of_length_le (by rw [List.length_map]; omega)]
  rfl
/-- What Hello answers. -/
def helloP (key : List UInt8) (z : Int) (r : List UInt8) : Pk := hp z r (mark key (hello5 ++ (helloL (hp z r z16)).flatten))
def helloOk (z : Int) : Prop := 1 ≤ z ∧ z ≤ 65536
instance (z : Int) : Decidable (helloOk z) := by unfold helloOk; infer_instance
theorem chk_hp (z : Int) (r m : List UInt8) : chk (hp z r m) 0 = if helloOk z then 0 else 2 := by
  have e : (Head (hp z r m) ∧ BodyOk (hp z r m) 0) ↔ helloOk z := by
    unfold Head BodyOk hp helloOk
    simp
  unfold chk
  by_cases h : helloOk z
  · rw [if_pos (e.2 h), if_pos h]
  · rw [if_neg (fun k => h (e.1 k)), if_neg h]
set_option maxRecDepth 100000 in
set_option maxHeartbeats 2000000 in
theorem Hello_any (key : List UInt8) (z : Int) (r : List UInt8) (hk : key.length = 32) (hrl : r.length = 16) (w : World) (ht : Tab w) :
    Calls Tryd.prog 31 #[arr8 key, .int .i64 z, arr8 r] w fun e w' => e = .returned (if helloOk z then .tuple #[(helloP key z r).val, .int .i64 0] else .tuple #[(nm 0).val, .int .i64 2]) ∧ Below w.heap.size w w' := by
  have Hkl := Lib.hid hk
  have Hrl := Lib.hid hrl
  have Ht := Lib.hid ht
  obtain ⟨M, hM⟩ : ∃ M, mark key (hello5 ++ (helloL (hp z r z16)).flatten) = M := ⟨_, rfl⟩
  have HMl := Lib.hid (show M.length = 16 by rw [← hM]; exact mark_length _ _)
  have HM := Lib.hid hM
  have HX := Lib.hid (show helloP key z r = hp z r M by rw [helloP, hM])
  obtain ⟨R, hR⟩ : ∃ R, (if helloOk z then Value.tuple #[(helloP key z r).val, .int .i64 0] else .tuple #[(nm 0).val, .int .i64 2]) = R := ⟨_, rfl⟩
  have HRes := Lib.hid hR
  rw [hR]
  have HB0 := Lib.hid (show Below w.heap.size w (((w.alloc (.cells (key.map bv).toArray 24)).alloc (.cells (r.map bv).toArray 38)).alloc (.cells (nm 0).cells.toArray 40)) from (((Below.refl _ w).alloc (Nat.le_refl _) _).alloc (by simp) _).alloc (by simp; omega) _)
  have HK := Lib.hid (show Row (((w.alloc (.cells (key.map bv).toArray 24)).alloc (.cells (r.map bv).toArray 38)).alloc (.cells (nm 0).cells.toArray 40)) w.heap.size (key.map bv) 24 from ((Row.new rfl rfl).alloc _).alloc _)
  have HR := Lib.hid (show Row (((w.alloc (.cells (key.map bv).toArray 24)).alloc (.cells (r.map bv).toArray 38)).alloc (.cells (nm 0).cells.toArray 40)) (w.heap.size + 1) (r.map bv) 38 from (Row.new (by simp) rfl).alloc _)
  have HO := Lib.hid (show Row (((w.alloc (.cells (key.map bv).toArray 24)).alloc (.cells (r.map bv).toArray 38)).alloc (.cells (nm 0).cells.toArray 40)) (w.heap.size + 1 + 1) (nm 0).cells 40 from Row.new (by simp) rfl)
  have hrun := l_a16 HR.out hrl
  unfold arr8 at hrun
  have HRr := Lib.hid hrun
  have HHn := Lib.hid (show Row ((((w.alloc (.cells (key.map bv).toArray 24)).alloc (.cells (r.map bv).toArray 38)).alloc (.cells (nm 0).cells.toArray 40)).alloc (.cells (nm 0).cells.toArray 40)) (w.heap.size + 1 + 1 + 1) (nm 0).cells 40 from Row.new (by simp) rfl)
  clear hk hrl ht hM hR hrun
  unfold arr8
  go_enter Tryd.func31, Tryd.ntmps31
  go_wp2_with (first
    | (refine wpList_ld 38 rfl rfl HRr.out rfl ?_
       refine wpList_name fun W0 hW0 => ?_
       refine sstop ?_)
    | fail)
  unfold SStop
  have HK0 := Lib.hid (show Row W0 w.heap.size (key.map bv) 24 from hW0 ▸ HK.out)
  have HO0 := Lib.hid (show Row W0 (w.heap.size + 1 + 1) (nm 0).cells 40 from hW0 ▸ HO.out)
  have HBW := Lib.hid (show Below w.heap.size w W0 from hW0 ▸ HB0.out)
  have hs0 : W0.heap.size = w.heap.size + 1 + 1 + 1 := by rw [← hW0]; simp
  have Hs0 := Lib.hid hs0
  have Hg := Lib.hid (show Row (W0.alloc (.cells (nm 0).cells.toArray 40)) (w.heap.size + 1 + 1 + 1) (nm 0).cells 40 from Row.new hs0 rfl)
  clear hW0
  refine wpList_build rfl _ _ rfl (v := (hp z r z16).val) (Eq.trans (congrArg (fun q => (Instr.build 40 q).run Tryd.prog W0) (by kernel_rfl)) (build_hp z W0 r Hrl.out)) ?_
  go_wp2_with (first
    | (show wpList _ _ _ (⟨none, Op.store 40 _ _, _, _, _, _⟩ :: _) _ _
       refine wpList_storeRow (g := w.heap.size + 1 + 1 + 1) rfl 40 _ _ rfl rfl rfl (cs := (hp z r z16).cells) Hg.out (by kernel_rfl) (Pk.length (hp_ok Hrl.out rfl)) (Pk.length nm_ok) (Pk.one (hp_ok Hrl.out rfl)) ?_
       refine wpList_name fun V hV => ?_
       refine sstop ?_)
    | fail)
  unfold SStop
  have HKV := Lib.hid (show Row V w.heap.size (key.map bv) 24 by rw [← hV]; exact (HK0.out.alloc _).setOther _ _ (by omega))
  have HOV := Lib.hid (show Row V (w.heap.size + 1 + 1) (nm 0).cells 40 by rw [← hV]; exact (HO0.out.alloc _).setOther _ _ (by omega))
  have HHV := Lib.hid (show Row V (w.heap.size + 1 + 1 + 1) (hp z r z16).cells 40 by rw [← hV]; exact Hg.out.setRow _)
  have HBV := Lib.hid (show Below w.heap.size w V by rw [← hV]; exact below_setRow (HBW.out.alloc (by omega) _) (by omega) _)
  have HTV := Lib.hid (Ht.out.below HBV.out Ht.out.1)
  have HLd := Lib.hid (l_all HHV.out (hp_ok Hrl.out rfl))
  clear hV hs0
  go_wp2_with (first
    | (refine wpList_ld 40 rfl rfl HLd.out rfl ?_)
    | fail)
  refine (Check_any (hp z r z16) (hp_ok Hrl.out rfl) none 0 0 rfl _).mono ?_
  rintro e w1 ⟨rfl, hb1⟩
  rw [chk_hp]
  have HB1 := Lib.hid (nextB HBV.out (Nat.le_refl _) hb1)
  have HK1 := Lib.hid (HKV.out.below hb1 HKV.out.lt)
  have HO1 := Lib.hid (HOV.out.below hb1 HOV.out.lt)
  have HH1 := Lib.hid (HHV.out.below hb1 HHV.out.lt)
  have HT1 := Lib.hid (HTV.out.below hb1 HTV.out.1)
  clear hb1
  by_cases h : helloOk z
  · rw [if_pos h]
    have Hh := Lib.hid h
    clear h
    go_wp2_with fail
    refine Tail.marksAt Pol.mixed 5 Grew [By.is (arr8 key),
      By.is (hp z r z16).val,
      bssM (helloL (hp z r z16)),
      By.is (arr8 M),
      By.is (.pointer (some ⟨(w.heap.size + 1 + 1 + 1), 21, none⟩))]
      (Ev.masks _ []) (Nat.zero_lt_succ _) (by kernel_rfl) (by kernel_rfl) rfl Grew.refl Grew.trans ⟨?_, ?_, ?_, ?_, ?_, trivial⟩ ?_
    · intro a w ht hs hg -- 19
      have h3 := By.same_get hs 3 (by decide) (by kernel_rfl)
      refine By.yes rfl ?_
      clear hs hg
      have hr := l_a32 (Row.below (w := w1.drew) HK1.out ht HK1.out.lt) Hkl.out
      refine wp_ld 24 _ rfl h3 hr ?_
      exact ⟨_, rfl, Grew.refl _, rfl⟩
    · intro a w ht hs hg -- 20
      have h8 := By.same_get hs 8 (by decide) (by kernel_rfl)
      refine By.yes rfl ?_
      clear hs hg
      have hr := l_all (Row.below (w := w1.drew) HH1.out ht HH1.out.lt) (hp_ok Hrl.out rfl)
      refine wp_ld 40 _ rfl h8 hr ?_
      exact ⟨_, rfl, Grew.refl _, rfl⟩
    · intro a w ht hs hg -- 21
      have h20 : a.tmps.getD 20 undef = _ := By.given_get hg 1 rfl rfl (by kernel_rfl)
      refine By.yes rfl ?_
      clear hs hg
      clear ht
      unfold Pk.val at h20
      go_simp
      refine (helloBytes_any (hp z r z16) (hp_ok Hrl.out rfl) w).mono ?_
      rintro e w' ⟨v, rfl, hv, hb⟩
      exact ⟨_, rfl, hb, hv.bss⟩
    · intro a w ht hs hg -- 22
      have h19 : a.tmps.getD 19 undef = _ := By.given_get hg 0 rfl rfl (by kernel_rfl)
      have h21 := By.given_get hg 2 rfl rfl (by kernel_rfl)
      refine By.yes rfl ?_
      obtain ⟨v21, hv21⟩ : ∃ v, a.tmps.getD 21 undef = v := ⟨_, rfl⟩
      replace h21 := (congrArg (fun v => ((bssM (helloL (hp z r z16)))).on v w) hv21).mp h21
      clear hs hg
      have HTw := Lib.hid (HT1.out.below (grew_below ht) HT1.out.1)
      have HLw := Lib.hid h21
      obtain ⟨A8, c8, rfl, _, _⟩ := id HLw.out
      clear ht h21
      unfold arr8 at h19
      go_simp
      have hfw := few_hello (p := hp z r z16) (hp_ok Hrl.out rfl)
      refine (Mark_any key hello5 (helloL (hp z r z16)) _ Hkl.out (by decide) w HTw.out HLw.out hfw.n hfw.m hfw.f).mono ?_
      rintro e w8 ⟨rfl, hb8⟩
      exact ⟨_, rfl, hb8, congrArg arr8 HM.out⟩
    · intro a w ht hs hg -- 23
      have h8 := By.same_get hs 8 (by decide) (by kernel_rfl)
      refine By.yes rfl ?_
      clear hs hg
      go_simp
      exact ⟨_, rfl, Grew.refl _, rfl⟩
    refine By.ends_is (By.ends_is (By.ends_skip fun v21 => (By.ends_is (By.ends_is (By.ends_nil fun w9 hw9 => ?_)))))
    simp only [Act.put, List.setIfInBounds_toArray, List.set_cons_succ, List.set_cons_zero]
    simp only [List.drop_succ_cons, List.drop_zero]
    have hbw := grew_below hw9
    have HB9 := Lib.hid (nextB HB1.out (Nat.le_refl _) hbw)
    have HH9 := Lib.hid (HH1.out.below hbw HH1.out.lt)
    have HO9 := Lib.hid (HO1.out.below hbw HO1.out.lt)
    clear hw9 hbw
    refine Pol.wpList_storeSub (n := 16) rfl 38 (.tmp 23) (.tmp 22) rfl rfl rfl (cs := M.map bv) HH9.out (by kernel_rfl) (by rw [List.length_map]; exact HMl.out) (by rw [List.length_map, HMl.out, Pk.length (hp_ok Hrl.out rfl)]; omega) (hbytes_one M) ?_
    rw [Pkt.sp_mrk _ (hp_ok Hrl.out rfl) M HMl.out]
    refine wpList_name fun V hV => ?_
    have HHV := Lib.hid (show Row V (w.heap.size + 1 + 1 + 1) (hp z r M).cells 40 by rw [← hV]; exact HH9.out.setRow _)
    have HOV := Lib.hid (show Row V (w.heap.size + 1 + 1) (nm 0).cells 40 by rw [← hV]; exact HO9.out.setOther _ _ (by omega))
    have HBV := Lib.hid (show Below w.heap.size w V by rw [← hV]; exact below_setRow HB9.out (by omega) _)
    have HLd := Lib.hid (l_all HHV.out (hp_ok Hrl.out HMl.out))
    clear hV
    go_wp2_with (first
      | (refine wpList_ld 40 rfl rfl HLd.out rfl ?_)
      | (show wpList _ _ _ (⟨none, Op.store 40 _ _, _, _, _, _⟩ :: _) _ _
         refine wpList_storeRow (g := w.heap.size + 1 + 1) rfl 40 _ _ rfl rfl rfl (cs := (hp z r M).cells) HOV.out (by kernel_rfl) (Pk.length (hp_ok Hrl.out HMl.out)) (Pk.length nm_ok) (Pk.one (hp_ok Hrl.out HMl.out)) ?_)
      | fail)
    refine bodyPost_ret (results_ct rfl rfl (HOV.out.setRow (hp z r M).cells) Tryd.underlying40 rfl (by kernel_rfl) (Pk.length (hp_ok Hrl.out HMl.out))) rfl ?_
    exact ⟨by rw [← HRes.out, if_pos Hh.out, HX.out]; rfl, below_setRow HBV.out (by omega) _⟩
  · rw [if_neg h]
    have Hh := Lib.hid h
    clear h
    go_wp2_with (first
      | (show wpList _ _ _ (⟨some 17, _, _, _, _, _⟩ :: _) _ _; refine wpList_build rfl _ _ rfl (v := (nm 0).val) (by kernel_rfl) ?_)
      | (show wpList _ _ _ (⟨none, Op.store 40 _ _, _, _, _, _⟩ :: _) _ _
         refine wpList_storeRow (g := w.heap.size + 1 + 1) rfl 40 _ _ rfl rfl rfl (cs := (nm 0).cells) HO1.out (by kernel_rfl) (Pk.length nm_ok) (Pk.length nm_ok) (Pk.one nm_ok) ?_)
      | fail)
    refine bodyPost_ret (results_ct rfl rfl (HO1.out.setRow (nm 0).cells) Tryd.underlying40 rfl (by kernel_rfl) (Pk.length nm_ok)) rfl ?_
    exact ⟨by rw [← HRes.out, if_neg Hh.out]; rfl, below_setRow HB1.out (by omega) _⟩
end Go.Proofs.YtmfpjdbgdmmjkaaDoor.Shk
namespace Go.Proofs.YtmfpjdbgdmmjkaaDoor
open Go.RowKit
theorem zeroCells_u8 (k : Nat) : Builtin.zeroCells (Value.int .u8 0).cells k = ((List.replicate k (0 : UInt8)).map bv).toArray := by
  apply Array.ext
  · simp [Builtin.zeroCells, Value.cells]
  · intro j h1 h2
    simp [Builtin.zeroCells, Value.cells, bv, Nat.mod_one]
theorem run_app_zeros (w : World) {base : Nat} {v : Value} {l : List UInt8} (ty : TypeId) (k : Nat) (hown : Own w base v l) (hlen : l.length + k ≤ 140737488355327) (hbase : base ≤ w.heap.size) :
    ∃ v' w', (Builtin.append_ #[23, 3] ty #[v, .int .i64 (k : Int)]).run Tryd.prog w = .ok v' w' ∧ Own w' base v' (l ++ List.replicate k 0) ∧ w.grownBy w' v.ownBlock := by
  obtain ⟨i, hi, hz, hs, hb⟩ := info_u8
  have hu := run_underlying (P := Tryd.prog) Tryd.underlying23
  have hui := run_underlying (P := Tryd.prog) Tryd.underlying3
  have hw : IntKind.i64.wrap (k : Int) = k := by rw [IntKind.wrap_i64]; omega
  have grown : ∀ (old : Nat), old < l.length + k → ∀ (row : Option Nat),
      Own (w.drew.alloc (.cells ((l.map bv).toArray ++ Builtin.zeroCells (Value.int .u8 0).cells k ++ Builtin.zeroCells (Value.int .u8 0).cells (grownCap w (l.length + k) old 5 - (l.length + k))) 5)) base (.slice (some ⟨w.heap.size, 0, none⟩) (l.length + k) (grownCap w (l.length + k) old 5)) (l ++ List.replicate k 0) ∧
      w.grownBy (w.drew.alloc (.cells ((l.map bv).toArray ++ Builtin.zeroCells (Value.int .u8 0).cells k ++ Builtin.zeroCells (Value.int .u8 0).cells (grownCap w (l.length + k) old 5 - (l.length + k))) 5)) row := by
    intro old ho row
    have hge := grownCap_ge w (l.length + k) old 5
    have hcm : grownCap w (l.length + k) old 5 ≤ maxLen := grownCap_le_maxLen w (l.length + k) old 5 (by unfold maxLen; omega)
    refine ⟨⟨by simp, .inr ⟨w.heap.size, _, _, by rw [List.length_append, List.length_replicate], hbase, heap_alloc_new w.drew _, by rw [List.length_append, List.length_replicate]; exact hge, hcm, ?_, ?_⟩⟩, ⟨rfl, rfl, rfl, by simp, fun j hj _ => heap_alloc_old w.drew _ hj⟩⟩
    · simp only [zeroCells_u8, Array.size_append, List.size_toArray, List.length_map, List.length_replicate]
      omega
    · simp only [zeroCells_u8, Array.toList_append, List.map_append, List.append_assoc]
      rw [← List.append_assoc]
      exact List.take_left' (by simp)
  by_cases hk : k = 0
  · subst hk
    have hw0 : IntKind.i64.wrap 0 = 0 := hw
    refine ⟨v, w, ?_, by simpa using hown, ⟨rfl, rfl, rfl, Nat.le_refl _, fun _ _ _ => rfl⟩⟩
    rcases hown.2 with ⟨rfl, _⟩ | ⟨g, cap, cur, rfl, _, _, hnc, _⟩
    · simp [Builtin.append_, hu, hui, sizeOf, typeInfo, hi, hs, hb, asInt, asIntOf, hw0]
    · simp [Builtin.append_, hu, hui, sizeOf, typeInfo, hi, hs, hb, asInt, asIntOf, hw0, hnc, storeCells]
  · rcases hown.2 with ⟨rfl, hl⟩ | ⟨g, cap, cur, rfl, hbg, hg, hnc, hcm, hcs, htake⟩
    · have hl0 : l = [] := List.eq_nil_of_length_eq_zero hl
      subst hl0
      have hr := Lib.run_append_grow_zeros (P := Tryd.prog) w 23 3 ty 5 i (.int .u8 0) .i64 .i64 Tryd.underlying23 Tryd.underlying3 hi hz none 0 0 [] (run_firstCells_none _ _ _ _ _) k (by omega) (by omega) (by omega) (by omega) (by rw [hb]; omega) (growslice_fits (by omega) (by rw [hb]; simp at hlen; omega))
      have hgr := grown 0 (by simp; omega) none
      simp only [List.length_nil] at hgr
      exact ⟨_, _, hr, hgr.1, hgr.2⟩
    · by_cases hroom : l.length + k ≤ cap
      · have hfit : l.length + 0 + ((List.replicate k (0 : UInt8)).map bv).length ≤ cur.size := by rw [hcs]; simp; omega
        have hst := run_storeCells_at Tryd.prog g l.length 5 ((List.replicate k (0 : UInt8)).map bv) 0 cur w hg hfit (hbytes_one _)
        simp only [Nat.add_zero] at hst
        have hneg : ¬ ((k : Int) < 0) := by omega
        have hbig : ¬ (281474976710656 < (k : Int)) := by omega
        have hap : (Builtin.append_ #[23, 3] ty #[.slice (some ⟨g, 0, none⟩) l.length cap, .int .i64 (k : Int)]).run Tryd.prog w =
            .ok (.slice (some ⟨g, 0, none⟩) (l.length + k) cap) (w.setRow g (cur.toList.take l.length ++ (List.replicate k (0 : UInt8)).map bv ++ cur.toList.drop (l.length + ((List.replicate k (0 : UInt8)).map bv).length)).toArray) := by
          simp [Builtin.append_, hu, hui, sizeOf, typeInfo, zeroValue, hi, hz, hs, hb, asInt, asIntOf, hw, hneg, hbig, hk, hroom, Addr.add_lit, zeroCells_u8, -List.map_replicate, hst]
        refine ⟨_, _, hap, ⟨by simp, .inr ⟨g, cap, _, by rw [List.length_append, List.length_replicate], hbg, setRow_heap w g cur _ 5 _ hg, by rw [List.length_append, List.length_replicate]; exact hroom, hcm, ?_, ?_⟩⟩, ⟨rfl, rfl, rfl, by simp, fun j _ hj => setRow_other w g j _ (fun e => hj (by simp [Value.ownBlock, e]))⟩⟩
        · simp only [List.size_toArray, List.length_append, List.length_take, List.length_drop, Array.length_toList, List.length_map, List.length_replicate]
          omega
        · rw [Nat.mul_one] at htake
          rw [htake, List.map_append]
          exact List.take_left' (by simp)
      · have hr := Lib.run_append_grow_zeros (P := Tryd.prog) w 23 3 ty 5 i (.int .u8 0) .i64 .i64 Tryd.underlying23 Tryd.underlying3 hi hz (some ⟨g, 0, none⟩) l.length cap (l.map bv) (run_firstCells_some w.drew _ _ ⟨g, 0, none⟩ _ _ (l.map bv) (by rw [hs]; simp) (hown.cells (g := g) rfl)) k (by omega) (by omega) (by omega) (by omega) (by rw [hb]; omega) (growslice_fits (by omega) (by rw [hb]; omega))
        have hgr := grown cap (by omega) (some g)
        exact ⟨_, _, hr, hgr.1, hgr.2⟩
theorem wpList_app_zeros (w : World) {ops : Array Oper} {rest : List Oper} {o : Oper} {a : Act} {Q : Exit → Act → World → Prop} (hgd : o.guard = none) (s x : Operand)
    (ho : o.op = .call { callee := .builtin .append, args := #[s, x], argTypes := #[23, 3] }) {base : Nat} {v : Value} {l : List UInt8} {k : Nat} (hs : a.eval s = v) (hown : Own w base v l) (hx : a.eval x = .int .i64 (k : Int))
    (hlen : l.length + k ≤ 140737488355327) (hbase : base ≤ w.heap.size)
    (h : ∀ v' w', Own w' base v' (l ++ List.replicate k 0) → w.grownBy w' v.ownBlock → wpList Tryd.prog ops Q rest (a.put o.dst v') w') : wpList Tryd.prog ops Q (o :: rest) a w := by
  refine wpList_plain hgd fun K hK => ?_
  obtain ⟨v', w', hr, h2, h3⟩ := run_app_zeros w o.type k hown hlen hbase
  unfold Oper.wp execOp
  simp only [ho, resolve, invoke, builtin, Sem.run_bind, Sem.run_pure, Result.andThen_ok, List.map_toArray, List.map_cons, List.map_nil, hs, hx, hr]
  exact hK _ _ (h v' w' h2 h3)
end Go.Proofs.YtmfpjdbgdmmjkaaDoor
namespace Go.Proofs.YtmfpjdbgdmmjkaaDoor.Shk
open Go.RowKit
open Pkt (code_name wpList_name)
theorem own_empty {w : World} {base : Nat} {v : Value} {l : List UInt8} (h : Own w base v l) (hl : l ≠ []) : ∃ g c, v = .slice (some ⟨g, 0, none⟩) l.length c ∧ l.length ≤ c ∧ Own w base (.slice (some ⟨g, 0, none⟩) 0 c) [] := by
  rcases h.2 with ⟨_, h2⟩ | ⟨g, cap, cur, e, h1, h2, h3, h4, h5, _⟩
  · exact absurd (List.eq_nil_of_length_eq_zero h2) hl
  · exact ⟨g, cap, e, h3, rfl, .inr ⟨g, cap, cur, rfl, h1, h2, Nat.zero_le _, h4, h5, by simp⟩⟩
set_option maxRecDepth 100000 in
set_option maxHeartbeats 1000000 in
theorem Grow_any (n : Nat) (h0 : 0 < n) (hn : n ≤ 100000000) (w : World) : Calls Tryd.prog 92 #[.slice none 0 0, .int .i64 (n : Int)] w fun e w' => ∃ v, e = .returned v ∧ Own w' w.heap.size v [] ∧ Below w.heap.size w w' := by
  have h1 : ¬ (n : Int) < 0 := by omega
  have h2 : (0 : Int) < (n : Int) := by omega
  go_enter Tryd.func92, Tryd.ntmps92
  go_wp2_with (first
    | (at_builtin; refine wpList_app_zeros w rfl (.tmp 20) (.tmp 21) rfl rfl (Own.nil w w.heap.size) rfl (k := n) (by simp; omega) (Nat.le_refl _) ?_
       intro v2 w2 ho2 hg2
       refine sstop ?_)
    | fail)
  unfold SStop
  rw [List.nil_append] at ho2
  have hne : List.replicate n (0 : UInt8) ≠ [] := by intro h; have := congrArg List.length h; simp at this; omega
  have HB := Lib.hid ((Below.refl w.heap.size w).grown hg2 (Nat.le_refl _) (fun k hk => by cases hk))
  obtain ⟨g, c, rfl, hc, ho⟩ := own_empty ho2 hne
  rw [List.length_replicate] at hc ⊢
  have HO := Lib.hid ho
  have hc0 : (0 : Int) ≤ (c : Int) := by omega
  clear ho2 hg2 hne hc ho
  go_wp2
  go_ret
  exact ⟨_, rfl, HO.out, HB.out⟩
set_option maxRecDepth 100000 in
set_option maxHeartbeats 1000000 in
theorem Concat_any (v : Value) (ls : List (List UInt8)) (w : World) (hb : Bss w w.heap.size v ls) (hn : ls.length ≤ 1000) (h0 : ls.flatten ≠ []) (hf : ls.flatten.length ≤ 1000000) :
    Calls Tryd.prog 68 #[v] w fun e w' => ∃ v, e = .returned v ∧ Bs w' w'.heap.size v ls.flatten ∧ Below w.heap.size w w' := by
  have Hb := Lib.hid hb
  have Hf := Lib.hid hf
  have H0 := Lib.hid h0
  obtain ⟨A, c, rfl, hc, hcs⟩ := hb
  have Hcs := Lib.hid hcs
  have HpL : Hid (∀ (i : Nat) (l : List UInt8), ls[i]? = some l → (ls.take (i + 1)).flatten = (ls.take i).flatten ++ l) := fun i l h => by
    rw [List.take_add_one, h]; simp
  have HfL : Hid (∀ i, (ls.take i).flatten.length ≤ 1000000) := fun i => by
    have h2 : ls.flatten = (ls.take i).flatten ++ (ls.drop i).flatten := by rw [← List.flatten_append, List.take_append_drop]
    have h3 := congrArg List.length h2
    rw [List.length_append] at h3
    omega
  clear hf hc hcs h0
  go_enter Tryd.func68, Tryd.ntmps68
  go_wp2
  go_loopw [11, 3] (fun iv sv wr => ∃ i n : Nat, i ≤ ls.length ∧ iv = .int .i64 (i : Int) ∧ sv = .int .i64 (n : Int) ∧ (ls.take i).flatten.length = n ∧ w = wr) (fun iv _ _ => ls.length - (intOf iv).toNat)
  case atStart => exact ⟨0, 0, Nat.zero_le _, rfl, rfl, rfl, rfl⟩
  case round =>
    obtain ⟨i, n, hi, rfl, rfl, hnl, rfl⟩ := hrel
    have Hnl := Lib.hid hnl
    clear hnl
    by_cases h1 : i < ls.length
    · have h1' : (i : Int) < (ls.length : Int) := by omega
      obtain ⟨b, off, rfl, hlt, hcell⟩ := Hcs.out (by intro h; subst h; simp at h1)
      obtain ⟨u, hu, hbs⟩ := hcell i _ (List.getElem?_eq_getElem h1)
      obtain ⟨piece, hpiece⟩ : ∃ piece, ls[i] = piece := ⟨_, rfl⟩
      have hpi : ls[i]? = some piece := by rw [← hpiece]; exact List.getElem?_eq_getElem h1
      rw [hpiece] at hbs
      obtain ⟨A2, c2, rfl, _, _⟩ := hbs
      have hsum : (ls.take (i + 1)).flatten.length = n + piece.length := by rw [HpL.out i piece hpi, List.length_append, Hnl.out]
      have hle : n + piece.length ≤ 1000000 := by rw [← hsum]; exact HfL.out _
      have hws : IntKind.i64.wrap ((n : Int) + (piece.length : Int)) = (n : Int) + (piece.length : Int) := IntWalk.i64_in _ (by omega)
      have hpos : ¬ (n : Int) + (piece.length : Int) < 0 := by omega
      have Hsum := Lib.hid hsum
      clear hcell hpi hsum hle hpiece
      go_wp2
      go_roundw
      case rel => exact ⟨i + 1, n + piece.length, h1, by simp, by simp, Hsum.out, trivial⟩
      case measure => simp [intOf]; omega
    · have h1' : ¬ (i : Int) < (ls.length : Int) := by omega
      have : i = ls.length := by omega
      subst this
      have hnf := Hnl.out
      rw [List.take_length] at hnf
      have hn6 : n ≤ 1000000 := by rw [← hnf]; exact Hf.out
      have hn0 : 0 < n := by rw [← hnf]; exact List.length_pos_iff.2 H0.out
      have Hnf := Lib.hid hnf
      clear hnf
      go_wp2_with fail
      refine (Grow_any n hn0 (by omega) _).mono ?_
      rintro e w1 ⟨v1, rfl, ho1, hb1⟩
      have HO1 := Lib.hid ho1
      have HB1 := Lib.hid hb1
      obtain ⟨A1, c1, e1⟩ := ho1.shape
      obtain ⟨n1, hn1⟩ : ∃ n, ([] : List UInt8).length = n := ⟨_, rfl⟩
      clear ho1 hb1 e1 hn1
      go_wp2
      go_loopw [27, 6] (fun iv sv wr => ∃ i : Nat, i ≤ ls.length ∧ iv = .int .i64 (i : Int) ∧ Own wr w.heap.size sv (ls.take i).flatten ∧ Below w.heap.size w wr) (fun iv _ _ => ls.length - (intOf iv).toNat)
      case atStart => exact ⟨0, Nat.zero_le _, rfl, by rw [List.take_zero]; exact HO1.out, HB1.out⟩
      case round =>
        obtain ⟨i, hi, rfl, ho, hb⟩ := hrel
        rename_i sv _
        have HO := Lib.hid ho
        have HB := Lib.hid hb
        clear ho hb
        by_cases h1 : i < ls.length
        · have h1' : (i : Int) < (ls.length : Int) := by omega
          obtain ⟨b, off, rfl, hlt, hcell⟩ := Hcs.out (by intro h; subst h; simp at h1)
          obtain ⟨u, hu, hbs⟩ := hcell i _ (List.getElem?_eq_getElem h1)
          obtain ⟨piece, hpiece⟩ : ∃ piece, ls[i] = piece := ⟨_, rfl⟩
          have hpi : ls[i]? = some piece := by rw [← hpiece]; exact List.getElem?_eq_getElem h1
          rw [hpiece] at hbs
          have Hbs := Lib.hid (hbs.below HB.out)
          obtain ⟨A2, c2, rfl, _, _⟩ := hbs
          have Hcat := Lib.hid (HpL.out i piece hpi)
          have hlen : (ls.take i).flatten.length + piece.length ≤ 1000000 := by rw [← List.length_append, ← Hcat.out]; exact HfL.out _
          have Hlen := Lib.hid hlen
          have hu' := (HB.out.cell (p := ⟨b, off + i, none⟩) hlt).trans hu
          have HSz := Lib.hid HB.out.size
          clear hcell hpi hpiece hlen hu
          go_wp2_with (first
            | (at_builtin; refine wpList_app_bytes _ rfl (.tmp 31) (.tmp 32) rfl rfl HO.out rfl Hbs.out (by have := Hlen.out; omega) HSz.out ?_
               intro v2 w2 ho2 hg2 _
               have HO2 := Lib.hid ho2
               have HB2 := Lib.hid (HB.out.grown hg2 HSz.out (fun k hk => (HO.out.block_ge hk).1))
               clear ho2 hg2)
            | fail)
          go_roundw
          case rel => exact ⟨i + 1, h1, by simp, by rw [Hcat.out]; exact HO2.out, HB2.out⟩
          case measure => simp [intOf]; omega
        · have h1' : ¬ (i : Int) < (ls.length : Int) := by omega
          have : i = ls.length := by omega
          subst this
          have ho := HO.out
          rw [List.take_length] at ho
          have HX := Lib.hid ho.bs
          clear ho
          go_wp2
          go_ret
          exact ⟨_, rfl, HX.out, HB.out⟩
end Go.Proofs.YtmfpjdbgdmmjkaaDoor.Shk
namespace Go.Proofs.YtmfpjdbgdmmjkaaDoor
open Go.RowKit
set_option maxRecDepth 8000 in
set_option maxHeartbeats 1000000 in
theorem Extract_any (v sv : Value) (key sec : List UInt8) (w : World) (ht : Tab w) (hk : Bs w w.heap.size v key) (hkl : key.length ≤ 1000000000) (hs : Bs w w.heap.size sv sec) (hsl : sec.length ≤ 1000000000) :
    Calls Tryd.prog 17 #[v, sv] w fun e w' => e = .returned (arr8 (Sha.mac key sec)) ∧ Below w.heap.size w w' := by
  have hr0 : Row (w.alloc (.cells ((List.replicate 32 (0 : UInt8)).map bv).toArray 24)) w.heap.size ((List.replicate 32 (0 : UInt8)).map bv) 24 := Row.new rfl rfl
  have hb0 := (Below.refl w.heap.size w).alloc (Nat.le_refl _) (.cells ((List.replicate 32 (0 : UInt8)).map bv).toArray 24)
  have hk0 := (hk.alloc (Nat.le_refl _) (.cells ((List.replicate 32 (0 : UInt8)).map bv).toArray 24)).more (B' := (w.alloc (.cells ((List.replicate 32 (0 : UInt8)).map bv).toArray 24)).heap.size) (by simp)
  have hs0 := (hs.alloc (Nat.le_refl _) (.cells ((List.replicate 32 (0 : UInt8)).map bv).toArray 24)).more (B' := (w.alloc (.cells ((List.replicate 32 (0 : UInt8)).map bv).toArray 24)).heap.size) (by simp)
  obtain ⟨W, hW⟩ : ∃ W, w.alloc (.cells ((List.replicate 32 (0 : UInt8)).map bv).toArray 24) = W := ⟨_, rfl⟩
  rw [hW] at hr0 hb0 hk0 hs0
  obtain ⟨A1, c1, rfl, _, _⟩ := hk
  obtain ⟨A2, c2, rfl, _, _⟩ := hs
  have hss := bss_new (n := 1) (ls := [sec]) (vs := [.slice A2 sec.length c2]) (w := W) rfl rfl (.one hs0)
  have hb1 := (Below.refl W.heap.size W).alloc (Nat.le_refl _) (.cells #[.slice A2 sec.length c2] 23)
  have htab : Tab (W.alloc (.cells #[.slice A2 sec.length c2] 23)) := (ht.below hb0 ht.1).below hb1 (by have := ht.1; have := hb0.size; omega)
  have hk1 := (hk0.alloc (Nat.le_refl _) (.cells #[.slice A2 sec.length c2] 23)).more (B' := (W.alloc (.cells #[.slice A2 sec.length c2] 23)).heap.size) (by simp)
  have hmac := Mac_any _ _ key [sec] _ htab hk1 hkl hss (by simp) (by intro l hl; simp at hl; subst hl; exact hsl) (by simp; omega)
  rw [show [sec].flatten = sec by simp] at hmac
  have hWa : (w.alloc (.cells ((List.replicate 32 (0 : UInt8)).map bv).toArray 24)).alloc (.cells #[.slice A2 sec.length c2] 23) = W.alloc (.cells #[.slice A2 sec.length c2] 23) := by rw [hW]
  have hszW : w.heap.size + 1 = W.heap.size := by rw [← hW]; simp
  rw [← hszW] at hmac
  obtain ⟨O, hO⟩ : ∃ O, Sha.mac key sec = O := ⟨_, rfl⟩
  have hOl : O.length = 32 := by rw [← hO]; exact Sha.sum_length _
  rw [hO] at hmac ⊢
  have HOm := Lib.hid (show (O.map bv).length = 32 by rw [List.length_map]; exact hOl)
  have Hmac := Lib.hid hmac
  have HWa := Lib.hid hWa
  have HR := Lib.hid (hr0.alloc (.cells #[.slice A2 sec.length c2] 23))
  have HB := Lib.hid (nextB hb0 (Nat.le_refl _) hb1)
  clear hr0 hb0 hk0 hs0 hW hss hb1 htab hk1 hmac hWa hszW hO hOl ht hkl hsl
  go_enter Tryd.func17, Tryd.ntmps17
  go_wp2_with fail
  refine calls_in HWa.out ?_
  refine Hmac.out.mono ?_
  rintro e w1 ⟨rfl, hb2⟩
  have HB2 := Lib.hid (nextB HB.out (Nat.le_refl _) hb2)
  have hr9 := Lib.hid (HR.out.below hb2 HR.out.lt)
  clear hb2
  unfold arr8
  go_wp2_with (first
    | (show wpList _ _ _ (⟨none, Op.store 24 _ _, _, _, _, _⟩ :: _) _ _; refine wpList_storeRow (g := w.heap.size) rfl 24 _ _ rfl rfl rfl (cs := O.map bv) hr9.out (by kernel_rfl) HOm.out (by simp) (hbytes_one O) ?_)
    | fail)
  refine bodyPost_ret (results_row rfl _ rfl (hr9.out.setRow (O.map bv)) Tryd.underlying24 rfl (by kernel_rfl) HOm.out) rfl ?_
  exact ⟨rfl, below_setRow HB2.out (Nat.le_refl _) _⟩
end Go.Proofs.YtmfpjdbgdmmjkaaDoor
namespace Go.Proofs.YtmfpjdbgdmmjkaaDoor
open Go.RowKit
namespace Hk
/-- The i-th piece, from 1 on; the 0th is empty. -/
def tN (key info : List UInt8) : Nat → List UInt8
  | 0 => []
  | i + 1 => Sha.mac key [tN key info i, info, [UInt8.ofNat (i + 1)]].flatten
def catN (key info : List UInt8) : Nat → List UInt8
  | 0 => []
  | i + 1 => catN key info i ++ tN key info (i + 1)
theorem tN_length (key info : List UInt8) (i : Nat) : (tN key info (i + 1)).length = 32 := Sha.sum_length _
theorem tN_le (key info : List UInt8) (i : Nat) : (tN key info i).length ≤ 32 := by
  cases i with
  | zero => simp [tN]
  | succ i => exact Nat.le_of_eq (tN_length _ _ _)
theorem catN_length (key info : List UInt8) (i : Nat) : (catN key info i).length = 32 * i := by
  induction i with
  | zero => rfl
  | succ i ih => rw [catN, List.length_append, ih, tN_length]; omega
/-- What stands in the answer's block when i pieces have been copied. -/
def outN (key info : List UInt8) (n i : Nat) : List UInt8 := (catN key info i).take n ++ List.replicate (n - 32 * i) 0
theorem outN_length (key info : List UInt8) (n i : Nat) : (outN key info n i).length = n := by
  rw [outN, List.length_append, List.length_take, catN_length, List.length_replicate]
  omega
/-- All n bytes. -/
def outL (key info : List UInt8) (n : Nat) : List UInt8 := (catN key info ((n + 31) / 32)).take n
theorem outN_end (key info : List UInt8) (n i : Nat) (h1 : n ≤ 32 * i) (h2 : 32 * i ≤ n + 31) : outN key info n i = outL key info n := by
  have : i = (n + 31) / 32 := by omega
  subst this
  rw [outN, outL, Nat.sub_eq_zero_of_le h1]
  simp
theorem outN_step (key info : List UInt8) (n i : Nat) (h : 32 * i < n) :
    splice ((outN key info n i).map bv) (32 * i) (((tN key info (i + 1)).take (n - 32 * i)).map bv) = (outN key info n (i + 1)).map bv := by
  have hc := catN_length key info i
  have ht := tN_length key info i
  have e1 : (catN key info i).take n = catN key info i := List.take_of_length_le (by omega)
  have e2 : (catN key info (i + 1)).take n = catN key info i ++ (tN key info (i + 1)).take (n - 32 * i) := by
    rw [catN, List.take_append, hc, e1]
  unfold splice
  rw [outN, outN, e1, e2, ← List.map_take, ← List.map_drop, ← List.map_append, ← List.map_append, List.take_append_of_le_length (by omega), List.take_of_length_le (by omega), List.drop_append, List.drop_of_length_le (by omega), List.nil_append, List.drop_replicate, List.length_map, List.length_take, hc, ht]
  rw [show n - 32 * i - (32 * i + min (n - 32 * i) 32 - 32 * i) = n - 32 * (i + 1) by omega]
  simp
end Hk
set_option maxRecDepth 8000 in
set_option maxHeartbeats 1000000 in
theorem Expand_long (key : List UInt8) (A : Option Addr) (m c : Nat) (z : Int) (h : (8160 : Int) < z) (w : World) :
    Calls Tryd.prog 16 #[arr8 key, .slice A m c, .int .i64 z] w fun e w' => e = .returned (.tuple #[.slice none 0 0, .int .i64 3]) ∧ Below w.heap.size w w' := by
  unfold arr8
  go_enter Tryd.func16, Tryd.ntmps16
  go_wp2
  go_ret2
  exact ⟨rfl, (Below.refl _ w).alloc (Nat.le_refl _) _⟩
set_option maxRecDepth 8000 in
set_option maxHeartbeats 2000000 in
theorem Expand_ok (v : Value) (key info : List UInt8) (z : Int) (n : Nat) (hz : (z ≤ 0 ∧ n = 0) ∨ z = (n : Int)) (hn : n ≤ 8160) (hk : key.length = 32) (w : World) (ht : Tab w) (hi : Bs w w.heap.size v info) (hil : info.length ≤ 1000000000) :
    Calls Tryd.prog 16 #[arr8 key, v, .int .i64 z] w fun e w' => ∃ g, e = .returned (.tuple #[.slice (some ⟨g, 0, none⟩) n n, .int .i64 0]) ∧ w.heap.size ≤ g ∧ Row w' g ((Hk.outL key info n).map bv) 5 ∧ Below w.heap.size w w' := by
  have hr0 : Row (w.alloc (.cells (key.map bv).toArray 24)) w.heap.size (key.map bv) 24 := Row.new (by simp) rfl
  have hb0 := (Below.refl w.heap.size w).alloc (Nat.le_refl _) (.cells (key.map bv).toArray 24)
  have hi0 := (hi.alloc (Nat.le_refl _) (.cells (key.map bv).toArray 24)).more (B' := (w.alloc (.cells (key.map bv).toArray 24)).heap.size) (by simp)
  have ht0 := ht.below hb0 ht.1
  obtain ⟨W0, hW0⟩ : ∃ W0, w.alloc (.cells (key.map bv).toArray 24) = W0 := ⟨_, rfl⟩
  rw [hW0] at hr0 hb0 hi0 ht0
  have HI := Lib.hid hi
  obtain ⟨A, c, rfl, _, hxx⟩ := hi
  clear hxx
  have hz81 : ¬ (8160 : Int) < z := by omega
  have hmx : (if z < (0 : Int) then (0 : Int) else z) = (n : Int) := by
    by_cases h : z < 0
    · rw [if_pos h]; omega
    · rw [if_neg h]; omega
  have HW0 := Lib.hid hW0
  have HR0 := Lib.hid hr0
  have HB0 := Lib.hid hb0
  have HI0 := Lib.hid hi0
  have HT0 := Lib.hid ht0
  have Hn := Lib.hid hn
  have Hkl := Lib.hid hk
  have Hil := Lib.hid hil
  have HT := Lib.hid ht
  clear hW0 hr0 hb0 hi0 ht0 hn hk hil ht hz
  unfold arr8
  go_enter Tryd.func16, Tryd.ntmps16
  go_wp2_with (first
    | (at_make; refine wpList_in HW0.out ?_; refine wpList_make_bytes _ rfl _ _ rfl n rfl rfl (by have := Hn.out; omega) ?_; intro w4 hrow4 hg4
       have hb34 : Below W0.heap.size W0 w4 := (Below.refl W0.heap.size W0).grown hg4 (Nat.le_refl _) (fun k hk => by cases hk)
       have HB4 := Lib.hid (nextB HB0.out (Nat.le_refl _) hb34)
       have HR4 := Lib.hid (HR0.out.below hb34 HR0.out.lt)
       have HI4 := Lib.hid ((HI0.out.below hb34).more hb34.size)
       have HO4 := Lib.hid hrow4
       clear hrow4 hg4 hb34)
    | fail)
  have hgo : ∀ (k : Nat), 32 * k ≤ n + 31 → k ≤ 255 := by have := Hn.out; omega
  have Hgo := Lib.hid hgo
  have HszW := Lib.hid (show W0.heap.size = w.heap.size + 1 by rw [← HW0.out]; simp)
  clear hgo hmx hz81
  go_loopw [9, 10] (fun lv iv wr => ∃ i p : Nat, p = 32 * i ∧ 32 * i ≤ n + 31 ∧ iv = .int .i64 (p : Int) ∧ Bs wr wr.heap.size lv (Hk.tN key info i) ∧ Row wr W0.heap.size ((Hk.outN key info n i).map bv) 5 ∧ Row wr w.heap.size (key.map bv) 24 ∧ Below w.heap.size w wr) (fun _ iv _ => n + 31 - (intOf iv).toNat)
  case atStart =>
    refine ⟨0, 0, rfl, by omega, rfl, ?_, ?_, HR4.out, HB4.out⟩
    · exact ⟨none, 0, rfl, Nat.le_refl _, fun h => absurd rfl h⟩
    · have h := HO4.out
      simpa [Hk.outN, Hk.catN] using h
  case round =>
    obtain ⟨i, p, hp, hpn, rfl, hlv, hro, hrk, hb⟩ := hrel
    have Hp := Lib.hid hp
    have Hpn := Lib.hid hpn
    have Hlv := Lib.hid hlv
    have Hro := Lib.hid hro
    have Hrk := Lib.hid hrk
    have Hb := Lib.hid hb
    clear hp hpn hrk hro hb
    by_cases hlt : p < n
    · have hlt' : (p : Int) < (n : Int) := by omega
      obtain ⟨A3, c3, rfl, hlc, hx3⟩ := hlv
      clear hx3 hlc
      have hi255 : i + 1 ≤ 255 := Hgo.out (i + 1) (by have := Hp.out; omega)
      have hpi := Hp.out
      have hq : (p : Int) / 32 = (i : Int) := by omega
      have hq2 : (p : Int).tdiv 32 = (i : Int) := by rw [Int.tdiv_eq_ediv_of_nonneg (by omega)]; omega
      have hw1 : IntKind.i64.wrap ((i : Int) + 1) = (i : Int) + 1 := IntWalk.i64_in _ (by omega)
      have hw8 : IntKind.u8.wrap ((i : Int) + 1) = (i : Int) + 1 := IntWalk.u8_in _ (by omega)
      have hib : (i : Int) ≤ 254 := by omega
      obtain ⟨x, hx⟩ : ∃ x : UInt8, UInt8.ofNat (i + 1) = x := ⟨_, rfl⟩
      have hbx : Value.int .u8 ((i : Int) + 1) = bv x := by
        rw [← hx]
        unfold bv
        rw [UInt8.toNat_ofNat']
        congr 1
        omega
      obtain ⟨W1, hW1⟩ : ∃ W1, wr.alloc (.cells #[.int .u8 ((i : Int) + 1)] 5) = W1 := ⟨_, rfl⟩
      have hb1 : Below wr.heap.size wr W1 := hW1 ▸ (Below.refl _ _).alloc (Nat.le_refl _) _
      have hrx : Row W1 wr.heap.size ([x].map bv) 5 := by rw [← hW1, hbx]; exact Row.new rfl rfl
      have hbsx : Bs W1 W1.heap.size (.slice (some ⟨wr.heap.size, 0, none⟩) 1 1) [x] := hrx.bs hrx.lt
      have hl1 := (Hlv.out.below hb1).more hb1.size
      have hi1 := (HI.out.below (nextB Hb.out (Nat.le_refl _) hb1)).more (nextB Hb.out (Nat.le_refl _) hb1).size
      have hss := bss_new (n := 3) (ls := [Hk.tN key info i, info, [x]]) (vs := [.slice A3 (Hk.tN key info i).length c3, .slice A info.length c, .slice (some ⟨wr.heap.size, 0, none⟩) 1 1]) (w := W1) rfl rfl (Reads.append (.one hl1) (Reads.append (.one hi1) (.one hbsx)))
      have hb2 := (Below.refl W1.heap.size W1).alloc (Nat.le_refl _) (.cells #[.slice A3 (Hk.tN key info i).length c3, .slice A info.length c, .slice (some ⟨wr.heap.size, 0, none⟩) 1 1] 23)
      have hbr2 := nextB hb1 (Nat.le_refl _) hb2
      have hbb2 := nextB Hb.out (Nat.le_refl _) hbr2
      have hks : Bs wr wr.heap.size (.slice (some ⟨w.heap.size, 0, none⟩) 32 32) key := by
        have h1 := Hrk.out.bs (B := wr.heap.size) Hrk.out.lt
        rwa [Hkl.out] at h1
      have hmac := Mac_any _ _ key [Hk.tN key info i, info, [x]] _ (HT.out.below hbb2 HT.out.1) ((hks.below hbr2).more hbr2.size) (by rw [Hkl.out]; omega) hss (by simp) (by
        intro l hl
        simp only [List.mem_cons, List.not_mem_nil, or_false] at hl
        rcases hl with rfl | rfl | rfl
        · exact Nat.le_trans (Hk.tN_le _ _ _) (by omega)
        · exact Hil.out
        · simp) (by
        have h1 := Hk.tN_le key info i
        have h2 := Hil.out
        simp
        omega)
      obtain ⟨T, hT⟩ : ∃ T, Hk.tN key info (i + 1) = T := ⟨_, rfl⟩
      have hTl : T.length = 32 := by rw [← hT]; exact Hk.tN_length _ _ _
      rw [show Sha.mac key [Hk.tN key info i, info, [x]].flatten = T by rw [← hT, ← hx]; rfl] at hmac
      have hWa : (wr.alloc (.cells #[.int .u8 ((i : Int) + 1)] 5)).alloc (.cells #[.slice A3 (Hk.tN key info i).length c3, .slice A info.length c, .slice (some ⟨wr.heap.size, 0, none⟩) 1 1] 23) = W1.alloc (.cells #[.slice A3 (Hk.tN key info i).length c3, .slice A info.length c, .slice (some ⟨wr.heap.size, 0, none⟩) 1 1] 23) := by rw [hW1]
      have hszW : wr.heap.size + 1 = W1.heap.size := by rw [← hW1]; simp
      rw [← hszW] at hmac
      have HWa := Lib.hid hWa
      have Hmac := Lib.hid hmac
      have HT1 := Lib.hid hT
      have HTl := Lib.hid hTl
      have HTm := Lib.hid (show (T.map bv).length = 32 by rw [List.length_map]; exact hTl)
      have Hbr2 := Lib.hid hbr2
      have HLen := Lib.hid (show ((T.take (n - p)).map bv).length = Nat.min 32 (n - p) by rw [List.length_map, List.length_take, hTl]; exact Nat.min_comm _ _)
      have HFit := Lib.hid (show p + ((T.take (n - p)).map bv).length ≤ ((Hk.outN key info n i).map bv).length by
        rw [List.length_map, List.length_take, hTl, List.length_map, Hk.outN_length]
        omega)
      have HSrc := Lib.hid (show ∀ (V : World) (g : Nat), Row V g (T.map bv) 24 → ∀ (j : Nat) (u : Value), ((T.take (n - p)).map bv)[j]? = some u → V.cell? ((⟨g, 0, none⟩ : Addr).add j) = some u from fun V g hr j u hj => by
        rw [show (⟨g, 0, none⟩ : Addr).add j = ⟨g, 0 + j, none⟩ by unfold Addr.add; split <;> simp_all]
        rw [Nat.zero_add]
        rw [List.map_take, List.getElem?_take] at hj
        split at hj
        · exact Row.cell hr hj
        · cases hj)
      have HStep := Lib.hid (show splice ((Hk.outN key info n i).map bv) p ((T.take (n - p)).map bv) = (Hk.outN key info n (i + 1)).map bv by
        have h := Hk.outN_step key info n i (by omega)
        rw [hT, ← hpi] at h
        exact h)
      have hpb : (p : Int) ≤ 8160 := by have := Hn.out; omega
      clear hW1 hb1 hrx hbsx hl1 hi1 hss hb2 hbr2 hbb2 hks hmac hT hTl hWa hszW hx hbx hpi hi255
      go_wp2_with fail
      refine calls_in HWa.out ?_
      refine Hmac.out.mono ?_
      rintro e w5 ⟨rfl, hb5⟩
      have hb55 := nextB Hbr2.out (Nat.le_refl _) hb5
      have Hb55 := Lib.hid hb55
      have HB5 := Lib.hid (nextB Hb.out (Nat.le_refl _) hb55)
      have Hro5 := Lib.hid (Hro.out.below hb55 Hro.out.lt)
      have Hrk5 := Lib.hid (Hrk.out.below hb55 Hrk.out.lt)
      clear hb5 hb55
      unfold arr8
      go_wp2_with (first
        | (show wpList _ _ _ (⟨none, Op.store 24 _ _, _, _, _, _⟩ :: _) _ _; refine wpList_storeRow (g := w5.heap.size) rfl 24 _ _ rfl rfl rfl (cs := T.map bv) (old := (List.replicate 32 (0 : UInt8)).map bv) (Row.new rfl rfl) (by kernel_rfl) HTm.out (by simp) (hbytes_one T) ?_
           have hr3 : Row ((w5.alloc (.cells ((List.replicate 32 (0 : UInt8)).map bv).toArray 24)).setRow w5.heap.size (T.map bv).toArray) w5.heap.size (T.map bv) 24 := (Row.new (cs := (List.replicate 32 (0 : UInt8)).map bv) rfl rfl).setRow (T.map bv)
           have hb3 : Below w5.heap.size w5 ((w5.alloc (.cells ((List.replicate 32 (0 : UInt8)).map bv).toArray 24)).setRow w5.heap.size (T.map bv).toArray) := below_setRow ((Below.refl w5.heap.size w5).alloc (Nat.le_refl _) _) (Nat.le_refl _) _
           obtain ⟨V3, hV3⟩ : ∃ V3, (w5.alloc (.cells ((List.replicate 32 (0 : UInt8)).map bv).toArray 24)).setRow w5.heap.size (T.map bv).toArray = V3 := ⟨_, rfl⟩
           refine wpList_in hV3 ?_
           rw [hV3] at hr3 hb3
           have Hr3 := Lib.hid hr3
           have HB3 := Lib.hid (nextB HB5.out (Nat.le_refl _) hb3)
           have Hro3 := Lib.hid (Hro5.out.below hb3 Hro5.out.lt)
           have Hrk3 := Lib.hid (Hrk5.out.below hb3 Hrk5.out.lt)
           clear hr3 hb3 hV3)
        | (show wpList _ _ _ (⟨some 38, _, _, _, _, _⟩ :: _) _ _
           refine wpList_copy_keep rfl (.tmp 36) (.tmp 37) 23 23 rfl 5 (by kernel_rfl) (by kernel_rfl) rfl rfl (w := V3) Hro3.out ((T.take (n - p)).map bv) HLen.out (HSrc.out V3 w5.heap.size Hr3.out) HFit.out (hbytes_one _) ?_
           intro W6 hc6 hk6
           have hszl := HszW.out
           have h5l := Hro5.out.lt
           have h3l := Hro3.out.lt
           have HR6 := Lib.hid (Row.keep (w := V3) Hr3.out hk6 (by omega))
           have Hrk6 := Lib.hid (Row.keep (w := V3) Hrk3.out hk6 (by omega))
           have HB6 := Lib.hid (Below.keep (w := V3) HB3.out hk6 (by omega) (by omega))
           have Hro6 := Lib.hid (show Row W6 W0.heap.size ((Hk.outN key info n (i + 1)).map bv) 5 from HStep.out ▸ hc6)
           clear hc6 hk6 hszl h5l h3l)
        | fail)
      go_roundw
      case rel =>
        refine ⟨i + 1, p + 32, by have := Hp.out; omega, by have := Hp.out; omega, by simp, ?_, Hro6.out, Hrk6.out, HB6.out⟩
        rw [HT1.out]
        have h1 := HR6.out.bs (B := W6.heap.size) HR6.out.lt
        rwa [HTl.out] at h1
      case measure => simp [intOf]; omega
    · have hlt' : ¬ (p : Int) < (n : Int) := by omega
      clear hlv
      go_wp2
      go_ret2
      refine ⟨_, rfl, by have := HszW.out; omega, ?_, Hb.out⟩
      have h := Hro.out
      rwa [Hk.outN_end key info n i (by have := Hp.out; omega) Hpn.out] at h
end Go.Proofs.YtmfpjdbgdmmjkaaDoor
