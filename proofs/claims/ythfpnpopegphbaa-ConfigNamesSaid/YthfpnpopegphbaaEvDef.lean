/- A small evaluator of the model's operations over a heap of its own; nothing is proved here. -/
import Derived.Calls
import Derived.Orders
import Derived.Below
namespace Go.Proofs.Ythfpnpopegphbaa
namespace Ev

inductive Tr (α : Type) where
  | lf
  | nd (l : Tr α) (v : Option α) (r : Tr α)

namespace Tr
variable {α : Type}
def get : Tr α → Nat → Option α
  | lf, _ => none
  | nd l v r, n => if n = 0 then v else if n % 2 = 1 then l.get (n / 2) else r.get (n / 2 - 1)
def set : Nat → Tr α → Nat → α → Tr α
  | 0, t, _, _ => t
  | f + 1, lf, n, x => if n = 0 then nd lf (some x) lf else if n % 2 = 1 then nd (set f lf (n / 2) x) none lf else nd lf none (set f lf (n / 2 - 1) x)
  | f + 1, nd l v r, n, x => if n = 0 then nd l (some x) r else if n % 2 = 1 then nd (set f l (n / 2) x) v r else nd l v (set f r (n / 2 - 1) x)
def put (t : Tr α) (n : Nat) (x : α) : Option (Tr α) := if n < 1000000 then some (set 32 t n x) else none

theorem get_set (f : Nat) : ∀ (t : Tr α) (n : Nat) (x : α) (m : Nat), n + 2 ≤ 2 ^ f → (set f t n x).get m = if m = n then some x else t.get m := by
  induction f with
  | zero => intro t n x m h; simp at h
  | succ f ih =>
    intro t n x m h
    have h1 : n % 2 = 1 → n / 2 + 2 ≤ 2 ^ f := by intro h1; rw [Nat.pow_succ] at h; omega
    have h2 : n % 2 ≠ 1 → n ≠ 0 → n / 2 - 1 + 2 ≤ 2 ^ f := by intro h1 h0; rw [Nat.pow_succ] at h; omega
    cases t with
    | lf =>
      simp only [set]
      by_cases h0 : n = 0
      · subst h0; simp only [if_true, get]
        by_cases hm : m = 0 <;> simp [hm]
      · by_cases ho : n % 2 = 1
        · simp only [h0, ho, if_true, if_false, get]
          by_cases hm : m = 0
          · subst hm; simp; omega
          · by_cases hmo : m % 2 = 1
            · simp only [hm, hmo, if_true, if_false, ih _ _ _ _ (h1 ho), get]
              by_cases e : m = n
              · simp [e]
              · rw [if_neg (by omega), if_neg e]
            · simp only [hm, hmo, if_false]
              rw [if_neg (by rintro rfl; omega)]
        · simp only [h0, ho, if_false, get]
          by_cases hm : m = 0
          · subst hm; simp; omega
          · by_cases hmo : m % 2 = 1
            · simp only [hm, hmo, if_true, if_false]
              rw [if_neg (by rintro rfl; omega)]
            · simp only [hm, hmo, if_false, ih _ _ _ _ (h2 ho h0), get]
              by_cases e : m = n
              · simp [e]
              · rw [if_neg (by omega), if_neg e]
    | nd l v r =>
      simp only [set]
      by_cases h0 : n = 0
      · subst h0; simp only [if_true, get]
        by_cases hm : m = 0 <;> simp [hm]
      · by_cases ho : n % 2 = 1
        · simp only [h0, ho, if_true, if_false, get]
          by_cases hm : m = 0
          · subst hm; simp; omega
          · by_cases hmo : m % 2 = 1
            · simp only [hm, hmo, if_true, if_false, ih _ _ _ _ (h1 ho)]
              by_cases e : m = n
              · simp [e]
              · rw [if_neg (by omega), if_neg e]
            · simp only [hm, hmo, if_false]
              rw [if_neg (by rintro rfl; omega)]
        · simp only [h0, ho, if_false, get]
          by_cases hm : m = 0
          · subst hm; simp; omega
          · by_cases hmo : m % 2 = 1
            · simp only [hm, hmo, if_true, if_false]
              rw [if_neg (by rintro rfl; omega)]
            · simp only [hm, hmo, if_false, ih _ _ _ _ (h2 ho h0)]
              by_cases e : m = n
              · simp [e]
              · rw [if_neg (by omega), if_neg e]
theorem get_put {t t' : Tr α} {n : Nat} {x : α} (h : t.put n x = some t') (m : Nat) : t'.get m = if m = n then some x else t.get m := by
  unfold put at h
  split at h
  · injection h with h; subst h; exact get_set 32 t n x m (by omega)
  · cases h
theorem get_lf (n : Nat) : (lf : Tr α).get n = none := rfl
end Tr

/-- A block: its cells, its elements' type, its kind: 0 just so, 1 with more cells behind them than are known, 2 not to be used any more, 3 cells of the caller's that are only read. -/
structure Blk where
  cells : List Value
  elem : TypeId
  kind : Nat

/-- Memory; when each block was written last, and the time. -/
structure AW where
  heap : Tr Blk
  next : Nat
  last : Tr Nat
  clock : Nat
def AW.empty : AW := ⟨.lf, 0, .lf, 0⟩

def AW.new (w : AW) (b : Blk) : Option AW :=
  match w.heap.put w.next b, w.last.put w.next w.clock with
  | some h, some l => some ⟨h, w.next + 1, l, w.clock + 1⟩
  | _, _ => none

def AW.upd (w : AW) (i : Nat) (b : Blk) : Option AW :=
  match w.heap.put i b, w.last.put i w.clock with
  | some h, some l => some ⟨h, w.next, l, w.clock + 1⟩
  | _, _ => none

/-- A map is a block of kind 2 whose cells begin with this mark (a value that no cell has); behind it lies a pair for each entry. -/
def mapMark : Value := .chan (some 7)
def AW.mapOf (w : AW) (r : Nat) : Option (List Value) :=
  match w.heap.get r with
  | some b => match b.kind, b.cells with
    | 2, .chan (some 7) :: l => some l
    | _, _ => none
  | none => none

def AW.cell (w : AW) (a : Addr) : Option Value :=
  match a.spot, w.heap.get a.block with
  | none, some b => if b.kind ≠ 2 then b.cells[a.off]? else none
  | _, _ => none

def AW.setCell (w : AW) (a : Addr) (v : Value) : Option AW :=
  match a.spot, w.heap.get a.block with
  | none, some b => if b.kind < 2 ∧ a.off < b.cells.length then w.upd a.block { b with cells := b.cells.set a.off v } else none
  | _, _ => none

def atom : Value → Bool
  | .bool _ | .int _ _ | .float _ _ | .complex _ _ _ | .string _ | .pointer none | .nilIface | .nilFunc | .map none | .chan none | .slice none 0 0 => true
  | _ => false
def flat : Value → Bool
  | .agg cs => cs.toList.all atom
  | .tuple cs => cs.toList.all atom
  | v => atom v

/-- The operations' meaning, where it neither reads nor writes memory. -/
def pureRun {α : Type} (P : Program) : Sem α → Option α
  | .pure a => some a
  | .program k => pureRun P (k P)
  | .mark _ k => pureRun P k
  | _ => none

def arun {α : Type} (P : Program) : Sem α → AW → Option (α × AW)
  | .pure a, w => some (a, w)
  | .load _ a k, w =>
    match w.cell a with
    | some v => arun P (k v) w
    | none => none
  | .store _ a v k, w =>
    match v with
    | .agg _ | .tuple _ => none
    | v => match w.setCell a v with
      | some w' => arun P k w'
      | none => none
  | .new o k, w =>
    match o with
    | .cells c e fz => if fz.1 = fz.2 then match w.new ⟨c.toList, e, 0⟩ with
      | some w' => arun P (k w.next) w'
      | none => none
      else none
    | _ => none
  | .shape r k, w =>
    match w.heap.get r with
    | some b => if b.kind = 0 then arun P (k (some (b.elem, b.cells.length))) w else none
    | none => none
  | .freeze a _ k, w =>
    match a.spot, w.heap.get a.block with
    | none, some b => if b.kind = 0 ∧ b.cells.length ≤ a.off then arun P k w else none
    | _, _ => none
  | .choose q k, w => if q.forced then arun P (k 0) w else none
  | .program k, w => arun P (k P) w
  | .mark _ k, w => arun P k w
  | _, _ => none

def eval (s : Tr Value) : Operand → Value
  | .tmp t => (s.get t).getD undef
  | .const v => v
  | .global _ => .chan (some 0)
  | .func f => .func (.func f) #[] #[]

end Ev
end Go.Proofs.Ythfpnpopegphbaa
