/- Texts that the proofs share: EvRun, EvRel, EvSim, EvPure, EvMemB, EvApp, Mem, EvOp, EvSeq. -/
import Derived.Calls
import Derived.Orders
import Derived.Below
import Derived.Laws.Sem
import Derived.Laws.Rows
import Derived.Laws.Entries
import Derived.MapKept
import Derived.Laws.AppendOwn
import Derived.Laws.BytesString
import Derived.WalkKit
import Derived.Maps.AppendAt
import Derived.KernelRfl
import Derived.Deep.Draws
import Derived.Test.YtmfpjdbgdmmjkaaDoorProg
namespace Go.Proofs.YtmfpjdbgdmmjkaaDoor
namespace Ev

inductive Tr (α : Type) where
  | lf
  | nd (l : Tr α) (v : Option α) (r : Tr α)

namespace Tr
variable {α : Type}
def get : Tr α → Nat → Option α
  | lf, _ => none
  | nd l v r, n => if n = 0 then v else if n % 2 = 1 then l.get (n / 2) else r.get (n / 2 - 1)
def set : Nat → Tr α → Nat → α → Tr α
  | 0, t, _, _ => t
  | f + 1, lf, n, x => if n = 0 then nd lf (some x) lf else if n % 2 = 1 then nd (set f lf (n / 2) x) none lf else nd lf none (set f lf (n / 2 - 1) x)
  | f + 1, nd l v r, n, x => if n = 0 then nd l (some x) r else if n % 2 = 1 then nd (set f l (n / 2) x) v r else nd l v (set f r (n / 2 - 1) x)
def put (t : Tr α) (n : Nat) (x : α) : Option (Tr α) := if n < 1000000 then some (set 32 t n x) else none

theorem get_set (f : Nat) : ∀ (t : Tr α) (n : Nat) (x : α) (m : Nat), n + 2 ≤ 2 ^ f → (set f t n x).get m = if m = n then some x else t.get m := by
  induction f with
  | zero => intro t n x m h; simp at h
  | succ f ih =>
    intro t n x m h
    have h1 : n % 2 = 1 → n / 2 + 2 ≤ 2 ^ f := by intro h1; rw [Nat.pow_succ] at h; omega
    have h2 : n % 2 ≠ 1 → n ≠ 0 → n / 2 - 1 + 2 ≤ 2 ^ f := by intro h1 h0; rw [Nat.pow_succ] at h; omega
    cases t with
    | lf =>
      simp only [set]
      by_cases h0 : n = 0
      · subst h0; simp only [if_true, get]
        by_cases hm : m = 0 <;> simp [hm]
      · by_cases ho : n % 2 = 1
        · simp only [h0, ho, if_true, if_false, get]
          by_cases hm : m = 0
          · subst hm; simp; omega
          · by_cases hmo : m % 2 = 1
            · simp only [hm, hmo, if_true, if_false, ih _ _ _ _ (h1 ho), get]
              by_cases e : m = n
              · simp [e]
              · rw [if_neg (by omega), if_neg e]
            · simp only [hm, hmo, if_false]
              rw [if_neg (by rintro rfl; omega)]
        · simp only [h0, ho, if_false, get]
          by_cases hm : m = 0
          · subst hm; simp; omega
          · by_cases hmo : m % 2 = 1
            · simp only [hm, hmo, if_true, if_false]
              rw [if_neg (by rintro rfl; omega)]
            · simp only [hm, hmo, if_false, ih _ _ _ _ (h2 ho h0), get]
              by_cases e : m = n
              · simp [e]
              · rw [if_neg (by omega), if_neg e]
    | nd l v r =>
      simp only [set]
      by_cases h0 : n = 0
      · subst h0; simp only [if_true, get]
        by_cases hm : m = 0 <;> simp [hm]
      · by_cases ho : n % 2 = 1
        · simp only [h0, ho, if_true, if_false, get]
          by_cases hm : m = 0
          · subst hm; simp; omega
          · by_cases hmo : m % 2 = 1
            · simp only [hm, hmo, if_true, if_false, ih _ _ _ _ (h1 ho)]
              by_cases e : m = n
              · simp [e]
              · rw [if_neg (by omega), if_neg e]
            · simp only [hm, hmo, if_false]
              rw [if_neg (by rintro rfl; omega)]
        · simp only [h0, ho, if_false, get]
          by_cases hm : m = 0
          · subst hm; simp; omega
          · by_cases hmo : m % 2 = 1
            · simp only [hm, hmo, if_true, if_false]
              rw [if_neg (by rintro rfl; omega)]
            · simp only [hm, hmo, if_false, ih _ _ _ _ (h2 ho h0)]
              by_cases e : m = n
              · simp [e]
              · rw [if_neg (by omega), if_neg e]
theorem get_put {t t' : Tr α} {n : Nat} {x : α} (h : t.put n x = some t') (m : Nat) : t'.get m = if m = n then some x else t.get m := by
  unfold put at h
  split at h
  · injection h with h; subst h; exact get_set 32 t n x m (by omega)
  · cases h
theorem get_lf (n : Nat) : (lf : Tr α).get n = none := rfl
end Tr

/-- A block: its cells, its elements' type, its kind: 0 just so, 1 with more cells behind them than are known, 2 not to be used any more, 3 cells of the caller's that are only read. -/
structure Blk where
  cells : List Value
  elem : TypeId
  kind : Nat

/-- Memory; when each block was written last, and the time. -/
structure AW where
  heap : Tr Blk
  next : Nat
  last : Tr Nat
  clock : Nat
def AW.empty : AW := ⟨.lf, 0, .lf, 0⟩

def AW.new (w : AW) (b : Blk) : Option AW :=
  match w.heap.put w.next b, w.last.put w.next w.clock with
  | some h, some l => some ⟨h, w.next + 1, l, w.clock + 1⟩
  | _, _ => none

def AW.upd (w : AW) (i : Nat) (b : Blk) : Option AW :=
  match w.heap.put i b, w.last.put i w.clock with
  | some h, some l => some ⟨h, w.next, l, w.clock + 1⟩
  | _, _ => none

/-- A map is a block of kind 2 whose cells begin with this mark (a value that no cell has); behind it lies a pair for each entry. -/
def mapMark : Value := .chan (some 7)
def AW.mapOf (w : AW) (r : Nat) : Option (List Value) :=
  match w.heap.get r with
  | some b => match b.kind, b.cells with
    | 2, .chan (some 7) :: l => some l
    | _, _ => none
  | none => none

def AW.cell (w : AW) (a : Addr) : Option Value :=
  match a.spot, w.heap.get a.block with
  | none, some b => if b.kind ≠ 2 then b.cells[a.off]? else none
  | _, _ => none

def AW.setCell (w : AW) (a : Addr) (v : Value) : Option AW :=
  match a.spot, w.heap.get a.block with
  | none, some b => if b.kind < 2 ∧ a.off < b.cells.length then w.upd a.block { b with cells := b.cells.set a.off v } else none
  | _, _ => none

def atom : Value → Bool
  | .bool _ | .int _ _ | .float _ _ | .complex _ _ _ | .string _ | .pointer none | .nilIface | .nilFunc | .map none | .chan none | .slice none 0 0 => true
  | _ => false
def flat : Value → Bool
  | .agg cs => cs.toList.all atom
  | .tuple cs => cs.toList.all atom
  | v => atom v

/-- The operations' meaning, where it neither reads nor writes memory. -/
def pureRun {α : Type} (P : Program) : Sem α → Option α
  | .pure a => some a
  | .program k => pureRun P (k P)
  | .mark _ k => pureRun P k
  | _ => none

def arun {α : Type} (P : Program) : Sem α → AW → Option (α × AW)
  | .pure a, w => some (a, w)
  | .load _ a k, w =>
    match w.cell a with
    | some v => arun P (k v) w
    | none => none
  | .store _ a v k, w =>
    match v with
    | .agg _ | .tuple _ => none
    | v => match w.setCell a v with
      | some w' => arun P k w'
      | none => none
  | .new o k, w =>
    match o with
    | .cells c e fz => if fz.1 = fz.2 then match w.new ⟨c.toList, e, 0⟩ with
      | some w' => arun P (k w.next) w'
      | none => none
      else none
    | _ => none
  | .shape r k, w =>
    match w.heap.get r with
    | some b => if b.kind = 0 then arun P (k (some (b.elem, b.cells.length))) w else none
    | none => none
  | .freeze a _ k, w =>
    match a.spot, w.heap.get a.block with
    | none, some b => if b.kind = 0 ∧ b.cells.length ≤ a.off then arun P k w else none
    | _, _ => none
  | .choose q k, w => if q.forced then arun P (k 0) w else none
  | .program k, w => arun P (k P) w
  | .mark _ k, w => arun P k w
  | _, _ => none

def eval (s : Tr Value) : Operand → Value
  | .tmp t => (s.get t).getD undef
  | .const v => v
  | .global _ => .chan (some 0)
  | .func f => .func (.func f) #[] #[]

end Ev
end Go.Proofs.YtmfpjdbgdmmjkaaDoor
namespace Go.Proofs.YtmfpjdbgdmmjkaaDoor
namespace Ev

def okOpnd : Operand → Bool
  | .tmp _ => true
  | .const v => flat v
  | .global _ => false
  | .func _ => true

def zflat (P : Program) (t : TypeId) : Bool :=
  match P.info? t with
  | some i => match i.zero with
    | some z => flat z && z.cells.size == i.size
    | none => false
  | none => false
def elemOf (P : Program) (t : TypeId) : Option TypeId :=
  match P.underlying t with
  | some (.slice e) => some e
  | _ => none

/-- The kinds of operations that run by the model's own meaning, over memory, and are loads alone. -/
def isLoad : Op → Bool
  | .load .. => true
  | .lookup .. => true
  | .slice _ _ _ _ none => true
  | _ => false

def nilSide : Value → Bool
  | .pointer none | .nilFunc | .nilIface | .slice none 0 0 => true
  | _ => false

/-- One side nil, the other one not. -/
def nilEq (P : Program) (t : TypeId) (x y : Value) : Option Bool :=
  match P.underlying t, x, y with
  | some (.pointer _), .pointer (some _), .pointer none => some false
  | some (.pointer _), .pointer none, .pointer (some _) => some false
  | some (.slice _), .slice (some _) _ _, .slice none 0 0 => some false
  | some (.slice _), .slice none 0 0, .slice (some _) _ _ => some false
  | _, _, _ => none

/-- 'len' of a slice that is not nil. -/
def evLen (P : Program) (ρ : Operand → Value) (c : Call) : Option Value :=
  match c.callee, c.args.toList, c.argTypes.toList with
  | .builtin .len, [x], [ty] => match ρ x, P.underlying ty with
    | .slice (some _) n _, some (.slice _) => some (.int .i64 n)
    | _, _ => none
  | _, _, _ => none

/-- A part of a struct or an array. -/
def evPart (P : Program) (t : TypeId) (cs : Array Value) (off : Nat) : Option Value :=
  match P.underlying t with
  | some (.struct _) | some (.array _ _) => match P.info? t with
    | some i => some (.agg (cs.extract off (off + i.size)))
    | none => none
  | some _ => cs[off]?
  | none => none
def evField (P : Program) (ty : TypeId) (x : Value) (f : Nat) : Option Value :=
  match x, P.underlying ty with
  | .agg cs, some (.struct fs) => match fs[f]? with
    | some fd => evPart P fd.type cs fd.offset
    | none => none
  | _, _ => none

/-- Keys of maps. -/
def keyKind (P : Program) (t : TypeId) : Option TypeDesc :=
  match P.underlying t with
  | some (.int k) => some (.int k)
  | some .string => some .string
  | some .bool => some .bool
  | _ => none
def mapFind (d : TypeDesc) (k : Value) : List Value → Nat → Option (Option (Nat × Value))
  | [], _ => some none
  | e :: es, i => match e with
    | .tuple kv => match kv.toList with
      | [k', v] => match Instr.sameNow d k k' with
        | some true => some (some (i, v))
        | some false => mapFind d k es (i + 1)
        | none => none
      | _ => none
    | _ => none
def evLookup (P : Program) (w : AW) (ty : TypeId) (m k : Value) (ok : Bool) : Option Value :=
  match m, P.underlying ty with
  | .map (some r), some (.map kt et) => match keyKind P kt, w.mapOf r with
    | some d, some l => if flat k && zflat P et then match mapFind d k l 0 with
        | some (some (_, v)) => some (if ok then .tuple #[v, .bool true] else v)
        | some none => match (P.info? et).bind (·.zero) with
          | some z => some (if ok then .tuple #[z, .bool false] else z)
          | none => none
        | none => none
      else none
    | _, _ => none
  | _, _ => none

/-- Operations that don't touch memory. -/
def evPure (P : Program) (t : Tr Value) (o : Oper) : Option Value :=
  let ρ := eval t
  match o.op with
  | .move x | .assign x => some (ρ x)
  | .pick c a b => match ρ c with
    | .bool q => some (if q then ρ a else ρ b)
    | _ => none
  | .extract x i => match ρ x with
    | .tuple vs => vs[i]?
    | _ => none
  | .nilCheck x => match ρ x with
    | .pointer (some a) => some (.pointer (some a))
    | .func (.func g) first caps => some (.func (.func g) first caps)
    | _ => none
  | .makeFunc fn first caps => some (.func fn (first.map ρ) (caps.map ρ))
  | .field ty x f =>
    if flat (ρ x) then match pureRun P (execOp ρ o) with
      | some (.value v) => if flat v then some v else none
      | _ => none
    else evField P ty (ρ x) f
  | .fieldAddr s x f => match ρ x, P.underlying s with
    | .pointer (some a), some (.struct fs) => match fs[f]? with
      | some fd => if 0 < P.cellsOf fd.type then some (.pointer (some (a.add fd.offset))) else none
      | none => none
    | _, _ => none
  | .indexAddr ty x ix => match ρ ix, ρ x, P.underlying ty with
    | .int _ i, .slice (some a) n _, some (.slice e) => if 0 ≤ i ∧ i < n ∧ 0 < P.cellsOf e then some (.pointer (some (a.add (i.toNat * P.cellsOf e)))) else none
    | .int _ i, .pointer (some a), some (.array n e) => if 0 ≤ i ∧ i < n ∧ 0 < P.cellsOf e then some (.pointer (some (a.add (i.toNat * P.cellsOf e)))) else none
    | _, _, _ => none
  | .sliceToArrayPointer ty x => match ρ x, P.underlying ty with
    | .slice (some a) n _, some (.array m _) => if m ≤ n then some (.pointer (some a)) else none
    | _, _ => none
  | .call c => if o.op.operands.toList.all fun x => flat (ρ x) then match pureRun P (execOp ρ o) with
      | some (.value v) => if flat v then some v else none
      | _ => none
    else evLen P ρ c
  | .binOp op ty x y _ =>
    if flat (ρ x) && flat (ρ y) then match pureRun P (execOp ρ o) with
      | some (.value v) => if flat v then some v else none
      | _ => none
    else match op with
      | .eql => (nilEq P ty (ρ x) (ρ y)).map .bool
      | .neq => (nilEq P ty (ρ x) (ρ y)).map fun b => .bool !b
      | _ => none
  | _ =>
    if o.op.operands.toList.all fun x => flat (ρ x) then match pureRun P (execOp ρ o) with
      | some (.value v) => if flat v then some v else none
      | _ => none
    else none

/-- Which operations 'evPure' answers for (whatever it answers). -/
def isPure (t : Tr Value) : Op → Bool
  | .move _ | .assign _ | .pick .. | .extract .. | .nilCheck _ | .fieldAddr .. | .indexAddr .. | .sliceToArrayPointer .. | .binOp .. | .unOp .. | .field .. | .index .. | .makeFunc .. => true
  | .convert _ _ x => match eval t x with
    | .slice _ _ _ | .string _ => false
    | _ => true
  | .slice _ x _ _ _ => match eval t x with
    | .string _ => true
    | _ => false
  | .call c => match c.callee with
    | .builtin .len | .builtin .max | .builtin .min => true
    | _ => false
  | _ => false

/-- A bound of s[lo:hi]. -/
def boundOf (d : Int) : Option Value → Option Int
  | none => some d
  | some (.int _ i) => some i
  | some _ => none

def evSlice (P : Program) (w : AW) (t : TypeId) (x : Value) (lo hi : Option Value) : Option Value :=
  match boundOf 0 lo with
  | none => none
  | some l =>
    match x, P.underlying t with
    | .slice (some a) n c, some (.slice e) =>
      match boundOf n hi, w.heap.get a.block with
      | some h, some b => if 0 ≤ l ∧ l ≤ h ∧ h ≤ c ∧ b.kind ≠ 2 ∧ (b.kind = 0 ∨ l < c) ∧ 0 < P.cellsOf e then some (.slice (some (if c = l.toNat then a else a.add (l.toNat * P.cellsOf e))) (h.toNat - l.toNat) (c - l.toNat)) else none
      | _, _ => none
    | .slice none 0 0, some (.slice e) =>
      match boundOf 0 hi with
      | some h => if l = 0 ∧ h = 0 ∧ 0 < P.cellsOf e then some (.slice none 0 0) else none
      | none => none
    | .pointer (some a), some (.array n e) =>
      match boundOf n hi, w.heap.get a.block with
      | some h, some b => if 0 ≤ l ∧ l ≤ h ∧ h ≤ n ∧ b.kind = 0 ∧ 0 < P.cellsOf e then some (.slice (some (if n = l.toNat then a else a.add (l.toNat * P.cellsOf e))) (h.toNat - l.toNat) (n - l.toNat)) else none
      | _, _ => none
    | _, _ => none

/-- The source's cells of append and copy. -/
def srcCells (w : AW) (size : Nat) : Value → Option (Nat × List Value)
  | .slice none 0 0 => some (0, [])
  | .slice (some a) n _ =>
    match a.spot, w.heap.get a.block with
    | none, some b => if b.kind ≠ 2 ∧ a.off + n * size ≤ b.cells.length then some (n, (b.cells.drop a.off).take (n * size)) else none
    | _, _ => none
  | .string s => if size = 1 then some (s.size, s.data.toList.map fun b => .int .u8 b.toNat) else none
  | _ => none

def storeAll (w : AW) (a : Addr) : List Value → Nat → Option AW
  | [], _ => some w
  | v :: r, i => match w.setCell (a.add i) v with
    | some w' => storeAll w' a r (i + 1)
    | none => none

def notInt (P : Program) (t : TypeId) : Bool :=
  match P.underlying t with
  | some (.slice _) | some .string => true
  | _ => false

def evAppend (P : Program) (w : AW) (ty1 ty2 : TypeId) (s x : Value) : Option (Value × AW) :=
  match P.underlying ty1 with
  | some (.slice e) =>
    match P.info? e with
    | some i =>
      if zflat P e && notInt P ty2 && decide (i.bytes ≤ 100000) && decide (0 < i.size) then
        match srcCells w i.size x with
        | some (n, new) =>
          if !new.all Value.oneCell' then none else
          match s with
          | .slice none 0 0 =>
            if n = 0 then some (.slice none 0 0, w)
            else if n ≤ 1000000 then match w.new ⟨new, e, 1⟩ with
              | some w' => some (.slice (some ⟨w.next, 0, none⟩) n n, w')
              | none => none
            else none
          | .slice (some a) m c =>
            if m + n ≤ c then
              match storeAll w (a.add (m * i.size)) new 0 with
              | some w' => some (.slice (some a) (m + n) c, w')
              | none => none
            else match a.spot, w.heap.get a.block with
              | none, some b =>
                if m + n ≤ 1000000 ∧ a.off = 0 ∧ c * i.size = b.cells.length ∧ m ≤ c ∧ b.elem = e then
                  if b.kind = 0 then match w.new ⟨b.cells.take (m * i.size) ++ new, e, 1⟩ with
                    | some w' => some (.slice (some ⟨w.next, 0, none⟩) (m + n) (m + n), w')
                    | none => none
                  else if b.kind = 1 then match w.upd a.block { b with kind := 2 } with
                    | some w1 => match w1.new ⟨b.cells.take (m * i.size) ++ new, e, 1⟩ with
                      | some w' => some (.slice (some ⟨w.next, 0, none⟩) (m + n) (m + n), w')
                      | none => none
                    | none => none
                  else none
                else none
              | _, _ => none
          | _ => none
        | none => none
      else none
    | none => none
  | _ => none

def evCopy (P : Program) (w : AW) (ty1 : TypeId) (s x : Value) : Option (Value × AW) :=
  match P.underlying ty1 with
  | some (.slice e) =>
    match P.info? e with
    | some i =>
      match srcCells w i.size x with
      | some (n, new) =>
        if !new.all Value.oneCell' then none else
        match s with
        | .slice none 0 0 => some (.int .i64 0, w)
        | .slice (some a) m _ =>
          match storeAll w a (new.take (Nat.min n m * i.size)) 0 with
          | some w' => some (.int .i64 (Nat.min n m), w')
          | none => none
        | _ => none
      | none => none
    | none => none
  | _ => none

def bytesOf : List Value → ByteArray → Option ByteArray
  | [], s => some s
  | .int .u8 n :: r, s => bytesOf r (s.push (UInt8.ofNat n.toNat))
  | _ :: _, _ => none

inductive AN where
  | value (v : Value)
  | skip
  | enter (f : FuncId) (args : Array Value)

/-- m[k] = x. -/
def evMapPut (P : Program) (w : AW) (ty : TypeId) (m k x : Value) : Option AW :=
  match m, P.underlying ty with
  | .map (some r), some (.map kt _) => match keyKind P kt, w.mapOf r with
    | some d, some l => if flat k then match Instr.sameNow d k k, mapFind d k l 0 with
        | some _, some none => w.upd r ⟨mapMark :: (l ++ [.tuple #[k, x]]), 0, 2⟩
        | some _, some (some (i, _)) => w.upd r ⟨mapMark :: l.set i (.tuple #[k, x]), 0, 2⟩
        | _, _ => none
      else none
    | _, _ => none
  | _, _ => none
def mapHint (P : Program) (ρ : Operand → Value) (ty : TypeId) : Option Operand → Bool
  | none => true
  | some x => match ρ x, P.underlying ty with
    | .int _ _, some (.map _ _) => true
    | _, _ => false
def evClear (P : Program) (w : AW) (ty : TypeId) (s : Value) : Option AW :=
  match s, P.underlying ty with
  | .slice none 0 0, some (.slice _) => some w
  | .slice (some a) n _, some (.slice e) =>
    if n = 0 then some w
    else if zflat P e then match (P.info? e).bind (·.zero) with
      | some z => if z.cells.toList.all Value.oneCell' then storeAll w a (Builtin.zeroCells z.cells n).toList 0 else none
      | none => none
    else none
  | _, _ => none

/-- Conversions that read or make memory. -/
def evConvert (P : Program) (w : AW) (s d : TypeId) (x : Value) : Option (AN × AW) :=
  match x, P.underlying s, P.underlying d with
  | .slice none 0 0, some (.slice e), some .string => match P.underlying e with
    | some (.int .u8) => some (.value (.string .empty), w)
    | _ => none
  | .slice (some a) n c, some (.slice e), some .string => match P.underlying e, srcCells w 1 (.slice (some a) n c) with
    | some (.int .u8), some (_, l) => match bytesOf l .empty with
      | some b => some (.value (.string b), w)
      | none => none
    | _, _ => none
  | .slice (some a) n c, some (.slice e), some (.slice e') => match s == d, P.underlying e, w.heap.get a.block with
    | true, some (.int .u8), some b => if b.kind < 2 ∧ e = e' then match w.upd a.block { b with kind := 1 } with
        | some w' => some (.value (.slice (some a) n c), w')
        | none => none
      else none
    | _, _, _ => none
  | .string b, some .string, some (.slice e) => match P.underlying e with
    | some (.int .u8) => match w.new ⟨b.data.toList.map fun b => .int .u8 b.toNat, e, 1⟩ with
      | some w' => if P.cellsOf e = 1 ∧ b.size ≤ 1000000 then some (.value (.slice (some ⟨w.next, 0, none⟩) b.size b.size), w') else none
      | none => none
    | _ => none
  | _, _, _ => none

def hasBody (P : Program) (f : FuncId) : Bool :=
  match P.funcs[f]? with
  | some fn => fn.name != "runtime.NumGoroutine" && fn.body.isSome
  | none => false

def evMem (P : Program) (t : Tr Value) (o : Oper) (w : AW) : Option (AN × AW) :=
  let ρ := eval t
  let val (r : Option (Value × AW)) : Option (AN × AW) := match r with
    | some (v, w') => some (.value v, w')
    | none => none
  match o.op with
  | .alloc e => if zflat P e then val (arun P (Instr.alloc e true (.tuple #[])) w) else none
  | .box e x => val (arun P (Instr.box e (ρ x)) w)
  | .build ty ps => if zflat P ty then val (arun P (Instr.build ty (ps.map fun (i, x) => (i, ρ x))) w) else none
  | .buildSlice ty n ps => match elemOf P ty with
    | some e => if zflat P e then val (arun P (Instr.buildSlice ty n (ps.map fun (i, x) => (i, ρ x))) w) else none
    | none => none
  | .makeSlice ty l c => match elemOf P ty with
    | some e => if zflat P e && flat (ρ l) && flat (ρ c) then val (arun P (Instr.makeSlice ty (ρ l) (ρ c)) w) else none
    | none => none
  | .store ty a x => match ρ a with
    | .pointer (some p) => match arun P (storeVar ty p (ρ x)) w with
      | some (_, w') => some (.skip, w')
      | none => none
    | _ => none
  | .slice ty x lo hi none => val ((evSlice P w ty (ρ x) (lo.map ρ) (hi.map ρ)).map fun v => (v, w))
  | .convert s d x => evConvert P w s d (ρ x)
  | .makeMap ty r => if mapHint P ρ ty r then match w.new ⟨[mapMark], 0, 2⟩ with
      | some w' => some (.value (.map (some w.next)), w')
      | none => none
    else none
  | .mapUpdate ty m k x => match evMapPut P w ty (ρ m) (ρ k) (ρ x) with
    | some w' => some (.skip, w')
    | none => none
  | .insert ty m k x => match evMapPut P w ty (ρ m) (ρ k) (ρ x) with
    | some w' => some (.skip, w')
    | none => none
  | .call c => match c.callee, c.args.toList, c.argTypes.toList with
    | .value f, _, _ => match ρ f with
      | .func (.func g) first caps => if hasBody P g then some (.enter g (first ++ c.args.map ρ ++ caps), w) else none
      | _ => none
    | .builtin .clear, [s], [ty] => match evClear P w ty (ρ s) with
      | some w' => some (.value (.tuple #[]), w')
      | none => none
    | .builtin .append, [s, x], [ty1, ty2] => val (evAppend P w ty1 ty2 (ρ s) (ρ x))
    | .builtin .copy, [s, x], [ty1, _] => val (evCopy P w ty1 (ρ s) (ρ x))
    | _, _, _ => none
  | _ => none

def evLoad (P : Program) (t : Tr Value) (o : Oper) (w : AW) : Option Value :=
  match o.op with
  | .load ty a => match eval t a with
    | .pointer (some p) => match arun P (loadVar ty p) w with
      | some (v, _) => some v
      | none => none
    | _ => none
  | .slice ty x lo hi none => match evSlice P w ty (eval t x) (lo.map (eval t)) (hi.map (eval t)) with
    | some v => some v
    | none => evPure P t o
  | .lookup ty m k ok => evLookup P w ty (eval t m) (eval t k) ok
  | _ => none

def isFloat (t : Tr Value) (o : Op) : Bool := isLoad o || isPure t o
def evFloat (P : Program) (t : Tr Value) (o : Oper) (w : AW) : Option Value :=
  if isLoad o.op then evLoad P t o w else evPure P t o

def evOp (P : Program) (t : Tr Value) (o : Oper) (w : AW) : Option (AN × AW) :=
  if o.op.operands.toList.all okOpnd then
    if isFloat t o.op then match evFloat P t o w with
      | some v => some (.value v, w)
      | none => none
    else evMem P t o w
  else none

inductive Ex where
  | normal | exit (id : Nat) | ret

/-- A frame's slots, how many there may be, and memory. -/
structure St where
  tmps : Tr Value
  n : Nat
  w : AW

/-- Is the operation wanted? -/
def guardYes (ops : Array Oper) (t : Tr Value) (o : Oper) : Option Bool :=
  match o.guard with
  | none => some true
  | some (j, want) => match (ops[j]?).bind (·.dst) with
    | some d => match t.get d with
      | some (.bool b) => some (b == want)
      | some (.tuple _) => some false
      | _ => none
    | none => none

def St.put (s : St) (dst : Option Tmp) (v : Value) (w : AW) : Option St :=
  match dst with
  | some d => if d < s.n then match s.tmps.put d v with
      | some t => some ⟨t, s.n, w⟩
      | none => none
    else none
  | none => some ⟨s.tmps, s.n, w⟩

abbrev CallF := FuncId → Array Value → AW → Option (Value × AW)

/-- What an operation of a region comes to. -/
def stepV (P : Program) (call : CallF) (ops : Array Oper) (t : Tr Value) (o : Oper) (a : AW) : Option (Value × AW) :=
  match guardYes ops t o with
  | some false => some (undef, a)
  | some true => match evOp P t o a with
    | some (.value v, a1) => some (v, a1)
    | some (.skip, a1) => some (undef, a1)
    | some (.enter f args, a1) => call f args a1
    | none => none
  | none => none

def step (P : Program) (call : CallF) (ops : Array Oper) (o : Oper) (s : St) : Option St :=
  match stepV P call ops s.tmps o s.w with
  | some (v, a) => s.put o.dst v a
  | none => none

def evOps (P : Program) (call : CallF) (ops : Array Oper) : List Oper → St → Option St
  | [], s => some s
  | o :: rest, s => match step P call ops o s with
    | some s' => evOps P call ops rest s'
    | none => none

/-- All the states of a region, in the order of the text. -/
def trace (P : Program) (call : CallF) (ops : Array Oper) : List Oper → St → Option (List St)
  | [], s => some [s]
  | o :: rest, s => match step P call ops o s with
    | some s' => match trace P call ops rest s' with
      | some l => some (s :: l)
      | none => none
    | none => none

/-- Which operations must have gone ahead: a bit each. -/
def maskOf (acc : List Nat) : List Edge → Nat
  | [] => 0
  | e :: r => if Region.binds .any e then (2 ^ e.on ||| acc.getD e.on 0) ||| maskOf acc r else maskOf acc r
def masks : List Oper → List Nat → List Nat
  | [], acc => acc
  | o :: r, acc => masks r (acc ++ [maskOf acc o.after.toList])

def eqAtom : Value → Value → Bool
  | .bool a, .bool b => a == b
  | .int j a, .int k b => decide (j = k) && a == b
  | .string a, .string b => a.data.toList == b.data.toList
  | .pointer a, .pointer b => decide (a = b)
  | .slice a n c, .slice a' n' c' => decide (a = a') && n == n' && c == c'
  | .nilIface, .nilIface => true
  | .nilFunc, .nilFunc => true
  | _, _ => false
def eqList : List Value → List Value → Bool
  | [], [] => true
  | a :: l, b :: m => eqAtom a b && eqList l m
  | _, _ => false
def eqV : Value → Value → Bool
  | .agg a, .agg b => eqList a.toList b.toList
  | a, b => eqAtom a b

/-- Has nothing written this block between the two? -/
def unwritten (a b : AW) (i : Nat) : Bool :=
  (match a.last.get i with
    | some t => decide (t < min a.clock b.clock)
    | none => true) &&
  (match b.last.get i with
    | some t => decide (t < min a.clock b.clock)
    | none => true)
/-- Does the operation read what nothing has written between the two? -/
def still (t : Tr Value) (o : Op) (a b : AW) : Bool :=
  match o with
  | .load _ x => match eval t x with
    | .pointer (some p) => unwritten a b p.block
    | _ => false
  | .lookup _ x _ _ => match eval t x with
    | .map (some r) => unwritten a b r
    | _ => false
  | _ => false

/-- Does a value speak of the first n blocks alone? -/
def bounded : Nat → Nat → Value → Bool
  | 0, n, v => match v with
    | .pointer (some a) => decide (a.block < n)
    | .slice (some a) _ _ => decide (a.block < n)
    | .map (some r) => decide (r < n)
    | v => flat v
  | d + 1, n, v => match v with
    | .agg cs => cs.toList.all (bounded d n)
    | .tuple cs => cs.toList.all (bounded d n)
    | .func _ cs ds => cs.toList.all (bounded d n) && ds.toList.all (bounded d n)
    | .pointer (some a) => decide (a.block < n)
    | .slice (some a) _ _ => decide (a.block < n)
    | .map (some r) => decide (r < n)
    | v => flat v
def isAlloc : Op → Bool
  | .alloc _ => true
  | _ => false

/-- Allocs that may come ahead of what stands ahead of them in the text; all that reads or writes memory behind one waits for it. -/
def lateOnes (ops : Array Oper) (sts : List St) : List Nat :=
  let ms := masks ops.toList []
  let il := ops.toList.zipIdx
  let non := (il.filter fun x => !isFloat (match sts[x.2]? with | some s => s.tmps | none => .lf) x.1.op).map (·.2)
  (il.filter fun x => isAlloc x.1.op && x.1.guard.isNone && non.any fun c => decide (c < x.2) && !(ms.getD x.2 0).testBit c).map (·.2)

/-- May the operations of this region be done in any order that their edges allow? 'sts': the states in the order of the text; 'lates': allocs that may come early. -/
def orderFree (P : Program) (call : CallF) (ops : Array Oper) (sts : List St) (lates : List Nat) : Bool :=
  let l := ops.toList
  let ms := masks l []
  let before (i j : Nat) : Bool := (ms.getD i 0).testBit j
  let tm (i : Nat) : Tr Value := match sts[i]? with | some s => s.tmps | none => .lf
  let il := l.zipIdx
  let non := (il.filter fun x => !isFloat (tm x.2) x.1.op).map (·.2)
  let chain := non.filter fun c => !lates.contains c
  -- the edges go back
  (il.all fun x => x.1.after.toList.all fun e => !Region.binds .any e || e.on < x.2) &&
  -- slots
  (il.all fun x => il.all fun y => x.2 == y.2 || match y.1.dst with
    | some d => x.1.dst != some d && (!(x.1.looksAt ops).contains d || before (max x.2 y.2) (min x.2 y.2))
    | none => true) &&
  -- what reads or writes memory
  (chain.all fun c => chain.all fun c' => !(c < c') || before c' c) &&
  (il.all fun x => !isLoad x.1.op || (0 :: chain.map (· + 1)).all fun k =>
    !((chain.all fun c => !(c < k) || !before c x.2) && (chain.all fun c => c < k || !before x.2 c)) ||
    (non.all fun c => !(min k x.2 ≤ c && c < max k x.2)) ||
    match sts[k]?, sts[x.2]? with
    | some sk, some si => still si.tmps x.1.op sk.w si.w || match stepV P call ops si.tmps x.1 sk.w, stepV P call ops si.tmps x.1 si.w with
      | some (v, _), some (v', _) => eqV v v'
      | _, _ => false
    | _, _ => false) &&
  -- allocs that may come early
  (il.all fun x => !lates.contains x.2 || (isAlloc x.1.op && x.1.guard.isNone && chain.all fun c => !(x.2 < c) || before c x.2)) &&
  (lates.isEmpty || il.all fun x => !chain.contains x.2 || match sts[x.2]? with
    | some si => (x.1.looksAt ops).all fun k => bounded 4 si.w.next ((si.tmps.get k).getD undef)
    | none => false)

def evDraw (P : Program) (call : CallF) (ops : Array Oper) (s : St) : Option St :=
  match trace P call ops ops.toList s with
  | some sts => if orderFree P call ops sts (lateOnes ops sts) then sts[ops.size]? else none
  | none => none

def evResults (P : Program) (t : Tr Value) (w : AW) : List ResultVar → Option (List Value)
  | [] => some []
  | .tmp r :: rest => match evResults P t w rest with
    | some l => some ((t.get r).getD undef :: l)
    | none => none
  | .cell r ty :: rest => match (t.get r).getD undef with
    | .pointer (some p) => match arun P (loadVar ty p) w with
      | some (v, _) => match evResults P t w rest with
        | some l => some (v :: l)
        | none => none
      | none => none
    | _ => none

def tupled : List Value → Value
  | [v] => v
  | l => .tuple l.toArray

def initTmps : Nat → List Value → Tr Value → Option (Tr Value)
  | _, [], t => some t
  | i, v :: r, t => match t.put i v with
    | some t' => initTmps (i + 1) r t'
    | none => none

def evBody (P : Program) (ev : Code → St → Option (Ex × St)) : CallF := fun f args w =>
  match P.funcs[f]? with
  | some fn => match fn.body, initTmps 0 args.toList .lf with
    | some c, some t => if args.size ≤ fn.ntmps then match ev c ⟨t, fn.ntmps, w⟩ with
      | some (.normal, s) | some (.ret, s) => match evResults P s.tmps s.w fn.results.toList with
        | some l => some (tupled l, s.w)
        | none => none
      | _ => none
      else none
    | _, _ => none
  | none => none

def evC (P : Program) : Nat → Code → St → Option (Ex × St)
  | 0, _, _ => none
  | n + 1, c, s =>
    match c with
    | .skip => some (.normal, s)
    | .label _ => some (.normal, s)
    | .region _ ops draw => match (if draw then evDraw P (evBody P (evC P n)) ops s else evOps P (evBody P (evC P n)) ops ops.toList s) with
      | some s' => some (.normal, s')
      | none => none
    | .seq a b => match evC P n a s with
      | some (.normal, s') => evC P n b s'
      | r => r
    | .cond c t e => match c with
      | .tmp _ => match eval s.tmps c with
        | .bool true => evC P n t s
        | .bool false => evC P n e s
        | _ => none
      | _ => none
    | .block id b => match evC P n b s with
      | some (.exit i, s') => if i = id then some (.normal, s') else some (.exit i, s')
      | r => r
    | .loop b => match evC P n b s with
      | some (.normal, s') => evC P n (.loop b) s'
      | r => r
    | .exit id => some (.exit id, s)
    | .ret => some (.ret, s)
    | _ => none

def evBool (P : Program) (n : Nat) (f : FuncId) (args : Array Value) : Option Bool :=
  match evBody P (evC P n) f args .empty with
  | some (.bool b, _) => some b
  | _ => none
end Ev
end Go.Proofs.YtmfpjdbgdmmjkaaDoor
namespace Go.Proofs.YtmfpjdbgdmmjkaaDoor
namespace Ev
open Go.RowKit

structure BI where
  blk : Nat
  off : Nat
  ext : Nat

abbrev Pl := Nat → Option BI
def Le (β β1 : Pl) : Prop := ∀ i b, β i = some b → β1 i = some b
theorem Le.refl (β : Pl) : Le β β := fun _ _ h => h
theorem Le.trans {a b c : Pl} (h : Le a b) (k : Le b c) : Le a c := fun i x hx => k i x (h i x hx)

def VA (β : Pl) (a a' : Addr) : Prop := a.spot = none ∧ ∃ bi, β a.block = some bi ∧ a' = ⟨bi.blk, bi.off + a.off, none⟩

inductive VR (β : Pl) : Value → Value → Prop where
  | flat {v : Value} (h : flat v = true) : VR β v v
  | ptr {a a' : Addr} (h : VA β a a') : VR β (.pointer (some a)) (.pointer (some a'))
  | slice {a a' : Addr} {n c : Nat} {bi : BI} (h : VA β a a') (hb : β a.block = some bi) : VR β (.slice (some a) n c) (.slice (some a') n (c + bi.ext))
  | agg {cs cs' : Array Value} (hs : cs.size = cs'.size) (h : ∀ (i : Nat) (v v' : Value), cs[i]? = some v → cs'[i]? = some v' → VR β v v') : VR β (.agg cs) (.agg cs')
  | tuple {cs cs' : Array Value} (hs : cs.size = cs'.size) (h : ∀ (i : Nat) (v v' : Value), cs[i]? = some v → cs'[i]? = some v' → VR β v v') : VR β (.tuple cs) (.tuple cs')
  | func (fn : Fn) {cs cs' ds ds' : Array Value} (hs : cs.size = cs'.size) (h : ∀ (i : Nat) (v v' : Value), cs[i]? = some v → cs'[i]? = some v' → VR β v v')
      (ks : ds.size = ds'.size) (k : ∀ (i : Nat) (v v' : Value), ds[i]? = some v → ds'[i]? = some v' → VR β v v') : VR β (.func fn cs ds) (.func fn cs' ds')
  | map {r : Nat} {bi : BI} (h : β r = some bi) : VR β (.map (some r)) (.map (some bi.blk))

theorem VA.mono {β β1 : Pl} {a a' : Addr} (h : VA β a a') (hl : Le β β1) : VA β1 a a' := by
  obtain ⟨h1, bi, h2, h3⟩ := h
  exact ⟨h1, bi, hl _ _ h2, h3⟩
theorem VR.mono {β β1 : Pl} {v v' : Value} (h : VR β v v') (hl : Le β β1) : VR β1 v v' := by
  induction h with
  | flat h => exact .flat h
  | ptr h => exact .ptr (h.mono hl)
  | slice h hb => exact .slice (h.mono hl) (hl _ _ hb)
  | agg hs _ ih => exact .agg hs fun i v v' h1 h2 => ih i v v' h1 h2
  | tuple hs _ ih => exact .tuple hs fun i v v' h1 h2 => ih i v v' h1 h2
  | func fn hs _ ks _ ih ik => exact .func fn hs (fun i v v' h1 h2 => ih i v v' h1 h2) ks (fun i v v' h1 h2 => ik i v v' h1 h2)
  | map h => exact .map (hl _ _ h)
theorem VA.add {β : Pl} {a a' : Addr} (h : VA β a a') (n : Nat) : VA β (a.add n) (a'.add n) := by
  obtain ⟨h1, bi, h2, rfl⟩ := h
  unfold Addr.add
  by_cases hn : n = 0
  · simp only [hn, if_true]; exact ⟨h1, bi, h2, rfl⟩
  · simp only [hn, if_false]
    exact ⟨rfl, bi, h2, by simp [Nat.add_assoc]⟩

/-- Lists of values, place by place. -/
def VL (β : Pl) (l l' : List Value) : Prop := l.length = l'.length ∧ ∀ (i : Nat) (v v' : Value), l[i]? = some v → l'[i]? = some v' → VR β v v'
theorem VL.nil (β : Pl) : VL β [] [] := ⟨rfl, by simp⟩
theorem VL.mono {β β1 : Pl} {l l' : List Value} (h : VL β l l') (hl : Le β β1) : VL β1 l l' := ⟨h.1, fun i v v' h1 h2 => (h.2 i v v' h1 h2).mono hl⟩
theorem VL.cons {β : Pl} {v v' : Value} {l l' : List Value} (h : VR β v v') (k : VL β l l') : VL β (v :: l) (v' :: l') := by
  refine ⟨by simp [k.1], fun i x x' h1 h2 => ?_⟩
  cases i with
  | zero => simp at h1 h2; subst h1; subst h2; exact h
  | succ i => simp at h1 h2; exact k.2 i x x' h1 h2
theorem VL.head {β : Pl} {v v' : Value} {l l' : List Value} (h : VL β (v :: l) (v' :: l')) : VR β v v' := h.2 0 v v' rfl rfl
theorem VL.tail {β : Pl} {v v' : Value} {l l' : List Value} (h : VL β (v :: l) (v' :: l')) : VL β l l' := ⟨by simpa using h.1, fun i x x' h1 h2 => h.2 (i + 1) x x' (by simpa using h1) (by simpa using h2)⟩
theorem VL.get {β : Pl} {l l' : List Value} (h : VL β l l') {i : Nat} {v : Value} (hv : l[i]? = some v) : ∃ v', l'[i]? = some v' ∧ VR β v v' := by
  have hl : i < l.length := (List.getElem?_eq_some_iff.1 hv).1
  have hl' : i < l'.length := h.1 ▸ hl
  exact ⟨l'[i], List.getElem?_eq_getElem hl', h.2 i v _ hv (List.getElem?_eq_getElem hl')⟩
theorem VL.append {β : Pl} {l l' m m' : List Value} (h : VL β l l') (k : VL β m m') : VL β (l ++ m) (l' ++ m') := by
  refine ⟨by simp [h.1, k.1], fun i v v' h1 h2 => ?_⟩
  by_cases hi : i < l.length
  · rw [List.getElem?_append_left hi] at h1
    rw [List.getElem?_append_left (h.1 ▸ hi)] at h2
    exact h.2 i v v' h1 h2
  · rw [List.getElem?_append_right (by omega)] at h1
    rw [List.getElem?_append_right (by rw [← h.1]; omega), ← h.1] at h2
    exact k.2 _ v v' h1 h2
theorem VL.take {β : Pl} {l l' : List Value} (h : VL β l l') (n : Nat) : VL β (l.take n) (l'.take n) := by
  refine ⟨by simp [h.1], fun i v v' h1 h2 => ?_⟩
  rw [List.getElem?_take] at h1 h2
  split at h1
  · rename_i hi; rw [if_pos hi] at h2; exact h.2 i v v' h1 h2
  · cases h1
theorem VL.drop {β : Pl} {l l' : List Value} (h : VL β l l') (n : Nat) : VL β (l.drop n) (l'.drop n) := by
  refine ⟨by simp [h.1], fun i v v' h1 h2 => ?_⟩
  rw [List.getElem?_drop] at h1 h2
  exact h.2 _ v v' h1 h2
theorem VL.set {β : Pl} {l l' : List Value} (h : VL β l l') (n : Nat) {v v' : Value} (hv : VR β v v') : VL β (l.set n v) (l'.set n v') := by
  refine ⟨by simp [h.1], fun i x x' h1 h2 => ?_⟩
  rw [List.getElem?_set] at h1 h2
  by_cases hi : n = i
  · subst hi
    rw [if_pos rfl] at h1 h2
    have hlen := h.1
    by_cases hn : n < l.length
    · rw [if_pos hn] at h1
      rw [if_pos (by omega)] at h2
      injection h1 with h1; injection h2 with h2; subst h1; subst h2; exact hv
    · rw [if_neg hn] at h1; cases h1
  · rw [if_neg hi] at h1 h2; exact h.2 i x x' h1 h2
theorem VL.of_flat {β : Pl} {l : List Value} (h : ∀ v ∈ l, flat v = true) : VL β l l :=
  ⟨rfl, fun i v v' h1 h2 => by rw [h1] at h2; injection h2 with h2; subst h2; exact .flat (h v (List.mem_of_getElem? h1))⟩
theorem VL.push {β : Pl} {l l' : List Value} (h : VL β l l') {v v' : Value} (hv : VR β v v') : VL β (l ++ [v]) (l' ++ [v']) := h.append (.cons hv (.nil β))

theorem atom_flat {v : Value} (h : atom v = true) : flat v = true := by
  unfold atom at h
  split at h <;> first | rfl | cases h

theorem VR.flat_eq {β : Pl} {v v' : Value} (h : VR β v v') (hf : Ev.flat v = true) : v' = v := by
  have hat : ∀ {w w' : Value}, VR β w w' → atom w = true → w' = w := by
    intro w w' hw ha
    cases hw with
    | flat _ => rfl
    | ptr _ => simp [atom] at ha
    | slice _ _ => simp [atom] at ha
    | agg _ _ => simp [atom] at ha
    | tuple _ _ => simp [atom] at ha
    | func _ _ _ _ _ => simp [atom] at ha
    | map _ => simp [atom] at ha
  cases h with
  | flat _ => rfl
  | ptr _ => simp [Ev.flat, atom] at hf
  | slice _ _ => simp [Ev.flat, atom] at hf
  | agg hs h =>
    rename_i cs cs'
    congr 1
    apply Array.ext_getElem?
    intro i
    cases hi : cs[i]? with
    | none =>
      have : ¬ i < cs.size := by intro hlt; rw [Array.getElem?_eq_getElem hlt] at hi; cases hi
      exact Array.getElem?_eq_none (by omega)
    | some v =>
      have hlt : i < cs.size := (Array.getElem?_eq_some_iff.1 hi).1
      have hi' : cs'[i]? = some (cs'[i]'(by omega)) := Array.getElem?_eq_getElem (by omega)
      have hr := h i v _ hi hi'
      simp only [Ev.flat, List.all_eq_true] at hf
      have := hat hr (hf v (by rw [Array.mem_toList_iff]; exact Array.mem_of_getElem? hi))
      rw [hi', this]
  | tuple hs h =>
    rename_i cs cs'
    congr 1
    apply Array.ext_getElem?
    intro i
    cases hi : cs[i]? with
    | none =>
      have : ¬ i < cs.size := by intro hlt; rw [Array.getElem?_eq_getElem hlt] at hi; cases hi
      exact Array.getElem?_eq_none (by omega)
    | some v =>
      have hlt : i < cs.size := (Array.getElem?_eq_some_iff.1 hi).1
      have hi' : cs'[i]? = some (cs'[i]'(by omega)) := Array.getElem?_eq_getElem (by omega)
      have hr := h i v _ hi hi'
      simp only [Ev.flat, List.all_eq_true] at hf
      have := hat hr (hf v (by rw [Array.mem_toList_iff]; exact Array.mem_of_getElem? hi))
      rw [hi', this]
  | func _ _ _ _ _ => simp [Ev.flat, atom] at hf
  | map _ => simp [Ev.flat, atom] at hf

theorem VR.cells {β : Pl} {v v' : Value} (h : VR β v v') : VL β v.cells.toList v'.cells.toList := by
  cases h with
  | flat h =>
    cases v with
    | agg cs =>
      simp only [Value.cells]
      refine .of_flat fun x hx => ?_
      simp only [Ev.flat, List.all_eq_true] at h
      exact atom_flat (h x hx)
    | _ => exact .cons (.flat h) (.nil _)
  | ptr h => exact .cons (.ptr h) (.nil _)
  | slice h hb => exact .cons (.slice h hb) (.nil _)
  | agg hs h => exact ⟨by simpa [Value.cells] using hs, fun i v v' h1 h2 => h i v v' (by simpa [Value.cells] using h1) (by simpa [Value.cells] using h2)⟩
  | tuple hs h => exact .cons (.tuple hs h) (.nil _)
  | func fn hs h ks k => exact .cons (.func fn hs h ks k) (.nil _)
  | map h => exact .cons (.map h) (.nil _)
theorem VR.agg_of {β : Pl} {l l' : Array Value} (h : VL β l.toList l'.toList) : VR β (.agg l) (.agg l') :=
  .agg (by simpa using h.1) fun i v v' h1 h2 => h.2 i v v' (by simpa using h1) (by simpa using h2)

/-- Memory before, and which of its blocks may be changed. -/
structure Base where
  w : World
  K : Nat → Prop
/-- A block that is the call's own, or may be changed. -/
def Base.Mine (b : Base) (k : Nat) : Prop := b.w.heap.size ≤ k ∨ b.K k
/-- What was there stays, but for what may be changed. -/
structure Keep (b : Base) (w : World) : Prop where
  os : w.os = b.w.os
  tape : w.tape = b.w.tape
  output : w.output = b.w.output
  size : b.w.heap.size ≤ w.heap.size
  block : ∀ k, ¬ b.Mine k → w.heap[k]? = b.w.heap[k]?
theorem Keep.drew {b : Base} {w : World} (h : Keep b w) : Keep b w.drew := ⟨h.os, h.tape, h.output, h.size, h.block⟩
theorem Keep.alloc {b : Base} {w : World} (h : Keep b w) (o : Obj) : Keep b (w.alloc o) :=
  ⟨h.os, h.tape, h.output, by have := h.size; simp; omega, fun k hk => by
    have hs := h.size
    have hlt : k < w.heap.size := Nat.lt_of_lt_of_le (Nat.lt_of_not_le fun e => hk (.inl e)) hs
    rw [Below.heap_alloc _ _ _ hlt]; exact h.block k hk⟩
theorem Keep.setCell {b : Base} {w : World} (h : Keep b w) {p : Addr} (hp : b.Mine p.block) (u : Value) : Keep b (w.setCell p u) :=
  ⟨h.os, h.tape, h.output, by have := h.size; simpa [World.setCell] using this, fun k hk => by
    rw [Below.heap_setCell _ _ _ _ (fun e => hk (by rw [e]; exact hp))]; exact h.block k hk⟩
theorem Keep.below {b : Base} {w : World} (h : Keep b w) (hK : ∀ k, ¬ b.K k) : Below b.w.heap.size b.w w :=
  ⟨h.os, h.tape, h.output, h.size, fun k hk => h.block k fun e => by rcases e with e | e <;> first | omega | exact hK k e⟩

/-- A map's entry, as a pair. -/
def entryV (e : MapEntry) : Value := .tuple #[e.key, e.val]
/-- Maps: each lies in a block of the model's memory, entry by entry. -/
structure Maps (w0 : Base) (β : Pl) (a : AW) (w : World) : Prop where
  map : ∀ i b l, a.heap.get i = some b → b.kind = 2 → b.cells = mapMark :: l → ∃ bi es clock, β i = some bi ∧ w0.Mine bi.blk ∧ w.heap[bi.blk]? = some (.map es clock) ∧ VL β l (es.toList.map entryV)
  inj : ∀ i j b c l m bi bj, a.heap.get i = some b → b.kind = 2 → b.cells = mapMark :: l → a.heap.get j = some c → c.kind = 2 → c.cells = mapMark :: m → β i = some bi → β j = some bj → bi.blk = bj.blk → i = j
/-- What leaves maps alone. -/
theorem Maps.keep {w0 : Base} {β β1 : Pl} {a a1 : AW} {w w1 : World} (h : Maps w0 β a w) (hle : Le β β1) (ha : ∀ i b l, a1.heap.get i = some b → b.kind = 2 → b.cells = mapMark :: l → a.heap.get i = some b)
    (hw : ∀ (k : Nat) (es : Array MapEntry) (c : Nat), w.heap[k]? = some (Obj.map es c) → w1.heap[k]? = some (Obj.map es c)) : Maps w0 β1 a1 w1 := by
  refine ⟨fun i b l hb hk hc => ?_, fun i j b c l m bi bj hb hk hc hb' hk' hc' hi hj he => ?_⟩
  · obtain ⟨bi, es, clock, q1, q2, q3, q4⟩ := h.map i b l (ha i b l hb hk hc) hk hc
    exact ⟨bi, es, clock, hle _ _ q1, q2, hw _ _ _ q3, q4.mono hle⟩
  · have k1 := ha i b l hb hk hc
    have k2 := ha j c m hb' hk' hc'
    obtain ⟨bi', _, _, q1, _⟩ := h.map i b l k1 hk hc
    obtain ⟨bj', _, _, r1, _⟩ := h.map j c m k2 hk' hc'
    have e1 := hle _ _ q1
    have e2 := hle _ _ r1
    rw [hi] at e1; injection e1 with e1; subst e1
    rw [hj] at e2; injection e2 with e2; subst e2
    exact h.inj i j b c l m bi bj k1 hk hc k2 hk' hc' q1 r1 he
theorem not_mark {β : Pl} {l l' : List Value} (h : VL β (mapMark :: l) l') : False := by
  cases l' with
  | nil => have := h.1; simp at this
  | cons v' l' =>
    have := h.head
    unfold mapMark at this
    cases this with
    | flat hf => exact absurd (show false = true from hf) (by decide)

/-- Memory: each block that is not dead lies in the model's memory, in a block of its own behind what was there. -/
structure EmbR (P : Program) (w0 : Base) (β : Pl) (a : AW) (w : World) : Prop where
  below : Keep w0 w
  blk : ∀ i b, a.heap.get i = some b → b.kind < 2 → ∃ bi cur fz, β i = some bi ∧ w0.Mine bi.blk ∧ bi.off = 0 ∧ w.heap[bi.blk]? = some (.cells cur b.elem fz) ∧ (fz.1 = fz.2 ∨ cur.size ≤ fz.1) ∧
    cur.size = b.cells.length + bi.ext * P.cellsOf b.elem ∧ (b.kind = 0 → bi.ext = 0 ∧ fz = (0, 0)) ∧ VL β b.cells (cur.toList.take b.cells.length)
  inj : ∀ i j b c bi bj, a.heap.get i = some b → b.kind < 2 → a.heap.get j = some c → c.kind < 2 → β i = some bi → β j = some bj → bi.blk = bj.blk → i = j
  imp : ∀ i b, a.heap.get i = some b → b.kind = 3 → ∃ bi, β i = some bi ∧ ¬ w0.Mine bi.blk ∧ ∀ (j : Nat) (v : Value), b.cells[j]? = some v → ∃ v', w0.w.cell? ⟨bi.blk, bi.off + j, none⟩ = some v' ∧ VR β v v'
  kinds : ∀ i b, a.heap.get i = some b → b.kind ≤ 3
  maps : Maps w0 β a w
/-- .. and behind the last one there is nothing. -/
structure Emb (P : Program) (w0 : Base) (β : Pl) (a : AW) (w : World) : Prop extends EmbR P w0 β a w where
  fresh : ∀ i, a.next ≤ i → a.heap.get i = none ∧ β i = none
theorem Emb.mk' {P : Program} {w0 : Base} {β : Pl} {a : AW} {w : World} (below : Keep w0 w) (fresh : ∀ i, a.next ≤ i → a.heap.get i = none ∧ β i = none)
    (blk : ∀ i b, a.heap.get i = some b → b.kind < 2 → ∃ bi cur fz, β i = some bi ∧ w0.Mine bi.blk ∧ bi.off = 0 ∧ w.heap[bi.blk]? = some (.cells cur b.elem fz) ∧ (fz.1 = fz.2 ∨ cur.size ≤ fz.1) ∧
      cur.size = b.cells.length + bi.ext * P.cellsOf b.elem ∧ (b.kind = 0 → bi.ext = 0 ∧ fz = (0, 0)) ∧ VL β b.cells (cur.toList.take b.cells.length))
    (inj : ∀ i j b c bi bj, a.heap.get i = some b → b.kind < 2 → a.heap.get j = some c → c.kind < 2 → β i = some bi → β j = some bj → bi.blk = bj.blk → i = j)
    (imp : ∀ i b, a.heap.get i = some b → b.kind = 3 → ∃ bi, β i = some bi ∧ ¬ w0.Mine bi.blk ∧ ∀ (j : Nat) (v : Value), b.cells[j]? = some v → ∃ v', w0.w.cell? ⟨bi.blk, bi.off + j, none⟩ = some v' ∧ VR β v v')
    (kinds : ∀ i b, a.heap.get i = some b → b.kind ≤ 3) (maps : Maps w0 β a w) : Emb P w0 β a w := ⟨⟨below, blk, inj, imp, kinds, maps⟩, fresh⟩

def SimAt {α α' : Type} (P : Program) (w0 : Base) (β : Pl) (s : Sem α) (s' : Sem α') (R : Pl → α → α' → Prop) : Prop :=
  ∀ a w x a1, Emb P w0 β a w → arun P s a = some (x, a1) → ∃ β1 x' w1, s'.run P w = .ok x' w1 ∧ Le β β1 ∧ Emb P w0 β1 a1 w1 ∧ R β1 x x'

theorem arun_bind {α γ : Type} (P : Program) (s : Sem α) (f : α → Sem γ) (a : AW) :
    arun P (s.bind f) a = match arun P s a with | some (x, a1) => arun P (f x) a1 | none => none := by
  induction s generalizing a with
  | pure x => rfl
  | load m p k ih =>
    simp only [Sem.bind, arun]
    cases a.cell p with
    | none => rfl
    | some v => exact ih v a
  | store m p v k ih =>
    cases v <;> simp only [Sem.bind, arun] <;> first | rfl | (cases a.setCell p _ <;> first | rfl | exact ih _)
  | new o k ih =>
    cases o <;> simp only [Sem.bind, arun] <;> try rfl
    rename_i c e fz
    split
    · cases a.new ⟨c.toList, e, 0⟩ <;> first | rfl | exact ih _ _
    · rfl
  | shape r k ih =>
    simp only [Sem.bind, arun]
    cases a.heap.get r with
    | none => rfl
    | some b => dsimp only; split <;> first | rfl | exact ih _ _
  | freeze p n k ih =>
    simp only [Sem.bind, arun]
    split
    · split <;> first | rfl | exact ih _
    · rfl
  | choose q k ih =>
    simp only [Sem.bind, arun]
    split <;> first | rfl | exact ih _ _
  | program k ih => simp only [Sem.bind, arun]; exact ih _ _
  | mark m k ih => simp only [Sem.bind, arun]; exact ih _
  | _ => rfl

theorem sim_pure {α α' : Type} {P : Program} {w0 : Base} {β : Pl} {x : α} {x' : α'} {R : Pl → α → α' → Prop} (h : R β x x') : SimAt P w0 β (Pure.pure x : Sem α) (Pure.pure x' : Sem α') R := by
  intro a w y a1 he hr
  simp only [Pure.pure, arun, Option.some.injEq, Prod.mk.injEq] at hr
  obtain ⟨rfl, rfl⟩ := hr
  exact ⟨β, x', w, rfl, Le.refl β, he, h⟩
theorem sim_bind {α α' γ γ' : Type} {P : Program} {w0 : Base} {β : Pl} {s : Sem α} {s' : Sem α'} {f : α → Sem γ} {f' : α' → Sem γ'} {R : Pl → α → α' → Prop} {R' : Pl → γ → γ' → Prop}
    (h : SimAt P w0 β s s' R) (hf : ∀ β1 x x', Le β β1 → R β1 x x' → SimAt P w0 β1 (f x) (f' x') R') : SimAt P w0 β (s >>= f) (s' >>= f') R' := by
  intro a w y a1 he hr
  have hb : arun P (s.bind f) a = some (y, a1) := hr
  rw [arun_bind] at hb
  cases hs : arun P s a with
  | none => rw [hs] at hb; cases hb
  | some q =>
    obtain ⟨x, a2⟩ := q
    rw [hs] at hb
    obtain ⟨β1, x', w1, h1, h2, h3, h4⟩ := h a w x a2 he hs
    obtain ⟨β2, y', w2, k1, k2, k3, k4⟩ := hf β1 x x' h2 h4 a2 w1 y a1 h3 hb
    refine ⟨β2, y', w2, ?_, h2.trans k2, k3, k4⟩
    rw [Sem.run_bind, h1]
    exact k1
theorem SimAt.mono {α α' : Type} {P : Program} {w0 : Base} {β : Pl} {s : Sem α} {s' : Sem α'} {R R' : Pl → α → α' → Prop} (h : SimAt P w0 β s s' R) (hr : ∀ β1 x x', Le β β1 → R β1 x x' → R' β1 x x') : SimAt P w0 β s s' R' := by
  intro a w x a1 he hs
  obtain ⟨β1, x', w1, h1, h2, h3, h4⟩ := h a w x a1 he hs
  exact ⟨β1, x', w1, h1, h2, h3, hr _ _ _ h2 h4⟩
/-- What neither reads nor writes memory is the same on both sides. -/
theorem sim_none {α α' : Type} {P : Program} {w0 : Base} {β : Pl} {s : Sem α} {s' : Sem α'} {R : Pl → α → α' → Prop} (h : ∀ a, arun P s a = none) : SimAt P w0 β s s' R := by
  intro a w x a1 _ hr
  rw [h a] at hr; cases hr
theorem sim_fix {α : Type} {P : Program} {w0 : Base} {β : Pl} {s : Sem α} (x : α) (h1 : ∀ a, arun P s a = some (x, a)) (h2 : ∀ w, s.run P w = .ok x w) : SimAt P w0 β s s fun _ y y' => y = x ∧ y' = x := by
  intro a w y a1 he hr
  rw [h1 a] at hr
  simp only [Option.some.injEq, Prod.mk.injEq] at hr
  obtain ⟨rfl, rfl⟩ := hr
  exact ⟨β, x, w, h2 w, Le.refl β, he, rfl, rfl⟩
end Ev
end Go.Proofs.YtmfpjdbgdmmjkaaDoor
namespace Go.Proofs.YtmfpjdbgdmmjkaaDoor
namespace Ev
open Go.RowKit

section
variable {P : Program} {w0 : Base} {β : Pl}

theorem AW.cell_some {a : AW} {p : Addr} {v : Value} (h : a.cell p = some v) : p.spot = none ∧ ∃ b, a.heap.get p.block = some b ∧ b.kind ≠ 2 ∧ b.cells[p.off]? = some v := by
  unfold AW.cell at h
  split at h
  · rename_i b h1 h2
    split at h
    · rename_i hk; exact ⟨h1, b, h2, hk, h⟩
    · cases h
  · cases h

theorem Keep.cell {b : Base} {w : World} (h : Keep b w) {p : Addr} (hp : ¬ b.Mine p.block) : w.cell? p = b.w.cell? p := World.cell?_of_block (h.block p.block hp)
theorem EmbR.cell {a : AW} {w : World} (he : EmbR P w0 β a w) {p p' : Addr} (hp : VA β p p') {v : Value} (hc : a.cell p = some v) : ∃ v', w.cell? p' = some v' ∧ VR β v v' := by
  obtain ⟨_, b, hb, hk2, hv⟩ := AW.cell_some hc
  obtain ⟨_, bi, hbi, rfl⟩ := hp
  rcases Nat.lt_or_ge b.kind 2 with hk | hk
  · obtain ⟨bj, cur, fz, h1, _, h3, h4, _, h6, _, h8⟩ := he.blk _ b hb hk
    rw [hbi] at h1; injection h1 with h1; subst h1
    obtain ⟨v', h9, h10⟩ := h8.get hv
    have hlt : p.off < b.cells.length := (List.getElem?_eq_some_iff.1 hv).1
    rw [List.getElem?_take, if_pos hlt] at h9
    refine ⟨v', ?_, h10⟩
    simp only [World.cell?, h4, h3, Nat.zero_add, Option.isSome_none, Bool.false_eq_true, if_false]
    simpa using h9
  · obtain ⟨bj, h1, h2, h3⟩ := he.imp _ b hb (by have := he.kinds _ b hb; omega)
    rw [hbi] at h1; injection h1 with h1; subst h1
    obtain ⟨v', h4, h5⟩ := h3 _ v hv
    exact ⟨v', by rw [he.below.cell (p := ⟨bi.blk, bi.off + p.off, none⟩) h2]; exact h4, h5⟩

theorem vl_choose {Q : Nat → Value → Prop} : ∀ (l : List Value) (i : Nat), (∀ (j : Nat) (v : Value), l[j]? = some v → ∃ v', Q (i + j) v' ∧ VR β v v') → ∃ l', VL β l l' ∧ ∀ (j : Nat) (v' : Value), l'[j]? = some v' → Q (i + j) v' := by
  intro l
  induction l with
  | nil => intro i _; exact ⟨[], .nil β, by simp⟩
  | cons v l ih =>
    intro i h
    obtain ⟨v', h1, h2⟩ := h 0 v rfl
    obtain ⟨l', h3, h4⟩ := ih (i + 1) fun j u hu => by
      have := h (j + 1) u (by simpa using hu)
      rwa [show i + 1 + j = i + (j + 1) by omega]
    refine ⟨v' :: l', .cons h2 h3, fun j u hu => ?_⟩
    cases j with
    | zero => simp at hu; subst hu; exact h1
    | succ j =>
      have := h4 j u (by simpa using hu)
      rwa [show i + 1 + j = i + (j + 1) by omega] at this
/-- The cells of a block that may be read. -/
theorem EmbR.cells {a : AW} {w : World} (he : EmbR P w0 β a w) {i : Nat} {b : Blk} (hb : a.heap.get i = some b) (hk2 : b.kind ≠ 2) {bi : BI} (hbi : β i = some bi) :
    ∃ cs', VL β b.cells cs' ∧ ∀ (j : Nat) (v' : Value), cs'[j]? = some v' → w.cell? ⟨bi.blk, bi.off + j, none⟩ = some v' := by
  have := vl_choose (β := β) (Q := fun j v' => w.cell? ⟨bi.blk, bi.off + j, none⟩ = some v') b.cells 0 fun j v hv => by
    obtain ⟨v', h1, h2⟩ := he.cell (p := ⟨i, j, none⟩) (p' := ⟨bi.blk, bi.off + j, none⟩) ⟨rfl, bi, hbi, rfl⟩ (v := v) (by simp only [AW.cell, hb, if_pos hk2]; exact hv)
    exact ⟨v', by rw [Nat.zero_add]; exact h1, h2⟩
  obtain ⟨l', h1, h2⟩ := this
  exact ⟨l', h1, fun j v' hj => by have := h2 j v' hj; rwa [Nat.zero_add] at this⟩

theorem sim_load {p p' : Addr} (hp : VA β p p') (m : Mode) : SimAt P w0 β (load p m) (load p' m) VR := by
  intro a w x a1 he hr
  simp only [load, arun] at hr
  cases hc : a.cell p with
  | none => rw [hc] at hr; cases hr
  | some v =>
    rw [hc] at hr
    simp only [Option.some.injEq, Prod.mk.injEq] at hr
    obtain ⟨rfl, rfl⟩ := hr
    obtain ⟨v', h1, h2⟩ := he.cell hp hc
    refine ⟨β, v', w, ?_, Le.refl β, he, h2⟩
    rw [run_load, h1]

theorem VR.one {v v' : Value} (h : VR β v v') (ho : v.oneCell' = true) : v'.oneCell' = true := by
  cases h <;> first | exact ho | rfl

theorem AW.setCell_some {a a1 : AW} {p : Addr} {v : Value} (h : a.setCell p v = some a1) : p.spot = none ∧ ∃ b hp la cl, a.heap.get p.block = some b ∧ b.kind < 2 ∧ p.off < b.cells.length ∧
    a.heap.put p.block { b with cells := b.cells.set p.off v } = some hp ∧ a1 = ⟨hp, a.next, la, cl⟩ := by
  unfold AW.setCell at h
  split at h
  · rename_i b h1 h2
    split at h
    · rename_i hk
      unfold AW.upd at h
      split at h
      · rename_i hp la hput hla
        injection h with h
        exact ⟨h1, b, hp, la, _, h2, hk.1, hk.2, hput, h.symm⟩
      · cases h
    · cases h
  · cases h

theorem Emb.setCell {a a1 : AW} {w : World} (he : Emb P w0 β a w) {p p' : Addr} (hp : VA β p p') {v v' : Value} (hv : VR β v v') (hc : a.setCell p v = some a1) :
    w.frozen? p' = false ∧ (∃ u, w.cell? p' = some u) ∧ Emb P w0 β a1 (w.setCell p' v') := by
  obtain ⟨_, b, hp1, la, cl, hb, hk, hlt, hput, rfl⟩ := AW.setCell_some hc
  obtain ⟨_, bi, hbi, rfl⟩ := hp
  obtain ⟨bj, cur, fz, h1, h2, h3, h4, h5, h6, h7, h8⟩ := he.blk _ b hb hk
  rw [hbi] at h1; injection h1 with h1; subst h1
  have hsz : p.off < cur.size := by omega
  refine ⟨?_, ⟨cur[p.off], ?_⟩, ?_⟩
  · simp only [World.frozen?, h4, h3, Nat.zero_add]
    obtain ⟨lo, hi⟩ := fz
    simp only at h5
    rcases h5 with h5 | h5
    · subst h5; simp
    · simp; omega
  · simp [World.cell?, h4, h3, hsz]
  · have hgrow : (w.setCell ⟨bi.blk, bi.off + p.off, none⟩ v').heap[bi.blk]? = some (.cells (cur.setIfInBounds p.off v') b.elem fz) := by
      simp [World.setCell, Array.getElem?_modify, h4, h3]
    refine .mk' (he.below.setCell h2 _) ?_ ?_ ?_ ?_ ?_ ?_
    · intro i hi
      obtain ⟨g1, g2⟩ := he.fresh i hi
      refine ⟨?_, g2⟩
      rw [Tr.get_put hput, if_neg]
      · exact g1
      · rintro rfl; rw [g1] at hb; cases hb
    · intro i c hi hkc
      rw [Tr.get_put hput] at hi
      by_cases hie : i = p.block
      · rw [if_pos hie] at hi
        injection hi with hi
        subst hi
        subst hie
        refine ⟨bi, _, fz, hbi, h2, h3, hgrow, by simpa using h5, by simpa using h6, h7, ?_⟩
        simp only [Array.toList_setIfInBounds, List.length_set, List.take_set]
        exact h8.set _ hv
      · rw [if_neg hie] at hi
        obtain ⟨bj, cur', fz', g1, g2, g3, g4, g5⟩ := he.blk i c hi hkc
        refine ⟨bj, cur', fz', g1, g2, g3, ?_, g5⟩
        have hne : bj.blk ≠ bi.blk := fun e => hie (he.inj i p.block c b bj bi hi hkc hb hk g1 hbi e)
        rw [Below.heap_setCell _ _ _ _ hne]
        exact g4
    · intro i j c d bi' bj' hi hkc hj hkd hbi' hbj' hblk
      rw [Tr.get_put hput] at hi hj
      have get : ∀ i c, (if i = p.block then some { b with cells := b.cells.set p.off v } else a.heap.get i) = some c → c.kind < 2 → ∃ c', a.heap.get i = some c' ∧ c'.kind < 2 := by
        intro i c hi hkc
        by_cases hie : i = p.block
        · subst hie; exact ⟨b, hb, hk⟩
        · rw [if_neg hie] at hi; exact ⟨c, hi, hkc⟩
      obtain ⟨c', hi', hkc'⟩ := get i c hi hkc
      obtain ⟨d', hj', hkd'⟩ := get j d hj hkd
      exact he.inj i j c' d' bi' bj' hi' hkc' hj' hkd' hbi' hbj' hblk
    · intro i c hi hkc
      rw [Tr.get_put hput] at hi
      by_cases hie : i = p.block
      · rw [if_pos hie] at hi; injection hi with hi; subst hi; simp only at hkc; omega
      · rw [if_neg hie] at hi; exact he.imp i c hi hkc
    · intro i c hi
      rw [Tr.get_put hput] at hi
      by_cases hie : i = p.block
      · rw [if_pos hie] at hi; injection hi with hi; subst hi; exact he.kinds _ b hb
      · rw [if_neg hie] at hi; exact he.kinds i c hi
    · refine he.maps.keep (Le.refl β) (fun i c l hi hk2 _ => ?_) fun g es c hg => ?_
      · rw [Tr.get_put hput] at hi
        by_cases hie : i = p.block
        · rw [if_pos hie] at hi; injection hi with hi; subst hi; simp only at hk2; omega
        · rw [if_neg hie] at hi; exact hi
      · rw [Below.heap_setCell _ _ _ _ (fun e => by subst e; rw [h4] at hg; cases hg)]
        exact hg

theorem sim_store {p p' : Addr} (hp : VA β p p') {v v' : Value} (hv : VR β v v') (m : Mode) : SimAt P w0 β (store p v m) (store p' v' m) fun _ _ _ => True := by
  intro a w x a1 he hr
  have key : v.oneCell' = true ∧ ∃ a2, a.setCell p v = some a2 ∧ a1 = a2 := by
    cases v <;> simp only [store, arun] at hr <;> first
      | cases hr
      | (refine ⟨rfl, ?_⟩
         cases hc : a.setCell p _ with
         | none => rw [hc] at hr; cases hr
         | some a2 => rw [hc] at hr; simp only [Option.some.injEq, Prod.mk.injEq] at hr; exact ⟨a2, rfl, hr.2.symm⟩)
  obtain ⟨ho, a2, hc, rfl⟩ := key
  obtain ⟨h1, ⟨u, h2⟩, h3⟩ := he.setCell hp hv hc
  refine ⟨β, (), w.setCell p' v', ?_, Le.refl β, h3, trivial⟩
  rw [run_store P w p' v' m (hv.one ho), h2]
  simp [h1]

theorem AW.new_some {a a1 : AW} {b : Blk} (h : a.new b = some a1) : ∃ hp la cl, a.heap.put a.next b = some hp ∧ a1 = ⟨hp, a.next + 1, la, cl⟩ := by
  unfold AW.new at h
  split at h
  · rename_i hp la hput hla; injection h with h; exact ⟨hp, la, _, hput, h.symm⟩
  · cases h

def grow (β : Pl) (i : Nat) (bi : BI) : Pl := fun j => if j = i then some bi else β j
theorem Le.grow {i : Nat} {bi : BI} (h : β i = none) : Le β (grow β i bi) := by
  intro j b hj
  unfold Ev.grow
  split
  · rename_i e; subst e; rw [h] at hj; cases hj
  · exact hj

/-- A new block, of more cells than are known if its kind is 1. -/
theorem Emb.new {a a1 : AW} {w : World} (he : Emb P w0 β a w) {l : List Value} {cur : Array Value} {e : TypeId} {fz : Nat × Nat} {ext k : Nat} (hk : k < 2) (hf : fz.1 = fz.2 ∨ cur.size ≤ fz.1)
    (hs : cur.size = l.length + ext * P.cellsOf e) (h0 : k = 0 → ext = 0 ∧ fz = (0, 0)) (hl : VL β l (cur.toList.take l.length)) (hn : a.new ⟨l, e, k⟩ = some a1) :
    Le β (grow β a.next ⟨w.heap.size, 0, ext⟩) ∧ Emb P w0 (grow β a.next ⟨w.heap.size, 0, ext⟩) a1 { w with heap := w.heap.push (.cells cur e fz) } := by
  obtain ⟨hp, la, cl, hput, rfl⟩ := AW.new_some hn
  have hnone := he.fresh a.next (Nat.le_refl _)
  have hle : Le β (grow β a.next ⟨w.heap.size, 0, ext⟩) := .grow hnone.2
  have hold : ∀ i b, a.heap.get i = some b → i ≠ a.next := by rintro i b hi rfl; rw [hnone.1] at hi; cases hi
  have hpush : ∀ g, g < w.heap.size → (w.heap.push (.cells cur e fz))[g]? = w.heap[g]? := fun g hg => by rw [Array.getElem?_push, if_neg (by omega)]
  refine ⟨hle, .mk' (he.below.alloc _) ?_ ?_ ?_ ?_ ?_ ?_⟩
  · intro i hi
    obtain ⟨g1, g2⟩ := he.fresh i (by simp at hi; omega)
    refine ⟨?_, ?_⟩
    · rw [Tr.get_put hput, if_neg (by simp at hi; omega)]; exact g1
    · unfold grow; rw [if_neg (by simp at hi; omega)]; exact g2
  · intro i b hi hkb
    rw [Tr.get_put hput] at hi
    by_cases hie : i = a.next
    · rw [if_pos hie] at hi
      injection hi with hi
      subst hi
      refine ⟨⟨w.heap.size, 0, ext⟩, cur, fz, by simp [grow, hie], .inl he.below.size, rfl, by simp, hf, hs, h0, hl.mono hle⟩
    · rw [if_neg hie] at hi
      obtain ⟨bj, cur', fz', g1, g2, g3, g4, g5, g6, g7, g8⟩ := he.blk i b hi hkb
      refine ⟨bj, cur', fz', hle _ _ g1, g2, g3, ?_, g5, g6, g7, g8.mono hle⟩
      have hlt : bj.blk < w.heap.size := (Array.getElem?_eq_some_iff.1 g4).1
      rw [← g4]; exact hpush _ hlt
  · intro i j b c bi bj hi hkb hj hkc hbi hbj hblk
    rw [Tr.get_put hput] at hi hj
    have small : ∀ i b bi, i ≠ a.next → (if i = a.next then some ⟨l, e, k⟩ else a.heap.get i) = some b → b.kind < 2 → grow β a.next ⟨w.heap.size, 0, ext⟩ i = some bi → a.heap.get i = some b ∧ β i = some bi ∧ bi.blk < w.heap.size := by
      intro i b bi hne h1 h2 h3
      rw [if_neg hne] at h1
      unfold grow at h3
      rw [if_neg hne] at h3
      obtain ⟨bj, cur', fz', g1, _, _, g4, _⟩ := he.blk i b h1 h2
      rw [h3] at g1; injection g1 with g1; subst g1
      exact ⟨h1, h3, (Array.getElem?_eq_some_iff.1 g4).1⟩
    by_cases hie : i = a.next
    · by_cases hje : j = a.next
      · rw [hie, hje]
      · obtain ⟨_, _, hlt⟩ := small j c bj hje hj hkc hbj
        simp only [grow, hie, if_true, Option.some.injEq] at hbi
        subst hbi
        simp only at hblk
        omega
    · obtain ⟨h1, h2, hlt⟩ := small i b bi hie hi hkb hbi
      by_cases hje : j = a.next
      · simp only [grow, hje, if_true, Option.some.injEq] at hbj
        subst hbj
        simp only at hblk
        omega
      · obtain ⟨k1, k2, _⟩ := small j c bj hje hj hkc hbj
        exact he.inj i j b c bi bj h1 hkb k1 hkc h2 k2 hblk
  · intro i b hi hkb
    rw [Tr.get_put hput] at hi
    by_cases hie : i = a.next
    · rw [if_pos hie] at hi; injection hi with hi; subst hi; simp only at hkb; omega
    · rw [if_neg hie] at hi
      obtain ⟨bi, h1, h2, h3⟩ := he.imp i b hi hkb
      exact ⟨bi, hle _ _ h1, h2, fun j v hv => by obtain ⟨v', h4, h5⟩ := h3 j v hv; exact ⟨v', h4, h5.mono hle⟩⟩
  · intro i b hi
    rw [Tr.get_put hput] at hi
    by_cases hie : i = a.next
    · rw [if_pos hie] at hi; injection hi with hi; subst hi; simp only; omega
    · rw [if_neg hie] at hi; exact he.kinds i b hi
  · refine he.maps.keep hle (fun i c l' hi hk2 _ => ?_) fun g es c hg => ?_
    · rw [Tr.get_put hput] at hi
      by_cases hie : i = a.next
      · rw [if_pos hie] at hi; injection hi with hi; subst hi; simp only at hk2; omega
      · rw [if_neg hie] at hi; exact hi
    · rw [← hg]; exact hpush g (Array.getElem?_eq_some_iff.1 hg).1

/-- Where a new block lies. -/
def NA (β : Pl) (a a' : Addr) : Prop := VA β a a' ∧ ∃ g, β a.block = some ⟨g, 0, 0⟩
theorem NA.slice {β : Pl} {a a' : Addr} (h : NA β a a') (n c : Nat) : VR β (.slice (some a) n c) (.slice (some a') n c) := by
  obtain ⟨h1, g, h2⟩ := h
  exact VR.slice (bi := ⟨g, 0, 0⟩) h1 h2

theorem sim_newRow {e : TypeId} {c c' : Array Value} (hc : VL β c.toList c'.toList) : SimAt P w0 β (newRow e c) (newRow e c') NA := by
  refine sim_bind (R := fun β1 r r' => NA β1 ⟨r, 0, none⟩ ⟨r', 0, none⟩) ?_ (fun β1 r r' _ h => sim_pure h)
  intro a w x a1 he hr
  simp only [newObj, arun, if_true] at hr
  cases hn : a.new ⟨c.toList, e, 0⟩ with
  | none => rw [hn] at hr; cases hr
  | some a2 =>
    rw [hn] at hr
    simp only [Option.some.injEq, Prod.mk.injEq] at hr
    obtain ⟨rfl, rfl⟩ := hr
    have hlen : c'.toList.take c.toList.length = c'.toList := by rw [hc.1]; exact List.take_length
    obtain ⟨h1, h2⟩ := he.new (k := 0) (ext := 0) (fz := (0, 0)) (cur := c') (by omega) (.inl rfl) (by have := hc.1; simp at this ⊢; omega) (fun _ => ⟨rfl, rfl⟩) (by rw [hlen]; exact hc) hn
    exact ⟨_, _, _, rfl, h1, h2, ⟨rfl, ⟨w.heap.size, 0, 0⟩, by simp [grow], rfl⟩, w.heap.size, by simp [grow]⟩

theorem sim_typeInfo (t : TypeId) : SimAt P w0 β (typeInfo t) (typeInfo t) fun _ x x' => x' = x ∧ P.info? t = some x := by
  cases h : P.info? t with
  | none =>
    refine sim_none fun a => ?_
    show arun P (Sem.bind program _) a = none
    simp [arun_bind, program, arun, h, stuck]
  | some i =>
    refine (sim_fix i (fun a => ?_) (fun w => ?_)).mono (fun _ x x' _ ⟨h1, h2⟩ => by subst h1; subst h2; exact ⟨rfl, rfl⟩)
    · show arun P (Sem.bind program _) a = _
      simp [arun_bind, program, arun, h, Pure.pure]
    · simp [typeInfo, h]
theorem sim_underlying (t : TypeId) : SimAt P w0 β (underlying t) (underlying t) fun _ x x' => x' = x ∧ P.underlying t = some x := by
  cases h : P.underlying t with
  | none =>
    refine sim_none fun a => ?_
    show arun P (Sem.bind program _) a = none
    simp [arun_bind, program, arun, h, stuck]
  | some i =>
    refine (sim_fix i (fun a => ?_) (fun w => ?_)).mono (fun _ x x' _ ⟨h1, h2⟩ => by subst h1; subst h2; exact ⟨rfl, rfl⟩)
    · show arun P (Sem.bind program _) a = _
      simp [arun_bind, program, arun, h, Pure.pure]
    · simp [underlying, h]
theorem sim_sizeOf (t : TypeId) : SimAt P w0 β (sizeOf t) (sizeOf t) fun _ x x' => x' = x ∧ ∃ i, P.info? t = some i ∧ i.size = x :=
  sim_bind (sim_typeInfo t) fun _ _ _ _ ⟨h, hi⟩ => by subst h; exact sim_pure ⟨rfl, _, hi, rfl⟩
theorem sim_isAgg (t : TypeId) : SimAt P w0 β (isAgg t) (isAgg t) fun _ x x' => x' = x :=
  sim_bind (sim_underlying t) fun _ x x' _ ⟨h, _⟩ => by subst h; cases x' <;> exact sim_pure rfl

theorem sim_loadCellsFrom {p p' : Addr} (n : Nat) : ∀ {β : Pl} (i : Nat) (acc acc' : Array Value), VA β p p' → VL β acc.toList acc'.toList →
    SimAt P w0 β (loadCellsFrom p i n acc) (loadCellsFrom p' i n acc') fun β1 l l' => VL β1 l.toList l'.toList := by
  induction n with
  | zero => intro β i acc acc' _ hl; exact sim_pure hl
  | succ n ih =>
    intro β i acc acc' hp hl
    refine sim_bind (sim_load (hp.add i) .plain) fun β1 v v' hle hv => ih (i + 1) _ _ (hp.mono hle) ?_
    rw [Array.toList_push, Array.toList_push]
    exact (hl.mono hle).push hv
theorem sim_loadCells {p p' : Addr} (hp : VA β p p') (n : Nat) : SimAt P w0 β (loadCells p n) (loadCells p' n) fun β1 l l' => VL β1 l.toList l'.toList :=
  sim_loadCellsFrom n 0 _ _ hp (.nil β)
theorem sim_storeCells {p p' : Addr} : ∀ {β : Pl} (l l' : List Value) (i : Nat), VA β p p' → VL β l l' → SimAt P w0 β (storeCells p l i) (storeCells p' l' i) fun _ _ _ => True := by
  intro β l
  induction l generalizing β with
  | nil =>
    intro l' i _ hl
    have : l' = [] := List.eq_nil_of_length_eq_zero (by simpa using hl.1.symm)
    subst this
    exact sim_pure trivial
  | cons v r ih =>
    intro l' i hp hl
    cases l' with
    | nil => have := hl.1; simp at this
    | cons v' r' => exact sim_bind (sim_store (hp.add i) hl.head .plain) fun β1 _ _ hle _ => ih r' (i + 1) (hp.mono hle) (hl.tail.mono hle)
theorem sim_loadVar (t : TypeId) {p p' : Addr} (hp : VA β p p') : SimAt P w0 β (loadVar t p) (loadVar t p') VR := by
  refine sim_bind (sim_isAgg t) fun β1 x x' hle h => ?_
  subst h
  cases x' with
  | true =>
    refine sim_bind (sim_sizeOf t) fun β2 n n' hle2 h => ?_
    obtain ⟨rfl, _⟩ := h
    exact sim_bind (sim_loadCells ((hp.mono hle).mono hle2) _) fun β3 l l' _ hl => sim_pure (VR.agg_of hl)
  | false => exact sim_load (hp.mono hle) .plain
theorem sim_storeVar (t : TypeId) {p p' : Addr} (hp : VA β p p') {v v' : Value} (hv : VR β v v') : SimAt P w0 β (storeVar t p v) (storeVar t p' v') fun _ _ _ => True := by
  refine sim_bind (sim_sizeOf t) fun β1 n n' hle h => ?_
  obtain ⟨rfl, _⟩ := h
  have hc := (hv.mono hle).cells
  have hs : v'.cells.size = v.cells.size := by have := hc.1; simpa using this.symm
  rw [hs]
  by_cases hne : v.cells.size = n'
  · rw [if_neg (by simpa using hne), if_neg (by simpa using hne)]
    exact sim_storeCells _ _ 0 (hp.mono hle) hc
  · refine sim_none fun a => ?_
    rw [if_pos hne]
    rfl
end
end Ev
end Go.Proofs.YtmfpjdbgdmmjkaaDoor
namespace Go.Proofs.YtmfpjdbgdmmjkaaDoor
namespace Ev
open Go.RowKit

theorem pureRun_run {α : Type} {P : Program} (s : Sem α) : ∀ {x : α}, pureRun P s = some x → ∀ w, s.run P w = .ok x w := by
  induction s with
  | pure a => intro x h w; simp only [pureRun, Option.some.injEq] at h; subst h; rfl
  | program k ih => intro x h w; simp only [pureRun] at h; exact ih P h w
  | mark m k ih => intro x h w; simp only [pureRun] at h; exact ih h w
  | _ => intro x h w; simp [pureRun] at h

section
variable {P : Program} {β : Pl} {t : Tr Value} {ρ : Operand → Value} {o : Oper}

/-- The operands stand to each other. -/
def Ops (β : Pl) (t : Tr Value) (ρ : Operand → Value) (o : Op) : Prop := ∀ x, x ∈ o.operands → VR β (eval t x) (ρ x)

theorem flat_same (h : Ops β t ρ o.op) (hs : ∀ cs b, o.op ≠ .select cs b) (hf : (o.op.operands.toList.all fun x => flat (eval t x)) = true) : execOp ρ o = execOp (eval t) o := by
  refine execOp_congr o hs fun x hx => ?_
  simp only [List.all_eq_true] at hf
  exact (h x hx).flat_eq (hf x (by simpa using hx))

theorem flat_pure (h : Ops β t ρ o.op) (hs : ∀ cs b, o.op ≠ .select cs b) (hf : (o.op.operands.toList.all fun x => flat (eval t x)) = true) {v : Value}
    (hr : (match pureRun P (execOp (eval t) o) with | some (.value v) => if flat v then some v else none | _ => none) = some v) :
    ∃ v', (∀ w, (execOp ρ o).run P w = .ok (.value v') w) ∧ VR β v v' := by
  split at hr
  · rename_i u hu
    split at hr
    · rename_i hfl
      injection hr with hr
      subst hr
      refine ⟨u, fun w => ?_, .flat hfl⟩
      rw [flat_same h hs hf]
      exact pureRun_run _ hu w
    · cases hr
  · cases hr

theorem VR.int {β : Pl} {k : IntKind} {n : Int} {v' : Value} (h : VR β (.int k n) v') : v' = .int k n := h.flat_eq rfl
theorem VR.bool {β : Pl} {b : Bool} {v' : Value} (h : VR β (.bool b) v') : v' = .bool b := h.flat_eq rfl
theorem VR.pointer {β : Pl} {a : Addr} {v' : Value} (h : VR β (.pointer (some a)) v') : ∃ a', v' = .pointer (some a') ∧ VA β a a' := by
  cases h with
  | flat h => simp [Ev.flat, atom] at h
  | ptr h => exact ⟨_, rfl, h⟩
theorem VR.sliceOf {β : Pl} {a : Addr} {n c : Nat} {v' : Value} (h : VR β (.slice (some a) n c) v') : ∃ a' bi, v' = .slice (some a') n (c + bi.ext) ∧ VA β a a' ∧ β a.block = some bi := by
  cases h with
  | flat h => simp [Ev.flat, atom] at h
  | slice h hb => exact ⟨_, _, rfl, h, hb⟩
theorem VR.sliceAny {β : Pl} {a : Option Addr} {n c : Nat} {v' : Value} (h : VR β (.slice a n c) v') : ∃ a' n' c', v' = .slice a' n' c' := by
  cases h with
  | flat h => exact ⟨_, _, _, rfl⟩
  | slice h hb => exact ⟨_, _, _, rfl⟩
theorem VR.funcOf {β : Pl} {fn : Fn} {cs ds : Array Value} {v' : Value} (h : VR β (.func fn cs ds) v') : ∃ cs' ds', v' = .func fn cs' ds' ∧ VL β cs.toList cs'.toList ∧ VL β ds.toList ds'.toList := by
  cases h with
  | flat h => simp [Ev.flat, atom] at h
  | func fn hs h ks k => exact ⟨_, _, rfl, ⟨by simpa using hs, fun i v v' h1 h2 => h i v v' (by simpa using h1) (by simpa using h2)⟩, ⟨by simpa using ks, fun i v v' h1 h2 => k i v v' (by simpa using h1) (by simpa using h2)⟩⟩
theorem VR.func_of {β : Pl} {fn : Fn} {cs ds cs' ds' : Array Value} (h : VL β cs.toList cs'.toList) (k : VL β ds.toList ds'.toList) : VR β (.func fn cs ds) (.func fn cs' ds') :=
  .func fn (by simpa using h.1) (fun i v v' h1 h2 => h.2 i v v' (by simpa using h1) (by simpa using h2)) (by simpa using k.1) (fun i v v' h1 h2 => k.2 i v v' (by simpa using h1) (by simpa using h2))
theorem VR.aggOf {β : Pl} {cs : Array Value} {v' : Value} (h : VR β (.agg cs) v') : ∃ cs', v' = .agg cs' ∧ VL β cs.toList cs'.toList := by
  cases h with
  | flat h =>
    refine ⟨cs, rfl, .of_flat fun v hv => ?_⟩
    simp only [Ev.flat, List.all_eq_true] at h
    exact atom_flat (h v hv)
  | agg hs h => exact ⟨_, rfl, ⟨by simpa using hs, fun i v v' h1 h2 => h i v v' (by simpa using h1) (by simpa using h2)⟩⟩
theorem VL.mapOps {β : Pl} {t : Tr Value} {ρ : Operand → Value} {args : Array Operand} (h : ∀ x, x ∈ args → VR β (eval t x) (ρ x)) : VL β (args.map (eval t)).toList (args.map ρ).toList := by
  refine ⟨by simp, fun i v v' h1 h2 => ?_⟩
  simp only [Array.toList_map, List.getElem?_map, Option.map_eq_some_iff] at h1 h2
  obtain ⟨x, hx, rfl⟩ := h1
  obtain ⟨y, hy, rfl⟩ := h2
  rw [hx] at hy; injection hy with hy; subst hy
  exact h x (by rw [← Array.mem_toList_iff]; exact List.mem_of_getElem? hx)
theorem part_sound {P : Program} {β : Pl} {t : TypeId} {cs cs' : Array Value} {off : Nat} (hl : VL β cs.toList cs'.toList) {v : Value} (hv : evPart P t cs off = some v) :
    ∃ v', (∀ w : World, (part t cs' off).run P w = .ok v' w) ∧ VR β v v' := by
  unfold evPart at hv
  have ext : ∀ n, VL β (cs.extract off n).toList (cs'.extract off n).toList := by
    intro n
    rw [Array.toList_extract, Array.toList_extract]
    simp only [List.extract]
    exact (hl.drop _).take _
  split at hv
  · rename_i fs hu
    split at hv
    · rename_i i hi
      injection hv with hv; subst hv
      exact ⟨_, fun w => by simp [part, isAgg, run_underlying hu, sizeOf, typeInfo, hi], VR.agg_of (ext _)⟩
    · cases hv
  · rename_i n e hu
    split at hv
    · rename_i i hi
      injection hv with hv; subst hv
      exact ⟨_, fun w => by simp [part, isAgg, run_underlying hu, sizeOf, typeInfo, hi], VR.agg_of (ext _)⟩
    · cases hv
  · rename_i d hn1 hn2 hu
    have hc : cs.toList[off]? = some v := by simpa using hv
    obtain ⟨v', h1, h2⟩ := hl.get hc
    have h1' : cs'[off]? = some v' := by simpa using h1
    refine ⟨v', fun w => ?_, h2⟩
    have hag : (isAgg t).run P w = .ok false w := by
      unfold isAgg
      rw [Sem.run_bind, run_underlying hu]
      cases d <;> first | rfl | exact absurd rfl (hn1 _) | exact absurd rfl (hn2 _ _)
    unfold part
    rw [Sem.run_bind, hag]
    simp [h1']
  · cases hv

theorem nilEq_sound {ty : TypeId} {x y x' y' : Value} (hx : VR β x x') (hy : VR β y y') {b : Bool} (h : nilEq P ty x y = some b) (w : World) :
    (Op.equal ty x' y').run P w = .ok b w := by
  unfold nilEq at h
  split at h
  · rename_i e a hu
    injection h with h; subst h
    obtain ⟨a', rfl, _⟩ := hx.pointer
    have := hy.flat_eq (v := .pointer none) rfl; subst this
    suffices hd : ∀ d, (Op.equalIn (d + 1) ty (.pointer (some a')) (.pointer none)).run P w = .ok false w from hd 9999
    intro d
    simp only [Op.equalIn]
    simp [run_underlying hu]
  · rename_i e a hu
    injection h with h; subst h
    obtain ⟨a', rfl, _⟩ := hy.pointer
    have := hx.flat_eq (v := .pointer none) rfl; subst this
    suffices hd : ∀ d, (Op.equalIn (d + 1) ty (.pointer none) (.pointer (some a'))).run P w = .ok false w from hd 9999
    intro d
    simp only [Op.equalIn]
    simp [run_underlying hu]
  · rename_i e a _ _ hu
    injection h with h; subst h
    obtain ⟨a', bi, rfl, _⟩ := hx.sliceOf
    have := hy.flat_eq (v := .slice none 0 0) rfl; subst this
    suffices hd : ∀ d, (Op.equalIn (d + 1) ty (.slice (some a') _ _) (.slice none 0 0)).run P w = .ok false w from hd 9999
    intro d
    simp only [Op.equalIn]
    simp [run_underlying hu]
  · rename_i e a _ _ hu
    injection h with h; subst h
    obtain ⟨a', bi, rfl, _⟩ := hy.sliceOf
    have := hx.flat_eq (v := .slice none 0 0) rfl; subst this
    suffices hd : ∀ d, (Op.equalIn (d + 1) ty (.slice none 0 0) (.slice (some a') _ _)).run P w = .ok false w from hd 9999
    intro d
    simp only [Op.equalIn]
    simp [run_underlying hu]
  · cases h

theorem nilEq_shape {ty : TypeId} {x y : Value} {b : Bool} (h : nilEq P ty x y = some b) :
    (∃ a c, x = .pointer a ∧ y = .pointer c ∧ (a = none ∨ c = none)) ∨ (∃ a n c a' n' c', x = .slice a n c ∧ y = .slice a' n' c') := by
  unfold nilEq at h
  split at h
  · exact .inl ⟨_, _, rfl, rfl, .inr rfl⟩
  · exact .inl ⟨_, _, rfl, rfl, .inl rfl⟩
  · exact .inr ⟨_, _, _, _, _, _, rfl, rfl⟩
  · exact .inr ⟨_, _, _, _, _, _, rfl, rfl⟩
  · cases h

theorem cellsOf_info {P : Program} {t : TypeId} (h : 0 < P.cellsOf t) : ∃ i, P.info? t = some i ∧ i.size = P.cellsOf t := by
  unfold Program.cellsOf at *
  cases hi : P.info? t with
  | none => rw [hi] at h; simp at h
  | some i => exact ⟨i, rfl, by simp⟩

theorem pure_sound (h : Ops β t ρ o.op) {v : Value} (hv : evPure P t o = some v) :
    ∃ v', (∀ w, (execOp ρ o).run P w = .ok (.value v') w) ∧ VR β v v' := by
  obtain ⟨dst, op, type, pos, after, guard⟩ := o
  simp only at h
  unfold evPure at hv
  simp only at hv
  split at hv
  · -- move
    injection hv with hv; subst hv
    exact ⟨_, fun w => rfl, h _ (by simp [Op.operands])⟩
  · injection hv with hv; subst hv
    exact ⟨_, fun w => rfl, h _ (by simp [Op.operands])⟩
  · -- pick
    rename_i c a b
    split at hv
    · rename_i q hq
      have hc := h c (by simp [Op.operands])
      rw [hq] at hc
      have hc := hc.bool
      injection hv with hv; subst hv
      refine ⟨if q then ρ a else ρ b, fun w => ?_, ?_⟩
      · simp [execOp, hc, asBool]
      · cases q
        · exact h b (by simp [Op.operands])
        · exact h a (by simp [Op.operands])
    · cases hv
  · -- extract
    rename_i x i
    split at hv
    · rename_i vs hvs
      have hx := h x (by simp [Op.operands])
      rw [hvs] at hx
      have key : ∃ vs' : Array Value, ρ x = .tuple vs' ∧ ∃ v', vs'[i]? = some v' ∧ VR β v v' := by
        generalize hxx : ρ x = r at hx
        cases hx with
        | flat hf =>
          refine ⟨vs, rfl, v, hv, ?_⟩
          simp only [flat, List.all_eq_true] at hf
          exact .flat (atom_flat (hf v (by rw [Array.mem_toList_iff]; exact Array.mem_of_getElem? hv)))
        | tuple hs hh =>
          rename_i vs'
          have hlt : i < vs.size := (Array.getElem?_eq_some_iff.1 hv).1
          exact ⟨vs', rfl, vs'[i]'(by omega), Array.getElem?_eq_getElem (by omega), hh i v _ hv (Array.getElem?_eq_getElem (by omega))⟩
      obtain ⟨vs', h1, v', h2, h3⟩ := key
      exact ⟨v', fun w => by simp [execOp, Instr.extract, h1, h2], h3⟩
    · cases hv
  · -- nilCheck
    rename_i x
    have hx := h x (by simp [Op.operands])
    split at hv
    · rename_i a ha
      rw [ha] at hx
      obtain ⟨a', h1, h2⟩ := hx.pointer
      injection hv with hv; subst hv
      exact ⟨_, fun w => by simp [execOp, h1], .ptr h2⟩
    · rename_i g first caps hf
      rw [hf] at hx
      obtain ⟨cs', ds', h1, h2, h3⟩ := hx.funcOf
      injection hv with hv; subst hv
      exact ⟨_, fun w => by simp [execOp, h1], .func_of h2 h3⟩
    · cases hv
  · -- makeFunc
    rename_i fn first caps
    injection hv with hv; subst hv
    exact ⟨.func fn (first.map ρ) (caps.map ρ), fun w => by simp [execOp, Instr.makeFunc], .func_of (VL.mapOps fun x hx => h x (by simp [Op.operands, hx])) (VL.mapOps fun x hx => h x (by simp [Op.operands, hx]))⟩
  · -- field
    rename_i ty x f
    split at hv
    · rename_i hf
      refine flat_pure h (fun _ _ => by simp) ?_ hv
      simpa [Op.operands] using hf
    · have hx := h x (by simp [Op.operands])
      unfold evField at hv
      split at hv
      · rename_i cs fs hcs hu
        rw [hcs] at hx
        obtain ⟨cs', h1, h2⟩ := hx.aggOf
        split at hv
        · rename_i fd hfd
          obtain ⟨v', h3, h4⟩ := part_sound h2 hv
          refine ⟨v', fun w => ?_, h4⟩
          simp [execOp, Instr.field, run_underlying hu, hfd, h1, asAgg, h3]
        · cases hv
      · cases hv
  · -- fieldAddr
    rename_i s x f
    have hx := h x (by simp [Op.operands])
    split at hv
    · rename_i a fs ha hs
      rw [ha] at hx
      obtain ⟨a', h1, h2⟩ := hx.pointer
      split at hv
      · rename_i fd hfd
        split at hv
        · rename_i hpos
          injection hv with hv; subst hv
          obtain ⟨i, hi, hsz⟩ := cellsOf_info hpos
          refine ⟨.pointer (some (a'.add fd.offset)), fun w => ?_, .ptr (h2.add _)⟩
          have hne : i.size ≠ 0 := by omega
          simp [execOp, Instr.fieldAt, run_underlying hs, h1, hfd, Instr.sureAddr, fieldPlace, sizeOf, typeInfo, hi, hne]
        · cases hv
      · cases hv
    · cases hv
  · -- indexAddr
    rename_i ty x ix
    have hx := h x (by simp [Op.operands])
    have hix := h ix (by simp [Op.operands])
    split at hv
    · rename_i k i a n c e hi ha hu
      rw [ha] at hx
      rw [hi] at hix
      obtain ⟨a', bi, h1, h2, _⟩ := hx.sliceOf
      have h3 := hix.int
      split at hv
      · rename_i hb
        injection hv with hv; subst hv
        obtain ⟨j, hj, hsz⟩ := cellsOf_info hb.2.2
        refine ⟨.pointer (some (a'.add (i.toNat * P.cellsOf e))), fun w => ?_, .ptr (h2.add _)⟩
        have hb1 : 0 ≤ i := hb.1
        have hb2 : i < (n : Int) := hb.2.1
        simp [execOp, Instr.indexAt, run_underlying hu, h1, h3, asIntOf, sizeOf, typeInfo, hj, hsz, hb1, hb2]
      · cases hv
    · rename_i k i a n e hi ha hu
      rw [ha] at hx
      rw [hi] at hix
      obtain ⟨a', h1, h2⟩ := hx.pointer
      have h3 := hix.int
      split at hv
      · rename_i hb
        injection hv with hv; subst hv
        obtain ⟨j, hj, hsz⟩ := cellsOf_info hb.2.2
        refine ⟨.pointer (some (a'.add (i.toNat * P.cellsOf e))), fun w => ?_, .ptr (h2.add _)⟩
        have hb1 : 0 ≤ i := hb.1
        have hb2 : i < (n : Int) := hb.2.1
        simp [execOp, Instr.indexAt, run_underlying hu, h1, h3, asIntOf, sizeOf, typeInfo, hj, hsz, hb1, hb2, Instr.sureAddr]
      · cases hv
    · cases hv
  · -- sliceToArrayPointer
    rename_i ty x
    have hx := h x (by simp [Op.operands])
    split at hv
    · rename_i a n c m e ha hu
      rw [ha] at hx
      obtain ⟨a', bi, h1, h2, _⟩ := hx.sliceOf
      split at hv
      · rename_i hb
        injection hv with hv; subst hv
        refine ⟨.pointer (some a'), fun w => ?_, .ptr h2⟩
        have hb1 : ¬ n < m := by omega
        simp [execOp, Instr.arrayAt, run_underlying hu, h1, hb1]
      · cases hv
    · cases hv
  · -- call
    rename_i c
    split at hv
    · rename_i hf
      exact flat_pure h (fun _ _ => by simp) hf hv
    · obtain ⟨callee, args, argTypes⟩ := c
      unfold evLen at hv
      simp only at hv
      split at hv
      · rename_i x ty hargs htys _
        split at hv
        · rename_i a n c e ha hu
          have hx := h x (by simp [Op.operands, Call.operands, ← Array.mem_toList_iff, hargs])
          rw [ha] at hx
          obtain ⟨a', bi, h1, h2, _⟩ := hx.sliceOf
          injection hv with hv; subst hv
          refine ⟨.int .i64 n, fun w => ?_, .flat rfl⟩
          have e1 : args = #[x] := by rw [← Array.toArray_toList (xs := args), hargs]
          have e2 : argTypes = #[ty] := by rw [← Array.toArray_toList (xs := argTypes), htys]
          subst e1; subst e2
          simp [execOp, resolve, invoke, builtin, h1, Builtin.len_, run_underlying hu, goInt]
        · cases hv
      · cases hv
  · -- binOp
    rename_i bop ty x y ty2
    have hx := h x (by simp [Op.operands])
    have hy := h y (by simp [Op.operands])
    split at hv
    · rename_i hf
      refine flat_pure h (fun _ _ => by simp) ?_ hv
      simpa [Op.operands] using hf
    · split at hv
      · cases hn : nilEq P ty (eval t x) (eval t y) with
        | none => rw [hn] at hv; simp at hv
        | some b =>
          rw [hn] at hv
          simp only [Option.map_some, Option.some.injEq] at hv
          subst hv
          have hs := nilEq_sound hx hy hn
          refine ⟨.bool b, fun w => ?_, .flat rfl⟩
          rcases nilEq_shape hn with ⟨a, c, h1, h2, h3⟩ | ⟨a, n, c, a', n', c', h1, h2⟩
          · rw [h1] at hx; rw [h2] at hy
            have e1 : ∃ a1, ρ x = .pointer a1 := by
              cases a with
              | none => exact ⟨_, hx.flat_eq rfl⟩
              | some a => obtain ⟨a1, h, _⟩ := hx.pointer; exact ⟨_, h⟩
            have e2 : ∃ a1, ρ y = .pointer a1 := by
              cases c with
              | none => exact ⟨_, hy.flat_eq rfl⟩
              | some a => obtain ⟨a1, h, _⟩ := hy.pointer; exact ⟨_, h⟩
            obtain ⟨a1, e1⟩ := e1
            obtain ⟨a2, e2⟩ := e2
            have hs' := hs w
            rw [e1, e2] at hs'
            simp [execOp, eqGuard, e1, e2, binOp, hs']
          · rw [h1] at hx; rw [h2] at hy
            have e1 : ∃ a1 n1 c1, ρ x = .slice a1 n1 c1 := hx.sliceAny
            have e2 : ∃ a1 n1 c1, ρ y = .slice a1 n1 c1 := hy.sliceAny
            obtain ⟨a1, n1, c1, e1⟩ := e1
            obtain ⟨a2, n2, c2, e2⟩ := e2
            have hs' := hs w
            rw [e1, e2] at hs'
            simp [execOp, eqGuard, e1, e2, binOp, hs']
      · cases hn : nilEq P ty (eval t x) (eval t y) with
        | none => rw [hn] at hv; simp at hv
        | some b =>
          rw [hn] at hv
          simp only [Option.map_some, Option.some.injEq] at hv
          subst hv
          have hs := nilEq_sound hx hy hn
          refine ⟨.bool !b, fun w => ?_, .flat rfl⟩
          rcases nilEq_shape hn with ⟨a, c, h1, h2, h3⟩ | ⟨a, n, c, a', n', c', h1, h2⟩
          · rw [h1] at hx; rw [h2] at hy
            have e1 : ∃ a1, ρ x = .pointer a1 := by
              cases a with
              | none => exact ⟨_, hx.flat_eq rfl⟩
              | some a => obtain ⟨a1, h, _⟩ := hx.pointer; exact ⟨_, h⟩
            have e2 : ∃ a1, ρ y = .pointer a1 := by
              cases c with
              | none => exact ⟨_, hy.flat_eq rfl⟩
              | some a => obtain ⟨a1, h, _⟩ := hy.pointer; exact ⟨_, h⟩
            obtain ⟨a1, e1⟩ := e1
            obtain ⟨a2, e2⟩ := e2
            have hs' := hs w
            rw [e1, e2] at hs'
            simp [execOp, eqGuard, e1, e2, binOp, hs']
          · rw [h1] at hx; rw [h2] at hy
            have e1 : ∃ a1 n1 c1, ρ x = .slice a1 n1 c1 := hx.sliceAny
            have e2 : ∃ a1 n1 c1, ρ y = .slice a1 n1 c1 := hy.sliceAny
            obtain ⟨a1, n1, c1, e1⟩ := e1
            obtain ⟨a2, n2, c2, e2⟩ := e2
            have hs' := hs w
            rw [e1, e2] at hs'
            simp [execOp, eqGuard, e1, e2, binOp, hs']
      · cases hv
  · split at hv
    · rename_i hf
      by_cases hsel : ∃ cs b, op = .select cs b
      · obtain ⟨cs, b, rfl⟩ := hsel
        exfalso
        split at hv
        · rename_i u hu
          have := pureRun_run _ hu default
          simp only [execOp, Sem.run_bind] at this
          generalize hq : (Array.mapM (m := Sem) _ cs).run P default = q at this
          cases q <;> simp at this
        · cases hv
      · exact flat_pure h (fun cs b he => hsel ⟨cs, b, he⟩) hf hv
    · cases hv
end
end Ev
end Go.Proofs.YtmfpjdbgdmmjkaaDoor
namespace Go.Proofs.YtmfpjdbgdmmjkaaDoor
namespace Ev
open Go.RowKit

/-- What neither reads nor writes memory, nor asks the tape. -/
inductive QuietS {α : Type} : Sem α → Prop where
  | pure (a : α) : QuietS (.pure a)
  | program {k : Program → Sem α} (h : ∀ p, QuietS (k p)) : QuietS (.program k)
  | halt (h : Halt) : QuietS (.halt h)
  | mark (m : Mark) {k : Sem α} (h : QuietS k) : QuietS (.mark m k)

theorem QuietS.bind {α γ : Type} {s : Sem α} {f : α → Sem γ} (h : QuietS s) (hf : ∀ x, QuietS (f x)) : QuietS (s >>= f) := by
  show QuietS (s.bind f)
  induction h with
  | pure a => exact hf a
  | program h ih => exact .program ih
  | halt h => exact .halt h
  | mark m h ih => exact .mark m ih
theorem QuietS.pure' {α : Type} (a : α) : QuietS (Pure.pure a : Sem α) := .pure a
theorem quiet_typeInfo (t : TypeId) : QuietS (typeInfo t) :=
  .bind (.program fun p => .pure p) fun p => by cases p.info? t <;> first | exact .halt _ | exact .pure _
theorem quiet_underlying (t : TypeId) : QuietS (underlying t) :=
  .bind (.program fun p => .pure p) fun p => by cases p.underlying t <;> first | exact .halt _ | exact .pure _
theorem quiet_sizeOf (t : TypeId) : QuietS (sizeOf t) := .bind (quiet_typeInfo t) fun _ => .pure _
theorem quiet_listMapM {α γ : Type} {f : α → Sem γ} (h : ∀ x, QuietS (f x)) : ∀ l : List α, QuietS (l.mapM f)
  | [] => by simp only [List.mapM_nil]; exact .pure _
  | x :: r => by
    simp only [List.mapM_cons]
    exact .bind (h x) fun _ => .bind (quiet_listMapM h r) fun _ => .pure _
theorem quiet_mapM {α γ : Type} {f : α → Sem γ} (h : ∀ x, QuietS (f x)) (l : Array α) : QuietS (l.mapM f) := by
  rw [Array.mapM_eq_mapM_toList, map_eq_pure_bind]
  exact .bind (quiet_listMapM h _) fun _ => .pure _

section
variable {P : Program} {w0 : Base} {β : Pl} {t : Tr Value} {ρ : Operand → Value} {o : Oper}

theorem sim_quiet {α : Type} {s : Sem α} (h : QuietS s) : SimAt P w0 β s s fun _ x x' => x' = x := by
  induction h with
  | pure a => exact sim_pure rfl
  | program h ih =>
    intro a w x a1 he hr
    exact ih P a w x a1 he hr
  | halt h => exact sim_none fun _ => rfl
  | mark m h ih =>
    intro a w x a1 he hr
    exact ih a w x a1 he hr

theorem sim_zeroValue {ty : TypeId} (hz : zflat P ty = true) : SimAt P w0 β (zeroValue ty) (zeroValue ty) fun _ x x' => x' = x ∧ flat x = true := by
  refine sim_bind (sim_typeInfo ty) fun β1 i i' _ ⟨h, hi⟩ => ?_
  subst h
  unfold zflat at hz
  rw [hi] at hz
  simp only at hz
  cases hzz : i'.zero with
  | none => exact sim_none fun _ => rfl
  | some z =>
    rw [hzz] at hz
    simp only [Bool.and_eq_true] at hz
    exact sim_pure ⟨rfl, hz.1⟩

/-- Parts of a struct, an array or a slice that is built. -/
def Parts (β : Pl) : List (Nat × Value) → List (Nat × Value) → Prop
  | [], [] => True
  | x :: r, y :: s => x.1 = y.1 ∧ VR β x.2 y.2 ∧ Parts β r s
  | _, _ => False

theorem set_many {β : Pl} (off : Nat) : ∀ (l l' : List Value) (k : Nat) (cs cs' : Array Value), VL β l l' → VL β cs.toList cs'.toList →
    VL β ((l.zipIdx k).foldl (fun cs (x : Value × Nat) => cs.setIfInBounds (off + x.2) x.1) cs).toList ((l'.zipIdx k).foldl (fun cs (x : Value × Nat) => cs.setIfInBounds (off + x.2) x.1) cs').toList ∧
    ((l.zipIdx k).foldl (fun cs (x : Value × Nat) => cs.setIfInBounds (off + x.2) x.1) cs).size = cs.size := by
  intro l
  induction l with
  | nil =>
    intro l' k cs cs' hl hc
    have : l' = [] := List.eq_nil_of_length_eq_zero (by simpa using hl.1.symm)
    subst this
    exact ⟨hc, rfl⟩
  | cons v r ih =>
    intro l' k cs cs' hl hc
    cases l' with
    | nil => have := hl.1; simp at this
    | cons v' r' =>
      simp only [List.zipIdx_cons, List.foldl_cons]
      obtain ⟨h1, h2⟩ := ih r' (k + 1) (cs.setIfInBounds (off + k) v) (cs'.setIfInBounds (off + k) v') hl.tail (by
        rw [Array.toList_setIfInBounds, Array.toList_setIfInBounds]; exact hc.set _ hl.head)
      exact ⟨h1, by rw [h2]; simp⟩

theorem set_many_arr {β : Pl} (off : Nat) (l l' cs cs' : Array Value) (hl : VL β l.toList l'.toList) (hc : VL β cs.toList cs'.toList) :
    VL β (l.zipIdx.foldl (fun cs (x : Value × Nat) => cs.setIfInBounds (off + x.2) x.1) cs).toList (l'.zipIdx.foldl (fun cs (x : Value × Nat) => cs.setIfInBounds (off + x.2) x.1) cs').toList := by
  have h := (set_many off l.toList l'.toList 0 cs cs' hl hc).1
  rw [← Array.foldl_toList, ← Array.foldl_toList, Array.toList_zipIdx, Array.toList_zipIdx]
  exact h

theorem fill_rel {place : Nat → Option (Nat × Nat)} : ∀ (ps ps' : List (Nat × Value)) (cs cs' : Array Value), Parts β ps ps' → VL β cs.toList cs'.toList →
    ∀ c, Instr.fill place cs ps = some c → ∃ c', Instr.fill place cs' ps' = some c' ∧ VL β c.toList c'.toList := by
  intro ps
  induction ps with
  | nil =>
    intro ps' cs cs' hp hc c h
    cases ps' with
    | nil => simp only [Instr.fill, Option.some.injEq] at h; subst h; exact ⟨cs', rfl, hc⟩
    | cons y s => exact hp.elim
  | cons x r ih =>
    intro ps' cs cs' hp hc c h
    cases ps' with
    | nil => exact hp.elim
    | cons y s =>
      obtain ⟨h1, h2, h3⟩ := hp
      obtain ⟨xi, xv⟩ := x
      obtain ⟨yi, yv⟩ := y
      simp only at h1 h2
      subst h1
      simp only [Instr.fill] at h ⊢
      cases hpl : place xi with
      | none => rw [hpl] at h; cases h
      | some q =>
        obtain ⟨off, size⟩ := q
        rw [hpl] at h
        simp only at h ⊢
        have hcl := h2.cells
        have hs : yv.cells.size = xv.cells.size := by have := hcl.1; simpa using this.symm
        have hs2 : cs'.size = cs.size := by have := hc.1; simpa using this.symm
        rw [hs, hs2]
        split at h
        · cases h
        · rename_i hn
          rw [if_neg hn]
          exact ih s _ _ h3 (set_many_arr off _ _ _ _ hcl hc) c h

theorem Parts.map {ps : Array (Nat × Operand)} (h : ∀ x, x ∈ ps.toList.map (·.2) → VR β (eval t x) (ρ x)) :
    Parts β ((ps.map fun (i, x) => (i, eval t x)).toList) ((ps.map fun (i, x) => (i, ρ x)).toList) := by
  rw [Array.toList_map, Array.toList_map]
  generalize ps.toList = l at *
  induction l with
  | nil => exact trivial
  | cons x r ih => exact ⟨rfl, h x.2 (by simp), ih fun y hy => h y (by simp only [List.map_cons, List.mem_cons]; exact .inr hy)⟩

theorem sim_build {ty : TypeId} (hz : zflat P ty = true) {ps ps' : Array (Nat × Value)} (hp : Parts β ps.toList ps'.toList) :
    SimAt P w0 β (Instr.build ty ps) (Instr.build ty ps') VR := by
  have hpm : ∀ β1, Le β β1 → Parts β1 ps.toList ps'.toList := by
    intro β1 hle
    generalize ps.toList = l at *
    generalize ps'.toList = l' at *
    induction l generalizing l' with
    | nil => cases l' <;> exact hp
    | cons x r ih =>
      cases l' with
      | nil => exact hp
      | cons y s => exact ⟨hp.1, hp.2.1.mono hle, ih s hp.2.2⟩
  refine sim_bind (sim_zeroValue hz) fun β1 z z' h1 ⟨e, hf⟩ => ?_
  subst e
  have hzc : ∀ β2, VL β2 z'.cells.toList z'.cells.toList := fun β2 => (VR.flat hf : VR β2 z' z').cells
  refine sim_bind (sim_underlying ty) fun β2 d d' h2 ⟨e, hu⟩ => ?_
  subst e
  cases d' with
  | struct fields =>
    refine sim_bind (sim_quiet (quiet_mapM (fun f => .bind (quiet_sizeOf f.type) fun _ => .pure _) fields)) fun β3 pl pl' h3 e => ?_
    subst e
    cases hfl : Instr.fill (fun x => pl'[x]?) z'.cells ps.toList with
    | none => exact sim_none fun a => by simp only [hfl]; rfl
    | some c =>
      obtain ⟨c', k1, k2⟩ := fill_rel _ _ _ _ (hpm β3 ((h1.trans h2).trans h3)) (hzc β3) c hfl
      simp only [hfl, k1]
      exact sim_pure (VR.agg_of k2)
  | array n e =>
    refine sim_bind (sim_quiet (quiet_sizeOf e)) fun β3 s s' h3 e => ?_
    subst e
    cases hfl : Instr.fill (fun i => some (i * s', s')) z'.cells ps.toList with
    | none => exact sim_none fun a => by simp only [hfl]; rfl
    | some c =>
      obtain ⟨c', k1, k2⟩ := fill_rel _ _ _ _ (hpm β3 ((h1.trans h2).trans h3)) (hzc β3) c hfl
      simp only [hfl, k1]
      exact sim_pure (VR.agg_of k2)
  | _ => exact sim_none fun _ => rfl

theorem flat_cells {z : Value} (h : flat z = true) (i : Nat) : flat (z.cells[i]!) = true := by
  by_cases hi : i < z.cells.size
  · have hm : z.cells[i] ∈ z.cells.toList := by simp
    have h1 : z.cells[i]! = z.cells[i] := getElem!_pos z.cells i hi
    rw [h1]
    cases z with
    | agg cs =>
      simp only [flat, List.all_eq_true] at h
      exact atom_flat (h _ hm)
    | _ => simp only [Value.cells, List.getElem_toArray] at hi ⊢; simp only [List.size_toArray, List.length_cons, List.length_nil] at hi; simpa [Nat.lt_one_iff.1 hi] using h
  · rw [getElem!_neg z.cells i hi]; rfl

theorem sim_buildSlice {ty e : TypeId} (hu : P.underlying ty = some (.slice e)) (hz : zflat P e = true) (n : Nat) {ps ps' : Array (Nat × Value)} (hp : ∀ β1, Le β β1 → Parts β1 ps.toList ps'.toList) :
    SimAt P w0 β (Instr.buildSlice ty n ps) (Instr.buildSlice ty n ps') VR := by
  refine sim_bind (sim_underlying ty) fun β1 d d' h1 ⟨eq, hu'⟩ => ?_
  subst eq
  rw [hu] at hu'; injection hu' with hu'; subst hu'
  refine sim_bind (sim_sizeOf e) fun β2 s s' h2 ⟨eq, _⟩ => ?_
  subst eq
  dsimp only
  split
  · exact sim_none fun _ => rfl
  · have tail : ∀ β3, Le β2 β3 → ∀ zc zc' : Array Value, (zc' = zc ∧ ∀ i : Nat, flat (zc[i]!) = true) → SimAt P w0 β3
        (match Instr.fill (fun i => some (i * s', s')) ((Array.range (n * s')).map (fun x => zc[x % zc.size]!)) ps.toList with
          | some cells => do pure (.slice (some (← newRow e cells)) n n)
          | _ => stuck "buildSlice: a part of the wrong size" : Sem Value)
        (match Instr.fill (fun i => some (i * s', s')) ((Array.range (n * s')).map (fun x => zc'[x % zc'.size]!)) ps'.toList with
          | some cells => do pure (.slice (some (← newRow e cells)) n n)
          | _ => stuck "buildSlice: a part of the wrong size" : Sem Value) VR := by
      intro β3 h3 zc zc' ⟨eq, hzc⟩
      subst eq
      have hcl : VL β3 ((Array.range (n * s')).map (fun x => zc'[x % zc'.size]!)).toList ((Array.range (n * s')).map (fun x => zc'[x % zc'.size]!)).toList := by
        refine .of_flat fun v hv => ?_
        simp only [Array.toList_map, List.mem_map] at hv
        obtain ⟨i, _, rfl⟩ := hv
        exact hzc _
      cases hfl : Instr.fill (fun i => some (i * s', s')) ((Array.range (n * s')).map (fun x => zc'[x % zc'.size]!)) ps.toList with
      | none => exact sim_none fun a => rfl
      | some c =>
        obtain ⟨c', k1, k2⟩ := fill_rel _ _ _ _ (hp β3 ((h1.trans h2).trans h3)) hcl c hfl
        simp only [k1]
        exact sim_bind (sim_newRow k2) fun β4 r r' _ hna => sim_pure (hna.slice n n)
    split
    · exact sim_bind (sim_pure (R := fun _ (zc zc' : Array Value) => zc' = zc ∧ ∀ i : Nat, flat (zc[i]!) = true) ⟨rfl, fun i => by simp; rfl⟩) fun β3 zc zc' h3 h => tail β3 h3 zc zc' h
    · refine sim_bind (sim_zeroValue hz) fun β3 z z' h3 ⟨eq, hf⟩ => ?_
      subst eq
      exact sim_bind (sim_pure (R := fun _ (zc zc' : Array Value) => zc' = zc ∧ ∀ i : Nat, flat (zc[i]!) = true) ⟨rfl, flat_cells hf⟩) fun β4 zc zc' h4 h => tail β4 (h3.trans h4) zc zc' h

theorem sim_box {e : TypeId} {v v' : Value} (hv : VR β v v') : SimAt P w0 β (Instr.box e v) (Instr.box e v') VR :=
  sim_bind (sim_newRow hv.cells) fun _ _ _ _ h => sim_pure (.ptr h.1)
theorem sim_alloc {e : TypeId} (hz : zflat P e = true) : SimAt P w0 β (Instr.alloc e true (.tuple #[])) (Instr.alloc e true (.tuple #[])) VR := by
  refine sim_bind (sim_zeroValue hz) fun β1 z z' _ ⟨eq, hf⟩ => ?_
  subst eq
  exact sim_bind (sim_newRow (VR.flat hf : VR β1 z' z').cells) fun _ _ _ _ h => sim_pure (.ptr h.1)
theorem arun_panic {α : Type} (m : String) (a : AW) : arun P (runtimePanic (.error m) : Sem α) a = none := rfl
theorem sim_makeSlice {ty e : TypeId} (hu : P.underlying ty = some (.slice e)) (hz : zflat P e = true) (l c : Value) :
    SimAt P w0 β (Instr.makeSlice ty l c) (Instr.makeSlice ty l c) VR := by
  refine sim_bind (sim_underlying ty) fun β1 d d' h1 ⟨eq, hu'⟩ => ?_
  subst eq
  rw [hu] at hu'; injection hu' with hu'; subst hu'
  have qi : ∀ v, QuietS (asInt v) := by
    intro v
    refine .bind ?_ fun _ => .pure _
    cases v with
    | int k n => exact .pure _
    | pointer a => cases a <;> exact .halt _
    | _ => exact .halt _
  refine sim_bind (sim_quiet (qi l)) fun β2 l1 l2 h2 eq => ?_
  subst eq
  refine sim_bind (sim_quiet (qi c)) fun β3 c1 c2 h3 eq => ?_
  subst eq
  refine sim_bind (sim_typeInfo e) fun β4 i i' h4 ⟨eq, hi⟩ => ?_
  subst eq
  dsimp only
  have main : ∀ β5, SimAt P w0 β5
      (do askRoom ((IntKind.i64.wrap c2).toNat * i'.bytes)
          let n := (IntKind.i64.wrap c2).toNat * (← sizeOf e)
          let zero ← if n = 0 then pure #[] else do pure (← zeroValue e).cells
          let a ← newRow e ((Array.range n).map (zero[· % zero.size]!))
          pure (.slice (some a) (IntKind.i64.wrap l2).toNat (IntKind.i64.wrap c2).toNat) : Sem Value)
      (do askRoom ((IntKind.i64.wrap c2).toNat * i'.bytes)
          let n := (IntKind.i64.wrap c2).toNat * (← sizeOf e)
          let zero ← if n = 0 then pure #[] else do pure (← zeroValue e).cells
          let a ← newRow e ((Array.range n).map (zero[· % zero.size]!))
          pure (.slice (some a) (IntKind.i64.wrap l2).toNat (IntKind.i64.wrap c2).toNat) : Sem Value) VR := by
    intro β5
    refine sim_bind (R := fun _ _ _ => True) ?_ fun β6 _ _ h6 _ => ?_
    · refine (sim_quiet ?_).mono fun _ _ _ _ _ => trivial
      unfold askRoom
      split
      · exact .mark _ (.pure _)
      · exact .pure _
    · refine sim_bind (sim_sizeOf e) fun β7 s s' h7 ⟨eq, _⟩ => ?_
      subst eq
      dsimp only
      have tail : ∀ β8, ∀ zc zc' : Array Value, (zc' = zc ∧ ∀ i : Nat, flat (zc[i]!) = true) → SimAt P w0 β8
          (do let a ← newRow e ((Array.range ((IntKind.i64.wrap c2).toNat * s')).map (zc[· % zc.size]!))
              pure (.slice (some a) (IntKind.i64.wrap l2).toNat (IntKind.i64.wrap c2).toNat) : Sem Value)
          (do let a ← newRow e ((Array.range ((IntKind.i64.wrap c2).toNat * s')).map (zc'[· % zc'.size]!))
              pure (.slice (some a) (IntKind.i64.wrap l2).toNat (IntKind.i64.wrap c2).toNat) : Sem Value) VR := by
        intro β8 zc zc' ⟨eq, hzc⟩
        subst eq
        have hcl : ∀ n, VL β8 ((Array.range n).map (fun x => zc'[x % zc'.size]!)).toList ((Array.range n).map (fun x => zc'[x % zc'.size]!)).toList := by
          intro n
          refine .of_flat fun v hv => ?_
          simp only [Array.toList_map, List.mem_map] at hv
          obtain ⟨i, _, rfl⟩ := hv
          exact hzc _
        exact sim_bind (sim_newRow (hcl _)) fun β9 r r' _ hna => sim_pure (hna.slice _ _)
      split
      · exact sim_bind (sim_pure (R := fun _ (zc zc' : Array Value) => zc' = zc ∧ ∀ i : Nat, flat (zc[i]!) = true) ⟨rfl, fun i => by simp; rfl⟩) fun β3 zc zc' h3 h => tail β3 zc zc' h
      · refine sim_bind (sim_zeroValue hz) fun β3 z z' h3 ⟨eq, hf⟩ => ?_
        subst eq
        exact sim_bind (sim_pure (R := fun _ (zc zc' : Array Value) => zc' = zc ∧ ∀ i : Nat, flat (zc[i]!) = true) ⟨rfl, flat_cells hf⟩) fun β4 zc zc' h4 h => tail β4 zc zc' h
  split
  · split
    · exact sim_none fun _ => rfl
    · split
      · exact sim_none fun _ => rfl
      · refine sim_none fun a => ?_
        rfl
  · exact main β4
end
end Ev
end Go.Proofs.YtmfpjdbgdmmjkaaDoor
namespace Go.Proofs.YtmfpjdbgdmmjkaaDoor
namespace Ev
open Go.RowKit

section
variable {P : Program} {w0 : Base} {β : Pl} {t : Tr Value} {ρ : Operand → Value} {o : Oper}

def isAggD : TypeDesc → Bool
  | .struct _ | .array _ _ => true
  | _ => false

theorem loadVar_sound {a a1 : AW} {w : World} (he : EmbR P w0 β a w) {ty : TypeId} {p p' : Addr} (h2 : VA β p p') {v2 : Value} (hr : arun P (loadVar ty p) a = some (v2, a1)) :
    ∃ v', (loadVar ty p').run P w = .ok v' w ∧ VR β v2 v' := by
  -- the loads leave the world alone
  have hl : ∀ (n : Nat) (p p' : Addr) (i : Nat) (acc acc' : Array Value), VA β p p' → VL β acc.toList acc'.toList → ∀ r, arun P (loadCellsFrom p i n acc) a = some r →
      ∃ l', (loadCellsFrom p' i n acc').run P w = .ok l' w ∧ VL β r.1.toList l'.toList := by
    intro n
    induction n with
    | zero =>
      intro p p' i acc acc' _ hl r hr
      simp only [loadCellsFrom, Pure.pure, arun, Option.some.injEq] at hr
      subst hr
      exact ⟨acc', rfl, hl⟩
    | succ n ih =>
      intro p p' i acc acc' hp hl r hr
      simp only [loadCellsFrom] at hr ⊢
      have hb : arun P (Sem.bind (load (p.add i)) fun v => loadCellsFrom p (i + 1) n (acc.push v)) a = some r := hr
      rw [arun_bind] at hb
      cases hc : a.cell (p.add i) with
      | none => simp [load, arun, hc] at hb
      | some v =>
        simp only [load, arun, hc] at hb
        obtain ⟨v', k1, k2⟩ := he.cell (hp.add i) hc
        obtain ⟨l', k3, k4⟩ := ih p p' (i + 1) (acc.push v) (acc'.push v') hp (by rw [Array.toList_push, Array.toList_push]; exact hl.push k2) r hb
        exact ⟨l', by rw [Sem.run_bind, run_load, k1]; exact k3, k4⟩
  unfold loadVar at hr ⊢
  have hb : arun P (Sem.bind (isAgg ty) fun b => if b = true then (do pure (.agg (← loadCells p (← sizeOf ty)))) else load p) a = some (v2, a1) := hr
  rw [arun_bind] at hb
  cases hu : P.underlying ty with
  | none =>
    have : arun P (isAgg ty) a = none := by
      show arun P (Sem.bind (underlying ty) _) a = none
      rw [arun_bind]
      have : arun P (underlying ty) a = none := by
        show arun P (Sem.bind program _) a = none
        simp [arun_bind, program, arun, hu, stuck]
      rw [this]
    rw [this] at hb; cases hb
  | some d =>
    have q1 : arun P (underlying ty) a = some (d, a) := by
      show arun P (Sem.bind program _) a = _
      simp [arun_bind, program, arun, hu, Pure.pure]
    have agg : ∀ b, isAggD d = b → arun P (isAgg ty) a = some (b, a) ∧ (isAgg ty).run P w = .ok b w := by
      intro b hb
      constructor
      · show arun P (Sem.bind (underlying ty) _) a = _
        rw [arun_bind, q1]
        subst hb
        cases d <;> rfl
      · unfold isAgg
        rw [Sem.run_bind, run_underlying hu]
        subst hb
        cases d <;> rfl
    cases hb2 : isAggD d with
    | true =>
      obtain ⟨g1, g2⟩ := agg true hb2
      rw [g1] at hb
      simp only [if_true] at hb
      have hb' : arun P (Sem.bind (sizeOf ty) fun n => Sem.bind (loadCells p n) fun l => pure (.agg l)) a = some (v2, a1) := hb
      cases hi : P.info? ty with
      | none =>
        have : arun P (sizeOf ty) a = none := by
          show arun P (Sem.bind (Sem.bind program _) _) a = none
          simp [arun_bind, program, arun, hi, stuck]
        rw [arun_bind, this] at hb'; cases hb'
      | some info =>
        have q2 : arun P (sizeOf ty) a = some (info.size, a) := by
          show arun P (Sem.bind (Sem.bind program _) _) a = _
          simp [arun_bind, program, arun, hi, Pure.pure]
        rw [arun_bind, q2] at hb'
        simp only at hb'
        rw [arun_bind] at hb'
        cases hlc : arun P (loadCells p info.size) a with
        | none => rw [hlc] at hb'; cases hb'
        | some r =>
          rw [hlc] at hb'
          obtain ⟨r1, r2⟩ := r
          simp only [Pure.pure, arun, Option.some.injEq, Prod.mk.injEq] at hb'
          obtain ⟨e1, e2⟩ := hb'
          subst e1
          obtain ⟨l', k1, k2⟩ := hl info.size p p' 0 #[] #[] h2 (.nil β) _ hlc
          refine ⟨.agg l', ?_, VR.agg_of k2⟩
          rw [Sem.run_bind, g2]
          simp only [Result.andThen_ok, if_true, Sem.run_bind]
          have q3 : (sizeOf ty).run P w = .ok info.size w := by simp [sizeOf, typeInfo, hi]
          rw [q3]
          simp only [Result.andThen_ok]
          have k1' : (loadCells p' info.size).run P w = .ok l' w := k1
          rw [k1']
          rfl
    | false =>
      obtain ⟨g1, g2⟩ := agg false hb2
      rw [g1] at hb
      simp only [Bool.false_eq_true, if_false, load, arun] at hb
      cases hc : a.cell p with
      | none => rw [hc] at hb; cases hb
      | some v =>
        rw [hc] at hb
        simp only [Option.some.injEq, Prod.mk.injEq] at hb
        obtain ⟨e1, e2⟩ := hb
        subst e1
        obtain ⟨v', k1, k2⟩ := he.cell h2 hc
        refine ⟨v', ?_, k2⟩
        rw [Sem.run_bind, g2]
        simp only [Result.andThen_ok, Bool.false_eq_true, if_false, run_load, k1]

theorem bound_run {d : Int} {lo : Option Value} {l : Int} (h : boundOf d lo = some l) : lo = none ∧ l = d ∨ ∃ k, lo = some (.int k l) := by
  cases lo with
  | none => simp only [boundOf, Option.some.injEq] at h; exact .inl ⟨rfl, h.symm⟩
  | some v =>
    cases v <;> simp [boundOf] at h
    subst h
    exact .inr ⟨_, rfl⟩

/-- The bounds of s[lo:hi]. -/
theorem bounds_run {isSlice : Bool} {n cap : Nat} {lo hi : Option Value} {l h : Int} (hlo : lo = none ∧ l = 0 ∨ ∃ k, lo = some (.int k l)) (hhi : hi = none ∧ h = n ∨ ∃ k, hi = some (.int k h))
    (h0 : 0 ≤ l) (h1 : l ≤ h) (h2 : h ≤ cap) (w : World) : (Instr.sliceBounds isSlice n cap lo hi none).run P w = .ok (l.toNat, h.toNat, cap) w := by
  have hh : 0 ≤ h := by omega
  have hth : ((h.toNat : Nat) : Int) = h := Int.toNat_of_nonneg hh
  rcases hlo with ⟨rfl, rfl⟩ | ⟨k, rfl⟩ <;> rcases hhi with ⟨rfl, rfl⟩ | ⟨k', rfl⟩
  · simp [Instr.sliceBounds]
  · simp [Instr.sliceBounds, Instr.sliceBound, asIntOf, hh, h2]
  · have : l ≤ (n : Int) := h1
    simp [Instr.sliceBounds, Instr.sliceBound, asIntOf, h0, this]
  · have h3 : ¬ max h 0 < l := by omega
    simp [Instr.sliceBounds, Instr.sliceBound, asIntOf, hh, h2, h0, h3]

theorem VR.optInt {v v' : Option Value} (h : ∀ x, v = some x → ∃ x', v' = some x' ∧ VR β x x') (hn : v = none → v' = none) {l : Int} {n : Int}
    (hl : v = none ∧ l = n ∨ ∃ k, v = some (.int k l)) : v' = none ∧ l = n ∨ ∃ k, v' = some (.int k l) := by
  rcases hl with ⟨rfl, rfl⟩ | ⟨k, rfl⟩
  · exact .inl ⟨hn rfl, rfl⟩
  · obtain ⟨x', h1, h2⟩ := h _ rfl
    exact .inr ⟨k, by rw [h1, h2.int]⟩

theorem slice_sound {a : AW} {w : World} (he : EmbR P w0 β a w) {ty : TypeId} {x x' : Value} {lo hi lo' hi' : Option Value} (hx : VR β x x')
    (hlo : ∀ y, lo = some y → ∃ y', lo' = some y' ∧ VR β y y') (hlo0 : lo = none → lo' = none) (hhi : ∀ y, hi = some y → ∃ y', hi' = some y' ∧ VR β y y') (hhi0 : hi = none → hi' = none)
    {v : Value} (hv : evSlice P a ty x lo hi = some v) : ∃ v', (Instr.sliceAt ty x' lo' hi' none).run P w = .ok v' w ∧ VR β v v' := by
  unfold evSlice at hv
  split at hv
  · cases hv
  · rename_i l hl0
    have hl := VR.optInt hlo hlo0 (bound_run hl0)
    split at hv
    · rename_i p n c e hu
      obtain ⟨p', bi, rfl, hp, hbi⟩ := hx.sliceOf
      split at hv
      · rename_i h b hh0 hb
        have hh := VR.optInt hhi hhi0 (bound_run hh0)
        split at hv
        · rename_i hc
          obtain ⟨c1, c2, c3, c4, c5, c6⟩ := hc
          injection hv with hv
          have g7 : b.kind = 0 → bi.ext = 0 := by
            intro h0
            obtain ⟨bj, cur, fz, g1, _, _, _, _, _, g7, _⟩ := he.blk _ b hb (by omega)
            rw [hbi] at g1; injection g1 with g1; subst g1
            exact (g7 h0).1
          have hrun := bounds_run (P := P) (isSlice := true) (cap := c + bi.ext) (n := n) hl hh c1 c2 (by omega) w
          obtain ⟨info, hi2, hsz⟩ := cellsOf_info c6
          refine ⟨.slice (if c + bi.ext = l.toNat then some p' else some (p'.add (l.toNat * info.size))) (h.toNat - l.toNat) (c + bi.ext - l.toNat), ?_, ?_⟩
          · simp [Instr.sliceAt, Instr.slice, run_underlying hu, hrun, sizeOf, typeInfo, hi2]
          · subst hv
            rw [← hsz]
            have hcap : c + bi.ext - l.toNat = (c - l.toNat) + bi.ext := by omega
            rw [hcap]
            by_cases hce : c = l.toNat
            · have hk : b.kind = 0 := by
                rcases c5 with c5 | c5
                · exact c5
                · omega
              have hext := g7 hk
              rw [if_pos hce, if_pos (by omega)]
              exact .slice hp hbi
            · rw [if_neg hce, if_neg (by omega)]
              refine .slice (hp.add _) ?_
              have : (p.add (l.toNat * info.size)).block = p.block := by unfold Addr.add; split <;> rfl
              rw [this]; exact hbi
        · cases hv
      · cases hv
    · rename_i e hu
      have := hx.flat_eq (v := .slice none 0 0) rfl
      subst this
      split at hv
      · rename_i h hh0
        have hh := VR.optInt hhi hhi0 (bound_run hh0)
        split at hv
        · rename_i hc
          obtain ⟨rfl, rfl, c6⟩ := hc
          injection hv with hv
          have hrun := bounds_run (P := P) (isSlice := true) (cap := 0) (n := 0) hl hh (by omega) (by omega) (by omega) w
          obtain ⟨info, hi2, hsz⟩ := cellsOf_info c6
          refine ⟨.slice none 0 0, ?_, by subst hv; exact .flat rfl⟩
          simp only [Int.toNat_zero] at hrun
          simp [Instr.sliceAt, Instr.slice, run_underlying hu, hrun, sizeOf, typeInfo, hi2]
        · cases hv
      · cases hv
    · rename_i p n e hu
      obtain ⟨p', rfl, hp⟩ := hx.pointer
      split at hv
      · rename_i h b hh0 hb
        have hh := VR.optInt hhi hhi0 (bound_run hh0)
        split at hv
        · rename_i hc
          obtain ⟨c1, c2, c3, c4, c6⟩ := hc
          injection hv with hv
          obtain ⟨bi, cur, fz, g1, _, _, _, _, _, g7, _⟩ := he.blk _ b hb (by omega)
          have hext := (g7 c4).1
          have hrun := bounds_run (P := P) (isSlice := false) (cap := n) (n := n) hl hh c1 c2 (by omega) w
          obtain ⟨info, hi2, hsz⟩ := cellsOf_info c6
          refine ⟨.slice (some (if n = l.toNat then p' else p'.add (l.toNat * info.size))) (h.toNat - l.toNat) (n - l.toNat), ?_, ?_⟩
          · simp [Instr.sliceAt, Instr.sureAddr, run_underlying hu, hrun, sizeOf, typeInfo, hi2]
          · subst hv
            rw [← hsz]
            have e0 : n - l.toNat = n - l.toNat + bi.ext := by omega
            rw [e0]
            by_cases hce : n = l.toNat
            · rw [if_pos hce, if_pos hce]
              have := VR.slice (n := h.toNat - l.toNat) (c := n - l.toNat) hp g1
              rw [hext] at this ⊢
              exact this
            · rw [if_neg hce, if_neg hce]
              have hblk : (p.add (l.toNat * info.size)).block = p.block := by unfold Addr.add; split <;> rfl
              have := VR.slice (n := h.toNat - l.toNat) (c := n - l.toNat) (hp.add (l.toNat * info.size)) (by rw [hblk]; exact g1)
              rw [hext] at this ⊢
              exact this
        · cases hv
      · cases hv
    · cases hv
theorem VR.tuple2 {k v x' : Value} {kv : Array Value} (hkv : kv.toList = [k, v]) (h : VR β (.tuple kv) x') : ∃ k' v', x' = .tuple #[k', v'] ∧ VR β k k' ∧ VR β v v' := by
  have e : kv = #[k, v] := by rw [← Array.toArray_toList (xs := kv), hkv]
  subst e
  cases h with
  | flat h =>
    simp only [Ev.flat, List.all_eq_true] at h
    exact ⟨k, v, rfl, .flat (atom_flat (h k (by simp))), .flat (atom_flat (h v (by simp)))⟩
  | tuple hs h =>
    rename_i cs'
    have hs' : cs'.size = 2 := by simpa using hs.symm
    have e0 : cs' = #[cs'[0], cs'[1]] := by
      apply Array.ext
      · simp [hs']
      · intro i h1 h2
        rcases i with _ | _ | i
        · rfl
        · rfl
        · omega
    refine ⟨cs'[0], cs'[1], by rw [← e0], h 0 k _ rfl (Array.getElem?_eq_getElem _), h 1 v _ rfl (Array.getElem?_eq_getElem _)⟩
theorem keyKind_spec {kt : TypeId} {d : TypeDesc} (h : keyKind P kt = some d) : P.underlying kt = some d ∧ ((∃ k, d = .int k) ∨ d = .string ∨ d = .bool) := by
  unfold keyKind at h
  split at h <;> first | (injection h with h; subst h; exact ⟨‹_›, by simp⟩) | cases h
theorem sameNow_flat {d : TypeDesc} {k k' : Value} {r : Bool} (h : Instr.sameNow d k k' = some r) : flat k = true ∧ flat k' = true ∧ (r = true → k' = k) ∧ ∀ n, Instr.sameBits n k k = true := by
  unfold Instr.sameNow at h
  split at h
  · split at h
    · rename_i hk
      injection h with h; subst h; subst hk
      refine ⟨rfl, rfl, fun h => ?_, ?_⟩
      · simp at h; rw [h]
      · intro n; simp [Instr.sameBits]
    · cases h
  · injection h with h; subst h
    exact ⟨rfl, rfl, fun h => by rw [(MapKept.bytes_beq _ _).1 h], fun n => by simp [Instr.sameBits, MapKept.bytes_beq]⟩
  · injection h with h; subst h
    exact ⟨rfl, rfl, fun h => by simp at h; rw [h], fun n => by simp [Instr.sameBits]⟩
  · cases h
theorem mapFind_sound {d : TypeDesc} {k : Value} : ∀ (l : List Value) (es : List MapEntry) (i : Nat), VL β l (es.map entryV) → ∀ r, mapFind d k l i = some r →
    (r = none ∧ Instr.findNow d k es i = some none) ∨ ∃ j v v', r = some (i + j, v) ∧ Instr.findNow d k es i = some (some (i + j, v')) ∧ VR β v v' ∧ j < es.length ∧ ∀ e, es[j]? = some e → e.key = k := by
  intro l
  induction l with
  | nil =>
    intro es i hl r hr
    have : es = [] := by
      cases es with
      | nil => rfl
      | cons e es => have := hl.1; simp at this
    subst this
    simp only [mapFind, Option.some.injEq] at hr
    exact .inl ⟨hr.symm, rfl⟩
  | cons x l ih =>
    intro es i hl r hr
    cases es with
    | nil => have := hl.1; simp at this
    | cons e es =>
      simp only [List.map_cons] at hl
      have hh := hl.head
      unfold mapFind at hr
      split at hr
      case h_2 => cases hr
      rename_i kv
      split at hr
      case h_2 => cases hr
      rename_i k1 v1 hkv
      obtain ⟨k2, v2, h1, h2, h3⟩ := hh.tuple2 hkv
      unfold entryV at h1
      injection h1 with h1
      have e0 := congrArg Array.toList h1
      simp only [List.cons.injEq, and_true] at e0
      obtain ⟨e1, e2⟩ := e0
      split at hr
      · rename_i hs
        injection hr with hr; subst hr
        obtain ⟨_, f2, f3, _⟩ := sameNow_flat hs
        have hk := h2.flat_eq f2
        refine .inr ⟨0, v1, v2, rfl, ?_, h3, by simp, fun e' he' => ?_⟩
        · simp only [Instr.findNow, e1, hk, hs, e2, Nat.add_zero]
        · simp at he'; subst he'; rw [e1, hk]; exact f3 rfl
      · rename_i hs
        obtain ⟨_, f2, _, _⟩ := sameNow_flat hs
        have hk := h2.flat_eq f2
        rcases ih es (i + 1) hl.tail r hr with ⟨g1, g2⟩ | ⟨j, v, v', g1, g2, g3, g4, g5⟩
        · refine .inl ⟨g1, ?_⟩
          simp only [Instr.findNow, e1, hk, hs, g2]
        · refine .inr ⟨j + 1, v, v', by rw [g1]; congr 2; omega, ?_, g3, by simp; omega, fun e' he' => g5 e' (by simpa using he')⟩
          simp only [Instr.findNow, e1, hk, hs, g2]
          congr 3; omega
      · cases hr
theorem mapOf_some {a : AW} {r : Nat} {l : List Value} (h : a.mapOf r = some l) : ∃ b, a.heap.get r = some b ∧ b.kind = 2 ∧ b.cells = mapMark :: l := by
  unfold AW.mapOf at h
  split at h
  · rename_i b hb
    split at h
    · rename_i h1 h2
      injection h with h; subst h
      exact ⟨b, hb, h1, h2⟩
    · cases h
  · cases h
theorem VR.mapOf {r : Nat} {v' : Value} (h : VR β (.map (some r)) v') : ∃ bi, β r = some bi ∧ v' = .map (some bi.blk) := by
  cases h with
  | flat h => simp [Ev.flat, atom] at h
  | map h => exact ⟨_, h, rfl⟩
theorem lookup_sound {a : AW} {w : World} (he : EmbR P w0 β a w) {ty : TypeId} {m m' k k' : Value} {ok : Bool} (hm : VR β m m') (hk : VR β k k') {v : Value} (hv : evLookup P a ty m k ok = some v) :
    ∃ v', (Instr.lookup ty m' k' ok).run P w = .ok v' w ∧ VR β v v' := by
  unfold evLookup at hv
  split at hv
  case h_2 => cases hv
  rename_i r kt et hu
  split at hv
  case h_2 => cases hv
  rename_i d l hd hl
  split at hv
  case isFalse => cases hv
  rename_i hf
  rw [Bool.and_eq_true] at hf
  obtain ⟨hf, hz⟩ := hf
  have := hk.flat_eq hf
  subst this
  obtain ⟨bi, hbi, rfl⟩ := hm.mapOf
  obtain ⟨b, hb, hk2, hcl⟩ := mapOf_some hl
  obtain ⟨bj, es, clock, h1, _, h3, h4⟩ := he.maps.map r b l hb hk2 hcl
  rw [hbi] at h1; injection h1 with h1; subst h1
  obtain ⟨hkt, hkd⟩ := keyKind_spec hd
  have hchk : ∀ e, (Instr.checkKey e 10000 kt k').run P w = .ok () w := by
    intro e
    suffices h : ∀ n, (Instr.checkKey e (n + 1) kt k').run P w = .ok () w from h 9999
    intro n
    unfold Instr.checkKey
    rw [Sem.run_bind, run_underlying hkt]
    rcases hkd with ⟨q, rfl⟩ | rfl | rfl <;> cases k' <;> rfl
  have hget := MapKept.run_getObj_map (P := P) h3
  split at hv
  · rename_i i v1 hfi
    rcases mapFind_sound l es.toList 0 h4 _ hfi with ⟨g1, _⟩ | ⟨j, v2, v', g1, g2, g3, _⟩
    · cases g1
    · simp only [Option.some.injEq, Prod.mk.injEq] at g1
      obtain ⟨_, rfl⟩ := g1
      injection hv with hv
      have hfk := MapKept.run_findKey (P := P) (w := w) hkt g2
      refine ⟨if ok then .tuple #[v', .bool true] else v', ?_, ?_⟩
      · simp [Instr.lookup, run_underlying hu, hget, hchk, hfk]
      · subst hv
        cases ok
        · exact g3
        · refine .tuple rfl fun i x x' h1 h2 => ?_
          rcases i with _ | _ | i
          · simp at h1 h2; subst h1; subst h2; exact g3
          · simp at h1 h2; subst h1; subst h2; exact .flat rfl
          · simp at h1
  · rename_i hfi
    rcases mapFind_sound l es.toList 0 h4 _ hfi with ⟨_, g2⟩ | ⟨j, v2, v', g1, _⟩
    · split at hv
      case h_2 => cases hv
      rename_i z hzz
      injection hv with hv
      have hfk := MapKept.run_findKey (P := P) (w := w) hkt g2
      unfold zflat at hz
      cases hi : P.info? et with
      | none => rw [hi] at hz; cases hz
      | some inf =>
        rw [hi] at hz hzz
        simp only [Option.bind_some] at hzz
        dsimp only at hz
        rw [hzz] at hz
        simp only [Bool.and_eq_true] at hz
        refine ⟨if ok then .tuple #[z, .bool false] else z, ?_, ?_⟩
        · simp [Instr.lookup, run_underlying hu, hget, hchk, hfk, zeroValue, typeInfo, hi, hzz]
        · subst hv
          cases ok
          · exact .flat hz.1
          · refine .tuple rfl fun i x x' h1 h2 => ?_
            rcases i with _ | _ | i
            · simp at h1 h2; subst h1; subst h2; exact .flat hz.1
            · simp at h1 h2; subst h1; subst h2; exact .flat rfl
            · simp at h1
    · cases g1
  · cases hv
theorem load_sound {a : AW} {w : World} (he : EmbR P w0 β a w) (h : Ops β t ρ o.op) {v : Value} (hv : evLoad P t o a = some v) :
    ∃ v', (execOp ρ o).run P w = .ok (.value v') w ∧ VR β v v' := by
  obtain ⟨dst, op, type, pos, after, guard⟩ := o
  unfold evLoad at hv
  simp only at hv h
  split at hv
  · rename_i ty x
    have hx := h x (by simp [Op.operands])
    split at hv
    · rename_i p hp
      rw [hp] at hx
      obtain ⟨p', h1, h2⟩ := hx.pointer
      split at hv
      · rename_i v2 a1 hr
        injection hv with hv; subst hv
        obtain ⟨v', k1, k2⟩ := loadVar_sound he h2 hr
        refine ⟨v', ?_, k2⟩
        simp only [execOp, Instr.loadAt, h1, Instr.sureAddr, pure_bind, Sem.run_bind, k1, Result.andThen_ok, Sem.run_pure]
      · cases hv
    · cases hv
  · rename_i ty x lo hi
    cases hsl : evSlice P a ty (eval t x) (lo.map (eval t)) (hi.map (eval t)) with
    | none =>
      rw [hsl] at hv
      obtain ⟨v', k1, k2⟩ := pure_sound (o := ⟨dst, .slice ty x lo hi none, type, pos, after, guard⟩) h hv
      exact ⟨v', k1 w, k2⟩
    | some v1 =>
      rw [hsl] at hv
      injection hv with hv; subst hv
      obtain ⟨v', k1, k2⟩ := slice_sound he (lo' := lo.map ρ) (hi' := hi.map ρ) (h x (by simp [Op.operands])) (by
          intro y hy
          cases lo with
          | none => cases hy
          | some z => simp only [Option.map_some, Option.some.injEq] at hy; subst hy; exact ⟨_, rfl, h z (by simp [Op.operands])⟩) (by cases lo <;> simp) (by
          intro y hy
          cases hi with
          | none => cases hy
          | some z => simp only [Option.map_some, Option.some.injEq] at hy; subst hy; exact ⟨_, rfl, h z (by cases lo <;> simp [Op.operands])⟩) (by cases hi <;> simp) hsl
      refine ⟨v', ?_, k2⟩
      simp only [execOp, Option.map_none, Sem.run_bind, k1, Result.andThen_ok, Sem.run_pure]
  · rename_i ty m k ok
    obtain ⟨v', k1, k2⟩ := lookup_sound he (h m (by simp [Op.operands])) (h k (by simp [Op.operands])) hv
    refine ⟨v', ?_, k2⟩
    simp only [execOp, Sem.run_bind, k1, Result.andThen_ok, Sem.run_pure]
  · cases hv

end
end Ev
end Go.Proofs.YtmfpjdbgdmmjkaaDoor
namespace Go.Proofs.YtmfpjdbgdmmjkaaDoor
namespace Ev
open Go.RowKit

section
variable {P : Program} {w0 : Base} {β : Pl}

theorem add_off {a : Addr} (h : a.spot = none) (j : Nat) : a.add j = ⟨a.block, a.off + j, none⟩ := by
  obtain ⟨b, o, s⟩ := a
  simp only at h; subst h
  unfold Addr.add
  by_cases hj : j = 0
  · simp [hj]
  · simp [hj]

/-- The source's cells, at the model's. -/
theorem src_sound {a : AW} {w : World} (he : EmbR P w0 β a w) {size n : Nat} {x x' : Value} {new : List Value} (hx : VR β x x') (hs : srcCells a size x = some (n, new)) :
    ∃ new', VL β new new' ∧ new.length = n * size ∧ (∀ W : World, (Builtin.lenOf x').run P W = .ok n W) ∧
      ∀ k, k ≤ n → ∀ W : World, W.heap = w.heap → (Builtin.firstCells size k x').run P W = .ok (new'.take (k * size)).toArray W := by
  unfold srcCells at hs
  split at hs
  · simp only [Option.some.injEq, Prod.mk.injEq] at hs
    obtain ⟨rfl, rfl⟩ := hs
    have := hx.flat_eq (v := .slice none 0 0) rfl
    subst this
    refine ⟨[], .nil β, by simp, fun W => rfl, fun k _ W _ => ?_⟩
    simp [Builtin.firstCells]
  · rename_i p m c
    split at hs
    · rename_i b hsp hb
      split at hs
      · rename_i hc
        simp only [Option.some.injEq, Prod.mk.injEq] at hs
        obtain ⟨rfl, rfl⟩ := hs
        obtain ⟨p', bi, rfl, hp, hbi⟩ := hx.sliceOf
        obtain ⟨cs, g8, g4⟩ := he.cells hb hc.1 hbi
        obtain ⟨_, bk, hbk, rfl⟩ := hp
        rw [hbi] at hbk; injection hbk with hbk; subst hbk
        have hlen : (cs.drop p.off).length = b.cells.length - p.off := by
          simp only [List.length_drop]; rw [g8.1]
        refine ⟨(cs.drop p.off).take (m * size), (g8.drop _).take _, ?_, fun W => rfl, fun k hk W hW => ?_⟩
        · simp only [List.length_take, List.length_drop]; omega
        · have hk2 : k * size ≤ m * size := Nat.mul_le_mul_right _ hk
          rw [List.take_take, Nat.min_eq_left hk2]
          have hl2 : ((cs.drop p.off).take (k * size)).length = k * size := by
            rw [List.length_take, hlen]; omega
          refine run_firstCells_some W size k _ m (c + bi.ext) _ hl2 ?_
          intro j v hj
          rw [List.getElem?_take] at hj
          split at hj
          · rename_i hjk
            rw [List.getElem?_drop] at hj
            rw [add_off rfl]
            have := g4 _ v hj
            simp only [World.cell?, hW] at this ⊢
            rwa [Nat.add_assoc]
          · cases hj
      · cases hs
    · cases hs
  · rename_i s
    split at hs
    · rename_i h1
      simp only [Option.some.injEq, Prod.mk.injEq] at hs
      obtain ⟨rfl, rfl⟩ := hs
      have := hx.flat_eq (v := .string s) rfl
      subst this
      subst h1
      refine ⟨_, .of_flat fun v hv => ?_, ?_, fun W => rfl, fun k hk W _ => ?_⟩
      · simp only [List.mem_map] at hv
        obtain ⟨b, _, rfl⟩ := hv
        rfl
      · simp
      · simp only [Builtin.firstCells, Sem.run_pure, Nat.mul_one]
        congr 1
        apply Array.ext'
        simp [ByteArray.data_extract, List.map_take]
    · cases hs
  · cases hs

theorem store_all {a1 : AW} {p p' : Addr} (hp : VA β p p') : ∀ (l l' : List Value) (i : Nat) {a : AW} {w : World}, Emb P w0 β a w → (∀ v ∈ l, v.oneCell' = true) → VL β l l' → storeAll a p l i = some a1 →
    ∃ w1, (storeCells p' l' i).run P w = .ok () w1 ∧ Emb P w0 β a1 w1 := by
  intro l
  induction l with
  | nil =>
    intro l' i a w he _ hl h
    have : l' = [] := List.eq_nil_of_length_eq_zero (by simpa using hl.1.symm)
    subst this
    simp only [storeAll, Option.some.injEq] at h
    subst h
    exact ⟨w, rfl, he⟩
  | cons v r ih =>
    intro l' i a w he ho hl h
    cases l' with
    | nil => have := hl.1; simp at this
    | cons v' r' =>
      simp only [storeAll] at h
      cases hc : a.setCell (p.add i) v with
      | none => rw [hc] at h; cases h
      | some a2 =>
        rw [hc] at h
        obtain ⟨k1, ⟨u, k2⟩, k3⟩ := he.setCell (hp.add i) hl.head hc
        obtain ⟨w1, k4, k5⟩ := ih r' (i + 1) k3 (fun v hv => ho v (List.mem_cons_of_mem _ hv)) hl.tail h
        refine ⟨w1, ?_, k5⟩
        simp only [storeCells, Sem.run_bind]
        rw [run_store P w _ _ _ (hl.head.one (ho v (List.mem_cons_self ..))), k2]
        simp only [k1, Bool.false_eq_true, if_false, Result.andThen_ok]
        exact k4

/-- append, where there is room. -/
theorem run_append_fit {ty1 ty2 ty e : TypeId} {d : TypeDesc} {i : TypeInfo} (hu1 : P.underlying ty1 = some (.slice e)) (hu2 : P.underlying ty2 = some d) (hd : d = .string ∨ ∃ e2, d = .slice e2) (hi : P.info? e = some i)
    {x : Value} {n m c : Nat} {base : Option Addr} {w : World} {new : Array Value} (hlen : (Builtin.lenOf x).run P w = .ok n w) (hnew : (Builtin.firstCells i.size n x).run P w = .ok new w) (hfit : m + n ≤ c) :
    (Builtin.append_ #[ty1, ty2] ty #[.slice base m c, x]).run P w = (match base with
      | some a => (storeCells (a.add (m * i.size)) new.toList).run P w
      | none => .ok () w).andThen fun _ w' => .ok (.slice base (m + n) c) w' := by
  rcases hd with rfl | ⟨e2, rfl⟩ <;> cases base <;> simp [Builtin.append_, run_underlying hu1, run_underlying hu2, sizeOf, typeInfo, hi, hlen, hnew, hfit]

/-- append, where there is none. -/
theorem run_append_more {ty1 ty2 ty e : TypeId} {d : TypeDesc} {i : TypeInfo} {z : Value} (hu1 : P.underlying ty1 = some (.slice e)) (hu2 : P.underlying ty2 = some d) (hd : d = .string ∨ ∃ e2, d = .slice e2) (hi : P.info? e = some i) (hz : i.zero = some z)
    {x : Value} {n m c : Nat} {base : Option Addr} {w : World} {new old : Array Value} (hlen : (Builtin.lenOf x).run P w = .ok n w)
    (hnew : (Builtin.firstCells i.size n x).run P w.drew = .ok new w.drew) (hold : (Builtin.firstCells i.size m (.slice base m c)).run P w.drew = .ok old w.drew)
    (hfit : ¬ m + n ≤ c) (hb : i.bytes ≤ 100000) (hn : m + n ≤ 1000000) :
    (Builtin.append_ #[ty1, ty2] ty #[.slice base m c, x]).run P w =
      .ok (.slice (some ⟨w.heap.size, 0, none⟩) (m + n) (grownCap w (m + n) c e)) (w.drew.alloc (.cells (old ++ new ++ Builtin.zeroCells z.cells (grownCap w (m + n) c e - (m + n))) e)) := by
  have h63 : ¬ (9223372036854775807 < ((m : Int) + (n : Int))) := by omega
  have hle : Builtin.nextslicecap (m + n) c * i.bytes ≤ 281474976710656 := by
    refine growslice_fits (by omega) ?_
    have : (m + n) * i.bytes ≤ 1000000 * 100000 := Nat.mul_le_mul hn hb
    omega
  have h48 : ¬ (281474976710656 < Builtin.nextslicecap (m + n) c * i.bytes) := by omega
  rcases hd with rfl | ⟨e2, rfl⟩ <;> simp [Builtin.append_, run_underlying hu1, run_underlying hu2, sizeOf, typeInfo, zeroValue, hi, hz, hlen, hfit, h63, h48, Question.forced, hnew, hold, newRow, grownCap]

theorem zflat_zero {e : TypeId} {i : TypeInfo} (h : zflat P e = true) (hi : P.info? e = some i) : ∃ z, i.zero = some z ∧ flat z = true ∧ z.cells.size = i.size := by
  unfold zflat at h
  rw [hi] at h
  simp only at h
  cases hz : i.zero with
  | none => rw [hz] at h; cases h
  | some z =>
    rw [hz] at h
    simp only [Bool.and_eq_true, beq_iff_eq] at h
    exact ⟨z, rfl, h.1, h.2⟩

theorem Emb.drew {a : AW} {w : World} (he : Emb P w0 β a w) : Emb P w0 β a w.drew := .mk' he.below.drew he.fresh he.blk he.inj he.imp he.kinds (he.maps.keep (Le.refl β) (fun _ _ _ h _ _ => h) fun _ _ _ h => h)

/-- A block that is not used any more. -/
theorem Emb.kill {a a1 : AW} {w : World} (he : Emb P w0 β a w) {i : Nat} {b : Blk} (hb : a.heap.get i = some b) (hk0 : b.kind < 2) (h : a.upd i { b with kind := 2 } = some a1) :
    Emb P w0 β a1 w ∧ a1.next = a.next ∧ ∀ j, a1.heap.get j = if j = i then some { b with kind := 2 } else a.heap.get j := by
  unfold AW.upd at h
  split at h
  · rename_i hp la hput hla
    injection h with h; subst h
    have hget := Tr.get_put hput
    refine ⟨.mk' he.below ?_ ?_ ?_ ?_ ?_ ?_, rfl, hget⟩
    · intro j hj
      obtain ⟨g1, g2⟩ := he.fresh j hj
      refine ⟨?_, g2⟩
      rw [hget, if_neg]
      · exact g1
      · rintro rfl; rw [g1] at hb; cases hb
    · intro j c hj hk
      rw [hget] at hj
      split at hj
      · injection hj with hj; subst hj; simp at hk
      · exact he.blk j c hj hk
    · intro j k c d bj bk hj hkc hk hkd hbj hbk hblk
      rw [hget] at hj hk
      split at hj
      · injection hj with hj; subst hj; simp at hkc
      · split at hk
        · injection hk with hk; subst hk; simp at hkd
        · exact he.inj j k c d bj bk hj hkc hk hkd hbj hbk hblk
    · intro j c hj hk
      rw [hget] at hj
      split at hj
      · injection hj with hj; subst hj; simp at hk
      · exact he.imp j c hj hk
    · intro j c hj
      rw [hget] at hj
      split at hj
      · injection hj with hj; subst hj; simp
      · exact he.kinds j c hj
    · refine he.maps.keep (Le.refl β) (fun j c l hj hk2 hcl => ?_) fun _ _ _ h => h
      rw [hget] at hj
      split at hj
      · injection hj with hj; subst hj
        obtain ⟨_, _, _, _, _, _, _, _, _, _, q8⟩ := he.blk i b hb hk0
        simp only at hcl
        rw [hcl] at q8
        exact (not_mark q8).elim
      · exact hj
  · cases h

/-- Stores into a block of the call's own, from a place on. -/
theorem store_raw {g : Nat} {e : TypeId} {fz : Nat × Nat} : ∀ (l : List Value) (off i : Nat) (cur : Array Value) (w : World), w.heap[g]? = some (.cells cur e fz) → (fz.1 = fz.2 ∨ cur.size ≤ fz.1) → off + i + l.length ≤ cur.size → (∀ v ∈ l, v.oneCell' = true) →
    ∃ w1 cur1, (storeCells ⟨g, off, none⟩ l i).run P w = .ok () w1 ∧ w1.heap[g]? = some (.cells cur1 e fz) ∧ cur1.size = cur.size ∧ cur1.toList.take (off + i) = cur.toList.take (off + i) ∧ (cur1.toList.drop (off + i)).take l.length = l ∧
      w.grownBy w1 (some g) ∧ w1.heap.size = w.heap.size := by
  intro l
  induction l with
  | nil =>
    intro off i cur w hg _ _ _
    exact ⟨w, cur, rfl, hg, rfl, rfl, by simp, ⟨rfl, rfl, rfl, Nat.le_refl _, fun _ _ _ => rfl⟩, rfl⟩
  | cons v r ih =>
    intro off i cur w hg hf hlen ho
    simp only [List.length_cons] at hlen
    have hadd : (⟨g, off, none⟩ : Addr).add i = ⟨g, off + i, none⟩ := add_off rfl i
    have hcell : w.cell? ⟨g, off + i, none⟩ = some (cur[off + i]'(by omega)) := by
      simp [World.cell?, hg, show off + i < cur.size by omega]
    have hfr : w.frozen? ⟨g, off + i, none⟩ = false := by
      obtain ⟨lo, hi⟩ := fz
      simp only at hf
      simp only [World.frozen?, hg]
      rcases hf with hf | hf
      · subst hf; simp
      · simp; omega
    have hset : (w.setCell ⟨g, off + i, none⟩ v).heap[g]? = some (.cells (cur.setIfInBounds (off + i) v) e fz) := by
      simp [World.setCell, Array.getElem?_modify, hg]
    obtain ⟨w1, cur1, k1, k2, k3, k4, k5, k6, k7⟩ := ih off (i + 1) (cur.setIfInBounds (off + i) v) (w.setCell ⟨g, off + i, none⟩ v) hset (by simpa using hf) (by simp; omega) (fun v hv => ho v (List.mem_cons_of_mem _ hv))
    refine ⟨w1, cur1, ?_, k2, by simpa using k3, ?_, ?_, ?_, ?_⟩
    · simp only [storeCells, Sem.run_bind, hadd]
      rw [run_store P w _ v _ (ho v (List.mem_cons_self ..)), hcell]
      simp only [hfr, Bool.false_eq_true, if_false, Result.andThen_ok]
      exact k1
    · have := congrArg (List.take (off + i)) k4
      rw [List.take_take, List.take_take, Nat.min_eq_left (by omega)] at this
      rw [this, Array.toList_setIfInBounds, List.take_set_of_le (by omega)]
    · have h1 : cur1.toList[off + i]? = some v := by
        have := congrArg (fun l => l[off + i]?) k4
        simp only [List.getElem?_take] at this
        rw [if_pos (by omega), if_pos (by omega)] at this
        rw [this]
        simp [show off + i < cur.size by omega]
      have hd : cur1.toList.drop (off + i) = v :: cur1.toList.drop (off + (i + 1)) := by
        have hlt : off + i < cur1.toList.length := (List.getElem?_eq_some_iff.1 h1).1
        rw [List.drop_eq_getElem_cons hlt]
        have := (List.getElem?_eq_some_iff.1 h1).2
        rw [this]; rfl
      rw [hd, List.length_cons, List.take_succ_cons, k5]
    · refine ⟨k6.os, k6.tape, k6.output, by rw [k7]; simp [World.setCell], fun k hk hne => ?_⟩
      rw [k6.block k (by simpa [World.setCell] using hk) hne]
      exact Below.heap_setCell _ _ _ _ (fun e => hne (by subst e; rfl))
    · rw [k7]; simp [World.setCell]

/-- What is appended lies behind the old row, in its very block. -/
theorem Emb.regrow {a a1 a2 : AW} {w w1 : World} (he : Emb P w0 β a w) {i : Nat} {b : Blk} {bi : BI} (hb : a.heap.get i = some b) (hk : b.kind < 2) (hbi : β i = some bi) (hkill : a.upd i { b with kind := 2 } = some a1)
    {l : List Value} {cur1 : Array Value} {fz : Nat × Nat} {ext : Nat} (hg : w1.heap[bi.blk]? = some (.cells cur1 b.elem fz)) (hf : fz.1 = fz.2 ∨ cur1.size ≤ fz.1) (hs : cur1.size = l.length + ext * P.cellsOf b.elem)
    (hl : VL β l (cur1.toList.take l.length)) (hn : a1.new ⟨l, b.elem, 1⟩ = some a2) (hgr : w.grownBy w1 (some bi.blk)) :
    Le β (grow β a.next ⟨bi.blk, 0, ext⟩) ∧ Emb P w0 (grow β a.next ⟨bi.blk, 0, ext⟩) a2 w1 := by
  obtain ⟨he1, hnext, hget⟩ := he.kill hb hk hkill
  obtain ⟨hp, la, cl, hput, rfl⟩ := AW.new_some hn
  have hnone := he.fresh a.next (Nat.le_refl _)
  have hle : Le β (grow β a.next ⟨bi.blk, 0, ext⟩) := .grow hnone.2
  obtain ⟨bj, cur, fz0, g1, g2, g3, g4, _⟩ := he.blk i b hb hk
  rw [hbi] at g1; injection g1 with g1; subst g1
  have hine : i ≠ a.next := by rintro rfl; rw [hnone.1] at hb; cases hb
  have hget2 : ∀ j, hp.get j = if j = a.next then some ⟨l, b.elem, 1⟩ else if j = i then some { b with kind := 2 } else a.heap.get j := by
    intro j
    rw [Tr.get_put hput, hnext]
    split
    · rfl
    · exact hget j
  refine ⟨hle, .mk' ⟨hgr.os.trans he.below.os, hgr.tape.trans he.below.tape, hgr.output.trans he.below.output, Nat.le_trans he.below.size hgr.size, fun k hkk => ?_⟩ ?_ ?_ ?_ ?_ ?_ ?_⟩
  · rw [hgr.block k (Nat.lt_of_lt_of_le (Nat.lt_of_not_le fun e => hkk (.inl e)) he.below.size) (fun e => by injection e with e; exact hkk (by rw [e]; exact g2))]
    exact he.below.block k hkk
  · intro j hj
    rw [hnext] at hj
    obtain ⟨q1, q2⟩ := he.fresh j (by simp at hj; omega)
    refine ⟨?_, ?_⟩
    · rw [hget2, if_neg (by simp at hj; omega), if_neg]
      · exact q1
      · rintro rfl; rw [q1] at hb; cases hb
    · unfold grow; rw [if_neg (by simp at hj; omega)]; exact q2
  · intro j c hj hkc
    rw [hget2] at hj
    by_cases hje : j = a.next
    · rw [if_pos hje] at hj
      injection hj with hj; subst hj
      exact ⟨⟨bi.blk, 0, ext⟩, cur1, fz, by simp [grow, hje], g2, rfl, hg, hf, hs, fun h => by simp at h, hl.mono hle⟩
    · rw [if_neg hje] at hj
      by_cases hji : j = i
      · rw [if_pos hji] at hj; injection hj with hj; subst hj; simp at hkc
      · rw [if_neg hji] at hj
        obtain ⟨bj, cur', fz', q1, q2, q3, q4, q5, q6, q7, q8⟩ := he.blk j c hj hkc
        refine ⟨bj, cur', fz', hle _ _ q1, q2, q3, ?_, q5, q6, q7, q8.mono hle⟩
        have hne : bj.blk ≠ bi.blk := fun e => hji (he.inj j i c b bj bi hj hkc hb hk q1 hbi e)
        rw [hgr.block bj.blk (Array.getElem?_eq_some_iff.1 q4).1 (fun e => hne (by injection e))]
        exact q4
  · intro j k c d bj bk hj hkc hk' hkd hbj hbk hblk
    rw [hget2] at hj hk'
    have small : ∀ j c bj, j ≠ a.next → (if j = a.next then some ⟨l, b.elem, 1⟩ else if j = i then some { b with kind := 2 } else a.heap.get j) = some c → c.kind < 2 → grow β a.next ⟨bi.blk, 0, ext⟩ j = some bj →
        a.heap.get j = some c ∧ β j = some bj ∧ j ≠ i := by
      intro j c bj hne h1 h2 h3
      rw [if_neg hne] at h1
      unfold grow at h3
      rw [if_neg hne] at h3
      by_cases hji : j = i
      · rw [if_pos hji] at h1; injection h1 with h1; subst h1; simp at h2
      · rw [if_neg hji] at h1; exact ⟨h1, h3, hji⟩
    by_cases hje : j = a.next
    · by_cases hke : k = a.next
      · rw [hje, hke]
      · obtain ⟨q1, q2, q3⟩ := small k d bk hke hk' hkd hbk
        simp only [grow, hje, if_true, Option.some.injEq] at hbj
        subst hbj
        exact absurd (he.inj k i d b bk bi q1 hkd hb hk q2 hbi hblk.symm) q3
    · obtain ⟨q1, q2, q3⟩ := small j c bj hje hj hkc hbj
      by_cases hke : k = a.next
      · simp only [grow, hke, if_true, Option.some.injEq] at hbk
        subst hbk
        exact absurd (he.inj j i c b bj bi q1 hkc hb hk q2 hbi hblk) q3
      · obtain ⟨r1, r2, _⟩ := small k d bk hke hk' hkd hbk
        exact he.inj j k c d bj bk q1 hkc r1 hkd q2 r2 hblk
  · intro j c hj hkc
    rw [hget2] at hj
    by_cases hje : j = a.next
    · rw [if_pos hje] at hj; injection hj with hj; subst hj; simp at hkc
    · rw [if_neg hje] at hj
      by_cases hji : j = i
      · rw [if_pos hji] at hj; injection hj with hj; subst hj; simp at hkc
      · rw [if_neg hji] at hj
        obtain ⟨bj, h1, h2, h3⟩ := he.imp j c hj hkc
        exact ⟨bj, hle _ _ h1, h2, fun m v hv => by obtain ⟨v', h4, h5⟩ := h3 m v hv; exact ⟨v', h4, h5.mono hle⟩⟩
  · intro j c hj
    rw [hget2] at hj
    by_cases hje : j = a.next
    · rw [if_pos hje] at hj; injection hj with hj; subst hj; simp
    · rw [if_neg hje] at hj
      by_cases hji : j = i
      · rw [if_pos hji] at hj; injection hj with hj; subst hj; simp
      · rw [if_neg hji] at hj; exact he.kinds j c hj
  · refine he1.maps.keep hle (fun j c l' hj hk2 _ => ?_) fun g es c hg0 => ?_
    · rw [Tr.get_put hput, hnext] at hj
      split at hj
      · injection hj with hj; subst hj; simp at hk2
      · exact hj
    · rw [hgr.block g (Array.getElem?_eq_some_iff.1 hg0).1 (fun e => by injection e with e; subst e; rw [g4] at hg0; cases hg0)]
      exact hg0

theorem size_zero (z : Array Value) (n : Nat) : (Builtin.zeroCells z n).size = n * z.size := by simp [Builtin.zeroCells]

theorem notInt_desc {t : TypeId} (h : notInt P t = true) : ∃ d, P.underlying t = some d ∧ (d = .string ∨ ∃ e2, d = .slice e2) := by
  unfold notInt at h
  split at h
  · rename_i e hu; exact ⟨_, hu, .inr ⟨e, rfl⟩⟩
  · rename_i hu; exact ⟨_, hu, .inl rfl⟩
  · cases h

/-- A new row for what is appended. -/
theorem more_sound {a a1 : AW} {w : World} (he : Emb P w0 β a w) {e : TypeId} {i : TypeInfo} {z : Value} (hi : P.info? e = some i) (hz : z.cells.size = i.size) {l l' : List Value} (hl : VL β l l') {need c : Nat} (hlen : l.length = need * i.size)
    (hn : a.new ⟨l, e, 1⟩ = some a1) : ∃ β1, Le β β1 ∧ Emb P w0 β1 a1 (w.drew.alloc (.cells (l'.toArray ++ Builtin.zeroCells z.cells (grownCap w need c e - need)) e)) ∧
      VR β1 (.slice (some ⟨a.next, 0, none⟩) need need) (.slice (some ⟨w.heap.size, 0, none⟩) need (grownCap w need c e)) := by
  have hge := grownCap_ge w need c e
  have hsz : P.cellsOf e = i.size := by simp [Program.cellsOf, hi]
  have hcur : (l'.toArray ++ Builtin.zeroCells z.cells (grownCap w need c e - need)).size = l.length + (grownCap w need c e - need) * P.cellsOf e := by
    rw [Array.size_append, size_zero, hsz, hz, List.size_toArray, hl.1]
  obtain ⟨h1, h2⟩ := he.drew.new (k := 1) (fz := (0, 0)) (ext := grownCap w need c e - need) (by omega) (.inl rfl) hcur (fun h => by cases h) (by
    rw [Array.toList_append, List.toList_toArray, hl.1, List.take_left' rfl]; exact hl) hn
  refine ⟨_, h1, h2, ?_⟩
  have hg : grow β a.next ⟨w.drew.heap.size, 0, grownCap w need c e - need⟩ a.next = some ⟨w.heap.size, 0, grownCap w need c e - need⟩ := by unfold grow; rw [if_pos rfl]; rfl
  have := VR.slice (β := grow β a.next ⟨w.drew.heap.size, 0, grownCap w need c e - need⟩) (a := ⟨a.next, 0, none⟩) (a' := ⟨w.heap.size, 0, none⟩) (n := need) (c := need) (bi := ⟨w.heap.size, 0, grownCap w need c e - need⟩) ⟨rfl, _, hg, by simp⟩ hg
  simp only at this
  rw [show need + (grownCap w need c e - need) = grownCap w need c e by omega] at this
  exact this

theorem append_sound {a a1 : AW} {w : World} (he : Emb P w0 β a w) {ty1 ty2 ty : TypeId} {s s' x x' v : Value} (hs : VR β s s') (hx : VR β x x') (hv : evAppend P a ty1 ty2 s x = some (v, a1)) :
    ∃ β1 v' w1, (Builtin.append_ #[ty1, ty2] ty #[s', x']).run P w = .ok v' w1 ∧ Le β β1 ∧ Emb P w0 β1 a1 w1 ∧ VR β1 v v' := by
  unfold evAppend at hv
  split at hv
  case h_2 => cases hv
  rename_i e hu1
  split at hv
  case h_2 => cases hv
  rename_i i hi
  split at hv
  case isFalse => cases hv
  rename_i hcond
  simp only [Bool.and_eq_true, decide_eq_true_eq] at hcond
  obtain ⟨⟨⟨hzf, hni⟩, hby⟩, hpos⟩ := hcond
  obtain ⟨d, hu2, hd⟩ := notInt_desc hni
  obtain ⟨z, hz, hzfl, hzs⟩ := zflat_zero hzf hi
  have hsz : P.cellsOf e = i.size := by simp [Program.cellsOf, hi]
  split at hv
  case h_2 => cases hv
  rename_i n new hsrc
  split at hv
  · cases hv
  rename_i hone
  have hone' : ∀ v ∈ new, v.oneCell' = true := by
    simp only [Bool.not_eq_true, Bool.not_eq_false', List.all_eq_true] at hone
    exact hone
  obtain ⟨new', hnl, hnlen, hlen, hcells⟩ := src_sound he.toEmbR hx hsrc
  have hnl' : new'.length = n * i.size := by rw [← hnl.1]; exact hnlen
  have hnew : ∀ W : World, W.heap = w.heap → (Builtin.firstCells i.size n x').run P W = .ok new'.toArray W := by
    intro W hW
    have := hcells n (Nat.le_refl _) W hW
    rwa [List.take_of_length_le (by omega)] at this
  split at hv
  · -- onto nil
    have := hs.flat_eq (v := .slice none 0 0) rfl
    subst this
    split at hv
    · rename_i h0
      subst h0
      simp only [Option.some.injEq, Prod.mk.injEq] at hv
      obtain ⟨rfl, rfl⟩ := hv
      refine ⟨β, .slice none 0 0, w, ?_, Le.refl β, he, .flat rfl⟩
      rw [run_append_fit hu1 hu2 hd hi (hlen w) (hnew w rfl) (by omega)]
      rfl
    · rename_i h0
      split at hv
      · rename_i hle
        split at hv
        · rename_i a2 hn
          simp only [Option.some.injEq, Prod.mk.injEq] at hv
          obtain ⟨rfl, rfl⟩ := hv
          have hrun := run_append_more (ty := ty) hu1 hu2 hd hi hz (base := none) (m := 0) (c := 0) (old := #[]) (hlen w) (hnew w.drew rfl) (by simp [Builtin.firstCells]) (by omega) hby (by omega)
          obtain ⟨β1, k1, k2, k3⟩ := more_sound he hi hzs hnl (need := n) (c := 0) hnlen hn
          refine ⟨β1, _, _, ?_, k1, k2, k3⟩
          rw [hrun]
          simp
        · cases hv
      · cases hv
  · -- onto a slice
    rename_i p m c
    obtain ⟨p', bi, rfl, hp, hbi⟩ := hs.sliceOf
    split at hv
    · rename_i hfit
      split at hv
      · rename_i a2 hst
        simp only [Option.some.injEq, Prod.mk.injEq] at hv
        obtain ⟨rfl, rfl⟩ := hv
        obtain ⟨w1, k1, k2⟩ := store_all (hp.add (m * i.size)) new new' 0 he hone' hnl hst
        refine ⟨β, .slice (some p') (m + n) (c + bi.ext), w1, ?_, Le.refl β, k2, .slice hp hbi⟩
        rw [run_append_fit hu1 hu2 hd hi (hlen w) (hnew w rfl) (by omega)]
        simp only [k1, Result.andThen_ok]
      · cases hv
    · rename_i hfit
      split at hv
      case h_2 => cases hv
      rename_i b hsp hb
      split at hv
      case isFalse => cases hv
      rename_i hc
      obtain ⟨c1, c2, c3, c4, c5⟩ := hc
      have hold : ∀ hk : b.kind < 2, ∃ old', VL β (b.cells.take (m * i.size)) old' ∧ (b.cells.take (m * i.size)).length = m * i.size ∧ (Builtin.firstCells i.size m (.slice (some p') m (c + bi.ext))).run P w.drew = .ok old'.toArray w.drew := by
        intro hk
        have hmc : m * i.size ≤ c * i.size := Nat.mul_le_mul_right _ c4
        have hsrc2 : srcCells a i.size (.slice (some p) m c) = some (m, (b.cells.drop p.off).take (m * i.size)) := by
          unfold srcCells
          simp only [hsp, hb]
          rw [if_pos ⟨by omega, by omega⟩]
        obtain ⟨old', q1, q2, _, q4⟩ := src_sound he.toEmbR hs hsrc2
        rw [c2, List.drop_zero] at q1 q2
        refine ⟨old', q1, q2, ?_⟩
        have := q4 m (Nat.le_refl _) w.drew rfl
        rwa [List.take_of_length_le (by rw [← q1.1]; omega)] at this
      split at hv
      · rename_i hk0
        obtain ⟨old', q1, q2, q3⟩ := hold (by omega)
        split at hv
        · rename_i a2 hn
          simp only [Option.some.injEq, Prod.mk.injEq] at hv
          obtain ⟨rfl, rfl⟩ := hv
          obtain ⟨bj, cur, fz, g1, g2, g3, g4, g5, g6, g7, g8⟩ := he.blk _ b hb (by omega)
          rw [hbi] at g1; injection g1 with g1; subst g1
          have hext := (g7 hk0).1
          have hrun := run_append_more (ty := ty) hu1 hu2 hd hi hz (hlen w) (hnew w.drew rfl) q3 (by omega) hby c1
          obtain ⟨β1, k1, k2, k3⟩ := more_sound he hi hzs (q1.append hnl) (need := m + n) (c := c + bi.ext) (by rw [List.length_append, q2, hnlen, Nat.add_mul]) hn
          refine ⟨β1, _, _, ?_, k1, k2, k3⟩
          rw [hrun]
          simp
        · cases hv
      · rename_i hk0
        split at hv
        case isFalse => cases hv
        rename_i hk1
        obtain ⟨old', q1, q2, q3⟩ := hold (by omega)
        split at hv
        case h_2 => cases hv
        rename_i a2 hkill
        split at hv
        case h_2 => cases hv
        rename_i a3 hn
        simp only [Option.some.injEq, Prod.mk.injEq] at hv
        obtain ⟨rfl, rfl⟩ := hv
        obtain ⟨bj, cur, fz, g1, g2, g3, g4, g5, g6, g7, g8⟩ := he.blk _ b hb (by omega)
        rw [hbi] at g1; injection g1 with g1; subst g1
        obtain ⟨he1, hnext, hget⟩ := he.kill hb (by omega) hkill
        have hcat : (b.cells.take (m * i.size) ++ new).length = (m + n) * i.size := by rw [List.length_append, q2, hnlen, Nat.add_mul]
        by_cases hroom : m + n ≤ c + bi.ext
        · -- in place
          obtain ⟨_, bk, hbk, rfl⟩ := hp
          rw [hbi] at hbk; injection hbk with hbk; subst hbk
          have hmc : m * i.size ≤ c * i.size := Nat.mul_le_mul_right _ c4
          have hcursz : cur.size = (c + bi.ext) * i.size := by rw [g6, c5, hsz, ← c3, Nat.add_mul]
          have hneed : (m + n) * i.size ≤ (c + bi.ext) * i.size := Nat.mul_le_mul_right _ hroom
          have hadd : (⟨bi.blk, bi.off + p.off, none⟩ : Addr).add (m * i.size) = ⟨bi.blk, m * i.size, none⟩ := by rw [add_off rfl]; simp [g3, c2]
          obtain ⟨w1, cur1, r1, r2, r3, r4, r5, r6, r7⟩ := store_raw (P := P) new' (m * i.size) 0 cur w g4 g5 (by rw [Nat.add_zero, hnl', hcursz, ← Nat.add_mul]; exact hneed) (fun v' hv' => by
            obtain ⟨j, hj⟩ := List.getElem?_of_mem hv'
            have hjl : j < new.length := by rw [hnl.1]; exact (List.getElem?_eq_some_iff.1 hj).1
            exact (hnl.2 j new[j] v' (List.getElem?_eq_getElem hjl) hj).one (hone' _ (List.getElem_mem hjl)))
          simp only [Nat.add_zero] at r4 r5
          have hcells1 : cur1.toList.take ((m + n) * i.size) = cur.toList.take (m * i.size) ++ new' := by
            rw [Nat.add_mul, List.take_add, r4, ← hnl', r5]
          have hold2 : VL β (b.cells.take (m * i.size)) (cur.toList.take (m * i.size)) := by
            have := g8.take (m * i.size)
            rwa [List.take_take, Nat.min_eq_left (by omega)] at this
          have hlv : VL β (b.cells.take (m * i.size) ++ new) (cur1.toList.take (b.cells.take (m * i.size) ++ new).length) := by
            rw [hcat, hcells1]; exact hold2.append hnl
          rw [← c5] at hn
          obtain ⟨k1, k2⟩ := he.regrow hb (by omega) hbi hkill (l := b.cells.take (m * i.size) ++ new) (cur1 := cur1) (fz := fz) (ext := c + bi.ext - (m + n)) r2 (by rw [r3]; exact g5) (by
            rw [hcat, r3, hcursz, c5, hsz, ← Nat.add_mul]; congr 1; omega) hlv hn r6
          refine ⟨_, .slice (some ⟨bi.blk, bi.off + p.off, none⟩) (m + n) (c + bi.ext), w1, ?_, k1, k2, ?_⟩
          · rw [run_append_fit hu1 hu2 hd hi (hlen w) (hnew w rfl) hroom]
            simp only [hadd]
            rw [r1]
            rfl
          · have hgw : grow β a.next ⟨bi.blk, 0, c + bi.ext - (m + n)⟩ a.next = some ⟨bi.blk, 0, c + bi.ext - (m + n)⟩ := by unfold grow; rw [if_pos rfl]
            have := VR.slice (β := grow β a.next ⟨bi.blk, 0, c + bi.ext - (m + n)⟩) (a := ⟨a.next, 0, none⟩) (a' := ⟨bi.blk, bi.off + p.off, none⟩) (n := m + n) (c := m + n) (bi := ⟨bi.blk, 0, c + bi.ext - (m + n)⟩) ⟨rfl, _, hgw, by simp [g3, c2]⟩ hgw
            simp only at this
            rw [show m + n + (c + bi.ext - (m + n)) = c + bi.ext by omega] at this
            exact this
        · -- a new row
          have hrun := run_append_more (ty := ty) hu1 hu2 hd hi hz (hlen w) (hnew w.drew rfl) q3 hroom hby c1
          obtain ⟨β1, k1, k2, k3⟩ := more_sound he1 hi hzs (q1.append hnl) (need := m + n) (c := c + bi.ext) hcat hn
          rw [hnext] at k3
          refine ⟨β1, _, _, ?_, k1, k2, k3⟩
          rw [hrun]
          simp
  · cases hv

theorem copy_sound {a a1 : AW} {w : World} (he : Emb P w0 β a w) {ty1 ty2 ty : TypeId} {s s' x x' v : Value} (hs : VR β s s') (hx : VR β x x') (hv : evCopy P a ty1 s x = some (v, a1)) :
    ∃ v' w1, (Builtin.copy_ #[ty1, ty2] ty #[s', x']).run P w = .ok v' w1 ∧ Emb P w0 β a1 w1 ∧ VR β v v' := by
  unfold evCopy at hv
  split at hv
  case h_2 => cases hv
  rename_i e hu1
  split at hv
  case h_2 => cases hv
  rename_i i hi
  split at hv
  case h_2 => cases hv
  rename_i n new hsrc
  split at hv
  · cases hv
  rename_i hone
  have hone' : ∀ v ∈ new, v.oneCell' = true := by
    simp only [Bool.not_eq_true, Bool.not_eq_false', List.all_eq_true] at hone
    exact hone
  obtain ⟨new', hnl, hnlen, hlen, hcells⟩ := src_sound he.toEmbR hx hsrc
  split at hv
  · have := hs.flat_eq (v := .slice none 0 0) rfl
    subst this
    simp only [Option.some.injEq, Prod.mk.injEq] at hv
    obtain ⟨rfl, rfl⟩ := hv
    refine ⟨.int .i64 0, w, ?_, he, .flat rfl⟩
    have h0 : Nat.min n 0 = 0 := by simp
    have hc0 := hcells 0 (by omega) w rfl
    simp only [Nat.zero_mul, List.take_zero] at hc0
    simp [Builtin.copy_, run_underlying hu1, sizeOf, typeInfo, hi, hlen, h0, hc0, goInt]
  · rename_i p m c
    obtain ⟨p', bi, rfl, hp, hbi⟩ := hs.sliceOf
    split at hv
    · rename_i a2 hst
      simp only [Option.some.injEq, Prod.mk.injEq] at hv
      obtain ⟨rfl, rfl⟩ := hv
      obtain ⟨w1, k1, k2⟩ := store_all hp (new.take (Nat.min n m * i.size)) (new'.take (Nat.min n m * i.size)) 0 he (fun v hv => hone' v (List.mem_of_mem_take hv)) (hnl.take _) hst
      refine ⟨.int .i64 (Nat.min n m), w1, ?_, k2, .flat rfl⟩
      have hc0 := hcells (Nat.min n m) (Nat.min_le_left _ _) w rfl
      simp [Builtin.copy_, run_underlying hu1, sizeOf, typeInfo, hi, hlen, hc0, k1, goInt]
    · cases hv
  · cases hv
end
end Ev
end Go.Proofs.YtmfpjdbgdmmjkaaDoor
namespace Go.Proofs.YtmfpjdbgdmmjkaaDoor
open Go.RowKit

def bv (u : UInt8) : Value := .int .u8 u.toNat
theorem bv_one (u : UInt8) : (bv u).oneCell' = true := rfl

/-- A slice that reads as these bytes, in a block below B. -/
def Bs (w : World) (B : Nat) (v : Value) (l : List UInt8) : Prop :=
  ∃ A c, v = .slice A l.length c ∧ l.length ≤ c ∧ (l ≠ [] → ∃ b off, A = some ⟨b, off, none⟩ ∧ b < B ∧ ∀ (i : Nat) (u : UInt8), l[i]? = some u → w.cell? ⟨b, off + i, none⟩ = some (bv u))

/-- A row of the call's own, from block 'base' on, that holds these bytes. -/
def Own (w : World) (base : Nat) (v : Value) (l : List UInt8) : Prop := w.ownsRow base 5 1 v l.length (l.map bv)

theorem Bs.keep {w w' : World} {B : Nat} {v : Value} {l : List UInt8} (h : Bs w B v l) (hk : ∀ b o, b < B → w'.cell? ⟨b, o, none⟩ = w.cell? ⟨b, o, none⟩) : Bs w' B v l := by
  obtain ⟨A, c, h1, h2, h3⟩ := h
  refine ⟨A, c, h1, h2, fun hne => ?_⟩
  obtain ⟨b, off, h4, h5, h6⟩ := h3 hne
  exact ⟨b, off, h4, h5, fun i u hu => (hk b _ h5).trans (h6 i u hu)⟩
theorem Bs.more {w : World} {B B' : Nat} {v : Value} {l : List UInt8} (h : Bs w B v l) (hB : B ≤ B') : Bs w B' v l := by
  obtain ⟨A, c, h1, h2, h3⟩ := h
  refine ⟨A, c, h1, h2, fun hne => ?_⟩
  obtain ⟨b, off, h4, h5, h6⟩ := h3 hne
  exact ⟨b, off, h4, by omega, h6⟩
theorem Bs.below {w w' : World} {B : Nat} {v : Value} {l : List UInt8} (h : Bs w B v l) (hb : Below B w w') : Bs w' B v l := h.keep fun b o hbB => hb.cell (p := ⟨b, o, none⟩) hbB
theorem Bs.drew {w : World} {B : Nat} {v : Value} {l : List UInt8} (h : Bs w B v l) : Bs w.drew B v l := h
theorem Bs.drewN {w : World} {B : Nat} {v : Value} {l : List UInt8} (h : Bs w B v l) (n : Nat) : Bs (w.drewN n) B v l := h
theorem Bs.alloc {w : World} {B : Nat} {v : Value} {l : List UInt8} (h : Bs w B v l) (hB : B ≤ w.heap.size) (o : Obj) : Bs (w.alloc o) B v l := h.keep fun b of hb => World.cell?_alloc_lt w o ⟨b, of, none⟩ (by simp only; omega)
theorem Bs.grown {w w' : World} {B : Nat} {v : Value} {l : List UInt8} {row : Option Nat} (h : Bs w B v l) (hg : w.grownBy w' row) (hB : B ≤ w.heap.size) (hr : ∀ g, row = some g → B ≤ g) : Bs w' B v l :=
  h.keep fun b o hb => World.cell?_of_block (a := ⟨b, o, none⟩) (hg.block b (by omega) (fun e => by have := hr _ e.symm; omega))
theorem Bs.setCell {w : World} {B : Nat} {v : Value} {l : List UInt8} (h : Bs w B v l) {p : Addr} (hp : B ≤ p.block) (u : Value) : Bs (w.setCell p u) B v l :=
  h.keep fun b o hb => World.cell?_setCell_other w p ⟨b, o, none⟩ u (fun e => by subst e; simp only at hp; omega)
theorem Bs.nil (w : World) (B : Nat) (A : Option Addr) (c : Nat) : Bs w B (.slice A 0 c) [] := ⟨A, c, rfl, Nat.zero_le _, fun h => absurd rfl h⟩

theorem Own.nil (w : World) (base : Nat) : Own w base (.slice none 0 0) [] := World.ownsRow_nil w base 5 1
theorem Own.bs {w : World} {base : Nat} {v : Value} {l : List UInt8} (h : Own w base v l) : Bs w w.heap.size v l := by
  rcases h.2 with ⟨rfl, hl⟩ | ⟨g, cap, cur, rfl, _, hg, hnc, _⟩
  · have : l = [] := List.eq_nil_of_length_eq_zero hl
    subst this
    exact Bs.nil _ _ _ _
  · refine ⟨_, cap, rfl, hnc, fun _ => ⟨g, 0, rfl, (Array.getElem?_eq_some_iff.1 hg).1, fun i u hu => ?_⟩⟩
    have := h.cells (g := g) rfl i (bv u) (by rw [List.getElem?_map, hu]; rfl)
    rwa [show (⟨g, 0, none⟩ : Addr).add i = ⟨g, 0 + i, none⟩ by unfold Addr.add; split <;> simp_all] at this
theorem Own.shape {w : World} {base : Nat} {v : Value} {l : List UInt8} (h : Own w base v l) : ∃ A c, v = .slice A l.length c := by
  obtain ⟨A, c, e, _⟩ := h.bs
  exact ⟨A, c, e⟩
theorem Own.block_ge {w : World} {base : Nat} {v : Value} {l : List UInt8} (h : Own w base v l) {g : Nat} (hg : v.ownBlock = some g) : base ≤ g ∧ g < w.heap.size := h.lt g hg
theorem Own.alloc {w : World} {base : Nat} {v : Value} {l : List UInt8} (h : Own w base v l) (o : Obj) : Own (w.alloc o) base v l := World.ownsRow.alloc h o
theorem Own.drew {w : World} {base : Nat} {v : Value} {l : List UInt8} (h : Own w base v l) : Own w.drew base v l := h
theorem Own.kept {w w' : World} {base : Nat} {v : Value} {l : List UInt8} {row : Option Nat} (h : Own w base v l) (hg : w.grownBy w' row) (hne : v.ownBlock = none ∨ v.ownBlock ≠ row) : Own w' base v l := World.ownsRow.kept h hg hne
theorem Own.less {w : World} {base base' : Nat} {v : Value} {l : List UInt8} (h : Own w base v l) (hb : base' ≤ base) : Own w base' v l := by
  refine ⟨h.1, ?_⟩
  rcases h.2 with h2 | ⟨g, cap, cur, e, hg, r⟩
  · exact .inl h2
  · exact .inr ⟨g, cap, cur, e, by omega, r⟩
theorem Own.below {w w' : World} {base B : Nat} {v : Value} {l : List UInt8} (h : Own w base v l) (hb : Below B w w') (hB : w.heap.size ≤ B) : Own w' base v l := by
  refine ⟨h.1, ?_⟩
  rcases h.2 with h2 | ⟨g, cap, cur, e, hg, hgg, r⟩
  · exact .inl h2
  · have hlt : g < w.heap.size := (Array.getElem?_eq_some_iff.1 hgg).1
    exact .inr ⟨g, cap, cur, e, hg, by rw [hb.block g (by omega)]; exact hgg, r⟩

set_option maxRecDepth 100000 in
theorem info_u8 : ∃ i, Tryd.prog.info? 5 = some i ∧ i.zero = some (.int .u8 0) ∧ i.size = 1 ∧ i.bytes = 1 :=
  ⟨_, rfl, by kernel_rfl, by kernel_rfl, by kernel_rfl⟩

/-- What was there stays as it was. -/
def Grew (x y : World) : Prop := Below x.heap.size x y
theorem Grew.refl (x : World) : Grew x x := Below.refl _ _
theorem Grew.trans (x y z : World) (h : Grew x y) (k : Grew y z) : Grew x z := Below.trans h (k.mono h.size)
theorem nextB {B : Nat} {a b c : World} (h : Below B a b) (hB : B ≤ a.heap.size) (k : Below b.heap.size b c) : Below B a c := h.trans (k.mono (Nat.le_trans hB h.size))

/-- append of bytes onto a row of the call's own. -/
theorem run_app_bytes (w : World) {base B : Nat} {v y : Value} {l m : List UInt8} (ty : TypeId) (hown : Own w base v l) (hy : Bs w B y m) (hlen : l.length + m.length ≤ 140737488355327) (hbase : base ≤ w.heap.size) :
    ∃ v' w', (Builtin.append_ #[23, 23] ty #[v, y]).run Tryd.prog w = .ok v' w' ∧ Own w' base v' (l ++ m) ∧ w.grownBy w' v.ownBlock ∧ (v'.ownBlock = v.ownBlock ∨ v'.ownBlock = some w.heap.size) := by
  obtain ⟨i, hi, hz, hs, hb⟩ := info_u8
  obtain ⟨A, c, rfl, hc, hcell⟩ := hy
  by_cases hm : m = []
  · subst hm
    refine ⟨v, w, ?_, by simpa using hown, ⟨rfl, rfl, rfl, Nat.le_refl _, fun _ _ _ => rfl⟩, .inl rfl⟩
    have hf : ∀ (cap : Nat) (base' : Option Addr), l.length ≤ cap → v = .slice base' l.length cap → (Builtin.append_ #[23, 23] ty #[v, .slice A 0 c]).run Tryd.prog w = .ok v w := by
      intro cap base' hcap hv
      subst hv
      have hrun := Ev.run_append_fit (P := Tryd.prog) (ty := ty) (base := base') (m := l.length) (n := 0) (c := cap) (x := .slice A 0 c) (w := w) (new := #[]) Tryd.underlying23 Tryd.underlying23 (.inr ⟨_, rfl⟩) hi rfl (by cases A <;> simp [Builtin.firstCells, loadCells, loadCellsFrom]) (by omega)
      rw [hrun]
      cases base' <;> simp [storeCells]
    rcases hown.2 with ⟨rfl, hl⟩ | ⟨g, cap, cur, rfl, _, _, hnc, _⟩
    · exact hf 0 none (by omega) (by rw [hl])
    · exact hf cap _ hnc rfl
  · obtain ⟨b, off, rfl, hlt, hcs⟩ := hcell hm
    obtain ⟨v', w', h1, h2, h3, _, h5⟩ := run_append_own_at (P := Tryd.prog) w base 23 ty 5 i (.int .u8 0) 1 1 Tryd.underlying23 hi hz hs hb rfl (by decide) v l.length (l.map bv) hown ⟨b, off, none⟩ m.length c (m.map bv) (by simp)
      (by
        intro j u hj
        rw [List.getElem?_map] at hj
        cases hmj : m[j]? with
        | none => rw [hmj] at hj; cases hj
        | some x =>
          rw [hmj] at hj
          simp only [Option.map_some, Option.some.injEq] at hj
          subst hj
          rw [show (⟨b, off, none⟩ : Addr).add j = ⟨b, off + j, none⟩ by unfold Addr.add; split <;> simp_all]
          exact hcs j x hmj)
      (by intro u hu; simp only [List.mem_map] at hu; obtain ⟨x, _, rfl⟩ := hu; rfl) (by unfold maxLen; omega) (by omega) hbase
    refine ⟨v', w', h1, ?_, h3, h5⟩
    unfold Own
    rw [List.length_append, List.map_append]
    exact h2

/-- 'b = append(b, x...)' in a walk. -/
theorem wpList_app_bytes (w : World) {ops : Array Oper} {rest : List Oper} {o : Oper} {a : Act} {Q : Exit → Act → World → Prop} (hgd : o.guard = none) (s x : Operand)
    (ho : o.op = .call { callee := .builtin .append, args := #[s, x], argTypes := #[23, 23] }) {base B : Nat} {v y : Value} {l m : List UInt8} (hs : a.eval s = v) (hown : Own w base v l) (hx : a.eval x = y) (hy : Bs w B y m)
    (hlen : l.length + m.length ≤ 140737488355327) (hbase : base ≤ w.heap.size)
    (h : ∀ v' w', Own w' base v' (l ++ m) → w.grownBy w' v.ownBlock → (v'.ownBlock = v.ownBlock ∨ v'.ownBlock = some w.heap.size) → wpList Tryd.prog ops Q rest (a.put o.dst v') w') : wpList Tryd.prog ops Q (o :: rest) a w := by
  refine wpList_plain hgd fun K hK => ?_
  obtain ⟨v', w', hr, h2, h3, h4⟩ := run_app_bytes w o.type hown hy hlen hbase
  unfold Oper.wp execOp
  simp only [ho, resolve, invoke, builtin, Sem.run_bind, Sem.run_pure, Result.andThen_ok, List.map_toArray, List.map_cons, List.map_nil, hs, hx, hr]
  exact hK _ _ (h v' w' h2 h3 h4)

/-- A contract that leaves the world alone, inside a region that only reads. -/
theorem quiet_same {P : Program} {f : FuncId} {args : Array Value} {w : World} {n : Nat} {v : Value} (h : ∀ W : World, W.heap = w.heap → Calls P f args W fun e w' => e = .returned v ∧ W = w') :
    Calls P f args (w.drewN n) fun e w'' => e = .returned v ∧ ∃ m, w'' = w.drewN m :=
  (h (w.drewN n) rfl).mono fun _ _ ⟨he, hm⟩ => ⟨he, n, hm.symm⟩
end Go.Proofs.YtmfpjdbgdmmjkaaDoor
namespace Go.Proofs.YtmfpjdbgdmmjkaaDoor
namespace Ev
open Go.RowKit

section
variable {P : Program} {w0 : Base} {β : Pl} {t : Tr Value} {ρ : Operand → Value}

theorem Emb.newMap {a a1 : AW} {w : World} (he : Emb P w0 β a w) (hn : a.new ⟨[mapMark], 0, 2⟩ = some a1) :
    Le β (grow β a.next ⟨w.heap.size, 0, 0⟩) ∧ Emb P w0 (grow β a.next ⟨w.heap.size, 0, 0⟩) a1 (w.alloc (.map #[] 0)) ∧ VR (grow β a.next ⟨w.heap.size, 0, 0⟩) (.map (some a.next)) (.map (some w.heap.size)) := by
  obtain ⟨hp, la, cl, hput, rfl⟩ := AW.new_some hn
  have hnone := he.fresh a.next (Nat.le_refl _)
  have hle : Le β (grow β a.next ⟨w.heap.size, 0, 0⟩) := .grow hnone.2
  have hpush : ∀ g, g < w.heap.size → (w.alloc (.map #[] 0)).heap[g]? = w.heap[g]? := fun g hg => Below.heap_alloc _ _ _ hg
  have hgn : grow β a.next ⟨w.heap.size, 0, 0⟩ a.next = some ⟨w.heap.size, 0, 0⟩ := by simp [grow]
  have old : ∀ i b, (if i = a.next then some ⟨[mapMark], 0, 2⟩ else a.heap.get i) = some b → b.kind ≠ 2 → a.heap.get i = some b := by
    intro i b h hk
    split at h
    · injection h with h; subst h; exact absurd rfl hk
    · exact h
  have hβ : ∀ i b bi, a.heap.get i = some b → grow β a.next ⟨w.heap.size, 0, 0⟩ i = some bi → β i = some bi := by
    intro i b bi h1 h2
    unfold grow at h2
    rw [if_neg (by rintro rfl; rw [hnone.1] at h1; cases h1)] at h2
    exact h2
  refine ⟨hle, .mk' (he.below.alloc _) ?_ ?_ ?_ ?_ ?_ ?_, VR.map hgn⟩
  · intro i hi
    obtain ⟨g1, g2⟩ := he.fresh i (by simp at hi; omega)
    refine ⟨?_, ?_⟩
    · rw [Tr.get_put hput, if_neg (by simp at hi; omega)]; exact g1
    · unfold grow; rw [if_neg (by simp at hi; omega)]; exact g2
  · intro i b hi hkb
    rw [Tr.get_put hput] at hi
    have hi' := old i b hi (by omega)
    obtain ⟨bj, cur', fz', g1, g2, g3, g4, g5, g6, g7, g8⟩ := he.blk i b hi' hkb
    refine ⟨bj, cur', fz', hle _ _ g1, g2, g3, ?_, g5, g6, g7, g8.mono hle⟩
    rw [hpush _ (Array.getElem?_eq_some_iff.1 g4).1]; exact g4
  · intro i j b c bi bj hi hkb hj hkc hbi hbj hblk
    rw [Tr.get_put hput] at hi hj
    have hi' := old i b hi (by omega)
    have hj' := old j c hj (by omega)
    exact he.inj i j b c bi bj hi' hkb hj' hkc (hβ i b bi hi' hbi) (hβ j c bj hj' hbj) hblk
  · intro i b hi hkb
    rw [Tr.get_put hput] at hi
    obtain ⟨bi, h1, h2, h3⟩ := he.imp i b (old i b hi (by omega)) hkb
    exact ⟨bi, hle _ _ h1, h2, fun j v hv => by obtain ⟨v', h4, h5⟩ := h3 j v hv; exact ⟨v', h4, h5.mono hle⟩⟩
  · intro i b hi
    rw [Tr.get_put hput] at hi
    split at hi
    · injection hi with hi; subst hi; simp
    · exact he.kinds i b hi
  · have small : ∀ i b l bi, i ≠ a.next → (if i = a.next then some (⟨[mapMark], 0, 2⟩ : Blk) else a.heap.get i) = some b → b.kind = 2 → b.cells = mapMark :: l → grow β a.next ⟨w.heap.size, 0, 0⟩ i = some bi →
        a.heap.get i = some b ∧ β i = some bi ∧ bi.blk < w.heap.size := by
      intro i b l bi hne h1 h2 h3 h4
      rw [if_neg hne] at h1
      have h5 := hβ i b bi h1 h4
      obtain ⟨bj, es, clock, q1, _, q3, _⟩ := he.maps.map i b l h1 h2 h3
      rw [h5] at q1; injection q1 with q1; subst q1
      exact ⟨h1, h5, (Array.getElem?_eq_some_iff.1 q3).1⟩
    refine ⟨fun i b l hi hk hc => ?_, fun i j b c l m bi bj hi hk hc hj hk' hc' hbi hbj hblk => ?_⟩
    · rw [Tr.get_put hput] at hi
      by_cases hie : i = a.next
      · rw [if_pos hie] at hi
        injection hi with hi; subst hi
        simp only [List.cons.injEq, true_and] at hc
        subst hc; subst hie
        exact ⟨_, #[], 0, hgn, .inl he.below.size, (MapKept.heap_alloc w _).1, .nil _⟩
      · rw [if_neg hie] at hi
        obtain ⟨bj, es, clock, q1, q2, q3, q4⟩ := he.maps.map i b l hi hk hc
        exact ⟨bj, es, clock, hle _ _ q1, q2, by rw [hpush _ (Array.getElem?_eq_some_iff.1 q3).1]; exact q3, q4.mono hle⟩
    · rw [Tr.get_put hput] at hi hj
      by_cases hie : i = a.next
      · by_cases hje : j = a.next
        · rw [hie, hje]
        · obtain ⟨_, _, hlt⟩ := small j c m bj hje hj hk' hc' hbj
          rw [hie, hgn] at hbi
          injection hbi with hbi; subst hbi
          simp only at hblk; omega
      · obtain ⟨h1, h2, hlt⟩ := small i b l bi hie hi hk hc hbi
        by_cases hje : j = a.next
        · rw [hje, hgn] at hbj
          injection hbj with hbj; subst hbj
          simp only at hblk; omega
        · obtain ⟨k1, k2, _⟩ := small j c m bj hje hj hk' hc' hbj
          exact he.maps.inj i j b c l m bi bj h1 hk hc k1 hk' hc' h2 k2 hblk

theorem makeMap_run {ty : TypeId} {r : Option Operand} (h : Ops β t ρ (.makeMap ty r)) (hh : mapHint P (eval t) ty r = true) {w : World} : (Instr.makeMap ty (r.map ρ)).run P w = .ok (.map (some w.heap.size)) (w.alloc (.map #[] 0)) := by
  cases r with
  | none => simp [Instr.makeMap]
  | some x =>
    unfold mapHint at hh
    simp only at hh
    split at hh
    · rename_i k n kt et hx hu
      have hx' := h x (by simp [Op.operands])
      rw [hx] at hx'
      have := hx'.int
      simp [Instr.makeMap, run_underlying hu, this, asInt, asIntOf]
    · cases hh

theorem run_check {kt : TypeId} {d : TypeDesc} {k : Value} (hkt : P.underlying kt = some d) (hkd : (∃ k, d = .int k) ∨ d = .string ∨ d = .bool) (e : Bool) (w : World) : (Instr.checkKey e 10000 kt k).run P w = .ok () w := by
  suffices h : ∀ n, (Instr.checkKey e (n + 1) kt k).run P w = .ok () w from h 9999
  intro n
  unfold Instr.checkKey
  rw [Sem.run_bind, run_underlying hkt]
  rcases hkd with ⟨q, rfl⟩ | rfl | rfl <;> cases k <;> rfl

/-- A map's entries are changed. -/
theorem Emb.setMap {a a1 : AW} {w : World} (he : Emb P w0 β a w) {r : Nat} {b : Blk} {l : List Value} (hb : a.heap.get r = some b) (hk : b.kind = 2) (hcl : b.cells = mapMark :: l) {bi : BI} (hbi : β r = some bi)
    {l' : List Value} {es' : Array MapEntry} {c' : Nat} (hl : VL β l' (es'.toList.map entryV)) (hu : a.upd r ⟨mapMark :: l', 0, 2⟩ = some a1) :
    Emb P w0 β a1 { w with heap := w.heap.setIfInBounds bi.blk (.map es' c') } := by
  obtain ⟨bj, es, clock, q1, q2, q3, q4⟩ := he.maps.map r b l hb hk hcl
  rw [hbi] at q1; injection q1 with q1; subst q1
  have hlt : bi.blk < w.heap.size := (Array.getElem?_eq_some_iff.1 q3).1
  have hother : ∀ k, k ≠ bi.blk → (w.heap.setIfInBounds bi.blk (.map es' c'))[k]? = w.heap[k]? := fun k hk => by simp [Ne.symm hk]
  have hself : (w.heap.setIfInBounds bi.blk (.map es' c'))[bi.blk]? = some (.map es' c') := by simp [hlt]
  unfold AW.upd at hu
  split at hu
  case h_2 => cases hu
  rename_i hp la hput hla
  injection hu with hu; subst hu
  have hget := Tr.get_put hput
  have old : ∀ i c, hp.get i = some c → c.kind ≠ 2 → a.heap.get i = some c := by
    intro i c h hk
    rw [hget] at h
    split at h
    · injection h with h; subst h; exact absurd rfl hk
    · exact h
  refine .mk' ⟨he.below.os, he.below.tape, he.below.output, by simpa using he.below.size, fun k hkk => by rw [hother k (fun e => hkk (by rw [e]; exact q2))]; exact he.below.block k hkk⟩ ?_ ?_ ?_ ?_ ?_ ?_
  · intro i hi
    obtain ⟨g1, g2⟩ := he.fresh i hi
    refine ⟨?_, g2⟩
    rw [hget, if_neg]
    · exact g1
    · rintro rfl; rw [g1] at hb; cases hb
  · intro i c hi hkc
    obtain ⟨bj, cur, fz, g1, g2, g3, g4, g5⟩ := he.blk i c (old i c hi (by omega)) hkc
    exact ⟨bj, cur, fz, g1, g2, g3, by rw [hother _ (fun e => by rw [e, q3] at g4; cases g4)]; exact g4, g5⟩
  · intro i j c d bi' bj' hi hkc hj hkd
    exact he.inj i j c d bi' bj' (old i c hi (by omega)) hkc (old j d hj (by omega)) hkd
  · intro i c hi hkc
    exact he.imp i c (old i c hi (by omega)) hkc
  · intro i c hi
    rw [hget] at hi
    split at hi
    · injection hi with hi; subst hi; simp
    · exact he.kinds i c hi
  · have was : ∀ i c m, hp.get i = some c → c.kind = 2 → c.cells = mapMark :: m → ∃ c0 m0, a.heap.get i = some c0 ∧ c0.kind = 2 ∧ c0.cells = mapMark :: m0 := by
      intro i c m h1 h2 h3
      rw [hget] at h1
      split at h1
      · rename_i e; subst e; exact ⟨b, l, hb, hk, hcl⟩
      · exact ⟨c, m, h1, h2, h3⟩
    refine ⟨fun i c m hi hk2 hc => ?_, fun i j c d m n bi' bj' hi hk2 hc hj hk3 hd => ?_⟩
    · rw [hget] at hi
      by_cases hir : i = r
      · rw [if_pos hir] at hi
        injection hi with hi; subst hi; subst hir
        simp only [List.cons.injEq, true_and] at hc
        subst hc
        exact ⟨bi, es', c', hbi, q2, hself, hl⟩
      · rw [if_neg hir] at hi
        obtain ⟨bj, es2, c2, r1, r2, r3, r4⟩ := he.maps.map i c m hi hk2 hc
        refine ⟨bj, es2, c2, r1, r2, ?_, r4⟩
        rw [hother _ (fun e => hir (he.maps.inj i r c b m l bj bi hi hk2 hc hb hk hcl r1 hbi e))]
        exact r3
    · obtain ⟨c0, m0, s1, s2, s3⟩ := was i c m hi hk2 hc
      obtain ⟨d0, n0, t1, t2, t3⟩ := was j d n hj hk3 hd
      exact he.maps.inj i j c0 d0 m0 n0 bi' bj' s1 s2 s3 t1 t2 t3

theorem VR.pair {k x x' : Value} (hf : Ev.flat k = true) (hx : VR β x x') : VR β (.tuple #[k, x]) (.tuple #[k, x']) := by
  refine .tuple rfl fun i y y' h1 h2 => ?_
  rcases i with _ | _ | i
  · simp at h1 h2; subst h1; subst h2; exact .flat hf
  · simp at h1 h2; subst h1; subst h2; exact hx
  · simp at h1

theorem mapPut_sound {a a1 : AW} {w : World} (he : Emb P w0 β a w) {ty : TypeId} {m m' k k' x x' : Value} (hm : VR β m m') (hk : VR β k k') (hx : VR β x x') (hv : evMapPut P a ty m k x = some a1) :
    ∃ w1, (Instr.mapUpdate ty m' k' x').run P w = .ok () w1 ∧ Emb P w0 β a1 w1 := by
  unfold evMapPut at hv
  split at hv
  case h_2 => cases hv
  rename_i r kt et hu
  split at hv
  case h_2 => cases hv
  rename_i d l hd hl
  split at hv
  case isFalse => cases hv
  rename_i hf
  have := hk.flat_eq hf
  subst this
  obtain ⟨bi, hbi, rfl⟩ := hm.mapOf
  obtain ⟨b, hb, hk2, hcl⟩ := mapOf_some hl
  obtain ⟨bj, es, clock, h1, _, h3, h4⟩ := he.maps.map r b l hb hk2 hcl
  rw [hbi] at h1; injection h1 with h1; subst h1
  obtain ⟨hkt, hkd⟩ := keyKind_spec hd
  have hchk := run_check (k := k') hkt hkd false w
  have hget := MapKept.run_getObj_map (P := P) h3
  split at hv
  · rename_i sr hss hfi
    rcases mapFind_sound l es.toList 0 h4 _ hfi with ⟨_, g2⟩ | ⟨j, v2, v', g1, _⟩
    · have hfk := MapKept.run_findKey (P := P) (w := w) hkt g2
      refine ⟨_, ?_, he.setMap hb hk2 hcl hbi (es' := es.push { key := k', val := x', born := clock }) (c' := clock + 1) ?_ hv⟩
      · simp [Instr.mapUpdate, run_underlying hu, hget, hchk, hfk, MapKept.run_setObj_map _ h3]
      · rw [Array.toList_push, List.map_append]
        exact h4.push (VR.pair hf hx)
    · cases g1
  · rename_i sr i v1 hss hfi
    rcases mapFind_sound l es.toList 0 h4 _ hfi with ⟨g1, _⟩ | ⟨j, v2, v', g1, g2, g3, g4, g5⟩
    · cases g1
    · simp only [Option.some.injEq, Prod.mk.injEq, Nat.zero_add] at g1 g2
      obtain ⟨rfl, rfl⟩ := g1
      have hfk := MapKept.run_findKey (P := P) (w := w) hkt g2
      have hlt : i < es.size := by simpa using g4
      have hkey : es[i].key = k' := g5 _ (by simp [hlt])
      obtain ⟨_, _, _, hik⟩ := sameNow_flat hss
      have hks : (Instr.keyThatStays k' k').run P w = .ok k' w := by simp [Instr.keyThatStays, hik]
      refine ⟨_, ?_, he.setMap hb hk2 hcl hbi (es' := es.modify i fun e => { e with key := k', val := x' }) (c' := clock) ?_ hv⟩
      · simp [Instr.mapUpdate, run_underlying hu, hget, hchk, hfk, hlt, hkey, hks, MapKept.run_setObj_map _ h3]
      · have e : (es.modify i fun e => { e with key := k', val := x' }).toList.map entryV = (es.toList.map entryV).set i (.tuple #[k', x']) := by
          apply List.ext_getElem?
          intro n
          simp only [List.getElem?_map, Array.getElem?_toList, Array.getElem?_modify, List.getElem?_set, List.length_map, Array.length_toList]
          by_cases hin : i = n
          · subst hin; simp [hlt, entryV]
          · simp [hin]
        rw [e]
        exact h4.set i (VR.pair hf hx)
  · cases hv

theorem clear_sound {a a1 : AW} {w : World} (he : Emb P w0 β a w) {ty ty' : TypeId} {s s' : Value} (hs : VR β s s') (hv : evClear P a ty s = some a1) :
    ∃ w1, (Builtin.clear_ #[ty] ty' #[s']).run P w = .ok (.tuple #[]) w1 ∧ Emb P w0 β a1 w1 := by
  unfold evClear at hv
  split at hv
  · rename_i e hu
    injection hv with hv; subst hv
    have := hs.flat_eq (v := .slice none 0 0) rfl
    subst this
    exact ⟨w, by simp [Builtin.clear_, run_underlying hu], he⟩
  · rename_i p n c e hu
    obtain ⟨p', bi, rfl, hp, hbi⟩ := hs.sliceOf
    split at hv
    · rename_i h0
      subst h0
      injection hv with hv; subst hv
      exact ⟨w, by simp [Builtin.clear_, run_underlying hu], he⟩
    · rename_i h0
      split at hv
      case isFalse => cases hv
      rename_i hz
      split at hv
      case h_2 => cases hv
      rename_i z hzz
      split at hv
      case isFalse => cases hv
      rename_i hone
      unfold zflat at hz
      cases hi : P.info? e with
      | none => rw [hi] at hz; cases hz
      | some inf =>
        rw [hi] at hz hzz
        simp only [Option.bind_some] at hzz
        dsimp only at hz
        rw [hzz] at hz
        simp only [Bool.and_eq_true] at hz
        have hmem : ∀ v ∈ (Builtin.zeroCells z.cells n).toList, v ∈ z.cells.toList := by
          intro v hv
          simp only [Builtin.zeroCells, Array.toList_map, List.mem_map] at hv
          obtain ⟨i, him, rfl⟩ := hv
          have hi0 : i < n * z.cells.size := by simpa using him
          have hs : 0 < z.cells.size := by
            rcases Nat.eq_zero_or_pos z.cells.size with h | h
            · rw [h] at hi0; simp at hi0
            · exact h
          have hlt := Nat.mod_lt i hs
          rw [getElem!_pos z.cells _ hlt]
          exact Array.mem_toList_iff.2 (Array.getElem_mem _)
        have hfl : ∀ v ∈ z.cells.toList, flat v = true := by
          intro v hv
          obtain ⟨i, hi2⟩ := List.getElem?_of_mem hv
          have := (VR.cells (β := β) (.flat hz.1 : VR β z z))
          cases z with
          | agg cs =>
            have h1 := hz.1
            simp only [flat, List.all_eq_true] at h1
            exact atom_flat (h1 v hv)
          | _ => simp only [Value.cells, List.mem_singleton] at hv; subst hv; exact hz.1
        obtain ⟨w1, k1, k2⟩ := store_all hp (Builtin.zeroCells z.cells n).toList (Builtin.zeroCells z.cells n).toList 0 he (fun v hv => by
          simp only [List.all_eq_true] at hone; exact hone v (hmem v hv)) (.of_flat fun v hv => hfl v (hmem v hv)) hv
        refine ⟨w1, ?_, k2⟩
        have hn : ∀ m, n ≠ 0 → (match n, m with | 0, _ => (0 : Nat) | _, m => m) = m := by intro m h; cases n <;> simp_all
        cases n with
        | zero => exact absurd rfl h0
        | succ n => simp [Builtin.clear_, run_underlying hu, zeroValue, typeInfo, hi, hzz, k1]
  · cases hv
end
end Ev
end Go.Proofs.YtmfpjdbgdmmjkaaDoor
namespace Go.Proofs.YtmfpjdbgdmmjkaaDoor
namespace Ev
open Go.RowKit

section
variable {P : Program} {w0 : Base} {β : Pl} {t : Tr Value} {ρ : Operand → Value} {o : Oper}

/-- What an operation comes to. -/
def OpRes (P : Program) (w0 : Base) (β : Pl) (a1 : AW) (r : Result Next) : AN → Prop
  | .value v => ∃ β1 w1 v', r = .ok (.value v') w1 ∧ Le β β1 ∧ Emb P w0 β1 a1 w1 ∧ VR β1 v v'
  | .skip => ∃ β1 w1, r = .ok .skip w1 ∧ Le β β1 ∧ Emb P w0 β1 a1 w1
  | .enter f args => ∃ β1 w1 args', r = .ok (.enter f args') w1 ∧ Le β β1 ∧ Emb P w0 β1 a1 w1 ∧ VL β1 args.toList args'.toList

theorem res_of_sim {a a1 : AW} {w : World} (he : Emb P w0 β a w) {s s' : Sem Value} (h : SimAt P w0 β s s' VR) {r : AN} (hr : (match arun P s a with | some (v, w') => some (AN.value v, w') | none => none) = some (r, a1)) :
    OpRes P w0 β a1 ((do pure (Next.value (← s')) : Sem Next).run P w) r := by
  cases hs : arun P s a with
  | none => rw [hs] at hr; cases hr
  | some q =>
    obtain ⟨v, a2⟩ := q
    rw [hs] at hr
    simp only [Option.some.injEq, Prod.mk.injEq] at hr
    obtain ⟨rfl, rfl⟩ := hr
    obtain ⟨β1, v', w1, k1, k2, k3, k4⟩ := h a w v a2 he hs
    refine ⟨β1, w1, v', ?_, k2, k3, k4⟩
    rw [Sem.run_bind, k1]; rfl

theorem VL.map {args : Array Operand} (h : ∀ x, x ∈ args → VR β (eval t x) (ρ x)) : VL β (args.map (eval t)).toList (args.map ρ).toList := by
  refine ⟨by simp, fun i v v' h1 h2 => ?_⟩
  simp only [Array.toList_map, List.getElem?_map, Option.map_eq_some_iff] at h1 h2
  obtain ⟨x, hx, rfl⟩ := h1
  obtain ⟨y, hy, rfl⟩ := h2
  rw [hx] at hy; injection hy with hy; subst hy
  exact h x (by rw [← Array.mem_toList_iff]; exact List.mem_of_getElem? hx)

theorem Emb.freeze {a : AW} {w : World} (he : Emb P w0 β a w) {i : Nat} {b : Blk} {bi : BI} (hb : a.heap.get i = some b) (hk1 : b.kind = 1) (hbi : β i = some bi) :
    ∃ n, (w.shape? bi.blk) = some (b.elem, n) ∧ Emb P w0 β a (w.freeze ⟨bi.blk, n, none⟩ 1) := by
  have hk : b.kind < 2 := by omega
  obtain ⟨bj, cur, fz, g1, g2, g3, g4, g5, g6, g7, g8⟩ := he.blk i b hb hk
  rw [hbi] at g1; injection g1 with g1; subst g1
  refine ⟨cur.size, by simp [World.shape?, g4], ?_⟩
  have hfr : ∃ fz', (w.freeze ⟨bi.blk, cur.size, none⟩ 1).heap[bi.blk]? = some (.cells cur b.elem fz') ∧ (fz'.1 = fz'.2 ∨ cur.size ≤ fz'.1) := by
    obtain ⟨lo, hi⟩ := fz
    simp only at g5
    by_cases hlh : lo = hi
    · refine ⟨(cur.size, cur.size + 1), ?_, .inr (Nat.le_refl _)⟩
      simp [World.freeze, Array.getElem?_modify, g4, hlh]
    · refine ⟨(min lo cur.size, max hi (cur.size + 1)), ?_, .inr ?_⟩
      · simp [World.freeze, Array.getElem?_modify, g4, hlh]
      · rcases g5 with g5 | g5
        · exact absurd g5 hlh
        · simp only; omega
  obtain ⟨fz', q1, q2⟩ := hfr
  have hother : ∀ k, k ≠ bi.blk → (w.freeze ⟨bi.blk, cur.size, none⟩ 1).heap[k]? = w.heap[k]? := by
    intro k hk
    simp [World.freeze, Array.getElem?_modify, Ne.symm hk]
  have hsize : (w.freeze ⟨bi.blk, cur.size, none⟩ 1).heap.size = w.heap.size := by simp [World.freeze]
  refine .mk' ⟨he.below.os, he.below.tape, he.below.output, by rw [hsize]; exact he.below.size, fun k hk => by rw [hother k (fun e => hk (by rw [e]; exact g2))]; exact he.below.block k hk⟩ he.fresh ?_ he.inj he.imp he.kinds (he.maps.keep (Le.refl β) (fun _ _ _ h _ _ => h) fun g es c hg => by rw [hother g (fun e => by subst e; rw [g4] at hg; cases hg)]; exact hg)
  intro j c hj hkc
  obtain ⟨bj, cur', fz2, r1, r2, r3, r4, r5, r6, r7, r8⟩ := he.blk j c hj hkc
  by_cases hblk : bj.blk = bi.blk
  · have hji := he.inj j i c b bj bi hj hkc hb hk r1 hbi hblk
    subst hji
    rw [hb] at hj; injection hj with hj; subst hj
    rw [hbi] at r1; injection r1 with r1; subst r1
    exact ⟨bi, cur, fz', hbi, g2, g3, q1, q2, g6, fun h => by omega, g8⟩
  · exact ⟨bj, cur', fz2, r1, r2, r3, by rw [hother _ hblk]; exact r4, r5, r6, r7, r8⟩

theorem bytesOf_ints : ∀ (l l' : List Value) (s b : ByteArray), VL β l l' → bytesOf l s = some b → ∃ ns : List Int, l' = ns.map (Value.int .u8) ∧ b = ns.foldl (fun r n => r.push (UInt8.ofNat n.toNat)) s := by
  intro l
  induction l with
  | nil =>
    intro l' s b hl h
    have : l' = [] := List.eq_nil_of_length_eq_zero (by simpa using hl.1.symm)
    subst this
    simp only [bytesOf, Option.some.injEq] at h
    exact ⟨[], rfl, by subst h; rfl⟩
  | cons v r ih =>
    intro l' s b hl h
    cases l' with
    | nil => have := hl.1; simp at this
    | cons v' r' =>
      unfold bytesOf at h
      split at h
      · rename_i h0; cases h0
      · rename_i n r0 h0
        injection h0 with h1 h2
        subst h1; subst h2
        obtain ⟨ns, k1, k2⟩ := ih r' _ b hl.tail h
        have := hl.head.int
        subst this
        exact ⟨n :: ns, by rw [k1]; rfl, by rw [k2]; rfl⟩
      · cases h

/-- A block that may have been marked. -/
theorem Emb.loosen {a a1 : AW} {w : World} (he : Emb P w0 β a w) {i : Nat} {b : Blk} (hb : a.heap.get i = some b) (hk : b.kind < 2) (h : a.upd i { b with kind := 1 } = some a1) :
    Emb P w0 β a1 w ∧ a1.heap.get i = some { b with kind := 1 } := by
  unfold AW.upd at h
  split at h
  · rename_i hp la hput hla
    injection h with h; subst h
    have hget := Tr.get_put hput
    have back : ∀ j c, hp.get j = some c → ∃ c0, a.heap.get j = some c0 ∧ c0.cells = c.cells ∧ c0.elem = c.elem ∧ (c.kind < 2 → c0.kind < 2) ∧ (c.kind = 0 → c0.kind = 0) ∧ (c.kind = 3 → c0.kind = 3 ∧ c0 = c) ∧ c.kind ≤ 3 := by
      intro j c hj
      rw [hget] at hj
      by_cases hji : j = i
      · rw [if_pos hji] at hj; injection hj with hj; subst hj; subst hji
        exact ⟨b, hb, rfl, rfl, fun _ => hk, fun h => by simp at h, fun h => by simp at h, by simp⟩
      · rw [if_neg hji] at hj
        exact ⟨c, hj, rfl, rfl, fun h => h, fun h => h, fun h => ⟨h, rfl⟩, he.kinds j c hj⟩
    refine ⟨.mk' he.below ?_ ?_ ?_ ?_ ?_ ?_, by rw [hget, if_pos rfl]⟩
    · intro j hj
      obtain ⟨g1, g2⟩ := he.fresh j hj
      refine ⟨?_, g2⟩
      rw [hget, if_neg]
      · exact g1
      · rintro rfl; rw [g1] at hb; cases hb
    · intro j c hj hkc
      obtain ⟨c0, q1, q2, q3, q4, q5, _⟩ := back j c hj
      obtain ⟨bj, cur, fz, r1, r2, r3, r4, r5, r6, r7, r8⟩ := he.blk j c0 q1 (q4 hkc)
      exact ⟨bj, cur, fz, r1, r2, r3, by rw [← q3]; exact r4, r5, by rw [← q2, ← q3]; exact r6, fun h => r7 (q5 h), by rw [← q2]; exact r8⟩
    · intro j k c d bj bk hj hkc hk' hkd hbj hbk hblk
      obtain ⟨c0, q1, _, _, q4, _⟩ := back j c hj
      obtain ⟨d0, s1, _, _, s4, _⟩ := back k d hk'
      exact he.inj j k c0 d0 bj bk q1 (q4 hkc) s1 (s4 hkd) hbj hbk hblk
    · intro j c hj hkc
      obtain ⟨c0, q1, _, _, _, _, q6, _⟩ := back j c hj
      obtain ⟨q7, rfl⟩ := q6 hkc
      exact he.imp j c0 q1 q7
    · intro j c hj
      obtain ⟨_, _, _, _, _, _, _, q8⟩ := back j c hj
      exact q8
    · refine he.maps.keep (Le.refl β) (fun j c l hj hk2 _ => ?_) fun _ _ _ h => h
      rw [hget] at hj
      split at hj
      · injection hj with hj; subst hj; simp at hk2
      · exact hj
  · cases h

theorem mark_run {W : World} {g n : Nat} {e : TypeId} (h : W.shape? g = some (e, n)) : (markStringish ⟨g, 0, none⟩).run P W = .ok () (W.freeze ⟨g, n, none⟩ 1) := by
  simp only [markStringish, Sem.run_bind, run_shape, Result.andThen_ok, h]
  rfl

theorem convert_sound {a a1 : AW} {w : World} (he : Emb P w0 β a w) {s d : TypeId} {x x' : Value} (hx : VR β x x') {r : AN} (hv : evConvert P a s d x = some (r, a1)) :
    OpRes P w0 β a1 ((do pure (Next.value (← convert s d x')) : Sem Next).run P w) r := by
  unfold evConvert at hv
  split at hv
  · rename_i e hu1 hu2
    have := hx.flat_eq (v := .slice none 0 0) rfl
    subst this
    split at hv
    · rename_i hu3
      simp only [Option.some.injEq, Prod.mk.injEq] at hv
      obtain ⟨rfl, rfl⟩ := hv
      refine ⟨β, w, .string .empty, ?_, Le.refl β, he, .flat rfl⟩
      rw [Sem.run_bind, run_convert_bytes_string w s d e none 0 0 hu1 hu3 hu2]
      rfl
    · cases hv
  · rename_i p n c e hu1 hu2
    obtain ⟨p', bi, rfl, hp, hbi⟩ := hx.sliceOf
    split at hv
    · rename_i q l hu3 hsrc
      split at hv
      · rename_i b hby
        simp only [Option.some.injEq, Prod.mk.injEq] at hv
        obtain ⟨rfl, rfl⟩ := hv
        obtain ⟨new', k1, k2, k3, k4⟩ := src_sound he.toEmbR hx hsrc
        obtain ⟨ns, m1, m2⟩ := bytesOf_ints _ _ _ _ k1 hby
        have hq : q = n := by
          have := k3 w
          simp only [Builtin.lenOf, Sem.run_pure] at this
          injection this with this; exact this.symm
        subst hq
        refine ⟨β, w, .string b, ?_, Le.refl β, he, .flat rfl⟩
        rw [Sem.run_bind, run_convert_bytes_string w s d e _ _ _ hu1 hu3 hu2]
        have hlc := k4 q (Nat.le_refl _) w rfl
        rw [List.take_of_length_le (by rw [← k1.1]; omega), m1] at hlc
        simp only [Builtin.firstCells, Nat.mul_one] at hlc
        rw [run_bytesToString w p' q (c + bi.ext) ns hlc, m2]
        rfl
      · cases hv
    · cases hv
  · rename_i p n c e e' hu1 hu2
    obtain ⟨p', bi, rfl, hp, hbi⟩ := hx.sliceOf
    split at hv
    · rename_i b hsd hu3 hb
      split at hv
      · rename_i hc
        split at hv
        case h_2 => cases hv
        rename_i a2 hup
        simp only [Option.some.injEq, Prod.mk.injEq] at hv
        obtain ⟨rfl, rfl⟩ := hv
        obtain ⟨he2, hb2⟩ := he.loosen hb hc.1 hup
        obtain ⟨m, k1, k2⟩ := he2.freeze hb2 rfl hbi
        obtain ⟨_, bk, hbk, rfl⟩ := hp
        rw [hbi] at hbk; injection hbk with hbk; subst hbk
        have hsd' : s = d := by simpa using hsd
        subst hsd'
        refine ⟨β, _, .slice (some ⟨bi.blk, bi.off + p.off, none⟩) n (c + bi.ext), ?_, Le.refl β, k2, hx⟩
        obtain ⟨_, rfl⟩ := hc
        simp [convert, run_underlying hu1, run_underlying hu3, markStringish, k1]
      · cases hv
    · cases hv
  · rename_i b e hu1 hu2
    have := hx.flat_eq (v := .string b) rfl
    subst this
    split at hv
    · rename_i hu3
      split at hv
      · rename_i a2 hn
        split at hv
        · rename_i hc
          simp only [Option.some.injEq, Prod.mk.injEq] at hv
          obtain ⟨rfl, rfl⟩ := hv
          have hcap : b.size ≤ grownCap w b.size 0 e := grownCap_ge w b.size 0 e
          have hcur : (b.data.map (fun b => Value.int .u8 b.toNat) ++ Array.replicate (grownCap w b.size 0 e - b.size) (Value.int .u8 0)).size = (b.data.toList.map fun b => Value.int .u8 b.toNat).length + (grownCap w b.size 0 e - b.size) * P.cellsOf e := by
            simp [hc.1]
          have htl : ((b.data.map (fun b => Value.int .u8 b.toNat) ++ Array.replicate (grownCap w b.size 0 e - b.size) (Value.int .u8 0)).toList.take (b.data.toList.map fun b => Value.int .u8 b.toNat).length) = (b.data.toList.map fun b => Value.int .u8 b.toNat) := by
            rw [Array.toList_append, Array.toList_map, List.take_left' rfl]
          obtain ⟨h1, h2⟩ := he.drew.new (k := 1) (fz := (0, 0)) (ext := grownCap w b.size 0 e - b.size) (by omega) (.inl rfl) hcur (fun h => by cases h) (by
            rw [htl]
            exact .of_flat fun v hv => by simp only [List.mem_map] at hv; obtain ⟨b, _, rfl⟩ := hv; rfl) hn
          have hg : grow β a.next ⟨w.drew.heap.size, 0, grownCap w b.size 0 e - b.size⟩ a.next = some ⟨w.heap.size, 0, grownCap w b.size 0 e - b.size⟩ := by unfold grow; rw [if_pos rfl]; rfl
          obtain ⟨hp, la, cl, hput, rfl⟩ := AW.new_some hn
          obtain ⟨n, m1, m2⟩ := h2.freeze (i := a.next) (b := ⟨_, e, 1⟩) (by rw [Tr.get_put hput, if_pos rfl]) (by simp) hg
          refine ⟨_, _, .slice (some ⟨w.heap.size, 0, none⟩) b.size (grownCap w b.size 0 e), ?_, h1, m2, ?_⟩
          · have hch : (choose (.appendCap b.size 0 e)).run P w = .ok (grownCap w b.size 0 e) w.drew := by
              rw [run_choose]; rfl
            have hmk := mark_run (P := P) m1
            have hcv : (convert s d (.string b)).run P w = (Conv.stringToBytes e b).run P w := by
              simp [convert, run_underlying hu1, run_underlying hu2, run_underlying hu3]
            rw [Sem.run_bind, hcv]
            simp only [Conv.stringToBytes, Sem.run_bind, hch, Result.andThen_ok, newRow, run_newObj, Sem.run_pure]
            have hsz : w.drew.heap.size = w.heap.size := rfl
            rw [hsz]
            simp only at hmk
            rw [hmk]
            rfl
          · have := VR.slice (β := grow β a.next ⟨w.drew.heap.size, 0, grownCap w b.size 0 e - b.size⟩) (a := ⟨a.next, 0, none⟩) (a' := ⟨w.heap.size, 0, none⟩) (n := b.size) (c := b.size) (bi := ⟨w.heap.size, 0, grownCap w b.size 0 e - b.size⟩) ⟨rfl, _, hg, by simp⟩ hg
            simp only at this
            rw [show b.size + (grownCap w b.size 0 e - b.size) = grownCap w b.size 0 e by omega] at this
            exact this
        · cases hv
      · cases hv
    · cases hv
  · cases hv

theorem arr_two {args : Array Operand} {x y : Operand} (h : args.toList = [x, y]) : args = #[x, y] := by rw [← Array.toArray_toList (xs := args), h]
theorem arr_two' {args : Array TypeId} {x y : TypeId} (h : args.toList = [x, y]) : args = #[x, y] := by rw [← Array.toArray_toList (xs := args), h]

theorem elemOf_spec {ty e : TypeId} (h : elemOf P ty = some e) : P.underlying ty = some (.slice e) := by
  unfold elemOf at h
  split at h
  · rename_i e' hu; injection h with h; subst h; exact hu
  · cases h

theorem Parts.mapLe {ps : Array (Nat × Operand)} (h : ∀ x, x ∈ ps.toList.map (·.2) → VR β (eval t x) (ρ x)) (β1 : Pl) (hle : Le β β1) :
    Parts β1 ((ps.map fun (i, x) => (i, eval t x)).toList) ((ps.map fun (i, x) => (i, ρ x)).toList) :=
  Parts.map fun x hx => (h x hx).mono hle

theorem mem_sound {a a1 : AW} {w : World} (he : Emb P w0 β a w) (h : Ops β t ρ o.op) {r : AN} (hv : evMem P t o a = some (r, a1)) :
    OpRes P w0 β a1 ((execOp ρ o).run P w) r := by
  obtain ⟨dst, op, type, pos, after, guard⟩ := o
  simp only at h
  unfold evMem at hv
  simp only at hv
  split at hv
  · -- alloc
    rename_i e
    split at hv
    · rename_i hz; exact res_of_sim he (sim_alloc hz) hv
    · cases hv
  · -- box
    rename_i e x
    exact res_of_sim he (sim_box (h x (by simp [Op.operands]))) hv
  · -- build
    rename_i ty ps
    split at hv
    · rename_i hz
      refine res_of_sim he (sim_build hz (Parts.map fun x hx => h x ?_)) hv
      simpa [Op.operands] using hx
    · cases hv
  · -- buildSlice
    rename_i ty n ps
    split at hv
    · rename_i e hel
      split at hv
      · rename_i hz
        refine res_of_sim he (sim_buildSlice (elemOf_spec hel) hz n (Parts.mapLe fun x hx => h x ?_)) hv
        simpa [Op.operands] using hx
      · cases hv
    · cases hv
  · -- makeSlice
    rename_i ty l c
    split at hv
    · rename_i e hel
      split at hv
      · rename_i hz
        simp only [Bool.and_eq_true] at hz
        obtain ⟨⟨hz, hl⟩, hc⟩ := hz
        have e1 := (h l (by simp [Op.operands])).flat_eq hl
        have e2 := (h c (by simp [Op.operands])).flat_eq hc
        simp only [execOp, e1, e2]
        exact res_of_sim he (sim_makeSlice (elemOf_spec hel) hz _ _) hv
      · cases hv
    · cases hv
  · -- store
    rename_i ty x y
    split at hv
    · rename_i p hp
      have hx := h x (by simp [Op.operands])
      rw [hp] at hx
      obtain ⟨p', h1, h2⟩ := hx.pointer
      split at hv
      · rename_i u a2 hs
        simp only [Option.some.injEq, Prod.mk.injEq] at hv
        obtain ⟨rfl, rfl⟩ := hv
        obtain ⟨β1, x', w1, k1, k2, k3, _⟩ := sim_storeVar ty h2 (h y (by simp [Op.operands])) a w u a2 he hs
        refine ⟨β1, w1, ?_, k2, k3⟩
        simp only [execOp, Instr.storeAt, h1, Instr.sureAddr, pure_bind, Sem.run_bind, k1, Result.andThen_ok, Sem.run_pure]
      · cases hv
    · cases hv
  · -- slice
    rename_i ty x lo hi
    cases hsl : evSlice P a ty (eval t x) (lo.map (eval t)) (hi.map (eval t)) with
    | none => rw [hsl] at hv; cases hv
    | some v =>
      rw [hsl] at hv
      simp only [Option.map_some, Option.some.injEq, Prod.mk.injEq] at hv
      obtain ⟨rfl, rfl⟩ := hv
      obtain ⟨v', k1, k2⟩ := slice_sound he.toEmbR (lo' := lo.map ρ) (hi' := hi.map ρ) (h x (by simp [Op.operands])) (by
          intro y hy
          cases lo with
          | none => cases hy
          | some z => simp only [Option.map_some, Option.some.injEq] at hy; subst hy; exact ⟨_, rfl, h z (by simp [Op.operands])⟩) (by cases lo <;> simp) (by
          intro y hy
          cases hi with
          | none => cases hy
          | some z => simp only [Option.map_some, Option.some.injEq] at hy; subst hy; exact ⟨_, rfl, h z (by cases lo <;> simp [Op.operands])⟩) (by cases hi <;> simp) hsl
      refine ⟨β, w, v', ?_, Le.refl β, he, k2⟩
      simp only [execOp, Option.map_none, Sem.run_bind, k1, Result.andThen_ok, Sem.run_pure]
  · -- convert
    rename_i s d x
    exact convert_sound he (h x (by simp [Op.operands])) hv
  · -- makeMap
    rename_i ty r
    split at hv
    case isFalse => cases hv
    rename_i hh
    split at hv
    case h_2 => cases hv
    rename_i a2 hn
    simp only [Option.some.injEq, Prod.mk.injEq] at hv
    obtain ⟨rfl, rfl⟩ := hv
    obtain ⟨k1, k2, k3⟩ := he.newMap hn
    refine ⟨_, _, .map (some w.heap.size), ?_, k1, k2, k3⟩
    simp only [execOp]
    rw [Sem.run_bind, makeMap_run h hh]
    rfl
  · -- mapUpdate
    rename_i ty m k x
    split at hv
    case h_2 => cases hv
    rename_i a2 hp
    simp only [Option.some.injEq, Prod.mk.injEq] at hv
    obtain ⟨rfl, rfl⟩ := hv
    obtain ⟨w1, k1, k2⟩ := mapPut_sound he (h m (by simp [Op.operands])) (h k (by simp [Op.operands])) (h x (by simp [Op.operands])) hp
    refine ⟨β, w1, ?_, Le.refl β, k2⟩
    simp only [execOp, Sem.run_bind, k1, Result.andThen_ok, Sem.run_pure]
  · -- insert
    rename_i ty m k x
    split at hv
    case h_2 => cases hv
    rename_i a2 hp
    simp only [Option.some.injEq, Prod.mk.injEq] at hv
    obtain ⟨rfl, rfl⟩ := hv
    obtain ⟨w1, k1, k2⟩ := mapPut_sound he (h m (by simp [Op.operands])) (h k (by simp [Op.operands])) (h x (by simp [Op.operands])) hp
    refine ⟨β, w1, ?_, Le.refl β, k2⟩
    simp only [execOp, Sem.run_bind, k1, Result.andThen_ok, Sem.run_pure]
  · -- call
    rename_i c
    obtain ⟨callee, args, argTypes⟩ := c
    simp only at hv
    split at hv
    · rename_i f
      split at hv
      case h_2 => cases hv
      rename_i g first caps hfv
      split at hv
      · rename_i hb
        simp only [Option.some.injEq, Prod.mk.injEq] at hv
        obtain ⟨rfl, rfl⟩ := hv
        have hf := h f (by simp [Op.operands, Call.operands])
        rw [hfv] at hf
        obtain ⟨first', caps', hf, hl1, hl2⟩ := hf.funcOf
        unfold hasBody at hb
        split at hb
        · rename_i fn hfn
          simp only [Bool.and_eq_true, bne_iff_ne, ne_eq] at hb
          refine ⟨β, w, first' ++ args.map ρ ++ caps', ?_, Le.refl β, he, by
            simp only [Array.toList_append]
            exact (hl1.append (VL.map fun x hx => h x (by simp [Op.operands, Call.operands, hx]))).append hl2⟩
          have hbody : ¬ fn.body = none := by
            intro hbo; rw [hbo] at hb; simp at hb
          have hname : ¬ fn.name = "runtime.NumGoroutine" := hb.1
          simp [execOp, resolve, hf, Deferred.ofValue, invoke, callFunc, hfn, hname, hbody]
        · cases hb
      · cases hv
    · rename_i s ty hargs htys
      split at hv
      case h_2 => cases hv
      rename_i a2 hcl
      simp only [Option.some.injEq, Prod.mk.injEq] at hv
      obtain ⟨rfl, rfl⟩ := hv
      have e1 : args = #[s] := by rw [← Array.toArray_toList (xs := args), hargs]
      have e2 : argTypes = #[ty] := by rw [← Array.toArray_toList (xs := argTypes), htys]
      subst e1; subst e2
      obtain ⟨w1, k1, k2⟩ := clear_sound (ty' := type) he (h s (by simp [Op.operands, Call.operands])) hcl
      refine ⟨β, w1, .tuple #[], ?_, Le.refl β, k2, .flat rfl⟩
      simp [execOp, resolve, invoke, builtin, k1]
    · rename_i s x ty1 ty2 hargs htys
      have e1 := arr_two hargs
      have e2 := arr_two' htys
      subst e1; subst e2
      cases ha : evAppend P a ty1 ty2 (eval t s) (eval t x) with
      | none => rw [ha] at hv; cases hv
      | some q =>
        obtain ⟨v, a2⟩ := q
        rw [ha] at hv
        simp only [Option.some.injEq, Prod.mk.injEq] at hv
        obtain ⟨rfl, rfl⟩ := hv
        obtain ⟨β1, v', w1, k1, k2, k3, k4⟩ := append_sound (ty := type) he (h s (by simp [Op.operands, Call.operands])) (h x (by simp [Op.operands, Call.operands])) ha
        refine ⟨β1, w1, v', ?_, k2, k3, k4⟩
        simp [execOp, resolve, invoke, builtin, k1]
    · rename_i s x ty1 ty2 hargs htys
      have e1 := arr_two hargs
      have e2 := arr_two' htys
      subst e1; subst e2
      cases ha : evCopy P a ty1 (eval t s) (eval t x) with
      | none => rw [ha] at hv; cases hv
      | some q =>
        obtain ⟨v, a2⟩ := q
        rw [ha] at hv
        simp only [Option.some.injEq, Prod.mk.injEq] at hv
        obtain ⟨rfl, rfl⟩ := hv
        obtain ⟨v', w1, k1, k2, k3⟩ := copy_sound (ty2 := ty2) (ty := type) he (h s (by simp [Op.operands, Call.operands])) (h x (by simp [Op.operands, Call.operands])) ha
        refine ⟨β, w1, v', ?_, Le.refl β, k2, k3⟩
        simp [execOp, resolve, invoke, builtin, k1]
    · cases hv
  · cases hv

/-- The operands that may be known. -/
theorem ops_of {act : Act} (ht : ∀ x, x ∈ o.op.operands → ∀ k, x = .tmp k → VR β (eval t x) (act.eval x)) (hok : (o.op.operands.toList.all okOpnd) = true) : Ops β t act.eval o.op := by
  intro x hx
  simp only [List.all_eq_true] at hok
  have hk := hok x (by simpa using hx)
  cases x with
  | tmp k => exact ht _ hx k rfl
  | const v => exact .flat hk
  | global g => cases hk
  | func f => exact .func (.func f) rfl (by simp) rfl (by simp)

theorem float_sound {a : AW} {w : World} (he : EmbR P w0 β a w) (h : Ops β t ρ o.op) {v : Value} (hv : evFloat P t o a = some v) :
    ∃ v', (execOp ρ o).run P w = .ok (.value v') w ∧ VR β v v' := by
  unfold evFloat at hv
  split at hv
  · exact load_sound he h hv
  · obtain ⟨v', k1, k2⟩ := pure_sound h hv
    exact ⟨v', k1 w, k2⟩

theorem op_sound {a a1 : AW} {w : World} {act : Act} (he : Emb P w0 β a w) (ht : ∀ x, x ∈ o.op.operands → ∀ k, x = .tmp k → VR β (eval t x) (act.eval x)) {r : AN} (hv : evOp P t o a = some (r, a1)) :
    OpRes P w0 β a1 ((execOp act.eval o).run P w) r := by
  unfold evOp at hv
  split at hv
  · rename_i hok
    have h := ops_of ht hok
    split at hv
    · split at hv
      · rename_i v hf
        simp only [Option.some.injEq, Prod.mk.injEq] at hv
        obtain ⟨rfl, rfl⟩ := hv
        obtain ⟨v', k1, k2⟩ := float_sound he.toEmbR h hf
        exact ⟨β, w, v', k1, Le.refl β, he, k2⟩
      · cases hv
    · exact mem_sound he h hv
  · cases hv
end
end Ev
end Go.Proofs.YtmfpjdbgdmmjkaaDoor
namespace Go.Proofs.YtmfpjdbgdmmjkaaDoor
namespace Ev
open Go.RowKit

/-- What a call of the evaluator's says of the model's. -/
def CallOk (P : Program) (w0 : Base) (call : CallF) : Prop :=
  ∀ β a w f args args' v a1, Emb P w0 β a w → VL β args.toList args'.toList → call f args a = some (v, a1) →
    Calls P f args' w fun e w1 => ∃ β1 v', e = .returned v' ∧ Le β β1 ∧ Emb P w0 β1 a1 w1 ∧ VR β1 v v'

section
variable {P : Program} {w0 : Base} {β : Pl} {call : CallF} {ops : Array Oper}

theorem getD_undef {l : Array Value} {k : Nat} {v : Value} (h : l.getD k undef = v) (hv : v ≠ undef) : l[k]? = some v := by
  rw [Array.getD_eq_getD_getElem?] at h
  cases hk : l[k]? with
  | none => rw [hk] at h; exact absurd h.symm hv
  | some x => rw [hk] at h; simpa using h

theorem guard_sound {t : Tr Value} {act : Act} {o : Oper} (ht : ∀ k, k ∈ o.looksAt ops → VR β ((t.get k).getD undef) (act.tmps.getD k undef)) {b : Bool} (h : guardYes ops t o = some b) :
    Region.wanted o (yielded ops act.tmps) = b := by
  unfold guardYes at h
  unfold Region.wanted
  cases hg : o.guard with
  | none => rw [hg] at h; simp only [Option.some.injEq] at h; exact h
  | some jw =>
    obtain ⟨j, want⟩ := jw
    rw [hg] at h
    simp only at h ⊢
    cases hd : (ops[j]?).bind (·.dst) with
    | none => rw [hd] at h; cases h
    | some d =>
      rw [hd] at h
      simp only at h
      split at h
      · rename_i c hc
        have hr := ht d (by
          unfold Oper.looksAt
          rw [hg]
          simp [hd])
        rw [hc] at hr
        have hr := hr.bool
        have hk := getD_undef hr (by simp [undef])
        injection h with h
        subst h
        unfold yielded
        rw [hd]
        simp only [Option.bind_some, hk]
        cases c <;> cases want <;> rfl
      · rename_i cs hc
        have hr := ht d (by
          unfold Oper.looksAt
          rw [hg]
          simp [hd])
        rw [hc] at hr
        injection h with h
        subst h
        obtain ⟨cs', hk⟩ : ∃ cs', act.tmps.getD d undef = .tuple cs' := by
          simp only [Option.getD_some] at hr
          generalize act.tmps.getD d undef = x at hr
          cases hr with
          | flat _ => exact ⟨_, rfl⟩
          | tuple _ _ => exact ⟨_, rfl⟩
        unfold yielded
        rw [hd]
        simp only [Option.bind_some]
        rw [Array.getD_eq_getD_getElem?] at hk
        cases hx : act.tmps[d]? with
        | none => cases want <;> rfl
        | some x =>
          rw [hx] at hk
          simp only [Option.getD_some] at hk
          subst hk
          cases want <;> rfl
      · cases h

theorem stepV_sound (hcall : CallOk P w0 call) {a a1 : AW} {w : World} {act : Act} {t : Tr Value} {o : Oper} {i : Nat} (hi : ops[i]? = some o) (he : Emb P w0 β a w)
    (ht : ∀ k, k ∈ o.looksAt ops → VR β ((t.get k).getD undef) (act.tmps.getD k undef)) {v : Value} (hv : stepV P call ops t o a = some (v, a1)) {Q : Exit → Act → World → Prop} {K : Act → World → Prop}
    (hK : ∀ β1 v' w1, Le β β1 → Emb P w0 β1 a1 w1 → VR β1 v v' → K (act.put o.dst v') w1) : wpOp P ops Q i K act w := by
  unfold wpOp
  simp only [hi]
  unfold stepV at hv
  cases hg : guardYes ops t o with
  | none => rw [hg] at hv; cases hv
  | some b =>
    rw [guard_sound ht hg]
    rw [hg] at hv
    cases b with
    | false =>
      simp only [Option.some.injEq, Prod.mk.injEq] at hv
      obtain ⟨rfl, rfl⟩ := hv
      simp only [Bool.false_eq_true, if_false]
      exact hK β undef w (Le.refl β) he (.flat rfl)
    | true =>
      simp only at hv
      simp only [if_true]
      refine .inl ?_
      unfold Oper.wp
      cases hop : evOp P t o a with
      | none => rw [hop] at hv; cases hv
      | some q =>
        obtain ⟨r, a2⟩ := q
        rw [hop] at hv
        have hs := op_sound (act := act) he (fun x hx k hk => by
          subst hk
          refine ht k ?_
          unfold Oper.looksAt
          exact List.mem_append_left _ (List.mem_filterMap.2 ⟨.tmp k, by simpa using hx, rfl⟩)) hop
        cases r with
        | value u =>
          simp only [Option.some.injEq, Prod.mk.injEq] at hv
          obtain ⟨rfl, rfl⟩ := hv
          obtain ⟨β1, w1, v', k1, k2, k3, k4⟩ := hs
          rw [k1]
          exact hK β1 v' w1 k2 k3 k4
        | skip =>
          simp only [Option.some.injEq, Prod.mk.injEq] at hv
          obtain ⟨rfl, rfl⟩ := hv
          obtain ⟨β1, w1, k1, k2, k3⟩ := hs
          rw [k1]
          exact hK β1 undef w1 k2 k3 (.flat rfl)
        | enter f args =>
          obtain ⟨β1, w1, args', k1, k2, k3, k4⟩ := hs
          rw [k1]
          simp only [Oper.upon]
          refine (hcall β1 a2 w1 f args args' v a1 k3 k4 hv).mono ?_
          rintro e w2 ⟨β2, v', rfl, m1, m2, m3⟩
          exact hK β2 v' w2 (k2.trans m1) m2 m3

/-- The slots stand to each other. -/
structure Slots (β : Pl) (s : St) (act : Act) : Prop where
  rel : ∀ k, VR β ((s.tmps.get k).getD undef) (act.tmps.getD k undef)
  size : s.n = act.tmps.size

theorem Slots.mono {β1 : Pl} {s : St} {act : Act} (h : Slots β s act) (hle : Le β β1) : Slots β1 s act := ⟨fun k => (h.rel k).mono hle, h.size⟩

theorem put_get {s s' : St} {dst : Option Tmp} {v : Value} {a : AW} (h : s.put dst v a = some s') : s'.w = a ∧ s'.n = s.n ∧ (∀ d, dst = some d → d < s.n) ∧ ∀ k, s'.tmps.get k = if dst = some k then some v else s.tmps.get k := by
  unfold St.put at h
  cases dst with
  | none => simp only [Option.some.injEq] at h; subst h; exact ⟨rfl, rfl, by simp, fun k => by simp⟩
  | some d =>
    simp only at h
    split at h
    · rename_i hd
      split at h
      · rename_i t ht
        injection h with h; subst h
        refine ⟨rfl, rfl, fun d' hd' => by injection hd' with hd'; subst hd'; exact hd, fun k => ?_⟩
        rw [Tr.get_put ht]
        by_cases hk : k = d
        · simp [hk]
        · rw [if_neg hk, if_neg (by simpa using Ne.symm hk)]
      · cases h
    · cases h

theorem act_put_getD (act : Act) (dst : Option Tmp) (v : Value) (k : Nat) : (act.put dst v).tmps.getD k undef = if dst = some k ∧ k < act.tmps.size then v else act.tmps.getD k undef := by
  cases dst with
  | none => simp [Act.put]
  | some d =>
    simp only [Act.put, Array.getD_eq_getD_getElem?, Array.getElem?_setIfInBounds]
    by_cases hd : d = k
    · subst hd
      by_cases hs : d < act.tmps.size
      · simp [hs]
      · simp [hs]
    · rw [if_neg hd, if_neg (by simp [hd])]

theorem act_put_size (act : Act) (dst : Option Tmp) (v : Value) : (act.put dst v).tmps.size = act.tmps.size := by cases dst <;> simp [Act.put]
theorem act_put_defers (act : Act) (dst : Option Tmp) (v : Value) : (act.put dst v).defers = act.defers := by cases dst <;> rfl

theorem Slots.put {s s' : St} {act : Act} {dst : Option Tmp} {v v' : Value} {a : AW} (h : Slots β s act) (hp : s.put dst v a = some s') (hv : VR β v v') : Slots β s' (act.put dst v') := by
  obtain ⟨_, h2, h3, h4⟩ := put_get hp
  refine ⟨fun k => ?_, by rw [h2, act_put_size]; exact h.size⟩
  rw [h4, act_put_getD]
  by_cases hd : dst = some k
  · have := h3 k hd
    rw [if_pos hd, if_pos ⟨hd, h.size ▸ this⟩]
    exact hv
  · rw [if_neg hd, if_neg (by simp [hd])]
    exact h.rel k

theorem evOps_sound (hcall : CallOk P w0 call) {Q : Exit → Act → World → Prop} : ∀ (l : List Oper) (i : Nat) (β : Pl) (s s' : St) (act : Act) (w : World), (∀ j o, l[j]? = some o → ops[i + j]? = some o) →
    Emb P w0 β s.w w → Slots β s act → evOps P call ops l s = some s' →
    (∀ β1 act1 w1, Le β β1 → Emb P w0 β1 s'.w w1 → Slots β1 s' act1 → act1.defers = act.defers → Q .normal act1 w1) → wpOps P ops Q (List.range' i l.length) act w := by
  intro l
  induction l with
  | nil =>
    intro i β s s' act w _ he hs h hQ
    simp only [evOps, Option.some.injEq] at h
    subst h
    exact hQ β act w (Le.refl β) he hs rfl
  | cons o r ih =>
    intro i β s s' act w hl he hs h hQ
    simp only [evOps] at h
    cases hst : step P call ops o s with
    | none => rw [hst] at h; cases h
    | some s1 =>
      rw [hst] at h
      unfold step at hst
      cases hv : stepV P call ops s.tmps o s.w with
      | none => rw [hv] at hst; cases hst
      | some q =>
        obtain ⟨v, a1⟩ := q
        rw [hv] at hst
        simp only at hst
        rw [List.length_cons, List.range'_succ, wpOps_cons]
        refine stepV_sound hcall (by simpa using hl 0 o rfl) he (fun k _ => hs.rel k) hv ?_
        intro β1 v' w1 h1 h2 h3
        refine ih (i + 1) β1 s1 s' _ w1 (fun j o' ho => ?_) ?_ ((hs.mono h1).put hst h3) h ?_
        · have := hl (j + 1) o' (by simpa using ho)
          rwa [show i + 1 + j = i + (j + 1) by omega]
        · rw [(put_get hst).1]; exact h2
        · intro β2 act2 w2 k1 k2 k3 k4
          exact hQ β2 act2 w2 (h1.trans k1) k2 k3 (by rw [k4, act_put_defers])
end
end Ev
end Go.Proofs.YtmfpjdbgdmmjkaaDoor
